/-
  Contract of the reference's SRun.
-/
import Derived.Test.YtiejgmkbhjnceaaRtaRef
namespace Go.Proofs.Ytiejgmkbhjnceaa
open Go.RowKit
set_option linter.unusedVariables false

theorem unitB_none {M : List Tk} {now : Nat} (h : ∀ k, ¬ Busy M (didL M now) now k) : whoL M now = -1 ∧ firstL M (now + 1) = firstL M now ∧ didL M (now + 1) = didL M now := by
  obtain ⟨e1, e2⟩ := pick_none h
  exact ⟨who_none e1, first_none e1, by rw [didL, e2]⟩
theorem unitB_some {M : List Tk} (hM : Good M) {now k : Nat} (hb : Busy M (didL M now) now k) (hn : ∀ j, j < k → ¬ Busy M (didL M now) now j) :
    ∃ t d, M[k]? = some t ∧ (didL M now)[k]? = some d ∧ d ≤ now ∧ whoL M now = k ∧ didL M (now + 1) = (didL M now).set k (d + 1) ∧ firstL M (now + 1) = if t.c = d + 1 then (firstL M now).set k (now + 1) else firstL M now := by
  obtain ⟨t, d, ht, hd, hlt⟩ := hb
  obtain ⟨e1, e2⟩ := pick_some ht hd hlt hn
  have e3 : didL M (now + 1) = (didL M now).set k (d + 1) := by rw [didL, e2]
  have hdk := didK_some (L := M) (now := now) (List.getElem?_eq_some_iff.1 ht).1
  rw [hd] at hdk
  injection hdk with hdk
  have hle := didK_size hM ht now
  have hdk2 : didK M k (now + 1) = d + 1 := by
    unfold didK
    rw [e3, List.getD_eq_getElem?_getD, List.getElem?_set_self (List.getElem?_eq_some_iff.1 hd).1]; rfl
  refine ⟨t, d, ht, hd, by omega, who_some e1, e3, ?_⟩
  rw [first_some e1, ht, hdk2]
  simp
structure RefV (w wr : World) (n g6 g7 : Nat) (F D : List Int) (v9 : Value) (P : List Int) : Prop where
  b6 : w.heap.size ≤ g6
  b7 : g6 < g7
  lt : g7 < wr.heap.size
  o6 : Ow (Value.int .i64) wr w.heap.size 3 (.slice (some ⟨g6, 0, none⟩) n n) F
  o7 : Ow (Value.int .i64) wr w.heap.size 3 (.slice (some ⟨g7, 0, none⟩) n n) D
  o9 : Ow (Value.int .i64) wr (g7 + 1) 3 v9 P
  bel : Below w.heap.size w wr
section
variable {w wr w' : World} {n g6 g7 : Nat} {F D P P' : List Int} {v9 v' : Value}
theorem RefV.alloc (h : RefV w wr n g6 g7 F D v9 P) (o : Obj) : RefV w (wr.alloc o) n g6 g7 F D v9 P :=
  ⟨h.b6, h.b7, by have := h.lt; simp; omega, h.o6.alloc o, h.o7.alloc o, h.o9.alloc o, h.bel.alloc h.bel.size o⟩
theorem RefV.drewN (h : RefV w wr n g6 g7 F D v9 P) (q : Nat) : RefV w (wr.drewN q) n g6 g7 F D v9 P :=
  ⟨h.b6, h.b7, h.lt, h.o6, h.o7, h.o9, bthen h.bel (below_draws ⟨q, rfl⟩)⟩
theorem RefV.put6 (h : RefV w wr n g6 g7 F D v9 P) (k : Nat) (x : Int) : RefV w (wr.setCell ⟨g6, k, none⟩ (.int .i64 x)) n g6 g7 (F.set k x) D v9 P := by
  have a1 := h.b6
  have a2 := h.b7
  have hg := grownBy_setCell wr ⟨g6, k, none⟩ (.int .i64 x)
  exact ⟨h.b6, h.b7, by have := h.lt; simp [World.setCell]; omega, h.o6.put k x, h.o7.keep hg (own_far (by simp only; omega)), h.o9.grown hg (by simp only; omega), below_grown h.bel hg (by omega) h.bel.size⟩
theorem RefV.put7 (h : RefV w wr n g6 g7 F D v9 P) (k : Nat) (x : Int) : RefV w (wr.setCell ⟨g7, k, none⟩ (.int .i64 x)) n g6 g7 F (D.set k x) v9 P := by
  have a1 := h.b6
  have a2 := h.b7
  have hg := grownBy_setCell wr ⟨g7, k, none⟩ (.int .i64 x)
  exact ⟨h.b6, h.b7, by have := h.lt; simp [World.setCell]; omega, h.o6.keep hg (own_far (by simp only; omega)), h.o7.put k x, h.o9.grown hg (by simp only; omega), below_grown h.bel hg (by show w.heap.size ≤ g7; omega) h.bel.size⟩
theorem RefV.grow (h : RefV w wr n g6 g7 F D v9 P) (ho : Ow (Value.int .i64) w' (g7 + 1) 3 v' P') (hm : Moves wr w' v9 v') : RefV w w' n g6 g7 F D v' P' := by
  have a1 := h.b6
  have a2 := h.b7
  have hbk := h.o9.block
  have hne : ∀ g, g ≤ g7 → ∀ k, (Value.slice (some ⟨g, 0, none⟩) n n).ownBlock = some k → v9.ownBlock ≠ some k := fun g hg k hk e => by
    have := hbk k e
    simp [Value.ownBlock] at hk
    omega
  exact ⟨h.b6, h.b7, Nat.lt_of_lt_of_le h.lt hm.1.size, h.o6.moves hm (hne g6 (by omega)), h.o7.moves hm (hne g7 (Nat.le_refl _)), ho, hm.below h.bel h.bel.size (fun k hk => by have := hbk k hk; omega)⟩
end
/-- The search from behind: the first one found so far, above j. -/
def SoFar (M : List Tk) (D : List Nat) (now : Nat) (j : Int) (x : Int) : Prop :=
  (x = -1 ∧ ∀ i : Nat, j < i → ¬ Busy M D now i) ∨ ∃ q : Nat, x = q ∧ q < M.length ∧ Busy M D now q ∧ ∀ i : Nat, j < i → i < q → ¬ Busy M D now i
theorem SoFar.start (M : List Tk) (D : List Nat) (now : Nat) : SoFar M D now ((M.length : Int) - 1) (-1) := by
  refine .inl ⟨rfl, fun i hi ⟨t, d, ht, _⟩ => ?_⟩
  have := (List.getElem?_eq_some_iff.1 ht).1
  omega
theorem SoFar.yes {M : List Tk} {D : List Nat} {now j : Nat} (h : Busy M D now j) : SoFar M D now ((j : Int) - 1) j := by
  have hl : j < M.length := by obtain ⟨t, d, ht, _⟩ := h; exact (List.getElem?_eq_some_iff.1 ht).1
  exact .inr ⟨j, rfl, hl, h, fun i h1 h2 => by omega⟩
theorem SoFar.no {M : List Tk} {D : List Nat} {now j : Nat} {x : Int} (hs : SoFar M D now j x) (h : ¬ Busy M D now j) : SoFar M D now ((j : Int) - 1) x := by
  have hx : ∀ i : Nat, (j : Int) - 1 < i → i = j ∨ (j : Int) < i := fun i hi => by omega
  rcases hs with ⟨rfl, hn⟩ | ⟨q, rfl, hq, hb, hn⟩
  · refine .inl ⟨rfl, fun i hi => ?_⟩
    rcases hx i hi with rfl | h2
    · exact h
    · exact hn i h2
  · refine .inr ⟨q, rfl, hq, hb, fun i hi hiq => ?_⟩
    rcases hx i hi with rfl | h2
    · exact h
    · exact hn i h2 hiq
theorem busy_iff {M : List Tk} (hM : Good M) {D : List Nat} {now j p c d : Nat} (hk : M[j]? = some ⟨p, c⟩) (hd : D[j]? = some d) : Busy M D now j ↔ d < (now / p + 1) * c := by
  have hp := hM.at_ hk
  simp only at hp
  have hu := up_succ (n := now) (show 0 < p by omega)
  constructor
  · rintro ⟨t, d', ht, hd', hlt⟩
    rw [hk] at ht
    rw [hd] at hd'
    cases ht
    cases hd'
    simp only at hlt
    rwa [hu] at hlt
  · intro h
    exact ⟨_, d, hk, hd, by simp only; rw [hu]; exact h⟩

set_option maxRecDepth 20000 in
set_option maxHeartbeats 3200000 in
theorem SRun_any (A : Option Addr) (n c : Nat) (M : List Tk) (hM : Good M) (N : Nat) (hN : N ≤ 400) (w : World) (h : RdG tkC 2 w A n M) (hc : n ≤ c) :
    Calls Try.prog 14 #[.slice A n c, .int .i64 (N : Int)] w fun e w' => ∃ B C d m, e = .returned (.tuple #[.slice B n d, .slice C N m]) ∧ Rd w' 1 B n ((firstL M N).map (Value.int .i64)) ∧ Rd w' 1 C N ((ranL M N).map (Value.int .i64)) ∧ Below w.heap.size w w' := by
  have Hl := Lib.hid (RdG.len tkK h)
  have HM := Lib.hid hM
  have hn16 : n ≤ 16 := by have := hM.len; rw [Hl.out] at this; exact this
  have hmkn : ∀ W : World, (Instr.makeSlice 23 (.int .i64 n) (.int .i64 n)).run Try.prog W = .ok (.slice (some ⟨W.heap.size, 0, none⟩) n n) (W.alloc (.cells (madeCells #[.int .i64 0] n) 3)) := run_mk elInt rfl .i64 .i64 n n (Nat.le_refl _) (by omega) (by omega)
  clear hM
  have S0 : Hid (RefV w ((w.alloc (.cells (madeCells #[.int .i64 0] n) 3)).alloc (.cells (madeCells #[.int .i64 0] n) 3)) n w.heap.size (w.heap.size + 1) (List.replicate n 0) (List.replicate n 0) (.slice none 0 0) []) := by
    have q6 := Ow.make (Value.int .i64) 0 w 3 (base := w.heap.size) n (by unfold maxLen; omega) (Nat.le_refl _)
    have q7 := Ow.make (Value.int .i64) 0 (w.alloc (.cells (madeCells #[.int .i64 0] n) 3)) 3 (base := w.heap.size) n (by unfold maxLen; omega) (by simp)
    rw [show (w.alloc (.cells (madeCells #[.int .i64 0] n) 3)).heap.size = w.heap.size + 1 by simp] at q7
    exact ⟨Nat.le_refl _, by omega, by simp, q6.alloc _, q7, Ow.nil _ _ _ _, ((Below.refl _ _).alloc (Nat.le_refl _) _).alloc (by simp) _⟩
  go_enter Try.func14, Try.ntmps14
  go_upto_region 3 with fail
  replace S0 : Hid (RefV w ((w.alloc (.cells (madeCells #[.int .i64 0] n) 3)).alloc (.cells (madeCells #[.int .i64 0] n) 3)) n w.heap.size (w.heap.size + 1) (List.replicate n 0) (List.replicate n 0) (.slice none 0 0) []) := S0
  clear hmkn
  generalize (w.alloc (.cells (madeCells #[.int .i64 0] n) 3)).alloc (.cells (madeCells #[.int .i64 0] n) 3) = w1 at *
  generalize w.heap.size + 1 = g7 at *
  obtain ⟨g6, hg6⟩ : ∃ g6, g6 = w.heap.size := ⟨_, rfl⟩
  rw [← hg6] at S0 ⊢
  clear hg6
  go_wp2
  go_loopw [21] (fun i wr => ∃ k : Nat, k ≤ n ∧ i = .int .i64 k ∧ Hid (RefV w wr n g6 g7 ((List.replicate n (-1)).take k ++ (List.replicate n 0).drop k) (List.replicate n 0) (.slice none 0 0) [])) (fun i _ => n - (intOf i).toNat)
  case atStart => exact ⟨0, Nat.zero_le _, rfl, by simpa using S0⟩
  case round =>
    obtain ⟨k, hk, rfl, HS⟩ := hrel
    clear S0
    by_cases hlt : k < n
    · obtain ⟨hput, hcur⟩ := mid_put (S := List.replicate n (-1 : Int)) (T := List.replicate n 0) (k := k) (by rw [List.getElem?_replicate, if_pos hlt]) (by rw [List.getElem?_replicate, if_pos hlt])
      have c6 := HS.out.o6.cellAt hcur
      have f6 := HS.out.o6.freeAt k
      have HS2 := Lib.hid (HS.out.put6 k (-1))
      rw [hput] at HS2
      clear hput hcur HS
      go_wp2
      go_roundw
      case rel => exact ⟨k + 1, by omega, by go_num, HS2⟩
      case measure => simp [intOf] <;> omega
    · obtain rfl : k = n := by omega
      have HS0 : Hid (RefV w wr k g6 g7 (firstL M 0) (natL (didL M 0)) (.slice none 0 0) (ranL M 0)) := by
        have := HS.out
        rw [List.take_of_length_le (by simp), List.drop_eq_nil_of_le (by simp), List.append_nil] at this
        show RefV _ _ _ _ _ _ _ _ _
        rw [firstL, didL, Hl.out, natL_zeros]
        exact this
      clear HS
      go_wp2
      go_loopw [9, 10] (fun v9 i wr => ∃ now : Nat, now ≤ N ∧ i = .int .i64 now ∧ Hid (RefV w wr k g6 g7 (firstL M now) (natL (didL M now)) v9 (ranL M now))) (fun _ i _ => N - (intOf i).toNat)
      case atStart => exact ⟨0, Nat.zero_le _, rfl, HS0⟩
      case round =>
        obtain ⟨now, hnow, rfl, HS⟩ := hrel
        clear HS0
        by_cases hlt2 : now < N
        · go_wp2
          go_loopw [11, 12] (fun x j wi => ∃ (y z : Int), x = .int .i64 y ∧ j = .int .i64 z ∧ -1 ≤ z ∧ z < k ∧ -1 ≤ y ∧ y < k ∧ Hid (SoFar M (didL M now) now z y) ∧ ∃ q, wi = wr.drewN q) (fun _ j _ => ((intOf j) + 1).toNat)
          case atStart =>
            have := SoFar.start M (didL M now) now
            rw [Hl.out] at this
            exact ⟨-1, (k : Int) - 1, rfl, by go_num, by omega, by omega, by omega, by omega, this, 0, rfl⟩
          case round =>
            obtain ⟨y, z, rfl, rfl, z1, z2, y1, y2, HF, q, rfl⟩ := hrel
            by_cases hz : 0 ≤ z
            · obtain ⟨j, rfl⟩ := Int.eq_ofNat_of_zero_le hz
              have hjk : j < k := by omega
              obtain ⟨ad, p, t, rfl, hx, hc0, hc1⟩ := tk_at (h.below HS.out.bel) hjk
              have hd := didK_some (L := M) (now := now) (List.getElem?_eq_some_iff.1 hx).1
              have hdn := didK_size HM.out hx now
              have c7 := HS.out.o7.cellAt (natL_at hd)
              obtain ⟨h1, h2, h3⟩ := HM.out.at_ hx
              simp only at h1 h2 h3
              have HB := Lib.hid (busy_iff (now := now) HM.out hx hd)
              have hdiv : (now : Int) / (p : Int) = ((now / p : Nat) : Int) := (Int.natCast_ediv _ _).symm
              have hmul : (((now / p : Nat) : Int) + 1) * (t : Int) = (((now / p + 1) * t : Nat) : Int) := by simp
              have hml := Nat.div_le_self now p
              have hY := one_size (t := ⟨p, t⟩) ⟨h1, h2, h3⟩ (now + 1)
              simp only at hY
              rw [up_succ (show 0 < p by omega)] at hY
              clear hx hd
              generalize (now / p + 1) * t = Y at *
              generalize now / p = m at *
              generalize didK M j now = d at *
              by_cases hb : d < Y
              · have hbd : decide (d < Y) = true := decide_eq_true hb
                have HF2 := Lib.hid (SoFar.yes (HB.out.2 hb))
                go_wp2
                go_quiet (fail)
                go_wp2
                go_roundw
                case rel => exact ⟨j, (j : Int) - 1, rfl, by go_num, by omega, by omega, by omega, by omega, HF2, _, rfl⟩
                case measure => simp [intOf] <;> omega
              · have hbd : decide (d < Y) = false := decide_eq_false hb
                have HF2 := Lib.hid (SoFar.no HF.out (fun g => hb (HB.out.1 g)))
                go_wp2
                go_quiet (fail)
                go_wp2
                go_roundw
                case rel => exact ⟨y, (j : Int) - 1, rfl, by go_num, by omega, by omega, by omega, by omega, HF2, _, rfl⟩
                case measure => simp [intOf] <;> omega
            · obtain rfl : z = -1 := by omega
              replace HS := Lib.hid (HS.out.drewN q)
              generalize wr.drewN q = w5 at *
              have hlt7 := HS.out.lt
              have hrl := ran_length M now
              rcases HF.out with ⟨rfl, hn⟩ | ⟨x, rfl, hq, hb, hn⟩
              · obtain ⟨e1, e2, e3⟩ := unitB_none (fun i => hn i (by omega))
                have E1 : Hid (ranL M now ++ [-1] = ranL M (now + 1)) := by show _ = _; rw [ran_succ, e1]
                rw [← e2, ← e3] at HS
                clear HF hn e1 e2 e3
                go_wp2_with (at_builtin; go_must (refine wpList_apM (Value.int .i64) _ elInt rfl rfl (one_int .i64) (g7 + 1) u9 (ranL M now) rfl (HS.out.alloc (.cells #[.int .i64 (-1)] 3)).o9 _ 1 1 [-1] rfl (Rd.oneM (Value.int .i64) w5 (-1) 3) (by simp; omega) (by rw [hrl]; omega) (by decide) ?_; intro v' w' ho hm; rw [E1.out] at ho; have HS2 := Lib.hid ((HS.out.alloc (.cells #[.int .i64 (-1)] 3)).grow ho hm); clear ho hm HS))
                go_roundw
                case rel => exact ⟨now + 1, by omega, by go_num, HS2⟩
                case measure => simp [intOf] <;> omega
              · obtain ⟨⟨p, t⟩, d, ht, hd, hdn, e1, e2, e3⟩ := unitB_some HM.out hb (fun i hi => hn i (by omega) hi)
                have E1 : Hid (ranL M now ++ [(x : Int)] = ranL M (now + 1)) := by show _ = _; rw [ran_succ, e1]
                have E2 := Lib.hid e2
                have E3 := Lib.hid e3
                have Ht := Lib.hid ht
                have Hd := Lib.hid hd
                have hxk : x < k := by rw [← Hl.out]; exact hq
                obtain ⟨h1, h2, h3⟩ := HM.out.at_ ht
                simp only at h1 h2 h3
                clear HF hn hb e1 e2 e3 ht hd hq
                go_wp2_with (at_builtin; go_must (refine wpList_apM (Value.int .i64) _ elInt rfl rfl (one_int .i64) (g7 + 1) u9 (ranL M now) rfl (HS.out.alloc (.cells #[.int .i64 (x : Int)] 3)).o9 _ 1 1 [(x : Int)] rfl (Rd.oneM (Value.int .i64) w5 (x : Int) 3) (by simp; omega) (by rw [hrl]; omega) (by decide) ?_; intro v' w' ho hm; rw [E1.out] at ho; have HS2 := (HS.out.alloc (.cells #[.int .i64 (x : Int)] 3)).grow ho hm; have c7 := HS2.o7.cellAt (natL_at Hd.out); have f7 := HS2.o7.freeAt x; have HS3 := Lib.hid (HS2.put7 x ((d : Int) + 1)); rw [show (natL (didL M now)).set x ((d : Int) + 1) = natL (didL M (now + 1)) by rw [E2.out, ← natL_set]; rfl] at HS3; clear ho hm HS HS2))
                clear c7 f7
                replace HS3 : Hid (RefV w (w'.setCell ⟨g7, x, none⟩ (.int .i64 ((d : Int) + 1))) k g6 g7 (firstL M now) (natL (didL M (now + 1))) v' (ranL M (now + 1))) := HS3
                generalize w'.setCell ⟨g7, x, none⟩ (.int .i64 ((d : Int) + 1)) = w8 at *
                have hkd : (didL M (now + 1))[x]? = some (d + 1) := by rw [E2.out, List.getElem?_set_self (List.getElem?_eq_some_iff.1 Hd.out).1]
                have c11 : w8.cell? ⟨g7, x, none⟩ = some (.int .i64 ((d : Int) + 1)) := HS3.out.o7.cellAt (natL_at hkd)
                obtain ⟨ad, tp', tc', rfl, hx, hc0, hc1⟩ := tk_at (h.below HS3.out.bel) hxk
                rw [Ht.out] at hx
                cases hx
                clear hkd hc0
                by_cases heq : t = d + 1
                · rw [if_pos heq] at E3
                  have hcmp : (((d : Int) + 1) == (t : Int)) = true := by simp; omega
                  obtain ⟨z, hz⟩ : ∃ z, (firstL M now)[x]? = some z := ⟨_, List.getElem?_eq_getElem (show x < (firstL M now).length by rw [first_length, Hl.out]; exact hxk)⟩
                  have c8 := HS3.out.o6.cellAt hz
                  have f8 := HS3.out.o6.freeAt x
                  have HS4 := Lib.hid (fun q => (HS3.out.drewN q).put6 x ((now : Int) + 1))
                  rw [← E3.out] at HS4
                  clear heq hz HS3
                  go_wp2
                  go_quiet (fail)
                  go_wp2
                  go_roundw
                  case rel => exact ⟨now + 1, by omega, by go_num, HS4.out _⟩
                  case measure => simp [intOf] <;> omega
                · have hne : (((d : Int) + 1) == (t : Int)) = false := by simp; omega
                  rw [if_neg heq] at E3
                  rw [← E3.out] at HS3
                  clear heq
                  go_wp2
                  go_quiet (fail)
                  go_wp2
                  go_roundw
                  case rel => exact ⟨now + 1, by omega, by go_num, HS3.out.drewN _⟩
                  case measure => simp [intOf] <;> omega
        · obtain rfl : now = N := by omega
          obtain ⟨C, m, rfl, hm, -, r9⟩ := HS.out.o9.formN (ran_length M now)
          have H6 := Lib.hid HS.out.o6.rd
          have H9 := Lib.hid r9
          have hb := HS.out.bel
          clear HS r9
          go_wp2
          go_ret2
          exact ⟨_, _, _, _, rfl, H6.out, H9.out, hb⟩
end Go.Proofs.Ytiejgmkbhjnceaa
