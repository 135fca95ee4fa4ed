/-
  Contract of the reference's RPlay, for every list of operations.
-/
import Derived.Test.YtlanmehbcpgoaaaEvqPlay
namespace Go.Proofs.Ytlanmehbcpgoaaa
open Go.RowKit
set_option linter.unusedVariables false

/-- Two slices of the call's own lie apart. -/
def Apart2 (u v : Value) : Prop := ∀ k, u.ownBlock = some k → v.ownBlock ≠ some k
theorem Apart2.symm {u v : Value} (h : Apart2 u v) : Apart2 v u := fun k h1 h2 => h k h2 h1
theorem Apart2.nil (u : Value) (c : Nat) : Apart2 u (.slice none 0 c) := fun k _ h2 => by simp [Value.ownBlock] at h2
theorem Apart2.moves {w w' : World} {base : Nat} {e : TypeId} {u v v' : Value} {l : List Int} (h : Apart2 u v) (hm : Moves w w' v v') (hu : Ow (Value.int .i64) w base e u l) : Apart2 u v' := by
  intro k h1 h2
  rcases hm.2 with e | e
  · exact h k h1 (by rw [← e]; exact h2)
  · have := e k h2
    have := (World.ownsRow.lt hu k h1).2
    omega
/-- The state between rounds: the result's array, and three slices: all handed in, all taken, the errors. -/
structure RSt (w wr : World) (L T E : List Int) (u5 u6 u7 : Value) : Prop where
  res : Box wr w.heap.size 25 [.int .i64 0, .int .i64 0]
  o5 : Ow (Value.int .i64) wr (w.heap.size + 1) 3 u5 L
  o6 : Ow (Value.int .i64) wr (w.heap.size + 1) 3 u6 T
  o7 : Ow (Value.int .i64) wr (w.heap.size + 1) 29 u7 E
  a56 : Apart2 u5 u6
  a57 : Apart2 u5 u7
  a67 : Apart2 u6 u7
  bel : Below w.heap.size w wr
section
variable {w wr w' : World} {L T E l : List Int} {u5 u6 u7 v : Value} {o : Obj}
theorem RSt.alloc (h : RSt w wr L T E u5 u6 u7) (o : Obj) : RSt w (wr.alloc o) L T E u5 u6 u7 :=
  ⟨h.res.alloc o, h.o5.alloc o, h.o6.alloc o, h.o7.alloc o, h.a56, h.a57, h.a67, h.bel.alloc (by have := h.res.lt; omega) o⟩
theorem RSt.put5 (h : RSt w wr L T E u5 u6 u7) (ho : Ow (Value.int .i64) w' (w.heap.size + 1) 3 v l) (hm : Moves wr w' u5 v) : RSt w w' l T E v u6 u7 :=
  ⟨h.res.moves hm (fun k hk => by have := h.o5.block k hk; omega), ho, h.o6.moves hm (fun k h1 h2 => h.a56 k h2 h1), h.o7.moves hm (fun k h1 h2 => h.a57 k h2 h1),
    (h.a56.symm.moves hm h.o6).symm, (h.a57.symm.moves hm h.o7).symm, h.a67, hm.below h.bel (by have := h.res.lt; omega) (fun k hk => by have := h.o5.block k hk; omega)⟩
theorem RSt.put6 (h : RSt w wr L T E u5 u6 u7) (ho : Ow (Value.int .i64) w' (w.heap.size + 1) 3 v l) (hm : Moves wr w' u6 v) : RSt w w' L l E u5 v u7 :=
  ⟨h.res.moves hm (fun k hk => by have := h.o6.block k hk; omega), h.o5.moves hm (fun k h1 h2 => h.a56 k h1 h2), ho, h.o7.moves hm (fun k h1 h2 => h.a67 k h2 h1),
    h.a56.moves hm h.o5, h.a57, (h.a67.symm.moves hm h.o7).symm, hm.below h.bel (by have := h.res.lt; omega) (fun k hk => by have := h.o6.block k hk; omega)⟩
theorem RSt.put7 (h : RSt w wr L T E u5 u6 u7) (ho : Ow (Value.int .i64) w' (w.heap.size + 1) 29 v l) (hm : Moves wr w' u7 v) : RSt w w' L T l u5 u6 v :=
  ⟨h.res.moves hm (fun k hk => by have := h.o7.block k hk; omega), h.o5.moves hm (fun k h1 h2 => h.a57 k h1 h2), h.o6.moves hm (fun k h1 h2 => h.a67 k h1 h2), ho,
    h.a56, h.a57.moves hm h.o5, h.a67.moves hm h.o6, hm.below h.bel (by have := h.res.lt; omega) (fun k hk => by have := h.o7.block k hk; omega)⟩
end
def RS (w wr : World) (s : EvS) (E : List Int) (u5 u6 u7 u8 u9 : Value) : Prop :=
  RSt w wr s.al (evTaken s) E u5 u6 u7 ∧ u8 = .int .i64 (s.cm : Int) ∧ u9 = .int .i64 (s.kn : Int)
theorem evS_err {s : EvS} {o : EvO} {e : Int} (h : evE s o = e) (h0 : e ≠ 0) : evS s o = s := by
  unfold evS
  rw [if_neg (by rw [h]; exact h0)]
theorem evS_ok {s : EvS} {o : EvO} (h : evE s o = 0) : evS s o = evG s o := by
  unfold evS
  rw [if_pos h]
theorem taken_next {s : EvS} {x : Int} (hx : s.al[s.tk]? = some x) : evTaken ⟨s.al, s.cm, s.kn, s.tk + 1⟩ = evTaken s ++ [x] := by
  unfold evTaken
  exact take_snoc hx
theorem taken_more {s : EvS} (h : EvOk s) (x : Int) (c k : Nat) : evTaken ⟨s.al ++ [x], c, k, s.tk⟩ = evTaken s := by
  unfold evTaken
  exact List.take_append_of_le_length (show s.tk ≤ s.al.length by have := h.k3; have := h.k4; omega)
theorem evE_send (s : EvS) (x : Int) : evE s ⟨1, x⟩ = if s.al.length - s.kn = 4 then 4 else 0 := rfl
theorem evE_slot (s : EvS) (n : Int) : evE s ⟨2, n⟩ = if n < 0 ∨ 3 < n then 2 else 0 := rfl
theorem evE_take (s : EvS) (x : Int) : evE s ⟨3, x⟩ = if s.cm = s.tk then 3 else 0 := rfl
theorem evE_kind (s : EvS) (kd x : Int) (h : kd < 1 ∨ 3 < kd) : evE s ⟨kd, x⟩ = 5 := by
  unfold evE
  rw [if_pos h]
theorem play_small (l : List EvO) (n : Nat) : (evRun (l.take n)).al.length ≤ n := by
  have h1 := al_count (l.take n) ev0
  have h2 := List.countP_le_length (p := fun o : EvO => decide (o.kd = 1)) (l := l.take n)
  change (evRun (l.take n)).al.length ≤ 0 + _ at h1
  rw [List.length_take] at h2
  omega
theorem bytes_one {n j : Nat} (h : j < n) (hn : n ≤ 8796093022208) {l : List Int} (hl : l.length ≤ j) : (l.length + 1) * 8 ≤ 140737488355328 := by omega
set_option maxRecDepth 20000 in
set_option maxHeartbeats 4000000 in
theorem RPlay_any (A : Option Addr) (n c : Nat) (l : List EvO) (w : World) (h : RdG opC 2 w A n l) (hn : n ≤ 8796093022208) :
    Calls Try.prog 10 #[.slice A n c] w (GivesPlay l w) := by
  have hl := RdG.len opK h
  have HS0 : Hid (RS w (w.alloc (.cells #[.int .i64 0, .int .i64 0] 25)) (evRun (l.take 0)) (evErrs (l.take 0)) (.slice none 0 0) (.slice none 0 0) (.slice none 0 0) (.int .i64 0) (.int .i64 0)) :=
    ⟨⟨Box.new w 25 [.int .i64 0, .int .i64 0], Ow.nil _ _ _ _, Ow.nil _ _ _ _, Ow.nil _ _ _ _, Apart2.nil _ _, Apart2.nil _ _, Apart2.nil _ _, (Below.refl _ _).alloc (Nat.le_refl _) _⟩, rfl, rfl⟩
  have Hl := Lib.hid hl
  clear hl
  go_enter Try.func10, Try.ntmps10
  go_wp2
  go_loopw [5, 6, 7, 8, 9, 15] (fun u5 u6 u7 u8 u9 i wr => ∃ j : Nat, j ≤ n ∧ i = .int .i64 j ∧ RS w wr (evRun (l.take j)) (evErrs (l.take j)) u5 u6 u7 u8 u9) (fun _ _ _ _ _ i _ => n - (intOf i).toNat)
  case atStart => exact ⟨0, Nat.zero_le _, rfl, HS0.out⟩
  case round =>
    obtain ⟨j, hj, rfl, hst, rfl, rfl⟩ := hrel
    clear HS0
    have hbl := hst.bel
    by_cases hlt : j < n
    · obtain ⟨ad, ⟨kd, x⟩, rfl, hx, m0, m1⟩ := op_at (h.below hbl) hlt
      simp only at m0 m1
      have hok := ev_ok (l.take j)
      have hal := play_small l j
      have hel : (evErrs (l.take j)).length ≤ j := by rw [evErrs_length, List.length_take]; omega
      have Hel := Lib.hid hel
      have Hn1 : Hid (evRun (l.take (j + 1)) = evS (evRun (l.take j)) ⟨kd, x⟩) := by show _ = _; rw [take_snoc hx, evRun_snoc]
      have Hn2 : Hid (evErrs (l.take (j + 1)) = evErrs (l.take j) ++ [evE (evRun (l.take j)) ⟨kd, x⟩]) := by show _ = _; rw [take_snoc hx, evErrs_snoc]
      have hsz := hbl.size
      have Hst := Lib.hid (hst.alloc (.cells #[.int .i64 kd, .int .i64 x] 36))
      clear hx hst hbl hel
      generalize evRun (l.take j) = s at *
      generalize evErrs (l.take j) = E at *
      have htl := taken_len hok
      obtain ⟨al, cm, kn, tk⟩ := s
      have k1 := hok.k1
      have k2 := hok.k2
      have k3 := hok.k3
      have k4 := hok.k4
      have k5 := hok.k5
      simp only at hal htl k1 k2 k3 k4 k5 Hst
      have Hok := Lib.hid hok
      clear hok
      obtain ⟨m, hm⟩ : ∃ m, al.length = m := ⟨_, rfl⟩
      have Hm := Lib.hid hm
      rw [hm] at hal k3 k5
      obtain ⟨A5, c5, rfl, hc5, hx5, r5⟩ := Hst.out.o5.formN hm
      obtain ⟨A6, c6, rfl, hc6, hx6, -⟩ := Hst.out.o6.formN htl
      clear hm htl hx5 hx6 hc5 hc6
      have hsz0 := Hst.out.res.lt
      have z := Box.new wr 36 [.int .i64 kd, .int .i64 x]
      have m2 := z.cell 0 rfl
      have m3 := z.cell 1 rfl
      change (wr.alloc (.cells #[.int .i64 kd, .int .i64 x] 36)).cell? _ = _ at m2 m3
      clear z
      go_upto_region 9 with fail
      clear m0 m1
      generalize wr.alloc (.cells #[.int .i64 kd, .int .i64 x] 36) = wx at *
      clear h hsz
      by_cases hkd : kd < 1 ∨ 3 < kd
      · have hE := evE_kind ⟨al, cm, kn, tk⟩ kd x hkd
        have hS := evS_err hE (by decide)
        rw [hS] at Hn1
        rw [hE] at Hn2
        clear hE hS Hok Hm r5
        rcases hkd with hkd | hkd
        all_goals
          go_wp2_with (at_builtin; go_must (refine wpList_apM (Value.int .i64) _ elErr rfl rfl (one_int .i64) (w.heap.size + 1) u7 E rfl (Hst.out.o7.alloc _) _ 1 1 [5] rfl (Rd.litAt (Value.int .i64) [5] _ rfl) (by simp; omega) (by have := Hel.out; simp; omega) (by omega) ?_; intro v9 w9 ho9 hm9; have HF := Lib.hid ((Hst.out.alloc _).put7 ho9 hm9)))
          go_roundw
          case rel => exact ⟨j + 1, by omega, by go_num, by rw [Hn1.out, Hn2.out]; exact ⟨HF.out, rfl, rfl⟩⟩
          case measure => simp [intOf] <;> omega
      have hk3 : kd = 1 ∨ kd = 2 ∨ kd = 3 := by omega
      clear hkd
      rcases hk3 with rfl | rfl | rfl
      · by_cases hF : m - kn = 4
        · have hF' : (m : Int) - (kn : Int) = 4 := by omega
          have hE : evE ⟨al, cm, kn, tk⟩ ⟨1, x⟩ = 4 := by rw [evE_send]; exact if_pos (by rw [Hm.out]; exact hF)
          have hS := evS_err hE (by decide)
          rw [hS] at Hn1
          rw [hE] at Hn2
          clear hE hS Hok Hm r5
          go_wp2_with (at_builtin; go_must (refine wpList_apM (Value.int .i64) _ elErr rfl rfl (one_int .i64) (w.heap.size + 1) u7 E rfl (Hst.out.o7.alloc _) _ 1 1 [4] rfl (Rd.litAt (Value.int .i64) [4] _ rfl) (by simp; omega) (by have := Hel.out; simp; omega) (by omega) ?_; intro v9 w9 ho9 hm9; have HF := Lib.hid ((Hst.out.alloc _).put7 ho9 hm9)))
          go_roundw
          case rel => exact ⟨j + 1, by omega, by go_num, by rw [Hn1.out, Hn2.out]; exact ⟨HF.out, rfl, rfl⟩⟩
          case measure => simp [intOf] <;> omega
        · have hF' : (((m : Int) - (kn : Int)) == 4) = false := by rw [beq_eq_false_iff_ne]; omega
          have hE : evE ⟨al, cm, kn, tk⟩ ⟨1, x⟩ = 0 := by rw [evE_send]; exact if_neg (by rw [Hm.out]; exact hF)
          rw [evS_ok hE] at Hn1
          rw [hE] at Hn2
          have HT := Lib.hid (taken_more Hok.out x cm kn)
          clear hE Hok hF
          go_wp2_with (first | (at_builtin; refine wpList_apM (Value.int .i64) _ elInt rfl rfl (one_int .i64) (w.heap.size + 1) (.slice A5 m c5) al rfl (Hst.out.o5.alloc _) _ 1 1 [x] rfl (Rd.litAt (Value.int .i64) [x] _ rfl) (by simp; omega) (by have := Hm.out; simp; omega) (by omega) ?_; intro v8 w8 ho8 hm8; have HX := Lib.hid ((Hst.out.alloc _).put5 ho8 hm8); have hl8 := HX.out.res.lt) | (at_builtin; go_must (refine wpList_apM (Value.int .i64) _ elErr rfl rfl (one_int .i64) (w.heap.size + 1) u7 E rfl (HX.out.o7.alloc _) _ 1 1 [0] rfl (Rd.litAt (Value.int .i64) [0] _ rfl) (by simp; omega) (by have := Hel.out; simp; omega) (by omega) ?_; intro v9 w9 ho9 hm9; have HF := Lib.hid ((HX.out.alloc _).put7 ho9 hm9))))
          go_roundw
          case rel => exact ⟨j + 1, by omega, by go_num, by rw [Hn1.out, Hn2.out]; refine ⟨?_, rfl, rfl⟩; rw [show evTaken (evG ⟨al, cm, kn, tk⟩ ⟨1, x⟩) = _ from HT.out]; exact HF.out⟩
          case measure => simp [intOf] <;> omega
      · by_cases hR : x < 0 ∨ 3 < x
        · have hE : evE ⟨al, cm, kn, tk⟩ ⟨2, x⟩ = 2 := by rw [evE_slot]; exact if_pos hR
          have hS := evS_err hE (by decide)
          rw [hS] at Hn1
          rw [hE] at Hn2
          clear hE hS Hok Hm r5
          rcases hR with hR | hR
          all_goals
            go_wp2_with (at_builtin; go_must (refine wpList_apM (Value.int .i64) _ elErr rfl rfl (one_int .i64) (w.heap.size + 1) u7 E rfl (Hst.out.o7.alloc _) _ 1 1 [2] rfl (Rd.litAt (Value.int .i64) [2] _ rfl) (by simp; omega) (by have := Hel.out; simp; omega) (by omega) ?_; intro v9 w9 ho9 hm9; have HF := Lib.hid ((Hst.out.alloc _).put7 ho9 hm9)))
            go_roundw
            case rel => exact ⟨j + 1, by omega, by go_num, by rw [Hn1.out, Hn2.out]; exact ⟨HF.out, rfl, rfl⟩⟩
            case measure => simp [intOf] <;> omega
        · have hE : evE ⟨al, cm, kn, tk⟩ ⟨2, x⟩ = 0 := by rw [evE_slot]; exact if_neg hR
          rw [evS_ok hE] at Hn1
          rw [hE] at Hn2
          have hx4 : x = 0 ∨ x = 1 ∨ x = 2 ∨ x = 3 := by omega
          clear hE hR
          rcases hx4 with rfl | rfl | rfl | rfl
          · by_cases h1 : cm = kn
            · by_cases h2 : kn < m
              · have h2' : (kn : Int) < (m : Int) := by omega
                by_cases h3 : cm - tk < 4
                · have h3' : (cm : Int) - (tk : Int) < 4 := by omega
                  have hc : comeC ⟨al, cm, kn, tk⟩ 0 = cm + 1 := if_pos ⟨by decide, h1, by show kn < al.length; rw [Hm.out]; exact h2, h3⟩
                  rw [slotG_both hc (by decide)] at Hn1
                  clear hc
                  subst h1
                  clear h2 h3
                  clear Hok Hm r5
                  go_wp2_with (at_builtin; go_must (refine wpList_apM (Value.int .i64) _ elErr rfl rfl (one_int .i64) (w.heap.size + 1) u7 E rfl (Hst.out.o7.alloc _) _ 1 1 [0] rfl (Rd.litAt (Value.int .i64) [0] _ rfl) (by simp; omega) (by have := Hel.out; simp; omega) (by omega) ?_; intro v9 w9 ho9 hm9; have HF := Lib.hid ((Hst.out.alloc _).put7 ho9 hm9)))
                  go_roundw
                  case rel => exact ⟨j + 1, by omega, by go_num, by rw [Hn1.out, Hn2.out]; exact ⟨HF.out, int_eq (by show (cm : Int) + 1 = ((cm + 1 : Nat) : Int); omega), int_eq (by show (cm : Int) + 1 = ((cm + 1 : Nat) : Int); omega)⟩⟩
                  case measure => simp [intOf] <;> omega
                · have h3' : ¬ (cm : Int) - (tk : Int) < 4 := by omega
                  have hc : comeC ⟨al, cm, kn, tk⟩ 0 = cm := if_neg (fun g => h3 g.2.2.2)
                  rw [slotG_ack hc (by decide)] at Hn1
                  clear hc
                  subst h1
                  clear h2 h3
                  clear Hok Hm r5
                  go_wp2_with (at_builtin; go_must (refine wpList_apM (Value.int .i64) _ elErr rfl rfl (one_int .i64) (w.heap.size + 1) u7 E rfl (Hst.out.o7.alloc _) _ 1 1 [0] rfl (Rd.litAt (Value.int .i64) [0] _ rfl) (by simp; omega) (by have := Hel.out; simp; omega) (by omega) ?_; intro v9 w9 ho9 hm9; have HF := Lib.hid ((Hst.out.alloc _).put7 ho9 hm9)))
                  go_roundw
                  case rel => exact ⟨j + 1, by omega, by go_num, by rw [Hn1.out, Hn2.out]; exact ⟨HF.out, rfl, rfl⟩⟩
                  case measure => simp [intOf] <;> omega
              · have h2' : ¬ (kn : Int) < (m : Int) := by omega
                have hc : comeC ⟨al, cm, kn, tk⟩ 0 = cm := if_neg (fun g => h2 (by have := g.2.2.1; rw [← Hm.out]; exact this))
                rw [slotG_ack hc (by decide)] at Hn1
                clear hc
                subst h1
                clear h2
                clear Hok Hm r5
                go_wp2_with (at_builtin; go_must (refine wpList_apM (Value.int .i64) _ elErr rfl rfl (one_int .i64) (w.heap.size + 1) u7 E rfl (Hst.out.o7.alloc _) _ 1 1 [0] rfl (Rd.litAt (Value.int .i64) [0] _ rfl) (by simp; omega) (by have := Hel.out; simp; omega) (by omega) ?_; intro v9 w9 ho9 hm9; have HF := Lib.hid ((Hst.out.alloc _).put7 ho9 hm9)))
                go_roundw
                case rel => exact ⟨j + 1, by omega, by go_num, by rw [Hn1.out, Hn2.out]; exact ⟨HF.out, rfl, rfl⟩⟩
                case measure => simp [intOf] <;> omega
            · have h1' : ((cm : Int) == (kn : Int)) = false := by rw [beq_eq_false_iff_ne]; omega
              have hc : comeC ⟨al, cm, kn, tk⟩ 0 = cm := if_neg (fun g => h1 g.2.1)
              rw [slotG_ack hc (by decide)] at Hn1
              clear hc
              clear h1
              clear Hok Hm r5
              go_wp2_with (at_builtin; go_must (refine wpList_apM (Value.int .i64) _ elErr rfl rfl (one_int .i64) (w.heap.size + 1) u7 E rfl (Hst.out.o7.alloc _) _ 1 1 [0] rfl (Rd.litAt (Value.int .i64) [0] _ rfl) (by simp; omega) (by have := Hel.out; simp; omega) (by omega) ?_; intro v9 w9 ho9 hm9; have HF := Lib.hid ((Hst.out.alloc _).put7 ho9 hm9)))
              go_roundw
              case rel => exact ⟨j + 1, by omega, by go_num, by rw [Hn1.out, Hn2.out]; exact ⟨HF.out, rfl, rfl⟩⟩
              case measure => simp [intOf] <;> omega
          · have hc : comeC ⟨al, cm, kn, tk⟩ 1 = cm := if_neg (fun g => absurd g.1 (by decide))
            rw [slotG_ack hc (by decide)] at Hn1
            clear hc
            clear Hok Hm r5
            go_wp2_with (at_builtin; go_must (refine wpList_apM (Value.int .i64) _ elErr rfl rfl (one_int .i64) (w.heap.size + 1) u7 E rfl (Hst.out.o7.alloc _) _ 1 1 [0] rfl (Rd.litAt (Value.int .i64) [0] _ rfl) (by simp; omega) (by have := Hel.out; simp; omega) (by omega) ?_; intro v9 w9 ho9 hm9; have HF := Lib.hid ((Hst.out.alloc _).put7 ho9 hm9)))
            go_roundw
            case rel => exact ⟨j + 1, by omega, by go_num, by rw [Hn1.out, Hn2.out]; exact ⟨HF.out, rfl, rfl⟩⟩
            case measure => simp [intOf] <;> omega
          · by_cases h1 : cm = kn
            · by_cases h2 : kn < m
              · have h2' : (kn : Int) < (m : Int) := by omega
                by_cases h3 : cm - tk < 4
                · have h3' : (cm : Int) - (tk : Int) < 4 := by omega
                  have hc : comeC ⟨al, cm, kn, tk⟩ 2 = cm + 1 := if_pos ⟨by decide, h1, by show kn < al.length; rw [Hm.out]; exact h2, h3⟩
                  rw [slotG_got hc (by decide)] at Hn1
                  clear hc
                  subst h1
                  clear h2 h3
                  clear Hok Hm r5
                  go_wp2_with (at_builtin; go_must (refine wpList_apM (Value.int .i64) _ elErr rfl rfl (one_int .i64) (w.heap.size + 1) u7 E rfl (Hst.out.o7.alloc _) _ 1 1 [0] rfl (Rd.litAt (Value.int .i64) [0] _ rfl) (by simp; omega) (by have := Hel.out; simp; omega) (by omega) ?_; intro v9 w9 ho9 hm9; have HF := Lib.hid ((Hst.out.alloc _).put7 ho9 hm9)))
                  go_roundw
                  case rel => exact ⟨j + 1, by omega, by go_num, by rw [Hn1.out, Hn2.out]; exact ⟨HF.out, int_eq (by show (cm : Int) + 1 = ((cm + 1 : Nat) : Int); omega), rfl⟩⟩
                  case measure => simp [intOf] <;> omega
                · have h3' : ¬ (cm : Int) - (tk : Int) < 4 := by omega
                  have hc : comeC ⟨al, cm, kn, tk⟩ 2 = cm := if_neg (fun g => h3 g.2.2.2)
                  rw [slotG_same hc (fun g => absurd g (by decide))] at Hn1
                  clear hc
                  subst h1
                  clear h2 h3
                  clear Hok Hm r5
                  go_wp2_with (at_builtin; go_must (refine wpList_apM (Value.int .i64) _ elErr rfl rfl (one_int .i64) (w.heap.size + 1) u7 E rfl (Hst.out.o7.alloc _) _ 1 1 [0] rfl (Rd.litAt (Value.int .i64) [0] _ rfl) (by simp; omega) (by have := Hel.out; simp; omega) (by omega) ?_; intro v9 w9 ho9 hm9; have HF := Lib.hid ((Hst.out.alloc _).put7 ho9 hm9)))
                  go_roundw
                  case rel => exact ⟨j + 1, by omega, by go_num, by rw [Hn1.out, Hn2.out]; exact ⟨HF.out, rfl, rfl⟩⟩
                  case measure => simp [intOf] <;> omega
              · have h2' : ¬ (kn : Int) < (m : Int) := by omega
                have hc : comeC ⟨al, cm, kn, tk⟩ 2 = cm := if_neg (fun g => h2 (by have := g.2.2.1; rw [← Hm.out]; exact this))
                rw [slotG_same hc (fun g => absurd g (by decide))] at Hn1
                clear hc
                subst h1
                clear h2
                clear Hok Hm r5
                go_wp2_with (at_builtin; go_must (refine wpList_apM (Value.int .i64) _ elErr rfl rfl (one_int .i64) (w.heap.size + 1) u7 E rfl (Hst.out.o7.alloc _) _ 1 1 [0] rfl (Rd.litAt (Value.int .i64) [0] _ rfl) (by simp; omega) (by have := Hel.out; simp; omega) (by omega) ?_; intro v9 w9 ho9 hm9; have HF := Lib.hid ((Hst.out.alloc _).put7 ho9 hm9)))
                go_roundw
                case rel => exact ⟨j + 1, by omega, by go_num, by rw [Hn1.out, Hn2.out]; exact ⟨HF.out, rfl, rfl⟩⟩
                case measure => simp [intOf] <;> omega
            · have h1' : ((cm : Int) == (kn : Int)) = false := by rw [beq_eq_false_iff_ne]; omega
              have hc : comeC ⟨al, cm, kn, tk⟩ 2 = cm := if_neg (fun g => h1 g.2.1)
              rw [slotG_same hc (fun g => absurd g (by decide))] at Hn1
              clear hc
              clear h1
              clear Hok Hm r5
              go_wp2_with (at_builtin; go_must (refine wpList_apM (Value.int .i64) _ elErr rfl rfl (one_int .i64) (w.heap.size + 1) u7 E rfl (Hst.out.o7.alloc _) _ 1 1 [0] rfl (Rd.litAt (Value.int .i64) [0] _ rfl) (by simp; omega) (by have := Hel.out; simp; omega) (by omega) ?_; intro v9 w9 ho9 hm9; have HF := Lib.hid ((Hst.out.alloc _).put7 ho9 hm9)))
              go_roundw
              case rel => exact ⟨j + 1, by omega, by go_num, by rw [Hn1.out, Hn2.out]; exact ⟨HF.out, rfl, rfl⟩⟩
              case measure => simp [intOf] <;> omega
          · have hc : comeC ⟨al, cm, kn, tk⟩ 3 = cm := if_neg (fun g => absurd g.1 (by decide))
            rw [slotG_same hc (fun g => absurd g (by decide))] at Hn1
            clear hc
            clear Hok Hm r5
            go_wp2_with (at_builtin; go_must (refine wpList_apM (Value.int .i64) _ elErr rfl rfl (one_int .i64) (w.heap.size + 1) u7 E rfl (Hst.out.o7.alloc _) _ 1 1 [0] rfl (Rd.litAt (Value.int .i64) [0] _ rfl) (by simp; omega) (by have := Hel.out; simp; omega) (by omega) ?_; intro v9 w9 ho9 hm9; have HF := Lib.hid ((Hst.out.alloc _).put7 ho9 hm9)))
            go_roundw
            case rel => exact ⟨j + 1, by omega, by go_num, by rw [Hn1.out, Hn2.out]; exact ⟨HF.out, rfl, rfl⟩⟩
            case measure => simp [intOf] <;> omega
      · by_cases hN : cm = tk
        · subst hN
          have hE : evE ⟨al, cm, kn, cm⟩ ⟨3, x⟩ = 3 := by rw [evE_take]; exact if_pos rfl
          have hS := evS_err hE (by decide)
          rw [hS] at Hn1
          rw [hE] at Hn2
          clear hE hS Hok Hm r5
          go_wp2_with (at_builtin; go_must (refine wpList_apM (Value.int .i64) _ elErr rfl rfl (one_int .i64) (w.heap.size + 1) u7 E rfl (Hst.out.o7.alloc _) _ 1 1 [3] rfl (Rd.litAt (Value.int .i64) [3] _ rfl) (by simp; omega) (by have := Hel.out; simp; omega) (by omega) ?_; intro v9 w9 ho9 hm9; have HF := Lib.hid ((Hst.out.alloc _).put7 ho9 hm9)))
          go_roundw
          case rel => exact ⟨j + 1, by omega, by go_num, by rw [Hn1.out, Hn2.out]; exact ⟨HF.out, rfl, rfl⟩⟩
          case measure => simp [intOf] <;> omega
        · have hN' : ((cm : Int) == (tk : Int)) = false := by rw [beq_eq_false_iff_ne]; omega
          have hE : evE ⟨al, cm, kn, tk⟩ ⟨3, x⟩ = 0 := by rw [evE_take]; exact if_neg hN
          rw [evS_ok hE] at Hn1
          rw [hE] at Hn2
          have htm : tk < m := by omega
          obtain ⟨ad5, y, rfl, hy, hcy⟩ := r5.atMap htm
          have HT := Lib.hid (taken_next (s := ⟨al, cm, kn, tk⟩) hy)
          have Htl := Lib.hid (taken_len Hok.out)
          clear hE Hok hN hy
          generalize evTaken ⟨al, cm, kn, tk⟩ = TT at *
          go_wp2_with (first | (at_builtin; refine wpList_apM (Value.int .i64) _ elInt rfl rfl (one_int .i64) (w.heap.size + 1) (.slice A6 tk c6) TT rfl (Hst.out.o6.alloc _) _ 1 1 [y] rfl (Rd.litAt (Value.int .i64) [y] _ rfl) (by simp; omega) (by have := Htl.out; simp only at this; omega) (by omega) ?_; intro v8 w8 ho8 hm8; have HX := Lib.hid ((Hst.out.alloc _).put6 ho8 hm8); have hl8 := HX.out.res.lt) | (at_builtin; go_must (refine wpList_apM (Value.int .i64) _ elErr rfl rfl (one_int .i64) (w.heap.size + 1) u7 E rfl (HX.out.o7.alloc _) _ 1 1 [0] rfl (Rd.litAt (Value.int .i64) [0] _ rfl) (by simp; omega) (by have := Hel.out; simp; omega) (by omega) ?_; intro v9 w9 ho9 hm9; have HF := Lib.hid ((HX.out.alloc _).put7 ho9 hm9))))
          go_roundw
          case rel => exact ⟨j + 1, by omega, by go_num, by rw [Hn1.out, Hn2.out]; refine ⟨?_, rfl, rfl⟩; rw [show evTaken (evG ⟨al, cm, kn, tk⟩ ⟨3, x⟩) = _ from HT.out]; exact HF.out⟩
          case measure => simp [intOf] <;> omega
    · obtain rfl : j = n := by omega
      rw [List.take_of_length_le (by rw [Hl.out]; exact Nat.le_refl _)] at hst
      have hal := play_small l j
      rw [List.take_of_length_le (by rw [Hl.out]; exact Nat.le_refl _)] at hal
      rw [List.take_of_length_le (by rw [Hl.out]; exact Nat.le_refl _)]
      have hok := ev_ok l
      have HG : Hid (∀ e w', (∃ u v, e = .returned (.tuple #[u, v, .agg #[.int .i64 (((evRun l).al.length : Int) - ((evRun l).kn : Int)), .int .i64 (((evRun l).cm : Int) - ((evRun l).tk : Int))]]) ∧ Ow (Value.int .i64) w' w.heap.size 29 u (evErrs l) ∧ Ow (Value.int .i64) w' w.heap.size 3 v (evTaken (evRun l)) ∧ Below w.heap.size w w') → GivesPlay l w e w') := fun e w' g => g
      generalize evErrs l = E at *
      generalize evRun l = s at *
      have htl := taken_len hok
      have k1 := hok.k1
      have k3 := hok.k3
      have k4 := hok.k4
      obtain ⟨m, hm⟩ : ∃ m, s.al.length = m := ⟨_, rfl⟩
      rw [hm] at hal k3
      obtain ⟨A5, c5, rfl, hc5, hx5, -⟩ := hst.o5.formN hm
      obtain ⟨A6, c6, rfl, hc6, hx6, -⟩ := hst.o6.formN htl
      have hz := hst.res
      have f0 := hz.free 0
      have f1 := hz.free 1
      have q0 := hz.cell 0 rfl
      have q1 := hz.cell 1 rfl
      have hlz := hz.lt
      have Hst := Lib.hid hst
      rw [hm] at HG
      clear hst hok htl hc5 hx5 hc6 hx6 hm h hbl
      go_wp2
      obtain ⟨D, hD⟩ : ∃ D, (m : Int) - (s.kn : Int) = D := ⟨_, rfl⟩
      obtain ⟨T, hT⟩ : ∃ T, (s.cm : Int) - (s.tk : Int) = T := ⟨_, rfl⟩
      rw [hD, hT] at HG ⊢
      have hzz := hz.pair (.int .i64 D) (.int .i64 T)
      have r0 := hzz.cell 0 rfl
      have r1 := hzz.cell 1 rfl
      have hgr := grownBy_pair wr w.heap.size (.int .i64 D) (.int .i64 T)
      have hE := Hst.out.o7.keep hgr (fun k hk e => by injection e with e; have := Hst.out.o7.block k hk; omega)
      have hTk := Hst.out.o6.keep hgr (fun k hk e => by injection e with e; have := Hst.out.o6.block k hk; omega)
      have hB := below_grown Hst.out.bel hgr (Nat.le_refl _) (by omega)
      generalize (wr.setCell ⟨w.heap.size, 0, none⟩ (.int .i64 D)).setCell ⟨w.heap.size, 1, none⟩ (.int .i64 T) = w9 at *
      refine bodyPost_ret (v := .tuple #[_, .slice A6 s.tk c6, .agg #[.int .i64 D, .int .i64 T]]) (by simp [results, Try.results10, go_sem, r0, r1]) rfl (HG.out _ _ ⟨_, .slice A6 s.tk c6, rfl, hE.mono (by omega), hTk.mono (by omega), hB⟩)
end Go.Proofs.Ytlanmehbcpgoaaa
