/-
  Contracts of rta.release, hasWork, Run, for every list of tasks.
-/
import Derived.Test.YtiejgmkbhjnceaaRtaEnds
import Derived.Test.YtiejgmkbhjnceaaSlicesF
import Derived.Test.YtiejgmkbhjnceaaRepeatZero
namespace Go.Proofs.Ytiejgmkbhjnceaa
open Go.RowKit
set_option linter.unusedVariables false

theorem mid_put {α : Type} {S T : List α} {k : Nat} {x y : α} (hS : S[k]? = some y) (hT : T[k]? = some x) : (S.take k ++ T.drop k).set k y = S.take (k + 1) ++ T.drop (k + 1) ∧ (S.take k ++ T.drop k)[k]? = some x := by
  have hk : k < S.length := (List.getElem?_eq_some_iff.1 hS).1
  have hl : (S.take k).length = k := by rw [List.length_take]; omega
  rw [drop_cons hT, take_snoc hS]
  refine ⟨?_, ?_⟩
  · rw [List.set_append_right _ _ (by omega), hl, Nat.sub_self, List.set_cons_zero, List.append_assoc]; rfl
  · rw [List.getElem?_append_right (by omega), hl, Nat.sub_self]; rfl
theorem mid_same {α : Type} {S T : List α} {k : Nat} {x : α} (hS : S[k]? = some x) (hT : T[k]? = some x) : S.take k ++ T.drop k = S.take (k + 1) ++ T.drop (k + 1) := by
  rw [drop_cons hT, take_snoc hS, List.append_assoc]; rfl
theorem natL_set (T : List Nat) (k y : Nat) : (natL T).set k (y : Int) = natL (T.set k y) := by unfold natL; rw [List.map_set]
theorem grownBy_ofB {w w' : World} {row : Option Nat} (h : Below w.heap.size w w') : w.grownBy w' row := ⟨h.os, h.tape, h.output, h.size, fun k hk _ => h.block k hk⟩
theorem natL_zeros (n : Nat) : natL (List.replicate n 0) = List.replicate n 0 := by simp [natL]

set_option maxHeartbeats 800000 in
theorem release_any (A : Option Addr) (n c : Nat) (M : List Tk) (hM : Good M) (now : Nat) (hnow : now ≤ 1000000) (base g m : Nat) (T : List Nat) (hT : T.length = M.length) (hs : ∀ x ∈ T, x ≤ 100000000) (w : World) (h : RdG tkC 2 w A n M) (ho : Ow (Value.int .i64) w base 3 (.slice (some ⟨g, 0, none⟩) n m) (natL T)) (hA : ∀ ad, A = some ad → 0 < n → ad.block ≠ g) :
    Calls Try.prog 20 #[.slice A n c, .int .i64 (now : Int), .slice (some ⟨g, 0, none⟩) n m] w fun e w' => e = .returned (.tuple #[]) ∧ Ow (Value.int .i64) w' base 3 (.slice (some ⟨g, 0, none⟩) n m) (natL (relL M T now)) ∧ w.grownBy w' (some g) := by
  have Hl := Lib.hid (RdG.len tkK h)
  have HM := Lib.hid hM; clear hM
  have HT := Lib.hid hT
  have Hs := Lib.hid hs
  have HA := Lib.hid hA
  have Hlr := Lib.hid (rel_length M T now hT.symm)
  have hn16 : n ≤ 16 := by have := HM.out.len; rw [Hl.out] at this; exact this
  clear hT hs hA
  go_enter Try.func20, Try.ntmps20
  go_wp2
  go_loopw [10] (fun i wr => ∃ k : Nat, k ≤ n ∧ i = .int .i64 k ∧ Ow (Value.int .i64) wr base 3 (.slice (some ⟨g, 0, none⟩) n m) (natL ((relL M T now).take k ++ T.drop k)) ∧ w.grownBy wr (some g)) (fun i _ => n - (intOf i).toNat)
  case atStart => exact ⟨0, Nat.zero_le _, rfl, by simpa using ho, World.grownBy.refl _ _⟩
  case round =>
    obtain ⟨k, hk, rfl, hok, hgr⟩ := hrel
    clear ho
    by_cases hlt : k < n
    · have hr : RdG tkC 2 wr A n M := h.grownG hgr fun ad e => by
        have := HA.out ad e (by omega)
        intro e2; injection e2 with e2; exact this e2
      obtain ⟨ad, p, t, rfl, hx, hc0, hc1⟩ := tk_at hr hlt
      obtain ⟨h1, h2, h3⟩ := HM.out.at_ hx
      simp only at h1 h2 h3
      have hTk : k < T.length := by rw [HT.out, Hl.out]; exact hlt
      obtain ⟨x, hxT⟩ : ∃ x, T[k]? = some x := ⟨_, List.getElem?_eq_getElem hTk⟩
      have hx9 := Hs.out x (List.mem_of_getElem? hxT)
      have hrel := rel_at (now := now) hx hxT
      simp only at hrel
      have hmod : (now : Int) % (p : Int) = ((now % p : Nat) : Int) := (Int.natCast_emod _ _).symm
      have hX := Lib.hid (Box.new wr 39 [.int .i64 (p : Int), .int .i64 (t : Int)])
      have hokX := hok.alloc (.cells #[.int .i64 (p : Int), .int .i64 (t : Int)] 39)
      have hgrX := grownBy_then hgr (grownBy_ofB (row := some g) (below_one (w := wr) (.cells #[.int .i64 (p : Int), .int .i64 (t : Int)] 39)))
      clear hgr
      by_cases hz : now % p = 0
      · rw [if_pos hz] at hrel
        rw [hz] at hmod
        obtain ⟨hput, hcur⟩ := mid_put hrel hxT
        have hck := hokX.cellAt (natL_at hcur)
        have hfz := hokX.freeAt k
        have ho2 := Lib.hid (hokX.put k ((x + t : Nat) : Int))
        rw [natL_set, hput] at ho2
        have hwx : IntKind.i64.wrap ((x : Int) + (t : Int)) = ((x + t : Nat) : Int) := by rw [← Int.natCast_add]; exact IntWalk.i64_in _ (by omega)
        clear hput hcur hrel hz hx hxT hr hok
        go_upto_region 3 with fail
        replace hX : Hid (Box (wr.alloc (.cells #[.int .i64 (p : Int), .int .i64 (t : Int)] 39)) wr.heap.size 39 [.int .i64 (p : Int), .int .i64 (t : Int)]) := hX
        clear hokX
        generalize wr.alloc (.cells #[.int .i64 (p : Int), .int .i64 (t : Int)] 39) = X at *
        generalize wr.heap.size = b at *
        have q0 := hX.out.cell 0 rfl
        have q1 := hX.out.cell 1 rfl
        go_wp2
        go_big_region
        go_wp2
        go_roundw
        case rel => exact ⟨k + 1, by omega, by go_num, ho2.out, grownBy_then hgrX (grownBy_then (grownBy_setCell _ ⟨g, k, none⟩ _) (grownBy_drewN _ 1 _))⟩
        case measure => simp [intOf] <;> omega
      · rw [if_neg hz] at hrel
        have hsame := mid_same hrel hxT
        rw [hsame] at hokX
        have Hz : Hid (¬ now % p = 0) := hz
        clear hsame hrel hx hxT hr hok
        generalize now % p = z at *
        have hzb : ((z : Int) == 0) = false := by simpa using hz
        clear hz
        go_wp2
        go_roundw
        case rel => exact ⟨k + 1, by omega, by go_num, hokX, hgrX⟩
        case measure => simp [intOf] <;> omega
    · obtain rfl : k = n := by omega
      rw [List.take_of_length_le (by rw [Hlr.out, Hl.out]; exact Nat.le_refl _), List.drop_eq_nil_of_le (by rw [HT.out, Hl.out]; exact Nat.le_refl _), List.append_nil] at hok
      go_wp2
      go_end0
      exact ⟨rfl, hok, hgr⟩

theorem hasWork_any (x : Int) (w : World) : Calls Try.prog 22 #[.int .i64 x] w fun e w' => e = .returned (.bool (decide (0 < x))) ∧ ∃ q, w' = w.drewN q := by
  go_enter Try.func22, Try.ntmps22
  go_wp2
  go_ret
  exact ⟨ret_bool (by simp), 0, rfl⟩
theorem enterHas : ∀ args w, (callFunc 22 args).run Try.prog w = .ok (.enter 22 args) w := enters_of Try.func22 (by kernel_rfl) rfl
/-- The four slices of Run, in blocks apart. -/
structure Four (B g8 g9 g10 g11 : Nat) : Prop where
  b8 : B ≤ g8
  b9 : g8 < g9
  b10 : g9 < g10
  b11 : g10 < g11
structure RunV (w wr : World) (n long d8 g8 g9 g10 g11 : Nat) (F P T D : List Int) : Prop where
  ap : Four w.heap.size g8 g9 g10 g11
  o8 : Ow (Value.int .i64) wr w.heap.size 3 (.slice (some ⟨g8, 0, none⟩) n d8) F
  o9 : Ow (Value.int .i64) wr w.heap.size 3 (.slice (some ⟨g9, 0, none⟩) long long) P
  o10 : Ow (Value.int .i64) wr w.heap.size 3 (.slice (some ⟨g10, 0, none⟩) n n) T
  o11 : Ow (Value.int .i64) wr w.heap.size 3 (.slice (some ⟨g11, 0, none⟩) n n) D
  bel : Below w.heap.size w wr
section
variable {w wr w' : World} {n long d8 g8 g9 g10 g11 : Nat} {F P T D T' : List Int}
theorem own_far {g g' a b : Nat} (h : g ≠ g') : ∀ k, (Value.slice (some ⟨g, 0, none⟩) a b).ownBlock = some k → some k ≠ some g' := by
  intro k hk e
  simp [Value.ownBlock] at hk
  injection e with e
  omega
theorem RunV.at10 (h : RunV w wr n long d8 g8 g9 g10 g11 F P T D) (hg : wr.grownBy w' (some g10)) (ho : Ow (Value.int .i64) w' w.heap.size 3 (.slice (some ⟨g10, 0, none⟩) n n) T') : RunV w w' n long d8 g8 g9 g10 g11 F P T' D := by
  obtain ⟨a1, a2, a3, a4⟩ := h.ap
  exact ⟨h.ap, h.o8.keep hg (own_far (by omega)), h.o9.keep hg (own_far (by omega)), ho, h.o11.keep hg (own_far (by omega)), below_grown h.bel hg (by omega) h.bel.size⟩
theorem RunV.drewN (h : RunV w wr n long d8 g8 g9 g10 g11 F P T D) (q : Nat) : RunV w (wr.drewN q) n long d8 g8 g9 g10 g11 F P T D :=
  ⟨h.ap, h.o8, h.o9, h.o10, h.o11, bthen h.bel (below_draws ⟨q, rfl⟩)⟩
theorem RunV.put8 (h : RunV w wr n long d8 g8 g9 g10 g11 F P T D) (k : Nat) (x : Int) : RunV w (wr.setCell ⟨g8, k, none⟩ (.int .i64 x)) n long d8 g8 g9 g10 g11 (F.set k x) P T D := by
  obtain ⟨a1, a2, a3, a4⟩ := h.ap
  have hg := grownBy_setCell wr ⟨g8, k, none⟩ (.int .i64 x)
  exact ⟨h.ap, h.o8.put k x, h.o9.keep hg (own_far (by simp only; omega)), h.o10.keep hg (own_far (by simp only; omega)), h.o11.keep hg (own_far (by simp only; omega)), below_grown h.bel hg (by omega) h.bel.size⟩
theorem RunV.put9 (h : RunV w wr n long d8 g8 g9 g10 g11 F P T D) (k : Nat) (x : Int) : RunV w (wr.setCell ⟨g9, k, none⟩ (.int .i64 x)) n long d8 g8 g9 g10 g11 F (P.set k x) T D := by
  obtain ⟨a1, a2, a3, a4⟩ := h.ap
  have hg := grownBy_setCell wr ⟨g9, k, none⟩ (.int .i64 x)
  exact ⟨h.ap, h.o8.keep hg (own_far (by simp only; omega)), h.o9.put k x, h.o10.keep hg (own_far (by simp only; omega)), h.o11.keep hg (own_far (by simp only; omega)), below_grown h.bel hg (by show w.heap.size ≤ g9; omega) h.bel.size⟩
theorem RunV.put10 (h : RunV w wr n long d8 g8 g9 g10 g11 F P T D) (k : Nat) (x : Int) : RunV w (wr.setCell ⟨g10, k, none⟩ (.int .i64 x)) n long d8 g8 g9 g10 g11 F P (T.set k x) D :=
  h.at10 (grownBy_setCell wr ⟨g10, k, none⟩ (.int .i64 x)) (h.o10.put k x)
theorem RunV.put11 (h : RunV w wr n long d8 g8 g9 g10 g11 F P T D) (k : Nat) (x : Int) : RunV w (wr.setCell ⟨g11, k, none⟩ (.int .i64 x)) n long d8 g8 g9 g10 g11 F P T (D.set k x) := by
  obtain ⟨a1, a2, a3, a4⟩ := h.ap
  have hg := grownBy_setCell wr ⟨g11, k, none⟩ (.int .i64 x)
  exact ⟨h.ap, h.o8.keep hg (own_far (by simp only; omega)), h.o9.keep hg (own_far (by simp only; omega)), h.o10.keep hg (own_far (by simp only; omega)), h.o11.put k x, below_grown h.bel hg (by show w.heap.size ≤ g11; omega) h.bel.size⟩
end
/-- Who ran so far, the rest not yet told. -/
def ranTo (M : List Tk) (long now : Nat) : List Int := ranL M now ++ List.replicate (long - now) 0
theorem ran_put {M : List Tk} {long now : Nat} {x : Int} (hx : whoL M now = x) (h : now < long) : (ranTo M long now).set now x = ranTo M long (now + 1) ∧ (ranTo M long now)[now]? = some 0 := by
  obtain ⟨m, rfl⟩ : ∃ m, long = now + 1 + m := ⟨long - (now + 1), by omega⟩
  unfold ranTo
  refine ⟨?_, ?_⟩
  · rw [List.set_append_right _ _ (by rw [ran_length]; omega), ran_length, Nat.sub_self, show now + 1 + m - now = m + 1 by omega, List.replicate_succ, List.set_cons_zero, show now + 1 + m - (now + 1) = m by omega, ran_succ, hx, List.append_assoc]; rfl
  · rw [List.getElem?_append_right (by rw [ran_length]; omega), ran_length, Nat.sub_self, List.getElem?_replicate, if_pos (by omega)]
/-- What one unit does, in all four. -/
theorem unit_none {M : List Tk} (hM : Good M) {now : Nat} (h : ∀ x ∈ natL (leftL M (didL M now) (now + 1)), decide (0 < x) = false) : whoL M now = -1 ∧ firstL M (now + 1) = firstL M now ∧ didL M (now + 1) = didL M now := by
  have hp : pickL M (didL M now) now = none ∧ tickL M (didL M now) now = didL M now := pick_none fun k ⟨t, d, h1, h2, h3⟩ => by
    have h4 := natL_at (left_at (now := now + 1) h1 h2)
    have := h _ (List.mem_of_getElem? h4)
    rw [decide_eq_false_iff_not] at this
    omega
  exact ⟨who_none hp.1, first_none hp.1, by rw [didL, hp.2]⟩
theorem unit_some {M : List Tk} (hM : Good M) {now k : Nat} {x : Int} (hnow : now ≤ 1000000) (hk : (natL (leftL M (didL M now) (now + 1)))[k]? = some x) (hx : decide (0 < x) = true) (hn : ∀ y ∈ (natL (leftL M (didL M now) (now + 1))).take k, decide (0 < y) = false) :
    ∃ t d x', M[k]? = some t ∧ (didL M now)[k]? = some d ∧ d ≤ now ∧ x = ((x' + 1 : Nat) : Int) ∧ x' ≤ 100000000 ∧ whoL M now = k ∧ didL M (now + 1) = (didL M now).set k (d + 1) ∧ leftL M (didL M (now + 1)) (now + 1) = (leftL M (didL M now) (now + 1)).set k x' ∧ firstL M (now + 1) = if t.c = d + 1 then (firstL M now).set k (now + 1) else firstL M now := by
  have hll := left_length M (didL M now) (now + 1) (did_length M now).symm
  have hlt : k < M.length := by have := (List.getElem?_eq_some_iff.1 hk).1; rw [natL_len, hll] at this; exact this
  have hd := didK_some (now := now) hlt
  have ht := List.getElem?_eq_getElem hlt
  rw [natL_at (left_at ht hd)] at hk
  injection hk with hk
  rw [decide_eq_true_eq] at hx
  have hle := didK_size hM ht now
  generalize hdk : didK M k now = d at *
  have hb : d < up (now + 1) M[k].p * M[k].c := by omega
  obtain ⟨e1, e2⟩ := pick_some ht hd hb fun j hj ⟨u, y, a, b, c⟩ => by
    have h4 := natL_at (left_at (now := now + 1) a b)
    have h5 := hn _ (List.mem_of_getElem? (show ((natL (leftL M (didL M now) (now + 1))).take k)[j]? = _ by rw [List.getElem?_take, if_pos hj]; exact h4))
    rw [decide_eq_false_iff_not] at h5
    omega
  have e3 : didL M (now + 1) = (didL M now).set k (d + 1) := by rw [didL, e2]
  have hs := one_size (hM.at_ ht) (now + 1)
  have hcap := hM.at_ ht
  have hdk2 : didK M k (now + 1) = d + 1 := by
    unfold didK
    rw [e3, List.getD_eq_getElem?_getD, List.getElem?_set_self (List.getElem?_eq_some_iff.1 hd).1]; rfl
  refine ⟨_, d, up (now + 1) M[k].p * M[k].c - d - 1, ht, hd, hle, by omega, ?_, who_some e1, e3, by rw [e3]; exact left_set ht hd, ?_⟩
  · omega
  · rw [first_some e1, ht, hdk2]
    simp

/-- The tasks' own bound on what is left. -/
theorem left_size {M : List Tk} (hM : Good M) {now : Nat} (hnow : now ≤ 1000000) : ∀ x ∈ leftL M (didL M now) now, x ≤ 100000000 := by
  intro x hx
  obtain ⟨k, hlt, rfl⟩ := List.mem_iff_getElem.1 hx
  have hll := left_length M (didL M now) now (did_length M now).symm
  have hlt' : k < M.length := by omega
  have ht := List.getElem?_eq_getElem hlt'
  have h1 := left_at (now := now) ht (didK_some (now := now) hlt')
  rw [List.getElem?_eq_getElem hlt] at h1
  injection h1 with h1
  have := one_size (hM.at_ ht) now
  omega
/-- What Run gives. -/
def GivesRun (L : List Tsk) (long : Int) (w : World) (e : Ending) (w' : World) : Prop :=
  (((wrongK L = true ∨ long < 0 ∨ 400 < long) ∧ e = .returned (.tuple #[.slice none 0 0, .slice none 0 0, .int .i64 2])) ∨
   (∃ (M : List Tk) (N : Nat) (A B : Option Addr) (c d : Nat), L = M.map Tk.asT ∧ Good M ∧ long = N ∧ N ≤ 400 ∧ e = .returned (.tuple #[.slice A M.length c, .slice B N d, .int .i64 0]) ∧
     Rd w' 1 A M.length ((firstL M N).map (Value.int .i64)) ∧ Rd w' 1 B N ((ranL M N).map (Value.int .i64)))) ∧ Below w.heap.size w w'

set_option maxRecDepth 20000 in
set_option maxHeartbeats 3200000 in
theorem Run_any (A : Option Addr) (n c : Nat) (L : List Tsk) (long : Int) (w : World) (h : RdG tskC 2 w A n L) (hc : n ≤ c) (hn : n ≤ 140737488355328) (hlo : in64 long) :
    Calls Try.prog 9 #[.slice A n c, .int .i64 long] w (GivesRun L long w) := by
  have Hl := Lib.hid (RdG.len tskK h)
  have HW := Lib.hid (WrongK_any A n c L w h (by omega))
  obtain ⟨hlo1, hlo2⟩ := hlo
  cases hw : wrongK L
  · rw [errK_zero hw] at HW
    by_cases hl1 : long < 0
    · go_enter Try.func9, Try.ntmps9
      go_wp2_with fail
      refine HW.out.mono ?_
      rintro e w1 ⟨rfl, hb1⟩
      go_wp2
      go_ret3
      exact ⟨.inl ⟨.inr (.inl hl1), rfl⟩, hb1⟩
    by_cases hl2 : 400 < long
    · go_enter Try.func9, Try.ntmps9
      go_wp2_with fail
      refine HW.out.mono ?_
      rintro e w1 ⟨rfl, hb1⟩
      go_wp2
      go_ret3
      exact ⟨.inl ⟨.inr (.inr hl2), rfl⟩, hb1⟩
    obtain ⟨N, rfl⟩ := Int.eq_ofNat_of_zero_le (show 0 ≤ long by omega)
    have hN : N ≤ 400 := by omega
    clear hl1 hl2 hlo1 hlo2
    obtain ⟨M, rfl, hM⟩ := good_of hw
    clear hw
    have hl : M.length = n := by have := Hl.out; simpa using this
    have hn16 : n ≤ 16 := by have := hM.len; omega
    replace Hl := Lib.hid hl
    replace h := tk_rd h
    have hmkn : ∀ W : World, (Instr.makeSlice 23 (.int .i64 n) (.int .i64 n)).run Try.prog W = .ok (.slice (some ⟨W.heap.size, 0, none⟩) n n) (W.alloc (.cells (madeCells #[.int .i64 0] n) 3)) := run_mk elInt rfl .i64 .i64 n n (Nat.le_refl _) (by omega) (by omega)
    have hmkN : ∀ W : World, (Instr.makeSlice 23 (.int .i64 N) (.int .i64 N)).run Try.prog W = .ok (.slice (some ⟨W.heap.size, 0, none⟩) N N) (W.alloc (.cells (madeCells #[.int .i64 0] N) 3)) := run_mk elInt rfl .i64 .i64 N N (Nat.le_refl _) (by omega) (by omega)
    have HM := Lib.hid hM
    have CR := Lib.hid (fun (W : World) => RepeatI_any (some ⟨W.heap.size, 0, none⟩) 1 n (-1) (by omega) (W.alloc (.cells #[.int .i64 (-1)] 3)) (Rd.one W (.int .i64 (-1)) 3))
    clear hl hM
    go_enter Try.func9, Try.ntmps9
    go_wp2_with fail
    refine HW.out.mono ?_
    rintro e w1 ⟨rfl, hb1⟩
    clear HW
    go_wp2_with fail
    refine (CR.out _).mono ?_
    rintro e w2 ⟨g8, d8, rfl, ho8, hg8, hg8', hb2⟩
    clear CR
    have HA : Hid (∀ ad, A = some ad → 0 < n → ad.block < w.heap.size) := fun ad e hn => by
      obtain ⟨ad', p, t, e', _, hc0, _⟩ := tk_at h hn
      rw [e] at e'
      cases e'
      have := World.block_lt_of_cell? w _ hc0
      rwa [ad_block] at this
    have hs1 := hb1.size
    have hb12 : Below w.heap.size w w2 := bthen hb1 (below_new hb2)
    have S0 : RunV w (((w2.alloc (.cells (madeCells #[.int .i64 0] N) 3)).alloc (.cells (madeCells #[.int .i64 0] n) 3)).alloc (.cells (madeCells #[.int .i64 0] n) 3)) n N d8 g8 w2.heap.size (w2.heap.size + 1) (w2.heap.size + 1 + 1) (firstL M 0) (ranTo M N 0) (natL (leftL M (didL M 0) 0)) (natL (didL M 0)) := by
      have hs2 := hb12.size
      have e1 : firstL M 0 = List.replicate n (-1) := by rw [firstL, Hl.out]
      have e2 : ranTo M N 0 = List.replicate N 0 := by simp [ranTo, ranL]
      have e3 : natL (didL M 0) = List.replicate n 0 := by rw [didL, Hl.out, natL_zeros]
      have e4 : natL (leftL M (didL M 0) 0) = List.replicate n 0 := by rw [didL, left_start M HM.out.pos, Hl.out, natL_zeros]
      rw [e1, e2, e3, e4]
      have hz1 : (w2.alloc (.cells (madeCells #[.int .i64 0] N) 3)).heap.size = w2.heap.size + 1 := by simp
      have hz2 : ((w2.alloc (.cells (madeCells #[.int .i64 0] N) 3)).alloc (.cells (madeCells #[.int .i64 0] n) 3)).heap.size = w2.heap.size + 1 + 1 := by simp
      have q9 := Ow.make (Value.int .i64) 0 w2 3 (base := w.heap.size) N (by unfold maxLen; omega) (by omega)
      have q10 := Ow.make (Value.int .i64) 0 (w2.alloc (.cells (madeCells #[.int .i64 0] N) 3)) 3 (base := w.heap.size) n (by unfold maxLen; omega) (by omega)
      have q11 := Ow.make (Value.int .i64) 0 ((w2.alloc (.cells (madeCells #[.int .i64 0] N) 3)).alloc (.cells (madeCells #[.int .i64 0] n) 3)) 3 (base := w.heap.size) n (by unfold maxLen; omega) (by omega)
      rw [hz1] at q10
      rw [hz2] at q11
      have hg8w : w.heap.size ≤ g8 := by simp at hg8'; omega
      exact ⟨⟨hg8w, hg8, by omega, by omega⟩, (((ho8.mono (by simp; omega)).alloc _).alloc _).alloc _, (q9.alloc _).alloc _, q10.alloc _, q11, ((hb12.alloc hs2 _).alloc (by omega) _).alloc (by omega) _⟩
    have HS := Lib.hid S0
    clear S0 ho8 hg8 hg8' hb2 hb1 hs1 hb12
    go_upto_region 10 with fail
    replace HS : Hid (RunV w (((w2.alloc (.cells (madeCells #[.int .i64 0] N) 3)).alloc (.cells (madeCells #[.int .i64 0] n) 3)).alloc (.cells (madeCells #[.int .i64 0] n) 3)) n N d8 g8 w2.heap.size (w2.heap.size + 1) (w2.heap.size + 1 + 1) (firstL M 0) (ranTo M N 0) (natL (leftL M (didL M 0) 0)) (natL (didL M 0))) := HS
    clear hmkn hmkN
    generalize ((w2.alloc (.cells (madeCells #[.int .i64 0] N) 3)).alloc (.cells (madeCells #[.int .i64 0] n) 3)).alloc (.cells (madeCells #[.int .i64 0] n) 3) = w5 at *
    generalize w2.heap.size + 1 + 1 = g11 at *
    generalize w2.heap.size + 1 = g10 at *
    generalize w2.heap.size = g9 at *
    go_wp2
    go_loopw [39] (fun i wr => ∃ now : Nat, now ≤ N ∧ i = .int .i64 now ∧ Hid (RunV w wr n N d8 g8 g9 g10 g11 (firstL M now) (ranTo M N now) (natL (leftL M (didL M now) now)) (natL (didL M now)))) (fun i _ => N - (intOf i).toNat)
    case atStart => exact ⟨0, Nat.zero_le _, rfl, HS⟩
    case round =>
      clear HS
      obtain ⟨now, hnow, rfl, HS⟩ := hrel
      by_cases hlt : now < N
      · go_wp2_with fail
        refine (release_any A n c M HM.out now (by omega) w.heap.size g10 n (leftL M (didL M now) now) (left_length M _ _ (did_length M now).symm) (left_size HM.out (by omega)) wr (h.below HS.out.bel) HS.out.o10 (fun ad e hn => ?_)).mono ?_
        · have h1 := HA.out ad e hn
          obtain ⟨a1, a2, a3, a4⟩ := HS.out.ap
          omega
        rintro e w6 ⟨rfl, ho6, hg6⟩
        rw [left_rel HM.out.pos (did_le M now)] at ho6
        have HS6 := Lib.hid (HS.out.at10 hg6 ho6)
        clear HS ho6 hg6
        go_wp2_with fail
        refine (IndexFunc_any 22 #[] enterHas (fun x => decide (0 < x)) none _ n n _ w6 HS6.out.o10.rd (fun x _ W _ => hasWork_any x W) (by omega)).mono ?_
        rintro e w7' ⟨r, rfl, hr, q, rfl⟩
        replace HS6 := Lib.hid (HS6.out.drewN q)
        generalize w6.drewN q = w7 at *
        rcases hr with ⟨rfl, hall⟩ | ⟨k, x, rfl, hk1, hkn, hkx, hpx, hall⟩
        · obtain ⟨e1, e2, e3⟩ := unit_none HM.out hall
          obtain ⟨p1, p2⟩ := ran_put e1 hlt
          have c9 := HS6.out.o9.cellAt p2
          have f9 := HS6.out.o9.freeAt now
          have HS7 := Lib.hid (HS6.out.put9 now (-1))
          rw [p1, ← e2] at HS7
          rw [show leftL M (didL M now) (now + 1) = leftL M (didL M (now + 1)) (now + 1) by rw [e3], show natL (didL M now) = natL (didL M (now + 1)) by rw [e3]] at HS7
          clear HS6 hall e1 e2 e3 p1 p2
          go_wp2
          go_roundw
          case rel => exact ⟨now + 1, by omega, by go_num, HS7⟩
          case measure => simp [intOf] <;> omega
        · obtain ⟨t, d, x', e1, e2, hd, rfl, hx', e4, e5, e6, e7⟩ := unit_some HM.out (by omega) hkx hpx hall
          obtain ⟨p1, p2⟩ := ran_put e4 hlt
          have c9 := HS6.out.o9.cellAt p2
          have f9 := HS6.out.o9.freeAt now
          have HS8 := Lib.hid (HS6.out.put9 now k)
          rw [p1] at HS8
          have Hk := Lib.hid hkx
          have E1 := Lib.hid e1
          have E2 := Lib.hid e2
          have E5 := Lib.hid e5
          have E6 := Lib.hid e6
          have E7 := Lib.hid e7
          obtain ⟨tp, tc⟩ := t
          obtain ⟨t1, t2, t3⟩ := HM.out.at_ e1
          simp only at t1 t2 t3
          clear HS6 hall hkx hpx p1 p2 e1 e2 e4 e5 e6 e7
          go_upto_region 17 with fail
          clear c9 f9
          replace HS8 : Hid (RunV w (w7.setCell ⟨g9, now, none⟩ (.int .i64 (k : Int))) n N d8 g8 g9 g10 g11 (firstL M now) (ranTo M N (now + 1)) (natL (leftL M (didL M now) (now + 1))) (natL (didL M now))) := HS8
          generalize w7.setCell ⟨g9, now, none⟩ (.int .i64 (k : Int)) = w8 at *
          have c10 := HS8.out.o10.cellAt Hk.out
          have f10 := HS8.out.o10.freeAt k
          have HS9 := Lib.hid (HS8.out.put10 k (x' : Int))
          rw [natL_set, ← E6.out] at HS9
          clear HS8
          have hw1 : (((x' + 1 : Nat) : Int)) - 1 = (x' : Int) := by omega
          go_upto_region 18 with fail
          clear c10 f10
          replace HS9 : Hid (RunV w (w8.setCell ⟨g10, k, none⟩ (.int .i64 (x' : Int))) n N d8 g8 g9 g10 g11 (firstL M now) (ranTo M N (now + 1)) (natL (leftL M (didL M (now + 1)) (now + 1))) (natL (didL M now))) := HS9
          generalize w8.setCell ⟨g10, k, none⟩ (.int .i64 (x' : Int)) = w9 at *
          have c11 := HS9.out.o11.cellAt (natL_at E2.out)
          have f11 := HS9.out.o11.freeAt k
          have HS10 := Lib.hid (HS9.out.put11 k ((d : Int) + 1))
          rw [show (natL (didL M now)).set k ((d : Int) + 1) = natL (didL M (now + 1)) by rw [E5.out, ← natL_set]; rfl] at HS10
          clear HS9
          go_upto_region 19 with fail
          clear c11 f11
          replace HS10 : Hid (RunV w (w9.setCell ⟨g11, k, none⟩ (.int .i64 ((d : Int) + 1))) n N d8 g8 g9 g10 g11 (firstL M now) (ranTo M N (now + 1)) (natL (leftL M (didL M (now + 1)) (now + 1))) (natL (didL M (now + 1)))) := HS10
          generalize w9.setCell ⟨g11, k, none⟩ (.int .i64 ((d : Int) + 1)) = w10 at *
          have hkd : (didL M (now + 1))[k]? = some (d + 1) := by rw [E5.out, List.getElem?_set_self (List.getElem?_eq_some_iff.1 E2.out).1]
          have c11 : w10.cell? ⟨g11, k, none⟩ = some (.int .i64 ((d : Int) + 1)) := HS10.out.o11.cellAt (natL_at hkd)
          have hrd := h.below HS10.out.bel
          obtain ⟨ad, tp', tc', rfl, hx, hc0, hc1⟩ := tk_at hrd hkn
          rw [E1.out] at hx
          cases hx
          clear hrd hkd hc0
          by_cases heq : tc = d + 1
          · rw [if_pos heq] at E7
            have hcmp : (((d : Int) + 1) == (tc : Int)) = true := by simp; omega
            obtain ⟨z, hz⟩ : ∃ z, (firstL M now)[k]? = some z := ⟨_, List.getElem?_eq_getElem (show k < (firstL M now).length by rw [first_length, Hl.out]; exact hkn)⟩
            have c8 := HS10.out.o8.cellAt hz
            have f8 := HS10.out.o8.freeAt k
            have HS11 := Lib.hid (fun q => (HS10.out.drewN q).put8 k ((now : Int) + 1))
            rw [← E7.out] at HS11
            clear heq hz HS10
            go_wp2
            go_quiet (fail)
            go_wp2
            go_roundw
            case rel => exact ⟨now + 1, by omega, by go_num, HS11.out _⟩
            case measure => simp [intOf] <;> omega
          · have hne : (((d : Int) + 1) == (tc : Int)) = false := by simp; omega
            rw [if_neg heq] at E7
            rw [← E7.out] at HS10
            clear heq
            go_wp2
            go_quiet (fail)
            go_wp2
            go_roundw
            case rel => exact ⟨now + 1, by omega, by go_num, HS10.out.drewN _⟩
            case measure => simp [intOf] <;> omega
      · obtain rfl : now = N := by omega
        have r8 := HS.out.o8.rd
        have r9 := HS.out.o9.rd
        have hb := HS.out.bel
        have H8 := Lib.hid r8
        have H9 := Lib.hid r9
        clear HS r8 r9
        go_wp2
        go_ret3
        refine ⟨.inr ⟨M, now, some ⟨g8, 0, none⟩, some ⟨g9, 0, none⟩, d8, now, rfl, HM.out, rfl, hN, by rw [Hl.out]; rfl, by rw [Hl.out]; exact H8.out, ?_⟩, hb⟩
        have := H9.out
        simpa [ranTo] using this
  · rw [errK_two hw] at HW
    go_enter Try.func9, Try.ntmps9
    go_wp2_with fail
    refine HW.out.mono ?_
    rintro e w1 ⟨rfl, hb1⟩
    go_wp2
    go_ret3
    exact ⟨.inl ⟨.inl hw, rfl⟩, hb1⟩
end Go.Proofs.Ytiejgmkbhjnceaa
