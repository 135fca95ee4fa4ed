/-
  Contracts of slots' functions Right, check, starts, Share, for every input.
-/
import Derived.Test.YtgngpcailjocoaaSlotsMath
import Derived.Test.YtgngpcailjocoaaWide
namespace Go.Proofs.Ytgngpcailjocoaa
open Go.RowKit
set_option linter.unusedVariables false

theorem drop_cell {L : List Slt} {k : Nat} {s : Slt} (h : L[k]? = some s) : L.drop k = s :: L.drop (k + 1) := drop_cons h

theorem rightFrom_false {P e : Int} {s : Slt} {r : List Slt} (h : ¬ (0 ≤ s.nd ∧ s.nd < 16 ∧ 1 ≤ s.lg ∧ e ≤ s.fr ∧ s.lg ≤ P - s.fr)) : rightFrom P e (s :: r) = false := by
  rw [rightFrom, decide_eq_false h]; rfl

set_option maxHeartbeats 400000 in
theorem Right_any (P : Int) (hP : in64 P) (A : Option Addr) (n c : Nat) (L : List Slt) (w : World) (h : RdS w A n L) (hL : ∀ s ∈ L, s.Ok) (hn : n ≤ 140737488355328) :
    Calls Try.prog 22 #[.int .i64 P, .slice A n c] w fun e w' => e = .returned (.bool (rightM P L)) ∧ Below w.heap.size w w' := by
  have Hl := Lib.hid h.lenS
  by_cases hin : 1 ≤ P ∧ P ≤ 1048576 ∧ n ≤ 400
  · obtain ⟨hp1, hp2, hn4⟩ := hin
    have HR : Hid (rightM P L = rightFrom P 0 L) := by show _ = _; rw [rightM, Hl.out, decide_eq_true (by omega)]; rfl
    go_enter Try.func22, Try.ntmps22
    go_wp2
    go_loopw [5, 21] (fun v i wr => ∃ (k : Nat) (e : Int), k ≤ n ∧ i = .int .i64 k ∧ v = .int .i64 e ∧ 0 ≤ e ∧ e ≤ P ∧ rightFrom P 0 L = rightFrom P e (L.drop k) ∧ Below w.heap.size w wr) (fun _ i _ => n - (intOf i).toNat)
    case atStart => exact ⟨0, 0, Nat.zero_le _, rfl, rfl, Int.le_refl _, by omega, rfl, Below.refl _ _⟩
    case round =>
      obtain ⟨k, e, hk, rfl, rfl, he0, he1, hacc, hbl⟩ := hrel
      have Hacc := Lib.hid hacc; clear hacc
      by_cases hlt : k < n
      · obtain ⟨ad, nd, fr, lg, rfl, hx, hc0, hc1, hc2⟩ := (h.below hbl).atS hlt
        have Hx := Lib.hid (drop_cell hx)
        obtain ⟨⟨a1, a2⟩, ⟨b1, b2⟩, c1, c2⟩ := hL _ (List.mem_of_getElem? hx)
        clear hx
        simp only at a1 a2 b1 b2 c1 c2
        by_cases h1 : 0 ≤ nd ∧ nd < 16 ∧ 1 ≤ lg ∧ e ≤ fr
        · obtain ⟨g1, g2, g3, g4⟩ := h1
          by_cases h2 : lg ≤ P - fr
          · go_wp2
            go_roundw
            case rel =>
              refine ⟨k + 1, fr + lg, by omega, by go_num, by go_num, by omega, by omega, ?_, ?_⟩
              · rw [Hacc.out, Hx.out, rightFrom, decide_eq_true (by simp only; omega)]; rfl
              · exact hbl.alloc hbl.size _
            case measure => simp [intOf] <;> omega
          · go_wp2
            go_ret
            refine ⟨ret_bool (by rw [HR.out, Hacc.out, Hx.out, rightFrom_false (by simp only; omega)]), hbl.alloc hbl.size _⟩
        · have Hf : Hid (rightFrom P 0 L = false) := by show _ = _; rw [Hacc.out, Hx.out, rightFrom_false (by simp only; omega)]
          have hfin : ∀ w', Below w.heap.size w w' → (Ending.returned (.bool false) = .returned (.bool (rightM P L)) ∧ Below w.heap.size w w') := fun w' hb => ⟨ret_bool (by rw [HR.out, Hf.out]), hb⟩
          by_cases g1 : 0 ≤ nd
          · by_cases g2 : nd < 16
            · by_cases g3 : 1 ≤ lg
              · have g4 : fr < e := by omega
                clear h1
                go_wp2
                go_ret
                exact hfin _ (hbl.alloc hbl.size _)
              · clear h1
                go_wp2
                go_ret
                exact hfin _ (hbl.alloc hbl.size _)
            · clear h1
              go_wp2
              go_ret
              exact hfin _ (hbl.alloc hbl.size _)
          · clear h1
            go_wp2
            go_ret
            exact hfin _ (hbl.alloc hbl.size _)
      · obtain rfl : k = n := by omega
        go_wp2
        go_ret
        refine ⟨ret_bool (by rw [HR.out, Hacc.out, List.drop_eq_nil_of_le (by rw [Hl.out]; exact Nat.le_refl _)]; rfl), hbl⟩
  · have HR : Hid (rightM P L = false) := by show _ = _; rw [rightM, Hl.out, decide_eq_false hin]; rfl
    have hfin : ∀ w', Below w.heap.size w w' → (Ending.returned (.bool false) = .returned (.bool (rightM P L)) ∧ Below w.heap.size w w') := fun w' hb => ⟨ret_bool HR.out.symm, hb⟩
    by_cases g1 : 1 ≤ P
    · by_cases g2 : P ≤ 1048576
      · have g3 : 400 < n := by omega
        clear hin
        go_enter Try.func22, Try.ntmps22
        go_wp2
        go_ret
        exact hfin _ (Below.refl _ _)
      · clear hin
        go_enter Try.func22, Try.ntmps22
        go_wp2
        go_ret
        exact hfin _ (Below.refl _ _)
    · clear hin
      go_enter Try.func22, Try.ntmps22
      go_wp2
      go_ret
      exact hfin _ (Below.refl _ _)

theorem checkM_no {P : Int} {L : List Slt} (t : Int) (h : rightM P L = false) : checkM P L t = 1 := by rw [checkM, h]; rfl
theorem checkM_out {P t : Int} {L : List Slt} (h : rightM P L = true) (ht : t < 0 ∨ t > 1099511627776) : checkM P L t = 2 := by rw [checkM, if_pos h, if_pos ht]
theorem checkM_ok {P t : Int} {L : List Slt} (h : rightM P L = true) (h0 : 0 ≤ t) (h1 : t ≤ 1099511627776) : checkM P L t = 0 := by rw [checkM, if_pos h, if_neg (by omega)]
theorem checkM_zero {P t : Int} {L : List Slt} (h : checkM P L t = 0) : rightM P L = true ∧ 0 ≤ t ∧ t ≤ 1099511627776 := by
  cases hR : rightM P L
  · rw [checkM_no t hR] at h; cases h
  · by_cases h1 : t < 0 ∨ t > 1099511627776
    · rw [checkM_out hR h1] at h; cases h
    · exact ⟨rfl, by omega, by omega⟩

set_option maxHeartbeats 400000 in
theorem check_any (P : Int) (hP : in64 P) (A : Option Addr) (n c : Nat) (L : List Slt) (t : Int) (ht : in64 t) (w : World) (h : RdS w A n L) (hL : ∀ s ∈ L, s.Ok) (hn : n ≤ 140737488355328) :
    Calls Try.prog 21 #[.int .i64 P, .slice A n c, .int .i64 t] w fun e w' => e = .returned (.int .i64 (checkM P L t)) ∧ Below w.heap.size w w' := by
  obtain ⟨t0, t1⟩ := ht
  have Hc := Lib.hid (Right_any P hP A n c L w h hL hn)
  cases hR : rightM P L
  · rw [hR] at Hc
    rw [checkM_no t hR]
    clear hR
    go_enter Try.func21, Try.ntmps21
    go_wp2_with fail
    refine Hc.out.mono ?_
    rintro e w1 ⟨rfl, hb⟩
    go_wp2
    go_ret
    exact ⟨rfl, hb⟩
  · rw [hR] at Hc
    by_cases h1 : t < 0
    · rw [checkM_out hR (.inl h1)]
      clear hR
      go_enter Try.func21, Try.ntmps21
      go_wp2_with fail
      refine Hc.out.mono ?_
      rintro e w1 ⟨rfl, hb⟩
      go_wp2
      go_ret
      exact ⟨rfl, hb⟩
    · by_cases h2 : t > 1099511627776
      · rw [checkM_out hR (.inr h2)]
        clear hR
        go_enter Try.func21, Try.ntmps21
        go_wp2_with fail
        refine Hc.out.mono ?_
        rintro e w1 ⟨rfl, hb⟩
        go_wp2
        go_ret
        exact ⟨rfl, hb⟩
      · rw [checkM_ok hR (by omega) (by omega)]
        clear hR
        go_enter Try.func21, Try.ntmps21
        go_wp2_with fail
        refine Hc.out.mono ?_
        rintro e w1 ⟨rfl, hb⟩
        go_wp2
        go_ret
        exact ⟨rfl, hb⟩

theorem starts_snoc (node : Int) (L : List Slt) (s : Slt) : startsM node (L ++ [s]) = startsM node L ++ (if s.nd = node then [s.fr] else []) := by
  induction L with
  | nil => simp [startsM]
  | cons x r ih =>
    rw [List.cons_append, startsM, startsM, ih]
    split <;> rfl
theorem starts_len (node : Int) (L : List Slt) : (startsM node L).length ≤ L.length := by
  induction L with
  | nil => simp [startsM]
  | cons x r ih =>
    rw [startsM, List.length_cons]
    split
    · rw [List.length_cons]; omega
    · omega


theorem share_snoc (node : Int) (L : List Slt) (s : Slt) : shareS node (L ++ [s]) = shareS node L + (if s.nd = node then s.lg else 0) := by
  induction L with
  | nil => simp [shareS]
  | cons x r ih => rw [List.cons_append, shareS, shareS, ih]; omega
theorem share_range {P e node : Int} {L : List Slt} (h : rightFrom P e L = true) (he : e ≤ P) : 0 ≤ shareS node L ∧ shareS node L ≤ P - e := by
  induction L generalizing e with
  | nil => simp only [shareS]; omega
  | cons x r ih =>
    obtain ⟨⟨h1, h2, h3, h4, h5⟩, hr⟩ := rightFrom_cons.1 h
    obtain ⟨g1, g2⟩ := ih hr (by omega)
    rw [shareS]
    split <;> omega
theorem right_take {P e : Int} {L : List Slt} (h : rightFrom P e L = true) (k : Nat) : rightFrom P e (L.take k) = true := by
  induction L generalizing e k with
  | nil => simp [rightFrom]
  | cons x r ih =>
    cases k with
    | zero => rfl
    | succ k =>
      obtain ⟨h1, hr⟩ := rightFrom_cons.1 h
      rw [List.take_succ_cons]
      exact rightFrom_cons.2 ⟨h1, ih hr k⟩
theorem shareM_no {P : Int} {L : List Slt} (node : Int) (h : rightM P L = false) : shareM P L node = (0, 1) := by rw [shareM, h]; rfl
theorem shareM_yes {P : Int} {L : List Slt} (node : Int) (h : rightM P L = true) : shareM P L node = (shareS node L, 0) := by rw [shareM, h]; rfl

end Go.Proofs.Ytgngpcailjocoaa
