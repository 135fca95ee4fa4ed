import Derived.Test.YtaolomdfaioglaaBitWalks2
namespace Go.Proofs.Ytaolomdfaioglaa
open Go.RowKit
set_option linter.unusedVariables false

set_option maxHeartbeats 400000 in
/-- slices.Equal: EqualB_any: lists of Bool, as Value.bool. -/
theorem EqualB_any (A B : Option Addr) (n c m d : Nat) (l l' : List Bool) (w : World) (h : Rd w 1 A n (l.map (Value.bool))) (h' : Rd w 1 B m (l'.map (Value.bool))) (hn : n ≤ 140737488355328) :
    Calls Try.prog 12 #[.slice A n c, .slice B m d] w fun e w' => e = .returned (.bool (decide (l = l'))) ∧ ∃ q, w' = w.drewN q := by
  have hl := h.lenMap
  have hl' := h'.lenMap
  by_cases hnm : n = m
  · subst hnm
    have Hl := Lib.hid hl; clear hl
    have Hl' := Lib.hid hl'; clear hl'
    go_enter Try.func12, Try.ntmps12
    go_wp2
    go_loopw [13] (fun i wr => ∃ k : Nat, k ≤ n ∧ i = .int .i64 k ∧ l.take k = l'.take k ∧ ∃ q, wr = w.drewN q) (fun i _ => n - (intOf i).toNat)
    case atStart => exact ⟨0, Nat.zero_le _, rfl, rfl, 0, rfl⟩
    case round =>
      obtain ⟨k, hk, rfl, htk, q, rfl⟩ := hrel
      have Htk := Lib.hid htk; clear htk
      by_cases hlt : k < n
      · obtain ⟨ad, x, rfl, hx, hc⟩ := h.atMap hlt
        obtain ⟨ad', x', rfl, hx', hc'⟩ := h'.atMap hlt
        have Hx := Lib.hid hx; clear hx
        have Hx' := Lib.hid hx'; clear hx'
        by_cases hxx : x = x'
        · subst hxx
          go_wp2
          go_quiet (fail)
          go_wp2
          go_roundw
          case rel => exact ⟨k + 1, by omega, by go_num, by rw [take_snoc Hx.out, take_snoc Hx'.out, Htk.out], _, rfl⟩
          case measure => simp [intOf] <;> omega
        · have hne : (x != x') = true := by simp [hxx]
          have hne2 : (x == x') = false := by simp [hxx]
          have Hxx := Lib.hid hxx; clear hxx
          go_wp2
          go_quiet (fail)
          go_wp2
          go_ret
          refine ⟨ret_bool ?_, _, World.drewN_drewN _ _ _⟩
          rw [eq_comm, decide_eq_false_iff_not]
          intro e
          subst e
          exact Hxx.out (Option.some.inj (Hx.out.symm.trans Hx'.out))
      · have hnk : k = n := by omega
        subst hnk
        go_wp2
        go_ret
        refine ⟨ret_bool ?_, _, rfl⟩
        have e := Htk.out
        rw [List.take_of_length_le (by rw [Hl.out]; exact Nat.le_refl _), List.take_of_length_le (by rw [Hl'.out]; exact Nat.le_refl _)] at e
        simp [e]
  · have hne : ((n : Int) != (m : Int)) = true := by rw [bne_iff_ne]; omega
    have Hd : Hid (decide (l = l') = false) := by
      show _ = _
      rw [decide_eq_false_iff_not]
      intro e
      subst e
      exact hnm (hl.symm.trans hl')
    clear hl hl' hnm
    go_enter Try.func12, Try.ntmps12
    go_wp2
    go_ret
    exact ⟨ret_bool Hd.out.symm, 0, rfl⟩

set_option maxHeartbeats 400000 in
/-- slices.Equal: EqualI_any: lists of Int, as Value.int .i64. -/
theorem EqualI_any (A B : Option Addr) (n c m d : Nat) (l l' : List Int) (w : World) (h : Rd w 1 A n (l.map (Value.int .i64))) (h' : Rd w 1 B m (l'.map (Value.int .i64))) (hn : n ≤ 140737488355328) :
    Calls Try.prog 21 #[.slice A n c, .slice B m d] w fun e w' => e = .returned (.bool (decide (l = l'))) ∧ ∃ q, w' = w.drewN q := by
  have hl := h.lenMap
  have hl' := h'.lenMap
  by_cases hnm : n = m
  · subst hnm
    have Hl := Lib.hid hl; clear hl
    have Hl' := Lib.hid hl'; clear hl'
    go_enter Try.func21, Try.ntmps21
    go_wp2
    go_loopw [13] (fun i wr => ∃ k : Nat, k ≤ n ∧ i = .int .i64 k ∧ l.take k = l'.take k ∧ ∃ q, wr = w.drewN q) (fun i _ => n - (intOf i).toNat)
    case atStart => exact ⟨0, Nat.zero_le _, rfl, rfl, 0, rfl⟩
    case round =>
      obtain ⟨k, hk, rfl, htk, q, rfl⟩ := hrel
      have Htk := Lib.hid htk; clear htk
      by_cases hlt : k < n
      · obtain ⟨ad, x, rfl, hx, hc⟩ := h.atMap hlt
        obtain ⟨ad', x', rfl, hx', hc'⟩ := h'.atMap hlt
        have Hx := Lib.hid hx; clear hx
        have Hx' := Lib.hid hx'; clear hx'
        by_cases hxx : x = x'
        · subst hxx
          go_wp2
          go_quiet (fail)
          go_wp2
          go_roundw
          case rel => exact ⟨k + 1, by omega, by go_num, by rw [take_snoc Hx.out, take_snoc Hx'.out, Htk.out], _, rfl⟩
          case measure => simp [intOf] <;> omega
        · have hne : (x != x') = true := by simp [hxx]
          have hne2 : (x == x') = false := by simp [hxx]
          have Hxx := Lib.hid hxx; clear hxx
          go_wp2
          go_quiet (fail)
          go_wp2
          go_ret
          refine ⟨ret_bool ?_, _, World.drewN_drewN _ _ _⟩
          rw [eq_comm, decide_eq_false_iff_not]
          intro e
          subst e
          exact Hxx.out (Option.some.inj (Hx.out.symm.trans Hx'.out))
      · have hnk : k = n := by omega
        subst hnk
        go_wp2
        go_ret
        refine ⟨ret_bool ?_, _, rfl⟩
        have e := Htk.out
        rw [List.take_of_length_le (by rw [Hl.out]; exact Nat.le_refl _), List.take_of_length_le (by rw [Hl'.out]; exact Nat.le_refl _)] at e
        simp [e]
  · have hne : ((n : Int) != (m : Int)) = true := by rw [bne_iff_ne]; omega
    have Hd : Hid (decide (l = l') = false) := by
      show _ = _
      rw [decide_eq_false_iff_not]
      intro e
      subst e
      exact hnm (hl.symm.trans hl')
    clear hl hl' hnm
    go_enter Try.func21, Try.ntmps21
    go_wp2
    go_ret
    exact ⟨ret_bool Hd.out.symm, 0, rfl⟩


set_option maxHeartbeats 400000 in
theorem Clone_any (A : Option Addr) (n c : Nat) (l : List Bool) (w : World) (h : Rd w 1 A n (l.map Value.bool)) (hn : n ≤ 70368744177664) :
    Calls Try.prog 23 #[.slice A n c] w fun e w' => ∃ v, e = .returned v ∧ Ow Value.bool w' w.heap.size 4 v l ∧ Below w.heap.size w w' := by
  have hq := fun (W : World) => Lib.run_eql_slice_nil (P := Try.prog) W 22 4 A n c 0 0 Try.underlying22
  go_enter Try.func23, Try.ntmps23
  cases A with
  | none =>
    go_wp2
    go_ret
    have hn0 : n = 0 := by
      rcases Nat.eq_zero_or_pos n with h0 | h0
      · exact h0
      · obtain ⟨ad, e, _⟩ := h.2 h0; cases e
    obtain rfl : l = [] := List.eq_nil_of_length_eq_zero (h.lenMap.trans hn0)
    exact ⟨_, rfl, Ow.nil _ _ _ _, Below.refl _ _⟩
  | some ad =>
    go_wp2_with (at_builtin; go_must (refine wpList_apM Value.bool _ elBool rfl rfl one_bool w.heap.size (.slice (some ⟨w.heap.size, 0, none⟩) 0 0) [] rfl (Ow.none Value.bool _ _ (Nat.le_refl _)) _ _ _ l rfl (h.alloc _) (le_alloc (Nat.le_refl _)) (by simp <;> omega) (by omega) ?_; intro v1 w1 ho1 hm1))
    go_ret
    exact ⟨_, rfl, ho1, hm1.below ((Below.refl _ _).alloc (Nat.le_refl _) _) (le_alloc (Nat.le_refl _)) (new_block (Nat.le_refl _))⟩

set_option maxHeartbeats 400000 in
theorem Index_any (A : Option Addr) (n c : Nat) (l : List Bool) (b : Bool) (w : World) (h : Rd w 1 A n (l.map Value.bool)) (hn : n ≤ 70368744177664) :
    Calls Try.prog 28 #[.slice A n c, .bool b] w fun e w' => ∃ r : Int, e = .returned (.int .i64 r) ∧ (0 ≤ r ↔ b ∈ l) ∧ w = w' := by
  have Hl := Lib.hid h.lenMap
  go_enter Try.func28, Try.ntmps28
  go_wp2
  go_loop [8] (fun i => ∃ k : Nat, k ≤ n ∧ i = .int .i64 k ∧ b ∉ l.take k) (fun i => n - (intOf i).toNat)
  case atStart => exact ⟨0, Nat.zero_le _, rfl, by simp⟩
  case round =>
    obtain ⟨k, hk, rfl, hni⟩ := hrel
    have Hni := Lib.hid hni; clear hni
    by_cases hlt : k < n
    · obtain ⟨ad, x, rfl, hx, hc⟩ := h.atMap hlt
      have Hx := Lib.hid hx; clear hx
      by_cases hxx : b = x
      · subst hxx
        go_wp2
        go_ret
        exact ⟨_, rfl, by simp; exact List.mem_of_getElem? Hx.out, rfl⟩
      · have hne : (b == x) = false := by simp [hxx]
        have Hxx := Lib.hid hxx; clear hxx
        go_wp2
        go_round
        case rel => exact ⟨k + 1, by omega, by go_num, by rw [take_snoc Hx.out, List.mem_append, List.mem_singleton]; exact fun h => h.elim Hni.out Hxx.out⟩
        case measure => simp [intOf] <;> omega
    · have hnk : k = n := by omega
      subst hnk
      go_wp2
      go_ret
      refine ⟨_, rfl, ?_, rfl⟩
      have e := Hni.out
      rw [List.take_of_length_le (by rw [Hl.out]; exact Nat.le_refl _)] at e
      simp [e]

theorem Contains_any (A : Option Addr) (n c : Nat) (l : List Bool) (b : Bool) (w : World) (h : Rd w 1 A n (l.map Value.bool)) (hn : n ≤ 70368744177664) :
    Calls Try.prog 24 #[.slice A n c, .bool b] w fun e w' => e = .returned (.bool (decide (b ∈ l))) ∧ w = w' := by
  go_enter Try.func24, Try.ntmps24
  go_wp2_with (go_at_call 28; refine (Index_any A n c l b w h hn).mono ?_; rintro e w' ⟨r, rfl, hr, rfl⟩)
  go_ret
  refine ⟨ret_bool ?_, rfl⟩
  by_cases hb : b ∈ l <;> simp [hb]
end Go.Proofs.Ytaolomdfaioglaa
