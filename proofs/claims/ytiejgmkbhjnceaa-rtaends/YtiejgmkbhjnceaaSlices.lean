/-
  Contracts of functions of package slices at the types that the laws use. No statement of the seat is here.
-/
import Derived.Test.YtiejgmkbhjnceaaTypes
import Derived.Test.YtiejgmkbhjnceaaWide
import Derived.BigQuiet
import Derived.Deep.QuietTactic
namespace Go.Proofs.Ytiejgmkbhjnceaa
open Go.RowKit
set_option linter.unusedVariables false

set_option maxHeartbeats 400000 in
/-- slices.Equal: EqualI_any: lists of Int, as Value.int .i64. -/
theorem EqualI_any (A B : Option Addr) (n c m d : Nat) (l l' : List Int) (w : World) (h : Rd w 1 A n (l.map (Value.int .i64))) (h' : Rd w 1 B m (l'.map (Value.int .i64))) (hn : n ≤ 4611686018427387904) :
    Calls Try.prog 13 #[.slice A n c, .slice B m d] w fun e w' => e = .returned (.bool (decide (l = l'))) ∧ ∃ q, w' = w.drewN q := by
  have hl := h.lenMap
  have hl' := h'.lenMap
  by_cases hnm : n = m
  · subst hnm
    have Hl := Lib.hid hl; clear hl
    have Hl' := Lib.hid hl'; clear hl'
    go_enter Try.func13, Try.ntmps13
    go_wp2
    go_loopw [13] (fun i wr => ∃ k : Nat, k ≤ n ∧ i = .int .i64 k ∧ l.take k = l'.take k ∧ ∃ q, wr = w.drewN q) (fun i _ => n - (intOf i).toNat)
    case atStart => exact ⟨0, Nat.zero_le _, rfl, rfl, 0, rfl⟩
    case round =>
      obtain ⟨k, hk, rfl, htk, q, rfl⟩ := hrel
      have Htk := Lib.hid htk; clear htk
      by_cases hlt : k < n
      · obtain ⟨ad, x, rfl, hx, hc⟩ := h.atMap hlt
        obtain ⟨ad', x', rfl, hx', hc'⟩ := h'.atMap hlt
        have Hx := Lib.hid hx; clear hx
        have Hx' := Lib.hid hx'; clear hx'
        by_cases hxx : x = x'
        · subst hxx
          go_wp2
          go_quiet (fail)
          go_wp2
          go_roundw
          case rel => exact ⟨k + 1, by omega, by go_num, by rw [take_snoc Hx.out, take_snoc Hx'.out, Htk.out], _, rfl⟩
          case measure => simp [intOf] <;> omega
        · have hne : (x != x') = true := by simp [hxx]
          have hne2 : (x == x') = false := by simp [hxx]
          have Hxx := Lib.hid hxx; clear hxx
          go_wp2
          go_quiet (fail)
          go_wp2
          go_ret
          refine ⟨ret_bool ?_, _, World.drewN_drewN _ _ _⟩
          rw [eq_comm, decide_eq_false_iff_not]
          intro e
          subst e
          exact Hxx.out (Option.some.inj (Hx.out.symm.trans Hx'.out))
      · have hnk : k = n := by omega
        subst hnk
        go_wp2
        go_ret
        refine ⟨ret_bool ?_, _, rfl⟩
        have e := Htk.out
        rw [List.take_of_length_le (by rw [Hl.out]; exact Nat.le_refl _), List.take_of_length_le (by rw [Hl'.out]; exact Nat.le_refl _)] at e
        simp [e]
  · have hne : ((n : Int) != (m : Int)) = true := by rw [bne_iff_ne]; omega
    have Hd : Hid (decide (l = l') = false) := by
      show _ = _
      rw [decide_eq_false_iff_not]
      intro e
      subst e
      exact hnm (hl.symm.trans hl')
    clear hl hl' hnm
    go_enter Try.func13, Try.ntmps13
    go_wp2
    go_ret
    exact ⟨ret_bool Hd.out.symm, 0, rfl⟩

theorem EqualI_any_same (A B : Option Addr) (n c m d : Nat) (l : List Int) (w : World) (h : Rd w 1 A n (l.map (Value.int .i64))) (h' : Rd w 1 B m (l.map (Value.int .i64))) (hn : n ≤ 4611686018427387904) :
    Calls Try.prog 13 #[.slice A n c, .slice B m d] w fun e w' => e = .returned (.bool true) ∧ Below w.heap.size w w' := by
  refine (EqualI_any A B n c m d l l w h h' hn).mono ?_
  rintro e w' ⟨rfl, hq⟩
  exact ⟨by simp, below_draws hq⟩
end Go.Proofs.Ytiejgmkbhjnceaa
