/-
  Contracts of package member: isNode, isCount, bit, has, Right, for every input.
-/
import Derived.Test.YtnmoddknghcobaaMemberTypes
import Derived.Test.YtnmoddknghcobaaBits16
import Derived.Test.YtnmoddknghcobaaRegion
import Derived.Test.YtnmoddknghcobaaBox
import Derived.Deep.QuietTactic
import Derived.BigQuiet
namespace Go.Proofs.Ytnmoddknghcobaa
open Go.RowKit
set_option linter.unusedVariables false

def nodeB (x : Int) : Bool := decide (0 ≤ x ∧ x < 16)
def cntB (x : Int) : Bool := decide (0 ≤ x ∧ x ≤ 400)
theorem one_lt16 {k : Nat} (hk : k < 16) : 1 <<< k < 65536 := by rw [Nat.one_shiftLeft]; exact Nat.pow_lt_pow_right (by decide) hk
theorem not_zero16 (a : Nat) : (((a : Nat) : Int) != 0) = !decide (a = 0) := by
  by_cases h : a = 0 <;> simp [h]
theorem below_1 {w : World} (o : Obj) : Below w.heap.size w (w.alloc o) := (Below.refl _ _).alloc (Nat.le_refl _) o
theorem below_2 {w : World} (o o' : Obj) : Below w.heap.size w ((w.alloc o).alloc o') := below_new (below_1 o')

theorem isNode_any (x : Int) (w : World) : Calls Try.prog 21 #[.int .i64 x] w fun e w' => e = .returned (.bool (nodeB x)) ∧ w' = w := by
  by_cases h1 : 0 ≤ x
  · by_cases h2 : x < 16
    · rw [show nodeB x = true from decide_eq_true ⟨h1, h2⟩]
      go_enter Try.func21, Try.ntmps21
      go_wp2
      go_ret
      exact ⟨ret_bool (by simp <;> omega), rfl⟩
    · rw [show nodeB x = false from decide_eq_false (by omega)]
      go_enter Try.func21, Try.ntmps21
      go_wp2
      go_ret
      exact ⟨ret_bool (by simp <;> omega), rfl⟩
  · rw [show nodeB x = false from decide_eq_false (by omega)]
    go_enter Try.func21, Try.ntmps21
    go_wp2
    go_ret
    exact ⟨ret_bool (by simp), rfl⟩
theorem isCount_any (x : Int) (w : World) : Calls Try.prog 23 #[.int .i64 x] w fun e w' => e = .returned (.bool (cntB x)) ∧ w' = w := by
  by_cases h1 : 0 ≤ x
  · by_cases h2 : x ≤ 400
    · rw [show cntB x = true from decide_eq_true ⟨h1, h2⟩]
      go_enter Try.func23, Try.ntmps23
      go_wp2
      go_ret
      exact ⟨ret_bool (by simp <;> omega), rfl⟩
    · rw [show cntB x = false from decide_eq_false (by omega)]
      go_enter Try.func23, Try.ntmps23
      go_wp2
      go_ret
      exact ⟨ret_bool (by simp <;> omega), rfl⟩
  · rw [show cntB x = false from decide_eq_false (by omega)]
    go_enter Try.func23, Try.ntmps23
    go_wp2
    go_ret
    exact ⟨ret_bool (by simp), rfl⟩
theorem bit_any (k : Nat) (hk : k < 16) (w : World) : Calls Try.prog 31 #[.int .i64 (k : Int)] w fun e w' => e = .returned (.int .u16 ((1 <<< k : Nat) : Int)) ∧ w' = w := by
  have H := Lib.hid (shl16 hk)
  rw [Int.one_mul] at H
  go_enter Try.func31, Try.ntmps31
  go_wp2
  go_ret
  exact ⟨ret_int H.out, rfl⟩
theorem has_any (v k : Nat) (hv : v < 65536) (hk : k < 16) (w : World) : Calls Try.prog 26 #[.int .u16 (v : Int), .int .i64 (k : Int)] w fun e w' => e = .returned (.bool (hasB v k)) ∧ w' = w := by
  have C := Lib.hid (bit_any k hk w)
  have hb : 1 <<< k < 65536 := one_lt16 hk
  have H := Lib.hid (u16_and hv hb)
  have Hb := Lib.hid (and_bit v k)
  generalize 1 <<< k = b at *
  go_enter Try.func26, Try.ntmps26
  go_wp2_with fail
  refine C.out.mono ?_
  rintro e w' ⟨rfl, rfl⟩
  clear C
  go_wp2
  go_ret
  refine ⟨ret_bool ?_, rfl⟩
  have e : decide (v &&& b = 0) = !hasB v k := by
    have := Hb.out
    cases hx : hasB v k <;> simp_all
  rw [H.out, not_zero16, e, Bool.not_not]

def rightB (own : Int) (m : Mem) : Bool := decide (Valid own m)
theorem right_cases (own : Int) (m : Mem) : (nodeB own = false ∧ rightB own m = false) ∨ (∃ k : Nat, own = k ∧ k < 16 ∧ nodeB (k : Int) = true ∧ ((cntB m.tk = false ∧ rightB own m = false) ∨ (cntB m.tk = true ∧ ((cntB m.ls = false ∧ rightB own m = false) ∨ (cntB m.ls = true ∧ rightB own m = (hasB m.vw k != m.ou)))))) := by
  by_cases h : nodeB own = true
  · have h' := of_decide_eq_true h
    obtain ⟨k, rfl⟩ : ∃ k : Nat, own = k := ⟨own.toNat, by omega⟩
    refine .inr ⟨k, rfl, by omega, h, ?_⟩
    by_cases h1 : cntB m.tk = true
    · have h1' := of_decide_eq_true h1
      refine .inr ⟨h1, ?_⟩
      by_cases h2 : cntB m.ls = true
      · have h2' := of_decide_eq_true h2
        refine .inr ⟨h2, ?_⟩
        have : rightB (k : Int) m = decide (hasB m.vw k = !m.ou) := decide_eq_decide.2 ⟨fun g => by have := g.2.2.2.2.2.2; rwa [Int.toNat_natCast] at this, fun g => ⟨h'.1, h'.2, h1'.1, h1'.2, h2'.1, h2'.2, by rw [Int.toNat_natCast]; exact g⟩⟩
        rw [this]
        cases hasB m.vw k <;> cases m.ou <;> rfl
      · refine .inl ⟨by simpa using h2, decide_eq_false fun g => h2 (decide_eq_true ⟨g.2.2.2.2.1, g.2.2.2.2.2.1⟩)⟩
    · refine .inl ⟨by simpa using h1, decide_eq_false fun g => h1 (decide_eq_true ⟨g.2.2.1, g.2.2.2.1⟩)⟩
  · refine .inl ⟨by simpa using h, decide_eq_false fun g => h (decide_eq_true ⟨g.1, g.2.1⟩)⟩
theorem Right_any (own : Int) (m : Mem) (hv : m.vw < 65536) (w : World) : Calls Try.prog 14 #[.int .i64 own, memV m] w fun e w' => e = .returned (.bool (rightB own m)) ∧ Below w.heap.size w w' := by
  have hc := right_cases own m
  generalize rightB own m = R at *
  obtain ⟨vw, tk, ls, ou⟩ := m
  simp only at hv hc
  rcases hc with ⟨hn, rfl⟩ | ⟨k, rfl, hk, hn, hc⟩
  · have C := Lib.hid (fun (W : World) => isNode_any own W)
    rw [hn] at C
    clear hn
    go_enter Try.func14, Try.ntmps14
    go_wp2
    go_quiet (first | (go_at_call 21; refine Calls.quiet_of_same (C.out _)))
    go_wp2
    go_ret
    exact ⟨rfl, bthen (below_1 _) (below_draws ⟨_, rfl⟩)⟩
  · have C := Lib.hid (fun (W : World) => isNode_any (k : Int) W)
    rw [hn] at C
    clear hn
    have C1 := Lib.hid (fun (W : World) => isCount_any tk W)
    rcases hc with ⟨h1, rfl⟩ | ⟨h1, hc⟩
    · rw [h1] at C1
      clear h1
      go_enter Try.func14, Try.ntmps14
      go_wp2
      go_quiet (first | (go_at_call 21; refine Calls.quiet_of_same (C.out _)) | (go_at_call 23; refine Calls.quiet_of_same (C1.out _)))
      go_wp2
      go_ret
      exact ⟨rfl, bthen (below_1 _) (below_draws ⟨_, rfl⟩)⟩
    · rw [h1] at C1
      clear h1
      have C2 := Lib.hid (fun (W : World) => isCount_any ls W)
      rcases hc with ⟨h2, rfl⟩ | ⟨h2, rfl⟩
      · rw [h2] at C2
        clear h2
        go_enter Try.func14, Try.ntmps14
        go_wp2
        go_quiet (first | (go_at_call 21; refine Calls.quiet_of_same (C.out _)) | (go_at_call 23; (first | (with_reducible refine Calls.quiet_of_same (C1.out _)) | (refine Calls.quiet_of_same (C2.out _)))))
        go_wp2
        go_ret
        exact ⟨rfl, bthen (below_1 _) (below_draws ⟨_, rfl⟩)⟩
      · rw [h2] at C2
        clear h2
        have C3 := Lib.hid (fun (W : World) => has_any vw k hv hk W)
        generalize hasB vw k = b at *
        go_enter Try.func14, Try.ntmps14
        go_wp2
        go_quiet (first | (go_at_call 21; refine Calls.quiet_of_same (C.out _)) | (go_at_call 23; (first | (with_reducible refine Calls.quiet_of_same (C1.out _)) | (refine Calls.quiet_of_same (C2.out _)))) | (go_at_call 26; refine Calls.quiet_of_same (C3.out _)))
        go_wp2
        go_ret
        exact ⟨rfl, bthen (below_1 _) (below_draws ⟨_, rfl⟩)⟩
end Go.Proofs.Ytnmoddknghcobaa
