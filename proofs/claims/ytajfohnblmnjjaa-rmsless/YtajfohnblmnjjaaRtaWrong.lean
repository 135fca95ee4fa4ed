/-
  Contracts of rta.isWrong, Wrong, and of slices.IndexFunc and ContainsFunc at tasks; of the reference's SWrong. For every input.
-/
import Derived.Test.YtajfohnblmnjjaaRtaTypes
import Derived.Test.YtajfohnblmnjjaaSlices
import Derived.Shelf.Abstract
namespace Go.Proofs.Ytajfohnblmnjjaa
open Go.RowKit
set_option linter.unusedVariables false

set_option maxHeartbeats 800000 in
theorem isWrongK_any (p c : Int) (w : World) : Calls Try.prog 47 #[.agg #[.int .i64 p, .int .i64 c]] w fun e w' => e = .returned (.bool (badK ⟨p, c⟩)) ∧ Below w.heap.size w w' := by
  by_cases hok : 1 ≤ p ∧ p ≤ 10000 ∧ 1 ≤ c ∧ c ≤ p
  · obtain ⟨h1, h2, h3, h4⟩ := hok
    rw [badK_false (show Tsk.Fit ⟨p, c⟩ from ⟨h3, h4, h2⟩)]
    go_enter Try.func47, Try.ntmps47
    go_wp2
    go_ret
    exact ⟨ret_bool (by simp; omega), below_one _⟩
  · rw [badK_true (show ¬ Tsk.Fit ⟨p, c⟩ by unfold Tsk.Fit; simp only; omega)]
    have hc : p < 1 ∨ (1 ≤ p ∧ 10000 < p) ∨ (1 ≤ p ∧ p ≤ 10000 ∧ c < 1) ∨ (1 ≤ p ∧ p ≤ 10000 ∧ 1 ≤ c ∧ p < c) := by omega
    clear hok
    rcases hc with h1 | ⟨h1, h2⟩ | ⟨h1, h2, h3⟩ | ⟨h1, h2, h3, h4⟩
    all_goals
      go_enter Try.func47, Try.ntmps47
      go_wp2
      go_ret
      exact ⟨rfl, below_one _⟩
theorem enterWrongK : ∀ args w, (callFunc 47 args).run Try.prog w = .ok (.enter 47 args) w := enters_of Try.func47 (by kernel_rfl) rfl
/-- Called at each element of l, in whatever later world, the function gives p of it, and makes memory at most. -/
def PredK (g : Nat) (lb : Array Value) (p : Tsk → Bool) (l : List Tsk) (w : World) : Prop :=
  ∀ x ∈ l, ∀ W, Below w.heap.size w W → Calls Try.prog g (#[.agg #[.int .i64 x.p, .int .i64 x.c]] ++ lb) W fun e w' => e = .returned (.bool (p x)) ∧ Below W.heap.size W w'

set_option maxHeartbeats 800000 in
theorem IndexFuncK_any (g : Nat) (lb : Array Value) (eg : ∀ args w, (callFunc g args).run Try.prog w = .ok (.enter g args) w) (p : Tsk → Bool) (A : Option Addr) (n c : Nat) (l : List Tsk) (w : World) (h : RdG tskC 2 w A n l) (hp : PredK g lb p l w) (hn : n ≤ 4611686018427387904) :
    Calls Try.prog 68 #[.slice A n c, .func (.func g) #[] lb] w fun e w' => ∃ r : Int, e = .returned (.int .i64 r) ∧ ((r = -1 ∧ ∀ x ∈ l, p x = false) ∨ ∃ (k : Nat) (x : Tsk), r = k ∧ l[k]? = some x ∧ p x = true) ∧ Below w.heap.size w w' := by
  have Hl := Lib.hid (RdG.len tskK h)
  have Hp := Lib.hid hp; clear hp
  go_enter Try.func68, Try.ntmps68
  go_wp2
  go_loopw [8] (fun i wr => ∃ k : Nat, k ≤ n ∧ i = .int .i64 k ∧ (∀ x ∈ l.take k, p x = false) ∧ Below w.heap.size w wr) (fun i _ => n - (intOf i).toNat)
  case atStart => exact ⟨0, Nat.zero_le _, rfl, by simp, Below.refl _ _⟩
  case round =>
    obtain ⟨k, hk, rfl, hni, hbl⟩ := hrel
    have Hni := Lib.hid hni; clear hni
    by_cases hlt : k < n
    · obtain ⟨ad, ⟨tp, tc⟩, rfl, hx, hc0, hc1⟩ := tsk_at (h.below hbl) hlt
      have hcall := Hp.out _ (List.mem_of_getElem? hx) wr hbl
      have Hx := Lib.hid hx; clear hx
      simp only at hcall hc0 hc1
      cases hq : p ⟨tp, tc⟩ with
      | true =>
        rw [hq] at hcall
        have Hq := Lib.hid hq; clear hq
        go_wp2_with (go_at_fn g; refine hcall.mono ?_; rintro e w' ⟨rfl, hb'⟩)
        go_ret
        exact ⟨_, rfl, .inr ⟨k, _, rfl, Hx.out, Hq.out⟩, bthen hbl hb'⟩
      | false =>
        rw [hq] at hcall
        have Hq := Lib.hid hq; clear hq
        go_wp2_with (go_at_fn g; refine hcall.mono ?_; rintro e w' ⟨rfl, hb'⟩)
        go_roundw
        case rel =>
          refine ⟨k + 1, by omega, by go_num, ?_, bthen hbl hb'⟩
          rw [take_snoc Hx.out]
          intro y hy
          rcases List.mem_append.1 hy with h | h
          · exact Hni.out y h
          · rw [List.mem_singleton.1 h]; exact Hq.out
        case measure => simp [intOf] <;> omega
    · have hnk : k = n := by omega
      subst hnk
      go_wp2
      go_ret
      refine ⟨_, rfl, .inl ⟨rfl, ?_⟩, hbl⟩
      have e := Hni.out
      rwa [List.take_of_length_le (by rw [Hl.out]; exact Nat.le_refl _)] at e
theorem ContainsFuncK_any (g : Nat) (lb : Array Value) (eg : ∀ args w, (callFunc g args).run Try.prog w = .ok (.enter g args) w) (p : Tsk → Bool) (A : Option Addr) (n c : Nat) (l : List Tsk) (w : World) (h : RdG tskC 2 w A n l) (hp : PredK g lb p l w) (hn : n ≤ 4611686018427387904) :
    Calls Try.prog 46 #[.slice A n c, .func (.func g) #[] lb] w fun e w' => e = .returned (.bool (l.any p)) ∧ Below w.heap.size w w' := by
  have hI := IndexFuncK_any g lb eg p A n c l w h hp hn
  clear h hp
  go_enter Try.func46, Try.ntmps46
  go_wp2_with (go_at_call 68; refine hI.mono ?_; rintro e w' ⟨r, rfl, hr, hb⟩)
  go_ret
  refine ⟨ret_bool ?_, hb⟩
  rcases hr with ⟨rfl, hr⟩ | ⟨k, x, rfl, hx, hpx⟩
  · rw [List.any_eq_false.2 (fun x hx => by simp [hr x hx])]; rfl
  · rw [List.any_eq_true.2 ⟨x, List.mem_of_getElem? hx, hpx⟩]; simp

set_option maxHeartbeats 800000 in
theorem WrongK_any (A : Option Addr) (n c : Nat) (L : List Tsk) (w : World) (h : RdG tskC 2 w A n L) (hn : n ≤ 4611686018427387904) :
    Calls Try.prog 22 #[.slice A n c] w fun e w' => e = .returned (.int .i64 (errK L)) ∧ Below w.heap.size w w' := by
  have Hl := Lib.hid (RdG.len tskK h)
  by_cases h16 : 16 < n
  · have hd : decide ((n : Int) > 16) = true := decide_eq_true (by omega)
    rw [errK_two (L := L) (by unfold wrongK; rw [Hl.out, decide_eq_true h16]; rfl)]
    go_enter Try.func22, Try.ntmps22
    go_wp2
    go_ret
    exact ⟨rfl, Below.refl _ _⟩
  · have hd : decide ((n : Int) > 16) = false := decide_eq_false (by omega)
    have HC := Lib.hid (ContainsFuncK_any 47 #[] enterWrongK badK A n c L w h (fun x _ W' _ => isWrongK_any x.p x.c W') hn)
    have hw : wrongK L = L.any badK := by unfold wrongK; rw [Hl.out, decide_eq_false h16]; rfl
    cases ha : L.any badK
    · rw [ha] at HC hw
      rw [errK_zero hw]
      clear ha hw
      go_enter Try.func22, Try.ntmps22
      go_wp2_with fail
      refine HC.out.mono ?_
      rintro e w2 ⟨rfl, hb2⟩
      go_wp2
      go_ret
      exact ⟨rfl, hb2⟩
    · rw [ha] at HC hw
      rw [errK_two hw]
      clear ha hw
      go_enter Try.func22, Try.ntmps22
      go_wp2_with fail
      refine HC.out.mono ?_
      rintro e w2 ⟨rfl, hb2⟩
      go_wp2
      go_ret
      exact ⟨rfl, hb2⟩

set_option maxHeartbeats 800000 in
theorem SWrong_any (A : Option Addr) (n c : Nat) (L : List Tsk) (w : World) (h : RdG tskC 2 w A n L) (hn : n ≤ 4611686018427387904) :
    Calls Try.prog 13 #[.slice A n c] w fun e w' => e = .returned (.int .i64 (errK L)) ∧ Below w.heap.size w w' := by
  have Hl := Lib.hid (RdG.len tskK h)
  go_enter Try.func13, Try.ntmps13
  go_wp2
  go_loopw [3, 11] (fun v i wr => ∃ (k : Nat) (b : Bool), k ≤ n ∧ i = .int .i64 k ∧ v = .bool b ∧ b = (decide (L.length ≤ 16) && (L.take k).all fun t => !badK t) ∧ Below w.heap.size w wr) (fun _ i _ => n - (intOf i).toNat)
  case atStart =>
    refine ⟨0, _, Nat.zero_le _, rfl, rfl, ?_, Below.refl _ _⟩
    simp [Hl.out]; omega
  case round =>
    obtain ⟨k, b, hk, rfl, rfl, hacc, hbl⟩ := hrel
    have Hacc := Lib.hid hacc; clear hacc
    by_cases hlt : k < n
    · obtain ⟨ad, ⟨p, t⟩, rfl, hx, hc0, hc1⟩ := tsk_at (h.below hbl) hlt
      have Hx : Hid (((decide (L.length ≤ 16) && (L.take (k + 1)).all fun t => !badK t)) = (b && !badK ⟨p, t⟩)) := by
        show _ = _
        rw [take_snoc hx, List.all_append, ← Bool.and_assoc, ← Hacc.out]; simp
      clear hx
      simp only at hc0 hc1
      cases b
      · go_wp2
        go_roundw
        case rel => exact ⟨k + 1, false, by omega, by go_num, rfl, by rw [Hx.out]; rfl, hbl.alloc hbl.size _⟩
        case measure => simp [intOf] <;> omega
      · have hc : (1 ≤ p ∧ p ≤ 10000 ∧ 1 ≤ t ∧ t ≤ p) ∨ p < 1 ∨ (1 ≤ p ∧ 10000 < p) ∨ (1 ≤ p ∧ p ≤ 10000 ∧ t < 1) ∨ (1 ≤ p ∧ p ≤ 10000 ∧ 1 ≤ t ∧ p < t) := by omega
        rcases hc with ⟨h1, h2, h3, h4⟩ | hc
        · have Hf : Hid (badK ⟨p, t⟩ = false) := badK_false ⟨h3, h4, h2⟩
          go_wp2
          go_roundw
          case rel => exact ⟨k + 1, true, by omega, by go_num, by simp <;> omega, by rw [Hx.out, Hf.out]; rfl, hbl.alloc hbl.size _⟩
          case measure => simp [intOf] <;> omega
        · have Hf : Hid (badK ⟨p, t⟩ = true) := badK_true (by unfold Tsk.Fit; simp only; omega)
          rcases hc with h1 | ⟨h1, h2⟩ | ⟨h1, h2, h3⟩ | ⟨h1, h2, h3, h4⟩
          all_goals
            go_wp2
            go_roundw
            case rel => exact ⟨k + 1, false, by omega, by go_num, by (first | rfl | (simp; omega)), by rw [Hx.out, Hf.out]; rfl, hbl.alloc hbl.size _⟩
            case measure => simp [intOf] <;> omega
    · obtain rfl : k = n := by omega
      have HR : Hid (b = !wrongK L) := by
        show _ = _
        rw [Hacc.out, List.take_of_length_le (by rw [Hl.out]; exact Nat.le_refl _)]
        unfold wrongK
        rw [Bool.not_or, List.not_any_eq_all_not]
        congr 1
        by_cases g : L.length ≤ 16
        · rw [decide_eq_true g, decide_eq_false (by omega)]; rfl
        · rw [decide_eq_false g, decide_eq_true (by omega)]; rfl
      cases b
      · go_wp2
        go_ret
        exact ⟨ret_int (by rw [errK_two (by have := HR.out; revert this; cases wrongK L <;> simp)]), hbl⟩
      · go_wp2
        go_ret
        exact ⟨ret_int (by rw [errK_zero (by have := HR.out; revert this; cases wrongK L <;> simp)]), hbl⟩
end Go.Proofs.Ytajfohnblmnjjaa
