/-
  Contracts of slices.IndexFunc and ContainsFunc at slices of structs of three integers, with a function that makes memory at most. No statement of the seat is here.
-/
import Derived.Test.YtgngpcailjocoaaSlotsWalks
import Derived.Shelf.Abstract
namespace Go.Proofs.Ytgngpcailjocoaa
open Go.RowKit
set_option linter.unusedVariables false

/-- Called at each element of l, in whatever later world, the function gives p of it, and makes memory at most. -/
def PredB (g : Nat) (lb : Array Value) (p : Slt → Bool) (l : List Slt) (w : World) : Prop :=
  ∀ x ∈ l, ∀ W, Below w.heap.size w W → Calls Try.prog g (#[.agg #[.int .i64 x.nd, .int .i64 x.fr, .int .i64 x.lg]] ++ lb) W fun e w' => e = .returned (.bool (p x)) ∧ Below W.heap.size W w'

set_option maxHeartbeats 800000 in
theorem IndexFuncT_any (g : Nat) (lb : Array Value) (eg : ∀ args w, (callFunc g args).run Try.prog w = .ok (.enter g args) w) (p : Slt → Bool) (A : Option Addr) (n c : Nat) (l : List Slt) (w : World) (h : RdS w A n l) (hp : PredB g lb p l w) (hn : n ≤ 4611686018427387904) :
    Calls Try.prog 27 #[.slice A n c, .func (.func g) #[] lb] w fun e w' => ∃ r : Int, e = .returned (.int .i64 r) ∧ ((r = -1 ∧ ∀ x ∈ l, p x = false) ∨ ∃ (k : Nat) (x : Slt), r = k ∧ l[k]? = some x ∧ p x = true) ∧ Below w.heap.size w w' := by
  have Hl := Lib.hid h.lenS
  have Hp := Lib.hid hp; clear hp
  go_enter Try.func27, Try.ntmps27
  go_wp2
  go_loopw [8] (fun i wr => ∃ k : Nat, k ≤ n ∧ i = .int .i64 k ∧ (∀ x ∈ l.take k, p x = false) ∧ Below w.heap.size w wr) (fun i _ => n - (intOf i).toNat)
  case atStart => exact ⟨0, Nat.zero_le _, rfl, by simp, Below.refl _ _⟩
  case round =>
    obtain ⟨k, hk, rfl, hni, hbl⟩ := hrel
    have Hni := Lib.hid hni; clear hni
    by_cases hlt : k < n
    · obtain ⟨ad, nd, fr, lg, rfl, hx, hc0, hc1, hc2⟩ := (h.below hbl).atS hlt
      have hcall := Hp.out _ (List.mem_of_getElem? hx) wr hbl
      have Hx := Lib.hid hx; clear hx
      simp only at hcall
      cases hq : p ⟨nd, fr, lg⟩ with
      | true =>
        rw [hq] at hcall
        have Hq := Lib.hid hq; clear hq
        go_wp2_with (go_at_fn g; refine hcall.mono ?_; rintro e w' ⟨rfl, hb'⟩)
        go_ret
        exact ⟨_, rfl, .inr ⟨k, _, rfl, Hx.out, Hq.out⟩, bthen hbl hb'⟩
      | false =>
        rw [hq] at hcall
        have Hq := Lib.hid hq; clear hq
        go_wp2_with (go_at_fn g; refine hcall.mono ?_; rintro e w' ⟨rfl, hb'⟩)
        go_roundw
        case rel =>
          refine ⟨k + 1, by omega, by go_num, ?_, bthen hbl hb'⟩
          rw [take_snoc Hx.out]
          intro y hy
          rcases List.mem_append.1 hy with h | h
          · exact Hni.out y h
          · rw [List.mem_singleton.1 h]; exact Hq.out
        case measure => simp [intOf] <;> omega
    · have hnk : k = n := by omega
      subst hnk
      go_wp2
      go_ret
      refine ⟨_, rfl, .inl ⟨rfl, ?_⟩, hbl⟩
      have e := Hni.out
      rwa [List.take_of_length_le (by rw [Hl.out]; exact Nat.le_refl _)] at e
theorem ContainsFuncT_any (g : Nat) (lb : Array Value) (eg : ∀ args w, (callFunc g args).run Try.prog w = .ok (.enter g args) w) (p : Slt → Bool) (A : Option Addr) (n c : Nat) (l : List Slt) (w : World) (h : RdS w A n l) (hp : PredB g lb p l w) (hn : n ≤ 4611686018427387904) :
    Calls Try.prog 23 #[.slice A n c, .func (.func g) #[] lb] w fun e w' => e = .returned (.bool (l.any p)) ∧ Below w.heap.size w w' := by
  have hI := IndexFuncT_any g lb eg p A n c l w h hp hn
  clear h hp
  go_enter Try.func23, Try.ntmps23
  go_wp2_with (go_at_call 27; refine hI.mono ?_; rintro e w' ⟨r, rfl, hr, hb⟩)
  go_ret
  refine ⟨ret_bool ?_, hb⟩
  rcases hr with ⟨rfl, hr⟩ | ⟨k, x, rfl, hx, hpx⟩
  · rw [List.any_eq_false.2 (fun x hx => by simp [hr x hx])]; rfl
  · rw [List.any_eq_true.2 ⟨x, List.mem_of_getElem? hx, hpx⟩]; simp
set_option maxHeartbeats 800000 in
theorem IndexFuncS_any (g : Nat) (lb : Array Value) (eg : ∀ args w, (callFunc g args).run Try.prog w = .ok (.enter g args) w) (p : Slt → Bool) (A : Option Addr) (n c : Nat) (l : List Slt) (w : World) (h : RdS w A n l) (hp : PredB g lb p l w) (hn : n ≤ 4611686018427387904) :
    Calls Try.prog 28 #[.slice A n c, .func (.func g) #[] lb] w fun e w' => ∃ r : Int, e = .returned (.int .i64 r) ∧ ((r = -1 ∧ ∀ x ∈ l, p x = false) ∨ ∃ (k : Nat) (x : Slt), r = k ∧ l[k]? = some x ∧ p x = true) ∧ Below w.heap.size w w' := by
  have Hl := Lib.hid h.lenS
  have Hp := Lib.hid hp; clear hp
  go_enter Try.func28, Try.ntmps28
  go_wp2
  go_loopw [8] (fun i wr => ∃ k : Nat, k ≤ n ∧ i = .int .i64 k ∧ (∀ x ∈ l.take k, p x = false) ∧ Below w.heap.size w wr) (fun i _ => n - (intOf i).toNat)
  case atStart => exact ⟨0, Nat.zero_le _, rfl, by simp, Below.refl _ _⟩
  case round =>
    obtain ⟨k, hk, rfl, hni, hbl⟩ := hrel
    have Hni := Lib.hid hni; clear hni
    by_cases hlt : k < n
    · obtain ⟨ad, nd, fr, lg, rfl, hx, hc0, hc1, hc2⟩ := (h.below hbl).atS hlt
      have hcall := Hp.out _ (List.mem_of_getElem? hx) wr hbl
      have Hx := Lib.hid hx; clear hx
      simp only at hcall
      cases hq : p ⟨nd, fr, lg⟩ with
      | true =>
        rw [hq] at hcall
        have Hq := Lib.hid hq; clear hq
        go_wp2_with (go_at_fn g; refine hcall.mono ?_; rintro e w' ⟨rfl, hb'⟩)
        go_ret
        exact ⟨_, rfl, .inr ⟨k, _, rfl, Hx.out, Hq.out⟩, bthen hbl hb'⟩
      | false =>
        rw [hq] at hcall
        have Hq := Lib.hid hq; clear hq
        go_wp2_with (go_at_fn g; refine hcall.mono ?_; rintro e w' ⟨rfl, hb'⟩)
        go_roundw
        case rel =>
          refine ⟨k + 1, by omega, by go_num, ?_, bthen hbl hb'⟩
          rw [take_snoc Hx.out]
          intro y hy
          rcases List.mem_append.1 hy with h | h
          · exact Hni.out y h
          · rw [List.mem_singleton.1 h]; exact Hq.out
        case measure => simp [intOf] <;> omega
    · have hnk : k = n := by omega
      subst hnk
      go_wp2
      go_ret
      refine ⟨_, rfl, .inl ⟨rfl, ?_⟩, hbl⟩
      have e := Hni.out
      rwa [List.take_of_length_le (by rw [Hl.out]; exact Nat.le_refl _)] at e
theorem ContainsFuncS_any (g : Nat) (lb : Array Value) (eg : ∀ args w, (callFunc g args).run Try.prog w = .ok (.enter g args) w) (p : Slt → Bool) (A : Option Addr) (n c : Nat) (l : List Slt) (w : World) (h : RdS w A n l) (hp : PredB g lb p l w) (hn : n ≤ 4611686018427387904) :
    Calls Try.prog 25 #[.slice A n c, .func (.func g) #[] lb] w fun e w' => e = .returned (.bool (l.any p)) ∧ Below w.heap.size w w' := by
  have hI := IndexFuncS_any g lb eg p A n c l w h hp hn
  clear h hp
  go_enter Try.func25, Try.ntmps25
  go_wp2_with (go_at_call 28; refine hI.mono ?_; rintro e w' ⟨r, rfl, hr, hb⟩)
  go_ret
  refine ⟨ret_bool ?_, hb⟩
  rcases hr with ⟨rfl, hr⟩ | ⟨k, x, rfl, hx, hpx⟩
  · rw [List.any_eq_false.2 (fun x hx => by simp [hr x hx])]; rfl
  · rw [List.any_eq_true.2 ⟨x, List.mem_of_getElem? hx, hpx⟩]; simp
end Go.Proofs.Ytgngpcailjocoaa
