/-
  Contracts of slices.IsSorted, and of the functions of package slices that take a function: IndexFunc, ContainsFunc, DeleteFunc, at slices of ints. No statement of the seat is here.
-/
import Derived.Test.YtiejgmkbhjnceaaSlicesI
import Derived.Shelf.Abstract
namespace Go.Proofs.Ytiejgmkbhjnceaa
open Go.RowKit
set_option linter.unusedVariables false

/-- Called at each number of l, in whatever world in which at most the row has been written and new blocks made, the function gives p of it, and draws at most. -/
def PredOn (g : Nat) (lb : Array Value) (p : Int → Bool) (l : List Int) (row : Option Nat) (w : World) : Prop :=
  ∀ x ∈ l, ∀ W, w.grownBy W row → Calls Try.prog g (#[.int .i64 x] ++ lb) W fun e w' => e = .returned (.bool (p x)) ∧ ∃ q, w' = W.drewN q
theorem grownBy_drewN (w : World) (q : Nat) (row : Option Nat) : w.grownBy (w.drewN q) row := ⟨rfl, rfl, rfl, Nat.le_refl _, fun _ _ _ => rfl⟩

set_option maxHeartbeats 800000 in
theorem IndexFunc_any (g : Nat) (lb : Array Value) (eg : ∀ args w, (callFunc g args).run Try.prog w = .ok (.enter g args) w) (p : Int → Bool) (row : Option Nat) (A : Option Addr) (n c : Nat) (l : List Int) (w : World) (h : Rd w 1 A n (l.map (Value.int .i64))) (hp : PredOn g lb p l row w) (hn : n ≤ 4611686018427387904) :
    Calls Try.prog 21 #[.slice A n c, .func (.func g) #[] lb] w fun e w' => ∃ r : Int, e = .returned (.int .i64 r) ∧ ((r = -1 ∧ ∀ x ∈ l, p x = false) ∨ ∃ (k : Nat) (x : Int), r = k ∧ ((k : Int) == -1) = false ∧ k < n ∧ l[k]? = some x ∧ p x = true ∧ ∀ x ∈ l.take k, p x = false) ∧ ∃ q, w' = w.drewN q := by
  have Hl := Lib.hid h.lenMap
  have Hp := Lib.hid hp; clear hp
  go_enter Try.func21, Try.ntmps21
  go_wp2
  go_loopw [8] (fun i wr => ∃ k : Nat, k ≤ n ∧ i = .int .i64 k ∧ (∀ x ∈ l.take k, p x = false) ∧ ∃ q, wr = w.drewN q) (fun i _ => n - (intOf i).toNat)
  case atStart => exact ⟨0, Nat.zero_le _, rfl, by simp, 0, rfl⟩
  case round =>
    obtain ⟨k, hk, rfl, hni, q, rfl⟩ := hrel
    have Hni := Lib.hid hni; clear hni
    by_cases hlt : k < n
    · obtain ⟨ad, x, rfl, hx, hc⟩ := h.atMap hlt
      have hcall := Hp.out x (List.mem_of_getElem? hx) (w.drewN q) (grownBy_drewN _ _ _)
      have Hx := Lib.hid hx; clear hx
      cases hq : p x with
      | true =>
        rw [hq] at hcall
        have Hq := Lib.hid hq; clear hq
        go_wp2_with (go_at_fn g; refine hcall.mono ?_; rintro e w' ⟨rfl, q', rfl⟩)
        go_ret
        exact ⟨_, rfl, .inr ⟨k, x, rfl, beq_eq_false_iff_ne.2 (by omega), hlt, Hx.out, Hq.out, Hni.out⟩, _, rfl⟩
      | false =>
        rw [hq] at hcall
        have Hq := Lib.hid hq; clear hq
        go_wp2_with (go_at_fn g; refine hcall.mono ?_; rintro e w' ⟨rfl, q', rfl⟩)
        go_roundw
        case rel =>
          refine ⟨k + 1, by omega, by go_num, ?_, _, rfl⟩
          rw [take_snoc Hx.out]
          intro y hy
          rcases List.mem_append.1 hy with h | h
          · exact Hni.out y h
          · rw [List.mem_singleton.1 h]; exact Hq.out
        case measure => simp [intOf] <;> omega
    · have hnk : k = n := by omega
      subst hnk
      go_wp2
      go_ret
      refine ⟨_, rfl, .inl ⟨rfl, ?_⟩, _, rfl⟩
      have e := Hni.out
      rwa [List.take_of_length_le (by rw [Hl.out]; exact Nat.le_refl _)] at e
/-- Cells of an own slice set from a place on: what lies ahead stays. -/
theorem Ow.setCells {α : Type} {f : α → Value} {base g n c : Nat} {e : TypeId} (z : α) : ∀ (m o : Nat) (w : World) (l : List α), Ow f w base e (.slice (some ⟨g, 0, none⟩) n c) l → ∃ l', Ow f (w.setCells g o (List.replicate m (f z))) base e (.slice (some ⟨g, 0, none⟩) n c) l' ∧ l'.length = l.length ∧ l'.take o = l.take o
  | 0, o, w, l, h => ⟨l, h, rfl, rfl⟩
  | m + 1, o, w, l, h => by
    obtain ⟨l', h', hl, ht⟩ := Ow.setCells z m (o + 1) _ _ (h.put o z)
    refine ⟨l', h', by rw [hl]; simp, ?_⟩
    have := congrArg (List.take o) ht
    simp only [List.take_take, show min o (o + 1) = o by omega] at this
    rw [this, List.take_set_of_le (Nat.le_refl _)]
theorem grownBy_setCells (g : Nat) : ∀ (vs : List Value) (o : Nat) (w : World), w.grownBy (w.setCells g o vs) (some g)
  | [], o, w => World.grownBy.refl _ _
  | v :: r, o, w => grownBy_then (grownBy_setCell w ⟨g, o, none⟩ v) (grownBy_setCells g r (o + 1) _)
theorem filter_take_snoc {l : List Int} {j : Nat} {x : Int} (p : Int → Bool) (h : l[j]? = some x) : (l.take (j + 1)).filter p = (l.take j).filter p ++ if p x then [x] else [] := by
  rw [take_snoc h, List.filter_append]
  congr 1
  cases hp : p x <;> simp [hp]
end Go.Proofs.Ytiejgmkbhjnceaa
