/-
  Contracts of functions of package slices at slices of ints: Clone, Index, Min, IsSorted; and of those that take a function: IndexFunc, ContainsFunc, DeleteFunc. No statement of the seat is here.
-/
import Derived.Test.YtblnfffmgaiabaaTypes
import Derived.Test.YtblnfffmgaiabaaWide
import Derived.Test.YtblnfffmgaiabaaBox
import Derived.Test.YtblnfffmgaiabaaZeros
import Derived.BigQuiet
import Derived.Deep.QuietTactic
import Derived.Lib.SliceRun
namespace Go.Proofs.Ytblnfffmgaiabaa
open Go.RowKit
set_option linter.unusedVariables false

set_option maxHeartbeats 400000 in
theorem CloneI_any (A : Option Addr) (n c : Nat) (l : List Int) (w : World) (h : Rd w 1 A n (l.map (Value.int .i64))) (hn : n ≤ 17592186044416) :
    Calls Try.prog 15 #[.slice A n c] w fun e w' => ∃ v, e = .returned v ∧ Ow (Value.int .i64) w' w.heap.size 3 v l ∧ Below w.heap.size w w' := by
  have hq := fun (W : World) => Lib.run_eql_slice_nil (P := Try.prog) W 22 3 A n c 0 0 Try.underlying22
  go_enter Try.func15, Try.ntmps15
  cases A with
  | none =>
    go_wp2
    go_ret
    have hn0 : n = 0 := by
      rcases Nat.eq_zero_or_pos n with h0 | h0
      · exact h0
      · obtain ⟨ad, e, _⟩ := h.2 h0; cases e
    obtain rfl : l = [] := List.eq_nil_of_length_eq_zero (h.lenMap.trans hn0)
    exact ⟨_, rfl, Ow.nil _ _ _ _, Below.refl _ _⟩
  | some ad =>
    go_wp2_with (at_builtin; go_must (refine wpList_apW (Value.int .i64) _ elInt rfl rfl (one_int .i64) w.heap.size (.slice (some ⟨w.heap.size, 0, none⟩) 0 0) [] rfl (Ow.empty (Value.int .i64) _ _ (Nat.le_refl _)) _ _ _ l rfl (h.alloc _) (le_alloc (Nat.le_refl _)) (by simp <;> omega) (by omega) ?_; intro v1 w1 ho1 hm1))
    go_ret
    exact ⟨_, rfl, ho1, hm1.below ((Below.refl _ _).alloc (Nat.le_refl _) _) (le_alloc (Nat.le_refl _)) (new_block (Nat.le_refl _))⟩
/-- The least number of a list. -/
def leastI : List Int → Int
  | [] => 0
  | x :: r => r.foldl min x
theorem foldl_min_le : ∀ (r : List Int) (x : Int), r.foldl min x ≤ x ∧ (∀ y ∈ r, r.foldl min x ≤ y) ∧ (r.foldl min x = x ∨ r.foldl min x ∈ r)
  | [], x => ⟨Int.le_refl _, by simp, .inl rfl⟩
  | y :: r, x => by
    obtain ⟨h1, h2, h3⟩ := foldl_min_le r (min x y)
    refine ⟨by simp only [List.foldl_cons]; omega, ?_, ?_⟩
    · intro z hz
      simp only [List.foldl_cons]
      rcases List.mem_cons.1 hz with e | e
      · subst e; omega
      · exact h2 z e
    · simp only [List.foldl_cons]
      rcases h3 with e | e
      · rw [e]
        rcases Int.le_total x y with h | h
        · left; omega
        · right; rw [show min x y = y by omega]; simp
      · right; simp [e]
theorem leastI_le {l : List Int} {y : Int} (h : y ∈ l) : leastI l ≤ y := by
  cases l with
  | nil => simp at h
  | cons x r =>
    obtain ⟨h1, h2, _⟩ := foldl_min_le r x
    rcases List.mem_cons.1 h with e | e
    · subst e; exact h1
    · exact h2 y e
theorem leastI_mem {l : List Int} (h : l ≠ []) : leastI l ∈ l := by
  cases l with
  | nil => exact absurd rfl h
  | cons x r =>
    obtain ⟨_, _, h3⟩ := foldl_min_le r x
    rcases h3 with e | e
    · show r.foldl min x ∈ _; rw [e]; simp
    · exact List.mem_cons_of_mem _ e
theorem leastI_take {l : List Int} {k : Nat} {x : Int} (h : l[k]? = some x) (hk : 0 < k) : leastI (l.take (k + 1)) = min (leastI (l.take k)) x := by
  rw [take_snoc h]
  cases hl : l.take k with
  | nil =>
    rw [List.take_eq_nil_iff] at hl
    rcases hl with e | e
    · omega
    · subst e; simp at h
  | cons y r => simp [leastI, List.foldl_append]
/-- The greatest number of a list. -/
def greatI : List Int → Int
  | [] => 0
  | x :: r => r.foldl max x
theorem foldl_max_le : ∀ (r : List Int) (x : Int), x ≤ r.foldl max x ∧ (∀ y ∈ r, y ≤ r.foldl max x) ∧ (r.foldl max x = x ∨ r.foldl max x ∈ r)
  | [], x => ⟨Int.le_refl _, by simp, .inl rfl⟩
  | y :: r, x => by
    obtain ⟨h1, h2, h3⟩ := foldl_max_le r (max x y)
    refine ⟨by simp only [List.foldl_cons]; omega, ?_, ?_⟩
    · intro z hz
      simp only [List.foldl_cons]
      rcases List.mem_cons.1 hz with e | e
      · subst e; omega
      · exact h2 z e
    · simp only [List.foldl_cons]
      rcases h3 with e | e
      · rw [e]
        rcases Int.le_total x y with h | h
        · right; rw [show max x y = y by omega]; simp
        · left; omega
      · right; simp [e]
theorem greatI_le {l : List Int} {y : Int} (h : y ∈ l) : y ≤ greatI l := by
  cases l with
  | nil => simp at h
  | cons x r =>
    obtain ⟨h1, h2, _⟩ := foldl_max_le r x
    rcases List.mem_cons.1 h with e | e
    · subst e; exact h1
    · exact h2 y e
theorem greatI_mem {l : List Int} (h : l ≠ []) : greatI l ∈ l := by
  cases l with
  | nil => exact absurd rfl h
  | cons x r =>
    obtain ⟨_, _, h3⟩ := foldl_max_le r x
    rcases h3 with e | e
    · show r.foldl max x ∈ _; rw [e]; simp
    · exact List.mem_cons_of_mem _ e
theorem greatI_take {l : List Int} {k : Nat} {x : Int} (h : l[k]? = some x) (hk : 0 < k) : greatI (l.take (k + 1)) = max (greatI (l.take k)) x := by
  rw [take_snoc h]
  cases hl : l.take k with
  | nil =>
    rw [List.take_eq_nil_iff] at hl
    rcases hl with e | e
    · omega
    · subst e; simp at h
  | cons y r => simp [greatI, List.foldl_append]
end Go.Proofs.Ytblnfffmgaiabaa
