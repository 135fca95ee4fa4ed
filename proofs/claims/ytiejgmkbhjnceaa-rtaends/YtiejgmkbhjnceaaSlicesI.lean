/-
  Contracts of functions of package slices at slices of ints: Clone, Index, Min, IsSorted; and of those that take a function: IndexFunc, ContainsFunc, DeleteFunc. No statement of the seat is here.
-/
import Derived.Test.YtiejgmkbhjnceaaTypes
import Derived.Test.YtiejgmkbhjnceaaWide
import Derived.Test.YtiejgmkbhjnceaaBox
import Derived.Test.YtiejgmkbhjnceaaZeros
import Derived.BigQuiet
import Derived.Deep.QuietTactic
import Derived.Lib.SliceRun
namespace Go.Proofs.Ytiejgmkbhjnceaa
open Go.RowKit
set_option linter.unusedVariables false

/-- The least number of a list. -/
def leastI : List Int → Int
  | [] => 0
  | x :: r => r.foldl min x
theorem foldl_min_le : ∀ (r : List Int) (x : Int), r.foldl min x ≤ x ∧ (∀ y ∈ r, r.foldl min x ≤ y) ∧ (r.foldl min x = x ∨ r.foldl min x ∈ r)
  | [], x => ⟨Int.le_refl _, by simp, .inl rfl⟩
  | y :: r, x => by
    obtain ⟨h1, h2, h3⟩ := foldl_min_le r (min x y)
    refine ⟨by simp only [List.foldl_cons]; omega, ?_, ?_⟩
    · intro z hz
      simp only [List.foldl_cons]
      rcases List.mem_cons.1 hz with e | e
      · subst e; omega
      · exact h2 z e
    · simp only [List.foldl_cons]
      rcases h3 with e | e
      · rw [e]
        rcases Int.le_total x y with h | h
        · left; omega
        · right; rw [show min x y = y by omega]; simp
      · right; simp [e]
theorem leastI_le {l : List Int} {y : Int} (h : y ∈ l) : leastI l ≤ y := by
  cases l with
  | nil => simp at h
  | cons x r =>
    obtain ⟨h1, h2, _⟩ := foldl_min_le r x
    rcases List.mem_cons.1 h with e | e
    · subst e; exact h1
    · exact h2 y e
theorem leastI_mem {l : List Int} (h : l ≠ []) : leastI l ∈ l := by
  cases l with
  | nil => exact absurd rfl h
  | cons x r =>
    obtain ⟨_, _, h3⟩ := foldl_min_le r x
    rcases h3 with e | e
    · show r.foldl min x ∈ _; rw [e]; simp
    · exact List.mem_cons_of_mem _ e
theorem leastI_take {l : List Int} {k : Nat} {x : Int} (h : l[k]? = some x) (hk : 0 < k) : leastI (l.take (k + 1)) = min (leastI (l.take k)) x := by
  rw [take_snoc h]
  cases hl : l.take k with
  | nil =>
    rw [List.take_eq_nil_iff] at hl
    rcases hl with e | e
    · omega
    · subst e; simp at h
  | cons y r => simp [leastI, List.foldl_append]
/-- The greatest number of a list. -/
def greatI : List Int → Int
  | [] => 0
  | x :: r => r.foldl max x
theorem foldl_max_le : ∀ (r : List Int) (x : Int), x ≤ r.foldl max x ∧ (∀ y ∈ r, y ≤ r.foldl max x) ∧ (r.foldl max x = x ∨ r.foldl max x ∈ r)
  | [], x => ⟨Int.le_refl _, by simp, .inl rfl⟩
  | y :: r, x => by
    obtain ⟨h1, h2, h3⟩ := foldl_max_le r (max x y)
    refine ⟨by simp only [List.foldl_cons]; omega, ?_, ?_⟩
    · intro z hz
      simp only [List.foldl_cons]
      rcases List.mem_cons.1 hz with e | e
      · subst e; omega
      · exact h2 z e
    · simp only [List.foldl_cons]
      rcases h3 with e | e
      · rw [e]
        rcases Int.le_total x y with h | h
        · right; rw [show max x y = y by omega]; simp
        · left; omega
      · right; simp [e]
theorem greatI_le {l : List Int} {y : Int} (h : y ∈ l) : y ≤ greatI l := by
  cases l with
  | nil => simp at h
  | cons x r =>
    obtain ⟨h1, h2, _⟩ := foldl_max_le r x
    rcases List.mem_cons.1 h with e | e
    · subst e; exact h1
    · exact h2 y e
theorem greatI_mem {l : List Int} (h : l ≠ []) : greatI l ∈ l := by
  cases l with
  | nil => exact absurd rfl h
  | cons x r =>
    obtain ⟨_, _, h3⟩ := foldl_max_le r x
    rcases h3 with e | e
    · show r.foldl max x ∈ _; rw [e]; simp
    · exact List.mem_cons_of_mem _ e
theorem greatI_take {l : List Int} {k : Nat} {x : Int} (h : l[k]? = some x) (hk : 0 < k) : greatI (l.take (k + 1)) = max (greatI (l.take k)) x := by
  rw [take_snoc h]
  cases hl : l.take k with
  | nil =>
    rw [List.take_eq_nil_iff] at hl
    rcases hl with e | e
    · omega
    · subst e; simp at h
  | cons y r => simp [greatI, List.foldl_append]
set_option maxHeartbeats 400000 in
theorem Max_any (A : Option Addr) (n c : Nat) (l : List Int) (w : World) (h : Rd w 1 A n (l.map (Value.int .i64))) (h0 : 0 < n) (hn : n ≤ 4611686018427387904) :
    Calls Try.prog 16 #[.slice A n c] w fun e w' => e = .returned (.int .i64 (greatI l)) ∧ w = w' := by
  have Hl := Lib.hid h.lenMap
  obtain ⟨ad, x0, rfl, hx0, hc0⟩ := h.atMap h0
  have Hx0 := Lib.hid hx0; clear hx0
  have hc1 : w.cell? ad = some (.int .i64 x0) := by simpa [go_sem] using hc0
  go_enter Try.func16, Try.ntmps16
  go_wp2
  go_loop [3, 4] (fun m i => ∃ k : Nat, 0 < k ∧ k ≤ n ∧ i = .int .i64 k ∧ m = .int .i64 (greatI (l.take k))) (fun _ i => n - (intOf i).toNat)
  case atStart =>
    refine ⟨1, by omega, h0, rfl, int_eq ?_⟩
    rw [take_snoc Hx0.out]
    rfl
  case round =>
    obtain ⟨k, hk0, hk, rfl, rfl⟩ := hrel
    by_cases hlt : k < n
    · obtain ⟨ad', x, had, hx, hc⟩ := h.atMap hlt
      cases had
      have Hs := Lib.hid (greatI_take hx hk0); clear hx
      generalize greatI (l.take k) = t at *
      by_cases hxt : t < x
      all_goals
        go_wp2
        go_round
        case rel => exact ⟨k + 1, by omega, by omega, by go_num, int_eq (by rw [Hs.out]; omega)⟩
        case measure => simp [intOf] <;> omega
    · have hnk : k = n := by omega
      subst hnk
      go_wp2
      go_ret
      exact ⟨ret_int (by rw [List.take_of_length_le (by rw [Hl.out]; exact Nat.le_refl _)]), rfl⟩
end Go.Proofs.Ytiejgmkbhjnceaa
