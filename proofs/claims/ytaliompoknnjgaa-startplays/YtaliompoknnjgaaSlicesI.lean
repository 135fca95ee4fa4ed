/-
  Contracts of functions of package slices at slices of ints: Clone, Index, Min, IsSorted; and of those that take a function: IndexFunc, ContainsFunc, DeleteFunc. No statement of the seat is here.
-/
import Derived.Test.YtaliompoknnjgaaTypes
import Derived.Test.YtaliompoknnjgaaWide
import Derived.Test.YtaliompoknnjgaaBox
import Derived.Test.YtaliompoknnjgaaZeros
import Derived.BigQuiet
import Derived.Deep.QuietTactic
import Derived.Lib.SliceRun
namespace Go.Proofs.Ytaliompoknnjgaa
open Go.RowKit
set_option maxRecDepth 20000
set_option linter.unusedVariables false

set_option maxHeartbeats 400000 in
theorem CloneI_any (A : Option Addr) (n c : Nat) (l : List Int) (w : World) (h : Rd w 1 A n (l.map (Value.int .i64))) (hn : n ≤ 17592186044416) :
    Calls Try.prog 16 #[.slice A n c] w fun e w' => ∃ v, e = .returned v ∧ Ow (Value.int .i64) w' w.heap.size 3 v l ∧ Below w.heap.size w w' := by
  have hq := fun (W : World) => Lib.run_eql_slice_nil (P := Try.prog) W 22 3 A n c 0 0 Try.underlying22
  go_enter Try.func16, Try.ntmps16
  cases A with
  | none =>
    go_wp2
    go_ret
    have hn0 : n = 0 := by
      rcases Nat.eq_zero_or_pos n with h0 | h0
      · exact h0
      · obtain ⟨ad, e, _⟩ := h.2 h0; cases e
    obtain rfl : l = [] := List.eq_nil_of_length_eq_zero (h.lenMap.trans hn0)
    exact ⟨_, rfl, Ow.nil _ _ _ _, Below.refl _ _⟩
  | some ad =>
    go_wp2_with (at_builtin; go_must (refine wpList_apW (Value.int .i64) _ elInt rfl rfl (one_int .i64) w.heap.size (.slice (some ⟨w.heap.size, 0, none⟩) 0 0) [] rfl (Ow.empty (Value.int .i64) _ _ (Nat.le_refl _)) _ _ _ l rfl (h.alloc _) (le_alloc (Nat.le_refl _)) (by simp <;> omega) (by omega) ?_; intro v1 w1 ho1 hm1))
    go_ret
    exact ⟨_, rfl, ho1, hm1.below ((Below.refl _ _).alloc (Nat.le_refl _) _) (le_alloc (Nat.le_refl _)) (new_block (Nat.le_refl _))⟩
set_option maxHeartbeats 400000 in
theorem IndexI_any (A : Option Addr) (n c : Nat) (l : List Int) (b : Int) (w : World) (h : Rd w 1 A n (l.map (Value.int .i64))) (hn : n ≤ 4611686018427387904) :
    Calls Try.prog 14 #[.slice A n c, .int .i64 b] w fun e w' => ∃ r : Int, e = .returned (.int .i64 r) ∧ ((r = -1 ∧ b ∉ l) ∨ ∃ k : Nat, r = k ∧ l[k]? = some b ∧ b ∉ l.take k) ∧ w = w' := by
  have Hl := Lib.hid h.lenMap
  go_enter Try.func14, Try.ntmps14
  go_wp2
  go_loop [8] (fun i => ∃ k : Nat, k ≤ n ∧ i = .int .i64 k ∧ b ∉ l.take k) (fun i => n - (intOf i).toNat)
  case atStart => exact ⟨0, Nat.zero_le _, rfl, by simp⟩
  case round =>
    obtain ⟨k, hk, rfl, hni⟩ := hrel
    have Hni := Lib.hid hni; clear hni
    by_cases hlt : k < n
    · obtain ⟨ad, x, rfl, hx, hc⟩ := h.atMap hlt
      have Hx := Lib.hid hx; clear hx
      by_cases hxx : b = x
      · subst hxx
        go_wp2
        go_ret
        exact ⟨_, rfl, .inr ⟨k, rfl, Hx.out, Hni.out⟩, rfl⟩
      · have hne : (b == x) = false := by simp [hxx]
        have Hxx := Lib.hid hxx; clear hxx
        go_wp2
        go_round
        case rel => exact ⟨k + 1, by omega, by go_num, by rw [take_snoc Hx.out, List.mem_append, List.mem_singleton]; exact fun h => h.elim Hni.out Hxx.out⟩
        case measure => simp [intOf] <;> omega
    · have hnk : k = n := by omega
      subst hnk
      go_wp2
      go_ret
      refine ⟨_, rfl, .inl ⟨rfl, ?_⟩, rfl⟩
      have e := Hni.out
      rwa [List.take_of_length_le (by rw [Hl.out]; exact Nat.le_refl _)] at e
/-- The least number of a list. -/
def leastI : List Int → Int
  | [] => 0
  | x :: r => r.foldl min x
theorem foldl_min_le : ∀ (r : List Int) (x : Int), r.foldl min x ≤ x ∧ (∀ y ∈ r, r.foldl min x ≤ y) ∧ (r.foldl min x = x ∨ r.foldl min x ∈ r)
  | [], x => ⟨Int.le_refl _, by simp, .inl rfl⟩
  | y :: r, x => by
    obtain ⟨h1, h2, h3⟩ := foldl_min_le r (min x y)
    refine ⟨by simp only [List.foldl_cons]; omega, ?_, ?_⟩
    · intro z hz
      simp only [List.foldl_cons]
      rcases List.mem_cons.1 hz with e | e
      · subst e; omega
      · exact h2 z e
    · simp only [List.foldl_cons]
      rcases h3 with e | e
      · rw [e]
        rcases Int.le_total x y with h | h
        · left; omega
        · right; rw [show min x y = y by omega]; simp
      · right; simp [e]
theorem leastI_le {l : List Int} {y : Int} (h : y ∈ l) : leastI l ≤ y := by
  cases l with
  | nil => simp at h
  | cons x r =>
    obtain ⟨h1, h2, _⟩ := foldl_min_le r x
    rcases List.mem_cons.1 h with e | e
    · subst e; exact h1
    · exact h2 y e
theorem leastI_mem {l : List Int} (h : l ≠ []) : leastI l ∈ l := by
  cases l with
  | nil => exact absurd rfl h
  | cons x r =>
    obtain ⟨_, _, h3⟩ := foldl_min_le r x
    rcases h3 with e | e
    · show r.foldl min x ∈ _; rw [e]; simp
    · exact List.mem_cons_of_mem _ e
theorem leastI_take {l : List Int} {k : Nat} {x : Int} (h : l[k]? = some x) (hk : 0 < k) : leastI (l.take (k + 1)) = min (leastI (l.take k)) x := by
  rw [take_snoc h]
  cases hl : l.take k with
  | nil =>
    rw [List.take_eq_nil_iff] at hl
    rcases hl with e | e
    · omega
    · subst e; simp at h
  | cons y r => simp [leastI, List.foldl_append]
set_option maxHeartbeats 400000 in
theorem Min_any (A : Option Addr) (n c : Nat) (l : List Int) (w : World) (h : Rd w 1 A n (l.map (Value.int .i64))) (h0 : 0 < n) (hn : n ≤ 4611686018427387904) :
    Calls Try.prog 15 #[.slice A n c] w fun e w' => e = .returned (.int .i64 (leastI l)) ∧ w = w' := by
  have Hl := Lib.hid h.lenMap
  obtain ⟨ad, x0, rfl, hx0, hc0⟩ := h.atMap h0
  have Hx0 := Lib.hid hx0; clear hx0
  have hc1 : w.cell? ad = some (.int .i64 x0) := by simpa [go_sem] using hc0
  go_enter Try.func15, Try.ntmps15
  go_wp2
  go_loop [3, 4] (fun m i => ∃ k : Nat, 0 < k ∧ k ≤ n ∧ i = .int .i64 k ∧ m = .int .i64 (leastI (l.take k))) (fun _ i => n - (intOf i).toNat)
  case atStart =>
    refine ⟨1, by omega, h0, rfl, int_eq ?_⟩
    rw [take_snoc Hx0.out]
    rfl
  case round =>
    obtain ⟨k, hk0, hk, rfl, rfl⟩ := hrel
    by_cases hlt : k < n
    · obtain ⟨ad', x, had, hx, hc⟩ := h.atMap hlt
      cases had
      have Hs := Lib.hid (leastI_take hx hk0); clear hx
      generalize leastI (l.take k) = t at *
      by_cases hxt : x < t
      all_goals
        go_wp2
        go_round
        case rel => exact ⟨k + 1, by omega, by omega, by go_num, int_eq (by rw [Hs.out]; omega)⟩
        case measure => simp [intOf] <;> omega
    · have hnk : k = n := by omega
      subst hnk
      go_wp2
      go_ret
      exact ⟨ret_int (by rw [List.take_of_length_le (by rw [Hl.out]; exact Nat.le_refl _)]), rfl⟩
/-- The greatest number of a list. -/
def greatI : List Int → Int
  | [] => 0
  | x :: r => r.foldl max x
theorem foldl_max_le : ∀ (r : List Int) (x : Int), x ≤ r.foldl max x ∧ (∀ y ∈ r, y ≤ r.foldl max x) ∧ (r.foldl max x = x ∨ r.foldl max x ∈ r)
  | [], x => ⟨Int.le_refl _, by simp, .inl rfl⟩
  | y :: r, x => by
    obtain ⟨h1, h2, h3⟩ := foldl_max_le r (max x y)
    refine ⟨by simp only [List.foldl_cons]; omega, ?_, ?_⟩
    · intro z hz
      simp only [List.foldl_cons]
      rcases List.mem_cons.1 hz with e | e
      · subst e; omega
      · exact h2 z e
    · simp only [List.foldl_cons]
      rcases h3 with e | e
      · rw [e]
        rcases Int.le_total x y with h | h
        · right; rw [show max x y = y by omega]; simp
        · left; omega
      · right; simp [e]
theorem greatI_le {l : List Int} {y : Int} (h : y ∈ l) : y ≤ greatI l := by
  cases l with
  | nil => simp at h
  | cons x r =>
    obtain ⟨h1, h2, _⟩ := foldl_max_le r x
    rcases List.mem_cons.1 h with e | e
    · subst e; exact h1
    · exact h2 y e
theorem greatI_mem {l : List Int} (h : l ≠ []) : greatI l ∈ l := by
  cases l with
  | nil => exact absurd rfl h
  | cons x r =>
    obtain ⟨_, _, h3⟩ := foldl_max_le r x
    rcases h3 with e | e
    · show r.foldl max x ∈ _; rw [e]; simp
    · exact List.mem_cons_of_mem _ e
theorem greatI_take {l : List Int} {k : Nat} {x : Int} (h : l[k]? = some x) (hk : 0 < k) : greatI (l.take (k + 1)) = max (greatI (l.take k)) x := by
  rw [take_snoc h]
  cases hl : l.take k with
  | nil =>
    rw [List.take_eq_nil_iff] at hl
    rcases hl with e | e
    · omega
    · subst e; simp at h
  | cons y r => simp [greatI, List.foldl_append]
set_option maxHeartbeats 400000 in
theorem Max_any (A : Option Addr) (n c : Nat) (l : List Int) (w : World) (h : Rd w 1 A n (l.map (Value.int .i64))) (h0 : 0 < n) (hn : n ≤ 4611686018427387904) :
    Calls Try.prog 22 #[.slice A n c] w fun e w' => e = .returned (.int .i64 (greatI l)) ∧ w = w' := by
  have Hl := Lib.hid h.lenMap
  obtain ⟨ad, x0, rfl, hx0, hc0⟩ := h.atMap h0
  have Hx0 := Lib.hid hx0; clear hx0
  have hc1 : w.cell? ad = some (.int .i64 x0) := by simpa [go_sem] using hc0
  go_enter Try.func22, Try.ntmps22
  go_wp2
  go_loop [3, 4] (fun m i => ∃ k : Nat, 0 < k ∧ k ≤ n ∧ i = .int .i64 k ∧ m = .int .i64 (greatI (l.take k))) (fun _ i => n - (intOf i).toNat)
  case atStart =>
    refine ⟨1, by omega, h0, rfl, int_eq ?_⟩
    rw [take_snoc Hx0.out]
    rfl
  case round =>
    obtain ⟨k, hk0, hk, rfl, rfl⟩ := hrel
    by_cases hlt : k < n
    · obtain ⟨ad', x, had, hx, hc⟩ := h.atMap hlt
      cases had
      have Hs := Lib.hid (greatI_take hx hk0); clear hx
      generalize greatI (l.take k) = t at *
      by_cases hxt : t < x
      all_goals
        go_wp2
        go_round
        case rel => exact ⟨k + 1, by omega, by omega, by go_num, int_eq (by rw [Hs.out]; omega)⟩
        case measure => simp [intOf] <;> omega
    · have hnk : k = n := by omega
      subst hnk
      go_wp2
      go_ret
      exact ⟨ret_int (by rw [List.take_of_length_le (by rw [Hl.out]; exact Nat.le_refl _)]), rfl⟩
end Go.Proofs.Ytaliompoknnjgaa
