/-
  More of slots on plain lists and numbers: how many times of a cycle are a node's; all shares together; a slot less. No statement of the seat is here.
-/
import Derived.Test.YtpangandpabajaaSlotsMath
namespace Go.Proofs.Ytpangandpabajaa
set_option linter.unusedVariables false

/-- How many of the times below k are the node's. -/
def upTo (node k : Int) : List Slt → Int
  | [] => 0
  | s :: r => (if s.nd = node then max 0 (min s.lg (k - s.fr)) else 0) + upTo node k r
/-- All slots of nodes below j. -/
def belowS (j : Int) : List Slt → Int
  | [] => 0
  | s :: r => (if s.nd < j then s.lg else 0) + belowS j r
theorem upTo_early {P e node k : Int} {L : List Slt} (h : rightFrom P e L = true) (hk : k ≤ e) : upTo node k L = 0 := by
  induction L generalizing e with
  | nil => rfl
  | cons x r ih =>
    obtain ⟨⟨h1, h2, h3, h4, h5⟩, hr⟩ := rightFrom_cons.1 h
    rw [upTo, ih hr (by omega)]
    split <;> omega
theorem upTo_all {P e node : Int} {L : List Slt} (h : rightFrom P e L = true) : upTo node P L = shareS node L := by
  induction L generalizing e with
  | nil => rfl
  | cons x r ih =>
    obtain ⟨⟨h1, h2, h3, h4, h5⟩, hr⟩ := rightFrom_cons.1 h
    rw [upTo, shareS, ih hr]
    split <;> omega
theorem upTo_step {P e node k : Int} {L : List Slt} (h : rightFrom P e L = true) : upTo node (k + 1) L = upTo node k L + (if whoAt k L = some node then 1 else 0) := by
  induction L generalizing e with
  | nil => rfl
  | cons x r ih =>
    obtain ⟨⟨h1, h2, h3, h4, h5⟩, hr⟩ := rightFrom_cons.1 h
    rw [upTo, upTo, whoAt]
    by_cases hx : x.fr ≤ k ∧ k < x.fr + x.lg
    · rw [if_pos hx, upTo_early hr (by omega), upTo_early hr (by omega)]
      by_cases hn : x.nd = node
      · rw [if_pos hn, if_pos hn, if_pos (by rw [hn])]; omega
      · rw [if_neg hn, if_neg hn, if_neg (by intro e; injection e with e; exact hn e)]; omega
    · rw [if_neg hx, ih hr]
      split <;> omega
theorem upTo_range {P e node k : Int} {L : List Slt} (h : rightFrom P e L = true) (he : e ≤ P) : 0 ≤ upTo node k L ∧ upTo node k L ≤ P - e := by
  induction L generalizing e with
  | nil => simp only [upTo]; omega
  | cons x r ih =>
    obtain ⟨⟨h1, h2, h3, h4, h5⟩, hr⟩ := rightFrom_cons.1 h
    obtain ⟨g1, g2⟩ := ih hr (by omega)
    rw [upTo]
    split <;> omega
theorem belowS_step (j : Int) (L : List Slt) : belowS (j + 1) L = belowS j L + shareS j L := by
  induction L with
  | nil => rfl
  | cons x r ih =>
    rw [belowS, belowS, shareS, ih]
    by_cases h1 : x.nd < j
    · rw [if_pos h1, if_pos (by omega), if_neg (by omega)]; omega
    · by_cases h2 : x.nd = j
      · rw [if_neg h1, if_pos h2, if_pos (by omega)]; omega
      · rw [if_neg h1, if_neg h2, if_neg (by omega)]; omega
theorem belowS_zero {P e : Int} {L : List Slt} (h : rightFrom P e L = true) : belowS 0 L = 0 := by
  induction L generalizing e with
  | nil => rfl
  | cons x r ih =>
    obtain ⟨⟨h1, h2, h3, h4, h5⟩, hr⟩ := rightFrom_cons.1 h
    rw [belowS, if_neg (by omega), ih hr]; rfl
theorem belowS_range {P e j : Int} {L : List Slt} (h : rightFrom P e L = true) (he : e ≤ P) : 0 ≤ belowS j L ∧ belowS j L ≤ P - e := by
  induction L generalizing e with
  | nil => simp only [belowS]; omega
  | cons x r ih =>
    obtain ⟨⟨h1, h2, h3, h4, h5⟩, hr⟩ := rightFrom_cons.1 h
    obtain ⟨g1, g2⟩ := ih hr (by omega)
    rw [belowS]
    split <;> omega

/-! A slot less -/
theorem right_erase {P e : Int} {L : List Slt} (h : rightFrom P e L = true) (k : Nat) : rightFrom P e (L.eraseIdx k) = true := by
  induction L generalizing e k with
  | nil => rfl
  | cons x r ih =>
    obtain ⟨h1, hr⟩ := rightFrom_cons.1 h
    cases k with
    | zero => exact right_weak (by omega) hr
    | succ k => exact rightFrom_cons.2 ⟨h1, ih hr k⟩
theorem rightM_erase {P : Int} {L : List Slt} (h : rightM P L = true) (k : Nat) : rightM P (L.eraseIdx k) = true := by
  obtain ⟨⟨h1, h2, h3⟩, hr⟩ := rightM_true.1 h
  have := List.length_eraseIdx_le L k
  exact rightM_true.2 ⟨⟨h1, h2, by omega⟩, right_erase hr k⟩
theorem starts_erase_mem {node f : Int} {L : List Slt} {k : Nat} (h : f ∈ startsM node (L.eraseIdx k)) : f ∈ startsM node L := by
  obtain ⟨s, hs, h1, h2⟩ := starts_mem.1 h
  exact starts_mem.2 ⟨s, List.mem_of_mem_eraseIdx hs, h1, h2⟩
theorem starts_erase_ne {node : Int} {L : List Slt} {k : Nat} {s : Slt} (hk : L[k]? = some s) (hs : s.nd ≠ node) : startsM node (L.eraseIdx k) = startsM node L := by
  induction L generalizing k with
  | nil => cases hk
  | cons x r ih =>
    cases k with
    | zero =>
      simp at hk
      subst hk
      rw [startsM, if_neg hs]; rfl
    | succ k =>
      simp at hk
      rw [List.eraseIdx_cons_succ, startsM, startsM, ih hk]
theorem starts_some {node : Int} {L : List Slt} {k : Nat} {s : Slt} (hk : L[k]? = some s) (hs : s.nd = node) : startsM node L ≠ [] := by
  intro e
  have : s.fr ∈ startsM node L := starts_mem.2 ⟨s, List.mem_of_getElem? hk, hs, rfl⟩
  rw [e] at this
  cases this
theorem erase_snoc_ne {L : List Slt} {k j : Nat} {s : Slt} (hj : L.length = j) (h : j ≠ k) : (L ++ [s]).eraseIdx k = L.eraseIdx k ++ [s] := by
  by_cases hk : k < L.length
  · rw [List.eraseIdx_append_of_lt_length hk]
  · rw [List.eraseIdx_of_length_le (l := L) (by omega), List.eraseIdx_of_length_le (by rw [List.length_append, List.length_singleton]; omega)]
theorem erase_snoc_eq {L : List Slt} {k : Nat} {s : Slt} (hj : L.length = k) : (L ++ [s]).eraseIdx k = L.eraseIdx k := by
  rw [List.eraseIdx_append_of_length_le (by omega), hj, Nat.sub_self, List.eraseIdx_of_length_le (l := L) (by omega)]
  simp
end Go.Proofs.Ytpangandpabajaa
