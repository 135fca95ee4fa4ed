/-
  Ends of all, or none for some: as rms asks it. No statement of the seat is here.
-/
import Derived.Test.YtajfohnblmnjjaaRmsMath
import Derived.Test.YtajfohnblmnjjaaRtaMath2
namespace Go.Proofs.Ytajfohnblmnjjaa
open Go.RowKit
set_option linter.unusedVariables false

theorem allEnd_of {M : List Tk} {R : List Nat} (h : EndsAre M R) : AllEnd M := fun k t hk => by
  obtain ⟨r, _, hr⟩ := h.one hk
  exact ⟨r, hr⟩
theorem not_allEnd {M : List Tk} (h : NoEnds M) : ¬ AllEnd M := fun g => by
  obtain ⟨k, t, hk, hn⟩ := h
  obtain ⟨R, hR⟩ := g k t hk
  exact hR.not_no hn
theorem GoodK.okL {M : List Tk} (h : GoodK M) : OkL M := fun t ht => by
  have := h.ok t ht
  unfold Tk.Ok at this
  omega
theorem GoodK.perm {M S : List Tk} (h : GoodK M) (p : M.Perm S) : GoodK S := ⟨by rw [← p.length_eq]; exact h.len, fun t ht => h.ok t (p.mem_iff.2 ht)⟩
/-- A stable order by the periods: one by one, each behind all that go as often. -/
def putT (t : Tk) : List Tk → List Tk
  | [] => [t]
  | u :: S => if u.p ≤ t.p then u :: putT t S else t :: u :: S
def sortT (L : List Tk) : List Tk := L.foldl (fun S t => putT t S) []
theorem putT_perm (t : Tk) : ∀ S : List Tk, (putT t S).Perm (t :: S)
  | [] => List.Perm.refl _
  | u :: S => by
    rw [putT]
    split
    · exact ((putT_perm t S).cons u).trans (List.Perm.swap t u S)
    · exact List.Perm.refl _
theorem putT_mem {t x : Tk} {S : List Tk} : x ∈ putT t S ↔ x = t ∨ x ∈ S := by rw [(putT_perm t S).mem_iff, List.mem_cons]
theorem putT_sorted {t : Tk} : ∀ {S : List Tk}, SortedT S → SortedT (putT t S)
  | [], _ => List.pairwise_singleton _ _
  | u :: S, h => by
    unfold SortedT at h ⊢
    rw [List.pairwise_cons] at h
    rw [putT]
    split
    · rename_i hu
      refine List.Pairwise.cons (fun x hx => ?_) (putT_sorted h.2)
      rcases putT_mem.1 hx with rfl | hx
      · exact hu
      · exact h.1 x hx
    · rename_i hu
      refine List.Pairwise.cons (fun x hx => ?_) (List.pairwise_cons.2 h)
      rcases List.mem_cons.1 hx with rfl | hx
      · omega
      · have := h.1 x hx; omega
theorem sort_snoc (L : List Tk) (t : Tk) : sortT (L ++ [t]) = putT t (sortT L) := by unfold sortT; rw [List.foldl_append]; rfl
theorem sort_perm (L : List Tk) : (sortT L).Perm L := by
  induction L using snoc_rec with
  | nil => exact List.Perm.refl _
  | snoc L t ih => rw [sort_snoc]; exact ((putT_perm t _).trans (ih.cons t)).trans (List.perm_append_singleton t L).symm
theorem sort_sorted (L : List Tk) : SortedT (sortT L) := by
  induction L using snoc_rec with
  | nil => exact List.Pairwise.nil
  | snoc L t ih => rw [sort_snoc]; exact putT_sorted ih
/-- It fits: the ends of the sorted ones. -/
theorem fit_sorted {L : List Tk} (hL : OkL L) : AllEnd (sortT L) ↔ Feas L := fit_iff hL (sort_perm L).symm (sort_sorted L)
/-- Where the last one that goes as often stands: behind the first j. -/
theorem putT_cut {t : Tk} : ∀ {S : List Tk}, SortedT S → ∃ j, j ≤ S.length ∧ putT t S = S.take j ++ t :: S.drop j ∧ (∀ u ∈ S.take j, u.p ≤ t.p) ∧ ∀ u ∈ S.drop j, t.p < u.p
  | [], _ => ⟨0, Nat.le_refl _, rfl, by simp, by simp⟩
  | u :: S, h => by
    unfold SortedT at h
    rw [List.pairwise_cons] at h
    rw [putT]
    split
    · rename_i hu
      obtain ⟨j, h1, h2, h3, h4⟩ := putT_cut (t := t) h.2
      refine ⟨j + 1, by simp; omega, by rw [h2]; rfl, fun x hx => ?_, fun x hx => h4 x (by simpa using hx)⟩
      rw [List.take_succ_cons] at hx
      rcases List.mem_cons.1 hx with rfl | hx
      · exact hu
      · exact h3 x hx
    · rename_i hu
      refine ⟨0, by simp, rfl, by simp, fun x hx => ?_⟩
      rw [List.drop_zero] at hx
      rcases List.mem_cons.1 hx with rfl | hx
      · omega
      · have := h.1 x hx; omega
end Go.Proofs.Ytajfohnblmnjjaa
