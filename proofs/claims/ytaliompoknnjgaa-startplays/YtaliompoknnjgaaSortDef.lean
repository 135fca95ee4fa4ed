/-
  A list of numbers in rising order. No statement of the seat is here.
-/
import Derived.Test.YtaliompoknnjgaaBase
namespace Go.Proofs.Ytaliompoknnjgaa
open Go.RowKit
set_option maxRecDepth 20000

/-- A list of numbers in rising order. -/
def sortI (l : List Int) : List Int := l.mergeSort (fun x y => decide (x ≤ y))
theorem sortI_length (l : List Int) : (sortI l).length = l.length := List.length_mergeSort l
theorem sortI_is (l : List Int) : (sortI l).Perm l := List.mergeSort_perm l _
theorem sortI_rises (l : List Int) : (sortI l).Pairwise (· ≤ ·) := by
  have := List.pairwise_mergeSort (le := fun x y : Int => decide (x ≤ y)) (fun a b c h1 h2 => by simp at *; omega) (fun a b => by simp; omega) l
  simpa [sortI] using this
theorem sortI_unique {l s : List Int} (hs : s.Pairwise (· ≤ ·)) (hp : s.Perm l) : sortI l = s :=
  List.Perm.eq_of_pairwise (le := (· ≤ ·)) (fun a b _ _ h1 h2 => by omega) (sortI_rises l) hs ((sortI_is l).trans hp.symm)
theorem sortI_perm {l l' : List Int} (h : l.Perm l') : sortI l = sortI l' := sortI_unique (sortI_rises l') ((sortI_is l').trans h.symm)
end Go.Proofs.Ytaliompoknnjgaa
