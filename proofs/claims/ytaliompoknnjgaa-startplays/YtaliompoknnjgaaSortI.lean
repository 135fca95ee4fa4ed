/-
  slices.Sort and slices.Reverse at slices of ints that the call itself has made: the same slice then holds the sorted list, or the list in reverse. No statement of the seat is here.
-/
import Derived.Test.YtaliompoknnjgaaShelf
import Derived.Test.YtaliompoknnjgaaTypes
import Derived.Test.YtaliompoknnjgaaBox
import Derived.Lib.SlKeysI
import Derived.Test.YtaliompoknnjgaaSortDef
namespace Go.Proofs.Ytaliompoknnjgaa
open Go.RowKit
set_option maxRecDepth 20000
set_option linter.unusedVariables false

theorem Sort_own {w : World} {base : Nat} {v : Value} {l : List Int} (ho : Ow (Value.int .i64) w base 3 v l) (hn : l.length < 4611686018427387904) :
    Calls Try.prog 23 #[v] w fun e w' => e = .returned (.tuple #[]) ∧ Ow (Value.int .i64) w' base 3 v (sortI l) ∧ Moves w w' v v := by
  rcases ho.2 with ⟨rfl, h0⟩ | ⟨g, cap, cur, rfl, hbase, hb, h1, h2, h3, h4⟩
  · obtain rfl : l = [] := List.eq_nil_of_length_eq_zero h0
    refine (Any.slices_Sort_int_none sortL none 0 w).mono ?_
    rintro e w' ⟨rfl, rfl⟩
    exact ⟨rfl, by simpa [sortI] using ho, Moves.refl _ _⟩
  · refine (Any.slices_Sort_int sortL g 0 cap l w (holds_of_block_i hb (by simpa using h4)) (Array.getElem?_eq_some_iff.1 hb).1 hn).mono ?_
    rintro e w' ⟨rfl, n, os, rfl⟩
    refine ⟨rfl, ?_, ?_⟩
    · have := ownsRow_sorted_i (n := n) (os := os) (ts := sortI l) (sortI_length l) hbase hb h1 h2 h3
      unfold Ow
      rw [sortI_length]
      exact this
    · exact ⟨grownBy_sorted_i (w := w) (g := g) (n := n) (os := os) (sortI l).toArray, .inl rfl⟩
end Go.Proofs.Ytaliompoknnjgaa
