/-
  An argument that is a slice of elements of several cells, opened to a list. No statement of the seat is proved here.
-/
import Derived.Test.YtldkmopkakdgnaaOpen
import Derived.Test.YtldkmopkakdgnaaStructs
import Derived.Deep.Strs
namespace Go.Proofs.Ytldkmopkakdgnaa
open Go.ChangeShapes Go.WideShapes Go.ChangeAt Go.RowKit Go.Deep
set_option maxRecDepth 20000
set_option linter.unusedVariables false

section
variable {H : Type} {enc : TypeId × Value → H} {P : Program} {w : World} {base : Nat} {held : Bool}
theorem open_listM {α : Type} (g : α → List Value) (m : Nat) (hg : ∀ x, (g x).length = m) (encd : α → DataW H) (Q : α → Prop) {t e : TypeId} (ht : P.underlying t = some (.slice e)) (hC : P.cellsOf e = m)
    (hdec : ∀ n cs y, cs.length = m → DataW.trod enc P w base (fun _ => true) held n e cs = some y → ∃ x, cs = g x ∧ y.1 = encd x ∧ Q x)
    {A : Option Addr} {len cap : Nat} {d : DataW H} {p : List MemPlace} (h : DataW.Trod enc P w base (fun _ => true) held t (.slice A len cap) d p) :
    len ≤ cap ∧ cap ≤ maxLen ∧ ∃ l : List α, Rd w m A len (l.flatMap g) ∧ (∀ x ∈ l, Q x) ∧ ((A = none ∧ cap = 0 ∧ l = [] ∧ d = .nil) ∨ ∃ sp : List (DataW H), d = .slice (l.map encd) sp ∧ l.length + sp.length = cap) := by
  obtain ⟨fuel, hf⟩ := h
  rcases open_slice ht hf with ⟨hcs, hx⟩ | ⟨a, len', cap', mm, n, D, Pl, hcs, _, hl, hm, hmm, hx, hi⟩
  · simp [Value.cells] at hcs
    obtain ⟨rfl, rfl, rfl⟩ := hcs
    injection hx with hx _
    exact ⟨Nat.le_refl _, by simp, [], ⟨by simp, fun h => absurd h (by omega)⟩, by simp, .inl ⟨rfl, rfl, rfl, hx⟩⟩
  · simp [Value.cells] at hcs
    obtain ⟨rfl, rfl, rfl⟩ := hcs
    simp only [if_true] at hmm
    subst hmm
    rw [hC] at hi
    have hk : ∀ k, k ≤ len → ∃ l : List α, l.length = k ∧ (∀ x ∈ l, Q x) ∧ (∀ j u, (l.flatMap g)[j]? = some u → w.cell? (a.add j) = some u) ∧ ∀ i, i < k → ∃ x, l[i]? = some x ∧ D i = encd x := by
      intro k
      induction k with
      | zero => intro _; exact ⟨[], rfl, by simp, by simp, fun i hi => absurd hi (by omega)⟩
      | succ k ih =>
        intro hk
        obtain ⟨l, h1, h2, h3, h4⟩ := ih (by omega)
        obtain ⟨cs', hcells, htr⟩ := hi k (by omega)
        obtain ⟨_, hlen, hcell⟩ := World.cells?_some hcells
        obtain ⟨x, hv, hd, hq⟩ := hdec n cs' (D k, Pl k) hlen htr
        have hlf : (l.flatMap g).length = k * m := by rw [flat_len hg, h1]
        refine ⟨l ++ [x], by simp [h1], ?_, fun j u hu => ?_, fun i hik => ?_⟩
        · intro y hy
          rcases List.mem_append.1 hy with h | h
          · exact h2 y h
          · rw [List.mem_singleton.1 h]; exact hq
        · rw [List.flatMap_append, List.flatMap_cons, List.flatMap_nil, List.append_nil] at hu
          by_cases hj : j < k * m
          · rw [List.getElem?_append_left (by omega)] at hu
            exact h3 j u hu
          · rw [List.getElem?_append_right (by omega), hlf, ← hv] at hu
            have hlt := (List.getElem?_eq_some_iff.1 hu).1
            have := hcell (j - k * m) (by omega)
            rw [ad_add, hu] at this
            have e : k * m + (j - k * m) = j := by omega
            rw [e] at this
            exact this
        · by_cases hlt : i < k
          · obtain ⟨y, g1, g2⟩ := h4 i hlt
            exact ⟨y, by rw [List.getElem?_append_left (by omega)]; exact g1, g2⟩
          · obtain rfl : i = k := by omega
            exact ⟨x, by rw [List.getElem?_append_right (by omega), h1]; simp, hd⟩
    obtain ⟨l, h1, h2, h3, h4⟩ := hk len (by omega)
    injection hx with hx _
    have hel : (List.range len).map D = l.map encd := by
      refine List.ext_getElem? fun i => ?_
      rw [List.getElem?_map, List.getElem?_map]
      by_cases hj : i < len
      · obtain ⟨x, g1, g3⟩ := h4 i hj
        simp [g1, g3, hj]
      · rw [List.getElem?_eq_none (by simp; omega), List.getElem?_eq_none (by omega)]; rfl
    refine ⟨hl, hm, l, ⟨by rw [flat_len hg, h1], fun _ => ⟨a, rfl, h3⟩⟩, h2, .inr ⟨_, by rw [hx, hel], ?_⟩⟩
    simp [h1]; omega
end
end Go.Proofs.Ytldkmopkakdgnaa
