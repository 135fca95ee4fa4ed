/-
  Slices whose elements have several cells (structs by value): what they read as. No statement of the seat is here.
-/
import Derived.Test.YtldkmopkakdgnaaBase
namespace Go.Proofs.Ytldkmopkakdgnaa
open Go.RowKit
set_option maxRecDepth 20000

section
variable {α : Type} {g : α → List Value} {m : Nat}
theorem flat_len (hg : ∀ x, (g x).length = m) (L : List α) : (L.flatMap g).length = L.length * m := by
  induction L with
  | nil => simp
  | cons x r ih => rw [List.flatMap_cons, List.length_append, hg, ih, List.length_cons, Nat.succ_mul]; omega
theorem flat_at (hg : ∀ x, (g x).length = m) {L : List α} {k j : Nat} {x : α} {u : Value} (hk : L[k]? = some x) (hj : (g x)[j]? = some u) : (L.flatMap g)[k * m + j]? = some u := by
  induction L generalizing k with
  | nil => cases hk
  | cons y r ih =>
    have hlt : j < (g x).length := (List.getElem?_eq_some_iff.1 hj).1
    rw [List.flatMap_cons]
    cases k with
    | zero =>
      simp at hk
      subst hk
      rw [Nat.zero_mul, Nat.zero_add, List.getElem?_append_left hlt]
      exact hj
    | succ k =>
      simp at hk
      rw [List.getElem?_append_right (by rw [hg, Nat.succ_mul]; omega), hg]
      have e : (k + 1) * m + j - m = k * m + j := by rw [Nat.succ_mul]; omega
      rw [e]
      exact ih hk
theorem Rd.lenFlat {w : World} {A : Option Addr} {n : Nat} {L : List α} (hg : ∀ x, (g x).length = m) (hm : 0 < m) (h : Rd w m A n (L.flatMap g)) : L.length = n := by
  have := h.1
  rw [flat_len hg] at this
  exact Nat.eq_of_mul_eq_mul_right hm this
theorem Rd.atFlat {w : World} {A : Option Addr} {n k : Nat} {L : List α} (hg : ∀ x, (g x).length = m) (hm : 0 < m) (h : Rd w m A n (L.flatMap g)) (hk : k < n) :
    ∃ ad x, A = some ad ∧ L[k]? = some x ∧ ∀ j u, (g x)[j]? = some u → w.cell? (ad.add (k * m + j)) = some u := by
  obtain ⟨ad, e, hc⟩ := h.2 (by omega)
  have hl := h.lenFlat hg hm
  have hx : L[k]? = some L[k] := List.getElem?_eq_getElem (by omega)
  exact ⟨ad, _, e, hx, fun j u hj => hc _ _ (flat_at hg hx hj)⟩
theorem Rd.litFlat (hg : ∀ x, (g x).length = m) {w : World} {b : Nat} (L : List α) (t : TypeId) (hb : b = w.heap.size) : Rd (w.alloc (.cells (L.flatMap g).toArray t)) m (some ⟨b, 0, none⟩) L.length (L.flatMap g) := by
  subst hb
  have h := Rd.lit w (L.flatMap g) t
  refine ⟨flat_len hg L, fun hn => ?_⟩
  rcases Nat.eq_zero_or_pos (L.flatMap g).length with h0 | h0
  · exact ⟨_, rfl, fun j u hu => by have := (List.getElem?_eq_some_iff.1 hu).1; omega⟩
  · exact h.2 h0
end
end Go.Proofs.Ytldkmopkakdgnaa
