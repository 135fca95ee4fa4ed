/-
  s[:k] and s[k:] of a slice whose elements have several cells. No statement of the seat is here.
-/
import Derived.Test.YtajfohnblmnjjaaStructG
namespace Go.Proofs.Ytajfohnblmnjjaa
open Go.RowKit

section
variable {α : Type} {g : α → List Value} {m : Nat}
theorem flat_take (hg : ∀ x, (g x).length = m) : ∀ (L : List α) (k : Nat), (L.take k).flatMap g = (L.flatMap g).take (k * m)
  | [], k => by simp
  | x :: r, 0 => by simp
  | x :: r, k + 1 => by
    have e : (k + 1) * m - m = k * m := by rw [Nat.succ_mul]; omega
    have h1 : (g x).take ((k + 1) * m) = g x := List.take_of_length_le (by rw [hg, Nat.succ_mul]; omega)
    rw [List.take_succ_cons, List.flatMap_cons, List.flatMap_cons, flat_take hg r k, List.take_append, h1, hg, e]
theorem flat_drop (hg : ∀ x, (g x).length = m) : ∀ (L : List α) (k : Nat), (L.drop k).flatMap g = (L.flatMap g).drop (k * m)
  | [], k => by simp
  | x :: r, 0 => by simp
  | x :: r, k + 1 => by
    have e : (k + 1) * m - m = k * m := by rw [Nat.succ_mul]; omega
    have h1 : (g x).drop ((k + 1) * m) = [] := List.drop_eq_nil_of_le (by rw [hg, Nat.succ_mul]; omega)
    rw [List.drop_succ_cons, List.flatMap_cons, flat_drop hg r k, List.drop_append, h1, hg, e, List.nil_append]
theorem RdG.takeTo {w : World} {A : Option Addr} {n k : Nat} {L : List α} (hg : ∀ x, (g x).length = m) (h : RdG g m w A n L) (hk : k ≤ n) : RdG g m w A k (L.take k) := by
  have := Rd.take h hk
  rwa [← flat_take hg] at this
theorem RdG.cutFrom {w : World} {A : Option Addr} {n k cap : Nat} {L : List α} (hg : ∀ x, (g x).length = m) (h : RdG g m w A n L) (hk : k ≤ n) (hc : n ≤ cap) : RdG g m w (if cap = k then A else A.map (·.add (k * m))) (n - k) (L.drop k) := by
  have := Rd.cut h hk hc
  rwa [← flat_drop hg] at this
end
end Go.Proofs.Ytajfohnblmnjjaa
