/-
  Bus arbitration: the plain mathematics of chapter 5, without a program.
-/
import Derived.Test.YtolcfifbnmkfaaaBitMath
import Derived.Test.YtolcfifbnmkfaaaSlicesI
import Derived.Test.YtolcfifbnmkfaaaSortI
namespace Go.Proofs.Ytolcfifbnmkfaaa
open Go.RowKit
set_option linter.unusedVariables false

/-- Wrong: the first error, seen: the numbers that came ahead. -/
def wrongFrom (seen : List Int) : List Int → Int
  | [] => 0
  | x :: r => if x < 0 ∨ 2047 < x then 2 else if x ∈ seen then 6 else wrongFrom (seen ++ [x]) r
def wrongM (l : List Int) : Int := if 400 < l.length then 2 else wrongFrom [] l
theorem wrongFrom_range {l : List Int} {k : Nat} {x : Int} (h : l[k]? = some x) (hx : x < 0 ∨ 2047 < x) : wrongFrom (l.take k) (l.drop k) = 2 := by
  rw [drop_cons h, wrongFrom, if_pos hx]
theorem wrongFrom_held {l : List Int} {k : Nat} {x : Int} (h : l[k]? = some x) (h0 : 0 ≤ x) (h1 : x ≤ 2047) (hs : x ∈ l.take k) : wrongFrom (l.take k) (l.drop k) = 6 := by
  rw [drop_cons h, wrongFrom, if_neg (by omega), if_pos hs]
theorem wrongFrom_next {l : List Int} {k : Nat} {x : Int} (h : l[k]? = some x) (h0 : 0 ≤ x) (h1 : x ≤ 2047) (hs : x ∉ l.take k) : wrongFrom (l.take k) (l.drop k) = wrongFrom (l.take (k + 1)) (l.drop (k + 1)) := by
  rw [drop_cons h, wrongFrom, if_neg (by omega), if_neg hs, ← take_snoc h]
theorem wrongFrom_end {l : List Int} {k : Nat} (h : l.length ≤ k) : wrongFrom (l.take k) (l.drop k) = 0 := by
  rw [List.drop_eq_nil_of_le h]; rfl
/-- Identifiers that may arbitrate. -/
def Fair (l : List Int) : Prop := l.length ≤ 400 ∧ (∀ x ∈ l, 0 ≤ x ∧ x ≤ 2047) ∧ l.Nodup
theorem wrongFrom_zero : ∀ (r seen : List Int), wrongFrom seen r = 0 ↔ (∀ x ∈ r, 0 ≤ x ∧ x ≤ 2047) ∧ r.Nodup ∧ ∀ x ∈ r, x ∉ seen
  | [], seen => by simp [wrongFrom]
  | x :: r, seen => by
    rw [wrongFrom]
    split
    · rename_i h
      simp only [List.mem_cons, forall_eq_or_imp]
      constructor
      · intro h; cases h
      · rintro ⟨⟨h1, _⟩, _⟩; omega
    · rename_i h
      split
      · rename_i hs
        simp only [List.mem_cons, forall_eq_or_imp]
        constructor
        · intro h; cases h
        · rintro ⟨_, _, h1, _⟩; exact absurd hs h1
      · rename_i hs
        rw [wrongFrom_zero r (seen ++ [x])]
        simp only [List.mem_cons, forall_eq_or_imp, List.nodup_cons, List.mem_append, not_or, List.not_mem_nil, or_false]
        constructor
        · rintro ⟨h1, h2, h3⟩
          exact ⟨⟨by omega, h1⟩, ⟨fun hx => (h3 x hx).2 rfl, h2⟩, hs, fun y hy => (h3 y hy).1⟩
        · rintro ⟨⟨_, h1⟩, ⟨h2, h3⟩, _, h4⟩
          exact ⟨h1, h3, fun y hy => ⟨h4 y hy, fun e => h2 (e ▸ hy)⟩⟩
theorem wrongM_zero (l : List Int) : wrongM l = 0 ↔ Fair l := by
  unfold wrongM Fair
  split
  · constructor
    · intro h; cases h
    · rintro ⟨h, _⟩; omega
  · rw [wrongFrom_zero]
    constructor
    · rintro ⟨h1, h2, _⟩; exact ⟨by omega, h1, h2⟩
    · rintro ⟨_, h1, h2⟩; exact ⟨h1, h2, by simp⟩
end Go.Proofs.Ytolcfifbnmkfaaa
