/-
  The long division of rows of digits, digit by digit: the guess by two digits of the divisor, and what is left. No statement of the seat is here.
-/
import Derived.Test.YtajfohnblmnjjaaBigMath
namespace Go.Proofs.Ytajfohnblmnjjaa
set_option linter.unusedVariables false

theorem mul_le_l {a b c : Int} (hc : 0 ≤ c) (h : a ≤ b) : c * a ≤ c * b := Int.mul_le_mul_of_nonneg_left h hc
theorem mul_le_r {a b c : Int} (hc : 0 ≤ c) (h : a ≤ b) : a * c ≤ b * c := Int.mul_le_mul_of_nonneg_right h hc
/-- The quotient by its property. -/
theorem div_is {W V q r : Int} (h : W = V * q + r) (h0 : 0 ≤ r) (h1 : r < V) : W / V = q ∧ W % V = r := by
  have hV : 0 < V := by omega
  refine ⟨?_, ?_⟩
  · rw [h, Int.add_comm, Int.add_mul_ediv_left _ _ (by omega), Int.ediv_eq_zero_of_lt h0 h1]; omega
  · rw [h, Int.add_comm, Int.add_mul_emod_self_left, Int.emod_eq_of_lt h0 h1]
/-- What the guess is made of. -/
structure Guess (W V top u0 v1 v0 P : Int) : Prop where
  hw : ∃ wl, W = (top * 4294967296 + u0) * P + wl ∧ 0 ≤ wl ∧ wl < P
  hv : ∃ vl, V = (v1 * 4294967296 + v0) * P + vl ∧ 0 ≤ vl ∧ vl < P
  d0 : IsDig u0
  e1 : IsDig v1
  e0 : IsDig v0
  p1 : 1 ≤ v1
  t0 : 0 ≤ top
/-- A guess that is too great by the test is too great. -/
theorem Guess.high {W V top u0 v1 v0 P Q R : Int} (h : Guess W V top u0 v1 v0 P) (hQ : 0 ≤ Q) (he : Q * v1 + R = top) (ht : R * 4294967296 + u0 < Q * v0) : W < Q * V := by
  obtain ⟨wl, hw, w0, w1⟩ := h.hw
  obtain ⟨vl, hv, g0, g1⟩ := h.hv
  have hP : 0 ≤ P := by omega
  have e1 : Q * V = Q * (v1 * 4294967296 + v0) * P + Q * vl := by rw [hv, Int.mul_add, Int.mul_assoc]
  have e2 : Q * (v1 * 4294967296 + v0) = Q * v1 * 4294967296 + Q * v0 := by rw [Int.mul_add, Int.mul_assoc]
  have e3 : top * 4294967296 + u0 + 1 ≤ Q * (v1 * 4294967296 + v0) := by rw [e2, ← he]; generalize Q * v1 = a at *; generalize Q * v0 = b at *; omega
  have e4 := mul_le_r hP e3
  rw [Int.add_mul, Int.one_mul] at e4
  have e5 : 0 ≤ Q * vl := Int.mul_nonneg hQ g0
  rw [e1, hw]
  omega
/-- One that isn't is too great by one at most. -/
theorem Guess.low {W V top u0 v1 v0 P Q R : Int} (h : Guess W V top u0 v1 v0 P) (hQ : 0 ≤ Q) (hB : Q < 4294967296) (he : Q * v1 + R = top) (ht : Q * v0 ≤ R * 4294967296 + u0) : Q * V ≤ W + V := by
  obtain ⟨wl, hw, w0, w1⟩ := h.hw
  obtain ⟨vl, hv, g0, g1⟩ := h.hv
  have hP : 0 ≤ P := by omega
  have h1 := h.e1.1
  have h0 := h.e0.1
  have e1 : Q * V = Q * (v1 * 4294967296 + v0) * P + Q * vl := by rw [hv, Int.mul_add, Int.mul_assoc]
  have e2 : Q * (v1 * 4294967296 + v0) = Q * v1 * 4294967296 + Q * v0 := by rw [Int.mul_add, Int.mul_assoc]
  have e3 : Q * (v1 * 4294967296 + v0) ≤ top * 4294967296 + u0 := by rw [e2, ← he]; generalize Q * v1 = a at *; generalize Q * v0 = b at *; omega
  have e4 := mul_le_r hP e3
  have e5 : Q * vl ≤ 4294967296 * P := Int.le_trans (mul_le_l hQ (Int.le_of_lt g1)) (mul_le_r hP (Int.le_of_lt hB))
  have e6 : 4294967296 * P ≤ (v1 * 4294967296 + v0) * P := mul_le_r hP (by have := h.p1; omega)
  rw [e1, hv, hw]
  rw [hv] at e1
  omega
/-- The first guess is no less than the quotient. -/
theorem Guess.first {W V top u0 v1 v0 P q : Int} (h : Guess W V top u0 v1 v0 P) (hq0 : 0 ≤ q) (hq : q * V ≤ W) : q ≤ top / v1 := by
  obtain ⟨wl, hw, w0, w1⟩ := h.hw
  obtain ⟨vl, hv, g0, g1⟩ := h.hv
  have hP : 0 < P := by omega
  have hv1 := h.p1
  have hv0 := h.e0.1
  have hu := h.d0
  unfold IsDig at hu
  have e1 : (v1 * 4294967296) * P ≤ V := by
    have := mul_le_r (Int.le_of_lt hP) (show v1 * 4294967296 ≤ v1 * 4294967296 + v0 by omega)
    omega
  have e2 := mul_le_l hq0 e1
  have e3 : q * (v1 * 4294967296 * P) = (q * v1) * (4294967296 * P) := by rw [Int.mul_assoc v1, ← Int.mul_assoc q]
  have e4 : W < (top + 1) * (4294967296 * P) := by
    have := mul_le_r (Int.le_of_lt hP) (show top * 4294967296 + u0 + 1 ≤ (top + 1) * 4294967296 by omega)
    rw [Int.add_mul, Int.one_mul, Int.mul_assoc (top + 1)] at this
    omega
  have e5 : (q * v1) * (4294967296 * P) < (top + 1) * (4294967296 * P) := by omega
  have e6 := Int.lt_of_mul_lt_mul_right e5 (by omega)
  exact Int.le_ediv_of_mul_le (by omega) (by omega)
/-- Where the rest goes over a digit the guess is a digit, and the test would let it be. -/
theorem Guess.over {top u0 v1 v0 Q R : Int} (h1 : IsDig v1) (h0 : IsDig v0) (hu : IsDig u0) (hQ : 0 ≤ Q) (he : Q * v1 + R = top) (ht : top ≤ v1 * 4294967296 + 4294967295) (hR : 4294967296 ≤ R) : Q < 4294967296 ∧ Q * v0 ≤ R * 4294967296 + u0 := by
  unfold IsDig at h1 h0 hu
  have hlt : Q < 4294967296 := by
    rcases Int.lt_or_le Q 4294967296 with h | h
    · exact h
    · have := mul_le_r h1.1 h
      rw [Int.mul_comm v1] at ht
      generalize Q * v1 = a at *
      omega
  refine ⟨hlt, ?_⟩
  have a1 := mul_le_l hQ (show v0 ≤ 4294967295 by omega)
  omega
/-- The quotient's digit out of a guess that is it or one more: by the sign of what is left. -/
theorem digit_is {W V Q q lo t Pn : Int} (hV : 0 < V) (hVP : V < Pn) (hq : W / V = q) (hW : 0 ≤ W) (hlo : 0 ≤ lo) (hlo2 : lo < Pn) (he : lo + Pn * t = W - Q * V) (h1 : q ≤ Q) (h2 : Q ≤ q + 1) :
    (0 ≤ t → Q = q ∧ t = 0 ∧ lo = W % V) ∧ (t < 0 → Q = q + 1 ∧ t = -1 ∧ lo + V = W % V + Pn) := by
  have hr0 := Int.emod_nonneg W (show V ≠ 0 by omega)
  have hr1 := Int.emod_lt_of_pos W hV
  have hd := Int.mul_ediv_add_emod W V
  rw [hq] at hd
  have hPn : 0 < Pn := by omega
  rcases (show Q = q ∨ Q = q + 1 by omega) with rfl | rfl
  · rw [Int.mul_comm Q V] at he
    have he' : lo + Pn * t = W % V := by omega
    have ht : t = 0 := by
      rcases Int.lt_trichotomy t 0 with h | h | h
      · have := mul_le_l (Int.le_of_lt hPn) (show t ≤ -1 by omega)
        omega
      · exact h
      · have := mul_le_l (Int.le_of_lt hPn) (show 1 ≤ t by omega)
        omega
    subst ht
    exact ⟨fun _ => ⟨rfl, rfl, by omega⟩, fun h => absurd h (by omega)⟩
  · rw [Int.add_mul, Int.one_mul, Int.mul_comm q V] at he
    have he' : lo + Pn * t = W % V - V := by omega
    have ht : t = -1 := by
      rcases Int.lt_or_le t (-1) with h | h
      · have := mul_le_l (Int.le_of_lt hPn) (show t ≤ -2 by omega)
        omega
      · rcases Int.lt_or_le t 0 with h2 | h2
        · omega
        · have := mul_le_l (Int.le_of_lt hPn) h2
          omega
    subst ht
    exact ⟨fun h => absurd h (by omega), fun _ => ⟨rfl, rfl, by omega⟩⟩
/-- Behind the addition: the carry is one, and what is left is less than the divisor. -/
theorem back_is {lo2 c r V Pn : Int} (hr0 : 0 ≤ r) (hr : r < V) (hVP : V < Pn) (h0 : 0 ≤ lo2) (h1 : lo2 < Pn) (he : lo2 + Pn * c = r + Pn) : c = 1 ∧ lo2 = r := by
  have hPn : 0 ≤ Pn := by omega
  have hc : c = 1 := by
    rcases Int.lt_trichotomy c 1 with h | h | h
    · have := mul_le_l hPn (show c ≤ 0 by omega)
      omega
    · exact h
    · have := mul_le_l hPn (show 2 ≤ c by omega)
      omega
  subst hc
  exact ⟨rfl, by omega⟩

/-! one digit of each row at a time -/
theorem mag_snoc (l : List Int) (a : Int) : mag (l ++ [a]) = mag l + pow32 l.length * a := by
  rw [mag_append]; simp [mag]
theorem pow32_succ (k : Nat) : pow32 (k + 1) = 4294967296 * pow32 k := rfl
/-- A round of the subtraction. -/
theorem msub_step {Q c b x y lo U V : Int} {P : Int} (he : lo - P * (c + b) = U - Q * V) (h0 : -4294967296 ≤ x - (c + Q * y) % 4294967296 - b) (h1 : x - (c + Q * y) % 4294967296 - b < 4294967296) :
    (lo + P * ((x - (c + Q * y) % 4294967296 - b) % 4294967296)) - (4294967296 * P) * ((c + Q * y) / 4294967296 + (if x - (c + Q * y) % 4294967296 - b < 0 then 1 else 0)) = (U + P * x) - Q * (V + P * y) := by
  obtain ⟨c1, hc1⟩ : ∃ c1, c + Q * y = c1 := ⟨_, rfl⟩
  rw [hc1] at h0 h1 ⊢
  obtain ⟨d, hd⟩ : ∃ d, x - c1 % 4294967296 - b = d := ⟨_, rfl⟩
  rw [hd] at h0 h1 ⊢
  have e1 : d % 4294967296 = d + 4294967296 * (if d < 0 then 1 else 0) := by split <;> omega
  rw [e1]
  generalize (if d < 0 then (1 : Int) else 0) = s
  have e4 : d + 4294967296 * s - 4294967296 * (c1 / 4294967296 + s) = x - b - c1 := by omega
  have e5 : (lo + P * (d + 4294967296 * s)) - (4294967296 * P) * (c1 / 4294967296 + s) = lo + P * (d + 4294967296 * s - 4294967296 * (c1 / 4294967296 + s)) := by
    rw [Int.mul_comm 4294967296 P, Int.mul_assoc, Int.mul_sub]
    omega
  rw [e5, e4, ← hc1, show x - b - (c + Q * y) = x - (c + b) - Q * y by omega, Int.mul_sub, Int.mul_sub, Int.mul_add Q, show Q * (P * y) = P * (Q * y) from Int.mul_left_comm _ _ _]
  omega
/-- A round of the addition. -/
theorem madd_step {c x y lo U V P : Int} (he : lo + P * c = U + V) : (lo + P * ((c + (x + y)) % 4294967296)) + (4294967296 * P) * ((c + (x + y)) / 4294967296) = (U + P * x) + (V + P * y) := by
  have e2 : c + (x + y) = 4294967296 * ((c + (x + y)) / 4294967296) + (c + (x + y)) % 4294967296 := by omega
  generalize (c + (x + y)) / 4294967296 = a at *
  generalize (c + (x + y)) % 4294967296 = d at *
  have e5 : (lo + P * d) + (4294967296 * P) * a = lo + P * (4294967296 * a + d) := by rw [Int.mul_comm 4294967296 P, Int.mul_assoc, Int.mul_add]; omega
  rw [e5, ← e2, Int.mul_add, Int.mul_add]
  omega
end Go.Proofs.Ytajfohnblmnjjaa
