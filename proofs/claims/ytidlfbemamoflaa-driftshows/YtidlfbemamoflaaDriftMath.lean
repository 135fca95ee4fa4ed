/-
  Chapter 11 on numbers: what a clock shows, when it shows a value, how far two are apart. No statement of the seat is here.
-/
import Derived.Test.YtidlfbemamoflaaNums
namespace Go.Proofs.Ytidlfbemamoflaa

/-- A clock of rate r and offset o is right. -/
def ClockOk (r o : Int) : Prop := -1000 ≤ r ∧ r ≤ 1000 ∧ 0 ≤ o ∧ o ≤ 1099511627776
instance (r o : Int) : Decidable (ClockOk r o) := by unfold ClockOk; infer_instance
def InTime (t : Int) : Prop := 0 ≤ t ∧ t ≤ 1099511627776
instance (t : Int) : Decidable (InTime t) := by unfold InTime; infer_instance
def checkK (r o t : Int) : Int := if ClockOk r o then (if InTime t then 0 else 2) else 1
def showsV (r o t : Int) : Int := o + t * (1000000 + r) / 1000000
def showsR (r o t : Int) : Int := if checkK r o t = 0 then showsV r o t else 0
def whenV (r o s : Int) : Int := if s - o ≤ 0 then 0 else ((s - o) * 1000000 + (1000000 + r) - 1) / (1000000 + r)
def whenR (r o s : Int) : Int := if checkK r o s = 0 then whenV r o s else 0
def apartE (r o r' o' t : Int) : Int := if checkK r o t = 0 then checkK r' o' t else checkK r o t
def apartV (r o r' o' t : Int) : Int := max (showsV r o t) (showsV r' o' t) - min (showsV r o t) (showsV r' o' t)
def apartR (r o r' o' t : Int) : Int := if apartE r o r' o' t = 0 then apartV r o r' o' t else 0

theorem checkK_form {r o : Int} (t : Int) (h : ¬ ClockOk r o) : checkK r o t = 1 := if_neg h
theorem checkK_range {r o t : Int} (h : ClockOk r o) (h1 : ¬ InTime t) : checkK r o t = 2 := by rw [checkK, if_pos h, if_neg h1]
theorem checkK_ok {r o t : Int} (h : ClockOk r o) (h1 : InTime t) : checkK r o t = 0 := by rw [checkK, if_pos h, if_pos h1]
theorem checkK_zero {r o t : Int} (h : checkK r o t = 0) : ClockOk r o ∧ InTime t := by
  by_cases h1 : ClockOk r o
  · by_cases h2 : InTime t
    · exact ⟨h1, h2⟩
    · rw [checkK_range h1 h2] at h; cases h
  · rw [checkK_form t h1] at h; cases h
theorem checkK_cases (r o t : Int) : checkK r o t = 0 ∨ checkK r o t = 1 ∨ checkK r o t = 2 := by
  unfold checkK; split
  · split <;> simp
  · simp

/-- The product stays small. -/
theorem prod_range {r t : Int} (h1 : -1000 ≤ r) (h2 : r ≤ 1000) (h3 : 0 ≤ t) (h4 : t ≤ 1099511627776) : 0 ≤ t * (1000000 + r) ∧ t * (1000000 + r) ≤ 1100611139403776000 ∧ t * 999000 ≤ t * (1000000 + r) ∧ t * (1000000 + r) ≤ t * 1001000 := by
  have a := Int.mul_le_mul_of_nonneg_left (c := t) (show (999000 : Int) ≤ 1000000 + r by omega) h3
  have b := Int.mul_le_mul_of_nonneg_left (c := t) (show 1000000 + r ≤ (1001000 : Int) by omega) h3
  omega
theorem showsV_range {r o t : Int} (h : ClockOk r o) (ht : InTime t) : 0 ≤ showsV r o t ∧ showsV r o t ≤ 2300000000000 := by
  obtain ⟨h1, h2, h3, h4⟩ := h
  obtain ⟨h5, h6⟩ := ht
  have := prod_range h1 h2 h5 h6
  unfold showsV
  omega
theorem showsV_true (o t : Int) : showsV 0 o t = o + t := by unfold showsV; omega
theorem whenV_true (o t : Int) : whenV 0 o t = max (t - o) 0 := by
  unfold whenV; split <;> omega

/-- It never goes back, and is off by no more than its rate says. -/
theorem shows_more {r o t m : Int} (h : ClockOk r o) (hm : 0 ≤ m) : showsV r o t ≤ showsV r o (t + m) ∧ showsV r o (t + m) - showsV r o t - m ≤ m / 1000 + 2 ∧ -(showsV r o (t + m) - showsV r o t - m) ≤ m / 1000 + 2 := by
  obtain ⟨h1, h2, _, _⟩ := h
  have a := Int.mul_le_mul_of_nonneg_left (c := m) (show (999000 : Int) ≤ 1000000 + r by omega) hm
  have b := Int.mul_le_mul_of_nonneg_left (c := m) (show 1000000 + r ≤ (1001000 : Int) by omega) hm
  unfold showsV
  rw [Int.add_mul]
  generalize t * (1000000 + r) = x at *
  generalize m * (1000000 + r) = y at *
  omega

/-- When it shows s it does, and not sooner. -/
theorem when_shows {r o s : Int} (h : ClockOk r o) (hw : whenV r o s ≠ 0) : s ≤ showsV r o (whenV r o s) ∧ showsV r o (whenV r o s - 1) < s ∧ 0 < whenV r o s := by
  obtain ⟨h1, h2, _, _⟩ := h
  have hd : 0 < s - o := by
    rcases Int.lt_or_le 0 (s - o) with h | h
    · exact h
    · exact absurd (by unfold whenV; rw [if_pos h]) hw
  have e : whenV r o s = ((s - o) * 1000000 + (1000000 + r) - 1) / (1000000 + r) := by unfold whenV; rw [if_neg (by omega)]
  have hq := Int.mul_ediv_add_emod ((s - o) * 1000000 + (1000000 + r) - 1) (1000000 + r)
  have hr0 := Int.emod_nonneg ((s - o) * 1000000 + (1000000 + r) - 1) (show (1000000 + r) ≠ 0 by omega)
  have hr1 := Int.emod_lt_of_pos ((s - o) * 1000000 + (1000000 + r) - 1) (show (0 : Int) < 1000000 + r by omega)
  have hpos : 0 < ((s - o) * 1000000 + (1000000 + r) - 1) / (1000000 + r) := Int.lt_of_lt_of_le (by decide) (Int.le_ediv_of_mul_le (a := 1) (by omega) (by omega))
  rw [e]
  generalize ((s - o) * 1000000 + (1000000 + r) - 1) / (1000000 + r) = q at *
  generalize ((s - o) * 1000000 + (1000000 + r) - 1) % (1000000 + r) = p at *
  have hc : q * (1000000 + r) = (1000000 + r) * q := Int.mul_comm _ _
  have hc1 : (q - 1) * (1000000 + r) = (1000000 + r) * q - (1000000 + r) := by rw [Int.sub_mul, hc]; omega
  refine ⟨?_, ?_, hpos⟩
  · unfold showsV; rw [hc]; omega
  · unfold showsV; rw [hc1]; omega
theorem when_zero {r o s : Int} (h : ClockOk r o) (hw : whenV r o s = 0) : s ≤ o := by
  obtain ⟨h1, h2, _, _⟩ := h
  rcases Int.lt_or_le 0 (s - o) with hd | hd
  · have e : whenV r o s = ((s - o) * 1000000 + (1000000 + r) - 1) / (1000000 + r) := by unfold whenV; rw [if_neg (by omega)]
    have hpos : 0 < ((s - o) * 1000000 + (1000000 + r) - 1) / (1000000 + r) := Int.lt_of_lt_of_le (by decide) (Int.le_ediv_of_mul_le (a := 1) (by omega) (by omega))
    omega
  · omega
theorem when_range {r o s : Int} (h : ClockOk r o) (hs : InTime s) : 0 ≤ whenV r o s ∧ whenV r o s ≤ 1200000000000 := by
  obtain ⟨h1, h2, h3, h4⟩ := h
  obtain ⟨h5, h6⟩ := hs
  unfold whenV
  split
  · omega
  · refine ⟨Int.ediv_nonneg (by omega) (by omega), ?_⟩
    refine Int.ediv_le_of_le_mul (by omega) ?_
    have := Int.mul_le_mul_of_nonneg_left (c := 1200000000000) (show (999000 : Int) ≤ 1000000 + r by omega) (by omega)
    omega

/-- Two go apart by no more than both rates say. -/
theorem apart_rates {r o r' o' t : Int} (ht : 0 ≤ t) : apartV r o r' o' t ≤ max (o - o') (o' - o) + (t / 1000000 + 1) * max (r - r') (r' - r) + 1 := by
  have key : ∀ (a b d : Int), a - b ≤ d → 0 ≤ d → t * (1000000 + a) / 1000000 - t * (1000000 + b) / 1000000 ≤ (t / 1000000 + 1) * d + 1 := by
    intro a b d hd h0
    have h1 : t * (1000000 + a) ≤ t * (1000000 + b) + t * d := by rw [← Int.mul_add]; exact Int.mul_le_mul_of_nonneg_left (by omega) ht
    have h2 : t * d ≤ (t / 1000000 + 1) * 1000000 * d := Int.mul_le_mul_of_nonneg_right (by omega) h0
    have h3 : (t / 1000000 + 1) * 1000000 * d = (t / 1000000 + 1) * d * 1000000 := by rw [Int.mul_assoc, Int.mul_comm 1000000 d, Int.mul_assoc]
    generalize (t / 1000000 + 1) * d = q at *
    omega
  have k1 := key r r' (max (r - r') (r' - r)) (by omega) (by omega)
  have k2 := key r' r (max (r - r') (r' - r)) (by omega) (by omega)
  unfold apartV showsV
  generalize (t / 1000000 + 1) * max (r - r') (r' - r) = q at *
  omega
theorem apart_same (r o t : Int) : apartV r o r o t = 0 := by unfold apartV; omega
theorem apart_comm (r o r' o' t : Int) : apartV r o r' o' t = apartV r' o' r o t := by unfold apartV; omega
theorem apart_three (a1 a2 b1 b2 c1 c2 t : Int) : apartV a1 a2 c1 c2 t ≤ apartV a1 a2 b1 b2 t + apartV b1 b2 c1 c2 t := by unfold apartV; omega
end Go.Proofs.Ytidlfbemamoflaa
