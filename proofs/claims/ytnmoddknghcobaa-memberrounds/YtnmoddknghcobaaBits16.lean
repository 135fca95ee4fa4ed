/-
  Bit operations on 16-bit numbers, told by natural numbers. No statement of the seat is here.
-/
import Derived.Test.YtnmoddknghcobaaMemberMath
namespace Go.Proofs.Ytnmoddknghcobaa
open Go.RowKit
set_option linter.unusedVariables false

theorem ofInt16 {a : Nat} (h : a < 65536) : (BitVec.ofInt 16 (a : Int)).toNat = a := by
  rw [BitVec.ofInt_natCast, BitVec.toNat_ofNat, Nat.mod_eq_of_lt (by omega)]
theorem wrap16 {a : Nat} (h : a < 65536) : IntKind.u16.wrap (a : Int) = a := by
  have : IntKind.u16.wrap (a : Int) = (a : Int) % 65536 := IntKind.wrap_u16 _
  omega
theorem u16_and {a b : Nat} (ha : a < 65536) (hb : b < 65536) : bits .and .u16 (a : Int) (b : Int) = ((a &&& b : Nat) : Int) := by
  have hx : a &&& b < 65536 := Nat.lt_of_le_of_lt Nat.and_le_left ha
  show IntKind.u16.wrap ((BitVec.ofInt 16 (a : Int) &&& BitVec.ofInt 16 (b : Int)).toNat : Int) = _
  rw [BitVec.toNat_and, ofInt16 ha, ofInt16 hb, wrap16 hx]
theorem u16_or {a b : Nat} (ha : a < 65536) (hb : b < 65536) : bits .or .u16 (a : Int) (b : Int) = ((a ||| b : Nat) : Int) := by
  have hx : a ||| b < 65536 := Nat.or_lt_two_pow (n := 16) ha hb
  show IntKind.u16.wrap ((BitVec.ofInt 16 (a : Int) ||| BitVec.ofInt 16 (b : Int)).toNat : Int) = _
  rw [BitVec.toNat_or, ofInt16 ha, ofInt16 hb, wrap16 hx]
theorem u16_xor {a b : Nat} (ha : a < 65536) (hb : b < 65536) : bits .xor .u16 (a : Int) (b : Int) = ((a ^^^ b : Nat) : Int) := by
  have hx : a ^^^ b < 65536 := Nat.xor_lt_two_pow (n := 16) ha hb
  show IntKind.u16.wrap ((BitVec.ofInt 16 (a : Int) ^^^ BitVec.ofInt 16 (b : Int)).toNat : Int) = _
  rw [BitVec.toNat_xor, ofInt16 ha, ofInt16 hb, wrap16 hx]
theorem u16_andNot {a k : Nat} (ha : a < 65536) (hk : k < 16) : bits .andNot .u16 (a : Int) ((1 <<< k : Nat) : Int) = (putB a k false : Int) := by
  have hb : 1 <<< k < 65536 := by rw [Nat.one_shiftLeft]; exact Nat.pow_lt_pow_right (by decide) hk
  show IntKind.u16.wrap ((BitVec.ofInt 16 (a : Int) &&& ~~~(BitVec.ofInt 16 ((1 <<< k : Nat) : Int))).toNat : Int) = _
  have e : (BitVec.ofInt 16 (a : Int) &&& ~~~(BitVec.ofInt 16 ((1 <<< k : Nat) : Int))).toNat = putB a k false := by
    refine Nat.eq_of_testBit_eq (fun i => ?_)
    rw [put_bit, BitVec.toNat_and, Nat.testBit_and, ofInt16 ha]
    by_cases hi : i < 16
    · have : (~~~(BitVec.ofInt 16 ((1 <<< k : Nat) : Int))).toNat.testBit i = !((1 <<< k : Nat).testBit i) := by
        have h1 : (~~~(BitVec.ofInt 16 ((1 <<< k : Nat) : Int))).getLsbD i = !((BitVec.ofInt 16 ((1 <<< k : Nat) : Int)).getLsbD i) := by
          rw [BitVec.getLsbD_not]; simp [hi]
        rw [← BitVec.testBit_toNat, ← BitVec.testBit_toNat, ofInt16 hb] at h1
        exact h1
      rw [this, testBit_one_shift]
      by_cases e : k = i
      · rw [if_pos e, decide_eq_true e]; simp
      · rw [if_neg e, decide_eq_false e]; simp
    · rw [bit_high ha (by omega), Bool.false_and]
      rw [if_neg (by omega)]
  rw [e, wrap16 (put_lt ha hk)]
/-- A bit asked for: v & 1<<k is not 0. -/
theorem and_bit (v k : Nat) : (v &&& (1 <<< k) = 0) ↔ hasB v k = false := by
  unfold hasB
  constructor
  · intro h
    have := congrArg (fun x => Nat.testBit x k) h
    simp only [Nat.testBit_and, testBit_one_shift, Nat.zero_testBit] at this
    simpa using this
  · intro h
    refine Nat.eq_of_testBit_eq (fun i => ?_)
    rw [Nat.testBit_and, testBit_one_shift, Nat.zero_testBit]
    by_cases e : k = i
    · subst e; simp [h]
    · simp [e]
theorem shl16 {k : Nat} (h : k < 16) : IntKind.u16.wrap (1 * 2 ^ k) = ((1 <<< k : Nat) : Int) := by
  have hb : 1 <<< k < 65536 := by rw [Nat.one_shiftLeft]; exact Nat.pow_lt_pow_right (by decide) h
  have e : (1 * 2 ^ k : Int) = ((1 <<< k : Nat) : Int) := by rw [Nat.one_shiftLeft, Int.one_mul]; simp
  rw [e, wrap16 hb]
end Go.Proofs.Ytnmoddknghcobaa
