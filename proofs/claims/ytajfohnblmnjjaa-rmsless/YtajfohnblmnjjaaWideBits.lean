/-
  Contracts of math/bits: Mul64, Add64, and Div64 for a small divisor. No statement of the seat is here.
-/
import Derived.Test.YtajfohnblmnjjaaWideMath
import Derived.Test.YtajfohnblmnjjaaShelf
import Derived.Laws.Externs
import Derived.Lib.ItoaNum
import Derived.BigRegion
import Derived.Deep.CutBlock
import Derived.Deep.DeepCutAuto
import Derived.BigQuiet
import Derived.Deep.QuietTactic
namespace Go.Proofs.Ytajfohnblmnjjaa
open Go.RowKit
set_option linter.unusedVariables false
set_option maxRecDepth 400000

theorem Mul64_any (x y : Nat) (hx : x < 18446744073709551616) (hy : y < 18446744073709551616) (w : World) :
    Calls Try.prog 51 #[wordV x, wordV y] w fun e w' => e = .returned (.tuple #[wordV (x * y / 18446744073709551616), wordV (x * y % 18446744073709551616)]) ∧ w' = w := Any.bits_Mul64 mulL x y hx hy w
theorem lz64_any (x : Nat) (hx : x < 18446744073709551616) (w : World) :
    Calls Try.prog 74 #[wordV x] w fun e w' => e = .returned (.int .i64 (64 - (Lib.bitLen x : Int))) ∧ w' = w := Any.bits_LeadingZeros64 lzL x w (by omega) (by omega)
theorem add64_run (x y c : Nat) (hc : c ≤ 1) (w : World) :
    (callFunc 52 #[wordV x, wordV y, wordV c]).run Try.prog w = .ok (.value (.tuple #[wordV ((x + y + c) % 18446744073709551616), wordV ((x + y + c) / 18446744073709551616)])) w := by
  rw [run_callFunc_extern Try.func52 (by kernel_rfl) (by kernel_rfl) (by kernel_rfl) (e := add64Entry) (by kernel_rfl)]
  unfold wordV
  rw [run_add64 x y c (by omega) (by omega) (by omega) (by omega)]
  simp only [Result.andThen]
  congr 5
/-- The shift that brings a small number to the top. -/
theorem top_shift {y : Nat} (h0 : 0 < y) (h1 : y < 65536) : ∃ s n : Nat, 48 ≤ s ∧ s ≤ 63 ∧ (64 - (Lib.bitLen y : Int)) = (s : Int) ∧ y * 2 ^ s = 4294967296 * n ∧ 0 < n ∧ n < 4294967296 := by
  have hb := Lib.bitLenAux_bounds 64 y (by omega) (by omega)
  have hl := Lib.bitLen_le y 16 (by omega) h1
  have e : Lib.bitLen y = Lib.bitLenAux 64 y := rfl
  rw [← e] at hb
  obtain ⟨b1, b2, b3⟩ := hb
  refine ⟨64 - Lib.bitLen y, y * 2 ^ (32 - Lib.bitLen y), by omega, by omega, by omega, ?_, Nat.mul_pos h0 (Nat.two_pow_pos _), ?_⟩
  · rw [show 64 - Lib.bitLen y = 32 + (32 - Lib.bitLen y) by omega, Nat.pow_add, show (2 : Nat) ^ 32 = 4294967296 from rfl, Nat.mul_left_comm]
  · have : y * 2 ^ (32 - Lib.bitLen y) < 2 ^ Lib.bitLen y * 2 ^ (32 - Lib.bitLen y) := Nat.mul_lt_mul_of_pos_right b3 (Nat.two_pow_pos _)
    rw [← Nat.pow_add, show Lib.bitLen y + (32 - Lib.bitLen y) = 32 by omega] at this
    exact this
theorem w64 {a : Nat} (h : a < 18446744073709551616) : IntKind.u64.wrap (a : Int) = (a : Int) := by rw [IntKind.wrap_u64]; omega
theorem ofInt64w {a : Nat} (h : a < 18446744073709551616) : (BitVec.ofInt 64 (a : Int)).toNat = a := by
  rw [BitVec.ofInt_natCast, BitVec.toNat_ofNat, Nat.mod_eq_of_lt (by omega)]
theorem u64_orw {a b : Nat} (ha : a < 18446744073709551616) (hb : b < 18446744073709551616) : bits .or .u64 (a : Int) (b : Int) = ((a ||| b : Nat) : Int) := by
  have hx : a ||| b < 18446744073709551616 := Nat.or_lt_two_pow (n := 64) ha hb
  show IntKind.u64.wrap ((BitVec.ofInt 64 (a : Int) ||| BitVec.ofInt 64 (b : Int)).toNat : Int) = _
  rw [BitVec.toNat_or, ofInt64w ha, ofInt64w hb, w64 hx]
/-- The numbers of the walk, each as the program reckons it. -/
structure DivE (hi lo y s : Nat) (Y n U W W1 W0 q1 r1 X V q0 r0 X2 Q R : Nat) : Prop where
  e1 : IntKind.u64.wrap ((y : Int) * 2 ^ s) = (Y : Int)
  e2 : (Y : Int) / 4294967296 = (n : Int)
  e3 : bits .and .u64 (Y : Int) 4294967295 = 0
  e4 : bits .or .u64 (IntKind.u64.wrap ((hi : Int) * 2 ^ s)) ((lo : Int) / 2 ^ (64 - s)) = (U : Int)
  e5 : IntKind.u64.wrap ((lo : Int) * 2 ^ s) = (W : Int)
  e6 : (W : Int) / 4294967296 = (W1 : Int)
  e7 : bits .and .u64 (W : Int) 4294967295 = (W0 : Int)
  e8 : IntKind.u64.wrap ((U : Int) / (n : Int)) = (q1 : Int)
  e9 : IntKind.u64.wrap ((U : Int) - IntKind.u64.wrap ((q1 : Int) * (n : Int))) = (r1 : Int)
  e10 : IntKind.u64.wrap (IntKind.u64.wrap (4294967296 * (r1 : Int)) + (W1 : Int)) = (X : Int)
  e11 : IntKind.u64.wrap (IntKind.u64.wrap (IntKind.u64.wrap ((U : Int) * 4294967296) + (W1 : Int)) - IntKind.u64.wrap ((q1 : Int) * (Y : Int))) = (V : Int)
  e12 : IntKind.u64.wrap ((V : Int) / (n : Int)) = (q0 : Int)
  e13 : IntKind.u64.wrap ((V : Int) - IntKind.u64.wrap ((q0 : Int) * (n : Int))) = (r0 : Int)
  e14 : IntKind.u64.wrap (IntKind.u64.wrap (4294967296 * (r0 : Int)) + (W0 : Int)) = (X2 : Int)
  e15 : IntKind.u64.wrap (IntKind.u64.wrap ((q1 : Int) * 4294967296) + (q0 : Int)) = (Q : Int)
  e16 : IntKind.u64.wrap (IntKind.u64.wrap (IntKind.u64.wrap ((V : Int) * 4294967296) + (W0 : Int)) - IntKind.u64.wrap ((q0 : Int) * (Y : Int))) / 2 ^ s = (R : Int)
  n0 : 0 < n
  q1s : q1 < 4294967296
  q0s : q0 < 4294967296
  Q_ : Q = (18446744073709551616 * hi + lo) / y
  R_ : R = (18446744073709551616 * hi + lo) % y
theorem modM (a : Int) : IntKind.u64.wrap a = a % 18446744073709551616 := IntKind.wrap_u64 a
theorem div64_e {hi lo y s n : Nat} (s0 : 48 ≤ s) (s1 : s ≤ 63) (hn : y * 2 ^ s = 4294967296 * n) (n0 : 0 < n) (n1 : n < 4294967296) (hhi : hi < y) (hlo : lo < 18446744073709551616) :
    ∃ Y U W W1 W0 q1 r1 X V q0 r0 X2 Q R, DivE hi lo y s Y n U W W1 W0 q1 r1 X V q0 r0 X2 Q R := by
  have D := div64_math (show s ≤ 64 by omega) hn n0 n1 hhi hlo
  have hp : 0 < 2 ^ s := Nat.two_pow_pos s
  have hW : lo * 2 ^ s % 18446744073709551616 < 18446744073709551616 := Nat.mod_lt _ (by omega)
  have hwe : IntKind.u64.wrap ((lo : Int) * 2 ^ s) = ((lo * 2 ^ s % 18446744073709551616 : Nat) : Int) := by
    rw [modM, show (lo : Int) * 2 ^ s = ((lo * 2 ^ s : Nat) : Int) by push_cast; rfl]
    omega
  have hh : hi * 2 ^ s < 18446744073709551616 := by
    have h1 : hi * 2 ^ s ≤ y * 2 ^ s := Nat.mul_le_mul_right _ (by omega)
    omega
  have hl : lo / 2 ^ (64 - s) < 2 ^ s := by
    apply Nat.div_lt_of_lt_mul
    rw [← Nat.pow_add, show 64 - s + s = 64 by omega]
    exact hlo
  have hs64 : 2 ^ s < 18446744073709551616 := by
    have : 2 ^ s ≤ 2 ^ 63 := Nat.pow_le_pow_right (by omega) s1
    have e : (2 : Nat) ^ 63 = 9223372036854775808 := rfl
    omega
  have hue : bits .or .u64 (IntKind.u64.wrap ((hi : Int) * 2 ^ s)) ((lo : Int) / 2 ^ (64 - s)) = ((hi * 2 ^ s + lo / 2 ^ (64 - s) : Nat) : Int) := by
    rw [show (hi : Int) * 2 ^ s = ((hi * 2 ^ s : Nat) : Int) by push_cast; rfl, w64 hh, show (lo : Int) / 2 ^ (64 - s) = ((lo / 2 ^ (64 - s) : Nat) : Int) by push_cast; rfl, u64_orw hh (by omega)]
    rw [Nat.mul_comm hi, ← Nat.two_pow_add_eq_or_of_lt hl]
  have hye : IntKind.u64.wrap ((y : Int) * 2 ^ s) = ((4294967296 * n : Nat) : Int) := by
    rw [show (y : Int) * 2 ^ s = ((y * 2 ^ s : Nat) : Int) by push_cast; rfl, hn, w64 (by omega)]
  generalize hi * 2 ^ s + lo / 2 ^ (64 - s) = U at *
  generalize lo * 2 ^ s % 18446744073709551616 = W at *
  have hU1 := D.U1
  have d1 := Nat.div_add_mod U n
  have m1 := Nat.mod_lt U n0
  obtain ⟨q1, hq1⟩ : ∃ q1, q1 = U / n := ⟨_, rfl⟩
  obtain ⟨r1, hr1⟩ : ∃ r1, r1 = U % n := ⟨_, rfl⟩
  rw [← hq1, ← hr1] at d1
  rw [← hr1] at m1
  rw [← hq1, ← hr1] at D
  obtain ⟨V, hV⟩ : ∃ V, V = 4294967296 * r1 + W / 4294967296 := ⟨_, rfl⟩
  rw [← hV] at D
  have d0 := Nat.div_add_mod V n
  have m0 := Nat.mod_lt V n0
  obtain ⟨q0, hq0⟩ : ∃ q0, q0 = V / n := ⟨_, rfl⟩
  obtain ⟨r0, hr0⟩ : ∃ r0, r0 = V % n := ⟨_, rfl⟩
  rw [← hq0, ← hr0] at d0
  rw [← hr0] at m0
  rw [← hq0] at D
  obtain ⟨_, _, _, a1, a2, a3, a4, a5, a6, a7⟩ := D
  have hYn : 4294967296 * n < 18446744073709551616 := by omega
  obtain ⟨Y, hY⟩ : ∃ Y, Y = 4294967296 * n := ⟨_, rfl⟩
  rw [← hY] at a4 a6 hye hYn
  have c1 : (q1 : Int) * (n : Int) = ((n * q1 : Nat) : Int) := by rw [Int.natCast_mul, Int.mul_comm]
  have c2 : (q0 : Int) * (n : Int) = ((n * q0 : Nat) : Int) := by rw [Int.natCast_mul, Int.mul_comm]
  have c3 : (q1 : Int) * (Y : Int) = ((q1 * Y : Nat) : Int) := by rw [Int.natCast_mul]
  have c4 : (q0 : Int) * (Y : Int) = ((q0 * Y : Nat) : Int) := by rw [Int.natCast_mul]
  have hR := Nat.mod_lt (18446744073709551616 * hi + lo) (show 0 < y by omega)
  obtain ⟨R, hRe⟩ : ∃ R, R = (18446744073709551616 * hi + lo) % y := ⟨_, rfl⟩
  rw [← hRe] at a6 hR
  have hRp : R * 2 ^ s < Y := by
    rw [hY, ← hn]
    exact Nat.mul_lt_mul_of_pos_right hR hp
  refine ⟨Y, U, W, W / 4294967296, W % 4294967296, q1, r1, (4294967296 * r1 + W / 4294967296) % 18446744073709551616, V, q0, r0, (4294967296 * r0 + W % 4294967296) % 18446744073709551616, 4294967296 * q1 + q0, R, ?_⟩
  refine ⟨hye, by omega, ?_, hue, hwe, by omega, Mul64.maskN W hW, ?_, ?_, ?_, ?_, ?_, ?_, ?_, ?_, ?_, n0, a1, a3, a5, hRe⟩
  · rw [Mul64.maskN Y hYn]; omega
  · rw [show (U : Int) / (n : Int) = ((U / n : Nat) : Int) from rfl, ← hq1, w64 (by omega)]
  · rw [c1, modM, modM]; omega
  · rw [modM, modM]; omega
  · rw [c3, modM, modM, modM, modM]; omega
  · rw [show (V : Int) / (n : Int) = ((V / n : Nat) : Int) from rfl, ← hq0, w64 (by omega)]
  · rw [c2, modM, modM]; omega
  · rw [modM, modM]; omega
  · rw [modM, modM]; omega
  · rw [c4, modM, modM, modM, modM]
    have : ((((V : Int) * 4294967296) % 18446744073709551616 + ((W % 4294967296 : Nat) : Int)) % 18446744073709551616 - ((q0 * Y : Nat) : Int) % 18446744073709551616) % 18446744073709551616 = ((R * 2 ^ s : Nat) : Int) := by omega
    rw [this, show ((2 : Int) ^ s) = ((2 ^ s : Nat) : Int) by push_cast; rfl, ← Int.natCast_ediv, Nat.mul_div_cancel _ hp]
set_option maxHeartbeats 1600000 in
theorem Div64_any (hi lo y : Nat) (hy : y < 65536) (hhi : hi < y) (hlo : lo < 18446744073709551616) (w : World) :
    Calls Try.prog 69 #[wordV hi, wordV lo, wordV y] w fun e w' => e = .returned (.tuple #[wordV ((18446744073709551616 * hi + lo) / y), wordV ((18446744073709551616 * hi + lo) % y)]) ∧ ∃ q, w' = w.drewN q := by
  unfold wordV
  go_enter Try.func69, Try.ntmps69
  have hy0 : ¬ ((y : Int) = 0) := by omega
  have hy1 : ¬ (y = 0) := by omega
  have hy2 : ¬ (y ≤ hi) := by omega
  by_cases h0 : hi = 0
  · subst h0
    have g1 : IntKind.u64.wrap ((lo : Int) / (y : Int)) = (lo : Int) / (y : Int) := by
      rw [← Int.natCast_ediv, w64 (Nat.lt_of_le_of_lt (Nat.div_le_self _ _) hlo)]
    go_wp2
    go_quiet (fail)
    go_wp2
    go_ret2
    rw [Nat.mul_zero, Nat.zero_add]
    exact ⟨rfl, _, rfl⟩
  · obtain ⟨s, n, s0, s1, hs, hn, n0, n1⟩ := top_shift (by omega) hy
    obtain ⟨Y, U, W, W1, W0, q1, r1, X, V, q0, r0, X2, Q, R, E⟩ := div64_e s0 s1 hn n0 n1 hhi hlo
    obtain ⟨e1, e2, e3, e4, e5, e6, e7, e8, e9, e10, e11, e12, e13, e14, e15, e16, _, q1s, q0s, hQ, hR⟩ := E
    rw [← hQ, ← hR]
    have hQe : (q1 : Int) * 4294967296 + (q0 : Int) = (Q : Int) := by rw [modM, modM] at e15; omega
    have C := lz64_any y (by omega)
    unfold wordV at C
    rw [hs] at C
    have n2 : ¬ (n = 0) := by omega
    have n3 : ¬ ((n : Int) = 0) := by omega
    have q2 : ¬ (4294967296 ≤ q1) := by omega
    have q3 : ¬ (4294967296 ≤ q0) := by omega
    have q4 : decide ((4294967296 : Int) ≤ (q1 : Int)) = false := decide_eq_false (by omega)
    have q5 : decide ((4294967296 : Int) ≤ (q0 : Int)) = false := decide_eq_false (by omega)
    have z1 : ¬ ((X : Int) < 0) := by omega
    have z2 : ¬ ((X2 : Int) < 0) := by omega
    clear hQ hR hn hhi
    go_wp2_with (refine (C _).mono ?_; rintro e w' ⟨rfl, rfl⟩)
    go_loopw [15, 16] (fun i j wr => i = .int .u64 q1 ∧ j = .int .u64 r1 ∧ wr = w') (fun _ _ _ => 0)
    case atStart => exact ⟨rfl, rfl, rfl⟩
    case round =>
      obtain ⟨rfl, rfl, rfl⟩ := hrel
      go_wp2
      go_loopw [18, 16] (fun i j W => i = .int .u64 q0 ∧ j = .int .u64 r0 ∧ W = wr) (fun _ _ _ => 0)
      case atStart => exact ⟨rfl, rfl, rfl⟩
      case round =>
        obtain ⟨rfl, rfl, rfl⟩ := hrel
        go_wp2
        go_ret2
        rw [← hQe]
        exact ⟨rfl, 0, rfl⟩
end Go.Proofs.Ytajfohnblmnjjaa
