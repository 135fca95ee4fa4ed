/-
  Numbers of 256 bits as four words of 64, the lowest first. No statement of the seat is here.
-/
import Derived.Test.YtajfohnblmnjjaaBase
import Derived.Shelf.Small.Bits
import Derived.Shelf.Bits.Mul64
import Derived.Test.YtajfohnblmnjjaaProg
import Derived.Laws.Externs
import Derived.Lib.ItoaNum
import Derived.BigRegion
import Derived.Deep.CutBlock
import Derived.Deep.DeepCutAuto
import Derived.BigQuiet
import Derived.Deep.QuietTactic
namespace Go.Proofs.Ytajfohnblmnjjaa
open Go.RowKit
set_option linter.unusedVariables false

/-- What words tell, the lowest first. -/
def vW : List Nat → Nat
  | [] => 0
  | d :: L => d + 18446744073709551616 * vW L
def Wok (L : List Nat) : Prop := ∀ d ∈ L, d < 18446744073709551616
def powW (k : Nat) : Nat := 18446744073709551616 ^ k
theorem powW_zero : powW 0 = 1 := rfl
theorem powW_succ (k : Nat) : powW (k + 1) = 18446744073709551616 * powW k := by unfold powW; rw [Nat.pow_succ, Nat.mul_comm]
theorem powW_pos (k : Nat) : 0 < powW k := Nat.pow_pos (by omega)
theorem vW_append (D L : List Nat) : vW (D ++ L) = vW D + powW D.length * vW L := by
  induction D with
  | nil => simp [vW, powW_zero]
  | cons d D ih => rw [List.cons_append, vW, ih, vW, List.length_cons, powW_succ, Nat.mul_add, Nat.mul_assoc]; omega
theorem vW_one (d : Nat) : vW [d] = d := by simp [vW]
theorem vW_snoc (D : List Nat) (d : Nat) : vW (D ++ [d]) = vW D + powW D.length * d := by rw [vW_append, vW_one]
theorem vW_lt {L : List Nat} (h : Wok L) : vW L < powW L.length := by
  induction L with
  | nil => simp [vW, powW_zero]
  | cons d L ih =>
    have h1 := h d (by simp)
    have h2 := ih (fun x hx => h x (by simp [hx]))
    rw [vW, List.length_cons, powW_succ]
    have h3 : 18446744073709551616 * (vW L + 1) ≤ 18446744073709551616 * powW L.length := Nat.mul_le_mul_left _ h2
    omega
theorem Wok.append {D L : List Nat} (h : Wok D) (k : Wok L) : Wok (D ++ L) := fun x hx => by
  rcases List.mem_append.1 hx with hx | hx
  · exact h x hx
  · exact k x hx
theorem Wok.one {d : Nat} (h : d < 18446744073709551616) : Wok [d] := fun x hx => by rw [List.mem_singleton.1 hx]; exact h
theorem Wok.take {L : List Nat} (h : Wok L) (k : Nat) : Wok (L.take k) := fun x hx => h x (List.mem_of_mem_take hx)
theorem Wok.drop {L : List Nat} (h : Wok L) (k : Nat) : Wok (L.drop k) := fun x hx => h x (List.mem_of_mem_drop hx)
theorem Wok.at_ {L : List Nat} (h : Wok L) {k d : Nat} (hk : L[k]? = some d) : d < 18446744073709551616 := h d (List.mem_of_getElem? hk)
/-- The n words of a number. -/
def digsW : Nat → Nat → List Nat
  | 0, _ => []
  | n + 1, a => a % 18446744073709551616 :: digsW n (a / 18446744073709551616)
theorem digsW_len (n a : Nat) : (digsW n a).length = n := by
  induction n generalizing a with
  | zero => rfl
  | succ n ih => rw [digsW, List.length_cons, ih]
theorem digsW_ok (n a : Nat) : Wok (digsW n a) := by
  induction n generalizing a with
  | zero => intro x hx; cases hx
  | succ n ih =>
    intro x hx
    rw [digsW] at hx
    rcases List.mem_cons.1 hx with rfl | hx
    · exact Nat.mod_lt _ (by omega)
    · exact ih _ x hx
theorem digsW_v {n a : Nat} (h : a < powW n) : vW (digsW n a) = a := by
  induction n generalizing a with
  | zero => rw [powW_zero] at h; rw [digsW, vW]; omega
  | succ n ih =>
    rw [powW_succ] at h
    rw [digsW, vW, ih (Nat.div_lt_of_lt_mul h)]
    omega
theorem digsW_of {L : List Nat} (h : Wok L) : L = digsW L.length (vW L) := by
  induction L with
  | nil => rfl
  | cons d L ih =>
    have h1 := h d (by simp)
    have h2 := ih (fun x hx => h x (by simp [hx]))
    rw [List.length_cons, digsW, vW]
    have e1 : (d + 18446744073709551616 * vW L) % 18446744073709551616 = d := by omega
    have e2 : (d + 18446744073709551616 * vW L) / 18446744073709551616 = vW L := by omega
    rw [e1, e2, ← h2]
theorem digsW_eq {L : List Nat} {n a : Nat} (h : Wok L) (hl : L.length = n) (hv : vW L = a) : L = digsW n a := by subst hl hv; exact digsW_of h
theorem powW_four : powW 4 = 115792089237316195423570985008687907853269984665640564039457584007913129639936 := by rfl
/-- The value of such a number. -/
def wordV (d : Nat) : Value := .int .u64 (d : Int)
def wordsV (L : List Nat) : List Value := L.map wordV
def wideV (a : Nat) : Value := .agg (wordsV (digsW 4 a)).toArray
theorem wide_four (L : List Nat) (hl : L.length = 4) : ∃ a b c d, L = [a, b, c, d] := by
  match L, hl with
  | [a, b, c, d], _ => exact ⟨a, b, c, d, rfl⟩
theorem wide_of {L : List Nat} {a : Nat} (h : Wok L) (hl : L.length = 4) (hv : vW L = a) : Value.agg (wordsV L).toArray = wideV a := by rw [wideV, ← digsW_eq h hl hv]
/-- Written out. -/
theorem wide_cells (a : Nat) : ∃ d0 d1 d2 d3, digsW 4 a = [d0, d1, d2, d3] := wide_four _ (digsW_len 4 a)
/-! From word to word: the k words so far and what is carried -/
/-- The sum. -/
theorem plus_step {A B D : List Nat} {k c x y : Nat} (hD : D.length = k) (hx : A[k]? = some x) (hy : B[k]? = some y) (hv : vW D + powW k * c = vW (A.take k) + vW (B.take k)) :
    vW (D ++ [(x + y + c) % 18446744073709551616]) + powW (k + 1) * ((x + y + c) / 18446744073709551616) = vW (A.take (k + 1)) + vW (B.take (k + 1)) := by
  have ha : A.length > k := (List.getElem?_eq_some_iff.1 hx).1
  have hb : B.length > k := (List.getElem?_eq_some_iff.1 hy).1
  rw [take_snoc hx, take_snoc hy, vW_snoc, vW_snoc, vW_snoc, hD, List.length_take, List.length_take, Nat.min_eq_left (by omega), Nat.min_eq_left (by omega), powW_succ]
  have e : powW k * ((x + y + c) % 18446744073709551616) + 18446744073709551616 * powW k * ((x + y + c) / 18446744073709551616) = powW k * x + powW k * y + powW k * c := by
    rw [← Nat.mul_add, ← Nat.mul_add, Nat.mul_comm 18446744073709551616 (powW k), Nat.mul_assoc, ← Nat.mul_add, Nat.mod_add_div]
  omega
/-- The product by a word. -/
theorem times_step {A D : List Nat} {k c x by_ : Nat} (hD : D.length = k) (hx : A[k]? = some x) (hv : vW D + powW k * c = vW (A.take k) * by_) :
    vW (D ++ [(x * by_ + c) % 18446744073709551616]) + powW (k + 1) * ((x * by_ + c) / 18446744073709551616) = vW (A.take (k + 1)) * by_ := by
  have ha : A.length > k := (List.getElem?_eq_some_iff.1 hx).1
  rw [take_snoc hx, vW_snoc, vW_snoc, hD, List.length_take, Nat.min_eq_left (by omega), powW_succ, Nat.add_mul]
  have e : powW k * ((x * by_ + c) % 18446744073709551616) + 18446744073709551616 * powW k * ((x * by_ + c) / 18446744073709551616) = powW k * x * by_ + powW k * c := by
    rw [Nat.mul_comm 18446744073709551616 (powW k), Nat.mul_assoc, ← Nat.mul_add, Nat.mod_add_div, Nat.mul_add, Nat.mul_assoc]
  omega
/-- The high word and the carry of the low one. -/
theorem times_carry {x y c : Nat} : x * y / 18446744073709551616 + (x * y % 18446744073709551616 + c) / 18446744073709551616 = (x * y + c) / 18446744073709551616 ∧ (x * y % 18446744073709551616 + c) % 18446744073709551616 = (x * y + c) % 18446744073709551616 := by
  generalize x * y = m
  omega
theorem times_small {x y c : Nat} (hx : x < 18446744073709551616) (hy : y < 18446744073709551616) (hc : c < 18446744073709551616) : (x * y + c) / 18446744073709551616 < 18446744073709551616 := by
  have h : x * y ≤ 18446744073709551615 * 18446744073709551615 := Nat.mul_le_mul (by omega) (by omega)
  generalize x * y = m at *
  omega
/-- The quotient, from the top down: the words done and what is left. -/
theorem over_step {A Q : List Nat} {k r x by_ : Nat} (hx : A[k]? = some x) (hr : r < by_) (hv : vW (A.drop (k + 1)) = vW Q * by_ + r) :
    vW (A.drop k) = vW ((18446744073709551616 * r + x) / by_ :: Q) * by_ + (18446744073709551616 * r + x) % by_ := by
  rw [drop_cons hx, vW, vW, hv]
  have h := Nat.div_add_mod (18446744073709551616 * r + x) by_
  rw [Nat.mul_comm by_] at h
  generalize (18446744073709551616 * r + x) / by_ = q at *
  generalize (18446744073709551616 * r + x) % by_ = s at *
  rw [Nat.mul_add, Nat.add_mul, Nat.mul_assoc]
  omega
theorem over_word {r x by_ : Nat} (hx : x < 18446744073709551616) (hr : r < by_) : (18446744073709551616 * r + x) / by_ < 18446744073709551616 := by
  apply Nat.div_lt_of_lt_mul
  rw [Nat.mul_comm by_]
  have : 18446744073709551616 * (r + 1) ≤ 18446744073709551616 * by_ := Nat.mul_le_mul_left _ hr
  omega
/-- Which is greater: by the highest word in which they differ. -/
theorem gt_step {A B : List Nat} {k x y : Nat} (hA : Wok A) (hB : Wok B) (hl : A.length = B.length) (hx : A[k]? = some x) (hy : B[k]? = some y) (hne : x ≠ y) (he : A.drop (k + 1) = B.drop (k + 1)) :
    vW A > vW B ↔ x > y := by
  have ha : A.length > k := (List.getElem?_eq_some_iff.1 hx).1
  have e1 : vW A = vW (A.take k) + powW k * (x + 18446744073709551616 * vW (A.drop (k + 1))) := by
    conv => lhs; rw [← List.take_append_drop k A, vW_append, drop_cons hx, vW, List.length_take, Nat.min_eq_left (by omega)]
  have e2 : vW B = vW (B.take k) + powW k * (y + 18446744073709551616 * vW (A.drop (k + 1))) := by
    conv => lhs; rw [← List.take_append_drop k B, vW_append, drop_cons hy, vW, List.length_take, Nat.min_eq_left (by omega), ← he]
  have l1 := vW_lt (hA.take k)
  have l2 := vW_lt (hB.take k)
  rw [List.length_take, Nat.min_eq_left (by omega)] at l1 l2
  rw [e1, e2, Nat.mul_add, Nat.mul_add]
  generalize powW k * (18446744073709551616 * vW (A.drop (k + 1))) = T
  constructor
  · intro h
    apply Nat.lt_of_not_le
    intro hle
    have : powW k * (x + 1) ≤ powW k * y := Nat.mul_le_mul_left _ (by omega)
    rw [Nat.mul_add] at this
    omega
  · intro h
    have : powW k * (y + 1) ≤ powW k * x := Nat.mul_le_mul_left _ (by omega)
    rw [Nat.mul_add] at this
    omega
/-! math/bits.Div64 for a small divisor: shifted to the top it has nothing in its lower half, so that neither guess is ever too big -/
structure DivW (hi lo y s : Nat) (n U W q1 V q0 : Nat) : Prop where
  n0 : 0 < n
  n1 : n < 4294967296
  U1 : U < 4294967296 * n
  q1s : q1 < 4294967296
  V1 : V < 4294967296 * n
  q0s : q0 < 4294967296
  un21 : 4294967296 * U + W / 4294967296 = q1 * (4294967296 * n) + V
  quo : 4294967296 * q1 + q0 = (18446744073709551616 * hi + lo) / y
  rem : 4294967296 * V + W % 4294967296 = q0 * (4294967296 * n) + (18446744073709551616 * hi + lo) % y * 2 ^ s
  V64 : V < 18446744073709551616
theorem div64_core {N y p n U W q1 r1 V q0 r0 : Nat} (hn : y * p = 4294967296 * n) (n0 : 0 < n) (hp : 0 < p) (hW : W < 18446744073709551616) (hU : U < 4294967296 * n) (hN : N * p = 18446744073709551616 * U + W)
    (d1 : n * q1 + r1 = U) (m1 : r1 < n) (hV : 4294967296 * r1 + W / 4294967296 = V) (d0 : n * q0 + r0 = V) (m0 : r0 < n) :
    q1 < 4294967296 ∧ V < 4294967296 * n ∧ q0 < 4294967296 ∧ 4294967296 * U + W / 4294967296 = q1 * (4294967296 * n) + V ∧ 4294967296 * q1 + q0 = N / y ∧ 4294967296 * V + W % 4294967296 = q0 * (4294967296 * n) + N % y * p := by
  have e1 : q1 * (4294967296 * n) = 4294967296 * (n * q1) := by rw [Nat.mul_left_comm, Nat.mul_comm q1 n]
  have e0 : q0 * (4294967296 * n) = 4294967296 * (n * q0) := by rw [Nat.mul_left_comm, Nat.mul_comm q0 n]
  have hV1 : V < 4294967296 * n := by omega
  have q1s : q1 < 4294967296 := by
    apply Nat.lt_of_not_le
    intro h
    have h2 := Nat.mul_le_mul_right n h
    rw [Nat.mul_comm q1 n] at h2
    omega
  have q0s : q0 < 4294967296 := by
    apply Nat.lt_of_not_le
    intro h
    have h2 := Nat.mul_le_mul_right n h
    rw [Nat.mul_comm q0 n] at h2
    omega
  have hR : 4294967296 * r0 + W % 4294967296 < 4294967296 * n := by omega
  obtain ⟨R, hRe⟩ : ∃ R, R = 4294967296 * r0 + W % 4294967296 := ⟨_, rfl⟩
  obtain ⟨Q, hQe⟩ : ∃ Q, Q = 4294967296 * q1 + q0 := ⟨_, rfl⟩
  have hQY : Q * (4294967296 * n) = 4294967296 * (q1 * (4294967296 * n)) + q0 * (4294967296 * n) := by rw [hQe, Nat.add_mul, Nat.mul_assoc]
  have hall : N * p = Q * (y * p) + R := by
    rw [hN, hn, hQY, e1, e0]
    omega
  have hyp : 0 < y * p := by omega
  rw [← hRe] at hR
  have hq : N / y = Q := by
    rw [← Nat.mul_div_mul_right N y hp, hall, Nat.add_comm, Nat.add_mul_div_right _ _ hyp, Nat.div_eq_of_lt (by rw [hn]; exact hR), Nat.zero_add]
  have hr : N % y * p = R := by
    rw [← Nat.mul_mod_mul_right, hall, Nat.add_comm, Nat.add_mul_mod_self_right, Nat.mod_eq_of_lt (by rw [hn]; exact hR)]
  refine ⟨q1s, hV1, q0s, by rw [e1]; omega, by rw [hq, hQe], ?_⟩
  rw [hr, e0, hRe]
  omega
theorem div64_math {hi lo y s n : Nat} (hs : s ≤ 64) (hn : y * 2 ^ s = 4294967296 * n) (n0 : 0 < n) (n1 : n < 4294967296) (hhi : hi < y) (hlo : lo < 18446744073709551616) :
    DivW hi lo y s n (hi * 2 ^ s + lo / 2 ^ (64 - s)) (lo * 2 ^ s % 18446744073709551616) ((hi * 2 ^ s + lo / 2 ^ (64 - s)) / n)
      (4294967296 * ((hi * 2 ^ s + lo / 2 ^ (64 - s)) % n) + lo * 2 ^ s % 18446744073709551616 / 4294967296)
      ((4294967296 * ((hi * 2 ^ s + lo / 2 ^ (64 - s)) % n) + lo * 2 ^ s % 18446744073709551616 / 4294967296) / n) := by
  have hpm : 2 ^ s * 2 ^ (64 - s) = 18446744073709551616 := by rw [← Nat.pow_add, show s + (64 - s) = 64 by omega]
  have hp : 0 < 2 ^ s := Nat.two_pow_pos s
  have hm : 0 < 2 ^ (64 - s) := Nat.two_pow_pos _
  have key : ∀ p m : Nat, p * m = 18446744073709551616 → 0 < p → 0 < m → y * p = 4294967296 * n → lo * p % 18446744073709551616 = lo % m * p ∧ lo % m * p < 18446744073709551616 ∧ hi * p + lo / m < 4294967296 * n ∧ (18446744073709551616 * hi + lo) * p = 18446744073709551616 * (hi * p + lo / m) + lo % m * p := by
    intro p m hpm hp hm hn
    have hlm := Nat.div_add_mod lo m
    have hl1 := Nat.mod_lt lo hm
    have hl2 : lo / m < p := Nat.div_lt_of_lt_mul (by rw [Nat.mul_comm m p, hpm]; exact hlo)
    have hW : lo * p = 18446744073709551616 * (lo / m) + lo % m * p := by
      conv => lhs; rw [← hlm]
      rw [Nat.add_mul, ← hpm, Nat.mul_right_comm, Nat.mul_comm m p]
    have hWs : lo % m * p < 18446744073709551616 := by
      have : lo % m * p < m * p := Nat.mul_lt_mul_of_pos_right hl1 hp
      rw [Nat.mul_comm m p, hpm] at this
      exact this
    refine ⟨by rw [hW]; omega, hWs, ?_, by rw [Nat.add_mul, hW, Nat.mul_assoc]; omega⟩
    have : (hi + 1) * p ≤ y * p := Nat.mul_le_mul_right _ hhi
    rw [Nat.add_mul] at this
    omega
  obtain ⟨eW, hWs, hU, hN⟩ := key _ _ hpm hp hm hn
  rw [eW]
  have d1 := Nat.div_add_mod (hi * 2 ^ s + lo / 2 ^ (64 - s)) n
  have m1 := Nat.mod_lt (hi * 2 ^ s + lo / 2 ^ (64 - s)) n0
  have d0 := Nat.div_add_mod (4294967296 * ((hi * 2 ^ s + lo / 2 ^ (64 - s)) % n) + lo % 2 ^ (64 - s) * 2 ^ s / 4294967296) n
  have m0 := Nat.mod_lt (4294967296 * ((hi * 2 ^ s + lo / 2 ^ (64 - s)) % n) + lo % 2 ^ (64 - s) * 2 ^ s / 4294967296) n0
  obtain ⟨a1, a2, a3, a4, a5, a6⟩ := div64_core hn n0 hp hWs hU hN d1 m1 rfl d0 m0
  exact ⟨n0, n1, hU, a1, a2, a3, a4, a5, a6, by omega⟩
end Go.Proofs.Ytajfohnblmnjjaa

/-
  Numbers of this program for contracts of the library (slices.Sort and its kin): each field compares a body with the one that the contract was proved of. No statement of the seat is here.
-/
namespace Go.Proofs.Ytajfohnblmnjjaa
open Go.Shelf
def mulL_ren : Go.Shelf.Ren := ⟨fun | 264 => 51 | n => n, fun | 53 => 45 | 46 => 85 | n => n, fun | n => n⟩
theorem mulL : Go.Proofs.Lays.n264 Try.prog mulL_ren := {
  mixed := by kernel_rfl
  f264 := Try.func51.trans (congrArg some (by kernel_rfl))
  t46 := Try.underlying85
  a46 := Try.isAgg85
  z46 := Try.sizeOf85
  v46 := Try.zeroValue85
  t53 := Try.underlying45
  a53 := Try.isAgg45
  z53 := Try.sizeOf45
  v53 := Try.zeroValue45 }
def lzL_ren : Go.Shelf.Ren := ⟨fun | 134 => 74 | 129 => 78 | n => n, fun | 53 => 45 | 3 => 3 | 4 => 4 | 46 => 85 | 5 => 5 | 9 => 9 | n => n, fun | n => n⟩
theorem lzL : Go.Proofs.Lays.n134 Try.prog lzL_ren := {
  mixed := by kernel_rfl
  f129 := Try.func78.trans (congrArg some (by kernel_rfl))
  f134 := Try.func74.trans (congrArg some (by kernel_rfl))
  t3 := Try.underlying3
  a3 := Try.isAgg3
  z3 := Try.sizeOf3
  v3 := Try.zeroValue3
  t4 := Try.underlying4
  a4 := Try.isAgg4
  z4 := Try.sizeOf4
  v4 := Try.zeroValue4
  t5 := Try.underlying5
  a5 := Try.isAgg5
  z5 := Try.sizeOf5
  v5 := Try.zeroValue5
  t9 := Try.underlying9
  a9 := Try.isAgg9
  z9 := Try.sizeOf9
  v9 := Try.zeroValue9
  t46 := Try.underlying85
  a46 := Try.isAgg85
  z46 := Try.sizeOf85
  v46 := Try.zeroValue85
  t53 := Try.underlying45
  a53 := Try.isAgg45
  z53 := Try.sizeOf45
  v53 := Try.zeroValue45 }
end Go.Proofs.Ytajfohnblmnjjaa

/-
  Contracts of math/bits: Mul64, Add64, and Div64 for a small divisor. No statement of the seat is here.
-/
namespace Go.Proofs.Ytajfohnblmnjjaa
open Go.RowKit
set_option linter.unusedVariables false
set_option maxRecDepth 400000

theorem Mul64_any (x y : Nat) (hx : x < 18446744073709551616) (hy : y < 18446744073709551616) (w : World) :
    Calls Try.prog 51 #[wordV x, wordV y] w fun e w' => e = .returned (.tuple #[wordV (x * y / 18446744073709551616), wordV (x * y % 18446744073709551616)]) ∧ w' = w := Any.bits_Mul64 mulL x y hx hy w
theorem lz64_any (x : Nat) (hx : x < 18446744073709551616) (w : World) :
    Calls Try.prog 74 #[wordV x] w fun e w' => e = .returned (.int .i64 (64 - (Lib.bitLen x : Int))) ∧ w' = w := Any.bits_LeadingZeros64 lzL x w (by omega) (by omega)
theorem add64_run (x y c : Nat) (hc : c ≤ 1) (w : World) :
    (callFunc 52 #[wordV x, wordV y, wordV c]).run Try.prog w = .ok (.value (.tuple #[wordV ((x + y + c) % 18446744073709551616), wordV ((x + y + c) / 18446744073709551616)])) w := by
  rw [run_callFunc_extern Try.func52 (by kernel_rfl) (by kernel_rfl) (by kernel_rfl) (e := add64Entry) (by kernel_rfl)]
  unfold wordV
  rw [run_add64 x y c (by omega) (by omega) (by omega) (by omega)]
  simp only [Result.andThen]
  congr 5
/-- The shift that brings a small number to the top. -/
theorem top_shift {y : Nat} (h0 : 0 < y) (h1 : y < 65536) : ∃ s n : Nat, 48 ≤ s ∧ s ≤ 63 ∧ (64 - (Lib.bitLen y : Int)) = (s : Int) ∧ y * 2 ^ s = 4294967296 * n ∧ 0 < n ∧ n < 4294967296 := by
  have hb := Lib.bitLenAux_bounds 64 y (by omega) (by omega)
  have hl := Lib.bitLen_le y 16 (by omega) h1
  have e : Lib.bitLen y = Lib.bitLenAux 64 y := rfl
  rw [← e] at hb
  obtain ⟨b1, b2, b3⟩ := hb
  refine ⟨64 - Lib.bitLen y, y * 2 ^ (32 - Lib.bitLen y), by omega, by omega, by omega, ?_, Nat.mul_pos h0 (Nat.two_pow_pos _), ?_⟩
  · rw [show 64 - Lib.bitLen y = 32 + (32 - Lib.bitLen y) by omega, Nat.pow_add, show (2 : Nat) ^ 32 = 4294967296 from rfl, Nat.mul_left_comm]
  · have : y * 2 ^ (32 - Lib.bitLen y) < 2 ^ Lib.bitLen y * 2 ^ (32 - Lib.bitLen y) := Nat.mul_lt_mul_of_pos_right b3 (Nat.two_pow_pos _)
    rw [← Nat.pow_add, show Lib.bitLen y + (32 - Lib.bitLen y) = 32 by omega] at this
    exact this
theorem w64 {a : Nat} (h : a < 18446744073709551616) : IntKind.u64.wrap (a : Int) = (a : Int) := by rw [IntKind.wrap_u64]; omega
theorem ofInt64w {a : Nat} (h : a < 18446744073709551616) : (BitVec.ofInt 64 (a : Int)).toNat = a := by
  rw [BitVec.ofInt_natCast, BitVec.toNat_ofNat, Nat.mod_eq_of_lt (by omega)]
theorem u64_orw {a b : Nat} (ha : a < 18446744073709551616) (hb : b < 18446744073709551616) : bits .or .u64 (a : Int) (b : Int) = ((a ||| b : Nat) : Int) := by
  have hx : a ||| b < 18446744073709551616 := Nat.or_lt_two_pow (n := 64) ha hb
  show IntKind.u64.wrap ((BitVec.ofInt 64 (a : Int) ||| BitVec.ofInt 64 (b : Int)).toNat : Int) = _
  rw [BitVec.toNat_or, ofInt64w ha, ofInt64w hb, w64 hx]
/-- The numbers of the walk, each as the program reckons it. -/
structure DivE (hi lo y s : Nat) (Y n U W W1 W0 q1 r1 X V q0 r0 X2 Q R : Nat) : Prop where
  e1 : IntKind.u64.wrap ((y : Int) * 2 ^ s) = (Y : Int)
  e2 : (Y : Int) / 4294967296 = (n : Int)
  e3 : bits .and .u64 (Y : Int) 4294967295 = 0
  e4 : bits .or .u64 (IntKind.u64.wrap ((hi : Int) * 2 ^ s)) ((lo : Int) / 2 ^ (64 - s)) = (U : Int)
  e5 : IntKind.u64.wrap ((lo : Int) * 2 ^ s) = (W : Int)
  e6 : (W : Int) / 4294967296 = (W1 : Int)
  e7 : bits .and .u64 (W : Int) 4294967295 = (W0 : Int)
  e8 : IntKind.u64.wrap ((U : Int) / (n : Int)) = (q1 : Int)
  e9 : IntKind.u64.wrap ((U : Int) - IntKind.u64.wrap ((q1 : Int) * (n : Int))) = (r1 : Int)
  e10 : IntKind.u64.wrap (IntKind.u64.wrap (4294967296 * (r1 : Int)) + (W1 : Int)) = (X : Int)
  e11 : IntKind.u64.wrap (IntKind.u64.wrap (IntKind.u64.wrap ((U : Int) * 4294967296) + (W1 : Int)) - IntKind.u64.wrap ((q1 : Int) * (Y : Int))) = (V : Int)
  e12 : IntKind.u64.wrap ((V : Int) / (n : Int)) = (q0 : Int)
  e13 : IntKind.u64.wrap ((V : Int) - IntKind.u64.wrap ((q0 : Int) * (n : Int))) = (r0 : Int)
  e14 : IntKind.u64.wrap (IntKind.u64.wrap (4294967296 * (r0 : Int)) + (W0 : Int)) = (X2 : Int)
  e15 : IntKind.u64.wrap (IntKind.u64.wrap ((q1 : Int) * 4294967296) + (q0 : Int)) = (Q : Int)
  e16 : IntKind.u64.wrap (IntKind.u64.wrap (IntKind.u64.wrap ((V : Int) * 4294967296) + (W0 : Int)) - IntKind.u64.wrap ((q0 : Int) * (Y : Int))) / 2 ^ s = (R : Int)
  n0 : 0 < n
  q1s : q1 < 4294967296
  q0s : q0 < 4294967296
  Q_ : Q = (18446744073709551616 * hi + lo) / y
  R_ : R = (18446744073709551616 * hi + lo) % y
theorem modM (a : Int) : IntKind.u64.wrap a = a % 18446744073709551616 := IntKind.wrap_u64 a
theorem div64_e {hi lo y s n : Nat} (s0 : 48 ≤ s) (s1 : s ≤ 63) (hn : y * 2 ^ s = 4294967296 * n) (n0 : 0 < n) (n1 : n < 4294967296) (hhi : hi < y) (hlo : lo < 18446744073709551616) :
    ∃ Y U W W1 W0 q1 r1 X V q0 r0 X2 Q R, DivE hi lo y s Y n U W W1 W0 q1 r1 X V q0 r0 X2 Q R := by
  have D := div64_math (show s ≤ 64 by omega) hn n0 n1 hhi hlo
  have hp : 0 < 2 ^ s := Nat.two_pow_pos s
  have hW : lo * 2 ^ s % 18446744073709551616 < 18446744073709551616 := Nat.mod_lt _ (by omega)
  have hwe : IntKind.u64.wrap ((lo : Int) * 2 ^ s) = ((lo * 2 ^ s % 18446744073709551616 : Nat) : Int) := by
    rw [modM, show (lo : Int) * 2 ^ s = ((lo * 2 ^ s : Nat) : Int) by push_cast; rfl]
    omega
  have hh : hi * 2 ^ s < 18446744073709551616 := by
    have h1 : hi * 2 ^ s ≤ y * 2 ^ s := Nat.mul_le_mul_right _ (by omega)
    omega
  have hl : lo / 2 ^ (64 - s) < 2 ^ s := by
    apply Nat.div_lt_of_lt_mul
    rw [← Nat.pow_add, show 64 - s + s = 64 by omega]
    exact hlo
  have hs64 : 2 ^ s < 18446744073709551616 := by
    have : 2 ^ s ≤ 2 ^ 63 := Nat.pow_le_pow_right (by omega) s1
    have e : (2 : Nat) ^ 63 = 9223372036854775808 := rfl
    omega
  have hue : bits .or .u64 (IntKind.u64.wrap ((hi : Int) * 2 ^ s)) ((lo : Int) / 2 ^ (64 - s)) = ((hi * 2 ^ s + lo / 2 ^ (64 - s) : Nat) : Int) := by
    rw [show (hi : Int) * 2 ^ s = ((hi * 2 ^ s : Nat) : Int) by push_cast; rfl, w64 hh, show (lo : Int) / 2 ^ (64 - s) = ((lo / 2 ^ (64 - s) : Nat) : Int) by push_cast; rfl, u64_orw hh (by omega)]
    rw [Nat.mul_comm hi, ← Nat.two_pow_add_eq_or_of_lt hl]
  have hye : IntKind.u64.wrap ((y : Int) * 2 ^ s) = ((4294967296 * n : Nat) : Int) := by
    rw [show (y : Int) * 2 ^ s = ((y * 2 ^ s : Nat) : Int) by push_cast; rfl, hn, w64 (by omega)]
  generalize hi * 2 ^ s + lo / 2 ^ (64 - s) = U at *
  generalize lo * 2 ^ s % 18446744073709551616 = W at *
  have hU1 := D.U1
  have d1 := Nat.div_add_mod U n
  have m1 := Nat.mod_lt U n0
  obtain ⟨q1, hq1⟩ : ∃ q1, q1 = U / n := ⟨_, rfl⟩
  obtain ⟨r1, hr1⟩ : ∃ r1, r1 = U % n := ⟨_, rfl⟩
  rw [← hq1, ← hr1] at d1
  rw [← hr1] at m1
  rw [← hq1, ← hr1] at D
  obtain ⟨V, hV⟩ : ∃ V, V = 4294967296 * r1 + W / 4294967296 := ⟨_, rfl⟩
  rw [← hV] at D
  have d0 := Nat.div_add_mod V n
  have m0 := Nat.mod_lt V n0
  obtain ⟨q0, hq0⟩ : ∃ q0, q0 = V / n := ⟨_, rfl⟩
  obtain ⟨r0, hr0⟩ : ∃ r0, r0 = V % n := ⟨_, rfl⟩
  rw [← hq0, ← hr0] at d0
  rw [← hr0] at m0
  rw [← hq0] at D
  obtain ⟨_, _, _, a1, a2, a3, a4, a5, a6, a7⟩ := D
  have hYn : 4294967296 * n < 18446744073709551616 := by omega
  obtain ⟨Y, hY⟩ : ∃ Y, Y = 4294967296 * n := ⟨_, rfl⟩
  rw [← hY] at a4 a6 hye hYn
  have c1 : (q1 : Int) * (n : Int) = ((n * q1 : Nat) : Int) := by rw [Int.natCast_mul, Int.mul_comm]
  have c2 : (q0 : Int) * (n : Int) = ((n * q0 : Nat) : Int) := by rw [Int.natCast_mul, Int.mul_comm]
  have c3 : (q1 : Int) * (Y : Int) = ((q1 * Y : Nat) : Int) := by rw [Int.natCast_mul]
  have c4 : (q0 : Int) * (Y : Int) = ((q0 * Y : Nat) : Int) := by rw [Int.natCast_mul]
  have hR := Nat.mod_lt (18446744073709551616 * hi + lo) (show 0 < y by omega)
  obtain ⟨R, hRe⟩ : ∃ R, R = (18446744073709551616 * hi + lo) % y := ⟨_, rfl⟩
  rw [← hRe] at a6 hR
  have hRp : R * 2 ^ s < Y := by
    rw [hY, ← hn]
    exact Nat.mul_lt_mul_of_pos_right hR hp
  refine ⟨Y, U, W, W / 4294967296, W % 4294967296, q1, r1, (4294967296 * r1 + W / 4294967296) % 18446744073709551616, V, q0, r0, (4294967296 * r0 + W % 4294967296) % 18446744073709551616, 4294967296 * q1 + q0, R, ?_⟩
  refine ⟨hye, by omega, ?_, hue, hwe, by omega, Mul64.maskN W hW, ?_, ?_, ?_, ?_, ?_, ?_, ?_, ?_, ?_, n0, a1, a3, a5, hRe⟩
  · rw [Mul64.maskN Y hYn]; omega
  · rw [show (U : Int) / (n : Int) = ((U / n : Nat) : Int) from rfl, ← hq1, w64 (by omega)]
  · rw [c1, modM, modM]; omega
  · rw [modM, modM]; omega
  · rw [c3, modM, modM, modM, modM]; omega
  · rw [show (V : Int) / (n : Int) = ((V / n : Nat) : Int) from rfl, ← hq0, w64 (by omega)]
  · rw [c2, modM, modM]; omega
  · rw [modM, modM]; omega
  · rw [modM, modM]; omega
  · rw [c4, modM, modM, modM, modM]
    have : ((((V : Int) * 4294967296) % 18446744073709551616 + ((W % 4294967296 : Nat) : Int)) % 18446744073709551616 - ((q0 * Y : Nat) : Int) % 18446744073709551616) % 18446744073709551616 = ((R * 2 ^ s : Nat) : Int) := by omega
    rw [this, show ((2 : Int) ^ s) = ((2 ^ s : Nat) : Int) by push_cast; rfl, ← Int.natCast_ediv, Nat.mul_div_cancel _ hp]
set_option maxHeartbeats 1600000 in
theorem Div64_any (hi lo y : Nat) (hy : y < 65536) (hhi : hi < y) (hlo : lo < 18446744073709551616) (w : World) :
    Calls Try.prog 69 #[wordV hi, wordV lo, wordV y] w fun e w' => e = .returned (.tuple #[wordV ((18446744073709551616 * hi + lo) / y), wordV ((18446744073709551616 * hi + lo) % y)]) ∧ ∃ q, w' = w.drewN q := by
  unfold wordV
  go_enter Try.func69, Try.ntmps69
  have hy0 : ¬ ((y : Int) = 0) := by omega
  have hy1 : ¬ (y = 0) := by omega
  have hy2 : ¬ (y ≤ hi) := by omega
  by_cases h0 : hi = 0
  · subst h0
    have g1 : IntKind.u64.wrap ((lo : Int) / (y : Int)) = (lo : Int) / (y : Int) := by
      rw [← Int.natCast_ediv, w64 (Nat.lt_of_le_of_lt (Nat.div_le_self _ _) hlo)]
    go_wp2
    go_quiet (fail)
    go_wp2
    go_ret2
    rw [Nat.mul_zero, Nat.zero_add]
    exact ⟨rfl, _, rfl⟩
  · obtain ⟨s, n, s0, s1, hs, hn, n0, n1⟩ := top_shift (by omega) hy
    obtain ⟨Y, U, W, W1, W0, q1, r1, X, V, q0, r0, X2, Q, R, E⟩ := div64_e s0 s1 hn n0 n1 hhi hlo
    obtain ⟨e1, e2, e3, e4, e5, e6, e7, e8, e9, e10, e11, e12, e13, e14, e15, e16, _, q1s, q0s, hQ, hR⟩ := E
    rw [← hQ, ← hR]
    have hQe : (q1 : Int) * 4294967296 + (q0 : Int) = (Q : Int) := by rw [modM, modM] at e15; omega
    have C := lz64_any y (by omega)
    unfold wordV at C
    rw [hs] at C
    have n2 : ¬ (n = 0) := by omega
    have n3 : ¬ ((n : Int) = 0) := by omega
    have q2 : ¬ (4294967296 ≤ q1) := by omega
    have q3 : ¬ (4294967296 ≤ q0) := by omega
    have q4 : decide ((4294967296 : Int) ≤ (q1 : Int)) = false := decide_eq_false (by omega)
    have q5 : decide ((4294967296 : Int) ≤ (q0 : Int)) = false := decide_eq_false (by omega)
    have z1 : ¬ ((X : Int) < 0) := by omega
    have z2 : ¬ ((X2 : Int) < 0) := by omega
    clear hQ hR hn hhi
    go_wp2_with (refine (C _).mono ?_; rintro e w' ⟨rfl, rfl⟩)
    go_loopw [15, 16] (fun i j wr => i = .int .u64 q1 ∧ j = .int .u64 r1 ∧ wr = w') (fun _ _ _ => 0)
    case atStart => exact ⟨rfl, rfl, rfl⟩
    case round =>
      obtain ⟨rfl, rfl, rfl⟩ := hrel
      go_wp2
      go_loopw [18, 16] (fun i j W => i = .int .u64 q0 ∧ j = .int .u64 r0 ∧ W = wr) (fun _ _ _ => 0)
      case atStart => exact ⟨rfl, rfl, rfl⟩
      case round =>
        obtain ⟨rfl, rfl, rfl⟩ := hrel
        go_wp2
        go_ret2
        rw [← hQe]
        exact ⟨rfl, 0, rfl⟩
end Go.Proofs.Ytajfohnblmnjjaa
