/-
  Contracts of the reference's shiftLeft and shiftRight, by less than a digit.
-/
import Derived.Test.YtajfohnblmnjjaaBigWalks3
import Derived.Test.YtajfohnblmnjjaaDivMath
import Derived.BigRegion
import Derived.Deep.CutBlock
import Derived.Deep.DeepCutAuto
import Derived.BigQuiet
import Derived.Deep.QuietTactic
namespace Go.Proofs.Ytajfohnblmnjjaa
open Go.RowKit
set_option linter.unusedVariables false

theorem ofInt32 {a : Nat} (h : a < 4294967296) : (BitVec.ofInt 32 (a : Int)).toNat = a := by
  rw [BitVec.ofInt_natCast, BitVec.toNat_ofNat, Nat.mod_eq_of_lt (by omega)]
theorem u32_or {a b : Nat} (ha : a < 4294967296) (hb : b < 4294967296) : bits .or .u32 (a : Int) (b : Int) = ((a ||| b : Nat) : Int) := by
  have hx : a ||| b < 4294967296 := Nat.or_lt_two_pow (n := 32) ha hb
  show IntKind.u32.wrap ((BitVec.ofInt 32 (a : Int) ||| BitVec.ofInt 32 (b : Int)).toNat : Int) = _
  rw [BitVec.toNat_or, ofInt32 ha, ofInt32 hb, IntKind.wrap_u32]
  omega
/-- The powers of two up to a digit: p, and what is left of a digit. -/
structure Pow2 (s : Nat) (p q : Int) : Prop where
  p1 : 1 ≤ p
  q1 : 1 ≤ q
  pq : p * q = 4294967296
  ps : p = ((2 ^ s : Nat) : Int)
  qs : q = ((2 ^ (32 - s) : Nat) : Int)
theorem pow2_of {s : Nat} (h : s ≤ 32) : Pow2 s ((2 ^ s : Nat) : Int) ((2 ^ (32 - s) : Nat) : Int) := by
  have h1 : 2 ^ s * 2 ^ (32 - s) = 4294967296 := by rw [← Nat.pow_add, Nat.add_sub_cancel' h]
  have h2 := Nat.pow_pos (n := s) (show 0 < 2 by decide)
  have h3 := Nat.pow_pos (n := 32 - s) (show 0 < 2 by decide)
  exact ⟨by omega, by omega, by rw [← Int.natCast_mul, h1]; rfl, rfl, rfl⟩
section
variable {s : Nat} {p q : Int}
theorem Pow2.ple (h : Pow2 s p q) : p ≤ 4294967296 := by
  have := mul_le_l (show 0 ≤ p by have := h.p1; omega) h.q1
  rw [h.pq] at this; omega
theorem Pow2.qle (h : Pow2 s p q) : q ≤ 4294967296 := by
  have := mul_le_r (show 0 ≤ q by have := h.q1; omega) h.p1
  rw [h.pq] at this; omega
/-- The lower part of a digit times p: p times what is left of it. -/
theorem Pow2.low (h : Pow2 s p q) (a : Int) : a * p % 4294967296 = p * (a % q) ∧ a * p / 4294967296 = a / q := by
  have hp := h.p1
  have hq := h.q1
  rw [← h.pq, Int.mul_comm a p, Int.mul_emod_mul_of_pos _ _ (by omega), Int.mul_ediv_mul_of_pos _ _ (by omega)]
  exact ⟨rfl, rfl⟩
theorem Pow2.high (h : Pow2 s p q) (a : Int) : a * q % 4294967296 = q * (a % p) ∧ a * q / 4294967296 = a / p := by
  have hp := h.p1
  have hq := h.q1
  rw [← h.pq, Int.mul_comm a q, Int.mul_comm p q, Int.mul_emod_mul_of_pos _ _ (by omega), Int.mul_ediv_mul_of_pos _ _ (by omega)]
  exact ⟨rfl, rfl⟩
/-- A carry and the lower part: their bits are apart. -/
theorem Pow2.or_low (h : Pow2 s p q) {c a : Int} (c0 : 0 ≤ c) (c1 : c < p) (ha : 0 ≤ a) : bits .or .u32 c (a * p % 4294967296) = c + a * p % 4294967296 ∧ IsDig (c + a * p % 4294967296) := by
  rw [(h.low a).1]
  have hq := h.q1
  have h0 := Int.emod_nonneg a (show q ≠ 0 by omega)
  have h1 := Int.emod_lt_of_pos a (show 0 < q by omega)
  obtain ⟨x, hx⟩ := Int.eq_ofNat_of_zero_le h0
  obtain ⟨y, rfl⟩ := Int.eq_ofNat_of_zero_le c0
  rw [hx] at h1 ⊢
  have hb := mul_le_l (show 0 ≤ p by omega) (show (x : Int) + 1 ≤ q by omega)
  rw [h.pq, Int.mul_add, Int.mul_one] at hb
  have hple := h.ple
  have hps := h.ps
  have e : p * (x : Int) = ((2 ^ s * x : Nat) : Int) := by rw [hps, Int.natCast_mul]
  have hx0 : (0 : Int) ≤ ((2 ^ s * x : Nat) : Int) := by omega
  refine ⟨?_, by unfold IsDig; rw [e] at hb ⊢; omega⟩
  rw [e] at hb ⊢
  rw [u32_or (by omega) (by omega), Nat.or_comm, ← Nat.two_pow_add_eq_or_of_lt (by omega)]
  omega
/-- A rest and the lower part of the digit above it: their bits are apart. -/
theorem Pow2.or_high (h : Pow2 s p q) (hq2 : Pow2 (32 - s) q p) {c a : Int} (c0 : 0 ≤ c) (c1 : c < q) (ha : 0 ≤ a) : bits .or .u32 c (a * q % 4294967296) = c + a * q % 4294967296 ∧ IsDig (c + a * q % 4294967296) :=
  hq2.or_low c0 c1 ha
end
theorem pow2_swap {s : Nat} {p q : Int} (h : Pow2 s p q) (hs : s ≤ 32) : Pow2 (32 - s) q p :=
  ⟨h.q1, h.p1, by rw [Int.mul_comm]; exact h.pq, h.qs, by rw [h.ps, show 32 - (32 - s) = s by omega]⟩
def shlL (p c : Int) : List Int → List Int
  | [] => [c]
  | a :: x => (c + a * p % 4294967296) :: shlL p (a * p / 4294967296) x
theorem shlL_len (p : Int) : ∀ (x : List Int) (c : Int), (shlL p c x).length = x.length + 1
  | [], _ => rfl
  | a :: x, c => by rw [shlL, List.length_cons, shlL_len p x, List.length_cons]
theorem shlL_mag (p : Int) : ∀ (x : List Int) (c : Int), mag (shlL p c x) = mag x * p + c
  | [], c => by simp [shlL, mag]
  | a :: x, c => by
    rw [shlL, mag, shlL_mag p x, mag, Int.add_mul, Int.mul_assoc]
    generalize mag x * p = y
    omega
theorem Pow2.carry {s : Nat} {p q : Int} (h : Pow2 s p q) {a : Int} (ha : IsDig a) : 0 ≤ a * p / 4294967296 ∧ a * p / 4294967296 < p := by
  rw [(h.low a).2]
  have hq := h.q1
  unfold IsDig at ha
  refine ⟨Int.ediv_nonneg ha.1 (by omega), ?_⟩
  have : a < p * q := by rw [h.pq]; exact ha.2
  exact Int.ediv_lt_of_lt_mul (by omega) this
theorem shlL_dig {s : Nat} {p q : Int} (h : Pow2 s p q) : ∀ (x : List Int) (c : Int), Dig x → 0 ≤ c → c < p → Dig (shlL p c x) ∧ ∃ t, (shlL p c x)[x.length]? = some t ∧ 0 ≤ t ∧ t < p
  | [], c, _, h0, h1 => ⟨Dig.cons ⟨h0, by have := h.ple; omega⟩ Dig.nil, c, rfl, h0, h1⟩
  | a :: x, c, hx, h0, h1 => by
    have ha := hx.head
    obtain ⟨g0, g1⟩ := h.carry ha
    obtain ⟨i1, t, i2, i3⟩ := shlL_dig h x (a * p / 4294967296) hx.tail g0 g1
    exact ⟨Dig.cons (h.or_low h0 h1 ha.1).2 i1, t, by simpa [shlL] using i2, i3⟩
def shrL (p q : Int) : List Int → List Int
  | [] => []
  | a :: x => (a / p + x.headD 0 * q % 4294967296) :: shrL p q x
theorem shrL_len (p q : Int) : ∀ x : List Int, (shrL p q x).length = x.length
  | [] => rfl
  | a :: x => by rw [shrL, List.length_cons, shrL_len p q x, List.length_cons]
theorem shrL_mag {s : Nat} {p q : Int} (h : Pow2 s p q) : ∀ x : List Int, mag (shrL p q x) = mag x / p
  | [] => by simp [shrL, mag]
  | a :: x => by
    have hp := h.p1
    rw [shrL, mag, shrL_mag h x, mag]
    have hm : mag x % p = x.headD 0 % p := by
      cases x with
      | nil => rfl
      | cons b r =>
        simp only [mag, List.headD_cons]
        rw [← h.pq, Int.mul_assoc, Int.add_mul_emod_self_left]
    rw [(h.high _).1, ← hm]
    have hd := Int.mul_ediv_add_emod (mag x) p
    have e : a + 4294967296 * mag x = a + p * (q * mag x) := by rw [← Int.mul_assoc, h.pq]
    rw [e, Int.add_mul_ediv_left _ _ (by omega)]
    have e2 : q * mag x = q * (p * (mag x / p)) + q * (mag x % p) := by rw [← Int.mul_add, hd]
    rw [e2, ← Int.mul_assoc, Int.mul_comm q p, h.pq]
    omega
theorem shrL_dig {s : Nat} {p q : Int} (h : Pow2 s p q) (h2 : Pow2 (32 - s) q p) : ∀ x : List Int, Dig x → Dig (shrL p q x)
  | [], _ => Dig.nil
  | a :: x, hx => by
    have ha := hx.head
    have hp := h.p1
    have hb : 0 ≤ x.headD 0 := by
      cases x with
      | nil => exact Int.le_refl _
      | cons b r => exact (hx.tail.head).1
    have g0 : 0 ≤ a / p := Int.ediv_nonneg ha.1 (by omega)
    have g1 : a / p < q := Int.ediv_lt_of_lt_mul (by omega) (by rw [Int.mul_comm, h.pq]; exact ha.2)
    exact Dig.cons (h.or_high h2 g0 g1 hb).2 (shrL_dig h h2 x hx.tail)
/-- What stands in the row: what is done, the carry, noughts. -/
theorem shl_row {acc : List Int} {k n : Nat} (hk : acc.length = k) (hlt : k < n) (c v d : Int) : (((acc ++ c :: List.replicate (n - k) 0).set k v).set (k + 1) d) = (acc ++ [v]) ++ d :: List.replicate (n - (k + 1)) 0 := by
  subst hk
  obtain ⟨m, hm⟩ : ∃ m, n - acc.length = m + 1 := ⟨n - acc.length - 1, by omega⟩
  rw [List.set_append_right _ _ (Nat.le_refl _), Nat.sub_self, List.set_cons_zero, hm, List.replicate_succ, List.set_append_right _ _ (by omega), show acc.length + 1 - acc.length = 1 by omega, List.set_cons_succ, List.set_cons_zero, List.append_assoc, show n - (acc.length + 1) = m by omega]
  rfl
def GivesRow (l : List Int) (w : World) (e : Ending) (w' : World) : Prop :=
  ∃ v, e = .returned v ∧ Ow (Value.int .u32) w' w.heap.size 84 v l ∧ Below w.heap.size w w'
set_option maxHeartbeats 800000 in
theorem shiftLeft_any (A : Option Addr) (n c : Nat) (x : List Int) (s : Nat) (hs : s < 32) (p q : Int) (hp : Pow2 s p q) (w : World) (hx : Rd w 1 A n (x.map (Value.int .u32))) (dx : Dig x) (hn : n ≤ 1000000) :
    Calls Try.prog 80 #[.slice A n c, .int .i64 (s : Int)] w (GivesRow (shlL p 0 x) w) := by
  have Hl := Lib.hid hx.lenMap
  have hmk := run_mk elU32 rfl .i64 .i64 (n + 1) (n + 1) (Nat.le_refl _) (by omega) (by omega)
  rw [show ((n + 1 : Nat) : Int) = (n : Int) + 1 from rfl] at hmk
  have Ho0 := Lib.hid (Ow.make (Value.int .u32) 0 w 84 (base := w.heap.size) (n + 1) (by unfold maxLen; omega) (Nat.le_refl _))
  have Hp := Lib.hid hp
  have hp1 := hp.p1
  have hple := hp.ple
  have hsd : (s : Int) / 32 = 0 := by omega
  have hsm : (s : Int) % 32 = s := by omega
  have hps : (2 : Int) ^ s = p := by rw [hp.ps]; simp
  have hs' : (s : Int) < 32 := by omega
  have hst : ((s : Int)).toNat = s := by omega
  go_enter Try.func80, Try.ntmps80
  go_wp2
  go_loopw [18] (fun i wr => ∃ (k : Nat) (cc : Int) (acc : List Int), k ≤ n ∧ i = .int .i64 k ∧ 0 ≤ cc ∧ cc < p ∧ acc.length = k ∧ acc ++ shlL p cc (x.drop k) = shlL p 0 x ∧ Ow (Value.int .u32) wr w.heap.size 84 (.slice (some ⟨w.heap.size, 0, none⟩) (n + 1) (n + 1)) (acc ++ cc :: List.replicate (n - k) 0) ∧ Below w.heap.size w wr) (fun i _ => n - (intOf i).toNat)
  case atStart => exact ⟨0, 0, [], Nat.zero_le _, rfl, by omega, by omega, rfl, rfl, Ho0.out, (Below.refl _ _).alloc (Nat.le_refl _) _⟩
  case round =>
    obtain ⟨k, cc, acc, hk, rfl, hc0, hc1, hal, hacc, ho, hb⟩ := hrel
    have Hacc := Lib.hid hacc; clear hacc Ho0 hmk
    by_cases hlt : k < n
    · obtain ⟨ad, a, rfl, ha, hca⟩ := (hx.below hb).atMap (k := k) hlt
      obtain ⟨a0, a1⟩ := dx.at ha
      have Ha := Lib.hid (drop_cons ha); clear ha
      obtain ⟨o1, o2⟩ := Hp.out.or_low hc0 hc1 a0
      obtain ⟨g0, g1⟩ := Hp.out.carry ⟨a0, a1⟩
      have hap : a * p ≤ 18446744073709551615 := by
        have := mul_le_r (show 0 ≤ p by omega) (show a ≤ 4294967295 by omega)
        omega
      have hap0 : 0 ≤ a * p := Int.mul_nonneg a0 (by omega)
      have hz : (acc ++ cc :: List.replicate (n - k) 0)[k]? = some cc := by rw [List.getElem?_append_right (by omega), hal, Nat.sub_self]; rfl
      have hz2 : (acc ++ cc :: List.replicate (n - k) 0)[k + 1]? = some 0 := by
        rw [List.getElem?_append_right (by omega), hal, show k + 1 - k = 1 by omega, List.getElem?_cons_succ, List.getElem?_replicate, if_pos (by omega)]
      have hcell := ho.cellAt hz
      have hfree := ho.freeAt k
      have ho1 := ho.put k (cc + a * p % 4294967296)
      have hz3 : ((acc ++ cc :: List.replicate (n - k) 0).set k (cc + a * p % 4294967296))[k + 1]? = some 0 := by rw [List.getElem?_set_ne (by omega)]; exact hz2
      have hcell1 := ho1.cellAt hz3
      have hfree1 := ho1.freeAt (k + 1)
      have Hput := Lib.hid (ho1.put (k + 1) (a * p / 4294967296))
      have Hrow := Lib.hid (shl_row hal hlt cc (cc + a * p % 4294967296) (a * p / 4294967296))
      have Hal := Lib.hid hal
      have O2 := Lib.hid o2
      have o3 := o2.1
      have o4 := o2.2
      have hlw := hb.size
      have hlt2 := hb.size
      have hblk : w.heap.size < wr.heap.size := ho.inHeap w.heap.size rfl
      clear ho ho1 hz hz2 hz3 hal o2
      go_wp2
      go_roundw
      case rel =>
        refine ⟨k + 1, a * p / 4294967296, acc ++ [cc + a * p % 4294967296], by omega, by go_num, g0, g1, by simp [Hal.out], ?_, ?_, (hb.setCell (p := ⟨w.heap.size, k, none⟩) (Nat.le_refl _) _).setCell (p := ⟨w.heap.size, k + 1, none⟩) (Nat.le_refl _) _⟩
        · rw [← Hacc.out, Ha.out, shlL, List.append_assoc]; rfl
        · rw [← Hrow.out]; exact Hput.out
      case measure => simp [intOf] <;> omega
    · obtain rfl : k = n := by omega
      have Hend : Hid (acc ++ [cc] = shlL p 0 x) := by
        show _ = _
        rw [← Hacc.out, List.drop_eq_nil_of_le (by rw [Hl.out]; exact Nat.le_refl _), shlL]
      have Ho := Lib.hid ho; clear ho
      go_wp2
      go_ret
      refine ⟨_, rfl, ?_, hb⟩
      have := Ho.out
      rw [Nat.sub_self, List.replicate_zero, Hend.out] at this
      exact this
theorem shr_row {acc : List Int} {k n : Nat} (hk : acc.length = k) (hlt : k < n) (v : Int) : (acc ++ List.replicate (n - k) 0).set k v = (acc ++ [v]) ++ List.replicate (n - (k + 1)) 0 := by
  subst hk
  exact (fill_set hlt v).trans (by rw [List.length_append, List.length_singleton])
theorem set_same {l : List Int} (k : Nat) (u v : Int) : (l.set k u).set k v = l.set k v := by simp
set_option maxHeartbeats 1600000 in
theorem shiftRight_any (A : Option Addr) (n c : Nat) (x : List Int) (s : Nat) (hs : s < 32) (p q : Int) (hp : Pow2 s p q) (w : World) (hx : Rd w 1 A n (x.map (Value.int .u32))) (dx : Dig x) (hn : n ≤ 1000000) (hn0 : 0 < n) (hc : n ≤ c) :
    Calls Try.prog 81 #[.slice A n c, .int .i64 (s : Int)] w (GivesRow (shrL p q x) w) := by
  have Hl := Lib.hid hx.lenMap
  have hmk := run_mk elU32 rfl .i64 .i64 n n (Nat.le_refl _) (by omega) (by omega)
  have Ho0 := Lib.hid (Ow.make (Value.int .u32) 0 w 84 (base := w.heap.size) n (by unfold maxLen; omega) (Nat.le_refl _))
  have Hp := Lib.hid hp
  have hp1 := hp.p1
  have hple := hp.ple
  have hq1 := hp.q1
  have hqle := hp.qle
  have hsd : (s : Int) / 32 = 0 := by omega
  have hsm : (s : Int) % 32 = s := by omega
  have hps : (2 : Int) ^ s = p := by rw [hp.ps]; simp
  have hqs : (2 : Int) ^ (32 - s) = q := by rw [hp.qs]; simp
  have hs' : (s : Int) < 32 := by omega
  have hst : ((s : Int)).toNat = s := by omega
  have hsq : ((32 : Int) - (s : Int)).toNat = 32 - s := by omega
  obtain ⟨ad, rfl, hcells⟩ := hx.2 hn0
  have hfrom : ∀ W, (Instr.slice 65 (.slice (some ad) n c) (some (.int .i64 0)) none none).run Try.prog W = .ok (.slice (some ad) n c) W := fun W => by
    have := run_from (P := Try.prog) elU32 W (some ad) n c 0 (by omega)
    rw [if_neg (by omega)] at this
    have e : (some ad : Option Addr).map (fun a => a.add (0 * 1)) = some ad := by simp [Addr.add]
    rw [e] at this
    simpa using this
  clear hcells
  have hn0' : (0 : Int) < n := by omega
  go_enter Try.func81, Try.ntmps81
  go_wp2
  go_loopw [22] (fun i wr => ∃ (k : Nat) (acc : List Int), k ≤ n ∧ i = .int .i64 k ∧ acc.length = k ∧ acc ++ shrL p q (x.drop k) = shrL p q x ∧ Ow (Value.int .u32) wr w.heap.size 84 (.slice (some ⟨w.heap.size, 0, none⟩) n n) (acc ++ List.replicate (n - k) 0) ∧ Below w.heap.size w wr) (fun i _ => n - (intOf i).toNat)
  case atStart => exact ⟨0, [], Nat.zero_le _, rfl, rfl, rfl, Ho0.out, (Below.refl _ _).alloc (Nat.le_refl _) _⟩
  case round =>
    obtain ⟨k, acc, hk, rfl, hal, hacc, ho, hb⟩ := hrel
    have Hacc := Lib.hid hacc; clear hacc Ho0 hmk hfrom
    by_cases hlt : k < n
    · obtain ⟨ad', a, e, ha, hca⟩ := (hx.below hb).atMap (k := k) hlt
      injection e with e
      subst e
      obtain ⟨a0, a1⟩ := dx.at ha
      have Ha := Lib.hid (drop_cons ha); clear ha
      have g0 : 0 ≤ a / p := Int.ediv_nonneg a0 (by omega)
      have g1 : a / p < q := Int.ediv_lt_of_lt_mul (by omega) (by rw [Int.mul_comm, hp.pq]; exact a1)
      have hz : (acc ++ List.replicate (n - k) 0)[k]? = some 0 := by
        rw [List.getElem?_append_right (by omega), hal, Nat.sub_self, List.getElem?_replicate, if_pos (by omega)]
      have hcell := ho.cellAt hz
      have hfree := ho.freeAt k
      have ho1 := ho.put k (a / p)
      have Hrow := Lib.hid (shr_row (n := n) hal hlt)
      have Hal := Lib.hid hal
      have hsz := hb.size
      have hblk : w.heap.size < wr.heap.size := ho.inHeap w.heap.size rfl
      by_cases hnx : k + 1 < n ∧ 0 < s
      · obtain ⟨hk1, hs0⟩ := hnx
        have hs0' : (0 : Int) < s := by omega
        have hk1' : (k : Int) + 1 < n := by omega
        have hwr : IntKind.i64.wrap ((k : Int) + 1) = (k : Int) + 1 := by rw [IntKind.wrap_i64]; omega
        obtain ⟨ad', b, e, hbb, hcb⟩ := (hx.below hb).atMap (k := k + 1) hk1
        injection e with e
        subst e
        obtain ⟨b0, b1⟩ := dx.at hbb
        obtain ⟨o1, o2⟩ := hp.or_high (pow2_swap hp (by omega)) g0 g1 b0
        have Hb : Hid ((x.drop (k + 1)).headD 0 = b) := by show _ = _; rw [drop_cons hbb]; rfl
        have hb1 := hb.setCell (p := ⟨w.heap.size, k, none⟩) (Nat.le_refl _) (.int .u32 (a / p))
        have hcell1 := ho1.cellAt (k := k) (x := a / p) (by rw [List.getElem?_set_self (by rw [List.length_append, List.length_replicate, hal]; omega)])
        have hfree1 := ho1.freeAt k
        have hcb1 : (wr.setCell ⟨w.heap.size, k, none⟩ (.int .u32 (a / p))).cell? (ad.add (k + 1)) = some (.int .u32 b) := by
          obtain ⟨ad', b', e, hb', hc'⟩ := (hx.below hb1).atMap (k := k + 1) hk1
          injection e with e
          subst e
          rw [hbb] at hb'
          injection hb' with hb'
          subst hb'
          exact hc'
        have hcb2 : (wr.setCell ⟨w.heap.size, k, none⟩ (.int .u32 (a / p))).cell? ⟨ad.block, ad.off + (k + 1), none⟩ = some (.int .u32 b) := by
          have e : ad.add (k + 1) = ⟨ad.block, ad.off + (k + 1), none⟩ := by unfold Addr.add; rw [if_neg (by omega)]
          rwa [e] at hcb1
        have Hput := Lib.hid (ho1.put k (a / p + b * q % 4294967296))
        rw [set_same] at Hput
        have hbq : b * q ≤ 18446744073709551615 := by
          have := mul_le_r (show 0 ≤ q by omega) (show b ≤ 4294967295 by omega)
          omega
        have hbq0 : 0 ≤ b * q := Int.mul_nonneg b0 (by omega)
        have o3 := o2.1
        have o4 := o2.2
        have hblk1 : w.heap.size < (wr.setCell ⟨w.heap.size, k, none⟩ (.int .u32 (a / p))).heap.size := by simpa using hblk
        clear ho ho1 hz hal o2 hbb hcb hb hp
        go_upto_region 10 with fail
        clear hcell hfree hca
        generalize wr.setCell ⟨w.heap.size, k, none⟩ (.int .u32 (a / p)) = w5 at *
        go_big_region
        go_wp2
        go_roundw
        case rel =>
          refine ⟨k + 1, acc ++ [a / p + b * q % 4294967296], by omega, by go_num, by simp [Hal.out], ?_, ?_, below_grown hb1.drew (grownBy_setCell _ ⟨w.heap.size, k, none⟩ _) (Nat.le_refl _) hb1.size⟩
          · rw [← Hacc.out, Ha.out, shrL, Hb.out, List.append_assoc]; rfl
          · have := Hput.out
            rw [Hrow.out] at this
            exact this
        case measure => simp [intOf] <;> omega
      · have HV : Hid (a / p + (x.drop (k + 1)).headD 0 * q % 4294967296 = a / p) := by
          show _ = _
          by_cases h1 : k + 1 < n
          · have h0 : s = 0 := by omega
            have hq := hp.qs
            rw [h0] at hq
            have : q = 4294967296 := by rw [hq]; decide
            rw [this, Int.mul_emod_left]
            omega
          · rw [List.drop_eq_nil_of_le (by rw [Hl.out]; omega)]
            simp
        have Hput := Lib.hid ho1
        rw [Hrow.out] at Hput
        have hb1 := Lib.hid (hb.setCell (p := ⟨w.heap.size, k, none⟩) (Nat.le_refl _) (.int .u32 (a / p)))
        clear ho ho1 hz hal
        by_cases h1 : k + 1 < n
        · have h0 : ¬ (0 : Int) < (s : Int) := by omega
          have hk1' : (k : Int) + 1 < n := by omega
          have hs00 : (s : Int) = 0 := by omega
          have hap : a / p = a := by
            have h0 : s = 0 := by omega
            have hps := hp.ps
            rw [h0] at hps
            rw [hps]
            exact Int.ediv_one a
          rw [hap] at Hput hb1
          clear hnx
          go_wp2
          go_roundw
          case rel =>
            rw [← hap] at Hput hb1
            refine ⟨k + 1, acc ++ [a / p], by omega, by go_num, by simp [Hal.out], ?_, by rw [hap] at Hput ⊢; exact Hput.out, by rw [hap] at hb1; exact hb1.out⟩
            rw [← Hacc.out, Ha.out, shrL, HV.out, List.append_assoc]; rfl
          case measure => simp [intOf] <;> omega
        · have hk1' : ¬ (k : Int) + 1 < n := by omega
          clear hnx
          go_wp2
          go_roundw
          case rel =>
            refine ⟨k + 1, acc ++ [a / p], by omega, by go_num, by simp [Hal.out], ?_, Hput.out, hb1.out⟩
            rw [← Hacc.out, Ha.out, shrL, HV.out, List.append_assoc]; rfl
          case measure => simp [intOf] <;> omega
    · obtain rfl : k = n := by omega
      have Hend : Hid (acc = shrL p q x) := by
        show _ = _
        rw [← Hacc.out, List.drop_eq_nil_of_le (by rw [Hl.out]; exact Nat.le_refl _), shrL, List.append_nil]
      have Ho := Lib.hid ho; clear ho
      go_wp2
      go_ret
      refine ⟨_, rfl, ?_, hb⟩
      have := Ho.out
      rw [Nat.sub_self, List.replicate_zero, List.append_nil, Hend.out] at this
      exact this
end Go.Proofs.Ytajfohnblmnjjaa
