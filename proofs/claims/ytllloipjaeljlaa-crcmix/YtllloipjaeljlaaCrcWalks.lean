/-
  Contracts of crc's functions Sum, Seal and Open, and of the reference's CSum and COpen.
-/
import Derived.Test.YtllloipjaeljlaaSlices
import Derived.Test.YtllloipjaeljlaaConcat
import Derived.Test.YtllloipjaeljlaaBitWalks2
import Derived.Test.YtllloipjaeljlaaCrcMath
namespace Go.Proofs.Ytllloipjaeljlaa
open Go.RowKit
set_option linter.unusedVariables false

theorem step_and (s : Nat) (h : s < 32768) : bits .and .i64 ((s : Int) * 2) 32767 = ((2 * s % 32768 : Nat) : Int) := by
  have := i64_and_nat (s * 2) 32767 (by omega) (by omega)
  simp only [Int.natCast_mul] at this
  refine this.trans ?_
  rw [show (32767 : Nat) = 2 ^ 15 - 1 from rfl, Nat.and_two_pow_sub_one_eq_mod, Nat.mul_comm]
theorem step_xor (s : Nat) : bits .xor .i64 ((2 * s % 32768 : Nat) : Int) 17817 = (((2 * s % 32768) ^^^ 17817 : Nat) : Int) := i64_xor_nat _ 17817 (by omega) (by decide)

set_option maxHeartbeats 400000 in
theorem Sum_any (A : Option Addr) (n c : Nat) (l : List Bool) (w : World) (h : Rd w 1 A n (l.map Value.bool)) (hn : n ≤ 140737488355328) :
    Calls Try.prog 27 #[.slice A n c] w fun e w' => e = .returned (.int .i64 (crcM l)) ∧ w = w' := by
  have Hl := Lib.hid h.lenMap
  go_enter Try.func27, Try.ntmps27
  go_wp2
  go_loop [3, 9] (fun t i => ∃ k s : Nat, k ≤ n ∧ i = .int .i64 k ∧ t = .int .i64 s ∧ s = crcM (l.take k)) (fun _ i => n - (intOf i).toNat)
  case atStart => exact ⟨0, 0, Nat.zero_le _, rfl, rfl, rfl⟩
  case round =>
    obtain ⟨k, s, hk, rfl, rfl, hs⟩ := hrel
    have hlt' : s < 32768 := by rw [hs]; exact crcM_lt _
    by_cases hlt : k < n
    · obtain ⟨ad, x, rfl, hx, hc⟩ := h.atMap hlt
      have Hs : Hid (crcM (l.take (k + 1)) = crcStep s x) := by show _ = _; rw [take_snoc hx, crcM_snoc, ← hs]
      clear hx hs
      have ha := Lib.hid (step_and s hlt')
      have hxo := Lib.hid (step_xor s)
      by_cases ht : (decide (16384 ≤ s) != x) = true
      · have ht' : (decide (16384 ≤ (s : Int)) == x) = false := by rw [show decide (16384 ≤ (s : Int)) = decide (16384 ≤ s) by rw [decide_eq_decide]; omega]; simpa using ht
        have Ht := Lib.hid ht; clear ht
        go_wp2
        go_round
        case rel => exact ⟨k + 1, _, by omega, by go_num, int_eq (by rw [ha.out, hxo.out]), by rw [Hs.out, crcStep, if_pos Ht.out]⟩
        case measure => simp [intOf] <;> omega
      · have ht' : (decide (16384 ≤ (s : Int)) == x) = true := by rw [show decide (16384 ≤ (s : Int)) = decide (16384 ≤ s) by rw [decide_eq_decide]; omega]; simpa using ht
        have Ht := Lib.hid ht; clear ht
        go_wp2
        go_round
        case rel => exact ⟨k + 1, _, by omega, by go_num, int_eq (by rw [ha.out]), by rw [Hs.out, crcStep, if_neg Ht.out]⟩
        case measure => simp [intOf] <;> omega
    · have hnk : k = n := by omega
      subst hnk
      go_wp2
      go_ret
      exact ⟨ret_int (by rw [List.take_of_length_le (by rw [Hl.out]; exact Nat.le_refl _)]), rfl⟩

set_option maxHeartbeats 400000 in
theorem Seal_any (A : Option Addr) (n c : Nat) (l : List Bool) (w : World) (h : Rd w 1 A n (l.map Value.bool)) (hn : n ≤ 140737488355312) :
    Calls Try.prog 28 #[.slice A n c] w fun e w' => ∃ v, e = .returned v ∧ Ow Value.bool w' w.heap.size 4 v (sealM l) ∧ Below w.heap.size w w' := by
  have Hl := Lib.hid h.lenMap
  have hlt := crcM_lt l
  go_enter Try.func28, Try.ntmps28
  go_wp2_with fail
  refine (Sum_any A n c l _ h (by omega)).mono ?_
  rintro e w1 ⟨rfl, rfl⟩
  go_wp2_with fail
  refine (Put_ok 15 _ _ (by decide) (by omega) (by simp; omega)).mono ?_
  rintro e w1 ⟨A1, c1, rfl, ho1, hb1⟩
  go_wp2_with fail
  refine (Clone_any A n c l _ (h.below hb1) (by omega)).mono ?_
  rintro e w2 ⟨v2, rfl, ho2, hb2⟩
  have hs1 := hb1.size
  have hs2 := hb2.size
  go_wp2_with (at_builtin; go_must (refine wpList_apM Value.bool _ elBool rfl rfl one_bool w.heap.size _ l rfl (ho2.mono hs1) A1 15 c1 _ rfl (ho1.below hb2).rd (by omega) (by rw [Hl.out]; omega) (by decide) ?_; intro v3 w3 ho3 hm3))
  go_ret
  exact ⟨_, rfl, ho3, hm3.below (bthen hb1 hb2) (by omega) (fun k hk => Nat.le_trans hs1 (ho2.block k hk))⟩

set_option maxHeartbeats 400000 in
theorem Open_any (A : Option Addr) (n c : Nat) (l : List Bool) (w : World) (h : Rd w 1 A n (l.map Value.bool)) (hnc : n ≤ c) (hc : c ≤ 9223372036854775807) (hn : n ≤ 140737488355328) :
    Calls Try.prog 23 #[.slice A n c] w fun e w' => ∃ v, e = .returned (.tuple #[v, .int .i64 (openM l).2]) ∧ Ow Value.bool w' w.heap.size 4 v (openM l).1 ∧ Below w.heap.size w w' := by
  have Hl := Lib.hid h.lenMap
  unfold openM
  rw [Hl.out]
  by_cases h15 : n < 15
  · rw [if_pos h15]
    go_enter Try.func23, Try.ntmps23
    go_wp2
    go_ret2
    exact ⟨_, rfl, Ow.nil _ _ _ _, Below.refl _ _⟩
  · rw [if_neg h15]
    by_cases hz : crcM l ≠ 0
    · rw [if_pos hz]
      have hz' : ((crcM l : Int) != 0) = true := by simp; omega
      clear hz
      go_enter Try.func23, Try.ntmps23
      go_wp2_with fail
      refine (Sum_any A n c l _ h (by omega)).mono ?_
      rintro e w1 ⟨rfl, rfl⟩
      go_wp2
      go_ret2
      exact ⟨_, rfl, Ow.nil _ _ _ _, Below.refl _ _⟩
    · rw [if_neg hz]
      have hz' : ((crcM l : Int) != 0) = false := by simp; omega
      have hrk := h.take (k := n - 15) (by omega)
      rw [Nat.mul_one, ← List.map_take] at hrk
      have hcut := fun W => run_to elBool W A n c (n - 15) (by omega)
      rw [show ((n - 15 : Nat) : Int) = (n : Int) - 15 by omega] at hcut
      clear hz
      go_enter Try.func23, Try.ntmps23
      go_wp2_with fail
      refine (Sum_any A n c l _ h (by omega)).mono ?_
      rintro e w1 ⟨rfl, rfl⟩
      go_wp2_with fail
      refine (Clone_any A (n - 15) c _ _ hrk (by omega)).mono ?_
      rintro e w1 ⟨v1, rfl, ho1, hb1⟩
      go_wp2
      go_ret2
      exact ⟨_, rfl, ho1, hb1⟩
end Go.Proofs.Ytllloipjaeljlaa
