/-
  Contracts of bitrow's functions: isWidth, number, appendBits, Put, Get: each returns its model's value, for all arguments within the stated bounds.
-/
import Derived.Test.YtolcfifbnmkfaaaProg
import Derived.Test.YtolcfifbnmkfaaaBitMath
import Derived.Test.YtolcfifbnmkfaaaTypes
namespace Go.Proofs.Ytolcfifbnmkfaaa
open Go.RowKit
set_option linter.unusedVariables false


set_option maxHeartbeats 400000 in
theorem number_any (A : Option Addr) (n c : Nat) (bs : List Bool) (w : World) (h : Rd w 1 A n (bs.map Value.bool)) (hn : n ≤ 62) :
    Calls Try.prog 38 #[.slice A n c] w fun e w' => e = .returned (.int .i64 (num bs)) ∧ w = w' := by
  have Hl := Lib.hid h.lenMap
  go_enter Try.func38, Try.ntmps38
  go_wp2
  go_loop [3, 8] (fun t i => ∃ k : Nat, k ≤ n ∧ i = .int .i64 k ∧ t = .int .i64 (num (bs.take k))) (fun _ i => n - (intOf i).toNat)
  case atStart => exact ⟨0, Nat.zero_le _, rfl, rfl⟩
  case round =>
    obtain ⟨k, hk, rfl, rfl⟩ := hrel
    by_cases hlt : k < n
    · obtain ⟨ad, u, rfl, hu, hc⟩ := h.atMap hlt
      have h0 := num_nonneg (bs.take k)
      have h1 : num (bs.take k) < 2 ^ 61 := num_lt_of_le _ _ (by simp; omega)
      have hs := Lib.hid (num_take bs k u hu)
      clear hu
      generalize num (bs.take k) = t at *
      simp only [Int.reducePow] at h1
      cases u
      all_goals
        go_wp2
        go_round
        case rel => exact ⟨k + 1, by omega, by go_num, int_eq (by rw [hs.out]; first | (rw [i64_or_one t h0 (by omega)]; simp; omega) | (simp; omega))⟩
        case measure => simp [intOf] <;> omega
    · have hnk : k = n := by omega
      subst hnk
      go_wp2
      go_ret
      exact ⟨ret_int (by rw [List.take_of_length_le (by rw [Hl.out]; exact Nat.le_refl _)]), rfl⟩

set_option maxHeartbeats 400000 in
theorem appendBits_any (base : Nat) (v : Value) (xs : List Bool) (width : Nat) (n : Int) (w : World) (hown : Ow Value.bool w base 4 v xs) (hbase : base ≤ w.heap.size)
    (hw : width ≤ 62) (h0 : 0 ≤ n) (h1 : n < 9223372036854775808) (hm : xs.length ≤ 70368744177664) :
    Calls Try.prog 37 #[v, .int .i64 width, .int .i64 n] w fun e w' => ∃ v', e = .returned v' ∧ Ow Value.bool w' base 4 v' (xs ++ bitsOf width n) ∧ Moves w w' v v' := by
  go_enter Try.func37, Try.ntmps37
  go_wp2
  go_loopw [0, 7] (fun vr i wr => ∃ (j : Nat) (acc : List Bool), j ≤ width ∧ i = .int .i64 ((j : Int) - 1) ∧ Ow Value.bool wr base 4 vr acc ∧ acc ++ bitsOf j n = xs ++ bitsOf width n ∧ Moves w wr v vr)
    (fun _ i _ => (intOf i + 1).toNat)
  case atStart => exact ⟨width, xs, Nat.le_refl _, by go_num, hown, rfl, Moves.refl _ _⟩
  case round =>
    obtain ⟨j, acc, hj, rfl, ho, hacc, hmv⟩ := hrel
    have hal : acc.length ≤ xs.length + 62 := by have := congrArg List.length hacc; simp [bitsOf_length] at this; omega
    have Hacc := Lib.hid hacc; clear hacc
    have hsz := hmv.1.size
    rcases Nat.eq_zero_or_pos j with hz | hz
    · subst hz
      go_wp2
      go_ret
      exact ⟨_, rfl, by have := Hacc.out; simp [bitsOf] at this; rw [← this]; exact ho, hmv⟩
    · obtain ⟨i, rfl⟩ : ∃ i, j = i + 1 := ⟨j - 1, by omega⟩
      go_wp2_with (at_builtin; go_must (refine wpList_apM Value.bool _ elBool rfl rfl one_bool base u0 acc rfl (ho.alloc _) _ 1 1 _ rfl (Rd.oneM Value.bool _ _ _) (le_alloc (by omega)) (by omega) (by omega) ?_; intro v' w1 ho1 hm1))
      go_roundw
      case rel => exact ⟨i, _, by omega, rfl, ho1, by rw [← Hacc.out, ← bitsOf_cons i n h0 h1, List.append_assoc]; rfl, (hmv.alloc _).trans hm1⟩
      case measure => simp [intOf] <;> omega

theorem isWidth_yes (n : Int) (w : World) (h0 : 0 ≤ n) (h1 : n ≤ 62) :
    Calls Try.prog 36 #[.int .i64 n] w fun e w' => e = .returned (.bool true) ∧ w = w' := by
  go_enter Try.func36, Try.ntmps36
  go_wp2
  go_ret
  exact ⟨rfl, rfl⟩
theorem isWidth_no (n : Int) (w : World) (h : n < 0 ∨ 62 < n) :
    Calls Try.prog 36 #[.int .i64 n] w fun e w' => e = .returned (.bool false) ∧ w = w' := by
  by_cases h0 : n < 0
  · have h1 : decide (0 ≤ n) = false := by simp; omega
    go_enter Try.func36, Try.ntmps36
    go_wp2
    go_ret
    exact ⟨rfl, rfl⟩
  · have h1 : decide (n ≤ 62) = false := by simp; omega
    have h2 : 0 ≤ n := by omega
    clear h
    go_enter Try.func36, Try.ntmps36
    go_wp2
    go_ret
    exact ⟨rfl, rfl⟩

set_option maxHeartbeats 400000 in
theorem Put_ok (width : Nat) (n : Int) (w : World) (hw : width ≤ 62) (h0 : 0 ≤ n) (h1 : n < 2 ^ width) :
    Calls Try.prog 21 #[.int .i64 width, .int .i64 n] w fun e w' => ∃ A c, e = .returned (.tuple #[.slice A width c, .int .i64 0]) ∧ Ow Value.bool w' w.heap.size 4 (.slice A width c) (bitsOf width n) ∧ Below w.heap.size w w' := by
  have hd : (n / 2 ^ width != 0) = false := by rw [Int.ediv_eq_zero_of_lt h0 h1]; rfl
  have hn0 : ¬ n < 0 := by omega
  have hlt : n < 9223372036854775808 := Int.lt_trans h1 (Int.lt_of_le_of_lt (pow_le_pow hw) (by decide))
  have H1 := Lib.hid h1; clear h1
  go_enter Try.func21, Try.ntmps21
  go_wp2_with (first
    | (go_at_call 36; refine (isWidth_yes _ _ (by omega) (by omega)).mono ?_; rintro e w' ⟨rfl, rfl⟩)
    | (go_at_call 37; refine (appendBits_any w.heap.size _ [] width n _ (Ow.nil _ _ _ _) (Nat.le_refl _) hw h0 hlt (by simp)).mono ?_; rintro e w' ⟨v', rfl, ho, hm⟩))
  obtain ⟨A, c, hv, _⟩ := ho.form
  simp only [List.nil_append, bitsOf_length] at hv ho
  go_ret2
  subst hv
  exact ⟨A, c, rfl, ho, hm.nil⟩

set_option maxHeartbeats 400000 in
theorem Put_bad (width n : Int) (w : World) (h : ¬ PutOk width n) :
    Calls Try.prog 21 #[.int .i64 width, .int .i64 n] w fun e w' => e = .returned (.tuple #[.slice none 0 0, .int .i64 2]) ∧ w = w' := by
  by_cases hw : 0 ≤ width ∧ width ≤ 62
  · obtain ⟨h0, h1⟩ := hw
    obtain ⟨k, rfl⟩ := Int.eq_ofNat_of_zero_le h0
    by_cases hn : n < 0
    · go_enter Try.func21, Try.ntmps21
      go_wp2_with (go_at_call 36; refine (isWidth_yes _ _ (by omega) (by omega)).mono ?_; rintro e w' ⟨rfl, rfl⟩)
      go_ret2
      exact ⟨rfl, rfl⟩
    · have hd : (n / 2 ^ k != 0) = true := by
        rw [bne_iff_ne]
        intro hz
        apply h
        refine ⟨h0, h1, by omega, ?_⟩
        have hp : (0 : Int) < 2 ^ k := Int.pow_pos (by omega)
        have := Int.lt_mul_ediv_self_add (x := n) hp
        rw [hz] at this
        simpa using this
      clear h
      go_enter Try.func21, Try.ntmps21
      go_wp2_with (go_at_call 36; refine (isWidth_yes _ _ (by omega) (by omega)).mono ?_; rintro e w' ⟨rfl, rfl⟩)
      go_ret2
      exact ⟨rfl, rfl⟩
  · clear h
    go_enter Try.func21, Try.ntmps21
    go_wp2_with (go_at_call 36; refine (isWidth_no _ _ (by omega)).mono ?_; rintro e w' ⟨rfl, rfl⟩)
    go_ret2
    exact ⟨rfl, rfl⟩

theorem Get_ok (A : Option Addr) (n c : Nat) (bs : List Bool) (w : World) (h : Rd w 1 A n (bs.map Value.bool)) (hn : n ≤ 62) :
    Calls Try.prog 24 #[.slice A n c] w fun e w' => e = .returned (.tuple #[.int .i64 (num bs), .int .i64 0]) ∧ w = w' := by
  go_enter Try.func24, Try.ntmps24
  go_wp2_with (first
    | (go_at_call 36; refine (isWidth_yes _ _ (by omega) (by omega)).mono ?_; rintro e w' ⟨rfl, rfl⟩)
    | (go_at_call 38; refine (number_any A n c bs _ h hn).mono ?_; rintro e w' ⟨rfl, rfl⟩))
  go_ret2
  exact ⟨rfl, rfl⟩
theorem Get_bad (A : Option Addr) (n c : Nat) (w : World) (hn : 62 < n) :
    Calls Try.prog 24 #[.slice A n c] w fun e w' => e = .returned (.tuple #[.int .i64 0, .int .i64 2]) ∧ w = w' := by
  go_enter Try.func24, Try.ntmps24
  go_wp2_with (go_at_call 36; refine (isWidth_no _ _ (by omega)).mono ?_; rintro e w' ⟨rfl, rfl⟩)
  go_ret2
  exact ⟨rfl, rfl⟩
end Go.Proofs.Ytolcfifbnmkfaaa
