import Derived.Test.YtaolomdfaioglaaBitWalks4
namespace Go.Proofs.Ytaolomdfaioglaa
open Go.RowKit
set_option linter.unusedVariables false

set_option maxHeartbeats 1000000 in
theorem alive1_any (w : World) : Calls Try.prog 22 #[] w fun e w' => e = .returned (.bool true) ∧ Below w.heap.size w w' := by
  go_enter Try.func22, Try.ntmps22
  go_wp2_with fail
  refine (Put_ok 4 5 _ (by decide) (by decide) (by decide)).mono ?_
  rintro e w1 ⟨A1, c1, rfl, ho1, hb1⟩
  go_wp2_with fail
  refine (Get_ok _ 3 _ [true, true, false] _ (Rd.lit _ _ _) (by decide)).mono ?_
  rintro e w2 ⟨rfl, rfl⟩
  rw [show num [true, true, false] = 6 by decide]
  go_wp2_with fail
  refine (Unpack_any _ _ 2 2 3 3 [1, 2] [true, true, false] _ ((Rd.litAt (Value.int .i64) [1, 2] _ (by first | rfl | simp)).alloc _) (Rd.litAt Value.bool [true, true, false] _ (by first | rfl | simp)) (by decide) (by decide) (by decide)).mono ?_
  rintro e w2 ⟨v2, rfl, ho2, hb2⟩
  have hu1 : (unpackM [1, 2] [true, true, false]).1 = [1, 2] := by decide
  have hu2 : (unpackM [1, 2] [true, true, false]).2 = 0 := by decide
  rw [hu1] at ho2
  rw [hu2]
  clear hu1 hu2
  obtain ⟨A2, c2, rfl, _⟩ := ho2.form
  replace hb2 := below_new (below_new (below_new hb2))
  have hbw := bthen hb1 hb2
  have hr1 := (ho1.below hb2).rd
  have hr2 : Rd w2 1 A2 2 _ := ho2.rd
  rw [show [(1 : Int), 2].length = 2 from rfl]
  clear hb2 ho1 ho2 hb1
  go_wp2_with fail
  refine (EqualB_any _ _ 4 _ 4 4 (bitsOf 4 5) [false, true, false, true] _ (hr1.alloc _) (Rd.litAt Value.bool [false, true, false, true] _ (by first | rfl | simp)) (by decide)).mono ?_
  rintro e w3 ⟨rfl, hq⟩
  rw [show decide (bitsOf 4 5 = [false, true, false, true]) = true by decide]
  have hb3 := below_new (below_draws hq)
  replace hbw := bthen hbw hb3
  replace hr2 := hr2.below hb3
  clear hr1 hb3 hq
  go_wp2_with fail
  refine (EqualI_any _ _ 2 _ 2 2 [1, 2] [1, 2] _ (hr2.alloc _) (Rd.litAt (Value.int .i64) [1, 2] _ (by first | rfl | simp)) (by decide)).mono ?_
  rintro e w4 ⟨rfl, hq⟩
  rw [show decide ([(1 : Int), 2] = [1, 2]) = true by decide]
  replace hbw := bthen hbw (below_new (below_draws hq))
  clear hr2 hq
  go_wp2_with fail
  refine (Bytes_any _ 3 3 [true, false, true] _ (Rd.litAt Value.bool [true, false, true] _ (by first | rfl | simp)) (by decide) (by decide) (by decide)).mono ?_
  intro e w5 hh
  obtain ⟨A5, c5, rfl, ho5, hb5⟩ := Ow.sl hh
  rw [show bytesOf [true, false, true] = [160] by rw [bytesOf_lt _ (by decide) (by decide)]; decide] at ho5 ⊢
  have hcv := run_bytes (n := 1) Try.underlying23 Try.underlying5 Try.underlying9 c5 ho5.rd
  replace hbw := bthen hbw (below_new hb5)
  clear hh hb5 ho5
  rw [show strOfNums [160] = ⟨#[160]⟩ by decide] at hcv
  go_wp2_with fail
  refine (Of_any _ 1 1 [1] _ (Rd.litAt (Value.int .u8) [1] _ (by first | rfl | simp)) (by intro x hx; simp at hx; omega) (by decide)).mono ?_
  intro e w6 hh
  obtain ⟨A6, c6, rfl, ho6, hb6⟩ := Ow.sl hh
  rw [show (ofBytes [1]).length = 8 by decide]
  replace hbw := bthen hbw (below_new hb6)
  clear hh hb6 ho6 hcv
  go_wp2
  go_ret
  exact ⟨rfl, hbw⟩

set_option maxHeartbeats 1000000 in
theorem BitrowBack_walk (a0 a1 : Int) (A2 : Option Addr) (n2 c2 : Nat) (l2 : List Bool) (w : World) (w0 : (Lit.int .i64 a0).wf = true) (w1 : (Lit.int .i64 a1).wf = true) (h2 : Rd w 1 A2 n2 (l2.map Value.bool)) (k2 : n2 ≤ c2) (b2 : c2 ≤ maxLen) :
    Calls Try.prog 5 #[.int .i64 a0, .int .i64 a1, .slice A2 n2 c2] w fun e w' => e = .returned (.bool true) ∧ Below w.heap.size w w' := by
  clear w0 w1
  unfold maxLen at b2
  go_enter Try.func5, Try.ntmps5
  go_wp2_with fail
  refine (alive1_any _).mono ?_
  rintro e wa ⟨rfl, hba⟩
  by_cases hok : PutOk a0 a1
  obtain ⟨hx0, hx1, hy0, hy1⟩ := hok
  obtain ⟨wd, rfl⟩ := Int.eq_ofNat_of_zero_le hx0
  rw [Int.toNat_natCast] at hy1
  have hnum := Lib.hid (num_bitsOf wd a1 hy0 hy1)
  have Hy1 := Lib.hid hy1; clear hy1
  go_wp2_with fail
  refine (Put_ok wd a1 _ (by omega) hy0 Hy1.out).mono ?_
  rintro e w1 ⟨A1, c1, rfl, ho1, hb1⟩
  go_wp2_with fail
  refine (Get_ok A1 wd c1 _ _ ho1.rd (by omega)).mono ?_
  rintro e w2 ⟨rfl, rfl⟩
  rw [hnum.out]
  have hb := bthen hba hb1
  clear ho1 hb1 hba hnum
  go_wp2_with fail
  rotate_left
  have Hok := Lib.hid hok; clear hok
  go_wp2_with fail
  refine (Put_bad a0 a1 _ Hok.out).mono ?_
  rintro e w1 ⟨rfl, rfl⟩
  go_wp2_with fail
  refine (Get_ok none 0 0 [] _ (Rd.nil _ _ _) (by omega)).mono ?_
  rintro e w1 ⟨rfl, rfl⟩
  have hb := hba
  clear hba
  rename World => w1
  go_wp2_with fail
  all_goals
    by_cases hn : n2 ≤ 62
    · have hl := h2.lenMap
      have hp : num l2 < 2 ^ n2 := num_lt_of_le _ _ (by omega)
      have he := bitsOf_num l2
      rw [hl] at he
      have He := Lib.hid he
      have Hp := Lib.hid hp
      clear hl hp he
      refine (Get_ok A2 n2 c2 l2 _ (h2.below hb) hn).mono ?_
      rintro e w2 ⟨rfl, rfl⟩
      go_wp2_with fail
      refine (Put_ok n2 (num l2) _ hn (num_nonneg _) Hp.out).mono ?_
      rintro e w3 ⟨A3, c3, rfl, ho3, hb3⟩
      go_wp2_with fail
      refine (EqualB_any _ _ _ _ _ _ _ l2 _ ho3.rd (h2.below (bthen hb hb3)) (by omega)).mono ?_
      rintro e w4 ⟨rfl, hq⟩
      rw [He.out, show decide (l2 = l2) = true by simp]
      go_wp2
      go_ret
      exact ⟨rfl, bthen (bthen hb hb3) (below_draws hq)⟩
    · refine (Get_bad A2 n2 c2 _ (by omega)).mono ?_
      rintro e w2 ⟨rfl, rfl⟩
      go_wp2_with fail
      by_cases hok : PutOk n2 0
      · refine (Put_ok n2 0 _ (by have := hok.2.1; omega) (by omega) (Int.pow_pos (by omega))).mono ?_
        rintro e w3 ⟨A3, c3, rfl, ho3, hb3⟩
        go_wp2
        go_ret
        exact ⟨rfl, bthen hb hb3⟩
      · refine (Put_bad n2 0 _ hok).mono ?_
        rintro e w3 ⟨rfl, rfl⟩
        go_wp2
        go_ret
        exact ⟨rfl, hb⟩

set_option maxHeartbeats 1000000 in
theorem BitrowOrder_walk (a0 a1 a2 : Int) (w : World) (w0 : (Lit.int .i64 a0).wf = true) (w1 : (Lit.int .i64 a1).wf = true) (w2 : (Lit.int .i64 a2).wf = true) :
    Calls Try.prog 6 #[.int .i64 a0, .int .i64 a1, .int .i64 a2] w fun e w' => e = .returned (.bool true) ∧ Below w.heap.size w w' := by
  clear w0 w1 w2
  go_enter Try.func6, Try.ntmps6
  go_wp2_with fail
  refine (alive1_any _).mono ?_
  rintro e wa ⟨rfl, hba⟩
  go_wp2_with fail
  by_cases hok : PutOk a0 a1
  · by_cases hok2 : PutOk a0 a2
    · obtain ⟨hx0, hx1, hy0, hy1⟩ := hok
      obtain ⟨_, _, hz0, hz1⟩ := hok2
      obtain ⟨wd, rfl⟩ := Int.eq_ofNat_of_zero_le hx0
      rw [Int.toNat_natCast] at hy1 hz1
      have hn1 := Lib.hid (num_bitsOf wd a1 hy0 hy1)
      have hn2 := Lib.hid (num_bitsOf wd a2 hz0 hz1)
      have hl1 := Lib.hid (bitsOf_length wd a1)
      have hl2 := Lib.hid (bitsOf_length wd a2)
      have Hy1 := Lib.hid hy1; clear hy1
      have Hz1 := Lib.hid hz1; clear hz1
      refine (Put_ok wd a1 _ (by omega) hy0 Hy1.out).mono ?_
      rintro e w1 ⟨A1, c1, rfl, ho1, hb1⟩
      go_wp2_with fail
      refine (Put_ok wd a2 _ (by omega) hz0 Hz1.out).mono ?_
      rintro e w2 ⟨A2, c2, rfl, ho2, hb2⟩
      have hr1 := (ho1.below hb2).rd
      have hr2 := ho2.rd
      have hb := bthen (bthen hba hb1) hb2
      clear ho1 ho2 hb1 hb2 hba Hy1 Hz1
      generalize bitsOf wd a1 = x1 at *
      generalize bitsOf wd a2 = x2 at *
      go_wp2
      go_loopw [47] (fun i wr => ∃ k : Nat, k ≤ wd ∧ i = .int .i64 k ∧ x1.take k = x2.take k ∧ ∃ q, wr = w2.drewN q) (fun i _ => wd - (intOf i).toNat)
      case atStart => exact ⟨0, Nat.zero_le _, rfl, rfl, 0, rfl⟩
      case round =>
        obtain ⟨k, hk, rfl, htk, q, rfl⟩ := hrel
        have Htk := Lib.hid htk; clear htk
        by_cases hlt : k < wd
        · obtain ⟨ad, x, rfl, hx, hc⟩ := hr1.atMap hlt
          obtain ⟨ad', x', rfl, hx', hc'⟩ := hr2.atMap hlt
          have Hx := Lib.hid hx; clear hx
          have Hx' := Lib.hid hx'; clear hx'
          by_cases hxx : x = x'
          · subst hxx
            go_wp2
            go_quiet (fail)
            go_wp2
            go_roundw
            case rel => exact ⟨k + 1, by omega, by go_num, by rw [take_snoc Hx.out, take_snoc Hx'.out, Htk.out], _, rfl⟩
            case measure => simp [intOf] <;> omega
          · have hne : (x != x') = true := by simp [hxx]
            have hne2 : (x == x') = false := by simp [hxx]
            have hfin := num_first x1 x2 k x x' (hl1.out.trans hl2.out.symm) Htk.out Hx.out Hx'.out hxx
            rw [hn1.out, hn2.out] at hfin
            clear hxx
            go_wp2
            go_quiet (fail)
            go_wp2
            go_ret
            exact ⟨rfl, bthen hb (below_draws ⟨_, rfl⟩)⟩
        · have hnk : k = wd := by omega
          subst hnk
          have e := Htk.out
          rw [List.take_of_length_le (by rw [hl1.out]; exact Nat.le_refl _), List.take_of_length_le (by rw [hl2.out]; exact Nat.le_refl _)] at e
          have e2 : (a1 == a2) = true := by rw [beq_iff_eq, ← hn1.out, ← hn2.out, e]
          clear e
          go_wp2
          go_ret
          exact ⟨rfl, bthen hb (below_draws ⟨_, rfl⟩)⟩
    · obtain ⟨hx0, hx1, hy0, hy1⟩ := hok
      obtain ⟨wd, rfl⟩ := Int.eq_ofNat_of_zero_le hx0
      rw [Int.toNat_natCast] at hy1
      have Hy1 := Lib.hid hy1; clear hy1
      have Hok := Lib.hid hok2; clear hok2
      refine (Put_ok wd a1 _ (by omega) hy0 Hy1.out).mono ?_
      rintro e w1 ⟨A1, c1, rfl, ho1, hb1⟩
      go_wp2_with fail
      refine (Put_bad wd a2 _ Hok.out).mono ?_
      rintro e w2 ⟨rfl, rfl⟩
      go_wp2
      go_ret
      exact ⟨rfl, bthen hba hb1⟩
  · have Hok := Lib.hid hok; clear hok
    refine (Put_bad a0 a1 _ Hok.out).mono ?_
    rintro e w1 ⟨rfl, rfl⟩
    by_cases hok2 : PutOk a0 a2
    · obtain ⟨hx0, hx1, hy0, hy1⟩ := hok2
      obtain ⟨wd, rfl⟩ := Int.eq_ofNat_of_zero_le hx0
      rw [Int.toNat_natCast] at hy1
      have Hy1 := Lib.hid hy1; clear hy1
      go_wp2_with fail
      refine (Put_ok wd a2 _ (by omega) hy0 Hy1.out).mono ?_
      rintro e w1 ⟨A1, c1, rfl, ho1, hb1⟩
      go_wp2
      go_ret
      exact ⟨rfl, bthen hba hb1⟩
    · have Hok2 := Lib.hid hok2; clear hok2
      go_wp2_with fail
      refine (Put_bad a0 a2 _ Hok2.out).mono ?_
      rintro e w2 ⟨rfl, rfl⟩
      go_wp2
      go_ret
      exact ⟨rfl, hba⟩
end Go.Proofs.Ytaolomdfaioglaa
