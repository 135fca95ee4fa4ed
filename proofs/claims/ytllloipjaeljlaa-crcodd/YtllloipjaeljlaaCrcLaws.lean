/-
  alive3 returns true; the walks of CrcTells, CrcBack, CrcBurst and CrcOdd.
-/
import Derived.Test.YtllloipjaeljlaaCrcRef
import Derived.BigQuiet
import Derived.Deep.QuietTactic
namespace Go.Proofs.Ytllloipjaeljlaa
open Go.RowKit
set_option linter.unusedVariables false

theorem max63 {c : Nat} (h : c ≤ maxLen) : c ≤ 9223372036854775807 := by unfold maxLen at h; omega

set_option maxHeartbeats 1000000 in
theorem alive3_any (w : World) : Calls Try.prog 30 #[] w fun e w' => e = .returned (.bool true) ∧ Below w.heap.size w w' := by
  have hl : (sealM [true, false, true]).length = 18 := by rw [sealM_length]; rfl
  go_enter Try.func30, Try.ntmps30
  go_wp2_with fail
  refine (Seal_any _ 3 3 [true, false, true] _ (Rd.litAt Value.bool _ _ rfl) (by decide)).mono ?_
  rintro e w1 ⟨v1, rfl, ho1, hb1⟩
  obtain ⟨A1, c1, hv, hc1, hm1⟩ := ho1.form
  rw [hl] at hv hc1
  subst hv
  replace hm1 := max63 hm1
  have hr1 := ho1.rd
  have hb := below_new hb1
  clear ho1 hb1 hl
  go_wp2_with fail
  refine (Open_any A1 18 c1 _ _ hr1 hc1 hm1 (by decide)).mono ?_
  rintro e w2 ⟨v2, rfl, ho2, hb2⟩
  rw [open_seal] at ho2 ⊢
  simp only at ho2 ⊢
  obtain ⟨A2, c2, rfl, hc2, _⟩ := ho2.form
  have hr2 : Rd w2 1 A2 3 _ := ho2.rd
  rw [show [true, false, true].length = 3 from rfl]
  replace hb := bthen hb hb2
  clear ho2 hb2 hr1 hc1 hm1 hc2
  go_wp2_with fail
  refine (EqualB_any_same A2 _ 3 c2 3 3 _ _ (hr2.alloc _) (Rd.litAt Value.bool _ _ rfl) (by decide)).mono ?_
  rintro e w3 ⟨rfl, hq⟩
  replace hb := bthen hb (below_new hq)
  clear hq hr2
  go_wp2_with fail
  refine (Sum_any _ 1 1 [true] _ (Rd.litAt Value.bool _ _ rfl) (by decide)).mono ?_
  rintro e w4 ⟨rfl, rfl⟩
  rw [show crcM [true] = 17817 by decide]
  go_wp2_with fail
  refine (Seal_any none 0 0 [] _ (Rd.nil _ _ _) (by decide)).mono ?_
  rintro e w5 ⟨v5, rfl, ho5, hb5⟩
  obtain ⟨A5, c5, hv, _⟩ := ho5.form
  rw [show (sealM []).length = 15 by rw [sealM_length]; rfl] at hv
  subst hv
  replace hb := bthen hb (below_new hb5)
  clear ho5 hb5
  go_wp2
  go_ret
  exact ⟨rfl, hb⟩

set_option maxHeartbeats 1000000 in
theorem CrcTells_walk (A0 : Option Addr) (n0 c0 : Nat) (l0 : List Bool) (w : World) (h0 : Rd w 1 A0 n0 (l0.map Value.bool)) (k0 : n0 ≤ c0) (b0 : c0 * 1 ≤ 140737488351232) :
    Calls Try.prog 8 #[.slice A0 n0 c0] w fun e w' => e = .returned (.bool true) ∧ Below w.heap.size w w' := by
  have Hl := Lib.hid h0.lenMap
  have hol := openM_length l0
  have hsl := sealM_length l0
  rw [Hl.out] at hol hsl
  have hlt := crcM_lt l0
  go_enter Try.func8, Try.ntmps8
  go_wp2_with fail
  refine (Open_any A0 n0 c0 l0 _ h0 k0 (by omega) (by omega)).mono ?_
  rintro e w1 ⟨v1, rfl, ho1, hb1⟩
  obtain ⟨A1, c1, rfl, _⟩ := ho1.form
  go_wp2_with fail
  refine (COpen_any A0 n0 c0 l0 _ (h0.below hb1) k0 (by omega) (by omega)).mono ?_
  rintro e w2 ⟨A2, c2, rfl, hr2, hb2, _, _⟩
  have hr1 := ho1.rd.below hb2
  have hb := bthen hb1 hb2
  clear ho1 hb1 hb2
  generalize (openM l0).1 = u at *
  generalize (openM l0).2 = er at *
  go_wp2_with fail
  refine (CSum_any A0 n0 c0 l0 _ (h0.below hb) (by omega)).mono ?_
  rintro e w3 ⟨rfl, hb3⟩
  replace hb := bthen hb hb3
  replace hr1 := hr1.below hb3
  replace hr2 := hr2.below hb3
  clear hb3
  go_wp2_with fail
  refine (APut_ok 15 _ _ (by decide) (by omega) (by simp; omega)).mono ?_
  rintro e w4 ⟨A4, c4, rfl, ho4, hb4⟩
  replace hb := bthen hb hb4
  replace hr1 := hr1.below hb4
  replace hr2 := hr2.below hb4
  have hr4 := ho4.rd
  clear hb4 ho4
  go_wp2_with fail
  refine (Sum_any A0 n0 c0 l0 _ (h0.below hb) (by omega)).mono ?_
  rintro e w5 ⟨rfl, rfl⟩
  go_wp2_with fail
  refine (CSum_any A0 n0 c0 l0 _ (h0.below hb) (by omega)).mono ?_
  rintro e w5 ⟨rfl, hb5⟩
  replace hb := bthen hb hb5
  replace hr1 := hr1.below hb5
  replace hr2 := hr2.below hb5
  replace hr4 := hr4.below hb5
  clear hb5
  go_wp2_with fail
  refine (Seal_any A0 n0 c0 l0 _ (h0.below hb) (by omega)).mono ?_
  rintro e w6 ⟨v6, rfl, ho6, hb6⟩
  obtain ⟨A6, c6, hv, _⟩ := ho6.form
  rw [hsl] at hv
  subst hv
  replace hb := bthen hb hb6
  replace hr1 := hr1.below hb6
  replace hr2 := hr2.below hb6
  replace hr4 := hr4.below hb6
  have hr6 := ho6.rd
  clear hb6 ho6
  go_wp2_with fail
  refine (ConcatB_any _ 2 2 [(A0, n0, c0, l0), (A4, 15, c4, bitsOf 15 (crcM l0))] _ (Rd.litAt ConcatB_any_val _ _ rfl) ?_ (by decide) ?_).mono ?_
  · intro p hp
    simp at hp
    rcases hp with rfl | rfl
    · exact (h0.below hb).alloc _
    · exact hr4.alloc _
  · have := Hl.out; simp [bitsOf_length]; omega
  rintro e w7 ⟨v7, rfl, ho7, hb7⟩
  replace hb7 := below_new hb7
  rw [show [(A0, n0, c0, l0), (A4, 15, c4, bitsOf 15 (crcM l0))].flatMap (·.2.2.2) = sealM l0 by simp [sealM]] at ho7
  obtain ⟨A7, c7, hv, _⟩ := ho7.form
  rw [hsl] at hv
  subst hv
  replace hb := bthen hb hb7
  replace hr1 := hr1.below hb7
  replace hr2 := hr2.below hb7
  replace hr6 := hr6.below hb7
  have hr7 := ho7.rd
  clear hb7 ho7 hr4
  go_wp2_with fail
  refine (EqualB_any_same A6 A7 _ c6 _ c7 _ _ hr6 hr7 (by omega)).mono ?_
  rintro e w8 ⟨rfl, hq⟩
  replace hb := bthen hb hq
  replace hr1 := hr1.below hq
  replace hr2 := hr2.below hq
  clear hr6 hr7 hq
  go_wp2_with fail
  refine (EqualB_any_same A1 A2 _ c1 _ c2 u _ hr1 hr2 (by omega)).mono ?_
  rintro e w9 ⟨rfl, hq⟩
  replace hb := bthen hb hq
  go_wp2
  go_ret
  exact ⟨ret_bool (by simp), hb⟩

set_option maxHeartbeats 1000000 in
theorem CrcBack_walk (A0 : Option Addr) (n0 c0 : Nat) (l0 : List Bool) (w : World) (h0 : Rd w 1 A0 n0 (l0.map Value.bool)) (k0 : n0 ≤ c0) (b0 : c0 * 1 ≤ 140737488351232) :
    Calls Try.prog 9 #[.slice A0 n0 c0] w fun e w' => e = .returned (.bool true) ∧ Below w.heap.size w w' := by
  have Hl := Lib.hid h0.lenMap
  have hol := openM_length l0
  have hsl := sealM_length l0
  rw [Hl.out] at hol hsl
  go_enter Try.func9, Try.ntmps9
  go_wp2_with fail
  refine (alive3_any _).mono ?_
  rintro e wa ⟨rfl, hb⟩
  go_wp2_with fail
  refine (Seal_any A0 n0 c0 l0 _ (h0.below hb) (by omega)).mono ?_
  rintro e w1 ⟨v1, rfl, ho1, hb1⟩
  obtain ⟨A1, c1, hv, hc1, hm1⟩ := ho1.form
  rw [hsl] at hv hc1
  subst hv
  replace hb := bthen hb hb1
  go_wp2_with fail
  refine (Open_any A1 _ c1 (sealM l0) _ ho1.rd hc1 (max63 hm1) (by omega)).mono ?_
  rintro e w2 ⟨v2, rfl, ho2, hb2⟩
  rw [open_seal] at ho2 ⊢
  simp only at ho2 ⊢
  obtain ⟨A2, c2, rfl, hc2, _⟩ := ho2.form
  replace hb := bthen hb hb2
  have hr2 := ho2.rd
  rw [Hl.out] at hr2 ⊢
  clear ho1 ho2 hb1 hb2 hc1 hc2 hm1
  go_wp2_with fail
  refine (Open_any A0 n0 c0 l0 _ (h0.below hb) k0 (by omega) (by omega)).mono ?_
  rintro e w3 ⟨v3, rfl, ho3, hb3⟩
  obtain ⟨A3, c3, rfl, hc3, _⟩ := ho3.form
  replace hb := bthen hb hb3
  replace hr2 := hr2.below hb3
  have hr3 := ho3.rd
  clear ho3 hb3 hc3
  have hE := EqualB_any_same A2 A0 n0 c2 n0 c0 l0 w3 hr2 (h0.below hb) (by omega)
  by_cases he : (openM l0).2 = 0
  · obtain ⟨u, hu⟩ : ∃ u, openM l0 = (u, 0) := ⟨_, Prod.ext rfl he⟩
    have hst := seal_open l0 u hu
    rw [hu] at hr3 hol ⊢
    simp only at hr3 hol ⊢
    have Hst := Lib.hid hst
    clear he hu hst
    go_wp2_with fail
    refine hE.mono ?_
    rintro e w4 ⟨rfl, hq⟩
    replace hb := bthen hb hq
    replace hr3 := hr3.below hq
    clear hq hE
    go_wp2_with fail
    refine (Seal_any A3 _ c3 u _ hr3 (by omega)).mono ?_
    rintro e w5 ⟨v5, rfl, ho5, hb5⟩
    rw [Hst.out] at ho5
    obtain ⟨A5, c5, rfl, hc5, _⟩ := ho5.form
    have hr5 := ho5.rd
    rw [Hl.out] at hr5 ⊢
    replace hb := bthen hb hb5
    clear ho5 hb5 hc5
    go_wp2_with fail
    refine (EqualB_any_same A5 A0 n0 c5 n0 c0 l0 _ hr5 (h0.below hb) (by omega)).mono ?_
    rintro e w6 ⟨rfl, hq⟩
    replace hb := bthen hb hq
    go_wp2
    go_ret
    exact ⟨rfl, hb⟩
  · have hn := openM_err l0 he
    rw [hn] at hr3 hol ⊢
    have he' : ((openM l0).2 != 0) = true := by simp [he]
    generalize (openM l0).2 = er at *
    rw [List.length_nil] at hr3 ⊢
    clear he hn
    go_wp2_with fail
    refine hE.mono ?_
    rintro e w4 ⟨rfl, hq⟩
    replace hb := bthen hb hq
    clear hE hq
    go_wp2
    go_ret
    exact ⟨rfl, hb⟩
end Go.Proofs.Ytllloipjaeljlaa
