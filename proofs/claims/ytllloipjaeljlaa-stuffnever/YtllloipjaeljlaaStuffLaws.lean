/-
  alive2 returns true; the walks of chapter 2's laws.
-/
import Derived.Test.YtllloipjaeljlaaStuffRef
import Derived.Test.YtllloipjaeljlaaStuffMath2
import Derived.Deep.RegionWith
namespace Go.Proofs.Ytllloipjaeljlaa
open Go.RowKit
set_option linter.unusedVariables false

set_option maxHeartbeats 1000000 in
theorem alive2_any (w : World) : Calls Try.prog 20 #[] w fun e w' => e = .returned (.bool true) ∧ Below w.heap.size w w' := by
  have hm6 : ∀ W : World, (Instr.makeSlice 22 (.int .i64 6) (.int .i64 6)).run Try.prog W = .ok (.slice (some ⟨W.heap.size, 0, none⟩) 6 6) (W.alloc (.cells #[.bool false, .bool false, .bool false, .bool false, .bool false, .bool false] 4)) := fun _ => by kernel_rfl
  have hm5 : ∀ W : World, (Instr.makeSlice 22 (.int .i64 5) (.int .i64 5)).run Try.prog W = .ok (.slice (some ⟨W.heap.size, 0, none⟩) 5 5) (W.alloc (.cells #[.bool false, .bool false, .bool false, .bool false, .bool false] 4)) := fun _ => by kernel_rfl
  go_enter Try.func20, Try.ntmps20
  go_wp2_with fail
  have hr0 : Rd (w.alloc (.cells _ 4)) 1 (some ⟨w.heap.size, 0, none⟩) 9 _ := Rd.litAt Value.bool [true, true, true, true, true, false, false, false, false] 4 rfl
  refine (Stuff_any _ 9 9 _ _ hr0 (by decide)).mono ?_
  rintro e w1 ⟨v1, rfl, ho1, hb1⟩
  rw [show stuffM [true, true, true, true, true, false, false, false, false] = [true, true, true, true, true, false, false, false, false, false, true] by decide] at ho1
  obtain ⟨A1, c1, rfl, hc1, _⟩ := ho1.form
  replace hr0 := hr0.below hb1
  replace hb1 := below_new hb1
  have hr1 : Rd w1 1 A1 11 _ := ho1.rd
  rw [show [true, true, true, true, true, false, false, false, false, false, true].length = 11 from rfl]
  clear ho1
  go_wp2_with fail
  refine (Unstuff_any A1 11 c1 _ _ hr1 (by decide)).mono ?_
  rintro e w2 ⟨v2, rfl, ho2, hb2⟩
  have hu : unstuffM [true, true, true, true, true, false, false, false, false, false, true] = ([true, true, true, true, true, false, false, false, false], 0) := by decide
  rw [hu] at ho2 ⊢
  simp only at ho2 ⊢
  obtain ⟨A2, c2, rfl, hc2, _⟩ := ho2.form
  replace hr0 := hr0.below hb2
  replace hr1 := hr1.below hb2
  replace hb1 := bthen hb1 hb2
  have hr2 : Rd w2 1 A2 9 _ := ho2.rd
  rw [show [true, true, true, true, true, false, false, false, false].length = 9 from rfl]
  clear ho2 hu hb2
  go_wp2_with fail
  refine (Unstuff_any _ 6 6 [false, false, false, false, false, false] _ (Rd.litAt Value.bool _ _ rfl) (by decide)).mono ?_
  rintro e w3 ⟨v3, rfl, ho3, hb3⟩
  rw [show unstuffM [false, false, false, false, false, false] = ([], 1) by decide] at ho3 ⊢
  simp only at ho3 ⊢
  obtain ⟨A3, c3, rfl, hc3, _⟩ := ho3.form
  replace hb3 := below_new hb3
  replace hr0 := hr0.below hb3
  replace hr1 := hr1.below hb3
  replace hr2 := hr2.below hb3
  replace hb1 := bthen hb1 hb3
  clear ho3 hb3 hm6
  go_wp2_with fail
  refine (Unstuff_any _ 5 5 [false, false, false, false, false] _ (Rd.litAt Value.bool _ _ rfl) (by decide)).mono ?_
  rintro e w4 ⟨v4, rfl, ho4, hb4⟩
  rw [show unstuffM [false, false, false, false, false] = ([], 8) by decide] at ho4 ⊢
  simp only at ho4 ⊢
  obtain ⟨A4, c4, rfl, hc4, _⟩ := ho4.form
  replace hb4 := below_new hb4
  replace hr0 := hr0.below hb4
  replace hr1 := hr1.below hb4
  replace hr2 := hr2.below hb4
  replace hb1 := bthen hb1 hb4
  clear ho4 hb4 hm5
  go_wp2_with fail
  refine (EqualB_any A1 _ 11 c1 11 11 _ [true, true, true, true, true, false, false, false, false, false, true] _ (hr1.alloc _) (Rd.litAt Value.bool _ _ rfl) (by decide)).mono ?_
  rintro e w5 ⟨rfl, hq⟩
  rw [show decide ([true, true, true, true, true, false, false, false, false, false, true] = [true, true, true, true, true, false, false, false, false, false, true]) = true by decide]
  have hb5 := below_new (below_draws hq)
  replace hr0 := hr0.below hb5
  replace hr2 := hr2.below hb5
  replace hb1 := bthen hb1 hb5
  clear hq hb5 hr1
  go_wp2_with fail
  refine (EqualB_any A2 _ 9 c2 9 9 _ _ _ hr2 hr0 (by decide)).mono ?_
  rintro e w6 ⟨rfl, hq⟩
  rw [show decide ([true, true, true, true, true, false, false, false, false] = [true, true, true, true, true, false, false, false, false]) = true by decide]
  replace hr0 := hr0.below (below_draws hq)
  replace hb1 := bthen hb1 (below_draws hq)
  clear hq hr2
  go_wp2_with fail
  refine (Longest_any _ 9 9 _ _ hr0 (by decide)).mono ?_
  rintro e w7 ⟨rfl, hb7⟩
  rw [show longM [true, true, true, true, true, false, false, false, false] = 5 by decide]
  replace hb1 := bthen hb1 hb7
  go_wp2
  go_ret
  exact ⟨rfl, hb1⟩

set_option maxHeartbeats 1000000 in
theorem StuffTells_walk (A0 : Option Addr) (n0 c0 : Nat) (l0 : List Bool) (w : World) (h0 : Rd w 1 A0 n0 (l0.map Value.bool)) (k0 : n0 ≤ c0) (b0 : c0 * 1 ≤ 140737488351232) :
    Calls Try.prog 3 #[.slice A0 n0 c0] w fun e w' => e = .returned (.bool true) ∧ Below w.heap.size w w' := by
  have Hl := Lib.hid h0.lenMap
  have hul := unstuffM_len l0
  rw [Hl.out] at hul
  have hsl := stuffM_len4 l0
  rw [Hl.out] at hsl
  go_enter Try.func3, Try.ntmps3
  go_wp2_with fail
  refine (Unstuff_any A0 n0 c0 l0 _ h0 (by omega)).mono ?_
  rintro e w1 ⟨v1, rfl, ho1, hb1⟩
  obtain ⟨A1, c1, rfl, hc1, _⟩ := ho1.form
  go_wp2_with fail
  refine (BUnstuff_any A0 n0 c0 l0 _ (h0.below hb1) k0 (by omega) (by omega)).mono ?_
  rintro e w2 ⟨v2, rfl, ho2, hb2⟩
  obtain ⟨A2, c2, rfl, hc2, _⟩ := ho2.form
  have hr1 := (ho1.below hb2).rd
  have hr2 := ho2.rd
  have hb := bthen hb1 hb2
  clear ho1 ho2 hb1 hb2
  generalize (unstuffM l0).1 = u at *
  generalize (unstuffM l0).2 = er at *
  go_wp2
  go_loopw [7, 21] (fun t i wr => ∃ (k m : Nat), k ≤ n0 ∧ i = .int .i64 k ∧ t = .int .i64 m ∧ m ≤ k ∧ longFrom (runOf (l0.take k)) m (l0.drop k) = longM l0 ∧ Below w2.heap.size w2 wr) (fun _ i _ => n0 - (intOf i).toNat)
  case atStart => exact ⟨0, 0, Nat.zero_le _, rfl, rfl, Nat.le_refl _, rfl, Below.refl _ _⟩
  case round =>
    obtain ⟨k, m, hk, rfl, rfl, hmk, hacc, hb3⟩ := hrel
    have Hacc := Lib.hid hacc; clear hacc
    by_cases hlt : k < n0
    · obtain ⟨ad, x, rfl, hx, hc⟩ := h0.atMap hlt
      have Hx := Lib.hid (drop_cons hx)
      have Hr : Hid (runOf (l0.take (k + 1)) = addRun (runOf (l0.take k)) x) := by show _ = _; rw [take_snoc hx, runOf_snoc]
      have htk := ((h0.below hb).below hb3).take (k := k + 1) (by omega)
      rw [Nat.mul_one, ← List.map_take] at htk
      have hrl := runOf_le (l0.take (k + 1))
      simp only [List.length_take] at hrl
      clear hx
      go_wp2_with fail
      refine (BLast_any (some ad) (k + 1) c0 (l0.take (k + 1)) _ htk (by omega)).mono ?_
      rintro e w4 ⟨rfl, hq⟩
      have hb4 := bthen hb3 (below_draws hq)
      clear hq
      go_wp2
      go_roundw
      case rel => exact ⟨k + 1, max m (runOf (l0.take (k + 1))).2, by omega, by go_num, int_eq (by split <;> omega), by omega, by rw [← Hacc.out, Hx.out, longFrom, Hr.out], hb4⟩
      case measure => simp [intOf] <;> omega
    · have hnk : k = n0 := by omega
      subst hnk
      have Hm : Hid (m = longM l0) := by
        have e := Hacc.out
        rw [List.drop_eq_nil_of_le (by rw [Hl.out]; exact Nat.le_refl _)] at e
        exact e
      clear hc1 hc2
      replace hb := bthen hb hb3
      go_wp2_with fail
      refine (EqualB_any_same A1 A2 _ c1 _ c2 u _ (hr1.below hb3) (hr2.below hb3) (by omega)).mono ?_
      rintro e w5 ⟨rfl, hq⟩
      replace hb := bthen hb hq
      clear hr1 hr2 hq hb3
      go_wp2_with fail
      refine (Stuff_any A0 k c0 l0 _ (h0.below hb) (by omega)).mono ?_
      rintro e w6 ⟨v6, rfl, ho6, hb6⟩
      obtain ⟨A6, c6, rfl, hc6, _⟩ := ho6.form
      replace hb := bthen hb hb6
      go_wp2_with fail
      refine (BStuff_any A0 k c0 l0 _ (h0.below hb) (by omega)).mono ?_
      rintro e w7 ⟨v7, rfl, ho7, hb7⟩
      obtain ⟨A7, c7, rfl, hc7, _⟩ := ho7.form
      replace hb := bthen hb hb7
      have hr6 := (ho6.below hb7).rd
      have hr7 := ho7.rd
      clear ho6 ho7 hb6 hb7
      generalize stuffM l0 = s at *
      go_wp2_with fail
      refine (EqualB_any_same A6 A7 _ c6 _ c7 s _ hr6 hr7 (by omega)).mono ?_
      rintro e w8 ⟨rfl, hq⟩
      replace hb := bthen hb hq
      clear hr6 hr7 hq
      go_wp2_with fail
      refine (Longest_any A0 k c0 l0 _ (h0.below hb) (by omega)).mono ?_
      rintro e w9 ⟨rfl, hb9⟩
      replace hb := bthen hb hb9
      rw [← Hm.out]
      go_wp2
      go_ret
      exact ⟨ret_bool (by simp), hb⟩

set_option maxHeartbeats 1000000 in
theorem StuffBack_walk (A0 : Option Addr) (n0 c0 : Nat) (l0 : List Bool) (w : World) (h0 : Rd w 1 A0 n0 (l0.map Value.bool)) (k0 : n0 ≤ c0) (b0 : c0 * 1 ≤ 140737488351232) :
    Calls Try.prog 4 #[.slice A0 n0 c0] w fun e w' => e = .returned (.bool true) ∧ Below w.heap.size w w' := by
  have Hl := Lib.hid h0.lenMap
  have hul := unstuffM_len l0
  rw [Hl.out] at hul
  have hsl := stuffM_len4 l0
  rw [Hl.out] at hsl
  go_enter Try.func4, Try.ntmps4
  go_wp2_with fail
  refine (alive2_any _).mono ?_
  rintro e wa ⟨rfl, hb⟩
  go_wp2_with fail
  refine (Stuff_any A0 n0 c0 l0 _ (h0.below hb) (by omega)).mono ?_
  rintro e w1 ⟨v1, rfl, ho1, hb1⟩
  obtain ⟨A1, c1, rfl, hc1, _⟩ := ho1.form
  replace hb := bthen hb hb1
  go_wp2_with fail
  refine (Unstuff_any A1 _ c1 (stuffM l0) _ ho1.rd (by omega)).mono ?_
  rintro e w2 ⟨v2, rfl, ho2, hb2⟩
  rw [unstuff_stuff] at ho2 ⊢
  simp only at ho2 ⊢
  obtain ⟨A2, c2, rfl, hc2, _⟩ := ho2.form
  replace hb := bthen hb hb2
  have hr2 := ho2.rd
  rw [Hl.out] at hr2 ⊢
  clear ho1 ho2 hb1 hb2 hc1 hc2
  go_wp2_with fail
  refine (Unstuff_any A0 n0 c0 l0 _ (h0.below hb) (by omega)).mono ?_
  rintro e w3 ⟨v3, rfl, ho3, hb3⟩
  obtain ⟨A3, c3, rfl, hc3, _⟩ := ho3.form
  replace hb := bthen hb hb3
  replace hr2 := hr2.below hb3
  have hr3 := ho3.rd
  clear ho3 hb3 hc3
  have hE := EqualB_any_same A2 A0 n0 c2 n0 c0 l0 w3 hr2 (h0.below hb) (by omega)
  by_cases he : (unstuffM l0).2 = 0
  · obtain ⟨u, hu⟩ : ∃ u, unstuffM l0 = (u, 0) := ⟨_, Prod.ext rfl he⟩
    have hst := stuff_unstuff l0 u hu
    rw [hu] at hr3 hul ⊢
    simp only at hr3 hul ⊢
    have Hst := Lib.hid hst
    clear he hu hst
    go_wp2_with fail
    refine hE.mono ?_
    rintro e w4 ⟨rfl, hq⟩
    replace hb := bthen hb hq
    replace hr3 := hr3.below hq
    clear hq hE
    go_wp2_with fail
    refine (Stuff_any A3 _ c3 u _ hr3 (by omega)).mono ?_
    rintro e w5 ⟨v5, rfl, ho5, hb5⟩
    rw [Hst.out] at ho5
    obtain ⟨A5, c5, rfl, hc5, _⟩ := ho5.form
    have hr5 := ho5.rd
    rw [Hl.out] at hr5 ⊢
    replace hb := bthen hb hb5
    clear ho5 hb5 hc5
    go_wp2_with fail
    refine (EqualB_any_same A5 A0 n0 c5 n0 c0 l0 _ hr5 (h0.below hb) (by omega)).mono ?_
    rintro e w6 ⟨rfl, hq⟩
    replace hb := bthen hb hq
    go_wp2
    go_ret
    exact ⟨rfl, hb⟩
  · have hn := unstuffM_err l0 he
    rw [hn] at hr3 hul ⊢
    have he' : ((unstuffM l0).2 != 0) = true := by simp [he]
    generalize (unstuffM l0).2 = er at *
    rw [List.length_nil] at hr3 ⊢
    clear he hn
    go_wp2_with fail
    refine hE.mono ?_
    rintro e w4 ⟨rfl, hq⟩
    replace hb := bthen hb hq
    clear hE hq
    go_wp2
    go_ret
    exact ⟨rfl, hb⟩

set_option maxHeartbeats 1000000 in
theorem StuffNever_walk (A0 : Option Addr) (n0 c0 : Nat) (l0 : List Bool) (w : World) (h0 : Rd w 1 A0 n0 (l0.map Value.bool)) (k0 : n0 ≤ c0) (b0 : c0 * 1 ≤ 140737488351232) :
    Calls Try.prog 5 #[.slice A0 n0 c0] w fun e w' => e = .returned (.bool true) ∧ Below w.heap.size w w' := by
  have Hl := Lib.hid h0.lenMap
  have hsl := stuff_grows l0
  rw [Hl.out] at hsl
  have hsix := never_six l0
  go_enter Try.func5, Try.ntmps5
  go_wp2_with fail
  refine (alive2_any _).mono ?_
  rintro e wa ⟨rfl, hb⟩
  go_wp2_with fail
  refine (Stuff_any A0 n0 c0 l0 _ (h0.below hb) (by omega)).mono ?_
  rintro e w1 ⟨v1, rfl, ho1, hb1⟩
  obtain ⟨A1, c1, rfl, hc1, _⟩ := ho1.form
  have hr1 := ho1.rd
  replace hb := bthen hb hb1
  clear ho1 hb1 hc1
  go_wp2_with fail
  refine (Longest_any A1 _ c1 (stuffM l0) _ hr1 (by omega)).mono ?_
  rintro e w2 ⟨rfl, hb2⟩
  replace hb := bthen hb hb2
  clear hb2 hr1
  generalize longM (stuffM l0) = lg at *
  generalize (stuffM l0).length = sn at *
  have h1 : decide ((lg : Int) ≤ 5) = true := by simp; omega
  obtain ⟨h2, h3⟩ := hsl
  go_wp2
  all_goals
    go_ret
    exact ⟨ret_bool (by simp; omega), hb⟩

set_option maxHeartbeats 1000000 in
theorem StuffAhead_walk (A0 : Option Addr) (n0 c0 : Nat) (l0 : List Bool) (a1 : Int) (w : World) (h0 : Rd w 1 A0 n0 (l0.map Value.bool)) (k0 : n0 ≤ c0) (b0 : c0 * 1 ≤ 140737488351232) (w1 : (Lit.int .i64 a1).wf = true) :
    Calls Try.prog 7 #[.slice A0 n0 c0, .int .i64 a1] w fun e w' => e = .returned (.bool true) ∧ Below w.heap.size w w' := by
  have Hl := Lib.hid h0.lenMap
  have hsl := stuffM_len4 l0
  rw [Hl.out] at hsl
  clear w1
  go_enter Try.func7, Try.ntmps7
  go_wp2_with fail
  refine (alive2_any _).mono ?_
  rintro e wa ⟨rfl, hb⟩
  by_cases hneg : a1 < 0
  · go_wp2
    go_ret
    exact ⟨rfl, hb⟩
  · obtain ⟨k, rfl⟩ := Int.eq_ofNat_of_zero_le (show 0 ≤ a1 by omega)
    have hneg' : decide ((k : Int) < 0) = false := by simp
    clear hneg
    by_cases hgt : n0 < k
    · have hgt' : (n0 : Int) < (k : Int) := by omega
      go_wp2
      go_ret
      exact ⟨rfl, hb⟩
    · have hgt' : decide ((n0 : Int) < (k : Int)) = false := by simp; omega
      obtain ⟨hle, htk⟩ := stuff_ahead l0 k
      have hk : k ≤ n0 := by omega
      have hk0 : (k : Int) ≤ (n0 : Int) := by omega
      clear hgt
      have hrk := h0.take (k := k) hk
      rw [Nat.mul_one, ← List.map_take] at hrk
      go_wp2_with fail
      go_region_with (first
        | (go_at_call_of 17 (Value.slice A0 n0 c0); refine (Stuff_any _ _ _ l0 _ ?_ ?_).mono ?_; exact h0.below hb.drew; omega; intro e w2 hh; obtain ⟨A2, c2, rfl, ho2, hb2⟩ := Ow.sl hh; clear hh; have hb2' := bthen hb.drew hb2)
        | (go_at_call 17; refine (Stuff_any _ _ _ (l0.take k) _ ?_ ?_).mono ?_; exact hrk.below hb2'; omega; intro e w3 hh; obtain ⟨A3, c3, rfl, ho3, hb3⟩ := Ow.sl hh; clear hh; have hb3' := bthen hb2' hb3))
      all_goals
        have hr2 := ho2.rd.below hb3
        have hr3 := ho3.rd
        have hcc := ho2.len.2.1
        have hcm : c2 ≤ 9223372036854775807 := by have := ho2.len.2.2; unfold maxLen at this; omega
        have htk2 := hr2.take (k := (stuffM (l0.take k)).length) hle
        rw [Nat.mul_one, ← List.map_take, htk] at htk2
        clear ho2 ho3 htk hr2 hb2 hb3 hb2'
        generalize stuffM (l0.take k) = y at *
        generalize (stuffM l0).length = xn at *
        have hle' : (y.length : Int) ≤ (xn : Int) := by omega
        go_wp2_with fail
        refine (EqualB_any_same A2 A3 y.length c2 y.length c3 y _ htk2 hr3 (by omega)).mono ?_
        rintro e w4 ⟨rfl, hq⟩
        have hb4 := bthen hb3' hq
        go_wp2
        go_ret
        exact ⟨rfl, hb4⟩

set_option maxHeartbeats 400000 in
theorem turn_any (A : Option Addr) (n c : Nat) (l : List Bool) (w : World) (h : Rd w 1 A n (l.map Value.bool)) (hn : n ≤ 175921860444160) :
    Calls Try.prog 21 #[.slice A n c] w fun e w' => ∃ v, e = .returned v ∧ Ow Value.bool w' w.heap.size 4 v (l.map (!·)) ∧ Below w.heap.size w w' := by
  have Hl := Lib.hid h.lenMap
  go_enter Try.func21, Try.ntmps21
  go_wp2_with fail
  refine (Clone_any A n c l _ h hn).mono ?_
  rintro e w1 ⟨v1, rfl, ho1, hb1⟩
  rcases Nat.eq_zero_or_pos n with hz | hz
  · subst hz
    obtain rfl : l = [] := List.eq_nil_of_length_eq_zero Hl.out
    obtain ⟨A1, c1, hv, _⟩ := ho1.form
    rw [List.length_nil] at hv
    subst hv
    go_wp2
    go_loopw [9] (fun i wr => i = .int .i64 0 ∧ wr = w1) (fun _ _ => 0)
    case atStart => exact ⟨rfl, rfl⟩
    case round =>
      obtain ⟨rfl, rfl⟩ := hrel
      go_wp2
      go_ret
      exact ⟨_, rfl, ho1, hb1⟩
  · obtain ⟨g, c1, hv, hg, hc1, hcm⟩ := ho1.head (by rw [Hl.out]; exact hz)
    rw [Hl.out] at hv hc1
    subst hv
    go_wp2
    go_loopw [9] (fun i wr => ∃ k : Nat, k ≤ n ∧ i = .int .i64 k ∧ Ow Value.bool wr w.heap.size 4 (.slice (some ⟨g, 0, none⟩) n c1) ((l.take k).map (!·) ++ l.drop k) ∧ Below w.heap.size w wr) (fun i _ => n - (intOf i).toNat)
    case atStart => exact ⟨0, Nat.zero_le _, rfl, by simpa using ho1, hb1⟩
    case round =>
      obtain ⟨k, hk, rfl, ho, hbl⟩ := hrel
      by_cases hlt : k < n
      · have hx : l[k]? = some (l[k]'(by rw [Hl.out]; exact hlt)) := List.getElem?_eq_getElem _
        have Hs := Lib.hid (set_take_drop hx (!·))
        have hat : ((l.take k).map (!·) ++ l.drop k)[k]? = some (l[k]'(by rw [Hl.out]; exact hlt)) := at_take_drop hx _
        generalize l[k]'(by rw [Hl.out]; exact hlt) = x at *
        have hc := ho.cellAt hat
        have hf := ho.freeAt k
        have hp := ho.put k (!x)
        have hbp := hbl.setCell (p := ⟨g, k, none⟩) hg (.bool (!x))
        clear hat hx
        go_wp2
        go_roundw
        case rel => exact ⟨k + 1, by omega, by go_num, by rw [← Hs.out]; exact hp, hbp⟩
        case measure => simp [intOf] <;> omega
      · have hnk : k = n := by omega
        subst hnk
        go_wp2
        go_ret
        refine ⟨_, rfl, ?_, hbl⟩
        rw [List.take_of_length_le (by rw [Hl.out]; exact Nat.le_refl _), List.drop_eq_nil_of_le (by rw [Hl.out]; exact Nat.le_refl _), List.append_nil] at ho
        exact ho

set_option maxHeartbeats 1000000 in
theorem StuffTurned_walk (A0 : Option Addr) (n0 c0 : Nat) (l0 : List Bool) (w : World) (h0 : Rd w 1 A0 n0 (l0.map Value.bool)) (k0 : n0 ≤ c0) (b0 : c0 * 1 ≤ 140737488351232) :
    Calls Try.prog 6 #[.slice A0 n0 c0] w fun e w' => e = .returned (.bool true) ∧ Below w.heap.size w w' := by
  have Hl := Lib.hid h0.lenMap
  have hul := unstuffM_len l0
  rw [Hl.out] at hul
  have hsl := stuffM_len4 l0
  rw [Hl.out] at hsl
  have Hs := Lib.hid (stuff_turned l0)
  have Hu := Lib.hid (unstuff_turned l0)
  go_enter Try.func6, Try.ntmps6
  go_wp2_with fail
  refine (alive2_any _).mono ?_
  rintro e wa ⟨rfl, hb⟩
  go_wp2_with fail
  refine (Unstuff_any A0 n0 c0 l0 _ (h0.below hb) (by omega)).mono ?_
  rintro e w1 ⟨v1, rfl, ho1, hb1⟩
  obtain ⟨A1, c1, rfl, hc1, _⟩ := ho1.form
  have hr1 := ho1.rd
  replace hb := bthen hb hb1
  clear ho1 hb1 hc1
  go_wp2_with fail
  refine (turn_any A0 n0 c0 l0 _ (h0.below hb) (by omega)).mono ?_
  rintro e w2 ⟨v2, rfl, ho2, hb2⟩
  obtain ⟨A2, c2, hv, _⟩ := ho2.form
  rw [List.length_map, Hl.out] at hv
  subst hv
  replace hb := bthen hb hb2
  replace hr1 := hr1.below hb2
  go_wp2_with fail
  refine (Unstuff_any A2 n0 c2 (l0.map (!·)) _ ho2.rd (by omega)).mono ?_
  rintro e w3 ⟨v3, rfl, ho3, hb3⟩
  rw [Hu.out] at ho3 ⊢
  simp only at ho3 ⊢
  obtain ⟨A3, c3, hv, _⟩ := ho3.form
  rw [List.length_map] at hv
  subst hv
  replace hb := bthen hb hb3
  replace hr1 := hr1.below hb3
  have hr3 := ho3.rd
  clear ho2 ho3 hb2 hb3 Hu
  generalize (unstuffM l0).1 = u at *
  generalize (unstuffM l0).2 = er at *
  go_wp2_with fail
  refine (turn_any A0 n0 c0 l0 _ (h0.below hb) (by omega)).mono ?_
  rintro e w4 ⟨v4, rfl, ho4, hb4⟩
  obtain ⟨A4, c4, hv, _⟩ := ho4.form
  rw [List.length_map, Hl.out] at hv
  subst hv
  replace hb := bthen hb hb4
  replace hr1 := hr1.below hb4
  replace hr3 := hr3.below hb4
  go_wp2_with fail
  refine (Stuff_any A4 n0 c4 (l0.map (!·)) _ ho4.rd (by omega)).mono ?_
  rintro e w5 ⟨v5, rfl, ho5, hb5⟩
  rw [Hs.out] at ho5
  obtain ⟨A5, c5, hv, _⟩ := ho5.form
  rw [List.length_map] at hv
  subst hv
  replace hb := bthen hb hb5
  replace hr1 := hr1.below hb5
  replace hr3 := hr3.below hb5
  have hr5 := ho5.rd
  clear ho4 ho5 hb4 hb5
  go_wp2_with fail
  refine (Stuff_any A0 n0 c0 l0 _ (h0.below hb) (by omega)).mono ?_
  rintro e w6 ⟨v6, rfl, ho6, hb6⟩
  obtain ⟨A6, c6, rfl, _⟩ := ho6.form
  replace hb := bthen hb hb6
  replace hr1 := hr1.below hb6
  replace hr3 := hr3.below hb6
  replace hr5 := hr5.below hb6
  go_wp2_with fail
  refine (turn_any A6 _ c6 (stuffM l0) _ ho6.rd (by omega)).mono ?_
  rintro e w7 ⟨v7, rfl, ho7, hb7⟩
  obtain ⟨A7, c7, hv, _⟩ := ho7.form
  rw [List.length_map] at hv
  subst hv
  replace hb := bthen hb hb7
  replace hr1 := hr1.below hb7
  replace hr3 := hr3.below hb7
  replace hr5 := hr5.below hb7
  have hr7 := ho7.rd
  clear ho6 ho7 hb6 hb7 Hs
  generalize stuffM l0 = sm at *
  go_wp2_with fail
  refine (EqualB_any_same A5 A7 _ c5 _ c7 _ _ hr5 hr7 (by omega)).mono ?_
  rintro e w8 ⟨rfl, hq⟩
  replace hb := bthen hb hq
  replace hr1 := hr1.below hq
  replace hr3 := hr3.below hq
  clear hr5 hr7 hq
  go_wp2_with fail
  refine (turn_any A1 _ c1 u _ hr1 (by omega)).mono ?_
  rintro e w9 ⟨v9, rfl, ho9, hb9⟩
  obtain ⟨A9, c9, hv, _⟩ := ho9.form
  rw [List.length_map] at hv
  subst hv
  replace hb := bthen hb hb9
  replace hr3 := hr3.below hb9
  have hr9 := ho9.rd
  clear ho9 hb9 hr1
  go_wp2_with fail
  refine (EqualB_any_same A9 A3 _ c9 _ c3 _ _ hr9 hr3 (by omega)).mono ?_
  rintro e w10 ⟨rfl, hq⟩
  replace hb := bthen hb hq
  go_wp2
  go_ret
  exact ⟨ret_bool (by simp), hb⟩
end Go.Proofs.Ytllloipjaeljlaa
