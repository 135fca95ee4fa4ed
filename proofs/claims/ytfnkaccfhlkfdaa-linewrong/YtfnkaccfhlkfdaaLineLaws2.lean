/-
  The walk of LineWrong.
-/
import Derived.Test.YtfnkaccfhlkfdaaLineLaws
namespace Go.Proofs.Ytfnkaccfhlkfdaa
open Go.RowKit
set_option linter.unusedVariables false

set_option maxHeartbeats 2000000 in
theorem LineWrong_walk (a0 : Bool) (A1 : Option Addr) (n1 c1 : Nat) (l1 : List Bool) (a2 : Int) (w : World) (h1 : Rd w 1 A1 n1 (l1.map Value.bool)) (k1 : n1 ≤ c1) (b1 : c1 * 1 ≤ 140737488351232) (w2 : (Lit.int .i64 a2).wf = true) :
    Calls Try.prog 6 #[.bool a0, .slice A1 n1 c1, .int .i64 a2] w fun e w' => e = .returned (.bool true) ∧ Below w.heap.size w w' := by
  have Hl := Lib.hid h1.lenMap
  have hlen : (bothM l1).length = 2 * n1 := by rw [bothM_len, Hl.out]
  have hlent : (turnM a0 l1).length = n1 := by rw [turnM_len, Hl.out]
  have hwf := wf_i64 w2
  clear w2
  go_enter Try.func6, Try.ntmps6
  go_wp2_with fail
  refine (alive6_any _).mono ?_
  rintro e w1 ⟨rfl, hb1⟩
  go_wp2_with fail
  refine (Both_any A1 n1 c1 l1 _ (h1.below hb1) (by omega)).mono ?_
  rintro e w2 ⟨v2, rfl, ho2, hb2⟩
  replace hb2 := bthen hb1 hb2
  have hs2 : w.heap.size ≤ w1.heap.size := hb1.size
  clear hb1
  by_cases hneg : a2 < 0
  · obtain ⟨A2, c2, rfl, _, _, r2⟩ := ho2.formN hlen
    have hng : decide (a2 < 0) = true := by simpa using hneg
    go_wp2
    go_ret
    exact ⟨rfl, hb2⟩
  · by_cases hbig : 2 * (n1 : Int) ≤ a2
    · obtain ⟨A2, c2, rfl, _, _, r2⟩ := ho2.formN hlen
      go_wp2
      go_ret
      exact ⟨rfl, hb2⟩
    · obtain ⟨k, rfl⟩ : ∃ k : Nat, a2 = k := ⟨a2.toNat, by omega⟩
      have hk : k < 2 * n1 := by omega
      obtain ⟨g, c2, hv, hg, hc2, hcm⟩ := ho2.head (by rw [hlen]; omega)
      rw [hlen] at hv hc2
      subst hv
      obtain ⟨x, hx⟩ : ∃ x, (bothM l1)[k]? = some x := ⟨_, List.getElem?_eq_getElem (by rw [hlen]; exact hk)⟩
      have Hbad := Lib.hid (unboth_bad (badM_turned l1 k x hx))
      have hc := ho2.cellAt hx
      have hf := ho2.freeAt k
      have hp := ho2.put k (!x)
      have hbp := hb2.setCell (p := ⟨g, k, none⟩) (show w.heap.size ≤ g by omega) (.bool (!x))
      have hr2 := hp.rd
      clear hp ho2 hx
      generalize (bothM l1).set k (!x) = y at *
      go_wp2_with fail
      refine (Unboth_any (some ⟨g, 0, none⟩) (2 * n1) c2 y _ hr2 (by omega)).mono ?_
      rintro e w3 ⟨v3, rfl, ho3, hb3⟩
      rw [Hbad.out] at ho3 ⊢
      simp only at ho3 ⊢
      obtain ⟨A3, c3, rfl, _, _, _⟩ := ho3.formN (n := 0) rfl
      replace hb2 := bthen hbp hb3
      clear ho3 hb3 hbp hr2 hc hf hlen hcm
      go_wp2_with fail
      refine (Turn_any a0 A1 n1 c1 l1 _ (h1.below hb2) (by omega)).mono ?_
      rintro e w4 ⟨v4, rfl, ho4, hb4⟩
      have hs4 := hb2.size
      replace hb2 := bthen hb2 hb4
      clear hb4
      by_cases hkn : (n1 : Int) ≤ k
      · obtain ⟨A4, c4, rfl, _, _, r4⟩ := ho4.formN hlent
        go_wp2
        go_ret
        exact ⟨rfl, hb2⟩
      · obtain ⟨g4, c4, hv, hg4, hc4, _⟩ := ho4.head (by rw [hlent]; omega)
        rw [hlent] at hv hc4
        subst hv
        obtain ⟨z, hz⟩ : ∃ z, (turnM a0 l1)[k]? = some z := ⟨_, List.getElem?_eq_getElem (by rw [hlent]; omega)⟩
        have hdiff := diff_turned l1 a0 k z hz
        rw [Hl.out] at hdiff
        have hcz := ho4.cellAt hz
        have hfz := ho4.freeAt k
        have hpz := ho4.put k (!z)
        have hbz := hb2.setCell (p := ⟨g4, k, none⟩) (show w.heap.size ≤ g4 by omega) (.bool (!z))
        have hrz := hpz.rd
        have hly : ((turnM a0 l1).set k (!z)).length = n1 := by rw [List.length_set, hlent]
        clear hpz ho4 hz
        generalize (turnM a0 l1).set k (!z) = t at *
        have hlx : (unturnM a0 t).length = n1 := by rw [unturnM_len, hly]
        have Hd := Lib.hid hdiff; clear hdiff
        go_wp2_with fail
        refine (Unturn_any a0 (some ⟨g4, 0, none⟩) n1 c4 t _ hrz (by omega)).mono ?_
        rintro e w5 ⟨v5, rfl, ho5, hb5⟩
        obtain ⟨A5, c5, rfl, _, _, r5⟩ := ho5.formN hlx
        replace hb2 := bthen hbz hb5
        clear ho5 hb5 hbz hrz hcz hfz
        generalize unturnM a0 t = X at *
        have r1 := h1.below hb2
        go_wp2
        go_loopw [12, 61] (fun s i wr => ∃ (j m : Nat), j ≤ n1 ∧ i = .int .i64 j ∧ s = .int .i64 m ∧ m ≤ j ∧ m + diffM (X.drop j) (l1.drop j) = diffM X l1 ∧ Below w5.heap.size w5 wr) (fun _ i _ => n1 - (intOf i).toNat)
        case atStart => exact ⟨0, 0, Nat.zero_le _, rfl, rfl, Nat.le_refl _, by simp, Below.refl _ _⟩
        case round =>
          obtain ⟨j, m, hj, rfl, rfl, hmj, hacc, hb6⟩ := hrel
          have Hacc := Lib.hid hacc; clear hacc
          obtain ⟨W, hW⟩ : ∃ W, W = wr := ⟨_, rfl⟩
          subst hW
          by_cases hlt : j < n1
          · obtain ⟨ad5, x5, rfl, hx5, hc5⟩ := (r5.below hb6).atMap hlt
            obtain ⟨ad1, x1, rfl, hx1, hcc⟩ := (r1.below hb6).atMap hlt
            have Hx5 := Lib.hid (drop_cons hx5); clear hx5
            have Hx1 := Lib.hid (drop_cons hx1); clear hx1
            have hlt' : (j : Int) < n1 := by omega
            have hnl : decide ((n1 : Int) ≤ j) = false := by simp; omega
            have hnl2 : decide ((j : Int) ≥ n1) = false := by simp; omega
            by_cases hxx : x5 = x1
            · subst hxx
              go_wp2
              go_quiet (fail)
              go_wp2
              go_roundw
              case rel => exact ⟨j + 1, m, by omega, by go_num, rfl, by omega, by rw [← Hacc.out, Hx5.out, Hx1.out, diffM]; simp, below_drawn hb6 _⟩
              case measure => simp [intOf] <;> omega
            · have hne : (x5 != x1) = true := by simp [hxx]
              have hne2 : (x5 == x1) = false := by simp [hxx]
              have Hxx := Lib.hid hxx; clear hxx
              go_wp2
              go_quiet (fail)
              go_wp2
              go_roundw
              case rel => exact ⟨j + 1, m + 1, by omega, by go_num, by go_num, by omega, by rw [← Hacc.out, Hx5.out, Hx1.out, diffM, if_neg Hxx.out]; omega, below_drawn hb6 _⟩
              case measure => simp [intOf] <;> omega
          · obtain rfl : j = n1 := by omega
            have hd : l1.drop j = [] := List.drop_eq_nil_of_le (by rw [Hl.out]; exact Nat.le_refl _)
            have hm : m = min 2 (j - k) := by
              have e := Hacc.out
              rw [hd, diffM_nil, Hd.out] at e
              omega
            clear hd
            have Hm := Lib.hid hm; clear hm
            go_wp2
            all_goals go_ret
            all_goals exact ⟨ret_bool (by have := Hm.out; simp <;> omega), bthen hb2 hb6⟩
end Go.Proofs.Ytfnkaccfhlkfdaa
