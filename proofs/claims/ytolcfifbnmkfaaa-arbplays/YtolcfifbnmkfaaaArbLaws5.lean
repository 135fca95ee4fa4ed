/-
  arb's first law: Wrong, Play, Win and Order answer what chapter 5 says.
-/
import Derived.Test.YtolcfifbnmkfaaaArbRef2
import Derived.Deep.RegionWith
namespace Go.Proofs.Ytolcfifbnmkfaaa
open Go.RowKit
set_option linter.unusedVariables false

set_option maxRecDepth 100000 in
set_option maxHeartbeats 3200000 in
theorem ArbPlays_walk (A : Option Addr) (n c : Nat) (l : List Int) (w : World) (h : Rd w 1 A n (l.map (Value.int .i64))) (hwf : ∀ x ∈ l, (Lit.int .i64 x).wf = true) (hk : n ≤ c) (hc : c * 8 ≤ 140737488351232) :
    Calls Try.prog 3 #[.slice A n c] w fun e w' => e = .returned (.bool true) ∧ Below w.heap.size w w' := by
  have hln := h.lenMap
  clear hwf
  have hEW := fun W h => EWrong_any A n c l W h hk
  have hWr := fun W h => Wrong_any A n c l W h
  by_cases he : playErr l = 0
  · obtain ⟨hf, hl⟩ := (playErr_zero l).1 he
    have hP := fun W h => Play_ok A n c l W h hf hl
    have hW := fun W h => Win_ok A n c l W h hf hl
    have hO := fun W h => Order_ok A n c l W h hf
    have hn4 : n ≤ 400 := by have := hf.1; omega
    have hn0 : 0 < n := by rw [← hln]; exact List.length_pos_iff.2 hl
    have hn0z : ((n : Int) == 0) = false := by rw [beq_eq_false_iff_ne]; omega
    have hEN := fun W h => EWin_any A n c l W h hn0 (by omega)
    have hES := fun (k : Nat) (x : Int) (hx : l[k]? = some x) W h => ESaid_any A n c l k x W h hf hx
    have hSn := (playSent_length l).trans hln
    have hTn : (playBus l).length = 11 := B_length _
    have hOn := (sortI_length l).trans hln
    have hm := hf.2.1 _ (leastI_mem hl)
    have hinj : ∀ i j : Nat, l[i]? = some (leastI l) → l[j]? = some (leastI l) → i = j := fun i j h1 h2 => (List.getElem?_inj (List.getElem?_eq_some_iff.1 h1).1 (hf.2.2)).1 (h1.trans h2.symm)
    have hS : ∀ (k : Nat) (x : Int), l[k]? = some x → (playSent l)[k]? = some (saidS (leastI l) x 11) := fun k x hx => by simp [playSent, hx]
    have hw0 := (wrongM_zero l).2 hf
    rw [hw0] at hEW hWr
    have hPut := fun W => APut_ok 11 (leastI l) W (by omega) hm.1 (by omega)
    rw [show bitsOf 11 (leastI l) = playBus l from rfl] at hPut
    clear he hf hl hw0
    generalize leastI l = m at *
    generalize playSent l = S at *
    generalize playBus l = T at *
    have HS := Lib.hid hS; clear hS
    have Hinj := Lib.hid hinj; clear hinj
    have Hln := Lib.hid hln; clear hln
    go_enter Try.func3, Try.ntmps3
    go_wp2_with (first
      | (go_at_call 8; refine (hP w h).mono ?_; clear hP; rintro e w1 ⟨v, b, rfl, h1, h2, hb1⟩; obtain ⟨A1, c1, rfl, hc1, _, r1⟩ := h1.formN hSn; obtain ⟨A2, c2, rfl, hc2, _, r2⟩ := h2.formN hTn; clear h1 h2)
      | (go_at_call 9; refine (hW w1 (h.below hb1)).mono ?_; clear hW; rintro e w2 ⟨k, rfl, hk2, hb2⟩)
      | (go_at_call 10; refine (hO w2 ((h.below hb1).below hb2)).mono ?_; clear hO; rintro e w3 ⟨v3, rfl, h3, hb3⟩; obtain ⟨A3, c3, rfl, _, _, r3⟩ := h3.formN hOn; clear h3)
      | (go_at_call 11; refine (hEW w3 (((h.below hb1).below hb2).below hb3)).mono ?_; clear hEW; rintro e w4 ⟨rfl, rfl⟩)
      | (go_at_call 12; refine (hWr w3 (((h.below hb1).below hb2).below hb3)).mono ?_; clear hWr; rintro e w4 ⟨rfl, hb4⟩)
      | (go_at_call 13; refine (hEN w4 ((((h.below hb1).below hb2).below hb3).below hb4)).mono ?_; clear hEN; rintro e w5 ⟨k5, rfl, hk5, hb5⟩; obtain rfl := Hinj.out k k5 hk2 hk5; clear hk5))
    go_loopw [94] (fun i wr => ∃ j : Nat, j ≤ n ∧ i = .int .i64 j ∧ Below w5.heap.size w5 wr) (fun i _ => n - (intOf i).toNat)
    case atStart => exact ⟨0, Nat.zero_le _, rfl, Below.refl _ _⟩
    case round =>
      obtain ⟨j, hj, rfl, hb6⟩ := hrel
      obtain ⟨W, hWr⟩ : ∃ W, W = wr := ⟨_, rfl⟩
      subst hWr
      have hall : Below w.heap.size w W := bthen (bthen (bthen (bthen (bthen hb1 hb2) hb3) hb4) hb5) hb6
      have h1W : Below w1.heap.size w1 W := bthen (bthen (bthen (bthen hb2 hb3) hb4) hb5) hb6
      by_cases hlt : j < n
      · obtain ⟨ad, x, rfl, hx, hcx⟩ := (h.below hall).atMap hlt
        have hR := HS.out j x hx
        have hE := hES j x hx W.drew (h.below hall).drew
        obtain ⟨ad1, y, rfl, hy, hcy⟩ := (r1.below h1W).atMap hlt
        obtain rfl : y = saidS m x 11 := Option.some.inj (hy.symm.trans hR)
        generalize saidS m x 11 = R at *
        have hjz : (j : Int) < (n : Int) := by omega
        have hafter : ∀ W', Below W.drew.heap.size W.drew W' → W'.cell? (ad1.add j) = some (.int .i64 R) := fun W' hb => by
          obtain ⟨ad2, y2, had2, hy2, hc2⟩ := ((r1.below h1W).drew.below hb).atMap hlt
          cases had2
          rw [Option.some.inj (hy2.symm.trans hy)] at hc2
          exact hc2
        clear hx hR hy hcx
        have Hj := Lib.hid hall; clear hall
        go_wp2
        go_region_with (first | (go_at_call 14; refine hE.mono ?_; rintro e w7 ⟨rfl, hb7⟩; have hcy7 := hafter w7 hb7))
        all_goals
          go_wp2
          go_roundw
          case rel => exact ⟨j + 1, by omega, by go_num, bthen hb6 (bthen (Below.refl _ W).drew hb7)⟩
          case measure => simp [intOf] <;> omega
      · obtain rfl : j = n := by omega
        have hkn : k < j := by have := (List.getElem?_eq_some_iff.1 hk2).1; rw [Hln.out] at this; exact this
        have hkz : (k : Int) < (j : Int) := by omega
        obtain ⟨ad, x, rfl, hx, hcx⟩ := (h.below hall).atMap hkn
        obtain rfl : m = x := Option.some.inj (hk2.symm.trans hx)
        go_wp2_with (first
          | (go_at_call 15; refine (hPut W).mono ?_; clear hPut; rintro e w7 ⟨A7, c7, rfl, h7, hb7⟩; have r7 := h7.rd)
          | (go_at_call 16; refine (EqualB_any_same A2 A7 11 c2 11 c7 T w7 ((r2.below h1W).below hb7) r7 (by omega)).mono ?_; rintro e w8 ⟨rfl, hb8⟩)
          | (go_at_call 19; refine (Values_any (some ad) j c w8).mono ?_; rintro e w9 ⟨rfl, rfl⟩)
          | (go_at_call 18; refine (Sorted_any w8 w8.heap.size (some ad) j c l (w8.alloc (.cells #[.slice (some ad) j c] 22)) (by simp) (((h.below hall).below hb7).below hb8) ((Below.refl _ _).alloc (Nat.le_refl _) _) ((Box.new w8 22 [.slice (some ad) j c]).cell 0 rfl) hn4).mono ?_; rintro e w10 ⟨v10, rfl, h10, hb10⟩; replace hb10 := below_new hb10; obtain ⟨A10, c10, rfl, _, _, r10⟩ := h10.formN hOn)
          | (go_at_call 17; refine (EqualI_any_same A3 A10 j c3 j c10 (sortI l) w10 ((((((r3.below hb4).below hb5).below hb6).below hb7).below hb8).below hb10) r10 (by omega)).mono ?_; rintro e w11 ⟨rfl, hb11⟩))
        go_ret
        exact ⟨rfl, bthen (bthen (bthen (bthen hall hb7) hb8) hb10) hb11⟩
  · have hP := fun W h => Play_any A n c l W h
    have hW := fun W h => Win_bad A n c l W h he
    have hO := fun W h => Order_any A n c l W h
    have hS0 : (sentM l).length = 0 := by unfold sentM; rw [if_neg he]; rfl
    have hT0 : (busM l).length = 0 := by unfold busM; rw [if_neg he]; rfl
    by_cases hw : wrongM l = 0
    · have hl : l = [] := by
        by_cases hl : l = []
        · exact hl
        · exact absurd ((playErr_zero l).2 ⟨(wrongM_zero l).1 hw, hl⟩) he
      have hn0 : n = 0 := by rw [← hln, hl]; rfl
      have hR : playErr l = 3 := by unfold playErr; rw [if_pos ⟨hw, hl⟩]
      have hO0 : (orderM l).length = 0 := by unfold orderM; rw [if_pos hw, sortI_length, hl]; rfl
      rw [hR] at hP hW
      rw [hw] at hEW hWr hO
      subst hn0
      clear he hw hR hl
      generalize sentM l = S at *
      generalize busM l = T at *
      generalize orderM l = O at *
      go_enter Try.func3, Try.ntmps3
      go_wp2_with (first
        | (go_at_call 8; refine (hP w h).mono ?_; clear hP; rintro e w1 ⟨v, b, rfl, h1, h2, hb1⟩; obtain ⟨A1, c1, rfl, hc1, _, r1⟩ := h1.formN hS0; obtain ⟨A2, c2, rfl, hc2, _, r2⟩ := h2.formN hT0; clear h1 h2)
        | (go_at_call 9; refine (hW w1 (h.below hb1)).mono ?_; clear hW; rintro e w2 ⟨rfl, hb2⟩)
        | (go_at_call 10; refine (hO w2 ((h.below hb1).below hb2)).mono ?_; clear hO; rintro e w3 ⟨v3, rfl, h3, hb3⟩; obtain ⟨A3, c3, rfl, _, _, r3⟩ := h3.formN hO0; clear h3)
        | (go_at_call 11; refine (hEW w3 (((h.below hb1).below hb2).below hb3)).mono ?_; clear hEW; rintro e w4 ⟨rfl, rfl⟩)
        | (go_at_call 12; refine (hWr w3 (((h.below hb1).below hb2).below hb3)).mono ?_; clear hWr; rintro e w4 ⟨rfl, hb4⟩))
      go_ret
      exact ⟨rfl, bthen (bthen (bthen hb1 hb2) hb3) hb4⟩
    · have hR : playErr l = wrongM l := by unfold playErr; rw [if_neg (fun h => hw h.1)]
      have hO0 : (orderM l).length = 0 := by unfold orderM; rw [if_neg hw]; rfl
      have hne : (wrongM l != 0) = true := by simpa using hw
      have hne2 : (wrongM l == 0) = false := by simpa using hw
      rw [hR] at hP hW
      clear he hw hR
      generalize wrongM l = R at *
      generalize sentM l = S at *
      generalize busM l = T at *
      generalize orderM l = O at *
      go_enter Try.func3, Try.ntmps3
      go_wp2_with (first
        | (go_at_call 8; refine (hP w h).mono ?_; clear hP; rintro e w1 ⟨v, b, rfl, h1, h2, hb1⟩; obtain ⟨A1, c1, rfl, hc1, _, r1⟩ := h1.formN hS0; obtain ⟨A2, c2, rfl, hc2, _, r2⟩ := h2.formN hT0; clear h1 h2)
        | (go_at_call 9; refine (hW w1 (h.below hb1)).mono ?_; clear hW; rintro e w2 ⟨rfl, hb2⟩)
        | (go_at_call 10; refine (hO w2 ((h.below hb1).below hb2)).mono ?_; clear hO; rintro e w3 ⟨v3, rfl, h3, hb3⟩; obtain ⟨A3, c3, rfl, _, _, r3⟩ := h3.formN hO0; clear h3)
        | (go_at_call 11; refine (hEW w3 (((h.below hb1).below hb2).below hb3)).mono ?_; clear hEW; rintro e w4 ⟨rfl, rfl⟩)
        | (go_at_call 12; refine (hWr w3 (((h.below hb1).below hb2).below hb3)).mono ?_; clear hWr; rintro e w4 ⟨rfl, hb4⟩))
      go_ret
      exact ⟨rfl, bthen (bthen (bthen hb1 hb2) hb3) hb4⟩
end Go.Proofs.Ytolcfifbnmkfaaa
