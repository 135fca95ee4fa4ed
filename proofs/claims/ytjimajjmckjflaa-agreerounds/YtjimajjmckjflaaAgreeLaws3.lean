/-
  The walk of AgreeRounds: it returns true, at every argument.
-/
import Derived.Test.YtjimajjmckjflaaAgreeRef2
import Derived.Test.YtjimajjmckjflaaSlices
namespace Go.Proofs.Ytjimajjmckjflaa
open Go.RowKit
set_option linter.unusedVariables false

theorem far2_any (x : Int) (w : World) : Calls Try.prog 14 #[.int .i64 x] w fun e w' => e = .returned (.bool (outX x)) ∧ w = w' := by
  by_cases x1 : 1099511627776 < x
  · have Ho : Hid (outX x = true) := by show _ = _; simp [outX, x1]
    go_enter Try.func14, Try.ntmps14
    go_wp2
    go_ret
    exact ⟨ret_bool Ho.out.symm, rfl⟩
  · by_cases x2 : x < -1099511627776
    · have Ho : Hid (outX x = true) := by show _ = _; simp [outX, x2]
      go_enter Try.func14, Try.ntmps14
      go_wp2
      go_ret
      exact ⟨ret_bool (by rw [Ho.out]), rfl⟩
    · have Ho : Hid (outX x = false) := by show _ = _; simp [outX]; omega
      go_enter Try.func14, Try.ntmps14
      go_wp2
      go_ret
      exact ⟨ret_bool (by rw [Ho.out]), rfl⟩
theorem enterFar : ∀ args w, (callFunc 14 args).run Try.prog w = .ok (.enter 14 args) w := enters_of Try.func14 (by kernel_rfl) rfl
theorem ContainsFar_any (A : Option Addr) (n c : Nat) (l : List Int) (w : World) (h : Rd w 1 A n (l.map (Value.int .i64))) (hn : n ≤ 4611686018427387904) :
    Calls Try.prog 13 #[.slice A n c, .func (.func 14) #[] #[]] w fun e w' => e = .returned (.bool (l.any outX)) ∧ Below w.heap.size w w' := by
  refine (ContainsFunc_any 14 #[] enterFar outX none A n c l w h (fun x _ W _ => ?_) hn).mono ?_
  · refine (far2_any x W).mono ?_
    rintro e w' ⟨rfl, rfl⟩
    exact ⟨rfl, 0, rfl⟩
  · rintro e w' ⟨rfl, hq⟩
    exact ⟨rfl, below_draws hq⟩

set_option maxHeartbeats 3200000 in
theorem AgreeRounds_walk (A0 : Option Addr) (n0 c0 : Nat) (l0 : List Int) (a1 : Int) (A2 : Option Addr) (n2 c2 : Nat) (L : List (Option Addr × Nat × Nat × List Int)) (a3 : Int) (w : World)
    (h0 : Rd w 1 A0 n0 (l0.map (Value.int .i64))) (q0 : ∀ x ∈ l0, (Lit.int .i64 x).wf = true) (k0 : n0 ≤ c0) (b0 : c0 * 8 ≤ 140737488351232) (w1 : (Lit.int .i64 a1).wf = true)
    (h2 : Rd w 1 A2 n2 (L.map rowV)) (r2 : ∀ p ∈ L, Rd w 1 p.1 p.2.1 (p.2.2.2.map (Value.int .i64)) ∧ p.2.1 ≤ p.2.2.1 ∧ p.2.2.1 * 8 ≤ 140737488351232 ∧ ∀ x ∈ p.2.2.2, (Lit.int .i64 x).wf = true) (k2 : n2 ≤ c2) (b2 : c2 * 24 ≤ 140737488351232) (w3 : (Lit.int .i64 a3).wf = true) :
    Calls Try.prog 3 #[.slice A0 n0 c0, .int .i64 a1, .slice A2 n2 c2, .int .i64 a3] w fun e w' => e = .returned (.bool true) ∧ Below w.heap.size w w' := by
  have hL : RdRows w L := fun p hp => ⟨(r2 p hp).1, (r2 p hp).2.1, (r2 p hp).2.2.1⟩
  have C1 := Lib.hid (fun (W : World) (hb : Below w.heap.size w W) => Round_any A0 n0 c0 l0 a1 A2 n2 c2 L W (h0.below hb) k0 (by omega) (h2.below hb) (hL.below hb) (by omega))
  have C2 := Lib.hid (fun (W : World) (hb : Below w.heap.size w W) => Rounds_any A0 n0 c0 l0 a1 A2 n2 c2 L a3 W (h0.below hb) k0 (by omega) (h2.below hb) (hL.below hb) (by omega))
  have C3 := Lib.hid (fun (W : World) (hb : Below w.heap.size w W) => Wide_any A0 n0 c0 l0 a1 W (h0.below hb) k0 (by omega))
  have C4 := Lib.hid (fun (W : World) (hb : Below w.heap.size w W) => MWrong_any A0 n0 c0 l0 a1 A2 n2 c2 L W (h0.below hb) (by omega) (h2.below hb) (hL.below hb) (by omega))
  have C5 := Lib.hid (fun (W : World) (hb : Below w.heap.size w W) => AgreeWrong_any A0 n0 c0 l0 a1 A2 n2 c2 L W (h0.below hb) (by omega) (h2.below hb) (hL.below hb) (by omega))
  have C6 := Lib.hid (fun (W : World) (hb : Below w.heap.size w W) => ContainsFar_any A0 n0 c0 l0 W (h0.below hb) (by omega))
  have C7 := Lib.hid (fun (q : Nat) (X : Option Addr) (cx : Nat) (s : List Int) (W : World) (hb : Below w.heap.size w W) (h : Rd W 1 X n0 (s.map (Value.int .i64))) (hc : n0 ≤ cx) (hA : Agrees s q (lists L)) => MRound_any X n0 cx s q A2 n2 c2 L W h hc (h2.below hb) (hL.below hb) hA)
  have Hl := Lib.hid h0.lenMap
  have H0 := Lib.hid h0
  clear q0 w1 w3 r2 hL h2 h0
  go_enter Try.func3, Try.ntmps3
  go_wp2_with fail
  refine (C1.out _ (Below.refl _ _)).mono ?_
  rintro e w1 ⟨v1, rfl, ho1, hb1⟩
  go_wp2_with fail
  refine (C2.out _ hb1).mono ?_
  rintro e w2 ⟨v2, rfl, ho2, hb2⟩
  replace ho1 := ho1.below hb2
  have hB := bthen hb1 hb2
  clear hb1 hb2 C1 C2
  go_wp2_with fail
  refine (C3.out _ hB).mono ?_
  rintro e w3 ⟨rfl, hw3⟩
  rw [hw3] at hB ho1 ho2
  clear hw3
  go_wp2_with fail
  refine (C4.out _ hB).mono ?_
  rintro e w4 ⟨rfl, hw4⟩
  rw [hw4] at hB ho1 ho2
  clear hw4
  go_wp2_with fail
  refine (C5.out _ hB).mono ?_
  rintro e w5 ⟨rfl, hw5⟩
  rw [hw5] at hB ho1 ho2
  clear hw5 C3 C4 C5
  go_wp2_with fail
  refine (C6.out _ hB).mono ?_
  rintro e w6 ⟨rfl, hb6⟩
  replace ho1 := ho1.below hb6
  replace ho2 := ho2.below hb6
  replace hB := bthen hB hb6
  clear hb6 C6
  by_cases hw : wrongA l0 a1 (lists L) = 0
  · obtain ⟨q, rfl, hA⟩ := wrongA_ok.1 hw
    have hf := hA.few
    have hmo := hA.most
    rw [Hl.out] at hf hmo
    have he := hA.wide.1
    obtain ⟨z1, z2, z3, z4⟩ := wide_bounds he
    rw [hA.wide.2, he, any_out_no.2 hA.shows, hw]
    rw [show ((q : Int)).toNat = q by omega] at *
    obtain ⟨hs, hr⟩ := ahead_int (k := n0 - q) (H0.out.below hB) (by omega) k0
    rw [show l0.take (n0 - q) = goodL l0 q by rw [goodL, Hl.out]] at hr
    rw [show ((n0 - q : Nat) : Int) = (n0 : Int) - q by omega] at hs
    have K4 := Lib.hid (Min_any A0 (n0 - q) c0 (goodL l0 q) w6 hr (by omega) (by omega))
    have K5 := Lib.hid (Max_any A0 (n0 - q) c0 (goodL l0 q) w6 hr (by omega) (by omega))
    unfold inX at z1 z2
    obtain ⟨z5, z6⟩ := z1
    obtain ⟨z7, z8⟩ := z2
    rw [show wd (goodL l0 q) = greatI (goodL l0 q) - leastI (goodL l0 q) from rfl]
    generalize greatI (goodL l0 q) = hi at *
    generalize leastI (goodL l0 q) = lo at *
    have e1 : roundsR l0 q (lists L) 1 = roundM l0 q (lists L) := by
      rw [roundsR_ok (by rw [roundsE_1]; exact hw)]
      show roundM l0 ((q : Int)).toNat (lists L) = _
      rw [show ((q : Int)).toNat = q by omega]
    rw [e1] at ho1
    have Hlen1 : Hid ((roundM l0 q (lists L)).length = n0) := by show _ = _; rw [round_len, hA.each, Hl.out]
    obtain ⟨A1, d1, rfl, _, _, hr1⟩ := ho1.formN Hlen1.out
    have HM := Lib.hid (C7.out q A0 c0 l0 w6 hB (H0.out.below hB) k0 hA)
    have HA := Lib.hid hA
    have Hw := Lib.hid hw
    clear he z3 z4 hr e1 ho1 hA hw
    go_wp2_with fail
    refine K5.out.mono ?_
    rintro e w7 ⟨rfl, rfl⟩
    go_wp2_with fail
    refine K4.out.mono ?_
    rintro e w8 ⟨rfl, rfl⟩
    clear K4 K5
    go_wp2_with fail
    refine HM.out.mono ?_
    rintro e w7 ⟨v7, rfl, ho7, hb7⟩
    obtain ⟨A7, d7, rfl, _, _, hr7⟩ := ho7.formN Hlen1.out
    replace hr1 := hr1.below hb7
    replace ho2 := ho2.below hb7
    replace hB := bthen hB hb7
    have HE := Lib.hid (EqualI_any_same A1 A7 n0 d1 n0 d7 (roundM l0 q (lists L)) w7 hr1 hr7 (by omega))
    clear ho7 hb7 hr1 hr7 HM Hlen1
    go_wp2_with fail
    refine HE.out.mono ?_
    rintro e w8 ⟨rfl, hb8⟩
    replace ho2 := ho2.below hb8
    replace hB := bthen hB hb8
    clear hb8 HE
    by_cases m1 : a3 < 0
    · have eE := roundsE_many (m := a3) Hw.out (.inl m1)
      rw [roundsR_no (by rw [eE]; decide)] at ho2
      rw [eE]
      obtain ⟨A3, d3, rfl, _, _, _⟩ := ho2.formN (n := 0) rfl
      clear ho2 eE C7
      go_wp2
      go_ret
      exact ⟨rfl, hB⟩
    by_cases m2 : 100 < a3
    · have eE := roundsE_many (m := a3) Hw.out (.inr m2)
      rw [roundsR_no (by rw [eE]; decide)] at ho2
      rw [eE]
      obtain ⟨A3, d3, rfl, _, _, _⟩ := ho2.formN (n := 0) rfl
      clear ho2 eE C7
      go_wp2
      go_ret
      exact ⟨rfl, hB⟩
    have eE := roundsE_ok (m := a3) Hw.out (by omega) (by omega)
    obtain ⟨p, rfl⟩ : ∃ p : Nat, a3 = p := ⟨a3.toNat, by omega⟩
    rw [roundsR_ok eE, show ((q : Int)).toNat = q by omega, show ((p : Int)).toNat = p by omega] at ho2
    rw [eE]
    have Hlen : Hid (∀ m, (roundsM l0 q (lists L) m).length = n0) := fun m => by rw [rounds_len HA.out, Hl.out]
    obtain ⟨A3, d3, rfl, _, _, hr3⟩ := ho2.formN (Hlen.out p)
    clear ho2 eE
    go_wp2
    go_loopw [18, 131] (fun v i wr => ∃ (j : Nat) (X : Option Addr) (cx : Nat), j ≤ p ∧ i = .int .i64 j ∧ v = .slice X n0 cx ∧ n0 ≤ cx ∧ Rd wr 1 X n0 ((roundsM l0 q (lists L) j).map (Value.int .i64)) ∧ Below w8.heap.size w8 wr) (fun _ i _ => p - (intOf i).toNat)
    case atStart => exact ⟨0, A0, c0, Nat.zero_le _, rfl, rfl, k0, H0.out.below hB, Below.refl _ _⟩
    case round =>
      obtain ⟨j, X, cx, hj, rfl, rfl, hcx, hx, hbl⟩ := hrel
      by_cases hlt : j < p
      · have HN := Lib.hid (C7.out q X cx (roundsM l0 q (lists L) j) wr (bthen hB hbl) hx hcx (HA.out.rounds j))
        clear hx
        go_wp2_with fail
        refine HN.out.mono ?_
        rintro e w9 ⟨v9, rfl, ho9, hb9⟩
        obtain ⟨A9, d9, rfl, h9, _, hr9⟩ := ho9.formN (Hlen.out (j + 1))
        have hB9 := bthen hbl hb9
        clear ho9 hb9 HN
        go_wp2
        go_roundw
        case rel => exact ⟨j + 1, A9, d9, by omega, by go_num, rfl, h9, hr9, hB9⟩
        case measure => simp [intOf] <;> omega
      · obtain rfl : j = p := by omega
        have HE := Lib.hid (EqualI_any_same A3 X n0 d3 n0 cx (roundsM l0 q (lists L) j) wr (hr3.below hbl) hx (by omega))
        have hB9 := bthen hB hbl
        clear hr3 hx hbl hB
        go_wp2_with fail
        refine HE.out.mono ?_
        rintro e w9 ⟨rfl, hb9⟩
        have hB10 := bthen hB9 hb9
        clear hB9 hb9 HE
        go_wp2
        go_ret
        exact ⟨rfl, hB10⟩
  · have hne : (wrongA l0 a1 (lists L) != 0) = true := by simpa using hw
    have eE : roundsE l0 a1 (lists L) a3 = wrongA l0 a1 (lists L) := roundsE_wrong hw
    rw [roundsR_no (by rw [roundsE_1]; exact hw)] at ho1
    rw [roundsR_no (by rw [eE]; exact hw)] at ho2
    rw [eE]
    obtain ⟨A1, d1, rfl, _, _, _⟩ := ho1.formN (n := 0) rfl
    obtain ⟨A3, d3, rfl, _, _, _⟩ := ho2.formN (n := 0) rfl
    clear ho1 ho2 eE hw C7
    by_cases he : wideE l0 a1 = 0
    · obtain ⟨g1, g2, g3, g4⟩ := wideE_ok.1 he
      obtain ⟨z1, z2, z3, z4⟩ := wide_bounds he
      obtain ⟨q, rfl⟩ : ∃ q : Nat, a1 = q := ⟨a1.toNat, by omega⟩
      rw [wideR_ok he, he, any_out_no.2 g4]
      rw [show ((q : Int)).toNat = q by omega] at *
      rw [Hl.out] at g2 g3 z4
      obtain ⟨hs, hr⟩ := ahead_int (k := n0 - q) (H0.out.below hB) (by omega) k0
      rw [show l0.take (n0 - q) = goodL l0 q by rw [goodL, Hl.out]] at hr
      rw [show ((n0 - q : Nat) : Int) = (n0 : Int) - q by omega] at hs
      have K4 := Lib.hid (Min_any A0 (n0 - q) c0 (goodL l0 q) w6 hr (by omega) (by omega))
      have K5 := Lib.hid (Max_any A0 (n0 - q) c0 (goodL l0 q) w6 hr (by omega) (by omega))
      unfold inX at z1 z2
      obtain ⟨z5, z6⟩ := z1
      obtain ⟨z7, z8⟩ := z2
      rw [show wd (goodL l0 q) = greatI (goodL l0 q) - leastI (goodL l0 q) from rfl]
      generalize greatI (goodL l0 q) = hi at *
      generalize leastI (goodL l0 q) = lo at *
      generalize wrongA l0 q (lists L) = E at *
      clear he g4 z3 z4 hr H0 Hl
      go_wp2_with fail
      refine K5.out.mono ?_
      rintro e w7 ⟨rfl, rfl⟩
      go_wp2_with fail
      refine K4.out.mono ?_
      rintro e w8 ⟨rfl, rfl⟩
      go_wp2
      go_ret
      exact ⟨ret_bool (by simp), hB⟩
    · have e2 : wideE l0 a1 = 2 := by rcases wideE_2 l0 a1 with h | h; exact absurd h he; exact h
      rw [wideR_no he, e2]
      have Hor : Hid (¬ a1 < 0 → ¬ (n0 : Int) ≤ a1 → ¬ 16 < n0 → l0.any outX = true) := fun p1 p2 p3 => by
        cases ho : l0.any outX with
        | true => rfl
        | false => exact absurd (wideE_ok.2 ⟨by omega, by rw [Hl.out]; omega, by rw [Hl.out]; omega, any_out_no.1 ho⟩) he
      clear he e2
      generalize wrongA l0 a1 (lists L) = E at *
      generalize l0.any outX = F at *
      by_cases p1 : a1 < 0
      · go_wp2
        go_ret
        exact ⟨ret_bool (by simp), hB⟩
      by_cases p2 : (n0 : Int) ≤ a1
      · go_wp2
        go_ret
        exact ⟨ret_bool (by simp), hB⟩
      by_cases p3 : 16 < n0
      · go_wp2
        go_ret
        exact ⟨ret_bool (by simp), hB⟩
      obtain rfl := Hor.out p1 p2 p3
      go_wp2
      go_ret
      exact ⟨ret_bool (by simp), hB⟩
end Go.Proofs.Ytjimajjmckjflaa
