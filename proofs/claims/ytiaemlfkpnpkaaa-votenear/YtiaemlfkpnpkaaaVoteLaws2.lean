/-
  The walks of VoteOne and VoteNear: each returns true, at every argument.
-/
import Derived.Test.YtiaemlfkpnpkaaaVoteLaws
import Derived.Test.YtiaemlfkpnpkaaaVoteRef
namespace Go.Proofs.Ytiaemlfkpnpkaaa
open Go.RowKit
set_option linter.unusedVariables false

theorem one_facts {l : List Int} {x : Int} (h : mostE l = 0) : (l.length < 2 * cntE l x ↔ x = mostV l) ∧ (middleE l = 0 → middleV l = mostV l) := by
  refine ⟨most_iff h, fun g => ?_⟩
  rw [middleV_ok g, mostV_ok h]
set_option maxHeartbeats 1600000 in
theorem VoteOne_walk (A0 : Option Addr) (n0 c0 : Nat) (l0 : List Int) (a1 : Int) (w : World) (h0 : Rd w 1 A0 n0 (l0.map (Value.int .i64))) (q0 : ∀ x ∈ l0, (Lit.int .i64 x).wf = true) (k0 : n0 ≤ c0) (b0 : c0 * 8 ≤ 140737488351232) (w1 : (Lit.int .i64 a1).wf = true) :
    Calls Try.prog 7 #[.slice A0 n0 c0, .int .i64 a1] w fun e w' => e = .returned (.bool true) ∧ Below w.heap.size w w' := by
  have hl0 := h0.lenMap
  have hq := in64s_wf q0
  have C0 := Lib.hid (alive15_any w)
  have C1 := Lib.hid (fun (W : World) (h : Rd W 1 A0 n0 (l0.map (Value.int .i64))) => Most_any A0 n0 c0 l0 W h hq (by omega))
  have hr : mostV l0.reverse = mostV l0 ∧ mostE l0.reverse = mostE l0 := ⟨mostV_perm l0.reverse_perm, mostE_perm l0.reverse_perm⟩
  have C2 := Lib.hid (fun (W : World) (A : Option Addr) (c : Nat) (h : Rd W 1 A n0 (l0.reverse.map (Value.int .i64))) => Most_any A n0 c l0.reverse W h (fun x hx => hq x (List.mem_reverse.1 hx)) (by omega))
  rw [hr.1, hr.2] at C2
  have C3 := Lib.hid (fun (W : World) (h : Rd W 1 A0 n0 (l0.map (Value.int .i64))) => Middle_any A0 n0 c0 l0 W h (by omega))
  have K2 := Lib.hid (fun (W : World) (h : Rd W 1 A0 n0 (l0.map (Value.int .i64))) => CloneI_any A0 n0 c0 l0 W h (by omega))
  have Hf := Lib.hid (fun (g : mostE l0 = 0) => one_facts (l := l0) (x := a1) g)
  have Hno := Lib.hid (fun (g : ¬ mostE l0 = 0) => mostV_no (l := l0) g)
  have Hl := Lib.hid hl0
  have Hle : Hid (∀ k, cntE (l0.take k) a1 ≤ k) := fun k => (cntX_le l0 k a1).2.2
  have Hrl : Hid (l0.reverse.length = n0) := by show _ = _; rw [List.length_reverse]; exact hl0
  generalize mostV l0 = V at *
  generalize mostE l0 = E at *
  generalize middleV l0 = M at *
  generalize middleE l0 = G at *
  clear hr hq q0 w1 hl0
  go_enter Try.func7, Try.ntmps7
  go_wp2_with fail
  refine C0.out.mono ?_
  rintro e w1 ⟨rfl, hb1⟩
  replace h0 := h0.below hb1
  go_wp2_with fail
  refine (C1.out _ h0).mono ?_
  rintro e w2 ⟨rfl, hb2⟩
  replace h0 := h0.below hb2
  have hB2 := bthen hb1 hb2
  clear hb1 hb2 C0 C1
  go_wp2_with fail
  refine (K2.out _ h0).mono ?_
  rintro e w3 ⟨v3, rfl, ho3, hb3⟩
  go_wp2_with fail
  refine (Reverse_own ho3 (by rw [Hl.out]; omega)).mono ?_
  rintro e w4 ⟨rfl, ho4, hm4⟩
  have hb4 := hm4.below hb3 hb3.size ho3.block
  have hB4 := bthen hB2 hb4
  have h4 := h0.below hb4
  obtain ⟨B, d, rfl, _, _, hrv⟩ := ho4.formN Hrl.out
  clear ho3 ho4 hm4 hb4 hb3 hB2 h0 K2
  go_wp2_with fail
  refine (C2.out _ _ _ hrv).mono ?_
  rintro e w5 ⟨rfl, hb5⟩
  replace h4 := h4.below hb5
  have hB5 := bthen hB4 hb5
  clear hb5 hB4 hrv C2
  by_cases hE : E = 0
  · subst hE
    obtain ⟨f1, f2⟩ := Hf.out rfl
    have F1 := Lib.hid f1
    have F2 := Lib.hid f2
    clear Hf Hno f1 f2
    go_wp2
    go_loop [10, 42] (fun a i => ∃ k : Nat, k ≤ n0 ∧ i = .int .i64 k ∧ a = .int .i64 (cntE (l0.take k) a1)) (fun _ i => n0 - (intOf i).toNat)
    case atStart => exact ⟨0, Nat.zero_le _, rfl, rfl⟩
    case round =>
      obtain ⟨k, hk, rfl, rfl⟩ := hrel
      have hle := Hle.out k
      by_cases hlt : k < n0
      · obtain ⟨ad, y, rfl, hy, hc⟩ := h4.atMap hlt
        have S1 := Lib.hid (cntE_snoc a1 hy)
        clear hy
        generalize cntE (l0.take k) a1 = a at *
        by_cases g : y = a1
        · have Hg := Lib.hid g
          have g' : (y == a1) = true := by simpa using g
          clear g
          go_wp2
          go_round
          case rel => exact ⟨k + 1, by omega, by go_num, int_eq (by rw [S1.out, if_pos Hg.out]; omega)⟩
          case measure => simp [intOf] <;> omega
        · have Hg := Lib.hid g
          have g' : (y == a1) = false := by simpa using g
          clear g
          go_wp2
          go_round
          case rel => exact ⟨k + 1, by omega, by go_num, int_eq (by rw [S1.out, if_neg Hg.out]; omega)⟩
          case measure => simp [intOf] <;> omega
      · have hnk : k = n0 := by omega
        subst hnk
        have eT : l0.take k = l0 := by rw [List.take_of_length_le (by rw [Hl.out]; exact Nat.le_refl _)]
        rw [eT] at hle ⊢
        have F1' : k < 2 * cntE l0 a1 ↔ a1 = V := by have := F1.out; rwa [Hl.out] at this
        generalize cntE l0 a1 = a at *
        clear eT F1
        go_wp2_with fail
        refine (C3.out _ h4).mono ?_
        rintro e w6 ⟨rfl, hb6⟩
        have hB6 := bthen hB5 hb6
        clear hb6 hB5 C3
        by_cases hx : a1 = V
        · have hgt := F1'.2 hx
          subst hx
          by_cases hG : G = 0
          · have e := F2.out hG
            subst hG e
            clear F1' F2
            go_wp2
            go_ret
            exact ⟨rfl, hB6⟩
          · have hne : (G != 0) = true := by simpa using hG
            clear F1' F2 hG
            go_wp2
            go_ret
            exact ⟨rfl, hB6⟩
        · have hgt : ¬ k < 2 * a := fun g => hx (F1'.1 g)
          have hx' : (a1 == V) = false := by simpa using hx
          by_cases hG : G = 0
          · have e := F2.out hG
            subst hG e
            clear F1' F2 hx
            go_wp2
            go_ret
            exact ⟨ret_bool (by simp; omega), hB6⟩
          · have hne : (G != 0) = true := by simpa using hG
            clear F1' F2 hG hx
            go_wp2
            go_ret
            exact ⟨ret_bool (by simp; omega), hB6⟩
  · have hz := Hno.out hE
    subst hz
    have hne : (E != 0) = true := by simpa using hE
    clear Hf Hno hE
    go_wp2
    go_ret
    exact ⟨rfl, hB5⟩

theorem near_range {l : List Int} {far : Int} (h : nearE l far = 0) : 0 ≤ far ∧ far ≤ 1099511627776 := by
  have hw := (near_0 h).1
  unfold wrongN at hw
  omega
set_option maxHeartbeats 1600000 in
theorem VoteNear_walk (A0 : Option Addr) (n0 c0 : Nat) (l0 : List Int) (a1 a2 : Int) (w : World) (h0 : Rd w 1 A0 n0 (l0.map (Value.int .i64))) (q0 : ∀ x ∈ l0, (Lit.int .i64 x).wf = true) (k0 : n0 ≤ c0) (b0 : c0 * 8 ≤ 140737488351232) (w1 : (Lit.int .i64 a1).wf = true) (w2 : (Lit.int .i64 a2).wf = true) :
    Calls Try.prog 8 #[.slice A0 n0 c0, .int .i64 a1, .int .i64 a2] w fun e w' => e = .returned (.bool true) ∧ Below w.heap.size w w' := by
  have hl0 := h0.lenMap
  have hq := in64s_wf q0
  have C0 := Lib.hid (alive15_any w)
  have C1 := Lib.hid (fun (W : World) (f : Int) (h : Rd W 1 A0 n0 (l0.map (Value.int .i64))) => Near_any A0 n0 c0 l0 f W h (by omega))
  have C2 := Lib.hid (fun (W : World) (h : Rd W 1 A0 n0 (l0.map (Value.int .i64))) => Most_any A0 n0 c0 l0 W h hq (by omega))
  have C3 := Lib.hid (fun (W : World) (x : Int) (h : Rd W 1 A0 n0 (l0.map (Value.int .i64))) => ContainsI_any A0 n0 c0 l0 x W h (by omega))
  have Hno := Lib.hid (fun (g : ¬ nearE l0 a1 = 0) => nearV_no (l := l0) (far := a1) g)
  have Hr := Lib.hid (fun (g : nearE l0 a1 = 0) => near_range g)
  have Hm := Lib.hid (fun (g : nearE l0 a1 = 0) => (near_0 g).2.1)
  have Hz := Lib.hid (fun (g : nearE l0 a1 = 0) (k : mostE l0 = 0) => near_zero_most (near_0 g).1 k)
  have Hmore := Lib.hid (fun (g : nearE l0 a1 = 0) (k : nearE l0 (a1 + a2) = 0) (hp : 0 ≤ a2) => near_more g k hp)
  clear q0 hq w1 w2 hl0
  by_cases hE : nearE l0 a1 = 0
  · by_cases g1 : a2 < 0
    · have C1' := Lib.hid (fun (W : World) (h : Rd W 1 A0 n0 (l0.map (Value.int .i64))) => C1.out W a1 h)
      rw [hE] at C1'
      clear Hno Hr Hm Hz Hmore C1 C2 C3
      go_enter Try.func8, Try.ntmps8
      go_wp2_with fail
      refine C0.out.mono ?_
      rintro e w1 ⟨rfl, hb1⟩
      replace h0 := h0.below hb1
      go_wp2_with fail
      refine (C1'.out _ h0).mono ?_
      rintro e w2 ⟨rfl, hb2⟩
      go_wp2
      go_ret
      exact ⟨rfl, bthen hb1 hb2⟩
    by_cases g2 : 1000 < a2
    · have C1' := Lib.hid (fun (W : World) (h : Rd W 1 A0 n0 (l0.map (Value.int .i64))) => C1.out W a1 h)
      rw [hE] at C1'
      clear Hno Hr Hm Hz Hmore C1 C2 C3
      go_enter Try.func8, Try.ntmps8
      go_wp2_with fail
      refine C0.out.mono ?_
      rintro e w1 ⟨rfl, hb1⟩
      replace h0 := h0.below hb1
      go_wp2_with fail
      refine (C1'.out _ h0).mono ?_
      rintro e w2 ⟨rfl, hb2⟩
      go_wp2
      go_ret
      exact ⟨rfl, bthen hb1 hb2⟩
    have C1' := Lib.hid (fun (W : World) (h : Rd W 1 A0 n0 (l0.map (Value.int .i64))) => C1.out W a1 h)
    rw [hE] at C1'
    have C1'' := Lib.hid (fun (W : World) (h : Rd W 1 A0 n0 (l0.map (Value.int .i64))) => C1.out W (a1 + a2) h)
    have C1z := Lib.hid (fun (W : World) (h : Rd W 1 A0 n0 (l0.map (Value.int .i64))) => C1.out W 0 h)
    obtain ⟨r1, r2⟩ := Hr.out hE
    have hmem := Hm.out hE
    have C3' := Lib.hid (fun (W : World) (h : Rd W 1 A0 n0 (l0.map (Value.int .i64))) => C3.out W (nearV l0 a1) h)
    rw [decide_eq_true hmem] at C3'
    have Hz' := Lib.hid (Hz.out hE)
    have Hm' := Lib.hid (fun k => Hmore.out hE k (by omega))
    clear Hno Hr Hm Hz Hmore C1 C3 hE hmem
    generalize nearV l0 a1 = V at *
    generalize nearV l0 (a1 + a2) = V2 at *
    generalize nearE l0 (a1 + a2) = E2 at *
    generalize nearV l0 0 = V0 at *
    generalize nearE l0 0 = E0 at *
    generalize mostV l0 = MV at *
    generalize mostE l0 = ME at *
    go_enter Try.func8, Try.ntmps8
    go_wp2_with fail
    refine C0.out.mono ?_
    rintro e w1 ⟨rfl, hb1⟩
    replace h0 := h0.below hb1
    go_wp2_with fail
    refine (C1'.out _ h0).mono ?_
    rintro e w2 ⟨rfl, hb2⟩
    replace h0 := h0.below hb2
    have hB2 := bthen hb1 hb2
    clear hb1 hb2 C0 C1'
    go_wp2_with fail
    refine (C1''.out _ h0).mono ?_
    rintro e w3 ⟨rfl, hb3⟩
    replace h0 := h0.below hb3
    have hB3 := bthen hB2 hb3
    clear hb3 hB2 C1''
    go_wp2_with fail
    refine (C1z.out _ h0).mono ?_
    rintro e w4 ⟨rfl, hb4⟩
    replace h0 := h0.below hb4
    have hB4 := bthen hB3 hb4
    clear hb4 hB3 C1z
    go_wp2_with fail
    refine (C2.out _ h0).mono ?_
    rintro e w5 ⟨rfl, hb5⟩
    replace h0 := h0.below hb5
    have hB5 := bthen hB4 hb5
    clear hb5 hB4 C2
    have hzz : (ME == 0) = false ∨ (ME = 0 ∧ E0 = 0 ∧ V0 = MV) := by
      by_cases hM : ME = 0
      · obtain ⟨z1, z2⟩ := Hz'.out hM
        exact .inr ⟨hM, z1, z2⟩
      · exact .inl (by simpa using hM)
    have hee : (E2 != 0) = true ∨ (E2 = 0 ∧ V2 ≤ V) := by
      by_cases hM : E2 = 0
      · exact .inr ⟨hM, Hm'.out hM⟩
      · exact .inl (by simpa using hM)
    clear Hz' Hm'
    rcases hzz with hzz | ⟨rfl, rfl, rfl⟩ <;> rcases hee with hee | ⟨rfl, hee⟩
    all_goals
      go_wp2_with fail
      refine (C3'.out _ h0).mono ?_
      rintro e w6 ⟨rfl, rfl⟩
      go_wp2
      go_ret
      exact ⟨rfl, hB5⟩
  · have hz := Hno.out hE
    have C1' := Lib.hid (fun (W : World) (h : Rd W 1 A0 n0 (l0.map (Value.int .i64))) => C1.out W a1 h)
    rw [hz] at C1'
    have hne : (nearE l0 a1 != 0) = true := by simpa using hE
    have hne2 : (nearE l0 a1 == 0) = false := by simpa using hE
    clear Hno Hr Hm Hz Hmore C1 C2 C3 hE hz
    go_enter Try.func8, Try.ntmps8
    go_wp2_with fail
    refine C0.out.mono ?_
    rintro e w1 ⟨rfl, hb1⟩
    replace h0 := h0.below hb1
    go_wp2_with fail
    refine (C1'.out _ h0).mono ?_
    rintro e w2 ⟨rfl, hb2⟩
    go_wp2
    go_ret
    exact ⟨rfl, bthen hb1 hb2⟩
end Go.Proofs.Ytiaemlfkpnpkaaa
