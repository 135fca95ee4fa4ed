/-
  The walk of PlanMakes: it returns true, at every argument.
-/
import Derived.Test.YtgkdjdckdomnmaaPlanRef2
import Derived.Test.YtgkdjdckdomnmaaPlanLaws
namespace Go.Proofs.Ytgkdjdckdomnmaa
open Go.RowKit
set_option linter.unusedVariables false

theorem ne_self (x : Int) : (x != x) = false := by simp

set_option maxRecDepth 20000 in
set_option maxHeartbeats 1600000 in
theorem PlanMakes_walk (A0 : Option Addr) (n0 c0 : Nat) (l0 : List Int) (A1 : Option Addr) (n1 c1 : Nat) (l1 : List Int) (w : World) (h0 : Rd w 1 A0 n0 (l0.map (Value.int .i64))) (q0 : ∀ x ∈ l0, (Lit.int .i64 x).wf = true) (k0 : n0 ≤ c0) (b0 : c0 * 8 ≤ 140737488351232)
    (h1 : Rd w 1 A1 n1 (l1.map (Value.int .i64))) (q1 : ∀ x ∈ l1, (Lit.int .i64 x).wf = true) (k1 : n1 ≤ c1) (b1 : c1 * 8 ≤ 140737488351232) :
    Calls Try.prog 3 #[.slice A0 n0 c0, .slice A1 n1 c1] w fun e w' => e = .returned (.bool true) ∧ Below w.heap.size w w' := by
  have hL := in64s_wf q0
  have hF := in64s_wf q1
  have hn : n0 ≤ 140737488355328 := by omega
  have hm : n1 ≤ 140737488355328 := by omega
  have Hl := Lib.hid h0.lenMap
  have Hf := Lib.hid h1.lenMap
  have C1 := Lib.hid (fun (W : World) (h : Rd W 1 A0 n0 (l0.map (Value.int .i64))) => Load_any A0 n0 c0 l0 W h hL hn)
  have C2 := Lib.hid (fun (W : World) (h : Rd W 1 A0 n0 (l0.map (Value.int .i64))) => Make_any A0 n0 c0 l0 W h hL hn)
  have C3 := Lib.hid (fun (W : World) (h : Rd W 1 A0 n0 (l0.map (Value.int .i64))) (h' : Rd W 1 A1 n1 (l1.map (Value.int .i64))) => Right_any A0 n0 c0 l0 A1 n1 c1 l1 W h hL hn h' hF hm)
  have C4 := Lib.hid (fun (W : World) (h : Rd W 1 A0 n0 (l0.map (Value.int .i64))) => JWrong_any A0 n0 c0 l0 W h hL hn)
  have C5 := Lib.hid (fun (W : World) (h : Rd W 1 A0 n0 (l0.map (Value.int .i64))) => Wrong_any A0 n0 c0 l0 W h hL hn)
  clear q0 q1
  by_cases hz : jwrong l0 = 0
  · rw [if_pos hz, hz] at C1
    rw [hz] at C4 C5
    obtain ⟨h4, hp⟩ := jwrong_zero.1 hz
    rw [Hl.out] at h4
    obtain ⟨s1, s2⟩ := load_range hp
    have hs3 : loadS l0 ≤ 25600 := by rw [Hl.out] at s2; omega
    clear s2
    have HM1 : Hid (loadS l0 ≤ 64 → makeE l0 = 0 ∧ makeR l0 = makeL l0) := fun h => ⟨makeE_yes hz h, makeR_yes hz h⟩
    have HM2 : Hid (¬ loadS l0 ≤ 64 → makeE l0 = 4 ∧ makeR l0 = []) := fun h => ⟨makeE_full hz h, makeR_full h⟩
    have HR1 : Hid (n0 = n1 → rightE l0 l1 = 0 ∧ rightR l0 l1 = rightF none0 l0 l1) := fun h => ⟨rightE_yes hz (by rw [Hl.out, Hf.out, h]), rightR_yes hz (by rw [Hl.out, Hf.out, h])⟩
    have HR2 : Hid (¬ n0 = n1 → rightE l0 l1 = 1 ∧ rightR l0 l1 = false) := fun h => ⟨by rw [rightE, if_pos hz, if_neg (by rw [Hl.out, Hf.out]; exact h)], by rw [rightR, if_neg (by rw [Hl.out, Hf.out]; exact fun e => h e.2)]⟩
    have C6 := Lib.hid (fun (W : World) (h : Rd W 1 A0 n0 (l0.map (Value.int .i64))) (hl : loadS l0 ≤ 64) => JMake_any A0 n0 c0 l0 W h hz hl)
    have C7 := Lib.hid (fun (W : World) (h : Rd W 1 A0 n0 (l0.map (Value.int .i64))) (h' : Rd W 1 A1 n0 (l1.map (Value.int .i64))) => JRight_any A0 n0 c0 l0 A1 c1 l1 W h hp h4 h' hF)
    have Hp := Lib.hid hp
    have Hml : Hid ((makeL l0).length = n0) := by show _ = _; rw [make_len, Hl.out]
    have Hr := Lib.hid (fun (k : Nat) => load_range (Hp.out.take k))
    have Hall : Hid (loadS (l0.take n0) = loadS l0) := by show _ = _; rw [List.take_of_length_le (by rw [Hl.out]; exact Nat.le_refl _)]
    clear hz hp
    generalize loadS l0 = S at C1 HM1 HM2 s1 hs3 C6 Hall
    generalize makeE l0 = fe at C2 HM1 HM2
    generalize makeR l0 = M at C2 HM1 HM2
    generalize makeL l0 = ML at C6 HM1 Hml
    generalize rightE l0 l1 = ge at C3 HR1 HR2
    generalize rightR l0 l1 = R at C3 HR1 HR2
    generalize rightF none0 l0 l1 = RF at C7 HR1
    go_enter Try.func3, Try.ntmps3
    go_wp2_with fail
    refine (C1.out w h0).mono ?_
    rintro e w1' ⟨rfl, rfl⟩
    go_wp2_with fail
    refine (C2.out w h0).mono ?_
    rintro e w2 ⟨v, rfl, ho, hb2⟩
    obtain ⟨L, hL2⟩ : ∃ L, M.length = L := ⟨_, rfl⟩
    obtain ⟨B, d, rfl, hd1, hd2, hrM⟩ := ho.formN hL2
    have HL := Lib.hid hL2
    clear ho hL2 hd1 hd2
    go_wp2_with fail
    refine (C3.out w2 (h0.below hb2) (h1.below hb2)).mono ?_
    rintro e w3 ⟨rfl, hb3⟩
    have hB3 := bthen hb2 hb3
    replace hrM := hrM.below hb3
    have HrM := Lib.hid hrM
    clear hb2 hb3 hrM
    go_wp2_with fail
    refine (C4.out w3 (h0.below hB3)).mono ?_
    rintro e w3' ⟨rfl, rfl⟩
    go_wp2_with fail
    refine (C5.out w3 (h0.below hB3)).mono ?_
    rintro e w3' ⟨rfl, rfl⟩
    go_wp2
    go_loop [12, 69] (fun v i => ∃ (k : Nat), k ≤ n0 ∧ i = .int .i64 k ∧ v = .int .i64 (loadS (l0.take k))) (fun _ i => n0 - (intOf i).toNat)
    case atStart => exact ⟨0, Nat.zero_le _, rfl, rfl⟩
    case round =>
      obtain ⟨k, hk, rfl, rfl⟩ := hrel
      by_cases hlt : k < n0
      · obtain ⟨ad, p, rfl, hx, hc⟩ := (h0.below hB3).atMap hlt
        have hpw := Hp.out p (List.mem_of_getElem? hx)
        obtain ⟨p1, p2⟩ := hpw.range
        have hq := hpw.quo
        obtain ⟨u1, u2⟩ := hpw.part
        obtain ⟨t1, t2⟩ := Hr.out k
        have ht3 : loadS (l0.take k) ≤ 25600 := by rw [List.length_take] at t2; omega
        clear t2
        have Ht : Hid (loadS (l0.take (k + 1)) = loadS (l0.take k) + 64 / p) := by show _ = _; rw [take_snoc hx, load_snoc]
        clear hx hpw
        generalize loadS (l0.take k) = T at t1 ht3 Ht ⊢
        generalize (64 : Int) / p = Q at u1 u2 Ht hq
        go_wp2
        go_round
        case rel => exact ⟨k + 1, by omega, by go_num, by rw [Ht.out]⟩
        case measure => simp [intOf] <;> omega
      · obtain rfl : k = n0 := by omega
        rw [Hall.out]
        have hSS := ne_self S
        by_cases hnm : k = n1
        · subst hnm
          obtain ⟨rfl, rfl⟩ := HR1.out rfl
          have hkk := ne_self (k : Int)
          have hRR : (R != R) = false := by simp
          by_cases hload : S ≤ 64
          · obtain ⟨rfl, rfl⟩ := HM1.out hload
            have hle : decide ((64 : Int) < S) = false := decide_eq_false (by omega)
            have HC6 := Lib.hid (fun (W : World) (h : Rd W 1 A0 k (l0.map (Value.int .i64))) => C6.out W h hload)
            clear hload
            go_wp2_with fail
            refine (C7.out w3 (h0.below hB3) (h1.below hB3)).mono ?_
            rintro e w4 ⟨rfl, hb4⟩
            have hB4 := bthen hB3 hb4
            have HrM4 := Lib.hid (HrM.out.below hb4)
            clear hb4
            go_wp2_with fail
            refine (HC6.out w4 (h0.below hB4)).mono ?_
            rintro e w5 ⟨v5, rfl, ho5, hb5⟩
            obtain ⟨B5, d5, rfl, _, _, hr5⟩ := ho5.formN HL.out
            have hB5 := bthen hB4 hb5
            have HrM5 := Lib.hid (HrM4.out.below hb5)
            have hLn : L ≤ 4611686018427387904 := by have e1 := HL.out; have e2 := Hml.out; omega
            have HLn := Lib.hid hLn
            clear ho5 hb5 hLn
            go_wp2_with fail
            refine (EqualI_any_same B B5 L d L d5 M w5 HrM5.out hr5 HLn.out).mono ?_
            rintro e w6 ⟨rfl, hb6⟩
            go_wp2
            go_ret
            exact ⟨rfl, bthen hB5 hb6⟩
          · obtain ⟨rfl, rfl⟩ := HM2.out (by omega)
            obtain rfl : L = 0 := HL.out.symm
            have hle : decide ((64 : Int) < S) = true := decide_eq_true (by omega)
            clear hload
            go_wp2_with fail
            refine (C7.out w3 (h0.below hB3) (h1.below hB3)).mono ?_
            rintro e w4 ⟨rfl, hb4⟩
            go_wp2
            go_ret
            exact ⟨rfl, bthen hB3 hb4⟩
        · obtain ⟨rfl, rfl⟩ := HR2.out hnm
          have hne : ((k : Int) != (n1 : Int)) = true := by rw [bne_iff_ne]; omega
          clear hnm
          by_cases hload : S ≤ 64
          · obtain ⟨rfl, rfl⟩ := HM1.out hload
            have hle : decide ((64 : Int) < S) = false := decide_eq_false (by omega)
            have HC6 := Lib.hid (fun (W : World) (h : Rd W 1 A0 k (l0.map (Value.int .i64))) => C6.out W h hload)
            clear hload
            go_wp2_with fail
            refine (HC6.out w3 (h0.below hB3)).mono ?_
            rintro e w5 ⟨v5, rfl, ho5, hb5⟩
            obtain ⟨B5, d5, rfl, _, _, hr5⟩ := ho5.formN HL.out
            have hB5 := bthen hB3 hb5
            have HrM5 := Lib.hid (HrM.out.below hb5)
            have hLn : L ≤ 4611686018427387904 := by have e1 := HL.out; have e2 := Hml.out; omega
            have HLn := Lib.hid hLn
            clear ho5 hb5 hLn
            go_wp2_with fail
            refine (EqualI_any_same B B5 L d L d5 M w5 HrM5.out hr5 HLn.out).mono ?_
            rintro e w6 ⟨rfl, hb6⟩
            go_wp2
            go_ret
            exact ⟨rfl, bthen hB5 hb6⟩
          · obtain ⟨rfl, rfl⟩ := HM2.out (by omega)
            obtain rfl : L = 0 := HL.out.symm
            have hle : decide ((64 : Int) < S) = true := decide_eq_true (by omega)
            clear hload
            go_wp2
            go_ret
            exact ⟨rfl, hB3⟩
  · rw [if_neg hz] at C1
    rw [makeR_no hz, makeE_no hz] at C2
    have hR : rightR l0 l1 = false := by rw [rightR, if_neg (fun e => hz e.1)]
    have hE : rightE l0 l1 = jwrong l0 := by rw [rightE, if_neg hz]
    rw [hR, hE] at C3
    have hx : (jwrong l0 != 0) = true := by simpa using hz
    clear hz hR hE
    generalize jwrong l0 = x at C1 C2 C3 C4 C5 hx
    have hxx := ne_self x
    go_enter Try.func3, Try.ntmps3
    go_wp2_with fail
    refine (C1.out w h0).mono ?_
    rintro e w1' ⟨rfl, rfl⟩
    go_wp2_with fail
    refine (C2.out w h0).mono ?_
    rintro e w2 ⟨v, rfl, ho, hb2⟩
    obtain ⟨B, d, rfl, _, _, hrM⟩ := ho.formN (n := 0) rfl
    go_wp2_with fail
    refine (C3.out w2 (h0.below hb2) (h1.below hb2)).mono ?_
    rintro e w3 ⟨rfl, hb3⟩
    have hB3 := bthen hb2 hb3
    go_wp2_with fail
    refine (C4.out w3 (h0.below hB3)).mono ?_
    rintro e w3' ⟨rfl, rfl⟩
    go_wp2_with fail
    refine (C5.out w3 (h0.below hB3)).mono ?_
    rintro e w3' ⟨rfl, rfl⟩
    go_wp2
    go_ret
    exact ⟨rfl, hB3⟩
end Go.Proofs.Ytgkdjdckdomnmaa
