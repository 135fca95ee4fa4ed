/-
  The laws EvqOnce and EvqAhead.
-/
import Derived.Test.YtlanmehbcpgoaaaEvqLaws2
import Derived.Test.YtlanmehbcpgoaaaFlatCut
namespace Go.Proofs.Ytlanmehbcpgoaaa
open Go.RowKit
set_option linter.unusedVariables false

theorem once_facts (l : List EvO) : handedL l (evErrs l) = (evRun l).al ∧ (evTaken (evRun l)).length ≤ (evRun l).al.length ∧ (evRun l).al.take (evTaken (evRun l)).length = evTaken (evRun l) ∧
    0 ≤ ((evRun l).al.length : Int) - ((evRun l).kn : Int) ∧ ((evRun l).al.length : Int) - ((evRun l).kn : Int) ≤ 4 ∧ 0 ≤ ((evRun l).cm : Int) - ((evRun l).tk : Int) ∧ ((evRun l).cm : Int) - ((evRun l).tk : Int) ≤ 4 := by
  have hok := ev_ok l
  have h := taken_len hok
  obtain ⟨k1, k2, k3, k4, k5, k6⟩ := hok
  refine ⟨handed_run l, by omega, by rw [h]; rfl, by omega, by omega, by omega, by omega⟩
set_option maxHeartbeats 1600000 in
theorem EvqOnce_walk (A0 : Option Addr) (n0 c0 : Nat) (l0 : List EvO) (w : World) (h0 : RdG opC 2 w A0 n0 l0) (q0 : ∀ s ∈ l0, in64 s.kd ∧ in64 s.n) (k0 : n0 ≤ c0) (b0 : c0 * 16 ≤ 140737488351232) :
    Calls Try.prog 4 #[.slice A0 n0 c0] w fun e w' => e = .returned (.bool true) ∧ Below w.heap.size w w' := by
  have hl0 := RdG.len opK h0
  have C0 := Lib.hid (alive18_any w)
  have C1 := Lib.hid (fun (W : World) (hW : RdG opC 2 W A0 n0 l0) => Play_any A0 n0 c0 l0 W hW (by omega))
  have CH := Lib.hid (fun (W : World) (hW : RdG opC 2 W A0 n0 l0) (B : Option Addr) (d : Nat) (hB : Rd W 1 B n0 ((evErrs l0).map (Value.int .i64))) => handed_any A0 n0 c0 l0 B d (evErrs l0) W hW hB (by omega))
  have hel : (evErrs l0).length = n0 := by rw [evErrs_length, hl0]
  obtain ⟨e1, e2, e3, e4, e5, e6, e7⟩ := once_facts l0
  have hsm := evRun_small l0
  rw [e1] at CH
  unfold GivesPlay at C1
  generalize evErrs l0 = E at *
  generalize evTaken (evRun l0) = T at *
  generalize ((evRun l0).cm : Int) - ((evRun l0).tk : Int) = U at *
  generalize ((evRun l0).al.length : Int) - ((evRun l0).kn : Int) = D at *
  generalize (evRun l0).al = H at *
  obtain ⟨k, hk⟩ : ∃ k, T.length = k := ⟨_, rfl⟩
  obtain ⟨m, hm⟩ : ∃ m, H.length = m := ⟨_, rfl⟩
  have hmn : m ≤ n0 := by omega
  rw [hk, hm] at e2
  have E3 := Lib.hid e3
  rw [hk] at E3
  clear q0 hl0 e1 e3 hsm
  go_enter Try.func4, Try.ntmps4
  go_wp2_with fail
  refine C0.out.mono ?_
  rintro e w1 ⟨rfl, hb1⟩
  have h1 := h0.below hb1
  clear C0 h0
  go_wp2_with fail
  refine (C1.out _ h1).mono ?_
  rintro e w2 ⟨u2, v2, rfl, he2, ht2, hb2⟩
  have hB := bthen hb1 hb2
  obtain ⟨A2, c2, rfl, hc2, -, r2⟩ := he2.formN hel
  obtain ⟨B2, d2, rfl, hd2, -, s2⟩ := ht2.formN hk
  have X2 := Lib.hid (Box.new w2 25 [.int .i64 D, .int .i64 U])
  have R2 := Lib.hid (r2.alloc (.cells #[.int .i64 D, .int .i64 U] 25))
  have S2 := Lib.hid (s2.alloc (.cells #[.int .i64 D, .int .i64 U] 25))
  have H2 := Lib.hid ((h1.below hb2).alloc (.cells #[.int .i64 D, .int .i64 U] 25))
  have HB := Lib.hid (hB.alloc hB.size (.cells #[.int .i64 D, .int .i64 U] 25))
  clear C1 hb1 hb2 he2 ht2 r2 s2 hB h1
  go_upto_region 4 with fail
  change Hid (Box (w2.alloc (.cells #[.int .i64 D, .int .i64 U] 25)) _ _ _) at X2
  generalize w2.alloc (.cells #[.int .i64 D, .int .i64 U] 25) = w3 at *
  go_wp2_with fail
  refine (CH.out _ H2.out _ _ R2.out).mono ?_
  rintro e w4 ⟨v4, rfl, ho4, hb4⟩
  obtain ⟨A4, c4, rfl, hc4, -, r4⟩ := ho4.formN hm
  have hB4 := bthen HB.out hb4
  have S4 := Lib.hid (S2.out.below hb4)
  have X4 := Lib.hid (X2.out.below hb4 X2.out.lt)
  have hsl := fun (W : World) => run_to elInt (P := Try.prog) W A4 m c4 k (by omega)
  have ht := r4.take e2
  rw [Nat.mul_one, ← List.map_take, E3.out] at ht
  have CI := Lib.hid (EqualI_any_same B2 A4 k d2 k c4 T w4 S4.out ht (by omega))
  clear CH R2 S2 X2 H2 HB hb4 ho4 r4 ht
  go_wp2_with fail
  refine CI.out.mono ?_
  rintro e w5 ⟨rfl, hb5⟩
  have hB5 := bthen hB4 hb5
  have x5 := X4.out.below hb5 X4.out.lt
  have p0 := x5.cell 0 rfl
  have p1 := x5.cell 1 rfl
  have hl5 := x5.lt
  clear CI S4 X4 hb5 hB4 x5 hsl
  go_wp2
  go_ret
  exact ⟨rfl, hB5⟩
theorem ahead_facts (l : List EvO) {n : Nat} (h : n ≤ l.length) : (evErrs l).take n = evErrs (l.take n) ∧ (evTaken (evRun (l.take n))).length ≤ (evTaken (evRun l)).length ∧ (evTaken (evRun l)).take (evTaken (evRun (l.take n))).length = evTaken (evRun (l.take n)) := by
  have h2 := taken_later (l.take n) (l.drop n)
  have h1 := evErrs_append (l.take n) (l.drop n)
  rw [List.take_append_drop] at h1 h2
  refine ⟨?_, h2⟩
  rw [h1, List.take_append_of_le_length (by rw [evErrs_length, List.length_take]; omega), List.take_of_length_le (by rw [evErrs_length, List.length_take]; omega)]
set_option maxHeartbeats 1600000 in
theorem EvqAhead_walk (A0 : Option Addr) (n0 c0 : Nat) (l0 : List EvO) (a1 : Int) (w : World) (h0 : RdG opC 2 w A0 n0 l0) (q0 : ∀ s ∈ l0, in64 s.kd ∧ in64 s.n) (k0 : n0 ≤ c0) (b0 : c0 * 16 ≤ 140737488351232) (w1 : (Lit.int .i64 a1).wf = true) :
    Calls Try.prog 7 #[.slice A0 n0 c0, .int .i64 a1] w fun e w' => e = .returned (.bool true) ∧ Below w.heap.size w w' := by
  have hl0 := RdG.len opK h0
  have C0 := Lib.hid (alive18_any w)
  by_cases hneg : a1 < 0
  · clear q0
    go_enter Try.func7, Try.ntmps7
    go_wp2_with fail
    refine C0.out.mono ?_
    rintro e w1 ⟨rfl, hb1⟩
    go_wp2
    go_ret
    exact ⟨rfl, hb1⟩
  by_cases hbig : (n0 : Int) < a1
  · clear q0
    go_enter Try.func7, Try.ntmps7
    go_wp2_with fail
    refine C0.out.mono ?_
    rintro e w1 ⟨rfl, hb1⟩
    go_wp2
    go_ret
    exact ⟨rfl, hb1⟩
  obtain ⟨p, rfl⟩ := Int.eq_ofNat_of_zero_le (show 0 ≤ a1 by omega)
  have hp : p ≤ n0 := by omega
  have hp' : ¬ (n0 : Int) < (p : Int) := by omega
  have C1 := Lib.hid (fun (W : World) (hW : RdG opC 2 W A0 n0 l0) => Play_any A0 n0 c0 l0 W hW (by omega))
  have htk : ∀ (W : World), RdG opC 2 W A0 n0 l0 → RdG opC 2 W A0 p (l0.take p) := fun W hW => hW.takeTo opK.len hp
  have C2 := Lib.hid (fun (W : World) (hW : RdG opC 2 W A0 n0 l0) => Play_any A0 p c0 (l0.take p) W (htk W hW) (by omega))
  obtain ⟨f1, f2, f3⟩ := ahead_facts l0 (n := p) (by omega)
  have hel : (evErrs l0).length = n0 := by rw [evErrs_length, hl0]
  have hel2 : (evErrs (l0.take p)).length = p := by rw [evErrs_length, List.length_take]; omega
  have hsm := taken_small l0
  unfold GivesPlay at C1 C2
  generalize evErrs (l0.take p) = E' at *
  generalize evTaken (evRun (l0.take p)) = T' at *
  generalize ((evRun (l0.take p)).cm : Int) - ((evRun (l0.take p)).tk : Int) = U' at *
  generalize ((evRun (l0.take p)).al.length : Int) - ((evRun (l0.take p)).kn : Int) = D' at *
  generalize evErrs l0 = E at *
  generalize evTaken (evRun l0) = T at *
  generalize ((evRun l0).cm : Int) - ((evRun l0).tk : Int) = U at *
  generalize ((evRun l0).al.length : Int) - ((evRun l0).kn : Int) = D at *
  obtain ⟨k, hk⟩ : ∃ k, T.length = k := ⟨_, rfl⟩
  obtain ⟨m, hm⟩ : ∃ m, T'.length = m := ⟨_, rfl⟩
  rw [hm] at f2 f3
  rw [hk] at f2 hsm
  have hkn : k ≤ n0 := by omega
  have F1 := Lib.hid f1
  have F3 := Lib.hid f3
  have hs0 := fun (W : World) => run_to elOp (P := Try.prog) W A0 n0 c0 p (by omega)
  clear q0 hl0 f1 f3 hsm htk hneg hbig
  go_enter Try.func7, Try.ntmps7
  go_wp2_with fail
  refine C0.out.mono ?_
  rintro e w1 ⟨rfl, hb1⟩
  have h1 := h0.below hb1
  clear C0 h0
  go_wp2_with fail
  refine (C1.out _ h1).mono ?_
  rintro e w2 ⟨u2, v2, rfl, he2, ht2, hb2⟩
  have hB := bthen hb1 hb2
  have X2 := Lib.hid (Box.new w2 25 [.int .i64 D, .int .i64 U])
  have R2 := Lib.hid (he2.alloc (.cells #[.int .i64 D, .int .i64 U] 25))
  have S2 := Lib.hid (ht2.alloc (.cells #[.int .i64 D, .int .i64 U] 25))
  have H2 := Lib.hid ((h1.below hb2).alloc (.cells #[.int .i64 D, .int .i64 U] 25))
  have HB := Lib.hid (hB.alloc hB.size (.cells #[.int .i64 D, .int .i64 U] 25))
  clear C1 hb1 hb2 he2 ht2 hB h1 X2
  go_upto_region 6 with fail
  generalize w2.alloc (.cells #[.int .i64 D, .int .i64 U] 25) = w3 at *
  go_wp2_with fail
  refine (C2.out _ H2.out).mono ?_
  rintro e w4 ⟨u4, v4, rfl, he4, ht4, hb4⟩
  have hB4 := bthen HB.out hb4
  obtain ⟨A2, c2, rfl, hc2, -, r2⟩ := (R2.out.below hb4).formN hel
  obtain ⟨B2, d2, rfl, hd2, -, s2⟩ := (S2.out.below hb4).formN hk
  obtain ⟨A4, c4, rfl, hc4, -, r4⟩ := he4.formN hel2
  obtain ⟨B4, d4, rfl, hd4, -, s4⟩ := ht4.formN hm
  have t2 := r2.take hp
  rw [Nat.mul_one, ← List.map_take, F1.out] at t2
  have q2 := s2.take f2
  rw [Nat.mul_one, ← List.map_take, F3.out] at q2
  have hsl := fun (W : World) => run_to elErr (P := Try.prog) W A2 n0 c2 p (by omega)
  have hsl2 := fun (W : World) => run_to elInt (P := Try.prog) W B2 k d2 m (by omega)
  have T2 := Lib.hid (t2.alloc (.cells #[.int .i64 D', .int .i64 U'] 25))
  have R4 := Lib.hid (r4.alloc (.cells #[.int .i64 D', .int .i64 U'] 25))
  have Q2 := Lib.hid (q2.alloc (.cells #[.int .i64 D', .int .i64 U'] 25))
  have S4 := Lib.hid (s4.alloc (.cells #[.int .i64 D', .int .i64 U'] 25))
  have HB4 := Lib.hid (hB4.alloc hB4.size (.cells #[.int .i64 D', .int .i64 U'] 25))
  clear C2 R2 S2 H2 HB hb4 he4 ht4 r2 s2 r4 s4 t2 q2 hB4 hs0
  go_upto_region 7 with fail
  generalize w4.alloc (.cells #[.int .i64 D', .int .i64 U'] 25) = w5 at *
  have CE := Lib.hid (EqualE_any_same A2 A4 p c2 p c4 E' w5 T2.out R4.out (by omega))
  have CI := Lib.hid (fun (W : World) (g : Rd W 1 B2 m (T'.map (Value.int .i64))) (g' : Rd W 1 B4 m (T'.map (Value.int .i64))) => EqualI_any_same B2 B4 m d2 m d4 T' W g g' (by omega))
  go_wp2_with fail
  refine CE.out.mono ?_
  rintro e w6 ⟨rfl, hb6⟩
  have hB6 := bthen HB4.out hb6
  have Q6 := Lib.hid (Q2.out.below hb6)
  have S6 := Lib.hid (S4.out.below hb6)
  clear CE T2 R4 Q2 S4 HB4 hb6
  go_wp2_with fail
  refine (CI.out _ Q6.out S6.out).mono ?_
  rintro e w7 ⟨rfl, hb7⟩
  have hB7 := bthen hB6 hb7
  clear CI Q6 S6 hB6 hb7
  go_wp2
  go_ret
  exact ⟨rfl, hB7⟩
end Go.Proofs.Ytlanmehbcpgoaaa
