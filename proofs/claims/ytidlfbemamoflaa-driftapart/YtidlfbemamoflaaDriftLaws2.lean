/-
  The walk of DriftApart: it returns true, at every argument.
-/
import Derived.Test.YtidlfbemamoflaaDriftLaws
namespace Go.Proofs.Ytidlfbemamoflaa
open Go.RowKit
set_option linter.unusedVariables false

theorem apartE_ok {r o r' o' t : Int} : apartE r o r' o' t = 0 ↔ checkK r o t = 0 ∧ checkK r' o' t = 0 := by
  unfold apartE; split <;> simp_all

/-- All there is to say of the fourth line. -/
theorem apart_all {ra oa rb ob rc oc t : Int} (ha : ClockOk ra oa) (hb : ClockOk rb ob) (hc : ClockOk rc oc) (ht : InTime t) :
    ∃ x y z : Int, apartV ra oa rb ob t = x ∧ apartV rb ob rc oc t = y ∧ apartV ra oa rc oc t = z ∧ apartV rb ob ra oa t = x ∧ 0 ≤ x ∧ x ≤ 2300000000000 ∧ 0 ≤ y ∧ y ≤ 2300000000000 ∧ z ≤ x + y ∧
      (x ≠ 0 → ra = rb → oa = ob → False) ∧
      (rb - ra ≤ ra - rb → x ≤ max (oa - ob) (ob - oa) + (t / 1000000 + 1) * (ra - rb) + 1 ∧ 0 ≤ (t / 1000000 + 1) * (ra - rb) ∧ (t / 1000000 + 1) * (ra - rb) ≤ 3000000000) ∧
      (ra - rb ≤ rb - ra → x ≤ max (oa - ob) (ob - oa) + (t / 1000000 + 1) * (rb - ra) + 1 ∧ 0 ≤ (t / 1000000 + 1) * (rb - ra) ∧ (t / 1000000 + 1) * (rb - ra) ≤ 3000000000) := by
  have A := showsV_range ha ht
  have B := showsV_range hb ht
  have C := showsV_range hc ht
  have R := apart_rates (r := ra) (o := oa) (r' := rb) (o' := ob) ht.1
  obtain ⟨ha1, ha2, ha3, ha4⟩ := ha
  obtain ⟨hb1, hb2, hb3, hb4⟩ := hb
  obtain ⟨ht1, ht2⟩ := ht
  have M : ∀ d : Int, 0 ≤ d → d ≤ 2000 → 0 ≤ (t / 1000000 + 1) * d ∧ (t / 1000000 + 1) * d ≤ 3000000000 := by
    intro d h0 h1
    refine ⟨Int.mul_nonneg (by omega) h0, ?_⟩
    have := Int.mul_le_mul (show t / 1000000 + 1 ≤ 1500000 by omega) h1 h0 (by omega)
    omega
  refine ⟨_, _, _, rfl, rfl, rfl, apart_comm _ _ _ _ _, by unfold apartV; omega, by unfold apartV; omega, by unfold apartV; omega, by unfold apartV; omega, apart_three _ _ _ _ _ _ _, ?_, ?_, ?_⟩
  · rintro h rfl rfl; exact h (apart_same _ _ _)
  · intro h
    rw [Int.max_eq_left h] at R
    exact ⟨R, M _ (by omega) (by omega)⟩
  · intro h
    rw [Int.max_eq_right h] at R
    exact ⟨R, M _ (by omega) (by omega)⟩

theorem three_boxes {w w1 : World} {t : TypeId} {a b c d e f : Value} (hb : Below (((w.alloc (.cells #[a, b] t)).alloc (.cells #[c, d] t)).alloc (.cells #[e, f] t)).heap.size (((w.alloc (.cells #[a, b] t)).alloc (.cells #[c, d] t)).alloc (.cells #[e, f] t)) w1) :
    Box w1 w.heap.size t [a, b] ∧ Box w1 (w.heap.size + 1) t [c, d] ∧ Box w1 (w.heap.size + 2) t [e, f] := by
  refine ⟨(((Box.new w t [a, b]).alloc _).alloc _).below hb (by simp; omega), ?_, ?_⟩
  · have h := ((Box.new (w.alloc (.cells #[a, b] t)) t [c, d]).alloc (.cells #[e, f] t)).below hb (by simp)
    simpa using h
  · have h := (Box.new ((w.alloc (.cells #[a, b] t)).alloc (.cells #[c, d] t)) t [e, f]).below hb (by simp)
    simpa using h

set_option maxRecDepth 20000 in
set_option maxHeartbeats 2000000 in
theorem DriftApart_walk (ra oa rb ob rc oc t : Int) (w : World) (w1 : (Lit.int .i64 ra).wf = true) (w2 : (Lit.int .i64 oa).wf = true) (w3 : (Lit.int .i64 rb).wf = true) (w4 : (Lit.int .i64 ob).wf = true) (w5 : (Lit.int .i64 rc).wf = true) (w6 : (Lit.int .i64 oc).wf = true) (w7 : (Lit.int .i64 t).wf = true) :
    Calls Try.prog 6 #[clockV ra oa, clockV rb ob, clockV rc oc, .int .i64 t] w fun e w' => e = .returned (.bool true) ∧ Below w.heap.size w w' := by
  have h1 := in64_wf w1
  have h2 := in64_wf w2
  have h3 := in64_wf w3
  have h4 := in64_wf w4
  have h5 := in64_wf w5
  have h6 := in64_wf w6
  have h7 := in64_wf w7
  clear w1 w2 w3 w4 w5 w6 w7
  have C0 := Lib.hid (fun (W : World) => alive11_any W)
  have C1 := Lib.hid (fun (W : World) => Apart_any ra oa rb ob t h1 h2 h3 h4 h7 W)
  have C2 := Lib.hid (fun (W : World) => Apart_any rb ob rc oc t h3 h4 h5 h6 h7 W)
  have C3 := Lib.hid (fun (W : World) => Apart_any ra oa rc oc t h1 h2 h5 h6 h7 W)
  have C4 := Lib.hid (fun (W : World) => Apart_any rb ob ra oa t h3 h4 h1 h2 h7 W)
  clear h1 h2 h3 h4 h5 h6 h7
  by_cases hall : checkK ra oa t = 0 ∧ checkK rb ob t = 0 ∧ checkK rc oc t = 0
  · obtain ⟨ka, kb, kc⟩ := hall
    have e1 : apartE ra oa rb ob t = 0 := apartE_ok.2 ⟨ka, kb⟩
    have e2 : apartE rb ob rc oc t = 0 := apartE_ok.2 ⟨kb, kc⟩
    have e3 : apartE ra oa rc oc t = 0 := apartE_ok.2 ⟨ka, kc⟩
    have e4 : apartE rb ob ra oa t = 0 := apartE_ok.2 ⟨kb, ka⟩
    obtain ⟨x, y, z, hx, hy, hz, hx', x0, x1, y0, y1, hz1, hne, hl, hr⟩ := apart_all (checkK_zero ka).1 (checkK_zero kb).1 (checkK_zero kc).1 (checkK_zero ka).2
    rw [apartR, if_pos e1, e1, hx] at C1
    rw [apartR, if_pos e2, e2, hy] at C2
    rw [apartR, if_pos e3, e3, hz] at C3
    rw [apartR, if_pos e4, e4, hx'] at C4
    obtain ⟨⟨p1, p2, p3, p4⟩, p5, p6⟩ := checkK_zero ka
    obtain ⟨⟨q1, q2, q3, q4⟩, _, _⟩ := checkK_zero kb
    clear ka kb kc e1 e2 e3 e4 hx hy hz hx'
    have hcase : (x == 0) = true ∨ ((x == 0) = false ∧ (ra == rb) = false) ∨ ((x == 0) = false ∧ (ra == rb) = true ∧ (oa == ob) = false) := by
      by_cases k0 : x = 0
      · exact .inl (by simpa using k0)
      · by_cases k1 : ra = rb
        · exact .inr (.inr ⟨by simpa using k0, by simpa using k1, by simpa using (fun k2 => hne k0 k1 k2)⟩)
        · exact .inr (.inl ⟨by simpa using k0, by simpa using k1⟩)
    clear hne
    by_cases go : ob - oa ≤ oa - ob
    · rw [Int.max_eq_left go] at hl hr
      by_cases gr : rb - ra ≤ ra - rb
      · obtain ⟨l1, l2, l3⟩ := hl gr
        clear hr hl
        rcases hcase with k0 | ⟨k0, k1⟩ | ⟨k0, k1, k2⟩
        all_goals
          go_enter Try.func6, Try.ntmps6
          go_wp2_with fail
          refine (C0.out _).mono ?_
          rintro e w1 ⟨rfl, hb1⟩
          obtain ⟨bA, bB, bC⟩ := three_boxes hb1
          have hB1 := below_new (below_new (below_new hb1))
          clear hb1
          have a0 := bA.cell 0 rfl
          have a1 := bA.cell 1 rfl
          have b0 := bB.cell 0 rfl
          have b1 := bB.cell 1 rfl
          have c0 := bC.cell 0 rfl
          have c1 := bC.cell 1 rfl
          go_wp2_with fail
          refine (C1.out _).mono ?_
          rintro e w2 ⟨rfl, hb2⟩
          have bA2 := bA.below hb2 bA.lt
          have bB2 := bB.below hb2 bB.lt
          have bC2 := bC.below hb2 bC.lt
          have hB2 := bthen hB1 hb2
          clear a0 a1 b0 b1 c0 c1 bA bB bC hb2 hB1
          have a0 := bA2.cell 0 rfl
          have a1 := bA2.cell 1 rfl
          have b0 := bB2.cell 0 rfl
          have b1 := bB2.cell 1 rfl
          have c0 := bC2.cell 0 rfl
          have c1 := bC2.cell 1 rfl
          go_wp2_with fail
          refine (C2.out _).mono ?_
          rintro e w3 ⟨rfl, hb3⟩
          have bA3 := bA2.below hb3 bA2.lt
          have bB3 := bB2.below hb3 bB2.lt
          have bC3 := bC2.below hb3 bC2.lt
          have hB3 := bthen hB2 hb3
          clear a0 a1 b0 b1 c0 c1 bA2 bB2 bC2 hb3 hB2
          have a0 := bA3.cell 0 rfl
          have a1 := bA3.cell 1 rfl
          have b0 := bB3.cell 0 rfl
          have b1 := bB3.cell 1 rfl
          have c0 := bC3.cell 0 rfl
          have c1 := bC3.cell 1 rfl
          go_wp2_with fail
          refine (C3.out _).mono ?_
          rintro e w4 ⟨rfl, hb4⟩
          have bA4 := bA3.below hb4 bA3.lt
          have bB4 := bB3.below hb4 bB3.lt
          have hB4 := bthen hB3 hb4
          clear a0 a1 b0 b1 c0 c1 bA3 bB3 bC3 hb4 hB3
          have a0 := bA4.cell 0 rfl
          have a1 := bA4.cell 1 rfl
          have b0 := bB4.cell 0 rfl
          have b1 := bB4.cell 1 rfl
          go_wp2_with fail
          refine (C4.out _).mono ?_
          rintro e w5 ⟨rfl, hb5⟩
          have bA5 := bA4.below hb5 bA4.lt
          have bB5 := bB4.below hb5 bB4.lt
          have hB5 := bthen hB4 hb5
          clear a0 a1 b0 b1 bA4 bB4 hb5 hB4
          have a0 := bA5.cell 0 rfl
          have a1 := bA5.cell 1 rfl
          have b0 := bB5.cell 0 rfl
          have b1 := bB5.cell 1 rfl
          clear bA5 bB5
          go_wp2
          go_ret
          exact ⟨rfl, hB5⟩
      · obtain ⟨l1, l2, l3⟩ := hr (by omega)
        clear hr hl
        rcases hcase with k0 | ⟨k0, k1⟩ | ⟨k0, k1, k2⟩
        all_goals
          go_enter Try.func6, Try.ntmps6
          go_wp2_with fail
          refine (C0.out _).mono ?_
          rintro e w1 ⟨rfl, hb1⟩
          obtain ⟨bA, bB, bC⟩ := three_boxes hb1
          have hB1 := below_new (below_new (below_new hb1))
          clear hb1
          have a0 := bA.cell 0 rfl
          have a1 := bA.cell 1 rfl
          have b0 := bB.cell 0 rfl
          have b1 := bB.cell 1 rfl
          have c0 := bC.cell 0 rfl
          have c1 := bC.cell 1 rfl
          go_wp2_with fail
          refine (C1.out _).mono ?_
          rintro e w2 ⟨rfl, hb2⟩
          have bA2 := bA.below hb2 bA.lt
          have bB2 := bB.below hb2 bB.lt
          have bC2 := bC.below hb2 bC.lt
          have hB2 := bthen hB1 hb2
          clear a0 a1 b0 b1 c0 c1 bA bB bC hb2 hB1
          have a0 := bA2.cell 0 rfl
          have a1 := bA2.cell 1 rfl
          have b0 := bB2.cell 0 rfl
          have b1 := bB2.cell 1 rfl
          have c0 := bC2.cell 0 rfl
          have c1 := bC2.cell 1 rfl
          go_wp2_with fail
          refine (C2.out _).mono ?_
          rintro e w3 ⟨rfl, hb3⟩
          have bA3 := bA2.below hb3 bA2.lt
          have bB3 := bB2.below hb3 bB2.lt
          have bC3 := bC2.below hb3 bC2.lt
          have hB3 := bthen hB2 hb3
          clear a0 a1 b0 b1 c0 c1 bA2 bB2 bC2 hb3 hB2
          have a0 := bA3.cell 0 rfl
          have a1 := bA3.cell 1 rfl
          have b0 := bB3.cell 0 rfl
          have b1 := bB3.cell 1 rfl
          have c0 := bC3.cell 0 rfl
          have c1 := bC3.cell 1 rfl
          go_wp2_with fail
          refine (C3.out _).mono ?_
          rintro e w4 ⟨rfl, hb4⟩
          have bA4 := bA3.below hb4 bA3.lt
          have bB4 := bB3.below hb4 bB3.lt
          have hB4 := bthen hB3 hb4
          clear a0 a1 b0 b1 c0 c1 bA3 bB3 bC3 hb4 hB3
          have a0 := bA4.cell 0 rfl
          have a1 := bA4.cell 1 rfl
          have b0 := bB4.cell 0 rfl
          have b1 := bB4.cell 1 rfl
          go_wp2_with fail
          refine (C4.out _).mono ?_
          rintro e w5 ⟨rfl, hb5⟩
          have bA5 := bA4.below hb5 bA4.lt
          have bB5 := bB4.below hb5 bB4.lt
          have hB5 := bthen hB4 hb5
          clear a0 a1 b0 b1 bA4 bB4 hb5 hB4
          have a0 := bA5.cell 0 rfl
          have a1 := bA5.cell 1 rfl
          have b0 := bB5.cell 0 rfl
          have b1 := bB5.cell 1 rfl
          clear bA5 bB5
          go_wp2
          go_ret
          exact ⟨rfl, hB5⟩
    · rw [Int.max_eq_right (by omega)] at hl hr
      by_cases gr : rb - ra ≤ ra - rb
      · obtain ⟨l1, l2, l3⟩ := hl gr
        clear hr hl
        rcases hcase with k0 | ⟨k0, k1⟩ | ⟨k0, k1, k2⟩
        all_goals
          go_enter Try.func6, Try.ntmps6
          go_wp2_with fail
          refine (C0.out _).mono ?_
          rintro e w1 ⟨rfl, hb1⟩
          obtain ⟨bA, bB, bC⟩ := three_boxes hb1
          have hB1 := below_new (below_new (below_new hb1))
          clear hb1
          have a0 := bA.cell 0 rfl
          have a1 := bA.cell 1 rfl
          have b0 := bB.cell 0 rfl
          have b1 := bB.cell 1 rfl
          have c0 := bC.cell 0 rfl
          have c1 := bC.cell 1 rfl
          go_wp2_with fail
          refine (C1.out _).mono ?_
          rintro e w2 ⟨rfl, hb2⟩
          have bA2 := bA.below hb2 bA.lt
          have bB2 := bB.below hb2 bB.lt
          have bC2 := bC.below hb2 bC.lt
          have hB2 := bthen hB1 hb2
          clear a0 a1 b0 b1 c0 c1 bA bB bC hb2 hB1
          have a0 := bA2.cell 0 rfl
          have a1 := bA2.cell 1 rfl
          have b0 := bB2.cell 0 rfl
          have b1 := bB2.cell 1 rfl
          have c0 := bC2.cell 0 rfl
          have c1 := bC2.cell 1 rfl
          go_wp2_with fail
          refine (C2.out _).mono ?_
          rintro e w3 ⟨rfl, hb3⟩
          have bA3 := bA2.below hb3 bA2.lt
          have bB3 := bB2.below hb3 bB2.lt
          have bC3 := bC2.below hb3 bC2.lt
          have hB3 := bthen hB2 hb3
          clear a0 a1 b0 b1 c0 c1 bA2 bB2 bC2 hb3 hB2
          have a0 := bA3.cell 0 rfl
          have a1 := bA3.cell 1 rfl
          have b0 := bB3.cell 0 rfl
          have b1 := bB3.cell 1 rfl
          have c0 := bC3.cell 0 rfl
          have c1 := bC3.cell 1 rfl
          go_wp2_with fail
          refine (C3.out _).mono ?_
          rintro e w4 ⟨rfl, hb4⟩
          have bA4 := bA3.below hb4 bA3.lt
          have bB4 := bB3.below hb4 bB3.lt
          have hB4 := bthen hB3 hb4
          clear a0 a1 b0 b1 c0 c1 bA3 bB3 bC3 hb4 hB3
          have a0 := bA4.cell 0 rfl
          have a1 := bA4.cell 1 rfl
          have b0 := bB4.cell 0 rfl
          have b1 := bB4.cell 1 rfl
          go_wp2_with fail
          refine (C4.out _).mono ?_
          rintro e w5 ⟨rfl, hb5⟩
          have bA5 := bA4.below hb5 bA4.lt
          have bB5 := bB4.below hb5 bB4.lt
          have hB5 := bthen hB4 hb5
          clear a0 a1 b0 b1 bA4 bB4 hb5 hB4
          have a0 := bA5.cell 0 rfl
          have a1 := bA5.cell 1 rfl
          have b0 := bB5.cell 0 rfl
          have b1 := bB5.cell 1 rfl
          clear bA5 bB5
          go_wp2
          go_ret
          exact ⟨rfl, hB5⟩
      · obtain ⟨l1, l2, l3⟩ := hr (by omega)
        clear hr hl
        rcases hcase with k0 | ⟨k0, k1⟩ | ⟨k0, k1, k2⟩
        all_goals
          go_enter Try.func6, Try.ntmps6
          go_wp2_with fail
          refine (C0.out _).mono ?_
          rintro e w1 ⟨rfl, hb1⟩
          obtain ⟨bA, bB, bC⟩ := three_boxes hb1
          have hB1 := below_new (below_new (below_new hb1))
          clear hb1
          have a0 := bA.cell 0 rfl
          have a1 := bA.cell 1 rfl
          have b0 := bB.cell 0 rfl
          have b1 := bB.cell 1 rfl
          have c0 := bC.cell 0 rfl
          have c1 := bC.cell 1 rfl
          go_wp2_with fail
          refine (C1.out _).mono ?_
          rintro e w2 ⟨rfl, hb2⟩
          have bA2 := bA.below hb2 bA.lt
          have bB2 := bB.below hb2 bB.lt
          have bC2 := bC.below hb2 bC.lt
          have hB2 := bthen hB1 hb2
          clear a0 a1 b0 b1 c0 c1 bA bB bC hb2 hB1
          have a0 := bA2.cell 0 rfl
          have a1 := bA2.cell 1 rfl
          have b0 := bB2.cell 0 rfl
          have b1 := bB2.cell 1 rfl
          have c0 := bC2.cell 0 rfl
          have c1 := bC2.cell 1 rfl
          go_wp2_with fail
          refine (C2.out _).mono ?_
          rintro e w3 ⟨rfl, hb3⟩
          have bA3 := bA2.below hb3 bA2.lt
          have bB3 := bB2.below hb3 bB2.lt
          have bC3 := bC2.below hb3 bC2.lt
          have hB3 := bthen hB2 hb3
          clear a0 a1 b0 b1 c0 c1 bA2 bB2 bC2 hb3 hB2
          have a0 := bA3.cell 0 rfl
          have a1 := bA3.cell 1 rfl
          have b0 := bB3.cell 0 rfl
          have b1 := bB3.cell 1 rfl
          have c0 := bC3.cell 0 rfl
          have c1 := bC3.cell 1 rfl
          go_wp2_with fail
          refine (C3.out _).mono ?_
          rintro e w4 ⟨rfl, hb4⟩
          have bA4 := bA3.below hb4 bA3.lt
          have bB4 := bB3.below hb4 bB3.lt
          have hB4 := bthen hB3 hb4
          clear a0 a1 b0 b1 c0 c1 bA3 bB3 bC3 hb4 hB3
          have a0 := bA4.cell 0 rfl
          have a1 := bA4.cell 1 rfl
          have b0 := bB4.cell 0 rfl
          have b1 := bB4.cell 1 rfl
          go_wp2_with fail
          refine (C4.out _).mono ?_
          rintro e w5 ⟨rfl, hb5⟩
          have bA5 := bA4.below hb5 bA4.lt
          have bB5 := bB4.below hb5 bB4.lt
          have hB5 := bthen hB4 hb5
          clear a0 a1 b0 b1 bA4 bB4 hb5 hB4
          have a0 := bA5.cell 0 rfl
          have a1 := bA5.cell 1 rfl
          have b0 := bB5.cell 0 rfl
          have b1 := bB5.cell 1 rfl
          clear bA5 bB5
          go_wp2
          go_ret
          exact ⟨rfl, hB5⟩
  · have hor : (apartE ra oa rb ob t != 0) = true ∨ (apartE ra oa rb ob t = 0 ∧ (apartE rb ob rc oc t != 0) = true) := by
      by_cases g1 : apartE ra oa rb ob t = 0
      · refine .inr ⟨g1, ?_⟩
        obtain ⟨ka, kb⟩ := apartE_ok.1 g1
        have : ¬ apartE rb ob rc oc t = 0 := fun g2 => hall ⟨ka, kb, (apartE_ok.1 g2).2⟩
        simpa using this
      · exact .inl (by simpa using g1)
    clear hall
    generalize apartR ra oa rb ob t = x1 at *
    generalize apartR rb ob rc oc t = x2 at *
    generalize apartR ra oa rc oc t = x3 at *
    generalize apartR rb ob ra oa t = x4 at *
    generalize apartE ra oa rb ob t = e1 at *
    generalize apartE rb ob rc oc t = e2 at *
    generalize apartE ra oa rc oc t = e3 at *
    generalize apartE rb ob ra oa t = e4 at *
    rcases hor with g | ⟨rfl, g⟩
    all_goals
      go_enter Try.func6, Try.ntmps6
      go_wp2_with fail
      refine (C0.out _).mono ?_
      rintro e w1 ⟨rfl, hb1⟩
      obtain ⟨bA, bB, bC⟩ := three_boxes hb1
      have hB1 := below_new (below_new (below_new hb1))
      clear hb1
      have a0 := bA.cell 0 rfl
      have a1 := bA.cell 1 rfl
      have b0 := bB.cell 0 rfl
      have b1 := bB.cell 1 rfl
      have c0 := bC.cell 0 rfl
      have c1 := bC.cell 1 rfl
      go_wp2_with fail
      refine (C1.out _).mono ?_
      rintro e w2 ⟨rfl, hb2⟩
      have bA2 := bA.below hb2 bA.lt
      have bB2 := bB.below hb2 bB.lt
      have bC2 := bC.below hb2 bC.lt
      have hB2 := bthen hB1 hb2
      clear a0 a1 b0 b1 c0 c1 bA bB bC hb2 hB1
      have a0 := bA2.cell 0 rfl
      have a1 := bA2.cell 1 rfl
      have b0 := bB2.cell 0 rfl
      have b1 := bB2.cell 1 rfl
      have c0 := bC2.cell 0 rfl
      have c1 := bC2.cell 1 rfl
      go_wp2_with fail
      refine (C2.out _).mono ?_
      rintro e w3 ⟨rfl, hb3⟩
      have bA3 := bA2.below hb3 bA2.lt
      have bB3 := bB2.below hb3 bB2.lt
      have bC3 := bC2.below hb3 bC2.lt
      have hB3 := bthen hB2 hb3
      clear a0 a1 b0 b1 c0 c1 bA2 bB2 bC2 hb3 hB2
      have a0 := bA3.cell 0 rfl
      have a1 := bA3.cell 1 rfl
      have b0 := bB3.cell 0 rfl
      have b1 := bB3.cell 1 rfl
      have c0 := bC3.cell 0 rfl
      have c1 := bC3.cell 1 rfl
      go_wp2_with fail
      refine (C3.out _).mono ?_
      rintro e w4 ⟨rfl, hb4⟩
      have bA4 := bA3.below hb4 bA3.lt
      have bB4 := bB3.below hb4 bB3.lt
      have hB4 := bthen hB3 hb4
      clear a0 a1 b0 b1 c0 c1 bA3 bB3 bC3 hb4 hB3
      have a0 := bA4.cell 0 rfl
      have a1 := bA4.cell 1 rfl
      have b0 := bB4.cell 0 rfl
      have b1 := bB4.cell 1 rfl
      go_wp2_with fail
      refine (C4.out _).mono ?_
      rintro e w5 ⟨rfl, hb5⟩
      have bA5 := bA4.below hb5 bA4.lt
      have bB5 := bB4.below hb5 bB4.lt
      have hB5 := bthen hB4 hb5
      clear a0 a1 b0 b1 bA4 bB4 hb5 hB4
      have a0 := bA5.cell 0 rfl
      have a1 := bA5.cell 1 rfl
      have b0 := bB5.cell 0 rfl
      have b1 := bB5.cell 1 rfl
      clear bA5 bB5
      go_wp2
      go_ret
      exact ⟨rfl, hB5⟩
end Go.Proofs.Ytidlfbemamoflaa
