/-
  The walk of FieldApart.
-/
import Derived.Test.YtldkmopkakdgnaaFieldLaws
import Derived.Test.YtldkmopkakdgnaaFieldFar
namespace Go.Proofs.Ytldkmopkakdgnaa
open Go.RowKit
set_option maxRecDepth 20000
set_option linter.unusedVariables false

/-- What Apart answers, both ways round. -/
theorem apart_both (f g : FI) (k : Nat) : (apartW f g k ≠ 0 ∧ apartW g f k ≠ 0 ∧ apartE f g k = false ∧ apartE g f k = false) ∨
    (apartW f g k = 0 ∧ apartW g f k = 0 ∧ apartE f g k = apartE g f k ∧ (apartE f g k = true → ∃ F G : Fld, f = F.i ∧ g = G.i ∧ F.Ok k ∧ G.Ok k ∧ FarF F G)) := by
  by_cases h1 : wrongW f k = 0
  · by_cases h2 : wrongW g k = 0
    · obtain ⟨F, m, e1, rfl, ok⟩ := wrongW_zero h1
      obtain ⟨G, m', e2, rfl, ok'⟩ := wrongW_zero h2
      obtain rfl : k = m := by omega
      obtain rfl : k = m' := by omega
      obtain ⟨a1, a2⟩ := apart_ok h1 h2
      obtain ⟨b1, b2⟩ := apart_ok h2 h1
      right
      rw [a1, a2, b1, b2, i_fld, i_fld]
      exact ⟨rfl, rfl, apart_comm _ _, fun h => ⟨F, G, rfl, rfl, ok, ok', apart_iff.1 h⟩⟩
    · obtain ⟨a1, a2⟩ := apart_bad2 h1 h2
      obtain ⟨b1, b2⟩ := apart_bad1 (g := f) h2
      left
      rw [a1, a2, b1, b2]
      exact ⟨h2, h2, rfl, rfl⟩
  · left
    obtain ⟨a1, a2⟩ := apart_bad1 (g := g) h1
    by_cases h2 : wrongW g k = 0
    · obtain ⟨b1, b2⟩ := apart_bad2 h2 h1
      rw [a1, a2, b1, b2]
      exact ⟨h1, h1, rfl, rfl⟩
    · obtain ⟨b1, b2⟩ := apart_bad1 (g := f) h2
      rw [a1, a2, b1, b2]
      exact ⟨h1, h2, rfl, rfl⟩
theorem setL_ok {l : List Int} {F : Fld} {n : Int} (h : setW F.i (l.length : Int) n = 0) : setL l F.i n = setF l F n := by unfold setL; rw [if_pos h, i_fld]
theorem far_facts {l : List Int} {F G : Fld} (ok : F.Ok l.length) (ok' : G.Ok l.length) (hf : FarF F G) (n m : Int) (h : setW F.i (l.length : Int) n = 0) :
    (setL l F.i n).length = l.length ∧ getE (setL l F.i n) G.i = getE l G.i ∧
    (setW G.i (l.length : Int) m = 0 → (setL l G.i m).length = l.length ∧ (setL (setL l F.i n) G.i m).length = l.length ∧ setL (setL l G.i m) F.i n = setL (setL l F.i n) G.i m) := by
  have e := setL_ok h
  have hl := setF_length l F n
  rw [e]
  refine ⟨hl, ?_, fun h2 => ?_⟩
  · unfold getE
    rw [hl, if_pos (wrongW_ok ok'), i_fld, getF_far n ok'.fits hf, if_pos (wrongW_ok ok')]
  · have e2 := setL_ok h2
    have hl2 := setF_length l G m
    have e3 := setL_ok (l := setF l F n) (F := G) (n := m) (by rw [hl]; exact h2)
    have e4 := setL_ok (l := setF l G m) (F := F) (n := n) (by rw [hl2]; exact h)
    have hl3 := setF_length (setF l F n) G m
    rw [e2, e3, e4]
    exact ⟨hl2, by rw [hl3, hl], (setF_far n m hf).symm⟩
theorem getE_fine {l : List Int} {G : Fld} (ok : G.Ok l.length) : (getE l G.i).2 = 0 := by unfold getE; rw [if_pos (wrongW_ok ok)]
set_option maxRecDepth 20000 in
set_option maxHeartbeats 1000000 in
theorem FieldApart_walk (A0 : Option Addr) (n0 c0 : Nat) (l0 : List Int) (a b : Int) (g : Bool) (a' b' : Int) (g' : Bool) (a3 a4 : Int) (w : World) (h0 : Rd w 1 A0 n0 (l0.map (Value.int .u8))) (v0 : ∀ x ∈ l0, (Lit.int .u8 x).wf = true) (k0 : n0 ≤ c0) (b0 : c0 * 1 ≤ 140737488351232) (wa : (Lit.int .i64 a).wf = true) (wb : (Lit.int .i64 b).wf = true) (wa' : (Lit.int .i64 a').wf = true) (wb' : (Lit.int .i64 b').wf = true) (w3 : (Lit.int .i64 a3).wf = true) (w4 : (Lit.int .i64 a4).wf = true) :
    Calls Try.prog 6 #[.slice A0 n0 c0, .agg #[.int .i64 a, .int .i64 b, .bool g], .agg #[.int .i64 a', .int .i64 b', .bool g'], .int .i64 a3, .int .i64 a4] w fun e w' => e = .returned (.bool true) ∧ Below w.heap.size w w' := by
  have q0 : Byt l0 := fun x hx => by have := wf_u8 (v0 x hx); omega
  have hl0 := h0.lenMap
  have CA := Lib.hid (fun (W : World) => Apart_any ⟨a, b, g⟩ ⟨a', b', g'⟩ (n0 : Int) W)
  have CB := Lib.hid (fun (W : World) => Apart_any ⟨a', b', g'⟩ ⟨a, b, g⟩ (n0 : Int) W)
  have D := Lib.hid (apart_both ⟨a, b, g⟩ ⟨a', b', g'⟩ n0)
  generalize apartE ⟨a, b, g⟩ ⟨a', b', g'⟩ (n0 : Int) = E1 at *
  generalize apartW ⟨a, b, g⟩ ⟨a', b', g'⟩ (n0 : Int) = V1 at *
  generalize apartE ⟨a', b', g'⟩ ⟨a, b, g⟩ (n0 : Int) = E2 at *
  generalize apartW ⟨a', b', g'⟩ ⟨a, b, g⟩ (n0 : Int) = V2 at *
  have Hl := Lib.hid hl0
  clear v0 hl0
  have hbx := Box.alloc (Box.new w 24 [.int .i64 a, .int .i64 b, .bool g]) (.cells #[.int .i64 a', .int .i64 b', .bool g'] 24)
  have hby := Box.new (w.alloc (.cells #[.int .i64 a, .int .i64 b, .bool g] 24)) 24 [.int .i64 a', .int .i64 b', .bool g']
  rw [show (w.alloc (.cells #[.int .i64 a, .int .i64 b, .bool g] 24)).heap.size = w.heap.size + 1 by simp] at hby
  go_enter Try.func6, Try.ntmps6
  go_wp2_with fail
  refine (alive23_any _).mono ?_
  rintro e w1 ⟨rfl, hb1⟩
  replace hbx := hbx.below hb1 hbx.lt
  replace hby := hby.below hb1 hby.lt
  have hw := below_new (below_new hb1)
  clear hb1
  have p0 := hbx.cell 0 rfl
  have p1 := hbx.cell 1 rfl
  have p2 := hbx.cell 2 rfl
  have p3 := hby.cell 0 rfl
  have p4 := hby.cell 1 rfl
  have p5 := hby.cell 2 rfl
  go_wp2_with fail
  refine (CA.out _).mono ?_
  rintro e w2 ⟨rfl, hb2⟩
  clear CA p0 p1 p2 p3 p4 p5
  replace hbx := hbx.below hb2 hbx.lt
  replace hby := hby.below hb2 hby.lt
  replace hw := bthen hw hb2
  clear hb2
  have p0 := hbx.cell 0 rfl
  have p1 := hbx.cell 1 rfl
  have p2 := hbx.cell 2 rfl
  have p3 := hby.cell 0 rfl
  have p4 := hby.cell 1 rfl
  have p5 := hby.cell 2 rfl
  go_wp2_with fail
  refine (CB.out _).mono ?_
  rintro e w5 ⟨rfl, hb5⟩
  clear CB p0 p1 p2 p3 p4 p5
  replace hbx := hbx.below hb5 hbx.lt
  replace hby := hby.below hb5 hby.lt
  replace hw := bthen hw hb5
  clear hb5
  rcases D.out with ⟨d1, d2, rfl, rfl⟩ | ⟨rfl, rfl, rfl, hF⟩
  · have y1 : (V1 != 0) = true := by simpa using d1
    have y2 : (V2 != 0) = true := by simpa using d2
    clear D
    go_wp2
    go_ret
    exact ⟨rfl, hw⟩
  · clear D
    cases E1
    · go_wp2
      go_ret
      exact ⟨rfl, hw⟩
    · obtain ⟨F, G, e1, e2, ok, ok', far⟩ := hF rfl
      clear hF
      unfold Fld.i at e1 e2
      injection e1 with y1 y2 y3
      injection e2 with y4 y5 y6
      subst y1 y2 y3 y4 y5 y6
      have hl0 := Hl.out
      subst hl0
      have HG := Lib.hid (getE_fine ok')
      have CG := Lib.hid (fun (A : Option Addr) (n c : Nat) (l : List Int) (W : World) (h : Rd W 1 A n (l.map (Value.int .u8))) (hb : Byt l) => FGet_any A n c l G.i W h hb)
      have C1 := Lib.hid (CG.out A0 l0.length c0 l0)
      have CSF := Lib.hid (fun (n : Int) (A : Option Addr) (m c : Nat) (l : List Int) (W : World) (h : Rd W 1 A m (l.map (Value.int .u8))) (hb : Byt l) => FSet_any A m c l F.i n W h hb)
      have CSG := Lib.hid (fun (n : Int) (A : Option Addr) (m c : Nat) (l : List Int) (W : World) (h : Rd W 1 A m (l.map (Value.int .u8))) (hb : Byt l) => FSet_any A m c l G.i n W h hb)
      have FF := Lib.hid (far_facts ok ok' far a3 a4)
      have C2 := Lib.hid (CSF.out a3 A0 l0.length c0 l0)
      have C4 := Lib.hid (CSG.out a4 A0 l0.length c0 l0)
      have HY1 := Lib.hid (setL_byt l0 F.i a3)
      have HY2 := Lib.hid (setL_byt l0 G.i a4)
      clear ok ok' far Hl
      generalize hX : setL l0 F.i a3 = X at *
      generalize heX : setW F.i (l0.length : Int) a3 = eX at *
      generalize hP : setL l0 G.i a4 = P at *
      generalize heP : setW G.i (l0.length : Int) a4 = eP at *
      generalize hK : getE l0 G.i = K at *
      have HeX := Lib.hid heX
      have HeP := Lib.hid heP
      clear hX heX hP heP hK
      obtain ⟨K1, K2⟩ := K
      obtain rfl : K2 = 0 := HG.out
      clear HG
      simp only at C1
      have p0 := hbx.cell 0 rfl
      have p1 := hbx.cell 1 rfl
      have p2 := hbx.cell 2 rfl
      have p3 := hby.cell 0 rfl
      have p4 := hby.cell 1 rfl
      have p5 := hby.cell 2 rfl
      go_wp2_with fail
      refine (C1.out _ (h0.below hw) q0).mono ?_
      rintro e w6 ⟨rfl, hb6⟩
      clear C1 p0 p1 p2 p3 p4 p5
      replace hbx := hbx.below hb6 hbx.lt
      replace hby := hby.below hb6 hby.lt
      replace hw := bthen hw hb6
      clear hb6
      have p0 := hbx.cell 0 rfl
      have p1 := hbx.cell 1 rfl
      have p2 := hbx.cell 2 rfl
      have p3 := hby.cell 0 rfl
      have p4 := hby.cell 1 rfl
      have p5 := hby.cell 2 rfl
      go_wp2_with fail
      refine (C2.out _ (h0.below hw) q0).mono ?_
      intro e w7 hG
      obtain ⟨A7, c7, rfl, hr7, _, _, hb7⟩ := hG.open_
      clear C2 hG p0 p1 p2 p3 p4 p5
      replace hbx := hbx.below hb7 hbx.lt
      replace hby := hby.below hb7 hby.lt
      replace hw := bthen hw hb7
      clear hb7
      by_cases hz : eX = 0
      · subst hz
        obtain ⟨x1, x2, x3⟩ := FF.out rfl
        rw [x1] at hr7 ⊢
        have HX1 := Lib.hid x1
        have C3 := Lib.hid (CG.out A7 l0.length c7 X)
        rw [x2] at C3
        simp only at C3
        have C5 := Lib.hid (CSG.out a4 A7 l0.length c7 X)
        rw [x1, HeP.out] at C5
        have FX := Lib.hid x3
        clear FF x1 x2 x3 CG
        have p0 := hbx.cell 0 rfl
        have p1 := hbx.cell 1 rfl
        have p2 := hbx.cell 2 rfl
        have p3 := hby.cell 0 rfl
        have p4 := hby.cell 1 rfl
        have p5 := hby.cell 2 rfl
        go_wp2_with fail
        refine (C3.out _ hr7 HY1.out).mono ?_
        rintro e w8 ⟨rfl, hb8⟩
        clear C3 p0 p1 p2 p3 p4 p5
        replace hbx := hbx.below hb8 hbx.lt
        replace hby := hby.below hb8 hby.lt
        replace hw := bthen hw hb8
        replace hr7 := hr7.below hb8
        clear hb8
        have p0 := hbx.cell 0 rfl
        have p1 := hbx.cell 1 rfl
        have p2 := hbx.cell 2 rfl
        have p3 := hby.cell 0 rfl
        have p4 := hby.cell 1 rfl
        have p5 := hby.cell 2 rfl
        go_wp2_with fail
        refine (C5.out _ hr7 HY1.out).mono ?_
        intro e w9 hG
        obtain ⟨A9, c9, rfl, hr9, _, _, hb9⟩ := hG.open_
        clear C5 hG p0 p1 p2 p3 p4 p5
        replace hbx := hbx.below hb9 hbx.lt
        replace hby := hby.below hb9 hby.lt
        replace hw := bthen hw hb9
        clear hb9 hr7
        have p0 := hbx.cell 0 rfl
        have p1 := hbx.cell 1 rfl
        have p2 := hbx.cell 2 rfl
        have p3 := hby.cell 0 rfl
        have p4 := hby.cell 1 rfl
        have p5 := hby.cell 2 rfl
        have HY := Lib.hid (setL_byt X G.i a4)
        generalize setL X G.i a4 = Y at *
        go_wp2_with fail
        refine (C4.out _ (h0.below hw) q0).mono ?_
        intro e wa hG
        obtain ⟨Aa, ca, rfl, hra, _, _, hba⟩ := hG.open_
        clear C4 hG p0 p1 p2 p3 p4 p5
        replace hbx := hbx.below hba hbx.lt
        replace hw := bthen hw hba
        replace hr9 := hr9.below hba
        clear hba hby
        by_cases hz2 : eP = 0
        · subst hz2
          obtain ⟨x1, x2, x3⟩ := FX.out rfl
          rw [x1] at hra ⊢
          rw [x2] at hr9 ⊢
          have C6 := Lib.hid (CSF.out a3 Aa l0.length ca P)
          rw [x1, HeX.out, x3] at C6
          have HX2 := Lib.hid x2
          clear x1 x2 x3 FX CSF CSG
          have p0 := hbx.cell 0 rfl
          have p1 := hbx.cell 1 rfl
          have p2 := hbx.cell 2 rfl
          go_wp2_with fail
          refine (C6.out _ hra HY2.out).mono ?_
          intro e wc hG
          obtain ⟨Ac, cc, rfl, hrc, _, _, hbc⟩ := hG.open_
          rw [HX2.out] at hrc ⊢
          replace hw := bthen hw hbc
          have CE := Lib.hid (EqualY_same A9 Ac l0.length c9 l0.length cc Y wc (hr9.below hbc) hrc HY.out)
          clear C6 hG p0 p1 p2 hbc hbx hr9 hrc
          go_wp2_with (go_at_call 18; refine CE.out.mono ?_; rintro e wd ⟨rfl, rfl⟩)
          go_ret
          exact ⟨rfl, hw⟩
        · have y1 : (eP != 0) = true := by simpa using hz2
          clear FX CSF CSG
          go_wp2
          go_ret
          exact ⟨by simp, hw⟩
      · have y1 : (eX != 0) = true := by simpa using hz
        clear FF CSF CSG CG
        go_wp2
        go_ret
        exact ⟨rfl, hw⟩
end Go.Proofs.Ytldkmopkakdgnaa
