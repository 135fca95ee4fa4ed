/-
  alive23 returns true; the walks of FieldBack and FieldTurned.
-/
import Derived.Test.YtldkmopkakdgnaaFieldPut
import Derived.Test.YtldkmopkakdgnaaEqualY
import Derived.Test.YtldkmopkakdgnaaNums
namespace Go.Proofs.Ytldkmopkakdgnaa
open Go.RowKit
set_option maxRecDepth 20000
set_option linter.unusedVariables false

theorem alive_set : setL [18, 52] ⟨0, 4, false⟩ 9 = [25, 52] := by
  have h : ofBytes (setL [18, 52] ⟨0, 4, false⟩ 9) = ofBytes [25, 52] := by
    have e : setL [18, 52] ⟨0, 4, false⟩ 9 = setF [18, 52] ⟨0, 4, false⟩ 9 := by
      unfold setL
      rw [if_pos (by decide)]; rfl
    rw [e, setF_bits]
    decide
  have hb : Byt (setL [18, 52] ⟨0, 4, false⟩ 9) := by
    unfold setL
    split
    · exact setF_byt _ _ _
    · intro x hx; cases hx
  rw [← bytes_of_bits _ hb, h, bytes_of_bits [25, 52] (by decide)]
theorem Byt.is8 {l : List Int} (h : Byt l) : Byte8 l := h
theorem byt2 (a b : Int) (ha : 0 ≤ a ∧ a < 256) (hb : 0 ≤ b ∧ b < 256) : Byt [a, b] := by
  intro x hx
  simp at hx
  rcases hx with rfl | rfl
  · exact ha
  · exact hb
/-- What was set, written out, with its reading. -/
theorem GivesY.open_ {l : List Int} {k : Int} {w : World} {e : Ending} {w' : World} (h : GivesY l k w e w') : ∃ A c, e = .returned (.tuple #[.slice A l.length c, .int .i64 k]) ∧ Rd w' 1 A l.length (l.map (Value.int .u8)) ∧ l.length ≤ c ∧ c ≤ maxLen ∧ Below w.heap.size w w' := by
  obtain ⟨⟨v, rfl, ho⟩, hb⟩ := h
  obtain ⟨A, c, rfl, h1, h2, h3⟩ := ho.formN rfl
  exact ⟨A, c, rfl, h3, h1, h2, hb⟩
set_option maxHeartbeats 800000 in
theorem alive23_any (w : World) : Calls Try.prog 17 #[] w fun e w' => e = .returned (.bool true) ∧ Below w.heap.size w w' := by
  have C1 := Lib.hid (fun (W : World) (h : Rd W 1 (some ⟨w.heap.size, 0, none⟩) 2 ([18, 52].map (Value.int .u8))) => FGet_any (some ⟨w.heap.size, 0, none⟩) 2 2 [18, 52] ⟨4, 8, true⟩ W h (byt2 _ _ (by decide) (by decide)))
  have C2 := Lib.hid (fun (W : World) (h : Rd W 1 (some ⟨w.heap.size, 0, none⟩) 2 ([18, 52].map (Value.int .u8))) => FGet_any (some ⟨w.heap.size, 0, none⟩) 2 2 [18, 52] ⟨4, 8, false⟩ W h (byt2 _ _ (by decide) (by decide)))
  have C3 := Lib.hid (fun (W : World) (h : Rd W 1 (some ⟨w.heap.size, 0, none⟩) 2 ([18, 52].map (Value.int .u8))) => FSet_any (some ⟨w.heap.size, 0, none⟩) 2 2 [18, 52] ⟨0, 4, false⟩ 9 W h (byt2 _ _ (by decide) (by decide)))
  rw [show getE [18, 52] ⟨4, 8, true⟩ = (35, 0) by decide] at C1
  rw [show getE [18, 52] ⟨4, 8, false⟩ = (65, 0) by decide] at C2
  rw [alive_set, show setW ⟨0, 4, false⟩ (([18, 52] : List Int).length : Int) 9 = 0 by decide] at C3
  have h0 : Rd (w.alloc (.cells #[.int .u8 18, .int .u8 52] 5)) 1 (some ⟨w.heap.size, 0, none⟩) 2 ([18, 52].map (Value.int .u8)) := Rd.litAt (Value.int .u8) [18, 52] 5 rfl
  go_enter Try.func17, Try.ntmps17
  go_wp2_with fail
  refine (C1.out _ h0).mono ?_
  rintro e w1 ⟨rfl, hb1⟩
  clear C1
  have h1 := h0.below hb1
  have hw1 := below_new hb1
  clear hb1 h0
  go_wp2_with fail
  refine (C2.out _ h1).mono ?_
  rintro e w2 ⟨rfl, hb2⟩
  clear C2
  have h2 := h1.below hb2
  have hw2 := bthen hw1 hb2
  clear hb2 h1 hw1
  go_wp2_with fail
  refine (C3.out _ h2).mono ?_
  intro e w3 hG
  obtain ⟨A, c, rfl, hr, _, _, hb3⟩ := hG.open_
  clear C3 hG
  have hw3 := bthen hw2 hb3
  have CE := Lib.hid (EqualY_same A (some ⟨w3.heap.size, 0, none⟩) 2 c 2 2 [25, 52] _ (hr.alloc (.cells #[.int .u8 25, .int .u8 52] 5)) (Rd.litAt (Value.int .u8) [25, 52] 5 rfl) (byt2 _ _ (by decide) (by decide)))
  go_wp2_with (go_at_call 18; refine CE.out.mono ?_; rintro e w4 ⟨rfl, hw4⟩)
  go_ret
  subst hw4
  exact ⟨rfl, bthen hw3 (fld_below _ _)⟩
theorem setL_byt (l : List Int) (f : FI) (n : Int) : Byt (setL l f n) := by
  unfold setL
  split
  · exact setF_byt _ _ _
  · intro x hx; cases hx
theorem back_1 {l : List Int} {f : FI} {n : Int} (h : setW f (l.length : Int) n = 0) : getE (setL l f n) f = (n, 0) ∧ (setL l f n).length = l.length := by
  obtain ⟨F, m, e1, rfl, ok, h0, h1⟩ := setW_zero h
  obtain rfl : l.length = m := by omega
  have e : setL l F.i n = setF l F n := by unfold setL; rw [if_pos h, i_fld]
  have hl := setF_length l F n
  rw [e]
  refine ⟨?_, hl⟩
  unfold getE
  rw [hl, if_pos (wrongW_ok ok), i_fld, getF_setF ok.fits h0 h1]
theorem back_2 {l : List Int} (f : FI) (hl : Byt l) : ((getE l f).2 ≠ 0 ∧ (getE l f).1 = 0) ∨ ((getE l f).2 = 0 ∧ setW f (l.length : Int) (getE l f).1 = 0 ∧ setL l f (getE l f).1 = l) := by
  by_cases h : wrongW f (l.length : Int) = 0
  · right
    have e : getE l f = (getF l f.fld, 0) := if_pos h
    rw [e]
    obtain ⟨F, m, e1, rfl, ok⟩ := wrongW_zero h
    obtain rfl : l.length = m := by omega
    rw [i_fld]
    have hs : setW F.i (l.length : Int) (getF l F) = 0 := setW_ok ok (getF_nonneg l F) (getF_lt l F)
    refine ⟨rfl, hs, ?_⟩
    unfold setL
    rw [if_pos hs, i_fld, setF_getF F hl]
  · left
    have e : getE l f = (0, wrongW f (l.length : Int)) := if_neg h
    rw [e]
    exact ⟨h, rfl⟩
set_option maxHeartbeats 1000000 in
theorem FieldBack_walk (A0 : Option Addr) (n0 c0 : Nat) (l0 : List Int) (a b : Int) (g : Bool) (a2 : Int) (w : World) (h0 : Rd w 1 A0 n0 (l0.map (Value.int .u8))) (v0 : ∀ x ∈ l0, (Lit.int .u8 x).wf = true) (k0 : n0 ≤ c0) (b0 : c0 * 1 ≤ 140737488351232) (wa : (Lit.int .i64 a).wf = true) (wb : (Lit.int .i64 b).wf = true) (w2 : (Lit.int .i64 a2).wf = true) :
    Calls Try.prog 5 #[.slice A0 n0 c0, .agg #[.int .i64 a, .int .i64 b, .bool g], .int .i64 a2] w fun e w' => e = .returned (.bool true) ∧ Below w.heap.size w w' := by
  have q0 : Byt l0 := fun x hx => by have := wf_u8 (v0 x hx); omega
  have hl0 := h0.lenMap
  have CS := Lib.hid (fun (n : Int) (W : World) (hW : Below w.heap.size w W) => FSet_any A0 n0 c0 l0 ⟨a, b, g⟩ n W (h0.below hW) q0)
  have CG := Lib.hid (fun (A : Option Addr) (n c : Nat) (l : List Int) (W : World) (h : Rd W 1 A n (l.map (Value.int .u8))) (hb : Byt l) => FGet_any A n c l ⟨a, b, g⟩ W h hb)
  have CE := Lib.hid (fun (A : Option Addr) (c : Nat) (W : World) (h : Rd W 1 A n0 (l0.map (Value.int .u8))) (hW : Below w.heap.size w W) => EqualY_same A A0 n0 c n0 c0 l0 W h (h0.below hW) q0)
  have P1 := Lib.hid (back_1 (l := l0) (f := ⟨a, b, g⟩) (n := a2))
  have P2 := Lib.hid (back_2 ⟨a, b, g⟩ q0)
  have HB1 := Lib.hid (setL_byt l0 ⟨a, b, g⟩ a2)
  have CK := Lib.hid (fun (W : World) (hW : Below w.heap.size w W) => CG.out A0 n0 c0 l0 W (h0.below hW) q0)
  have hl0' := Lib.hid hl0
  generalize hK : getE l0 ⟨a, b, g⟩ = K at *
  clear hK
  rw [hl0] at CS P1 P2
  have C1 := Lib.hid (CS.out a2)
  have C2 := Lib.hid (CS.out K.1)
  clear CS v0 hl0
  generalize setL l0 ⟨a, b, g⟩ a2 = X at *
  generalize setW ⟨a, b, g⟩ (n0 : Int) a2 = eX at *
  generalize setL l0 ⟨a, b, g⟩ K.1 = Y at *
  generalize setW ⟨a, b, g⟩ (n0 : Int) K.1 = eY at *
  obtain ⟨K1, K2⟩ := K
  simp only at P2 C2 CK
  have hbx := Box.new w 24 [.int .i64 a, .int .i64 b, .bool g]
  go_enter Try.func5, Try.ntmps5
  go_wp2_with fail
  refine (alive23_any _).mono ?_
  rintro e w1 ⟨rfl, hb1⟩
  replace hbx := hbx.below hb1 hbx.lt
  have hw := below_new hb1
  clear hb1
  have p0 := hbx.cell 0 rfl
  have p1 := hbx.cell 1 rfl
  have p2 := hbx.cell 2 rfl
  go_wp2_with fail
  refine (C1.out _ hw).mono ?_
  intro e w3 hG
  obtain ⟨A, c, rfl, hr, _, _, hb3⟩ := hG.open_
  clear C1 hG p0 p1 p2
  replace hbx := hbx.below hb3 hbx.lt
  have hw3 := bthen hw hb3
  clear hb3
  have p0 := hbx.cell 0 rfl
  have p1 := hbx.cell 1 rfl
  have p2 := hbx.cell 2 rfl
  have HX := Lib.hid (CG.out A X.length c X w3 hr HB1.out)
  generalize hxn : X.length = xn at *
  generalize hKX : getE X ⟨a, b, g⟩ = KX at *
  obtain ⟨m1, m2⟩ := KX
  have P1' : Hid (eX = 0 → m1 = a2 ∧ m2 = 0 ∧ xn = n0) := fun h => by
    have := P1.out h
    simp only [Prod.mk.injEq] at this
    exact ⟨this.1.1, this.1.2, this.2⟩
  clear hxn hKX P1 CG hw
  go_wp2_with fail
  refine HX.out.mono ?_
  rintro e w4 ⟨rfl, hb4⟩
  simp only
  clear HX p0 p1 p2
  replace hbx := hbx.below hb4 hbx.lt
  have hw4 := bthen hw3 hb4
  clear hb4 hw3 hr
  have p0 := hbx.cell 0 rfl
  have p1 := hbx.cell 1 rfl
  have p2 := hbx.cell 2 rfl
  go_upto_region 5 with fail
  go_cut [47] (fun s wr => s = .bool false ∧ wr = w4)
  case first =>
    clear P2 C2 CK CE
    by_cases hz : eX = 0
    · obtain ⟨rfl, rfl, rfl⟩ := P1'.out hz
      subst hz
      go_wp2
      go_meet
      case rel => exact ⟨rfl, rfl⟩
    · have hz' : (eX == 0) = false := by simpa using hz
      go_wp2
      go_meet
      case rel => exact ⟨rfl, rfl⟩
  case rest =>
    obtain ⟨rfl, rfl⟩ := hcut
    clear P1'
    go_wp2_with fail
    refine (CK.out _ hw4).mono ?_
    rintro e w5 ⟨rfl, hb5⟩
    clear CK p0 p1 p2
    replace hbx := hbx.below hb5 hbx.lt
    have hw5 := bthen hw4 hb5
    clear hb5 hw4
    have p0 := hbx.cell 0 rfl
    have p1 := hbx.cell 1 rfl
    have p2 := hbx.cell 2 rfl
    go_wp2_with fail
    refine (C2.out _ hw5).mono ?_
    intro e w6 hG
    obtain ⟨A6, c6, rfl, hr6, _, _, hb6⟩ := hG.open_
    have hw6 := bthen hw5 hb6
    clear C2 hG p0 p1 p2 hb6 hbx
    rcases P2.out with ⟨y1, rfl⟩ | ⟨rfl, rfl, rfl⟩
    · have y2 : (K2 != 0) = true := by simpa using y1
      go_wp2
      go_ret
      exact ⟨rfl, hw6⟩
    · have CQ := Lib.hid (CE.out A6 c6 w6 (by rw [hl0'.out] at hr6; exact hr6) hw6)
      have hq := hl0'.out
      rw [hq] at *
      clear CE
      go_wp2_with (go_at_call 18; refine CQ.out.mono ?_; rintro e w7 ⟨rfl, rfl⟩)
      go_ret
      exact ⟨rfl, hw6⟩
end Go.Proofs.Ytldkmopkakdgnaa
