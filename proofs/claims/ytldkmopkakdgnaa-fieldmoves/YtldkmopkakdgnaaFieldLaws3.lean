/-
  The walks of FieldMoved and FieldTurned.
-/
import Derived.Test.YtldkmopkakdgnaaFieldLaws
import Derived.Test.YtldkmopkakdgnaaFieldMove
import Derived.Test.YtldkmopkakdgnaaZeros
import Derived.Test.YtldkmopkakdgnaaRoom
namespace Go.Proofs.Ytldkmopkakdgnaa
open Go.RowKit
set_option maxRecDepth 20000
set_option linter.unusedVariables false

theorem moved_facts {l t : List Int} {f g : FI} (hl : Byt l) (hw : f.wd = g.wd) : ((moveE l [f] t [g]).2 ≠ 0 ∧ (moveE l [f] t [g]).1 = []) ∨
    ((moveE l [f] t [g]).2 = 0 ∧ ∃ k, getE l f = (k, 0) ∧ getE (moveE l [f] t [g]).1 g = (k, 0) ∧ moveE (moveE l [f] t [g]).1 [g] l [f] = (l, 0)) := by
  by_cases h1 : wrongW f (l.length : Int) = 0
  · by_cases h2 : setW g (t.length : Int) (getF l f.fld) = 0
    · have e : moveE l [f] t [g] = (setF t g.fld (getF l f.fld), 0) := by
        unfold moveE
        rw [if_neg (by simp), moveG, if_neg (by omega), if_neg (by omega)]; rfl
      rw [e]
      obtain ⟨F, m, e1, rfl, ok⟩ := wrongW_zero h1
      obtain rfl : l.length = m := by omega
      obtain ⟨G, m', e2, rfl, ok', g0, g1⟩ := setW_zero h2
      obtain rfl : t.length = m' := by omega
      simp only [i_fld] at *
      have hww : F.wd = G.wd := by simp only [Fld.i] at hw; omega
      obtain ⟨b1, b2⟩ := moved_back (l := l) (t := t) hl ok'.fits hww
      have hlen := setF_length t G (getF l F)
      refine .inr ⟨by trivial, getF l F, ?_, ?_, ?_⟩
      · unfold getE; rw [if_pos h1, i_fld]
      · unfold getE
        rw [hlen, if_pos (wrongW_ok ok'), i_fld, b1]
      · have h3 : setW F.i (l.length : Int) (getF (setF t G (getF l F)) G) = 0 := by
          rw [b1]
          exact setW_ok ok (getF_nonneg l F) (getF_lt l F)
        unfold moveE
        rw [if_neg (by simp), moveG, hlen, if_neg (by rw [wrongW_ok ok']; simp), i_fld, if_neg (by rw [h3]; simp), i_fld, b2]; rfl
    · left
      have e : moveE l [f] t [g] = ([], setW g (t.length : Int) (getF l f.fld)) := by
        unfold moveE
        rw [if_neg (by simp), moveG, if_neg (by omega), if_pos h2]
      rw [e]
      exact ⟨h2, rfl⟩
  · left
    have e : moveE l [f] t [g] = ([], wrongW f (l.length : Int)) := by
      unfold moveE
      rw [if_neg (by simp), moveG, if_pos h1]
    rw [e]
    exact ⟨h1, rfl⟩
theorem moveG_byt (l : List Int) : ∀ (a b : List FI) {t : List Int}, Byt t → Byt (moveG l a b t).1
  | f :: fs, g :: gs, t, h => by
    rw [moveG]
    split
    · intro x hx; cases hx
    · split
      · intro x hx; cases hx
      · exact moveG_byt l fs gs (setF_byt _ _ _)
  | [], _, t, h => by simpa [moveG] using h
  | _ :: _, [], t, h => by simpa [moveG] using h
theorem moveE_byt (l : List Int) (a b : List FI) {t : List Int} (h : Byt t) : Byt (moveE l a t b).1 := by
  unfold moveE
  split
  · intro x hx; cases hx
  · exact moveG_byt l a b h
set_option maxRecDepth 20000 in
set_option maxHeartbeats 1000000 in
theorem FieldMoved_walk (A0 : Option Addr) (n0 c0 : Nat) (l0 : List Int) (a b : Int) (g : Bool) (A2 : Option Addr) (n2 c2 : Nat) (l2 : List Int) (a' b' : Int) (g' : Bool) (w : World) (h0 : Rd w 1 A0 n0 (l0.map (Value.int .u8))) (v0 : ∀ x ∈ l0, (Lit.int .u8 x).wf = true) (k0 : n0 ≤ c0) (b0 : c0 * 1 ≤ 140737488351232) (wa : (Lit.int .i64 a).wf = true) (wb : (Lit.int .i64 b).wf = true) (h2 : Rd w 1 A2 n2 (l2.map (Value.int .u8))) (v2 : ∀ x ∈ l2, (Lit.int .u8 x).wf = true) (k2 : n2 ≤ c2) (b2 : c2 * 1 ≤ 140737488351232) (wa' : (Lit.int .i64 a').wf = true) (wb' : (Lit.int .i64 b').wf = true) :
    Calls Try.prog 8 #[.slice A0 n0 c0, .agg #[.int .i64 a, .int .i64 b, .bool g], .slice A2 n2 c2, .agg #[.int .i64 a', .int .i64 b', .bool g']] w fun e w' => e = .returned (.bool true) ∧ Below w.heap.size w w' := by
  have q0 : Byt l0 := fun x hx => by have := wf_u8 (v0 x hx); omega
  have q2 : Byt l2 := fun x hx => by have := wf_u8 (v2 x hx); omega
  have Hl := Lib.hid h0.lenMap
  clear v0 v2
  have HM := Lib.hid (fun (h : b = b') => moved_facts (l := l0) (t := l2) (f := ⟨a, b, g⟩) (g := ⟨a', b', g'⟩) q0 h)
  have hf : ∀ W : World, RdG FI.cells 3 (W.alloc (.cells #[.int .i64 a, .int .i64 b, .bool g] 24)) (some ⟨W.heap.size, 0, none⟩) 1 [(⟨a, b, g⟩ : FI)] := fun W => Rd.litFlat fldK.len [(⟨a, b, g⟩ : FI)] _ rfl
  have hg : ∀ W : World, RdG FI.cells 3 (W.alloc (.cells #[.int .i64 a', .int .i64 b', .bool g'] 24)) (some ⟨W.heap.size, 0, none⟩) 1 [(⟨a', b', g'⟩ : FI)] := fun W => Rd.litFlat fldK.len [(⟨a', b', g'⟩ : FI)] _ rfl
  have hbx := Box.alloc (Box.new w 24 [.int .i64 a, .int .i64 b, .bool g]) (.cells #[.int .i64 a', .int .i64 b', .bool g'] 24)
  have hby := Box.new (w.alloc (.cells #[.int .i64 a, .int .i64 b, .bool g] 24)) 24 [.int .i64 a', .int .i64 b', .bool g']
  rw [show (w.alloc (.cells #[.int .i64 a, .int .i64 b, .bool g] 24)).heap.size = w.heap.size + 1 by simp] at hby
  have hs1 : ∀ (W : World) (o : Obj), (W.alloc o).heap.size = W.heap.size + 1 := fun W o => by simp
  have HF2 := Lib.hid (fun (W : World) (o : Obj) => (by have := hf (W.alloc o); rw [hs1] at this; exact this : RdG FI.cells 3 ((W.alloc o).alloc (.cells #[.int .i64 a, .int .i64 b, .bool g] 24)) (some ⟨W.heap.size + 1, 0, none⟩) 1 [(⟨a, b, g⟩ : FI)]))
  have HG2 := Lib.hid (fun (W : World) (o : Obj) => (by have := hg (W.alloc o); rw [hs1] at this; exact this : RdG FI.cells 3 ((W.alloc o).alloc (.cells #[.int .i64 a', .int .i64 b', .bool g'] 24)) (some ⟨W.heap.size + 1, 0, none⟩) 1 [(⟨a', b', g'⟩ : FI)]))
  have HF := Lib.hid hf
  have HG := Lib.hid hg
  clear hf hg hs1
  go_enter Try.func8, Try.ntmps8
  go_wp2_with fail
  refine (alive23_any _).mono ?_
  rintro e w1 ⟨rfl, hb1⟩
  replace hbx := hbx.below hb1 hbx.lt
  replace hby := hby.below hb1 hby.lt
  have hw := below_new (below_new hb1)
  clear hb1
  have p0 := hbx.cell 0 rfl
  have p1 := hbx.cell 1 rfl
  have p2 := hbx.cell 2 rfl
  have p3 := hby.cell 0 rfl
  have p4 := hby.cell 1 rfl
  have p5 := hby.cell 2 rfl
  by_cases hbb : b = b'
  · subst hbb
    have D := Lib.hid (HM.out rfl)
    clear HM
    have p6 := (hby.alloc (.cells #[.int .i64 a, .int .i64 b, .bool g] 24)).cell 0 rfl
    have p7 := (hby.alloc (.cells #[.int .i64 a, .int .i64 b, .bool g] 24)).cell 1 rfl
    have p8 := (hby.alloc (.cells #[.int .i64 a, .int .i64 b, .bool g] 24)).cell 2 rfl
    have CM := Lib.hid (Move_any A0 (some ⟨w1.heap.size, 0, none⟩) A2 (some ⟨w1.heap.size + 1, 0, none⟩) n0 c0 1 1 n2 c2 1 1 l0 [(⟨a, b, g⟩ : FI)] l2 [(⟨a', b, g'⟩ : FI)] _ (((h0.below hw).alloc (.cells #[.int .i64 a, .int .i64 b, .bool g] 24)).alloc (.cells #[.int .i64 a', .int .i64 b, .bool g'] 24)) q0 ((HF.out w1).alloc (.cells #[.int .i64 a', .int .i64 b, .bool g'] 24)) (((h2.below hw).alloc (.cells #[.int .i64 a, .int .i64 b, .bool g] 24)).alloc (.cells #[.int .i64 a', .int .i64 b, .bool g'] 24)) q2 (by omega) (by omega) (HG2.out _ _))
    have CM2 := Lib.hid (fun (A : Option Addr) (n c : Nat) (x : List Int) (hx : Byt x) (W : World) (hW : Below w.heap.size w W) (hr : Rd W 1 A n (x.map (Value.int .u8))) => Move_any A (some ⟨W.heap.size, 0, none⟩) A0 (some ⟨W.heap.size + 1, 0, none⟩) n c 1 1 n0 c0 1 1 x [(⟨a', b, g'⟩ : FI)] l0 [(⟨a, b, g⟩ : FI)] _ ((hr.alloc (.cells #[.int .i64 a', .int .i64 b, .bool g'] 24)).alloc (.cells #[.int .i64 a, .int .i64 b, .bool g] 24)) hx ((HG.out W).alloc (.cells #[.int .i64 a, .int .i64 b, .bool g] 24)) (((h0.below hW).alloc (.cells #[.int .i64 a', .int .i64 b, .bool g'] 24)).alloc (.cells #[.int .i64 a, .int .i64 b, .bool g] 24)) q0 (by omega) (by omega) (HF2.out _ _))
    have CG1 := Lib.hid (fun (W : World) (hW : Below w.heap.size w W) => FGet_any A0 n0 c0 l0 ⟨a, b, g⟩ W (h0.below hW) q0)
    have CG2 := Lib.hid (fun (A : Option Addr) (n c : Nat) (x : List Int) (W : World) (hr : Rd W 1 A n (x.map (Value.int .u8))) (hx : Byt x) => FGet_any A n c x ⟨a', b, g'⟩ W hr hx)
    have HBy := Lib.hid (moveE_byt l0 [(⟨a, b, g⟩ : FI)] [(⟨a', b, g'⟩ : FI)] q2)
    generalize moveE l0 [(⟨a, b, g⟩ : FI)] l2 [(⟨a', b, g'⟩ : FI)] = M at *
    obtain ⟨X, eX⟩ := M
    simp only at D CM
    go_wp2_with fail
    refine CM.out.mono ?_
    intro e w3 hG
    obtain ⟨A, c, rfl, hr, hnc, hcm, hb3⟩ := hG.open_
    have HX : Hid (Byt X) := HBy.out
    replace hb3 := below_new (below_new hb3)
    clear CM hG p0 p1 p2 p3 p4 p5 p6 p7 p8
    replace hbx := hbx.below hb3 hbx.lt
    replace hby := hby.below hb3 hby.lt
    replace hw := bthen hw hb3
    clear hb3
    rcases D.out with ⟨y1, rfl⟩ | ⟨rfl, k, y2, y3, y4⟩
    · have y2 : (eX != 0) = true := by simpa using y1
      clear CM2 CG1 CG2 D
      go_wp2
      go_ret
      exact ⟨rfl, hw⟩
    · have CG3 := Lib.hid (CG2.out A X.length c X)
      rw [y2] at CG1
      rw [y3] at CG3
      simp only at CG1 CG3
      have CM3 := Lib.hid (CM2.out A X.length c X HX.out)
      rw [y4] at CM3
      clear CM2 CG2 D y2 y3 y4
      generalize X.length = xn at *
      have p0 := hbx.cell 0 rfl
      have p1 := hbx.cell 1 rfl
      have p2 := hbx.cell 2 rfl
      have p3 := hby.cell 0 rfl
      have p4 := hby.cell 1 rfl
      have p5 := hby.cell 2 rfl
      go_wp2_with fail
      refine (CG1.out _ hw).mono ?_
      rintro e w4 ⟨rfl, hb4⟩
      clear CG1 p0 p1 p2 p3 p4 p5
      replace hbx := hbx.below hb4 hbx.lt
      replace hby := hby.below hb4 hby.lt
      replace hw := bthen hw hb4
      replace hr := hr.below hb4
      clear hb4
      have p0 := hbx.cell 0 rfl
      have p1 := hbx.cell 1 rfl
      have p2 := hbx.cell 2 rfl
      have p3 := hby.cell 0 rfl
      have p4 := hby.cell 1 rfl
      have p5 := hby.cell 2 rfl
      go_wp2_with fail
      refine (CG3.out _ hr HX.out).mono ?_
      rintro e w5 ⟨rfl, hb5⟩
      clear CG3 p0 p1 p2 p3 p4 p5
      replace hbx := hbx.below hb5 hbx.lt
      replace hby := hby.below hb5 hby.lt
      replace hw := bthen hw hb5
      replace hr := hr.below hb5
      clear hb5
      have p3 := hby.cell 0 rfl
      have p4 := hby.cell 1 rfl
      have p5 := hby.cell 2 rfl
      have p0 := (hbx.alloc (.cells #[.int .i64 a', .int .i64 b, .bool g'] 24)).cell 0 rfl
      have p1 := (hbx.alloc (.cells #[.int .i64 a', .int .i64 b, .bool g'] 24)).cell 1 rfl
      have p2 := (hbx.alloc (.cells #[.int .i64 a', .int .i64 b, .bool g'] 24)).cell 2 rfl
      have CM4 := Lib.hid (CM3.out w5 hw hr)
      go_wp2_with fail
      refine CM4.out.mono ?_
      intro e w6 hG
      obtain ⟨A6, c6, rfl, hr6, _, _, hb6⟩ := hG.open_
      replace hb6 := below_new (below_new hb6)
      replace hw := bthen hw hb6
      rw [Hl.out] at hr6 ⊢
      have CE := Lib.hid (EqualY_same A6 A0 n0 c6 n0 c0 l0 w6 hr6 (h0.below hw) q0)
      clear CM4 CM3 hG p0 p1 p2 p3 p4 p5 hb6 hbx hby hr hr6
      go_wp2_with (go_at_call 18; refine CE.out.mono ?_; rintro e w7 ⟨rfl, rfl⟩)
      go_ret
      exact ⟨rfl, hw⟩
  · have y1 : (b != b') = true := by simpa using hbb
    clear HM HF HG
    go_wp2
    go_ret
    exact ⟨rfl, hw⟩
end Go.Proofs.Ytldkmopkakdgnaa
