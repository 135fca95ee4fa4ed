/-
  Contract of field.Move, for every input.
-/
import Derived.Test.YtldkmopkakdgnaaFieldPut
import Derived.Test.YtldkmopkakdgnaaFieldTypes
namespace Go.Proofs.Ytldkmopkakdgnaa
open Go.RowKit
set_option maxRecDepth 20000
set_option linter.unusedVariables false

theorem bcellF {w w' : World} {p : Addr} {v : Value} (hb : Below w.heap.size w w') (h : w.cell? p = some v) : w'.cell? p = some v := (hb.cell (World.block_lt_of_cell? w _ h)).trans h
theorem Move_len (A1 A2 A3 A4 : Option Addr) (n1 c1 n2 c2 n3 c3 n4 c4 : Nat) (w : World) (h : n2 ≠ n4) :
    Calls Try.prog 16 #[.slice A1 n1 c1, .slice A2 n2 c2, .slice A3 n3 c3, .slice A4 n4 c4] w fun e w' => e = .returned (.tuple #[.slice none 0 0, .int .i64 1]) ∧ w' = w := by
  have h' : ((n2 : Int) != (n4 : Int)) = true := by simp; omega
  go_enter Try.func16, Try.ntmps16
  go_wp2
  go_ret2
  exact ⟨rfl, rfl⟩
set_option maxHeartbeats 800000 in
theorem Move_go (A1 A2 A3 A4 : Option Addr) (n1 c1 n c2 m c3 c4 : Nat) (l : List Int) (a : List FI) (t : List Int) (b : List FI) (w : World) (h1 : Rd w 1 A1 n1 (l.map (Value.int .u8))) (hb1 : Byt l) (h2 : RdG FI.cells 3 w A2 n a) (h3 : Rd w 1 A3 m (t.map (Value.int .u8))) (hb3 : Byt t) (hm : m ≤ 175921860444160) (hn : n ≤ 140737488355328) (h4 : RdG FI.cells 3 w A4 n b) :
    Calls Try.prog 16 #[.slice A1 n1 c1, .slice A2 n c2, .slice A3 m c3, .slice A4 n c4] w (GivesY (moveG l (a.drop 0) (b.drop 0) t).1 (moveG l (a.drop 0) (b.drop 0) t).2 w) := by
  have Hl := Lib.hid h1.lenMap
  have Ht := Lib.hid h3.lenMap
  have Ha := Lib.hid (RdG.len fldK h2)
  have Hb := Lib.hid (RdG.len fldK h4)
  generalize hR : moveG l (a.drop 0) (b.drop 0) t = R
  have HR := Lib.hid hR
  clear hR
  have CC := Lib.hid (CloneY_any A3 m c3 t w h3 hm)
  have CG := Lib.hid (fun (f : FI) (W : World) (hW : Below w.heap.size w W) => FGet_any A1 n1 c1 l f W (h1.below hW) hb1)
  clear h1 h3
  go_enter Try.func16, Try.ntmps16
  go_wp2_with fail
  refine CC.out.mono ?_
  rintro e w1 ⟨v, rfl, ho, hbl⟩
  clear CC
  obtain ⟨Ag, cg, rfl, hc1, hc2, _⟩ := ho.formN Ht.out
  go_wp2
  go_loopw [24] (fun i wr => ∃ (k : Nat) (cur : List Int), k ≤ n ∧ i = .int .i64 k ∧ moveG l (a.drop k) (b.drop k) cur = R ∧ Byt cur ∧ cur.length = m ∧ Ow (Value.int .u8) wr w.heap.size 5 (.slice Ag m cg) cur ∧ Below w.heap.size w wr) (fun i _ => n - (intOf i).toNat)
  case atStart => exact ⟨0, t, Nat.zero_le _, rfl, HR.out, hb3, Ht.out, ho, hbl⟩
  case round =>
    clear ho hbl
    obtain ⟨k, cur, hk, rfl, hR, hbc, hlc, ho, hbl⟩ := hrel
    have HR := Lib.hid hR
    have HC := Lib.hid hlc
    clear hR hlc
    by_cases hlt : k < n
    · obtain ⟨ad, ⟨fr, wd, bg⟩, rfl, hx, q0, q1, q2⟩ := fld_at (Rd.below h2 hbl) hlt
      obtain ⟨ad4, ⟨fr4, wd4, bg4⟩, rfl, hx4, p0, p1, p2⟩ := fld_at (Rd.below h4 hbl) hlt
      simp only at q0 q1 q2 p0 p1 p2
      have HX := Lib.hid hx
      have HX4 := Lib.hid hx4
      have CQ := Lib.hid (CG.out ⟨fr, wd, bg⟩ wr hbl)
      clear hx hx4
      by_cases hz : wrongW ⟨fr, wd, bg⟩ (l.length : Int) = 0
      · rw [getE_ok hz] at CQ
        have HZ := Lib.hid hz
        clear hz
        have hw0 : 0 ≤ getF l (FI.fld ⟨fr, wd, bg⟩) := getF_nonneg _ _
        have CS := Lib.hid (fun (W : World) => wrongSet_any ⟨fr4, wd4, bg4⟩ (m : Int) (getF l (FI.fld ⟨fr, wd, bg⟩)) W)
        by_cases hs : setW ⟨fr4, wd4, bg4⟩ (m : Int) (getF l (FI.fld ⟨fr, wd, bg⟩)) = 0
        · rw [hs] at CS
          have HN := Lib.hid ((moveG_next HX.out HX4.out HZ.out (cur := cur) (by rw [HC.out]; exact hs)).symm.trans HR.out)
          obtain ⟨F, m', e1, e2, ok, g0, g1⟩ := setW_zero hs
          obtain rfl : m = m' := by omega
          rw [e2, i_fld] at HN
          unfold Fld.i at e2
          injection e2 with y1 y2 y3
          subst y1 y2 y3
          have hmp : 0 < m := by
            have := ok.fits
            have := ok.one
            unfold Fld.fits at *
            omega
          obtain ⟨g, c', hv, hgB, _, _⟩ := ho.head (by rw [HC.out]; exact hmp)
          rw [HC.out] at hv
          injection hv with hv1 hv2 hv3
          subst hv1 hv3
          have CP := Lib.hid (fun (W : World) (hW : Ow (Value.int .u8) W w.heap.size 5 (.slice (some ⟨g, 0, none⟩) m cg) cur) (hg : g < W.heap.size) => put_any F (getF l (FI.fld ⟨fr, wd, bg⟩)) g m cg w.heap.size cur W hW hg hbc ok g0 g1)
          have HB := Lib.hid (setF_byt cur F (getF l (FI.fld ⟨fr, wd, bg⟩)))
          have HL := Lib.hid (setF_length cur F (getF l (FI.fld ⟨fr, wd, bg⟩)))
          generalize setF cur F (getF l (FI.fld ⟨fr, wd, bg⟩)) = nxt at *
          generalize getF l (FI.fld ⟨fr, wd, bg⟩) = z at *
          clear hs ok CG HZ g0 g1 HR HX HX4
          go_wp2_with fail
          refine CQ.out.mono ?_
          rintro e w3 ⟨rfl, hb3⟩
          clear CQ q0 q1 q2
          have hbl3 := bthen hbl hb3
          replace ho := ho.below hb3
          replace p0 := bcellF hb3 p0
          replace p1 := bcellF hb3 p1
          replace p2 := bcellF hb3 p2
          clear hb3
          go_wp2_with fail
          refine (CS.out _).mono ?_
          rintro e w4 ⟨rfl, hb4⟩
          clear CS
          have hbl4 := bthen hbl3 hb4
          replace ho := ho.below hb4
          replace p0 := bcellF hb4 p0
          replace p1 := bcellF hb4 p1
          replace p2 := bcellF hb4 p2
          have CQ2 := Lib.hid (CP.out _ ho (ho.inHeap g rfl))
          clear hb4 hbl3 CP
          go_wp2_with fail
          refine CQ2.out.mono ?_
          rintro e w5 ⟨rfl, ho5, hg5⟩
          clear CQ2 p0 p1 p2
          go_wp2
          go_roundw
          case rel => exact ⟨k + 1, nxt, by omega, by go_num, HN.out, HB.out, by rw [HL.out, HC.out], ho5, below_grown hbl4 hg5 hgB hbl4.size⟩
          case measure => simp [intOf] <;> omega
        · have HN := Lib.hid ((moveG_set HX.out HX4.out HZ.out (cur := cur) (by rw [HC.out]; exact hs)).symm.trans HR.out)
          rw [HC.out] at HN
          generalize setW ⟨fr4, wd4, bg4⟩ (m : Int) (getF l (FI.fld ⟨fr, wd, bg⟩)) = r at *
          generalize getF l (FI.fld ⟨fr, wd, bg⟩) = z at *
          have hr : (r != 0) = true := by simpa using hs
          clear hs CG HZ HR HX HX4
          go_wp2_with fail
          refine CQ.out.mono ?_
          rintro e w3 ⟨rfl, hb3⟩
          clear CQ q0 q1 q2
          have hbl3 := bthen hbl hb3
          replace p0 := bcellF hb3 p0
          replace p1 := bcellF hb3 p1
          replace p2 := bcellF hb3 p2
          clear hb3
          go_wp2_with fail
          refine (CS.out _).mono ?_
          rintro e w4 ⟨rfl, hb4⟩
          clear CS
          go_wp2
          go_ret2
          rw [← HN.out]
          exact ⟨⟨_, rfl, Ow.nil _ _ _ _⟩, bthen hbl3 hb4⟩
      · rw [getE_bad hz] at CQ
        have HN := Lib.hid ((moveG_get HX.out HX4.out (cur := cur) hz).symm.trans HR.out)
        generalize wrongW ⟨fr, wd, bg⟩ (l.length : Int) = r at *
        have hr : (r != 0) = true := by simpa using hz
        clear hz CG HR HX HX4
        go_wp2_with fail
        refine CQ.out.mono ?_
        rintro e w3 ⟨rfl, hb3⟩
        clear CQ q0 q1 q2
        go_wp2
        go_ret2
        rw [← HN.out]
        exact ⟨⟨_, rfl, Ow.nil _ _ _ _⟩, bthen hbl hb3⟩
    · obtain rfl : k = n := by omega
      have HN := Lib.hid ((moveG_end (l := l) (cur := cur) (b := b) (by rw [Ha.out]; exact Nat.le_refl _)).symm.trans HR.out)
      clear HR
      go_wp2
      go_ret2
      rw [← HN.out]
      exact ⟨⟨_, rfl, ho⟩, hbl⟩
theorem Move_any (A1 A2 A3 A4 : Option Addr) (n1 c1 n c2 m c3 n4 c4 : Nat) (l : List Int) (a : List FI) (t : List Int) (b : List FI) (w : World) (h1 : Rd w 1 A1 n1 (l.map (Value.int .u8))) (hb1 : Byt l) (h2 : RdG FI.cells 3 w A2 n a) (h3 : Rd w 1 A3 m (t.map (Value.int .u8))) (hb3 : Byt t) (hm : m ≤ 175921860444160) (hna : n ≤ 140737488355328) (h4 : RdG FI.cells 3 w A4 n4 b) :
    Calls Try.prog 16 #[.slice A1 n1 c1, .slice A2 n c2, .slice A3 m c3, .slice A4 n4 c4] w (GivesY (moveE l a t b).1 (moveE l a t b).2 w) := by
  have e2 := RdG.len fldK h2
  have e4 := RdG.len fldK h4
  by_cases hn : n = n4
  · subst hn
    have e : moveE l a t b = moveG l (a.drop 0) (b.drop 0) t := by unfold moveE; rw [if_neg (by omega)]; rfl
    rw [e]
    exact Move_go A1 A2 A3 A4 n1 c1 n c2 m c3 c4 l a t b w h1 hb1 h2 h3 hb3 hm hna h4
  · have e : moveE l a t b = ([], 1) := by unfold moveE; rw [if_pos (by omega)]
    rw [e]
    refine (Move_len A1 A2 A3 A4 n1 c1 n c2 m c3 n4 c4 w hn).mono ?_
    rintro e w' ⟨rfl, rfl⟩
    exact ⟨⟨_, rfl, Ow.nil _ _ _ _⟩, Below.refl _ _⟩
end Go.Proofs.Ytldkmopkakdgnaa
