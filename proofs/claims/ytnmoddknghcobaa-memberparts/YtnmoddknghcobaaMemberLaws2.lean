/-
  alive16; the laws MemberOut, MemberLike.
-/
import Derived.Test.YtnmoddknghcobaaMemberGroup2
import Derived.Test.YtnmoddknghcobaaMemberMath2
namespace Go.Proofs.Ytnmoddknghcobaa
open Go.RowKit
set_option linter.unusedVariables false

def aliveH : List Hrd := [⟨0, false, 0⟩, ⟨1, true, 7⟩, ⟨2, false, 0⟩]
theorem aliveH_ok : ∀ x ∈ aliveH, x.Ok := by
  intro x hx
  simp only [aliveH, List.mem_cons, List.not_mem_nil, or_false] at hx
  rcases hx with rfl | rfl | rfl <;> exact ⟨⟨by decide, by decide⟩, by decide⟩
theorem alive_play : playAE 0 3 aliveH = 0 ∧ playAM 0 3 aliveH = ⟨3, 1, 1, false⟩ := by decide +kernel
theorem alive_rounds : roundsL [7, 7, 7] 2 = [⟨7, 2, 0, false⟩, ⟨7, 1, 0, false⟩, ⟨7, 0, 0, false⟩] ∧ roundsE 3 2 = 0 := by decide +kernel
set_option maxRecDepth 100000 in
set_option maxHeartbeats 1600000 in
theorem alive16_any (w : World) : Calls Try.prog 19 #[] w fun e w' => e = .returned (.bool true) ∧ Below w.heap.size w w' := by
  have hr : RdG hrdC 3 (w.alloc (.cells #[.int .i64 0, .bool false, .int .u16 0, .int .i64 1, .bool true, .int .u16 7, .int .i64 2, .bool false, .int .u16 0] 26)) (some ⟨w.heap.size, 0, none⟩) 3 aliveH := Rd.litFlat hrdK.len aliveH _ rfl
  have C1 := Lib.hid (Play_any 0 3 _ 3 3 aliveH _ hr aliveH_ok (by decide))
  rw [alive_play.1, alive_play.2] at C1
  have C2 := Lib.hid (fun (W : World) => Rounds_any (some ⟨W.heap.size, 0, none⟩) 3 3 [7, 7, 7] 2 (W.alloc (.cells #[.int .u16 7, .int .u16 7, .int .u16 7] 22)) (Rd.litAt u16V [7, 7, 7] 22 rfl) (by decide) (by decide))
  rw [alive_rounds.1, alive_rounds.2] at C2
  clear hr
  go_enter Try.func19, Try.ntmps19
  go_wp2_with fail
  refine (C1.out).mono ?_
  rintro e w1 ⟨rfl, hb1⟩
  have hB1 := below_new hb1
  have x1 := Box.new w1 24 [.int .u16 3, .int .i64 1, .int .i64 1, .bool false]
  have hB1' := hB1.alloc hB1.size (.cells #[.int .u16 3, .int .i64 1, .int .i64 1, .bool false] 24)
  have X1 := Lib.hid x1
  clear C1 hb1 x1 hB1
  go_upto_region 2 with fail
  generalize w1.alloc (.cells #[.int .u16 3, .int .i64 1, .int .i64 1, .bool false] 24) = u1 at *
  go_wp2_with fail
  refine (C2.out _).mono ?_
  rintro e w2 ⟨v2, rfl, ho2, hb2⟩
  have hb2' := below_new hb2
  have X2 := Lib.hid (X1.out.below hb2' X1.out.lt)
  have hB2 := bthen hB1' hb2'
  obtain ⟨g, c, rfl, hg, hc1, hc2⟩ := ho2.head (by decide)
  have k0 := ho2.cellAt memK (k := 0) (j := 0) (u := .int .u16 7) rfl rfl
  have k1 := ho2.cellAt memK (k := 2) (j := 3) (u := .bool false) rfl rfl
  have c0 := X2.out.cell 0 rfl
  have c1 := X2.out.cell 1 rfl
  have c2 := X2.out.cell 2 rfl
  have c3 := X2.out.cell 3 rfl
  simp only [List.length_cons, List.length_nil] at *
  clear ho2 C2 X1 X2 hb2 hb2' hB1'
  go_wp2
  go_ret
  exact ⟨rfl, hB2⟩

set_option maxRecDepth 100000 in
set_option maxHeartbeats 3200000 in
theorem MemberOut_walk (own va ta la : Int) (oa : Bool) (A : Option Addr) (n c : Nat) (l : List Hrd) (w : World) (w0 : (Lit.int .i64 own).wf = true) (wv : (Lit.int .u16 va).wf = true) (wt : (Lit.int .i64 ta).wf = true) (wl : (Lit.int .i64 la).wf = true)
    (h : RdG hrdC 3 w A n l) (hl : ∀ x ∈ l, x.Ok) (hk : n ≤ c) (hb : c * 16 ≤ 140737488351232) :
    Calls Try.prog 9 #[.int .i64 own, .agg #[.int .u16 va, .int .i64 ta, .int .i64 la, .bool oa], .slice A n c] w fun e w' => e = .returned (.bool true) ∧ Below w.heap.size w w' := by
  have r1 := wf_u16 wv
  obtain ⟨vw, rfl⟩ := Int.eq_ofNat_of_zero_le r1.1
  have h1 : vw < 65536 := by omega
  have CA := Lib.hid (fun (W : World) => alive16_any W)
  have CR := Lib.hid (fun (W : World) => Right_any own ⟨vw, ta, la, oa⟩ h1 W)
  have x4 := Box.new w 24 [.int .u16 (vw : Int), .int .i64 ta, .int .i64 la, .bool oa]
  have hB0 := (Below.refl w.heap.size w).alloc (Nat.le_refl _) (.cells #[.int .u16 (vw : Int), .int .i64 ta, .int .i64 la, .bool oa] 24)
  have hn : n ≤ 140737488355328 := by omega
  clear r1 wv
  by_cases hout : rightB own ⟨vw, ta, la, oa⟩ = true ∧ oa = true
  · obtain ⟨hr, rfl⟩ := hout
    have Hstep : Hid (∀ x : Hrd, ((x.nd < 0 ∨ 15 < x.nd) ∧ stepHE own ⟨vw, ta, la, true⟩ x = 2) ∨ (¬ (x.nd < 0 ∨ 15 < x.nd) ∧ stepHE own ⟨vw, ta, la, true⟩ x = 0 ∧ stepHM own ⟨vw, ta, la, true⟩ x = ⟨vw, ta, la, true⟩)) := fun x => out_step (right_true hr) rfl
    have CS := Lib.hid (fun (x : Hrd) (h2 : x.hv < 65536) (W : World) => Step_any own ⟨vw, ta, la, true⟩ x h1 h2 W)
    have Hl := Lib.hid hl
    rw [hr] at CR
    clear hl hr
    go_enter Try.func9, Try.ntmps9
    go_wp2_with fail
    refine (CA.out _).mono ?_
    rintro e w1 ⟨rfl, hb1⟩
    replace x4 := x4.below hb1 x4.lt
    have hB1 := bthen hB0 hb1
    have c0 := x4.cell 0 rfl
    have c1 := x4.cell 1 rfl
    have c2 := x4.cell 2 rfl
    have c3 := x4.cell 3 rfl
    clear CA hb1 hB0
    go_wp2_with fail
    refine (CR.out _).mono ?_
    rintro e w2 ⟨rfl, hb2⟩
    replace x4 := x4.below hb2 x4.lt
    have hB2 := bthen hB1 hb2
    clear CR c0 c1 c2 c3 hB1 hb2
    have c0 := x4.cell 0 rfl
    have c1 := x4.cell 1 rfl
    have c2 := x4.cell 2 rfl
    have c3 := x4.cell 3 rfl
    have hlt4 := x4.lt
    have X4 := Lib.hid (x4.alloc (.cells #[.int .u16 (vw : Int), .int .i64 ta, .int .i64 la, .bool true] 24))
    have X7 := Lib.hid (Box.new w2 24 [.int .u16 (vw : Int), .int .i64 ta, .int .i64 la, .bool true])
    have hB2' := hB2.alloc hB2.size (.cells #[.int .u16 (vw : Int), .int .i64 ta, .int .i64 la, .bool true] 24)
    have hsz := hB2.size
    clear x4 hB2
    go_wp2
    go_loopw [26] (fun i wr => ∃ j : Nat, j ≤ n ∧ i = .int .i64 j ∧ Box wr w2.heap.size 24 [.int .u16 (vw : Int), .int .i64 ta, .int .i64 la, .bool true] ∧ Box wr w.heap.size 24 [.int .u16 (vw : Int), .int .i64 ta, .int .i64 la, .bool true] ∧ Below w.heap.size w wr) (fun i _ => n - (intOf i).toNat)
    case atStart => exact ⟨0, Nat.zero_le _, rfl, X7.out, X4.out, hB2'⟩
    case round =>
      obtain ⟨j, hj, rfl, y7, y4, hbl⟩ := hrel
      clear X7 X4 hB2' c0 c1 c2 c3
      have Y7 := Lib.hid y7
      have Y4 := Lib.hid y4
      clear y7 y4
      have g0 := Y7.out.cell 0 rfl
      have g1 := Y7.out.cell 1 rfl
      have g2 := Y7.out.cell 2 rfl
      have g3 := Y7.out.cell 3 rfl
      have hl7 := Y7.out.lt
      by_cases hlt : j < n
      · obtain ⟨ad, x, rfl, hx, hx0, hx1, hx2⟩ := heard_at (h.below hbl) hlt
        have hxo := Hl.out x (List.mem_of_getElem? hx)
        have CS' := Lib.hid (fun (W : World) => CS.out x hxo.2 W)
        have hst := Hstep.out x
        have z9 := Box.new wr 26 [.int .i64 x.nd, .bool x.cm, .int .u16 (x.hv : Int)]
        obtain ⟨xn, xc, xv⟩ := x
        simp only at hx0 hx1 hx2 hst z9
        clear hx
        rcases hst with ⟨hbad, he⟩ | ⟨hgood, he, hm⟩
        · rw [he] at CS'
          have hbad' : xn < 0 ∨ (0 ≤ xn ∧ 16 ≤ xn) := by omega
          clear he hbad
          generalize stepHM own ⟨vw, ta, la, true⟩ ⟨xn, xc, xv⟩ = r at *
          obtain ⟨sv, st, sl, so⟩ := r
          rcases hbad' with q | ⟨q, q'⟩
          all_goals
            go_wp2_with fail
            refine (CS'.out _).mono ?_
            rintro e w6 ⟨rfl, hb6⟩
            have hb6' := below_new hb6
            have hB6 := bthen hbl hb6'
            have z9' := (z9.below hb6 z9.lt).alloc (.cells #[.int .u16 (sv : Int), .int .i64 st, .int .i64 sl, .bool so] 24)
            have d0 := z9'.cell 0 rfl
            have hlw := z9'.lt
            clear z9 z9' hb6 hb6' CS' hx0 hx1 hx2
            go_wp2
            go_ret
            exact ⟨rfl, hB6.alloc hB6.size _⟩
        · rw [he, hm] at CS'
          clear he hm hgood z9
          go_wp2_with fail
          refine (CS'.out _).mono ?_
          rintro e w6 ⟨rfl, hb6⟩
          have hb6' := below_new hb6
          have hB6 := bthen hbl hb6'
          have z7 := (Y7.out.below hb6' hl7).alloc (.cells #[.int .u16 (vw : Int), .int .i64 ta, .int .i64 la, .bool true] 24)
          have z4 := (Y4.out.below hb6' Y4.out.lt).alloc (.cells #[.int .u16 (vw : Int), .int .i64 ta, .int .i64 la, .bool true] 24)
          have zx := Box.new w6 24 [.int .u16 (vw : Int), .int .i64 ta, .int .i64 la, .bool true]
          have hB6' := hB6.alloc hB6.size (.cells #[.int .u16 (vw : Int), .int .i64 ta, .int .i64 la, .bool true] 24)
          clear CS' g0 g1 g2 g3 hx0 hx1 hx2 hb6 hb6' Y7 Y4 hB6
          go_upto_region 10 with fail
          generalize w6.alloc (.cells #[.int .u16 (vw : Int), .int .i64 ta, .int .i64 la, .bool true] 24) = w7 at *
          have k0 := z7.cell 0 rfl
          have k1 := z7.cell 1 rfl
          have k2 := z7.cell 2 rfl
          have k3 := z7.cell 3 rfl
          have f0 := z7.free 0
          have f1 := z7.free 1
          have f2 := z7.free 2
          have f3 := z7.free 3
          have hlz := z7.lt
          have q0 := zx.cell 0 rfl
          have q1 := zx.cell 1 rfl
          have q2 := zx.cell 2 rfl
          have q3 := zx.cell 3 rfl
          have Zw := Lib.hid ((((z7.set 0 (.int .u16 (vw : Int))).set 1 (.int .i64 ta)).set 2 (.int .i64 la)).set 3 (.bool true))
          have Zd := Lib.hid ((((z4.grown (grownBy_setCell _ ⟨w2.heap.size, 0, none⟩ (.int .u16 (vw : Int))) (by simp; omega)).grown (grownBy_setCell _ ⟨w2.heap.size, 1, none⟩ (.int .i64 ta)) (by simp; omega)).grown (grownBy_setCell _ ⟨w2.heap.size, 2, none⟩ (.int .i64 la)) (by simp; omega)).grown (grownBy_setCell _ ⟨w2.heap.size, 3, none⟩ (.bool true)) (by simp; omega))
          clear z7 z4 zx
          go_wp2
          go_roundw
          case rel => exact ⟨j + 1, by omega, by go_num, Zw.out, Zd.out, by repeat (first | (with_reducible exact Below.refl _ _) | (with_reducible assumption) | (with_reducible refine Below.setCell ?_ (by (try simp) <;> omega) _) | (with_reducible refine Below.alloc ?_ (by (try simp) <;> omega) _) | (with_reducible refine Below.drew ?_))⟩
          case measure => simp [intOf] <;> omega
      · obtain rfl : j = n := by omega
        have q0 := Y4.out.cell 0 rfl
        have q1 := Y4.out.cell 1 rfl
        have q2 := Y4.out.cell 2 rfl
        have q3 := Y4.out.cell 3 rfl
        clear Y7 Y4 CS Hstep
        go_wp2
        go_ret
        exact ⟨rfl, hbl⟩
  · have hno : rightB own ⟨vw, ta, la, oa⟩ = false ∨ (rightB own ⟨vw, ta, la, oa⟩ = true ∧ oa = false) := by
      cases hx : rightB own ⟨vw, ta, la, oa⟩
      · exact .inl rfl
      · rw [hx] at hout
        exact .inr ⟨rfl, by simpa using hout⟩
    clear hout
    rcases hno with hr | ⟨hr, rfl⟩
    all_goals
      rw [hr] at CR
      clear hr hl
      go_enter Try.func9, Try.ntmps9
      go_wp2_with fail
      refine (CA.out _).mono ?_
      rintro e w1 ⟨rfl, hb1⟩
      replace x4 := x4.below hb1 x4.lt
      have hB1 := bthen hB0 hb1
      have c0 := x4.cell 0 rfl
      have c1 := x4.cell 1 rfl
      have c2 := x4.cell 2 rfl
      have c3 := x4.cell 3 rfl
      clear CA hb1 hB0
      go_wp2_with fail
      refine (CR.out _).mono ?_
      rintro e w2 ⟨rfl, hb2⟩
      replace x4 := x4.below hb2 x4.lt
      have hB2 := bthen hB1 hb2
      clear CR c0 c1 c2 c3 hB1 hb2
      have c3 := x4.cell 3 rfl
      clear x4
      go_wp2
      go_ret
      exact ⟨rfl, hB2⟩
end Go.Proofs.Ytnmoddknghcobaa
