/-
  Contracts of rms's sum and lowest. No statement of the seat is here.
-/
import Derived.Test.YtajfohnblmnjjaaRmsWalks
import Derived.Test.YtajfohnblmnjjaaJ3
namespace Go.Proofs.Ytajfohnblmnjjaa
open Go.RowKit
set_option linter.unusedVariables false
set_option maxRecDepth 20000

theorem elU64 : ElemT Try.prog 48 45 (.int .u64 0) 1 8 := ⟨Try.underlying48, by kernel_rfl, rfl, by decide⟩
/-- Three such blocks, and whatever was made behind them. -/
structure ThreeL (w W : World) (A B R : List Nat) : Prop where
  a : WBox W w.heap.size A
  b : WBox W (w.heap.size + 1) B
  r : WBox W (w.heap.size + 1 + 1) R
  bl : Below w.heap.size w W
  sz : w.heap.size + 3 ≤ W.heap.size
theorem ThreeW.open_ {w W : World} {A B R : List Nat} (h : ThreeW w W A B R) : ThreeL w W A B R := ⟨h.a, h.b, h.r, h.bl, by have := h.sz; omega⟩
theorem ThreeL.later {w W W' : World} {A B R : List Nat} (h : ThreeL w W A B R) (hb : Below W.heap.size W W') : ThreeL w W' A B R :=
  ⟨h.a.below hb h.a.lt, h.b.below hb h.b.lt, h.r.below hb h.r.lt, bthen h.bl hb, Nat.le_trans h.sz hb.size⟩
theorem ThreeL.storeB {w W : World} {A R : List Nat} {y0 y1 y2 y3 : Nat} (h : ThreeL w W A [y0, y1, y2, y3] R) (x0 x1 x2 x3 : Nat) :
    ThreeL w ((((W.setCell ⟨w.heap.size + 1, 0, none⟩ (.int .u64 (x0 : Int))).setCell ⟨w.heap.size + 1, 1, none⟩ (.int .u64 (x1 : Int))).setCell ⟨w.heap.size + 1, 2, none⟩ (.int .u64 (x2 : Int))).setCell ⟨w.heap.size + 1, 3, none⟩ (.int .u64 (x3 : Int))) A [x0, x1, x2, x3] R := by
  have g := grown4 W (w.heap.size + 1) (.int .u64 (x0 : Int)) (.int .u64 (x1 : Int)) (.int .u64 (x2 : Int)) (.int .u64 (x3 : Int))
  have b := below4 h.bl (w.heap.size + 1) (.int .u64 (x0 : Int)) (.int .u64 (x1 : Int)) (.int .u64 (x2 : Int)) (.int .u64 (x3 : Int))
  have r := h.b.store4 x0 x1 x2 x3
  generalize ((((W.setCell ⟨w.heap.size + 1, 0, none⟩ (.int .u64 (x0 : Int))).setCell ⟨w.heap.size + 1, 1, none⟩ (.int .u64 (x1 : Int))).setCell ⟨w.heap.size + 1, 2, none⟩ (.int .u64 (x2 : Int))).setCell ⟨w.heap.size + 1, 3, none⟩ (.int .u64 (x3 : Int))) = W4 at *
  exact ⟨h.a.grown g (by simp), r, h.r.grown g (by simp), b, Nat.le_trans h.sz g.size⟩
theorem ThreeL.storeR {w W : World} {A B : List Nat} {y0 y1 y2 y3 : Nat} (h : ThreeL w W A B [y0, y1, y2, y3]) (x0 x1 x2 x3 : Nat) :
    ThreeL w ((((W.setCell ⟨w.heap.size + 1 + 1, 0, none⟩ (.int .u64 (x0 : Int))).setCell ⟨w.heap.size + 1 + 1, 1, none⟩ (.int .u64 (x1 : Int))).setCell ⟨w.heap.size + 1 + 1, 2, none⟩ (.int .u64 (x2 : Int))).setCell ⟨w.heap.size + 1 + 1, 3, none⟩ (.int .u64 (x3 : Int))) A B [x0, x1, x2, x3] := by
  have g := grown4 W (w.heap.size + 1 + 1) (.int .u64 (x0 : Int)) (.int .u64 (x1 : Int)) (.int .u64 (x2 : Int)) (.int .u64 (x3 : Int))
  have b := below4 h.bl (w.heap.size + 1 + 1) (.int .u64 (x0 : Int)) (.int .u64 (x1 : Int)) (.int .u64 (x2 : Int)) (.int .u64 (x3 : Int))
  have r := h.r.store4 x0 x1 x2 x3
  generalize ((((W.setCell ⟨w.heap.size + 1 + 1, 0, none⟩ (.int .u64 (x0 : Int))).setCell ⟨w.heap.size + 1 + 1, 1, none⟩ (.int .u64 (x1 : Int))).setCell ⟨w.heap.size + 1 + 1, 2, none⟩ (.int .u64 (x2 : Int))).setCell ⟨w.heap.size + 1 + 1, 3, none⟩ (.int .u64 (x3 : Int))) = W4 at *
  exact ⟨h.a.grown g (by simp; omega), h.b.grown g (by simp), r, b, Nat.le_trans h.sz g.size⟩
set_option maxHeartbeats 3200000 in
theorem sum_any (A : Option Addr) (n c : Nat) (M : List Tk) (hM : GoodK M) (w : World) (h : RdG tkC 2 w A n M) :
    Calls Try.prog 24 #[.slice A n c] w fun e w' => e = .returned (wideV (useN M)) ∧ Below w.heap.size w w' := by
  have hl : M.length = n := RdG.len tkK h
  have hn16 : n ≤ 16 := by have := hM.len; omega
  have HT := Lib.hid (threeW w [0, 0, 0, 0] [0, 0, 0, 0] [1, 0, 0, 0]).open_
  have HM := Lib.hid hM
  clear hM
  go_enter Try.func24, Try.ntmps24
  go_upto_region 3 with fail
  go_loopw [13] (fun i wr => ∃ k : Nat, k ≤ n ∧ i = .int .i64 k ∧ ThreeL w wr [0, 0, 0, 0] (digsW 4 (useN (M.take k))) (digsW 4 (useD (M.take k)))) (fun i _ => n - (intOf i).toNat)
  case atStart => exact ⟨0, Nat.zero_le _, rfl, by rw [List.take_zero, show useN [] = 0 from rfl, show useD [] = 1 from rfl, digs_one, digs_zero]; exact HT.out⟩
  case round =>
    obtain ⟨k, hk, rfl, T⟩ := hrel
    clear HT
    obtain ⟨n0, n1, n2, n3, hN⟩ := wide_cells (useN (M.take k))
    obtain ⟨d0, d1, d2, d3, hD⟩ := wide_cells (useD (M.take k))
    obtain ⟨zD, zN, _⟩ := (HM.out.take k).sizes
    obtain ⟨yD, yN, _⟩ := (HM.out.take (k + 1)).sizes
    by_cases hlt : k < n
    · obtain ⟨ad, p, t, rfl, hx, hc0, hc1⟩ := tk_at (h.below T.bl) hlt
      obtain ⟨h1, h2, h3⟩ := HM.out.at_ hx
      simp only at h1 h2 h3
      have hsn := use_snoc (M.take k) ⟨p, t⟩
      rw [← take_snoc hx] at hsn
      simp only at hsn
      obtain ⟨hs1, hs2⟩ := hsn
      -- the three products and the sum
      have X1 := fun W => times_any (useN (M.take k)) p (by omega) (by rw [powW_four]; omega) (by rw [powW_four]; omega) W
      have X2 := fun W => times_any (useD (M.take k)) t (by omega) (by rw [powW_four]; omega) (by rw [powW_four]; omega) W
      have X3 := fun W => plus_any (useN (M.take k) * p) (useD (M.take k) * t) (by rw [powW_four]; omega) W
      have X4 := fun W => times_any (useD (M.take k)) p (by omega) (by rw [powW_four]; omega) (by rw [powW_four]; omega) W
      rw [← hs1] at X3
      rw [← hs2] at X4
      obtain ⟨a0, a1, a2, a3, hA⟩ := wide_cells (useN (M.take k) * p)
      obtain ⟨b0, b1, b2, b3, hBq⟩ := wide_cells (useD (M.take k) * t)
      obtain ⟨s0, s1, s2, s3, hS⟩ := wide_cells (useN (M.take (k + 1)))
      obtain ⟨e0, e1, e2, e3, hE⟩ := wide_cells (useD (M.take (k + 1)))
      rw [hN, hD] at T
      rw [wide_out hN, wide_out hA] at X1
      rw [wide_out hD, wide_out hBq] at X2
      rw [wide_out hA, wide_out hBq, wide_out hS] at X3
      rw [wide_out hD, wide_out hE] at X4
      unfold wordV at X1 X2 X4
      have H1 := Lib.hid X1
      have H2 := Lib.hid X2
      have H3 := Lib.hid X3
      have H4 := Lib.hid X4
      have HS := Lib.hid (And.intro hS hE)
      have hbx := Box.new wr 38 [.int .i64 (p : Int), .int .i64 (t : Int)]
      have hTX := T.later (below_one (w := wr) (.cells #[.int .i64 (p : Int), .int .i64 (t : Int)] 38))
      have u1 := u64_nat (a := p) (by omega)
      have u2 := u64_nat (a := t) (by omega)
      clear X1 X2 X3 X4 hA hBq hS hE hN hD hs1 hs2 T hx zD zN yD yN h1 h2 h3
      go_upto_region 5 with fail
      generalize wr.alloc (.cells #[.int .i64 (p : Int), .int .i64 (t : Int)] 38) = X at *
      generalize wr.heap.size = b at *
      clear hc0 hc1
      have q0 := hbx.cell 0 rfl
      have q1 := hbx.cell 1 rfl
      go_quiet (fail)
      have hTY := hTX.later (below_draws (w := X) ⟨nq, rfl⟩)
      clear hTX hbx q0 q1
      generalize X.drewN nq = Y at *
      go_upto_region 6 with fail
      go_cut [] (fun W => ThreeL w W [0, 0, 0, 0] [s0, s1, s2, s3] [d0, d1, d2, d3])
      case first =>
        have hB : Below Y.heap.size Y Y.drew := (Below.refl _ _).drew
        have hcl : Hid (∀ W, Below Y.heap.size Y W → ThreeL w W [0, 0, 0, 0] [n0, n1, n2, n3] [d0, d1, d2, d3]) := fun W hW => hTY.later hW
        refine wp_region_F 7 (Y.heap.size) (by kernel_rfl) ?_
        refine wpAnyF_take (i := 0) (oi := { dst := some 23, op := Op.load 47 (Go.Operand.tmp 3), type := 47, pos := "rms.go:69", after := #[], guard := none }) (v := ?v1) rfl (by kernel_rfl) (by kernel_rfl) (by kernel_rfl) (by decide) (by kernel_rfl) (fun _ _ _ h => h) (Or.inl ⟨by rfl, ?hy1⟩) ?rs1
        case hy1 => (intro W hW; obtain ⟨c0, c1, c2, c3⟩ := (hcl.out W (hB.trans hW)).b.four; unfold wordV at c0 c1 c2 c3; go_simp; try with_reducible rfl)
        try simp only [Act.put, List.setIfInBounds_toArray, List.set_cons_zero, List.set_cons_succ]
        refine wpAnyF_pure (i := 1) (oi := { dst := some 24, op := Op.move (Go.Operand.tmp 7), type := 45, pos := "rms.go:69", after := #[], guard := none }) (v := ?v2) rfl (by kernel_rfl) (by kernel_rfl) (by kernel_rfl) (fun _ _ _ h => h) (Or.inl ⟨by rfl, ?hy2⟩) ?rs2
        case hy2 => (intro W hW; go_simp; try with_reducible rfl)
        try simp only [Act.put, List.setIfInBounds_toArray, List.set_cons_zero, List.set_cons_succ]
        refine wpAnyF_take (i := 3) (oi := { dst := some 26, op := Op.load 47 (Go.Operand.tmp 4), type := 47, pos := "rms.go:69", after := #[], guard := none }) (v := ?v3) rfl (by kernel_rfl) (by kernel_rfl) (by kernel_rfl) (by decide) (by kernel_rfl) (fun _ _ _ h => h) (Or.inl ⟨by rfl, ?hy3⟩) ?rs3
        case hy3 => (intro W hW; obtain ⟨c0, c1, c2, c3⟩ := (hcl.out W (hB.trans hW)).r.four; unfold wordV at c0 c1 c2 c3; go_simp; try with_reducible rfl)
        try simp only [Act.put, List.setIfInBounds_toArray, List.set_cons_zero, List.set_cons_succ]
        refine wpAnyF_pure (i := 4) (oi := { dst := some 27, op := Op.move (Go.Operand.tmp 8), type := 45, pos := "rms.go:69", after := #[], guard := none }) (v := ?v4) rfl (by kernel_rfl) (by kernel_rfl) (by kernel_rfl) (fun _ _ _ h => h) (Or.inl ⟨by rfl, ?hy4⟩) ?rs4
        case hy4 => (intro W hW; go_simp; try with_reducible rfl)
        try simp only [Act.put, List.setIfInBounds_toArray, List.set_cons_zero, List.set_cons_succ]
        refine wpAnyF_one (i := 2) (o := { dst := some 25, op := Op.call { callee := Callee.value (Go.Operand.func 33), args := #[Go.Operand.tmp 23, Go.Operand.tmp 24], argTypes := #[47, 45] }, type := 47, pos := "rms.go:69", after := #[{ on := 0, ground := Ground.data }, { on := 1, ground := Ground.data }], guard := none }) (by kernel_rfl) rfl (fun K hK => ?_)
        go_simp
        refine (H1.out _).mono ?_; rintro e w7 ⟨rfl, hb7⟩; have hbk := hb7.mono hB.size; replace hB := hB.trans hbk
        refine hK.out _ _ hbk ?_
        clear hK K
        try simp only [Act.put, List.setIfInBounds_toArray, List.set_cons_zero, List.set_cons_succ]
        refine wpAnyF_one (i := 5) (o := { dst := some 28, op := Op.call { callee := Callee.value (Go.Operand.func 33), args := #[Go.Operand.tmp 26, Go.Operand.tmp 27], argTypes := #[47, 45] }, type := 47, pos := "rms.go:69", after := #[{ on := 3, ground := Ground.data }, { on := 4, ground := Ground.data }, { on := 2, ground := Ground.chain }], guard := none }) (by kernel_rfl) rfl (fun K hK => ?_)
        go_simp
        refine (H2.out _).mono ?_; rintro e w8 ⟨rfl, hb8⟩; have hbk := hb8.mono hB.size; replace hB := hB.trans hbk
        refine hK.out _ _ hbk ?_
        clear hK K
        try simp only [Act.put, List.setIfInBounds_toArray, List.set_cons_zero, List.set_cons_succ]
        refine wpAnyF_one (i := 6) (o := { dst := some 29, op := Op.call { callee := Callee.value (Go.Operand.func 50), args := #[Go.Operand.tmp 25, Go.Operand.tmp 28], argTypes := #[47, 47] }, type := 47, pos := "rms.go:69", after := #[{ on := 2, ground := Ground.data }, { on := 5, ground := Ground.data }, { on := 5, ground := Ground.chain }], guard := none }) (by kernel_rfl) rfl (fun K hK => ?_)
        go_simp
        refine (H3.out _).mono ?_; rintro e w9 ⟨rfl, hb9⟩; have hbk := hb9.mono hB.size; replace hB := hB.trans hbk; have T8 := hcl.out _ hB; obtain ⟨g0, g1, g2, g3⟩ := T8.b.four; obtain ⟨f0, f1, f2, f3⟩ := T8.b.frees; unfold wordV at g0 g1 g2 g3
        refine hK.out _ _ hbk ?_
        clear hK K
        try simp only [Act.put, List.setIfInBounds_toArray, List.set_cons_zero, List.set_cons_succ]
        refine wpAnyF_last (i := 7) (o := { dst := none, op := Op.store 47 (Go.Operand.tmp 3) (Go.Operand.tmp 29), type := 0, pos := "rms.go:69", after := #[{ on := 6, ground := Ground.data }, { on := 6, ground := Ground.chain }, { on := 0, ground := Ground.phase }, { on := 1, ground := Ground.phase }, { on := 2, ground := Ground.phase }, { on := 3, ground := Ground.phase }, { on := 4, ground := Ground.phase }, { on := 5, ground := Ground.phase }, { on := 6, ground := Ground.phase }], guard := none }) (by kernel_rfl) rfl (by decide) (fun K hK => ?_)
        go_simp
        refine hK.out _ _ ?_
        clear hK K
        try simp only [Act.put, List.setIfInBounds_toArray, List.set_cons_zero, List.set_cons_succ]
        refine wpAnyF_done (by kernel_rfl) ?_
        all_goals
          have T9 := T8.storeB s0 s1 s2 s3
          clear T8 g0 g1 g2 g3 f0 f1 f2 f3 hcl hTY H1 H2 H3
          go_wp2
          go_meet
          exact T9
      case rest =>
        obtain ⟨m0, m1, m2, m3⟩ := hcut.r.four
        unfold wordV at m0 m1 m2 m3
        clear H1 H2 H3
        go_wp2_with fail
        refine (H4.out _).mono ?_
        rintro e w7 ⟨rfl, hb7⟩
        have T10 := hcut.later hb7
        clear hcut m0 m1 m2 m3
        obtain ⟨g0, g1, g2, g3⟩ := T10.r.four
        obtain ⟨f0, f1, f2, f3⟩ := T10.r.frees
        unfold wordV at g0 g1 g2 g3
        have T11 := T10.storeR e0 e1 e2 e3
        rw [← HS.out.1, ← HS.out.2] at T11
        clear T10 hb7 H4
        go_wp2
        go_roundw
        case rel => exact ⟨k + 1, by omega, by go_num, T11⟩
        case measure => simp [intOf] <;> omega
    · have hkn : k = n := by omega
      subst hkn
      rw [List.take_of_length_le (by omega)] at hN T
      rw [hN] at T
      have HW := Lib.hid (wide_out hN)
      obtain ⟨c0, c1, c2, c3⟩ := T.b.four
      obtain ⟨f0, f1, f2, f3⟩ := T.a.frees
      obtain ⟨g0, g1, g2, g3⟩ := T.a.four
      have hR4 := WBox.store4 T.a n0 n1 n2 n3
      have hB4 := below4 T.bl w.heap.size (.int .u64 (n0 : Int)) (.int .u64 (n1 : Int)) (.int .u64 (n2 : Int)) (.int .u64 (n3 : Int)) (Nat.le_refl _)
      unfold wordV at c0 c1 c2 c3 g0 g1 g2 g3
      clear T hN hD zD zN yD yN
      go_wp2
      generalize ((((wr.setCell ⟨w.heap.size, 0, none⟩ (.int .u64 (n0 : Int))).setCell ⟨w.heap.size, 1, none⟩ (.int .u64 (n1 : Int))).setCell ⟨w.heap.size, 2, none⟩ (.int .u64 (n2 : Int))).setCell ⟨w.heap.size, 3, none⟩ (.int .u64 (n3 : Int))) = W4 at *
      obtain ⟨q0, q1, q2, q3⟩ := hR4.four
      unfold wordV at q0 q1 q2 q3
      exact bodyPost_ret (v := .agg #[.int .u64 (n0 : Int), .int .u64 (n1 : Int), .int .u64 (n2 : Int), .int .u64 (n3 : Int)]) (by simp [results, Try.results24, go_sem, q0, q1, q2, q3]) rfl ⟨by rw [HW.out], hB4⟩
/-- What lowest gives: the numerator that is left, and the factors of the denominator. -/
def GivesLow (N0 : Nat) (M : List Tk) (w : World) (e : Ending) (w' : World) : Prop :=
  ∃ N F A c, e = .returned (.tuple #[wideV N, .slice A M.length c]) ∧ Low N0 (M.map (·.p)) N F ∧ Rd w' 1 A M.length (F.map wordV) ∧ N ≤ N0 ∧ Below w.heap.size w w'
theorem below_four {W : World} {B b : Nat} {v0 v1 v2 v3 : Value} (hb : B ≤ b) : Below B W ((((W.setCell ⟨b, 0, none⟩ v0).setCell ⟨b, 1, none⟩ v1).setCell ⟨b, 2, none⟩ v2).setCell ⟨b, 3, none⟩ v3) :=
  ((((Below.refl _ _).setCell hb _).setCell hb _).setCell hb _).setCell hb _
theorem TwoW.storeA {w W : World} {R : List Nat} {y0 y1 y2 y3 : Nat} (h : TwoW w W [y0, y1, y2, y3] R) (x0 x1 x2 x3 : Nat) :
    TwoW w ((((W.setCell ⟨w.heap.size, 0, none⟩ (.int .u64 (x0 : Int))).setCell ⟨w.heap.size, 1, none⟩ (.int .u64 (x1 : Int))).setCell ⟨w.heap.size, 2, none⟩ (.int .u64 (x2 : Int))).setCell ⟨w.heap.size, 3, none⟩ (.int .u64 (x3 : Int))) [x0, x1, x2, x3] R := by
  have g := grown4 W w.heap.size (.int .u64 (x0 : Int)) (.int .u64 (x1 : Int)) (.int .u64 (x2 : Int)) (.int .u64 (x3 : Int))
  have b := below4 h.bl w.heap.size (.int .u64 (x0 : Int)) (.int .u64 (x1 : Int)) (.int .u64 (x2 : Int)) (.int .u64 (x3 : Int)) (Nat.le_refl _)
  have r := h.a.store4 x0 x1 x2 x3
  generalize ((((W.setCell ⟨w.heap.size, 0, none⟩ (.int .u64 (x0 : Int))).setCell ⟨w.heap.size, 1, none⟩ (.int .u64 (x1 : Int))).setCell ⟨w.heap.size, 2, none⟩ (.int .u64 (x2 : Int))).setCell ⟨w.heap.size, 3, none⟩ (.int .u64 (x3 : Int))) = W4 at *
  exact ⟨r, h.r.grown g (by simp), b, Nat.le_trans h.sz g.size⟩
theorem fill_word {F : List Nat} {n k : Nat} {x : Nat} (hl : F.length = k) (h : k < n) : (F ++ List.replicate (n - k) 0).set k x = F ++ [x] ++ List.replicate (n - (k + 1)) 0 := by
  obtain ⟨m, rfl⟩ : ∃ m, n = k + 1 + m := ⟨n - (k + 1), by omega⟩
  rw [List.set_append_right _ _ (by omega), hl, Nat.sub_self, show k + 1 + m - k = m + 1 by omega, List.replicate_succ, List.set_cons_zero, show k + 1 + m - (k + 1) = m by omega, List.append_assoc]; rfl
set_option maxHeartbeats 3200000 in
theorem lowest_any (N0 : Nat) (hN0 : N0 < powW 4) (A : Option Addr) (n c : Nat) (M : List Tk) (hM : GoodK M) (w : World) (h : RdG tkC 2 w A n M) :
    Calls Try.prog 23 #[wideV N0, .slice A n c] w (GivesLow N0 M w) := by
  have hl : M.length = n := RdG.len tkK h
  have hn16 : n ≤ 16 := by have := hM.len; omega
  obtain ⟨a0, a1, a2, a3, hA⟩ := wide_cells N0
  rw [wide_out hA]
  have HT := Lib.hid (twoW w [a0, a1, a2, a3] [0, 0, 0, 0])
  have HM := Lib.hid hM
  have HA := Lib.hid hA
  have hmk : ∀ W : World, (Instr.makeSlice 48 (.int .i64 n) (.int .i64 n)).run Try.prog W = .ok (.slice (some ⟨W.heap.size, 0, none⟩) n n) (W.alloc (.cells (madeCells #[.int .u64 0] n) 45)) := run_mk elU64 rfl .i64 .i64 n n (Nat.le_refl _) (by omega) (by omega)
  clear hM hA
  go_enter Try.func23, Try.ntmps23
  go_upto_region 1 with fail
  have T1 := HT.out
  have ew : (wordsV [a0, a1, a2, a3]).toArray = #[.int .u64 (a0 : Int), .int .u64 (a1 : Int), .int .u64 (a2 : Int), .int .u64 (a3 : Int)] := rfl
  have ez : (wordsV [0, 0, 0, 0]).toArray = #[.int .u64 0, .int .u64 0, .int .u64 0, .int .u64 0] := rfl
  rw [ew, ez] at T1
  have hW1 : ((w.alloc (.cells #[.int .u64 (a0 : Int), .int .u64 (a1 : Int), .int .u64 (a2 : Int), .int .u64 (a3 : Int)] 47)).alloc (.cells #[.int .u64 0, .int .u64 0, .int .u64 0, .int .u64 0] 47)).heap.size = w.heap.size + 2 := by simp
  clear HT ew ez
  generalize ((w.alloc (.cells #[.int .u64 (a0 : Int), .int .u64 (a1 : Int), .int .u64 (a2 : Int), .int .u64 (a3 : Int)] 47)).alloc (.cells #[.int .u64 0, .int .u64 0, .int .u64 0, .int .u64 0] 47)) = w1 at *
  have ho1 := Ow.make wordV 0 w1 45 (base := w.heap.size + 2) n (by unfold maxLen; omega) (by omega)
  have hm2 : w1.alloc (.cells (madeCells #[wordV 0] n) 45) = w1.alloc (.cells (madeCells #[.int .u64 0] n) 45) := rfl
  rw [hm2] at ho1
  have T2 := T1.later (below_one (w := w1) (.cells (madeCells #[.int .u64 0] n) 45))
  have hgx : w1.heap.size < (w1.alloc (.cells (madeCells #[.int .u64 0] n) 45)).heap.size := by simp
  have HW1 := Lib.hid hW1
  clear hW1
  go_upto_region 3 with fail
  clear hmk hm2 T1
  generalize w1.alloc (.cells (madeCells #[.int .u64 0] n) 45) = w2 at *
  generalize hge : w1.heap.size = g at *
  clear hge
  go_loopw [16] (fun i wr => ∃ (k : Nat) (N : Nat) (F : List Nat), k ≤ n ∧ i = .int .i64 k ∧ Low N0 ((M.take k).map (·.p)) N F ∧ N ≤ N0 ∧ TwoW w wr (digsW 4 N) [0, 0, 0, 0] ∧ Ow wordV wr (w.heap.size + 2) 45 (.slice (some ⟨g, 0, none⟩) n n) (F ++ List.replicate (n - k) 0) ∧ g < wr.heap.size) (fun i _ => n - (intOf i).toNat)
  case atStart => exact ⟨0, N0, [], Nat.zero_le _, rfl, by rw [List.take_zero]; exact Low.start N0, Nat.le_refl _, by rw [HA.out]; exact T2, by simpa using ho1, hgx⟩
  case round =>
    obtain ⟨k, N, F, hk, rfl, hL, hNN, T, ho, hgl⟩ := hrel
    clear T2 ho1 hgx HA
    have HL := Lib.hid hL
    clear hL
    obtain ⟨n0, n1, n2, n3, hN⟩ := wide_cells N
    have hFl : F.length = k := by have := HL.out.len; simp at this; omega
    by_cases hlt : k < n
    · obtain ⟨ad, p, t, rfl, hx, hc0, hc1⟩ := tk_at (h.below T.bl) hlt
      obtain ⟨h1, h2, h3⟩ := HM.out.at_ hx
      simp only at h1 h2 h3
      have hst := HL.out.step (p := p) (by omega) h3
      have hG0 : 0 < Nat.gcd p N := Nat.gcd_pos_of_pos_left _ (by omega)
      have hG1 : Nat.gcd p N ≤ p := Nat.gcd_le_left _ (by omega)
      have X1 := fun W => common_any N p (by omega) (by omega) (by omega) W
      have X2 := fun W => over_any N (Nat.gcd p N) hG0 (by omega) (by omega) W
      unfold GivesWide at X2
      have hdiv : N / Nat.gcd p N ≤ N := Nat.div_le_self _ _
      have hdp : p / Nat.gcd p N ≤ p := Nat.div_le_self _ _
      have hpw : IntKind.u64.wrap ((p : Int) / (Nat.gcd p N : Int)) = ((p / Nat.gcd p N : Nat) : Int) := by rw [← Int.natCast_ediv, w64 (by omega)]
      obtain ⟨m0, m1, m2, m3, hm⟩ := wide_cells (N / Nat.gcd p N)
      rw [hN] at T
      rw [wide_out hN] at X1 X2
      rw [wide_out hm] at X2
      have HP : Hid ((M.take (k + 1)).map (·.p) = (M.take k).map (·.p) ++ [p]) := by show _ = _; rw [take_snoc hx, List.map_append]; rfl
      unfold wordV at X1 X2
      generalize Nat.gcd p N = G at *
      generalize N % G = R at *
      have H1 := Lib.hid X1
      have H2 := Lib.hid X2
      have HS := Lib.hid hst
      have Hm := Lib.hid hm
      have u1 := u64_nat (a := p) (by omega)
      have hbx := Box.new wr 38 [.int .i64 (p : Int), .int .i64 (t : Int)]
      have hTX := T.later (below_one (w := wr) (.cells #[.int .i64 (p : Int), .int .i64 (t : Int)] 38))
      have hoX := Ow.alloc ho (.cells #[.int .i64 (p : Int), .int .i64 (t : Int)] 38)
      have hgX : g < (wr.alloc (.cells #[.int .i64 (p : Int), .int .i64 (t : Int)] 38)).heap.size := by simp; omega
      have hG4 : ¬ (G : Int) = 0 := by omega
      have hG5 : ¬ G = 0 := by omega
      clear X1 X2 hst hm hN hx T ho hgl
      go_upto_region 5 with fail
      generalize wr.alloc (.cells #[.int .i64 (p : Int), .int .i64 (t : Int)] 38) = X at *
      generalize wr.heap.size = b at *
      clear hc0 hc1
      have q0 := hbx.cell 0 rfl
      obtain ⟨c0, c1, c2, c3⟩ := hTX.a.four
      unfold wordV at c0 c1 c2 c3
      go_wp2_with fail
      refine (H1.out _).mono ?_
      rintro e w7 ⟨rfl, hb7⟩
      have hT7 := hTX.later hb7
      have ho7 := hoX.below hb7
      have hg7 : g < w7.heap.size := Nat.lt_of_lt_of_le hgX hb7.size
      clear q0 c0 c1 c2 c3 hTX hoX hgX hbx H1 hb7
      obtain ⟨c0, c1, c2, c3⟩ := hT7.a.four
      unfold wordV at c0 c1 c2 c3
      go_wp2_with fail
      refine (H2.out _).mono ?_
      rintro e w8 ⟨rfl, hb8⟩
      have hT8 := hT7.later hb8
      have ho8 := ho7.below hb8
      have hg8 : g < w8.heap.size := Nat.lt_of_lt_of_le hg7 hb8.size
      clear c0 c1 c2 c3 hT7 ho7 hg7 H2 hb8
      obtain ⟨g0, g1, g2, g3⟩ := hT8.a.four
      obtain ⟨f0, f1, f2, f3⟩ := hT8.a.frees
      unfold wordV at g0 g1 g2 g3
      go_upto_region 8 with fail
      have hT9 := hT8.storeA m0 m1 m2 m3
      have ho9 := ho8.keep (grown4 w8 w.heap.size (.int .u64 (m0 : Int)) (.int .u64 (m1 : Int)) (.int .u64 (m2 : Int)) (.int .u64 (m3 : Int))) (fun j hj e => by
        have := ho8.block j hj
        injection e with e
        omega)
      have hg9 : g < ((((w8.setCell ⟨w.heap.size, 0, none⟩ (.int .u64 (m0 : Int))).setCell ⟨w.heap.size, 1, none⟩ (.int .u64 (m1 : Int))).setCell ⟨w.heap.size, 2, none⟩ (.int .u64 (m2 : Int))).setCell ⟨w.heap.size, 3, none⟩ (.int .u64 (m3 : Int))).heap.size := by simpa [World.setCell] using hg8
      clear hT8 ho8 hg8 f0 f1 f2 f3 g0 g1 g2 g3
      generalize ((((w8.setCell ⟨w.heap.size, 0, none⟩ (.int .u64 (m0 : Int))).setCell ⟨w.heap.size, 1, none⟩ (.int .u64 (m1 : Int))).setCell ⟨w.heap.size, 2, none⟩ (.int .u64 (m2 : Int))).setCell ⟨w.heap.size, 3, none⟩ (.int .u64 (m3 : Int))) = w9 at *
      have hfz := ho9.freeAt k
      have hck := ho9.cellAt (k := k) (x := 0) (by rw [List.getElem?_append_right (by omega), hFl, Nat.sub_self, List.getElem?_replicate, if_pos (by omega)])
      unfold wordV at hck
      have ho10 := ho9.put k (p / G)
      rw [fill_word hFl hlt] at ho10
      have hT10 : TwoW w (w9.setCell ⟨g, k, none⟩ (wordV (p / G))) [m0, m1, m2, m3] [0, 0, 0, 0] :=
        ⟨hT9.a.grown (grownBy_setCell _ _ _) (by have := HW1.out; simp; omega), hT9.r.grown (grownBy_setCell _ _ _) (by have := HW1.out; simp; omega), hT9.bl.setCell (by have := HW1.out; show w.heap.size ≤ g; omega) _, by simpa [World.setCell] using hT9.sz⟩
      have hg10 : g < (w9.setCell ⟨g, k, none⟩ (wordV (p / G))).heap.size := by simpa [World.setCell] using hg9
      rw [← Hm.out] at hT10
      clear hT9 ho9 hg9
      unfold wordV at hT10 hg10 ho10
      go_wp2
      go_roundw
      case rel => exact ⟨k + 1, N / G, F ++ [p / G], by omega, by go_num, by rw [HP.out]; exact HS.out, by omega, hT10, ho10, hg10⟩
      case measure => simp [intOf] <;> omega
    · have hkn : k = n := by omega
      subst hkn
      rw [hN] at T
      have HW := Lib.hid (wide_out hN)
      obtain ⟨c0, c1, c2, c3⟩ := T.a.four
      obtain ⟨f0, f1, f2, f3⟩ := T.r.frees
      obtain ⟨g0, g1, g2, g3⟩ := T.r.four
      have hR4 := T.r.store4 n0 n1 n2 n3
      have hB4 := below4 T.bl (w.heap.size + 1) (.int .u64 (n0 : Int)) (.int .u64 (n1 : Int)) (.int .u64 (n2 : Int)) (.int .u64 (n3 : Int))
      have ho9 := ho.keep (grown4 wr (w.heap.size + 1) (.int .u64 (n0 : Int)) (.int .u64 (n1 : Int)) (.int .u64 (n2 : Int)) (.int .u64 (n3 : Int))) (fun j hj e => by
        have := ho.block j hj
        injection e with e
        omega)
      unfold wordV at c0 c1 c2 c3 g0 g1 g2 g3
      clear T hN ho
      go_wp2
      generalize ((((wr.setCell ⟨w.heap.size + 1, 0, none⟩ (.int .u64 (n0 : Int))).setCell ⟨w.heap.size + 1, 1, none⟩ (.int .u64 (n1 : Int))).setCell ⟨w.heap.size + 1, 2, none⟩ (.int .u64 (n2 : Int))).setCell ⟨w.heap.size + 1, 3, none⟩ (.int .u64 (n3 : Int))) = W4 at *
      obtain ⟨q0, q1, q2, q3⟩ := hR4.four
      unfold wordV at q0 q1 q2 q3
      refine bodyPost_ret (v := .tuple #[.agg #[.int .u64 (n0 : Int), .int .u64 (n1 : Int), .int .u64 (n2 : Int), .int .u64 (n3 : Int)], .slice (some ⟨g, 0, none⟩) k k]) (by simp [results, Try.results23, go_sem, q0, q1, q2, q3]) rfl ⟨N, F, some ⟨g, 0, none⟩, k, by rw [HW.out, hl], ?_, ?_, hNN, hB4⟩
      · have := HL.out
        rwa [List.take_of_length_le (by omega)] at this
      · rw [hl]
        have := ho9.rd
        rwa [Nat.sub_self, List.replicate_zero, List.append_nil] at this
end Go.Proofs.Ytajfohnblmnjjaa
