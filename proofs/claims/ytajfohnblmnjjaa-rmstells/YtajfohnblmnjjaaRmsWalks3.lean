/-
  Contracts of rms.Use and rms.Sure, for every list of tasks. No statement of the seat is here.
-/
import Derived.Test.YtajfohnblmnjjaaRmsWalks2
namespace Go.Proofs.Ytajfohnblmnjjaa
open Go.RowKit
set_option linter.unusedVariables false
set_option maxRecDepth 20000

/-- What Use tells of tasks in range. -/
def UseIs (M : List Tk) (a b x : Int) : Prop := (useBig M = true ∧ a = 0 ∧ b = 0 ∧ x = 4) ∨ (useBig M = false ∧ a = useNum M ∧ b = useDen M ∧ x = 0)
def GivesUse (L : List Tsk) (w : World) (e : Ending) (w' : World) : Prop :=
  ∃ a b x, e = .returned (.tuple #[.agg #[.int .i64 a, .int .i64 b], .int .i64 x]) ∧ Hid ((wrongK L = true ∧ a = 0 ∧ b = 0 ∧ x = 2) ∨ ∃ M, L = M.map Tk.asT ∧ GoodK M ∧ UseIs M a b x) ∧ Below w.heap.size w w'
theorem low_is {M : List Tk} {N : Nat} {F : List Nat} (hM : GoodK M) (h : Low (useN M) (M.map (·.p)) N F) : N = useNum M ∧ pby id F = useDen M := by
  have e : pby id (M.map (·.p)) = useD M := by
    rw [useD_pby]
    unfold pby
    rw [List.foldr_map]; rfl
  have h2 := h.done (by rw [e]; exact useD_pos hM.pos)
  rw [e] at h2
  exact h2
set_option maxHeartbeats 3200000 in
theorem Use_any (A : Option Addr) (n c : Nat) (L : List Tsk) (w : World) (h : RdG tskC 2 w A n L) (hn : n ≤ 4611686018427387904) :
    Calls Try.prog 9 #[.slice A n c] w (GivesUse L w) := by
  have HW := Lib.hid (fun (W : World) (hW : Below w.heap.size w W) => WrongK_any A n c L W (h.below hW) hn)
  have hbF := Box.new w 24 [.int .i64 0, .int .i64 0]
  have hB0 : Below w.heap.size w (w.alloc (.cells #[.int .i64 0, .int .i64 0] 24)) := below_one _
  cases hw : wrongK L
  · rw [errK_zero hw] at HW
    obtain ⟨M, rfl, hM⟩ := good_of hw
    clear hw
    have hl : M.length = n := by have := RdG.len tskK h; simpa using this
    subst hl
    replace h := tk_rd h
    obtain ⟨zD, zN, _⟩ := hM.sizes
    have S1 := Lib.hid (fun (W : World) (hW : Below w.heap.size w W) => sum_any A M.length c M hM W (h.below hW))
    have S2 := Lib.hid (fun (W : World) (hW : Below w.heap.size w W) => lowest_any (useN M) (by rw [powW_four]; omega) A M.length c M hM W (h.below hW))
    unfold GivesLow at S2
    have HM := Lib.hid hM
    clear hM
    go_enter Try.func9, Try.ntmps9
    go_upto_region 1 with fail
    replace hbF : Box (w.alloc (.cells #[.int .i64 0, .int .i64 0] 24)) w.heap.size 24 [.int .i64 0, .int .i64 0] := hbF
    generalize w.alloc (.cells #[.int .i64 0, .int .i64 0] 24) = w0 at *
    go_wp2_with fail
    refine (HW.out _ hB0).mono ?_
    rintro e w1 ⟨rfl, hb1⟩
    have hB1 := bthen hB0 hb1
    have hF1 := hbF.below hb1 hbF.lt
    clear hB0 hbF hb1 HW
    go_wp2_with fail
    refine (S1.out _ hB1).mono ?_
    rintro e w2 ⟨rfl, hb2⟩
    have hB2 := bthen hB1 hb2
    have hF2 := hF1.below hb2 hF1.lt
    clear hB1 hF1 hb2 S1
    go_wp2_with fail
    refine (S2.out _ hB2).mono ?_
    rintro e w3 ⟨N, F, A2, c2, rfl, hL, hr, hNN, hb3⟩
    have hB3 := bthen hB2 hb3
    have hF3 := hF2.below hb3 hF2.lt
    clear hB2 hF2 hb3 S2
    obtain ⟨n0, n1, n2, n3, hN⟩ := wide_cells N
    rw [wide_out hN]
    have hLi := low_is HM.out hL
    have hFl : F.length = M.length := by have := hL.len; simpa using this
    have hFs : ∀ f ∈ F, f ≤ 20000 := fun f hf => Nat.le_trans (hL.small f hf) (by omega)
    have hl16 := HM.out.len
    have S3 := Lib.hid (fun (W : World) (hW : Below w3.heap.size w3 W) => productN_any A2 M.length c2 F W (Rd.below hr hW) (by omega) hFs)
    have hsmall := pby_small (q := id) hFs (by omega)
    rw [hLi.2] at S3 hsmall
    go_upto_region 5 with fail
    have hbN : WBox (w3.alloc (.cells #[.int .u64 (n0 : Int), .int .u64 (n1 : Int), .int .u64 (n2 : Int), .int .u64 (n3 : Int)] 47)) w3.heap.size [n0, n1, n2, n3] := oneW w3 [n0, n1, n2, n3]
    have hB4 := bthen hB3 (below_one (w := w3) (.cells #[.int .u64 (n0 : Int), .int .u64 (n1 : Int), .int .u64 (n2 : Int), .int .u64 (n3 : Int)] 47))
    have hF4 := hF3.alloc (.cells #[.int .u64 (n0 : Int), .int .u64 (n1 : Int), .int .u64 (n2 : Int), .int .u64 (n3 : Int)] 47)
    have hbl4 : Below w3.heap.size w3 (w3.alloc (.cells #[.int .u64 (n0 : Int), .int .u64 (n1 : Int), .int .u64 (n2 : Int), .int .u64 (n3 : Int)] 47)) := below_one _
    have C3 := Lib.hid (S3.out _ hbl4)
    clear hB3 hF3 hr hbl4 S3 hL
    generalize w3.alloc (.cells #[.int .u64 (n0 : Int), .int .u64 (n1 : Int), .int .u64 (n2 : Int), .int .u64 (n3 : Int)] 47) = w4 at *
    generalize w3.heap.size = bn at *
    go_wp2_with fail
    refine C3.out.mono ?_
    rintro e w5 ⟨rfl, hb5⟩
    have hB5 := bthen hB4 hb5
    have hF5 := hF4.below hb5 hF4.lt
    have hN5 := hbN.below hb5 hbN.lt
    clear hB4 hF4 hbN hb5 C3
    obtain ⟨d0, d1, d2, d3, hD⟩ := wide_cells (useDen M)
    rw [wide_out hD]
    go_upto_region 6 with fail
    have hbD : WBox (w5.alloc (.cells #[.int .u64 (d0 : Int), .int .u64 (d1 : Int), .int .u64 (d2 : Int), .int .u64 (d3 : Int)] 47)) w5.heap.size [d0, d1, d2, d3] := oneW w5 [d0, d1, d2, d3]
    have hB6 := bthen hB5 (below_one (w := w5) (.cells #[.int .u64 (d0 : Int), .int .u64 (d1 : Int), .int .u64 (d2 : Int), .int .u64 (d3 : Int)] 47))
    have hF6 := hF5.alloc (.cells #[.int .u64 (d0 : Int), .int .u64 (d1 : Int), .int .u64 (d2 : Int), .int .u64 (d3 : Int)] 47)
    have hN6 : WBox (w5.alloc (.cells #[.int .u64 (d0 : Int), .int .u64 (d1 : Int), .int .u64 (d2 : Int), .int .u64 (d3 : Int)] 47)) bn [n0, n1, n2, n3] := Box.alloc hN5 (.cells #[.int .u64 (d0 : Int), .int .u64 (d1 : Int), .int .u64 (d2 : Int), .int .u64 (d3 : Int)] 47)
    clear hB5 hF5 hN5
    generalize w5.alloc (.cells #[.int .u64 (d0 : Int), .int .u64 (d1 : Int), .int .u64 (d2 : Int), .int .u64 (d3 : Int)] 47) = w6 at *
    generalize w5.heap.size = bd at *
    have hN4 : N < powW 4 := by rw [powW_four]; omega
    have hD4 : useDen M < powW 4 := by rw [powW_four]; omega
    have G1 := Lib.hid (fun (W : World) => isGreat_any N hN4 W)
    have G2 := Lib.hid (fun (W : World) => isGreat_any (useDen M) hD4 W)
    rw [wide_out hN] at G1
    rw [wide_out hD] at G2
    have HU : Hid (useBig M = (decide (N > 9223372036854775807) || decide (useDen M > 9223372036854775807))) := by show _ = _; unfold useBig; rw [← hLi.1]
    have HNe := Lib.hid (And.intro hLi.1 (And.intro hN hD))
    obtain ⟨c0, c1, c2', c3⟩ := hN6.four
    obtain ⟨e0, e1, e2, e3⟩ := hbD.four
    unfold wordV at c0 c1 c2' c3 e0 e1 e2 e3
    clear hLi hN hD hFl hFs hl16 zD zN
    by_cases g1 : N > 9223372036854775807
    · rw [decide_eq_true g1] at G1 HU
      rw [Bool.true_or] at HU
      go_wp2_with fail
      refine (G1.out _).mono ?_
      rintro e w7 ⟨rfl, hb7⟩
      have hB7 := bthen hB6 hb7
      have hF7 := hF6.below hb7 hF6.lt
      clear hB6 hF6 hN6 hbD hb7 G1 G2 c0 c1 c2' c3 e0 e1 e2 e3
      have z0 := hF7.cell 0 rfl
      have z1 := hF7.cell 1 rfl
      have f0 := hF7.free 0
      have f1 := hF7.free 1
      go_wp2
      have hFz := Box.pair hF7 (.int .i64 0) (.int .i64 0)
      have hBz := (hB7.setCell (p := ⟨w.heap.size, 0, none⟩) (Nat.le_refl _) (.int .i64 0)).setCell (p := ⟨w.heap.size, 1, none⟩) (Nat.le_refl _) (.int .i64 0)
      generalize ((w7.setCell ⟨w.heap.size, 0, none⟩ (.int .i64 0)).setCell ⟨w.heap.size, 1, none⟩ (.int .i64 0)) = wz at *
      have q0 := hFz.cell 0 rfl
      have q1 := hFz.cell 1 rfl
      exact bodyPost_ret (v := .tuple #[.agg #[.int .i64 0, .int .i64 0], .int .i64 4]) (by simp [results, Try.results9, go_sem, q0, q1]) rfl ⟨0, 0, 4, rfl, .inr ⟨M, rfl, HM.out, .inl ⟨HU.out, rfl, rfl, rfl⟩⟩, hBz⟩
    · rw [decide_eq_false g1] at G1 HU
      rw [Bool.false_or] at HU
      go_wp2_with fail
      refine (G1.out _).mono ?_
      rintro e w7 ⟨rfl, hb7⟩
      have hB7 := bthen hB6 hb7
      have hF7 := hF6.below hb7 hF6.lt
      have hN7 := hN6.below hb7 hN6.lt
      have hD7 := hbD.below hb7 hbD.lt
      clear hB6 hF6 hN6 hbD hb7 G1 c0 c1 c2' c3 e0 e1 e2 e3
      obtain ⟨e0, e1, e2, e3⟩ := hD7.four
      unfold wordV at e0 e1 e2 e3
      by_cases g2 : useDen M > 9223372036854775807
      · rw [decide_eq_true g2] at G2 HU
        go_wp2_with fail
        refine (G2.out _).mono ?_
        rintro e w8 ⟨rfl, hb8⟩
        have hB8 := bthen hB7 hb8
        have hF8 := hF7.below hb8 hF7.lt
        clear hB7 hF7 hN7 hD7 hb8 G2 e0 e1 e2 e3
        have z0 := hF8.cell 0 rfl
        have z1 := hF8.cell 1 rfl
        have f0 := hF8.free 0
        have f1 := hF8.free 1
        go_wp2
        have hFz := Box.pair hF8 (.int .i64 0) (.int .i64 0)
        have hBz := (hB8.setCell (p := ⟨w.heap.size, 0, none⟩) (Nat.le_refl _) (.int .i64 0)).setCell (p := ⟨w.heap.size, 1, none⟩) (Nat.le_refl _) (.int .i64 0)
        generalize ((w8.setCell ⟨w.heap.size, 0, none⟩ (.int .i64 0)).setCell ⟨w.heap.size, 1, none⟩ (.int .i64 0)) = wz at *
        have q0 := hFz.cell 0 rfl
        have q1 := hFz.cell 1 rfl
        exact bodyPost_ret (v := .tuple #[.agg #[.int .i64 0, .int .i64 0], .int .i64 4]) (by simp [results, Try.results9, go_sem, q0, q1]) rfl ⟨0, 0, 4, rfl, .inr ⟨M, rfl, HM.out, .inl ⟨HU.out, rfl, rfl, rfl⟩⟩, hBz⟩
      · rw [decide_eq_false g2] at G2 HU
        have X1 := Lib.hid (fun (W : World) => number_any N (by omega) W)
        have X2 := Lib.hid (fun (W : World) => number_any (useDen M) (by omega) W)
        rw [wide_out HNe.out.2.1] at X1
        rw [wide_out HNe.out.2.2] at X2
        go_wp2_with fail
        refine (G2.out _).mono ?_
        rintro e w8 ⟨rfl, hb8⟩
        have hB8 := bthen hB7 hb8
        have hF8 := hF7.below hb8 hF7.lt
        have hN8 := hN7.below hb8 hN7.lt
        have hD8 := hD7.below hb8 hD7.lt
        clear hB7 hF7 hN7 hD7 hb8 G2 e0 e1 e2 e3
        go_upto_region 8 with fail
        have hB : Below w8.heap.size w8 w8.drew := (Below.refl _ _).drew
        have hcl : Hid (∀ W, Below w8.heap.size w8 W → Box W w.heap.size 24 [.int .i64 0, .int .i64 0] ∧ WBox W bn [n0, n1, n2, n3] ∧ WBox W bd [d0, d1, d2, d3]) := fun W hW => ⟨hF8.below hW hF8.lt, hN8.below hW hN8.lt, hD8.below hW hD8.lt⟩
        refine wp_region_F 5 (w8.heap.size) (by kernel_rfl) ?_
        refine wpAnyF_take (i := 0) (oi := { dst := some 30, op := Op.load 47 (Go.Operand.tmp 5), type := 47, pos := "rms.go:22", after := #[], guard := none }) (v := ?v1) rfl (by kernel_rfl) (by kernel_rfl) (by kernel_rfl) (by decide) (by kernel_rfl) (fun _ _ _ h => h) (Or.inl ⟨by rfl, ?hy1⟩) ?rs1
        case hy1 => (intro W hW; obtain ⟨c0, c1, c2, c3⟩ := (hcl.out W (hB.trans hW)).2.1.four; unfold wordV at c0 c1 c2 c3; go_simp; try with_reducible rfl)
        try simp only [Act.put, List.setIfInBounds_toArray, List.set_cons_zero, List.set_cons_succ]
        refine wpAnyF_take (i := 2) (oi := { dst := some 32, op := Op.load 47 (Go.Operand.tmp 7), type := 47, pos := "rms.go:22", after := #[], guard := none }) (v := ?v2) rfl (by kernel_rfl) (by kernel_rfl) (by kernel_rfl) (by decide) (by kernel_rfl) (fun _ _ _ h => h) (Or.inl ⟨by rfl, ?hy2⟩) ?rs2
        case hy2 => (intro W hW; obtain ⟨c0, c1, c2, c3⟩ := (hcl.out W (hB.trans hW)).2.2.four; unfold wordV at c0 c1 c2 c3; go_simp; try with_reducible rfl)
        try simp only [Act.put, List.setIfInBounds_toArray, List.set_cons_zero, List.set_cons_succ]
        refine wpAnyF_one (i := 1) (o := { dst := some 31, op := Op.call { callee := Callee.value (Go.Operand.func 28), args := #[Go.Operand.tmp 30], argTypes := #[47] }, type := 3, pos := "rms.go:22", after := #[{ on := 0, ground := Ground.data }], guard := none }) (by kernel_rfl) rfl (fun K hK => ?_)
        go_simp
        refine (X1.out _).mono ?_; rintro e w9 ⟨rfl, hb9⟩; have hbk := hb9.mono hB.size; replace hB := hB.trans hbk; have hFz := (hcl.out _ hB).1; have z0 := hFz.cell 0 rfl; have z1 := hFz.cell 1 rfl; have f0 := hFz.free 0; have f1 := hFz.free 1
        refine hK.out _ _ hbk ?_
        clear hK K
        try simp only [Act.put, List.setIfInBounds_toArray, List.set_cons_zero, List.set_cons_succ]
        refine wpAnyF_one (i := 3) (o := { dst := some 33, op := Op.call { callee := Callee.value (Go.Operand.func 28), args := #[Go.Operand.tmp 32], argTypes := #[47] }, type := 3, pos := "rms.go:22", after := #[{ on := 2, ground := Ground.data }, { on := 1, ground := Ground.chain }], guard := none }) (by kernel_rfl) rfl (fun K hK => ?_)
        go_simp
        refine (X2.out _).mono ?_; rintro e w9 ⟨rfl, hb9⟩; have hbk := hb9.mono hB.size; replace hB := hB.trans hbk; have hFz := (hcl.out _ hB).1; have z0 := hFz.cell 0 rfl; have z1 := hFz.cell 1 rfl; have f0 := hFz.free 0; have f1 := hFz.free 1
        refine hK.out _ _ hbk ?_
        clear hK K
        try simp only [Act.put, List.setIfInBounds_toArray, List.set_cons_zero, List.set_cons_succ]
        refine wpAnyF_pure (i := 4) (oi := { dst := some 34, op := Op.build 24 #[(0, Go.Operand.tmp 31), (1, Go.Operand.tmp 33)], type := 24, pos := "rms.go:22", after := #[{ on := 1, ground := Ground.data }, { on := 3, ground := Ground.data }], guard := none }) (v := ?v3) rfl (by kernel_rfl) (by kernel_rfl) (by kernel_rfl) (fun _ _ _ h => h) (Or.inl ⟨by rfl, ?hy3⟩) ?rs3
        case hy3 => (intro W hW; go_simp; try with_reducible rfl)
        try simp only [Act.put, List.setIfInBounds_toArray, List.set_cons_zero, List.set_cons_succ]
        refine wpAnyF_last (i := 5) (o := { dst := none, op := Op.store 24 (Go.Operand.tmp 2) (Go.Operand.tmp 34), type := 0, pos := "rms.go:22", after := #[{ on := 4, ground := Ground.data }, { on := 3, ground := Ground.chain }, { on := 0, ground := Ground.phase }, { on := 1, ground := Ground.phase }, { on := 2, ground := Ground.phase }, { on := 3, ground := Ground.phase }, { on := 4, ground := Ground.phase }], guard := none }) (by kernel_rfl) rfl (by decide) (fun K hK => ?_)
        go_simp
        refine hK.out _ _ ?_
        clear hK K
        try simp only [Act.put, List.setIfInBounds_toArray, List.set_cons_zero, List.set_cons_succ]
        refine wpAnyF_pure (i := 6) (oi := { dst := some 3, op := Op.assign (Go.Operand.const (Go.Value.int Go.IntKind.i64 0)), type := 25, pos := "rms.go:22", after := #[{ on := 5, ground := Ground.chain }, { on := 0, ground := Ground.phase }, { on := 1, ground := Ground.phase }, { on := 2, ground := Ground.phase }, { on := 3, ground := Ground.phase }, { on := 4, ground := Ground.phase }, { on := 5, ground := Ground.phase }], guard := none }) (v := ?v4) rfl (by kernel_rfl) (by kernel_rfl) (by kernel_rfl) (fun _ _ _ h => h) (Or.inl ⟨by rfl, ?hy4⟩) ?rs4
        case hy4 => (intro W hW; go_simp; try with_reducible rfl)
        try simp only [Act.put, List.setIfInBounds_toArray, List.set_cons_zero, List.set_cons_succ]
        refine wpAnyF_done (by kernel_rfl) ?_
        all_goals
          have hFq := Box.pair hFz (.int .i64 (N : Int)) (.int .i64 (useDen M : Int))
          have hBq := ((bthen hB8 hB).setCell (p := ⟨w.heap.size, 0, none⟩) (Nat.le_refl _) (.int .i64 (N : Int))).setCell (p := ⟨w.heap.size, 1, none⟩) (Nat.le_refl _) (.int .i64 (useDen M : Int))
          clear hcl X1 X2 hN8 hD8 hF8 hB8
          go_wp2
          generalize ((w9.setCell ⟨w.heap.size, 0, none⟩ (.int .i64 (N : Int))).setCell ⟨w.heap.size, 1, none⟩ (.int .i64 (useDen M : Int))) = wz at *
          have q0 := hFq.cell 0 rfl
          have q1 := hFq.cell 1 rfl
          exact bodyPost_ret (v := .tuple #[.agg #[.int .i64 (N : Int), .int .i64 (useDen M : Int)], .int .i64 0]) (by simp [results, Try.results9, go_sem, q0, q1]) rfl ⟨N, useDen M, 0, rfl, .inr ⟨M, rfl, HM.out, .inr ⟨HU.out, by rw [HNe.out.1], rfl, rfl⟩⟩, hBq⟩
  · rw [errK_two hw] at HW
    have Hw := Lib.hid hw
    clear hw h
    go_enter Try.func9, Try.ntmps9
    go_wp2_with fail
    refine (HW.out _ hB0).mono ?_
    rintro e w1 ⟨rfl, hb1⟩
    have hB1 := bthen hB0 hb1
    have hF1 := hbF.below hb1 hbF.lt
    have c0 := hF1.cell 0 rfl
    have c1 := hF1.cell 1 rfl
    have f0 := hF1.free 0
    have f1 := hF1.free 1
    clear hB0 hbF hb1 HW
    go_wp2
    have hF2 := Box.pair hF1 (.int .i64 0) (.int .i64 0)
    have hB2 := (hB1.setCell (p := ⟨w.heap.size, 0, none⟩) (Nat.le_refl _) (.int .i64 0)).setCell (p := ⟨w.heap.size, 1, none⟩) (Nat.le_refl _) (.int .i64 0)
    generalize ((w1.setCell ⟨w.heap.size, 0, none⟩ (.int .i64 0)).setCell ⟨w.heap.size, 1, none⟩ (.int .i64 0)) = w2 at *
    have q0 := hF2.cell 0 rfl
    have q1 := hF2.cell 1 rfl
    exact bodyPost_ret (v := .tuple #[.agg #[.int .i64 0, .int .i64 0], .int .i64 2]) (by simp [results, Try.results9, go_sem, q0, q1]) rfl ⟨0, 0, 2, rfl, .inl ⟨Hw.out, rfl, rfl, rfl⟩, hB2⟩
def GivesSure (L : List Tsk) (w : World) (e : Ending) (w' : World) : Prop :=
  ∃ b x, e = .returned (.tuple #[.bool b, .int .i64 x]) ∧ Hid ((wrongK L = true ∧ b = false ∧ x = 2) ∨ ∃ M, L = M.map Tk.asT ∧ GoodK M ∧ b = decide (prodA M ≤ 2 * useD M) ∧ x = 0) ∧ Below w.heap.size w w'
theorem enterSure1 : ∀ args w, (callFunc 30 args).run Try.prog w = .ok (.enter 30 args) w := enters_of Try.func30 (by kernel_rfl) rfl
theorem enterSure2 : ∀ args w, (callFunc 31 args).run Try.prog w = .ok (.enter 31 args) w := enters_of Try.func31 (by kernel_rfl) rfl
set_option maxHeartbeats 3200000 in
theorem Sure_any (A : Option Addr) (n c : Nat) (L : List Tsk) (w : World) (h : RdG tskC 2 w A n L) (hn : n ≤ 4611686018427387904) :
    Calls Try.prog 10 #[.slice A n c] w (GivesSure L w) := by
  have HW := Lib.hid (WrongK_any A n c L w h hn)
  cases hw : wrongK L
  · rw [errK_zero hw] at HW
    obtain ⟨M, rfl, hM⟩ := good_of hw
    clear hw
    have hl : M.length = n := by have := RdG.len tskK h; simpa using this
    subst hl
    replace h := tk_rd h
    obtain ⟨zD, zN, zA⟩ := hM.sizes
    have g1 : NumK 30 (fun t => t.c + t.p) M := fun t ht W => by
      have := hM.ok t ht
      unfold Tk.Ok at this
      exact Sure1_any t.p t.c (by omega) (by omega) W
    have g2 : NumK 31 (fun t => t.p) M := fun t ht W => by
      have := hM.ok t ht
      unfold Tk.Ok at this
      exact Sure2_any t.p t.c (by omega) W
    have b1 : ∀ t ∈ M, t.c + t.p ≤ 20000 := fun t ht => by have := hM.ok t ht; unfold Tk.Ok at this; omega
    have b2 : ∀ t ∈ M, t.p ≤ 20000 := fun t ht => by have := hM.ok t ht; unfold Tk.Ok at this; omega
    have S1 := Lib.hid (fun (W : World) (hW : Below w.heap.size w W) => productK_any 30 enterSure1 (fun t => t.c + t.p) A M.length c M W (h.below hW) g1 hM.len b1)
    have S2 := Lib.hid (fun (W : World) (hW : Below w.heap.size w W) => productK_any 31 enterSure2 (fun t => t.p) A M.length c M W (h.below hW) g2 hM.len b2)
    rw [← prodA_pby] at S1
    rw [← useD_pby] at S2
    have X1 := Lib.hid (fun W => times_any (useD M) 2 (by omega) (by rw [powW_four]; omega) (by rw [powW_four]; omega) W)
    have X2 := Lib.hid (fun W => exceeds_any (prodA M) (useD M * 2) (by rw [powW_four]; omega) (by rw [powW_four]; omega) W)
    obtain ⟨a0, a1, a2, a3, hA⟩ := wide_cells (prodA M)
    obtain ⟨d0, d1, d2, d3, hD⟩ := wide_cells (useD M)
    rw [wide_out hA] at S1 X2
    rw [wide_out hD] at S2 X1
    have HR : Hid ((!decide (prodA M > useD M * 2)) = decide (prodA M ≤ 2 * useD M)) := by
      show _ = _
      rw [← decide_not]
      exact decide_eq_decide.2 (by omega)
    have HM := Lib.hid hM
    clear hM g1 g2 b1 b2 hA hD zD zN zA
    unfold wordV at X1
    generalize useD M * 2 = D2 at *
    go_enter Try.func10, Try.ntmps10
    go_wp2_with fail
    refine HW.out.mono ?_
    rintro e w1 ⟨rfl, hB1⟩
    clear HW
    go_wp2_with fail
    refine (S1.out _ hB1).mono ?_
    rintro e w2 ⟨rfl, hb2⟩
    have hB2 := bthen hB1 hb2
    clear hB1 hb2 S1
    go_upto_region 5 with fail
    have hbA : WBox (w2.alloc (.cells #[.int .u64 (a0 : Int), .int .u64 (a1 : Int), .int .u64 (a2 : Int), .int .u64 (a3 : Int)] 47)) w2.heap.size [a0, a1, a2, a3] := oneW w2 [a0, a1, a2, a3]
    have hB3 := bthen hB2 (below_one (w := w2) (.cells #[.int .u64 (a0 : Int), .int .u64 (a1 : Int), .int .u64 (a2 : Int), .int .u64 (a3 : Int)] 47))
    clear hB2
    generalize w2.alloc (.cells #[.int .u64 (a0 : Int), .int .u64 (a1 : Int), .int .u64 (a2 : Int), .int .u64 (a3 : Int)] 47) = w3 at *
    generalize w2.heap.size = ba at *
    go_wp2_with fail
    refine (S2.out _ hB3).mono ?_
    rintro e w4 ⟨rfl, hb4⟩
    have hB4 := bthen hB3 hb4
    have hA4 := hbA.below hb4 hbA.lt
    clear hB3 hb4 hbA S2
    go_upto_region 6 with fail
    have hbD : WBox (w4.alloc (.cells #[.int .u64 (d0 : Int), .int .u64 (d1 : Int), .int .u64 (d2 : Int), .int .u64 (d3 : Int)] 47)) w4.heap.size [d0, d1, d2, d3] := oneW w4 [d0, d1, d2, d3]
    have hB5 := bthen hB4 (below_one (w := w4) (.cells #[.int .u64 (d0 : Int), .int .u64 (d1 : Int), .int .u64 (d2 : Int), .int .u64 (d3 : Int)] 47))
    have hA5 : WBox (w4.alloc (.cells #[.int .u64 (d0 : Int), .int .u64 (d1 : Int), .int .u64 (d2 : Int), .int .u64 (d3 : Int)] 47)) ba [a0, a1, a2, a3] := Box.alloc hA4 _
    clear hB4 hA4
    generalize w4.alloc (.cells #[.int .u64 (d0 : Int), .int .u64 (d1 : Int), .int .u64 (d2 : Int), .int .u64 (d3 : Int)] 47) = w5 at *
    generalize w4.heap.size = bd at *
    have hB : Below w5.heap.size w5 w5.drew := (Below.refl _ _).drew
    have hcl : Hid (∀ W, Below w5.heap.size w5 W → WBox W ba [a0, a1, a2, a3] ∧ WBox W bd [d0, d1, d2, d3]) := fun W hW => ⟨hA5.below hW hA5.lt, hbD.below hW hbD.lt⟩
    refine wp_region_B (by kernel_rfl) ?_
    refine wpAnyB_take (i := 0) (oi := { dst := some 16, op := Op.load 47 (Go.Operand.tmp 5), type := 47, pos := "rms.go:32", after := #[], guard := none }) (v := ?v5) rfl (by kernel_rfl) (by kernel_rfl) (by kernel_rfl) (fun _ _ _ h => h) (Or.inl ⟨by rfl, ?hy5⟩) ?rs5
    case hy5 => (intro W hW; obtain ⟨c0, c1, c2, c3⟩ := (hcl.out W (bthen hB hW)).1.four; unfold wordV at c0 c1 c2 c3; go_simp; try with_reducible rfl)
    try simp only [Act.put, List.setIfInBounds_toArray, List.set_cons_zero, List.set_cons_succ]
    refine wpAnyB_take (i := 1) (oi := { dst := some 17, op := Op.load 47 (Go.Operand.tmp 6), type := 47, pos := "rms.go:32", after := #[], guard := none }) (v := ?v6) rfl (by kernel_rfl) (by kernel_rfl) (by kernel_rfl) (fun _ _ _ h => h) (Or.inl ⟨by rfl, ?hy6⟩) ?rs6
    case hy6 => (intro W hW; obtain ⟨c0, c1, c2, c3⟩ := (hcl.out W (bthen hB hW)).2.four; unfold wordV at c0 c1 c2 c3; go_simp; try with_reducible rfl)
    try simp only [Act.put, List.setIfInBounds_toArray, List.set_cons_zero, List.set_cons_succ]
    refine wpAnyB_one (i := 2) (o := { dst := some 18, op := Op.call { callee := Callee.value (Go.Operand.func 33), args := #[Go.Operand.tmp 17, Go.Operand.const (Go.Value.int Go.IntKind.u64 2)], argTypes := #[47, 45] }, type := 47, pos := "rms.go:32", after := #[{ on := 1, ground := Ground.data }], guard := none }) (by kernel_rfl) rfl (fun K hK => ?_)
    go_simp
    refine (X1.out _).mono ?_; rintro e w9 ⟨rfl, hbk⟩; replace hB := bthen hB hbk
    refine hK.out _ _ hbk ?_
    clear hK K
    try simp only [Act.put, List.setIfInBounds_toArray, List.set_cons_zero, List.set_cons_succ]
    refine wpAnyB_one (i := 3) (o := { dst := some 19, op := Op.call { callee := Callee.value (Go.Operand.func 32), args := #[Go.Operand.tmp 16, Go.Operand.tmp 18], argTypes := #[47, 47] }, type := 4, pos := "rms.go:32", after := #[{ on := 0, ground := Ground.data }, { on := 2, ground := Ground.data }, { on := 2, ground := Ground.chain }], guard := none }) (by kernel_rfl) rfl (fun K hK => ?_)
    go_simp
    refine (X2.out _).mono ?_; rintro e w10 ⟨rfl, hbk⟩; replace hB := bthen hB hbk
    refine hK.out _ _ hbk ?_
    clear hK K
    try simp only [Act.put, List.setIfInBounds_toArray, List.set_cons_zero, List.set_cons_succ]
    refine wpAnyB_take (i := 4) (oi := { dst := some 20, op := Op.unOp Go.UnOp.not 4 (Go.Operand.tmp 19), type := 4, pos := "rms.go:32", after := #[{ on := 3, ground := Ground.data }], guard := none }) (v := ?v7) rfl (by kernel_rfl) (by kernel_rfl) (by kernel_rfl) (fun _ _ _ h => h) (Or.inl ⟨by rfl, ?hy7⟩) ?rs7
    case hy7 => (intro W hW; go_simp; try with_reducible rfl)
    try simp only [Act.put, List.setIfInBounds_toArray, List.set_cons_zero, List.set_cons_succ]
    refine wpAnyB_take (i := 5) (oi := { dst := some 2, op := Op.assign (Go.Operand.tmp 20), type := 4, pos := "rms.go:32", after := #[{ on := 4, ground := Ground.data }, { on := 3, ground := Ground.chain }, { on := 0, ground := Ground.phase }, { on := 1, ground := Ground.phase }, { on := 2, ground := Ground.phase }, { on := 3, ground := Ground.phase }, { on := 4, ground := Ground.phase }], guard := none }) (v := ?v8) rfl (by kernel_rfl) (by kernel_rfl) (by kernel_rfl) (fun _ _ _ h => h) (Or.inl ⟨by rfl, ?hy8⟩) ?rs8
    case hy8 => (intro W hW; go_simp; try with_reducible rfl)
    try simp only [Act.put, List.setIfInBounds_toArray, List.set_cons_zero, List.set_cons_succ]
    refine wpAnyB_take (i := 6) (oi := { dst := some 3, op := Op.assign (Go.Operand.const (Go.Value.int Go.IntKind.i64 0)), type := 25, pos := "rms.go:32", after := #[{ on := 5, ground := Ground.chain }, { on := 0, ground := Ground.phase }, { on := 1, ground := Ground.phase }, { on := 2, ground := Ground.phase }, { on := 3, ground := Ground.phase }, { on := 4, ground := Ground.phase }, { on := 5, ground := Ground.phase }], guard := none }) (v := ?v9) rfl (by kernel_rfl) (by kernel_rfl) (by kernel_rfl) (fun _ _ _ h => h) (Or.inl ⟨by rfl, ?hy9⟩) ?rs9
    case hy9 => (intro W hW; go_simp; try with_reducible rfl)
    try simp only [Act.put, List.setIfInBounds_toArray, List.set_cons_zero, List.set_cons_succ]
    refine wpAnyB_done (by kernel_rfl) ?_
    go_wp2
    go_ret2
    exact ⟨_, 0, rfl, .inr ⟨M, rfl, HM.out, by first | exact HR.out | (rw [← HR.out]; simp), rfl⟩, bthen hB5 hB⟩
  · rw [errK_two hw] at HW
    have Hw := Lib.hid hw
    clear hw h
    go_enter Try.func10, Try.ntmps10
    go_wp2_with fail
    refine HW.out.mono ?_
    rintro e w1 ⟨rfl, hb1⟩
    go_wp2
    go_ret2
    exact ⟨false, 2, rfl, .inl ⟨Hw.out, rfl, rfl⟩, hb1⟩
end Go.Proofs.Ytajfohnblmnjjaa
