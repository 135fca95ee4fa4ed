/-
  The walk of DriftShows: it returns true, at every argument.
-/
import Derived.Test.YtidlfbemamoflaaDriftRef
import Derived.Test.YtidlfbemamoflaaDriftLaws
namespace Go.Proofs.Ytidlfbemamoflaa
open Go.RowKit
set_option linter.unusedVariables false

theorem two_boxes {w w1 : World} {t : TypeId} {a b c d : Value} (hb : Below ((w.alloc (.cells #[a, b] t)).alloc (.cells #[c, d] t)).heap.size ((w.alloc (.cells #[a, b] t)).alloc (.cells #[c, d] t)) w1) :
    Box w1 w.heap.size t [a, b] ∧ Box w1 (w.heap.size + 1) t [c, d] := by
  refine ⟨((Box.new w t [a, b]).alloc _).below hb (by simp; omega), ?_⟩
  have h := (Box.new (w.alloc (.cells #[a, b] t)) t [c, d]).below hb (by simp)
  simpa using h

set_option maxRecDepth 20000 in
set_option maxHeartbeats 3200000 in
theorem DriftShows_walk (ra oa rb ob t : Int) (w : World) (w1 : (Lit.int .i64 ra).wf = true) (w2 : (Lit.int .i64 oa).wf = true) (w3 : (Lit.int .i64 rb).wf = true) (w4 : (Lit.int .i64 ob).wf = true) (w5 : (Lit.int .i64 t).wf = true) :
    Calls Try.prog 3 #[clockV ra oa, clockV rb ob, .int .i64 t] w fun e w' => e = .returned (.bool true) ∧ Below w.heap.size w w' := by
  have h1 := in64_wf w1
  have h2 := in64_wf w2
  have h3 := in64_wf w3
  have h4 := in64_wf w4
  have h5 := in64_wf w5
  clear w1 w2 w3 w4 w5
  have C1 := Lib.hid (fun (W : World) => Shows_any ra oa t h1 h2 h5 W)
  have C2 := Lib.hid (fun (W : World) => When_any ra oa t h1 h2 h5 W)
  have C3 := Lib.hid (fun (W : World) => Apart_any ra oa rb ob t h1 h2 h3 h4 h5 W)
  have R := Lib.hid (fun (W : World) => DRight_any ra oa h1 h2 W)
  have KA := Lib.hid (fun (W : World) => KRight_any ra oa h1 h2 W)
  have KB := Lib.hid (fun (W : World) => KRight_any rb ob h3 h4 W)
  clear h1 h2 h3 h4
  obtain ⟨t0, t1⟩ := h5
  by_cases hA : ClockOk ra oa
  · rw [decide_eq_true hA] at R KA
    by_cases hT : InTime t
    · have eA := checkK_ok hA hT
      have S := Lib.hid (fun (W : World) => KShows_any ra oa t hA hT W)
      have V := Lib.hid (fun (W : World) => KWhen_any ra oa t hA hT W)
      obtain ⟨x0, x1⟩ := showsV_range hA hT
      rw [showsR_ok eA, eA] at C1
      rw [whenR_ok eA, eA] at C2
      by_cases hB : ClockOk rb ob
      · have eB := checkK_ok hB hT
        have e3 : apartE ra oa rb ob t = 0 := by rw [apartE, if_pos eA, eB]
        rw [apartR, if_pos e3, e3] at C3
        have SB := Lib.hid (fun (W : World) => KShows_any rb ob t hB hT W)
        obtain ⟨y0, y1⟩ := showsV_range hB hT
        rw [decide_eq_true hB] at KB
        have hd : apartV ra oa rb ob t = max (showsV ra oa t - showsV rb ob t) (showsV rb ob t - showsV ra oa t) := by unfold apartV; omega
        rw [hd] at C3
        obtain ⟨q0, q1⟩ := hT
        clear hA hB eA eB e3 hd
        generalize showsV ra oa t = x at *
        generalize showsV rb ob t = y at *
        generalize whenV ra oa t = v at *
        generalize hm : max (x - y) (y - x) = m at *
        go_enter Try.func3, Try.ntmps3
        go_wp2_with fail
        refine (C1.out _).mono ?_
        rintro e w1 ⟨rfl, hb1⟩
        obtain ⟨bA, bB⟩ := two_boxes hb1
        have hB1 := below_new (below_new hb1)
        clear hb1
        have a0 := bA.cell 0 rfl
        have a1 := bA.cell 1 rfl
        go_wp2_with fail
        refine (C2.out _).mono ?_
        rintro e w2 ⟨rfl, hb2⟩
        have bA2 := bA.below hb2 bA.lt
        have bB2 := bB.below hb2 bB.lt
        have hB2 := bthen hB1 hb2
        clear a0 a1 bA bB hb2 hB1
        have a0 := bA2.cell 0 rfl
        have a1 := bA2.cell 1 rfl
        have b0 := bB2.cell 0 rfl
        have b1 := bB2.cell 1 rfl
        go_wp2_with fail
        refine (C3.out _).mono ?_
        rintro e w3 ⟨rfl, hb3⟩
        have bA3 := bA2.below hb3 bA2.lt
        have bB3 := bB2.below hb3 bB2.lt
        have hB3 := bthen hB2 hb3
        clear a0 a1 b0 b1 bA2 bB2 hb3 hB2
        have A0 := Lib.hid (bA3.cell 0 rfl)
        have A1 := Lib.hid (bA3.cell 1 rfl)
        have hlt := bA3.lt
        have hB4 : Below w3.heap.size w3 w3.drew := below_drew _
        go_wp2_with fail
        refine wp_region_F 5 (w3.heap.size) (by kernel_rfl) ?_
        refine wpAnyF_take (i := 0) (oi := { dst := some 34, op := Op.load 23 (Go.Operand.tmp 3), type := 23, pos := "drift.go:14", after := #[], guard := none }) (v := ?v1) rfl (by kernel_rfl) (by kernel_rfl) (by kernel_rfl) (by decide) (by kernel_rfl) (fun _ _ _ h => h) (Or.inl ⟨by rfl, ?hy1⟩) ?rs1
        case hy1 => (intro W hW; have hc0 := (((below_drew w3).trans hW).cell (p := ⟨w.heap.size, 0, none⟩) hlt).trans A0.out; have hc1 := (((below_drew w3).trans hW).cell (p := ⟨w.heap.size, 1, none⟩) hlt).trans A1.out; go_simp; try with_reducible rfl)
        try simp only [Act.put, List.setIfInBounds_toArray, List.set_cons_zero, List.set_cons_succ]
        refine wpAnyF_take (i := 2) (oi := { dst := some 36, op := Op.load 23 (Go.Operand.tmp 3), type := 23, pos := "drift.go:14", after := #[], guard := none }) (v := ?v2) rfl (by kernel_rfl) (by kernel_rfl) (by kernel_rfl) (by decide) (by kernel_rfl) (fun _ _ _ h => h) (Or.inl ⟨by rfl, ?hy2⟩) ?rs2
        case hy2 => (intro W hW; have hc0 := (((below_drew w3).trans hW).cell (p := ⟨w.heap.size, 0, none⟩) hlt).trans A0.out; have hc1 := (((below_drew w3).trans hW).cell (p := ⟨w.heap.size, 1, none⟩) hlt).trans A1.out; go_simp; try with_reducible rfl)
        try simp only [Act.put, List.setIfInBounds_toArray, List.set_cons_zero, List.set_cons_succ]
        refine wpAnyF_one (i := 1) (o := { dst := some 35, op := Op.call { callee := Callee.value (Go.Operand.func 11), args := #[Go.Operand.tmp 34], argTypes := #[23] }, type := 4, pos := "drift.go:14", after := #[{ on := 0, ground := Ground.data }], guard := none }) (by kernel_rfl) rfl (fun K hK => ?_)
        go_simp
        refine (R.out _).mono ?_; rintro e w4 ⟨rfl, hb4⟩; have hbk := hb4.mono hB4.size; replace hB4 := hB4.trans hbk
        refine hK.out _ _ hbk ?_
        clear hK K
        try simp only [Act.put, List.setIfInBounds_toArray, List.set_cons_zero, List.set_cons_succ]
        refine wpAnyF_one (i := 3) (o := { dst := some 37, op := Op.call { callee := Callee.value (Go.Operand.func 12), args := #[Go.Operand.tmp 36], argTypes := #[23] }, type := 4, pos := "drift.go:14", after := #[{ on := 2, ground := Ground.data }, { on := 1, ground := Ground.chain }], guard := none }) (by kernel_rfl) rfl (fun K hK => ?_)
        go_simp
        refine (KA.out _).mono ?_; rintro e w5 ⟨rfl, hb5⟩; have hbk := hb5.mono hB4.size; replace hB4 := hB4.trans hbk
        refine hK.out _ _ hbk ?_
        clear hK K
        try simp only [Act.put, List.setIfInBounds_toArray, List.set_cons_zero, List.set_cons_succ]
        refine wpAnyF_pure (i := 4) (oi := { dst := some 38, op := Op.binOp Go.BinOp.neq 4 (Go.Operand.tmp 35) (Go.Operand.tmp 37) 4, type := 4, pos := "drift.go:14", after := #[{ on := 1, ground := Ground.data }, { on := 3, ground := Ground.data }], guard := none }) (v := ?v3) rfl (by kernel_rfl) (by kernel_rfl) (by kernel_rfl) (fun _ _ _ h => h) (Or.inl ⟨by rfl, ?hy3⟩) ?rs3
        case hy3 => (intro W hW; go_simp; try with_reducible rfl)
        try simp only [Act.put, List.setIfInBounds_toArray, List.set_cons_zero, List.set_cons_succ]
        refine wpAnyF_done (by kernel_rfl) ?_
        have bA5 := bA3.below hB4 bA3.lt
        have bB5 := bB3.below hB4 bB3.lt
        have hB5 := bthen hB3 hB4
        clear A0 A1 bA3 bB3 hB3 hB4 hbk hb4 hb5
        have a0 := bA5.cell 0 rfl
        have a1 := bA5.cell 1 rfl
        have b0 := bB5.cell 0 rfl
        have b1 := bB5.cell 1 rfl
        go_wp2_with fail
        refine (KA.out _).mono ?_
        rintro e w6 ⟨rfl, hb6⟩
        have bA6 := bA5.below hb6 bA5.lt
        have bB6 := bB5.below hb6 bB5.lt
        have hB6 := bthen hB5 hb6
        clear a0 a1 b0 b1 bA5 bB5 hb6 hB5
        have a0 := bA6.cell 0 rfl
        have a1 := bA6.cell 1 rfl
        have b0 := bB6.cell 0 rfl
        have b1 := bB6.cell 1 rfl
        go_wp2_with fail
        refine (S.out _).mono ?_
        rintro e w7 ⟨rfl, hb7⟩
        have bA7 := bA6.below hb7 bA6.lt
        have bB7 := bB6.below hb7 bB6.lt
        have hB7 := bthen hB6 hb7
        clear a0 a1 b0 b1 bA6 bB6 hb7 hB6
        have a0 := bA7.cell 0 rfl
        have a1 := bA7.cell 1 rfl
        go_wp2_with fail
        refine (V.out _).mono ?_
        rintro e w8 ⟨rfl, hb8⟩
        have bB8 := bB7.below hb8 bB7.lt
        have hB8 := bthen hB7 hb8
        clear a0 a1 bA7 bB7 hb8 hB7
        have b0 := bB8.cell 0 rfl
        have b1 := bB8.cell 1 rfl
        go_wp2_with fail
        refine (KB.out _).mono ?_
        rintro e w9 ⟨rfl, hb9⟩
        have bB9 := bB8.below hb9 bB8.lt
        have hB9 := bthen hB8 hb9
        clear b0 b1 bB8 hb9 hB8
        have b0 := bB9.cell 0 rfl
        have b1 := bB9.cell 1 rfl
        go_wp2_with fail
        refine (SB.out _).mono ?_
        rintro e wA ⟨rfl, hbA⟩
        have hBA := bthen hB9 hbA
        clear b0 b1 bB9 hbA hB9
        rcases Int.le_total (x - y) (y - x) with k | k
        · have hm' : m = y - x := by omega
          subst hm'
          go_wp2
          all_goals (go_ret; exact ⟨ret_bool (by first | rfl | (simp; omega)), hBA⟩)
        · have hm' : m = x - y := by omega
          subst hm'
          go_wp2
          all_goals (go_ret; exact ⟨ret_bool (by first | rfl | (simp; omega)), hBA⟩)
      · have eB := checkK_form t hB
        have e3 : apartE ra oa rb ob t = 1 := by rw [apartE, if_pos eA, eB]
        rw [apartR, if_neg (by rw [e3]; decide), e3] at C3
        rw [decide_eq_false hB] at KB
        obtain ⟨q0, q1⟩ := hT
        clear hA hB eA eB e3
        generalize showsV ra oa t = x at *
        generalize whenV ra oa t = v at *
        go_enter Try.func3, Try.ntmps3
        go_wp2_with fail
        refine (C1.out _).mono ?_
        rintro e w1 ⟨rfl, hb1⟩
        obtain ⟨bA, bB⟩ := two_boxes hb1
        have hB1 := below_new (below_new hb1)
        clear hb1
        have a0 := bA.cell 0 rfl
        have a1 := bA.cell 1 rfl
        go_wp2_with fail
        refine (C2.out _).mono ?_
        rintro e w2 ⟨rfl, hb2⟩
        have bA2 := bA.below hb2 bA.lt
        have bB2 := bB.below hb2 bB.lt
        have hB2 := bthen hB1 hb2
        clear a0 a1 bA bB hb2 hB1
        have a0 := bA2.cell 0 rfl
        have a1 := bA2.cell 1 rfl
        have b0 := bB2.cell 0 rfl
        have b1 := bB2.cell 1 rfl
        go_wp2_with fail
        refine (C3.out _).mono ?_
        rintro e w3 ⟨rfl, hb3⟩
        have bA3 := bA2.below hb3 bA2.lt
        have bB3 := bB2.below hb3 bB2.lt
        have hB3 := bthen hB2 hb3
        clear a0 a1 b0 b1 bA2 bB2 hb3 hB2
        have A0 := Lib.hid (bA3.cell 0 rfl)
        have A1 := Lib.hid (bA3.cell 1 rfl)
        have hlt := bA3.lt
        have hB4 : Below w3.heap.size w3 w3.drew := below_drew _
        go_wp2_with fail
        refine wp_region_F 5 (w3.heap.size) (by kernel_rfl) ?_
        refine wpAnyF_take (i := 0) (oi := { dst := some 34, op := Op.load 23 (Go.Operand.tmp 3), type := 23, pos := "drift.go:14", after := #[], guard := none }) (v := ?v4) rfl (by kernel_rfl) (by kernel_rfl) (by kernel_rfl) (by decide) (by kernel_rfl) (fun _ _ _ h => h) (Or.inl ⟨by rfl, ?hy4⟩) ?rs4
        case hy4 => (intro W hW; have hc0 := (((below_drew w3).trans hW).cell (p := ⟨w.heap.size, 0, none⟩) hlt).trans A0.out; have hc1 := (((below_drew w3).trans hW).cell (p := ⟨w.heap.size, 1, none⟩) hlt).trans A1.out; go_simp; try with_reducible rfl)
        try simp only [Act.put, List.setIfInBounds_toArray, List.set_cons_zero, List.set_cons_succ]
        refine wpAnyF_take (i := 2) (oi := { dst := some 36, op := Op.load 23 (Go.Operand.tmp 3), type := 23, pos := "drift.go:14", after := #[], guard := none }) (v := ?v5) rfl (by kernel_rfl) (by kernel_rfl) (by kernel_rfl) (by decide) (by kernel_rfl) (fun _ _ _ h => h) (Or.inl ⟨by rfl, ?hy5⟩) ?rs5
        case hy5 => (intro W hW; have hc0 := (((below_drew w3).trans hW).cell (p := ⟨w.heap.size, 0, none⟩) hlt).trans A0.out; have hc1 := (((below_drew w3).trans hW).cell (p := ⟨w.heap.size, 1, none⟩) hlt).trans A1.out; go_simp; try with_reducible rfl)
        try simp only [Act.put, List.setIfInBounds_toArray, List.set_cons_zero, List.set_cons_succ]
        refine wpAnyF_one (i := 1) (o := { dst := some 35, op := Op.call { callee := Callee.value (Go.Operand.func 11), args := #[Go.Operand.tmp 34], argTypes := #[23] }, type := 4, pos := "drift.go:14", after := #[{ on := 0, ground := Ground.data }], guard := none }) (by kernel_rfl) rfl (fun K hK => ?_)
        go_simp
        refine (R.out _).mono ?_; rintro e w4 ⟨rfl, hb4⟩; have hbk := hb4.mono hB4.size; replace hB4 := hB4.trans hbk
        refine hK.out _ _ hbk ?_
        clear hK K
        try simp only [Act.put, List.setIfInBounds_toArray, List.set_cons_zero, List.set_cons_succ]
        refine wpAnyF_one (i := 3) (o := { dst := some 37, op := Op.call { callee := Callee.value (Go.Operand.func 12), args := #[Go.Operand.tmp 36], argTypes := #[23] }, type := 4, pos := "drift.go:14", after := #[{ on := 2, ground := Ground.data }, { on := 1, ground := Ground.chain }], guard := none }) (by kernel_rfl) rfl (fun K hK => ?_)
        go_simp
        refine (KA.out _).mono ?_; rintro e w5 ⟨rfl, hb5⟩; have hbk := hb5.mono hB4.size; replace hB4 := hB4.trans hbk
        refine hK.out _ _ hbk ?_
        clear hK K
        try simp only [Act.put, List.setIfInBounds_toArray, List.set_cons_zero, List.set_cons_succ]
        refine wpAnyF_pure (i := 4) (oi := { dst := some 38, op := Op.binOp Go.BinOp.neq 4 (Go.Operand.tmp 35) (Go.Operand.tmp 37) 4, type := 4, pos := "drift.go:14", after := #[{ on := 1, ground := Ground.data }, { on := 3, ground := Ground.data }], guard := none }) (v := ?v6) rfl (by kernel_rfl) (by kernel_rfl) (by kernel_rfl) (fun _ _ _ h => h) (Or.inl ⟨by rfl, ?hy6⟩) ?rs6
        case hy6 => (intro W hW; go_simp; try with_reducible rfl)
        try simp only [Act.put, List.setIfInBounds_toArray, List.set_cons_zero, List.set_cons_succ]
        refine wpAnyF_done (by kernel_rfl) ?_
        have bA5 := bA3.below hB4 bA3.lt
        have bB5 := bB3.below hB4 bB3.lt
        have hB5 := bthen hB3 hB4
        clear A0 A1 bA3 bB3 hB3 hB4 hbk hb4 hb5
        have a0 := bA5.cell 0 rfl
        have a1 := bA5.cell 1 rfl
        have b0 := bB5.cell 0 rfl
        have b1 := bB5.cell 1 rfl
        go_wp2_with fail
        refine (KA.out _).mono ?_
        rintro e w6 ⟨rfl, hb6⟩
        have bA6 := bA5.below hb6 bA5.lt
        have bB6 := bB5.below hb6 bB5.lt
        have hB6 := bthen hB5 hb6
        clear a0 a1 b0 b1 bA5 bB5 hb6 hB5
        have a0 := bA6.cell 0 rfl
        have a1 := bA6.cell 1 rfl
        have b0 := bB6.cell 0 rfl
        have b1 := bB6.cell 1 rfl
        go_wp2_with fail
        refine (S.out _).mono ?_
        rintro e w7 ⟨rfl, hb7⟩
        have bA7 := bA6.below hb7 bA6.lt
        have bB7 := bB6.below hb7 bB6.lt
        have hB7 := bthen hB6 hb7
        clear a0 a1 b0 b1 bA6 bB6 hb7 hB6
        have a0 := bA7.cell 0 rfl
        have a1 := bA7.cell 1 rfl
        go_wp2_with fail
        refine (V.out _).mono ?_
        rintro e w8 ⟨rfl, hb8⟩
        have bB8 := bB7.below hb8 bB7.lt
        have hB8 := bthen hB7 hb8
        clear a0 a1 bA7 bB7 hb8 hB7
        have b0 := bB8.cell 0 rfl
        have b1 := bB8.cell 1 rfl
        go_wp2_with fail
        refine (KB.out _).mono ?_
        rintro e w9 ⟨rfl, hb9⟩
        have bB9 := bB8.below hb9 bB8.lt
        have hB9 := bthen hB8 hb9
        clear b0 b1 bB8 hb9 hB8
        have b0 := bB9.cell 0 rfl
        have b1 := bB9.cell 1 rfl
        go_wp2
        go_ret
        exact ⟨rfl, hB9⟩
    · have eA := checkK_range hA hT
      have e3 : apartE ra oa rb ob t = 2 := by rw [apartE, if_neg (by rw [eA]; decide), eA]
      rw [showsR_no (by rw [eA]; decide), eA] at C1
      rw [whenR_no (by rw [eA]; decide), eA] at C2
      rw [apartR, if_neg (by rw [e3]; decide), e3] at C3
      clear hA eA e3 KB
      by_cases hneg : t < 0
      · clear hT
        go_enter Try.func3, Try.ntmps3
        go_wp2_with fail
        refine (C1.out _).mono ?_
        rintro e w1 ⟨rfl, hb1⟩
        obtain ⟨bA, bB⟩ := two_boxes hb1
        have hB1 := below_new (below_new hb1)
        clear hb1
        have a0 := bA.cell 0 rfl
        have a1 := bA.cell 1 rfl
        go_wp2_with fail
        refine (C2.out _).mono ?_
        rintro e w2 ⟨rfl, hb2⟩
        have bA2 := bA.below hb2 bA.lt
        have bB2 := bB.below hb2 bB.lt
        have hB2 := bthen hB1 hb2
        clear a0 a1 bA bB hb2 hB1
        have a0 := bA2.cell 0 rfl
        have a1 := bA2.cell 1 rfl
        have b0 := bB2.cell 0 rfl
        have b1 := bB2.cell 1 rfl
        go_wp2_with fail
        refine (C3.out _).mono ?_
        rintro e w3 ⟨rfl, hb3⟩
        have bA3 := bA2.below hb3 bA2.lt
        have bB3 := bB2.below hb3 bB2.lt
        have hB3 := bthen hB2 hb3
        clear a0 a1 b0 b1 bA2 bB2 hb3 hB2
        have A0 := Lib.hid (bA3.cell 0 rfl)
        have A1 := Lib.hid (bA3.cell 1 rfl)
        have hlt := bA3.lt
        have hB4 : Below w3.heap.size w3 w3.drew := below_drew _
        go_wp2_with fail
        refine wp_region_F 5 (w3.heap.size) (by kernel_rfl) ?_
        refine wpAnyF_take (i := 0) (oi := { dst := some 34, op := Op.load 23 (Go.Operand.tmp 3), type := 23, pos := "drift.go:14", after := #[], guard := none }) (v := ?v7) rfl (by kernel_rfl) (by kernel_rfl) (by kernel_rfl) (by decide) (by kernel_rfl) (fun _ _ _ h => h) (Or.inl ⟨by rfl, ?hy7⟩) ?rs7
        case hy7 => (intro W hW; have hc0 := (((below_drew w3).trans hW).cell (p := ⟨w.heap.size, 0, none⟩) hlt).trans A0.out; have hc1 := (((below_drew w3).trans hW).cell (p := ⟨w.heap.size, 1, none⟩) hlt).trans A1.out; go_simp; try with_reducible rfl)
        try simp only [Act.put, List.setIfInBounds_toArray, List.set_cons_zero, List.set_cons_succ]
        refine wpAnyF_take (i := 2) (oi := { dst := some 36, op := Op.load 23 (Go.Operand.tmp 3), type := 23, pos := "drift.go:14", after := #[], guard := none }) (v := ?v8) rfl (by kernel_rfl) (by kernel_rfl) (by kernel_rfl) (by decide) (by kernel_rfl) (fun _ _ _ h => h) (Or.inl ⟨by rfl, ?hy8⟩) ?rs8
        case hy8 => (intro W hW; have hc0 := (((below_drew w3).trans hW).cell (p := ⟨w.heap.size, 0, none⟩) hlt).trans A0.out; have hc1 := (((below_drew w3).trans hW).cell (p := ⟨w.heap.size, 1, none⟩) hlt).trans A1.out; go_simp; try with_reducible rfl)
        try simp only [Act.put, List.setIfInBounds_toArray, List.set_cons_zero, List.set_cons_succ]
        refine wpAnyF_one (i := 1) (o := { dst := some 35, op := Op.call { callee := Callee.value (Go.Operand.func 11), args := #[Go.Operand.tmp 34], argTypes := #[23] }, type := 4, pos := "drift.go:14", after := #[{ on := 0, ground := Ground.data }], guard := none }) (by kernel_rfl) rfl (fun K hK => ?_)
        go_simp
        refine (R.out _).mono ?_; rintro e w4 ⟨rfl, hb4⟩; have hbk := hb4.mono hB4.size; replace hB4 := hB4.trans hbk
        refine hK.out _ _ hbk ?_
        clear hK K
        try simp only [Act.put, List.setIfInBounds_toArray, List.set_cons_zero, List.set_cons_succ]
        refine wpAnyF_one (i := 3) (o := { dst := some 37, op := Op.call { callee := Callee.value (Go.Operand.func 12), args := #[Go.Operand.tmp 36], argTypes := #[23] }, type := 4, pos := "drift.go:14", after := #[{ on := 2, ground := Ground.data }, { on := 1, ground := Ground.chain }], guard := none }) (by kernel_rfl) rfl (fun K hK => ?_)
        go_simp
        refine (KA.out _).mono ?_; rintro e w5 ⟨rfl, hb5⟩; have hbk := hb5.mono hB4.size; replace hB4 := hB4.trans hbk
        refine hK.out _ _ hbk ?_
        clear hK K
        try simp only [Act.put, List.setIfInBounds_toArray, List.set_cons_zero, List.set_cons_succ]
        refine wpAnyF_pure (i := 4) (oi := { dst := some 38, op := Op.binOp Go.BinOp.neq 4 (Go.Operand.tmp 35) (Go.Operand.tmp 37) 4, type := 4, pos := "drift.go:14", after := #[{ on := 1, ground := Ground.data }, { on := 3, ground := Ground.data }], guard := none }) (v := ?v9) rfl (by kernel_rfl) (by kernel_rfl) (by kernel_rfl) (fun _ _ _ h => h) (Or.inl ⟨by rfl, ?hy9⟩) ?rs9
        case hy9 => (intro W hW; go_simp; try with_reducible rfl)
        try simp only [Act.put, List.setIfInBounds_toArray, List.set_cons_zero, List.set_cons_succ]
        refine wpAnyF_done (by kernel_rfl) ?_
        have bA5 := bA3.below hB4 bA3.lt
        have bB5 := bB3.below hB4 bB3.lt
        have hB5 := bthen hB3 hB4
        clear A0 A1 bA3 bB3 hB3 hB4 hbk hb4 hb5
        have a0 := bA5.cell 0 rfl
        have a1 := bA5.cell 1 rfl
        have b0 := bB5.cell 0 rfl
        have b1 := bB5.cell 1 rfl
        go_wp2_with fail
        refine (KA.out _).mono ?_
        rintro e w6 ⟨rfl, hb6⟩
        have bA6 := bA5.below hb6 bA5.lt
        have bB6 := bB5.below hb6 bB5.lt
        have hB6 := bthen hB5 hb6
        clear a0 a1 b0 b1 bA5 bB5 hb6 hB5
        have a0 := bA6.cell 0 rfl
        have a1 := bA6.cell 1 rfl
        have b0 := bB6.cell 0 rfl
        have b1 := bB6.cell 1 rfl
        go_wp2
        go_ret
        exact ⟨rfl, hB6⟩
      · have hgt : decide (1099511627776 < t) = true := decide_eq_true (by unfold InTime at hT; omega)
        clear hT
        go_enter Try.func3, Try.ntmps3
        go_wp2_with fail
        refine (C1.out _).mono ?_
        rintro e w1 ⟨rfl, hb1⟩
        obtain ⟨bA, bB⟩ := two_boxes hb1
        have hB1 := below_new (below_new hb1)
        clear hb1
        have a0 := bA.cell 0 rfl
        have a1 := bA.cell 1 rfl
        go_wp2_with fail
        refine (C2.out _).mono ?_
        rintro e w2 ⟨rfl, hb2⟩
        have bA2 := bA.below hb2 bA.lt
        have bB2 := bB.below hb2 bB.lt
        have hB2 := bthen hB1 hb2
        clear a0 a1 bA bB hb2 hB1
        have a0 := bA2.cell 0 rfl
        have a1 := bA2.cell 1 rfl
        have b0 := bB2.cell 0 rfl
        have b1 := bB2.cell 1 rfl
        go_wp2_with fail
        refine (C3.out _).mono ?_
        rintro e w3 ⟨rfl, hb3⟩
        have bA3 := bA2.below hb3 bA2.lt
        have bB3 := bB2.below hb3 bB2.lt
        have hB3 := bthen hB2 hb3
        clear a0 a1 b0 b1 bA2 bB2 hb3 hB2
        have A0 := Lib.hid (bA3.cell 0 rfl)
        have A1 := Lib.hid (bA3.cell 1 rfl)
        have hlt := bA3.lt
        have hB4 : Below w3.heap.size w3 w3.drew := below_drew _
        go_wp2_with fail
        refine wp_region_F 5 (w3.heap.size) (by kernel_rfl) ?_
        refine wpAnyF_take (i := 0) (oi := { dst := some 34, op := Op.load 23 (Go.Operand.tmp 3), type := 23, pos := "drift.go:14", after := #[], guard := none }) (v := ?v10) rfl (by kernel_rfl) (by kernel_rfl) (by kernel_rfl) (by decide) (by kernel_rfl) (fun _ _ _ h => h) (Or.inl ⟨by rfl, ?hy10⟩) ?rs10
        case hy10 => (intro W hW; have hc0 := (((below_drew w3).trans hW).cell (p := ⟨w.heap.size, 0, none⟩) hlt).trans A0.out; have hc1 := (((below_drew w3).trans hW).cell (p := ⟨w.heap.size, 1, none⟩) hlt).trans A1.out; go_simp; try with_reducible rfl)
        try simp only [Act.put, List.setIfInBounds_toArray, List.set_cons_zero, List.set_cons_succ]
        refine wpAnyF_take (i := 2) (oi := { dst := some 36, op := Op.load 23 (Go.Operand.tmp 3), type := 23, pos := "drift.go:14", after := #[], guard := none }) (v := ?v11) rfl (by kernel_rfl) (by kernel_rfl) (by kernel_rfl) (by decide) (by kernel_rfl) (fun _ _ _ h => h) (Or.inl ⟨by rfl, ?hy11⟩) ?rs11
        case hy11 => (intro W hW; have hc0 := (((below_drew w3).trans hW).cell (p := ⟨w.heap.size, 0, none⟩) hlt).trans A0.out; have hc1 := (((below_drew w3).trans hW).cell (p := ⟨w.heap.size, 1, none⟩) hlt).trans A1.out; go_simp; try with_reducible rfl)
        try simp only [Act.put, List.setIfInBounds_toArray, List.set_cons_zero, List.set_cons_succ]
        refine wpAnyF_one (i := 1) (o := { dst := some 35, op := Op.call { callee := Callee.value (Go.Operand.func 11), args := #[Go.Operand.tmp 34], argTypes := #[23] }, type := 4, pos := "drift.go:14", after := #[{ on := 0, ground := Ground.data }], guard := none }) (by kernel_rfl) rfl (fun K hK => ?_)
        go_simp
        refine (R.out _).mono ?_; rintro e w4 ⟨rfl, hb4⟩; have hbk := hb4.mono hB4.size; replace hB4 := hB4.trans hbk
        refine hK.out _ _ hbk ?_
        clear hK K
        try simp only [Act.put, List.setIfInBounds_toArray, List.set_cons_zero, List.set_cons_succ]
        refine wpAnyF_one (i := 3) (o := { dst := some 37, op := Op.call { callee := Callee.value (Go.Operand.func 12), args := #[Go.Operand.tmp 36], argTypes := #[23] }, type := 4, pos := "drift.go:14", after := #[{ on := 2, ground := Ground.data }, { on := 1, ground := Ground.chain }], guard := none }) (by kernel_rfl) rfl (fun K hK => ?_)
        go_simp
        refine (KA.out _).mono ?_; rintro e w5 ⟨rfl, hb5⟩; have hbk := hb5.mono hB4.size; replace hB4 := hB4.trans hbk
        refine hK.out _ _ hbk ?_
        clear hK K
        try simp only [Act.put, List.setIfInBounds_toArray, List.set_cons_zero, List.set_cons_succ]
        refine wpAnyF_pure (i := 4) (oi := { dst := some 38, op := Op.binOp Go.BinOp.neq 4 (Go.Operand.tmp 35) (Go.Operand.tmp 37) 4, type := 4, pos := "drift.go:14", after := #[{ on := 1, ground := Ground.data }, { on := 3, ground := Ground.data }], guard := none }) (v := ?v12) rfl (by kernel_rfl) (by kernel_rfl) (by kernel_rfl) (fun _ _ _ h => h) (Or.inl ⟨by rfl, ?hy12⟩) ?rs12
        case hy12 => (intro W hW; go_simp; try with_reducible rfl)
        try simp only [Act.put, List.setIfInBounds_toArray, List.set_cons_zero, List.set_cons_succ]
        refine wpAnyF_done (by kernel_rfl) ?_
        have bA5 := bA3.below hB4 bA3.lt
        have bB5 := bB3.below hB4 bB3.lt
        have hB5 := bthen hB3 hB4
        clear A0 A1 bA3 bB3 hB3 hB4 hbk hb4 hb5
        have a0 := bA5.cell 0 rfl
        have a1 := bA5.cell 1 rfl
        have b0 := bB5.cell 0 rfl
        have b1 := bB5.cell 1 rfl
        go_wp2_with fail
        refine (KA.out _).mono ?_
        rintro e w6 ⟨rfl, hb6⟩
        have bA6 := bA5.below hb6 bA5.lt
        have bB6 := bB5.below hb6 bB5.lt
        have hB6 := bthen hB5 hb6
        clear a0 a1 b0 b1 bA5 bB5 hb6 hB5
        have a0 := bA6.cell 0 rfl
        have a1 := bA6.cell 1 rfl
        have b0 := bB6.cell 0 rfl
        have b1 := bB6.cell 1 rfl
        go_wp2
        go_ret
        exact ⟨rfl, hB6⟩
  · rw [decide_eq_false hA] at R KA
    have eA := checkK_form t hA
    have e3 : apartE ra oa rb ob t = 1 := by rw [apartE, if_neg (by rw [eA]; decide), eA]
    rw [showsR_no (by rw [eA]; decide), eA] at C1
    rw [whenR_no (by rw [eA]; decide), eA] at C2
    rw [apartR, if_neg (by rw [e3]; decide), e3] at C3
    clear hA eA e3 KB
    go_enter Try.func3, Try.ntmps3
    go_wp2_with fail
    refine (C1.out _).mono ?_
    rintro e w1 ⟨rfl, hb1⟩
    obtain ⟨bA, bB⟩ := two_boxes hb1
    have hB1 := below_new (below_new hb1)
    clear hb1
    have a0 := bA.cell 0 rfl
    have a1 := bA.cell 1 rfl
    go_wp2_with fail
    refine (C2.out _).mono ?_
    rintro e w2 ⟨rfl, hb2⟩
    have bA2 := bA.below hb2 bA.lt
    have bB2 := bB.below hb2 bB.lt
    have hB2 := bthen hB1 hb2
    clear a0 a1 bA bB hb2 hB1
    have a0 := bA2.cell 0 rfl
    have a1 := bA2.cell 1 rfl
    have b0 := bB2.cell 0 rfl
    have b1 := bB2.cell 1 rfl
    go_wp2_with fail
    refine (C3.out _).mono ?_
    rintro e w3 ⟨rfl, hb3⟩
    have bA3 := bA2.below hb3 bA2.lt
    have bB3 := bB2.below hb3 bB2.lt
    have hB3 := bthen hB2 hb3
    clear a0 a1 b0 b1 bA2 bB2 hb3 hB2
    have A0 := Lib.hid (bA3.cell 0 rfl)
    have A1 := Lib.hid (bA3.cell 1 rfl)
    have hlt := bA3.lt
    have hB4 : Below w3.heap.size w3 w3.drew := below_drew _
    go_wp2_with fail
    refine wp_region_F 5 (w3.heap.size) (by kernel_rfl) ?_
    refine wpAnyF_take (i := 0) (oi := { dst := some 34, op := Op.load 23 (Go.Operand.tmp 3), type := 23, pos := "drift.go:14", after := #[], guard := none }) (v := ?v13) rfl (by kernel_rfl) (by kernel_rfl) (by kernel_rfl) (by decide) (by kernel_rfl) (fun _ _ _ h => h) (Or.inl ⟨by rfl, ?hy13⟩) ?rs13
    case hy13 => (intro W hW; have hc0 := (((below_drew w3).trans hW).cell (p := ⟨w.heap.size, 0, none⟩) hlt).trans A0.out; have hc1 := (((below_drew w3).trans hW).cell (p := ⟨w.heap.size, 1, none⟩) hlt).trans A1.out; go_simp; try with_reducible rfl)
    try simp only [Act.put, List.setIfInBounds_toArray, List.set_cons_zero, List.set_cons_succ]
    refine wpAnyF_take (i := 2) (oi := { dst := some 36, op := Op.load 23 (Go.Operand.tmp 3), type := 23, pos := "drift.go:14", after := #[], guard := none }) (v := ?v14) rfl (by kernel_rfl) (by kernel_rfl) (by kernel_rfl) (by decide) (by kernel_rfl) (fun _ _ _ h => h) (Or.inl ⟨by rfl, ?hy14⟩) ?rs14
    case hy14 => (intro W hW; have hc0 := (((below_drew w3).trans hW).cell (p := ⟨w.heap.size, 0, none⟩) hlt).trans A0.out; have hc1 := (((below_drew w3).trans hW).cell (p := ⟨w.heap.size, 1, none⟩) hlt).trans A1.out; go_simp; try with_reducible rfl)
    try simp only [Act.put, List.setIfInBounds_toArray, List.set_cons_zero, List.set_cons_succ]
    refine wpAnyF_one (i := 1) (o := { dst := some 35, op := Op.call { callee := Callee.value (Go.Operand.func 11), args := #[Go.Operand.tmp 34], argTypes := #[23] }, type := 4, pos := "drift.go:14", after := #[{ on := 0, ground := Ground.data }], guard := none }) (by kernel_rfl) rfl (fun K hK => ?_)
    go_simp
    refine (R.out _).mono ?_; rintro e w4 ⟨rfl, hb4⟩; have hbk := hb4.mono hB4.size; replace hB4 := hB4.trans hbk
    refine hK.out _ _ hbk ?_
    clear hK K
    try simp only [Act.put, List.setIfInBounds_toArray, List.set_cons_zero, List.set_cons_succ]
    refine wpAnyF_one (i := 3) (o := { dst := some 37, op := Op.call { callee := Callee.value (Go.Operand.func 12), args := #[Go.Operand.tmp 36], argTypes := #[23] }, type := 4, pos := "drift.go:14", after := #[{ on := 2, ground := Ground.data }, { on := 1, ground := Ground.chain }], guard := none }) (by kernel_rfl) rfl (fun K hK => ?_)
    go_simp
    refine (KA.out _).mono ?_; rintro e w5 ⟨rfl, hb5⟩; have hbk := hb5.mono hB4.size; replace hB4 := hB4.trans hbk
    refine hK.out _ _ hbk ?_
    clear hK K
    try simp only [Act.put, List.setIfInBounds_toArray, List.set_cons_zero, List.set_cons_succ]
    refine wpAnyF_pure (i := 4) (oi := { dst := some 38, op := Op.binOp Go.BinOp.neq 4 (Go.Operand.tmp 35) (Go.Operand.tmp 37) 4, type := 4, pos := "drift.go:14", after := #[{ on := 1, ground := Ground.data }, { on := 3, ground := Ground.data }], guard := none }) (v := ?v15) rfl (by kernel_rfl) (by kernel_rfl) (by kernel_rfl) (fun _ _ _ h => h) (Or.inl ⟨by rfl, ?hy15⟩) ?rs15
    case hy15 => (intro W hW; go_simp; try with_reducible rfl)
    try simp only [Act.put, List.setIfInBounds_toArray, List.set_cons_zero, List.set_cons_succ]
    refine wpAnyF_done (by kernel_rfl) ?_
    have bA5 := bA3.below hB4 bA3.lt
    have bB5 := bB3.below hB4 bB3.lt
    have hB5 := bthen hB3 hB4
    clear A0 A1 bA3 bB3 hB3 hB4 hbk hb4 hb5
    have a0 := bA5.cell 0 rfl
    have a1 := bA5.cell 1 rfl
    have b0 := bB5.cell 0 rfl
    have b1 := bB5.cell 1 rfl
    go_wp2_with fail
    refine (KA.out _).mono ?_
    rintro e w6 ⟨rfl, hb6⟩
    have bA6 := bA5.below hb6 bA5.lt
    have bB6 := bB5.below hb6 bB5.lt
    have hB6 := bthen hB5 hb6
    clear a0 a1 b0 b1 bA5 bB5 hb6 hB5
    have a0 := bA6.cell 0 rfl
    have a1 := bA6.cell 1 rfl
    have b0 := bB6.cell 0 rfl
    have b1 := bB6.cell 1 rfl
    go_wp2
    go_ret
    exact ⟨rfl, hB6⟩
end Go.Proofs.Ytidlfbemamoflaa
