/-
  Contracts of the reference's KRight, KShows, KWhen.
-/
import Derived.Test.YtidlfbemamoflaaBigWalks5
import Derived.Test.YtidlfbemamoflaaDriftWalks
import Derived.Deep.CutBlock
import Derived.Deep.DeepCutAuto
namespace Go.Proofs.Ytidlfbemamoflaa
open Go.RowKit
set_option linter.unusedVariables false

set_option maxHeartbeats 800000 in
theorem KRight_any (r o : Int) (hr : in64 r) (ho : in64 o) (w : World) : Calls Try.prog 12 #[clockV r o] w fun e w' => e = .returned (.bool (decide (ClockOk r o))) ∧ Below w.heap.size w w' := by
  obtain ⟨r0, r1⟩ := hr
  obtain ⟨o0, o1⟩ := ho
  have fin : ∀ (w' : World) (b : Bool), Below w.heap.size w w' → b = decide (ClockOk r o) → (Ending.returned (.bool b) = .returned (.bool (decide (ClockOk r o))) ∧ Below w.heap.size w w') := fun w' b hb h => ⟨ret_bool h, hb⟩
  have Hf := Lib.hid fin; clear fin
  have hB := fun o => (Below.refl w.heap.size w).alloc (Nat.le_refl _) o
  by_cases h1 : ClockOk r o
  · have h1' := h1
    obtain ⟨p1, p2, p3, p4⟩ := h1'
    rw [decide_eq_true h1] at Hf ⊢
    clear h1
    go_enter Try.func12, Try.ntmps12
    go_wp2
    all_goals (go_ret; exact Hf.out _ _ (hB _) rfl)
  · rw [decide_eq_false h1] at Hf ⊢
    by_cases g1 : max r (-r) ≤ 1000
    · by_cases g2 : -2000 < r
      · by_cases g3 : 0 ≤ o
        · have g4 : decide (o ≤ 1099511627776) = false := decide_eq_false (fun k => h1 ⟨by omega, by omega, g3, k⟩)
          have g5 : -1000 ≤ r ∧ r ≤ 1000 := by omega
          clear h1 g1 g2
          go_enter Try.func12, Try.ntmps12
          go_wp2
          all_goals (go_ret; exact Hf.out _ _ (hB _) (by first | rfl | simp [g4]))
        · have g5 : -1000 ≤ r ∧ r ≤ 1000 := by omega
          clear h1 g1 g2
          go_enter Try.func12, Try.ntmps12
          go_wp2
          all_goals (go_ret; exact Hf.out _ _ (hB _) (by first | rfl | simp; omega))
      · have g5 : r ≤ -2000 := by omega
        clear h1 g1
        go_enter Try.func12, Try.ntmps12
        go_wp2
        all_goals (go_ret; exact Hf.out _ _ (hB _) (by first | rfl | (simp; omega)))
    · by_cases g6 : 1000 < r
      · clear h1 g1
        go_enter Try.func12, Try.ntmps12
        go_wp2
        all_goals (go_ret; exact Hf.out _ _ (hB _) (by first | rfl | (simp; omega)))
      · rcases Int.lt_or_le (-2000) r with g2 | g2
        all_goals
        have g7 : r < -1000 := by omega
        clear h1 g1
        go_enter Try.func12, Try.ntmps12
        go_wp2
        all_goals (go_ret; exact Hf.out _ _ (hB _) (by first | rfl | (simp; omega)))

set_option maxHeartbeats 1600000 in
theorem KShows_any (r o t : Int) (h : ClockOk r o) (ht : InTime t) (w : World) : Calls Try.prog 13 #[clockV r o, .int .i64 t] w fun e w' => e = .returned (.int .i64 (showsV r o t)) ∧ Below w.heap.size w w' := by
  have hrange := showsV_range h ht
  obtain ⟨h1, h2, h3, h4⟩ := h
  obtain ⟨h5, h6⟩ := ht
  obtain ⟨p0, p1, _, _⟩ := prod_range h1 h2 h5 h6
  have N1 := Lib.hid (fun (W : World) => NewInt_ex t ⟨by omega, by omega⟩ W)
  have N2 := Lib.hid (fun (W : World) => NewInt_ex (1000000 + r) ⟨by omega, by omega⟩ W)
  have N3 := Lib.hid (fun (W : World) => NewInt_ex 1000000 ⟨by decide, by decide⟩ W)
  have M := Lib.hid (fun (W : World) (bz bx bY : Nat) (g1 : IntBox W bz) (g2 : BigAt W bx t) (g3 : BigAt W bY (1000000 + r)) => BigMul_any bz bx bY t (1000000 + r) W g1 g2 g3 (small64 (by omega)) (small64 (by omega)))
  have D := Lib.hid (fun (W : World) (bz bY : Nat) (g2 : BigAt W bz (t * (1000000 + r))) (g3 : BigAt W bY 1000000) => Div_any bz bz bY (t * (1000000 + r)) 1000000 W g2.int g2 g3 (by omega) (by decide) (by decide))
  have hq0 : 0 ≤ t * (1000000 + r) / 1000000 := by omega
  have hq1 : t * (1000000 + r) / 1000000 ≤ 1200000000000 := by omega
  have I := Lib.hid (fun (W : World) (bz : Nat) (g2 : BigAt W bz (t * (1000000 + r) / 1000000)) => Int64_any bz (t * (1000000 + r) / 1000000) W g2 ⟨by omega, by omega⟩)
  have Hs : Hid (showsV r o t = o + t * (1000000 + r) / 1000000) := rfl
  generalize t * (1000000 + r) = X at *
  have hwr : IntKind.i64.wrap (1000000 + r) = 1000000 + r := IntWalk.i64_in _ (by omega)
  go_enter Try.func13, Try.ntmps13
  go_upto_region 1 with fail
  have c0 := (Box.new w 23 [.int .i64 r, .int .i64 o]).cell 0 rfl
  have c1 := (Box.new w 23 [.int .i64 r, .int .i64 o]).cell 1 rfl
  have hB := (Below.refl w.heap.size w).alloc (Nat.le_refl _) (.cells #[.int .i64 r, .int .i64 o] 23)
  have hlt : w.heap.size < (w.alloc (.cells #[.int .i64 r, .int .i64 o] 23)).heap.size := by simp
  change (w.alloc (.cells #[.int .i64 r, .int .i64 o] 23)).cell? _ = _ at c0 c1
  generalize (w.alloc (.cells #[.int .i64 r, .int .i64 o] 23)) = w1 at *
  go_cut [5] (fun s5 wx => ∃ g, s5 = ptr g ∧ BigAt wx g X ∧ Below w1.heap.size w1 wx ∧ w1.heap.size ≤ g)
  case first =>
    have C0 := Lib.hid c0; clear c0 c1
    have hB1 : Below w1.heap.size w1 w1.drew := below_drew _
    refine wp_region_F 9 (w1.heap.size) (by kernel_rfl) ?_
    refine wpAnyF_pure (i := 1) (oi := { dst := some 7, op := Op.move (Go.Operand.tmp 1), type := 3, pos := "drift.go:12", after := #[], guard := none }) (v := ?v1) rfl (by kernel_rfl) (by kernel_rfl) (by kernel_rfl) (fun _ _ _ h => h) (Or.inl ⟨by rfl, ?hy1⟩) ?rs1
    case hy1 => (intro W hW; go_simp; try with_reducible rfl)
    try simp only [Act.put, List.setIfInBounds_toArray, List.set_cons_zero, List.set_cons_succ]
    refine wpAnyF_pure (i := 3) (oi := { dst := some 9, op := Op.fieldAddr 23 (Go.Operand.tmp 2) 0, type := 0, pos := "drift.go:12", after := #[], guard := none }) (v := ?v2) rfl (by kernel_rfl) (by kernel_rfl) (by kernel_rfl) (fun _ _ _ h => h) (Or.inl ⟨by rfl, ?hy2⟩) ?rs2
    case hy2 => (intro W hW; go_simp; try with_reducible rfl)
    try simp only [Act.put, List.setIfInBounds_toArray, List.set_cons_zero, List.set_cons_succ]
    refine wpAnyF_take (i := 4) (oi := { dst := some 10, op := Op.load 3 (Go.Operand.tmp 9), type := 3, pos := "drift.go:12", after := #[{ on := 3, ground := Ground.data }], guard := none }) (v := ?v3) rfl (by kernel_rfl) (by kernel_rfl) (by kernel_rfl) (by decide) (by kernel_rfl) (fun _ _ _ h => h) (Or.inl ⟨by rfl, ?hy3⟩) ?rs3
    case hy3 => (intro W hW; have hc := (((below_drew w1).trans hW).cell (p := ⟨w.heap.size, 0, none⟩) hlt).trans C0.out; go_simp; try with_reducible rfl)
    try simp only [Act.put, List.setIfInBounds_toArray, List.set_cons_zero, List.set_cons_succ]
    refine wpAnyF_pure (i := 5) (oi := { dst := some 11, op := Op.binOp Go.BinOp.add 3 (Go.Operand.const (Go.Value.int Go.IntKind.i64 1000000)) (Go.Operand.tmp 10) 3, type := 3, pos := "drift.go:12", after := #[{ on := 4, ground := Ground.data }], guard := none }) (v := ?v4) rfl (by kernel_rfl) (by kernel_rfl) (by kernel_rfl) (fun _ _ _ h => h) (Or.inl ⟨by rfl, ?hy4⟩) ?rs4
    case hy4 => (intro W hW; go_simp; try with_reducible rfl)
    try simp only [Act.put, List.setIfInBounds_toArray, List.set_cons_zero, List.set_cons_succ]
    refine wpAnyF_two (i := 0) (j := 2) (oi := { dst := some 6, op := Op.alloc 41, type := 38, pos := "drift.go:12", after := #[], guard := none }) (oj := { dst := some 8, op := Op.call { callee := Callee.value (Go.Operand.func 19), args := #[Go.Operand.tmp 7], argTypes := #[2] }, type := 38, pos := "drift.go:12", after := #[{ on := 1, ground := Ground.data }], guard := none }) (by kernel_rfl) rfl rfl (fun K hK => ?_) (fun K hK => ?_)
    go_simp
    have hge := hB1.size; replace hB1 := hB1.alloc hB1.size (.cells #[.bool false, .slice none 0 0] 41); (first | have hz := IntBox.new w3 | have hz := IntBox.new w2 | have hz : IntBox (w1.drew.alloc (.cells #[.bool false, .slice none 0 0] 41)) w1.heap.size := IntBox.new w1.drew); (try replace hX := hX.alloc (.cells #[.bool false, .slice none 0 0] 41)); (try replace hY := hY.alloc (.cells #[.bool false, .slice none 0 0] 41))
    refine hK.out _ _ ((Below.refl _ _).alloc (by first | exact Nat.le_refl _ | omega | (simp; omega)) _) ?_
    clear hK K
    try simp only [Act.put, List.setIfInBounds_toArray, List.set_cons_zero, List.set_cons_succ]
    refine wpAnyF_one (i := 2) (o := { dst := some 8, op := Op.call { callee := Callee.value (Go.Operand.func 19), args := #[Go.Operand.tmp 7], argTypes := #[2] }, type := 38, pos := "drift.go:12", after := #[{ on := 1, ground := Ground.data }], guard := none }) (by kernel_rfl) rfl (fun K hK => ?_)
    go_simp
    refine (N1.out _).mono ?_; rintro e w2 ⟨b2, rfl, hX, hb2, hn2⟩; have hbk := hb2.mono hB1.size; replace hB1 := hB1.trans hbk; (try replace hz := hz.below hb2 hz.lt)
    refine hK.out _ _ hbk ?_
    clear hK K
    try simp only [Act.put, List.setIfInBounds_toArray, List.set_cons_zero, List.set_cons_succ]
    refine wpAnyF_one (i := 6) (o := { dst := some 12, op := Op.call { callee := Callee.value (Go.Operand.func 19), args := #[Go.Operand.tmp 11], argTypes := #[2] }, type := 38, pos := "drift.go:12", after := #[{ on := 5, ground := Ground.data }, { on := 2, ground := Ground.chain }], guard := none }) (by kernel_rfl) rfl (fun K hK => ?_)
    go_simp
    refine (N2.out _).mono ?_; rintro e w3 ⟨b3, rfl, hY, hb3, hn3⟩; have hbk := hb3.mono hB1.size; replace hB1 := hB1.trans hbk; (try replace hz := hz.below hb3 hz.lt); replace hX := hX.below hb3
    refine hK.out _ _ hbk ?_
    clear hK K
    try simp only [Act.put, List.setIfInBounds_toArray, List.set_cons_zero, List.set_cons_succ]
    refine wpAnyF_one (i := 7) (o := { dst := some 13, op := Op.call { callee := Callee.value (Go.Operand.func 18), args := #[Go.Operand.tmp 6, Go.Operand.tmp 8, Go.Operand.tmp 12], argTypes := #[38, 38, 38] }, type := 38, pos := "drift.go:12", after := #[{ on := 0, ground := Ground.data }, { on := 2, ground := Ground.data }, { on := 6, ground := Ground.data }, { on := 6, ground := Ground.chain }], guard := none }) (by kernel_rfl) rfl (fun K hK => ?_)
    go_simp
    refine (M.out _ _ _ _ hz hX hY).mono ?_; rintro e w5 ⟨rfl, hM, hg5⟩; have hbk := below_of_grownBy hg5 hge hB1.size; replace hB1 := hB1.trans hbk
    refine hK.out _ _ hbk ?_
    clear hK K
    try simp only [Act.put, List.setIfInBounds_toArray, List.set_cons_zero, List.set_cons_succ]
    refine wpAnyF_pure (i := 8) (oi := { dst := some 5, op := Op.assign (Go.Operand.tmp 13), type := 38, pos := "drift.go:12", after := #[{ on := 7, ground := Ground.data }, { on := 7, ground := Ground.chain }, { on := 0, ground := Ground.phase }, { on := 1, ground := Ground.phase }, { on := 2, ground := Ground.phase }, { on := 3, ground := Ground.phase }, { on := 4, ground := Ground.phase }, { on := 5, ground := Ground.phase }, { on := 6, ground := Ground.phase }, { on := 7, ground := Ground.phase }], guard := none }) (v := ?v5) rfl (by kernel_rfl) (by kernel_rfl) (by kernel_rfl) (fun _ _ _ h => h) (Or.inl ⟨by rfl, ?hy5⟩) ?rs5
    case hy5 => (intro W hW; go_simp; try with_reducible rfl)
    try simp only [Act.put, List.setIfInBounds_toArray, List.set_cons_zero, List.set_cons_succ]
    refine wpAnyF_done (by kernel_rfl) ?_
    rotate_left
    go_simp
    refine (N1.out _).mono ?_; rintro e w2 ⟨b2, rfl, hX, hb2, hn2⟩; have hbk := hb2.mono hB1.size; replace hB1 := hB1.trans hbk; (try replace hz := hz.below hb2 hz.lt)
    refine hK.out _ _ hbk ?_
    clear hK K
    try simp only [Act.put, List.setIfInBounds_toArray, List.set_cons_zero, List.set_cons_succ]
    refine wpAnyF_two (i := 0) (j := 6) (oi := { dst := some 6, op := Op.alloc 41, type := 38, pos := "drift.go:12", after := #[], guard := none }) (oj := { dst := some 12, op := Op.call { callee := Callee.value (Go.Operand.func 19), args := #[Go.Operand.tmp 11], argTypes := #[2] }, type := 38, pos := "drift.go:12", after := #[{ on := 5, ground := Ground.data }, { on := 2, ground := Ground.chain }], guard := none }) (by kernel_rfl) rfl rfl (fun K hK => ?_) (fun K hK => ?_)
    go_simp
    have hge := hB1.size; replace hB1 := hB1.alloc hB1.size (.cells #[.bool false, .slice none 0 0] 41); (first | have hz := IntBox.new w3 | have hz := IntBox.new w2 | have hz : IntBox (w1.drew.alloc (.cells #[.bool false, .slice none 0 0] 41)) w1.heap.size := IntBox.new w1.drew); (try replace hX := hX.alloc (.cells #[.bool false, .slice none 0 0] 41)); (try replace hY := hY.alloc (.cells #[.bool false, .slice none 0 0] 41))
    refine hK.out _ _ ((Below.refl _ _).alloc (by first | exact Nat.le_refl _ | omega | (simp; omega)) _) ?_
    clear hK K
    try simp only [Act.put, List.setIfInBounds_toArray, List.set_cons_zero, List.set_cons_succ]
    refine wpAnyF_one (i := 6) (o := { dst := some 12, op := Op.call { callee := Callee.value (Go.Operand.func 19), args := #[Go.Operand.tmp 11], argTypes := #[2] }, type := 38, pos := "drift.go:12", after := #[{ on := 5, ground := Ground.data }, { on := 2, ground := Ground.chain }], guard := none }) (by kernel_rfl) rfl (fun K hK => ?_)
    go_simp
    refine (N2.out _).mono ?_; rintro e w3 ⟨b3, rfl, hY, hb3, hn3⟩; have hbk := hb3.mono hB1.size; replace hB1 := hB1.trans hbk; (try replace hz := hz.below hb3 hz.lt); replace hX := hX.below hb3
    refine hK.out _ _ hbk ?_
    clear hK K
    try simp only [Act.put, List.setIfInBounds_toArray, List.set_cons_zero, List.set_cons_succ]
    refine wpAnyF_one (i := 7) (o := { dst := some 13, op := Op.call { callee := Callee.value (Go.Operand.func 18), args := #[Go.Operand.tmp 6, Go.Operand.tmp 8, Go.Operand.tmp 12], argTypes := #[38, 38, 38] }, type := 38, pos := "drift.go:12", after := #[{ on := 0, ground := Ground.data }, { on := 2, ground := Ground.data }, { on := 6, ground := Ground.data }, { on := 6, ground := Ground.chain }], guard := none }) (by kernel_rfl) rfl (fun K hK => ?_)
    go_simp
    refine (M.out _ _ _ _ hz hX hY).mono ?_; rintro e w5 ⟨rfl, hM, hg5⟩; have hbk := below_of_grownBy hg5 hge hB1.size; replace hB1 := hB1.trans hbk
    refine hK.out _ _ hbk ?_
    clear hK K
    try simp only [Act.put, List.setIfInBounds_toArray, List.set_cons_zero, List.set_cons_succ]
    refine wpAnyF_pure (i := 8) (oi := { dst := some 5, op := Op.assign (Go.Operand.tmp 13), type := 38, pos := "drift.go:12", after := #[{ on := 7, ground := Ground.data }, { on := 7, ground := Ground.chain }, { on := 0, ground := Ground.phase }, { on := 1, ground := Ground.phase }, { on := 2, ground := Ground.phase }, { on := 3, ground := Ground.phase }, { on := 4, ground := Ground.phase }, { on := 5, ground := Ground.phase }, { on := 6, ground := Ground.phase }, { on := 7, ground := Ground.phase }], guard := none }) (v := ?v6) rfl (by kernel_rfl) (by kernel_rfl) (by kernel_rfl) (fun _ _ _ h => h) (Or.inl ⟨by rfl, ?hy6⟩) ?rs6
    case hy6 => (intro W hW; go_simp; try with_reducible rfl)
    try simp only [Act.put, List.setIfInBounds_toArray, List.set_cons_zero, List.set_cons_succ]
    refine wpAnyF_done (by kernel_rfl) ?_
    rotate_left
    go_simp
    refine (N2.out _).mono ?_; rintro e w3 ⟨b3, rfl, hY, hb3, hn3⟩; have hbk := hb3.mono hB1.size; replace hB1 := hB1.trans hbk; (try replace hz := hz.below hb3 hz.lt); replace hX := hX.below hb3
    refine hK.out _ _ hbk ?_
    clear hK K
    try simp only [Act.put, List.setIfInBounds_toArray, List.set_cons_zero, List.set_cons_succ]
    refine wpAnyF_one (i := 0) (o := { dst := some 6, op := Op.alloc 41, type := 38, pos := "drift.go:12", after := #[], guard := none }) (by kernel_rfl) rfl (fun K hK => ?_)
    go_simp
    have hge := hB1.size; replace hB1 := hB1.alloc hB1.size (.cells #[.bool false, .slice none 0 0] 41); (first | have hz := IntBox.new w3 | have hz := IntBox.new w2 | have hz : IntBox (w1.drew.alloc (.cells #[.bool false, .slice none 0 0] 41)) w1.heap.size := IntBox.new w1.drew); (try replace hX := hX.alloc (.cells #[.bool false, .slice none 0 0] 41)); (try replace hY := hY.alloc (.cells #[.bool false, .slice none 0 0] 41))
    refine hK.out _ _ ((Below.refl _ _).alloc (by first | exact Nat.le_refl _ | omega | (simp; omega)) _) ?_
    clear hK K
    try simp only [Act.put, List.setIfInBounds_toArray, List.set_cons_zero, List.set_cons_succ]
    refine wpAnyF_one (i := 7) (o := { dst := some 13, op := Op.call { callee := Callee.value (Go.Operand.func 18), args := #[Go.Operand.tmp 6, Go.Operand.tmp 8, Go.Operand.tmp 12], argTypes := #[38, 38, 38] }, type := 38, pos := "drift.go:12", after := #[{ on := 0, ground := Ground.data }, { on := 2, ground := Ground.data }, { on := 6, ground := Ground.data }, { on := 6, ground := Ground.chain }], guard := none }) (by kernel_rfl) rfl (fun K hK => ?_)
    go_simp
    refine (M.out _ _ _ _ hz hX hY).mono ?_; rintro e w5 ⟨rfl, hM, hg5⟩; have hbk := below_of_grownBy hg5 hge hB1.size; replace hB1 := hB1.trans hbk
    refine hK.out _ _ hbk ?_
    clear hK K
    try simp only [Act.put, List.setIfInBounds_toArray, List.set_cons_zero, List.set_cons_succ]
    refine wpAnyF_pure (i := 8) (oi := { dst := some 5, op := Op.assign (Go.Operand.tmp 13), type := 38, pos := "drift.go:12", after := #[{ on := 7, ground := Ground.data }, { on := 7, ground := Ground.chain }, { on := 0, ground := Ground.phase }, { on := 1, ground := Ground.phase }, { on := 2, ground := Ground.phase }, { on := 3, ground := Ground.phase }, { on := 4, ground := Ground.phase }, { on := 5, ground := Ground.phase }, { on := 6, ground := Ground.phase }, { on := 7, ground := Ground.phase }], guard := none }) (v := ?v7) rfl (by kernel_rfl) (by kernel_rfl) (by kernel_rfl) (fun _ _ _ h => h) (Or.inl ⟨by rfl, ?hy7⟩) ?rs7
    case hy7 => (intro W hW; go_simp; try with_reducible rfl)
    try simp only [Act.put, List.setIfInBounds_toArray, List.set_cons_zero, List.set_cons_succ]
    refine wpAnyF_done (by kernel_rfl) ?_
    rotate_left
    all_goals (go_wp2; go_meet; exact ⟨_, rfl, hM, hB1, hge⟩)
  case rest =>
    obtain ⟨g, rfl, hM, hc1, hge⟩ := hcut
    have C1 := Lib.hid ((hc1.cell (p := ⟨w.heap.size, 1, none⟩) hlt).trans c1); clear c0 c1
    have hB1 : Below w1.heap.size w1 wc.drew := hc1.trans (below_drew _)
    have hM1 : BigAt wc.drew g X := hM.below (below_drew _)
    have hw2 : IntKind.i64.wrap (o + X / 1000000) = o + X / 1000000 := IntWalk.i64_in _ (by omega)
    clear hM hwr
    go_wp2
    refine wp_region_F 9 (w1.heap.size) (by kernel_rfl) ?_
    refine wpAnyF_pure (i := 0) (oi := { dst := some 14, op := Op.fieldAddr 23 (Go.Operand.tmp 2) 1, type := 0, pos := "drift.go:13", after := #[], guard := none }) (v := ?v8) rfl (by kernel_rfl) (by kernel_rfl) (by kernel_rfl) (fun _ _ _ h => h) (Or.inl ⟨by rfl, ?hy8⟩) ?rs8
    case hy8 => (intro W hW; go_simp; try with_reducible rfl)
    try simp only [Act.put, List.setIfInBounds_toArray, List.set_cons_zero, List.set_cons_succ]
    refine wpAnyF_take (i := 1) (oi := { dst := some 15, op := Op.load 3 (Go.Operand.tmp 14), type := 3, pos := "drift.go:13", after := #[{ on := 0, ground := Ground.data }], guard := none }) (v := ?v9) rfl (by kernel_rfl) (by kernel_rfl) (by kernel_rfl) (by decide) (by kernel_rfl) (fun _ _ _ h => h) (Or.inl ⟨by rfl, ?hy9⟩) ?rs9
    case hy9 => (intro W hW; have hc := (((below_drew wc).trans hW).cell (p := ⟨w.heap.size, 1, none⟩) hlt).trans C1.out; go_simp; try with_reducible rfl)
    try simp only [Act.put, List.setIfInBounds_toArray, List.set_cons_zero, List.set_cons_succ]
    refine wpAnyF_pure (i := 2) (oi := { dst := some 16, op := Op.move (Go.Operand.tmp 5), type := 38, pos := "drift.go:13", after := #[], guard := none }) (v := ?v10) rfl (by kernel_rfl) (by kernel_rfl) (by kernel_rfl) (fun _ _ _ h => h) (Or.inl ⟨by rfl, ?hy10⟩) ?rs10
    case hy10 => (intro W hW; go_simp; try with_reducible rfl)
    try simp only [Act.put, List.setIfInBounds_toArray, List.set_cons_zero, List.set_cons_succ]
    refine wpAnyF_pure (i := 3) (oi := { dst := some 17, op := Op.move (Go.Operand.tmp 5), type := 38, pos := "drift.go:13", after := #[], guard := none }) (v := ?v11) rfl (by kernel_rfl) (by kernel_rfl) (by kernel_rfl) (fun _ _ _ h => h) (Or.inl ⟨by rfl, ?hy11⟩) ?rs11
    case hy11 => (intro W hW; go_simp; try with_reducible rfl)
    try simp only [Act.put, List.setIfInBounds_toArray, List.set_cons_zero, List.set_cons_succ]
    refine wpAnyF_one (i := 4) (o := { dst := some 18, op := Op.call { callee := Callee.value (Go.Operand.func 19), args := #[Go.Operand.const (Go.Value.int Go.IntKind.i64 1000000)], argTypes := #[2] }, type := 38, pos := "drift.go:13", after := #[], guard := none }) (by kernel_rfl) rfl (fun K hK => ?_)
    go_simp
    refine (N3.out _).mono ?_; rintro e w4 ⟨b4, rfl, hY, hb4, hn4⟩; have hbk := hb4.mono hB1.size; replace hB1 := hB1.trans hbk; replace hM1 := hM1.below hb4
    refine hK.out _ _ hbk ?_
    clear hK K
    try simp only [Act.put, List.setIfInBounds_toArray, List.set_cons_zero, List.set_cons_succ]
    refine wpAnyF_one (i := 5) (o := { dst := some 19, op := Op.call { callee := Callee.value (Go.Operand.func 20), args := #[Go.Operand.tmp 16, Go.Operand.tmp 17, Go.Operand.tmp 18], argTypes := #[38, 38, 38] }, type := 38, pos := "drift.go:13", after := #[{ on := 2, ground := Ground.data }, { on := 3, ground := Ground.data }, { on := 4, ground := Ground.data }, { on := 4, ground := Ground.chain }], guard := none }) (by kernel_rfl) rfl (fun K hK => ?_)
    go_simp
    refine (D.out _ _ _ hM1 hY).mono ?_; rintro e w5 ⟨rfl, hD, hg5⟩; have hbk := below_of_grownBy hg5 hge hB1.size; replace hB1 := hB1.trans hbk
    refine hK.out _ _ hbk ?_
    clear hK K
    try simp only [Act.put, List.setIfInBounds_toArray, List.set_cons_zero, List.set_cons_succ]
    refine wpAnyF_one (i := 6) (o := { dst := some 20, op := Op.call { callee := Callee.value (Go.Operand.func 21), args := #[Go.Operand.tmp 19], argTypes := #[38] }, type := 2, pos := "drift.go:13", after := #[{ on := 5, ground := Ground.data }, { on := 5, ground := Ground.chain }], guard := none }) (by kernel_rfl) rfl (fun K hK => ?_)
    go_simp
    refine (I.out _ _ hD).mono ?_; rintro e w6 ⟨rfl, hw6⟩; have hbk : Below w1.heap.size w5 w6 := hw6 ▸ Below.refl _ _; replace hB1 := hB1.trans hbk
    refine hK.out _ _ hbk ?_
    clear hK K
    try simp only [Act.put, List.setIfInBounds_toArray, List.set_cons_zero, List.set_cons_succ]
    refine wpAnyF_pure (i := 7) (oi := { dst := some 21, op := Op.binOp Go.BinOp.add 3 (Go.Operand.tmp 15) (Go.Operand.tmp 20) 3, type := 3, pos := "drift.go:13", after := #[{ on := 1, ground := Ground.data }, { on := 6, ground := Ground.data }], guard := none }) (v := ?v12) rfl (by kernel_rfl) (by kernel_rfl) (by kernel_rfl) (fun _ _ _ h => h) (Or.inl ⟨by rfl, ?hy12⟩) ?rs12
    case hy12 => (intro W hW; go_simp; try with_reducible rfl)
    try simp only [Act.put, List.setIfInBounds_toArray, List.set_cons_zero, List.set_cons_succ]
    refine wpAnyF_pure (i := 8) (oi := { dst := some 4, op := Op.assign (Go.Operand.tmp 21), type := 3, pos := "drift.go:13", after := #[{ on := 7, ground := Ground.data }, { on := 6, ground := Ground.chain }, { on := 0, ground := Ground.phase }, { on := 1, ground := Ground.phase }, { on := 2, ground := Ground.phase }, { on := 3, ground := Ground.phase }, { on := 4, ground := Ground.phase }, { on := 5, ground := Ground.phase }, { on := 6, ground := Ground.phase }, { on := 7, ground := Ground.phase }], guard := none }) (v := ?v13) rfl (by kernel_rfl) (by kernel_rfl) (by kernel_rfl) (fun _ _ _ h => h) (Or.inl ⟨by rfl, ?hy13⟩) ?rs13
    case hy13 => (intro W hW; go_simp; try with_reducible rfl)
    try simp only [Act.put, List.setIfInBounds_toArray, List.set_cons_zero, List.set_cons_succ]
    refine wpAnyF_done (by kernel_rfl) ?_
    go_wp2
    go_ret
    exact ⟨ret_int Hs.out.symm, hB.trans (hB1.mono (Nat.le_of_lt hlt))⟩

set_option maxHeartbeats 1600000 in
theorem KWhen_any (r o t : Int) (h : ClockOk r o) (ht : InTime t) (w : World) : Calls Try.prog 14 #[clockV r o, .int .i64 t] w fun e w' => e = .returned (.int .i64 (whenV r o t)) ∧ Below w.heap.size w w' := by
  have hrange := when_range h ht
  obtain ⟨h1, h2, h3, h4⟩ := h
  obtain ⟨h5, h6⟩ := ht
  by_cases hd : t - o ≤ 0
  · rw [whenV, if_pos hd]
    clear hrange
    go_enter Try.func14, Try.ntmps14
    go_wp2
    go_ret
    exact ⟨rfl, (Below.refl _ _).alloc (Nat.le_refl _) _⟩
  · rw [whenV, if_neg hd] at hrange ⊢
    have N1 := Lib.hid (fun (W : World) => NewInt_ex (1000000 + r) ⟨by omega, by omega⟩ W)
    have N2 := Lib.hid (fun (W : World) => NewInt_ex (t - o) ⟨by omega, by omega⟩ W)
    have N3 := Lib.hid (fun (W : World) => NewInt_ex 1000000 ⟨by decide, by decide⟩ W)
    have N4 := Lib.hid (fun (W : World) => NewInt_ex 1 ⟨by decide, by decide⟩ W)
    have M := Lib.hid (fun (W : World) (bz bx bY : Nat) (g1 : IntBox W bz) (g2 : BigAt W bx (t - o)) (g3 : BigAt W bY 1000000) => BigMul_any bz bx bY (t - o) 1000000 W g1 g2 g3 (small64 (by omega)) (small64 (by decide)))
    have A := Lib.hid (fun (W : World) (bz bY : Nat) (g2 : BigAt W bz ((t - o) * 1000000)) (g3 : BigAt W bY (1000000 + r)) => BigAdd_any bz bz bY ((t - o) * 1000000) (1000000 + r) W g2.int g2 g3 (small64 (by omega)) (small64 (by omega)))
    have S := Lib.hid (fun (W : World) (bz bY : Nat) (g2 : BigAt W bz ((t - o) * 1000000 + (1000000 + r))) (g3 : BigAt W bY 1) => BigSub_any bz bz bY ((t - o) * 1000000 + (1000000 + r)) 1 W g2.int g2 g3 (small64 (by omega)) (small64 (by decide)))
    have D := Lib.hid (fun (W : World) (bz bY : Nat) (g2 : BigAt W bz ((t - o) * 1000000 + (1000000 + r) - 1)) (g3 : BigAt W bY (1000000 + r)) => Div_any bz bz bY ((t - o) * 1000000 + (1000000 + r) - 1) (1000000 + r) W g2.int g2 g3 (by omega) (by omega) (by omega))
    have I := Lib.hid (fun (W : World) (bz : Nat) (g2 : BigAt W bz (((t - o) * 1000000 + (1000000 + r) - 1) / (1000000 + r))) => Int64_any bz (((t - o) * 1000000 + (1000000 + r) - 1) / (1000000 + r)) W g2 ⟨by omega, by omega⟩)
    generalize ((t - o) * 1000000 + (1000000 + r) - 1) / (1000000 + r) = Q at *
    have hwr : IntKind.i64.wrap (1000000 + r) = 1000000 + r := IntWalk.i64_in _ (by omega)
    have hw2 : IntKind.i64.wrap (t - o) = t - o := IntWalk.i64_in _ (by omega)
    go_enter Try.func14, Try.ntmps14
    go_wp2_with fail
    refine (N1.out _).mono ?_
    rintro e w1 ⟨b1, rfl, hR, hb1, hn1⟩
    have c1 := (clock_box hb1).cell 1 rfl
    have hB1 := below_new hb1
    have hlt1 : w.heap.size < w1.heap.size := by have := hb1.size; simp at this; omega
    have hlt2 := hR.int.lt
    have hn1' : w.heap.size ≤ b1 := by simp at hn1; omega
    clear hb1 hn1
    go_wp2_with fail
    refine (N2.out _).mono ?_
    rintro e w2 ⟨b2, rfl, hX, hb2, hn2⟩
    have hz2 := (IntBox.new w1).below hb2 (IntBox.new w1).lt
    have hR2 := (hR.alloc _).below hb2
    have hB2 := bthen hB1 (below_new hb2)
    clear hR hb2 c1 hn2
    go_wp2_with fail
    refine (N3.out _).mono ?_
    rintro e w3 ⟨b3, rfl, hY, hb3, hn3⟩
    have hz3 := hz2.below hb3 hz2.lt
    have hR3 := hR2.below hb3
    have hX3 := hX.below hb3
    have hB3 := bthen hB2 hb3
    clear hz2 hR2 hX hb3 hn3
    go_wp2_with fail
    refine (M.out _ _ _ _ hz3 hX3 hY).mono ?_
    rintro e w4 ⟨rfl, hM4, hg4⟩
    have hne : b1 ≠ w1.heap.size := Nat.ne_of_lt hlt2
    have hR4 := hR3.grown hz3 hg4 hne
    have hB4 := hB3.trans (below_of_grownBy hg4 (by omega) hB3.size)
    clear hR3 hX3 hY hz3 hg4
    go_wp2_with fail
    refine (A.out _ _ _ hM4 hR4).mono ?_
    rintro e w5 ⟨rfl, hA5, hg5⟩
    have hR5 := hR4.grown hM4.int hg5 hne
    have hB5 := hB4.trans (below_of_grownBy hg5 (by omega) hB4.size)
    clear hR4 hM4 hg5
    go_wp2_with fail
    refine (N4.out _).mono ?_
    rintro e w6 ⟨b6, rfl, h1', hb6, hn6⟩
    have hA6 := hA5.below hb6
    have hR6 := hR5.below hb6
    have hB6 := bthen hB5 hb6
    clear hA5 hR5 hb6
    go_wp2_with fail
    refine (S.out _ _ _ hA6 h1').mono ?_
    rintro e w7 ⟨rfl, hS7, hg7⟩
    have hR7 := hR6.grown hA6.int hg7 hne
    have hB7 := hB6.trans (below_of_grownBy hg7 (by omega) hB6.size)
    clear hA6 hR6 hg7 h1'
    go_wp2_with fail
    refine (D.out _ _ _ hS7 hR7).mono ?_
    rintro e w8 ⟨rfl, hD8, hg8⟩
    have hB8 := hB7.trans (below_of_grownBy hg8 (by omega) hB7.size)
    go_wp2_with fail
    refine (I.out _ _ hD8).mono ?_
    rintro e w9 ⟨rfl, hw9⟩
    have hB9 : Below w.heap.size w w9 := hw9 ▸ hB8
    go_wp2
    go_ret
    exact ⟨rfl, hB9⟩
end Go.Proofs.Ytidlfbemamoflaa
