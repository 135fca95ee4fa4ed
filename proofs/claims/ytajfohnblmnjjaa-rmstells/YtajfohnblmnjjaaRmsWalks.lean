/-
  Contracts of rms's product and its functions. No statement of the seat is here.
-/
import Derived.Test.YtajfohnblmnjjaaWideWalks2
import Derived.Test.YtajfohnblmnjjaaJ2
import Derived.Test.YtajfohnblmnjjaaJ4
namespace Go.Proofs.Ytajfohnblmnjjaa
open Go.RowKit
set_option linter.unusedVariables false
set_option maxRecDepth 20000

theorem u64_nat {a : Nat} (h : a ≤ 40000) : IntKind.u64.wrap (a : Int) = (a : Int) := w64 (by omega)
theorem Use1_any (x : Nat) (w : World) : Calls Try.prog 26 #[wordV x] w fun e w' => e = .returned (wordV x) ∧ Below w.heap.size w w' := by
  unfold wordV
  go_enter Try.func26, Try.ntmps26
  go_wp2
  go_ret
  exact ⟨rfl, Below.refl _ _⟩
theorem Sure1_any (p c : Nat) (hp : p ≤ 10000) (hc : c ≤ 10000) (w : World) : Calls Try.prog 30 #[.agg #[.int .i64 (p : Int), .int .i64 (c : Int)]] w fun e w' => e = .returned (wordV (c + p)) ∧ Below w.heap.size w w' := by
  unfold wordV
  have hw : IntKind.i64.wrap ((p : Int) + (c : Int)) = ((c + p : Nat) : Int) := by rw [← Int.natCast_add, Nat.add_comm]; exact IntWalk.i64_in _ (by omega)
  have hu := u64_nat (a := c + p) (by omega)
  go_enter Try.func30, Try.ntmps30
  go_wp2
  go_ret
  exact ⟨by first | rfl | (rw [hu]), below_one _⟩
theorem Sure2_any (p c : Nat) (hp : p ≤ 10000) (w : World) : Calls Try.prog 31 #[.agg #[.int .i64 (p : Int), .int .i64 (c : Int)]] w fun e w' => e = .returned (wordV p) ∧ Below w.heap.size w w' := by
  unfold wordV
  have hu := u64_nat (a := p) (by omega)
  go_enter Try.func31, Try.ntmps31
  go_wp2
  go_ret
  exact ⟨by first | rfl | (rw [hu]), below_one _⟩
theorem digs_one : digsW 4 1 = [1, 0, 0, 0] := by simp [digsW]
theorem digs_zero : digsW 4 0 = [0, 0, 0, 0] := by simp [digsW]
theorem wide_out {a r0 r1 r2 r3 : Nat} (h : digsW 4 a = [r0, r1, r2, r3]) : wideV a = .agg #[.int .u64 (r0 : Int), .int .u64 (r1 : Int), .int .u64 (r2 : Int), .int .u64 (r3 : Int)] := by unfold wideV; rw [h]; rfl
/-- Called at each task of M, in whatever later world, the function gives its number. -/
def NumK (g : Nat) (q : Tk → Nat) (M : List Tk) : Prop :=
  ∀ t ∈ M, ∀ W, Calls Try.prog g #[.agg #[.int .i64 (t.p : Int), .int .i64 (t.c : Int)]] W fun e w' => e = .returned (wordV (q t)) ∧ Below W.heap.size W w'
theorem grown4 (w : World) (b : Nat) (v0 v1 v2 v3 : Value) : w.grownBy ((((w.setCell ⟨b, 0, none⟩ v0).setCell ⟨b, 1, none⟩ v1).setCell ⟨b, 2, none⟩ v2).setCell ⟨b, 3, none⟩ v3) (some b) :=
  grownBy_then (grownBy_then (grownBy_setCell w ⟨b, 0, none⟩ v0) (grownBy_setCell _ ⟨b, 1, none⟩ v1)) (grownBy_then (grownBy_setCell _ ⟨b, 2, none⟩ v2) (grownBy_setCell _ ⟨b, 3, none⟩ v3))
theorem TwoW.store4 {w W : World} {A : List Nat} {y0 y1 y2 y3 : Nat} (h : TwoW w W A [y0, y1, y2, y3]) (x0 x1 x2 x3 : Nat) :
    TwoW w ((((W.setCell ⟨w.heap.size + 1, 0, none⟩ (.int .u64 (x0 : Int))).setCell ⟨w.heap.size + 1, 1, none⟩ (.int .u64 (x1 : Int))).setCell ⟨w.heap.size + 1, 2, none⟩ (.int .u64 (x2 : Int))).setCell ⟨w.heap.size + 1, 3, none⟩ (.int .u64 (x3 : Int))) A [x0, x1, x2, x3] := by
  have g := grown4 W (w.heap.size + 1) (.int .u64 (x0 : Int)) (.int .u64 (x1 : Int)) (.int .u64 (x2 : Int)) (.int .u64 (x3 : Int))
  have b := below4 h.bl (w.heap.size + 1) (.int .u64 (x0 : Int)) (.int .u64 (x1 : Int)) (.int .u64 (x2 : Int)) (.int .u64 (x3 : Int))
  have r := h.r.store4 x0 x1 x2 x3
  generalize ((((W.setCell ⟨w.heap.size + 1, 0, none⟩ (.int .u64 (x0 : Int))).setCell ⟨w.heap.size + 1, 1, none⟩ (.int .u64 (x1 : Int))).setCell ⟨w.heap.size + 1, 2, none⟩ (.int .u64 (x2 : Int))).setCell ⟨w.heap.size + 1, 3, none⟩ (.int .u64 (x3 : Int))) = W4 at *
  exact ⟨h.a.grown g (by simp), r, b, Nat.le_trans h.sz g.size⟩
set_option maxHeartbeats 1600000 in
theorem productK_any (g : Nat) (eg : ∀ args w, (callFunc g args).run Try.prog w = .ok (.enter g args) w) (q : Tk → Nat) (A : Option Addr) (n c : Nat) (M : List Tk) (w : World) (h : RdG tkC 2 w A n M) (hg : NumK g q M) (hM : M.length ≤ 16) (hq : ∀ t ∈ M, q t ≤ 20000) :
    Calls Try.prog 29 #[.slice A n c, .func (.func g) #[] #[]] w fun e w' => e = .returned (wideV (pby q M)) ∧ Below w.heap.size w w' := by
  have hl : M.length = n := RdG.len tkK h
  have HT := Lib.hid (twoW w [0, 0, 0, 0] [1, 0, 0, 0])
  have Hg := Lib.hid hg
  have Hq := Lib.hid hq
  clear hg hq
  go_enter Try.func29, Try.ntmps29
  go_upto_region 3 with fail
  go_loopw [11] (fun i wr => ∃ k : Nat, k ≤ n ∧ i = .int .i64 k ∧ TwoW w wr [0, 0, 0, 0] (digsW 4 (pby q (M.take k)))) (fun i _ => n - (intOf i).toNat)
  case atStart => exact ⟨0, Nat.zero_le _, rfl, by rw [List.take_zero, show pby q [] = 1 from rfl, digs_one]; exact HT.out⟩
  case round =>
    obtain ⟨k, hk, rfl, T⟩ := hrel
    clear HT
    obtain ⟨r0, r1, r2, r3, hR⟩ := wide_cells (pby q (M.take k))
    have hsm : pby q (M.take k) ≤ 655360000000000000000000000000000000000000000000000000000000000000000 := pby_small (fun t ht => Hq.out t (List.mem_of_mem_take ht)) (by rw [List.length_take]; omega)
    by_cases hlt : k < n
    · obtain ⟨ad, p, t, rfl, hx, hc0, hc1⟩ := tk_at (h.below T.bl) hlt
      have hmem := List.mem_of_getElem? hx
      have hg1 := Hg.out _ hmem
      have hq1 := Hq.out _ hmem
      have hsn : pby q (M.take (k + 1)) = pby q (M.take k) * q ⟨p, t⟩ := by rw [take_snoc hx, pby_snoc]
      obtain ⟨s0, s1, s2, s3, hS⟩ := wide_cells (pby q (M.take k) * q ⟨p, t⟩)
      have hprod : pby q (M.take k) * q ⟨p, t⟩ ≤ 655360000000000000000000000000000000000000000000000000000000000000000 := by
        rw [← hsn]
        exact pby_small (fun t ht => Hq.out t (List.mem_of_mem_take ht)) (by rw [List.length_take]; omega)
      have CT := fun W => times_any (pby q (M.take k)) (q ⟨p, t⟩) (by omega) (by rw [powW_four]; omega) (by rw [powW_four]; omega) W
      rw [hR] at T
      rw [wide_out hR, wide_out hS] at CT
      have HN : Hid (digsW 4 (pby q (M.take (k + 1))) = [s0, s1, s2, s3]) := by show _ = _; rw [hsn, hS]
      generalize q ⟨p, t⟩ = y at *
      unfold wordV at CT hg1
      have HC := Lib.hid CT
      have HG := Lib.hid hg1
      have hbx := Box.new wr 38 [.int .i64 (p : Int), .int .i64 (t : Int)]
      have hTX := T.later (below_one (w := wr) (.cells #[.int .i64 (p : Int), .int .i64 (t : Int)] 38))
      clear CT hg1 hsn hS hprod hmem hx Hg T hR
      go_upto_region 5 with fail
      generalize wr.alloc (.cells #[.int .i64 (p : Int), .int .i64 (t : Int)] 38) = X at *
      generalize wr.heap.size = b at *
      clear hc0 hc1
      have hB : Below X.heap.size X X.drew := (Below.refl _ _).drew
      have hcl : Hid (∀ W, Below X.heap.size X W → Box W b 38 [.int .i64 (p : Int), .int .i64 (t : Int)] ∧ TwoW w W [0, 0, 0, 0] [r0, r1, r2, r3]) := fun W hW => ⟨hbx.below hW hbx.lt, hTX.later hW⟩
      refine wp_region_F 5 (X.heap.size) (by kernel_rfl) ?_
      refine wpAnyF_take (i := 0) (oi := { dst := some 15, op := Op.load 47 (Go.Operand.tmp 5), type := 47, pos := "rms.go:59", after := #[], guard := none }) (v := ?v1) rfl (by kernel_rfl) (by kernel_rfl) (by kernel_rfl) (by decide) (by kernel_rfl) (fun _ _ _ h => h) (Or.inl ⟨by rfl, ?hy1⟩) ?rs1
      case hy1 => (intro W hW; obtain ⟨c0, c1, c2, c3⟩ := (hcl.out W (hB.trans hW)).2.r.four; unfold wordV at c0 c1 c2 c3; go_simp; try with_reducible rfl)
      try simp only [Act.put, List.setIfInBounds_toArray, List.set_cons_zero, List.set_cons_succ]
      refine wpAnyF_pure (i := 1) (oi := { dst := some 16, op := Op.move (Go.Operand.tmp 1), type := 56, pos := "rms.go:59", after := #[], guard := none }) (v := ?v2) rfl (by kernel_rfl) (by kernel_rfl) (by kernel_rfl) (fun _ _ _ h => h) (Or.inl ⟨by rfl, ?hy2⟩) ?rs2
      case hy2 => (intro W hW; go_simp; try with_reducible rfl)
      try simp only [Act.put, List.setIfInBounds_toArray, List.set_cons_zero, List.set_cons_succ]
      refine wpAnyF_take (i := 2) (oi := { dst := some 17, op := Op.load 38 (Go.Operand.tmp 7), type := 38, pos := "rms.go:59", after := #[], guard := none }) (v := ?v3) rfl (by kernel_rfl) (by kernel_rfl) (by kernel_rfl) (by decide) (by kernel_rfl) (fun _ _ _ h => h) (Or.inl ⟨by rfl, ?hy3⟩) ?rs3
      case hy3 => (intro W hW; have hx := (hcl.out W (hB.trans hW)).1; have q0 := hx.cell 0 rfl; have q1 := hx.cell 1 rfl; go_simp; try with_reducible rfl)
      try simp only [Act.put, List.setIfInBounds_toArray, List.set_cons_zero, List.set_cons_succ]
      refine wpAnyF_one (i := 3) (o := { dst := some 18, op := Op.call { callee := Callee.value (Go.Operand.tmp 16), args := #[Go.Operand.tmp 17], argTypes := #[38] }, type := 45, pos := "rms.go:59", after := #[{ on := 1, ground := Ground.data }, { on := 2, ground := Ground.data }], guard := none }) (by kernel_rfl) rfl (fun K hK => ?_)
      go_simp
      refine (HG.out _).mono ?_; rintro e w7 ⟨rfl, hb7⟩; have hbk := hb7.mono hB.size; replace hB := hB.trans hbk
      refine hK.out _ _ hbk ?_
      clear hK K
      try simp only [Act.put, List.setIfInBounds_toArray, List.set_cons_zero, List.set_cons_succ]
      refine wpAnyF_one (i := 4) (o := { dst := some 19, op := Op.call { callee := Callee.value (Go.Operand.func 33), args := #[Go.Operand.tmp 15, Go.Operand.tmp 18], argTypes := #[47, 45] }, type := 47, pos := "rms.go:59", after := #[{ on := 0, ground := Ground.data }, { on := 3, ground := Ground.data }, { on := 3, ground := Ground.chain }], guard := none }) (by kernel_rfl) rfl (fun K hK => ?_)
      go_simp
      refine (HC.out _).mono ?_; rintro e w8 ⟨rfl, hb8⟩; have hbk := hb8.mono hB.size; replace hB := hB.trans hbk; have T8 := (hcl.out _ hB).2; obtain ⟨g0, g1, g2, g3⟩ := T8.r.four; obtain ⟨f0, f1, f2, f3⟩ := T8.r.frees; unfold wordV at g0 g1 g2 g3
      refine hK.out _ _ hbk ?_
      clear hK K
      try simp only [Act.put, List.setIfInBounds_toArray, List.set_cons_zero, List.set_cons_succ]
      refine wpAnyF_last (i := 5) (o := { dst := none, op := Op.store 47 (Go.Operand.tmp 5) (Go.Operand.tmp 19), type := 0, pos := "rms.go:59", after := #[{ on := 4, ground := Ground.data }, { on := 4, ground := Ground.chain }, { on := 0, ground := Ground.phase }, { on := 1, ground := Ground.phase }, { on := 2, ground := Ground.phase }, { on := 3, ground := Ground.phase }, { on := 4, ground := Ground.phase }], guard := none }) (by kernel_rfl) rfl (by decide) (fun K hK => ?_)
      go_simp
      refine hK.out _ _ ?_
      clear hK K
      try simp only [Act.put, List.setIfInBounds_toArray, List.set_cons_zero, List.set_cons_succ]
      refine wpAnyF_done (by kernel_rfl) ?_
      have T9 := T8.store4 s0 s1 s2 s3
      rw [← HN.out] at T9
      clear T8 g0 g1 g2 g3 f0 f1 f2 f3 hcl hTX hbx HC HG
      go_wp2
      go_roundw
      case rel => exact ⟨k + 1, by omega, by go_num, T9⟩
      case measure => simp [intOf] <;> omega
    · have hkn : k = n := by omega
      subst hkn
      rw [List.take_of_length_le (by omega)] at hR T
      rw [hR] at T
      have HW := Lib.hid (wide_out hR)
      obtain ⟨c0, c1, c2, c3⟩ := T.r.four
      obtain ⟨f0, f1, f2, f3⟩ := T.a.frees
      obtain ⟨g0, g1, g2, g3⟩ := T.a.four
      have hR4 := WBox.store4 T.a r0 r1 r2 r3
      have hB4 := below4 T.bl w.heap.size (.int .u64 (r0 : Int)) (.int .u64 (r1 : Int)) (.int .u64 (r2 : Int)) (.int .u64 (r3 : Int)) (Nat.le_refl _)
      unfold wordV at c0 c1 c2 c3 g0 g1 g2 g3
      clear T hR
      go_wp2
      generalize ((((wr.setCell ⟨w.heap.size, 0, none⟩ (.int .u64 (r0 : Int))).setCell ⟨w.heap.size, 1, none⟩ (.int .u64 (r1 : Int))).setCell ⟨w.heap.size, 2, none⟩ (.int .u64 (r2 : Int))).setCell ⟨w.heap.size, 3, none⟩ (.int .u64 (r3 : Int))) = W4 at *
      obtain ⟨q0, q1, q2, q3⟩ := hR4.four
      unfold wordV at q0 q1 q2 q3
      exact bodyPost_ret (v := .agg #[.int .u64 (r0 : Int), .int .u64 (r1 : Int), .int .u64 (r2 : Int), .int .u64 (r3 : Int)]) (by simp [results, Try.results29, go_sem, q0, q1, q2, q3]) rfl ⟨by rw [HW.out], hB4⟩
set_option maxHeartbeats 1600000 in
theorem productN_any (A : Option Addr) (n c : Nat) (F : List Nat) (w : World) (h : Rd w 1 A n (F.map wordV)) (hM : F.length ≤ 16) (hq : ∀ t ∈ F, t ≤ 20000) :
    Calls Try.prog 25 #[.slice A n c, .func (.func 26) #[] #[]] w fun e w' => e = .returned (wideV (pby id F)) ∧ Below w.heap.size w w' := by
  have hl : F.length = n := by have := h.1; simpa using this
  have HT := Lib.hid (twoW w [0, 0, 0, 0] [1, 0, 0, 0])
  have Hq := Lib.hid hq
  clear hq
  go_enter Try.func25, Try.ntmps25
  go_upto_region 3 with fail
  go_loopw [11] (fun i wr => ∃ k : Nat, k ≤ n ∧ i = .int .i64 k ∧ TwoW w wr [0, 0, 0, 0] (digsW 4 (pby id (F.take k)))) (fun i _ => n - (intOf i).toNat)
  case atStart => exact ⟨0, Nat.zero_le _, rfl, by rw [List.take_zero, show pby id ([] : List Nat) = 1 from rfl, digs_one]; exact HT.out⟩
  case round =>
    obtain ⟨k, hk, rfl, T⟩ := hrel
    clear HT
    obtain ⟨r0, r1, r2, r3, hR⟩ := wide_cells (pby id (F.take k))
    have hsm : pby id (F.take k) ≤ 655360000000000000000000000000000000000000000000000000000000000000000 := pby_small (fun t ht => Hq.out t (List.mem_of_mem_take ht)) (by rw [List.length_take]; omega)
    by_cases hlt : k < n
    · obtain ⟨ad, y, rfl, hx, hc0⟩ := (h.below T.bl).atMap hlt
      have hmem := List.mem_of_getElem? hx
      have hg1 := fun W => Use1_any y W
      have hq1 := Hq.out _ hmem
      have hsn : pby id (F.take (k + 1)) = pby id (F.take k) * y := by rw [take_snoc hx, pby_snoc]; rfl
      obtain ⟨s0, s1, s2, s3, hS⟩ := wide_cells (pby id (F.take k) * y)
      have hprod : pby id (F.take k) * y ≤ 655360000000000000000000000000000000000000000000000000000000000000000 := by
        rw [← hsn]
        exact pby_small (fun t ht => Hq.out t (List.mem_of_mem_take ht)) (by rw [List.length_take]; omega)
      have CT := fun W => times_any (pby id (F.take k)) y (by omega) (by rw [powW_four]; omega) (by rw [powW_four]; omega) W
      rw [hR] at T
      rw [wide_out hR, wide_out hS] at CT
      have HN : Hid (digsW 4 (pby id (F.take (k + 1))) = [s0, s1, s2, s3]) := by show _ = _; rw [hsn, hS]
      unfold wordV at CT hg1 hc0
      have HC := Lib.hid CT
      have HG := Lib.hid hg1
      have hTX := T.later (Below.refl wr.heap.size wr)
      clear CT hg1 hsn hS hprod hmem hx T hR
      go_upto_region 5 with fail
      have hB : Below wr.heap.size wr wr.drew := (Below.refl _ _).drew
      have hcl : Hid (∀ W, Below wr.heap.size wr W → TwoW w W [0, 0, 0, 0] [r0, r1, r2, r3]) := fun W hW => hTX.later hW
      refine wp_region_F 5 (wr.heap.size) (by kernel_rfl) ?_
      refine wpAnyF_take (i := 0) (oi := { dst := some 15, op := Op.load 47 (Go.Operand.tmp 5), type := 47, pos := "rms.go:59", after := #[], guard := none }) (v := ?v4) rfl (by kernel_rfl) (by kernel_rfl) (by kernel_rfl) (by decide) (by kernel_rfl) (fun _ _ _ h => h) (Or.inl ⟨by rfl, ?hy4⟩) ?rs4
      case hy4 => (intro W hW; obtain ⟨c0, c1, c2, c3⟩ := (hcl.out W (hB.trans hW)).r.four; unfold wordV at c0 c1 c2 c3; go_simp; try with_reducible rfl)
      try simp only [Act.put, List.setIfInBounds_toArray, List.set_cons_zero, List.set_cons_succ]
      refine wpAnyF_pure (i := 1) (oi := { dst := some 16, op := Op.move (Go.Operand.tmp 1), type := 53, pos := "rms.go:59", after := #[], guard := none }) (v := ?v5) rfl (by kernel_rfl) (by kernel_rfl) (by kernel_rfl) (fun _ _ _ h => h) (Or.inl ⟨by rfl, ?hy5⟩) ?rs5
      case hy5 => (intro W hW; go_simp; try with_reducible rfl)
      try simp only [Act.put, List.setIfInBounds_toArray, List.set_cons_zero, List.set_cons_succ]
      refine wpAnyF_pure (i := 2) (oi := { dst := some 17, op := Op.move (Go.Operand.tmp 7), type := 45, pos := "rms.go:59", after := #[], guard := none }) (v := ?v6) rfl (by kernel_rfl) (by kernel_rfl) (by kernel_rfl) (fun _ _ _ h => h) (Or.inl ⟨by rfl, ?hy6⟩) ?rs6
      case hy6 => (intro W hW; go_simp; try with_reducible rfl)
      try simp only [Act.put, List.setIfInBounds_toArray, List.set_cons_zero, List.set_cons_succ]
      refine wpAnyF_one (i := 3) (o := { dst := some 18, op := Op.call { callee := Callee.value (Go.Operand.tmp 16), args := #[Go.Operand.tmp 17], argTypes := #[45] }, type := 45, pos := "rms.go:59", after := #[{ on := 1, ground := Ground.data }, { on := 2, ground := Ground.data }], guard := none }) (by kernel_rfl) rfl (fun K hK => ?_)
      go_simp
      refine (HG.out _).mono ?_; rintro e w7 ⟨rfl, hb7⟩; have hbk := hb7.mono hB.size; replace hB := hB.trans hbk
      refine hK.out _ _ hbk ?_
      clear hK K
      try simp only [Act.put, List.setIfInBounds_toArray, List.set_cons_zero, List.set_cons_succ]
      refine wpAnyF_one (i := 4) (o := { dst := some 19, op := Op.call { callee := Callee.value (Go.Operand.func 33), args := #[Go.Operand.tmp 15, Go.Operand.tmp 18], argTypes := #[47, 45] }, type := 47, pos := "rms.go:59", after := #[{ on := 0, ground := Ground.data }, { on := 3, ground := Ground.data }, { on := 3, ground := Ground.chain }], guard := none }) (by kernel_rfl) rfl (fun K hK => ?_)
      go_simp
      refine (HC.out _).mono ?_; rintro e w8 ⟨rfl, hb8⟩; have hbk := hb8.mono hB.size; replace hB := hB.trans hbk; have T8 := hcl.out _ hB; obtain ⟨g0, g1, g2, g3⟩ := T8.r.four; obtain ⟨f0, f1, f2, f3⟩ := T8.r.frees; unfold wordV at g0 g1 g2 g3
      refine hK.out _ _ hbk ?_
      clear hK K
      try simp only [Act.put, List.setIfInBounds_toArray, List.set_cons_zero, List.set_cons_succ]
      refine wpAnyF_last (i := 5) (o := { dst := none, op := Op.store 47 (Go.Operand.tmp 5) (Go.Operand.tmp 19), type := 0, pos := "rms.go:59", after := #[{ on := 4, ground := Ground.data }, { on := 4, ground := Ground.chain }, { on := 0, ground := Ground.phase }, { on := 1, ground := Ground.phase }, { on := 2, ground := Ground.phase }, { on := 3, ground := Ground.phase }, { on := 4, ground := Ground.phase }], guard := none }) (by kernel_rfl) rfl (by decide) (fun K hK => ?_)
      go_simp
      refine hK.out _ _ ?_
      clear hK K
      try simp only [Act.put, List.setIfInBounds_toArray, List.set_cons_zero, List.set_cons_succ]
      refine wpAnyF_done (by kernel_rfl) ?_
      have T9 := T8.store4 s0 s1 s2 s3
      rw [← HN.out] at T9
      clear T8 g0 g1 g2 g3 f0 f1 f2 f3 hcl hTX HC HG
      go_wp2
      go_roundw
      case rel => exact ⟨k + 1, by omega, by go_num, T9⟩
      case measure => simp [intOf] <;> omega
    · have hkn : k = n := by omega
      subst hkn
      rw [List.take_of_length_le (by omega)] at hR T
      rw [hR] at T
      have HW := Lib.hid (wide_out hR)
      obtain ⟨c0, c1, c2, c3⟩ := T.r.four
      obtain ⟨f0, f1, f2, f3⟩ := T.a.frees
      obtain ⟨g0, g1, g2, g3⟩ := T.a.four
      have hR4 := WBox.store4 T.a r0 r1 r2 r3
      have hB4 := below4 T.bl w.heap.size (.int .u64 (r0 : Int)) (.int .u64 (r1 : Int)) (.int .u64 (r2 : Int)) (.int .u64 (r3 : Int)) (Nat.le_refl _)
      unfold wordV at c0 c1 c2 c3 g0 g1 g2 g3
      clear T hR
      go_wp2
      generalize ((((wr.setCell ⟨w.heap.size, 0, none⟩ (.int .u64 (r0 : Int))).setCell ⟨w.heap.size, 1, none⟩ (.int .u64 (r1 : Int))).setCell ⟨w.heap.size, 2, none⟩ (.int .u64 (r2 : Int))).setCell ⟨w.heap.size, 3, none⟩ (.int .u64 (r3 : Int))) = W4 at *
      obtain ⟨q0, q1, q2, q3⟩ := hR4.four
      unfold wordV at q0 q1 q2 q3
      exact bodyPost_ret (v := .agg #[.int .u64 (r0 : Int), .int .u64 (r1 : Int), .int .u64 (r2 : Int), .int .u64 (r3 : Int)]) (by simp [results, Try.results25, go_sem, q0, q1, q2, q3]) rfl ⟨by rw [HW.out], hB4⟩
end Go.Proofs.Ytajfohnblmnjjaa
