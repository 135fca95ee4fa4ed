/-
  The law EvqLost.
-/
import Derived.Test.YtlanmehbcpgoaaaEvqConcat
namespace Go.Proofs.Ytlanmehbcpgoaaa
open Go.RowKit
set_option linter.unusedVariables false

theorem lost_facts (l : List EvO) {p : Nat} (h : p ≤ l.length) : evRun (l.take p ++ ⟨2, 3⟩ :: l.drop p) = evRun l ∧ (evErrs (l.take p ++ ⟨2, 3⟩ :: l.drop p)).length = l.length + 1 ∧
    (evErrs (l.take p ++ ⟨2, 3⟩ :: l.drop p))[p]? = some 0 ∧ (evErrs (l.take p ++ ⟨2, 3⟩ :: l.drop p)).take p ++ (evErrs (l.take p ++ ⟨2, 3⟩ :: l.drop p)).drop (p + 1) = evErrs l := by
  obtain ⟨h1, h2, h3⟩ := lost_insert (l.take p) (l.drop p)
  rw [List.take_append_drop] at h1 h3
  have hl : (evErrs (l.take p)).length = p := by rw [evErrs_length, List.length_take]; omega
  refine ⟨h1, by rw [evErrs_length, List.length_append, List.length_cons, List.length_take, List.length_drop]; omega, ?_, ?_⟩
  · rw [h2, List.getElem?_append_right (by omega), hl, Nat.sub_self]; rfl
  · rw [h2, h3, List.take_left' hl, List.drop_append, hl, List.drop_eq_nil_of_le (by omega), List.nil_append]
    simp
theorem parts_err {w : World} {A : Option Addr} {n c k : Nat} {l : List Int} (h : Rd w 1 A n (l.map (Value.int .i64))) (hk : k < n) (hc : n ≤ c) :
    (∀ W, (Instr.slice 23 (.slice A n c) none (some (.int .i64 (k : Int))) none).run Try.prog W = .ok (.slice A k c) W) ∧ Rd w 1 A k ((l.take k).map (Value.int .i64)) ∧
    ∃ B, (∀ W, (Instr.slice 23 (.slice A n c) (some (.int .i64 ((k : Int) + 1))) none none).run Try.prog W = .ok (.slice B (n - (k + 1)) (c - (k + 1))) W) ∧ Rd w 1 B (n - (k + 1)) ((l.drop (k + 1)).map (Value.int .i64)) := by
  refine ⟨fun W => run_to elErr W A n c k (by omega), ?_, _, fun W => run_from elErr W A n c (k + 1) (by omega), ?_⟩
  · have := h.take (k := k) (by omega)
    rwa [Nat.mul_one, ← List.map_take] at this
  · have := h.cut (k := k + 1) (cap := c) (by omega) hc
    simp only [Nat.mul_one] at this ⊢
    rwa [← List.map_drop] at this
set_option maxHeartbeats 1600000 in
theorem EvqLost_walk (A0 : Option Addr) (n0 c0 : Nat) (l0 : List EvO) (a1 : Int) (w : World) (h0 : RdG opC 2 w A0 n0 l0) (q0 : ∀ s ∈ l0, in64 s.kd ∧ in64 s.n) (k0 : n0 ≤ c0) (b0 : c0 * 16 ≤ 140737488351232) (w1 : (Lit.int .i64 a1).wf = true) :
    Calls Try.prog 6 #[.slice A0 n0 c0, .int .i64 a1] w fun e w' => e = .returned (.bool true) ∧ Below w.heap.size w w' := by
  have hl0 := RdG.len opK h0
  have C0 := Lib.hid (alive18_any w)
  by_cases hneg : a1 < 0
  · clear q0
    go_enter Try.func6, Try.ntmps6
    go_wp2_with fail
    refine C0.out.mono ?_
    rintro e w1 ⟨rfl, hb1⟩
    go_wp2
    go_ret
    exact ⟨rfl, hb1⟩
  by_cases hbig : (n0 : Int) < a1
  · clear q0
    go_enter Try.func6, Try.ntmps6
    go_wp2_with fail
    refine C0.out.mono ?_
    rintro e w1 ⟨rfl, hb1⟩
    go_wp2
    go_ret
    exact ⟨rfl, hb1⟩
  obtain ⟨p, rfl⟩ := Int.eq_ofNat_of_zero_le (show 0 ≤ a1 by omega)
  have hp : p ≤ n0 := by omega
  have hp' : ¬ (n0 : Int) < (p : Int) := by omega
  have C1 := Lib.hid (fun (W : World) (hW : RdG opC 2 W A0 n0 l0) => Play_any A0 n0 c0 l0 W hW (by omega))
  have CC := Lib.hid (fun (W : World) (hW : RdG opC 2 W A0 n0 l0) => CloneOp_any A0 n0 c0 l0 W hW (by omega))
  have CI := Lib.hid (fun (W : World) (v : Value) (b B : Nat) (ho : OwG opC 2 W B 36 v l0) (hB : B ≤ W.heap.size) (hxb : Box W b 36 (opC ⟨2, 3⟩)) (hbv : ∀ k, v.ownBlock = some k → b ≠ k) => InsertOp_any v l0 ⟨2, 3⟩ p b B W ho hB (by omega) hxb hbv (by omega))
  obtain ⟨f1, f2, f3, f4⟩ := lost_facts l0 (p := p) (by omega)
  have hll : (l0.take p ++ ⟨2, 3⟩ :: l0.drop p).length = n0 + 1 := by rw [List.length_append, List.length_cons, List.length_take, List.length_drop]; omega
  have C2 := Lib.hid (fun (W : World) (A : Option Addr) (c : Nat) (hW : RdG opC 2 W A (n0 + 1) (l0.take p ++ ⟨2, 3⟩ :: l0.drop p)) => Play_any A (n0 + 1) c _ W hW (by omega))
  have hel : (evErrs l0).length = n0 := by rw [evErrs_length, hl0]
  have hsm := taken_small l0
  rw [hl0] at f2 hsm
  unfold GivesPlay at C1 C2
  rw [f1] at C2
  unfold GivesOps at CI
  generalize l0.take p ++ ⟨2, 3⟩ :: l0.drop p = l1 at *
  generalize evErrs l1 = E' at *
  generalize evErrs l0 = E at *
  generalize evTaken (evRun l0) = T at *
  generalize ((evRun l0).cm : Int) - ((evRun l0).tk : Int) = U at *
  generalize ((evRun l0).al.length : Int) - ((evRun l0).kn : Int) = D at *
  obtain ⟨k, hk⟩ : ∃ k, T.length = k := ⟨_, rfl⟩
  rw [hk] at hsm
  have F3 := Lib.hid f3
  have F4 := Lib.hid f4
  have Hel := Lib.hid hel
  have Hl0 := Lib.hid hl0
  clear q0 hl0 f1 f3 f4 hneg hbig hel
  go_enter Try.func6, Try.ntmps6
  go_wp2_with fail
  refine C0.out.mono ?_
  rintro e w1 ⟨rfl, hb1⟩
  have h1 := h0.below hb1
  clear C0 h0
  go_wp2_with fail
  refine (C1.out _ h1).mono ?_
  rintro e w2 ⟨u2, v2, rfl, he2, ht2, hb2⟩
  have hB := bthen hb1 hb2
  have X2 := Lib.hid (Box.new w2 25 [.int .i64 D, .int .i64 U])
  have R2 := Lib.hid (he2.alloc (.cells #[.int .i64 D, .int .i64 U] 25))
  have S2 := Lib.hid (ht2.alloc (.cells #[.int .i64 D, .int .i64 U] 25))
  have H2 := Lib.hid ((h1.below hb2).alloc (.cells #[.int .i64 D, .int .i64 U] 25))
  have HB := Lib.hid (hB.alloc hB.size (.cells #[.int .i64 D, .int .i64 U] 25))
  clear C1 hb1 hb2 he2 ht2 hB h1
  go_upto_region 6 with fail
  change Hid (Box (w2.alloc (.cells #[.int .i64 D, .int .i64 U] 25)) _ _ _) at X2
  generalize w2.alloc (.cells #[.int .i64 D, .int .i64 U] 25) = w3 at *
  go_wp2_with fail
  refine (CC.out _ H2.out).mono ?_
  rintro e w4 ⟨v4, rfl, ho4, hb4⟩
  obtain ⟨A4, c4, rfl, -, -, -⟩ := ho4.formN Hl0.out
  have C5 := Lib.hid (CI.out (w4.alloc (.cells #[.int .i64 2, .int .i64 3] 36)) (.slice A4 n0 c4) w4.heap.size w3.heap.size (ho4.alloc _) (by have := hb4.size; simp; omega) (Box.new w4 36 [.int .i64 2, .int .i64 3]) (fun k hk e => by have := ho4.inHeap k hk; omega))
  have hb4' := Lib.hid (hb4.alloc hb4.size (.cells #[.int .i64 2, .int .i64 3] 36))
  clear CI CC ho4 hb4
  go_wp2_with fail
  refine C5.out.mono ?_
  rintro e w5 ⟨v5, rfl, ho5, hb5⟩
  have hb5' := Lib.hid (hb4'.out.trans hb5)
  obtain ⟨A5, c5, rfl, -, -, r5⟩ := ho5.formN hll
  clear C5 hb4' ho5 hb5
  go_wp2_with fail
  refine (C2.out _ _ _ r5).mono ?_
  rintro e w6 ⟨u6, v6, rfl, he6, ht6, hb6⟩
  have hb36 := bthen hb5'.out hb6
  have hB6 := bthen HB.out hb36
  obtain ⟨A2, c2, rfl, hc2, -, r2⟩ := (R2.out.below hb36).formN Hel.out
  obtain ⟨B2, d2, rfl, hd2, -, s2⟩ := (S2.out.below hb36).formN hk
  obtain ⟨A6, c6, rfl, hc6, -, r6⟩ := he6.formN f2
  obtain ⟨B6, d6, rfl, hd6, -, s6⟩ := ht6.formN hk
  have x6 := X2.out.below hb36 X2.out.lt
  obtain ⟨ad6, y, rfl, hy, m6⟩ := r6.atMap (show p < n0 + 1 by omega)
  obtain rfl : y = 0 := by rw [F3.out] at hy; injection hy with hy; exact hy.symm
  obtain ⟨t1, t2, B', t3, t4⟩ := parts_err r6 (show p < n0 + 1 by omega) hc6
  rw [show n0 + 1 - (p + 1) = n0 - p by omega] at t3 t4
  have AC : ∀ o : Obj, w6.heap.size ≤ (w6.alloc o).heap.size := fun o => by simp
  have X6 := Lib.hid (x6.alloc (.cells #[.int .i64 D, .int .i64 U] 25))
  have X7 := Lib.hid (Box.new w6 25 [.int .i64 D, .int .i64 U])
  have R2' := Lib.hid (r2.alloc (.cells #[.int .i64 D, .int .i64 U] 25))
  have S2' := Lib.hid (s2.alloc (.cells #[.int .i64 D, .int .i64 U] 25))
  have S6' := Lib.hid (s6.alloc (.cells #[.int .i64 D, .int .i64 U] 25))
  have T2' := Lib.hid (t2.alloc (.cells #[.int .i64 D, .int .i64 U] 25))
  have T4' := Lib.hid (t4.alloc (.cells #[.int .i64 D, .int .i64 U] 25))
  have M6 : Hid ((w6.alloc (.cells #[.int .i64 D, .int .i64 U] 25)).cell? (ad6.add p) = some (.int .i64 0)) := (((Below.refl _ _).alloc (Nat.le_refl _) _).cell (World.block_lt_of_cell? _ _ m6)).trans m6
  have HB6 := Lib.hid (hB6.alloc hB6.size (.cells #[.int .i64 D, .int .i64 U] 25))
  have hq := fun (W : World) => eq_pair D U D U W
  have hw1 : IntKind.i64.wrap ((n0 : Int) + 1) = (n0 : Int) + 1 := by rw [IntKind.wrap_i64]; omega
  have hw2 : IntKind.i64.wrap ((p : Int) + 1) = (p : Int) + 1 := by rw [IntKind.wrap_i64]; omega
  have hpn : p < n0 + 1 := by omega
  have hpi : (p : Int) < (n0 : Int) + 1 := by omega
  clear C2 R2 S2 H2 HB X2 hb36 hb6 hB6 he6 ht6 r2 s2 r6 s6 x6 t2 t4 m6 hy AC r5 hb5' F3
  go_upto_region 7 with fail
  change Hid (Box (w6.alloc (.cells #[.int .i64 D, .int .i64 U] 25)) _ _ _) at X7
  generalize w6.alloc (.cells #[.int .i64 D, .int .i64 U] 25) = X at *
  have CCc := Lib.hid (ConcatE_any (some ⟨X.heap.size, 0, none⟩) 2 2 [(some ad6, p, c6, E'.take p), (B', n0 - p, c6 - (p + 1), E'.drop (p + 1))])
  have CE := Lib.hid (fun (W : World) (A : Option Addr) (c : Nat) (g : Rd W 1 A n0 (E.map (Value.int .i64))) (g' : Rd W 1 A2 n0 (E.map (Value.int .i64))) => EqualE_any_same A A2 n0 c n0 c2 E W g g' (by omega))
  have CJ := Lib.hid (fun (W : World) (g : Rd W 1 B2 k (T.map (Value.int .i64))) (g' : Rd W 1 B6 k (T.map (Value.int .i64))) => EqualI_any_same B2 B6 k d2 k d6 T W g g' (by omega))
  have FM : Hid (∀ W, Below X.heap.size X W → W.cell? (ad6.add p) = some (.int .i64 0)) := fun W hW => (hW.cell (World.block_lt_of_cell? _ _ M6.out)).trans M6.out
  have FX : Hid (∀ W, Below X.heap.size X W → (W.cell? ⟨w2.heap.size, 0, none⟩ = some (.int .i64 D) ∧ W.cell? ⟨w2.heap.size, 1, none⟩ = some (.int .i64 U)) ∧ W.cell? ⟨w6.heap.size, 0, none⟩ = some (.int .i64 D) ∧ W.cell? ⟨w6.heap.size, 1, none⟩ = some (.int .i64 U)) := fun W hW => by
    have g1 := X6.out.below hW X6.out.lt
    have g2 := X7.out.below hW X7.out.lt
    exact ⟨⟨g1.cell 0 rfl, g1.cell 1 rfl⟩, g2.cell 0 rfl, g2.cell 1 rfl⟩
  have hB : Below X.heap.size X X.drew := (Below.refl _ _).drew
  refine wp_region_B (by kernel_rfl) ?_
  refine wpAnyB_take (i := 0) (oi := { dst := some 38, op := Op.move (Go.Operand.tmp 8), type := 23, pos := "evq.go:59", after := #[], guard := none }) (v := ?v1) rfl (by kernel_rfl) (by kernel_rfl) (by kernel_rfl) (fun _ _ _ h => h) (Or.inl ⟨by rfl, ?hy1⟩) ?rs1
  case hy1 => (intro W hW; go_simp; try with_reducible rfl)
  try simp only [Act.put, List.setIfInBounds_toArray, List.set_cons_zero, List.set_cons_succ]
  refine wpAnyB_take (i := 1) (oi := { dst := some 39, op := Op.call { callee := Callee.builtin Builtin.len, args := #[Go.Operand.tmp 38], argTypes := #[23] }, type := 3, pos := "evq.go:59", after := #[{ on := 0, ground := Ground.data }], guard := none }) (v := ?v2) rfl (by kernel_rfl) (by kernel_rfl) (by kernel_rfl) (fun _ _ _ h => h) (Or.inl ⟨by rfl, ?hy2⟩) ?rs2
  case hy2 => (intro W hW; go_simp; try with_reducible rfl)
  try simp only [Act.put, List.setIfInBounds_toArray, List.set_cons_zero, List.set_cons_succ]
  refine wpAnyB_take (i := 2) (oi := { dst := some 40, op := Op.move (Go.Operand.tmp 5), type := 23, pos := "evq.go:59", after := #[], guard := none }) (v := ?v3) rfl (by kernel_rfl) (by kernel_rfl) (by kernel_rfl) (fun _ _ _ h => h) (Or.inl ⟨by rfl, ?hy3⟩) ?rs3
  case hy3 => (intro W hW; go_simp; try with_reducible rfl)
  try simp only [Act.put, List.setIfInBounds_toArray, List.set_cons_zero, List.set_cons_succ]
  refine wpAnyB_take (i := 3) (oi := { dst := some 41, op := Op.call { callee := Callee.builtin Builtin.len, args := #[Go.Operand.tmp 40], argTypes := #[23] }, type := 3, pos := "evq.go:59", after := #[{ on := 2, ground := Ground.data }], guard := none }) (v := ?v4) rfl (by kernel_rfl) (by kernel_rfl) (by kernel_rfl) (fun _ _ _ h => h) (Or.inl ⟨by rfl, ?hy4⟩) ?rs4
  case hy4 => (intro W hW; go_simp; try with_reducible rfl)
  try simp only [Act.put, List.setIfInBounds_toArray, List.set_cons_zero, List.set_cons_succ]
  refine wpAnyB_take (i := 4) (oi := { dst := some 42, op := Op.binOp Go.BinOp.add 3 (Go.Operand.tmp 41) (Go.Operand.const (Go.Value.int Go.IntKind.i64 1)) 3, type := 3, pos := "evq.go:59", after := #[{ on := 3, ground := Ground.data }], guard := none }) (v := ?v5) rfl (by kernel_rfl) (by kernel_rfl) (by kernel_rfl) (fun _ _ _ h => h) (Or.inl ⟨by rfl, ?hy5⟩) ?rs5
  case hy5 => (intro W hW; go_simp; try with_reducible rfl)
  try simp only [Act.put, List.setIfInBounds_toArray, List.set_cons_zero, List.set_cons_succ]
  refine wpAnyB_take (i := 5) (oi := { dst := some 43, op := Op.binOp Go.BinOp.eql 3 (Go.Operand.tmp 39) (Go.Operand.tmp 42) 3, type := 4, pos := "evq.go:59", after := #[{ on := 1, ground := Ground.data }, { on := 4, ground := Ground.data }], guard := none }) (v := ?v6) rfl (by kernel_rfl) (by kernel_rfl) (by kernel_rfl) (fun _ _ _ h => h) (Or.inl ⟨by rfl, ?hy6⟩) ?rs6
  case hy6 => (intro W hW; go_simp; try with_reducible rfl)
  try simp only [Act.put, List.setIfInBounds_toArray, List.set_cons_zero, List.set_cons_succ]
  refine wpAnyB_take (i := 6) (oi := { dst := some 44, op := Op.move (Go.Operand.tmp 43), type := 4, pos := "evq.go:59", after := #[{ on := 5, ground := Ground.data }], guard := none }) (v := ?v7) rfl (by kernel_rfl) (by kernel_rfl) (by kernel_rfl) (fun _ _ _ h => h) (Or.inl ⟨by rfl, ?hy7⟩) ?rs7
  case hy7 => (intro W hW; go_simp; try with_reducible rfl)
  try simp only [Act.put, List.setIfInBounds_toArray, List.set_cons_zero, List.set_cons_succ]
  refine wpAnyB_take (i := 7) (oi := { dst := some 45, op := Op.move (Go.Operand.tmp 8), type := 23, pos := "evq.go:59", after := #[{ on := 6, ground := Ground.guard }], guard := some (6, true) }) (v := ?v8) rfl (by kernel_rfl) (by kernel_rfl) (by kernel_rfl) (fun _ _ _ h => h) (Or.inl ⟨by rfl, ?hy8⟩) ?rs8
  case hy8 => (intro W hW; go_simp; try with_reducible rfl)
  try simp only [Act.put, List.setIfInBounds_toArray, List.set_cons_zero, List.set_cons_succ]
  refine wpAnyB_take (i := 8) (oi := { dst := some 46, op := Op.move (Go.Operand.tmp 1), type := 3, pos := "evq.go:59", after := #[{ on := 6, ground := Ground.guard }], guard := some (6, true) }) (v := ?v9) rfl (by kernel_rfl) (by kernel_rfl) (by kernel_rfl) (fun _ _ _ h => h) (Or.inl ⟨by rfl, ?hy9⟩) ?rs9
  case hy9 => (intro W hW; go_simp; try with_reducible rfl)
  try simp only [Act.put, List.setIfInBounds_toArray, List.set_cons_zero, List.set_cons_succ]
  refine wpAnyB_take (i := 9) (oi := { dst := some 47, op := Op.indexAddr 23 (Go.Operand.tmp 45) (Go.Operand.tmp 46), type := 0, pos := "evq.go:59", after := #[{ on := 7, ground := Ground.data }, { on := 8, ground := Ground.data }, { on := 6, ground := Ground.guard }], guard := some (6, true) }) (v := ?v10) rfl (by kernel_rfl) (by kernel_rfl) (by kernel_rfl) (fun _ _ _ h => h) (Or.inl ⟨by rfl, ?hy10⟩) ?rs10
  case hy10 => (intro W hW; go_simp; try with_reducible rfl)
  try simp only [Act.put, List.setIfInBounds_toArray, List.set_cons_zero, List.set_cons_succ]
  refine wpAnyB_take (i := 10) (oi := { dst := some 48, op := Op.load 29 (Go.Operand.tmp 47), type := 29, pos := "evq.go:59", after := #[{ on := 9, ground := Ground.data }, { on := 6, ground := Ground.guard }], guard := some (6, true) }) (v := ?v11) rfl (by kernel_rfl) (by kernel_rfl) (by kernel_rfl) (fun _ _ _ h => h) (Or.inl ⟨by rfl, ?hy11⟩) ?rs11
  case hy11 => (intro W hW; have g1 := FM.out W (bthen hB hW); go_simp; try with_reducible rfl)
  try simp only [Act.put, List.setIfInBounds_toArray, List.set_cons_zero, List.set_cons_succ]
  refine wpAnyB_take (i := 11) (oi := { dst := some 49, op := Op.binOp Go.BinOp.eql 29 (Go.Operand.tmp 48) (Go.Operand.const (Go.Value.int Go.IntKind.i64 0)) 29, type := 4, pos := "evq.go:59", after := #[{ on := 10, ground := Ground.data }, { on := 6, ground := Ground.guard }], guard := some (6, true) }) (v := ?v12) rfl (by kernel_rfl) (by kernel_rfl) (by kernel_rfl) (fun _ _ _ h => h) (Or.inl ⟨by rfl, ?hy12⟩) ?rs12
  case hy12 => (intro W hW; go_simp; try with_reducible rfl)
  try simp only [Act.put, List.setIfInBounds_toArray, List.set_cons_zero, List.set_cons_succ]
  refine wpAnyB_take (i := 12) (oi := { dst := some 50, op := Op.pick (Go.Operand.tmp 44) (Go.Operand.tmp 49) (Go.Operand.const (Go.Value.bool false)), type := 4, pos := "evq.go:59", after := #[{ on := 6, ground := Ground.data }, { on := 11, ground := Ground.data }], guard := none }) (v := ?v13) rfl (by kernel_rfl) (by kernel_rfl) (by kernel_rfl) (fun _ _ _ h => h) (Or.inl ⟨by rfl, ?hy13⟩) ?rs13
  case hy13 => (intro W hW; go_simp; try with_reducible rfl)
  try simp only [Act.put, List.setIfInBounds_toArray, List.set_cons_zero, List.set_cons_succ]
  refine wpAnyB_take (i := 13) (oi := { dst := some 51, op := Op.move (Go.Operand.tmp 50), type := 4, pos := "evq.go:59", after := #[{ on := 12, ground := Ground.data }, { on := 6, ground := Ground.chain }], guard := none }) (v := ?v14) rfl (by kernel_rfl) (by kernel_rfl) (by kernel_rfl) (fun _ _ _ h => h) (Or.inl ⟨by rfl, ?hy14⟩) ?rs14
  case hy14 => (intro W hW; go_simp; try with_reducible rfl)
  try simp only [Act.put, List.setIfInBounds_toArray, List.set_cons_zero, List.set_cons_succ]
  refine wpAnyB_take (i := 14) (oi := { dst := some 52, op := Op.move (Go.Operand.tmp 8), type := 23, pos := "evq.go:59", after := #[{ on := 13, ground := Ground.guard }], guard := some (13, true) }) (v := ?v15) rfl (by kernel_rfl) (by kernel_rfl) (by kernel_rfl) (fun _ _ _ h => h) (Or.inl ⟨by rfl, ?hy15⟩) ?rs15
  case hy15 => (intro W hW; go_simp; try with_reducible rfl)
  try simp only [Act.put, List.setIfInBounds_toArray, List.set_cons_zero, List.set_cons_succ]
  refine wpAnyB_take (i := 15) (oi := { dst := some 53, op := Op.move (Go.Operand.tmp 1), type := 3, pos := "evq.go:59", after := #[{ on := 13, ground := Ground.guard }], guard := some (13, true) }) (v := ?v16) rfl (by kernel_rfl) (by kernel_rfl) (by kernel_rfl) (fun _ _ _ h => h) (Or.inl ⟨by rfl, ?hy16⟩) ?rs16
  case hy16 => (intro W hW; go_simp; try with_reducible rfl)
  try simp only [Act.put, List.setIfInBounds_toArray, List.set_cons_zero, List.set_cons_succ]
  refine wpAnyB_take (i := 16) (oi := { dst := some 54, op := Op.slice 23 (Go.Operand.tmp 52) none (some (Go.Operand.tmp 53)) none, type := 23, pos := "evq.go:59", after := #[{ on := 14, ground := Ground.data }, { on := 15, ground := Ground.data }, { on := 13, ground := Ground.guard }], guard := some (13, true) }) (v := ?v17) rfl (by kernel_rfl) (by kernel_rfl) (by kernel_rfl) (fun _ _ _ h => h) (Or.inl ⟨by rfl, ?hy17⟩) ?rs17
  case hy17 => (intro W hW; go_simp; try with_reducible rfl)
  try simp only [Act.put, List.setIfInBounds_toArray, List.set_cons_zero, List.set_cons_succ]
  refine wpAnyB_take (i := 17) (oi := { dst := some 55, op := Op.move (Go.Operand.tmp 8), type := 23, pos := "evq.go:59", after := #[{ on := 13, ground := Ground.guard }], guard := some (13, true) }) (v := ?v18) rfl (by kernel_rfl) (by kernel_rfl) (by kernel_rfl) (fun _ _ _ h => h) (Or.inl ⟨by rfl, ?hy18⟩) ?rs18
  case hy18 => (intro W hW; go_simp; try with_reducible rfl)
  try simp only [Act.put, List.setIfInBounds_toArray, List.set_cons_zero, List.set_cons_succ]
  refine wpAnyB_take (i := 18) (oi := { dst := some 56, op := Op.move (Go.Operand.tmp 1), type := 3, pos := "evq.go:59", after := #[{ on := 13, ground := Ground.guard }], guard := some (13, true) }) (v := ?v19) rfl (by kernel_rfl) (by kernel_rfl) (by kernel_rfl) (fun _ _ _ h => h) (Or.inl ⟨by rfl, ?hy19⟩) ?rs19
  case hy19 => (intro W hW; go_simp; try with_reducible rfl)
  try simp only [Act.put, List.setIfInBounds_toArray, List.set_cons_zero, List.set_cons_succ]
  refine wpAnyB_take (i := 19) (oi := { dst := some 57, op := Op.binOp Go.BinOp.add 3 (Go.Operand.tmp 56) (Go.Operand.const (Go.Value.int Go.IntKind.i64 1)) 3, type := 3, pos := "evq.go:59", after := #[{ on := 18, ground := Ground.data }, { on := 13, ground := Ground.guard }], guard := some (13, true) }) (v := ?v20) rfl (by kernel_rfl) (by kernel_rfl) (by kernel_rfl) (fun _ _ _ h => h) (Or.inl ⟨by rfl, ?hy20⟩) ?rs20
  case hy20 => (intro W hW; go_simp; try with_reducible rfl)
  try simp only [Act.put, List.setIfInBounds_toArray, List.set_cons_zero, List.set_cons_succ]
  refine wpAnyB_take (i := 20) (oi := { dst := some 58, op := Op.slice 23 (Go.Operand.tmp 55) (some (Go.Operand.tmp 57)) none none, type := 23, pos := "evq.go:59", after := #[{ on := 17, ground := Ground.data }, { on := 19, ground := Ground.data }, { on := 13, ground := Ground.guard }], guard := some (13, true) }) (v := ?v21) rfl (by kernel_rfl) (by kernel_rfl) (by kernel_rfl) (fun _ _ _ h => h) (Or.inl ⟨by rfl, ?hy21⟩) ?rs21
  case hy21 => (intro W hW; go_simp; try with_reducible rfl)
  try simp only [Act.put, List.setIfInBounds_toArray, List.set_cons_zero, List.set_cons_succ]
  refine wpAnyB_take (i := 23) (oi := { dst := some 61, op := Op.move (Go.Operand.tmp 5), type := 23, pos := "evq.go:59", after := #[{ on := 13, ground := Ground.guard }], guard := some (13, true) }) (v := ?v22) rfl (by kernel_rfl) (by kernel_rfl) (by kernel_rfl) (fun _ _ _ h => h) (Or.inl ⟨by rfl, ?hy22⟩) ?rs22
  case hy22 => (intro W hW; go_simp; try with_reducible rfl)
  try simp only [Act.put, List.setIfInBounds_toArray, List.set_cons_zero, List.set_cons_succ]
  refine wpAnyB_one (i := 21) (o := { dst := some 59, op := Op.buildSlice 46 2 #[(0, Go.Operand.tmp 54), (1, Go.Operand.tmp 58)], type := 46, pos := "evq.go:59", after := #[{ on := 16, ground := Ground.data }, { on := 20, ground := Ground.data }, { on := 13, ground := Ground.guard }], guard := some (13, true) }) (by kernel_rfl) rfl (fun K hK => ?_)
  go_simp
  replace hB := bthen hB ((Below.refl _ _).alloc (Nat.le_refl _) (.cells #[.slice (some ad6) p c6, .slice B' (n0 - p) (c6 - (p + 1))] 23))
  refine hK.out _ _ ((Below.refl _ _).alloc (Nat.le_refl _) _) ?_
  clear hK K
  try simp only [Act.put, List.setIfInBounds_toArray, List.set_cons_zero, List.set_cons_succ]
  refine wpAnyB_one (i := 22) (o := { dst := some 60, op := Op.call { callee := Callee.value (Go.Operand.func 17), args := #[Go.Operand.tmp 59], argTypes := #[46] }, type := 23, pos := "evq.go:59", after := #[{ on := 21, ground := Ground.data }, { on := 13, ground := Ground.chain }, { on := 13, ground := Ground.guard }], guard := some (13, true) }) (by kernel_rfl) rfl (fun K hK => ?_)
  go_simp
  refine (CCc.out (X.drew.alloc (.cells #[.slice (some ad6) p c6, .slice B' (n0 - p) (c6 - (p + 1))] 23)) (Rd.litAt (w := X.drew) ConcatE_any_val [(some ad6, p, c6, E'.take p), (B', n0 - p, c6 - (p + 1), E'.drop (p + 1))] 23 rfl) (by intro q hq; simp only [List.mem_cons, List.not_mem_nil, or_false] at hq; rcases hq with rfl | rfl <;> first | exact T2'.out.below hB | exact T4'.out.below hB) (by decide) (by rw [two_parts, F4.out, Hel.out]; omega) (by rw [two_parts, F4.out, Hel.out]; omega)).mono ?_; rintro e w7 ⟨v7, rfl, ho7, hbk⟩; replace hB := bthen hB hbk; rw [two_parts, F4.out] at ho7; obtain ⟨A7, c7, rfl, -, -, r7⟩ := ho7.formN Hel.out
  refine hK.out _ _ hbk ?_
  clear hK K
  try simp only [Act.put, List.setIfInBounds_toArray, List.set_cons_zero, List.set_cons_succ]
  refine wpAnyB_one (i := 24) (o := { dst := some 62, op := Op.call { callee := Callee.value (Go.Operand.func 11), args := #[Go.Operand.tmp 60, Go.Operand.tmp 61], argTypes := #[23, 23] }, type := 4, pos := "evq.go:59", after := #[{ on := 22, ground := Ground.data }, { on := 23, ground := Ground.data }, { on := 22, ground := Ground.chain }, { on := 13, ground := Ground.guard }], guard := some (13, true) }) (by kernel_rfl) rfl (fun K hK => ?_)
  go_simp
  refine (CE.out _ _ _ r7 (R2'.out.below hB)).mono ?_; rintro e w8 ⟨rfl, hbk⟩; replace hB := bthen hB hbk
  refine hK.out _ _ hbk ?_
  clear hK K
  try simp only [Act.put, List.setIfInBounds_toArray, List.set_cons_zero, List.set_cons_succ]
  refine wpAnyB_take (i := 25) (oi := { dst := some 63, op := Op.pick (Go.Operand.tmp 51) (Go.Operand.tmp 62) (Go.Operand.const (Go.Value.bool false)), type := 4, pos := "evq.go:59", after := #[{ on := 13, ground := Ground.data }, { on := 24, ground := Ground.data }], guard := none }) (v := ?v23) rfl (by kernel_rfl) (by kernel_rfl) (by kernel_rfl) (fun _ _ _ h => h) (Or.inl ⟨by rfl, ?hy23⟩) ?rs23
  case hy23 => (intro W hW; go_simp; try with_reducible rfl)
  try simp only [Act.put, List.setIfInBounds_toArray, List.set_cons_zero, List.set_cons_succ]
  refine wpAnyB_take (i := 26) (oi := { dst := some 64, op := Op.move (Go.Operand.tmp 63), type := 4, pos := "evq.go:59", after := #[{ on := 25, ground := Ground.data }, { on := 24, ground := Ground.chain }], guard := none }) (v := ?v24) rfl (by kernel_rfl) (by kernel_rfl) (by kernel_rfl) (fun _ _ _ h => h) (Or.inl ⟨by rfl, ?hy24⟩) ?rs24
  case hy24 => (intro W hW; go_simp; try with_reducible rfl)
  try simp only [Act.put, List.setIfInBounds_toArray, List.set_cons_zero, List.set_cons_succ]
  refine wpAnyB_take (i := 27) (oi := { dst := some 65, op := Op.move (Go.Operand.tmp 6), type := 24, pos := "evq.go:59", after := #[{ on := 26, ground := Ground.guard }], guard := some (26, true) }) (v := ?v25) rfl (by kernel_rfl) (by kernel_rfl) (by kernel_rfl) (fun _ _ _ h => h) (Or.inl ⟨by rfl, ?hy25⟩) ?rs25
  case hy25 => (intro W hW; go_simp; try with_reducible rfl)
  try simp only [Act.put, List.setIfInBounds_toArray, List.set_cons_zero, List.set_cons_succ]
  refine wpAnyB_take (i := 28) (oi := { dst := some 66, op := Op.move (Go.Operand.tmp 9), type := 24, pos := "evq.go:59", after := #[{ on := 26, ground := Ground.guard }], guard := some (26, true) }) (v := ?v26) rfl (by kernel_rfl) (by kernel_rfl) (by kernel_rfl) (fun _ _ _ h => h) (Or.inl ⟨by rfl, ?hy26⟩) ?rs26
  case hy26 => (intro W hW; go_simp; try with_reducible rfl)
  try simp only [Act.put, List.setIfInBounds_toArray, List.set_cons_zero, List.set_cons_succ]
  refine wpAnyB_one (i := 29) (o := { dst := some 67, op := Op.call { callee := Callee.value (Go.Operand.func 12), args := #[Go.Operand.tmp 65, Go.Operand.tmp 66], argTypes := #[24, 24] }, type := 4, pos := "evq.go:59", after := #[{ on := 27, ground := Ground.data }, { on := 28, ground := Ground.data }, { on := 26, ground := Ground.chain }, { on := 26, ground := Ground.guard }], guard := some (26, true) }) (by kernel_rfl) rfl (fun K hK => ?_)
  go_simp
  refine (CJ.out _ (S2'.out.below hB) (S6'.out.below hB)).mono ?_; rintro e w9 ⟨rfl, hbk⟩; replace hB := bthen hB hbk
  refine hK.out _ _ hbk ?_
  clear hK K
  try simp only [Act.put, List.setIfInBounds_toArray, List.set_cons_zero, List.set_cons_succ]
  refine wpAnyB_take (i := 30) (oi := { dst := some 68, op := Op.pick (Go.Operand.tmp 64) (Go.Operand.tmp 67) (Go.Operand.const (Go.Value.bool false)), type := 4, pos := "evq.go:59", after := #[{ on := 26, ground := Ground.data }, { on := 29, ground := Ground.data }], guard := none }) (v := ?v27) rfl (by kernel_rfl) (by kernel_rfl) (by kernel_rfl) (fun _ _ _ h => h) (Or.inl ⟨by rfl, ?hy27⟩) ?rs27
  case hy27 => (intro W hW; go_simp; try with_reducible rfl)
  try simp only [Act.put, List.setIfInBounds_toArray, List.set_cons_zero, List.set_cons_succ]
  refine wpAnyB_take (i := 31) (oi := { dst := some 69, op := Op.move (Go.Operand.tmp 68), type := 4, pos := "evq.go:59", after := #[{ on := 30, ground := Ground.data }, { on := 29, ground := Ground.chain }], guard := none }) (v := ?v28) rfl (by kernel_rfl) (by kernel_rfl) (by kernel_rfl) (fun _ _ _ h => h) (Or.inl ⟨by rfl, ?hy28⟩) ?rs28
  case hy28 => (intro W hW; go_simp; try with_reducible rfl)
  try simp only [Act.put, List.setIfInBounds_toArray, List.set_cons_zero, List.set_cons_succ]
  refine wpAnyB_take (i := 32) (oi := { dst := some 70, op := Op.load 25 (Go.Operand.tmp 7), type := 25, pos := "evq.go:59", after := #[{ on := 31, ground := Ground.guard }], guard := some (31, true) }) (v := ?v29) rfl (by kernel_rfl) (by kernel_rfl) (by kernel_rfl) (fun _ _ _ h => h) (Or.inl ⟨by rfl, ?hy29⟩) ?rs29
  case hy29 => (intro W hW; obtain ⟨⟨g1, g2⟩, g3, g4⟩ := FX.out W (bthen hB hW); go_simp; try with_reducible rfl)
  try simp only [Act.put, List.setIfInBounds_toArray, List.set_cons_zero, List.set_cons_succ]
  refine wpAnyB_take (i := 33) (oi := { dst := some 71, op := Op.load 25 (Go.Operand.tmp 10), type := 25, pos := "evq.go:59", after := #[{ on := 31, ground := Ground.guard }], guard := some (31, true) }) (v := ?v30) rfl (by kernel_rfl) (by kernel_rfl) (by kernel_rfl) (fun _ _ _ h => h) (Or.inl ⟨by rfl, ?hy30⟩) ?rs30
  case hy30 => (intro W hW; obtain ⟨⟨g1, g2⟩, g3, g4⟩ := FX.out W (bthen hB hW); go_simp; try with_reducible rfl)
  try simp only [Act.put, List.setIfInBounds_toArray, List.set_cons_zero, List.set_cons_succ]
  refine wpAnyB_take (i := 34) (oi := { dst := some 72, op := Op.binOp Go.BinOp.eql 25 (Go.Operand.tmp 70) (Go.Operand.tmp 71) 25, type := 4, pos := "evq.go:59", after := #[{ on := 32, ground := Ground.data }, { on := 33, ground := Ground.data }, { on := 31, ground := Ground.guard }], guard := some (31, true) }) (v := ?v31) rfl (by kernel_rfl) (by kernel_rfl) (by kernel_rfl) (fun _ _ _ h => h) (Or.inl ⟨by rfl, ?hy31⟩) ?rs31
  case hy31 => (intro W hW; go_simp; try with_reducible rfl)
  try simp only [Act.put, List.setIfInBounds_toArray, List.set_cons_zero, List.set_cons_succ]
  refine wpAnyB_take (i := 35) (oi := { dst := some 73, op := Op.pick (Go.Operand.tmp 69) (Go.Operand.tmp 72) (Go.Operand.const (Go.Value.bool false)), type := 4, pos := "evq.go:59", after := #[{ on := 31, ground := Ground.data }, { on := 34, ground := Ground.data }], guard := none }) (v := ?v32) rfl (by kernel_rfl) (by kernel_rfl) (by kernel_rfl) (fun _ _ _ h => h) (Or.inl ⟨by rfl, ?hy32⟩) ?rs32
  case hy32 => (intro W hW; go_simp; try with_reducible rfl)
  try simp only [Act.put, List.setIfInBounds_toArray, List.set_cons_zero, List.set_cons_succ]
  refine wpAnyB_take (i := 36) (oi := { dst := some 4, op := Op.assign (Go.Operand.tmp 73), type := 4, pos := "evq.go:59", after := #[{ on := 35, ground := Ground.data }, { on := 31, ground := Ground.chain }, { on := 0, ground := Ground.phase }, { on := 1, ground := Ground.phase }, { on := 2, ground := Ground.phase }, { on := 3, ground := Ground.phase }, { on := 4, ground := Ground.phase }, { on := 5, ground := Ground.phase }, { on := 6, ground := Ground.phase }, { on := 7, ground := Ground.phase }, { on := 8, ground := Ground.phase }, { on := 9, ground := Ground.phase }, { on := 10, ground := Ground.phase }, { on := 11, ground := Ground.phase }, { on := 12, ground := Ground.phase }, { on := 13, ground := Ground.phase }, { on := 14, ground := Ground.phase }, { on := 15, ground := Ground.phase }, { on := 16, ground := Ground.phase }, { on := 17, ground := Ground.phase }, { on := 18, ground := Ground.phase }, { on := 19, ground := Ground.phase }, { on := 20, ground := Ground.phase }, { on := 21, ground := Ground.phase }, { on := 22, ground := Ground.phase }, { on := 23, ground := Ground.phase }, { on := 24, ground := Ground.phase }, { on := 25, ground := Ground.phase }, { on := 26, ground := Ground.phase }, { on := 27, ground := Ground.phase }, { on := 28, ground := Ground.phase }, { on := 29, ground := Ground.phase }, { on := 30, ground := Ground.phase }, { on := 31, ground := Ground.phase }, { on := 32, ground := Ground.phase }, { on := 33, ground := Ground.phase }, { on := 34, ground := Ground.phase }, { on := 35, ground := Ground.phase }], guard := none }) (v := ?v33) rfl (by kernel_rfl) (by kernel_rfl) (by kernel_rfl) (fun _ _ _ h => h) (Or.inl ⟨by rfl, ?hy33⟩) ?rs33
  case hy33 => (intro W hW; go_simp; try with_reducible rfl)
  try simp only [Act.put, List.setIfInBounds_toArray, List.set_cons_zero, List.set_cons_succ]
  refine wpAnyB_done (by kernel_rfl) ?_
  have hBB := bthen HB6.out hB
  clear CCc CE CJ FM FX R2' S2' S6' T2' T4' M6 HB6 X6 X7 t1 t3
  go_wp2
  go_ret
  exact ⟨rfl, hBB⟩
end Go.Proofs.Ytlanmehbcpgoaaa
