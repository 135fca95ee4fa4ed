/-
  The walk of RtaLast: it returns true, at every argument.
-/
import Derived.Test.YtiejgmkbhjnceaaRtaGives
import Derived.Test.YtiejgmkbhjnceaaRegionH
import Derived.Deep.CutBlock
import Derived.Deep.DeepCutAuto
namespace Go.Proofs.Ytiejgmkbhjnceaa
open Go.RowKit
set_option linter.unusedVariables false

set_option maxHeartbeats 400000 in
theorem CloneK_any (A : Option Addr) (n c : Nat) (l : List Tsk) (w : World) (h : RdG tskC 2 w A n l) (hn : n ≤ 8796093022208) :
    Calls Try.prog 17 #[.slice A n c] w fun e w' => ∃ v, e = .returned v ∧ OwG tskC 2 w' w.heap.size 39 v l ∧ Below w.heap.size w w' := by
  have hq := fun (W : World) => Lib.run_eql_slice_nil (P := Try.prog) W 22 39 A n c 0 0 Try.underlying22
  go_enter Try.func17, Try.ntmps17
  cases A with
  | none =>
    go_wp2
    go_ret
    have hn0 : n = 0 := by
      rcases Nat.eq_zero_or_pos n with h0 | h0
      · exact h0
      · obtain ⟨ad, e, _⟩ := h.2 h0; cases e
    obtain rfl : l = [] := List.eq_nil_of_length_eq_zero ((RdG.len tskK h).trans hn0)
    exact ⟨_, rfl, OwG.nil _ _ _, Below.refl _ _⟩
  | some ad =>
    go_wp2_with (at_builtin; go_must (refine wpList_apG tskK _ elTask rfl rfl w.heap.size (.slice (some ⟨w.heap.size, 0, none⟩) 0 0) [] rfl (OwG.empty _ _ (Nat.le_refl _)) _ _ _ l rfl (h.alloc _) (le_alloc (Nat.le_refl _)) (by simp; omega) (by simp; omega) ?_; intro v1 w1 ho1 hm1))
    go_ret
    exact ⟨_, rfl, ho1, hm1.below ((Below.refl _ _).alloc (Nat.le_refl _) _) (le_alloc (Nat.le_refl _)) (new_block (Nat.le_refl _))⟩
/-- Either an error, or the ends. -/
theorem GivesEnds.split {L : List Tsk} {w w' : World} {e : Ending} (h : GivesEnds L w e w') : (∃ A m c x, e = .returned (.tuple #[.slice A m c, .int .i64 x]) ∧ m ≤ L.length ∧ Hid (x ≠ 0 ∨ (x = 0 ∧ m = L.length ∧ ∃ M R, L = M.map Tk.asT ∧ Good M ∧ EndsAre M R ∧ Rd w' 1 A L.length ((natL R).map (Value.int .i64)) ∧ L.length ≤ c))) ∧ Below w.heap.size w w' := by
  rcases h.1 with ⟨h1, h2⟩ | ⟨M, he, hM, ⟨h1, h2⟩ | ⟨R, A, c, hR, h2, h3⟩⟩
  · exact ⟨⟨none, 0, 0, 2, h2, Nat.zero_le _, .inl (by decide)⟩, h.2⟩
  · exact ⟨⟨none, 0, 0, 4, h2, Nat.zero_le _, .inl (by decide)⟩, h.2⟩
  · have hl : L.length = M.length := by rw [he, List.length_map]
    rw [← hl] at h2 h3
    exact ⟨⟨A, L.length, c, 0, h2, Nat.le_refl _, .inr ⟨rfl, rfl, M, R, he, hM, hR, h3.rd, h3.len.2.1⟩⟩, h.2⟩
/-- A task lies in block b. -/
structure Kept (b : Nat) (p c : Int) (w : World) : Prop where
  fst : w.cell? ⟨b, 0, none⟩ = some (.int .i64 p)
  snd : w.cell? ⟨b, 1, none⟩ = some (.int .i64 c)
theorem Kept.below {b : Nat} {p c : Int} {w w' : World} (h : Kept b p c w) (hb : Below w.heap.size w w') : Kept b p c w' :=
  ⟨(hb.cell (World.block_lt_of_cell? w _ h.fst)).trans h.fst, (hb.cell (World.block_lt_of_cell? w _ h.snd)).trans h.snd⟩
theorem Kept.grown {b : Nat} {p c : Int} {w w' : World} {row : Option Nat} (h : Kept b p c w) (hg : w.grownBy w' row) (hne : row ≠ some b) : Kept b p c w' :=
  ⟨(hg.cell_far _ (World.block_lt_of_cell? w _ h.fst) (fun e => hne e.symm)).trans h.fst, (hg.cell_far _ (World.block_lt_of_cell? w _ h.snd) (fun e => hne e.symm)).trans h.snd⟩
theorem EndsAre.takeN {M : List Tk} {R : List Nat} (h : EndsAre M R) (k : Nat) : EndsAre (M.take k) (R.take k) := by
  refine ⟨by rw [List.length_take, List.length_take, h.len], fun j t r hj hr => ?_⟩
  rw [List.getElem?_take] at hj hr
  split at hj
  · rename_i hjk
    rw [if_pos hjk] at hr
    rw [List.take_take, show min j k = j by omega]
    exact h.at_ j t r hj hr
  · cases hj
set_option maxHeartbeats 1600000 in
theorem RtaLast_walk (A0 : Option Addr) (n0 c0 : Nat) (l0 : List Tsk) (a1_a a1_b : Int) (w : World) (h0 : RdG tskC 2 w A0 n0 l0) (q0 : ∀ s ∈ l0, in64 s.p ∧ in64 s.c) (k0 : n0 ≤ c0) (b0 : c0 * 16 ≤ 140737488351232) (w1_a : (Lit.int .i64 a1_a).wf = true) (w1_b : (Lit.int .i64 a1_b).wf = true) :
    Calls Try.prog 7 #[.slice A0 n0 c0, .agg #[.int .i64 a1_a, .int .i64 a1_b]] w fun e w' => e = .returned (.bool true) ∧ Below w.heap.size w w' := by
  have hl := RdG.len tskK h0
  have C0 := Lib.hid (alive19_any (w.alloc (.cells #[.int .i64 a1_a, .int .i64 a1_b] 39)))
  have C1 := Lib.hid (fun (W : World) (h : RdG tskC 2 W A0 n0 l0) => (Ends_any A0 n0 c0 l0 W h k0 (by omega)).mono fun e w' hg => hg.split)
  have C2 := Lib.hid (fun (W : World) (h : RdG tskC 2 W A0 n0 l0) => CloneK_any A0 n0 c0 l0 W h (by omega))
  have C3 := Lib.hid (fun (W : World) (B : Option Addr) (d : Nat) (h : RdG tskC 2 W B (n0 + 1) (l0 ++ [⟨a1_a, a1_b⟩])) (hd : n0 + 1 ≤ d) => (Ends_any B (n0 + 1) d _ W h hd (by omega)).mono fun e w' hg => hg.split)
  clear q0 w1_a w1_b
  have x0 := Box.new w 39 [.int .i64 a1_a, .int .i64 a1_b]
  have hn47 : n0 * 16 ≤ 140737488351232 := by omega
  have Hl := Lib.hid hl
  clear hl
  go_enter Try.func7, Try.ntmps7
  go_wp2_with fail
  refine C0.out.mono ?_
  rintro e w1 ⟨rfl, hb1⟩
  replace x0 := x0.below hb1 x0.lt
  replace hb1 := below_new hb1
  replace h0 := h0.below hb1
  clear C0
  go_wp2_with fail
  refine (C1.out _ h0).mono ?_
  rintro e w2 ⟨⟨A2, m2, c2, x2, rfl, hm2, HS2⟩, hb2⟩
  rw [Hl.out] at hm2
  have hB2 := bthen hb1 hb2
  replace h0 := h0.below hb2
  replace x0 := x0.below hb2 x0.lt
  have hblt := x0.lt
  have hgw : w.heap.size ≤ w2.heap.size := by omega
  clear hb1 hb2 C1
  go_upto_region 4 with fail
  have C2' := Lib.hid (fun (W : World) (hW : Below w2.heap.size w2 W) => C2.out W (h0.below hW))
  have hcl : Hid (∀ W, Below w2.heap.size w2 W → Box W w.heap.size 39 [.int .i64 a1_a, .int .i64 a1_b]) := fun W hW => x0.below hW x0.lt
  have hB : Below w2.heap.size w2 w2.drew := (Below.refl _ _).drew
  have hS : Kept w.heap.size a1_a a1_b w2.drew := ⟨(hcl.out _ hB).cell 0 rfl, (hcl.out _ hB).cell 1 rfl⟩
  refine wp_region_S (Kept w.heap.size a1_a a1_b) (by kernel_rfl) hS ?_
  refine wpAnyS_take (i := 0) (oi := { dst := some 17, op := Op.move (Go.Operand.tmp 0), type := 22, pos := "rta.go:92", after := #[], guard := none }) (v := ?v1) rfl (by kernel_rfl) (by kernel_rfl) (by kernel_rfl) (fun _ _ _ h => h) (Or.inl ⟨by rfl, ?hy1⟩) hS ?rs1
  case hy1 => (intro W hW; go_simp; try with_reducible rfl)
  try simp only [Act.put, List.setIfInBounds_toArray, List.set_cons_zero, List.set_cons_succ]
  refine wpAnyS_take (i := 2) (oi := { dst := some 19, op := Op.load 39 (Go.Operand.tmp 3), type := 39, pos := "rta.go:92", after := #[], guard := none }) (v := ?v2) rfl (by kernel_rfl) (by kernel_rfl) (by kernel_rfl) (fun _ _ _ h => h) (Or.inl ⟨by rfl, ?hy2⟩) hS ?rs2
  case hy2 => (intro W hW; obtain ⟨g0, g1⟩ := hW; go_simp; try with_reducible rfl)
  try simp only [Act.put, List.setIfInBounds_toArray, List.set_cons_zero, List.set_cons_succ]
  refine wpAnyS_two (i := 1) (j := 3) (oi := { dst := some 18, op := Op.call { callee := Callee.value (Go.Operand.func 17), args := #[Go.Operand.tmp 17], argTypes := #[22] }, type := 22, pos := "rta.go:92", after := #[{ on := 0, ground := Ground.data }], guard := none }) (oj := { dst := some 20, op := Op.buildSlice 22 1 #[(0, Go.Operand.tmp 19)], type := 22, pos := "rta.go:92", after := #[{ on := 2, ground := Ground.data }], guard := none }) (by kernel_rfl) rfl rfl (fun K hK => ?_) (fun K hK => ?_)
  go_simp
  refine (C2'.out _ hB).mono ?_; rintro e w3 ⟨v3, rfl, ho3, hb3⟩; replace ho3 := ho3.mono (base' := w2.heap.size) hB.size; replace hS := hS.below hb3; replace hB := hB.trans (hb3.mono hB.size); have hge := hB.size; (try replace hlit := hlit.below hb3)
  refine hK.out _ _ hS ?_
  clear hK K
  try simp only [Act.put, List.setIfInBounds_toArray, List.set_cons_zero, List.set_cons_succ]
  refine wpAnyS_one (i := 3) (o := { dst := some 20, op := Op.buildSlice 22 1 #[(0, Go.Operand.tmp 19)], type := 22, pos := "rta.go:92", after := #[{ on := 2, ground := Ground.data }], guard := none }) (by kernel_rfl) rfl (fun K hK => ?_)
  go_simp
  (first | (have hlit : RdG tskC 2 (w3.alloc (.cells #[.int .i64 a1_a, .int .i64 a1_b] 39)) (some ⟨w3.heap.size, 0, none⟩) 1 [⟨a1_a, a1_b⟩] := Rd.litFlat tskK.len [⟨a1_a, a1_b⟩] _ rfl; replace ho3 := ho3.alloc (.cells #[.int .i64 a1_a, .int .i64 a1_b] 39); replace hB := hB.alloc hge (.cells #[.int .i64 a1_a, .int .i64 a1_b] 39); replace hge := hB.size; replace hS := hS.below (below_one (.cells #[.int .i64 a1_a, .int .i64 a1_b] 39))) | (have hlit : RdG tskC 2 (w2.alloc (.cells #[.int .i64 a1_a, .int .i64 a1_b] 39)).drew (some ⟨w2.heap.size, 0, none⟩) 1 [⟨a1_a, a1_b⟩] := Rd.litFlat tskK.len [⟨a1_a, a1_b⟩] _ rfl; replace hB : Below w2.heap.size w2 (w2.alloc (.cells #[.int .i64 a1_a, .int .i64 a1_b] 39)).drew := ((Below.refl w2.heap.size w2).alloc (Nat.le_refl _) _).drew; replace hS := hS.below (below_one (.cells #[.int .i64 a1_a, .int .i64 a1_b] 39))))
  refine hK.out _ _ hS ?_
  clear hK K
  try simp only [Act.put, List.setIfInBounds_toArray, List.set_cons_zero, List.set_cons_succ]
  refine wpAnyS_one (i := 4) (o := { dst := some 21, op := Op.call { callee := Callee.builtin Builtin.append, args := #[Go.Operand.tmp 18, Go.Operand.tmp 20], argTypes := #[22, 22] }, type := 22, pos := "rta.go:92", after := #[{ on := 1, ground := Ground.data }, { on := 3, ground := Ground.data }, { on := 1, ground := Ground.chain }], guard := none }) (by kernel_rfl) rfl (fun K hK => ?_)
  rw [if_pos (by rfl)]
  refine wp_apG tskK _ elTask rfl w2.heap.size v3 l0 rfl ho3 _ 1 1 [⟨a1_a, a1_b⟩] rfl hlit hge (by rw [Hl.out]; omega) (by rw [Hl.out]; omega) ?_; intro v4 w4 ho4 hm4; replace hS := hS.grown hm4.1 (fun e => by have := ho3.block _ e; omega); replace hB := hm4.below hB hge ho3.block; obtain ⟨A4, c4, rfl, hc4, _, r4⟩ := ho4.formN (n := n0 + 1) (by rw [List.length_append, Hl.out]; rfl)
  refine hK.out _ _ hS ?_
  clear hK K
  try simp only [Act.put, List.setIfInBounds_toArray, List.set_cons_zero, List.set_cons_succ]
  refine wpAnyS_one (i := 5) (o := { dst := some 22, op := Op.call { callee := Callee.value (Go.Operand.func 8), args := #[Go.Operand.tmp 21], argTypes := #[22] }, type := 25, pos := "rta.go:92", after := #[{ on := 4, ground := Ground.data }, { on := 4, ground := Ground.chain }], guard := none }) (by kernel_rfl) rfl (fun K hK => ?_)
  go_simp
  refine (C3.out w4 A4 c4 r4 hc4).mono ?_; rintro e w5 ⟨⟨A5, m5, c5, x5, rfl, hm5, HS5⟩, hb5⟩; replace hS := hS.below hb5; replace hB := hB.trans (hb5.mono hB.size)
  refine hK.out _ _ hS ?_
  clear hK K
  try simp only [Act.put, List.setIfInBounds_toArray, List.set_cons_zero, List.set_cons_succ]
  refine wpAnyS_take (i := 6) (oi := { dst := some 16, op := Op.move (Go.Operand.tmp 22), type := 25, pos := "rta.go:92", after := #[{ on := 5, ground := Ground.data }], guard := none }) (v := ?v3) rfl (by kernel_rfl) (by kernel_rfl) (by kernel_rfl) (fun _ _ _ h => h) (Or.inl ⟨by rfl, ?hy3⟩) hS ?rs3
  case hy3 => (intro W hW; go_simp; try with_reducible rfl)
  try simp only [Act.put, List.setIfInBounds_toArray, List.set_cons_zero, List.set_cons_succ]
  refine wpAnyS_take (i := 7) (oi := { dst := some 23, op := Op.extract (Go.Operand.tmp 16) 0, type := 23, pos := "rta.go:92", after := #[{ on := 6, ground := Ground.data }], guard := none }) (v := ?v4) rfl (by kernel_rfl) (by kernel_rfl) (by kernel_rfl) (fun _ _ _ h => h) (Or.inl ⟨by rfl, ?hy4⟩) hS ?rs4
  case hy4 => (intro W hW; go_simp; try with_reducible rfl)
  try simp only [Act.put, List.setIfInBounds_toArray, List.set_cons_zero, List.set_cons_succ]
  refine wpAnyS_take (i := 8) (oi := { dst := some 24, op := Op.extract (Go.Operand.tmp 16) 1, type := 24, pos := "rta.go:92", after := #[{ on := 6, ground := Ground.data }, { on := 9, ground := Ground.gcOnly Go.Departure.lateStores }], guard := none }) (v := ?v5) rfl (by kernel_rfl) (by kernel_rfl) (by kernel_rfl) (fun _ _ _ h => h) (Or.inl ⟨by rfl, ?hy5⟩) hS ?rs5
  case hy5 => (intro W hW; go_simp; try with_reducible rfl)
  try simp only [Act.put, List.setIfInBounds_toArray, List.set_cons_zero, List.set_cons_succ]
  refine wpAnyS_take (i := 9) (oi := { dst := some 7, op := Op.assign (Go.Operand.tmp 23), type := 23, pos := "rta.go:92", after := #[{ on := 7, ground := Ground.data }, { on := 5, ground := Ground.chain }, { on := 0, ground := Ground.phase }, { on := 1, ground := Ground.phase }, { on := 2, ground := Ground.phase }, { on := 3, ground := Ground.phase }, { on := 4, ground := Ground.phase }, { on := 5, ground := Ground.phase }, { on := 6, ground := Ground.phase }, { on := 7, ground := Ground.phase }, { on := 8, ground := Ground.textOnly Go.Departure.lateStores }], guard := none }) (v := ?v6) rfl (by kernel_rfl) (by kernel_rfl) (by kernel_rfl) (fun _ _ _ h => h) (Or.inl ⟨by rfl, ?hy6⟩) hS ?rs6
  case hy6 => (intro W hW; go_simp; try with_reducible rfl)
  try simp only [Act.put, List.setIfInBounds_toArray, List.set_cons_zero, List.set_cons_succ]
  refine wpAnyS_take (i := 10) (oi := { dst := some 8, op := Op.assign (Go.Operand.tmp 24), type := 24, pos := "rta.go:92", after := #[{ on := 8, ground := Ground.data }, { on := 9, ground := Ground.chain }, { on := 0, ground := Ground.phase }, { on := 1, ground := Ground.phase }, { on := 2, ground := Ground.phase }, { on := 3, ground := Ground.phase }, { on := 4, ground := Ground.phase }, { on := 5, ground := Ground.phase }, { on := 6, ground := Ground.phase }, { on := 7, ground := Ground.phase }, { on := 8, ground := Ground.phase }, { on := 9, ground := Ground.phase }], guard := none }) (v := ?v7) rfl (by kernel_rfl) (by kernel_rfl) (by kernel_rfl) (fun _ _ _ h => h) (Or.inl ⟨by rfl, ?hy7⟩) hS ?rs7
  case hy7 => (intro W hW; go_simp; try with_reducible rfl)
  try simp only [Act.put, List.setIfInBounds_toArray, List.set_cons_zero, List.set_cons_succ]
  refine wpAnyS_done (by kernel_rfl) ?_
  rotate_left
  go_simp
  (first | (have hlit : RdG tskC 2 (w3.alloc (.cells #[.int .i64 a1_a, .int .i64 a1_b] 39)) (some ⟨w3.heap.size, 0, none⟩) 1 [⟨a1_a, a1_b⟩] := Rd.litFlat tskK.len [⟨a1_a, a1_b⟩] _ rfl; replace ho3 := ho3.alloc (.cells #[.int .i64 a1_a, .int .i64 a1_b] 39); replace hB := hB.alloc hge (.cells #[.int .i64 a1_a, .int .i64 a1_b] 39); replace hge := hB.size; replace hS := hS.below (below_one (.cells #[.int .i64 a1_a, .int .i64 a1_b] 39))) | (have hlit : RdG tskC 2 (w2.alloc (.cells #[.int .i64 a1_a, .int .i64 a1_b] 39)).drew (some ⟨w2.heap.size, 0, none⟩) 1 [⟨a1_a, a1_b⟩] := Rd.litFlat tskK.len [⟨a1_a, a1_b⟩] _ rfl; replace hB : Below w2.heap.size w2 (w2.alloc (.cells #[.int .i64 a1_a, .int .i64 a1_b] 39)).drew := ((Below.refl w2.heap.size w2).alloc (Nat.le_refl _) _).drew; replace hS := hS.below (below_one (.cells #[.int .i64 a1_a, .int .i64 a1_b] 39))))
  refine hK.out _ _ hS ?_
  clear hK K
  try simp only [Act.put, List.setIfInBounds_toArray, List.set_cons_zero, List.set_cons_succ]
  refine wpAnyS_one (i := 1) (o := { dst := some 18, op := Op.call { callee := Callee.value (Go.Operand.func 17), args := #[Go.Operand.tmp 17], argTypes := #[22] }, type := 22, pos := "rta.go:92", after := #[{ on := 0, ground := Ground.data }], guard := none }) (by kernel_rfl) rfl (fun K hK => ?_)
  go_simp
  refine (C2'.out _ hB).mono ?_; rintro e w3 ⟨v3, rfl, ho3, hb3⟩; replace ho3 := ho3.mono (base' := w2.heap.size) hB.size; replace hS := hS.below hb3; replace hB := hB.trans (hb3.mono hB.size); have hge := hB.size; (try replace hlit := hlit.below hb3)
  refine hK.out _ _ hS ?_
  clear hK K
  try simp only [Act.put, List.setIfInBounds_toArray, List.set_cons_zero, List.set_cons_succ]
  refine wpAnyS_one (i := 4) (o := { dst := some 21, op := Op.call { callee := Callee.builtin Builtin.append, args := #[Go.Operand.tmp 18, Go.Operand.tmp 20], argTypes := #[22, 22] }, type := 22, pos := "rta.go:92", after := #[{ on := 1, ground := Ground.data }, { on := 3, ground := Ground.data }, { on := 1, ground := Ground.chain }], guard := none }) (by kernel_rfl) rfl (fun K hK => ?_)
  rw [if_pos (by rfl)]
  refine wp_apG tskK _ elTask rfl w2.heap.size v3 l0 rfl ho3 _ 1 1 [⟨a1_a, a1_b⟩] rfl hlit hge (by rw [Hl.out]; omega) (by rw [Hl.out]; omega) ?_; intro v4 w4 ho4 hm4; replace hS := hS.grown hm4.1 (fun e => by have := ho3.block _ e; omega); replace hB := hm4.below hB hge ho3.block; obtain ⟨A4, c4, rfl, hc4, _, r4⟩ := ho4.formN (n := n0 + 1) (by rw [List.length_append, Hl.out]; rfl)
  refine hK.out _ _ hS ?_
  clear hK K
  try simp only [Act.put, List.setIfInBounds_toArray, List.set_cons_zero, List.set_cons_succ]
  refine wpAnyS_one (i := 5) (o := { dst := some 22, op := Op.call { callee := Callee.value (Go.Operand.func 8), args := #[Go.Operand.tmp 21], argTypes := #[22] }, type := 25, pos := "rta.go:92", after := #[{ on := 4, ground := Ground.data }, { on := 4, ground := Ground.chain }], guard := none }) (by kernel_rfl) rfl (fun K hK => ?_)
  go_simp
  refine (C3.out w4 A4 c4 r4 hc4).mono ?_; rintro e w5 ⟨⟨A5, m5, c5, x5, rfl, hm5, HS5⟩, hb5⟩; replace hS := hS.below hb5; replace hB := hB.trans (hb5.mono hB.size)
  refine hK.out _ _ hS ?_
  clear hK K
  try simp only [Act.put, List.setIfInBounds_toArray, List.set_cons_zero, List.set_cons_succ]
  refine wpAnyS_take (i := 6) (oi := { dst := some 16, op := Op.move (Go.Operand.tmp 22), type := 25, pos := "rta.go:92", after := #[{ on := 5, ground := Ground.data }], guard := none }) (v := ?v8) rfl (by kernel_rfl) (by kernel_rfl) (by kernel_rfl) (fun _ _ _ h => h) (Or.inl ⟨by rfl, ?hy8⟩) hS ?rs8
  case hy8 => (intro W hW; go_simp; try with_reducible rfl)
  try simp only [Act.put, List.setIfInBounds_toArray, List.set_cons_zero, List.set_cons_succ]
  refine wpAnyS_take (i := 7) (oi := { dst := some 23, op := Op.extract (Go.Operand.tmp 16) 0, type := 23, pos := "rta.go:92", after := #[{ on := 6, ground := Ground.data }], guard := none }) (v := ?v9) rfl (by kernel_rfl) (by kernel_rfl) (by kernel_rfl) (fun _ _ _ h => h) (Or.inl ⟨by rfl, ?hy9⟩) hS ?rs9
  case hy9 => (intro W hW; go_simp; try with_reducible rfl)
  try simp only [Act.put, List.setIfInBounds_toArray, List.set_cons_zero, List.set_cons_succ]
  refine wpAnyS_take (i := 8) (oi := { dst := some 24, op := Op.extract (Go.Operand.tmp 16) 1, type := 24, pos := "rta.go:92", after := #[{ on := 6, ground := Ground.data }, { on := 9, ground := Ground.gcOnly Go.Departure.lateStores }], guard := none }) (v := ?v10) rfl (by kernel_rfl) (by kernel_rfl) (by kernel_rfl) (fun _ _ _ h => h) (Or.inl ⟨by rfl, ?hy10⟩) hS ?rs10
  case hy10 => (intro W hW; go_simp; try with_reducible rfl)
  try simp only [Act.put, List.setIfInBounds_toArray, List.set_cons_zero, List.set_cons_succ]
  refine wpAnyS_take (i := 9) (oi := { dst := some 7, op := Op.assign (Go.Operand.tmp 23), type := 23, pos := "rta.go:92", after := #[{ on := 7, ground := Ground.data }, { on := 5, ground := Ground.chain }, { on := 0, ground := Ground.phase }, { on := 1, ground := Ground.phase }, { on := 2, ground := Ground.phase }, { on := 3, ground := Ground.phase }, { on := 4, ground := Ground.phase }, { on := 5, ground := Ground.phase }, { on := 6, ground := Ground.phase }, { on := 7, ground := Ground.phase }, { on := 8, ground := Ground.textOnly Go.Departure.lateStores }], guard := none }) (v := ?v11) rfl (by kernel_rfl) (by kernel_rfl) (by kernel_rfl) (fun _ _ _ h => h) (Or.inl ⟨by rfl, ?hy11⟩) hS ?rs11
  case hy11 => (intro W hW; go_simp; try with_reducible rfl)
  try simp only [Act.put, List.setIfInBounds_toArray, List.set_cons_zero, List.set_cons_succ]
  refine wpAnyS_take (i := 10) (oi := { dst := some 8, op := Op.assign (Go.Operand.tmp 24), type := 24, pos := "rta.go:92", after := #[{ on := 8, ground := Ground.data }, { on := 9, ground := Ground.chain }, { on := 0, ground := Ground.phase }, { on := 1, ground := Ground.phase }, { on := 2, ground := Ground.phase }, { on := 3, ground := Ground.phase }, { on := 4, ground := Ground.phase }, { on := 5, ground := Ground.phase }, { on := 6, ground := Ground.phase }, { on := 7, ground := Ground.phase }, { on := 8, ground := Ground.phase }, { on := 9, ground := Ground.phase }], guard := none }) (v := ?v12) rfl (by kernel_rfl) (by kernel_rfl) (by kernel_rfl) (fun _ _ _ h => h) (Or.inl ⟨by rfl, ?hy12⟩) hS ?rs12
  case hy12 => (intro W hW; go_simp; try with_reducible rfl)
  try simp only [Act.put, List.setIfInBounds_toArray, List.set_cons_zero, List.set_cons_succ]
  refine wpAnyS_done (by kernel_rfl) ?_
  rotate_left
  all_goals
    have hB5 := hB2.trans (hB.mono hgw)
    have e5 : (l0 ++ [(⟨a1_a, a1_b⟩ : Tsk)]).length = n0 + 1 := by rw [List.length_append, Hl.out]; rfl
    rcases HS2.out with hx | ⟨rfl, rfl, M, R, hM1, hM2, hR, r2, hc2⟩
    · have hne : (x2 != 0) = true := by simpa using hx
      clear hx
      go_wp2
      go_ret
      exact ⟨rfl, hB5⟩
    · rcases HS5.out with hx | ⟨rfl, hm5', M', R', hM1', hM2', hR', r5, hc5⟩
      · have hne : (x5 != 0) = true := by simpa using hx
        clear hx
        go_wp2
        go_ret
        exact ⟨rfl, hB5⟩
      · rw [e5] at hm5' r5 hc5
        subst hm5'
        have hn := Hl.out
        have hMM : M = M'.take n0 := asT_inj (by rw [List.map_take, ← hM1', ← hM1, ← hn, List.take_left])
        have hRR : R = R'.take n0 := hR.unique (by rw [hMM]; exact hR'.takeN n0)
        have hlast : (M'.map Tk.asT)[n0]? = some ⟨a1_a, a1_b⟩ := by rw [← hM1', ← hn, List.getElem?_append_right (Nat.le_refl _), Nat.sub_self]; rfl
        rw [List.getElem?_map] at hlast
        obtain ⟨tk, htk, htk2⟩ := Option.map_eq_some_iff.1 hlast
        obtain ⟨r, hr1, hr2⟩ := hR'.one htk
        have hlo := hr2.lo
        have ha : (tk.c : Int) = a1_b := by injection htk2
        have hge5 : decide (a1_b ≤ (r : Int)) = true := decide_eq_true (by omega)
        rw [hn] at r2 hc2
        obtain ⟨ad5, hA5, hcell⟩ := r5.2 (by omega)
        have hc5r := hcell n0 _ (show ((natL R').map (Value.int .i64))[n0]? = some (.int .i64 (r : Int)) by rw [List.getElem?_map, natL_at hr1]; rfl)
        have hs0 := hS.snd
        have r5t := r5.take (k := n0) (by omega)
        rw [Nat.mul_one, ← List.map_take, show (natL R').take n0 = natL R by rw [hRR]; simp [natL, List.map_take]] at r5t
        have hto := fun W => run_to (P := Try.prog) elInt W A5 (n0 + 1) c5 n0 (by omega)
        have r2' := r2.below hB
        have hE := Lib.hid (fun (q : Nat) => EqualI_any A2 A5 n0 c2 n0 c5 (natL R) (natL R) (w5.drewN q) r2' r5t (by omega))
        simp only [decide_true] at hE
        subst hA5
        have hbf := Lib.hid hB5
        clear hR hR' r2 r5 r5t r2' hcell hr1 hr2 htk htk2 hlast hMM hRR hM1 hM1' hM2 hM2' hlo ha HS2 HS5 hB hb5 hB2 hB5 C3 C2 C2' hcl h0 ho3 ho4 hm4 r4 hlit x0
        go_wp2
        go_quiet (first | (go_at_call 13; refine Calls.quiet_of (hE.out _)))
        go_wp2
        go_ret
        exact ⟨rfl, bthen hbf.out (below_draws ⟨_, rfl⟩)⟩
end Go.Proofs.Ytiejgmkbhjnceaa
