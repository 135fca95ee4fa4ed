/-
  The walk of CobsTells.
-/
import Derived.Test.YtmehdlnhllafaaaCobsRef
import Derived.Test.YtmehdlnhllafaaaCobsWalks3
import Derived.Test.YtmehdlnhllafaaaRegion
import Derived.Deep.CutBlock
import Derived.Deep.DeepCutAuto
namespace Go.Proofs.Ytmehdlnhllafaaa
open Go.RowKit
set_option linter.unusedVariables false
set_option linter.unusedSimpArgs false

/-- Between two rounds of the law's loop: j bytes are over, the rows 'done' are told, acc is the row that is open. -/
structure TSt (w5 wr : World) (n : Nat) (l : List Int) (v9 v10 i : Value) (j : Nat) (acc : List Int) (done : List (List Int)) : Prop where
  hj : j ≤ n
  hi : i = .int .i64 j
  hv : v10 = .int .i64 (done.length : Nat)
  own : Ow (Value.int .u8) wr w5.heap.size 5 v9 acc
  hacc : acc.length ≤ j
  by8 : Byte8 acc
  tot : done ++ segsA acc (l.drop j) = segsM l
  bel : Below w5.heap.size w5 wr

set_option maxRecDepth 20000 in
set_option maxHeartbeats 4000000 in
theorem CobsTells_walk (A0 : Option Addr) (n0 c0 : Nat) (l0 : List Int) (w : World) (h0 : Rd w 1 A0 n0 (l0.map (Value.int .u8))) (v0 : ∀ x ∈ l0, (Lit.int .u8 x).wf = true) (k0 : n0 ≤ c0) (b0 : c0 ≤ 1048576) :
    Calls Try.prog 3 #[.slice A0 n0 c0] w fun e w' => e = .returned (.bool true) ∧ Below w.heap.size w w' := by
  have q0 : Byte8 l0 := fun x hx => by have := wf_u8 (v0 x hx); omega
  have Hl0 := Lib.hid h0.lenMap
  clear v0
  have hbyU := unpack_bytes q0
  have hP0 := fun W h => Pack_any A0 n0 c0 l0 W h q0 k0 (by omega) (by omega)
  have hH0 := fun W h => HPack_any A0 n0 c0 l0 W h q0 k0 (by omega) (by omega)
  obtain ⟨xn, hxn⟩ : ∃ xn, (packC l0).length = xn := ⟨_, rfl⟩
  have Hxn := Lib.hid hxn
  clear hxn
  generalize packC l0 = X at *
  go_enter Try.func3, Try.ntmps3
  go_wp2_with fail
  refine (Unpack_any A0 n0 c0 l0 _ h0 q0 k0 (by omega) (by omega)).mono ?_
  rintro e w1 ⟨v1, rfl, ho1, hb⟩
  go_wp2_with fail
  refine (HUnpack_any A0 n0 c0 l0 _ (h0.below hb) q0 (by omega)).mono ?_
  rintro e w2 ⟨v2, rfl, ho2, hb2⟩
  generalize unpackC l0 = U at *
  obtain ⟨u, er⟩ := U
  simp only at ho1 ho2 hbyU ⊢
  obtain ⟨un, hun⟩ : ∃ un, u.length = un := ⟨_, rfl⟩
  obtain ⟨Ax, cx, rfl, _, _, hx⟩ := ho1.formN hun
  obtain ⟨Ay, cy, rfl, _, _, hy⟩ := ho2.formN hun
  replace hx := hx.below hb2
  replace hb := bthen hb hb2
  clear ho1 ho2 hb2 hun
  go_wp2_with fail
  refine (Parts_any A0 n0 c0 l0 _ (h0.below hb) q0 k0 (by omega) (by omega)).mono ?_
  rintro e w3 ⟨k, AP, AQ, cP, cQ, ps, hk, rfl, hP, hQ, hparts, hb3⟩
  replace hx := hx.below hb3
  replace hy := hy.below hb3
  replace hb := bthen hb hb3
  rw [parts_len] at hk
  have hkn : k ≤ n0 := by rw [hk, ← Hl0.out]; exact List.count_le_length
  have Hk := Lib.hid hk
  clear hk hb3
  go_upto_region 4 with fail
  go_cut [55] (fun s55 wx => s55 = .bool false ∧ Below w3.heap.size w3 wx)
  case first =>
    have h0' := h0.below hb
    have hB : Below w3.heap.size w3 w3.drew := (Below.refl _ _).drew
    clear hP hQ hparts
    refine wp_region_B (by kernel_rfl) ?_
    refine wpAnyB_take (i := 0) (oi := { dst := some 30, op := Op.move (Go.Operand.tmp 4), type := 23, pos := "cobs.go:14", after := #[], guard := none }) (v := ?v1) rfl (by kernel_rfl) (by kernel_rfl) (by kernel_rfl) (fun _ _ _ h => h) (Or.inl ⟨by rfl, ?hy1⟩) ?rs1
    case hy1 => (intro W hW; go_simp; try with_reducible rfl)
    try simp only [Act.put, List.setIfInBounds_toArray, List.set_cons_zero, List.set_cons_succ]
    refine wpAnyB_take (i := 1) (oi := { dst := some 31, op := Op.move (Go.Operand.tmp 6), type := 23, pos := "cobs.go:14", after := #[], guard := none }) (v := ?v2) rfl (by kernel_rfl) (by kernel_rfl) (by kernel_rfl) (fun _ _ _ h => h) (Or.inl ⟨by rfl, ?hy2⟩) ?rs2
    case hy2 => (intro W hW; go_simp; try with_reducible rfl)
    try simp only [Act.put, List.setIfInBounds_toArray, List.set_cons_zero, List.set_cons_succ]
    refine wpAnyB_take (i := 2) (oi := { dst := some 32, op := Op.binOp Go.BinOp.neq 23 (Go.Operand.tmp 30) (Go.Operand.tmp 31) 23, type := 4, pos := "cobs.go:14", after := #[{ on := 0, ground := Ground.data }, { on := 1, ground := Ground.data }], guard := none }) (v := ?v3) rfl (by kernel_rfl) (by kernel_rfl) (by kernel_rfl) (fun _ _ _ h => h) (Or.inl ⟨by rfl, ?hy3⟩) ?rs3
    case hy3 => (intro W hW; go_simp; try with_reducible rfl)
    try simp only [Act.put, List.setIfInBounds_toArray, List.set_cons_zero, List.set_cons_succ]
    refine wpAnyB_take (i := 3) (oi := { dst := some 33, op := Op.move (Go.Operand.tmp 32), type := 4, pos := "cobs.go:14", after := #[{ on := 2, ground := Ground.data }], guard := none }) (v := ?v4) rfl (by kernel_rfl) (by kernel_rfl) (by kernel_rfl) (fun _ _ _ h => h) (Or.inl ⟨by rfl, ?hy4⟩) ?rs4
    case hy4 => (intro W hW; go_simp; try with_reducible rfl)
    try simp only [Act.put, List.setIfInBounds_toArray, List.set_cons_zero, List.set_cons_succ]
    refine wpAnyB_take (i := 4) (oi := { dst := some 34, op := Op.move (Go.Operand.tmp 3), type := 22, pos := "cobs.go:14", after := #[{ on := 3, ground := Ground.guard }], guard := some (3, false) }) (v := ?v5) rfl (by kernel_rfl) (by kernel_rfl) (by kernel_rfl) (fun _ _ _ h => h) (Or.inl ⟨by rfl, ?hy5⟩) ?rs5
    case hy5 => (intro W hW; go_simp; try with_reducible rfl)
    try simp only [Act.put, List.setIfInBounds_toArray, List.set_cons_zero, List.set_cons_succ]
    refine wpAnyB_take (i := 5) (oi := { dst := some 35, op := Op.convert 22 9 (Go.Operand.tmp 34), type := 9, pos := "cobs.go:14", after := #[{ on := 4, ground := Ground.data }, { on := 3, ground := Ground.guard }], guard := some (3, false) }) (v := ?v6) rfl (by kernel_rfl) (by kernel_rfl) (by kernel_rfl) (fun _ _ _ h => h) (Or.inl ⟨by rfl, ?hy6⟩) ?rs6
    case hy6 => (intro W hW; have hcv := run_bytes (P := Try.prog) Try.underlying22 Try.underlying5 Try.underlying9 cx (hx.drew.below hW); go_simp; try with_reducible rfl)
    try simp only [Act.put, List.setIfInBounds_toArray, List.set_cons_zero, List.set_cons_succ]
    refine wpAnyB_take (i := 6) (oi := { dst := some 36, op := Op.move (Go.Operand.tmp 5), type := 22, pos := "cobs.go:14", after := #[{ on := 3, ground := Ground.guard }], guard := some (3, false) }) (v := ?v7) rfl (by kernel_rfl) (by kernel_rfl) (by kernel_rfl) (fun _ _ _ h => h) (Or.inl ⟨by rfl, ?hy7⟩) ?rs7
    case hy7 => (intro W hW; go_simp; try with_reducible rfl)
    try simp only [Act.put, List.setIfInBounds_toArray, List.set_cons_zero, List.set_cons_succ]
    refine wpAnyB_take (i := 7) (oi := { dst := some 37, op := Op.convert 22 9 (Go.Operand.tmp 36), type := 9, pos := "cobs.go:14", after := #[{ on := 6, ground := Ground.data }, { on := 3, ground := Ground.guard }], guard := some (3, false) }) (v := ?v8) rfl (by kernel_rfl) (by kernel_rfl) (by kernel_rfl) (fun _ _ _ h => h) (Or.inl ⟨by rfl, ?hy8⟩) ?rs8
    case hy8 => (intro W hW; have hcv := run_bytes (P := Try.prog) Try.underlying22 Try.underlying5 Try.underlying9 cy (hy.drew.below hW); go_simp; try with_reducible rfl)
    try simp only [Act.put, List.setIfInBounds_toArray, List.set_cons_zero, List.set_cons_succ]
    refine wpAnyB_take (i := 8) (oi := { dst := some 38, op := Op.binOp Go.BinOp.neq 9 (Go.Operand.tmp 35) (Go.Operand.tmp 37) 9, type := 4, pos := "cobs.go:14", after := #[{ on := 5, ground := Ground.data }, { on := 7, ground := Ground.data }, { on := 3, ground := Ground.guard }], guard := some (3, false) }) (v := ?v9) rfl (by kernel_rfl) (by kernel_rfl) (by kernel_rfl) (fun _ _ _ h => h) (Or.inl ⟨by rfl, ?hy9⟩) ?rs9
    case hy9 => (intro W hW; go_simp; try with_reducible rfl)
    try simp only [Act.put, List.setIfInBounds_toArray, List.set_cons_zero, List.set_cons_succ]
    refine wpAnyB_take (i := 9) (oi := { dst := some 39, op := Op.pick (Go.Operand.tmp 33) (Go.Operand.const (Go.Value.bool true)) (Go.Operand.tmp 38), type := 4, pos := "cobs.go:14", after := #[{ on := 3, ground := Ground.data }, { on := 8, ground := Ground.data }], guard := none }) (v := ?v10) rfl (by kernel_rfl) (by kernel_rfl) (by kernel_rfl) (fun _ _ _ h => h) (Or.inl ⟨by rfl, ?hy10⟩) ?rs10
    case hy10 => (intro W hW; go_simp; try with_reducible rfl)
    try simp only [Act.put, List.setIfInBounds_toArray, List.set_cons_zero, List.set_cons_succ]
    refine wpAnyB_take (i := 10) (oi := { dst := some 40, op := Op.move (Go.Operand.tmp 39), type := 4, pos := "cobs.go:14", after := #[{ on := 9, ground := Ground.data }, { on := 3, ground := Ground.chain }], guard := none }) (v := ?v11) rfl (by kernel_rfl) (by kernel_rfl) (by kernel_rfl) (fun _ _ _ h => h) (Or.inl ⟨by rfl, ?hy11⟩) ?rs11
    case hy11 => (intro W hW; go_simp; try with_reducible rfl)
    try simp only [Act.put, List.setIfInBounds_toArray, List.set_cons_zero, List.set_cons_succ]
    refine wpAnyB_take (i := 11) (oi := { dst := some 41, op := Op.move (Go.Operand.tmp 0), type := 22, pos := "cobs.go:14", after := #[{ on := 10, ground := Ground.guard }], guard := some (10, false) }) (v := ?v12) rfl (by kernel_rfl) (by kernel_rfl) (by kernel_rfl) (fun _ _ _ h => h) (Or.inl ⟨by rfl, ?hy12⟩) ?rs12
    case hy12 => (intro W hW; go_simp; try with_reducible rfl)
    try simp only [Act.put, List.setIfInBounds_toArray, List.set_cons_zero, List.set_cons_succ]
    refine wpAnyB_take (i := 14) (oi := { dst := some 44, op := Op.move (Go.Operand.tmp 0), type := 22, pos := "cobs.go:14", after := #[{ on := 10, ground := Ground.guard }], guard := some (10, false) }) (v := ?v13) rfl (by kernel_rfl) (by kernel_rfl) (by kernel_rfl) (fun _ _ _ h => h) (Or.inl ⟨by rfl, ?hy13⟩) ?rs13
    case hy13 => (intro W hW; go_simp; try with_reducible rfl)
    try simp only [Act.put, List.setIfInBounds_toArray, List.set_cons_zero, List.set_cons_succ]
    refine wpAnyB_one (i := 12) (o := { dst := some 42, op := Op.call { callee := Callee.value (Go.Operand.func 12), args := #[Go.Operand.tmp 41], argTypes := #[22] }, type := 22, pos := "cobs.go:14", after := #[{ on := 11, ground := Ground.data }, { on := 10, ground := Ground.chain }, { on := 10, ground := Ground.guard }], guard := some (10, false) }) (by kernel_rfl) rfl (fun K hK => ?_)
    go_simp
    refine (hP0 _ (h0'.below hB)).mono ?_; rintro e w7 ⟨v7, rfl, ho7, hbk⟩; replace hB := bthen hB hbk; obtain ⟨A7, c7, rfl, _, _, r7⟩ := ho7.formN Hxn.out; clear ho7
    refine hK.out _ _ hbk ?_
    clear hK K
    try simp only [Act.put, List.setIfInBounds_toArray, List.set_cons_zero, List.set_cons_succ]
    refine wpAnyB_take (i := 13) (oi := { dst := some 43, op := Op.convert 22 9 (Go.Operand.tmp 42), type := 9, pos := "cobs.go:14", after := #[{ on := 12, ground := Ground.data }, { on := 10, ground := Ground.guard }], guard := some (10, false) }) (v := ?v14) rfl (by kernel_rfl) (by kernel_rfl) (by kernel_rfl) (fun _ _ _ h => h) (Or.inl ⟨by rfl, ?hy14⟩) ?rs14
    case hy14 => (intro W hW; have hcv := run_bytes (P := Try.prog) Try.underlying22 Try.underlying5 Try.underlying9 c7 (r7.below hW); go_simp; try with_reducible rfl)
    try simp only [Act.put, List.setIfInBounds_toArray, List.set_cons_zero, List.set_cons_succ]
    refine wpAnyB_one (i := 15) (o := { dst := some 45, op := Op.call { callee := Callee.value (Go.Operand.func 13), args := #[Go.Operand.tmp 44], argTypes := #[22] }, type := 22, pos := "cobs.go:14", after := #[{ on := 14, ground := Ground.data }, { on := 12, ground := Ground.chain }, { on := 10, ground := Ground.guard }], guard := some (10, false) }) (by kernel_rfl) rfl (fun K hK => ?_)
    go_simp
    refine (hH0 _ (h0'.below hB)).mono ?_; rintro e w8 ⟨v8, rfl, ho8, hbk⟩; replace hB := bthen hB hbk; obtain ⟨A8, c8, rfl, _, _, r8⟩ := ho8.formN Hxn.out; clear ho8
    refine hK.out _ _ hbk ?_
    clear hK K
    try simp only [Act.put, List.setIfInBounds_toArray, List.set_cons_zero, List.set_cons_succ]
    refine wpAnyB_take (i := 16) (oi := { dst := some 46, op := Op.convert 22 9 (Go.Operand.tmp 45), type := 9, pos := "cobs.go:14", after := #[{ on := 15, ground := Ground.data }, { on := 10, ground := Ground.guard }], guard := some (10, false) }) (v := ?v15) rfl (by kernel_rfl) (by kernel_rfl) (by kernel_rfl) (fun _ _ _ h => h) (Or.inl ⟨by rfl, ?hy15⟩) ?rs15
    case hy15 => (intro W hW; have hcv := run_bytes (P := Try.prog) Try.underlying22 Try.underlying5 Try.underlying9 c8 (r8.below hW); go_simp; try with_reducible rfl)
    try simp only [Act.put, List.setIfInBounds_toArray, List.set_cons_zero, List.set_cons_succ]
    refine wpAnyB_take (i := 17) (oi := { dst := some 47, op := Op.binOp Go.BinOp.neq 9 (Go.Operand.tmp 43) (Go.Operand.tmp 46) 9, type := 4, pos := "cobs.go:14", after := #[{ on := 13, ground := Ground.data }, { on := 16, ground := Ground.data }, { on := 10, ground := Ground.guard }], guard := some (10, false) }) (v := ?v16) rfl (by kernel_rfl) (by kernel_rfl) (by kernel_rfl) (fun _ _ _ h => h) (Or.inl ⟨by rfl, ?hy16⟩) ?rs16
    case hy16 => (intro W hW; go_simp; try with_reducible rfl)
    try simp only [Act.put, List.setIfInBounds_toArray, List.set_cons_zero, List.set_cons_succ]
    refine wpAnyB_take (i := 18) (oi := { dst := some 48, op := Op.pick (Go.Operand.tmp 40) (Go.Operand.const (Go.Value.bool true)) (Go.Operand.tmp 47), type := 4, pos := "cobs.go:14", after := #[{ on := 10, ground := Ground.data }, { on := 17, ground := Ground.data }], guard := none }) (v := ?v17) rfl (by kernel_rfl) (by kernel_rfl) (by kernel_rfl) (fun _ _ _ h => h) (Or.inl ⟨by rfl, ?hy17⟩) ?rs17
    case hy17 => (intro W hW; go_simp; try with_reducible rfl)
    try simp only [Act.put, List.setIfInBounds_toArray, List.set_cons_zero, List.set_cons_succ]
    refine wpAnyB_take (i := 19) (oi := { dst := some 49, op := Op.move (Go.Operand.tmp 48), type := 4, pos := "cobs.go:14", after := #[{ on := 18, ground := Ground.data }, { on := 15, ground := Ground.chain }], guard := none }) (v := ?v18) rfl (by kernel_rfl) (by kernel_rfl) (by kernel_rfl) (fun _ _ _ h => h) (Or.inl ⟨by rfl, ?hy18⟩) ?rs18
    case hy18 => (intro W hW; go_simp; try with_reducible rfl)
    try simp only [Act.put, List.setIfInBounds_toArray, List.set_cons_zero, List.set_cons_succ]
    refine wpAnyB_take (i := 20) (oi := { dst := some 50, op := Op.move (Go.Operand.tmp 7), type := 26, pos := "cobs.go:14", after := #[{ on := 19, ground := Ground.guard }], guard := some (19, false) }) (v := ?v19) rfl (by kernel_rfl) (by kernel_rfl) (by kernel_rfl) (fun _ _ _ h => h) (Or.inl ⟨by rfl, ?hy19⟩) ?rs19
    case hy19 => (intro W hW; go_simp; try with_reducible rfl)
    try simp only [Act.put, List.setIfInBounds_toArray, List.set_cons_zero, List.set_cons_succ]
    refine wpAnyB_take (i := 21) (oi := { dst := some 51, op := Op.call { callee := Callee.builtin Builtin.len, args := #[Go.Operand.tmp 50], argTypes := #[26] }, type := 3, pos := "cobs.go:14", after := #[{ on := 20, ground := Ground.data }, { on := 19, ground := Ground.guard }], guard := some (19, false) }) (v := ?v20) rfl (by kernel_rfl) (by kernel_rfl) (by kernel_rfl) (fun _ _ _ h => h) (Or.inl ⟨by rfl, ?hy20⟩) ?rs20
    case hy20 => (intro W hW; go_simp; try with_reducible rfl)
    try simp only [Act.put, List.setIfInBounds_toArray, List.set_cons_zero, List.set_cons_succ]
    refine wpAnyB_take (i := 22) (oi := { dst := some 52, op := Op.move (Go.Operand.tmp 8), type := 27, pos := "cobs.go:14", after := #[{ on := 19, ground := Ground.guard }], guard := some (19, false) }) (v := ?v21) rfl (by kernel_rfl) (by kernel_rfl) (by kernel_rfl) (fun _ _ _ h => h) (Or.inl ⟨by rfl, ?hy21⟩) ?rs21
    case hy21 => (intro W hW; go_simp; try with_reducible rfl)
    try simp only [Act.put, List.setIfInBounds_toArray, List.set_cons_zero, List.set_cons_succ]
    refine wpAnyB_take (i := 23) (oi := { dst := some 53, op := Op.call { callee := Callee.builtin Builtin.len, args := #[Go.Operand.tmp 52], argTypes := #[27] }, type := 3, pos := "cobs.go:14", after := #[{ on := 22, ground := Ground.data }, { on := 19, ground := Ground.guard }], guard := some (19, false) }) (v := ?v22) rfl (by kernel_rfl) (by kernel_rfl) (by kernel_rfl) (fun _ _ _ h => h) (Or.inl ⟨by rfl, ?hy22⟩) ?rs22
    case hy22 => (intro W hW; go_simp; try with_reducible rfl)
    try simp only [Act.put, List.setIfInBounds_toArray, List.set_cons_zero, List.set_cons_succ]
    refine wpAnyB_take (i := 24) (oi := { dst := some 54, op := Op.binOp Go.BinOp.neq 3 (Go.Operand.tmp 51) (Go.Operand.tmp 53) 3, type := 4, pos := "cobs.go:14", after := #[{ on := 21, ground := Ground.data }, { on := 23, ground := Ground.data }, { on := 19, ground := Ground.guard }], guard := some (19, false) }) (v := ?v23) rfl (by kernel_rfl) (by kernel_rfl) (by kernel_rfl) (fun _ _ _ h => h) (Or.inl ⟨by rfl, ?hy23⟩) ?rs23
    case hy23 => (intro W hW; go_simp; try with_reducible rfl)
    try simp only [Act.put, List.setIfInBounds_toArray, List.set_cons_zero, List.set_cons_succ]
    refine wpAnyB_take (i := 25) (oi := { dst := some 55, op := Op.pick (Go.Operand.tmp 49) (Go.Operand.const (Go.Value.bool true)) (Go.Operand.tmp 54), type := 4, pos := "cobs.go:14", after := #[{ on := 19, ground := Ground.data }, { on := 24, ground := Ground.data }], guard := none }) (v := ?v24) rfl (by kernel_rfl) (by kernel_rfl) (by kernel_rfl) (fun _ _ _ h => h) (Or.inl ⟨by rfl, ?hy24⟩) ?rs24
    case hy24 => (intro W hW; go_simp; try with_reducible rfl)
    try simp only [Act.put, List.setIfInBounds_toArray, List.set_cons_zero, List.set_cons_succ]
    refine wpAnyB_done (by kernel_rfl) ?_
    all_goals
      go_wp2_with fail
      go_meet
      exact ⟨rfl, hB⟩
  case rest =>
    obtain ⟨rfl, hc⟩ := hcut
    replace hP := hP.below hc
    replace hQ := hQ.below hc
    replace hb := bthen hb hc
    have Hpt := Lib.hid (fun (i : Nat) p r h1 h2 => (hparts i p r h1 h2).1.below hc)
    have Hsl : Hid ((segsM l0).length = k) := by show _ = _; rw [segs_count, Hk.out]
    clear hparts hc hx hy hP0 hH0 hbyU Hxn
    go_wp2
    go_loopw [9, 10, 58] (fun v9 v10 i wr => ∃ j acc done, TSt wc wr n0 l0 v9 v10 i j acc done) (fun _ _ i _ => n0 - (intOf i).toNat)
    case atStart => exact ⟨0, [], [], ⟨Nat.zero_le _, rfl, rfl, Ow.nil _ _ _ _, Nat.le_refl _, (fun x hx => by cases hx), rfl, Below.refl _ _⟩⟩
    case round =>
      obtain ⟨j, acc, done, hst⟩ := hrel
      obtain ⟨hj, rfl, rfl, ho, hacc, hb8, htot, hbl⟩ := hst
      have hsz := hbl.size
      obtain ⟨d, hd⟩ : ∃ d, done.length = d := ⟨_, rfl⟩
      rw [hd]
      have Hd := Lib.hid hd
      have Htot := Lib.hid htot
      have hdk : d ≤ k := by
        have := congrArg List.length htot
        rw [List.length_append, hd, Hsl.out] at this
        omega
      clear hd htot
      by_cases hlt : j < n0
      · obtain ⟨ad, x, rfl, hx, hcx⟩ := ((h0.below hb).below hbl).atMap hlt
        have hxb := q0 x (List.mem_of_getElem? hx)
        have Hdr := Lib.hid (drop_cons hx)
        clear hx
        by_cases hx0 : x = 0
        · subst hx0
          have ht := Htot.out
          rw [Hdr.out, segsA, if_pos rfl] at ht
          have hsd : (segsM l0)[d]? = some acc := by rw [← ht, List.getElem?_append_right (by rw [Hd.out]; exact Nat.le_refl _), Hd.out]; simp
          have hdlt : d < k := by have := (List.getElem?_eq_some_iff.1 hsd).1; rw [Hsl.out] at this; exact this
          have hpd : (partsM l0)[d]? = some (unpackC acc) := by unfold partsM; rw [List.getElem?_map, hsd]; rfl
          have Ht : Hid ((done ++ [acc]) ++ segsA [] (l0.drop (j + 1)) = segsM l0) := by show _ = _; rw [← ht]; simp
          obtain ⟨an, han⟩ : ∃ an, acc.length = an := ⟨_, rfl⟩
          obtain ⟨Aa, ca, rfl, hca, hcma, ra⟩ := ho.formN han
          have hH := HUnpack_any Aa an ca acc wr ra hb8 (by omega)
          have hubb := unpack_bytes hb8
          clear ht hsd han
          generalize unpackC acc = Z at *
          obtain ⟨z, g⟩ := Z
          go_wp2_with fail
          refine hH.mono ?_
          rintro e w6 ⟨v6, rfl, ho6, hb6⟩
          simp only at ho6 ⊢
          obtain ⟨zn, hzn⟩ : ∃ zn, z.length = zn := ⟨_, rfl⟩
          obtain ⟨Az, cz, rfl, _, _, rz⟩ := ho6.formN hzn
          replace hbl := bthen hbl hb6
          obtain ⟨adP, p, rfl, hp, hcp⟩ := (hP.below hbl).atMap (k := d) hdlt
          obtain ⟨adQ, ok, rfl, hok, hcok⟩ := (hQ.below hbl).atMap (k := d) hdlt
          obtain rfl : (g == 0) = ok := by
            rw [List.getElem?_map, hpd] at hok
            simpa [okB] using hok
          have hpr := (Hpt.out d p _ hp hpd).below hbl
          obtain ⟨Ap, np, cp⟩ := p
          simp only at hpr
          have hcp' : w6.cell? (adP.add d) = some (.slice Ap np cp) := hcp
          have cv1 := fun q => run_bytes (P := Try.prog) Try.underlying22 Try.underlying5 Try.underlying9 cp (hpr.drewN q)
          have cv2 := fun q => run_bytes (P := Try.prog) Try.underlying22 Try.underlying5 Try.underlying9 cz (rz.drewN q)
          have g1 : decide ((k : Int) ≤ (d : Int)) = false := by simp; omega
          clear hcp hp hok ho6 hb6 hH hzn hpd ho ra hca hcma hcx
          go_wp2_with fail
          go_quiet (fail)
          go_wp2
          go_roundw
          case rel => exact ⟨j + 1, [], done ++ [acc], ⟨by omega, by go_num, by rw [List.length_append, Hd.out]; go_num, Ow.nil _ _ _ _, by simp, (fun x hx => by cases hx), Ht.out, bthen hbl (below_draws ⟨_, rfl⟩)⟩⟩
          case measure => simp [intOf] <;> omega
        · have hxq : (x != 0) = true := by simpa using hx0
          have Ht : Hid (done ++ segsA (acc ++ [x]) (l0.drop (j + 1)) = segsM l0) := by
            show _ = _
            rw [← Htot.out, Hdr.out]
            conv => rhs; rw [segsA, if_neg hx0]
          go_wp2_with (at_builtin; refine wpList_apW (Value.int .u8) _ elByte rfl rfl (one_int .u8) wc.heap.size _ acc rfl (ho.alloc _) _ 1 1 [x] rfl (Rd.oneM (Value.int .u8) _ _ _) (le_alloc hsz) (by simp; omega) (by decide) ?_; intro v3 w3' ho3 hm3)
          go_roundw
          case rel => exact ⟨j + 1, acc ++ [x], done, ⟨by omega, by go_num, by rw [Hd.out], ho3, by simp; omega, fun y hy => (List.mem_append.1 hy).elim (hb8 y) (fun h => by rw [List.mem_singleton.1 h]; exact hxb), Ht.out, hm3.below (hbl.alloc hsz _) (le_alloc hsz) ho.block⟩⟩
          case measure => simp [intOf] <;> omega
      · obtain rfl : j = n0 := by omega
        have hdk2 : d = k := by
          have ht := congrArg List.length Htot.out
          rw [List.drop_eq_nil_of_le (by rw [Hl0.out]; exact Nat.le_refl _), segsA, List.append_nil, Hd.out, Hsl.out] at ht
          exact ht
        subst hdk2
        go_wp2
        go_ret
        exact ⟨by simp, bthen hb hbl⟩
end Go.Proofs.Ytmehdlnhllafaaa
