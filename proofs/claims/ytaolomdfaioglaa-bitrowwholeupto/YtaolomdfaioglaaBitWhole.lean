/-
  BitrowWhole's walk.
-/
import Derived.Test.YtaolomdfaioglaaBitLaws
import Derived.Test.YtaolomdfaioglaaRegion
namespace Go.Proofs.Ytaolomdfaioglaa
open Go.RowKit
set_option linter.unusedVariables false
set_option linter.unusedSimpArgs false

set_option maxHeartbeats 4000000 in
theorem BitrowWhole_walk (A0 : Option Addr) (n0 c0 : Nat) (l0 : List Int) (A1 : Option Addr) (n1 c1 : Nat) (l1 : List Bool) (w : World)
    (h0 : Rd w 1 A0 n0 (l0.map (Value.int .u8))) (w0 : ∀ x ∈ l0, (Lit.int .u8 x).wf = true) (k0 : n0 ≤ c0) (b0 : c0 ≤ 1048576)
    (h1 : Rd w 1 A1 n1 (l1.map Value.bool)) (k1 : n1 ≤ c1) (b1 : c1 ≤ 1048576) :
    Calls Try.prog 8 #[.slice A0 n0 c0, .slice A1 n1 c1] w fun e w' => e = .returned (.bool true) ∧ Below w.heap.size w w' := by
  have q0 : Byte8 l0 := fun x hx => by have := wf_u8 (w0 x hx); omega
  clear w0
  have hbl := bytesOf_length l1
  rw [h1.lenMap] at hbl
  have hrange := bytesOf_range l1
  obtain ⟨kk, hk8, hwh⟩ := bits_of_bytes l1
  have hback := bytes_of_bits l0 q0
  have hol := ofBytes_length l0
  rw [h0.lenMap] at hol
  replace hol : (ofBytes l0).length ≤ 8388608 := by omega
  go_enter Try.func8, Try.ntmps8
  go_wp2_with fail
  refine (alive1_any _).mono ?_
  rintro e wa ⟨rfl, hba⟩
  go_wp2_with fail
  refine (Bytes_any A1 n1 c1 l1 _ (h1.below hba) k1 (by omega) (by omega)).mono ?_
  intro e wb hh
  obtain ⟨Ax, cx, rfl, hox, hbx⟩ := Ow.sl hh
  have hb := bthen hba hbx
  clear hh
  go_wp2_with fail
  refine (Of_any Ax _ cx (bytesOf l1) _ hox.rd hrange (by omega)).mono ?_
  intro e wc hh
  obtain ⟨Ay, cy, rfl, hoy, hby⟩ := Ow.sl hh
  replace hb := bthen hb hby
  have hry := hoy.rd
  have hcy := hoy.len.2.1
  have hll := h1.lenMap
  rw [hwh] at hry hcy ⊢
  obtain ⟨Ly, hLy⟩ : ∃ Ly, Ly = n1 + kk := ⟨_, rfl⟩
  have hly : (l1 ++ List.replicate kk false).length = Ly := by simp [hll, hLy]
  rw [hly] at hry hcy ⊢
  have htk := hry.take (k := n1) (by omega)
  have hdr := hry.cut (k := n1) (cap := cy) (by omega) hcy
  rw [Nat.mul_one, ← List.map_take, List.take_left' hll] at htk
  rw [Nat.mul_one, ← List.map_drop, List.drop_left' hll] at hdr
  have Hback := Lib.hid hback
  have hcy2 : cy ≤ 9223372036854775807 := by have := hoy.len.2.2; unfold maxLen at this; omega
  clear hh hback hox hbx hoy hby hba hwh hly hll hrange hry hbl
  have hg1 : decide ((n1 : Int) ≤ (Ly : Int)) = true := by simp; omega
  have hg2 : decide ((Ly : Int) < (n1 : Int) + 8) = true := by simp; omega
  have hL1 : n1 ≤ Ly := by omega
  have hL2 : (n1 : Int) ≤ (Ly : Int) := by omega
  have hL3 : Ly - n1 ≤ 8 := by omega
  have hL4 : (n1 : Int) ≤ (cy : Int) := by omega
  have hL5 : (Ly : Int) ≤ (cy : Int) := by omega
  have hL6 : (0 : Int) ≤ (n1 : Int) := by omega
  clear hLy
  have hwrap : IntKind.i64.wrap ((n1 : Int) + 8) = (n1 : Int) + 8 := IntWalk.i64_in _ (by omega)
  have hcv0 : ∀ W : World, Below w.heap.size w W → (convert 23 9 (.slice A0 n0 c0)).run Try.prog W = .ok (.string (strOfNums l0)) W := fun W hW => run_bytes Try.underlying23 Try.underlying5 Try.underlying9 c0 (h0.below hW)
  have hbd := hb.drew
  have hn0 : n0 ≤ 1048576 := by omega
  clear k0 b0
  obtain ⟨An, hAn⟩ : ∃ An, An = (if cy = n1 then Ay else Option.map (fun x => x.add n1) Ay) := ⟨_, rfl⟩
  rw [← hAn] at hdr
  have hsl : ∀ W : World, (Instr.slice 22 (.slice Ay Ly cy) (some (.int .i64 n1)) none none).run Try.prog W = .ok (.slice An (Ly - n1) (cy - n1)) W := by
    intro W
    rw [hAn]
    simpa using run_from elBool W Ay Ly cy n1 (by omega)
  clear hAn
  clear hcv0
  go_wp2_with fail
  refine wp_region_B (by kernel_rfl) ?_
  refine wpAnyB_take (i := 0) (oi := { dst := some 13, op := Op.move (Go.Operand.tmp 0), type := 23, pos := "bitrow.go:79", after := #[], guard := none }) (v := ?v1) rfl (by kernel_rfl) (by kernel_rfl) (by kernel_rfl) (fun _ _ _ h => h) (Or.inl ⟨by rfl, ?hy1⟩) ?rs1
  case hy1 => (intro W hW; go_simp; try with_reducible rfl)
  try simp only [Act.put, List.setIfInBounds_toArray, List.set_cons_zero, List.set_cons_succ]
  refine wpAnyB_take (i := 4) (oi := { dst := some 17, op := Op.move (Go.Operand.tmp 0), type := 23, pos := "bitrow.go:79", after := #[], guard := none }) (v := ?v2) rfl (by kernel_rfl) (by kernel_rfl) (by kernel_rfl) (fun _ _ _ h => h) (Or.inl ⟨by rfl, ?hy2⟩) ?rs2
  case hy2 => (intro W hW; go_simp; try with_reducible rfl)
  try simp only [Act.put, List.setIfInBounds_toArray, List.set_cons_zero, List.set_cons_succ]
  refine wpAnyB_take (i := 5) (oi := { dst := some 18, op := Op.convert 23 9 (Go.Operand.tmp 17), type := 9, pos := "bitrow.go:79", after := #[{ on := 4, ground := Ground.data }], guard := none }) (v := ?v3) rfl (by kernel_rfl) (by kernel_rfl) (by kernel_rfl) (fun _ _ _ h => h) (Or.inl ⟨by rfl, ?hy3⟩) ?rs3
  case hy3 => (intro W hW; have hcv := run_bytes Try.underlying23 Try.underlying5 Try.underlying9 c0 (h0.below (bthen hbd hW)); go_simp; try with_reducible rfl)
  try simp only [Act.put, List.setIfInBounds_toArray, List.set_cons_zero, List.set_cons_succ]
  refine wpAnyB_one (i := 1) (o := { dst := some 14, op := Op.call { callee := Callee.value (Go.Operand.func 13), args := #[Go.Operand.tmp 13], argTypes := #[23] }, type := 22, pos := "bitrow.go:79", after := #[{ on := 0, ground := Ground.data }], guard := none }) (by kernel_rfl) rfl (fun K hK => ?_)
  go_simp
  refine (Of_any _ _ _ l0 _ (h0.below hbd) q0 (by omega)).mono ?_; intro e w4 hh; obtain ⟨A4, c4, rfl, ho4, hbk⟩ := Ow.sl hh; clear hh; have hb4' := bthen hbd hbk; have hb4 := hbk; have hm4 : c4 ≤ 9223372036854775807 := (by have := ho4.len.2.2; unfold maxLen at this; omega)
  refine hK.out _ _ hbk ?_
  clear hK K
  try simp only [Act.put, List.setIfInBounds_toArray, List.set_cons_zero, List.set_cons_succ]
  refine wpAnyB_one (i := 2) (o := { dst := some 15, op := Op.call { callee := Callee.value (Go.Operand.func 15), args := #[Go.Operand.tmp 14], argTypes := #[22] }, type := 23, pos := "bitrow.go:79", after := #[{ on := 1, ground := Ground.data }, { on := 1, ground := Ground.chain }], guard := none }) (by kernel_rfl) rfl (fun K hK => ?_)
  go_simp
  refine (Bytes_any _ _ _ (ofBytes l0) _ ho4.rd ho4.len.2.1 (by omega) hm4).mono ?_; intro e w5 hh; rw [Hback.out] at hh; obtain ⟨A5, c5, rfl, ho5, hbk⟩ := Ow.sl hh; clear hh; have hb5' := bthen hb4' hbk; have hb5 := hbk
  refine hK.out _ _ hbk ?_
  clear hK K
  try simp only [Act.put, List.setIfInBounds_toArray, List.set_cons_zero, List.set_cons_succ]
  refine wpAnyB_take (i := 3) (oi := { dst := some 16, op := Op.convert 23 9 (Go.Operand.tmp 15), type := 9, pos := "bitrow.go:79", after := #[{ on := 2, ground := Ground.data }], guard := none }) (v := ?v4) rfl (by kernel_rfl) (by kernel_rfl) (by kernel_rfl) (fun _ _ _ h => h) (Or.inl ⟨by rfl, ?hy4⟩) ?rs4
  case hy4 => (intro W hW; have hcv := run_bytes Try.underlying23 Try.underlying5 Try.underlying9 c5 (ho5.rd.below hW); go_simp; try with_reducible rfl)
  try simp only [Act.put, List.setIfInBounds_toArray, List.set_cons_zero, List.set_cons_succ]
  refine wpAnyB_take (i := 6) (oi := { dst := some 19, op := Op.binOp Go.BinOp.eql 9 (Go.Operand.tmp 16) (Go.Operand.tmp 18) 9, type := 4, pos := "bitrow.go:79", after := #[{ on := 3, ground := Ground.data }, { on := 5, ground := Ground.data }], guard := none }) (v := ?v5) rfl (by kernel_rfl) (by kernel_rfl) (by kernel_rfl) (fun _ _ _ h => h) (Or.inl ⟨by rfl, ?hy5⟩) ?rs5
  case hy5 => (intro W hW; go_simp; try with_reducible rfl)
  try simp only [Act.put, List.setIfInBounds_toArray, List.set_cons_zero, List.set_cons_succ]
  refine wpAnyB_take (i := 7) (oi := { dst := some 20, op := Op.move (Go.Operand.tmp 19), type := 4, pos := "bitrow.go:79", after := #[{ on := 6, ground := Ground.data }, { on := 2, ground := Ground.chain }], guard := none }) (v := ?v6) rfl (by kernel_rfl) (by kernel_rfl) (by kernel_rfl) (fun _ _ _ h => h) (Or.inl ⟨by rfl, ?hy6⟩) ?rs6
  case hy6 => (intro W hW; go_simp; try with_reducible rfl)
  try simp only [Act.put, List.setIfInBounds_toArray, List.set_cons_zero, List.set_cons_succ]
  refine wpAnyB_take (i := 8) (oi := { dst := some 21, op := Op.move (Go.Operand.tmp 6), type := 22, pos := "bitrow.go:79", after := #[{ on := 7, ground := Ground.guard }], guard := some (7, true) }) (v := ?v7) rfl (by kernel_rfl) (by kernel_rfl) (by kernel_rfl) (fun _ _ _ h => h) (Or.inl ⟨by rfl, ?hy7⟩) ?rs7
  case hy7 => (intro W hW; go_simp; try with_reducible rfl)
  try simp only [Act.put, List.setIfInBounds_toArray, List.set_cons_zero, List.set_cons_succ]
  refine wpAnyB_take (i := 9) (oi := { dst := some 22, op := Op.call { callee := Callee.builtin Builtin.len, args := #[Go.Operand.tmp 21], argTypes := #[22] }, type := 3, pos := "bitrow.go:79", after := #[{ on := 8, ground := Ground.data }, { on := 7, ground := Ground.guard }], guard := some (7, true) }) (v := ?v8) rfl (by kernel_rfl) (by kernel_rfl) (by kernel_rfl) (fun _ _ _ h => h) (Or.inl ⟨by rfl, ?hy8⟩) ?rs8
  case hy8 => (intro W hW; go_simp; try with_reducible rfl)
  try simp only [Act.put, List.setIfInBounds_toArray, List.set_cons_zero, List.set_cons_succ]
  refine wpAnyB_take (i := 10) (oi := { dst := some 23, op := Op.move (Go.Operand.tmp 1), type := 22, pos := "bitrow.go:79", after := #[{ on := 7, ground := Ground.guard }], guard := some (7, true) }) (v := ?v9) rfl (by kernel_rfl) (by kernel_rfl) (by kernel_rfl) (fun _ _ _ h => h) (Or.inl ⟨by rfl, ?hy9⟩) ?rs9
  case hy9 => (intro W hW; go_simp; try with_reducible rfl)
  try simp only [Act.put, List.setIfInBounds_toArray, List.set_cons_zero, List.set_cons_succ]
  refine wpAnyB_take (i := 11) (oi := { dst := some 24, op := Op.call { callee := Callee.builtin Builtin.len, args := #[Go.Operand.tmp 23], argTypes := #[22] }, type := 3, pos := "bitrow.go:79", after := #[{ on := 10, ground := Ground.data }, { on := 7, ground := Ground.guard }], guard := some (7, true) }) (v := ?v10) rfl (by kernel_rfl) (by kernel_rfl) (by kernel_rfl) (fun _ _ _ h => h) (Or.inl ⟨by rfl, ?hy10⟩) ?rs10
  case hy10 => (intro W hW; go_simp; try with_reducible rfl)
  try simp only [Act.put, List.setIfInBounds_toArray, List.set_cons_zero, List.set_cons_succ]
  refine wpAnyB_take (i := 12) (oi := { dst := some 25, op := Op.binOp Go.BinOp.geq 3 (Go.Operand.tmp 22) (Go.Operand.tmp 24) 3, type := 4, pos := "bitrow.go:79", after := #[{ on := 9, ground := Ground.data }, { on := 11, ground := Ground.data }, { on := 7, ground := Ground.guard }], guard := some (7, true) }) (v := ?v11) rfl (by kernel_rfl) (by kernel_rfl) (by kernel_rfl) (fun _ _ _ h => h) (Or.inl ⟨by rfl, ?hy11⟩) ?rs11
  case hy11 => (intro W hW; go_simp; try with_reducible rfl)
  try simp only [Act.put, List.setIfInBounds_toArray, List.set_cons_zero, List.set_cons_succ]
  refine wpAnyB_take (i := 13) (oi := { dst := some 26, op := Op.pick (Go.Operand.tmp 20) (Go.Operand.tmp 25) (Go.Operand.const (Go.Value.bool false)), type := 4, pos := "bitrow.go:79", after := #[{ on := 7, ground := Ground.data }, { on := 12, ground := Ground.data }], guard := none }) (v := ?v12) rfl (by kernel_rfl) (by kernel_rfl) (by kernel_rfl) (fun _ _ _ h => h) (Or.inl ⟨by rfl, ?hy12⟩) ?rs12
  case hy12 => (intro W hW; go_simp; try with_reducible rfl)
  try simp only [Act.put, List.setIfInBounds_toArray, List.set_cons_zero, List.set_cons_succ]
  refine wpAnyB_take (i := 14) (oi := { dst := some 27, op := Op.move (Go.Operand.tmp 26), type := 4, pos := "bitrow.go:79", after := #[{ on := 13, ground := Ground.data }, { on := 7, ground := Ground.chain }], guard := none }) (v := ?v13) rfl (by kernel_rfl) (by kernel_rfl) (by kernel_rfl) (fun _ _ _ h => h) (Or.inl ⟨by rfl, ?hy13⟩) ?rs13
  case hy13 => (intro W hW; go_simp; try with_reducible rfl)
  try simp only [Act.put, List.setIfInBounds_toArray, List.set_cons_zero, List.set_cons_succ]
  refine wpAnyB_take (i := 15) (oi := { dst := some 28, op := Op.move (Go.Operand.tmp 6), type := 22, pos := "bitrow.go:79", after := #[{ on := 14, ground := Ground.guard }], guard := some (14, true) }) (v := ?v14) rfl (by kernel_rfl) (by kernel_rfl) (by kernel_rfl) (fun _ _ _ h => h) (Or.inl ⟨by rfl, ?hy14⟩) ?rs14
  case hy14 => (intro W hW; go_simp; try with_reducible rfl)
  try simp only [Act.put, List.setIfInBounds_toArray, List.set_cons_zero, List.set_cons_succ]
  refine wpAnyB_take (i := 16) (oi := { dst := some 29, op := Op.call { callee := Callee.builtin Builtin.len, args := #[Go.Operand.tmp 28], argTypes := #[22] }, type := 3, pos := "bitrow.go:79", after := #[{ on := 15, ground := Ground.data }, { on := 14, ground := Ground.guard }], guard := some (14, true) }) (v := ?v15) rfl (by kernel_rfl) (by kernel_rfl) (by kernel_rfl) (fun _ _ _ h => h) (Or.inl ⟨by rfl, ?hy15⟩) ?rs15
  case hy15 => (intro W hW; go_simp; try with_reducible rfl)
  try simp only [Act.put, List.setIfInBounds_toArray, List.set_cons_zero, List.set_cons_succ]
  refine wpAnyB_take (i := 17) (oi := { dst := some 30, op := Op.move (Go.Operand.tmp 1), type := 22, pos := "bitrow.go:79", after := #[{ on := 14, ground := Ground.guard }], guard := some (14, true) }) (v := ?v16) rfl (by kernel_rfl) (by kernel_rfl) (by kernel_rfl) (fun _ _ _ h => h) (Or.inl ⟨by rfl, ?hy16⟩) ?rs16
  case hy16 => (intro W hW; go_simp; try with_reducible rfl)
  try simp only [Act.put, List.setIfInBounds_toArray, List.set_cons_zero, List.set_cons_succ]
  refine wpAnyB_take (i := 18) (oi := { dst := some 31, op := Op.call { callee := Callee.builtin Builtin.len, args := #[Go.Operand.tmp 30], argTypes := #[22] }, type := 3, pos := "bitrow.go:79", after := #[{ on := 17, ground := Ground.data }, { on := 14, ground := Ground.guard }], guard := some (14, true) }) (v := ?v17) rfl (by kernel_rfl) (by kernel_rfl) (by kernel_rfl) (fun _ _ _ h => h) (Or.inl ⟨by rfl, ?hy17⟩) ?rs17
  case hy17 => (intro W hW; go_simp; try with_reducible rfl)
  try simp only [Act.put, List.setIfInBounds_toArray, List.set_cons_zero, List.set_cons_succ]
  refine wpAnyB_take (i := 19) (oi := { dst := some 32, op := Op.binOp Go.BinOp.add 3 (Go.Operand.tmp 31) (Go.Operand.const (Go.Value.int Go.IntKind.i64 8)) 3, type := 3, pos := "bitrow.go:79", after := #[{ on := 18, ground := Ground.data }, { on := 14, ground := Ground.guard }], guard := some (14, true) }) (v := ?v18) rfl (by kernel_rfl) (by kernel_rfl) (by kernel_rfl) (fun _ _ _ h => h) (Or.inl ⟨by rfl, ?hy18⟩) ?rs18
  case hy18 => (intro W hW; go_simp; try with_reducible rfl)
  try simp only [Act.put, List.setIfInBounds_toArray, List.set_cons_zero, List.set_cons_succ]
  refine wpAnyB_take (i := 20) (oi := { dst := some 33, op := Op.binOp Go.BinOp.lss 3 (Go.Operand.tmp 29) (Go.Operand.tmp 32) 3, type := 4, pos := "bitrow.go:79", after := #[{ on := 16, ground := Ground.data }, { on := 19, ground := Ground.data }, { on := 14, ground := Ground.guard }], guard := some (14, true) }) (v := ?v19) rfl (by kernel_rfl) (by kernel_rfl) (by kernel_rfl) (fun _ _ _ h => h) (Or.inl ⟨by rfl, ?hy19⟩) ?rs19
  case hy19 => (intro W hW; go_simp; try with_reducible rfl)
  try simp only [Act.put, List.setIfInBounds_toArray, List.set_cons_zero, List.set_cons_succ]
  refine wpAnyB_take (i := 21) (oi := { dst := some 34, op := Op.pick (Go.Operand.tmp 27) (Go.Operand.tmp 33) (Go.Operand.const (Go.Value.bool false)), type := 4, pos := "bitrow.go:79", after := #[{ on := 14, ground := Ground.data }, { on := 20, ground := Ground.data }], guard := none }) (v := ?v20) rfl (by kernel_rfl) (by kernel_rfl) (by kernel_rfl) (fun _ _ _ h => h) (Or.inl ⟨by rfl, ?hy20⟩) ?rs20
  case hy20 => (intro W hW; go_simp; try with_reducible rfl)
  try simp only [Act.put, List.setIfInBounds_toArray, List.set_cons_zero, List.set_cons_succ]
  refine wpAnyB_take (i := 22) (oi := { dst := some 35, op := Op.move (Go.Operand.tmp 34), type := 4, pos := "bitrow.go:79", after := #[{ on := 21, ground := Ground.data }, { on := 14, ground := Ground.chain }], guard := none }) (v := ?v21) rfl (by kernel_rfl) (by kernel_rfl) (by kernel_rfl) (fun _ _ _ h => h) (Or.inl ⟨by rfl, ?hy21⟩) ?rs21
  case hy21 => (intro W hW; go_simp; try with_reducible rfl)
  try simp only [Act.put, List.setIfInBounds_toArray, List.set_cons_zero, List.set_cons_succ]
  refine wpAnyB_take (i := 23) (oi := { dst := some 36, op := Op.move (Go.Operand.tmp 6), type := 22, pos := "bitrow.go:79", after := #[{ on := 22, ground := Ground.guard }], guard := some (22, true) }) (v := ?v22) rfl (by kernel_rfl) (by kernel_rfl) (by kernel_rfl) (fun _ _ _ h => h) (Or.inl ⟨by rfl, ?hy22⟩) ?rs22
  case hy22 => (intro W hW; go_simp; try with_reducible rfl)
  try simp only [Act.put, List.setIfInBounds_toArray, List.set_cons_zero, List.set_cons_succ]
  refine wpAnyB_take (i := 24) (oi := { dst := some 37, op := Op.move (Go.Operand.tmp 1), type := 22, pos := "bitrow.go:79", after := #[{ on := 22, ground := Ground.guard }], guard := some (22, true) }) (v := ?v23) rfl (by kernel_rfl) (by kernel_rfl) (by kernel_rfl) (fun _ _ _ h => h) (Or.inl ⟨by rfl, ?hy23⟩) ?rs23
  case hy23 => (intro W hW; go_simp; try with_reducible rfl)
  try simp only [Act.put, List.setIfInBounds_toArray, List.set_cons_zero, List.set_cons_succ]
  refine wpAnyB_take (i := 25) (oi := { dst := some 38, op := Op.call { callee := Callee.builtin Builtin.len, args := #[Go.Operand.tmp 37], argTypes := #[22] }, type := 3, pos := "bitrow.go:79", after := #[{ on := 24, ground := Ground.data }, { on := 22, ground := Ground.guard }], guard := some (22, true) }) (v := ?v24) rfl (by kernel_rfl) (by kernel_rfl) (by kernel_rfl) (fun _ _ _ h => h) (Or.inl ⟨by rfl, ?hy24⟩) ?rs24
  case hy24 => (intro W hW; go_simp; try with_reducible rfl)
  try simp only [Act.put, List.setIfInBounds_toArray, List.set_cons_zero, List.set_cons_succ]
  refine wpAnyB_take (i := 26) (oi := { dst := some 39, op := Op.slice 22 (Go.Operand.tmp 36) none (some (Go.Operand.tmp 38)) none, type := 22, pos := "bitrow.go:79", after := #[{ on := 23, ground := Ground.data }, { on := 25, ground := Ground.data }, { on := 22, ground := Ground.guard }], guard := some (22, true) }) (v := ?v25) rfl (by kernel_rfl) (by kernel_rfl) (by kernel_rfl) (fun _ _ _ h => h) (Or.inl ⟨by rfl, ?hy25⟩) ?rs25
  case hy25 => (intro W hW; go_simp; try with_reducible rfl)
  try simp only [Act.put, List.setIfInBounds_toArray, List.set_cons_zero, List.set_cons_succ]
  refine wpAnyB_take (i := 27) (oi := { dst := some 40, op := Op.move (Go.Operand.tmp 1), type := 22, pos := "bitrow.go:79", after := #[{ on := 22, ground := Ground.guard }], guard := some (22, true) }) (v := ?v26) rfl (by kernel_rfl) (by kernel_rfl) (by kernel_rfl) (fun _ _ _ h => h) (Or.inl ⟨by rfl, ?hy26⟩) ?rs26
  case hy26 => (intro W hW; go_simp; try with_reducible rfl)
  try simp only [Act.put, List.setIfInBounds_toArray, List.set_cons_zero, List.set_cons_succ]
  refine wpAnyB_one (i := 28) (o := { dst := some 41, op := Op.call { callee := Callee.value (Go.Operand.func 12), args := #[Go.Operand.tmp 39, Go.Operand.tmp 40], argTypes := #[22, 22] }, type := 4, pos := "bitrow.go:79", after := #[{ on := 26, ground := Ground.data }, { on := 27, ground := Ground.data }, { on := 22, ground := Ground.chain }, { on := 22, ground := Ground.guard }], guard := some (22, true) }) (by kernel_rfl) rfl (fun K hK => ?_)
  go_simp
  refine (EqualB_any _ _ _ _ _ _ l1 l1 _ ((htk.drew.below hb4).below hb5) (h1.below hb5') (by omega)).mono ?_; rintro e w6 ⟨rfl, hq⟩; have hbk := below_draws hq; have hb6 := hbk; have hb6' := bthen hb5' hb6; rw [show decide (l1 = l1) = true by simp]
  refine hK.out _ _ hbk ?_
  clear hK K
  try simp only [Act.put, List.setIfInBounds_toArray, List.set_cons_zero, List.set_cons_succ]
  refine wpAnyB_take (i := 29) (oi := { dst := some 42, op := Op.pick (Go.Operand.tmp 35) (Go.Operand.tmp 41) (Go.Operand.const (Go.Value.bool false)), type := 4, pos := "bitrow.go:79", after := #[{ on := 22, ground := Ground.data }, { on := 28, ground := Ground.data }], guard := none }) (v := ?v27) rfl (by kernel_rfl) (by kernel_rfl) (by kernel_rfl) (fun _ _ _ h => h) (Or.inl ⟨by rfl, ?hy27⟩) ?rs27
  case hy27 => (intro W hW; go_simp; try with_reducible rfl)
  try simp only [Act.put, List.setIfInBounds_toArray, List.set_cons_zero, List.set_cons_succ]
  refine wpAnyB_take (i := 30) (oi := { dst := some 43, op := Op.move (Go.Operand.tmp 42), type := 4, pos := "bitrow.go:79", after := #[{ on := 29, ground := Ground.data }, { on := 28, ground := Ground.chain }], guard := none }) (v := ?v28) rfl (by kernel_rfl) (by kernel_rfl) (by kernel_rfl) (fun _ _ _ h => h) (Or.inl ⟨by rfl, ?hy28⟩) ?rs28
  case hy28 => (intro W hW; go_simp; try with_reducible rfl)
  try simp only [Act.put, List.setIfInBounds_toArray, List.set_cons_zero, List.set_cons_succ]
  refine wpAnyB_take (i := 31) (oi := { dst := some 44, op := Op.move (Go.Operand.tmp 6), type := 22, pos := "bitrow.go:79", after := #[{ on := 30, ground := Ground.guard }], guard := some (30, true) }) (v := ?v29) rfl (by kernel_rfl) (by kernel_rfl) (by kernel_rfl) (fun _ _ _ h => h) (Or.inl ⟨by rfl, ?hy29⟩) ?rs29
  case hy29 => (intro W hW; go_simp; try with_reducible rfl)
  try simp only [Act.put, List.setIfInBounds_toArray, List.set_cons_zero, List.set_cons_succ]
  refine wpAnyB_take (i := 32) (oi := { dst := some 45, op := Op.move (Go.Operand.tmp 1), type := 22, pos := "bitrow.go:79", after := #[{ on := 30, ground := Ground.guard }], guard := some (30, true) }) (v := ?v30) rfl (by kernel_rfl) (by kernel_rfl) (by kernel_rfl) (fun _ _ _ h => h) (Or.inl ⟨by rfl, ?hy30⟩) ?rs30
  case hy30 => (intro W hW; go_simp; try with_reducible rfl)
  try simp only [Act.put, List.setIfInBounds_toArray, List.set_cons_zero, List.set_cons_succ]
  refine wpAnyB_take (i := 33) (oi := { dst := some 46, op := Op.call { callee := Callee.builtin Builtin.len, args := #[Go.Operand.tmp 45], argTypes := #[22] }, type := 3, pos := "bitrow.go:79", after := #[{ on := 32, ground := Ground.data }, { on := 30, ground := Ground.guard }], guard := some (30, true) }) (v := ?v31) rfl (by kernel_rfl) (by kernel_rfl) (by kernel_rfl) (fun _ _ _ h => h) (Or.inl ⟨by rfl, ?hy31⟩) ?rs31
  case hy31 => (intro W hW; go_simp; try with_reducible rfl)
  try simp only [Act.put, List.setIfInBounds_toArray, List.set_cons_zero, List.set_cons_succ]
  refine wpAnyB_take (i := 34) (oi := { dst := some 47, op := Op.slice 22 (Go.Operand.tmp 44) (some (Go.Operand.tmp 46)) none none, type := 22, pos := "bitrow.go:79", after := #[{ on := 31, ground := Ground.data }, { on := 33, ground := Ground.data }, { on := 30, ground := Ground.guard }], guard := some (30, true) }) (v := ?v32) rfl (by kernel_rfl) (by kernel_rfl) (by kernel_rfl) (fun _ _ _ h => h) (Or.inl ⟨by rfl, ?hy32⟩) ?rs32
  case hy32 => (intro W hW; go_simp; try with_reducible rfl)
  try simp only [Act.put, List.setIfInBounds_toArray, List.set_cons_zero, List.set_cons_succ]
  refine wpAnyB_one (i := 35) (o := { dst := some 48, op := Op.call { callee := Callee.value (Go.Operand.func 24), args := #[Go.Operand.tmp 47, Go.Operand.const (Go.Value.bool true)], argTypes := #[22, 4] }, type := 4, pos := "bitrow.go:79", after := #[{ on := 34, ground := Ground.data }, { on := 30, ground := Ground.chain }, { on := 30, ground := Ground.guard }], guard := some (30, true) }) (by kernel_rfl) rfl (fun K hK => ?_)
  go_simp
  refine (Contains_any _ _ _ (List.replicate kk false) true _ (((hdr.drew.below hb4).below hb5).below hb6) (by omega)).mono ?_; rintro e w7 ⟨rfl, rfl⟩; have hbk := Below.refl w6.heap.size w6; rw [show decide (true ∈ List.replicate kk false) = false by simp]
  refine hK.out _ _ hbk ?_
  clear hK K
  try simp only [Act.put, List.setIfInBounds_toArray, List.set_cons_zero, List.set_cons_succ]
  refine wpAnyB_take (i := 36) (oi := { dst := some 49, op := Op.unOp Go.UnOp.not 4 (Go.Operand.tmp 48), type := 4, pos := "bitrow.go:79", after := #[{ on := 35, ground := Ground.data }, { on := 30, ground := Ground.guard }], guard := some (30, true) }) (v := ?v33) rfl (by kernel_rfl) (by kernel_rfl) (by kernel_rfl) (fun _ _ _ h => h) (Or.inl ⟨by rfl, ?hy33⟩) ?rs33
  case hy33 => (intro W hW; go_simp; try with_reducible rfl)
  try simp only [Act.put, List.setIfInBounds_toArray, List.set_cons_zero, List.set_cons_succ]
  refine wpAnyB_take (i := 37) (oi := { dst := some 50, op := Op.pick (Go.Operand.tmp 43) (Go.Operand.tmp 49) (Go.Operand.const (Go.Value.bool false)), type := 4, pos := "bitrow.go:79", after := #[{ on := 30, ground := Ground.data }, { on := 36, ground := Ground.data }], guard := none }) (v := ?v34) rfl (by kernel_rfl) (by kernel_rfl) (by kernel_rfl) (fun _ _ _ h => h) (Or.inl ⟨by rfl, ?hy34⟩) ?rs34
  case hy34 => (intro W hW; go_simp; try with_reducible rfl)
  try simp only [Act.put, List.setIfInBounds_toArray, List.set_cons_zero, List.set_cons_succ]
  refine wpAnyB_take (i := 38) (oi := { dst := some 4, op := Op.assign (Go.Operand.tmp 50), type := 4, pos := "bitrow.go:79", after := #[{ on := 37, ground := Ground.data }, { on := 35, ground := Ground.chain }, { on := 0, ground := Ground.phase }, { on := 1, ground := Ground.phase }, { on := 2, ground := Ground.phase }, { on := 3, ground := Ground.phase }, { on := 4, ground := Ground.phase }, { on := 5, ground := Ground.phase }, { on := 6, ground := Ground.phase }, { on := 7, ground := Ground.phase }, { on := 8, ground := Ground.phase }, { on := 9, ground := Ground.phase }, { on := 10, ground := Ground.phase }, { on := 11, ground := Ground.phase }, { on := 12, ground := Ground.phase }, { on := 13, ground := Ground.phase }, { on := 14, ground := Ground.phase }, { on := 15, ground := Ground.phase }, { on := 16, ground := Ground.phase }, { on := 17, ground := Ground.phase }, { on := 18, ground := Ground.phase }, { on := 19, ground := Ground.phase }, { on := 20, ground := Ground.phase }, { on := 21, ground := Ground.phase }, { on := 22, ground := Ground.phase }, { on := 23, ground := Ground.phase }, { on := 24, ground := Ground.phase }, { on := 25, ground := Ground.phase }, { on := 26, ground := Ground.phase }, { on := 27, ground := Ground.phase }, { on := 28, ground := Ground.phase }, { on := 29, ground := Ground.phase }, { on := 30, ground := Ground.phase }, { on := 31, ground := Ground.phase }, { on := 32, ground := Ground.phase }, { on := 33, ground := Ground.phase }, { on := 34, ground := Ground.phase }, { on := 35, ground := Ground.phase }, { on := 36, ground := Ground.phase }, { on := 37, ground := Ground.phase }], guard := none }) (v := ?v35) rfl (by kernel_rfl) (by kernel_rfl) (by kernel_rfl) (fun _ _ _ h => h) (Or.inl ⟨by rfl, ?hy35⟩) ?rs35
  case hy35 => (intro W hW; go_simp; try with_reducible rfl)
  try simp only [Act.put, List.setIfInBounds_toArray, List.set_cons_zero, List.set_cons_succ]
  refine wpAnyB_done (by kernel_rfl) ?_
  go_wp2
  go_ret
  exact ⟨rfl, hb6'⟩
end Go.Proofs.Ytaolomdfaioglaa
