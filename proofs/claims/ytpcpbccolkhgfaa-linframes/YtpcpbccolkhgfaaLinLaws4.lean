/-
  The walk of LinFrames.
-/
import Derived.Test.YtpcpbccolkhgfaaLinRef
import Derived.Test.YtpcpbccolkhgfaaLinWalks2
import Derived.Test.YtpcpbccolkhgfaaRegion
import Derived.Laws.IdiomStrings
import Derived.Deep.CutBlock
import Derived.Deep.DeepCutAuto
namespace Go.Proofs.Ytpcpbccolkhgfaa
open Go.RowKit
set_option linter.unusedVariables false
set_option linter.unusedSimpArgs false

theorem strOfNums_append (l m : List Int) : strOfNums l ++ strOfNums m = strOfNums (l ++ m) := by
  apply ByteArray.ext
  simp [strOfNums]
/-- string to []byte: a new slice that holds the string's bytes. -/
theorem run_unbytes {P : Program} {src dst e : TypeId} (hs : P.underlying src = some .string) (hd : P.underlying dst = some (.slice e)) (he : P.underlying e = some (.int .u8)) (w : World) (l : List Int) (hb : Byte8 l) :
    ∃ A c w', (convert src dst (.string (strOfNums l))).run P w = .ok (.slice A l.length c) w' ∧ Rd w' 1 A l.length (l.map (Value.int .u8)) ∧ Below w.heap.size w w' ∧ l.length ≤ c := by
  have h := run_bytes_of_string (P := P) w src dst e (strOfNums l) hs hd he
  rw [strOfNums_size] at h
  refine ⟨_, _, _, h, ⟨by simp, fun _ => ⟨_, rfl, fun j u hj => ?_⟩⟩, ?_, grownCap_ge _ _ _ _⟩
  · have hadd : (⟨w.heap.size, 0, none⟩ : Addr).add j = ⟨w.heap.size, j, none⟩ := by unfold Addr.add; split <;> simp_all
    rw [hadd]
    refine (World.cell?_alloc_mark w.drew _ _ _ j).trans ?_
    have hjl : j < l.length := by have := (List.getElem?_eq_some_iff.1 hj).1; simpa using this
    have hx := hb _ (List.getElem_mem hjl)
    rw [List.getElem?_map, List.getElem?_eq_getElem hjl] at hj
    simp only [Option.map_some] at hj
    rw [← hj]
    unfold bytesRow
    rw [Array.getElem?_append_left (by simp [strOfNums]; exact hjl)]
    simp [strOfNums, hjl]
    omega
  · exact bthen (Below.refl _ _).drew ((Below.refl _ _).alloc (Nat.le_refl _) _)

theorem writeL_ok {id : Int} {l : List Int} (newer : Bool) (hi : IdOk id) (hd : DataOk l.length) : writeL id l newer = (sentL id l newer, 0) := by unfold writeL; rw [if_pos hi, if_pos hd]
theorem writeL_id {id : Int} {l : List Int} (newer : Bool) (hi : ¬ IdOk id) : writeL id l newer = ([], 2) := by unfold writeL; rw [if_neg hi]
theorem writeL_data {id : Int} {l : List Int} (newer : Bool) (hi : IdOk id) (hd : ¬ DataOk l.length) : writeL id l newer = ([], 1) := by unfold writeL; rw [if_pos hi, if_neg hd]
set_option maxRecDepth 20000 in
set_option maxHeartbeats 4000000 in
theorem LinFrames_walk (a0 : Int) (A0 : Option Addr) (n0 c0 : Nat) (l0 : List Int) (A1 : Option Addr) (n1 c1 : Nat) (l1 : List Int) (a2 : Bool) (w : World)
    (w0 : (Lit.int .i64 a0).wf = true) (h0 : Rd w 1 A0 n0 (l0.map (Value.int .u8))) (v0 : ∀ x ∈ l0, (Lit.int .u8 x).wf = true) (k0 : n0 ≤ c0) (b0 : c0 * 1 ≤ 140737488351232)
    (h1 : Rd w 1 A1 n1 (l1.map (Value.int .u8))) (v1 : ∀ x ∈ l1, (Lit.int .u8 x).wf = true) (k1 : n1 ≤ c1) (b1 : c1 * 1 ≤ 140737488351232) :
    Calls Try.prog 4 #[frameV a0 A0 n0 c0, .slice A1 n1 c1, .bool a2] w fun e w' => e = .returned (.bool true) ∧ Below w.heap.size w w' := by
  have q0 : Byte8 l0 := fun x hx => by have := wf_u8 (v0 x hx); omega
  have q1 : Byte8 l1 := fun x hx => by have := wf_u8 (v1 x hx); omega
  have Hl0 := Lib.hid h0.lenMap
  have Hl1 := Lib.hid h1.lenMap
  have hrb := read_bytesL (newer := a2) q1
  clear w0 v0 v1
  obtain ⟨X, er, hWr⟩ : ∃ X er, writeL a0 l0 a2 = (X, er) := ⟨_, _, rfl⟩
  obtain ⟨xn, hxn⟩ : ∃ xn, X.length = xn := ⟨_, rfl⟩
  have HWr := Lib.hid hWr
  have Hxn := Lib.hid hxn
  go_enter Try.func4, Try.ntmps4
  go_wp2_with fail
  refine (WriteL_any a0 A0 n0 c0 l0 a2 _ (h0.alloc _) q0).mono ?_
  rw [hWr]
  rintro e w1 ⟨v1, rfl, ho1, hb⟩
  simp only at ho1 ⊢
  have hbx : Box w1 w.heap.size 32 [.int .i64 a0, .slice A0 n0 c0] := (Box.new w _ _).below hb (by simp)
  replace hb := below_new hb
  obtain ⟨Ax, cx, rfl, _, _, rx⟩ := ho1.formN hxn
  clear ho1 hWr hxn
  go_wp2_with fail
  refine (ReadL_any A1 n1 c1 l1 a2 _ (h1.below hb) q1 k1 (by omega)).mono ?_
  rintro e w2 ⟨Ag, cg, rfl, hog, hb2⟩
  replace hbx := hbx.below hb2 hbx.lt
  replace hb := bthen hb hb2
  replace rx := rx.below hb2
  have hrg := hog.rd
  clear hog hb2
  generalize hR : readL l1 a2 = R at *
  have HR := Lib.hid hR; clear hR
  obtain ⟨⟨ri, rl⟩, re⟩ := R
  simp only at hrg hrb ⊢
  obtain ⟨rn, hrn⟩ : ∃ rn, rl.length = rn := ⟨_, rfl⟩
  rw [hrn] at hrg ⊢
  have Hrn := Lib.hid hrn; clear hrn
  go_upto_block 0 with fail
  go_cut [] (fun wx => Below w.heap.size w wx ∧ Box wx w2.heap.size 32 [.int .i64 ri, .slice Ag rn cg] ∧ Rd wx 1 Ag rn (rl.map (Value.int .u8)))
  case first =>
    clear q1 h1 Hl1 hrb HR k1 b1 Hrn
    have y0 := fun o => (hbx.alloc o).cell 0 rfl
    have y1 := fun o => (hbx.alloc o).cell 1 rfl
    have hgx := Box.new w2 32 [.int .i64 ri, .slice Ag rn cg]
    have hba : Below w.heap.size w (w2.alloc (.cells #[.int .i64 ri, .slice Ag rn cg] 32)) := hb.alloc hb.size _
    by_cases hi : IdOk a0
    · obtain ⟨hi0, hi1⟩ := hi
      have t0 : decide (a0 < 0) = false := by simp; omega
      have t1 : decide (63 < a0) = false := by simp; omega
      by_cases hd : DataOk n0
      · have hW := HWr.out
        rw [writeL_ok a2 ⟨hi0, hi1⟩ (by rw [Hl0.out]; exact hd)] at hW
        injection hW with e1 e2
        subst e2
        have Hs : Hid (X = (guardM a0 :: l0) ++ [sumM (bodyM (guardM a0) l0 a2)]) := e1.symm
        have hgr := guard_range ⟨hi0, hi1⟩
        obtain ⟨hd1, hd8⟩ := hd
        have hn0 : ((n0 : Int) == 0) = false := by rw [beq_eq_false_iff_ne]; omega
        have hn8 : decide (8 < (n0 : Int)) = false := by simp; omega
        have hbb := body_bytes a2 ⟨hgr.1, hgr.2.1⟩ q0
        have hbl : (bodyM (guardM a0) l0 a2).length ≤ 9 := by unfold bodyM; split <;> simp [Hl0.out] <;> omega
        have hGG := fun W => GGuard_any a0 W ⟨hi0, hi1⟩
        clear HWr e1
        generalize guardM a0 = g at *
        have hcvd := run_bytes (P := Try.prog) Try.underlying22 Try.underlying5 Try.underlying9 c0 ((h0.below hb).alloc (.cells #[.int .i64 ri, .slice Ag rn cg] 32))
        have hcvL : ∀ W : World, (convert 22 9 (.slice (some ⟨W.heap.size, 0, none⟩) 1 1)).run Try.prog (W.alloc (.cells #[.int .u8 g] 5)) = .ok (.string (strOfNums [g])) (W.alloc (.cells #[.int .u8 g] 5)) := fun W =>
          run_bytes (P := Try.prog) Try.underlying22 Try.underlying5 Try.underlying9 1 (Rd.oneM (Value.int .u8) W g 5)
        have hst : strOfNums [g] ++ strOfNums l0 = strOfNums (g :: l0) := strOfNums_append [g] l0
        have z1 : (strOfNums [g]).size = 1 := strOfNums_size _
        have z2 : (strOfNums l0).size = n0 := by rw [strOfNums_size, Hl0.out]
        have z3 : (strOfNums (g :: l0)).size = n0 + 1 := by rw [strOfNums_size, List.length_cons, Hl0.out]
        go_upto_if 33 with fail
        go_cut [11] (fun s11 wx => s11 = .string (strOfNums (bodyM g l0 a2)) ∧ Below w2.heap.size w2 wx ∧ Box wx w2.heap.size 32 [.int .i64 ri, .slice Ag rn cg])
        case first =>
          cases a2
          · go_wp2
            go_meet
            exact ⟨rfl, (Below.refl _ _).alloc (Nat.le_refl _) _, hgx⟩
          · go_wp2_with (go_at_call 14; refine (hGG _).mono ?_; rintro e w3 ⟨rfl, hb3⟩)
            go_meet
            refine ⟨rfl, (below_new hb3).alloc (below_new hb3).size _, (hgx.below hb3 hgx.lt).alloc _⟩
        case rest =>
          obtain ⟨rfl, hc1, hc2⟩ := hcut
          have rx' := rx.below hc1
          have h0' := (h0.below hb).below hc1
          have hbx' := hbx.below hc1 hbx.lt
          have hrg' := hrg.below hc1
          have hbc := bthen hb hc1
          have x0 := Box.cell hbx' 0 rfl
          have x1 := Box.cell hbx' 1 rfl
          have hlt := hbx'.lt
          have Hc2 := Lib.hid hc2
          have Hrg := Lib.hid hrg'
          have Hbc := Lib.hid hbc
          clear hc2 hrg' hbc
          clear y0 y1 hgx hba hcvd hcvL rx h0 hbx hrg hb hn0 hn8 t0 t1 hc1 hbx' q0 k0 b0
          generalize bodyM g l0 a2 = bod at *
          obtain ⟨s, hs⟩ : ∃ s, s = sumM bod := ⟨_, rfl⟩
          have z4 : (strOfNums [s]).size = 1 := strOfNums_size _
          have hst2 : strOfNums (g :: l0) ++ strOfNums [s] = strOfNums X := by rw [strOfNums_append, Hs.out, hs]
          have hGS := fun A n c W h => GSum_any A n c bod W h hbb
          rw [← hs] at hGS
          obtain ⟨bn, hbn⟩ : ∃ bn, bod.length = bn := ⟨_, rfl⟩
          obtain ⟨AF, cF, wF, hF⟩ : ∃ (AF : World → Option Addr) (cF : World → Nat) (wF : World → World), ∀ W, (convert 9 22 (.string (strOfNums bod))).run Try.prog W = .ok (.slice (AF W) bn (cF W)) (wF W) ∧ Rd (wF W) 1 (AF W) bn (bod.map (Value.int .u8)) ∧ Below W.heap.size W (wF W) := by
            have := fun W => run_unbytes (P := Try.prog) Try.underlying9 Try.underlying22 Try.underlying5 W bod hbb
            rw [hbn] at this
            exact ⟨fun W => (this W).choose, fun W => (this W).choose_spec.choose, fun W => (this W).choose_spec.choose_spec.choose, fun W => ⟨(this W).choose_spec.choose_spec.choose_spec.1, (this W).choose_spec.choose_spec.choose_spec.2.1, (this W).choose_spec.choose_spec.choose_spec.2.2.1⟩⟩
          have hcvB := fun W => (hF W).1
          have HF2 := Lib.hid (fun W => (hF W).2.1)
          have HF3 := Lib.hid (fun W => (hF W).2.2)
          have hbn9 : bn ≤ 140737488355328 := by omega
          have Hs2 := Lib.hid hs
          clear hF hs Hs hbn hbb hbl hst
          have hst : strOfNums [g] ++ strOfNums l0 = strOfNums (g :: l0) := strOfNums_append [g] l0
          have p13 : ¬ (9223372036854775807 < 1 + n0) := by omega
          have p19 : ¬ (9223372036854775807 < n0 + 1 + 1) := by omega
          go_upto_region 6 with fail
          go_cut [62] (fun s62 wx => s62 = .bool false ∧ Below wc.heap.size wc wx)
          case first =>
            have hB : Below wc.heap.size wc wc.drew := (Below.refl _ _).drew
            refine wp_region_B (by kernel_rfl) ?_
            refine wpAnyB_take (i := 0) (oi := { dst := some 41, op := Op.move (Go.Operand.tmp 8), type := 23, pos := "lin.go:41", after := #[], guard := none }) (v := ?v1) rfl (by kernel_rfl) (by kernel_rfl) (by kernel_rfl) (fun _ _ _ h => h) (Or.inl ⟨by rfl, ?hy1⟩) ?rs1
            case hy1 => (intro W hW; go_simp; try with_reducible rfl)
            try simp only [Act.put, List.setIfInBounds_toArray, List.set_cons_zero, List.set_cons_succ]
            refine wpAnyB_take (i := 1) (oi := { dst := some 42, op := Op.binOp Go.BinOp.neq 23 (Go.Operand.tmp 41) (Go.Operand.const (Go.Value.int Go.IntKind.i64 0)) 23, type := 4, pos := "lin.go:41", after := #[{ on := 0, ground := Ground.data }], guard := none }) (v := ?v2) rfl (by kernel_rfl) (by kernel_rfl) (by kernel_rfl) (fun _ _ _ h => h) (Or.inl ⟨by rfl, ?hy2⟩) ?rs2
            case hy2 => (intro W hW; go_simp; try with_reducible rfl)
            try simp only [Act.put, List.setIfInBounds_toArray, List.set_cons_zero, List.set_cons_succ]
            refine wpAnyB_take (i := 2) (oi := { dst := some 43, op := Op.move (Go.Operand.tmp 42), type := 4, pos := "lin.go:41", after := #[{ on := 1, ground := Ground.data }], guard := none }) (v := ?v3) rfl (by kernel_rfl) (by kernel_rfl) (by kernel_rfl) (fun _ _ _ h => h) (Or.inl ⟨by rfl, ?hy3⟩) ?rs3
            case hy3 => (intro W hW; go_simp; try with_reducible rfl)
            try simp only [Act.put, List.setIfInBounds_toArray, List.set_cons_zero, List.set_cons_succ]
            refine wpAnyB_take (i := 3) (oi := { dst := some 44, op := Op.move (Go.Operand.tmp 7), type := 22, pos := "lin.go:41", after := #[{ on := 2, ground := Ground.guard }], guard := some (2, false) }) (v := ?v4) rfl (by kernel_rfl) (by kernel_rfl) (by kernel_rfl) (fun _ _ _ h => h) (Or.inl ⟨by rfl, ?hy4⟩) ?rs4
            case hy4 => (intro W hW; go_simp; try with_reducible rfl)
            try simp only [Act.put, List.setIfInBounds_toArray, List.set_cons_zero, List.set_cons_succ]
            refine wpAnyB_take (i := 4) (oi := { dst := some 45, op := Op.convert 22 9 (Go.Operand.tmp 44), type := 9, pos := "lin.go:41", after := #[{ on := 3, ground := Ground.data }, { on := 2, ground := Ground.guard }], guard := some (2, false) }) (v := ?v5) rfl (by kernel_rfl) (by kernel_rfl) (by kernel_rfl) (fun _ _ _ h => h) (Or.inl ⟨by rfl, ?hy5⟩) ?rs5
            case hy5 => (intro W hW; have hcv := run_bytes (P := Try.prog) Try.underlying22 Try.underlying5 Try.underlying9 cx (rx'.drew.below hW); go_simp; try with_reducible rfl)
            try simp only [Act.put, List.setIfInBounds_toArray, List.set_cons_zero, List.set_cons_succ]
            refine wpAnyB_take (i := 5) (oi := { dst := some 46, op := Op.fieldAddr 32 (Go.Operand.tmp 3) 0, type := 0, pos := "lin.go:41", after := #[{ on := 2, ground := Ground.guard }], guard := some (2, false) }) (v := ?v6) rfl (by kernel_rfl) (by kernel_rfl) (by kernel_rfl) (fun _ _ _ h => h) (Or.inl ⟨by rfl, ?hy6⟩) ?rs6
            case hy6 => (intro W hW; go_simp; try with_reducible rfl)
            try simp only [Act.put, List.setIfInBounds_toArray, List.set_cons_zero, List.set_cons_succ]
            refine wpAnyB_take (i := 6) (oi := { dst := some 47, op := Op.load 3 (Go.Operand.tmp 46), type := 3, pos := "lin.go:41", after := #[{ on := 5, ground := Ground.data }, { on := 2, ground := Ground.guard }], guard := some (2, false) }) (v := ?v7) rfl (by kernel_rfl) (by kernel_rfl) (by kernel_rfl) (fun _ _ _ h => h) (Or.inl ⟨by rfl, ?hy7⟩) ?rs7
            case hy7 => (intro W hW; have c0' := hW.cell (p := ⟨w.heap.size, 0, none⟩) hlt; rw [show wc.drew.cell? _ = _ from x0] at c0'; go_simp; try with_reducible rfl)
            try simp only [Act.put, List.setIfInBounds_toArray, List.set_cons_zero, List.set_cons_succ]
            refine wpAnyB_take (i := 10) (oi := { dst := some 51, op := Op.fieldAddr 32 (Go.Operand.tmp 3) 1, type := 0, pos := "lin.go:41", after := #[{ on := 2, ground := Ground.guard }], guard := some (2, false) }) (v := ?v8) rfl (by kernel_rfl) (by kernel_rfl) (by kernel_rfl) (fun _ _ _ h => h) (Or.inl ⟨by rfl, ?hy8⟩) ?rs8
            case hy8 => (intro W hW; go_simp; try with_reducible rfl)
            try simp only [Act.put, List.setIfInBounds_toArray, List.set_cons_zero, List.set_cons_succ]
            refine wpAnyB_take (i := 11) (oi := { dst := some 52, op := Op.load 22 (Go.Operand.tmp 51), type := 22, pos := "lin.go:41", after := #[{ on := 10, ground := Ground.data }, { on := 2, ground := Ground.guard }], guard := some (2, false) }) (v := ?v9) rfl (by kernel_rfl) (by kernel_rfl) (by kernel_rfl) (fun _ _ _ h => h) (Or.inl ⟨by rfl, ?hy9⟩) ?rs9
            case hy9 => (intro W hW; have c1' := hW.cell (p := ⟨w.heap.size, 1, none⟩) hlt; rw [show wc.drew.cell? _ = _ from x1] at c1'; go_simp; try with_reducible rfl)
            try simp only [Act.put, List.setIfInBounds_toArray, List.set_cons_zero, List.set_cons_succ]
            refine wpAnyB_take (i := 12) (oi := { dst := some 53, op := Op.convert 22 9 (Go.Operand.tmp 52), type := 9, pos := "lin.go:41", after := #[{ on := 11, ground := Ground.data }, { on := 2, ground := Ground.guard }], guard := some (2, false) }) (v := ?v10) rfl (by kernel_rfl) (by kernel_rfl) (by kernel_rfl) (fun _ _ _ h => h) (Or.inl ⟨by rfl, ?hy10⟩) ?rs10
            case hy10 => (intro W hW; have hcv := run_bytes (P := Try.prog) Try.underlying22 Try.underlying5 Try.underlying9 c0 (h0'.drew.below hW); go_simp; try with_reducible rfl)
            try simp only [Act.put, List.setIfInBounds_toArray, List.set_cons_zero, List.set_cons_succ]
            refine wpAnyB_take (i := 14) (oi := { dst := some 55, op := Op.move (Go.Operand.tmp 11), type := 9, pos := "lin.go:41", after := #[{ on := 2, ground := Ground.guard }], guard := some (2, false) }) (v := ?v11) rfl (by kernel_rfl) (by kernel_rfl) (by kernel_rfl) (fun _ _ _ h => h) (Or.inl ⟨by rfl, ?hy11⟩) ?rs11
            case hy11 => (intro W hW; go_simp; try with_reducible rfl)
            try simp only [Act.put, List.setIfInBounds_toArray, List.set_cons_zero, List.set_cons_succ]
            refine wpAnyB_two (i := 7) (j := 15) (oi := { dst := some 48, op := Op.call { callee := Callee.value (Go.Operand.func 14), args := #[Go.Operand.tmp 47], argTypes := #[3] }, type := 5, pos := "lin.go:41", after := #[{ on := 6, ground := Ground.data }, { on := 2, ground := Ground.chain }, { on := 2, ground := Ground.guard }], guard := some (2, false) }) (oj := { dst := some 56, op := Op.convert 9 22 (Go.Operand.tmp 55), type := 22, pos := "lin.go:41", after := #[{ on := 14, ground := Ground.data }, { on := 2, ground := Ground.guard }], guard := some (2, false) }) (by kernel_rfl) rfl rfl (fun K hK => ?_) (fun K hK => ?_)
            go_simp
            refine (hGG _).mono ?_; rintro e w7 ⟨rfl, hbk⟩; have hb7 := hbk; replace hB := bthen hB hbk
            refine hK.out _ _ hbk ?_
            clear hK K
            try simp only [Act.put, List.setIfInBounds_toArray, List.set_cons_zero, List.set_cons_succ]
            refine wpAnyB_two (i := 8) (j := 15) (oi := { dst := some 49, op := Op.buildSlice 22 1 #[(0, Go.Operand.tmp 48)], type := 22, pos := "lin.go:41", after := #[{ on := 7, ground := Ground.data }, { on := 2, ground := Ground.guard }], guard := some (2, false) }) (oj := { dst := some 56, op := Op.convert 9 22 (Go.Operand.tmp 55), type := 22, pos := "lin.go:41", after := #[{ on := 14, ground := Ground.data }, { on := 2, ground := Ground.guard }], guard := some (2, false) }) (by kernel_rfl) rfl rfl (fun K hK => ?_) (fun K hK => ?_)
            go_simp
            replace hB := hB.alloc hB.size (.cells #[.int .u8 g] 5)
            refine hK.out _ _ ((Below.refl _ _).alloc (Nat.le_refl _) _) ?_
            clear hK K
            try simp only [Act.put, List.setIfInBounds_toArray, List.set_cons_zero, List.set_cons_succ]
            refine wpAnyB_take (i := 9) (oi := { dst := some 50, op := Op.convert 22 9 (Go.Operand.tmp 49), type := 9, pos := "lin.go:41", after := #[{ on := 8, ground := Ground.data }, { on := 2, ground := Ground.guard }], guard := some (2, false) }) (v := ?v12) rfl (by kernel_rfl) (by kernel_rfl) (by kernel_rfl) (fun _ _ _ h => h) (Or.inl ⟨by rfl, ?hy12⟩) ?rs12
            case hy12 => (intro W hW; have hcv := run_bytes (P := Try.prog) Try.underlying22 Try.underlying5 Try.underlying9 1 ((Rd.oneM (Value.int .u8) _ g 5).below hW); (try simp only [World.size_alloc] at hcv); go_simp; try with_reducible rfl)
            try simp only [Act.put, List.setIfInBounds_toArray, List.set_cons_zero, List.set_cons_succ]
            refine wpAnyB_take (i := 13) (oi := { dst := some 54, op := Op.binOp Go.BinOp.add 9 (Go.Operand.tmp 50) (Go.Operand.tmp 53) 9, type := 9, pos := "lin.go:41", after := #[{ on := 9, ground := Ground.data }, { on := 12, ground := Ground.data }, { on := 2, ground := Ground.guard }], guard := some (2, false) }) (v := ?v13) rfl (by kernel_rfl) (by kernel_rfl) (by kernel_rfl) (fun _ _ _ h => h) (Or.inl ⟨by rfl, ?hy13⟩) ?rs13
            case hy13 => (intro W hW; go_simp; try with_reducible rfl)
            try simp only [Act.put, List.setIfInBounds_toArray, List.set_cons_zero, List.set_cons_succ]
            refine wpAnyB_one (i := 15) (o := { dst := some 56, op := Op.convert 9 22 (Go.Operand.tmp 55), type := 22, pos := "lin.go:41", after := #[{ on := 14, ground := Ground.data }, { on := 2, ground := Ground.guard }], guard := some (2, false) }) (by kernel_rfl) rfl (fun K hK => ?_)
            go_simp
            replace hB := bthen hB (HF3.out _)
            refine hK.out _ _ (HF3.out _) ?_
            clear hK K
            try simp only [Act.put, List.setIfInBounds_toArray, List.set_cons_zero, List.set_cons_succ]
            refine wpAnyB_one (i := 16) (o := { dst := some 57, op := Op.call { callee := Callee.value (Go.Operand.func 13), args := #[Go.Operand.tmp 56], argTypes := #[22] }, type := 5, pos := "lin.go:41", after := #[{ on := 15, ground := Ground.data }, { on := 7, ground := Ground.chain }, { on := 2, ground := Ground.guard }], guard := some (2, false) }) (by kernel_rfl) rfl (fun K hK => ?_)
            go_simp
            refine (hGS _ _ _ _ ?_ hbn9).mono ?_; (first | exact HF2.out _ | exact (HF2.out _).alloc _ | exact (HF2.out _).below hb7 | exact ((HF2.out _).below hb7).alloc _); rintro e w8 ⟨rfl, rfl⟩
            refine hK.out _ _ (Below.refl _ _) ?_
            clear hK K
            try simp only [Act.put, List.setIfInBounds_toArray, List.set_cons_zero, List.set_cons_succ]
            refine wpAnyB_one (i := 17) (o := { dst := some 58, op := Op.buildSlice 22 1 #[(0, Go.Operand.tmp 57)], type := 22, pos := "lin.go:41", after := #[{ on := 16, ground := Ground.data }, { on := 2, ground := Ground.guard }], guard := some (2, false) }) (by kernel_rfl) rfl (fun K hK => ?_)
            go_simp
            replace hB := hB.alloc hB.size (.cells #[.int .u8 s] 5)
            refine hK.out _ _ ((Below.refl _ _).alloc (Nat.le_refl _) _) ?_
            clear hK K
            try simp only [Act.put, List.setIfInBounds_toArray, List.set_cons_zero, List.set_cons_succ]
            refine wpAnyB_take (i := 18) (oi := { dst := some 59, op := Op.convert 22 9 (Go.Operand.tmp 58), type := 9, pos := "lin.go:41", after := #[{ on := 17, ground := Ground.data }, { on := 2, ground := Ground.guard }], guard := some (2, false) }) (v := ?v14) rfl (by kernel_rfl) (by kernel_rfl) (by kernel_rfl) (fun _ _ _ h => h) (Or.inl ⟨by rfl, ?hy14⟩) ?rs14
            case hy14 => (intro W hW; have hcv := run_bytes (P := Try.prog) Try.underlying22 Try.underlying5 Try.underlying9 1 ((Rd.oneM (Value.int .u8) _ s 5).below hW); (try simp only [World.size_alloc] at hcv); go_simp; try with_reducible rfl)
            try simp only [Act.put, List.setIfInBounds_toArray, List.set_cons_zero, List.set_cons_succ]
            refine wpAnyB_take (i := 19) (oi := { dst := some 60, op := Op.binOp Go.BinOp.add 9 (Go.Operand.tmp 54) (Go.Operand.tmp 59) 9, type := 9, pos := "lin.go:41", after := #[{ on := 13, ground := Ground.data }, { on := 18, ground := Ground.data }, { on := 2, ground := Ground.guard }], guard := some (2, false) }) (v := ?v15) rfl (by kernel_rfl) (by kernel_rfl) (by kernel_rfl) (fun _ _ _ h => h) (Or.inl ⟨by rfl, ?hy15⟩) ?rs15
            case hy15 => (intro W hW; go_simp; try with_reducible rfl)
            try simp only [Act.put, List.setIfInBounds_toArray, List.set_cons_zero, List.set_cons_succ]
            refine wpAnyB_take (i := 20) (oi := { dst := some 61, op := Op.binOp Go.BinOp.neq 9 (Go.Operand.tmp 45) (Go.Operand.tmp 60) 9, type := 4, pos := "lin.go:41", after := #[{ on := 4, ground := Ground.data }, { on := 19, ground := Ground.data }, { on := 2, ground := Ground.guard }], guard := some (2, false) }) (v := ?v16) rfl (by kernel_rfl) (by kernel_rfl) (by kernel_rfl) (fun _ _ _ h => h) (Or.inl ⟨by rfl, ?hy16⟩) ?rs16
            case hy16 => (intro W hW; go_simp; try with_reducible rfl)
            try simp only [Act.put, List.setIfInBounds_toArray, List.set_cons_zero, List.set_cons_succ]
            refine wpAnyB_take (i := 21) (oi := { dst := some 62, op := Op.pick (Go.Operand.tmp 43) (Go.Operand.const (Go.Value.bool true)) (Go.Operand.tmp 61), type := 4, pos := "lin.go:41", after := #[{ on := 2, ground := Ground.data }, { on := 20, ground := Ground.data }], guard := none }) (v := ?v17) rfl (by kernel_rfl) (by kernel_rfl) (by kernel_rfl) (fun _ _ _ h => h) (Or.inl ⟨by rfl, ?hy17⟩) ?rs17
            case hy17 => (intro W hW; go_simp; try with_reducible rfl)
            try simp only [Act.put, List.setIfInBounds_toArray, List.set_cons_zero, List.set_cons_succ]
            refine wpAnyB_done (by kernel_rfl) ?_
            rotate_left
            go_simp
            replace hB := bthen hB (HF3.out _)
            refine hK.out _ _ (HF3.out _) ?_
            clear hK K
            try simp only [Act.put, List.setIfInBounds_toArray, List.set_cons_zero, List.set_cons_succ]
            refine wpAnyB_two (i := 8) (j := 16) (oi := { dst := some 49, op := Op.buildSlice 22 1 #[(0, Go.Operand.tmp 48)], type := 22, pos := "lin.go:41", after := #[{ on := 7, ground := Ground.data }, { on := 2, ground := Ground.guard }], guard := some (2, false) }) (oj := { dst := some 57, op := Op.call { callee := Callee.value (Go.Operand.func 13), args := #[Go.Operand.tmp 56], argTypes := #[22] }, type := 5, pos := "lin.go:41", after := #[{ on := 15, ground := Ground.data }, { on := 7, ground := Ground.chain }, { on := 2, ground := Ground.guard }], guard := some (2, false) }) (by kernel_rfl) rfl rfl (fun K hK => ?_) (fun K hK => ?_)
            go_simp
            replace hB := hB.alloc hB.size (.cells #[.int .u8 g] 5)
            refine hK.out _ _ ((Below.refl _ _).alloc (Nat.le_refl _) _) ?_
            clear hK K
            try simp only [Act.put, List.setIfInBounds_toArray, List.set_cons_zero, List.set_cons_succ]
            refine wpAnyB_take (i := 9) (oi := { dst := some 50, op := Op.convert 22 9 (Go.Operand.tmp 49), type := 9, pos := "lin.go:41", after := #[{ on := 8, ground := Ground.data }, { on := 2, ground := Ground.guard }], guard := some (2, false) }) (v := ?v18) rfl (by kernel_rfl) (by kernel_rfl) (by kernel_rfl) (fun _ _ _ h => h) (Or.inl ⟨by rfl, ?hy18⟩) ?rs18
            case hy18 => (intro W hW; have hcv := run_bytes (P := Try.prog) Try.underlying22 Try.underlying5 Try.underlying9 1 ((Rd.oneM (Value.int .u8) _ g 5).below hW); (try simp only [World.size_alloc] at hcv); go_simp; try with_reducible rfl)
            try simp only [Act.put, List.setIfInBounds_toArray, List.set_cons_zero, List.set_cons_succ]
            refine wpAnyB_take (i := 13) (oi := { dst := some 54, op := Op.binOp Go.BinOp.add 9 (Go.Operand.tmp 50) (Go.Operand.tmp 53) 9, type := 9, pos := "lin.go:41", after := #[{ on := 9, ground := Ground.data }, { on := 12, ground := Ground.data }, { on := 2, ground := Ground.guard }], guard := some (2, false) }) (v := ?v19) rfl (by kernel_rfl) (by kernel_rfl) (by kernel_rfl) (fun _ _ _ h => h) (Or.inl ⟨by rfl, ?hy19⟩) ?rs19
            case hy19 => (intro W hW; go_simp; try with_reducible rfl)
            try simp only [Act.put, List.setIfInBounds_toArray, List.set_cons_zero, List.set_cons_succ]
            refine wpAnyB_one (i := 16) (o := { dst := some 57, op := Op.call { callee := Callee.value (Go.Operand.func 13), args := #[Go.Operand.tmp 56], argTypes := #[22] }, type := 5, pos := "lin.go:41", after := #[{ on := 15, ground := Ground.data }, { on := 7, ground := Ground.chain }, { on := 2, ground := Ground.guard }], guard := some (2, false) }) (by kernel_rfl) rfl (fun K hK => ?_)
            go_simp
            refine (hGS _ _ _ _ ?_ hbn9).mono ?_; (first | exact HF2.out _ | exact (HF2.out _).alloc _ | exact (HF2.out _).below hb7 | exact ((HF2.out _).below hb7).alloc _); rintro e w8 ⟨rfl, rfl⟩
            refine hK.out _ _ (Below.refl _ _) ?_
            clear hK K
            try simp only [Act.put, List.setIfInBounds_toArray, List.set_cons_zero, List.set_cons_succ]
            refine wpAnyB_one (i := 17) (o := { dst := some 58, op := Op.buildSlice 22 1 #[(0, Go.Operand.tmp 57)], type := 22, pos := "lin.go:41", after := #[{ on := 16, ground := Ground.data }, { on := 2, ground := Ground.guard }], guard := some (2, false) }) (by kernel_rfl) rfl (fun K hK => ?_)
            go_simp
            replace hB := hB.alloc hB.size (.cells #[.int .u8 s] 5)
            refine hK.out _ _ ((Below.refl _ _).alloc (Nat.le_refl _) _) ?_
            clear hK K
            try simp only [Act.put, List.setIfInBounds_toArray, List.set_cons_zero, List.set_cons_succ]
            refine wpAnyB_take (i := 18) (oi := { dst := some 59, op := Op.convert 22 9 (Go.Operand.tmp 58), type := 9, pos := "lin.go:41", after := #[{ on := 17, ground := Ground.data }, { on := 2, ground := Ground.guard }], guard := some (2, false) }) (v := ?v20) rfl (by kernel_rfl) (by kernel_rfl) (by kernel_rfl) (fun _ _ _ h => h) (Or.inl ⟨by rfl, ?hy20⟩) ?rs20
            case hy20 => (intro W hW; have hcv := run_bytes (P := Try.prog) Try.underlying22 Try.underlying5 Try.underlying9 1 ((Rd.oneM (Value.int .u8) _ s 5).below hW); (try simp only [World.size_alloc] at hcv); go_simp; try with_reducible rfl)
            try simp only [Act.put, List.setIfInBounds_toArray, List.set_cons_zero, List.set_cons_succ]
            refine wpAnyB_take (i := 19) (oi := { dst := some 60, op := Op.binOp Go.BinOp.add 9 (Go.Operand.tmp 54) (Go.Operand.tmp 59) 9, type := 9, pos := "lin.go:41", after := #[{ on := 13, ground := Ground.data }, { on := 18, ground := Ground.data }, { on := 2, ground := Ground.guard }], guard := some (2, false) }) (v := ?v21) rfl (by kernel_rfl) (by kernel_rfl) (by kernel_rfl) (fun _ _ _ h => h) (Or.inl ⟨by rfl, ?hy21⟩) ?rs21
            case hy21 => (intro W hW; go_simp; try with_reducible rfl)
            try simp only [Act.put, List.setIfInBounds_toArray, List.set_cons_zero, List.set_cons_succ]
            refine wpAnyB_take (i := 20) (oi := { dst := some 61, op := Op.binOp Go.BinOp.neq 9 (Go.Operand.tmp 45) (Go.Operand.tmp 60) 9, type := 4, pos := "lin.go:41", after := #[{ on := 4, ground := Ground.data }, { on := 19, ground := Ground.data }, { on := 2, ground := Ground.guard }], guard := some (2, false) }) (v := ?v22) rfl (by kernel_rfl) (by kernel_rfl) (by kernel_rfl) (fun _ _ _ h => h) (Or.inl ⟨by rfl, ?hy22⟩) ?rs22
            case hy22 => (intro W hW; go_simp; try with_reducible rfl)
            try simp only [Act.put, List.setIfInBounds_toArray, List.set_cons_zero, List.set_cons_succ]
            refine wpAnyB_take (i := 21) (oi := { dst := some 62, op := Op.pick (Go.Operand.tmp 43) (Go.Operand.const (Go.Value.bool true)) (Go.Operand.tmp 61), type := 4, pos := "lin.go:41", after := #[{ on := 2, ground := Ground.data }, { on := 20, ground := Ground.data }], guard := none }) (v := ?v23) rfl (by kernel_rfl) (by kernel_rfl) (by kernel_rfl) (fun _ _ _ h => h) (Or.inl ⟨by rfl, ?hy23⟩) ?rs23
            case hy23 => (intro W hW; go_simp; try with_reducible rfl)
            try simp only [Act.put, List.setIfInBounds_toArray, List.set_cons_zero, List.set_cons_succ]
            refine wpAnyB_done (by kernel_rfl) ?_
            rotate_left
            go_simp
            refine (hGS _ _ _ _ ?_ hbn9).mono ?_; (first | exact HF2.out _ | exact (HF2.out _).alloc _ | exact (HF2.out _).below hb7 | exact ((HF2.out _).below hb7).alloc _); rintro e w8 ⟨rfl, rfl⟩
            refine hK.out _ _ (Below.refl _ _) ?_
            clear hK K
            try simp only [Act.put, List.setIfInBounds_toArray, List.set_cons_zero, List.set_cons_succ]
            refine wpAnyB_two (i := 8) (j := 17) (oi := { dst := some 49, op := Op.buildSlice 22 1 #[(0, Go.Operand.tmp 48)], type := 22, pos := "lin.go:41", after := #[{ on := 7, ground := Ground.data }, { on := 2, ground := Ground.guard }], guard := some (2, false) }) (oj := { dst := some 58, op := Op.buildSlice 22 1 #[(0, Go.Operand.tmp 57)], type := 22, pos := "lin.go:41", after := #[{ on := 16, ground := Ground.data }, { on := 2, ground := Ground.guard }], guard := some (2, false) }) (by kernel_rfl) rfl rfl (fun K hK => ?_) (fun K hK => ?_)
            go_simp
            replace hB := hB.alloc hB.size (.cells #[.int .u8 g] 5)
            refine hK.out _ _ ((Below.refl _ _).alloc (Nat.le_refl _) _) ?_
            clear hK K
            try simp only [Act.put, List.setIfInBounds_toArray, List.set_cons_zero, List.set_cons_succ]
            refine wpAnyB_take (i := 9) (oi := { dst := some 50, op := Op.convert 22 9 (Go.Operand.tmp 49), type := 9, pos := "lin.go:41", after := #[{ on := 8, ground := Ground.data }, { on := 2, ground := Ground.guard }], guard := some (2, false) }) (v := ?v24) rfl (by kernel_rfl) (by kernel_rfl) (by kernel_rfl) (fun _ _ _ h => h) (Or.inl ⟨by rfl, ?hy24⟩) ?rs24
            case hy24 => (intro W hW; have hcv := run_bytes (P := Try.prog) Try.underlying22 Try.underlying5 Try.underlying9 1 ((Rd.oneM (Value.int .u8) _ g 5).below hW); (try simp only [World.size_alloc] at hcv); go_simp; try with_reducible rfl)
            try simp only [Act.put, List.setIfInBounds_toArray, List.set_cons_zero, List.set_cons_succ]
            refine wpAnyB_take (i := 13) (oi := { dst := some 54, op := Op.binOp Go.BinOp.add 9 (Go.Operand.tmp 50) (Go.Operand.tmp 53) 9, type := 9, pos := "lin.go:41", after := #[{ on := 9, ground := Ground.data }, { on := 12, ground := Ground.data }, { on := 2, ground := Ground.guard }], guard := some (2, false) }) (v := ?v25) rfl (by kernel_rfl) (by kernel_rfl) (by kernel_rfl) (fun _ _ _ h => h) (Or.inl ⟨by rfl, ?hy25⟩) ?rs25
            case hy25 => (intro W hW; go_simp; try with_reducible rfl)
            try simp only [Act.put, List.setIfInBounds_toArray, List.set_cons_zero, List.set_cons_succ]
            refine wpAnyB_one (i := 17) (o := { dst := some 58, op := Op.buildSlice 22 1 #[(0, Go.Operand.tmp 57)], type := 22, pos := "lin.go:41", after := #[{ on := 16, ground := Ground.data }, { on := 2, ground := Ground.guard }], guard := some (2, false) }) (by kernel_rfl) rfl (fun K hK => ?_)
            go_simp
            replace hB := hB.alloc hB.size (.cells #[.int .u8 s] 5)
            refine hK.out _ _ ((Below.refl _ _).alloc (Nat.le_refl _) _) ?_
            clear hK K
            try simp only [Act.put, List.setIfInBounds_toArray, List.set_cons_zero, List.set_cons_succ]
            refine wpAnyB_take (i := 18) (oi := { dst := some 59, op := Op.convert 22 9 (Go.Operand.tmp 58), type := 9, pos := "lin.go:41", after := #[{ on := 17, ground := Ground.data }, { on := 2, ground := Ground.guard }], guard := some (2, false) }) (v := ?v26) rfl (by kernel_rfl) (by kernel_rfl) (by kernel_rfl) (fun _ _ _ h => h) (Or.inl ⟨by rfl, ?hy26⟩) ?rs26
            case hy26 => (intro W hW; have hcv := run_bytes (P := Try.prog) Try.underlying22 Try.underlying5 Try.underlying9 1 ((Rd.oneM (Value.int .u8) _ s 5).below hW); (try simp only [World.size_alloc] at hcv); go_simp; try with_reducible rfl)
            try simp only [Act.put, List.setIfInBounds_toArray, List.set_cons_zero, List.set_cons_succ]
            refine wpAnyB_take (i := 19) (oi := { dst := some 60, op := Op.binOp Go.BinOp.add 9 (Go.Operand.tmp 54) (Go.Operand.tmp 59) 9, type := 9, pos := "lin.go:41", after := #[{ on := 13, ground := Ground.data }, { on := 18, ground := Ground.data }, { on := 2, ground := Ground.guard }], guard := some (2, false) }) (v := ?v27) rfl (by kernel_rfl) (by kernel_rfl) (by kernel_rfl) (fun _ _ _ h => h) (Or.inl ⟨by rfl, ?hy27⟩) ?rs27
            case hy27 => (intro W hW; go_simp; try with_reducible rfl)
            try simp only [Act.put, List.setIfInBounds_toArray, List.set_cons_zero, List.set_cons_succ]
            refine wpAnyB_take (i := 20) (oi := { dst := some 61, op := Op.binOp Go.BinOp.neq 9 (Go.Operand.tmp 45) (Go.Operand.tmp 60) 9, type := 4, pos := "lin.go:41", after := #[{ on := 4, ground := Ground.data }, { on := 19, ground := Ground.data }, { on := 2, ground := Ground.guard }], guard := some (2, false) }) (v := ?v28) rfl (by kernel_rfl) (by kernel_rfl) (by kernel_rfl) (fun _ _ _ h => h) (Or.inl ⟨by rfl, ?hy28⟩) ?rs28
            case hy28 => (intro W hW; go_simp; try with_reducible rfl)
            try simp only [Act.put, List.setIfInBounds_toArray, List.set_cons_zero, List.set_cons_succ]
            refine wpAnyB_take (i := 21) (oi := { dst := some 62, op := Op.pick (Go.Operand.tmp 43) (Go.Operand.const (Go.Value.bool true)) (Go.Operand.tmp 61), type := 4, pos := "lin.go:41", after := #[{ on := 2, ground := Ground.data }, { on := 20, ground := Ground.data }], guard := none }) (v := ?v29) rfl (by kernel_rfl) (by kernel_rfl) (by kernel_rfl) (fun _ _ _ h => h) (Or.inl ⟨by rfl, ?hy29⟩) ?rs29
            case hy29 => (intro W hW; go_simp; try with_reducible rfl)
            try simp only [Act.put, List.setIfInBounds_toArray, List.set_cons_zero, List.set_cons_succ]
            refine wpAnyB_done (by kernel_rfl) ?_
            rotate_left
            go_simp
            replace hB := hB.alloc hB.size (.cells #[.int .u8 s] 5)
            refine hK.out _ _ ((Below.refl _ _).alloc (Nat.le_refl _) _) ?_
            clear hK K
            try simp only [Act.put, List.setIfInBounds_toArray, List.set_cons_zero, List.set_cons_succ]
            refine wpAnyB_take (i := 18) (oi := { dst := some 59, op := Op.convert 22 9 (Go.Operand.tmp 58), type := 9, pos := "lin.go:41", after := #[{ on := 17, ground := Ground.data }, { on := 2, ground := Ground.guard }], guard := some (2, false) }) (v := ?v30) rfl (by kernel_rfl) (by kernel_rfl) (by kernel_rfl) (fun _ _ _ h => h) (Or.inl ⟨by rfl, ?hy30⟩) ?rs30
            case hy30 => (intro W hW; have hcv := run_bytes (P := Try.prog) Try.underlying22 Try.underlying5 Try.underlying9 1 ((Rd.oneM (Value.int .u8) _ s 5).below hW); (try simp only [World.size_alloc] at hcv); go_simp; try with_reducible rfl)
            try simp only [Act.put, List.setIfInBounds_toArray, List.set_cons_zero, List.set_cons_succ]
            refine wpAnyB_one (i := 8) (o := { dst := some 49, op := Op.buildSlice 22 1 #[(0, Go.Operand.tmp 48)], type := 22, pos := "lin.go:41", after := #[{ on := 7, ground := Ground.data }, { on := 2, ground := Ground.guard }], guard := some (2, false) }) (by kernel_rfl) rfl (fun K hK => ?_)
            go_simp
            replace hB := hB.alloc hB.size (.cells #[.int .u8 g] 5)
            refine hK.out _ _ ((Below.refl _ _).alloc (Nat.le_refl _) _) ?_
            clear hK K
            try simp only [Act.put, List.setIfInBounds_toArray, List.set_cons_zero, List.set_cons_succ]
            refine wpAnyB_take (i := 9) (oi := { dst := some 50, op := Op.convert 22 9 (Go.Operand.tmp 49), type := 9, pos := "lin.go:41", after := #[{ on := 8, ground := Ground.data }, { on := 2, ground := Ground.guard }], guard := some (2, false) }) (v := ?v31) rfl (by kernel_rfl) (by kernel_rfl) (by kernel_rfl) (fun _ _ _ h => h) (Or.inl ⟨by rfl, ?hy31⟩) ?rs31
            case hy31 => (intro W hW; have hcv := run_bytes (P := Try.prog) Try.underlying22 Try.underlying5 Try.underlying9 1 ((Rd.oneM (Value.int .u8) _ g 5).below hW); (try simp only [World.size_alloc] at hcv); go_simp; try with_reducible rfl)
            try simp only [Act.put, List.setIfInBounds_toArray, List.set_cons_zero, List.set_cons_succ]
            refine wpAnyB_take (i := 13) (oi := { dst := some 54, op := Op.binOp Go.BinOp.add 9 (Go.Operand.tmp 50) (Go.Operand.tmp 53) 9, type := 9, pos := "lin.go:41", after := #[{ on := 9, ground := Ground.data }, { on := 12, ground := Ground.data }, { on := 2, ground := Ground.guard }], guard := some (2, false) }) (v := ?v32) rfl (by kernel_rfl) (by kernel_rfl) (by kernel_rfl) (fun _ _ _ h => h) (Or.inl ⟨by rfl, ?hy32⟩) ?rs32
            case hy32 => (intro W hW; go_simp; try with_reducible rfl)
            try simp only [Act.put, List.setIfInBounds_toArray, List.set_cons_zero, List.set_cons_succ]
            refine wpAnyB_take (i := 19) (oi := { dst := some 60, op := Op.binOp Go.BinOp.add 9 (Go.Operand.tmp 54) (Go.Operand.tmp 59) 9, type := 9, pos := "lin.go:41", after := #[{ on := 13, ground := Ground.data }, { on := 18, ground := Ground.data }, { on := 2, ground := Ground.guard }], guard := some (2, false) }) (v := ?v33) rfl (by kernel_rfl) (by kernel_rfl) (by kernel_rfl) (fun _ _ _ h => h) (Or.inl ⟨by rfl, ?hy33⟩) ?rs33
            case hy33 => (intro W hW; go_simp; try with_reducible rfl)
            try simp only [Act.put, List.setIfInBounds_toArray, List.set_cons_zero, List.set_cons_succ]
            refine wpAnyB_take (i := 20) (oi := { dst := some 61, op := Op.binOp Go.BinOp.neq 9 (Go.Operand.tmp 45) (Go.Operand.tmp 60) 9, type := 4, pos := "lin.go:41", after := #[{ on := 4, ground := Ground.data }, { on := 19, ground := Ground.data }, { on := 2, ground := Ground.guard }], guard := some (2, false) }) (v := ?v34) rfl (by kernel_rfl) (by kernel_rfl) (by kernel_rfl) (fun _ _ _ h => h) (Or.inl ⟨by rfl, ?hy34⟩) ?rs34
            case hy34 => (intro W hW; go_simp; try with_reducible rfl)
            try simp only [Act.put, List.setIfInBounds_toArray, List.set_cons_zero, List.set_cons_succ]
            refine wpAnyB_take (i := 21) (oi := { dst := some 62, op := Op.pick (Go.Operand.tmp 43) (Go.Operand.const (Go.Value.bool true)) (Go.Operand.tmp 61), type := 4, pos := "lin.go:41", after := #[{ on := 2, ground := Ground.data }, { on := 20, ground := Ground.data }], guard := none }) (v := ?v35) rfl (by kernel_rfl) (by kernel_rfl) (by kernel_rfl) (fun _ _ _ h => h) (Or.inl ⟨by rfl, ?hy35⟩) ?rs35
            case hy35 => (intro W hW; go_simp; try with_reducible rfl)
            try simp only [Act.put, List.setIfInBounds_toArray, List.set_cons_zero, List.set_cons_succ]
            refine wpAnyB_done (by kernel_rfl) ?_
            rotate_left
            go_simp
            replace hB := bthen hB (HF3.out _)
            refine hK.out _ _ (HF3.out _) ?_
            clear hK K
            try simp only [Act.put, List.setIfInBounds_toArray, List.set_cons_zero, List.set_cons_succ]
            refine wpAnyB_one (i := 7) (o := { dst := some 48, op := Op.call { callee := Callee.value (Go.Operand.func 14), args := #[Go.Operand.tmp 47], argTypes := #[3] }, type := 5, pos := "lin.go:41", after := #[{ on := 6, ground := Ground.data }, { on := 2, ground := Ground.chain }, { on := 2, ground := Ground.guard }], guard := some (2, false) }) (by kernel_rfl) rfl (fun K hK => ?_)
            go_simp
            refine (hGG _).mono ?_; rintro e w7 ⟨rfl, hbk⟩; have hb7 := hbk; replace hB := bthen hB hbk
            refine hK.out _ _ hbk ?_
            clear hK K
            try simp only [Act.put, List.setIfInBounds_toArray, List.set_cons_zero, List.set_cons_succ]
            refine wpAnyB_two (i := 8) (j := 16) (oi := { dst := some 49, op := Op.buildSlice 22 1 #[(0, Go.Operand.tmp 48)], type := 22, pos := "lin.go:41", after := #[{ on := 7, ground := Ground.data }, { on := 2, ground := Ground.guard }], guard := some (2, false) }) (oj := { dst := some 57, op := Op.call { callee := Callee.value (Go.Operand.func 13), args := #[Go.Operand.tmp 56], argTypes := #[22] }, type := 5, pos := "lin.go:41", after := #[{ on := 15, ground := Ground.data }, { on := 7, ground := Ground.chain }, { on := 2, ground := Ground.guard }], guard := some (2, false) }) (by kernel_rfl) rfl rfl (fun K hK => ?_) (fun K hK => ?_)
            go_simp
            replace hB := hB.alloc hB.size (.cells #[.int .u8 g] 5)
            refine hK.out _ _ ((Below.refl _ _).alloc (Nat.le_refl _) _) ?_
            clear hK K
            try simp only [Act.put, List.setIfInBounds_toArray, List.set_cons_zero, List.set_cons_succ]
            refine wpAnyB_take (i := 9) (oi := { dst := some 50, op := Op.convert 22 9 (Go.Operand.tmp 49), type := 9, pos := "lin.go:41", after := #[{ on := 8, ground := Ground.data }, { on := 2, ground := Ground.guard }], guard := some (2, false) }) (v := ?v36) rfl (by kernel_rfl) (by kernel_rfl) (by kernel_rfl) (fun _ _ _ h => h) (Or.inl ⟨by rfl, ?hy36⟩) ?rs36
            case hy36 => (intro W hW; have hcv := run_bytes (P := Try.prog) Try.underlying22 Try.underlying5 Try.underlying9 1 ((Rd.oneM (Value.int .u8) _ g 5).below hW); (try simp only [World.size_alloc] at hcv); go_simp; try with_reducible rfl)
            try simp only [Act.put, List.setIfInBounds_toArray, List.set_cons_zero, List.set_cons_succ]
            refine wpAnyB_take (i := 13) (oi := { dst := some 54, op := Op.binOp Go.BinOp.add 9 (Go.Operand.tmp 50) (Go.Operand.tmp 53) 9, type := 9, pos := "lin.go:41", after := #[{ on := 9, ground := Ground.data }, { on := 12, ground := Ground.data }, { on := 2, ground := Ground.guard }], guard := some (2, false) }) (v := ?v37) rfl (by kernel_rfl) (by kernel_rfl) (by kernel_rfl) (fun _ _ _ h => h) (Or.inl ⟨by rfl, ?hy37⟩) ?rs37
            case hy37 => (intro W hW; go_simp; try with_reducible rfl)
            try simp only [Act.put, List.setIfInBounds_toArray, List.set_cons_zero, List.set_cons_succ]
            refine wpAnyB_one (i := 16) (o := { dst := some 57, op := Op.call { callee := Callee.value (Go.Operand.func 13), args := #[Go.Operand.tmp 56], argTypes := #[22] }, type := 5, pos := "lin.go:41", after := #[{ on := 15, ground := Ground.data }, { on := 7, ground := Ground.chain }, { on := 2, ground := Ground.guard }], guard := some (2, false) }) (by kernel_rfl) rfl (fun K hK => ?_)
            go_simp
            refine (hGS _ _ _ _ ?_ hbn9).mono ?_; (first | exact HF2.out _ | exact (HF2.out _).alloc _ | exact (HF2.out _).below hb7 | exact ((HF2.out _).below hb7).alloc _); rintro e w8 ⟨rfl, rfl⟩
            refine hK.out _ _ (Below.refl _ _) ?_
            clear hK K
            try simp only [Act.put, List.setIfInBounds_toArray, List.set_cons_zero, List.set_cons_succ]
            refine wpAnyB_one (i := 17) (o := { dst := some 58, op := Op.buildSlice 22 1 #[(0, Go.Operand.tmp 57)], type := 22, pos := "lin.go:41", after := #[{ on := 16, ground := Ground.data }, { on := 2, ground := Ground.guard }], guard := some (2, false) }) (by kernel_rfl) rfl (fun K hK => ?_)
            go_simp
            replace hB := hB.alloc hB.size (.cells #[.int .u8 s] 5)
            refine hK.out _ _ ((Below.refl _ _).alloc (Nat.le_refl _) _) ?_
            clear hK K
            try simp only [Act.put, List.setIfInBounds_toArray, List.set_cons_zero, List.set_cons_succ]
            refine wpAnyB_take (i := 18) (oi := { dst := some 59, op := Op.convert 22 9 (Go.Operand.tmp 58), type := 9, pos := "lin.go:41", after := #[{ on := 17, ground := Ground.data }, { on := 2, ground := Ground.guard }], guard := some (2, false) }) (v := ?v38) rfl (by kernel_rfl) (by kernel_rfl) (by kernel_rfl) (fun _ _ _ h => h) (Or.inl ⟨by rfl, ?hy38⟩) ?rs38
            case hy38 => (intro W hW; have hcv := run_bytes (P := Try.prog) Try.underlying22 Try.underlying5 Try.underlying9 1 ((Rd.oneM (Value.int .u8) _ s 5).below hW); (try simp only [World.size_alloc] at hcv); go_simp; try with_reducible rfl)
            try simp only [Act.put, List.setIfInBounds_toArray, List.set_cons_zero, List.set_cons_succ]
            refine wpAnyB_take (i := 19) (oi := { dst := some 60, op := Op.binOp Go.BinOp.add 9 (Go.Operand.tmp 54) (Go.Operand.tmp 59) 9, type := 9, pos := "lin.go:41", after := #[{ on := 13, ground := Ground.data }, { on := 18, ground := Ground.data }, { on := 2, ground := Ground.guard }], guard := some (2, false) }) (v := ?v39) rfl (by kernel_rfl) (by kernel_rfl) (by kernel_rfl) (fun _ _ _ h => h) (Or.inl ⟨by rfl, ?hy39⟩) ?rs39
            case hy39 => (intro W hW; go_simp; try with_reducible rfl)
            try simp only [Act.put, List.setIfInBounds_toArray, List.set_cons_zero, List.set_cons_succ]
            refine wpAnyB_take (i := 20) (oi := { dst := some 61, op := Op.binOp Go.BinOp.neq 9 (Go.Operand.tmp 45) (Go.Operand.tmp 60) 9, type := 4, pos := "lin.go:41", after := #[{ on := 4, ground := Ground.data }, { on := 19, ground := Ground.data }, { on := 2, ground := Ground.guard }], guard := some (2, false) }) (v := ?v40) rfl (by kernel_rfl) (by kernel_rfl) (by kernel_rfl) (fun _ _ _ h => h) (Or.inl ⟨by rfl, ?hy40⟩) ?rs40
            case hy40 => (intro W hW; go_simp; try with_reducible rfl)
            try simp only [Act.put, List.setIfInBounds_toArray, List.set_cons_zero, List.set_cons_succ]
            refine wpAnyB_take (i := 21) (oi := { dst := some 62, op := Op.pick (Go.Operand.tmp 43) (Go.Operand.const (Go.Value.bool true)) (Go.Operand.tmp 61), type := 4, pos := "lin.go:41", after := #[{ on := 2, ground := Ground.data }, { on := 20, ground := Ground.data }], guard := none }) (v := ?v41) rfl (by kernel_rfl) (by kernel_rfl) (by kernel_rfl) (fun _ _ _ h => h) (Or.inl ⟨by rfl, ?hy41⟩) ?rs41
            case hy41 => (intro W hW; go_simp; try with_reducible rfl)
            try simp only [Act.put, List.setIfInBounds_toArray, List.set_cons_zero, List.set_cons_succ]
            refine wpAnyB_done (by kernel_rfl) ?_
            rotate_left
            go_simp
            refine (hGS _ _ _ _ ?_ hbn9).mono ?_; (first | exact HF2.out _ | exact (HF2.out _).alloc _ | exact (HF2.out _).below hb7 | exact ((HF2.out _).below hb7).alloc _); rintro e w8 ⟨rfl, rfl⟩
            refine hK.out _ _ (Below.refl _ _) ?_
            clear hK K
            try simp only [Act.put, List.setIfInBounds_toArray, List.set_cons_zero, List.set_cons_succ]
            refine wpAnyB_two (i := 8) (j := 17) (oi := { dst := some 49, op := Op.buildSlice 22 1 #[(0, Go.Operand.tmp 48)], type := 22, pos := "lin.go:41", after := #[{ on := 7, ground := Ground.data }, { on := 2, ground := Ground.guard }], guard := some (2, false) }) (oj := { dst := some 58, op := Op.buildSlice 22 1 #[(0, Go.Operand.tmp 57)], type := 22, pos := "lin.go:41", after := #[{ on := 16, ground := Ground.data }, { on := 2, ground := Ground.guard }], guard := some (2, false) }) (by kernel_rfl) rfl rfl (fun K hK => ?_) (fun K hK => ?_)
            go_simp
            replace hB := hB.alloc hB.size (.cells #[.int .u8 g] 5)
            refine hK.out _ _ ((Below.refl _ _).alloc (Nat.le_refl _) _) ?_
            clear hK K
            try simp only [Act.put, List.setIfInBounds_toArray, List.set_cons_zero, List.set_cons_succ]
            refine wpAnyB_take (i := 9) (oi := { dst := some 50, op := Op.convert 22 9 (Go.Operand.tmp 49), type := 9, pos := "lin.go:41", after := #[{ on := 8, ground := Ground.data }, { on := 2, ground := Ground.guard }], guard := some (2, false) }) (v := ?v42) rfl (by kernel_rfl) (by kernel_rfl) (by kernel_rfl) (fun _ _ _ h => h) (Or.inl ⟨by rfl, ?hy42⟩) ?rs42
            case hy42 => (intro W hW; have hcv := run_bytes (P := Try.prog) Try.underlying22 Try.underlying5 Try.underlying9 1 ((Rd.oneM (Value.int .u8) _ g 5).below hW); (try simp only [World.size_alloc] at hcv); go_simp; try with_reducible rfl)
            try simp only [Act.put, List.setIfInBounds_toArray, List.set_cons_zero, List.set_cons_succ]
            refine wpAnyB_take (i := 13) (oi := { dst := some 54, op := Op.binOp Go.BinOp.add 9 (Go.Operand.tmp 50) (Go.Operand.tmp 53) 9, type := 9, pos := "lin.go:41", after := #[{ on := 9, ground := Ground.data }, { on := 12, ground := Ground.data }, { on := 2, ground := Ground.guard }], guard := some (2, false) }) (v := ?v43) rfl (by kernel_rfl) (by kernel_rfl) (by kernel_rfl) (fun _ _ _ h => h) (Or.inl ⟨by rfl, ?hy43⟩) ?rs43
            case hy43 => (intro W hW; go_simp; try with_reducible rfl)
            try simp only [Act.put, List.setIfInBounds_toArray, List.set_cons_zero, List.set_cons_succ]
            refine wpAnyB_one (i := 17) (o := { dst := some 58, op := Op.buildSlice 22 1 #[(0, Go.Operand.tmp 57)], type := 22, pos := "lin.go:41", after := #[{ on := 16, ground := Ground.data }, { on := 2, ground := Ground.guard }], guard := some (2, false) }) (by kernel_rfl) rfl (fun K hK => ?_)
            go_simp
            replace hB := hB.alloc hB.size (.cells #[.int .u8 s] 5)
            refine hK.out _ _ ((Below.refl _ _).alloc (Nat.le_refl _) _) ?_
            clear hK K
            try simp only [Act.put, List.setIfInBounds_toArray, List.set_cons_zero, List.set_cons_succ]
            refine wpAnyB_take (i := 18) (oi := { dst := some 59, op := Op.convert 22 9 (Go.Operand.tmp 58), type := 9, pos := "lin.go:41", after := #[{ on := 17, ground := Ground.data }, { on := 2, ground := Ground.guard }], guard := some (2, false) }) (v := ?v44) rfl (by kernel_rfl) (by kernel_rfl) (by kernel_rfl) (fun _ _ _ h => h) (Or.inl ⟨by rfl, ?hy44⟩) ?rs44
            case hy44 => (intro W hW; have hcv := run_bytes (P := Try.prog) Try.underlying22 Try.underlying5 Try.underlying9 1 ((Rd.oneM (Value.int .u8) _ s 5).below hW); (try simp only [World.size_alloc] at hcv); go_simp; try with_reducible rfl)
            try simp only [Act.put, List.setIfInBounds_toArray, List.set_cons_zero, List.set_cons_succ]
            refine wpAnyB_take (i := 19) (oi := { dst := some 60, op := Op.binOp Go.BinOp.add 9 (Go.Operand.tmp 54) (Go.Operand.tmp 59) 9, type := 9, pos := "lin.go:41", after := #[{ on := 13, ground := Ground.data }, { on := 18, ground := Ground.data }, { on := 2, ground := Ground.guard }], guard := some (2, false) }) (v := ?v45) rfl (by kernel_rfl) (by kernel_rfl) (by kernel_rfl) (fun _ _ _ h => h) (Or.inl ⟨by rfl, ?hy45⟩) ?rs45
            case hy45 => (intro W hW; go_simp; try with_reducible rfl)
            try simp only [Act.put, List.setIfInBounds_toArray, List.set_cons_zero, List.set_cons_succ]
            refine wpAnyB_take (i := 20) (oi := { dst := some 61, op := Op.binOp Go.BinOp.neq 9 (Go.Operand.tmp 45) (Go.Operand.tmp 60) 9, type := 4, pos := "lin.go:41", after := #[{ on := 4, ground := Ground.data }, { on := 19, ground := Ground.data }, { on := 2, ground := Ground.guard }], guard := some (2, false) }) (v := ?v46) rfl (by kernel_rfl) (by kernel_rfl) (by kernel_rfl) (fun _ _ _ h => h) (Or.inl ⟨by rfl, ?hy46⟩) ?rs46
            case hy46 => (intro W hW; go_simp; try with_reducible rfl)
            try simp only [Act.put, List.setIfInBounds_toArray, List.set_cons_zero, List.set_cons_succ]
            refine wpAnyB_take (i := 21) (oi := { dst := some 62, op := Op.pick (Go.Operand.tmp 43) (Go.Operand.const (Go.Value.bool true)) (Go.Operand.tmp 61), type := 4, pos := "lin.go:41", after := #[{ on := 2, ground := Ground.data }, { on := 20, ground := Ground.data }], guard := none }) (v := ?v47) rfl (by kernel_rfl) (by kernel_rfl) (by kernel_rfl) (fun _ _ _ h => h) (Or.inl ⟨by rfl, ?hy47⟩) ?rs47
            case hy47 => (intro W hW; go_simp; try with_reducible rfl)
            try simp only [Act.put, List.setIfInBounds_toArray, List.set_cons_zero, List.set_cons_succ]
            refine wpAnyB_done (by kernel_rfl) ?_
            rotate_left
            go_simp
            replace hB := hB.alloc hB.size (.cells #[.int .u8 s] 5)
            refine hK.out _ _ ((Below.refl _ _).alloc (Nat.le_refl _) _) ?_
            clear hK K
            try simp only [Act.put, List.setIfInBounds_toArray, List.set_cons_zero, List.set_cons_succ]
            refine wpAnyB_take (i := 18) (oi := { dst := some 59, op := Op.convert 22 9 (Go.Operand.tmp 58), type := 9, pos := "lin.go:41", after := #[{ on := 17, ground := Ground.data }, { on := 2, ground := Ground.guard }], guard := some (2, false) }) (v := ?v48) rfl (by kernel_rfl) (by kernel_rfl) (by kernel_rfl) (fun _ _ _ h => h) (Or.inl ⟨by rfl, ?hy48⟩) ?rs48
            case hy48 => (intro W hW; have hcv := run_bytes (P := Try.prog) Try.underlying22 Try.underlying5 Try.underlying9 1 ((Rd.oneM (Value.int .u8) _ s 5).below hW); (try simp only [World.size_alloc] at hcv); go_simp; try with_reducible rfl)
            try simp only [Act.put, List.setIfInBounds_toArray, List.set_cons_zero, List.set_cons_succ]
            refine wpAnyB_one (i := 8) (o := { dst := some 49, op := Op.buildSlice 22 1 #[(0, Go.Operand.tmp 48)], type := 22, pos := "lin.go:41", after := #[{ on := 7, ground := Ground.data }, { on := 2, ground := Ground.guard }], guard := some (2, false) }) (by kernel_rfl) rfl (fun K hK => ?_)
            go_simp
            replace hB := hB.alloc hB.size (.cells #[.int .u8 g] 5)
            refine hK.out _ _ ((Below.refl _ _).alloc (Nat.le_refl _) _) ?_
            clear hK K
            try simp only [Act.put, List.setIfInBounds_toArray, List.set_cons_zero, List.set_cons_succ]
            refine wpAnyB_take (i := 9) (oi := { dst := some 50, op := Op.convert 22 9 (Go.Operand.tmp 49), type := 9, pos := "lin.go:41", after := #[{ on := 8, ground := Ground.data }, { on := 2, ground := Ground.guard }], guard := some (2, false) }) (v := ?v49) rfl (by kernel_rfl) (by kernel_rfl) (by kernel_rfl) (fun _ _ _ h => h) (Or.inl ⟨by rfl, ?hy49⟩) ?rs49
            case hy49 => (intro W hW; have hcv := run_bytes (P := Try.prog) Try.underlying22 Try.underlying5 Try.underlying9 1 ((Rd.oneM (Value.int .u8) _ g 5).below hW); (try simp only [World.size_alloc] at hcv); go_simp; try with_reducible rfl)
            try simp only [Act.put, List.setIfInBounds_toArray, List.set_cons_zero, List.set_cons_succ]
            refine wpAnyB_take (i := 13) (oi := { dst := some 54, op := Op.binOp Go.BinOp.add 9 (Go.Operand.tmp 50) (Go.Operand.tmp 53) 9, type := 9, pos := "lin.go:41", after := #[{ on := 9, ground := Ground.data }, { on := 12, ground := Ground.data }, { on := 2, ground := Ground.guard }], guard := some (2, false) }) (v := ?v50) rfl (by kernel_rfl) (by kernel_rfl) (by kernel_rfl) (fun _ _ _ h => h) (Or.inl ⟨by rfl, ?hy50⟩) ?rs50
            case hy50 => (intro W hW; go_simp; try with_reducible rfl)
            try simp only [Act.put, List.setIfInBounds_toArray, List.set_cons_zero, List.set_cons_succ]
            refine wpAnyB_take (i := 19) (oi := { dst := some 60, op := Op.binOp Go.BinOp.add 9 (Go.Operand.tmp 54) (Go.Operand.tmp 59) 9, type := 9, pos := "lin.go:41", after := #[{ on := 13, ground := Ground.data }, { on := 18, ground := Ground.data }, { on := 2, ground := Ground.guard }], guard := some (2, false) }) (v := ?v51) rfl (by kernel_rfl) (by kernel_rfl) (by kernel_rfl) (fun _ _ _ h => h) (Or.inl ⟨by rfl, ?hy51⟩) ?rs51
            case hy51 => (intro W hW; go_simp; try with_reducible rfl)
            try simp only [Act.put, List.setIfInBounds_toArray, List.set_cons_zero, List.set_cons_succ]
            refine wpAnyB_take (i := 20) (oi := { dst := some 61, op := Op.binOp Go.BinOp.neq 9 (Go.Operand.tmp 45) (Go.Operand.tmp 60) 9, type := 4, pos := "lin.go:41", after := #[{ on := 4, ground := Ground.data }, { on := 19, ground := Ground.data }, { on := 2, ground := Ground.guard }], guard := some (2, false) }) (v := ?v52) rfl (by kernel_rfl) (by kernel_rfl) (by kernel_rfl) (fun _ _ _ h => h) (Or.inl ⟨by rfl, ?hy52⟩) ?rs52
            case hy52 => (intro W hW; go_simp; try with_reducible rfl)
            try simp only [Act.put, List.setIfInBounds_toArray, List.set_cons_zero, List.set_cons_succ]
            refine wpAnyB_take (i := 21) (oi := { dst := some 62, op := Op.pick (Go.Operand.tmp 43) (Go.Operand.const (Go.Value.bool true)) (Go.Operand.tmp 61), type := 4, pos := "lin.go:41", after := #[{ on := 2, ground := Ground.data }, { on := 20, ground := Ground.data }], guard := none }) (v := ?v53) rfl (by kernel_rfl) (by kernel_rfl) (by kernel_rfl) (fun _ _ _ h => h) (Or.inl ⟨by rfl, ?hy53⟩) ?rs53
            case hy53 => (intro W hW; go_simp; try with_reducible rfl)
            try simp only [Act.put, List.setIfInBounds_toArray, List.set_cons_zero, List.set_cons_succ]
            refine wpAnyB_done (by kernel_rfl) ?_
            rotate_left
            all_goals
              go_wp2_with fail
              go_meet
              exact ⟨rfl, hB⟩
          case rest =>
            obtain ⟨rfl, hc3⟩ := hcut
            go_wp2
            go_meet
            exact ⟨bthen Hbc.out hc3, Hc2.out.below hc3 Hc2.out.lt, Hrg.out.below hc3⟩
      · have hW := HWr.out
        rw [writeL_data a2 ⟨hi0, hi1⟩ (by rw [Hl0.out]; exact hd)] at hW
        injection hW with e1 e2
        subst e1 e2
        have hx0 : xn = 0 := Hxn.out.symm
        subst hx0
        unfold DataOk at hd
        by_cases h0 : n0 = 0
        · subst h0
          clear hd HWr
          go_wp2
          go_meet
          exact ⟨hba, hgx, hrg.alloc _⟩
        · have hn0 : ((n0 : Int) == 0) = false := by rw [beq_eq_false_iff_ne]; omega
          have hn8 : decide (8 < (n0 : Int)) = true := by simp; omega
          clear hd h0 HWr
          go_wp2
          go_meet
          exact ⟨hba, hgx, hrg.alloc _⟩
    · have hW := HWr.out
      rw [writeL_id a2 hi] at hW
      injection hW with e1 e2
      subst e1 e2
      have hx0 : xn = 0 := Hxn.out.symm
      subst hx0
      unfold IdOk at hi
      by_cases h0 : a0 < 0
      · have t0 : decide (a0 < 0) = true := by simpa using h0
        clear hi h0 HWr
        go_wp2
        go_meet
        exact ⟨hba, hgx, hrg.alloc _⟩
      · have t0 : decide (a0 < 0) = false := by simpa using h0
        have t1 : decide (63 < a0) = true := by simp; omega
        clear hi h0 HWr
        go_wp2
        go_meet
        exact ⟨hba, hgx, hrg.alloc _⟩
  case rest =>
    obtain ⟨hbc, hbg, hrgc⟩ := hcut
    have h1' := h1.below hbc
    clear HWr Hxn hbx hb rx hrg q0 h0 k0 b0 Hl0
    have hbgA := fun o => hbg.alloc o
    have g0 := fun o => (hbg.alloc o).cell 0 rfl
    have g1 := fun o => (hbg.alloc o).cell 1 rfl
    have hrb8 := hrb.1
    have hnil : Byte8 ([] : List Int) := by intro x hx; simp at hx
    by_cases hs3 : n1 < 3
    · have e := HR.out
      rw [readL_short l1 a2 (by rw [Hl1.out]; omega)] at e
      injection e with e1 e2
      injection e1 with e3 e4
      subst e2 e3 e4
      obtain rfl : rn = 0 := Hrn.out.symm
      clear HR
      go_wp2_with fail
      refine (SameFrame_any 0 0 Ag none 0 cg 0 0 [] [] _ (Rd.nil _ _ _) (Rd.nil _ _ _) hnil hnil).mono ?_
      rintro e w5 ⟨rfl, hb5⟩
      rw [show decide ((0 : Int) = 0 ∧ ([] : List Int) = []) = true by simp]
      go_wp2
      go_ret
      exact ⟨rfl, bthen hbc (below_new hb5)⟩
    have t3 : decide ((n1 : Int) < 3) = false := by simp; omega
    by_cases hs10 : 10 < n1
    · have e := HR.out
      rw [readL_long l1 a2 (by rw [Hl1.out]; omega)] at e
      injection e with e1 e2
      injection e1 with e3 e4
      subst e2 e3 e4
      obtain rfl : rn = 0 := Hrn.out.symm
      have t10 : decide (10 < (n1 : Int)) = true := by simp; omega
      clear HR
      go_wp2_with fail
      refine (SameFrame_any 0 0 Ag none 0 cg 0 0 [] [] _ (Rd.nil _ _ _) (Rd.nil _ _ _) hnil hnil).mono ?_
      rintro e w5 ⟨rfl, hb5⟩
      rw [show decide ((0 : Int) = 0 ∧ ([] : List Int) = []) = true by simp]
      go_wp2
      go_ret
      exact ⟨rfl, bthen hbc (below_new hb5)⟩
    have t10 : decide (10 < (n1 : Int)) = false := by simp; omega
    obtain ⟨x, m, y, rfl⟩ := rowL_split l1 (by rw [Hl1.out]; omega)
    have hlen := Hl1.out
    rw [rowL_length] at hlen
    have hd : DataOk m.length := ⟨by omega, by omega⟩
    have hR := HR.out
    rw [readL_row x m y a2 hd] at hR
    obtain ⟨hd1, hd8⟩ := hd
    have hx : 0 ≤ x ∧ x < 256 := q1 x (by simp [rowL])
    have hbm : Byte8 (x :: m) := fun z hz => q1 z (by simp only [rowL, List.mem_cons, List.mem_append] at hz ⊢; exact hz.elim .inl (fun h => .inr (.inl h)))
    obtain ⟨ad, x', rfl, hx0, hc0⟩ := h1'.atMap (k := 0) (by omega)
    rw [rowL_first] at hx0
    injection hx0 with hx0
    subst hx0
    obtain ⟨ad', y', he, hy0, hcy⟩ := h1'.atMap (k := n1 - 1) (by omega)
    injection he with he
    subst he
    rw [show n1 - 1 = m.length + 1 by omega, rowL_last] at hy0
    injection hy0 with hy0
    subst hy0
    have hB := h1'.take (k := n1 - 1) (by omega)
    rw [Nat.mul_one, ← List.map_take, show n1 - 1 = m.length + 1 by omega, rowL_body, show m.length + 1 = n1 - 1 by omega] at hB
    have hD := hB.cut (k := 1) (cap := c1) (by omega) (by omega)
    rw [Nat.mul_one, ← List.map_drop, List.drop_one, List.tail_cons] at hD
    have hsl : ∀ W, (Instr.slice 22 (.slice (some ad) n1 c1) none (some (.int .i64 ((n1 : Int) - 1))) none).run Try.prog W = .ok (.slice (some ad) (n1 - 1) c1) W := fun W => by
      have := run_to elByte W (some ad) n1 c1 (n1 - 1) (by omega)
      rwa [show ((n1 - 1 : Nat) : Int) = (n1 : Int) - 1 by omega] at this
    have hsp : ∀ W, (Instr.slice 22 (.slice (some ad) n1 c1) (some (.int .i64 1)) (some (.int .i64 ((n1 : Int) - 1))) none).run Try.prog W = .ok (.slice (if c1 = 1 then some ad else (some ad).map (·.add 1)) (n1 - 1 - 1) (c1 - 1)) W := fun W => by
      have := run_part elByte W (some ad) n1 c1 1 (n1 - 1) (by omega) (by omega)
      rw [show ((n1 - 1 : Nat) : Int) = (n1 : Int) - 1 by omega, Nat.mul_one] at this
      exact this
    generalize (if c1 = 1 then some ad else (some ad).map (·.add 1)) = AD at hD hsp
    obtain ⟨k, hk⟩ : ∃ k, n1 - 1 - 1 = k := ⟨_, rfl⟩
    have hml : m.length = k := by omega
    have hk8 : k ≤ 8 := by omega
    rw [hk] at hD hsp
    have hm : Byte8 m := fun z hz => hbm z (by simp [hz])
    have e0 : ad.add 0 = ad := rfl
    have hcx : ∀ o, (wc.alloc o).cell? ad = some (.int .u8 x) := fun o => by rw [e0] at hc0; rw [← hc0]; exact Below.cell ((Below.refl _ _).alloc (Nat.le_refl _) o) (World.block_lt_of_cell? wc _ hc0)
    have v1 : IntKind.i64.wrap ((n1 : Int) - 1) = (n1 : Int) - 1 := IntWalk.i64_in _ (by omega)
    have t1 : ((n1 : Int) - 1).toNat = n1 - 1 := by omega
    have b0 : 0 ≤ (n1 : Int) - 1 := by omega
    have b1' : (n1 : Int) - 1 < n1 := by omega
    have Hml := Lib.hid hml
    have HR2 := Lib.hid hR
    clear hR hlen hk hml hs3 hs10 HR Hl1 h1
    go_wp2_with fail
    refine (GNumber_any x _ hx.1 hx.2).mono ?_
    rintro e w5 ⟨rfl, hb5⟩
    have hbg5 := (hbg.alloc (.cells #[.int .i64 0, .slice none 0 0] 32)).below hb5 (hbg.alloc _).lt
    have hbn5 : Box w5 wc.heap.size 32 [.int .i64 0, .slice none 0 0] := (Box.new wc 32 [.int .i64 0, .slice none 0 0]).below hb5 (by simp)
    replace hb5 := below_new hb5
    have hcy5 := (hb5.cell (World.block_lt_of_cell? wc _ hcy)).trans hcy
    have hrg5 := hrgc.below hb5
    replace hD := hD.below hb5
    replace hB := hB.below hb5
    have hb6 := bthen hbc hb5
    clear hcx hcy hc0 hbgA g0 g1 hbg hrgc h1' hb5 hbc q1
    have hR := HR2.out
    unfold readR at hR
    have hne := number_err x
    generalize numberM x = nm at *
    obtain ⟨nid, ner⟩ := nm
    simp only at hR hne ⊢
    clear HR2
    cases a2
    · rw [show bodyM x m false = m from rfl] at hR
      have hcall : ∀ q : Nat, Calls Try.prog 13 #[.slice AD k (c1 - 1)] (w5.drewN q) fun e w' => e = .returned (.int .u8 (sumM m)) ∧ w' = w5.drewN q := fun q => (GSum_any AD k (c1 - 1) m (w5.drewN q) (hD.drewN q) hm (by omega)).mono (fun e w' h => ⟨h.1, h.2.symm⟩)
      generalize sumM m = s at *
      by_cases hner : ner = 0
      · subst hner
        rw [if_neg (by simp)] at hR
        by_cases hy : y = s
        · subst hy
          rw [if_neg (by simp)] at hR
          injection hR with e1 e2
          injection e1 with e3 e4
          subst e2 e3 e4
          obtain rfl : rn = k := Hrn.out.symm.trans Hml.out
          clear hne
          go_wp2_with fail
          go_quiet (first | (go_at_call 13; refine Calls.quiet_of_same (hcall _)))
          have hb7 : Below w.heap.size w (w5.drewN nq) := bthen hb6 (below_draws ⟨_, rfl⟩)
          have hbg7 : Box (w5.drewN nq) w2.heap.size 32 [.int .i64 nid, .slice Ag rn cg] := hbg5
          have hrg7 := hrg5.drewN nq
          have hD7 := hD.drewN nq
          clear hcall hb6 hbg5 hbn5 hrg5 hD hB hcy5 hsl
          generalize w5.drewN nq = w7 at *
          have d0 := Box.cell hbg7 0 rfl
          have d1 := Box.cell hbg7 1 rfl
          have hlt := hbg7.lt
          go_upto_region 27 with fail
          refine wp_region_B (by kernel_rfl) ?_
          refine wpAnyB_take (i := 0) (oi := { dst := some 152, op := Op.move (Go.Operand.tmp 10), type := 23, pos := "lin.go:62", after := #[], guard := none }) (v := ?v54) rfl (by kernel_rfl) (by kernel_rfl) (by kernel_rfl) (fun _ _ _ h => h) (Or.inl ⟨by rfl, ?hy54⟩) ?rs54
          case hy54 => (intro W hW; go_simp; try with_reducible rfl)
          try simp only [Act.put, List.setIfInBounds_toArray, List.set_cons_zero, List.set_cons_succ]
          refine wpAnyB_take (i := 1) (oi := { dst := some 153, op := Op.binOp Go.BinOp.eql 23 (Go.Operand.tmp 152) (Go.Operand.const (Go.Value.int Go.IntKind.i64 0)) 23, type := 4, pos := "lin.go:62", after := #[{ on := 0, ground := Ground.data }], guard := none }) (v := ?v55) rfl (by kernel_rfl) (by kernel_rfl) (by kernel_rfl) (fun _ _ _ h => h) (Or.inl ⟨by rfl, ?hy55⟩) ?rs55
          case hy55 => (intro W hW; go_simp; try with_reducible rfl)
          try simp only [Act.put, List.setIfInBounds_toArray, List.set_cons_zero, List.set_cons_succ]
          refine wpAnyB_take (i := 2) (oi := { dst := some 154, op := Op.move (Go.Operand.tmp 153), type := 4, pos := "lin.go:62", after := #[{ on := 1, ground := Ground.data }], guard := none }) (v := ?v56) rfl (by kernel_rfl) (by kernel_rfl) (by kernel_rfl) (fun _ _ _ h => h) (Or.inl ⟨by rfl, ?hy56⟩) ?rs56
          case hy56 => (intro W hW; go_simp; try with_reducible rfl)
          try simp only [Act.put, List.setIfInBounds_toArray, List.set_cons_zero, List.set_cons_succ]
          refine wpAnyB_take (i := 3) (oi := { dst := some 155, op := Op.load 32 (Go.Operand.tmp 9), type := 32, pos := "lin.go:62", after := #[{ on := 2, ground := Ground.guard }], guard := some (2, true) }) (v := ?v57) rfl (by kernel_rfl) (by kernel_rfl) (by kernel_rfl) (fun _ _ _ h => h) (Or.inl ⟨by rfl, ?hy57⟩) ?rs57
          case hy57 => (intro W hW; have c0' := hW.cell (p := ⟨w2.heap.size, 0, none⟩) hlt; rw [show w7.drew.cell? _ = _ from d0] at c0'; have c1' := hW.cell (p := ⟨w2.heap.size, 1, none⟩) hlt; rw [show w7.drew.cell? _ = _ from d1] at c1'; go_simp; try with_reducible rfl)
          try simp only [Act.put, List.setIfInBounds_toArray, List.set_cons_zero, List.set_cons_succ]
          refine wpAnyB_take (i := 4) (oi := { dst := some 156, op := Op.move (Go.Operand.tmp 14), type := 3, pos := "lin.go:62", after := #[{ on := 2, ground := Ground.guard }], guard := some (2, true) }) (v := ?v58) rfl (by kernel_rfl) (by kernel_rfl) (by kernel_rfl) (fun _ _ _ h => h) (Or.inl ⟨by rfl, ?hy58⟩) ?rs58
          case hy58 => (intro W hW; go_simp; try with_reducible rfl)
          try simp only [Act.put, List.setIfInBounds_toArray, List.set_cons_zero, List.set_cons_succ]
          refine wpAnyB_take (i := 5) (oi := { dst := some 157, op := Op.move (Go.Operand.tmp 1), type := 22, pos := "lin.go:62", after := #[{ on := 2, ground := Ground.guard }], guard := some (2, true) }) (v := ?v59) rfl (by kernel_rfl) (by kernel_rfl) (by kernel_rfl) (fun _ _ _ h => h) (Or.inl ⟨by rfl, ?hy59⟩) ?rs59
          case hy59 => (intro W hW; go_simp; try with_reducible rfl)
          try simp only [Act.put, List.setIfInBounds_toArray, List.set_cons_zero, List.set_cons_succ]
          refine wpAnyB_take (i := 6) (oi := { dst := some 158, op := Op.move (Go.Operand.tmp 16), type := 3, pos := "lin.go:62", after := #[{ on := 2, ground := Ground.guard }], guard := some (2, true) }) (v := ?v60) rfl (by kernel_rfl) (by kernel_rfl) (by kernel_rfl) (fun _ _ _ h => h) (Or.inl ⟨by rfl, ?hy60⟩) ?rs60
          case hy60 => (intro W hW; go_simp; try with_reducible rfl)
          try simp only [Act.put, List.setIfInBounds_toArray, List.set_cons_zero, List.set_cons_succ]
          refine wpAnyB_take (i := 7) (oi := { dst := some 159, op := Op.slice 22 (Go.Operand.tmp 157) (some (Go.Operand.const (Go.Value.int Go.IntKind.i64 1))) (some (Go.Operand.tmp 158)) none, type := 22, pos := "lin.go:62", after := #[{ on := 5, ground := Ground.data }, { on := 6, ground := Ground.data }, { on := 2, ground := Ground.guard }], guard := some (2, true) }) (v := ?v61) rfl (by kernel_rfl) (by kernel_rfl) (by kernel_rfl) (fun _ _ _ h => h) (Or.inl ⟨by rfl, ?hy61⟩) ?rs61
          case hy61 => (intro W hW; have hsp' := hsp W; go_simp; try with_reducible rfl)
          try simp only [Act.put, List.setIfInBounds_toArray, List.set_cons_zero, List.set_cons_succ]
          refine wpAnyB_take (i := 8) (oi := { dst := some 160, op := Op.build 32 #[(0, Go.Operand.tmp 156), (1, Go.Operand.tmp 159)], type := 32, pos := "lin.go:62", after := #[{ on := 4, ground := Ground.data }, { on := 7, ground := Ground.data }, { on := 2, ground := Ground.guard }], guard := some (2, true) }) (v := ?v62) rfl (by kernel_rfl) (by kernel_rfl) (by kernel_rfl) (fun _ _ _ h => h) (Or.inl ⟨by rfl, ?hy62⟩) ?rs62
          case hy62 => (intro W hW; go_simp; try with_reducible rfl)
          try simp only [Act.put, List.setIfInBounds_toArray, List.set_cons_zero, List.set_cons_succ]
          refine wpAnyB_one (i := 9) (o := { dst := some 161, op := Op.call { callee := Callee.value (Go.Operand.func 17), args := #[Go.Operand.tmp 155, Go.Operand.tmp 160], argTypes := #[32, 32] }, type := 4, pos := "lin.go:62", after := #[{ on := 3, ground := Ground.data }, { on := 8, ground := Ground.data }, { on := 2, ground := Ground.chain }, { on := 2, ground := Ground.guard }], guard := some (2, true) }) (by kernel_rfl) rfl (fun K hK => ?_)
          go_simp
          refine (SameFrame_any nid nid Ag AD rn cg rn (c1 - 1) m m _ hrg7.drew hD7.drew hm hm).mono ?_; rintro e w8 ⟨rfl, hbk⟩; have hb8 := bthen hb7 (bthen (Below.refl _ _).drew hbk); rw [show decide (nid = nid ∧ m = m) = true by simp]
          refine hK.out _ _ hbk ?_
          clear hK K
          try simp only [Act.put, List.setIfInBounds_toArray, List.set_cons_zero, List.set_cons_succ]
          refine wpAnyB_take (i := 10) (oi := { dst := some 162, op := Op.pick (Go.Operand.tmp 154) (Go.Operand.tmp 161) (Go.Operand.const (Go.Value.bool false)), type := 4, pos := "lin.go:62", after := #[{ on := 2, ground := Ground.data }, { on := 9, ground := Ground.data }], guard := none }) (v := ?v63) rfl (by kernel_rfl) (by kernel_rfl) (by kernel_rfl) (fun _ _ _ h => h) (Or.inl ⟨by rfl, ?hy63⟩) ?rs63
          case hy63 => (intro W hW; go_simp; try with_reducible rfl)
          try simp only [Act.put, List.setIfInBounds_toArray, List.set_cons_zero, List.set_cons_succ]
          refine wpAnyB_take (i := 11) (oi := { dst := some 6, op := Op.assign (Go.Operand.tmp 162), type := 4, pos := "lin.go:62", after := #[{ on := 10, ground := Ground.data }, { on := 9, ground := Ground.chain }, { on := 0, ground := Ground.phase }, { on := 1, ground := Ground.phase }, { on := 2, ground := Ground.phase }, { on := 3, ground := Ground.phase }, { on := 4, ground := Ground.phase }, { on := 5, ground := Ground.phase }, { on := 6, ground := Ground.phase }, { on := 7, ground := Ground.phase }, { on := 8, ground := Ground.phase }, { on := 9, ground := Ground.phase }, { on := 10, ground := Ground.phase }], guard := none }) (v := ?v64) rfl (by kernel_rfl) (by kernel_rfl) (by kernel_rfl) (fun _ _ _ h => h) (Or.inl ⟨by rfl, ?hy64⟩) ?rs64
          case hy64 => (intro W hW; go_simp; try with_reducible rfl)
          try simp only [Act.put, List.setIfInBounds_toArray, List.set_cons_zero, List.set_cons_succ]
          refine wpAnyB_done (by kernel_rfl) ?_
          go_wp2
          go_ret
          exact ⟨rfl, hb8⟩
        · rw [if_pos hy] at hR
          injection hR with e1 e2
          injection e1 with e3 e4
          subst e2 e3 e4
          obtain rfl : rn = 0 := Hrn.out.symm
          have hsy : (s != y) = true := by simpa using (fun h => hy h.symm)
          clear hne hy
          go_wp2_with fail
          go_quiet (first | (go_at_call 13; refine Calls.quiet_of_same (hcall _)))
          have hb7 : Below w.heap.size w (w5.drewN nq) := bthen hb6 (below_draws ⟨_, rfl⟩)
          have hbg7 : Box (w5.drewN nq) w2.heap.size 32 [.int .i64 0, .slice Ag 0 cg] := hbg5
          have hbn7 : Box (w5.drewN nq) wc.heap.size 32 [.int .i64 0, .slice none 0 0] := hbn5
          clear hcall hb6 hbg5 hbn5 hrg5 hD hB hcy5 hsl hsp
          generalize w5.drewN nq = w7 at *
          have d0 := Box.cell hbg7 0 rfl
          have d1 := Box.cell hbg7 1 rfl
          have f0 := Box.cell hbn7 0 rfl
          have f1 := Box.cell hbn7 1 rfl
          go_wp2_with fail
          refine (SameFrame_any 0 0 Ag none 0 cg 0 0 [] [] _ (Rd.nil _ _ _) (Rd.nil _ _ _) hnil hnil).mono ?_
          rintro e w8 ⟨rfl, hb8⟩
          rw [show decide ((0 : Int) = 0 ∧ ([] : List Int) = []) = true by simp]
          go_wp2
          go_ret
          exact ⟨rfl, bthen hb7 hb8⟩
      · have e := hne hner
        injection e with e1 e2
        subst e1 e2
        rw [if_pos hner] at hR
        injection hR with e1 e2
        injection e1 with e3 e4
        subst e2 e3 e4
        obtain rfl : rn = 0 := Hrn.out.symm
        clear hne hner hcall
        go_wp2_with fail
        go_quiet (fail)
        have hb7 : Below w.heap.size w (w5.drewN nq) := bthen hb6 (below_draws ⟨_, rfl⟩)
        have hbg7 : Box (w5.drewN nq) w2.heap.size 32 [.int .i64 0, .slice Ag 0 cg] := hbg5
        have hbn7 : Box (w5.drewN nq) wc.heap.size 32 [.int .i64 0, .slice none 0 0] := hbn5
        clear hb6 hbg5 hbn5 hrg5 hD hB hcy5 hsl hsp
        generalize w5.drewN nq = w7 at *
        have d0 := Box.cell hbg7 0 rfl
        have d1 := Box.cell hbg7 1 rfl
        have f0 := Box.cell hbn7 0 rfl
        have f1 := Box.cell hbn7 1 rfl
        go_wp2_with fail
        refine (SameFrame_any 0 0 Ag none 0 cg 0 0 [] [] _ (Rd.nil _ _ _) (Rd.nil _ _ _) hnil hnil).mono ?_
        rintro e w8 ⟨rfl, hb8⟩
        rw [show decide ((0 : Int) = 0 ∧ ([] : List Int) = []) = true by simp]
        go_wp2
        go_ret
        exact ⟨rfl, bthen hb7 hb8⟩
    · rw [show bodyM x m true = x :: m from rfl] at hR
      have hcall : ∀ q : Nat, Calls Try.prog 13 #[.slice (some ad) (n1 - 1) c1] (w5.drewN q) fun e w' => e = .returned (.int .u8 (sumM (x :: m))) ∧ w' = w5.drewN q := fun q => (GSum_any (some ad) (n1 - 1) c1 (x :: m) (w5.drewN q) (hB.drewN q) hbm (by omega)).mono (fun e w' h => ⟨h.1, h.2.symm⟩)
      generalize sumM (x :: m) = s at *
      by_cases hner : ner = 0
      · subst hner
        rw [if_neg (by simp)] at hR
        by_cases hy : y = s
        · subst hy
          rw [if_neg (by simp)] at hR
          injection hR with e1 e2
          injection e1 with e3 e4
          subst e2 e3 e4
          obtain rfl : rn = k := Hrn.out.symm.trans Hml.out
          clear hne
          go_wp2_with fail
          go_quiet (first | (go_at_call 13; refine Calls.quiet_of_same (hcall _)))
          have hb7 : Below w.heap.size w (w5.drewN nq) := bthen hb6 (below_draws ⟨_, rfl⟩)
          have hbg7 : Box (w5.drewN nq) w2.heap.size 32 [.int .i64 nid, .slice Ag rn cg] := hbg5
          have hrg7 := hrg5.drewN nq
          have hD7 := hD.drewN nq
          clear hcall hb6 hbg5 hbn5 hrg5 hD hB hcy5 hsl
          generalize w5.drewN nq = w7 at *
          have d0 := Box.cell hbg7 0 rfl
          have d1 := Box.cell hbg7 1 rfl
          have hlt := hbg7.lt
          go_upto_region 27 with fail
          refine wp_region_B (by kernel_rfl) ?_
          refine wpAnyB_take (i := 0) (oi := { dst := some 152, op := Op.move (Go.Operand.tmp 10), type := 23, pos := "lin.go:62", after := #[], guard := none }) (v := ?v65) rfl (by kernel_rfl) (by kernel_rfl) (by kernel_rfl) (fun _ _ _ h => h) (Or.inl ⟨by rfl, ?hy65⟩) ?rs65
          case hy65 => (intro W hW; go_simp; try with_reducible rfl)
          try simp only [Act.put, List.setIfInBounds_toArray, List.set_cons_zero, List.set_cons_succ]
          refine wpAnyB_take (i := 1) (oi := { dst := some 153, op := Op.binOp Go.BinOp.eql 23 (Go.Operand.tmp 152) (Go.Operand.const (Go.Value.int Go.IntKind.i64 0)) 23, type := 4, pos := "lin.go:62", after := #[{ on := 0, ground := Ground.data }], guard := none }) (v := ?v66) rfl (by kernel_rfl) (by kernel_rfl) (by kernel_rfl) (fun _ _ _ h => h) (Or.inl ⟨by rfl, ?hy66⟩) ?rs66
          case hy66 => (intro W hW; go_simp; try with_reducible rfl)
          try simp only [Act.put, List.setIfInBounds_toArray, List.set_cons_zero, List.set_cons_succ]
          refine wpAnyB_take (i := 2) (oi := { dst := some 154, op := Op.move (Go.Operand.tmp 153), type := 4, pos := "lin.go:62", after := #[{ on := 1, ground := Ground.data }], guard := none }) (v := ?v67) rfl (by kernel_rfl) (by kernel_rfl) (by kernel_rfl) (fun _ _ _ h => h) (Or.inl ⟨by rfl, ?hy67⟩) ?rs67
          case hy67 => (intro W hW; go_simp; try with_reducible rfl)
          try simp only [Act.put, List.setIfInBounds_toArray, List.set_cons_zero, List.set_cons_succ]
          refine wpAnyB_take (i := 3) (oi := { dst := some 155, op := Op.load 32 (Go.Operand.tmp 9), type := 32, pos := "lin.go:62", after := #[{ on := 2, ground := Ground.guard }], guard := some (2, true) }) (v := ?v68) rfl (by kernel_rfl) (by kernel_rfl) (by kernel_rfl) (fun _ _ _ h => h) (Or.inl ⟨by rfl, ?hy68⟩) ?rs68
          case hy68 => (intro W hW; have c0' := hW.cell (p := ⟨w2.heap.size, 0, none⟩) hlt; rw [show w7.drew.cell? _ = _ from d0] at c0'; have c1' := hW.cell (p := ⟨w2.heap.size, 1, none⟩) hlt; rw [show w7.drew.cell? _ = _ from d1] at c1'; go_simp; try with_reducible rfl)
          try simp only [Act.put, List.setIfInBounds_toArray, List.set_cons_zero, List.set_cons_succ]
          refine wpAnyB_take (i := 4) (oi := { dst := some 156, op := Op.move (Go.Operand.tmp 14), type := 3, pos := "lin.go:62", after := #[{ on := 2, ground := Ground.guard }], guard := some (2, true) }) (v := ?v69) rfl (by kernel_rfl) (by kernel_rfl) (by kernel_rfl) (fun _ _ _ h => h) (Or.inl ⟨by rfl, ?hy69⟩) ?rs69
          case hy69 => (intro W hW; go_simp; try with_reducible rfl)
          try simp only [Act.put, List.setIfInBounds_toArray, List.set_cons_zero, List.set_cons_succ]
          refine wpAnyB_take (i := 5) (oi := { dst := some 157, op := Op.move (Go.Operand.tmp 1), type := 22, pos := "lin.go:62", after := #[{ on := 2, ground := Ground.guard }], guard := some (2, true) }) (v := ?v70) rfl (by kernel_rfl) (by kernel_rfl) (by kernel_rfl) (fun _ _ _ h => h) (Or.inl ⟨by rfl, ?hy70⟩) ?rs70
          case hy70 => (intro W hW; go_simp; try with_reducible rfl)
          try simp only [Act.put, List.setIfInBounds_toArray, List.set_cons_zero, List.set_cons_succ]
          refine wpAnyB_take (i := 6) (oi := { dst := some 158, op := Op.move (Go.Operand.tmp 16), type := 3, pos := "lin.go:62", after := #[{ on := 2, ground := Ground.guard }], guard := some (2, true) }) (v := ?v71) rfl (by kernel_rfl) (by kernel_rfl) (by kernel_rfl) (fun _ _ _ h => h) (Or.inl ⟨by rfl, ?hy71⟩) ?rs71
          case hy71 => (intro W hW; go_simp; try with_reducible rfl)
          try simp only [Act.put, List.setIfInBounds_toArray, List.set_cons_zero, List.set_cons_succ]
          refine wpAnyB_take (i := 7) (oi := { dst := some 159, op := Op.slice 22 (Go.Operand.tmp 157) (some (Go.Operand.const (Go.Value.int Go.IntKind.i64 1))) (some (Go.Operand.tmp 158)) none, type := 22, pos := "lin.go:62", after := #[{ on := 5, ground := Ground.data }, { on := 6, ground := Ground.data }, { on := 2, ground := Ground.guard }], guard := some (2, true) }) (v := ?v72) rfl (by kernel_rfl) (by kernel_rfl) (by kernel_rfl) (fun _ _ _ h => h) (Or.inl ⟨by rfl, ?hy72⟩) ?rs72
          case hy72 => (intro W hW; have hsp' := hsp W; go_simp; try with_reducible rfl)
          try simp only [Act.put, List.setIfInBounds_toArray, List.set_cons_zero, List.set_cons_succ]
          refine wpAnyB_take (i := 8) (oi := { dst := some 160, op := Op.build 32 #[(0, Go.Operand.tmp 156), (1, Go.Operand.tmp 159)], type := 32, pos := "lin.go:62", after := #[{ on := 4, ground := Ground.data }, { on := 7, ground := Ground.data }, { on := 2, ground := Ground.guard }], guard := some (2, true) }) (v := ?v73) rfl (by kernel_rfl) (by kernel_rfl) (by kernel_rfl) (fun _ _ _ h => h) (Or.inl ⟨by rfl, ?hy73⟩) ?rs73
          case hy73 => (intro W hW; go_simp; try with_reducible rfl)
          try simp only [Act.put, List.setIfInBounds_toArray, List.set_cons_zero, List.set_cons_succ]
          refine wpAnyB_one (i := 9) (o := { dst := some 161, op := Op.call { callee := Callee.value (Go.Operand.func 17), args := #[Go.Operand.tmp 155, Go.Operand.tmp 160], argTypes := #[32, 32] }, type := 4, pos := "lin.go:62", after := #[{ on := 3, ground := Ground.data }, { on := 8, ground := Ground.data }, { on := 2, ground := Ground.chain }, { on := 2, ground := Ground.guard }], guard := some (2, true) }) (by kernel_rfl) rfl (fun K hK => ?_)
          go_simp
          refine (SameFrame_any nid nid Ag AD rn cg rn (c1 - 1) m m _ hrg7.drew hD7.drew hm hm).mono ?_; rintro e w8 ⟨rfl, hbk⟩; have hb8 := bthen hb7 (bthen (Below.refl _ _).drew hbk); rw [show decide (nid = nid ∧ m = m) = true by simp]
          refine hK.out _ _ hbk ?_
          clear hK K
          try simp only [Act.put, List.setIfInBounds_toArray, List.set_cons_zero, List.set_cons_succ]
          refine wpAnyB_take (i := 10) (oi := { dst := some 162, op := Op.pick (Go.Operand.tmp 154) (Go.Operand.tmp 161) (Go.Operand.const (Go.Value.bool false)), type := 4, pos := "lin.go:62", after := #[{ on := 2, ground := Ground.data }, { on := 9, ground := Ground.data }], guard := none }) (v := ?v74) rfl (by kernel_rfl) (by kernel_rfl) (by kernel_rfl) (fun _ _ _ h => h) (Or.inl ⟨by rfl, ?hy74⟩) ?rs74
          case hy74 => (intro W hW; go_simp; try with_reducible rfl)
          try simp only [Act.put, List.setIfInBounds_toArray, List.set_cons_zero, List.set_cons_succ]
          refine wpAnyB_take (i := 11) (oi := { dst := some 6, op := Op.assign (Go.Operand.tmp 162), type := 4, pos := "lin.go:62", after := #[{ on := 10, ground := Ground.data }, { on := 9, ground := Ground.chain }, { on := 0, ground := Ground.phase }, { on := 1, ground := Ground.phase }, { on := 2, ground := Ground.phase }, { on := 3, ground := Ground.phase }, { on := 4, ground := Ground.phase }, { on := 5, ground := Ground.phase }, { on := 6, ground := Ground.phase }, { on := 7, ground := Ground.phase }, { on := 8, ground := Ground.phase }, { on := 9, ground := Ground.phase }, { on := 10, ground := Ground.phase }], guard := none }) (v := ?v75) rfl (by kernel_rfl) (by kernel_rfl) (by kernel_rfl) (fun _ _ _ h => h) (Or.inl ⟨by rfl, ?hy75⟩) ?rs75
          case hy75 => (intro W hW; go_simp; try with_reducible rfl)
          try simp only [Act.put, List.setIfInBounds_toArray, List.set_cons_zero, List.set_cons_succ]
          refine wpAnyB_done (by kernel_rfl) ?_
          go_wp2
          go_ret
          exact ⟨rfl, hb8⟩
        · rw [if_pos hy] at hR
          injection hR with e1 e2
          injection e1 with e3 e4
          subst e2 e3 e4
          obtain rfl : rn = 0 := Hrn.out.symm
          have hsy : (s != y) = true := by simpa using (fun h => hy h.symm)
          clear hne hy
          go_wp2_with fail
          go_quiet (first | (go_at_call 13; refine Calls.quiet_of_same (hcall _)))
          have hb7 : Below w.heap.size w (w5.drewN nq) := bthen hb6 (below_draws ⟨_, rfl⟩)
          have hbg7 : Box (w5.drewN nq) w2.heap.size 32 [.int .i64 0, .slice Ag 0 cg] := hbg5
          have hbn7 : Box (w5.drewN nq) wc.heap.size 32 [.int .i64 0, .slice none 0 0] := hbn5
          clear hcall hb6 hbg5 hbn5 hrg5 hD hB hcy5 hsl hsp
          generalize w5.drewN nq = w7 at *
          have d0 := Box.cell hbg7 0 rfl
          have d1 := Box.cell hbg7 1 rfl
          have f0 := Box.cell hbn7 0 rfl
          have f1 := Box.cell hbn7 1 rfl
          go_wp2_with fail
          refine (SameFrame_any 0 0 Ag none 0 cg 0 0 [] [] _ (Rd.nil _ _ _) (Rd.nil _ _ _) hnil hnil).mono ?_
          rintro e w8 ⟨rfl, hb8⟩
          rw [show decide ((0 : Int) = 0 ∧ ([] : List Int) = []) = true by simp]
          go_wp2
          go_ret
          exact ⟨rfl, bthen hb7 hb8⟩
      · have e := hne hner
        injection e with e1 e2
        subst e1 e2
        rw [if_pos hner] at hR
        injection hR with e1 e2
        injection e1 with e3 e4
        subst e2 e3 e4
        obtain rfl : rn = 0 := Hrn.out.symm
        clear hne hner hcall
        go_wp2_with fail
        go_quiet (fail)
        have hb7 : Below w.heap.size w (w5.drewN nq) := bthen hb6 (below_draws ⟨_, rfl⟩)
        have hbg7 : Box (w5.drewN nq) w2.heap.size 32 [.int .i64 0, .slice Ag 0 cg] := hbg5
        have hbn7 : Box (w5.drewN nq) wc.heap.size 32 [.int .i64 0, .slice none 0 0] := hbn5
        clear hb6 hbg5 hbn5 hrg5 hD hB hcy5 hsl hsp
        generalize w5.drewN nq = w7 at *
        have d0 := Box.cell hbg7 0 rfl
        have d1 := Box.cell hbg7 1 rfl
        have f0 := Box.cell hbn7 0 rfl
        have f1 := Box.cell hbn7 1 rfl
        go_wp2_with fail
        refine (SameFrame_any 0 0 Ag none 0 cg 0 0 [] [] _ (Rd.nil _ _ _) (Rd.nil _ _ _) hnil hnil).mono ?_
        rintro e w8 ⟨rfl, hb8⟩
        rw [show decide ((0 : Int) = 0 ∧ ([] : List Int) = []) = true by simp]
        go_wp2
        go_ret
        exact ⟨rfl, bthen hb7 hb8⟩
end Go.Proofs.Ytpcpbccolkhgfaa
