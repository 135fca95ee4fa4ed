/-
  The walk of FieldSets.
-/
import Derived.Test.YtldkmopkakdgnaaFieldRef3
import Derived.Test.YtldkmopkakdgnaaFieldFar
import Derived.Test.YtldkmopkakdgnaaFieldLaws
import Derived.Test.YtldkmopkakdgnaaZeros
import Derived.Test.YtldkmopkakdgnaaRoom
namespace Go.Proofs.Ytldkmopkakdgnaa
open Go.RowKit
set_option maxRecDepth 20000
set_option linter.unusedVariables false

theorem sets_facts (f : FI) (l : List Int) (n : Int) : (wrongW f (l.length : Int) ≠ 0 ∧ getE l f = (0, wrongW f (l.length : Int)) ∧ setW f (l.length : Int) n = wrongW f (l.length : Int) ∧ setL l f n = []) ∨
    (wrongW f (l.length : Int) = 0 ∧ ∃ F : Fld, f = F.i ∧ F.Ok l.length ∧ getE l f = (getF l F, 0) ∧
      ((setW f (l.length : Int) n = 2 ∧ setL l f n = [] ∧ (n < 0 ∨ 2 ^ F.wd ≤ n)) ∨ (setW f (l.length : Int) n = 0 ∧ setL l f n = setF l F n ∧ 0 ≤ n ∧ n < 2 ^ F.wd))) := by
  by_cases h : wrongW f (l.length : Int) = 0
  · right
    obtain ⟨F, m, e1, rfl, ok⟩ := wrongW_zero h
    obtain rfl : l.length = m := by omega
    refine ⟨h, F, rfl, ok, by unfold getE; rw [if_pos h, i_fld], ?_⟩
    by_cases h2 : n < 0 ∨ 2 ^ F.wd ≤ n
    · left
      have e : setW F.i (l.length : Int) n = 2 := by
        unfold setW
        rw [if_neg (by omega), if_pos (by rw [show F.i.wd.toNat = F.wd by simp [Fld.i]]; exact h2)]
      exact ⟨e, by unfold setL; rw [e]; rfl, h2⟩
    · right
      have e := setW_ok ok (n := n) (by omega) (by omega)
      exact ⟨e, (by unfold setL; rw [if_pos e, i_fld]), by omega, by omega⟩
  · left
    have e : setW f (l.length : Int) n = wrongW f (l.length : Int) := by unfold setW; rw [if_pos h]
    exact ⟨h, by unfold getE; rw [if_neg h], e, by unfold setL; rw [e, if_neg h]⟩
theorem all_ones (w : Nat) : (0 : Int) ≤ 2 ^ w - 1 ∧ (2 : Int) ^ w - 1 < 2 ^ w := by
  have : (0 : Int) < 2 ^ w := Int.pow_pos (by omega)
  omega
set_option maxRecDepth 20000 in
set_option maxHeartbeats 1600000 in
theorem FieldSets_walk (A0 : Option Addr) (n0 c0 : Nat) (l0 : List Int) (a b : Int) (g : Bool) (a' b' : Int) (g' : Bool) (a3 a4 : Int) (w : World) (h0 : Rd w 1 A0 n0 (l0.map (Value.int .u8))) (v0 : ∀ x ∈ l0, (Lit.int .u8 x).wf = true) (k0 : n0 ≤ c0) (b0 : c0 * 1 ≤ 140737488351232) (wa : (Lit.int .i64 a).wf = true) (wb : (Lit.int .i64 b).wf = true) (wa' : (Lit.int .i64 a').wf = true) (wb' : (Lit.int .i64 b').wf = true) (w3 : (Lit.int .i64 a3).wf = true) (w4 : (Lit.int .i64 a4).wf = true) :
    Calls Try.prog 3 #[.slice A0 n0 c0, .agg #[.int .i64 a, .int .i64 b, .bool g], .agg #[.int .i64 a', .int .i64 b', .bool g'], .int .i64 a3, .int .i64 a4] w fun e w' => e = .returned (.bool true) ∧ Below w.heap.size w w' := by
  have q0 : Byt l0 := fun x hx => by have := wf_u8 (v0 x hx); omega
  have hl0 := h0.lenMap
  subst hl0
  clear v0 wa wb wa' wb' w3 w4
  have CGet := Lib.hid (fun (W : World) (hW : Below w.heap.size w W) => FGet_any A0 l0.length c0 l0 ⟨a, b, g⟩ W (h0.below hW) q0)
  have CSet := Lib.hid (fun (W : World) (hW : Below w.heap.size w W) => FSet_any A0 l0.length c0 l0 ⟨a, b, g⟩ a3 W (h0.below hW) q0)
  have CAp := Lib.hid (fun (W : World) => Apart_any ⟨a, b, g⟩ ⟨a', b', g'⟩ a4 W)
  have C4a := Lib.hid (fun (W : World) => FWrong_any ⟨a, b, g⟩ a4 W)
  have C4b := Lib.hid (fun (W : World) => WWrong_any ⟨a, b, g⟩ a4 W)
  have C4c := Lib.hid (fun (W : World) => WWrong_any ⟨a', b', g'⟩ a4 W)
  have C16 := Lib.hid (fun (W : World) => WWrong_any ⟨a, b, g⟩ (l0.length : Int) W)
  have HT := Lib.hid (sets_facts ⟨a, b, g⟩ l0 a3)
  have HV1 := Lib.hid (apart_bad1 (f := ⟨a, b, g⟩) (g := ⟨a', b', g'⟩) (k := a4))
  have HV2 := Lib.hid (apart_bad2 (f := ⟨a, b, g⟩) (g := ⟨a', b', g'⟩) (k := a4))
  have HV3 := Lib.hid (apart_ok (f := ⟨a, b, g⟩) (g := ⟨a', b', g'⟩) (k := a4))
  have HF := Lib.hid (wrongW_zero (f := ⟨a, b, g⟩) (k := a4))
  have HG := Lib.hid (wrongW_zero (f := ⟨a', b', g'⟩) (k := a4))
  generalize apartE ⟨a, b, g⟩ ⟨a', b', g'⟩ a4 = E at *
  generalize apartW ⟨a, b, g⟩ ⟨a', b', g'⟩ a4 = V at *
  generalize getE l0 ⟨a, b, g⟩ = K at *
  generalize setL l0 ⟨a, b, g⟩ a3 = X at *
  generalize setW ⟨a, b, g⟩ (l0.length : Int) a3 = eX at *
  obtain ⟨K1, K2⟩ := K
  simp only at CGet
  have hbx := Box.alloc (Box.new w 24 [.int .i64 a, .int .i64 b, .bool g]) (.cells #[.int .i64 a', .int .i64 b', .bool g'] 24)
  have hby := Box.new (w.alloc (.cells #[.int .i64 a, .int .i64 b, .bool g] 24)) 24 [.int .i64 a', .int .i64 b', .bool g']
  rw [show (w.alloc (.cells #[.int .i64 a, .int .i64 b, .bool g] 24)).heap.size = w.heap.size + 1 by simp] at hby
  have hw : Below w.heap.size w ((w.alloc (.cells #[.int .i64 a, .int .i64 b, .bool g] 24)).alloc (.cells #[.int .i64 a', .int .i64 b', .bool g'] 24)) := bthen (fld_below _ _) (fld_below _ _)
  go_enter Try.func3, Try.ntmps3
  go_wp2_with fail
  refine (CGet.out _ hw).mono ?_
  rintro e w1 ⟨rfl, hb1⟩
  clear CGet
  replace hbx := hbx.below hb1 hbx.lt
  replace hby := hby.below hb1 hby.lt
  replace hw := bthen hw hb1
  clear hb1
  have p0 := hbx.cell 0 rfl
  have p1 := hbx.cell 1 rfl
  have p2 := hbx.cell 2 rfl
  go_wp2_with fail
  refine (CSet.out _ hw).mono ?_
  intro e w2 hGY
  obtain ⟨A2, c2, rfl, hr2, _, _, hb2⟩ := hGY.open_
  clear CSet hGY p0 p1 p2
  replace hbx := hbx.below hb2 hbx.lt
  replace hby := hby.below hb2 hby.lt
  replace hw := bthen hw hb2
  clear hb2
  have p0 := hbx.cell 0 rfl
  have p1 := hbx.cell 1 rfl
  have p2 := hbx.cell 2 rfl
  have p3 := hby.cell 0 rfl
  have p4 := hby.cell 1 rfl
  have p5 := hby.cell 2 rfl
  go_wp2_with fail
  refine (CAp.out _).mono ?_
  rintro e w5 ⟨rfl, hb5⟩
  clear CAp p0 p1 p2 p3 p4 p5
  replace hbx := hbx.below hb5 hbx.lt
  replace hby := hby.below hb5 hby.lt
  replace hr2 := hr2.below hb5
  replace hw := bthen hw hb5
  clear hb5
  generalize hXn : X.length = xn at *
  go_upto_region 4 with fail
  go_cut [47] (fun s47 wx => s47 = .bool false ∧ Below w5.heap.size w5 wx)
  case first =>
    have hcl : Hid (∀ W, Below w5.heap.size w5 W → W.cell? ⟨w.heap.size, 0, none⟩ = some (.int .i64 a) ∧ W.cell? ⟨w.heap.size, 1, none⟩ = some (.int .i64 b) ∧ W.cell? ⟨w.heap.size, 2, none⟩ = some (.bool g)) := fun W hW => ⟨(hbx.below hW hbx.lt).cell 0 rfl, (hbx.below hW hbx.lt).cell 1 rfl, (hbx.below hW hbx.lt).cell 2 rfl⟩
    clear HT HV1 HV2 HV3 HF HG C4c C16
    generalize wrongW ⟨a, b, g⟩ a4 = r at *
    have hB : Below w5.heap.size w5 w5.drew := (Below.refl _ _).drew
    refine wp_region_B (by kernel_rfl) ?_
    refine wpAnyB_take (i := 0) (oi := { dst := some 41, op := Op.load 24 (Go.Operand.tmp 6), type := 24, pos := "field.go:14", after := #[], guard := none }) (v := ?v1) rfl (by kernel_rfl) (by kernel_rfl) (by kernel_rfl) (fun _ _ _ h => h) (Or.inl ⟨by rfl, ?hy1⟩) ?rs1
    case hy1 => (intro W hW; obtain ⟨m0, m1, m2⟩ := hcl.out W (bthen hB hW); go_simp; try with_reducible rfl)
    try simp only [Act.put, List.setIfInBounds_toArray, List.set_cons_zero, List.set_cons_succ]
    refine wpAnyB_take (i := 1) (oi := { dst := some 42, op := Op.move (Go.Operand.tmp 4), type := 3, pos := "field.go:14", after := #[], guard := none }) (v := ?v2) rfl (by kernel_rfl) (by kernel_rfl) (by kernel_rfl) (fun _ _ _ h => h) (Or.inl ⟨by rfl, ?hy2⟩) ?rs2
    case hy2 => (intro W hW; go_simp; try with_reducible rfl)
    try simp only [Act.put, List.setIfInBounds_toArray, List.set_cons_zero, List.set_cons_succ]
    refine wpAnyB_take (i := 3) (oi := { dst := some 44, op := Op.load 24 (Go.Operand.tmp 6), type := 24, pos := "field.go:14", after := #[], guard := none }) (v := ?v3) rfl (by kernel_rfl) (by kernel_rfl) (by kernel_rfl) (fun _ _ _ h => h) (Or.inl ⟨by rfl, ?hy3⟩) ?rs3
    case hy3 => (intro W hW; obtain ⟨m0, m1, m2⟩ := hcl.out W (bthen hB hW); go_simp; try with_reducible rfl)
    try simp only [Act.put, List.setIfInBounds_toArray, List.set_cons_zero, List.set_cons_succ]
    refine wpAnyB_take (i := 4) (oi := { dst := some 45, op := Op.move (Go.Operand.tmp 4), type := 3, pos := "field.go:14", after := #[], guard := none }) (v := ?v4) rfl (by kernel_rfl) (by kernel_rfl) (by kernel_rfl) (fun _ _ _ h => h) (Or.inl ⟨by rfl, ?hy4⟩) ?rs4
    case hy4 => (intro W hW; go_simp; try with_reducible rfl)
    try simp only [Act.put, List.setIfInBounds_toArray, List.set_cons_zero, List.set_cons_succ]
    refine wpAnyB_one (i := 2) (o := { dst := some 43, op := Op.call { callee := Callee.value (Go.Operand.func 12), args := #[Go.Operand.tmp 41, Go.Operand.tmp 42], argTypes := #[24, 3] }, type := 25, pos := "field.go:14", after := #[{ on := 0, ground := Ground.data }, { on := 1, ground := Ground.data }], guard := none }) (by kernel_rfl) rfl (fun K hK => ?_)
    go_simp
    refine (C4a.out _).mono ?_; rintro e w7 ⟨rfl, hbk⟩; replace hB := bthen hB hbk
    refine hK.out _ _ hbk ?_
    clear hK K
    try simp only [Act.put, List.setIfInBounds_toArray, List.set_cons_zero, List.set_cons_succ]
    refine wpAnyB_one (i := 5) (o := { dst := some 46, op := Op.call { callee := Callee.value (Go.Operand.func 13), args := #[Go.Operand.tmp 44, Go.Operand.tmp 45], argTypes := #[24, 3] }, type := 25, pos := "field.go:14", after := #[{ on := 3, ground := Ground.data }, { on := 4, ground := Ground.data }, { on := 2, ground := Ground.chain }], guard := none }) (by kernel_rfl) rfl (fun K hK => ?_)
    go_simp
    refine (C4b.out _).mono ?_; rintro e w7 ⟨rfl, hbk⟩; replace hB := bthen hB hbk
    refine hK.out _ _ hbk ?_
    clear hK K
    try simp only [Act.put, List.setIfInBounds_toArray, List.set_cons_zero, List.set_cons_succ]
    refine wpAnyB_take (i := 6) (oi := { dst := some 47, op := Op.binOp Go.BinOp.neq 25 (Go.Operand.tmp 43) (Go.Operand.tmp 46) 25, type := 4, pos := "field.go:14", after := #[{ on := 2, ground := Ground.data }, { on := 5, ground := Ground.data }], guard := none }) (v := ?v5) rfl (by kernel_rfl) (by kernel_rfl) (by kernel_rfl) (fun _ _ _ h => h) (Or.inl ⟨by rfl, ?hy5⟩) ?rs5
    case hy5 => (intro W hW; go_simp; try with_reducible rfl)
    try simp only [Act.put, List.setIfInBounds_toArray, List.set_cons_zero, List.set_cons_succ]
    refine wpAnyB_done (by kernel_rfl) ?_
    all_goals
      go_wp2
      go_meet
      exact ⟨rfl, hB⟩
  case rest =>
    obtain ⟨rfl, hc⟩ := hcut
    rename World => w6
    replace hbx := hbx.below hc hbx.lt
    replace hby := hby.below hc hby.lt
    replace hr2 := hr2.below hc
    replace hw := bthen hw hc
    clear hc C4a
    have p0 := hbx.cell 0 rfl
    have p1 := hbx.cell 1 rfl
    have p2 := hbx.cell 2 rfl
    go_wp2_with fail
    refine (C4b.out _).mono ?_
    rintro e w7 ⟨rfl, hb7⟩
    clear C4b p0 p1 p2
    replace hbx := hbx.below hb7 hbx.lt
    replace hby := hby.below hb7 hby.lt
    replace hr2 := hr2.below hb7
    replace hw := bthen hw hb7
    clear hb7
    go_upto_if 52 with fail
    go_cut [17] (fun s17 wx => s17 = .int .i64 V ∧ Below w7.heap.size w7 wx)
    case first =>
      have p3 := hby.cell 0 rfl
      have p4 := hby.cell 1 rfl
      have p5 := hby.cell 2 rfl
      by_cases hz : wrongW ⟨a, b, g⟩ a4 = 0
      · have hV : V = wrongW ⟨a', b', g'⟩ a4 := by
          by_cases hz2 : wrongW ⟨a', b', g'⟩ a4 = 0
          · rw [hz2]; exact (HV3.out hz hz2).2
          · exact (HV2.out hz hz2).2
        clear HT HV1 HV2 HV3 HF HG C16
        rw [hz]
        subst hV
        generalize wrongW ⟨a', b', g'⟩ a4 = V at *
        go_wp2_with fail
        refine (C4c.out _).mono ?_
        rintro e w8 ⟨rfl, hb8⟩
        go_wp2
        go_meet
        case rel => exact ⟨rfl, hb8⟩
      · obtain ⟨_, hV⟩ := HV1.out hz
        clear HT HV1 HV2 HV3 HF HG C16
        subst hV
        generalize wrongW ⟨a, b, g⟩ a4 = V at *
        have hz' : (V == 0) = false := by simpa using hz
        go_wp2
        go_meet
        case rel => exact ⟨rfl, Below.refl _ _⟩
    case rest =>
      obtain ⟨rfl, hc⟩ := hcut
      rename World => w8
      replace hbx := hbx.below hc hbx.lt
      replace hby := hby.below hc hby.lt
      replace hr2 := hr2.below hc
      replace hw := bthen hw hc
      clear hc C4c
      go_upto_if 57 with fail
      go_cut [] (fun wx => Below w8.heap.size w8 wx)
      case first =>
        clear HT C16 hr2 hXn
        by_cases hV : V = 0
        · have hz : wrongW ⟨a, b, g⟩ a4 = 0 := by
            by_cases h : wrongW ⟨a, b, g⟩ a4 = 0
            · exact h
            · have := (HV1.out h).2; omega
          have hz2 : wrongW ⟨a', b', g'⟩ a4 = 0 := by
            by_cases h : wrongW ⟨a', b', g'⟩ a4 = 0
            · exact h
            · have := (HV2.out hz h).2; omega
          obtain ⟨hE, _⟩ := HV3.out hz hz2
          obtain ⟨F, k, rfl, e2, ok⟩ := HF.out hz
          obtain ⟨G, k2, e1, e3, ok2⟩ := HG.out hz2
          obtain rfl : k = k2 := by omega
          rw [e2, e3, i_fld, i_fld] at hE
          unfold Fld.i at e2 e3
          injection e2 with y1 y2 y3
          injection e3 with y4 y5 y6
          subst y1 y2 y3 y4 y5 y6 hV
          clear HV1 HV2 HV3 HF HG hz hz2 e1
          have h400 := ok.few
          have hwide := ok.wide
          obtain ⟨o0, o1⟩ := all_ones F.wd
          have hzE : (getF (setF (List.replicate k 0) F (2 ^ F.wd - 1)) G == 0) = E := by
            rw [hE, Bool.eq_iff_iff, beq_iff_eq, far_iff ok.fits ok2.fits, apart_iff]
          have hzB : Byt (List.replicate k (0 : Int)) := by
            intro x hx
            have := List.eq_of_mem_replicate hx
            omega
          have hZl : (setF (List.replicate k 0) F (2 ^ F.wd - 1)).length = k := by rw [setF_length, List.length_replicate]
          have CW := Lib.hid (fun (A : Option Addr) (c : Nat) (W : World) (hr : Rd W 1 A k ((List.replicate k (0 : Int)).map (Value.int .u8))) => WSet_any A k c (List.replicate k 0) F (2 ^ F.wd - 1) W hr hzB ok o0 o1)
          have CZ := Lib.hid (fun (A : Option Addr) (c : Nat) (W : World) (hr : Rd W 1 A k ((setF (List.replicate k 0) F (2 ^ F.wd - 1)).map (Value.int .u8))) => WGet_any A k c (setF (List.replicate k 0) F (2 ^ F.wd - 1)) G W hr (setF_byt _ _ _) ok2)
          generalize getF (setF (List.replicate k 0) F (2 ^ F.wd - 1)) G = z at *
          generalize setF (List.replicate k 0) F (2 ^ F.wd - 1) = Z at *
          have hp62 : (2 : Int) ^ F.wd ≤ 2 ^ 62 := pow_le_pow hwide
          have x1 : IntKind.i64.wrap (2 ^ F.wd) = 2 ^ F.wd := IntWalk.i64_in _ (by omega)
          have x2 : IntKind.i64.wrap (2 ^ F.wd - 1) = 2 ^ F.wd - 1 := IntWalk.i64_in _ (by omega)
          have hmk : ∀ W : World, (Instr.makeSlice 22 (.int .i64 k) (.int .i64 k)).run Try.prog W = .ok (.slice (some ⟨W.heap.size, 0, none⟩) k k) (W.alloc (.cells (madeCells #[.int .u8 0] k) 5)) := run_mk elByte rfl .i64 .i64 k k (Nat.le_refl _) (by omega) (by omega)
          have HZr := Lib.hid (fun W : World => (Ow.make (Value.int .u8) 0 W 5 (base := W.heap.size) k (by unfold maxLen; omega) (Nat.le_refl _)).rd)
          clear ok ok2 hE o0 o1
          go_upto_region 12 with fail
          have hcl : Hid (∀ W, Below w8.heap.size w8 W → W.cell? ⟨w.heap.size, 0, none⟩ = some (.int .i64 (F.fr : Int)) ∧ W.cell? ⟨w.heap.size, 1, none⟩ = some (.int .i64 (F.wd : Int)) ∧ W.cell? ⟨w.heap.size, 2, none⟩ = some (.bool F.bg)) := fun W hW => ⟨(hbx.below hW hbx.lt).cell 0 rfl, (hbx.below hW hbx.lt).cell 1 rfl, (hbx.below hW hbx.lt).cell 2 rfl⟩
          have hB : Below w8.heap.size w8 w8.drew := (Below.refl _ _).drew
          refine wp_region_B (by kernel_rfl) ?_
          refine wpAnyB_take (i := 0) (oi := { dst := some 64, op := Op.move (Go.Operand.tmp 4), type := 3, pos := "field.go:26", after := #[], guard := none }) (v := ?v6) rfl (by kernel_rfl) (by kernel_rfl) (by kernel_rfl) (fun _ _ _ h => h) (Or.inl ⟨by rfl, ?hy6⟩) ?rs6
          case hy6 => (intro W hW; go_simp; try with_reducible rfl)
          try simp only [Act.put, List.setIfInBounds_toArray, List.set_cons_zero, List.set_cons_succ]
          refine wpAnyB_take (i := 2) (oi := { dst := some 66, op := Op.load 24 (Go.Operand.tmp 6), type := 24, pos := "field.go:26", after := #[], guard := none }) (v := ?v7) rfl (by kernel_rfl) (by kernel_rfl) (by kernel_rfl) (fun _ _ _ h => h) (Or.inl ⟨by rfl, ?hy7⟩) ?rs7
          case hy7 => (intro W hW; obtain ⟨m0, m1, m2⟩ := hcl.out W (bthen hB hW); go_simp; try with_reducible rfl)
          try simp only [Act.put, List.setIfInBounds_toArray, List.set_cons_zero, List.set_cons_succ]
          refine wpAnyB_take (i := 3) (oi := { dst := some 67, op := Op.fieldAddr 24 (Go.Operand.tmp 6) 1, type := 0, pos := "field.go:26", after := #[], guard := none }) (v := ?v8) rfl (by kernel_rfl) (by kernel_rfl) (by kernel_rfl) (fun _ _ _ h => h) (Or.inl ⟨by rfl, ?hy8⟩) ?rs8
          case hy8 => (intro W hW; go_simp; try with_reducible rfl)
          try simp only [Act.put, List.setIfInBounds_toArray, List.set_cons_zero, List.set_cons_succ]
          refine wpAnyB_take (i := 4) (oi := { dst := some 68, op := Op.load 3 (Go.Operand.tmp 67), type := 3, pos := "field.go:26", after := #[{ on := 3, ground := Ground.data }], guard := none }) (v := ?v9) rfl (by kernel_rfl) (by kernel_rfl) (by kernel_rfl) (fun _ _ _ h => h) (Or.inl ⟨by rfl, ?hy9⟩) ?rs9
          case hy9 => (intro W hW; obtain ⟨m0, m1, m2⟩ := hcl.out W (bthen hB hW); go_simp; try with_reducible rfl)
          try simp only [Act.put, List.setIfInBounds_toArray, List.set_cons_zero, List.set_cons_succ]
          refine wpAnyB_take (i := 5) (oi := { dst := some 69, op := Op.binOp Go.BinOp.shl 3 (Go.Operand.const (Go.Value.int Go.IntKind.i64 1)) (Go.Operand.tmp 68) 3, type := 3, pos := "field.go:26", after := #[{ on := 4, ground := Ground.data }], guard := none }) (v := ?v10) rfl (by kernel_rfl) (by kernel_rfl) (by kernel_rfl) (fun _ _ _ h => h) (Or.inl ⟨by rfl, ?hy10⟩) ?rs10
          case hy10 => (intro W hW; go_simp; try with_reducible rfl)
          try simp only [Act.put, List.setIfInBounds_toArray, List.set_cons_zero, List.set_cons_succ]
          refine wpAnyB_take (i := 6) (oi := { dst := some 70, op := Op.binOp Go.BinOp.sub 3 (Go.Operand.tmp 69) (Go.Operand.const (Go.Value.int Go.IntKind.i64 1)) 3, type := 3, pos := "field.go:26", after := #[{ on := 5, ground := Ground.data }], guard := none }) (v := ?v11) rfl (by kernel_rfl) (by kernel_rfl) (by kernel_rfl) (fun _ _ _ h => h) (Or.inl ⟨by rfl, ?hy11⟩) ?rs11
          case hy11 => (intro W hW; go_simp; try with_reducible rfl)
          try simp only [Act.put, List.setIfInBounds_toArray, List.set_cons_zero, List.set_cons_succ]
          refine wpAnyB_one (i := 1) (o := { dst := some 65, op := Op.makeSlice 22 (Go.Operand.tmp 64) (Go.Operand.tmp 64), type := 22, pos := "field.go:26", after := #[{ on := 0, ground := Ground.data }, { on := 0, ground := Ground.data }], guard := none }) (by kernel_rfl) rfl (fun K hK => ?_)
          go_simp
          refine hK.out _ _ ((Below.refl _ _).alloc (Nat.le_refl _) _) ?_
          clear hK K
          try simp only [Act.put, List.setIfInBounds_toArray, List.set_cons_zero, List.set_cons_succ]
          refine wpAnyB_one (i := 7) (o := { dst := some 71, op := Op.call { callee := Callee.value (Go.Operand.func 14), args := #[Go.Operand.tmp 65, Go.Operand.tmp 66, Go.Operand.tmp 70], argTypes := #[22, 24, 3] }, type := 22, pos := "field.go:26", after := #[{ on := 1, ground := Ground.data }, { on := 2, ground := Ground.data }, { on := 6, ground := Ground.data }], guard := none }) (by kernel_rfl) rfl (fun K hK => ?_)
          go_simp
          refine (CW.out (some ⟨w8.heap.size, 0, none⟩) k _ ((HZr.out w8).drew)).mono ?_; rintro e wy ⟨vy, rfl, hoy, hbk⟩; replace hB := bthen ((fld_below w8 (.cells (madeCells #[.int .u8 0] k) 5)).drew) hbk
          refine hK.out _ _ hbk ?_
          clear hK K
          try simp only [Act.put, List.setIfInBounds_toArray, List.set_cons_zero, List.set_cons_succ]
          refine wpAnyB_take (i := 8) (oi := { dst := some 18, op := Op.assign (Go.Operand.tmp 71), type := 22, pos := "field.go:26", after := #[{ on := 7, ground := Ground.data }, { on := 7, ground := Ground.chain }, { on := 0, ground := Ground.phase }, { on := 1, ground := Ground.phase }, { on := 2, ground := Ground.phase }, { on := 3, ground := Ground.phase }, { on := 4, ground := Ground.phase }, { on := 5, ground := Ground.phase }, { on := 6, ground := Ground.phase }, { on := 7, ground := Ground.phase }], guard := none }) (v := ?v12) rfl (by kernel_rfl) (by kernel_rfl) (by kernel_rfl) (fun _ _ _ h => h) (Or.inl ⟨by rfl, ?hy12⟩) ?rs12
          case hy12 => (intro W hW; go_simp; try with_reducible rfl)
          try simp only [Act.put, List.setIfInBounds_toArray, List.set_cons_zero, List.set_cons_succ]
          refine wpAnyB_done (by kernel_rfl) ?_
          clear hcl hmk HZr CW hzB
          obtain ⟨Ay, cy, rfl, _, _, hry⟩ := hoy.formN hZl
          replace hby := hby.below hB hby.lt
          have p3 := hby.cell 0 rfl
          have p4 := hby.cell 1 rfl
          have p5 := hby.cell 2 rfl
          go_wp2_with fail
          refine (CZ.out _ _ _ hry).mono ?_
          rintro e wz ⟨rfl, hbz⟩
          go_wp2
          go_meet
          case rel => exact bthen hB hbz
        · have hE : E = false := by
            by_cases h : wrongW ⟨a, b, g⟩ a4 = 0
            · by_cases h2 : wrongW ⟨a', b', g'⟩ a4 = 0
              · exact absurd (HV3.out h h2).2 hV
              · exact (HV2.out h h2).1
            · exact (HV1.out h).1
          have hV' : (V != 0) = true := by simpa using hV
          clear HV1 HV2 HV3 HF HG hV
          subst hE
          go_wp2
          go_meet
          case rel => exact Below.refl _ _
      case rest =>
        rename World => w9
        replace hbx := hbx.below hcut hbx.lt
        replace hr2 := hr2.below hcut
        replace hw := bthen hw hcut
        clear hcut HV1 HV2 HV3 HF HG hby
        have p0 := hbx.cell 0 rfl
        have p1 := hbx.cell 1 rfl
        have p2 := hbx.cell 2 rfl
        go_wp2_with fail
        refine (C16.out _).mono ?_
        rintro e wa ⟨rfl, hba⟩
        clear C16 p0 p1 p2
        replace hbx := hbx.below hba hbx.lt
        replace hr2 := hr2.below hba
        replace hw := bthen hw hba
        clear hba
        rcases HT.out with ⟨t1, t2, t3, t4⟩ | ⟨t1, F, e2, ok, t2, ht⟩
        · clear HT
          generalize wrongW ⟨a, b, g⟩ (l0.length : Int) = r at *
          have y1 : (r != 0) = true := by simpa using t1
          simp only [Prod.mk.injEq] at t2
          obtain ⟨rfl, rfl⟩ := t2
          subst t3 t4
          obtain rfl : xn = 0 := by rw [← hXn]; rfl
          go_wp2
          go_ret
          exact ⟨rfl, hw⟩
        · clear HT
          rw [t1]
          clear t1
          unfold Fld.i at e2
          injection e2 with y1 y2 y3
          subst y1 y2 y3
          simp only [Prod.mk.injEq] at t2
          obtain ⟨rfl, rfl⟩ := t2
          have CG := Lib.hid (fun (W : World) (hW : Below w.heap.size w W) => WGet_any A0 l0.length c0 l0 F W (h0.below hW) q0 ok)
          generalize getF l0 F = z at *
          have p0 := hbx.cell 0 rfl
          have p1 := hbx.cell 1 rfl
          have p2 := hbx.cell 2 rfl
          have CW := Lib.hid (fun (W : World) (hW : Below w.heap.size w W) (h1 : 0 ≤ a3) (h2 : a3 < 2 ^ F.wd) => WSet_any A0 l0.length c0 l0 F a3 W (h0.below hW) q0 ok h1 h2)
          have hwide := ok.wide
          have hZl : (setF l0 F a3).length = l0.length := setF_length _ _ _
          clear ok
          go_upto_region 19 with fail
          go_cut [114] (fun s114 wx => s114 = .bool false ∧ Below wa.heap.size wa wx)
          case first =>
            clear ht CW
            go_wp2_with (go_at_call 15; refine (CG.out _ hw).mono ?_; rintro e wb ⟨rfl, hbb⟩)
            go_meet
            case rel => exact ⟨rfl, hbb⟩
          case rest =>
            obtain ⟨rfl, hc⟩ := hcut
            rename World => wb
            clear p0 p1 p2 CG
            replace hbx := hbx.below hc hbx.lt
            replace hr2 := hr2.below hc
            replace hw := bthen hw hc
            clear hc
            have p0 := hbx.cell 0 rfl
            have p1 := hbx.cell 1 rfl
            have p2 := hbx.cell 2 rfl
            have hp62 : (2 : Int) ^ F.wd ≤ 2 ^ 62 := pow_le_pow hwide
            have hp0 : (0 : Int) < 2 ^ F.wd := Int.pow_pos (by omega)
            have x1 : wrap64 (2 ^ F.wd) = 2 ^ F.wd := wrap64_in (by omega)
            have X1 := Lib.hid x1
            clear x1 hp62 hp0
            rcases ht with ⟨rfl, rfl, ht⟩ | ⟨rfl, rfl, t1, t2⟩
            · clear CW hZl
              obtain rfl : xn = 0 := by rw [← hXn]; rfl
              by_cases d : a3 < 0
              · clear ht
                go_wp2
                go_ret
                exact ⟨rfl, hw⟩
              · have d1 : decide (a3 < 0) = false := decide_eq_false d
                have d2 : decide (wrap64 (2 ^ F.wd) ≤ a3) = true := by rw [X1.out]; exact decide_eq_true (by omega)
                clear ht
                go_wp2
                go_ret
                exact ⟨rfl, hw⟩
            · have d1 : decide (a3 < 0) = false := decide_eq_false (by omega)
              have d2 : decide (wrap64 (2 ^ F.wd) ≤ a3) = false := by rw [X1.out]; exact decide_eq_false (by omega)
              obtain rfl : l0.length = xn := by rw [← hXn, hZl]
              have CV := Lib.hid (fun (W : World) (hW : Below w.heap.size w W) => CW.out W hW t1 t2)
              clear CW t1 t2 hXn
              generalize setF l0 F a3 = Z at *
              go_upto_region 23 with fail
              have hcl : Hid (∀ W, Below wb.heap.size wb W → W.cell? ⟨w.heap.size, 0, none⟩ = some (.int .i64 (F.fr : Int)) ∧ W.cell? ⟨w.heap.size, 1, none⟩ = some (.int .i64 (F.wd : Int)) ∧ W.cell? ⟨w.heap.size, 2, none⟩ = some (.bool F.bg)) := fun W hW => ⟨(hbx.below hW hbx.lt).cell 0 rfl, (hbx.below hW hbx.lt).cell 1 rfl, (hbx.below hW hbx.lt).cell 2 rfl⟩
              have hB : Below wb.heap.size wb wb.drew := (Below.refl _ _).drew
              refine wp_region_B (by kernel_rfl) ?_
              refine wpAnyB_take (i := 0) (oi := { dst := some 131, op := Op.move (Go.Operand.tmp 14), type := 25, pos := "field.go:41", after := #[], guard := none }) (v := ?v13) rfl (by kernel_rfl) (by kernel_rfl) (by kernel_rfl) (fun _ _ _ h => h) (Or.inl ⟨by rfl, ?hy13⟩) ?rs13
              case hy13 => (intro W hW; go_simp; try with_reducible rfl)
              try simp only [Act.put, List.setIfInBounds_toArray, List.set_cons_zero, List.set_cons_succ]
              refine wpAnyB_take (i := 1) (oi := { dst := some 132, op := Op.binOp Go.BinOp.eql 25 (Go.Operand.tmp 131) (Go.Operand.const (Go.Value.int Go.IntKind.i64 0)) 25, type := 4, pos := "field.go:41", after := #[{ on := 0, ground := Ground.data }], guard := none }) (v := ?v14) rfl (by kernel_rfl) (by kernel_rfl) (by kernel_rfl) (fun _ _ _ h => h) (Or.inl ⟨by rfl, ?hy14⟩) ?rs14
              case hy14 => (intro W hW; go_simp; try with_reducible rfl)
              try simp only [Act.put, List.setIfInBounds_toArray, List.set_cons_zero, List.set_cons_succ]
              refine wpAnyB_take (i := 2) (oi := { dst := some 133, op := Op.move (Go.Operand.tmp 132), type := 4, pos := "field.go:41", after := #[{ on := 1, ground := Ground.data }], guard := none }) (v := ?v15) rfl (by kernel_rfl) (by kernel_rfl) (by kernel_rfl) (fun _ _ _ h => h) (Or.inl ⟨by rfl, ?hy15⟩) ?rs15
              case hy15 => (intro W hW; go_simp; try with_reducible rfl)
              try simp only [Act.put, List.setIfInBounds_toArray, List.set_cons_zero, List.set_cons_succ]
              refine wpAnyB_take (i := 3) (oi := { dst := some 134, op := Op.move (Go.Operand.tmp 13), type := 22, pos := "field.go:41", after := #[{ on := 2, ground := Ground.guard }], guard := some (2, true) }) (v := ?v16) rfl (by kernel_rfl) (by kernel_rfl) (by kernel_rfl) (fun _ _ _ h => h) (Or.inl ⟨by rfl, ?hy16⟩) ?rs16
              case hy16 => (intro W hW; go_simp; try with_reducible rfl)
              try simp only [Act.put, List.setIfInBounds_toArray, List.set_cons_zero, List.set_cons_succ]
              refine wpAnyB_take (i := 4) (oi := { dst := some 135, op := Op.convert 22 9 (Go.Operand.tmp 134), type := 9, pos := "field.go:41", after := #[{ on := 3, ground := Ground.data }, { on := 2, ground := Ground.guard }], guard := some (2, true) }) (v := ?v17) rfl (by kernel_rfl) (by kernel_rfl) (by kernel_rfl) (fun _ _ _ h => h) (Or.inl ⟨by rfl, ?hy17⟩) ?rs17
              case hy17 => (intro W hW; have hcv := run_bytes (P := Try.prog) Try.underlying22 Try.underlying5 Try.underlying9 c2 (hr2.drew.below hW); go_simp; try with_reducible rfl)
              try simp only [Act.put, List.setIfInBounds_toArray, List.set_cons_zero, List.set_cons_succ]
              refine wpAnyB_take (i := 5) (oi := { dst := some 136, op := Op.move (Go.Operand.tmp 0), type := 22, pos := "field.go:41", after := #[{ on := 2, ground := Ground.guard }], guard := some (2, true) }) (v := ?v18) rfl (by kernel_rfl) (by kernel_rfl) (by kernel_rfl) (fun _ _ _ h => h) (Or.inl ⟨by rfl, ?hy18⟩) ?rs18
              case hy18 => (intro W hW; go_simp; try with_reducible rfl)
              try simp only [Act.put, List.setIfInBounds_toArray, List.set_cons_zero, List.set_cons_succ]
              refine wpAnyB_take (i := 6) (oi := { dst := some 137, op := Op.load 24 (Go.Operand.tmp 6), type := 24, pos := "field.go:41", after := #[{ on := 2, ground := Ground.guard }], guard := some (2, true) }) (v := ?v19) rfl (by kernel_rfl) (by kernel_rfl) (by kernel_rfl) (fun _ _ _ h => h) (Or.inl ⟨by rfl, ?hy19⟩) ?rs19
              case hy19 => (intro W hW; obtain ⟨m0, m1, m2⟩ := hcl.out W (bthen hB hW); go_simp; try with_reducible rfl)
              try simp only [Act.put, List.setIfInBounds_toArray, List.set_cons_zero, List.set_cons_succ]
              refine wpAnyB_take (i := 7) (oi := { dst := some 138, op := Op.move (Go.Operand.tmp 3), type := 3, pos := "field.go:41", after := #[{ on := 2, ground := Ground.guard }], guard := some (2, true) }) (v := ?v20) rfl (by kernel_rfl) (by kernel_rfl) (by kernel_rfl) (fun _ _ _ h => h) (Or.inl ⟨by rfl, ?hy20⟩) ?rs20
              case hy20 => (intro W hW; go_simp; try with_reducible rfl)
              try simp only [Act.put, List.setIfInBounds_toArray, List.set_cons_zero, List.set_cons_succ]
              refine wpAnyB_one (i := 8) (o := { dst := some 139, op := Op.call { callee := Callee.value (Go.Operand.func 14), args := #[Go.Operand.tmp 136, Go.Operand.tmp 137, Go.Operand.tmp 138], argTypes := #[22, 24, 3] }, type := 22, pos := "field.go:41", after := #[{ on := 5, ground := Ground.data }, { on := 6, ground := Ground.data }, { on := 7, ground := Ground.data }, { on := 2, ground := Ground.chain }, { on := 2, ground := Ground.guard }], guard := some (2, true) }) (by kernel_rfl) rfl (fun K hK => ?_)
              go_simp
              refine (CV.out _ (bthen hw hB)).mono ?_; rintro e wy ⟨vy, rfl, hoy, hbk⟩; replace hB := bthen hB hbk; obtain ⟨Ay, cy, rfl, _, _, hry⟩ := hoy.formN hZl
              refine hK.out _ _ hbk ?_
              clear hK K
              try simp only [Act.put, List.setIfInBounds_toArray, List.set_cons_zero, List.set_cons_succ]
              refine wpAnyB_take (i := 9) (oi := { dst := some 140, op := Op.convert 22 9 (Go.Operand.tmp 139), type := 9, pos := "field.go:41", after := #[{ on := 8, ground := Ground.data }, { on := 2, ground := Ground.guard }], guard := some (2, true) }) (v := ?v21) rfl (by kernel_rfl) (by kernel_rfl) (by kernel_rfl) (fun _ _ _ h => h) (Or.inl ⟨by rfl, ?hy21⟩) ?rs21
              case hy21 => (intro W hW; have hcv := run_bytes (P := Try.prog) Try.underlying22 Try.underlying5 Try.underlying9 cy (hry.below hW); go_simp; try with_reducible rfl)
              try simp only [Act.put, List.setIfInBounds_toArray, List.set_cons_zero, List.set_cons_succ]
              refine wpAnyB_take (i := 10) (oi := { dst := some 141, op := Op.binOp Go.BinOp.eql 9 (Go.Operand.tmp 135) (Go.Operand.tmp 140) 9, type := 4, pos := "field.go:41", after := #[{ on := 4, ground := Ground.data }, { on := 9, ground := Ground.data }, { on := 2, ground := Ground.guard }], guard := some (2, true) }) (v := ?v22) rfl (by kernel_rfl) (by kernel_rfl) (by kernel_rfl) (fun _ _ _ h => h) (Or.inl ⟨by rfl, ?hy22⟩) ?rs22
              case hy22 => (intro W hW; go_simp; try with_reducible rfl)
              try simp only [Act.put, List.setIfInBounds_toArray, List.set_cons_zero, List.set_cons_succ]
              refine wpAnyB_take (i := 11) (oi := { dst := some 142, op := Op.pick (Go.Operand.tmp 133) (Go.Operand.tmp 141) (Go.Operand.const (Go.Value.bool false)), type := 4, pos := "field.go:41", after := #[{ on := 2, ground := Ground.data }, { on := 10, ground := Ground.data }], guard := none }) (v := ?v23) rfl (by kernel_rfl) (by kernel_rfl) (by kernel_rfl) (fun _ _ _ h => h) (Or.inl ⟨by rfl, ?hy23⟩) ?rs23
              case hy23 => (intro W hW; go_simp; try with_reducible rfl)
              try simp only [Act.put, List.setIfInBounds_toArray, List.set_cons_zero, List.set_cons_succ]
              refine wpAnyB_take (i := 12) (oi := { dst := some 10, op := Op.assign (Go.Operand.tmp 142), type := 4, pos := "field.go:41", after := #[{ on := 11, ground := Ground.data }, { on := 8, ground := Ground.chain }, { on := 0, ground := Ground.phase }, { on := 1, ground := Ground.phase }, { on := 2, ground := Ground.phase }, { on := 3, ground := Ground.phase }, { on := 4, ground := Ground.phase }, { on := 5, ground := Ground.phase }, { on := 6, ground := Ground.phase }, { on := 7, ground := Ground.phase }, { on := 8, ground := Ground.phase }, { on := 9, ground := Ground.phase }, { on := 10, ground := Ground.phase }, { on := 11, ground := Ground.phase }], guard := none }) (v := ?v24) rfl (by kernel_rfl) (by kernel_rfl) (by kernel_rfl) (fun _ _ _ h => h) (Or.inl ⟨by rfl, ?hy24⟩) ?rs24
              case hy24 => (intro W hW; go_simp; try with_reducible rfl)
              try simp only [Act.put, List.setIfInBounds_toArray, List.set_cons_zero, List.set_cons_succ]
              refine wpAnyB_done (by kernel_rfl) ?_
              go_wp2
              go_ret
              exact ⟨rfl, bthen hw hB⟩
end Go.Proofs.Ytldkmopkakdgnaa
