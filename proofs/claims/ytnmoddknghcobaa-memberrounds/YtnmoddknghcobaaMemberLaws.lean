/-
  The law MemberSteps.
-/
import Derived.Test.YtnmoddknghcobaaMemberRef4
import Derived.Test.YtnmoddknghcobaaMemberPlay
namespace Go.Proofs.Ytnmoddknghcobaa
open Go.RowKit
set_option linter.unusedVariables false

theorem PStep_any (own : Int) (m : Mem) (h : Hrd) (h1 : m.vw < 65536) (h2 : h.hv < 65536) (w : World) :
    Calls Try.prog 11 #[.int .i64 own, memV m, hrdV h] w (GivesMem (stepHM own m h) (stepHE own m h) w) := by
  by_cases hw : rightB own m = false ∨ h.nd < 0 ∨ 15 < h.nd
  · exact PStep_wrong own m h h1 h2 w hw
  · have hr : rightB own m = true := by
      cases hx : rightB own m
      · exact absurd (.inl hx) hw
      · rfl
    have hV := right_true hr
    obtain ⟨nd, cm, hv⟩ := h
    simp only at h2 hw
    obtain ⟨k, rfl⟩ : ∃ k : Nat, nd = k := ⟨nd.toNat, by omega⟩
    obtain ⟨o, rfl⟩ : ∃ o : Nat, own = o := ⟨own.toNat, by have := hV.1; omega⟩
    cases ho : m.ou
    · by_cases hko : k = o
      · subst hko
        exact PStep_own k m cm hv h1 h2 hr ho w
      · exact PStep_other o m k (by omega) hko cm hv h1 h2 hr ho w
    · exact PStep_out o m k (by omega) cm hv h1 h2 hr ho w
theorem full_sub {n : Nat} (h2 : n ≤ 16) : IntKind.u16.wrap (IntKind.u16.wrap (2 ^ n) - 1) = (fullV n : Int) := by
  have : ∀ n < 17, IntKind.u16.wrap (IntKind.u16.wrap (2 ^ n) - 1) = (fullV n : Int) := by decide +kernel
  exact this n (by omega)

/-- The states on the way through a list, until an error. -/
theorem play_family (own many : Int) (l : List Hrd) : ∃ (E : Nat → Int) (M : Nat → Mem), (E 0 = allE own many ∧ M 0 = allM own many) ∧ (∀ (k : Nat) (x : Hrd), l[k]? = some x → E k = 0 → E (k + 1) = stepHE own (M k) x ∧ M (k + 1) = stepHM own (M k) x) ∧
    (∀ k : Nat, ¬ E k = 0 → playAE own many l = E k ∧ playAM own many l = M k) ∧ (∀ k : Nat, (M k).vw < 65536) ∧ (playAE own many l = E l.length ∧ playAM own many l = M l.length) := by
  refine ⟨fun k => playAE own many (l.take k), fun k => playAM own many (l.take k), ?_, fun k x hx h0 => ?_, fun k h0 => ?_, fun k => playA_lt own many _, ?_⟩
  · simp only [List.take_zero]; exact playA_nil own many
  · simp only [take_snoc hx]; exact playA_snoc x h0
  · have := playA_stop (l.drop k) h0
    rwa [List.take_append_drop] at this
  · simp only [List.take_length]; exact ⟨trivial, trivial⟩

set_option maxRecDepth 100000 in
set_option maxHeartbeats 3200000 in
theorem MemberSteps_walk (own va ta la : Int) (oa : Bool) (nd : Int) (cm : Bool) (hv many : Int) (A : Option Addr) (n c : Nat) (l : List Hrd) (w : World) (w0 : (Lit.int .i64 own).wf = true) (wv : (Lit.int .u16 va).wf = true) (wt : (Lit.int .i64 ta).wf = true) (wl : (Lit.int .i64 la).wf = true) (wn : (Lit.int .i64 nd).wf = true) (wh : (Lit.int .u16 hv).wf = true) (wm : (Lit.int .i64 many).wf = true)
    (h : RdG hrdC 3 w A n l) (hl : ∀ x ∈ l, x.Ok) (hk : n ≤ c) (hb : c * 16 ≤ 140737488351232) :
    Calls Try.prog 3 #[.int .i64 own, .agg #[.int .u16 va, .int .i64 ta, .int .i64 la, .bool oa], .agg #[.int .i64 nd, .bool cm, .int .u16 hv], .int .i64 many, .slice A n c] w fun e w' => e = .returned (.bool true) ∧ Below w.heap.size w w' := by
  have r1 := wf_u16 wv
  have r2 := wf_u16 wh
  obtain ⟨vw, rfl⟩ := Int.eq_ofNat_of_zero_le r1.1
  obtain ⟨hw, rfl⟩ := Int.eq_ofNat_of_zero_le r2.1
  have h1 : vw < 65536 := by omega
  have h2 : hw < 65536 := by omega
  have C1 := Lib.hid (fun (W : World) => Step_any own ⟨vw, ta, la, oa⟩ ⟨nd, cm, hw⟩ h1 h2 W)
  have C2 := Lib.hid (fun (W : World) => PStep_any own ⟨vw, ta, la, oa⟩ ⟨nd, cm, hw⟩ h1 h2 W)
  have C3 := Lib.hid (fun (W : World) => All_any own many W)
  have C4 := Lib.hid (fun (W : World) (hW : RdG hrdC 3 W A n l) => Play_any own many A n c l W hW hl (by omega))
  have C5 := Lib.hid (fun (W : World) => Right_any own ⟨vw, ta, la, oa⟩ h1 W)
  have C6 := Lib.hid (fun (W : World) => PRight_any own ⟨vw, ta, la, oa⟩ h1 W)
  obtain ⟨rm, Hrm⟩ : ∃ r, Hid (stepHM own ⟨vw, ta, la, oa⟩ ⟨nd, cm, hw⟩ = r) := ⟨_, rfl⟩
  obtain ⟨am, Ham⟩ : ∃ r, Hid (allM own many = r) := ⟨_, rfl⟩
  obtain ⟨pm, Hpm⟩ : ∃ r, Hid (playAM own many l = r) := ⟨_, rfl⟩
  rw [Hrm.out] at C1 C2
  rw [Ham.out] at C3
  rw [Hpm.out] at C4
  clear Hrm
  generalize stepHE own ⟨vw, ta, la, oa⟩ ⟨nd, cm, hw⟩ = re at *
  generalize rightB own ⟨vw, ta, la, oa⟩ = R at *
  obtain ⟨ae, Hae⟩ : ∃ r, Hid (allE own many = r) := ⟨_, rfl⟩
  obtain ⟨pe, Hpe⟩ : ∃ r, Hid (playAE own many l = r) := ⟨_, rfl⟩
  rw [Hae.out] at C3
  rw [Hpe.out] at C4
  obtain ⟨rv, rt, rl, ro⟩ := rm
  obtain ⟨av, ata, al, ao⟩ := am
  obtain ⟨pv, pt, pl, po⟩ := pm
  have Hl := Lib.hid hl
  have C7 := Lib.hid (fun (m : Mem) (x : Hrd) (g1 : m.vw < 65536) (g2 : x.hv < 65536) (W : World) => PStep_any own m x g1 g2 W)
  clear hl wv wh r1 r2
  have x6 := (Box.new w 24 [.int .u16 (vw : Int), .int .i64 ta, .int .i64 la, .bool oa]).alloc (.cells #[.int .i64 nd, .bool cm, .int .u16 (hw : Int)] 26)
  have x7 := Box.new (w.alloc (.cells #[.int .u16 (vw : Int), .int .i64 ta, .int .i64 la, .bool oa] 24)) 26 [.int .i64 nd, .bool cm, .int .u16 (hw : Int)]
  simp only [World.size_alloc] at x7
  go_enter Try.func3, Try.ntmps3
  go_wp2_with fail
  refine (C1.out _).mono ?_
  rintro e w1 ⟨rfl, hb1⟩
  have hB1 := below_new (below_new hb1)
  replace x6 := (x6.below hb1 x6.lt).alloc (.cells #[.int .u16 (rv : Int), .int .i64 rt, .int .i64 rl, .bool ro] 24)
  replace x7 := (x7.below hb1 x7.lt).alloc (.cells #[.int .u16 (rv : Int), .int .i64 rt, .int .i64 rl, .bool ro] 24)
  have xa := Box.new w1 24 [.int .u16 (rv : Int), .int .i64 rt, .int .i64 rl, .bool ro]
  have hB1' := hB1.alloc hB1.size (.cells #[.int .u16 (rv : Int), .int .i64 rt, .int .i64 rl, .bool ro] 24)
  clear C1 hb1 hB1
  have c0 := x6.cell 0 rfl
  have c1 := x6.cell 1 rfl
  have c2 := x6.cell 2 rfl
  have c3 := x6.cell 3 rfl
  have d0 := x7.cell 0 rfl
  have d1 := x7.cell 1 rfl
  have d2 := x7.cell 2 rfl
  have X6 := Lib.hid x6; have X7 := Lib.hid x7; have Xa := Lib.hid xa
  clear x6 x7 xa
  go_upto_region 2 with fail
  generalize w1.alloc (.cells #[.int .u16 (rv : Int), .int .i64 rt, .int .i64 rl, .bool ro] 24) = u1 at *
  go_wp2_with fail
  refine (C2.out _).mono ?_
  rintro e w2 ⟨rfl, hb2⟩
  have hB2 := bthen hB1' hb2
  replace X6 : Hid (Box _ _ _ _) := (X6.out.below hb2 X6.out.lt).alloc (.cells #[.int .u16 (rv : Int), .int .i64 rt, .int .i64 rl, .bool ro] 24)
  replace X7 : Hid (Box _ _ _ _) := (X7.out.below hb2 X7.out.lt).alloc (.cells #[.int .u16 (rv : Int), .int .i64 rt, .int .i64 rl, .bool ro] 24)
  replace Xa : Hid (Box _ _ _ _) := (Xa.out.below hb2 Xa.out.lt).alloc (.cells #[.int .u16 (rv : Int), .int .i64 rt, .int .i64 rl, .bool ro] 24)
  have Xb := Lib.hid (Box.new w2 24 [.int .u16 (rv : Int), .int .i64 rt, .int .i64 rl, .bool ro])
  have hB2' := hB2.alloc hB2.size (.cells #[.int .u16 (rv : Int), .int .i64 rt, .int .i64 rl, .bool ro] 24)
  clear C2 hb2 hB2 hB1' c0 c1 c2 c3 d0 d1 d2
  go_upto_region 3 with fail
  generalize w2.alloc (.cells #[.int .u16 (rv : Int), .int .i64 rt, .int .i64 rl, .bool ro] 24) = u2 at *
  go_wp2_with fail
  refine (C3.out _).mono ?_
  rintro e w3 ⟨rfl, hb3⟩
  have hB3 := bthen hB2' hb3
  replace X6 : Hid (Box _ _ _ _) := (X6.out.below hb3 X6.out.lt).alloc (.cells #[.int .u16 (av : Int), .int .i64 ata, .int .i64 al, .bool ao] 24)
  replace X7 : Hid (Box _ _ _ _) := (X7.out.below hb3 X7.out.lt).alloc (.cells #[.int .u16 (av : Int), .int .i64 ata, .int .i64 al, .bool ao] 24)
  replace Xa : Hid (Box _ _ _ _) := (Xa.out.below hb3 Xa.out.lt).alloc (.cells #[.int .u16 (av : Int), .int .i64 ata, .int .i64 al, .bool ao] 24)
  replace Xb : Hid (Box _ _ _ _) := (Xb.out.below hb3 Xb.out.lt).alloc (.cells #[.int .u16 (av : Int), .int .i64 ata, .int .i64 al, .bool ao] 24)
  have Xc := Lib.hid (Box.new w3 24 [.int .u16 (av : Int), .int .i64 ata, .int .i64 al, .bool ao])
  have hB3' := hB3.alloc hB3.size (.cells #[.int .u16 (av : Int), .int .i64 ata, .int .i64 al, .bool ao] 24)
  clear C3 hb3 hB3 hB2'
  go_upto_region 4 with fail
  generalize w3.alloc (.cells #[.int .u16 (av : Int), .int .i64 ata, .int .i64 al, .bool ao] 24) = u3 at *
  go_wp2_with fail
  refine (C4.out _ (h.below hB3')).mono ?_
  rintro e w4 ⟨rfl, hb4⟩
  have hB4 := bthen hB3' hb4
  replace X6 : Hid (Box _ _ _ _) := (X6.out.below hb4 X6.out.lt).alloc (.cells #[.int .u16 (pv : Int), .int .i64 pt, .int .i64 pl, .bool po] 24)
  replace X7 : Hid (Box _ _ _ _) := (X7.out.below hb4 X7.out.lt).alloc (.cells #[.int .u16 (pv : Int), .int .i64 pt, .int .i64 pl, .bool po] 24)
  replace Xa : Hid (Box _ _ _ _) := (Xa.out.below hb4 Xa.out.lt).alloc (.cells #[.int .u16 (pv : Int), .int .i64 pt, .int .i64 pl, .bool po] 24)
  replace Xb : Hid (Box _ _ _ _) := (Xb.out.below hb4 Xb.out.lt).alloc (.cells #[.int .u16 (pv : Int), .int .i64 pt, .int .i64 pl, .bool po] 24)
  replace Xc : Hid (Box _ _ _ _) := (Xc.out.below hb4 Xc.out.lt).alloc (.cells #[.int .u16 (pv : Int), .int .i64 pt, .int .i64 pl, .bool po] 24)
  have Xd := Lib.hid (Box.new w4 24 [.int .u16 (pv : Int), .int .i64 pt, .int .i64 pl, .bool po])
  have hB4' := hB4.alloc hB4.size (.cells #[.int .u16 (pv : Int), .int .i64 pt, .int .i64 pl, .bool po] 24)
  clear C4 hb4 hB4 hB3'
  go_upto_region 5 with fail
  generalize w4.alloc (.cells #[.int .u16 (pv : Int), .int .i64 pt, .int .i64 pl, .bool po] 24) = u4 at *
  have F6 : Hid (∀ W, Below u4.heap.size u4 W → W.cell? ⟨w.heap.size, 0, none⟩ = some (.int .u16 (vw : Int)) ∧ W.cell? ⟨w.heap.size, 1, none⟩ = some (.int .i64 ta) ∧ W.cell? ⟨w.heap.size, 2, none⟩ = some (.int .i64 la) ∧ W.cell? ⟨w.heap.size, 3, none⟩ = some (.bool oa)) := fun W hW => by
    have hx := X6.out.below hW X6.out.lt
    exact ⟨hx.cell 0 rfl, hx.cell 1 rfl, hx.cell 2 rfl, hx.cell 3 rfl⟩
  have Fa : Hid (∀ W, Below u4.heap.size u4 W → W.cell? ⟨w1.heap.size, 0, none⟩ = some (.int .u16 (rv : Int)) ∧ W.cell? ⟨w1.heap.size, 1, none⟩ = some (.int .i64 rt) ∧ W.cell? ⟨w1.heap.size, 2, none⟩ = some (.int .i64 rl) ∧ W.cell? ⟨w1.heap.size, 3, none⟩ = some (.bool ro)) := fun W hW => by
    have hx := Xa.out.below hW Xa.out.lt
    exact ⟨hx.cell 0 rfl, hx.cell 1 rfl, hx.cell 2 rfl, hx.cell 3 rfl⟩
  have Fb : Hid (∀ W, Below u4.heap.size u4 W → W.cell? ⟨w2.heap.size, 0, none⟩ = some (.int .u16 (rv : Int)) ∧ W.cell? ⟨w2.heap.size, 1, none⟩ = some (.int .i64 rt) ∧ W.cell? ⟨w2.heap.size, 2, none⟩ = some (.int .i64 rl) ∧ W.cell? ⟨w2.heap.size, 3, none⟩ = some (.bool ro)) := fun W hW => by
    have hx := Xb.out.below hW Xb.out.lt
    exact ⟨hx.cell 0 rfl, hx.cell 1 rfl, hx.cell 2 rfl, hx.cell 3 rfl⟩
  go_cut [66] (fun s66 wx => s66 = .bool false ∧ Below u4.heap.size u4 wx)
  case first =>
    have hB : Below u4.heap.size u4 u4.drew := (Below.refl _ _).drew
    refine wp_region_B (by kernel_rfl) ?_
    refine wpAnyB_take (i := 0) (oi := { dst := some 50, op := Op.move (Go.Operand.tmp 0), type := 3, pos := "member.go:17", after := #[], guard := none }) (v := ?v1) rfl (by kernel_rfl) (by kernel_rfl) (by kernel_rfl) (fun _ _ _ h => h) (Or.inl ⟨by rfl, ?hy1⟩) ?rs1
    case hy1 => (intro W hW; go_simp; try with_reducible rfl)
    try simp only [Act.put, List.setIfInBounds_toArray, List.set_cons_zero, List.set_cons_succ]
    refine wpAnyB_take (i := 1) (oi := { dst := some 51, op := Op.load 24 (Go.Operand.tmp 6), type := 24, pos := "member.go:17", after := #[], guard := none }) (v := ?v2) rfl (by kernel_rfl) (by kernel_rfl) (by kernel_rfl) (fun _ _ _ h => h) (Or.inl ⟨by rfl, ?hy2⟩) ?rs2
    case hy2 => (intro W hW; obtain ⟨g0, g1, g2, g3⟩ := F6.out W (bthen hB hW); go_simp; try with_reducible rfl)
    try simp only [Act.put, List.setIfInBounds_toArray, List.set_cons_zero, List.set_cons_succ]
    refine wpAnyB_take (i := 3) (oi := { dst := some 53, op := Op.move (Go.Operand.tmp 0), type := 3, pos := "member.go:17", after := #[], guard := none }) (v := ?v3) rfl (by kernel_rfl) (by kernel_rfl) (by kernel_rfl) (fun _ _ _ h => h) (Or.inl ⟨by rfl, ?hy3⟩) ?rs3
    case hy3 => (intro W hW; go_simp; try with_reducible rfl)
    try simp only [Act.put, List.setIfInBounds_toArray, List.set_cons_zero, List.set_cons_succ]
    refine wpAnyB_take (i := 4) (oi := { dst := some 54, op := Op.load 24 (Go.Operand.tmp 6), type := 24, pos := "member.go:17", after := #[], guard := none }) (v := ?v4) rfl (by kernel_rfl) (by kernel_rfl) (by kernel_rfl) (fun _ _ _ h => h) (Or.inl ⟨by rfl, ?hy4⟩) ?rs4
    case hy4 => (intro W hW; obtain ⟨g0, g1, g2, g3⟩ := F6.out W (bthen hB hW); go_simp; try with_reducible rfl)
    try simp only [Act.put, List.setIfInBounds_toArray, List.set_cons_zero, List.set_cons_succ]
    refine wpAnyB_one (i := 2) (o := { dst := some 52, op := Op.call { callee := Callee.value (Go.Operand.func 14), args := #[Go.Operand.tmp 50, Go.Operand.tmp 51], argTypes := #[3, 24] }, type := 4, pos := "member.go:17", after := #[{ on := 0, ground := Ground.data }, { on := 1, ground := Ground.data }], guard := none }) (by kernel_rfl) rfl (fun K hK => ?_)
    go_simp
    refine (C5.out _).mono ?_; rintro e w7 ⟨rfl, hbk⟩; replace hB := bthen hB hbk
    refine hK.out _ _ hbk ?_
    clear hK K
    try simp only [Act.put, List.setIfInBounds_toArray, List.set_cons_zero, List.set_cons_succ]
    refine wpAnyB_one (i := 5) (o := { dst := some 55, op := Op.call { callee := Callee.value (Go.Operand.func 15), args := #[Go.Operand.tmp 53, Go.Operand.tmp 54], argTypes := #[3, 24] }, type := 4, pos := "member.go:17", after := #[{ on := 3, ground := Ground.data }, { on := 4, ground := Ground.data }, { on := 2, ground := Ground.chain }], guard := none }) (by kernel_rfl) rfl (fun K hK => ?_)
    go_simp
    refine (C6.out _).mono ?_; rintro e w7 ⟨rfl, hbk⟩; replace hB := bthen hB hbk
    refine hK.out _ _ hbk ?_
    clear hK K
    try simp only [Act.put, List.setIfInBounds_toArray, List.set_cons_zero, List.set_cons_succ]
    refine wpAnyB_take (i := 6) (oi := { dst := some 56, op := Op.binOp Go.BinOp.neq 4 (Go.Operand.tmp 52) (Go.Operand.tmp 55) 4, type := 4, pos := "member.go:17", after := #[{ on := 2, ground := Ground.data }, { on := 5, ground := Ground.data }], guard := none }) (v := ?v5) rfl (by kernel_rfl) (by kernel_rfl) (by kernel_rfl) (fun _ _ _ h => h) (Or.inl ⟨by rfl, ?hy5⟩) ?rs5
    case hy5 => (intro W hW; go_simp; try with_reducible rfl)
    try simp only [Act.put, List.setIfInBounds_toArray, List.set_cons_zero, List.set_cons_succ]
    refine wpAnyB_take (i := 7) (oi := { dst := some 57, op := Op.move (Go.Operand.tmp 56), type := 4, pos := "member.go:17", after := #[{ on := 6, ground := Ground.data }, { on := 5, ground := Ground.chain }], guard := none }) (v := ?v6) rfl (by kernel_rfl) (by kernel_rfl) (by kernel_rfl) (fun _ _ _ h => h) (Or.inl ⟨by rfl, ?hy6⟩) ?rs6
    case hy6 => (intro W hW; go_simp; try with_reducible rfl)
    try simp only [Act.put, List.setIfInBounds_toArray, List.set_cons_zero, List.set_cons_succ]
    refine wpAnyB_take (i := 8) (oi := { dst := some 58, op := Op.move (Go.Operand.tmp 12), type := 28, pos := "member.go:17", after := #[{ on := 7, ground := Ground.guard }], guard := some (7, false) }) (v := ?v7) rfl (by kernel_rfl) (by kernel_rfl) (by kernel_rfl) (fun _ _ _ h => h) (Or.inl ⟨by rfl, ?hy7⟩) ?rs7
    case hy7 => (intro W hW; go_simp; try with_reducible rfl)
    try simp only [Act.put, List.setIfInBounds_toArray, List.set_cons_zero, List.set_cons_succ]
    refine wpAnyB_take (i := 9) (oi := { dst := some 59, op := Op.move (Go.Operand.tmp 14), type := 28, pos := "member.go:17", after := #[{ on := 7, ground := Ground.guard }], guard := some (7, false) }) (v := ?v8) rfl (by kernel_rfl) (by kernel_rfl) (by kernel_rfl) (fun _ _ _ h => h) (Or.inl ⟨by rfl, ?hy8⟩) ?rs8
    case hy8 => (intro W hW; go_simp; try with_reducible rfl)
    try simp only [Act.put, List.setIfInBounds_toArray, List.set_cons_zero, List.set_cons_succ]
    refine wpAnyB_take (i := 10) (oi := { dst := some 60, op := Op.binOp Go.BinOp.neq 28 (Go.Operand.tmp 58) (Go.Operand.tmp 59) 28, type := 4, pos := "member.go:17", after := #[{ on := 8, ground := Ground.data }, { on := 9, ground := Ground.data }, { on := 7, ground := Ground.guard }], guard := some (7, false) }) (v := ?v9) rfl (by kernel_rfl) (by kernel_rfl) (by kernel_rfl) (fun _ _ _ h => h) (Or.inl ⟨by rfl, ?hy9⟩) ?rs9
    case hy9 => (intro W hW; go_simp; try with_reducible rfl)
    try simp only [Act.put, List.setIfInBounds_toArray, List.set_cons_zero, List.set_cons_succ]
    refine wpAnyB_take (i := 11) (oi := { dst := some 61, op := Op.pick (Go.Operand.tmp 57) (Go.Operand.const (Go.Value.bool true)) (Go.Operand.tmp 60), type := 4, pos := "member.go:17", after := #[{ on := 7, ground := Ground.data }, { on := 10, ground := Ground.data }], guard := none }) (v := ?v10) rfl (by kernel_rfl) (by kernel_rfl) (by kernel_rfl) (fun _ _ _ h => h) (Or.inl ⟨by rfl, ?hy10⟩) ?rs10
    case hy10 => (intro W hW; go_simp; try with_reducible rfl)
    try simp only [Act.put, List.setIfInBounds_toArray, List.set_cons_zero, List.set_cons_succ]
    refine wpAnyB_take (i := 12) (oi := { dst := some 62, op := Op.move (Go.Operand.tmp 61), type := 4, pos := "member.go:17", after := #[{ on := 11, ground := Ground.data }, { on := 7, ground := Ground.chain }], guard := none }) (v := ?v11) rfl (by kernel_rfl) (by kernel_rfl) (by kernel_rfl) (fun _ _ _ h => h) (Or.inl ⟨by rfl, ?hy11⟩) ?rs11
    case hy11 => (intro W hW; go_simp; try with_reducible rfl)
    try simp only [Act.put, List.setIfInBounds_toArray, List.set_cons_zero, List.set_cons_succ]
    refine wpAnyB_take (i := 13) (oi := { dst := some 63, op := Op.load 24 (Go.Operand.tmp 11), type := 24, pos := "member.go:17", after := #[{ on := 12, ground := Ground.guard }], guard := some (12, false) }) (v := ?v12) rfl (by kernel_rfl) (by kernel_rfl) (by kernel_rfl) (fun _ _ _ h => h) (Or.inl ⟨by rfl, ?hy12⟩) ?rs12
    case hy12 => (intro W hW; obtain ⟨g0, g1, g2, g3⟩ := Fa.out W (bthen hB hW); go_simp; try with_reducible rfl)
    try simp only [Act.put, List.setIfInBounds_toArray, List.set_cons_zero, List.set_cons_succ]
    refine wpAnyB_take (i := 14) (oi := { dst := some 64, op := Op.load 24 (Go.Operand.tmp 13), type := 24, pos := "member.go:17", after := #[{ on := 12, ground := Ground.guard }], guard := some (12, false) }) (v := ?v13) rfl (by kernel_rfl) (by kernel_rfl) (by kernel_rfl) (fun _ _ _ h => h) (Or.inl ⟨by rfl, ?hy13⟩) ?rs13
    case hy13 => (intro W hW; obtain ⟨g0, g1, g2, g3⟩ := Fb.out W (bthen hB hW); go_simp; try with_reducible rfl)
    try simp only [Act.put, List.setIfInBounds_toArray, List.set_cons_zero, List.set_cons_succ]
    refine wpAnyB_take (i := 15) (oi := { dst := some 65, op := Op.binOp Go.BinOp.neq 24 (Go.Operand.tmp 63) (Go.Operand.tmp 64) 24, type := 4, pos := "member.go:17", after := #[{ on := 13, ground := Ground.data }, { on := 14, ground := Ground.data }, { on := 12, ground := Ground.guard }], guard := some (12, false) }) (v := ?v14) rfl (by kernel_rfl) (by kernel_rfl) (by kernel_rfl) (fun _ _ _ h => h) (Or.inl ⟨by rfl, ?hy14⟩) ?rs14
    case hy14 => (intro W hW; go_simp; try with_reducible rfl)
    try simp only [Act.put, List.setIfInBounds_toArray, List.set_cons_zero, List.set_cons_succ]
    refine wpAnyB_take (i := 16) (oi := { dst := some 66, op := Op.pick (Go.Operand.tmp 62) (Go.Operand.const (Go.Value.bool true)) (Go.Operand.tmp 65), type := 4, pos := "member.go:17", after := #[{ on := 12, ground := Ground.data }, { on := 15, ground := Ground.data }], guard := none }) (v := ?v15) rfl (by kernel_rfl) (by kernel_rfl) (by kernel_rfl) (fun _ _ _ h => h) (Or.inl ⟨by rfl, ?hy15⟩) ?rs15
    case hy15 => (intro W hW; go_simp; try with_reducible rfl)
    try simp only [Act.put, List.setIfInBounds_toArray, List.set_cons_zero, List.set_cons_succ]
    refine wpAnyB_done (by kernel_rfl) ?_
    all_goals
      go_wp2
      go_meet
      exact ⟨rfl, hB⟩
  case rest =>
    obtain ⟨rfl, hc1⟩ := hcut
    have yc := Xc.out.below hc1 Xc.out.lt
    have yd := Xd.out.below hc1 Xd.out.lt
    have hBc := bthen hB4' hc1
    have hlc := yc.lt
    have hld := yd.lt
    clear X6 X7 Xa Xb Xc Xd F6 Fa Fb C5 C6 hB4'
    have c0 := yc.cell 0 rfl
    have c1 := yc.cell 1 rfl
    have c2 := yc.cell 2 rfl
    have c3 := yc.cell 3 rfl
    have Yc := Lib.hid yc
    have Yd := Lib.hid yd
    clear yc
    by_cases hno : many < 1 ∨ 16 < many ∨ own < 0 ∨ many ≤ own
    · obtain ⟨e1, e2⟩ := allE_no hno
      have e3 : playAE own many l = 2 := by unfold playAE; rw [if_neg (by rw [e1]; decide)]
      have e4 : playAM own many l = zeroM := by unfold playAM; rw [if_neg (by rw [e1]; decide)]
      have g1 := Hae.out.symm.trans e1
      have g2 := Hpe.out.symm.trans e3
      have g3 := Ham.out.symm.trans e2
      have g4 := Hpm.out.symm.trans e4
      injection g3 with g31 g32 g33 g34
      injection g4 with g41 g42 g43 g44
      subst g1 g2 g31 g32 g33 g34 g41 g42 g43 g44
      have d0 := yd.cell 0 rfl
      have d1 := yd.cell 1 rfl
      have d2 := yd.cell 2 rfl
      have d3 := yd.cell 3 rfl
      clear yd Yc Yd Hae Hpe Ham Hpm e1 e2 e3 e4 C7
      have hc : many < 1 ∨ (1 ≤ many ∧ 16 < many) ∨ (1 ≤ many ∧ many ≤ 16 ∧ own < 0) ∨ (1 ≤ many ∧ many ≤ 16 ∧ 0 ≤ own ∧ many ≤ own) := by omega
      clear hno
      rcases hc with q1 | ⟨q1, q2⟩ | ⟨q1, q2, q3⟩ | ⟨q1, q2, q3, q4⟩
      all_goals
        go_wp2
        go_ret
        exact ⟨rfl, hBc⟩
    · obtain ⟨e1, e2⟩ := allE_ok hno
      obtain ⟨m0, rfl⟩ : ∃ m0 : Nat, many = m0 := ⟨many.toNat, by omega⟩
      rw [Int.toNat_natCast] at e2
      obtain ⟨E, M, ⟨f1, f2⟩, f3, f4, f5, f6⟩ := play_family own (m0 : Int) l
      rw [RdG.len hrdK h] at f6
      rw [Hpe.out, Hpm.out] at f4 f6
      rw [e1] at f1
      rw [e2] at f2
      have g1 := Hae.out.symm.trans e1
      have g3 := Ham.out.symm.trans e2
      injection g3 with g31 g32 g33 g34
      have Hfull := Lib.hid (full_sub (n := m0) (by omega))
      have HE0 := Lib.hid f1
      have HM0 : Hid (M 0 = ⟨fullV m0, m0, 0, false⟩) := f2
      have Hs := Lib.hid f3
      have Hstop := Lib.hid f4
      have Hlt := Lib.hid f5
      have Hend := Lib.hid f6
      have q1 : ¬ (m0 : Int) < 1 := by omega
      have q2 : ¬ 16 < (m0 : Int) := by omega
      have q3 : ¬ own < 0 := by omega
      have q4 : ¬ (m0 : Int) ≤ own := by omega
      clear f1 f2 f3 f4 f5 f6 e1 e2 hno Hae Hpe Ham Hpm
      subst g1 g31 g32 g33 g34
      have hfs := Hfull.out
      generalize fullV m0 = fv at *
      have xw := Lib.hid (Box.new wc 24 [.int .u16 (fv : Int), .int .i64 (m0 : Int), .int .i64 0, .bool false])
      have yd' := Lib.hid (yd.alloc (.cells #[.int .u16 (fv : Int), .int .i64 (m0 : Int), .int .i64 0, .bool false] 24))
      clear yd Yc Yd
      go_wp2
      have Hat : Hid (Box (wc.alloc (.cells #[.int .u16 (fv : Int), .int .i64 (m0 : Int), .int .i64 0, .bool false] 24)) wc.heap.size 24 (memC (M 0))) := by
        show Box _ _ _ _
        rw [HM0.out]; exact xw.out
      have hlw4 : w4.heap.size < wc.heap.size := hld
      have hsz : w.heap.size ≤ wc.heap.size := hBc.size
      clear HM0 xw c0 c1 c2 c3 Hfull hfs
      go_loopw [20, 113] (fun er i wr => ∃ j : Nat, j ≤ n ∧ i = .int .i64 j ∧ er = .int .i64 0 ∧ Hid (E j = 0) ∧ Box wr wc.heap.size 24 (memC (M j)) ∧ Box wr w4.heap.size 24 [.int .u16 (pv : Int), .int .i64 pt, .int .i64 pl, .bool po] ∧ Below w.heap.size w wr) (fun _ i _ => n - (intOf i).toNat)
      case atStart => exact ⟨0, Nat.zero_le _, rfl, rfl, HE0.out, Hat.out, yd'.out, hBc.alloc hBc.size _⟩
      case round =>
        obtain ⟨j, hj, rfl, rfl, Hej, yw, yd, hbl⟩ := hrel
        clear Hat yd' HE0
        have Yw := Lib.hid yw
        have Yd := Lib.hid yd
        clear yw yd
        have g0 := Yw.out.cell 0 rfl
        have g1 := Yw.out.cell 1 rfl
        have g2 := Yw.out.cell 2 rfl
        have g3 := Yw.out.cell 3 rfl
        have hlw := Yw.out.lt
        by_cases hlt : j < n
        · obtain ⟨ad, x, rfl, hx, hx0, hx1, hx2⟩ := heard_at (h.below hbl) hlt
          have Hj := Lib.hid (Hs.out j x hx Hej.out)
          have hxo := Hl.out x (List.mem_of_getElem? hx)
          have CS' := Lib.hid (fun (W : World) => C7.out (M j) x (Hlt.out j) hxo.2 W)
          obtain ⟨m2, Hm2⟩ : ∃ m2, Hid (M (j + 1) = m2) := ⟨_, rfl⟩
          obtain ⟨er2, He2⟩ : ∃ e2, Hid (E (j + 1) = e2) := ⟨_, rfl⟩
          rw [← Hj.out.1, ← Hj.out.2, Hm2.out, He2.out] at CS'
          have Hst := Lib.hid (Hstop.out (j + 1))
          rw [Hm2.out, He2.out] at Hst
          clear hx Hj
          generalize M j = m at *
          obtain ⟨mv, mt, ml, mo⟩ := m
          obtain ⟨xn, xc, xv⟩ := x
          simp only at hx0 hx1 hx2
          obtain ⟨sv, st, sl, so⟩ := m2
          go_wp2_with fail
          refine (CS'.out _).mono ?_
          rintro e w6 ⟨rfl, hb6⟩
          have hb6' := below_new hb6
          have zw := Yw.out.below hb6' hlw
          have zd := Yd.out.below hb6' Yd.out.lt
          have hB6 := bthen hbl hb6'
          have k0 := zw.cell 0 rfl
          have k1 := zw.cell 1 rfl
          have k2 := zw.cell 2 rfl
          have k3 := zw.cell 3 rfl
          have f0 := zw.free 0
          have f1 := zw.free 1
          have f2 := zw.free 2
          have f3 := zw.free 3
          have hlz := zw.lt
          have Zw := Lib.hid ((((zw.set 0 (.int .u16 (sv : Int))).set 1 (.int .i64 st)).set 2 (.int .i64 sl)).set 3 (.bool so))
          have Zd := Lib.hid ((((zd.grown (grownBy_setCell _ ⟨wc.heap.size, 0, none⟩ (.int .u16 (sv : Int))) (by simp; omega)).grown (grownBy_setCell _ ⟨wc.heap.size, 1, none⟩ (.int .i64 st)) (by simp; omega)).grown (grownBy_setCell _ ⟨wc.heap.size, 2, none⟩ (.int .i64 sl)) (by simp; omega)).grown (grownBy_setCell _ ⟨wc.heap.size, 3, none⟩ (.bool so)) (by simp; omega))
          clear zw zd CS' g0 g1 g2 g3 hx0 hx1 hx2 Yw Yd hb6 hb6'
          by_cases hz : er2 = 0
          · subst hz
            clear Hst
            go_wp2
            go_roundw
            case rel => exact ⟨j + 1, by omega, by go_num, rfl, He2.out, by rw [Hm2.out]; exact Zw.out, Zd.out, by repeat (first | (with_reducible exact Below.refl _ _) | (with_reducible assumption) | (with_reducible refine Below.setCell ?_ (by (try simp) <;> omega) _) | (with_reducible refine Below.alloc ?_ (by (try simp) <;> omega) _) | (with_reducible refine Below.drew ?_))⟩
            case measure => simp [intOf] <;> omega
          · obtain ⟨e1, e2⟩ := Hst.out hz
            injection e2 with e21 e22 e23 e24
            subst e1 e21 e22 e23 e24
            have hne : (pe == 0) = false := by simpa using hz
            have hne2 : (pe != 0) = true := by simpa using hz
            have q0 := Zd.out.cell 0 rfl
            have q1 := Zd.out.cell 1 rfl
            have q2 := Zd.out.cell 2 rfl
            have q3 := Zd.out.cell 3 rfl
            clear Hst hz
            go_wp2
            go_ret
            exact ⟨rfl, by repeat (first | (with_reducible exact Below.refl _ _) | (with_reducible assumption) | (with_reducible refine Below.setCell ?_ (by (try simp) <;> omega) _) | (with_reducible refine Below.alloc ?_ (by (try simp) <;> omega) _) | (with_reducible refine Below.drew ?_))⟩
        · obtain rfl : j = n := by omega
          obtain ⟨e1, e2⟩ := Hend.out
          rw [Hej.out] at e1
          subst e1
          rw [← e2] at g0 g1 g2 g3
          have q0 := Yd.out.cell 0 rfl
          have q1 := Yd.out.cell 1 rfl
          have q2 := Yd.out.cell 2 rfl
          have q3 := Yd.out.cell 3 rfl
          simp only at g0 g1 g2 g3
          clear e2 Hend Hej Hs Hstop Hlt Yw Yd
          go_wp2
          go_ret
          exact ⟨rfl, hbl⟩
end Go.Proofs.Ytnmoddknghcobaa
