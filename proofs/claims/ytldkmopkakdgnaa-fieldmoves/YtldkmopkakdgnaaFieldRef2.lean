/-
  Contract of slotwrightref.WGet.
-/
import Derived.Test.YtldkmopkakdgnaaFieldRef
import Derived.Test.YtldkmopkakdgnaaRegionP
namespace Go.Proofs.Ytldkmopkakdgnaa
open Go.RowKit
set_option maxRecDepth 20000
set_option linter.unusedVariables false

theorem part_bool {w : World} {A : Option Addr} {n c lo m : Nat} {x y : Int} {l : List Bool} (h : Rd w 1 A n (l.map Value.bool)) (h2 : lo + m ≤ n) (hc : n ≤ c) (hx : x = lo) (hy : y = (lo + m : Nat)) :
    ∃ B, (∀ W, (Instr.slice 49 (.slice A n c) (some (.int .i64 x)) (some (.int .i64 y)) none).run Try.prog W = .ok (.slice B m (c - lo)) W) ∧ Rd w 1 B m (((l.drop lo).take m).map Value.bool) := by
  subst hx hy
  refine ⟨_, fun W => by
    have := run_part elBool W A n c lo (lo + m) (by omega) (by omega)
    rw [Nat.add_sub_cancel_left] at this
    exact this, ?_⟩
  have := (h.take h2).cut (k := lo) (cap := c) (by omega) (by omega)
  simp only [Nat.mul_one, Nat.add_sub_cancel_left] at this ⊢
  rw [← List.map_take, ← List.map_drop, List.drop_take, Nat.add_sub_cancel_left] at this
  exact this
/-- The row that the reference reads: the most significant bit first where the field is Big. -/
def cutF (l : List Int) (f : Fld) : List Bool := ((rowF f.bg l).drop f.fr).take f.wd
theorem cutF_length {l : List Int} {f : Fld} (h : f.fits l.length) : (cutF l f).length = f.wd := by
  unfold cutF
  rw [List.length_take, List.length_drop, rowF_length]
  unfold Fld.fits at h
  omega
theorem cutF_big {l : List Int} {f : Fld} (h : f.fits l.length) (hb : f.bg = true) : num (cutF l f) = getF l f := by
  rw [← refGet_is h]; unfold refGet cutF; rw [if_pos hb]
theorem cutF_small {l : List Int} {f : Fld} (h : f.fits l.length) (hb : f.bg = false) : num (cutF l f).reverse = getF l f := by
  rw [← refGet_is h]; unfold refGet cutF; rw [if_neg (by rw [hb]; decide)]
set_option maxRecDepth 20000 in
set_option maxHeartbeats 1600000 in
theorem WGet_any (A : Option Addr) (n c : Nat) (l : List Int) (f : Fld) (w : World) (h : Rd w 1 A n (l.map (Value.int .u8))) (hb : Byt l) (ok : f.Ok n) :
    Calls Try.prog 15 #[.slice A n c, f.i.v] w fun e w' => e = .returned (.int .i64 (getF l f)) ∧ Below w.heap.size w w' := by
  have Hl := Lib.hid h.lenMap
  have hfits : f.fits l.length := by rw [Hl.out]; exact ok.fits
  have hcl := cutF_length hfits
  have H1 := Lib.hid (cutF_big hfits)
  have H2 := Lib.hid (cutF_small hfits)
  have h400 := ok.few
  have hfar := ok.far
  have hone := ok.one
  have hwide := ok.wide
  have hfn : f.fr + f.wd ≤ 8 * n := ok.fits
  have HR : Hid (((rowF f.bg l).drop f.fr).take f.wd = cutF l f) := rfl
  have HL : Hid ((rowF f.bg l).length = 8 * n) := by show _ = _; rw [rowF_length, Hl.out]
  have CB := Lib.hid (fun (W : World) (hW : Below w.heap.size w W) => WBits_any A n c l f.bg W (h.below hW) hb h400)
  show Calls Try.prog 15 #[.slice A n c, .agg #[.int .i64 (f.fr : Int), .int .i64 (f.wd : Int), .bool f.bg]] w _
  clear ok hfits h hb
  generalize getF l f = R at *
  generalize cutF l f = G at *
  generalize rowF f.bg l = Q at *
  obtain ⟨fr, wd, bg⟩ := f
  simp only at *
  have hbx := Box.new w 24 [.int .i64 (fr : Int), .int .i64 (wd : Int), .bool bg]
  have hb1 : Below w.heap.size w (w.alloc (.cells #[.int .i64 (fr : Int), .int .i64 (wd : Int), .bool bg] 24)) := fld_below _ _
  have hbz : w.heap.size < (w.alloc (.cells #[.int .i64 (fr : Int), .int .i64 (wd : Int), .bool bg] 24)).heap.size := by simp
  have xw : IntKind.i64.wrap ((fr : Int) + (wd : Int)) = (fr : Int) + (wd : Int) := IntWalk.i64_in _ (by omega)
  go_enter Try.func15, Try.ntmps15
  go_upto_region 1 with fail
  generalize w.alloc (.cells #[.int .i64 (fr : Int), .int .i64 (wd : Int), .bool bg] 24) = w1 at *
  go_cut [5] (fun s5 wx => ∃ g c5, s5 = .slice (some ⟨g, 0, none⟩) wd c5 ∧ w.heap.size ≤ g ∧ wd ≤ c5 ∧ Ow Value.bool wx w.heap.size 4 (.slice (some ⟨g, 0, none⟩) wd c5) G ∧ w.heap.size ≠ g ∧ Below w1.heap.size w1 wx)
  case first =>
    have hcl1 : Hid (∀ W, Below w1.heap.size w1 W → W.cell? ⟨w.heap.size, 0, none⟩ = some (.int .i64 (fr : Int)) ∧ W.cell? ⟨w.heap.size, 1, none⟩ = some (.int .i64 (wd : Int)) ∧ W.cell? ⟨w.heap.size, 2, none⟩ = some (.bool bg)) := fun W hW => ⟨(hbx.below hW hbz).cell 0 rfl, (hbx.below hW hbz).cell 1 rfl, (hbx.below hW hbz).cell 2 rfl⟩
    have hB : Below w1.heap.size w1 w1.drew := (Below.refl _ _).drew
    have hs1 : w.heap.size ≤ w1.heap.size := hb1.size
    refine wp_region_F 14 (w1.heap.size) (by kernel_rfl) ?_
    refine wpAnyF_pure (i := 1) (oi := { dst := some 8, op := Op.move (Go.Operand.tmp 0), type := 22, pos := "field.go:33", after := #[], guard := none }) (v := ?v1) rfl (by kernel_rfl) (by kernel_rfl) (by kernel_rfl) (fun _ _ _ h => h) (Or.inl ⟨by rfl, ?hy1⟩) ?rs1
    case hy1 => (intro W hW; go_simp; try with_reducible rfl)
    try simp only [Act.put, List.setIfInBounds_toArray, List.set_cons_zero, List.set_cons_succ]
    refine wpAnyF_pure (i := 2) (oi := { dst := some 9, op := Op.fieldAddr 24 (Go.Operand.tmp 3) 2, type := 0, pos := "field.go:33", after := #[], guard := none }) (v := ?v2) rfl (by kernel_rfl) (by kernel_rfl) (by kernel_rfl) (fun _ _ _ h => h) (Or.inl ⟨by rfl, ?hy2⟩) ?rs2
    case hy2 => (intro W hW; go_simp; try with_reducible rfl)
    try simp only [Act.put, List.setIfInBounds_toArray, List.set_cons_zero, List.set_cons_succ]
    refine wpAnyF_take (i := 3) (oi := { dst := some 10, op := Op.load 4 (Go.Operand.tmp 9), type := 4, pos := "field.go:33", after := #[{ on := 2, ground := Ground.data }], guard := none }) (v := ?v3) rfl (by kernel_rfl) (by kernel_rfl) (by kernel_rfl) (by decide) (by kernel_rfl) (fun _ _ _ h => h) (Or.inl ⟨by rfl, ?hy3⟩) ?rs3
    case hy3 => (intro W hW; obtain ⟨m0, m1, m2⟩ := hcl1.out W (hB.trans hW); go_simp; try with_reducible rfl)
    try simp only [Act.put, List.setIfInBounds_toArray, List.set_cons_zero, List.set_cons_succ]
    refine wpAnyF_pure (i := 5) (oi := { dst := some 12, op := Op.fieldAddr 24 (Go.Operand.tmp 3) 0, type := 0, pos := "field.go:33", after := #[], guard := none }) (v := ?v4) rfl (by kernel_rfl) (by kernel_rfl) (by kernel_rfl) (fun _ _ _ h => h) (Or.inl ⟨by rfl, ?hy4⟩) ?rs4
    case hy4 => (intro W hW; go_simp; try with_reducible rfl)
    try simp only [Act.put, List.setIfInBounds_toArray, List.set_cons_zero, List.set_cons_succ]
    refine wpAnyF_take (i := 6) (oi := { dst := some 13, op := Op.load 3 (Go.Operand.tmp 12), type := 3, pos := "field.go:33", after := #[{ on := 5, ground := Ground.data }], guard := none }) (v := ?v5) rfl (by kernel_rfl) (by kernel_rfl) (by kernel_rfl) (by decide) (by kernel_rfl) (fun _ _ _ h => h) (Or.inl ⟨by rfl, ?hy5⟩) ?rs5
    case hy5 => (intro W hW; obtain ⟨m0, m1, m2⟩ := hcl1.out W (hB.trans hW); go_simp; try with_reducible rfl)
    try simp only [Act.put, List.setIfInBounds_toArray, List.set_cons_zero, List.set_cons_succ]
    refine wpAnyF_pure (i := 7) (oi := { dst := some 14, op := Op.fieldAddr 24 (Go.Operand.tmp 3) 0, type := 0, pos := "field.go:33", after := #[], guard := none }) (v := ?v6) rfl (by kernel_rfl) (by kernel_rfl) (by kernel_rfl) (fun _ _ _ h => h) (Or.inl ⟨by rfl, ?hy6⟩) ?rs6
    case hy6 => (intro W hW; go_simp; try with_reducible rfl)
    try simp only [Act.put, List.setIfInBounds_toArray, List.set_cons_zero, List.set_cons_succ]
    refine wpAnyF_take (i := 8) (oi := { dst := some 15, op := Op.load 3 (Go.Operand.tmp 14), type := 3, pos := "field.go:33", after := #[{ on := 7, ground := Ground.data }], guard := none }) (v := ?v7) rfl (by kernel_rfl) (by kernel_rfl) (by kernel_rfl) (by decide) (by kernel_rfl) (fun _ _ _ h => h) (Or.inl ⟨by rfl, ?hy7⟩) ?rs7
    case hy7 => (intro W hW; obtain ⟨m0, m1, m2⟩ := hcl1.out W (hB.trans hW); go_simp; try with_reducible rfl)
    try simp only [Act.put, List.setIfInBounds_toArray, List.set_cons_zero, List.set_cons_succ]
    refine wpAnyF_pure (i := 9) (oi := { dst := some 16, op := Op.fieldAddr 24 (Go.Operand.tmp 3) 1, type := 0, pos := "field.go:33", after := #[], guard := none }) (v := ?v8) rfl (by kernel_rfl) (by kernel_rfl) (by kernel_rfl) (fun _ _ _ h => h) (Or.inl ⟨by rfl, ?hy8⟩) ?rs8
    case hy8 => (intro W hW; go_simp; try with_reducible rfl)
    try simp only [Act.put, List.setIfInBounds_toArray, List.set_cons_zero, List.set_cons_succ]
    refine wpAnyF_take (i := 10) (oi := { dst := some 17, op := Op.load 3 (Go.Operand.tmp 16), type := 3, pos := "field.go:33", after := #[{ on := 9, ground := Ground.data }], guard := none }) (v := ?v9) rfl (by kernel_rfl) (by kernel_rfl) (by kernel_rfl) (by decide) (by kernel_rfl) (fun _ _ _ h => h) (Or.inl ⟨by rfl, ?hy9⟩) ?rs9
    case hy9 => (intro W hW; obtain ⟨m0, m1, m2⟩ := hcl1.out W (hB.trans hW); go_simp; try with_reducible rfl)
    try simp only [Act.put, List.setIfInBounds_toArray, List.set_cons_zero, List.set_cons_succ]
    refine wpAnyF_pure (i := 11) (oi := { dst := some 18, op := Op.binOp Go.BinOp.add 3 (Go.Operand.tmp 15) (Go.Operand.tmp 17) 3, type := 3, pos := "field.go:33", after := #[{ on := 8, ground := Ground.data }, { on := 10, ground := Ground.data }], guard := none }) (v := ?v10) rfl (by kernel_rfl) (by kernel_rfl) (by kernel_rfl) (fun _ _ _ h => h) (Or.inl ⟨by rfl, ?hy10⟩) ?rs10
    case hy10 => (intro W hW; go_simp; try with_reducible rfl)
    try simp only [Act.put, List.setIfInBounds_toArray, List.set_cons_zero, List.set_cons_succ]
    refine wpAnyF_two (i := 0) (j := 4) (oi := { dst := some 7, op := Op.buildSlice 49 0 #[], type := 49, pos := "field.go:33", after := #[], guard := none }) (oj := { dst := some 11, op := Op.call { callee := Callee.value (Go.Operand.func 23), args := #[Go.Operand.tmp 8, Go.Operand.tmp 10], argTypes := #[22, 4] }, type := 49, pos := "field.go:33", after := #[{ on := 1, ground := Ground.data }, { on := 3, ground := Ground.data }], guard := none }) (by kernel_rfl) rfl rfl (fun K hK => ?_) (fun K hK => ?_)
    go_simp
    refine hK.out _ _ ((Below.refl _ _).alloc (by first | exact Nat.le_refl _ | omega | (simp; omega)) _) ?_
    clear hK K
    try simp only [Act.put, List.setIfInBounds_toArray, List.set_cons_zero, List.set_cons_succ]
    refine wpAnyF_one (i := 4) (o := { dst := some 11, op := Op.call { callee := Callee.value (Go.Operand.func 23), args := #[Go.Operand.tmp 8, Go.Operand.tmp 10], argTypes := #[22, 4] }, type := 49, pos := "field.go:33", after := #[{ on := 1, ground := Ground.data }, { on := 3, ground := Ground.data }], guard := none }) (by kernel_rfl) rfl (fun K hK => ?_)
    go_simp
    refine (CB.out _ ?_).mono ?_; (first | exact bthen hb1 hB | exact bthen hb1 ((fld_below w1 (.cells #[] 4)).drew)); rintro e w3 ⟨v3, rfl, ho3, hbk0⟩; obtain ⟨A3, c3, rfl, k1, k2, hr3⟩ := ho3.formN HL.out; obtain ⟨Bp, hsl, hpr⟩ := part_bool (lo := fr) (m := wd) (x := (fr : Int)) (y := (fr : Int) + (wd : Int)) hr3 hfn k1 rfl (by omega); rw [HR.out] at hpr; have hb3 : Below w1.heap.size w1 w3 := (by first | exact bthen hB hbk0 | exact bthen ((fld_below w1 (.cells #[] 4)).drew) hbk0); have hs3 := hb3.size; have hbk := hbk0.mono (show w1.heap.size ≤ _ by simp)
    refine hK.out _ _ hbk ?_
    clear hK K
    try simp only [Act.put, List.setIfInBounds_toArray, List.set_cons_zero, List.set_cons_succ]
    refine wpAnyF_pure (i := 12) (oi := { dst := some 19, op := Op.slice 49 (Go.Operand.tmp 11) (some (Go.Operand.tmp 13)) (some (Go.Operand.tmp 18)) none, type := 49, pos := "field.go:33", after := #[{ on := 4, ground := Ground.data }, { on := 6, ground := Ground.data }, { on := 11, ground := Ground.data }], guard := none }) (v := ?v11) rfl (by kernel_rfl) (by kernel_rfl) (by kernel_rfl) (fun _ _ _ h => h) (Or.inl ⟨by rfl, ?hy11⟩) ?rs11
    case hy11 => (intro W hW; have hsl' := hsl W; go_simp; try with_reducible rfl)
    try simp only [Act.put, List.setIfInBounds_toArray, List.set_cons_zero, List.set_cons_succ]
    refine wpAnyF_one (i := 13) (o := { dst := some 20, op := Op.call { callee := Callee.builtin Builtin.append, args := #[Go.Operand.tmp 7, Go.Operand.tmp 19], argTypes := #[49, 49] }, type := 49, pos := "field.go:33", after := #[{ on := 0, ground := Ground.data }, { on := 12, ground := Ground.data }, { on := 4, ground := Ground.chain }], guard := none }) (by kernel_rfl) rfl (fun K hK => ?_)
    rw [if_pos (by rfl)]
    refine wp_apW Value.bool _ elBool rfl one_bool w1.heap.size _ [] rfl ?_ Bp wd (c3 - fr) G rfl ?_ ?_ ?_ (by decide) ?_; (first | exact Ow.below (w := (w1.alloc (.cells #[] 4)).drew) (Ow.empty Value.bool w1 4 (Nat.le_refl _)) hbk0 | exact Ow.empty Value.bool w3 4 hb3.size); (first | exact hpr | exact hpr.alloc _); (first | exact hb3.size | exact le_alloc hb3.size); (rw [List.length_nil]; omega); intro v5 w5 ho5 hm5; have hb5 : Below w1.heap.size w1 w5 := (by first | exact hm5.below hb3 hb3.size (new_block (Nat.le_refl _)) | exact hm5.below (hb3.alloc hb3.size _) (le_alloc hb3.size) (new_block hb3.size)); have hbk : Below w1.heap.size _ w5 := (by first | exact hm5.below (Below.refl _ _) hb3.size (new_block (Nat.le_refl _)) | exact hm5.below (Below.refl _ _) (le_alloc hb3.size) (new_block hb3.size)); have hbk5 : Below w1.heap.size w1 w5 := hb5; clear hbk0
    refine hK.out _ _ hbk ?_
    clear hK K
    try simp only [Act.put, List.setIfInBounds_toArray, List.set_cons_zero, List.set_cons_succ]
    refine wpAnyF_pure (i := 14) (oi := { dst := some 5, op := Op.assign (Go.Operand.tmp 20), type := 49, pos := "field.go:33", after := #[{ on := 13, ground := Ground.data }, { on := 13, ground := Ground.chain }, { on := 0, ground := Ground.phase }, { on := 1, ground := Ground.phase }, { on := 2, ground := Ground.phase }, { on := 3, ground := Ground.phase }, { on := 4, ground := Ground.phase }, { on := 5, ground := Ground.phase }, { on := 6, ground := Ground.phase }, { on := 7, ground := Ground.phase }, { on := 8, ground := Ground.phase }, { on := 9, ground := Ground.phase }, { on := 10, ground := Ground.phase }, { on := 11, ground := Ground.phase }, { on := 12, ground := Ground.phase }, { on := 13, ground := Ground.phase }], guard := none }) (v := ?v12) rfl (by kernel_rfl) (by kernel_rfl) (by kernel_rfl) (fun _ _ _ h => h) (Or.inl ⟨by rfl, ?hy12⟩) ?rs12
    case hy12 => (intro W hW; go_simp; try with_reducible rfl)
    try simp only [Act.put, List.setIfInBounds_toArray, List.set_cons_zero, List.set_cons_succ]
    refine wpAnyF_done (by kernel_rfl) ?_
    rotate_left
    go_simp
    refine (CB.out _ ?_).mono ?_; (first | exact bthen hb1 hB | exact bthen hb1 ((fld_below w1 (.cells #[] 4)).drew)); rintro e w3 ⟨v3, rfl, ho3, hbk0⟩; obtain ⟨A3, c3, rfl, k1, k2, hr3⟩ := ho3.formN HL.out; obtain ⟨Bp, hsl, hpr⟩ := part_bool (lo := fr) (m := wd) (x := (fr : Int)) (y := (fr : Int) + (wd : Int)) hr3 hfn k1 rfl (by omega); rw [HR.out] at hpr; have hb3 : Below w1.heap.size w1 w3 := (by first | exact bthen hB hbk0 | exact bthen ((fld_below w1 (.cells #[] 4)).drew) hbk0); have hs3 := hb3.size; have hbk := hbk0.mono (show w1.heap.size ≤ _ by simp)
    refine hK.out _ _ hbk ?_
    clear hK K
    try simp only [Act.put, List.setIfInBounds_toArray, List.set_cons_zero, List.set_cons_succ]
    refine wpAnyF_pure (i := 12) (oi := { dst := some 19, op := Op.slice 49 (Go.Operand.tmp 11) (some (Go.Operand.tmp 13)) (some (Go.Operand.tmp 18)) none, type := 49, pos := "field.go:33", after := #[{ on := 4, ground := Ground.data }, { on := 6, ground := Ground.data }, { on := 11, ground := Ground.data }], guard := none }) (v := ?v13) rfl (by kernel_rfl) (by kernel_rfl) (by kernel_rfl) (fun _ _ _ h => h) (Or.inl ⟨by rfl, ?hy13⟩) ?rs13
    case hy13 => (intro W hW; have hsl' := hsl W; go_simp; try with_reducible rfl)
    try simp only [Act.put, List.setIfInBounds_toArray, List.set_cons_zero, List.set_cons_succ]
    refine wpAnyF_one (i := 0) (o := { dst := some 7, op := Op.buildSlice 49 0 #[], type := 49, pos := "field.go:33", after := #[], guard := none }) (by kernel_rfl) rfl (fun K hK => ?_)
    go_simp
    refine hK.out _ _ ((Below.refl _ _).alloc (by first | exact Nat.le_refl _ | omega | (simp; omega)) _) ?_
    clear hK K
    try simp only [Act.put, List.setIfInBounds_toArray, List.set_cons_zero, List.set_cons_succ]
    refine wpAnyF_one (i := 13) (o := { dst := some 20, op := Op.call { callee := Callee.builtin Builtin.append, args := #[Go.Operand.tmp 7, Go.Operand.tmp 19], argTypes := #[49, 49] }, type := 49, pos := "field.go:33", after := #[{ on := 0, ground := Ground.data }, { on := 12, ground := Ground.data }, { on := 4, ground := Ground.chain }], guard := none }) (by kernel_rfl) rfl (fun K hK => ?_)
    rw [if_pos (by rfl)]
    refine wp_apW Value.bool _ elBool rfl one_bool w1.heap.size _ [] rfl ?_ Bp wd (c3 - fr) G rfl ?_ ?_ ?_ (by decide) ?_; (first | exact Ow.below (w := (w1.alloc (.cells #[] 4)).drew) (Ow.empty Value.bool w1 4 (Nat.le_refl _)) hbk0 | exact Ow.empty Value.bool w3 4 hb3.size); (first | exact hpr | exact hpr.alloc _); (first | exact hb3.size | exact le_alloc hb3.size); (rw [List.length_nil]; omega); intro v5 w5 ho5 hm5; have hb5 : Below w1.heap.size w1 w5 := (by first | exact hm5.below hb3 hb3.size (new_block (Nat.le_refl _)) | exact hm5.below (hb3.alloc hb3.size _) (le_alloc hb3.size) (new_block hb3.size)); have hbk : Below w1.heap.size _ w5 := (by first | exact hm5.below (Below.refl _ _) hb3.size (new_block (Nat.le_refl _)) | exact hm5.below (Below.refl _ _) (le_alloc hb3.size) (new_block hb3.size)); have hbk5 : Below w1.heap.size w1 w5 := hb5; clear hbk0
    refine hK.out _ _ hbk ?_
    clear hK K
    try simp only [Act.put, List.setIfInBounds_toArray, List.set_cons_zero, List.set_cons_succ]
    refine wpAnyF_pure (i := 14) (oi := { dst := some 5, op := Op.assign (Go.Operand.tmp 20), type := 49, pos := "field.go:33", after := #[{ on := 13, ground := Ground.data }, { on := 13, ground := Ground.chain }, { on := 0, ground := Ground.phase }, { on := 1, ground := Ground.phase }, { on := 2, ground := Ground.phase }, { on := 3, ground := Ground.phase }, { on := 4, ground := Ground.phase }, { on := 5, ground := Ground.phase }, { on := 6, ground := Ground.phase }, { on := 7, ground := Ground.phase }, { on := 8, ground := Ground.phase }, { on := 9, ground := Ground.phase }, { on := 10, ground := Ground.phase }, { on := 11, ground := Ground.phase }, { on := 12, ground := Ground.phase }, { on := 13, ground := Ground.phase }], guard := none }) (v := ?v14) rfl (by kernel_rfl) (by kernel_rfl) (by kernel_rfl) (fun _ _ _ h => h) (Or.inl ⟨by rfl, ?hy14⟩) ?rs14
    case hy14 => (intro W hW; go_simp; try with_reducible rfl)
    try simp only [Act.put, List.setIfInBounds_toArray, List.set_cons_zero, List.set_cons_succ]
    refine wpAnyF_done (by kernel_rfl) ?_
    rotate_left
    all_goals
      rw [List.nil_append] at ho5
      obtain ⟨g, c5, rfl, hg5, k5, _⟩ := ho5.head (by rw [hcl]; omega)
      rw [hcl] at ho5 k5 ⊢
      go_wp2
      go_meet
      case rel => exact ⟨g, c5, rfl, by omega, k5, ho5.mono hs1, by omega, hbk5⟩
  case rest =>
    obtain ⟨g, c5, rfl, hg5, k5, ho5, hne, hb5⟩ := hcut
    clear HR HL CB xw
    have hbx5 := hbx.below hb5 hbz
    have hq := hbx5.cell 2 rfl
    have hbw := bthen hb1 hb5
    clear hbx hb1 hb5
    cases bg
    · have HG : Hid (num G.reverse = R) := H2.out rfl
      clear H1 H2
      have hd : ((wd : Int).tdiv 2) = ((wd / 2 : Nat) : Int) := by rw [Int.tdiv_eq_ediv_of_nonneg (by omega)]; omega
      have hsw : swp G (wd / 2) = G.reverse := swp_half (by rw [hcl]; omega)
      have HSW := Lib.hid hsw
      clear hsw
      go_wp2
      rename World => w5
      go_loopw [27] (fun i w2 => ∃ j : Nat, j ≤ wd / 2 ∧ i = .int .i64 j ∧ Ow Value.bool w2 w.heap.size 4 (.slice (some ⟨g, 0, none⟩) wd c5) (swp G j) ∧ w5.grownBy w2 (some g)) (fun i _ => wd / 2 - (intOf i).toNat)
      case atStart => exact ⟨0, Nat.zero_le _, rfl, by rw [swp_zero]; exact ho5, World.grownBy.refl _ _⟩
      case round =>
        clear ho5
        obtain ⟨j, hj, rfl, ho2, hg2⟩ := hrel
        rename World => w2
        by_cases hlt4 : j < wd / 2
        · have a1 := swp_at (R := G) (j := j) (i := j) (Nat.le_refl _) (by omega)
          have a2 := swp_at (R := G) (j := j) (i := wd - 1 - j) (by omega) (by omega)
          have HN := swp_next (R := G) (j := j) (by omega)
          rw [hcl] at HN
          have hSl := swp_length G j
          rw [hcl] at hSl
          generalize G.getD j false = y at *
          generalize G.getD (wd - 1 - j) false = z at *
          generalize swp G j = S at *
          have HN' := Lib.hid HN
          clear HN
          have hg7 : g < w2.heap.size := ho2.inHeap g rfl
          have hc1 := ho2.cellAt a1
          have hc2 := ho2.cellAt a2
          have f0 := ho2.freeAt j
          have hP1 := ho2.put j z
          have a3 : (S.set j z)[wd - 1 - j]? = some z := by rw [List.getElem?_set, if_neg (by omega)]; exact a2
          have k2 := hP1.cellAt a3
          have f1 := hP1.freeAt (wd - 1 - j)
          have HP := Lib.hid (hP1.put (wd - 1 - j) y)
          have hgP : w2.grownBy ((w2.setCell ⟨g, j, none⟩ (.bool z)).setCell ⟨g, wd - 1 - j, none⟩ (.bool y)) (some g) := grownBy_then (grownBy_setCell _ ⟨g, j, none⟩ _) (grownBy_setCell _ ⟨g, wd - 1 - j, none⟩ _)
          clear hP1 a1 a2 a3 ho2 hbx5 hq
          have xw1 : IntKind.i64.wrap ((wd : Int) - 1) = (wd : Int) - 1 := IntWalk.i64_in _ (by omega)
          have xw : IntKind.i64.wrap ((wd : Int) - 1 - (j : Int)) = (wd : Int) - 1 - (j : Int) := IntWalk.i64_in _ (by omega)
          have t1 : ((wd : Int) - 1 - (j : Int)).toNat = wd - 1 - j := by omega
          have b1 : 0 ≤ (wd : Int) - 1 - (j : Int) := by omega
          have b2 : (wd : Int) - 1 - (j : Int) < wd := by omega
          have b3 : (j : Int) ≤ (wd : Int) - 1 := by omega
          have b4 : (j : Int) < wd := by omega
          have b5 : j < wd := by omega
          go_upto_region 6 with fail
          have hB : Below w2.heap.size w2 w2.drew := (Below.refl _ _).drew
          have hcl2 : Hid (∀ W, Below w2.heap.size w2 W → W.cell? ⟨g, j, none⟩ = some (.bool y) ∧ W.cell? ⟨g, wd - 1 - j, none⟩ = some (.bool z)) := fun W hW => ⟨(hW.cell (p := ⟨g, j, none⟩) hg7).trans hc1, (hW.cell (p := ⟨g, wd - 1 - j, none⟩) hg7).trans hc2⟩
          refine wp_region_F 21 (w2.heap.size) (by kernel_rfl) ?_
          refine wpAnyF_pure (i := 0) (oi := { dst := some 30, op := Op.move (Go.Operand.tmp 5), type := 49, pos := "field.go:36", after := #[], guard := none }) (v := ?v15) rfl (by kernel_rfl) (by kernel_rfl) (by kernel_rfl) (fun _ _ _ h => h) (Or.inl ⟨by rfl, ?hy15⟩) ?rs15
          case hy15 => (intro W hW; go_simp; try with_reducible rfl)
          try simp only [Act.put, List.setIfInBounds_toArray, List.set_cons_zero, List.set_cons_succ]
          refine wpAnyF_pure (i := 1) (oi := { dst := some 31, op := Op.move (Go.Operand.tmp 6), type := 3, pos := "field.go:36", after := #[], guard := none }) (v := ?v16) rfl (by kernel_rfl) (by kernel_rfl) (by kernel_rfl) (fun _ _ _ h => h) (Or.inl ⟨by rfl, ?hy16⟩) ?rs16
          case hy16 => (intro W hW; go_simp; try with_reducible rfl)
          try simp only [Act.put, List.setIfInBounds_toArray, List.set_cons_zero, List.set_cons_succ]
          refine wpAnyF_pure (i := 2) (oi := { dst := some 32, op := Op.move (Go.Operand.tmp 5), type := 49, pos := "field.go:36", after := #[{ on := 21, ground := Ground.gcOnly Go.Departure.lateStores }], guard := none }) (v := ?v17) rfl (by kernel_rfl) (by kernel_rfl) (by kernel_rfl) (fun _ _ _ h => h) (Or.inl ⟨by rfl, ?hy17⟩) ?rs17
          case hy17 => (intro W hW; go_simp; try with_reducible rfl)
          try simp only [Act.put, List.setIfInBounds_toArray, List.set_cons_zero, List.set_cons_succ]
          refine wpAnyF_pure (i := 3) (oi := { dst := some 33, op := Op.move (Go.Operand.tmp 5), type := 49, pos := "field.go:36", after := #[], guard := none }) (v := ?v18) rfl (by kernel_rfl) (by kernel_rfl) (by kernel_rfl) (fun _ _ _ h => h) (Or.inl ⟨by rfl, ?hy18⟩) ?rs18
          case hy18 => (intro W hW; go_simp; try with_reducible rfl)
          try simp only [Act.put, List.setIfInBounds_toArray, List.set_cons_zero, List.set_cons_succ]
          refine wpAnyF_pure (i := 4) (oi := { dst := some 34, op := Op.call { callee := Callee.builtin Builtin.len, args := #[Go.Operand.tmp 33], argTypes := #[49] }, type := 3, pos := "field.go:36", after := #[{ on := 3, ground := Ground.data }], guard := none }) (v := ?v19) rfl (by kernel_rfl) (by kernel_rfl) (by kernel_rfl) (fun _ _ _ h => h) (Or.inl ⟨by rfl, ?hy19⟩) ?rs19
          case hy19 => (intro W hW; go_simp; try with_reducible rfl)
          try simp only [Act.put, List.setIfInBounds_toArray, List.set_cons_zero, List.set_cons_succ]
          refine wpAnyF_pure (i := 5) (oi := { dst := some 35, op := Op.binOp Go.BinOp.sub 3 (Go.Operand.tmp 34) (Go.Operand.const (Go.Value.int Go.IntKind.i64 1)) 3, type := 3, pos := "field.go:36", after := #[{ on := 4, ground := Ground.data }, { on := 21, ground := Ground.gcOnly Go.Departure.lateStores }], guard := none }) (v := ?v20) rfl (by kernel_rfl) (by kernel_rfl) (by kernel_rfl) (fun _ _ _ h => h) (Or.inl ⟨by rfl, ?hy20⟩) ?rs20
          case hy20 => (intro W hW; go_simp; try with_reducible rfl)
          try simp only [Act.put, List.setIfInBounds_toArray, List.set_cons_zero, List.set_cons_succ]
          refine wpAnyF_pure (i := 6) (oi := { dst := some 36, op := Op.move (Go.Operand.tmp 6), type := 3, pos := "field.go:36", after := #[{ on := 21, ground := Ground.gcOnly Go.Departure.lateStores }], guard := none }) (v := ?v21) rfl (by kernel_rfl) (by kernel_rfl) (by kernel_rfl) (fun _ _ _ h => h) (Or.inl ⟨by rfl, ?hy21⟩) ?rs21
          case hy21 => (intro W hW; go_simp; try with_reducible rfl)
          try simp only [Act.put, List.setIfInBounds_toArray, List.set_cons_zero, List.set_cons_succ]
          refine wpAnyF_pure (i := 7) (oi := { dst := some 37, op := Op.binOp Go.BinOp.sub 3 (Go.Operand.tmp 35) (Go.Operand.tmp 36) 3, type := 3, pos := "field.go:36", after := #[{ on := 5, ground := Ground.data }, { on := 6, ground := Ground.data }, { on := 21, ground := Ground.gcOnly Go.Departure.lateStores }], guard := none }) (v := ?v22) rfl (by kernel_rfl) (by kernel_rfl) (by kernel_rfl) (fun _ _ _ h => h) (Or.inl ⟨by rfl, ?hy22⟩) ?rs22
          case hy22 => (intro W hW; go_simp; try with_reducible rfl)
          try simp only [Act.put, List.setIfInBounds_toArray, List.set_cons_zero, List.set_cons_succ]
          refine wpAnyF_pure (i := 8) (oi := { dst := some 38, op := Op.move (Go.Operand.tmp 5), type := 49, pos := "field.go:36", after := #[], guard := none }) (v := ?v23) rfl (by kernel_rfl) (by kernel_rfl) (by kernel_rfl) (fun _ _ _ h => h) (Or.inl ⟨by rfl, ?hy23⟩) ?rs23
          case hy23 => (intro W hW; go_simp; try with_reducible rfl)
          try simp only [Act.put, List.setIfInBounds_toArray, List.set_cons_zero, List.set_cons_succ]
          refine wpAnyF_pure (i := 9) (oi := { dst := some 39, op := Op.move (Go.Operand.tmp 5), type := 49, pos := "field.go:36", after := #[], guard := none }) (v := ?v24) rfl (by kernel_rfl) (by kernel_rfl) (by kernel_rfl) (fun _ _ _ h => h) (Or.inl ⟨by rfl, ?hy24⟩) ?rs24
          case hy24 => (intro W hW; go_simp; try with_reducible rfl)
          try simp only [Act.put, List.setIfInBounds_toArray, List.set_cons_zero, List.set_cons_succ]
          refine wpAnyF_pure (i := 10) (oi := { dst := some 40, op := Op.call { callee := Callee.builtin Builtin.len, args := #[Go.Operand.tmp 39], argTypes := #[49] }, type := 3, pos := "field.go:36", after := #[{ on := 9, ground := Ground.data }], guard := none }) (v := ?v25) rfl (by kernel_rfl) (by kernel_rfl) (by kernel_rfl) (fun _ _ _ h => h) (Or.inl ⟨by rfl, ?hy25⟩) ?rs25
          case hy25 => (intro W hW; go_simp; try with_reducible rfl)
          try simp only [Act.put, List.setIfInBounds_toArray, List.set_cons_zero, List.set_cons_succ]
          refine wpAnyF_pure (i := 11) (oi := { dst := some 41, op := Op.binOp Go.BinOp.sub 3 (Go.Operand.tmp 40) (Go.Operand.const (Go.Value.int Go.IntKind.i64 1)) 3, type := 3, pos := "field.go:36", after := #[{ on := 10, ground := Ground.data }], guard := none }) (v := ?v26) rfl (by kernel_rfl) (by kernel_rfl) (by kernel_rfl) (fun _ _ _ h => h) (Or.inl ⟨by rfl, ?hy26⟩) ?rs26
          case hy26 => (intro W hW; go_simp; try with_reducible rfl)
          try simp only [Act.put, List.setIfInBounds_toArray, List.set_cons_zero, List.set_cons_succ]
          refine wpAnyF_pure (i := 12) (oi := { dst := some 42, op := Op.move (Go.Operand.tmp 6), type := 3, pos := "field.go:36", after := #[], guard := none }) (v := ?v27) rfl (by kernel_rfl) (by kernel_rfl) (by kernel_rfl) (fun _ _ _ h => h) (Or.inl ⟨by rfl, ?hy27⟩) ?rs27
          case hy27 => (intro W hW; go_simp; try with_reducible rfl)
          try simp only [Act.put, List.setIfInBounds_toArray, List.set_cons_zero, List.set_cons_succ]
          refine wpAnyF_pure (i := 13) (oi := { dst := some 43, op := Op.binOp Go.BinOp.sub 3 (Go.Operand.tmp 41) (Go.Operand.tmp 42) 3, type := 3, pos := "field.go:36", after := #[{ on := 11, ground := Ground.data }, { on := 12, ground := Ground.data }], guard := none }) (v := ?v28) rfl (by kernel_rfl) (by kernel_rfl) (by kernel_rfl) (fun _ _ _ h => h) (Or.inl ⟨by rfl, ?hy28⟩) ?rs28
          case hy28 => (intro W hW; go_simp; try with_reducible rfl)
          try simp only [Act.put, List.setIfInBounds_toArray, List.set_cons_zero, List.set_cons_succ]
          refine wpAnyF_pure (i := 14) (oi := { dst := some 44, op := Op.indexAddr 49 (Go.Operand.tmp 38) (Go.Operand.tmp 43), type := 0, pos := "field.go:36", after := #[{ on := 8, ground := Ground.data }, { on := 13, ground := Ground.data }], guard := none }) (v := ?v29) rfl (by kernel_rfl) (by kernel_rfl) (by kernel_rfl) (fun _ _ _ h => h) (Or.inl ⟨by rfl, ?hy29⟩) ?rs29
          case hy29 => (intro W hW; go_simp; try with_reducible rfl)
          try simp only [Act.put, List.setIfInBounds_toArray, List.set_cons_zero, List.set_cons_succ]
          refine wpAnyF_take (i := 15) (oi := { dst := some 45, op := Op.load 4 (Go.Operand.tmp 44), type := 4, pos := "field.go:36", after := #[{ on := 14, ground := Ground.data }], guard := none }) (v := ?v30) rfl (by kernel_rfl) (by kernel_rfl) (by kernel_rfl) (by decide) (by kernel_rfl) (fun _ _ _ h => h) (Or.inl ⟨by rfl, ?hy30⟩) ?rs30
          case hy30 => (intro W hW; obtain ⟨m0, m1⟩ := hcl2.out W (hB.trans hW); go_simp; try with_reducible rfl)
          try simp only [Act.put, List.setIfInBounds_toArray, List.set_cons_zero, List.set_cons_succ]
          refine wpAnyF_pure (i := 16) (oi := { dst := some 46, op := Op.move (Go.Operand.tmp 5), type := 49, pos := "field.go:36", after := #[], guard := none }) (v := ?v31) rfl (by kernel_rfl) (by kernel_rfl) (by kernel_rfl) (fun _ _ _ h => h) (Or.inl ⟨by rfl, ?hy31⟩) ?rs31
          case hy31 => (intro W hW; go_simp; try with_reducible rfl)
          try simp only [Act.put, List.setIfInBounds_toArray, List.set_cons_zero, List.set_cons_succ]
          refine wpAnyF_pure (i := 17) (oi := { dst := some 47, op := Op.move (Go.Operand.tmp 6), type := 3, pos := "field.go:36", after := #[], guard := none }) (v := ?v32) rfl (by kernel_rfl) (by kernel_rfl) (by kernel_rfl) (fun _ _ _ h => h) (Or.inl ⟨by rfl, ?hy32⟩) ?rs32
          case hy32 => (intro W hW; go_simp; try with_reducible rfl)
          try simp only [Act.put, List.setIfInBounds_toArray, List.set_cons_zero, List.set_cons_succ]
          refine wpAnyF_pure (i := 18) (oi := { dst := some 48, op := Op.indexAddr 49 (Go.Operand.tmp 46) (Go.Operand.tmp 47), type := 0, pos := "field.go:36", after := #[{ on := 16, ground := Ground.data }, { on := 17, ground := Ground.data }], guard := none }) (v := ?v33) rfl (by kernel_rfl) (by kernel_rfl) (by kernel_rfl) (fun _ _ _ h => h) (Or.inl ⟨by rfl, ?hy33⟩) ?rs33
          case hy33 => (intro W hW; go_simp; try with_reducible rfl)
          try simp only [Act.put, List.setIfInBounds_toArray, List.set_cons_zero, List.set_cons_succ]
          refine wpAnyF_take (i := 19) (oi := { dst := some 49, op := Op.load 4 (Go.Operand.tmp 48), type := 4, pos := "field.go:36", after := #[{ on := 18, ground := Ground.data }], guard := none }) (v := ?v34) rfl (by kernel_rfl) (by kernel_rfl) (by kernel_rfl) (by decide) (by kernel_rfl) (fun _ _ _ h => h) (Or.inl ⟨by rfl, ?hy34⟩) ?rs34
          case hy34 => (intro W hW; obtain ⟨m0, m1⟩ := hcl2.out W (hB.trans hW); go_simp; try with_reducible rfl)
          try simp only [Act.put, List.setIfInBounds_toArray, List.set_cons_zero, List.set_cons_succ]
          refine wpAnyF_pure (i := 20) (oi := { dst := some 50, op := Op.indexAddr 49 (Go.Operand.tmp 30) (Go.Operand.tmp 31), type := 0, pos := "field.go:36", after := #[{ on := 0, ground := Ground.data }, { on := 1, ground := Ground.data }, { on := 0, ground := Ground.phase }, { on := 1, ground := Ground.phase }, { on := 2, ground := Ground.textOnly Go.Departure.lateStores }, { on := 3, ground := Ground.textOnly Go.Departure.lateStores }, { on := 4, ground := Ground.textOnly Go.Departure.lateStoresUnsure }, { on := 5, ground := Ground.textOnly Go.Departure.lateStores }, { on := 6, ground := Ground.textOnly Go.Departure.lateStores }, { on := 7, ground := Ground.textOnly Go.Departure.lateStores }, { on := 8, ground := Ground.phase }, { on := 9, ground := Ground.phase }, { on := 10, ground := Ground.phase }, { on := 11, ground := Ground.phase }, { on := 12, ground := Ground.phase }, { on := 13, ground := Ground.phase }, { on := 14, ground := Ground.phase }, { on := 15, ground := Ground.phase }, { on := 16, ground := Ground.textOnly Go.Departure.lateStores }, { on := 17, ground := Ground.textOnly Go.Departure.lateStores }, { on := 18, ground := Ground.textOnly Go.Departure.lateStoresUnsure }, { on := 19, ground := Ground.phase }], guard := none }) (v := ?v35) rfl (by kernel_rfl) (by kernel_rfl) (by kernel_rfl) (fun _ _ _ h => h) (Or.inl ⟨by rfl, ?hy35⟩) ?rs35
          case hy35 => (intro W hW; go_simp; try with_reducible rfl)
          try simp only [Act.put, List.setIfInBounds_toArray, List.set_cons_zero, List.set_cons_succ]
          refine wpAnyF_last (i := 21) (o := { dst := none, op := Op.store 4 (Go.Operand.tmp 50) (Go.Operand.tmp 45), type := 0, pos := "field.go:36", after := #[{ on := 20, ground := Ground.data }, { on := 15, ground := Ground.data }, { on := 0, ground := Ground.phase }, { on := 1, ground := Ground.phase }, { on := 2, ground := Ground.textOnly Go.Departure.lateStores }, { on := 3, ground := Ground.textOnly Go.Departure.lateStores }, { on := 4, ground := Ground.textOnly Go.Departure.lateStoresUnsure }, { on := 5, ground := Ground.textOnly Go.Departure.lateStores }, { on := 6, ground := Ground.textOnly Go.Departure.lateStores }, { on := 7, ground := Ground.textOnly Go.Departure.lateStores }, { on := 8, ground := Ground.phase }, { on := 9, ground := Ground.phase }, { on := 10, ground := Ground.phase }, { on := 11, ground := Ground.phase }, { on := 12, ground := Ground.phase }, { on := 13, ground := Ground.phase }, { on := 14, ground := Ground.phase }, { on := 15, ground := Ground.phase }, { on := 16, ground := Ground.textOnly Go.Departure.lateStores }, { on := 17, ground := Ground.textOnly Go.Departure.lateStores }, { on := 18, ground := Ground.textOnly Go.Departure.lateStoresUnsure }, { on := 19, ground := Ground.phase }], guard := none }) (by kernel_rfl) rfl (by decide) (fun K hK => ?_)
          go_simp
          refine hK.out _ _ ?_
          clear hK K
          try simp only [Act.put, List.setIfInBounds_toArray, List.set_cons_zero, List.set_cons_succ]
          refine wpAnyF_pure (i := 22) (oi := { dst := some 51, op := Op.indexAddr 49 (Go.Operand.tmp 32) (Go.Operand.tmp 37), type := 0, pos := "field.go:36", after := #[{ on := 2, ground := Ground.data }, { on := 7, ground := Ground.data }, { on := 0, ground := Ground.phase }, { on := 1, ground := Ground.phase }, { on := 2, ground := Ground.phase }, { on := 3, ground := Ground.phase }, { on := 4, ground := Ground.phase }, { on := 5, ground := Ground.phase }, { on := 6, ground := Ground.phase }, { on := 7, ground := Ground.phase }, { on := 8, ground := Ground.phase }, { on := 9, ground := Ground.phase }, { on := 10, ground := Ground.phase }, { on := 11, ground := Ground.phase }, { on := 12, ground := Ground.phase }, { on := 13, ground := Ground.phase }, { on := 14, ground := Ground.phase }, { on := 15, ground := Ground.phase }, { on := 16, ground := Ground.phase }, { on := 17, ground := Ground.phase }, { on := 18, ground := Ground.phase }, { on := 19, ground := Ground.phase }, { on := 20, ground := Ground.phase }, { on := 21, ground := Ground.phase }], guard := none }) (v := ?v36) rfl (by kernel_rfl) (by kernel_rfl) (by kernel_rfl) (fun _ _ _ h => h) (Or.inl ⟨by rfl, ?hy36⟩) ?rs36
          case hy36 => (intro W hW; go_simp; try with_reducible rfl)
          try simp only [Act.put, List.setIfInBounds_toArray, List.set_cons_zero, List.set_cons_succ]
          refine wpAnyF_last (i := 23) (o := { dst := none, op := Op.store 4 (Go.Operand.tmp 51) (Go.Operand.tmp 49), type := 0, pos := "field.go:36", after := #[{ on := 22, ground := Ground.data }, { on := 19, ground := Ground.data }, { on := 21, ground := Ground.chain }, { on := 0, ground := Ground.phase }, { on := 1, ground := Ground.phase }, { on := 2, ground := Ground.phase }, { on := 3, ground := Ground.phase }, { on := 4, ground := Ground.phase }, { on := 5, ground := Ground.phase }, { on := 6, ground := Ground.phase }, { on := 7, ground := Ground.phase }, { on := 8, ground := Ground.phase }, { on := 9, ground := Ground.phase }, { on := 10, ground := Ground.phase }, { on := 11, ground := Ground.phase }, { on := 12, ground := Ground.phase }, { on := 13, ground := Ground.phase }, { on := 14, ground := Ground.phase }, { on := 15, ground := Ground.phase }, { on := 16, ground := Ground.phase }, { on := 17, ground := Ground.phase }, { on := 18, ground := Ground.phase }, { on := 19, ground := Ground.phase }, { on := 20, ground := Ground.phase }, { on := 21, ground := Ground.phase }], guard := none }) (by kernel_rfl) rfl (by decide) (fun K hK => ?_)
          generalize (w2.setCell ⟨g, j, none⟩ (.bool z)) = w8 at *
          go_simp
          refine hK.out _ _ ?_
          clear hK K
          try simp only [Act.put, List.setIfInBounds_toArray, List.set_cons_zero, List.set_cons_succ]
          refine wpAnyF_done (by kernel_rfl) ?_
          clear hcl2 k2 f0 f1 hc1 hc2
          go_wp2
          go_roundw
          case rel => exact ⟨j + 1, by omega, by go_num, by rw [← HN'.out]; exact HP.out.below (Below.refl _ _).drew, grownBy_then (grownBy_then hg2 hgP) (grownBy_belowF (Below.refl _ _).drew)⟩
          case measure => simp [intOf] <;> omega
        · obtain rfl : j = wd / 2 := by omega
          rw [HSW.out] at ho2
          have hrd := ho2.rd
          have hbl2 : Below w.heap.size w w2 := below_grown hbw hg2 (by omega) hbw.size
          clear ho2 HSW
          generalize G.reverse = T at *
          go_wp2_with fail
          refine (AGet_any (some ⟨g, 0, none⟩) wd c5 T _ hrd hwide).mono ?_
          rintro e w6 ⟨rfl, rfl⟩
          go_wp2
          go_ret
          exact ⟨ret_int HG.out, hbl2⟩
    · have HG : Hid (num G = R) := H1.out rfl
      have hrd := ho5.rd
      clear H1 H2
      go_wp2_with fail
      refine (AGet_any (some ⟨g, 0, none⟩) wd c5 G _ hrd hwide).mono ?_
      rintro e w6 ⟨rfl, rfl⟩
      go_wp2
      go_ret
      exact ⟨ret_int HG.out, hbw⟩
end Go.Proofs.Ytldkmopkakdgnaa
