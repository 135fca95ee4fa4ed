/-
  Contracts of slotwrightref: WWrong, WBits.
-/
import Derived.Test.YtldkmopkakdgnaaFieldPut
import Derived.Test.YtldkmopkakdgnaaRegion
import Derived.Test.YtldkmopkakdgnaaRegionF
import Derived.Deep.QuietTactic
import Derived.BigQuiet
import Derived.Deep.CutBlock
import Derived.Deep.DeepCutAuto
namespace Go.Proofs.Ytldkmopkakdgnaa
open Go.RowKit
set_option maxRecDepth 20000
set_option linter.unusedVariables false

theorem WWrong_any (f : FI) (k : Int) (w : World) : Calls Try.prog 13 #[f.v, .int .i64 k] w fun e w' => e = .returned (.int .i64 (wrongW f k)) ∧ Below w.heap.size w w' := by
  obtain ⟨a, b, g⟩ := f
  show Calls Try.prog 13 #[.agg #[.int .i64 a, .int .i64 b, .bool g], .int .i64 k] w _
  by_cases h1 : k < 0 ∨ 400 < k ∨ b < 1 ∨ 62 < b ∨ a < 0
  · have hw : wrongW ⟨a, b, g⟩ k = 2 := if_pos h1
    rw [hw]
    clear hw
    by_cases c1 : k < 0
    · clear h1
      go_enter Try.func13, Try.ntmps13
      go_wp2
      go_ret
      exact ⟨rfl, fld_below _ _⟩
    · have d1 : decide (k < 0) = false := decide_eq_false c1
      by_cases c2 : 400 < k
      · clear h1
        go_enter Try.func13, Try.ntmps13
        go_wp2
        go_ret
        exact ⟨rfl, fld_below _ _⟩
      · have d2 : decide (400 < k) = false := decide_eq_false c2
        by_cases c3 : b < 1
        · clear h1
          go_enter Try.func13, Try.ntmps13
          go_wp2
          go_ret
          exact ⟨rfl, fld_below _ _⟩
        · have d3 : decide (b < 1) = false := decide_eq_false c3
          by_cases c4 : 62 < b
          · clear h1
            go_enter Try.func13, Try.ntmps13
            go_wp2
            go_ret
            exact ⟨rfl, fld_below _ _⟩
          · have d4 : decide (62 < b) = false := decide_eq_false c4
            have c5 : a < 0 := by omega
            clear h1
            go_enter Try.func13, Try.ntmps13
            go_wp2
            go_ret
            exact ⟨rfl, fld_below _ _⟩
  · have c1 : ¬ k < 0 := by omega
    have c2 : ¬ 400 < k := by omega
    have c3 : ¬ b < 1 := by omega
    have c4 : ¬ 62 < b := by omega
    have c5 : ¬ a < 0 := by omega
    have x1 : IntKind.i64.wrap (8 * k) = 8 * k := IntWalk.i64_in _ (by omega)
    by_cases c7 : 3200 < a
    · have hw : wrongW ⟨a, b, g⟩ k = 8 := by unfold wrongW; rw [if_neg h1, if_pos (by simp only; omega)]
      rw [hw]
      clear hw h1
      go_enter Try.func13, Try.ntmps13
      go_wp2
      go_ret
      exact ⟨rfl, fld_below _ _⟩
    · have x2 : IntKind.i64.wrap (a + b) = a + b := IntWalk.i64_in _ (by omega)
      by_cases c6 : 8 * k < a + b
      · have hw : wrongW ⟨a, b, g⟩ k = 8 := by unfold wrongW; rw [if_neg h1, if_pos (by simp only; omega)]
        rw [hw]
        have d6 : decide (8 * k < a + b) = true := decide_eq_true c6
        clear hw h1
        go_enter Try.func13, Try.ntmps13
        go_wp2
        go_ret
        exact ⟨rfl, fld_below _ _⟩
      · have hw : wrongW ⟨a, b, g⟩ k = 0 := by unfold wrongW; rw [if_neg h1, if_neg (by simp only; omega)]
        rw [hw]
        have d6 : decide (8 * k < a + b) = false := decide_eq_false c6
        clear hw h1
        go_enter Try.func13, Try.ntmps13
        go_wp2
        go_ret
        exact ⟨rfl, fld_below _ _⟩

/-! a row turned round in place -/
def swp (R : List Bool) (j : Nat) : List Bool := (List.range R.length).map fun i => if i < j ∨ R.length - j ≤ i then R.getD (R.length - 1 - i) false else R.getD i false
theorem swp_length (R : List Bool) (j : Nat) : (swp R j).length = R.length := by simp [swp]
theorem swp_getD {R : List Bool} {j i : Nat} (h : i < R.length) : (swp R j).getD i false = if i < j ∨ R.length - j ≤ i then R.getD (R.length - 1 - i) false else R.getD i false := by
  rw [List.getD_eq_getElem?_getD, swp, List.getElem?_map, List.getElem?_range h]; rfl
theorem swp_zero (R : List Bool) : swp R 0 = R := by
  refine ext_getD (swp_length ..) fun i hi => ?_
  rw [swp_length] at hi
  rw [swp_getD hi, if_neg (by omega)]
theorem swp_at {R : List Bool} {j i : Nat} (h1 : j ≤ i) (h2 : i < R.length - j) : (swp R j)[i]? = some (R.getD i false) := by
  have hl : i < (swp R j).length := by rw [swp_length]; omega
  have := swp_getD (R := R) (j := j) (i := i) (by omega)
  rw [if_neg (by omega), List.getD_eq_getElem?_getD, List.getElem?_eq_getElem hl, Option.getD_some] at this
  rw [List.getElem?_eq_getElem hl, this]
theorem swp_next {R : List Bool} {j : Nat} (h : j < R.length - 1 - j) : ((swp R j).set j (R.getD (R.length - 1 - j) false)).set (R.length - 1 - j) (R.getD j false) = swp R (j + 1) := by
  refine ext_getD (by rw [List.length_set, List.length_set, swp_length, swp_length]) fun i hi => ?_
  rw [List.length_set, List.length_set, swp_length] at hi
  rw [set_getD (by rw [List.length_set, swp_length]; exact hi), set_getD (by rw [swp_length]; exact hi), swp_getD hi, swp_getD hi]
  by_cases h1 : R.length - 1 - j = i
  · rw [if_pos h1, if_pos (by omega)]
    congr 1; omega
  · rw [if_neg h1]
    by_cases h2 : j = i
    · rw [if_pos h2, if_pos (by omega)]
      congr 1; omega
    · rw [if_neg h2]
      by_cases h3 : i < j ∨ R.length - j ≤ i
      · rw [if_pos h3, if_pos (by omega)]
      · rw [if_neg h3, if_neg (by omega)]
theorem swp_half {R : List Bool} {j : Nat} (h : 2 * j = R.length ∨ 2 * j + 1 = R.length) : swp R j = R.reverse := by
  refine ext_getD (by rw [swp_length, List.length_reverse]) fun i hi => ?_
  rw [swp_length] at hi
  rw [swp_getD hi, List.getD_eq_getElem?_getD (l := R.reverse), List.getElem?_reverse hi, ← List.getD_eq_getElem?_getD]
  split
  · rfl
  · congr 1; omega
theorem bits8 (x : Int) : ofBytes [x] = bitsOf 8 x := by rw [ofBytes_cons]; simp [ofBytes]
theorem rowF_take {bg : Bool} {l : List Int} {k : Nat} {x : Int} (h : l[k]? = some x) : rowF bg (l.take (k + 1)) = rowF bg (l.take k) ++ if bg = true then bitsOf 8 x else (bitsOf 8 x).reverse := by
  rw [take_snoc h, rowF_snoc]
set_option maxRecDepth 20000 in
set_option maxHeartbeats 1600000 in
theorem WBits_any (A : Option Addr) (n c : Nat) (l : List Int) (bg : Bool) (w : World) (h : Rd w 1 A n (l.map (Value.int .u8))) (hb : Byt l) (hn : n ≤ 400) :
    Calls Try.prog 23 #[.slice A n c, .bool bg] w fun e w' => ∃ v, e = .returned v ∧ Ow Value.bool w' w.heap.size 4 v (rowF bg l) ∧ Below w.heap.size w w' := by
  have Hl := Lib.hid h.lenMap
  go_enter Try.func23, Try.ntmps23
  go_wp2
  go_loopw [5, 12] (fun v i wr => ∃ k : Nat, k ≤ n ∧ i = .int .i64 k ∧ Ow Value.bool wr w.heap.size 4 v (rowF bg (l.take k)) ∧ Below w.heap.size w wr) (fun _ i _ => n - (intOf i).toNat)
  case atStart => exact ⟨0, Nat.zero_le _, rfl, Ow.nil _ _ _ _, Below.refl _ _⟩
  case round =>
    obtain ⟨k, hk, rfl, ho, hbl⟩ := hrel
    by_cases hlt : k < n
    · obtain ⟨ad, x, rfl, hx, hc⟩ := (h.below hbl).atMap hlt
      obtain ⟨x0, x1⟩ := hb.at_ hx
      have HT := Lib.hid (rowF_take (bg := bg) hx)
      have hL := rowF_length bg (l.take k)
      have hlk : (l.take k).length = k := by rw [List.length_take, Hl.out]; omega
      rw [hlk] at hL
      clear hlk hx
      generalize rowF bg (l.take k) = acc at *
      have CO := Lib.hid (AOf_any (some ⟨wr.heap.size, 0, none⟩) 1 1 [x] (wr.alloc (.cells #[.int .u8 x] 5)) (Rd.oneM (Value.int .u8) wr x 5) (by intro y hy; simp at hy; subst hy; exact ⟨x0, x1⟩) (by omega))
      have hoo := Lib.hid ho
      go_wp2_with fail
      refine CO.out.mono ?_
      rintro e w1 ⟨v1, rfl, ho1, hb1⟩
      rw [bits8] at ho1
      obtain ⟨g, c1, hv1, hgB, hc8, hcm⟩ := ho1.head (by rw [bitsOf_length]; omega)
      rw [bitsOf_length] at hv1 hc8
      subst hv1
      have hgl : g < w1.heap.size := ho1.inHeap g rfl
      have hgw : wr.heap.size ≤ g := by simp at hgB; omega
      have hw0 : w.heap.size ≤ g := Nat.le_trans hbl.size hgw
      have hbk := below_new hb1
      replace ho := ho.below hbk
      have hob : ∀ j, u5.ownBlock = some j → j < wr.heap.size := (show Ow Value.bool wr w.heap.size 4 u5 acc from hoo.out).inHeap
      replace hbl := bthen hbl hbk
      clear CO hb1 hbk hc
      have hob2 : ∀ j, u5.ownBlock = some j → j ≠ g := fun j hj e => by have := hob j hj; omega
      clear hob hoo
      generalize (wr.alloc (.cells #[.int .u8 x] 5)).heap.size = B at *
      generalize wr.heap.size = sz at *
      cases bg
      · have hR : (bitsOf 8 x).length = 8 := bitsOf_length 8 x
        go_wp2
        have Ho := Lib.hid ho
        have hg1 : w1.grownBy w1 (some g) := World.grownBy.refl _ _
        have hsw : swp (bitsOf 8 x) 4 = (bitsOf 8 x).reverse := swp_half (by omega)
        have HSW := Lib.hid hsw
        clear ho hsw
        go_loopw [21] (fun i w2 => ∃ j : Nat, j ≤ 4 ∧ i = .int .i64 j ∧ Ow Value.bool w2 B 4 (.slice (some ⟨g, 0, none⟩) 8 c1) (swp (bitsOf 8 x) j) ∧ w1.grownBy w2 (some g)) (fun i _ => 4 - (intOf i).toNat)
        case atStart => exact ⟨0, Nat.zero_le _, rfl, by rw [swp_zero]; exact ho1, hg1⟩
        case round =>
          clear ho1 hg1
          obtain ⟨j, hj, rfl, ho2, hg2⟩ := hrel
          rename World => w2
          by_cases hlt4 : j < 4
          · have a1 := swp_at (R := bitsOf 8 x) (j := j) (i := j) (Nat.le_refl _) (by omega)
            have a2 := swp_at (R := bitsOf 8 x) (j := j) (i := 7 - j) (by omega) (by omega)
            have HN := swp_next (R := bitsOf 8 x) (j := j) (by omega)
            rw [hR, show 8 - 1 - j = 7 - j by omega] at HN
            have hSl := swp_length (bitsOf 8 x) j
            rw [hR] at hSl
            generalize (bitsOf 8 x).getD j false = y at *
            generalize (bitsOf 8 x).getD (7 - j) false = z at *
            generalize swp (bitsOf 8 x) j = S at *
            have HN' := Lib.hid HN
            clear HN
            have hg7 : g < w2.heap.size := ho2.inHeap g rfl
            have hc1 := ho2.cellAt a1
            have hc2 := ho2.cellAt a2
            have f0 := ho2.freeAt j
            have hP1 := ho2.put j z
            have a3 : (S.set j z)[7 - j]? = some z := by rw [List.getElem?_set, if_neg (by omega)]; exact a2
            have k2 := hP1.cellAt a3
            have f1 := hP1.freeAt (7 - j)
            have HP := Lib.hid (hP1.put (7 - j) y)
            have hgP : w2.grownBy ((w2.setCell ⟨g, j, none⟩ (.bool z)).setCell ⟨g, 7 - j, none⟩ (.bool y)) (some g) := grownBy_then (grownBy_setCell _ ⟨g, j, none⟩ _) (grownBy_setCell _ ⟨g, 7 - j, none⟩ _)
            clear hP1 a1 a2 a3 ho2
            have xw : IntKind.i64.wrap (7 - (j : Int)) = 7 - (j : Int) := IntWalk.i64_in _ (by omega)
            have t1 : (7 - (j : Int)).toNat = 7 - j := by omega
            have b1 : 0 ≤ 7 - (j : Int) := by omega
            have b2 : 7 - (j : Int) < 8 := by omega
            have b3 : (j : Int) ≤ 7 := by omega
            have b4 : (j : Int) < 8 := by omega
            go_upto_region 10 with fail
            have hB : Below w2.heap.size w2 w2.drew := (Below.refl _ _).drew
            have hcl : Hid (∀ W, Below w2.heap.size w2 W → W.cell? ⟨g, j, none⟩ = some (.bool y) ∧ W.cell? ⟨g, 7 - j, none⟩ = some (.bool z)) := fun W hW => ⟨(hW.cell (p := ⟨g, j, none⟩) hg7).trans hc1, (hW.cell (p := ⟨g, 7 - j, none⟩) hg7).trans hc2⟩
            refine wp_region_F 15 (w2.heap.size) (by kernel_rfl) ?_
            refine wpAnyF_pure (i := 0) (oi := { dst := some 24, op := Op.move (Go.Operand.tmp 8), type := 49, pos := "field.go:23", after := #[], guard := none }) (v := ?v1) rfl (by kernel_rfl) (by kernel_rfl) (by kernel_rfl) (fun _ _ _ h => h) (Or.inl ⟨by rfl, ?hy1⟩) ?rs1
            case hy1 => (intro W hW; go_simp; try with_reducible rfl)
            try simp only [Act.put, List.setIfInBounds_toArray, List.set_cons_zero, List.set_cons_succ]
            refine wpAnyF_pure (i := 1) (oi := { dst := some 25, op := Op.move (Go.Operand.tmp 9), type := 3, pos := "field.go:23", after := #[], guard := none }) (v := ?v2) rfl (by kernel_rfl) (by kernel_rfl) (by kernel_rfl) (fun _ _ _ h => h) (Or.inl ⟨by rfl, ?hy2⟩) ?rs2
            case hy2 => (intro W hW; go_simp; try with_reducible rfl)
            try simp only [Act.put, List.setIfInBounds_toArray, List.set_cons_zero, List.set_cons_succ]
            refine wpAnyF_pure (i := 2) (oi := { dst := some 26, op := Op.move (Go.Operand.tmp 8), type := 49, pos := "field.go:23", after := #[{ on := 15, ground := Ground.gcOnly Go.Departure.lateStores }], guard := none }) (v := ?v3) rfl (by kernel_rfl) (by kernel_rfl) (by kernel_rfl) (fun _ _ _ h => h) (Or.inl ⟨by rfl, ?hy3⟩) ?rs3
            case hy3 => (intro W hW; go_simp; try with_reducible rfl)
            try simp only [Act.put, List.setIfInBounds_toArray, List.set_cons_zero, List.set_cons_succ]
            refine wpAnyF_pure (i := 3) (oi := { dst := some 27, op := Op.move (Go.Operand.tmp 9), type := 3, pos := "field.go:23", after := #[{ on := 15, ground := Ground.gcOnly Go.Departure.lateStores }], guard := none }) (v := ?v4) rfl (by kernel_rfl) (by kernel_rfl) (by kernel_rfl) (fun _ _ _ h => h) (Or.inl ⟨by rfl, ?hy4⟩) ?rs4
            case hy4 => (intro W hW; go_simp; try with_reducible rfl)
            try simp only [Act.put, List.setIfInBounds_toArray, List.set_cons_zero, List.set_cons_succ]
            refine wpAnyF_pure (i := 4) (oi := { dst := some 28, op := Op.binOp Go.BinOp.sub 3 (Go.Operand.const (Go.Value.int Go.IntKind.i64 7)) (Go.Operand.tmp 27) 3, type := 3, pos := "field.go:23", after := #[{ on := 3, ground := Ground.data }, { on := 15, ground := Ground.gcOnly Go.Departure.lateStores }], guard := none }) (v := ?v5) rfl (by kernel_rfl) (by kernel_rfl) (by kernel_rfl) (fun _ _ _ h => h) (Or.inl ⟨by rfl, ?hy5⟩) ?rs5
            case hy5 => (intro W hW; go_simp; try with_reducible rfl)
            try simp only [Act.put, List.setIfInBounds_toArray, List.set_cons_zero, List.set_cons_succ]
            refine wpAnyF_pure (i := 5) (oi := { dst := some 29, op := Op.move (Go.Operand.tmp 8), type := 49, pos := "field.go:23", after := #[], guard := none }) (v := ?v6) rfl (by kernel_rfl) (by kernel_rfl) (by kernel_rfl) (fun _ _ _ h => h) (Or.inl ⟨by rfl, ?hy6⟩) ?rs6
            case hy6 => (intro W hW; go_simp; try with_reducible rfl)
            try simp only [Act.put, List.setIfInBounds_toArray, List.set_cons_zero, List.set_cons_succ]
            refine wpAnyF_pure (i := 6) (oi := { dst := some 30, op := Op.move (Go.Operand.tmp 9), type := 3, pos := "field.go:23", after := #[], guard := none }) (v := ?v7) rfl (by kernel_rfl) (by kernel_rfl) (by kernel_rfl) (fun _ _ _ h => h) (Or.inl ⟨by rfl, ?hy7⟩) ?rs7
            case hy7 => (intro W hW; go_simp; try with_reducible rfl)
            try simp only [Act.put, List.setIfInBounds_toArray, List.set_cons_zero, List.set_cons_succ]
            refine wpAnyF_pure (i := 7) (oi := { dst := some 31, op := Op.binOp Go.BinOp.sub 3 (Go.Operand.const (Go.Value.int Go.IntKind.i64 7)) (Go.Operand.tmp 30) 3, type := 3, pos := "field.go:23", after := #[{ on := 6, ground := Ground.data }], guard := none }) (v := ?v8) rfl (by kernel_rfl) (by kernel_rfl) (by kernel_rfl) (fun _ _ _ h => h) (Or.inl ⟨by rfl, ?hy8⟩) ?rs8
            case hy8 => (intro W hW; go_simp; try with_reducible rfl)
            try simp only [Act.put, List.setIfInBounds_toArray, List.set_cons_zero, List.set_cons_succ]
            refine wpAnyF_pure (i := 8) (oi := { dst := some 32, op := Op.indexAddr 49 (Go.Operand.tmp 29) (Go.Operand.tmp 31), type := 0, pos := "field.go:23", after := #[{ on := 5, ground := Ground.data }, { on := 7, ground := Ground.data }], guard := none }) (v := ?v9) rfl (by kernel_rfl) (by kernel_rfl) (by kernel_rfl) (fun _ _ _ h => h) (Or.inl ⟨by rfl, ?hy9⟩) ?rs9
            case hy9 => (intro W hW; go_simp; try with_reducible rfl)
            try simp only [Act.put, List.setIfInBounds_toArray, List.set_cons_zero, List.set_cons_succ]
            refine wpAnyF_take (i := 9) (oi := { dst := some 33, op := Op.load 4 (Go.Operand.tmp 32), type := 4, pos := "field.go:23", after := #[{ on := 8, ground := Ground.data }], guard := none }) (v := ?v10) rfl (by kernel_rfl) (by kernel_rfl) (by kernel_rfl) (by decide) (by kernel_rfl) (fun _ _ _ h => h) (Or.inl ⟨by rfl, ?hy10⟩) ?rs10
            case hy10 => (intro W hW; obtain ⟨m0, m1⟩ := hcl.out W (hB.trans hW); go_simp; try with_reducible rfl)
            try simp only [Act.put, List.setIfInBounds_toArray, List.set_cons_zero, List.set_cons_succ]
            refine wpAnyF_pure (i := 10) (oi := { dst := some 34, op := Op.move (Go.Operand.tmp 8), type := 49, pos := "field.go:23", after := #[], guard := none }) (v := ?v11) rfl (by kernel_rfl) (by kernel_rfl) (by kernel_rfl) (fun _ _ _ h => h) (Or.inl ⟨by rfl, ?hy11⟩) ?rs11
            case hy11 => (intro W hW; go_simp; try with_reducible rfl)
            try simp only [Act.put, List.setIfInBounds_toArray, List.set_cons_zero, List.set_cons_succ]
            refine wpAnyF_pure (i := 11) (oi := { dst := some 35, op := Op.move (Go.Operand.tmp 9), type := 3, pos := "field.go:23", after := #[], guard := none }) (v := ?v12) rfl (by kernel_rfl) (by kernel_rfl) (by kernel_rfl) (fun _ _ _ h => h) (Or.inl ⟨by rfl, ?hy12⟩) ?rs12
            case hy12 => (intro W hW; go_simp; try with_reducible rfl)
            try simp only [Act.put, List.setIfInBounds_toArray, List.set_cons_zero, List.set_cons_succ]
            refine wpAnyF_pure (i := 12) (oi := { dst := some 36, op := Op.indexAddr 49 (Go.Operand.tmp 34) (Go.Operand.tmp 35), type := 0, pos := "field.go:23", after := #[{ on := 10, ground := Ground.data }, { on := 11, ground := Ground.data }], guard := none }) (v := ?v13) rfl (by kernel_rfl) (by kernel_rfl) (by kernel_rfl) (fun _ _ _ h => h) (Or.inl ⟨by rfl, ?hy13⟩) ?rs13
            case hy13 => (intro W hW; go_simp; try with_reducible rfl)
            try simp only [Act.put, List.setIfInBounds_toArray, List.set_cons_zero, List.set_cons_succ]
            refine wpAnyF_take (i := 13) (oi := { dst := some 37, op := Op.load 4 (Go.Operand.tmp 36), type := 4, pos := "field.go:23", after := #[{ on := 12, ground := Ground.data }], guard := none }) (v := ?v14) rfl (by kernel_rfl) (by kernel_rfl) (by kernel_rfl) (by decide) (by kernel_rfl) (fun _ _ _ h => h) (Or.inl ⟨by rfl, ?hy14⟩) ?rs14
            case hy14 => (intro W hW; obtain ⟨m0, m1⟩ := hcl.out W (hB.trans hW); go_simp; try with_reducible rfl)
            try simp only [Act.put, List.setIfInBounds_toArray, List.set_cons_zero, List.set_cons_succ]
            refine wpAnyF_pure (i := 14) (oi := { dst := some 38, op := Op.indexAddr 49 (Go.Operand.tmp 24) (Go.Operand.tmp 25), type := 0, pos := "field.go:23", after := #[{ on := 0, ground := Ground.data }, { on := 1, ground := Ground.data }, { on := 0, ground := Ground.phase }, { on := 1, ground := Ground.phase }, { on := 2, ground := Ground.textOnly Go.Departure.lateStores }, { on := 3, ground := Ground.textOnly Go.Departure.lateStores }, { on := 4, ground := Ground.textOnly Go.Departure.lateStores }, { on := 5, ground := Ground.phase }, { on := 6, ground := Ground.phase }, { on := 7, ground := Ground.phase }, { on := 8, ground := Ground.phase }, { on := 9, ground := Ground.phase }, { on := 10, ground := Ground.textOnly Go.Departure.lateStores }, { on := 11, ground := Ground.textOnly Go.Departure.lateStores }, { on := 12, ground := Ground.textOnly Go.Departure.lateStoresUnsure }, { on := 13, ground := Ground.phase }], guard := none }) (v := ?v15) rfl (by kernel_rfl) (by kernel_rfl) (by kernel_rfl) (fun _ _ _ h => h) (Or.inl ⟨by rfl, ?hy15⟩) ?rs15
            case hy15 => (intro W hW; go_simp; try with_reducible rfl)
            try simp only [Act.put, List.setIfInBounds_toArray, List.set_cons_zero, List.set_cons_succ]
            refine wpAnyF_last (i := 15) (o := { dst := none, op := Op.store 4 (Go.Operand.tmp 38) (Go.Operand.tmp 33), type := 0, pos := "field.go:23", after := #[{ on := 14, ground := Ground.data }, { on := 9, ground := Ground.data }, { on := 0, ground := Ground.phase }, { on := 1, ground := Ground.phase }, { on := 2, ground := Ground.textOnly Go.Departure.lateStores }, { on := 3, ground := Ground.textOnly Go.Departure.lateStores }, { on := 4, ground := Ground.textOnly Go.Departure.lateStores }, { on := 5, ground := Ground.phase }, { on := 6, ground := Ground.phase }, { on := 7, ground := Ground.phase }, { on := 8, ground := Ground.phase }, { on := 9, ground := Ground.phase }, { on := 10, ground := Ground.textOnly Go.Departure.lateStores }, { on := 11, ground := Ground.textOnly Go.Departure.lateStores }, { on := 12, ground := Ground.textOnly Go.Departure.lateStoresUnsure }, { on := 13, ground := Ground.phase }], guard := none }) (by kernel_rfl) rfl (by decide) (fun K hK => ?_)
            go_simp
            refine hK.out _ _ ?_
            clear hK K
            try simp only [Act.put, List.setIfInBounds_toArray, List.set_cons_zero, List.set_cons_succ]
            refine wpAnyF_pure (i := 16) (oi := { dst := some 39, op := Op.indexAddr 49 (Go.Operand.tmp 26) (Go.Operand.tmp 28), type := 0, pos := "field.go:23", after := #[{ on := 2, ground := Ground.data }, { on := 4, ground := Ground.data }, { on := 0, ground := Ground.phase }, { on := 1, ground := Ground.phase }, { on := 2, ground := Ground.phase }, { on := 3, ground := Ground.phase }, { on := 4, ground := Ground.phase }, { on := 5, ground := Ground.phase }, { on := 6, ground := Ground.phase }, { on := 7, ground := Ground.phase }, { on := 8, ground := Ground.phase }, { on := 9, ground := Ground.phase }, { on := 10, ground := Ground.phase }, { on := 11, ground := Ground.phase }, { on := 12, ground := Ground.phase }, { on := 13, ground := Ground.phase }, { on := 14, ground := Ground.phase }, { on := 15, ground := Ground.phase }], guard := none }) (v := ?v16) rfl (by kernel_rfl) (by kernel_rfl) (by kernel_rfl) (fun _ _ _ h => h) (Or.inl ⟨by rfl, ?hy16⟩) ?rs16
            case hy16 => (intro W hW; go_simp; try with_reducible rfl)
            try simp only [Act.put, List.setIfInBounds_toArray, List.set_cons_zero, List.set_cons_succ]
            refine wpAnyF_last (i := 17) (o := { dst := none, op := Op.store 4 (Go.Operand.tmp 39) (Go.Operand.tmp 37), type := 0, pos := "field.go:23", after := #[{ on := 16, ground := Ground.data }, { on := 13, ground := Ground.data }, { on := 15, ground := Ground.chain }, { on := 0, ground := Ground.phase }, { on := 1, ground := Ground.phase }, { on := 2, ground := Ground.phase }, { on := 3, ground := Ground.phase }, { on := 4, ground := Ground.phase }, { on := 5, ground := Ground.phase }, { on := 6, ground := Ground.phase }, { on := 7, ground := Ground.phase }, { on := 8, ground := Ground.phase }, { on := 9, ground := Ground.phase }, { on := 10, ground := Ground.phase }, { on := 11, ground := Ground.phase }, { on := 12, ground := Ground.phase }, { on := 13, ground := Ground.phase }, { on := 14, ground := Ground.phase }, { on := 15, ground := Ground.phase }], guard := none }) (by kernel_rfl) rfl (by decide) (fun K hK => ?_)
            generalize (w2.setCell ⟨g, j, none⟩ (.bool z)) = w8 at *
            go_simp
            refine hK.out _ _ ?_
            clear hK K
            try simp only [Act.put, List.setIfInBounds_toArray, List.set_cons_zero, List.set_cons_succ]
            refine wpAnyF_done (by kernel_rfl) ?_
            clear hcl k2 f0 f1 hc1 hc2
            go_wp2
            go_roundw
            case rel => exact ⟨j + 1, by omega, by go_num, by rw [← HN'.out]; exact HP.out.below (Below.refl _ _).drew, grownBy_then (grownBy_then hg2 hgP) (grownBy_belowF (Below.refl _ _).drew)⟩
            case measure => simp [intOf] <;> omega
          · obtain rfl : j = 4 := by omega
            rw [HSW.out] at ho2
            have hr2 := ho2.rd
            have hl8 : (bitsOf 8 x).reverse.length = 8 := by rw [List.length_reverse, hR]
            have hbl2 : Below w.heap.size w w2 := below_grown hbl hg2 (by have := hw0; omega) hbl.size
            have ho3 := Ho.out.keep hg2 (fun j hj => fun e => hob2 j hj (by injection e))
            have HTT : Hid (rowF false (l.take (k + 1)) = acc ++ (bitsOf 8 x).reverse) := HT.out
            clear HT Ho HSW ho2
            generalize (bitsOf 8 x).reverse = T at *
            go_wp2_with (at_builtin; go_must (refine wpList_apM Value.bool _ elBool rfl rfl one_bool w.heap.size _ _ rfl ho3 (some ⟨g, 0, none⟩) 8 c1 T rfl hr2 (hbl2.size) (by omega) (by decide) ?_; intro v5 w5 ho5 hm5))
            go_roundw
            case rel => exact ⟨k + 1, by omega, by go_num, by rw [HTT.out]; exact ho5, hm5.below hbl2 hbl2.size ho3.block⟩
            case measure => simp [intOf] <;> omega
      · have hr2 := ho1.rd
        have hR : (bitsOf 8 x).length = 8 := bitsOf_length 8 x
        have HTT : Hid (rowF true (l.take (k + 1)) = acc ++ bitsOf 8 x) := HT.out
        clear HT ho1
        generalize bitsOf 8 x = T at *
        go_wp2_with (at_builtin; go_must (refine wpList_apM Value.bool _ elBool rfl rfl one_bool w.heap.size _ _ rfl ho (some ⟨g, 0, none⟩) 8 c1 T rfl hr2 (hbl.size) (by omega) (by decide) ?_; intro v5 w5 ho5 hm5))
        go_roundw
        case rel => exact ⟨k + 1, by omega, by go_num, by rw [HTT.out]; exact ho5, hm5.below hbl hbl.size ho.block⟩
        case measure => simp [intOf] <;> omega
    · obtain rfl : k = n := by omega
      rw [List.take_of_length_le (by rw [Hl.out]; exact Nat.le_refl _)] at ho
      go_wp2
      go_ret
      exact ⟨_, rfl, ho, hbl⟩
end Go.Proofs.Ytldkmopkakdgnaa
