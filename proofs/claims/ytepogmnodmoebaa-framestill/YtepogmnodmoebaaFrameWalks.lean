/-
  Contracts of frame's functions Wrong, Plain, Write, parse and Read.
-/
import Derived.Test.YtepogmnodmoebaaBitWalks4
import Derived.Test.YtepogmnodmoebaaStuffWalks
import Derived.Test.YtepogmnodmoebaaCrcWalks
import Derived.Test.YtepogmnodmoebaaFrameMath
import Derived.Test.YtepogmnodmoebaaRegion
namespace Go.Proofs.Ytepogmnodmoebaa
open Go.RowKit
set_option linter.unusedVariables false
set_option linter.unusedSimpArgs false

/-- A frame as a value. -/
abbrev frameV (id : Int) (A : Option Addr) (n c : Nat) : Value := .agg #[.int .i64 id, .slice A n c]

theorem Wrong_any (id : Int) (A : Option Addr) (n c : Nat) (w : World) (hn : n ≤ 9223372036854775807) :
    Calls Try.prog 14 #[frameV id A n c] w fun e w' => e = .returned (.int .i64 (wrongM id n)) ∧ Below w.heap.size w w' := by
  unfold wrongM FrameOk
  go_enter Try.func14, Try.ntmps14
  go_wp2
  all_goals
    go_ret
    exact ⟨rfl, (Below.refl _ _).alloc (Nat.le_refl _) _⟩

theorem headerWidths_any (w : World) :
    Calls Try.prog 22 #[] w fun e w' => e = .returned (.slice (some ⟨w.heap.size, 0, none⟩) 4 4) ∧ w' = w.alloc (.cells (([1, 11, 3, 4] : List Int).map (Value.int .i64)).toArray 3) := by
  go_enter Try.func22, Try.ntmps22
  go_wp2
  go_ret
  exact ⟨rfl, rfl⟩

set_option maxHeartbeats 1000000 in
theorem Plain_ok (id : Int) (A : Option Addr) (n c : Nat) (l : List Int) (w : World) (h : Rd w 1 A n (l.map (Value.int .u8))) (hb : Byte8 l) (hf : FrameOk id n) :
    Calls Try.prog 8 #[frameV id A n c] w fun e w' => ∃ v, e = .returned (.tuple #[v, .int .i64 0]) ∧ Ow Value.bool w' w.heap.size 4 v (rowM id l) ∧ Below w.heap.size w w' := by
  have Hl := Lib.hid h.lenMap
  have hn8 := hf.2.2
  go_enter Try.func8, Try.ntmps8
  go_wp2_with fail
  refine (Wrong_any id A n c _ (by omega)).mono ?_
  rintro e w1 ⟨rfl, hb1⟩
  have hbx : Box w1 w.heap.size 24 [.int .i64 id, .slice A n c] := (Box.new w _ _).below hb1 (by simp)
  have c0 := Box.cell hbx 0 rfl
  have c1 := Box.cell hbx 1 rfl
  have hlt := hbx.lt
  rw [wrong_ok hf]
  go_wp2_with fail
  refine wp_region_B (by kernel_rfl) ?_
  refine wpAnyB_take (i := 1) (oi := { dst := some 14, op := Op.fieldAddr 24 (Go.Operand.tmp 1) 0, type := 0, pos := "frame.go:34", after := #[], guard := none }) (v := ?v1) rfl (by kernel_rfl) (by kernel_rfl) (by kernel_rfl) (fun _ _ _ h => h) (Or.inl ⟨by rfl, ?hy1⟩) ?rs1
  case hy1 => (intro W hW; go_simp; try with_reducible rfl)
  try simp only [Act.put, List.setIfInBounds_toArray, List.set_cons_zero, List.set_cons_succ]
  refine wpAnyB_take (i := 2) (oi := { dst := some 15, op := Op.load 3 (Go.Operand.tmp 14), type := 3, pos := "frame.go:34", after := #[{ on := 1, ground := Ground.data }], guard := none }) (v := ?v2) rfl (by kernel_rfl) (by kernel_rfl) (by kernel_rfl) (fun _ _ _ h => h) (Or.inl ⟨by rfl, ?hy2⟩) ?rs2
  case hy2 => (intro W hW; have c0' := hW.cell (p := ⟨w.heap.size, 0, none⟩) hlt; rw [show w1.drew.cell? _ = _ from c0] at c0'; go_simp; try with_reducible rfl)
  try simp only [Act.put, List.setIfInBounds_toArray, List.set_cons_zero, List.set_cons_succ]
  refine wpAnyB_take (i := 3) (oi := { dst := some 16, op := Op.fieldAddr 24 (Go.Operand.tmp 1) 1, type := 0, pos := "frame.go:34", after := #[], guard := none }) (v := ?v3) rfl (by kernel_rfl) (by kernel_rfl) (by kernel_rfl) (fun _ _ _ h => h) (Or.inl ⟨by rfl, ?hy3⟩) ?rs3
  case hy3 => (intro W hW; go_simp; try with_reducible rfl)
  try simp only [Act.put, List.setIfInBounds_toArray, List.set_cons_zero, List.set_cons_succ]
  refine wpAnyB_take (i := 4) (oi := { dst := some 17, op := Op.load 22 (Go.Operand.tmp 16), type := 22, pos := "frame.go:34", after := #[{ on := 3, ground := Ground.data }], guard := none }) (v := ?v4) rfl (by kernel_rfl) (by kernel_rfl) (by kernel_rfl) (fun _ _ _ h => h) (Or.inl ⟨by rfl, ?hy4⟩) ?rs4
  case hy4 => (intro W hW; have c1' := hW.cell (p := ⟨w.heap.size, 1, none⟩) hlt; rw [show w1.drew.cell? _ = _ from c1] at c1'; go_simp; try with_reducible rfl)
  try simp only [Act.put, List.setIfInBounds_toArray, List.set_cons_zero, List.set_cons_succ]
  refine wpAnyB_take (i := 5) (oi := { dst := some 18, op := Op.call { callee := Callee.builtin Builtin.len, args := #[Go.Operand.tmp 17], argTypes := #[22] }, type := 3, pos := "frame.go:34", after := #[{ on := 4, ground := Ground.data }], guard := none }) (v := ?v5) rfl (by kernel_rfl) (by kernel_rfl) (by kernel_rfl) (fun _ _ _ h => h) (Or.inl ⟨by rfl, ?hy5⟩) ?rs5
  case hy5 => (intro W hW; go_simp; try with_reducible rfl)
  try simp only [Act.put, List.setIfInBounds_toArray, List.set_cons_zero, List.set_cons_succ]
  refine wpAnyB_two (i := 0) (j := 6) (oi := { dst := some 13, op := Op.call { callee := Callee.value (Go.Operand.func 22), args := #[], argTypes := #[] }, type := 42, pos := "frame.go:34", after := #[], guard := none }) (oj := { dst := some 19, op := Op.buildSlice 42 4 #[(0, Go.Operand.const (Go.Value.int Go.IntKind.i64 0)), (1, Go.Operand.tmp 15), (2, Go.Operand.const (Go.Value.int Go.IntKind.i64 0)), (3, Go.Operand.tmp 18)], type := 42, pos := "frame.go:34", after := #[{ on := 2, ground := Ground.data }, { on := 5, ground := Ground.data }], guard := none }) (by kernel_rfl) rfl rfl (fun K hK => ?_) (fun K hK => ?_)
  go_simp
  refine (headerWidths_any _).mono ?_; rintro e w2 ⟨rfl, rfl⟩
  refine hK.out _ _ ((Below.refl _ _).alloc (Nat.le_refl _) _) ?_
  clear hK K
  try simp only [Act.put, List.setIfInBounds_toArray, List.set_cons_zero, List.set_cons_succ]
  refine wpAnyB_one (i := 6) (o := { dst := some 19, op := Op.buildSlice 42 4 #[(0, Go.Operand.const (Go.Value.int Go.IntKind.i64 0)), (1, Go.Operand.tmp 15), (2, Go.Operand.const (Go.Value.int Go.IntKind.i64 0)), (3, Go.Operand.tmp 18)], type := 42, pos := "frame.go:34", after := #[{ on := 2, ground := Ground.data }, { on := 5, ground := Ground.data }], guard := none }) (by kernel_rfl) rfl (fun K hK => ?_)
  go_simp
  refine hK.out _ _ ((Below.refl _ _).alloc (Nat.le_refl _) _) ?_
  clear hK K
  try simp only [Act.put, List.setIfInBounds_toArray, List.set_cons_zero, List.set_cons_succ]
  refine wpAnyB_one (i := 7) (o := { dst := some 20, op := Op.call { callee := Callee.value (Go.Operand.func 21), args := #[Go.Operand.tmp 13, Go.Operand.tmp 19], argTypes := #[42, 42] }, type := 27, pos := "frame.go:34", after := #[{ on := 0, ground := Ground.data }, { on := 6, ground := Ground.data }, { on := 0, ground := Ground.chain }], guard := none }) (by kernel_rfl) rfl (fun K hK => ?_)
  go_simp
  refine (Pack_any _ _ 4 4 4 [1, 11, 3, 4] [0, id, 0, (n : Int)] _ ?_ ?_ (by decide)).mono ?_; (first | exact Rd.litAt _ _ _ (by simp) | exact (Rd.litAt _ _ _ (by simp)).alloc _); (first | exact Rd.litAt _ _ _ (by simp) | exact (Rd.litAt _ _ _ (by simp)).alloc _); rw [pack_row id n hf]; rintro e w3 ⟨v3, rfl, ho3, hbk⟩; have hb3 := bthen (Below.refl _ w1).drew (below_new (below_new hbk))
  refine hK.out _ _ hbk ?_
  clear hK K
  try simp only [Act.put, List.setIfInBounds_toArray, List.set_cons_zero, List.set_cons_succ]
  refine wpAnyB_take (i := 8) (oi := { dst := some 12, op := Op.move (Go.Operand.tmp 20), type := 27, pos := "frame.go:34", after := #[{ on := 7, ground := Ground.data }], guard := none }) (v := ?v6) rfl (by kernel_rfl) (by kernel_rfl) (by kernel_rfl) (fun _ _ _ h => h) (Or.inl ⟨by rfl, ?hy6⟩) ?rs6
  case hy6 => (intro W hW; go_simp; try with_reducible rfl)
  try simp only [Act.put, List.setIfInBounds_toArray, List.set_cons_zero, List.set_cons_succ]
  refine wpAnyB_take (i := 9) (oi := { dst := some 21, op := Op.extract (Go.Operand.tmp 12) 0, type := 25, pos := "frame.go:34", after := #[{ on := 8, ground := Ground.data }], guard := none }) (v := ?v7) rfl (by kernel_rfl) (by kernel_rfl) (by kernel_rfl) (fun _ _ _ h => h) (Or.inl ⟨by rfl, ?hy7⟩) ?rs7
  case hy7 => (intro W hW; go_simp; try with_reducible rfl)
  try simp only [Act.put, List.setIfInBounds_toArray, List.set_cons_zero, List.set_cons_succ]
  refine wpAnyB_take (i := 10) (oi := { dst := some 22, op := Op.extract (Go.Operand.tmp 12) 1, type := 26, pos := "frame.go:34", after := #[{ on := 8, ground := Ground.data }, { on := 11, ground := Ground.gcOnly Go.Departure.lateStores }], guard := none }) (v := ?v8) rfl (by kernel_rfl) (by kernel_rfl) (by kernel_rfl) (fun _ _ _ h => h) (Or.inl ⟨by rfl, ?hy8⟩) ?rs8
  case hy8 => (intro W hW; go_simp; try with_reducible rfl)
  try simp only [Act.put, List.setIfInBounds_toArray, List.set_cons_zero, List.set_cons_succ]
  refine wpAnyB_take (i := 11) (oi := { dst := some 5, op := Op.assign (Go.Operand.tmp 21), type := 25, pos := "frame.go:34", after := #[{ on := 9, ground := Ground.data }, { on := 7, ground := Ground.chain }, { on := 0, ground := Ground.phase }, { on := 1, ground := Ground.phase }, { on := 2, ground := Ground.phase }, { on := 3, ground := Ground.phase }, { on := 4, ground := Ground.phase }, { on := 5, ground := Ground.phase }, { on := 6, ground := Ground.phase }, { on := 7, ground := Ground.phase }, { on := 8, ground := Ground.phase }, { on := 9, ground := Ground.phase }, { on := 10, ground := Ground.textOnly Go.Departure.lateStores }], guard := none }) (v := ?v9) rfl (by kernel_rfl) (by kernel_rfl) (by kernel_rfl) (fun _ _ _ h => h) (Or.inl ⟨by rfl, ?hy9⟩) ?rs9
  case hy9 => (intro W hW; go_simp; try with_reducible rfl)
  try simp only [Act.put, List.setIfInBounds_toArray, List.set_cons_zero, List.set_cons_succ]
  refine wpAnyB_take (i := 12) (oi := { dst := some 6, op := Op.assign (Go.Operand.tmp 22), type := 26, pos := "frame.go:34", after := #[{ on := 10, ground := Ground.data }, { on := 11, ground := Ground.chain }, { on := 0, ground := Ground.phase }, { on := 1, ground := Ground.phase }, { on := 2, ground := Ground.phase }, { on := 3, ground := Ground.phase }, { on := 4, ground := Ground.phase }, { on := 5, ground := Ground.phase }, { on := 6, ground := Ground.phase }, { on := 7, ground := Ground.phase }, { on := 8, ground := Ground.phase }, { on := 9, ground := Ground.phase }, { on := 10, ground := Ground.phase }, { on := 11, ground := Ground.phase }], guard := none }) (v := ?v10) rfl (by kernel_rfl) (by kernel_rfl) (by kernel_rfl) (fun _ _ _ h => h) (Or.inl ⟨by rfl, ?hy10⟩) ?rs10
  case hy10 => (intro W hW; go_simp; try with_reducible rfl)
  try simp only [Act.put, List.setIfInBounds_toArray, List.set_cons_zero, List.set_cons_succ]
  refine wpAnyB_done (by kernel_rfl) ?_
  rotate_left
  go_simp
  refine hK.out _ _ ((Below.refl _ _).alloc (Nat.le_refl _) _) ?_
  clear hK K
  try simp only [Act.put, List.setIfInBounds_toArray, List.set_cons_zero, List.set_cons_succ]
  refine wpAnyB_one (i := 0) (o := { dst := some 13, op := Op.call { callee := Callee.value (Go.Operand.func 22), args := #[], argTypes := #[] }, type := 42, pos := "frame.go:34", after := #[], guard := none }) (by kernel_rfl) rfl (fun K hK => ?_)
  go_simp
  refine (headerWidths_any _).mono ?_; rintro e w2 ⟨rfl, rfl⟩
  refine hK.out _ _ ((Below.refl _ _).alloc (Nat.le_refl _) _) ?_
  clear hK K
  try simp only [Act.put, List.setIfInBounds_toArray, List.set_cons_zero, List.set_cons_succ]
  refine wpAnyB_one (i := 7) (o := { dst := some 20, op := Op.call { callee := Callee.value (Go.Operand.func 21), args := #[Go.Operand.tmp 13, Go.Operand.tmp 19], argTypes := #[42, 42] }, type := 27, pos := "frame.go:34", after := #[{ on := 0, ground := Ground.data }, { on := 6, ground := Ground.data }, { on := 0, ground := Ground.chain }], guard := none }) (by kernel_rfl) rfl (fun K hK => ?_)
  go_simp
  refine (Pack_any _ _ 4 4 4 [1, 11, 3, 4] [0, id, 0, (n : Int)] _ ?_ ?_ (by decide)).mono ?_; (first | exact Rd.litAt _ _ _ (by simp) | exact (Rd.litAt _ _ _ (by simp)).alloc _); (first | exact Rd.litAt _ _ _ (by simp) | exact (Rd.litAt _ _ _ (by simp)).alloc _); rw [pack_row id n hf]; rintro e w3 ⟨v3, rfl, ho3, hbk⟩; have hb3 := bthen (Below.refl _ w1).drew (below_new (below_new hbk))
  refine hK.out _ _ hbk ?_
  clear hK K
  try simp only [Act.put, List.setIfInBounds_toArray, List.set_cons_zero, List.set_cons_succ]
  refine wpAnyB_take (i := 8) (oi := { dst := some 12, op := Op.move (Go.Operand.tmp 20), type := 27, pos := "frame.go:34", after := #[{ on := 7, ground := Ground.data }], guard := none }) (v := ?v11) rfl (by kernel_rfl) (by kernel_rfl) (by kernel_rfl) (fun _ _ _ h => h) (Or.inl ⟨by rfl, ?hy11⟩) ?rs11
  case hy11 => (intro W hW; go_simp; try with_reducible rfl)
  try simp only [Act.put, List.setIfInBounds_toArray, List.set_cons_zero, List.set_cons_succ]
  refine wpAnyB_take (i := 9) (oi := { dst := some 21, op := Op.extract (Go.Operand.tmp 12) 0, type := 25, pos := "frame.go:34", after := #[{ on := 8, ground := Ground.data }], guard := none }) (v := ?v12) rfl (by kernel_rfl) (by kernel_rfl) (by kernel_rfl) (fun _ _ _ h => h) (Or.inl ⟨by rfl, ?hy12⟩) ?rs12
  case hy12 => (intro W hW; go_simp; try with_reducible rfl)
  try simp only [Act.put, List.setIfInBounds_toArray, List.set_cons_zero, List.set_cons_succ]
  refine wpAnyB_take (i := 10) (oi := { dst := some 22, op := Op.extract (Go.Operand.tmp 12) 1, type := 26, pos := "frame.go:34", after := #[{ on := 8, ground := Ground.data }, { on := 11, ground := Ground.gcOnly Go.Departure.lateStores }], guard := none }) (v := ?v13) rfl (by kernel_rfl) (by kernel_rfl) (by kernel_rfl) (fun _ _ _ h => h) (Or.inl ⟨by rfl, ?hy13⟩) ?rs13
  case hy13 => (intro W hW; go_simp; try with_reducible rfl)
  try simp only [Act.put, List.setIfInBounds_toArray, List.set_cons_zero, List.set_cons_succ]
  refine wpAnyB_take (i := 11) (oi := { dst := some 5, op := Op.assign (Go.Operand.tmp 21), type := 25, pos := "frame.go:34", after := #[{ on := 9, ground := Ground.data }, { on := 7, ground := Ground.chain }, { on := 0, ground := Ground.phase }, { on := 1, ground := Ground.phase }, { on := 2, ground := Ground.phase }, { on := 3, ground := Ground.phase }, { on := 4, ground := Ground.phase }, { on := 5, ground := Ground.phase }, { on := 6, ground := Ground.phase }, { on := 7, ground := Ground.phase }, { on := 8, ground := Ground.phase }, { on := 9, ground := Ground.phase }, { on := 10, ground := Ground.textOnly Go.Departure.lateStores }], guard := none }) (v := ?v14) rfl (by kernel_rfl) (by kernel_rfl) (by kernel_rfl) (fun _ _ _ h => h) (Or.inl ⟨by rfl, ?hy14⟩) ?rs14
  case hy14 => (intro W hW; go_simp; try with_reducible rfl)
  try simp only [Act.put, List.setIfInBounds_toArray, List.set_cons_zero, List.set_cons_succ]
  refine wpAnyB_take (i := 12) (oi := { dst := some 6, op := Op.assign (Go.Operand.tmp 22), type := 26, pos := "frame.go:34", after := #[{ on := 10, ground := Ground.data }, { on := 11, ground := Ground.chain }, { on := 0, ground := Ground.phase }, { on := 1, ground := Ground.phase }, { on := 2, ground := Ground.phase }, { on := 3, ground := Ground.phase }, { on := 4, ground := Ground.phase }, { on := 5, ground := Ground.phase }, { on := 6, ground := Ground.phase }, { on := 7, ground := Ground.phase }, { on := 8, ground := Ground.phase }, { on := 9, ground := Ground.phase }, { on := 10, ground := Ground.phase }, { on := 11, ground := Ground.phase }], guard := none }) (v := ?v15) rfl (by kernel_rfl) (by kernel_rfl) (by kernel_rfl) (fun _ _ _ h => h) (Or.inl ⟨by rfl, ?hy15⟩) ?rs15
  case hy15 => (intro W hW; go_simp; try with_reducible rfl)
  try simp only [Act.put, List.setIfInBounds_toArray, List.set_cons_zero, List.set_cons_succ]
  refine wpAnyB_done (by kernel_rfl) ?_
  rotate_left
  all_goals
    replace ho3 := ho3.mono (base' := w.heap.size) (by simp; omega)
    have hbx3 := hbx.below hb3 hlt
    have c1' := Box.cell hbx3 1 rfl
    have hb13 : Below w.heap.size w w3 := bthen (below_new hb1) hb3
    have hs3 := hb13.size
    clear hbk hb3 hb1 c0 c1 hbx
    simp only at ho3
    go_wp2_with fail
    refine (Of_any A n c l _ (h.below hb13) hb (by omega)).mono ?_
    intro e w4 hh
    obtain ⟨A4, c4, rfl, ho4, hb4⟩ := Ow.sl hh
    have hs4 := hb4.size
    go_wp2_with (at_builtin; go_must (refine wpList_apM Value.bool _ elBool rfl rfl one_bool w.heap.size _ _ rfl (ho3.below hb4) A4 _ c4 _ rfl ho4.rd (by omega) (by rw [ofBytes_length, Hl.out]; simp [bitsOf_length]; omega) (by decide) ?_; intro v5 w5 ho5 hm5))
    go_ret2
    have e : rowM id l = false :: (bitsOf 11 id ++ false :: false :: false :: bitsOf 4 n) ++ ofBytes l := by simp [rowM, Hl.out]
    rw [e]
    exact ⟨_, rfl, ho5, hm5.below (bthen hb13 hb4) (by omega) ho3.block⟩

set_option maxHeartbeats 400000 in
theorem Plain_bad (id : Int) (A : Option Addr) (n c : Nat) (w : World) (hf : ¬ FrameOk id n) (hn : n ≤ 9223372036854775807) :
    Calls Try.prog 8 #[frameV id A n c] w fun e w' => e = .returned (.tuple #[.slice none 0 0, .int .i64 2]) ∧ Below w.heap.size w w' := by
  go_enter Try.func8, Try.ntmps8
  go_wp2_with fail
  refine (Wrong_any id A n c _ hn).mono ?_
  rintro e w1 ⟨rfl, hb1⟩
  rw [wrong_bad hf]
  clear hf
  go_wp2
  go_ret2
  exact ⟨rfl, below_new hb1⟩

set_option maxHeartbeats 400000 in
theorem Write_ok (id : Int) (A : Option Addr) (n c : Nat) (l : List Int) (w : World) (h : Rd w 1 A n (l.map (Value.int .u8))) (hb : Byte8 l) (hf : FrameOk id n) :
    Calls Try.prog 10 #[frameV id A n c] w fun e w' => ∃ v, e = .returned (.tuple #[v, .int .i64 0]) ∧ Ow Value.bool w' w.heap.size 4 v (sentM id l) ∧ Below w.heap.size w w' := by
  have hn8 := hf.2.2
  have hrl := row_length id l
  have hsl := sealM_length (rowM id l)
  rw [hrl, h.lenMap] at hsl
  rw [h.lenMap] at hrl
  go_enter Try.func10, Try.ntmps10
  go_wp2_with fail
  refine (Plain_ok id A n c l _ (h.alloc _) hb hf).mono ?_
  rintro e w1 ⟨v1, rfl, ho1, hb1⟩
  obtain ⟨A1, c1, hv, _⟩ := ho1.form
  rw [hrl] at hv
  subst hv
  have hr1 := ho1.rd
  have hs1 := hb1.size
  replace hb1 := below_new hb1
  clear ho1 hrl h
  go_wp2_with fail
  refine (Seal_any A1 (19 + 8 * n) c1 (rowM id l) _ hr1 (by omega)).mono ?_
  rintro e w2 ⟨v2, rfl, ho2, hb2⟩
  obtain ⟨A2, c2, hv, _⟩ := ho2.form
  rw [hsl] at hv
  subst hv
  have hr2 := ho2.rd
  clear ho2 hsl hr1
  go_wp2_with fail
  refine (Stuff_any A2 (19 + 8 * n + 15) c2 _ _ hr2 (by omega)).mono ?_
  rintro e w3 ⟨v3, rfl, ho3, hb3⟩
  have hs2 := hb2.size
  go_wp2
  go_ret2
  exact ⟨_, rfl, ho3.mono (by simp at hs1; omega), bthen (bthen hb1 hb2) hb3⟩

set_option maxHeartbeats 400000 in
theorem Write_bad (id : Int) (A : Option Addr) (n c : Nat) (w : World) (hf : ¬ FrameOk id n) (hn : n ≤ 9223372036854775807) :
    Calls Try.prog 10 #[frameV id A n c] w fun e w' => e = .returned (.tuple #[.slice none 0 0, .int .i64 2]) ∧ Below w.heap.size w w' := by
  go_enter Try.func10, Try.ntmps10
  go_wp2_with fail
  refine (Plain_bad id A n c _ hf hn).mono ?_
  rintro e w1 ⟨rfl, hb1⟩
  clear hf
  go_wp2
  go_ret2
  exact ⟨rfl, below_new hb1⟩
end Go.Proofs.Ytepogmnodmoebaa
