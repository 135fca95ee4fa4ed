/-
  Contracts of rms's numbers of 256 bits: plus, times, over, common, exceeds, isGreat, number. No statement of the seat is here.
-/
import Derived.Test.YtajfohnblmnjjaaJ1
import Derived.Test.YtajfohnblmnjjaaBox
import Derived.Test.YtajfohnblmnjjaaRegionF
import Derived.Test.YtajfohnblmnjjaaTypes
import Derived.BigRegion
import Derived.Deep.CutBlock
import Derived.Deep.DeepCutAuto
import Derived.BigQuiet
import Derived.Deep.QuietTactic
namespace Go.Proofs.Ytajfohnblmnjjaa
open Go.RowKit
set_option linter.unusedVariables false
set_option maxRecDepth 20000

theorem wordsV_len (L : List Nat) : (wordsV L).length = L.length := by simp [wordsV]
theorem wordsV_at {L : List Nat} {k d : Nat} (h : L[k]? = some d) : (wordsV L)[k]? = some (wordV d) := by simp [wordsV, h]
theorem wordsV_set (L : List Nat) (k d : Nat) : (wordsV L).set k (wordV d) = wordsV (L.set k d) := by simp [wordsV, List.map_set]
theorem set_front {D A : List Nat} {k : Nat} (hD : D.length = k) (hk : k < A.length) (d : Nat) : (D ++ A.drop k).set k d = (D ++ [d]) ++ A.drop (k + 1) := by
  rw [List.set_append_right _ _ (by omega), hD, Nat.sub_self, List.drop_eq_getElem_cons hk, List.set_cons_zero]; simp
theorem at_front {D A : List Nat} {k x : Nat} (hD : D.length = k) (hx : A[k]? = some x) : (D ++ A.drop k)[k]? = some x := by
  rw [List.getElem?_append_right (by omega), hD, Nat.sub_self, List.getElem?_drop]; simpa using hx
/-- Block b holds four words. -/
def WBox (w : World) (b : Nat) (L : List Nat) : Prop := Box w b 47 (wordsV L)
theorem WBox.cell {w : World} {b : Nat} {L : List Nat} (h : WBox w b L) {k d : Nat} (hk : L[k]? = some d) : w.cell? ⟨b, k, none⟩ = some (wordV d) := Box.cell h k (wordsV_at hk)
theorem WBox.free {w : World} {b : Nat} {L : List Nat} (h : WBox w b L) (k : Nat) : w.frozen? ⟨b, k, none⟩ = false := Box.free h k
theorem WBox.put {w : World} {b k : Nat} {L : List Nat} (h : WBox w b L) (d : Nat) : WBox (w.setCell ⟨b, k, none⟩ (wordV d)) b (L.set k d) := by
  have := Box.set h k (wordV d)
  rw [wordsV_set] at this
  exact this
theorem WBox.grown {w w' : World} {b : Nat} {L : List Nat} {row : Option Nat} (h : WBox w b L) (hg : w.grownBy w' row) (hne : some b ≠ row) : WBox w' b L := Box.grown h hg hne
theorem WBox.below {w w' : World} {b B : Nat} {L : List Nat} (h : WBox w b L) (hb : Below B w w') (hB : b < B) : WBox w' b L := Box.below h hb hB
theorem WBox.lt {w : World} {b : Nat} {L : List Nat} (h : WBox w b L) : b < w.heap.size := Box.lt h
/-- All four at once. -/
theorem WBox.four {w : World} {b d0 d1 d2 d3 : Nat} (h : WBox w b [d0, d1, d2, d3]) : w.cell? ⟨b, 0, none⟩ = some (wordV d0) ∧ w.cell? ⟨b, 1, none⟩ = some (wordV d1) ∧ w.cell? ⟨b, 2, none⟩ = some (wordV d2) ∧ w.cell? ⟨b, 3, none⟩ = some (wordV d3) :=
  ⟨h.cell rfl, h.cell rfl, h.cell rfl, h.cell rfl⟩
theorem WBox.frees {w : World} {b : Nat} {L : List Nat} (h : WBox w b L) : w.frozen? ⟨b, 0, none⟩ = false ∧ w.frozen? ⟨b, 1, none⟩ = false ∧ w.frozen? ⟨b, 2, none⟩ = false ∧ w.frozen? ⟨b, 3, none⟩ = false := ⟨h.free 0, h.free 1, h.free 2, h.free 3⟩
theorem WBox.store4 {w : World} {b y0 y1 y2 y3 : Nat} (h : WBox w b [y0, y1, y2, y3]) (x0 x1 x2 x3 : Nat) :
    WBox ((((w.setCell ⟨b, 0, none⟩ (.int .u64 (x0 : Int))).setCell ⟨b, 1, none⟩ (.int .u64 (x1 : Int))).setCell ⟨b, 2, none⟩ (.int .u64 (x2 : Int))).setCell ⟨b, 3, none⟩ (.int .u64 (x3 : Int))) b [x0, x1, x2, x3] := by
  exact (((h.put (k := 0) x0).put (k := 1) x1).put (k := 2) x2).put (k := 3) x3
theorem below4 {w W : World} (h : Below w.heap.size w W) (b : Nat) (v0 v1 v2 v3 : Value) (hb : w.heap.size ≤ b := by omega) : Below w.heap.size w ((((W.setCell ⟨b, 0, none⟩ v0).setCell ⟨b, 1, none⟩ v1).setCell ⟨b, 2, none⟩ v2).setCell ⟨b, 3, none⟩ v3) :=
  (((h.setCell hb _).setCell hb _).setCell hb _).setCell hb _
/-- Three such blocks, made one behind another. -/
structure ThreeW (w W : World) (A B R : List Nat) : Prop where
  a : WBox W w.heap.size A
  b : WBox W (w.heap.size + 1) B
  r : WBox W (w.heap.size + 1 + 1) R
  bl : Below w.heap.size w W
  sz : W.heap.size = w.heap.size + 3
theorem threeW (w : World) (A B R : List Nat) : ThreeW w (((w.alloc (.cells (wordsV A).toArray 47)).alloc (.cells (wordsV B).toArray 47)).alloc (.cells (wordsV R).toArray 47)) A B R := by
  have s1 : (w.alloc (.cells (wordsV A).toArray 47)).heap.size = w.heap.size + 1 := by simp
  have s2 : ((w.alloc (.cells (wordsV A).toArray 47)).alloc (.cells (wordsV B).toArray 47)).heap.size = w.heap.size + 1 + 1 := by simp
  refine ⟨((Box.new w _ _).alloc _).alloc _, ?_, ?_, (((Below.refl _ _).alloc (Nat.le_refl _) _).alloc (by simp) _).alloc (by simp; omega) _, by simp⟩
  · have := (Box.new (w.alloc (.cells (wordsV A).toArray 47)) 47 (wordsV B)).alloc (.cells (wordsV R).toArray 47)
    rw [s1] at this
    exact this
  · have := Box.new ((w.alloc (.cells (wordsV A).toArray 47)).alloc (.cells (wordsV B).toArray 47)) 47 (wordsV R)
    rw [s2] at this
    exact this
theorem ThreeW.putA {w W : World} {A B R : List Nat} (h : ThreeW w W A B R) (k d : Nat) : ThreeW w (W.setCell ⟨w.heap.size, k, none⟩ (wordV d)) (A.set k d) B R :=
  ⟨h.a.put d, h.b.grown (grownBy_setCell _ _ _) (by simp), h.r.grown (grownBy_setCell _ _ _) (by simp; omega), h.bl.setCell (Nat.le_refl _) _, by simp [World.setCell, h.sz]⟩
theorem ThreeW.drew {w W : World} {A B R : List Nat} (h : ThreeW w W A B R) : ThreeW w W.drew A B R := ⟨h.a, h.b, h.r, h.bl.drew, h.sz⟩
theorem ThreeW.drewN {w W : World} {A B R : List Nat} (h : ThreeW w W A B R) (q : Nat) : ThreeW w (W.drewN q) A B R := ⟨h.a, h.b, h.r, bthen h.bl (below_draws ⟨_, rfl⟩), h.sz⟩
set_option maxHeartbeats 800000 in
theorem plus_any (a b : Nat) (hab : a + b < powW 4) (w : World) :
    Calls Try.prog 50 #[wideV a, wideV b] w fun e w' => e = .returned (wideV (a + b)) ∧ Below w.heap.size w w' := by
  have hA := digsW_ok 4 a
  have lA := digsW_len 4 a
  have vA := digsW_v (n := 4) (show a < powW 4 by omega)
  have hB := digsW_ok 4 b
  have lB := digsW_len 4 b
  have vB := digsW_v (n := 4) (show b < powW 4 by omega)
  rw [show wideV a = .agg (wordsV (digsW 4 a)).toArray from rfl, show wideV b = .agg (wordsV (digsW 4 b)).toArray from rfl]
  generalize digsW 4 a = A at *
  generalize digsW 4 b = B at *
  obtain ⟨a0, a1, a2, a3, hAe⟩ := wide_four A lA
  obtain ⟨b0, b1, b2, b3, hBe⟩ := wide_four B lB
  have T0 := threeW w A B [0, 0, 0, 0]
  have e0 : wordsV A = [wordV a0, wordV a1, wordV a2, wordV a3] := by rw [hAe]; rfl
  have e1 : wordsV B = [wordV b0, wordV b1, wordV b2, wordV b3] := by rw [hBe]; rfl
  rw [e0, e1] at T0 ⊢
  have HA := Lib.hid hA
  have HB := Lib.hid hB
  have HV := Lib.hid (And.intro vA vB)
  have HT := Lib.hid T0
  clear hA hB hAe hBe e0 e1 vA vB T0
  go_enter Try.func50, Try.ntmps50
  go_upto_region 3 with fail
  go_loopw [7, 5] (fun i c wr => ∃ (k : Nat) (D : List Nat) (cc : Nat), k ≤ 4 ∧ D.length = k ∧ Wok D ∧ cc ≤ 1 ∧ i = .int .i64 k ∧ c = .int .u64 (cc : Int) ∧ vW D + powW k * cc = vW (A.take k) + vW (B.take k) ∧ ThreeW w wr (D ++ A.drop k) B [0, 0, 0, 0]) (fun i _ _ => 4 - (intOf i).toNat)
  case atStart => exact ⟨0, [], 0, by omega, rfl, fun x hx => (by cases hx), by omega, rfl, rfl, by simp [vW], HT.out⟩
  case round =>
    obtain ⟨k, D, cc, hk, hD, hDw, hcc, rfl, rfl, hv, T⟩ := hrel
    have HD := Lib.hid hDw
    have HE := Lib.hid hv
    have HS := Lib.hid T
    clear HT hv hDw
    by_cases hlt : k < 4
    · obtain ⟨x, hx⟩ : ∃ x, A[k]? = some x := ⟨A[k], List.getElem?_eq_getElem (by omega)⟩
      obtain ⟨y, hy⟩ : ∃ y, B[k]? = some y := ⟨B[k], List.getElem?_eq_getElem (by omega)⟩
      have hca := T.a.cell (at_front hD hx)
      have hcb := T.b.cell hy
      have hfa := T.a.free k
      have hlA := T.a.lt
      have hlB := T.b.lt
      have HX := Lib.hid (And.intro hx hy)
      clear hx hy T
      unfold wordV at hca hcb
      have hadd := add64_run x y cc hcc
      unfold wordV at hadd
      have hst := plus_step (c := cc) hD HX.out.1 HX.out.2 HE.out
      have hs1 : (x + y + cc) % 18446744073709551616 < 18446744073709551616 := Nat.mod_lt _ (by omega)
      have hs2 : (x + y + cc) / 18446744073709551616 ≤ 1 := by
        have h1 := HA.out.at_ HX.out.1
        have h2 := HB.out.at_ HX.out.2
        omega
      generalize (x + y + cc) % 18446744073709551616 = s at *
      generalize (x + y + cc) / 18446744073709551616 = c at *
      have HN := Lib.hid hst
      clear hst
      go_upto_region 5 with fail
      have hB : Below wr.heap.size wr wr.drew := (Below.refl _ _).drew
      refine wp_region_F 13 (wr.heap.size) (by kernel_rfl) ?_
      refine wpAnyF_pure (i := 0) (oi := { dst := some 11, op := Op.move (Go.Operand.tmp 6), type := 3, pos := "wide.go:15", after := #[], guard := none }) (v := ?v1) rfl (by kernel_rfl) (by kernel_rfl) (by kernel_rfl) (fun _ _ _ h => h) (Or.inl ⟨by rfl, ?hy1⟩) ?rs1
      case hy1 => (intro W hW; go_simp; try with_reducible rfl)
      try simp only [Act.put, List.setIfInBounds_toArray, List.set_cons_zero, List.set_cons_succ]
      refine wpAnyF_pure (i := 1) (oi := { dst := some 12, op := Op.move (Go.Operand.tmp 6), type := 3, pos := "wide.go:15", after := #[], guard := none }) (v := ?v2) rfl (by kernel_rfl) (by kernel_rfl) (by kernel_rfl) (fun _ _ _ h => h) (Or.inl ⟨by rfl, ?hy2⟩) ?rs2
      case hy2 => (intro W hW; go_simp; try with_reducible rfl)
      try simp only [Act.put, List.setIfInBounds_toArray, List.set_cons_zero, List.set_cons_succ]
      refine wpAnyF_pure (i := 2) (oi := { dst := some 13, op := Op.indexAddr 47 (Go.Operand.tmp 2) (Go.Operand.tmp 12), type := 0, pos := "wide.go:15", after := #[{ on := 1, ground := Ground.data }], guard := none }) (v := ?v3) rfl (by kernel_rfl) (by kernel_rfl) (by kernel_rfl) (fun _ _ _ h => h) (Or.inl ⟨by rfl, ?hy3⟩) ?rs3
      case hy3 => (intro W hW; go_simp; try with_reducible rfl)
      try simp only [Act.put, List.setIfInBounds_toArray, List.set_cons_zero, List.set_cons_succ]
      refine wpAnyF_take (i := 3) (oi := { dst := some 14, op := Op.load 45 (Go.Operand.tmp 13), type := 45, pos := "wide.go:15", after := #[{ on := 2, ground := Ground.data }], guard := none }) (v := ?v4) rfl (by kernel_rfl) (by kernel_rfl) (by kernel_rfl) (by decide) (by kernel_rfl) (fun _ _ _ h => h) (Or.inl ⟨by rfl, ?hy4⟩) ?rs4
      case hy4 => (intro W hW; have hc := ((hB.trans hW).cell (p := ⟨w.heap.size, k, none⟩) hlA).trans hca; go_simp; try with_reducible rfl)
      try simp only [Act.put, List.setIfInBounds_toArray, List.set_cons_zero, List.set_cons_succ]
      refine wpAnyF_pure (i := 4) (oi := { dst := some 15, op := Op.move (Go.Operand.tmp 6), type := 3, pos := "wide.go:15", after := #[], guard := none }) (v := ?v5) rfl (by kernel_rfl) (by kernel_rfl) (by kernel_rfl) (fun _ _ _ h => h) (Or.inl ⟨by rfl, ?hy5⟩) ?rs5
      case hy5 => (intro W hW; go_simp; try with_reducible rfl)
      try simp only [Act.put, List.setIfInBounds_toArray, List.set_cons_zero, List.set_cons_succ]
      refine wpAnyF_pure (i := 5) (oi := { dst := some 16, op := Op.indexAddr 47 (Go.Operand.tmp 3) (Go.Operand.tmp 15), type := 0, pos := "wide.go:15", after := #[{ on := 4, ground := Ground.data }], guard := none }) (v := ?v6) rfl (by kernel_rfl) (by kernel_rfl) (by kernel_rfl) (fun _ _ _ h => h) (Or.inl ⟨by rfl, ?hy6⟩) ?rs6
      case hy6 => (intro W hW; go_simp; try with_reducible rfl)
      try simp only [Act.put, List.setIfInBounds_toArray, List.set_cons_zero, List.set_cons_succ]
      refine wpAnyF_take (i := 6) (oi := { dst := some 17, op := Op.load 45 (Go.Operand.tmp 16), type := 45, pos := "wide.go:15", after := #[{ on := 5, ground := Ground.data }], guard := none }) (v := ?v7) rfl (by kernel_rfl) (by kernel_rfl) (by kernel_rfl) (by decide) (by kernel_rfl) (fun _ _ _ h => h) (Or.inl ⟨by rfl, ?hy7⟩) ?rs7
      case hy7 => (intro W hW; have hc := ((hB.trans hW).cell (p := ⟨w.heap.size + 1, k, none⟩) hlB).trans hcb; go_simp; try with_reducible rfl)
      try simp only [Act.put, List.setIfInBounds_toArray, List.set_cons_zero, List.set_cons_succ]
      refine wpAnyF_pure (i := 7) (oi := { dst := some 18, op := Op.move (Go.Operand.tmp 5), type := 45, pos := "wide.go:15", after := #[], guard := none }) (v := ?v8) rfl (by kernel_rfl) (by kernel_rfl) (by kernel_rfl) (fun _ _ _ h => h) (Or.inl ⟨by rfl, ?hy8⟩) ?rs8
      case hy8 => (intro W hW; go_simp; try with_reducible rfl)
      try simp only [Act.put, List.setIfInBounds_toArray, List.set_cons_zero, List.set_cons_succ]
      refine wpAnyF_one (i := 8) (o := { dst := some 19, op := Op.call { callee := Callee.value (Go.Operand.func 52), args := #[Go.Operand.tmp 14, Go.Operand.tmp 17, Go.Operand.tmp 18], argTypes := #[45, 45, 45] }, type := 77, pos := "wide.go:15", after := #[{ on := 3, ground := Ground.data }, { on := 6, ground := Ground.data }, { on := 7, ground := Ground.data }], guard := none }) (by kernel_rfl) rfl (fun K hK => ?_)
      go_simp
      have hbk := Below.refl wr.heap.size wr.drew
      refine hK.out _ _ hbk ?_
      clear hK K
      try simp only [Act.put, List.setIfInBounds_toArray, List.set_cons_zero, List.set_cons_succ]
      refine wpAnyF_pure (i := 9) (oi := { dst := some 10, op := Op.move (Go.Operand.tmp 19), type := 77, pos := "wide.go:15", after := #[{ on := 8, ground := Ground.data }], guard := none }) (v := ?v9) rfl (by kernel_rfl) (by kernel_rfl) (by kernel_rfl) (fun _ _ _ h => h) (Or.inl ⟨by rfl, ?hy9⟩) ?rs9
      case hy9 => (intro W hW; go_simp; try with_reducible rfl)
      try simp only [Act.put, List.setIfInBounds_toArray, List.set_cons_zero, List.set_cons_succ]
      refine wpAnyF_pure (i := 10) (oi := { dst := some 20, op := Op.extract (Go.Operand.tmp 10) 0, type := 45, pos := "wide.go:15", after := #[{ on := 9, ground := Ground.data }], guard := none }) (v := ?v10) rfl (by kernel_rfl) (by kernel_rfl) (by kernel_rfl) (fun _ _ _ h => h) (Or.inl ⟨by rfl, ?hy10⟩) ?rs10
      case hy10 => (intro W hW; go_simp; try with_reducible rfl)
      try simp only [Act.put, List.setIfInBounds_toArray, List.set_cons_zero, List.set_cons_succ]
      refine wpAnyF_pure (i := 11) (oi := { dst := some 21, op := Op.extract (Go.Operand.tmp 10) 1, type := 45, pos := "wide.go:15", after := #[{ on := 9, ground := Ground.data }, { on := 13, ground := Ground.gcOnly Go.Departure.lateStores }], guard := none }) (v := ?v11) rfl (by kernel_rfl) (by kernel_rfl) (by kernel_rfl) (fun _ _ _ h => h) (Or.inl ⟨by rfl, ?hy11⟩) ?rs11
      case hy11 => (intro W hW; go_simp; try with_reducible rfl)
      try simp only [Act.put, List.setIfInBounds_toArray, List.set_cons_zero, List.set_cons_succ]
      refine wpAnyF_pure (i := 12) (oi := { dst := some 22, op := Op.indexAddr 47 (Go.Operand.tmp 2) (Go.Operand.tmp 11), type := 0, pos := "wide.go:15", after := #[{ on := 0, ground := Ground.data }, { on := 0, ground := Ground.phase }, { on := 1, ground := Ground.phase }, { on := 2, ground := Ground.phase }, { on := 3, ground := Ground.phase }, { on := 4, ground := Ground.phase }, { on := 5, ground := Ground.phase }, { on := 6, ground := Ground.phase }, { on := 7, ground := Ground.phase }, { on := 8, ground := Ground.phase }, { on := 9, ground := Ground.phase }, { on := 10, ground := Ground.phase }, { on := 11, ground := Ground.textOnly Go.Departure.lateStores }], guard := none }) (v := ?v12) rfl (by kernel_rfl) (by kernel_rfl) (by kernel_rfl) (fun _ _ _ h => h) (Or.inl ⟨by rfl, ?hy12⟩) ?rs12
      case hy12 => (intro W hW; go_simp; try with_reducible rfl)
      try simp only [Act.put, List.setIfInBounds_toArray, List.set_cons_zero, List.set_cons_succ]
      refine wpAnyF_last (i := 13) (o := { dst := none, op := Op.store 45 (Go.Operand.tmp 22) (Go.Operand.tmp 20), type := 0, pos := "wide.go:15", after := #[{ on := 12, ground := Ground.data }, { on := 10, ground := Ground.data }, { on := 8, ground := Ground.chain }, { on := 0, ground := Ground.phase }, { on := 1, ground := Ground.phase }, { on := 2, ground := Ground.phase }, { on := 3, ground := Ground.phase }, { on := 4, ground := Ground.phase }, { on := 5, ground := Ground.phase }, { on := 6, ground := Ground.phase }, { on := 7, ground := Ground.phase }, { on := 8, ground := Ground.phase }, { on := 9, ground := Ground.phase }, { on := 10, ground := Ground.phase }, { on := 11, ground := Ground.textOnly Go.Departure.lateStores }], guard := none }) (by kernel_rfl) rfl (by decide) (fun K hK => ?_)
      go_simp
      refine hK.out _ _ ?_
      clear hK K
      try simp only [Act.put, List.setIfInBounds_toArray, List.set_cons_zero, List.set_cons_succ]
      refine wpAnyF_pure (i := 14) (oi := { dst := some 5, op := Op.assign (Go.Operand.tmp 21), type := 45, pos := "wide.go:15", after := #[{ on := 11, ground := Ground.data }, { on := 13, ground := Ground.chain }, { on := 0, ground := Ground.phase }, { on := 1, ground := Ground.phase }, { on := 2, ground := Ground.phase }, { on := 3, ground := Ground.phase }, { on := 4, ground := Ground.phase }, { on := 5, ground := Ground.phase }, { on := 6, ground := Ground.phase }, { on := 7, ground := Ground.phase }, { on := 8, ground := Ground.phase }, { on := 9, ground := Ground.phase }, { on := 10, ground := Ground.phase }, { on := 11, ground := Ground.phase }, { on := 12, ground := Ground.phase }, { on := 13, ground := Ground.phase }], guard := none }) (v := ?v13) rfl (by kernel_rfl) (by kernel_rfl) (by kernel_rfl) (fun _ _ _ h => h) (Or.inl ⟨by rfl, ?hy13⟩) ?rs13
      case hy13 => (intro W hW; go_simp; try with_reducible rfl)
      try simp only [Act.put, List.setIfInBounds_toArray, List.set_cons_zero, List.set_cons_succ]
      refine wpAnyF_done (by kernel_rfl) ?_
      have T2 := HS.out.drew.putA k s
      rw [set_front hD (by omega)] at T2
      go_wp2
      go_roundw
      case rel => exact ⟨k + 1, D ++ [s], c, by omega, by simp [hD], HD.out.append (Wok.one hs1), hs2, by go_num, rfl, HN.out, T2⟩
      case measure => simp [intOf] <;> omega
    · have hk4 : k = 4 := by omega
      subst hk4
      obtain ⟨x0, x1, x2, x3, hDe⟩ := wide_four D hD
      have h0 : ¬ ((4 : Nat) : Int) < 4 := by decide
      have hlen := vW_lt HD.out
      have hv := HE.out
      rw [List.take_of_length_le (by omega), List.take_of_length_le (by omega), HV.out.1, HV.out.2] at hv
      rw [hD] at hlen
      have hc0 : cc = 0 := by
        rcases Nat.eq_zero_or_pos cc with h | h
        · exact h
        · have : powW 4 * 1 ≤ powW 4 * cc := Nat.mul_le_mul_left _ h
          omega
      subst hc0
      rw [Nat.mul_zero, Nat.add_zero] at hv
      have HW := Lib.hid (wide_of HD.out hD hv)
      have T := HS.out
      rw [List.drop_of_length_le (by omega), List.append_nil] at T
      subst hDe
      obtain ⟨c0, c1, c2, c3⟩ := T.a.four
      obtain ⟨f0, f1, f2, f3⟩ := T.r.frees
      obtain ⟨g0, g1, g2, g3⟩ := T.r.four
      have hbl := T.bl
      clear HD HE hv hlen HA HB HV HS
      unfold wordV at c0 c1 c2 c3 g0 g1 g2 g3
      have hTr := T.r
      clear T
      go_wp2
      have hR4 := WBox.store4 hTr x0 x1 x2 x3
      have hB4 := below4 hbl (w.heap.size + 1 + 1) (.int .u64 (x0 : Int)) (.int .u64 (x1 : Int)) (.int .u64 (x2 : Int)) (.int .u64 (x3 : Int))
      generalize ((((wr.setCell ⟨w.heap.size + 1 + 1, 0, none⟩ (.int .u64 (x0 : Int))).setCell ⟨w.heap.size + 1 + 1, 1, none⟩ (.int .u64 (x1 : Int))).setCell ⟨w.heap.size + 1 + 1, 2, none⟩ (.int .u64 (x2 : Int))).setCell ⟨w.heap.size + 1 + 1, 3, none⟩ (.int .u64 (x3 : Int))) = W4 at *
      obtain ⟨q0, q1, q2, q3⟩ := hR4.four
      unfold wordV at q0 q1 q2 q3
      exact bodyPost_ret (v := .agg #[.int .u64 (x0 : Int), .int .u64 (x1 : Int), .int .u64 (x2 : Int), .int .u64 (x3 : Int)]) (by simp [results, Try.results50, go_sem, q0, q1, q2, q3]) rfl ⟨congrArg Ending.returned HW.out, hB4⟩
/-- Two such blocks, made one behind another. -/
structure TwoW (w W : World) (A R : List Nat) : Prop where
  a : WBox W w.heap.size A
  r : WBox W (w.heap.size + 1) R
  bl : Below w.heap.size w W
  sz : w.heap.size + 2 ≤ W.heap.size
theorem twoW (w : World) (A R : List Nat) : TwoW w ((w.alloc (.cells (wordsV A).toArray 47)).alloc (.cells (wordsV R).toArray 47)) A R := by
  have s1 : (w.alloc (.cells (wordsV A).toArray 47)).heap.size = w.heap.size + 1 := by simp
  refine ⟨(Box.new w _ _).alloc _, ?_, ((Below.refl _ _).alloc (Nat.le_refl _) _).alloc (by simp) _, by simp⟩
  have := Box.new (w.alloc (.cells (wordsV A).toArray 47)) 47 (wordsV R)
  rw [s1] at this
  exact this
theorem TwoW.putA {w W : World} {A R : List Nat} (h : TwoW w W A R) (k d : Nat) : TwoW w (W.setCell ⟨w.heap.size, k, none⟩ (wordV d)) (A.set k d) R :=
  ⟨h.a.put d, h.r.grown (grownBy_setCell _ _ _) (by simp), h.bl.setCell (Nat.le_refl _) _, by simpa [World.setCell] using h.sz⟩
theorem TwoW.later {w W W' : World} {A R : List Nat} (h : TwoW w W A R) (hb : Below W.heap.size W W') : TwoW w W' A R := ⟨h.a.below hb h.a.lt, h.r.below hb h.r.lt, bthen h.bl hb, Nat.le_trans h.sz hb.size⟩
theorem TwoW.drewN {w W : World} {A R : List Nat} (h : TwoW w W A R) (q : Nat) : TwoW w (W.drewN q) A R := h.later (below_draws ⟨_, rfl⟩)
set_option maxHeartbeats 800000 in
theorem times_any (a y : Nat) (hy : y < 18446744073709551616) (hab : a * y < powW 4) (ha : a < powW 4) (w : World) :
    Calls Try.prog 33 #[wideV a, wordV y] w fun e w' => e = .returned (wideV (a * y)) ∧ Below w.heap.size w w' := by
  have hA := digsW_ok 4 a
  have lA := digsW_len 4 a
  have vA := digsW_v (n := 4) ha
  rw [show wideV a = .agg (wordsV (digsW 4 a)).toArray from rfl]
  generalize digsW 4 a = A at *
  obtain ⟨a0, a1, a2, a3, hAe⟩ := wide_four A lA
  have T0 := twoW w A [0, 0, 0, 0]
  have e0 : wordsV A = [wordV a0, wordV a1, wordV a2, wordV a3] := by rw [hAe]; rfl
  rw [e0] at T0 ⊢
  have HA := Lib.hid hA
  have HV := Lib.hid vA
  have HT := Lib.hid T0
  have CM := Lib.hid (fun (x : Nat) (hx : x < 18446744073709551616) (W : World) => Mul64_any x y hx hy W)
  clear hA hAe e0 vA T0
  unfold wordV at CM ⊢
  go_enter Try.func33, Try.ntmps33
  go_upto_region 3 with fail
  go_loopw [11, 5] (fun i c wr => ∃ (k : Nat) (D : List Nat) (cc : Nat), k ≤ 4 ∧ D.length = k ∧ Wok D ∧ cc < 18446744073709551616 ∧ i = .int .i64 k ∧ c = .int .u64 (cc : Int) ∧ vW D + powW k * cc = vW (A.take k) * y ∧ TwoW w wr (D ++ A.drop k) [0, 0, 0, 0]) (fun i _ _ => 4 - (intOf i).toNat)
  case atStart => exact ⟨0, [], 0, by omega, rfl, fun x hx => (by cases hx), by omega, rfl, rfl, by simp [vW], HT.out⟩
  case round =>
    obtain ⟨k, D, cc, hk, hD, hDw, hcc, rfl, rfl, hv, T⟩ := hrel
    have HD := Lib.hid hDw
    have HE := Lib.hid hv
    have HS := Lib.hid T
    clear HT hv hDw
    by_cases hlt : k < 4
    · obtain ⟨x, hx⟩ : ∃ x, A[k]? = some x := ⟨A[k], List.getElem?_eq_getElem (by omega)⟩
      have hca := T.a.cell (at_front hD hx)
      have hfa := T.a.free k
      have HX := Lib.hid hx
      have hx6 := HA.out.at_ hx
      clear hx T
      unfold wordV at hca
      have hst := times_step (c := cc) (by_ := y) hD HX.out HE.out
      obtain ⟨hc1, hc2⟩ := times_carry (x := x) (y := y) (c := cc)
      have hs1 : (x * y + cc) % 18446744073709551616 < 18446744073709551616 := Nat.mod_lt _ (by omega)
      have hs2 := times_small hx6 hy hcc
      have hlo : x * y % 18446744073709551616 < 18446744073709551616 := Nat.mod_lt _ (by omega)
      have C1 := CM.out x hx6
      obtain ⟨hi, hhi⟩ : ∃ hi, x * y / 18446744073709551616 = hi := ⟨_, rfl⟩
      obtain ⟨lo, hloe⟩ : ∃ lo, x * y % 18446744073709551616 = lo := ⟨_, rfl⟩
      rw [hhi, hloe] at hc1
      rw [hloe] at hc2 hlo
      rw [hhi, hloe] at C1
      obtain ⟨m, hm⟩ : ∃ m, (lo + cc) / 18446744073709551616 = m := ⟨_, rfl⟩
      rw [hm] at hc1
      have hadd : ∀ W : World, (callFunc 52 #[.int .u64 (lo : Int), .int .u64 (cc : Int), .int .u64 0]).run Try.prog W = .ok (.value (.tuple #[.int .u64 (((x * y + cc) % 18446744073709551616 : Nat) : Int), .int .u64 (m : Int)])) W := fun W => by
        have h := add64_run lo cc 0 (by omega) W
        rw [Nat.add_zero, hc2, hm] at h
        exact h
      generalize (x * y + cc) % 18446744073709551616 = s at *
      generalize (x * y + cc) / 18446744073709551616 = c at *
      have hwr : IntKind.u64.wrap ((hi : Int) + (m : Int)) = (c : Int) := by rw [← Int.natCast_add, hc1, w64 hs2]
      have HN := Lib.hid hst
      clear hst hc1 hc2 hhi hloe hm
      go_wp2_with fail
      refine (C1 _).mono ?_
      rintro e w' ⟨rfl, rfl⟩
      have T2 := HS.out.putA k s
      rw [set_front hD (by omega)] at T2
      go_wp2
      go_roundw
      case rel => exact ⟨k + 1, D ++ [s], c, by omega, by simp [hD], HD.out.append (Wok.one hs1), hs2, by go_num, rfl, HN.out, T2⟩
      case measure => simp [intOf] <;> omega
    · have hk4 : k = 4 := by omega
      subst hk4
      obtain ⟨x0, x1, x2, x3, hDe⟩ := wide_four D hD
      have h0 : ¬ ((4 : Nat) : Int) < 4 := by decide
      have hv := HE.out
      rw [List.take_of_length_le (by omega), HV.out] at hv
      have hc0 : cc = 0 := by
        rcases Nat.eq_zero_or_pos cc with h | h
        · exact h
        · have : powW 4 * 1 ≤ powW 4 * cc := Nat.mul_le_mul_left _ h
          omega
      subst hc0
      rw [Nat.mul_zero, Nat.add_zero] at hv
      have HW := Lib.hid (wide_of HD.out hD hv)
      have T := HS.out
      rw [List.drop_of_length_le (by omega), List.append_nil] at T
      subst hDe
      obtain ⟨c0, c1, c2, c3⟩ := T.a.four
      obtain ⟨f0, f1, f2, f3⟩ := T.r.frees
      obtain ⟨g0, g1, g2, g3⟩ := T.r.four
      have hbl := T.bl
      clear HD HE hv HA HV HS CM
      unfold wordV at c0 c1 c2 c3 g0 g1 g2 g3
      have hTr := T.r
      clear T
      go_wp2
      have hR4 := WBox.store4 hTr x0 x1 x2 x3
      have hB4 := below4 hbl (w.heap.size + 1) (.int .u64 (x0 : Int)) (.int .u64 (x1 : Int)) (.int .u64 (x2 : Int)) (.int .u64 (x3 : Int))
      generalize ((((wr.setCell ⟨w.heap.size + 1, 0, none⟩ (.int .u64 (x0 : Int))).setCell ⟨w.heap.size + 1, 1, none⟩ (.int .u64 (x1 : Int))).setCell ⟨w.heap.size + 1, 2, none⟩ (.int .u64 (x2 : Int))).setCell ⟨w.heap.size + 1, 3, none⟩ (.int .u64 (x3 : Int))) = W4 at *
      obtain ⟨q0, q1, q2, q3⟩ := hR4.four
      unfold wordV at q0 q1 q2 q3
      exact bodyPost_ret (v := .agg #[.int .u64 (x0 : Int), .int .u64 (x1 : Int), .int .u64 (x2 : Int), .int .u64 (x3 : Int)]) (by simp [results, Try.results33, go_sem, q0, q1, q2, q3]) rfl ⟨congrArg Ending.returned HW.out, hB4⟩
/-- A number and what remains, as a result. -/
def GivesWide (a r : Nat) (w : World) (e : Ending) (w' : World) : Prop := e = .returned (.tuple #[wideV a, wordV r]) ∧ Below w.heap.size w w'
set_option maxHeartbeats 800000 in
theorem over_any (a y : Nat) (hy0 : 0 < y) (hy : y < 65536) (ha : a < powW 4) (w : World) :
    Calls Try.prog 49 #[wideV a, wordV y] w (GivesWide (a / y) (a % y) w) := by
  have hA := digsW_ok 4 a
  have lA := digsW_len 4 a
  have vA := digsW_v (n := 4) ha
  rw [show wideV a = .agg (wordsV (digsW 4 a)).toArray from rfl]
  generalize digsW 4 a = A at *
  obtain ⟨a0, a1, a2, a3, hAe⟩ := wide_four A lA
  have T0 := twoW w A [0, 0, 0, 0]
  have e0 : wordsV A = [wordV a0, wordV a1, wordV a2, wordV a3] := by rw [hAe]; rfl
  rw [e0] at T0 ⊢
  have HA := Lib.hid hA
  have HV := Lib.hid vA
  have HT := Lib.hid T0
  have CD := Lib.hid (fun (hi lo : Nat) (hhi : hi < y) (hlo : lo < 18446744073709551616) (W : World) => Div64_any hi lo y hy hhi hlo W)
  clear hA hAe e0 vA T0
  unfold wordV at CD ⊢
  go_enter Try.func49, Try.ntmps49
  go_upto_region 3 with fail
  go_loopw [7, 6] (fun i c wr => ∃ (k : Nat) (Q : List Nat) (r : Nat), k ≤ 4 ∧ Q.length = 4 - k ∧ Wok Q ∧ r < y ∧ i = .int .i64 ((k : Int) - 1) ∧ c = .int .u64 (r : Int) ∧ vW (A.drop k) = vW Q * y + r ∧ TwoW w wr (A.take k ++ Q) [0, 0, 0, 0]) (fun i _ _ => (intOf i + 1).toNat)
  case atStart => exact ⟨4, [], 0, by omega, rfl, fun x hx => (by cases hx), by omega, rfl, rfl, by rw [List.drop_of_length_le (by omega)]; simp [vW], by rw [List.take_of_length_le (by omega), List.append_nil]; exact HT.out⟩
  case round =>
    obtain ⟨k, Q, r, hk, hQ, hQw, hr, rfl, rfl, hv, T⟩ := hrel
    have HD := Lib.hid hQw
    have HE := Lib.hid hv
    have HS := Lib.hid T
    clear HT hv hQw
    by_cases hlt : 0 < k
    · obtain ⟨j, rfl⟩ : ∃ j, k = j + 1 := ⟨k - 1, by omega⟩
      obtain ⟨x, hx⟩ : ∃ x, A[j]? = some x := ⟨A[j], List.getElem?_eq_getElem (by omega)⟩
      have hat : (A.take (j + 1) ++ Q)[j]? = some x := by rw [List.getElem?_append_left (by simp; omega), List.getElem?_take]; simpa using hx
      have hca := T.a.cell hat
      have hfa := T.a.free j
      have hx6 := HA.out.at_ hx
      unfold wordV at hca
      have hst := over_step (Q := Q) hx hr HE.out
      have hs1 := over_word hx6 hr
      have hs2 := Nat.mod_lt (18446744073709551616 * r + x) hy0
      have C1 := CD.out r x hr hx6
      have hset : ∀ d : Nat, (A.take (j + 1) ++ Q).set j d = A.take j ++ (d :: Q) := by
        intro d
        rw [take_snoc hx, List.append_assoc, List.set_append_right _ _ (by rw [List.length_take]; omega), List.length_take, Nat.min_eq_left (by omega), Nat.sub_self]
        rfl
      generalize (18446744073709551616 * r + x) / y = s at *
      generalize (18446744073709551616 * r + x) % y = c at *
      have HN := Lib.hid hst
      have HX := Lib.hid hset
      have hi0 : (((j + 1 : Nat) : Int) - 1) = (j : Int) := by omega
      rw [hi0]
      clear hst hx T hset hat
      go_wp2_with fail
      refine (C1 _).mono ?_
      rintro e w' ⟨rfl, q, rfl⟩
      have T2 := (HS.out.drewN q).putA j s
      rw [HX.out] at T2
      replace hca : (wr.drewN q).cell? ⟨w.heap.size, j, none⟩ = _ := hca
      replace hfa : (wr.drewN q).frozen? ⟨w.heap.size, j, none⟩ = _ := hfa
      clear HS C1 CD
      generalize wr.drewN q = w1 at *
      go_wp2
      go_roundw
      case rel => exact ⟨j, s :: Q, c, by omega, by simp [hQ]; omega, (Wok.one hs1).append HD.out, hs2, by go_num, rfl, HN.out, T2⟩
      case measure => simp [intOf] <;> omega
    · have hk0 : k = 0 := by omega
      subst hk0
      obtain ⟨x0, x1, x2, x3, hQe⟩ := wide_four Q (by omega)
      have hv := HE.out
      rw [List.drop_zero, HV.out] at hv
      have hq1 : a / y = vW Q := by rw [hv, Nat.add_comm, Nat.add_mul_div_right _ _ hy0, Nat.div_eq_of_lt hr, Nat.zero_add]
      have hq2 : a % y = r := by rw [hv, Nat.add_comm, Nat.add_mul_mod_self_right, Nat.mod_eq_of_lt hr]
      have HW := Lib.hid (wide_of HD.out (by omega) hq1.symm)
      have T := HS.out
      rw [List.take_zero, List.nil_append] at T
      subst hQe
      obtain ⟨c0, c1, c2, c3⟩ := T.a.four
      obtain ⟨f0, f1, f2, f3⟩ := T.r.frees
      obtain ⟨g0, g1, g2, g3⟩ := T.r.four
      have hbl := T.bl
      clear HD HE hv HA HV HS CD hq1
      unfold wordV at c0 c1 c2 c3 g0 g1 g2 g3
      have hTr := T.r
      have hi0 : ((0 : Nat) : Int) - 1 = -1 := rfl
      rw [hi0]
      clear T
      go_wp2
      have hR4 := WBox.store4 hTr x0 x1 x2 x3
      have hB4 := below4 hbl (w.heap.size + 1) (.int .u64 (x0 : Int)) (.int .u64 (x1 : Int)) (.int .u64 (x2 : Int)) (.int .u64 (x3 : Int))
      generalize ((((wr.setCell ⟨w.heap.size + 1, 0, none⟩ (.int .u64 (x0 : Int))).setCell ⟨w.heap.size + 1, 1, none⟩ (.int .u64 (x1 : Int))).setCell ⟨w.heap.size + 1, 2, none⟩ (.int .u64 (x2 : Int))).setCell ⟨w.heap.size + 1, 3, none⟩ (.int .u64 (x3 : Int))) = W4 at *
      obtain ⟨q0, q1, q2, q3⟩ := hR4.four
      unfold wordV at q0 q1 q2 q3
      exact bodyPost_ret (v := .tuple #[.agg #[.int .u64 (x0 : Int), .int .u64 (x1 : Int), .int .u64 (x2 : Int), .int .u64 (x3 : Int)], .int .u64 (r : Int)]) (by simp [results, Try.results49, go_sem, q0, q1, q2, q3]) rfl ⟨by rw [hq2]; exact congrArg (fun v => Ending.returned (.tuple #[v, .int .u64 (r : Int)])) HW.out, hB4⟩
end Go.Proofs.Ytajfohnblmnjjaa
