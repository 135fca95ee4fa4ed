/-
  Contract of member.takeTurn: a slot of a whole group.
-/
import Derived.Test.YtnmoddknghcobaaMemberPlay
import Derived.Test.YtnmoddknghcobaaRegionF
import Derived.Deep.CutBlock
import Derived.Deep.DeepCutAuto
namespace Go.Proofs.Ytnmoddknghcobaa
open Go.RowKit
set_option linter.unusedVariables false

abbrev u16V (v : Nat) : Value := .int .u16 (v : Int)
/-- An element of such a slice stored whole. -/
theorem OwG.putMem {w : World} {base g n c : Nat} {e : TypeId} {L : List Mem} (h : OwG memC 4 w base e (.slice (some ⟨g, 0, none⟩) n c) L) {k : Nat} {x : Mem} (hk : L[k]? = some x) (rv : Nat) (rt rl : Int) (ro : Bool) :
    OwG memC 4 ((((w.setCell ⟨g, k * 4, none⟩ (.int .u16 (rv : Int))).setCell ⟨g, k * 4 + 1, none⟩ (.int .i64 rt)).setCell ⟨g, k * 4 + 2, none⟩ (.int .i64 rl)).setCell ⟨g, k * 4 + 3, none⟩ (.bool ro)) base e (.slice (some ⟨g, 0, none⟩) n c) (L.set k ⟨rv, rt, rl, ro⟩) := by
  have hlt := (List.getElem?_eq_some_iff.1 hk).1
  have g1 := h.put memK (j := 0) (y := ⟨rv, x.tk, x.ls, x.ou⟩) (u := .int .u16 (rv : Int)) hk (by decide) rfl
  have g2 := g1.put memK (k := k) (j := 1) (x := ⟨rv, x.tk, x.ls, x.ou⟩) (y := ⟨rv, rt, x.ls, x.ou⟩) (u := .int .i64 rt) (by simp [hlt]) (by decide) rfl
  have g3 := g2.put memK (k := k) (j := 2) (x := ⟨rv, rt, x.ls, x.ou⟩) (y := ⟨rv, rt, rl, x.ou⟩) (u := .int .i64 rl) (by simp [hlt]) (by decide) rfl
  have g4 := g3.put memK (k := k) (j := 3) (x := ⟨rv, rt, rl, x.ou⟩) (y := ⟨rv, rt, rl, ro⟩) (u := .bool ro) (by simp [hlt]) (by decide) rfl
  simpa only [List.set_set, Nat.add_zero] using g4
theorem grownBy_four (w : World) (g i0 i1 i2 i3 : Nat) (v0 v1 v2 v3 : Value) : w.grownBy ((((w.setCell ⟨g, i0, none⟩ v0).setCell ⟨g, i1, none⟩ v1).setCell ⟨g, i2, none⟩ v2).setCell ⟨g, i3, none⟩ v3) (some g) :=
  grownBy_then (grownBy_then (grownBy_then (grownBy_setCell w ⟨g, i0, none⟩ v0) (grownBy_setCell _ ⟨g, i1, none⟩ v1)) (grownBy_setCell _ ⟨g, i2, none⟩ v2)) (grownBy_setCell _ ⟨g, i3, none⟩ v3)
theorem grownBy_below {w w' : World} {row : Option Nat} (h : Below w.heap.size w w') : w.grownBy w' row := ⟨h.os, h.tape, h.output, h.size, fun k hk _ => h.block k hk⟩
/-- The list on the way through a slot. -/
theorem mid_set {α : Type} {S L : List α} {j : Nat} {x y : α} (hS : S[j]? = some y) (hL : L[j]? = some x) : (S.take j ++ L.drop j).set j y = S.take (j + 1) ++ L.drop (j + 1) ∧ (S.take j ++ L.drop j)[j]? = some x := by
  have h1 := (List.getElem?_eq_some_iff.1 hS).1
  have hl : (S.take j).length = j := by rw [List.length_take]; omega
  refine ⟨?_, ?_⟩
  · rw [List.set_append_right _ _ (by omega), hl, Nat.sub_self, drop_cons hL, List.set_cons_zero, take_snoc hS]; simp
  · rw [List.getElem?_append_right (by omega), hl, Nat.sub_self, drop_cons hL]; rfl

set_option maxRecDepth 100000 in
set_option maxHeartbeats 3200000 in
theorem takeTurn_any (base g n c : Nat) (L : List Mem) (H : Option Addr) (hc : Nat) (hs : List Nat) (k : Nat) (b : Int) (w : World) (hG : OwG memC 4 w base 24 (.slice (some ⟨g, 0, none⟩) n c) L) (hH : Rd w 1 H n (hs.map u16V)) (hne : ∀ ad, H = some ad → some ad.block ≠ some g)
    (hn : n ≤ 16) (hk : k < n) (hb0 : 0 ≤ b) (hb : b < 400) (hgood : ∀ i m, L[i]? = some m → GoodM b i m) (h16 : ∀ x ∈ hs, x < 65536) :
    Calls Try.prog 27 #[.slice (some ⟨g, 0, none⟩) n c, .slice H n hc, .int .i64 (k : Int)] w fun e w' => e = .returned (.int .i64 0) ∧ OwG memC 4 w' base 24 (.slice (some ⟨g, 0, none⟩) n c) (slotM hs k L) ∧ w.grownBy w' (some g) := by
  have hLn := RdG.len memK hG.rd
  obtain ⟨was, hwas⟩ : ∃ m, L[k]? = some m := ⟨_, List.getElem?_eq_getElem (by omega)⟩
  have hgw := hgood k was hwas
  have hgd : L.getD k zeroM = was := by rw [List.getD_eq_getElem?_getD, hwas]; rfl
  have Hslot : Hid (∀ j m, L[j]? = some m → (slotM hs k L)[j]? = some (stepG j m k (cameB hs k j was) was.vw)) := fun j m hj => by
    have := slotM_at (hs := hs) (who := k) hj
    rwa [hgd] at this
  have Hlen : Hid ((slotM hs k L).length = n) := by show _ = _; rw [slotM_length, hLn]
  have Hgood := Lib.hid hgood
  have H16 := Lib.hid h16
  have Hne := Lib.hid hne
  have hhl := hH.lenMap
  have c0 := hG.cellAt memK hwas (j := 0) rfl
  have c1 := hG.cellAt memK hwas (j := 1) rfl
  have c2 := hG.cellAt memK hwas (j := 2) rfl
  have c3 := hG.cellAt memK hwas (j := 3) rfl
  have hgs := hG.inHeap g rfl
  have CS := Lib.hid (fun (own : Int) (m : Mem) (h : Hrd) (h1 : m.vw < 65536) (h2 : h.hv < 65536) (W : World) => Step_any own m h h1 h2 W)
  have CH := Lib.hid (fun (v k : Nat) (hv : v < 65536) (hk : k < 16) (W : World) => has_any v k hv hk W)
  generalize slotM hs k L = S at *
  have hwlt := hgw.2.1
  have HG := Lib.hid hG
  have Hhl := Lib.hid hhl
  have HLn := Lib.hid hLn
  clear hG hgood h16 hne hgd hgw hwas hhl hLn
  obtain ⟨wv, wt, wl, wo⟩ := was
  simp only [Nat.add_zero] at c0 c1 c2 c3 hwlt
  have hk64 : (k : Int) < (n : Int) := by omega
  go_enter Try.func27, Try.ntmps27
  go_wp2
  have Hbox := Lib.hid (Box.new w 24 [.int .u16 (wv : Int), .int .i64 wt, .int .i64 wl, .bool wo])
  have HG0 := Lib.hid (HG.out.alloc (.cells #[.int .u16 (wv : Int), .int .i64 wt, .int .i64 wl, .bool wo] 24))
  have Hg0 := Lib.hid (grownBy_below (row := some g) (below_1 (w := w) (.cells #[.int .u16 (wv : Int), .int .i64 wt, .int .i64 wl, .bool wo] 24)))
  clear c0 c1 c2 c3
  go_loopw [6, 17] (fun er i wr => ∃ j : Nat, j ≤ n ∧ i = .int .i64 j ∧ er = .int .i64 0 ∧ OwG memC 4 wr base 24 (.slice (some ⟨g, 0, none⟩) n c) (S.take j ++ L.drop j) ∧ Box wr w.heap.size 24 [.int .u16 (wv : Int), .int .i64 wt, .int .i64 wl, .bool wo] ∧ w.grownBy wr (some g)) (fun _ i _ => n - (intOf i).toNat)
  case atStart => exact ⟨0, Nat.zero_le _, rfl, rfl, by simpa using HG0.out, Hbox.out, Hg0.out⟩
  case round =>
    obtain ⟨j, hj, rfl, rfl, ho, hx7, hgr⟩ := hrel
    clear Hbox HG0 Hg0
    by_cases hlt : j < n
    · obtain ⟨m, hm⟩ : ∃ m, L[j]? = some m := ⟨_, List.getElem?_eq_getElem (by rw [HLn.out]; exact hlt)⟩
      have hS := Hslot.out j m hm
      obtain ⟨hset, hcur⟩ := mid_set hS hm
      have hgm := Hgood.out j m hm
      obtain ⟨hgs1, hgs2⟩ := hgm.ok hb0 hb (by omega) (show k < 16 by omega) (cameB hs k j ⟨wv, wt, wl, wo⟩) wv
      have hmlt := hgm.2.1
      obtain ⟨ad, hv, rfl, hvx, hcv⟩ := (hH.grownG hgr Hne.out).atMap hlt
      have hvlt := H16.out hv (List.mem_of_getElem? hvx)
      have Hcame : Hid (cameB hs k j ⟨wv, wt, wl, wo⟩ = (!wo && hasB hv k)) := by show _ = _; unfold cameB; rw [List.getD_eq_getElem?_getD, hvx]; rfl
      have C1 := Lib.hid (fun (W : World) => CS.out (j : Int) m ⟨(k : Int), cameB hs k j ⟨wv, wt, wl, wo⟩, wv⟩ hmlt hwlt W)
      unfold stepHE stepHM at C1
      simp only at C1
      rw [hgs1, hgs2] at C1
      rw [Hcame.out] at C1 hset
      have C2 := Lib.hid (fun (W : World) => CH.out hv k hvlt (by omega) W)
      obtain ⟨rr, Hrr⟩ : ∃ r, Hid (stepG j m k (!wo && hasB hv k) wv = r) := ⟨_, rfl⟩
      rw [Hrr.out] at C1 hset
      have d0 := ho.cellAt memK hcur (j := 0) rfl
      have d1 := ho.cellAt memK hcur (j := 1) rfl
      have d2 := ho.cellAt memK hcur (j := 2) rfl
      have d3 := ho.cellAt memK hcur (j := 3) rfl
      simp only [Nat.add_zero] at d0
      obtain ⟨mv, mt, ml, mo⟩ := m
      simp only at d0 d1 d2 d3
      have hgi := ho.inHeap g rfl
      have Hset := Lib.hid hset
      have Hcur := Lib.hid hcur
      have Ho := Lib.hid (ho.alloc (.cells #[.int .u16 (mv : Int), .int .i64 mt, .int .i64 ml, .bool mo] 24))
      have H7 := Lib.hid (hx7.alloc (.cells #[.int .u16 (mv : Int), .int .i64 mt, .int .i64 ml, .bool mo] 24))
      have H9 := Lib.hid (Box.new wr 24 [.int .u16 (mv : Int), .int .i64 mt, .int .i64 ml, .bool mo])
      have Hgr := Lib.hid (grownBy_then hgr (grownBy_below (row := some g) (below_1 (w := wr) (.cells #[.int .u16 (mv : Int), .int .i64 mt, .int .i64 ml, .bool mo] 24))))
      have hcv' : ∀ o, (wr.alloc o).cell? (ad.add j) = some (.int .u16 (hv : Int)) := fun o => ((below_1 o).cell (World.block_lt_of_cell? _ _ hcv)).trans hcv
      have Hcv := Lib.hid (hcv' (.cells #[.int .u16 (mv : Int), .int .i64 mt, .int .i64 ml, .bool mo] 24))
      clear hset hcur hS hgm hgs1 hgs2 hx7 hgr hcv' hvx hm Hcame
      go_upto_region 5 with fail
      clear ho d0 d1 d2 d3 hcv
      generalize wr.alloc (.cells #[.int .u16 (mv : Int), .int .i64 mt, .int .i64 ml, .bool mo] 24) = W at *
      generalize hasB hv k = y at *
      have F7 : Hid (∀ X, Below W.heap.size W X → X.cell? ⟨w.heap.size, 0, none⟩ = some (.int .u16 (wv : Int)) ∧ X.cell? ⟨w.heap.size, 3, none⟩ = some (.bool wo)) := fun X hX => by
        have hx := H7.out.below hX H7.out.lt
        exact ⟨hx.cell 0 rfl, hx.cell 3 rfl⟩
      have FH : Hid (∀ X, Below W.heap.size W X → X.cell? (ad.add j) = some (.int .u16 (hv : Int))) := fun X hX => (hX.cell (World.block_lt_of_cell? _ _ Hcv.out)).trans Hcv.out
      go_cut [10] (fun s10 wx => ∃ q, s10 = .pointer (some ⟨q, 0, none⟩) ∧ Box wx q 26 [.int .i64 (k : Int), .bool (!wo && y), .int .u16 (wv : Int)] ∧ Below W.heap.size W wx)
      case first =>
        have hB1 : Below W.heap.size W W.drew := (Below.refl _ _).drew
        cases wo with
        | true =>
          refine wp_region_F 16 (W.heap.size) (by kernel_rfl) ?_
          refine wpAnyF_pure (i := 0) (oi := { dst := some 22, op := Op.move (Go.Operand.tmp 2), type := 3, pos := "member.go:79", after := #[], guard := none }) (v := ?v1) rfl (by kernel_rfl) (by kernel_rfl) (by kernel_rfl) (fun _ _ _ h => h) (Or.inl ⟨by rfl, ?hy1⟩) ?rs1
          case hy1 => (intro W hW; go_simp; try with_reducible rfl)
          try simp only [Act.put, List.setIfInBounds_toArray, List.set_cons_zero, List.set_cons_succ]
          refine wpAnyF_pure (i := 1) (oi := { dst := some 23, op := Op.fieldAddr 24 (Go.Operand.tmp 7) 3, type := 0, pos := "member.go:79", after := #[], guard := none }) (v := ?v2) rfl (by kernel_rfl) (by kernel_rfl) (by kernel_rfl) (fun _ _ _ h => h) (Or.inl ⟨by rfl, ?hy2⟩) ?rs2
          case hy2 => (intro W hW; go_simp; try with_reducible rfl)
          try simp only [Act.put, List.setIfInBounds_toArray, List.set_cons_zero, List.set_cons_succ]
          refine wpAnyF_take (i := 2) (oi := { dst := some 24, op := Op.load 4 (Go.Operand.tmp 23), type := 4, pos := "member.go:79", after := #[{ on := 1, ground := Ground.data }], guard := none }) (v := ?v3) rfl (by kernel_rfl) (by kernel_rfl) (by kernel_rfl) (by decide) (by kernel_rfl) (fun _ _ _ h => h) (Or.inl ⟨by rfl, ?hy3⟩) ?rs3
          case hy3 => (intro W hW; have hc := F7.out _ (hB1.trans hW); go_simp; try with_reducible rfl)
          try simp only [Act.put, List.setIfInBounds_toArray, List.set_cons_zero, List.set_cons_succ]
          refine wpAnyF_pure (i := 3) (oi := { dst := some 25, op := Op.unOp Go.UnOp.not 4 (Go.Operand.tmp 24), type := 4, pos := "member.go:79", after := #[{ on := 2, ground := Ground.data }], guard := none }) (v := ?v4) rfl (by kernel_rfl) (by kernel_rfl) (by kernel_rfl) (fun _ _ _ h => h) (Or.inl ⟨by rfl, ?hy4⟩) ?rs4
          case hy4 => (intro W hW; go_simp; try with_reducible rfl)
          try simp only [Act.put, List.setIfInBounds_toArray, List.set_cons_zero, List.set_cons_succ]
          refine wpAnyF_pure (i := 4) (oi := { dst := some 26, op := Op.move (Go.Operand.tmp 25), type := 4, pos := "member.go:79", after := #[{ on := 3, ground := Ground.data }], guard := none }) (v := ?v5) rfl (by kernel_rfl) (by kernel_rfl) (by kernel_rfl) (fun _ _ _ h => h) (Or.inl ⟨by rfl, ?hy5⟩) ?rs5
          case hy5 => (intro W hW; go_simp; try with_reducible rfl)
          try simp only [Act.put, List.setIfInBounds_toArray, List.set_cons_zero, List.set_cons_succ]
          refine wpAnyF_pure (i := 5) (oi := { dst := some 27, op := Op.move (Go.Operand.tmp 1), type := 35, pos := "member.go:79", after := #[{ on := 4, ground := Ground.guard }], guard := some (4, true) }) (v := undef) rfl (by kernel_rfl) (by kernel_rfl) (by kernel_rfl) (fun _ _ _ h => h) (Or.inr ⟨by rfl, rfl⟩) ?_
          try simp only [Act.put, List.setIfInBounds_toArray, List.set_cons_zero, List.set_cons_succ]
          refine wpAnyF_pure (i := 6) (oi := { dst := some 28, op := Op.move (Go.Operand.tmp 8), type := 3, pos := "member.go:79", after := #[{ on := 4, ground := Ground.guard }], guard := some (4, true) }) (v := undef) rfl (by kernel_rfl) (by kernel_rfl) (by kernel_rfl) (fun _ _ _ h => h) (Or.inr ⟨by rfl, rfl⟩) ?_
          try simp only [Act.put, List.setIfInBounds_toArray, List.set_cons_zero, List.set_cons_succ]
          refine wpAnyF_pure (i := 7) (oi := { dst := some 29, op := Op.indexAddr 35 (Go.Operand.tmp 27) (Go.Operand.tmp 28), type := 0, pos := "member.go:79", after := #[{ on := 5, ground := Ground.data }, { on := 6, ground := Ground.data }, { on := 4, ground := Ground.guard }], guard := some (4, true) }) (v := undef) rfl (by kernel_rfl) (by kernel_rfl) (by kernel_rfl) (fun _ _ _ h => h) (Or.inr ⟨by rfl, rfl⟩) ?_
          try simp only [Act.put, List.setIfInBounds_toArray, List.set_cons_zero, List.set_cons_succ]
          refine wpAnyF_pure (i := 8) (oi := { dst := some 30, op := Op.load 22 (Go.Operand.tmp 29), type := 22, pos := "member.go:79", after := #[{ on := 7, ground := Ground.data }, { on := 4, ground := Ground.guard }], guard := some (4, true) }) (v := undef) rfl (by kernel_rfl) (by kernel_rfl) (by kernel_rfl) (fun _ _ _ h => h) (Or.inr ⟨by rfl, rfl⟩) ?_
          try simp only [Act.put, List.setIfInBounds_toArray, List.set_cons_zero, List.set_cons_succ]
          refine wpAnyF_pure (i := 9) (oi := { dst := some 31, op := Op.move (Go.Operand.tmp 2), type := 3, pos := "member.go:79", after := #[{ on := 4, ground := Ground.guard }], guard := some (4, true) }) (v := undef) rfl (by kernel_rfl) (by kernel_rfl) (by kernel_rfl) (fun _ _ _ h => h) (Or.inr ⟨by rfl, rfl⟩) ?_
          try simp only [Act.put, List.setIfInBounds_toArray, List.set_cons_zero, List.set_cons_succ]
          refine wpAnyF_pure (i := 10) (oi := { dst := some 32, op := Op.call { callee := Callee.value (Go.Operand.func 26), args := #[Go.Operand.tmp 30, Go.Operand.tmp 31], argTypes := #[22, 3] }, type := 4, pos := "member.go:79", after := #[{ on := 8, ground := Ground.data }, { on := 9, ground := Ground.data }, { on := 4, ground := Ground.chain }, { on := 4, ground := Ground.guard }], guard := some (4, true) }) (v := undef) rfl (by kernel_rfl) (by kernel_rfl) (by kernel_rfl) (fun _ _ _ h => h) (Or.inr ⟨by rfl, rfl⟩) ?_
          try simp only [Act.put, List.setIfInBounds_toArray, List.set_cons_zero, List.set_cons_succ]
          refine wpAnyF_pure (i := 11) (oi := { dst := some 33, op := Op.pick (Go.Operand.tmp 26) (Go.Operand.tmp 32) (Go.Operand.const (Go.Value.bool false)), type := 4, pos := "member.go:79", after := #[{ on := 4, ground := Ground.data }, { on := 10, ground := Ground.data }], guard := none }) (v := ?v12) rfl (by kernel_rfl) (by kernel_rfl) (by kernel_rfl) (fun _ _ _ h => h) (Or.inl ⟨by rfl, ?hy12⟩) ?rs12
          case hy12 => (intro W hW; go_simp; try with_reducible rfl)
          try simp only [Act.put, List.setIfInBounds_toArray, List.set_cons_zero, List.set_cons_succ]
          refine wpAnyF_pure (i := 12) (oi := { dst := some 34, op := Op.fieldAddr 24 (Go.Operand.tmp 7) 0, type := 0, pos := "member.go:79", after := #[], guard := none }) (v := ?v13) rfl (by kernel_rfl) (by kernel_rfl) (by kernel_rfl) (fun _ _ _ h => h) (Or.inl ⟨by rfl, ?hy13⟩) ?rs13
          case hy13 => (intro W hW; go_simp; try with_reducible rfl)
          try simp only [Act.put, List.setIfInBounds_toArray, List.set_cons_zero, List.set_cons_succ]
          refine wpAnyF_take (i := 13) (oi := { dst := some 35, op := Op.load 22 (Go.Operand.tmp 34), type := 22, pos := "member.go:79", after := #[{ on := 12, ground := Ground.data }], guard := none }) (v := ?v14) rfl (by kernel_rfl) (by kernel_rfl) (by kernel_rfl) (by decide) (by kernel_rfl) (fun _ _ _ h => h) (Or.inl ⟨by rfl, ?hy14⟩) ?rs14
          case hy14 => (intro W hW; have hc := F7.out _ (hB1.trans hW); go_simp; try with_reducible rfl)
          try simp only [Act.put, List.setIfInBounds_toArray, List.set_cons_zero, List.set_cons_succ]
          refine wpAnyF_pure (i := 14) (oi := { dst := some 36, op := Op.build 26 #[(0, Go.Operand.tmp 22), (1, Go.Operand.tmp 33), (2, Go.Operand.tmp 35)], type := 26, pos := "member.go:79", after := #[{ on := 0, ground := Ground.data }, { on := 11, ground := Ground.data }, { on := 13, ground := Ground.data }], guard := none }) (v := ?v15) rfl (by kernel_rfl) (by kernel_rfl) (by kernel_rfl) (fun _ _ _ h => h) (Or.inl ⟨by rfl, ?hy15⟩) ?rs15
          case hy15 => (intro W hW; go_simp; try with_reducible rfl)
          try simp only [Act.put, List.setIfInBounds_toArray, List.set_cons_zero, List.set_cons_succ]
          refine wpAnyF_one (i := 15) (o := { dst := some 10, op := Op.alloc 26, type := 0, pos := "member.go:79", after := #[], guard := none }) (by kernel_rfl) rfl (fun K hK => ?_)
          go_simp
          have hz := Box.new W.drew 26 [.int .i64 0, .bool false, .int .u16 0]; replace hB1 := hB1.alloc hB1.size (.cells #[.int .i64 0, .bool false, .int .u16 0] 26)
          refine hK.out _ _ ((Below.refl _ _).alloc (by first | exact Nat.le_refl _ | omega | (simp; omega)) _) ?_
          clear hK K
          try simp only [Act.put, List.setIfInBounds_toArray, List.set_cons_zero, List.set_cons_succ]
          refine wpAnyF_last (i := 16) (o := { dst := none, op := Op.store 26 (Go.Operand.tmp 10) (Go.Operand.tmp 36), type := 0, pos := "member.go:79", after := #[{ on := 15, ground := Ground.data }, { on := 14, ground := Ground.data }, { on := 10, ground := Ground.chain }, { on := 0, ground := Ground.phase }, { on := 1, ground := Ground.phase }, { on := 2, ground := Ground.phase }, { on := 3, ground := Ground.phase }, { on := 4, ground := Ground.phase }, { on := 5, ground := Ground.phase }, { on := 6, ground := Ground.phase }, { on := 7, ground := Ground.phase }, { on := 8, ground := Ground.phase }, { on := 9, ground := Ground.phase }, { on := 10, ground := Ground.phase }, { on := 11, ground := Ground.phase }, { on := 12, ground := Ground.phase }, { on := 13, ground := Ground.phase }, { on := 14, ground := Ground.phase }, { on := 15, ground := Ground.phase }], guard := none }) (by kernel_rfl) rfl (by decide) (fun K hK => ?_)
          go_simp
          refine hK.out _ _ ?_
          clear hK K
          try simp only [Act.put, List.setIfInBounds_toArray, List.set_cons_zero, List.set_cons_succ]
          refine wpAnyF_done (by kernel_rfl) ?_
          go_wp2
          go_meet
          exact ⟨_, rfl, Box.drew (Box.new W 26 [.int .i64 (k : Int), .bool false, .int .u16 (wv : Int)]), ((Below.refl _ _).alloc (Nat.le_refl _) _).drew⟩
        | false =>
          refine wp_region_F 16 (W.heap.size) (by kernel_rfl) ?_
          refine wpAnyF_pure (i := 0) (oi := { dst := some 22, op := Op.move (Go.Operand.tmp 2), type := 3, pos := "member.go:79", after := #[], guard := none }) (v := ?v16) rfl (by kernel_rfl) (by kernel_rfl) (by kernel_rfl) (fun _ _ _ h => h) (Or.inl ⟨by rfl, ?hy16⟩) ?rs16
          case hy16 => (intro W hW; go_simp; try with_reducible rfl)
          try simp only [Act.put, List.setIfInBounds_toArray, List.set_cons_zero, List.set_cons_succ]
          refine wpAnyF_pure (i := 1) (oi := { dst := some 23, op := Op.fieldAddr 24 (Go.Operand.tmp 7) 3, type := 0, pos := "member.go:79", after := #[], guard := none }) (v := ?v17) rfl (by kernel_rfl) (by kernel_rfl) (by kernel_rfl) (fun _ _ _ h => h) (Or.inl ⟨by rfl, ?hy17⟩) ?rs17
          case hy17 => (intro W hW; go_simp; try with_reducible rfl)
          try simp only [Act.put, List.setIfInBounds_toArray, List.set_cons_zero, List.set_cons_succ]
          refine wpAnyF_take (i := 2) (oi := { dst := some 24, op := Op.load 4 (Go.Operand.tmp 23), type := 4, pos := "member.go:79", after := #[{ on := 1, ground := Ground.data }], guard := none }) (v := ?v18) rfl (by kernel_rfl) (by kernel_rfl) (by kernel_rfl) (by decide) (by kernel_rfl) (fun _ _ _ h => h) (Or.inl ⟨by rfl, ?hy18⟩) ?rs18
          case hy18 => (intro W hW; have hc := F7.out _ (hB1.trans hW); go_simp; try with_reducible rfl)
          try simp only [Act.put, List.setIfInBounds_toArray, List.set_cons_zero, List.set_cons_succ]
          refine wpAnyF_pure (i := 3) (oi := { dst := some 25, op := Op.unOp Go.UnOp.not 4 (Go.Operand.tmp 24), type := 4, pos := "member.go:79", after := #[{ on := 2, ground := Ground.data }], guard := none }) (v := ?v19) rfl (by kernel_rfl) (by kernel_rfl) (by kernel_rfl) (fun _ _ _ h => h) (Or.inl ⟨by rfl, ?hy19⟩) ?rs19
          case hy19 => (intro W hW; go_simp; try with_reducible rfl)
          try simp only [Act.put, List.setIfInBounds_toArray, List.set_cons_zero, List.set_cons_succ]
          refine wpAnyF_pure (i := 4) (oi := { dst := some 26, op := Op.move (Go.Operand.tmp 25), type := 4, pos := "member.go:79", after := #[{ on := 3, ground := Ground.data }], guard := none }) (v := ?v20) rfl (by kernel_rfl) (by kernel_rfl) (by kernel_rfl) (fun _ _ _ h => h) (Or.inl ⟨by rfl, ?hy20⟩) ?rs20
          case hy20 => (intro W hW; go_simp; try with_reducible rfl)
          try simp only [Act.put, List.setIfInBounds_toArray, List.set_cons_zero, List.set_cons_succ]
          refine wpAnyF_pure (i := 5) (oi := { dst := some 27, op := Op.move (Go.Operand.tmp 1), type := 35, pos := "member.go:79", after := #[{ on := 4, ground := Ground.guard }], guard := some (4, true) }) (v := ?v21) rfl (by kernel_rfl) (by kernel_rfl) (by kernel_rfl) (fun _ _ _ h => h) (Or.inl ⟨by rfl, ?hy21⟩) ?rs21
          case hy21 => (intro W hW; go_simp; try with_reducible rfl)
          try simp only [Act.put, List.setIfInBounds_toArray, List.set_cons_zero, List.set_cons_succ]
          refine wpAnyF_pure (i := 6) (oi := { dst := some 28, op := Op.move (Go.Operand.tmp 8), type := 3, pos := "member.go:79", after := #[{ on := 4, ground := Ground.guard }], guard := some (4, true) }) (v := ?v22) rfl (by kernel_rfl) (by kernel_rfl) (by kernel_rfl) (fun _ _ _ h => h) (Or.inl ⟨by rfl, ?hy22⟩) ?rs22
          case hy22 => (intro W hW; go_simp; try with_reducible rfl)
          try simp only [Act.put, List.setIfInBounds_toArray, List.set_cons_zero, List.set_cons_succ]
          refine wpAnyF_pure (i := 7) (oi := { dst := some 29, op := Op.indexAddr 35 (Go.Operand.tmp 27) (Go.Operand.tmp 28), type := 0, pos := "member.go:79", after := #[{ on := 5, ground := Ground.data }, { on := 6, ground := Ground.data }, { on := 4, ground := Ground.guard }], guard := some (4, true) }) (v := ?v23) rfl (by kernel_rfl) (by kernel_rfl) (by kernel_rfl) (fun _ _ _ h => h) (Or.inl ⟨by rfl, ?hy23⟩) ?rs23
          case hy23 => (intro W hW; go_simp; try with_reducible rfl)
          try simp only [Act.put, List.setIfInBounds_toArray, List.set_cons_zero, List.set_cons_succ]
          refine wpAnyF_take (i := 8) (oi := { dst := some 30, op := Op.load 22 (Go.Operand.tmp 29), type := 22, pos := "member.go:79", after := #[{ on := 7, ground := Ground.data }, { on := 4, ground := Ground.guard }], guard := some (4, true) }) (v := ?v24) rfl (by kernel_rfl) (by kernel_rfl) (by kernel_rfl) (by decide) (by kernel_rfl) (fun _ _ _ h => h) (Or.inl ⟨by rfl, ?hy24⟩) ?rs24
          case hy24 => (intro W hW; have hc := FH.out _ (hB1.trans hW); go_simp; try with_reducible rfl)
          try simp only [Act.put, List.setIfInBounds_toArray, List.set_cons_zero, List.set_cons_succ]
          refine wpAnyF_pure (i := 9) (oi := { dst := some 31, op := Op.move (Go.Operand.tmp 2), type := 3, pos := "member.go:79", after := #[{ on := 4, ground := Ground.guard }], guard := some (4, true) }) (v := ?v25) rfl (by kernel_rfl) (by kernel_rfl) (by kernel_rfl) (fun _ _ _ h => h) (Or.inl ⟨by rfl, ?hy25⟩) ?rs25
          case hy25 => (intro W hW; go_simp; try with_reducible rfl)
          try simp only [Act.put, List.setIfInBounds_toArray, List.set_cons_zero, List.set_cons_succ]
          refine wpAnyF_pure (i := 12) (oi := { dst := some 34, op := Op.fieldAddr 24 (Go.Operand.tmp 7) 0, type := 0, pos := "member.go:79", after := #[], guard := none }) (v := ?v26) rfl (by kernel_rfl) (by kernel_rfl) (by kernel_rfl) (fun _ _ _ h => h) (Or.inl ⟨by rfl, ?hy26⟩) ?rs26
          case hy26 => (intro W hW; go_simp; try with_reducible rfl)
          try simp only [Act.put, List.setIfInBounds_toArray, List.set_cons_zero, List.set_cons_succ]
          refine wpAnyF_take (i := 13) (oi := { dst := some 35, op := Op.load 22 (Go.Operand.tmp 34), type := 22, pos := "member.go:79", after := #[{ on := 12, ground := Ground.data }], guard := none }) (v := ?v27) rfl (by kernel_rfl) (by kernel_rfl) (by kernel_rfl) (by decide) (by kernel_rfl) (fun _ _ _ h => h) (Or.inl ⟨by rfl, ?hy27⟩) ?rs27
          case hy27 => (intro W hW; have hc := F7.out _ (hB1.trans hW); go_simp; try with_reducible rfl)
          try simp only [Act.put, List.setIfInBounds_toArray, List.set_cons_zero, List.set_cons_succ]
          refine wpAnyF_two (i := 10) (j := 15) (oi := { dst := some 32, op := Op.call { callee := Callee.value (Go.Operand.func 26), args := #[Go.Operand.tmp 30, Go.Operand.tmp 31], argTypes := #[22, 3] }, type := 4, pos := "member.go:79", after := #[{ on := 8, ground := Ground.data }, { on := 9, ground := Ground.data }, { on := 4, ground := Ground.chain }, { on := 4, ground := Ground.guard }], guard := some (4, true) }) (oj := { dst := some 10, op := Op.alloc 26, type := 0, pos := "member.go:79", after := #[], guard := none }) (by kernel_rfl) rfl rfl (fun K hK => ?_) (fun K hK => ?_)
          go_simp
          refine (C2.out _).mono ?_; rintro e w7 ⟨rfl, hw7⟩; obtain rfl := hw7.symm
          refine hK.out _ _ (Below.refl _ _) ?_
          clear hK K
          try simp only [Act.put, List.setIfInBounds_toArray, List.set_cons_zero, List.set_cons_succ]
          refine wpAnyF_pure (i := 11) (oi := { dst := some 33, op := Op.pick (Go.Operand.tmp 26) (Go.Operand.tmp 32) (Go.Operand.const (Go.Value.bool false)), type := 4, pos := "member.go:79", after := #[{ on := 4, ground := Ground.data }, { on := 10, ground := Ground.data }], guard := none }) (v := ?v28) rfl (by kernel_rfl) (by kernel_rfl) (by kernel_rfl) (fun _ _ _ h => h) (Or.inl ⟨by rfl, ?hy28⟩) ?rs28
          case hy28 => (intro W hW; go_simp; try with_reducible rfl)
          try simp only [Act.put, List.setIfInBounds_toArray, List.set_cons_zero, List.set_cons_succ]
          refine wpAnyF_pure (i := 14) (oi := { dst := some 36, op := Op.build 26 #[(0, Go.Operand.tmp 22), (1, Go.Operand.tmp 33), (2, Go.Operand.tmp 35)], type := 26, pos := "member.go:79", after := #[{ on := 0, ground := Ground.data }, { on := 11, ground := Ground.data }, { on := 13, ground := Ground.data }], guard := none }) (v := ?v29) rfl (by kernel_rfl) (by kernel_rfl) (by kernel_rfl) (fun _ _ _ h => h) (Or.inl ⟨by rfl, ?hy29⟩) ?rs29
          case hy29 => (intro W hW; go_simp; try with_reducible rfl)
          try simp only [Act.put, List.setIfInBounds_toArray, List.set_cons_zero, List.set_cons_succ]
          refine wpAnyF_one (i := 15) (o := { dst := some 10, op := Op.alloc 26, type := 0, pos := "member.go:79", after := #[], guard := none }) (by kernel_rfl) rfl (fun K hK => ?_)
          go_simp
          have hz : True := trivial; replace hB1 := hB1.alloc hB1.size (.cells #[.int .i64 0, .bool false, .int .u16 0] 26)
          refine hK.out _ _ ((Below.refl _ _).alloc (by first | exact Nat.le_refl _ | omega | (simp; omega)) _) ?_
          clear hK K
          try simp only [Act.put, List.setIfInBounds_toArray, List.set_cons_zero, List.set_cons_succ]
          refine wpAnyF_last (i := 16) (o := { dst := none, op := Op.store 26 (Go.Operand.tmp 10) (Go.Operand.tmp 36), type := 0, pos := "member.go:79", after := #[{ on := 15, ground := Ground.data }, { on := 14, ground := Ground.data }, { on := 10, ground := Ground.chain }, { on := 0, ground := Ground.phase }, { on := 1, ground := Ground.phase }, { on := 2, ground := Ground.phase }, { on := 3, ground := Ground.phase }, { on := 4, ground := Ground.phase }, { on := 5, ground := Ground.phase }, { on := 6, ground := Ground.phase }, { on := 7, ground := Ground.phase }, { on := 8, ground := Ground.phase }, { on := 9, ground := Ground.phase }, { on := 10, ground := Ground.phase }, { on := 11, ground := Ground.phase }, { on := 12, ground := Ground.phase }, { on := 13, ground := Ground.phase }, { on := 14, ground := Ground.phase }, { on := 15, ground := Ground.phase }], guard := none }) (by kernel_rfl) rfl (by decide) (fun K hK => ?_)
          go_simp
          refine hK.out _ _ ?_
          clear hK K
          try simp only [Act.put, List.setIfInBounds_toArray, List.set_cons_zero, List.set_cons_succ]
          refine wpAnyF_done (by kernel_rfl) ?_
          rotate_left
          go_simp
          have hz : True := trivial; replace hB1 := hB1.alloc hB1.size (.cells #[.int .i64 0, .bool false, .int .u16 0] 26)
          refine hK.out _ _ ((Below.refl _ _).alloc (by first | exact Nat.le_refl _ | omega | (simp; omega)) _) ?_
          clear hK K
          try simp only [Act.put, List.setIfInBounds_toArray, List.set_cons_zero, List.set_cons_succ]
          refine wpAnyF_one (i := 10) (o := { dst := some 32, op := Op.call { callee := Callee.value (Go.Operand.func 26), args := #[Go.Operand.tmp 30, Go.Operand.tmp 31], argTypes := #[22, 3] }, type := 4, pos := "member.go:79", after := #[{ on := 8, ground := Ground.data }, { on := 9, ground := Ground.data }, { on := 4, ground := Ground.chain }, { on := 4, ground := Ground.guard }], guard := some (4, true) }) (by kernel_rfl) rfl (fun K hK => ?_)
          go_simp
          refine (C2.out _).mono ?_; rintro e w7 ⟨rfl, hw7⟩; obtain rfl := hw7.symm
          refine hK.out _ _ (Below.refl _ _) ?_
          clear hK K
          try simp only [Act.put, List.setIfInBounds_toArray, List.set_cons_zero, List.set_cons_succ]
          refine wpAnyF_pure (i := 11) (oi := { dst := some 33, op := Op.pick (Go.Operand.tmp 26) (Go.Operand.tmp 32) (Go.Operand.const (Go.Value.bool false)), type := 4, pos := "member.go:79", after := #[{ on := 4, ground := Ground.data }, { on := 10, ground := Ground.data }], guard := none }) (v := ?v30) rfl (by kernel_rfl) (by kernel_rfl) (by kernel_rfl) (fun _ _ _ h => h) (Or.inl ⟨by rfl, ?hy30⟩) ?rs30
          case hy30 => (intro W hW; go_simp; try with_reducible rfl)
          try simp only [Act.put, List.setIfInBounds_toArray, List.set_cons_zero, List.set_cons_succ]
          refine wpAnyF_pure (i := 14) (oi := { dst := some 36, op := Op.build 26 #[(0, Go.Operand.tmp 22), (1, Go.Operand.tmp 33), (2, Go.Operand.tmp 35)], type := 26, pos := "member.go:79", after := #[{ on := 0, ground := Ground.data }, { on := 11, ground := Ground.data }, { on := 13, ground := Ground.data }], guard := none }) (v := ?v31) rfl (by kernel_rfl) (by kernel_rfl) (by kernel_rfl) (fun _ _ _ h => h) (Or.inl ⟨by rfl, ?hy31⟩) ?rs31
          case hy31 => (intro W hW; go_simp; try with_reducible rfl)
          try simp only [Act.put, List.setIfInBounds_toArray, List.set_cons_zero, List.set_cons_succ]
          refine wpAnyF_last (i := 16) (o := { dst := none, op := Op.store 26 (Go.Operand.tmp 10) (Go.Operand.tmp 36), type := 0, pos := "member.go:79", after := #[{ on := 15, ground := Ground.data }, { on := 14, ground := Ground.data }, { on := 10, ground := Ground.chain }, { on := 0, ground := Ground.phase }, { on := 1, ground := Ground.phase }, { on := 2, ground := Ground.phase }, { on := 3, ground := Ground.phase }, { on := 4, ground := Ground.phase }, { on := 5, ground := Ground.phase }, { on := 6, ground := Ground.phase }, { on := 7, ground := Ground.phase }, { on := 8, ground := Ground.phase }, { on := 9, ground := Ground.phase }, { on := 10, ground := Ground.phase }, { on := 11, ground := Ground.phase }, { on := 12, ground := Ground.phase }, { on := 13, ground := Ground.phase }, { on := 14, ground := Ground.phase }, { on := 15, ground := Ground.phase }], guard := none }) (by kernel_rfl) rfl (by decide) (fun K hK => ?_)
          go_simp
          refine hK.out _ _ ?_
          clear hK K
          try simp only [Act.put, List.setIfInBounds_toArray, List.set_cons_zero, List.set_cons_succ]
          refine wpAnyF_done (by kernel_rfl) ?_
          rotate_left
          all_goals
            go_wp2
            go_meet
            exact ⟨_, rfl, Box.drew (Box.new W 26 [.int .i64 (k : Int), .bool y, .int .u16 (wv : Int)]), ((Below.refl _ _).alloc (Nat.le_refl _) _).drew⟩
      case rest =>
        obtain ⟨q, rfl, hq, hcb⟩ := hcut
        have ho := Ho.out.below hcb
        have h7 := H7.out.below hcb H7.out.lt
        have h9 := H9.out.below hcb H9.out.lt
        have hgr := grownBy_then Hgr.out (grownBy_below (row := some g) hcb)
        have a0 := h9.cell 0 rfl
        have a1 := h9.cell 1 rfl
        have a2 := h9.cell 2 rfl
        have a3 := h9.cell 3 rfl
        have b0 := hq.cell 0 rfl
        have b1 := hq.cell 1 rfl
        have b2 := hq.cell 2 rfl
        clear Ho H7 H9 Hgr F7 FH Hcv hq h9 hcb
        have Ho := Lib.hid ho
        have H7 := Lib.hid h7
        have Hgr := Lib.hid hgr
        clear ho h7 hgr
        obtain ⟨rv, rt, rl, ro⟩ := rr
        go_wp2_with fail
        refine (C1.out _).mono ?_
        rintro e w8 ⟨rfl, hb8⟩
        have ho := Ho.out.below hb8
        have h7 := H7.out.below hb8 H7.out.lt
        have hgr := grownBy_then Hgr.out (grownBy_below (row := some g) hb8)
        have k0 := ho.cellAt memK Hcur.out (j := 0) rfl
        have k1 := ho.cellAt memK Hcur.out (j := 1) rfl
        have k2 := ho.cellAt memK Hcur.out (j := 2) rfl
        have k3 := ho.cellAt memK Hcur.out (j := 3) rfl
        simp only [Nat.add_zero] at k0 k1 k2 k3
        have f0 := ho.freeAt (j * 4)
        have f1 := ho.freeAt (j * 4 + 1)
        have f2 := ho.freeAt (j * 4 + 2)
        have f3 := ho.freeAt (j * 4 + 3)
        have hgi8 := ho.inHeap g rfl
        have Hput := Lib.hid (ho.putMem Hcur.out rv rt rl ro)
        have H7' := Lib.hid (h7.grown (grownBy_four w8 g (j * 4) (j * 4 + 1) (j * 4 + 2) (j * 4 + 3) (.int .u16 (rv : Int)) (.int .i64 rt) (.int .i64 rl) (.bool ro)) (by simp; omega))
        have Hgr' := Lib.hid (grownBy_then hgr (grownBy_four w8 g (j * 4) (j * 4 + 1) (j * 4 + 2) (j * 4 + 3) (.int .u16 (rv : Int)) (.int .i64 rt) (.int .i64 rl) (.bool ro)))
        clear ho h7 hgr Ho H7 Hgr C1 a0 a1 a2 a3 b0 b1 b2 hb8
        go_wp2
        go_roundw
        case rel => exact ⟨j + 1, by omega, by go_num, rfl, by rw [← Hset.out]; exact Hput.out, H7'.out, Hgr'.out⟩
        case measure => simp [intOf] <;> omega
    · obtain rfl : j = n := by omega
      rw [List.take_of_length_le (by rw [Hlen.out]; exact Nat.le_refl _), List.drop_eq_nil_of_le (by rw [HLn.out]; exact Nat.le_refl _), List.append_nil] at ho
      go_wp2
      go_ret
      exact ⟨rfl, ho, hgr⟩
end Go.Proofs.Ytnmoddknghcobaa
