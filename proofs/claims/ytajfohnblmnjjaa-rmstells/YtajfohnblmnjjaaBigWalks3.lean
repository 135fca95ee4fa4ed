/-
  Contracts of the reference's whole numbers: Add, Sub.
-/
import Derived.Test.YtajfohnblmnjjaaBigWalks2
namespace Go.Proofs.Ytajfohnblmnjjaa
open Go.RowKit
set_option linter.unusedVariables false
set_option maxRecDepth 20000

/-- Both fields are stored: digits of the call's own, and a sign. -/
theorem RawAt.stored {w w1 : World} {b : Nat} {s : Bool} {A : Option Addr} {c : Nat} {l : List Int} (hz : IntBox w1 b) (ho : Ow (Value.int .u32) w1 w.heap.size 84 (.slice A l.length c) l) (hd : Dig l) :
    RawAt ((w1.setCell ⟨b, 0, none⟩ (.bool s)).setCell ⟨b, 1, none⟩ (.slice A l.length c)) b s A l.length c l := by
  have hz' := hz
  obtain ⟨s0, A0, n0, c0, hb⟩ := hz
  exact ⟨hb.pair _ _, rd_grown ho.rd hz' (grownBy_pair _ _ _ _), ho.len.2.1, hd⟩

theorem sum_same {x y : Int} (h : decide (x < 0) = decide (y < 0)) : sgn (decide (x < 0)) ((x.natAbs : Int) + y.natAbs) = x + y := by
  by_cases h1 : x < 0
  · rw [decide_eq_true h1] at h ⊢
    have := of_decide_eq_true h.symm
    simp [sgn]; omega
  · rw [decide_eq_false h1] at h ⊢
    have := of_decide_eq_false h.symm
    simp [sgn]; omega
theorem sum_apart {x y : Int} (h : decide (x < 0) ≠ decide (y < 0)) : sgn (decide (x < 0)) ((x.natAbs : Int) - y.natAbs) = x + y := by
  by_cases h1 : x < 0
  · rw [decide_eq_true h1] at h ⊢
    have : ¬ y < 0 := fun k => h (by rw [decide_eq_true k])
    simp [sgn]; omega
  · rw [decide_eq_false h1] at h ⊢
    have : y < 0 := by
      rcases Int.lt_or_le y 0 with k | k
      · exact k
      · exact absurd (by rw [decide_eq_false (by omega)]) h
    simp [sgn]; omega

theorem BigAt.drewN {w : World} {b : Nat} {z : Int} (h : BigAt w b z) (q : Nat) : BigAt (w.drewN q) b z := h.below (below_draws ⟨q, rfl⟩)

set_option maxHeartbeats 1600000 in
theorem BigAdd_any (bz bx bY : Nat) (x y : Int) (w : World) (hz : IntBox w bz) (hx : BigAt w bx x) (hy : BigAt w bY y) (sx : ((x.natAbs : Nat) : Int) < pow32 1000000) (sy : ((y.natAbs : Nat) : Int) < pow32 1000000) :
    Calls Try.prog 38 #[ptr bz, ptr bx, ptr bY] w fun e w' => e = .returned (ptr bz) ∧ BigAt w' bz (x + y) ∧ w.grownBy w' (some bz) := by
  have C := Lib.hid (fun q => CmpAbs_any bx bY x y (w.drewN q) (hx.drewN q) (hy.drewN q) sx sy)
  obtain ⟨A, n, c, l, hr, ht, hm⟩ := hx
  obtain ⟨B, m, d, r, hs, hu, hv⟩ := hy
  have Hl := Lib.hid hr.rd.lenMap
  have Hr := Lib.hid hs.rd.lenMap
  have hn : n ≤ 1000000 := by rw [← Hl.out]; exact len_le hr.dig ht (by rw [hm]; exact sx)
  have hn' : m ≤ 1000000 := by rw [← Hr.out]; exact len_le hs.dig hu (by rw [hv]; exact sy)
  have Hm := Lib.hid hm; have Hv := Lib.hid hv; clear hm hv sx sy
  by_cases hsame : decide (x < 0) = decide (y < 0)
  · have Hsame := Lib.hid (sum_same hsame)
    have HD := Lib.hid (fun (W : World) (h1 : Rd W 1 A n (l.map (Value.int .u32))) (h2 : Rd W 1 B m (r.map (Value.int .u32))) => sumOf_any A n c l B m d r W h1 h2 hr.dig hs.dig hn hn')
    have c0 := hr.box.cell 0 rfl
    have d0 := hs.box.cell 0 rfl
    rw [← hsame] at d0 hs
    generalize decide (x < 0) = s at *
    clear hsame C
    go_enter Try.func38, Try.ntmps38
    go_wp2
    go_quiet (fail)
    go_wp2
    have hB0 : Below w.heap.size w (w.drewN nq) := below_draws ⟨_, rfl⟩
    have hr0 := hr.below hB0
    have hs0 := hs.below hB0
    have hz0 := hz.below hB0 hz.lt
    clear c0 d0
    generalize hw0 : w.drewN nq = w0 at *
    clear hw0
    have hlt0 : bx < w0.drew.heap.size ∧ bY < w0.drew.heap.size ∧ bz < w0.drew.heap.size := ⟨hr0.box.lt, hs0.box.lt, hz0.lt⟩
    obtain ⟨hxlt, hylt, hzlt⟩ := hlt0
    have Xc0 := Lib.hid (hr0.box.cell 0 rfl)
    have Xc1 := Lib.hid (hr0.box.cell 1 rfl)
    have Yc0 := Lib.hid (hs0.box.cell 0 rfl)
    have Yc1 := Lib.hid (hs0.box.cell 1 rfl)
    refine wp_region_F 15 (w0.drew.heap.size) (by kernel_rfl) ?_
    refine wpAnyF_pure (i := 0) (oi := { dst := some 36, op := Op.move (Go.Operand.tmp 0), type := 62, pos := "big.go:182", after := #[], guard := none }) (v := ?v1) rfl (by kernel_rfl) (by kernel_rfl) (by kernel_rfl) (fun _ _ _ h => h) (Or.inl ⟨by rfl, ?hy1⟩) ?rs1
    case hy1 => (intro W hW; go_simp; try with_reducible rfl)
    try simp only [Act.put, List.setIfInBounds_toArray, List.set_cons_zero, List.set_cons_succ]
    refine wpAnyF_pure (i := 1) (oi := { dst := some 37, op := Op.move (Go.Operand.tmp 0), type := 62, pos := "big.go:182", after := #[{ on := 17, ground := Ground.gcOnly Go.Departure.lateStores }], guard := none }) (v := ?v2) rfl (by kernel_rfl) (by kernel_rfl) (by kernel_rfl) (fun _ _ _ h => h) (Or.inl ⟨by rfl, ?hy2⟩) ?rs2
    case hy2 => (intro W hW; go_simp; try with_reducible rfl)
    try simp only [Act.put, List.setIfInBounds_toArray, List.set_cons_zero, List.set_cons_succ]
    refine wpAnyF_pure (i := 2) (oi := { dst := some 38, op := Op.move (Go.Operand.tmp 1), type := 62, pos := "big.go:182", after := #[], guard := none }) (v := ?v3) rfl (by kernel_rfl) (by kernel_rfl) (by kernel_rfl) (fun _ _ _ h => h) (Or.inl ⟨by rfl, ?hy3⟩) ?rs3
    case hy3 => (intro W hW; go_simp; try with_reducible rfl)
    try simp only [Act.put, List.setIfInBounds_toArray, List.set_cons_zero, List.set_cons_succ]
    refine wpAnyF_pure (i := 3) (oi := { dst := some 39, op := Op.nilCheck (Go.Operand.tmp 38), type := 0, pos := "big.go:182", after := #[{ on := 2, ground := Ground.data }], guard := none }) (v := ?v4) rfl (by kernel_rfl) (by kernel_rfl) (by kernel_rfl) (fun _ _ _ h => h) (Or.inl ⟨by rfl, ?hy4⟩) ?rs4
    case hy4 => (intro W hW; go_simp; try with_reducible rfl)
    try simp only [Act.put, List.setIfInBounds_toArray, List.set_cons_zero, List.set_cons_succ]
    refine wpAnyF_pure (i := 4) (oi := { dst := some 40, op := Op.fieldAddr 67 (Go.Operand.tmp 39) 0, type := 0, pos := "big.go:182", after := #[{ on := 3, ground := Ground.data }], guard := none }) (v := ?v5) rfl (by kernel_rfl) (by kernel_rfl) (by kernel_rfl) (fun _ _ _ h => h) (Or.inl ⟨by rfl, ?hy5⟩) ?rs5
    case hy5 => (intro W hW; go_simp; try with_reducible rfl)
    try simp only [Act.put, List.setIfInBounds_toArray, List.set_cons_zero, List.set_cons_succ]
    refine wpAnyF_take (i := 5) (oi := { dst := some 41, op := Op.load 4 (Go.Operand.tmp 40), type := 4, pos := "big.go:182", after := #[{ on := 4, ground := Ground.data }], guard := none }) (v := ?v6) rfl (by kernel_rfl) (by kernel_rfl) (by kernel_rfl) (by decide) (by kernel_rfl) (fun _ _ _ h => h) (Or.inl ⟨by rfl, ?hy6⟩) ?rs6
    case hy6 => (intro W hW; have hc := (hW.cell (p := ⟨bx, 0, none⟩) hxlt).trans (Xc0.out); go_simp; try with_reducible rfl)
    try simp only [Act.put, List.setIfInBounds_toArray, List.set_cons_zero, List.set_cons_succ]
    refine wpAnyF_pure (i := 6) (oi := { dst := some 42, op := Op.move (Go.Operand.tmp 1), type := 62, pos := "big.go:182", after := #[], guard := none }) (v := ?v7) rfl (by kernel_rfl) (by kernel_rfl) (by kernel_rfl) (fun _ _ _ h => h) (Or.inl ⟨by rfl, ?hy7⟩) ?rs7
    case hy7 => (intro W hW; go_simp; try with_reducible rfl)
    try simp only [Act.put, List.setIfInBounds_toArray, List.set_cons_zero, List.set_cons_succ]
    refine wpAnyF_pure (i := 7) (oi := { dst := some 43, op := Op.nilCheck (Go.Operand.tmp 42), type := 0, pos := "big.go:182", after := #[{ on := 6, ground := Ground.data }], guard := none }) (v := ?v8) rfl (by kernel_rfl) (by kernel_rfl) (by kernel_rfl) (fun _ _ _ h => h) (Or.inl ⟨by rfl, ?hy8⟩) ?rs8
    case hy8 => (intro W hW; go_simp; try with_reducible rfl)
    try simp only [Act.put, List.setIfInBounds_toArray, List.set_cons_zero, List.set_cons_succ]
    refine wpAnyF_pure (i := 8) (oi := { dst := some 44, op := Op.fieldAddr 67 (Go.Operand.tmp 43) 1, type := 0, pos := "big.go:182", after := #[{ on := 7, ground := Ground.data }], guard := none }) (v := ?v9) rfl (by kernel_rfl) (by kernel_rfl) (by kernel_rfl) (fun _ _ _ h => h) (Or.inl ⟨by rfl, ?hy9⟩) ?rs9
    case hy9 => (intro W hW; go_simp; try with_reducible rfl)
    try simp only [Act.put, List.setIfInBounds_toArray, List.set_cons_zero, List.set_cons_succ]
    refine wpAnyF_take (i := 9) (oi := { dst := some 45, op := Op.load 65 (Go.Operand.tmp 44), type := 65, pos := "big.go:182", after := #[{ on := 8, ground := Ground.data }], guard := none }) (v := ?v10) rfl (by kernel_rfl) (by kernel_rfl) (by kernel_rfl) (by decide) (by kernel_rfl) (fun _ _ _ h => h) (Or.inl ⟨by rfl, ?hy10⟩) ?rs10
    case hy10 => (intro W hW; have hc := (hW.cell (p := ⟨bx, 1, none⟩) hxlt).trans (Xc1.out); go_simp; try with_reducible rfl)
    try simp only [Act.put, List.setIfInBounds_toArray, List.set_cons_zero, List.set_cons_succ]
    refine wpAnyF_pure (i := 10) (oi := { dst := some 46, op := Op.move (Go.Operand.tmp 2), type := 62, pos := "big.go:182", after := #[], guard := none }) (v := ?v11) rfl (by kernel_rfl) (by kernel_rfl) (by kernel_rfl) (fun _ _ _ h => h) (Or.inl ⟨by rfl, ?hy11⟩) ?rs11
    case hy11 => (intro W hW; go_simp; try with_reducible rfl)
    try simp only [Act.put, List.setIfInBounds_toArray, List.set_cons_zero, List.set_cons_succ]
    refine wpAnyF_pure (i := 11) (oi := { dst := some 47, op := Op.nilCheck (Go.Operand.tmp 46), type := 0, pos := "big.go:182", after := #[{ on := 10, ground := Ground.data }], guard := none }) (v := ?v12) rfl (by kernel_rfl) (by kernel_rfl) (by kernel_rfl) (fun _ _ _ h => h) (Or.inl ⟨by rfl, ?hy12⟩) ?rs12
    case hy12 => (intro W hW; go_simp; try with_reducible rfl)
    try simp only [Act.put, List.setIfInBounds_toArray, List.set_cons_zero, List.set_cons_succ]
    refine wpAnyF_pure (i := 12) (oi := { dst := some 48, op := Op.fieldAddr 67 (Go.Operand.tmp 47) 1, type := 0, pos := "big.go:182", after := #[{ on := 11, ground := Ground.data }], guard := none }) (v := ?v13) rfl (by kernel_rfl) (by kernel_rfl) (by kernel_rfl) (fun _ _ _ h => h) (Or.inl ⟨by rfl, ?hy13⟩) ?rs13
    case hy13 => (intro W hW; go_simp; try with_reducible rfl)
    try simp only [Act.put, List.setIfInBounds_toArray, List.set_cons_zero, List.set_cons_succ]
    refine wpAnyF_take (i := 13) (oi := { dst := some 49, op := Op.load 65 (Go.Operand.tmp 48), type := 65, pos := "big.go:182", after := #[{ on := 12, ground := Ground.data }], guard := none }) (v := ?v14) rfl (by kernel_rfl) (by kernel_rfl) (by kernel_rfl) (by decide) (by kernel_rfl) (fun _ _ _ h => h) (Or.inl ⟨by rfl, ?hy14⟩) ?rs14
    case hy14 => (intro W hW; have hc := (hW.cell (p := ⟨bY, 1, none⟩) hylt).trans (Yc1.out); go_simp; try with_reducible rfl)
    try simp only [Act.put, List.setIfInBounds_toArray, List.set_cons_zero, List.set_cons_succ]
    refine wpAnyF_one (i := 14) (o := { dst := some 50, op := Op.call { callee := Callee.value (Go.Operand.func 56), args := #[Go.Operand.tmp 45, Go.Operand.tmp 49], argTypes := #[65, 65] }, type := 65, pos := "big.go:182", after := #[{ on := 9, ground := Ground.data }, { on := 13, ground := Ground.data }], guard := none }) (by kernel_rfl) rfl (fun K hK => ?_)
    go_simp
    refine (HD.out w0.drew hr0.rd.drew hs0.rd.drew).mono ?_; rintro e w1 ⟨v1, L, rfl, ho1, hd1, hm1, hl1, hbk⟩; obtain ⟨A2, c2, rfl, hcap2, _⟩ := ho1.form
    refine hK.out _ _ hbk ?_
    clear hK K
    try simp only [Act.put, List.setIfInBounds_toArray, List.set_cons_zero, List.set_cons_succ]
    refine wpAnyF_pure (i := 15) (oi := { dst := some 51, op := Op.nilCheck (Go.Operand.tmp 36), type := 0, pos := "big.go:182", after := #[{ on := 0, ground := Ground.data }, { on := 0, ground := Ground.phase }, { on := 1, ground := Ground.textOnly Go.Departure.lateStores }, { on := 2, ground := Ground.phase }, { on := 3, ground := Ground.phase }, { on := 4, ground := Ground.phase }, { on := 5, ground := Ground.phase }, { on := 6, ground := Ground.textOnly Go.Departure.lateStores }, { on := 7, ground := Ground.textOnly Go.Departure.lateStoresUnsure }, { on := 8, ground := Ground.textOnly Go.Departure.lateStoresUnsure }, { on := 9, ground := Ground.phase }, { on := 10, ground := Ground.textOnly Go.Departure.lateStores }, { on := 11, ground := Ground.textOnly Go.Departure.lateStoresUnsure }, { on := 12, ground := Ground.textOnly Go.Departure.lateStoresUnsure }, { on := 13, ground := Ground.phase }, { on := 14, ground := Ground.phase }], guard := none }) (v := ?v15) rfl (by kernel_rfl) (by kernel_rfl) (by kernel_rfl) (fun _ _ _ h => h) (Or.inl ⟨by rfl, ?hy15⟩) ?rs15
    case hy15 => (intro W hW; go_simp; try with_reducible rfl)
    try simp only [Act.put, List.setIfInBounds_toArray, List.set_cons_zero, List.set_cons_succ]
    refine wpAnyF_pure (i := 16) (oi := { dst := some 52, op := Op.fieldAddr 67 (Go.Operand.tmp 51) 0, type := 0, pos := "big.go:182", after := #[{ on := 15, ground := Ground.data }, { on := 0, ground := Ground.phase }, { on := 1, ground := Ground.textOnly Go.Departure.lateStores }, { on := 2, ground := Ground.phase }, { on := 3, ground := Ground.phase }, { on := 4, ground := Ground.phase }, { on := 5, ground := Ground.phase }, { on := 6, ground := Ground.textOnly Go.Departure.lateStores }, { on := 7, ground := Ground.textOnly Go.Departure.lateStoresUnsure }, { on := 8, ground := Ground.textOnly Go.Departure.lateStoresUnsure }, { on := 9, ground := Ground.phase }, { on := 10, ground := Ground.textOnly Go.Departure.lateStores }, { on := 11, ground := Ground.textOnly Go.Departure.lateStoresUnsure }, { on := 12, ground := Ground.textOnly Go.Departure.lateStoresUnsure }, { on := 13, ground := Ground.phase }, { on := 14, ground := Ground.phase }], guard := none }) (v := ?v16) rfl (by kernel_rfl) (by kernel_rfl) (by kernel_rfl) (fun _ _ _ h => h) (Or.inl ⟨by rfl, ?hy16⟩) ?rs16
    case hy16 => (intro W hW; go_simp; try with_reducible rfl)
    try simp only [Act.put, List.setIfInBounds_toArray, List.set_cons_zero, List.set_cons_succ]
    refine wpAnyF_last (i := 17) (o := { dst := none, op := Op.store 4 (Go.Operand.tmp 52) (Go.Operand.tmp 41), type := 0, pos := "big.go:182", after := #[{ on := 16, ground := Ground.data }, { on := 5, ground := Ground.data }, { on := 14, ground := Ground.chain }, { on := 0, ground := Ground.phase }, { on := 1, ground := Ground.textOnly Go.Departure.lateStores }, { on := 2, ground := Ground.phase }, { on := 3, ground := Ground.phase }, { on := 4, ground := Ground.phase }, { on := 5, ground := Ground.phase }, { on := 6, ground := Ground.textOnly Go.Departure.lateStores }, { on := 7, ground := Ground.textOnly Go.Departure.lateStoresUnsure }, { on := 8, ground := Ground.textOnly Go.Departure.lateStoresUnsure }, { on := 9, ground := Ground.phase }, { on := 10, ground := Ground.textOnly Go.Departure.lateStores }, { on := 11, ground := Ground.textOnly Go.Departure.lateStoresUnsure }, { on := 12, ground := Ground.textOnly Go.Departure.lateStoresUnsure }, { on := 13, ground := Ground.phase }, { on := 14, ground := Ground.phase }], guard := none }) (by kernel_rfl) rfl (by decide) (fun K hK => ?_)
    have hB1 : Below w0.heap.size w0 w1 := (below_drew w0).trans hbk; have hz1 : IntBox w1 bz := hz0.below hB1 hz0.lt; have f0 := hz1.free 0; have f1 := hz1.free 1; have hz2 := hz1; obtain ⟨s1, A1, m1, k1, hbx⟩ := hz2; have e0 := hbx.cell 0 rfl; have e1 := hbx.cell 1 rfl
    go_simp
    refine hK.out _ _ ?_
    clear hK K
    try simp only [Act.put, List.setIfInBounds_toArray, List.set_cons_zero, List.set_cons_succ]
    refine wpAnyF_pure (i := 18) (oi := { dst := some 53, op := Op.nilCheck (Go.Operand.tmp 37), type := 0, pos := "big.go:182", after := #[{ on := 1, ground := Ground.data }, { on := 0, ground := Ground.phase }, { on := 1, ground := Ground.phase }, { on := 2, ground := Ground.phase }, { on := 3, ground := Ground.phase }, { on := 4, ground := Ground.phase }, { on := 5, ground := Ground.phase }, { on := 6, ground := Ground.phase }, { on := 7, ground := Ground.phase }, { on := 8, ground := Ground.phase }, { on := 9, ground := Ground.phase }, { on := 10, ground := Ground.phase }, { on := 11, ground := Ground.phase }, { on := 12, ground := Ground.phase }, { on := 13, ground := Ground.phase }, { on := 14, ground := Ground.phase }, { on := 15, ground := Ground.phase }, { on := 16, ground := Ground.phase }, { on := 17, ground := Ground.phase }], guard := none }) (v := ?v17) rfl (by kernel_rfl) (by kernel_rfl) (by kernel_rfl) (fun _ _ _ h => h) (Or.inl ⟨by rfl, ?hy17⟩) ?rs17
    case hy17 => (intro W hW; go_simp; try with_reducible rfl)
    try simp only [Act.put, List.setIfInBounds_toArray, List.set_cons_zero, List.set_cons_succ]
    refine wpAnyF_pure (i := 19) (oi := { dst := some 54, op := Op.fieldAddr 67 (Go.Operand.tmp 53) 1, type := 0, pos := "big.go:182", after := #[{ on := 18, ground := Ground.data }, { on := 0, ground := Ground.phase }, { on := 1, ground := Ground.phase }, { on := 2, ground := Ground.phase }, { on := 3, ground := Ground.phase }, { on := 4, ground := Ground.phase }, { on := 5, ground := Ground.phase }, { on := 6, ground := Ground.phase }, { on := 7, ground := Ground.phase }, { on := 8, ground := Ground.phase }, { on := 9, ground := Ground.phase }, { on := 10, ground := Ground.phase }, { on := 11, ground := Ground.phase }, { on := 12, ground := Ground.phase }, { on := 13, ground := Ground.phase }, { on := 14, ground := Ground.phase }, { on := 15, ground := Ground.phase }, { on := 16, ground := Ground.phase }, { on := 17, ground := Ground.phase }], guard := none }) (v := ?v18) rfl (by kernel_rfl) (by kernel_rfl) (by kernel_rfl) (fun _ _ _ h => h) (Or.inl ⟨by rfl, ?hy18⟩) ?rs18
    case hy18 => (intro W hW; go_simp; try with_reducible rfl)
    try simp only [Act.put, List.setIfInBounds_toArray, List.set_cons_zero, List.set_cons_succ]
    refine wpAnyF_last (i := 20) (o := { dst := none, op := Op.store 65 (Go.Operand.tmp 54) (Go.Operand.tmp 50), type := 0, pos := "big.go:182", after := #[{ on := 19, ground := Ground.data }, { on := 14, ground := Ground.data }, { on := 17, ground := Ground.chain }, { on := 0, ground := Ground.phase }, { on := 1, ground := Ground.phase }, { on := 2, ground := Ground.phase }, { on := 3, ground := Ground.phase }, { on := 4, ground := Ground.phase }, { on := 5, ground := Ground.phase }, { on := 6, ground := Ground.phase }, { on := 7, ground := Ground.phase }, { on := 8, ground := Ground.phase }, { on := 9, ground := Ground.phase }, { on := 10, ground := Ground.phase }, { on := 11, ground := Ground.phase }, { on := 12, ground := Ground.phase }, { on := 13, ground := Ground.phase }, { on := 14, ground := Ground.phase }, { on := 15, ground := Ground.phase }, { on := 16, ground := Ground.phase }, { on := 17, ground := Ground.phase }], guard := none }) (by kernel_rfl) rfl (by decide) (fun K hK => ?_)
    go_simp
    refine hK.out _ _ ?_
    clear hK K
    try simp only [Act.put, List.setIfInBounds_toArray, List.set_cons_zero, List.set_cons_succ]
    refine wpAnyF_done (by kernel_rfl) ?_
    have hraw := RawAt.stored (s := s) hz1 ho1 hd1
    have hgp := grownBy_then (grownBy_of_below (row := some bz) (bthen hB0 hB1)) (grownBy_pair w1 bz (.bool s) (.slice A2 L.length c2))
    clear Xc0 Xc1 Yc0 Yc1 f0 f1 e0 e1 hbx hbk ho1
    go_wp2_with fail
    refine (trim_any bz s A2 L.length c2 L _ hraw (by omega)).mono ?_
    rintro e w3 ⟨rfl, hfin, hg3⟩
    go_wp2
    go_ret
    refine ⟨rfl, ?_, grownBy_then hgp hg3⟩
    rw [hm1] at hfin
    rw [Hm.out, Hv.out, Hsame.out] at hfin
    exact hfin
  · have hsame' : (decide (x < 0) == decide (y < 0)) = false := by simpa using hsame
    have c0 := hr.box.cell 0 rfl
    have d0 := hs.box.cell 0 rfl
    by_cases hle : (y.natAbs : Int) ≤ x.natAbs
    · have Hsame := Lib.hid (sum_apart hsame)
      have hle' : mag r ≤ mag l := by rw [Hm.out, Hv.out]; exact hle
      have hmn : m ≤ n := by
        rcases Nat.lt_or_ge n m with k | k
        · have := mag_cmp_len hr.dig hs.dig hu (by rw [Hl.out, Hr.out]; exact k); omega
        · exact k
      have HD := Lib.hid (fun (W : World) (h1 : Rd W 1 A n (l.map (Value.int .u32))) (h2 : Rd W 1 B m (r.map (Value.int .u32))) => lessOf_any A n c l B m d r W h1 h2 hr.dig hs.dig hn hmn hle')
      have hcmp : decide (0 ≤ cmpI x.natAbs y.natAbs) = true := by
        apply decide_eq_true
        rcases Int.lt_or_eq_of_le hle with k | k
        · rw [cmpI_gt k]; decide
        · rw [cmpI_eq k.symm]; decide
      generalize cmpI x.natAbs y.natAbs = cm at *
      clear hle hle' hmn hsame
      generalize decide (x < 0) = s at *
      generalize decide (y < 0) = s' at *
      go_enter Try.func38, Try.ntmps38
      go_wp2
      go_quiet (fail)
      go_wp2_with fail
      refine (C.out _).mono ?_
      rintro e w0 ⟨rfl, q, hq⟩
      have hB0 : Below w.heap.size w w0 := by rw [hq]; exact below_draws ⟨_, World.drewN_drewN _ _ _⟩
      clear hq c0 d0
      have hr0 := hr.below hB0
      have hs0 := hs.below hB0
      have hz0 := hz.below hB0 hz.lt
      go_wp2
      have hlt0 : bx < w0.drew.heap.size ∧ bY < w0.drew.heap.size ∧ bz < w0.drew.heap.size := ⟨hr0.box.lt, hs0.box.lt, hz0.lt⟩
      obtain ⟨hxlt, hylt, hzlt⟩ := hlt0
      have Xc0 := Lib.hid (hr0.box.cell 0 rfl)
      have Xc1 := Lib.hid (hr0.box.cell 1 rfl)
      have Yc0 := Lib.hid (hs0.box.cell 0 rfl)
      have Yc1 := Lib.hid (hs0.box.cell 1 rfl)
      refine wp_region_F 15 (w0.drew.heap.size) (by kernel_rfl) ?_
      refine wpAnyF_pure (i := 0) (oi := { dst := some 60, op := Op.move (Go.Operand.tmp 0), type := 62, pos := "big.go:184", after := #[], guard := none }) (v := ?v19) rfl (by kernel_rfl) (by kernel_rfl) (by kernel_rfl) (fun _ _ _ h => h) (Or.inl ⟨by rfl, ?hy19⟩) ?rs19
      case hy19 => (intro W hW; go_simp; try with_reducible rfl)
      try simp only [Act.put, List.setIfInBounds_toArray, List.set_cons_zero, List.set_cons_succ]
      refine wpAnyF_pure (i := 1) (oi := { dst := some 61, op := Op.move (Go.Operand.tmp 0), type := 62, pos := "big.go:184", after := #[{ on := 17, ground := Ground.gcOnly Go.Departure.lateStores }], guard := none }) (v := ?v20) rfl (by kernel_rfl) (by kernel_rfl) (by kernel_rfl) (fun _ _ _ h => h) (Or.inl ⟨by rfl, ?hy20⟩) ?rs20
      case hy20 => (intro W hW; go_simp; try with_reducible rfl)
      try simp only [Act.put, List.setIfInBounds_toArray, List.set_cons_zero, List.set_cons_succ]
      refine wpAnyF_pure (i := 2) (oi := { dst := some 62, op := Op.move (Go.Operand.tmp 1), type := 62, pos := "big.go:184", after := #[], guard := none }) (v := ?v21) rfl (by kernel_rfl) (by kernel_rfl) (by kernel_rfl) (fun _ _ _ h => h) (Or.inl ⟨by rfl, ?hy21⟩) ?rs21
      case hy21 => (intro W hW; go_simp; try with_reducible rfl)
      try simp only [Act.put, List.setIfInBounds_toArray, List.set_cons_zero, List.set_cons_succ]
      refine wpAnyF_pure (i := 3) (oi := { dst := some 63, op := Op.nilCheck (Go.Operand.tmp 62), type := 0, pos := "big.go:184", after := #[{ on := 2, ground := Ground.data }], guard := none }) (v := ?v22) rfl (by kernel_rfl) (by kernel_rfl) (by kernel_rfl) (fun _ _ _ h => h) (Or.inl ⟨by rfl, ?hy22⟩) ?rs22
      case hy22 => (intro W hW; go_simp; try with_reducible rfl)
      try simp only [Act.put, List.setIfInBounds_toArray, List.set_cons_zero, List.set_cons_succ]
      refine wpAnyF_pure (i := 4) (oi := { dst := some 64, op := Op.fieldAddr 67 (Go.Operand.tmp 63) 0, type := 0, pos := "big.go:184", after := #[{ on := 3, ground := Ground.data }], guard := none }) (v := ?v23) rfl (by kernel_rfl) (by kernel_rfl) (by kernel_rfl) (fun _ _ _ h => h) (Or.inl ⟨by rfl, ?hy23⟩) ?rs23
      case hy23 => (intro W hW; go_simp; try with_reducible rfl)
      try simp only [Act.put, List.setIfInBounds_toArray, List.set_cons_zero, List.set_cons_succ]
      refine wpAnyF_take (i := 5) (oi := { dst := some 65, op := Op.load 4 (Go.Operand.tmp 64), type := 4, pos := "big.go:184", after := #[{ on := 4, ground := Ground.data }], guard := none }) (v := ?v24) rfl (by kernel_rfl) (by kernel_rfl) (by kernel_rfl) (by decide) (by kernel_rfl) (fun _ _ _ h => h) (Or.inl ⟨by rfl, ?hy24⟩) ?rs24
      case hy24 => (intro W hW; have hc := (hW.cell (p := ⟨bx, 0, none⟩) hxlt).trans (Xc0.out); go_simp; try with_reducible rfl)
      try simp only [Act.put, List.setIfInBounds_toArray, List.set_cons_zero, List.set_cons_succ]
      refine wpAnyF_pure (i := 6) (oi := { dst := some 66, op := Op.move (Go.Operand.tmp 1), type := 62, pos := "big.go:184", after := #[], guard := none }) (v := ?v25) rfl (by kernel_rfl) (by kernel_rfl) (by kernel_rfl) (fun _ _ _ h => h) (Or.inl ⟨by rfl, ?hy25⟩) ?rs25
      case hy25 => (intro W hW; go_simp; try with_reducible rfl)
      try simp only [Act.put, List.setIfInBounds_toArray, List.set_cons_zero, List.set_cons_succ]
      refine wpAnyF_pure (i := 7) (oi := { dst := some 67, op := Op.nilCheck (Go.Operand.tmp 66), type := 0, pos := "big.go:184", after := #[{ on := 6, ground := Ground.data }], guard := none }) (v := ?v26) rfl (by kernel_rfl) (by kernel_rfl) (by kernel_rfl) (fun _ _ _ h => h) (Or.inl ⟨by rfl, ?hy26⟩) ?rs26
      case hy26 => (intro W hW; go_simp; try with_reducible rfl)
      try simp only [Act.put, List.setIfInBounds_toArray, List.set_cons_zero, List.set_cons_succ]
      refine wpAnyF_pure (i := 8) (oi := { dst := some 68, op := Op.fieldAddr 67 (Go.Operand.tmp 67) 1, type := 0, pos := "big.go:184", after := #[{ on := 7, ground := Ground.data }], guard := none }) (v := ?v27) rfl (by kernel_rfl) (by kernel_rfl) (by kernel_rfl) (fun _ _ _ h => h) (Or.inl ⟨by rfl, ?hy27⟩) ?rs27
      case hy27 => (intro W hW; go_simp; try with_reducible rfl)
      try simp only [Act.put, List.setIfInBounds_toArray, List.set_cons_zero, List.set_cons_succ]
      refine wpAnyF_take (i := 9) (oi := { dst := some 69, op := Op.load 65 (Go.Operand.tmp 68), type := 65, pos := "big.go:184", after := #[{ on := 8, ground := Ground.data }], guard := none }) (v := ?v28) rfl (by kernel_rfl) (by kernel_rfl) (by kernel_rfl) (by decide) (by kernel_rfl) (fun _ _ _ h => h) (Or.inl ⟨by rfl, ?hy28⟩) ?rs28
      case hy28 => (intro W hW; have hc := (hW.cell (p := ⟨bx, 1, none⟩) hxlt).trans (Xc1.out); go_simp; try with_reducible rfl)
      try simp only [Act.put, List.setIfInBounds_toArray, List.set_cons_zero, List.set_cons_succ]
      refine wpAnyF_pure (i := 10) (oi := { dst := some 70, op := Op.move (Go.Operand.tmp 2), type := 62, pos := "big.go:184", after := #[], guard := none }) (v := ?v29) rfl (by kernel_rfl) (by kernel_rfl) (by kernel_rfl) (fun _ _ _ h => h) (Or.inl ⟨by rfl, ?hy29⟩) ?rs29
      case hy29 => (intro W hW; go_simp; try with_reducible rfl)
      try simp only [Act.put, List.setIfInBounds_toArray, List.set_cons_zero, List.set_cons_succ]
      refine wpAnyF_pure (i := 11) (oi := { dst := some 71, op := Op.nilCheck (Go.Operand.tmp 70), type := 0, pos := "big.go:184", after := #[{ on := 10, ground := Ground.data }], guard := none }) (v := ?v30) rfl (by kernel_rfl) (by kernel_rfl) (by kernel_rfl) (fun _ _ _ h => h) (Or.inl ⟨by rfl, ?hy30⟩) ?rs30
      case hy30 => (intro W hW; go_simp; try with_reducible rfl)
      try simp only [Act.put, List.setIfInBounds_toArray, List.set_cons_zero, List.set_cons_succ]
      refine wpAnyF_pure (i := 12) (oi := { dst := some 72, op := Op.fieldAddr 67 (Go.Operand.tmp 71) 1, type := 0, pos := "big.go:184", after := #[{ on := 11, ground := Ground.data }], guard := none }) (v := ?v31) rfl (by kernel_rfl) (by kernel_rfl) (by kernel_rfl) (fun _ _ _ h => h) (Or.inl ⟨by rfl, ?hy31⟩) ?rs31
      case hy31 => (intro W hW; go_simp; try with_reducible rfl)
      try simp only [Act.put, List.setIfInBounds_toArray, List.set_cons_zero, List.set_cons_succ]
      refine wpAnyF_take (i := 13) (oi := { dst := some 73, op := Op.load 65 (Go.Operand.tmp 72), type := 65, pos := "big.go:184", after := #[{ on := 12, ground := Ground.data }], guard := none }) (v := ?v32) rfl (by kernel_rfl) (by kernel_rfl) (by kernel_rfl) (by decide) (by kernel_rfl) (fun _ _ _ h => h) (Or.inl ⟨by rfl, ?hy32⟩) ?rs32
      case hy32 => (intro W hW; have hc := (hW.cell (p := ⟨bY, 1, none⟩) hylt).trans (Yc1.out); go_simp; try with_reducible rfl)
      try simp only [Act.put, List.setIfInBounds_toArray, List.set_cons_zero, List.set_cons_succ]
      refine wpAnyF_one (i := 14) (o := { dst := some 74, op := Op.call { callee := Callee.value (Go.Operand.func 58), args := #[Go.Operand.tmp 69, Go.Operand.tmp 73], argTypes := #[65, 65] }, type := 65, pos := "big.go:184", after := #[{ on := 9, ground := Ground.data }, { on := 13, ground := Ground.data }], guard := none }) (by kernel_rfl) rfl (fun K hK => ?_)
      go_simp
      refine (HD.out w0.drew hr0.rd.drew hs0.rd.drew).mono ?_; rintro e w1 ⟨v1, L, rfl, ho1, hd1, hm1, hl1, hbk⟩; obtain ⟨A2, c2, rfl, hcap2, _⟩ := ho1.form
      refine hK.out _ _ hbk ?_
      clear hK K
      try simp only [Act.put, List.setIfInBounds_toArray, List.set_cons_zero, List.set_cons_succ]
      refine wpAnyF_pure (i := 15) (oi := { dst := some 75, op := Op.nilCheck (Go.Operand.tmp 60), type := 0, pos := "big.go:184", after := #[{ on := 0, ground := Ground.data }, { on := 0, ground := Ground.phase }, { on := 1, ground := Ground.textOnly Go.Departure.lateStores }, { on := 2, ground := Ground.phase }, { on := 3, ground := Ground.phase }, { on := 4, ground := Ground.phase }, { on := 5, ground := Ground.phase }, { on := 6, ground := Ground.textOnly Go.Departure.lateStores }, { on := 7, ground := Ground.textOnly Go.Departure.lateStoresUnsure }, { on := 8, ground := Ground.textOnly Go.Departure.lateStoresUnsure }, { on := 9, ground := Ground.phase }, { on := 10, ground := Ground.textOnly Go.Departure.lateStores }, { on := 11, ground := Ground.textOnly Go.Departure.lateStoresUnsure }, { on := 12, ground := Ground.textOnly Go.Departure.lateStoresUnsure }, { on := 13, ground := Ground.phase }, { on := 14, ground := Ground.phase }], guard := none }) (v := ?v33) rfl (by kernel_rfl) (by kernel_rfl) (by kernel_rfl) (fun _ _ _ h => h) (Or.inl ⟨by rfl, ?hy33⟩) ?rs33
      case hy33 => (intro W hW; go_simp; try with_reducible rfl)
      try simp only [Act.put, List.setIfInBounds_toArray, List.set_cons_zero, List.set_cons_succ]
      refine wpAnyF_pure (i := 16) (oi := { dst := some 76, op := Op.fieldAddr 67 (Go.Operand.tmp 75) 0, type := 0, pos := "big.go:184", after := #[{ on := 15, ground := Ground.data }, { on := 0, ground := Ground.phase }, { on := 1, ground := Ground.textOnly Go.Departure.lateStores }, { on := 2, ground := Ground.phase }, { on := 3, ground := Ground.phase }, { on := 4, ground := Ground.phase }, { on := 5, ground := Ground.phase }, { on := 6, ground := Ground.textOnly Go.Departure.lateStores }, { on := 7, ground := Ground.textOnly Go.Departure.lateStoresUnsure }, { on := 8, ground := Ground.textOnly Go.Departure.lateStoresUnsure }, { on := 9, ground := Ground.phase }, { on := 10, ground := Ground.textOnly Go.Departure.lateStores }, { on := 11, ground := Ground.textOnly Go.Departure.lateStoresUnsure }, { on := 12, ground := Ground.textOnly Go.Departure.lateStoresUnsure }, { on := 13, ground := Ground.phase }, { on := 14, ground := Ground.phase }], guard := none }) (v := ?v34) rfl (by kernel_rfl) (by kernel_rfl) (by kernel_rfl) (fun _ _ _ h => h) (Or.inl ⟨by rfl, ?hy34⟩) ?rs34
      case hy34 => (intro W hW; go_simp; try with_reducible rfl)
      try simp only [Act.put, List.setIfInBounds_toArray, List.set_cons_zero, List.set_cons_succ]
      refine wpAnyF_last (i := 17) (o := { dst := none, op := Op.store 4 (Go.Operand.tmp 76) (Go.Operand.tmp 65), type := 0, pos := "big.go:184", after := #[{ on := 16, ground := Ground.data }, { on := 5, ground := Ground.data }, { on := 14, ground := Ground.chain }, { on := 0, ground := Ground.phase }, { on := 1, ground := Ground.textOnly Go.Departure.lateStores }, { on := 2, ground := Ground.phase }, { on := 3, ground := Ground.phase }, { on := 4, ground := Ground.phase }, { on := 5, ground := Ground.phase }, { on := 6, ground := Ground.textOnly Go.Departure.lateStores }, { on := 7, ground := Ground.textOnly Go.Departure.lateStoresUnsure }, { on := 8, ground := Ground.textOnly Go.Departure.lateStoresUnsure }, { on := 9, ground := Ground.phase }, { on := 10, ground := Ground.textOnly Go.Departure.lateStores }, { on := 11, ground := Ground.textOnly Go.Departure.lateStoresUnsure }, { on := 12, ground := Ground.textOnly Go.Departure.lateStoresUnsure }, { on := 13, ground := Ground.phase }, { on := 14, ground := Ground.phase }], guard := none }) (by kernel_rfl) rfl (by decide) (fun K hK => ?_)
      have hB1 : Below w0.heap.size w0 w1 := (below_drew w0).trans hbk; have hz1 : IntBox w1 bz := hz0.below hB1 hz0.lt; have f0 := hz1.free 0; have f1 := hz1.free 1; have hz2 := hz1; obtain ⟨s1, A1, m1, k1, hbx⟩ := hz2; have e0 := hbx.cell 0 rfl; have e1 := hbx.cell 1 rfl
      go_simp
      refine hK.out _ _ ?_
      clear hK K
      try simp only [Act.put, List.setIfInBounds_toArray, List.set_cons_zero, List.set_cons_succ]
      refine wpAnyF_pure (i := 18) (oi := { dst := some 77, op := Op.nilCheck (Go.Operand.tmp 61), type := 0, pos := "big.go:184", after := #[{ on := 1, ground := Ground.data }, { on := 0, ground := Ground.phase }, { on := 1, ground := Ground.phase }, { on := 2, ground := Ground.phase }, { on := 3, ground := Ground.phase }, { on := 4, ground := Ground.phase }, { on := 5, ground := Ground.phase }, { on := 6, ground := Ground.phase }, { on := 7, ground := Ground.phase }, { on := 8, ground := Ground.phase }, { on := 9, ground := Ground.phase }, { on := 10, ground := Ground.phase }, { on := 11, ground := Ground.phase }, { on := 12, ground := Ground.phase }, { on := 13, ground := Ground.phase }, { on := 14, ground := Ground.phase }, { on := 15, ground := Ground.phase }, { on := 16, ground := Ground.phase }, { on := 17, ground := Ground.phase }], guard := none }) (v := ?v35) rfl (by kernel_rfl) (by kernel_rfl) (by kernel_rfl) (fun _ _ _ h => h) (Or.inl ⟨by rfl, ?hy35⟩) ?rs35
      case hy35 => (intro W hW; go_simp; try with_reducible rfl)
      try simp only [Act.put, List.setIfInBounds_toArray, List.set_cons_zero, List.set_cons_succ]
      refine wpAnyF_pure (i := 19) (oi := { dst := some 78, op := Op.fieldAddr 67 (Go.Operand.tmp 77) 1, type := 0, pos := "big.go:184", after := #[{ on := 18, ground := Ground.data }, { on := 0, ground := Ground.phase }, { on := 1, ground := Ground.phase }, { on := 2, ground := Ground.phase }, { on := 3, ground := Ground.phase }, { on := 4, ground := Ground.phase }, { on := 5, ground := Ground.phase }, { on := 6, ground := Ground.phase }, { on := 7, ground := Ground.phase }, { on := 8, ground := Ground.phase }, { on := 9, ground := Ground.phase }, { on := 10, ground := Ground.phase }, { on := 11, ground := Ground.phase }, { on := 12, ground := Ground.phase }, { on := 13, ground := Ground.phase }, { on := 14, ground := Ground.phase }, { on := 15, ground := Ground.phase }, { on := 16, ground := Ground.phase }, { on := 17, ground := Ground.phase }], guard := none }) (v := ?v36) rfl (by kernel_rfl) (by kernel_rfl) (by kernel_rfl) (fun _ _ _ h => h) (Or.inl ⟨by rfl, ?hy36⟩) ?rs36
      case hy36 => (intro W hW; go_simp; try with_reducible rfl)
      try simp only [Act.put, List.setIfInBounds_toArray, List.set_cons_zero, List.set_cons_succ]
      refine wpAnyF_last (i := 20) (o := { dst := none, op := Op.store 65 (Go.Operand.tmp 78) (Go.Operand.tmp 74), type := 0, pos := "big.go:184", after := #[{ on := 19, ground := Ground.data }, { on := 14, ground := Ground.data }, { on := 17, ground := Ground.chain }, { on := 0, ground := Ground.phase }, { on := 1, ground := Ground.phase }, { on := 2, ground := Ground.phase }, { on := 3, ground := Ground.phase }, { on := 4, ground := Ground.phase }, { on := 5, ground := Ground.phase }, { on := 6, ground := Ground.phase }, { on := 7, ground := Ground.phase }, { on := 8, ground := Ground.phase }, { on := 9, ground := Ground.phase }, { on := 10, ground := Ground.phase }, { on := 11, ground := Ground.phase }, { on := 12, ground := Ground.phase }, { on := 13, ground := Ground.phase }, { on := 14, ground := Ground.phase }, { on := 15, ground := Ground.phase }, { on := 16, ground := Ground.phase }, { on := 17, ground := Ground.phase }], guard := none }) (by kernel_rfl) rfl (by decide) (fun K hK => ?_)
      go_simp
      refine hK.out _ _ ?_
      clear hK K
      try simp only [Act.put, List.setIfInBounds_toArray, List.set_cons_zero, List.set_cons_succ]
      refine wpAnyF_done (by kernel_rfl) ?_
      have hraw := RawAt.stored (s := s) hz1 ho1 hd1
      have hgp := grownBy_then (grownBy_of_below (row := some bz) (bthen hB0 hB1)) (grownBy_pair w1 bz (.bool s) (.slice A2 L.length c2))
      clear Xc0 Xc1 Yc0 Yc1 f0 f1 e0 e1 hbx hbk ho1
      go_wp2_with fail
      refine (trim_any bz s A2 L.length c2 L _ hraw (by omega)).mono ?_
      rintro e w3 ⟨rfl, hfin, hg3⟩
      go_wp2
      go_ret
      refine ⟨rfl, ?_, grownBy_then hgp hg3⟩
      rw [hm1] at hfin
      rw [Hm.out, Hv.out, Hsame.out] at hfin
      exact hfin
    · have Hsame := Lib.hid (sum_apart (Ne.symm hsame))
      have hle' : mag l ≤ mag r := by rw [Hm.out, Hv.out]; omega
      have hmn : n ≤ m := by
        rcases Nat.lt_or_ge m n with k | k
        · have := mag_cmp_len hs.dig hr.dig ht (by rw [Hl.out, Hr.out]; exact k); omega
        · exact k
      have HD := Lib.hid (fun (W : World) (h1 : Rd W 1 A n (l.map (Value.int .u32))) (h2 : Rd W 1 B m (r.map (Value.int .u32))) => lessOf_any B m d r A n c l W h2 h1 hs.dig hr.dig hn' hmn hle')
      have hcmp : decide (0 ≤ cmpI x.natAbs y.natAbs) = false := by
        apply decide_eq_false
        rw [cmpI_lt (by omega)]; decide
      generalize cmpI x.natAbs y.natAbs = cm at *
      clear hle hle' hmn hsame
      generalize decide (x < 0) = s at *
      generalize decide (y < 0) = s' at *
      go_enter Try.func38, Try.ntmps38
      go_wp2
      go_quiet (fail)
      go_wp2_with fail
      refine (C.out _).mono ?_
      rintro e w0 ⟨rfl, q, hq⟩
      have hB0 : Below w.heap.size w w0 := by rw [hq]; exact below_draws ⟨_, World.drewN_drewN _ _ _⟩
      clear hq c0 d0
      have hr0 := hr.below hB0
      have hs0 := hs.below hB0
      have hz0 := hz.below hB0 hz.lt
      go_wp2
      have hlt0 : bx < w0.drew.heap.size ∧ bY < w0.drew.heap.size ∧ bz < w0.drew.heap.size := ⟨hr0.box.lt, hs0.box.lt, hz0.lt⟩
      obtain ⟨hxlt, hylt, hzlt⟩ := hlt0
      have Xc0 := Lib.hid (hr0.box.cell 0 rfl)
      have Xc1 := Lib.hid (hr0.box.cell 1 rfl)
      have Yc0 := Lib.hid (hs0.box.cell 0 rfl)
      have Yc1 := Lib.hid (hs0.box.cell 1 rfl)
      refine wp_region_F 15 (w0.drew.heap.size) (by kernel_rfl) ?_
      refine wpAnyF_pure (i := 0) (oi := { dst := some 7, op := Op.move (Go.Operand.tmp 0), type := 62, pos := "big.go:186", after := #[], guard := none }) (v := ?v37) rfl (by kernel_rfl) (by kernel_rfl) (by kernel_rfl) (fun _ _ _ h => h) (Or.inl ⟨by rfl, ?hy37⟩) ?rs37
      case hy37 => (intro W hW; go_simp; try with_reducible rfl)
      try simp only [Act.put, List.setIfInBounds_toArray, List.set_cons_zero, List.set_cons_succ]
      refine wpAnyF_pure (i := 1) (oi := { dst := some 8, op := Op.move (Go.Operand.tmp 0), type := 62, pos := "big.go:186", after := #[{ on := 17, ground := Ground.gcOnly Go.Departure.lateStores }], guard := none }) (v := ?v38) rfl (by kernel_rfl) (by kernel_rfl) (by kernel_rfl) (fun _ _ _ h => h) (Or.inl ⟨by rfl, ?hy38⟩) ?rs38
      case hy38 => (intro W hW; go_simp; try with_reducible rfl)
      try simp only [Act.put, List.setIfInBounds_toArray, List.set_cons_zero, List.set_cons_succ]
      refine wpAnyF_pure (i := 2) (oi := { dst := some 9, op := Op.move (Go.Operand.tmp 2), type := 62, pos := "big.go:186", after := #[], guard := none }) (v := ?v39) rfl (by kernel_rfl) (by kernel_rfl) (by kernel_rfl) (fun _ _ _ h => h) (Or.inl ⟨by rfl, ?hy39⟩) ?rs39
      case hy39 => (intro W hW; go_simp; try with_reducible rfl)
      try simp only [Act.put, List.setIfInBounds_toArray, List.set_cons_zero, List.set_cons_succ]
      refine wpAnyF_pure (i := 3) (oi := { dst := some 10, op := Op.nilCheck (Go.Operand.tmp 9), type := 0, pos := "big.go:186", after := #[{ on := 2, ground := Ground.data }], guard := none }) (v := ?v40) rfl (by kernel_rfl) (by kernel_rfl) (by kernel_rfl) (fun _ _ _ h => h) (Or.inl ⟨by rfl, ?hy40⟩) ?rs40
      case hy40 => (intro W hW; go_simp; try with_reducible rfl)
      try simp only [Act.put, List.setIfInBounds_toArray, List.set_cons_zero, List.set_cons_succ]
      refine wpAnyF_pure (i := 4) (oi := { dst := some 11, op := Op.fieldAddr 67 (Go.Operand.tmp 10) 0, type := 0, pos := "big.go:186", after := #[{ on := 3, ground := Ground.data }], guard := none }) (v := ?v41) rfl (by kernel_rfl) (by kernel_rfl) (by kernel_rfl) (fun _ _ _ h => h) (Or.inl ⟨by rfl, ?hy41⟩) ?rs41
      case hy41 => (intro W hW; go_simp; try with_reducible rfl)
      try simp only [Act.put, List.setIfInBounds_toArray, List.set_cons_zero, List.set_cons_succ]
      refine wpAnyF_take (i := 5) (oi := { dst := some 12, op := Op.load 4 (Go.Operand.tmp 11), type := 4, pos := "big.go:186", after := #[{ on := 4, ground := Ground.data }], guard := none }) (v := ?v42) rfl (by kernel_rfl) (by kernel_rfl) (by kernel_rfl) (by decide) (by kernel_rfl) (fun _ _ _ h => h) (Or.inl ⟨by rfl, ?hy42⟩) ?rs42
      case hy42 => (intro W hW; have hc := (hW.cell (p := ⟨bY, 0, none⟩) hylt).trans (Yc0.out); go_simp; try with_reducible rfl)
      try simp only [Act.put, List.setIfInBounds_toArray, List.set_cons_zero, List.set_cons_succ]
      refine wpAnyF_pure (i := 6) (oi := { dst := some 13, op := Op.move (Go.Operand.tmp 2), type := 62, pos := "big.go:186", after := #[], guard := none }) (v := ?v43) rfl (by kernel_rfl) (by kernel_rfl) (by kernel_rfl) (fun _ _ _ h => h) (Or.inl ⟨by rfl, ?hy43⟩) ?rs43
      case hy43 => (intro W hW; go_simp; try with_reducible rfl)
      try simp only [Act.put, List.setIfInBounds_toArray, List.set_cons_zero, List.set_cons_succ]
      refine wpAnyF_pure (i := 7) (oi := { dst := some 14, op := Op.nilCheck (Go.Operand.tmp 13), type := 0, pos := "big.go:186", after := #[{ on := 6, ground := Ground.data }], guard := none }) (v := ?v44) rfl (by kernel_rfl) (by kernel_rfl) (by kernel_rfl) (fun _ _ _ h => h) (Or.inl ⟨by rfl, ?hy44⟩) ?rs44
      case hy44 => (intro W hW; go_simp; try with_reducible rfl)
      try simp only [Act.put, List.setIfInBounds_toArray, List.set_cons_zero, List.set_cons_succ]
      refine wpAnyF_pure (i := 8) (oi := { dst := some 15, op := Op.fieldAddr 67 (Go.Operand.tmp 14) 1, type := 0, pos := "big.go:186", after := #[{ on := 7, ground := Ground.data }], guard := none }) (v := ?v45) rfl (by kernel_rfl) (by kernel_rfl) (by kernel_rfl) (fun _ _ _ h => h) (Or.inl ⟨by rfl, ?hy45⟩) ?rs45
      case hy45 => (intro W hW; go_simp; try with_reducible rfl)
      try simp only [Act.put, List.setIfInBounds_toArray, List.set_cons_zero, List.set_cons_succ]
      refine wpAnyF_take (i := 9) (oi := { dst := some 16, op := Op.load 65 (Go.Operand.tmp 15), type := 65, pos := "big.go:186", after := #[{ on := 8, ground := Ground.data }], guard := none }) (v := ?v46) rfl (by kernel_rfl) (by kernel_rfl) (by kernel_rfl) (by decide) (by kernel_rfl) (fun _ _ _ h => h) (Or.inl ⟨by rfl, ?hy46⟩) ?rs46
      case hy46 => (intro W hW; have hc := (hW.cell (p := ⟨bY, 1, none⟩) hylt).trans (Yc1.out); go_simp; try with_reducible rfl)
      try simp only [Act.put, List.setIfInBounds_toArray, List.set_cons_zero, List.set_cons_succ]
      refine wpAnyF_pure (i := 10) (oi := { dst := some 17, op := Op.move (Go.Operand.tmp 1), type := 62, pos := "big.go:186", after := #[], guard := none }) (v := ?v47) rfl (by kernel_rfl) (by kernel_rfl) (by kernel_rfl) (fun _ _ _ h => h) (Or.inl ⟨by rfl, ?hy47⟩) ?rs47
      case hy47 => (intro W hW; go_simp; try with_reducible rfl)
      try simp only [Act.put, List.setIfInBounds_toArray, List.set_cons_zero, List.set_cons_succ]
      refine wpAnyF_pure (i := 11) (oi := { dst := some 18, op := Op.nilCheck (Go.Operand.tmp 17), type := 0, pos := "big.go:186", after := #[{ on := 10, ground := Ground.data }], guard := none }) (v := ?v48) rfl (by kernel_rfl) (by kernel_rfl) (by kernel_rfl) (fun _ _ _ h => h) (Or.inl ⟨by rfl, ?hy48⟩) ?rs48
      case hy48 => (intro W hW; go_simp; try with_reducible rfl)
      try simp only [Act.put, List.setIfInBounds_toArray, List.set_cons_zero, List.set_cons_succ]
      refine wpAnyF_pure (i := 12) (oi := { dst := some 19, op := Op.fieldAddr 67 (Go.Operand.tmp 18) 1, type := 0, pos := "big.go:186", after := #[{ on := 11, ground := Ground.data }], guard := none }) (v := ?v49) rfl (by kernel_rfl) (by kernel_rfl) (by kernel_rfl) (fun _ _ _ h => h) (Or.inl ⟨by rfl, ?hy49⟩) ?rs49
      case hy49 => (intro W hW; go_simp; try with_reducible rfl)
      try simp only [Act.put, List.setIfInBounds_toArray, List.set_cons_zero, List.set_cons_succ]
      refine wpAnyF_take (i := 13) (oi := { dst := some 20, op := Op.load 65 (Go.Operand.tmp 19), type := 65, pos := "big.go:186", after := #[{ on := 12, ground := Ground.data }], guard := none }) (v := ?v50) rfl (by kernel_rfl) (by kernel_rfl) (by kernel_rfl) (by decide) (by kernel_rfl) (fun _ _ _ h => h) (Or.inl ⟨by rfl, ?hy50⟩) ?rs50
      case hy50 => (intro W hW; have hc := (hW.cell (p := ⟨bx, 1, none⟩) hxlt).trans (Xc1.out); go_simp; try with_reducible rfl)
      try simp only [Act.put, List.setIfInBounds_toArray, List.set_cons_zero, List.set_cons_succ]
      refine wpAnyF_one (i := 14) (o := { dst := some 21, op := Op.call { callee := Callee.value (Go.Operand.func 58), args := #[Go.Operand.tmp 16, Go.Operand.tmp 20], argTypes := #[65, 65] }, type := 65, pos := "big.go:186", after := #[{ on := 9, ground := Ground.data }, { on := 13, ground := Ground.data }], guard := none }) (by kernel_rfl) rfl (fun K hK => ?_)
      go_simp
      refine (HD.out w0.drew hr0.rd.drew hs0.rd.drew).mono ?_; rintro e w1 ⟨v1, L, rfl, ho1, hd1, hm1, hl1, hbk⟩; obtain ⟨A2, c2, rfl, hcap2, _⟩ := ho1.form
      refine hK.out _ _ hbk ?_
      clear hK K
      try simp only [Act.put, List.setIfInBounds_toArray, List.set_cons_zero, List.set_cons_succ]
      refine wpAnyF_pure (i := 15) (oi := { dst := some 22, op := Op.nilCheck (Go.Operand.tmp 7), type := 0, pos := "big.go:186", after := #[{ on := 0, ground := Ground.data }, { on := 0, ground := Ground.phase }, { on := 1, ground := Ground.textOnly Go.Departure.lateStores }, { on := 2, ground := Ground.phase }, { on := 3, ground := Ground.phase }, { on := 4, ground := Ground.phase }, { on := 5, ground := Ground.phase }, { on := 6, ground := Ground.textOnly Go.Departure.lateStores }, { on := 7, ground := Ground.textOnly Go.Departure.lateStoresUnsure }, { on := 8, ground := Ground.textOnly Go.Departure.lateStoresUnsure }, { on := 9, ground := Ground.phase }, { on := 10, ground := Ground.textOnly Go.Departure.lateStores }, { on := 11, ground := Ground.textOnly Go.Departure.lateStoresUnsure }, { on := 12, ground := Ground.textOnly Go.Departure.lateStoresUnsure }, { on := 13, ground := Ground.phase }, { on := 14, ground := Ground.phase }], guard := none }) (v := ?v51) rfl (by kernel_rfl) (by kernel_rfl) (by kernel_rfl) (fun _ _ _ h => h) (Or.inl ⟨by rfl, ?hy51⟩) ?rs51
      case hy51 => (intro W hW; go_simp; try with_reducible rfl)
      try simp only [Act.put, List.setIfInBounds_toArray, List.set_cons_zero, List.set_cons_succ]
      refine wpAnyF_pure (i := 16) (oi := { dst := some 23, op := Op.fieldAddr 67 (Go.Operand.tmp 22) 0, type := 0, pos := "big.go:186", after := #[{ on := 15, ground := Ground.data }, { on := 0, ground := Ground.phase }, { on := 1, ground := Ground.textOnly Go.Departure.lateStores }, { on := 2, ground := Ground.phase }, { on := 3, ground := Ground.phase }, { on := 4, ground := Ground.phase }, { on := 5, ground := Ground.phase }, { on := 6, ground := Ground.textOnly Go.Departure.lateStores }, { on := 7, ground := Ground.textOnly Go.Departure.lateStoresUnsure }, { on := 8, ground := Ground.textOnly Go.Departure.lateStoresUnsure }, { on := 9, ground := Ground.phase }, { on := 10, ground := Ground.textOnly Go.Departure.lateStores }, { on := 11, ground := Ground.textOnly Go.Departure.lateStoresUnsure }, { on := 12, ground := Ground.textOnly Go.Departure.lateStoresUnsure }, { on := 13, ground := Ground.phase }, { on := 14, ground := Ground.phase }], guard := none }) (v := ?v52) rfl (by kernel_rfl) (by kernel_rfl) (by kernel_rfl) (fun _ _ _ h => h) (Or.inl ⟨by rfl, ?hy52⟩) ?rs52
      case hy52 => (intro W hW; go_simp; try with_reducible rfl)
      try simp only [Act.put, List.setIfInBounds_toArray, List.set_cons_zero, List.set_cons_succ]
      refine wpAnyF_last (i := 17) (o := { dst := none, op := Op.store 4 (Go.Operand.tmp 23) (Go.Operand.tmp 12), type := 0, pos := "big.go:186", after := #[{ on := 16, ground := Ground.data }, { on := 5, ground := Ground.data }, { on := 14, ground := Ground.chain }, { on := 0, ground := Ground.phase }, { on := 1, ground := Ground.textOnly Go.Departure.lateStores }, { on := 2, ground := Ground.phase }, { on := 3, ground := Ground.phase }, { on := 4, ground := Ground.phase }, { on := 5, ground := Ground.phase }, { on := 6, ground := Ground.textOnly Go.Departure.lateStores }, { on := 7, ground := Ground.textOnly Go.Departure.lateStoresUnsure }, { on := 8, ground := Ground.textOnly Go.Departure.lateStoresUnsure }, { on := 9, ground := Ground.phase }, { on := 10, ground := Ground.textOnly Go.Departure.lateStores }, { on := 11, ground := Ground.textOnly Go.Departure.lateStoresUnsure }, { on := 12, ground := Ground.textOnly Go.Departure.lateStoresUnsure }, { on := 13, ground := Ground.phase }, { on := 14, ground := Ground.phase }], guard := none }) (by kernel_rfl) rfl (by decide) (fun K hK => ?_)
      have hB1 : Below w0.heap.size w0 w1 := (below_drew w0).trans hbk; have hz1 : IntBox w1 bz := hz0.below hB1 hz0.lt; have f0 := hz1.free 0; have f1 := hz1.free 1; have hz2 := hz1; obtain ⟨s1, A1, m1, k1, hbx⟩ := hz2; have e0 := hbx.cell 0 rfl; have e1 := hbx.cell 1 rfl
      go_simp
      refine hK.out _ _ ?_
      clear hK K
      try simp only [Act.put, List.setIfInBounds_toArray, List.set_cons_zero, List.set_cons_succ]
      refine wpAnyF_pure (i := 18) (oi := { dst := some 24, op := Op.nilCheck (Go.Operand.tmp 8), type := 0, pos := "big.go:186", after := #[{ on := 1, ground := Ground.data }, { on := 0, ground := Ground.phase }, { on := 1, ground := Ground.phase }, { on := 2, ground := Ground.phase }, { on := 3, ground := Ground.phase }, { on := 4, ground := Ground.phase }, { on := 5, ground := Ground.phase }, { on := 6, ground := Ground.phase }, { on := 7, ground := Ground.phase }, { on := 8, ground := Ground.phase }, { on := 9, ground := Ground.phase }, { on := 10, ground := Ground.phase }, { on := 11, ground := Ground.phase }, { on := 12, ground := Ground.phase }, { on := 13, ground := Ground.phase }, { on := 14, ground := Ground.phase }, { on := 15, ground := Ground.phase }, { on := 16, ground := Ground.phase }, { on := 17, ground := Ground.phase }], guard := none }) (v := ?v53) rfl (by kernel_rfl) (by kernel_rfl) (by kernel_rfl) (fun _ _ _ h => h) (Or.inl ⟨by rfl, ?hy53⟩) ?rs53
      case hy53 => (intro W hW; go_simp; try with_reducible rfl)
      try simp only [Act.put, List.setIfInBounds_toArray, List.set_cons_zero, List.set_cons_succ]
      refine wpAnyF_pure (i := 19) (oi := { dst := some 25, op := Op.fieldAddr 67 (Go.Operand.tmp 24) 1, type := 0, pos := "big.go:186", after := #[{ on := 18, ground := Ground.data }, { on := 0, ground := Ground.phase }, { on := 1, ground := Ground.phase }, { on := 2, ground := Ground.phase }, { on := 3, ground := Ground.phase }, { on := 4, ground := Ground.phase }, { on := 5, ground := Ground.phase }, { on := 6, ground := Ground.phase }, { on := 7, ground := Ground.phase }, { on := 8, ground := Ground.phase }, { on := 9, ground := Ground.phase }, { on := 10, ground := Ground.phase }, { on := 11, ground := Ground.phase }, { on := 12, ground := Ground.phase }, { on := 13, ground := Ground.phase }, { on := 14, ground := Ground.phase }, { on := 15, ground := Ground.phase }, { on := 16, ground := Ground.phase }, { on := 17, ground := Ground.phase }], guard := none }) (v := ?v54) rfl (by kernel_rfl) (by kernel_rfl) (by kernel_rfl) (fun _ _ _ h => h) (Or.inl ⟨by rfl, ?hy54⟩) ?rs54
      case hy54 => (intro W hW; go_simp; try with_reducible rfl)
      try simp only [Act.put, List.setIfInBounds_toArray, List.set_cons_zero, List.set_cons_succ]
      refine wpAnyF_last (i := 20) (o := { dst := none, op := Op.store 65 (Go.Operand.tmp 25) (Go.Operand.tmp 21), type := 0, pos := "big.go:186", after := #[{ on := 19, ground := Ground.data }, { on := 14, ground := Ground.data }, { on := 17, ground := Ground.chain }, { on := 0, ground := Ground.phase }, { on := 1, ground := Ground.phase }, { on := 2, ground := Ground.phase }, { on := 3, ground := Ground.phase }, { on := 4, ground := Ground.phase }, { on := 5, ground := Ground.phase }, { on := 6, ground := Ground.phase }, { on := 7, ground := Ground.phase }, { on := 8, ground := Ground.phase }, { on := 9, ground := Ground.phase }, { on := 10, ground := Ground.phase }, { on := 11, ground := Ground.phase }, { on := 12, ground := Ground.phase }, { on := 13, ground := Ground.phase }, { on := 14, ground := Ground.phase }, { on := 15, ground := Ground.phase }, { on := 16, ground := Ground.phase }, { on := 17, ground := Ground.phase }], guard := none }) (by kernel_rfl) rfl (by decide) (fun K hK => ?_)
      go_simp
      refine hK.out _ _ ?_
      clear hK K
      try simp only [Act.put, List.setIfInBounds_toArray, List.set_cons_zero, List.set_cons_succ]
      refine wpAnyF_done (by kernel_rfl) ?_
      have hraw := RawAt.stored (s := s') hz1 ho1 hd1
      have hgp := grownBy_then (grownBy_of_below (row := some bz) (bthen hB0 hB1)) (grownBy_pair w1 bz (.bool s') (.slice A2 L.length c2))
      clear Xc0 Xc1 Yc0 Yc1 f0 f1 e0 e1 hbx hbk ho1
      go_wp2_with fail
      refine (trim_any bz s' A2 L.length c2 L _ hraw (by omega)).mono ?_
      rintro e w3 ⟨rfl, hfin, hg3⟩
      go_wp2
      go_ret
      refine ⟨rfl, ?_, grownBy_then hgp hg3⟩
      rw [hm1] at hfin
      rw [Hm.out, Hv.out, Hsame.out] at hfin
      rw [Int.add_comm]
      exact hfin

set_option maxHeartbeats 400000 in
theorem BigSub_any (bz bx bY : Nat) (x y : Int) (w : World) (hz : IntBox w bz) (hx : BigAt w bx x) (hy : BigAt w bY y) (sx : ((x.natAbs : Nat) : Int) < pow32 1000000) (sy : ((y.natAbs : Nat) : Int) < pow32 1000000) :
    Calls Try.prog 73 #[ptr bz, ptr bx, ptr bY] w fun e w' => e = .returned (ptr bz) ∧ BigAt w' bz (x - y) ∧ w.grownBy w' (some bz) := by
  have C := Lib.hid (BigNeg_any w.heap.size bY y _ (IntBox.new w) (hy.alloc _) sy)
  have D := Lib.hid (fun (W : World) (h0 : IntBox W bz) (h1 : BigAt W bx x) (h2 : BigAt W w.heap.size (-y)) => BigAdd_any bz bx w.heap.size x (-y) W h0 h1 h2 sx (by rw [Int.natAbs_neg]; exact sy))
  have hxlt := hx.int.lt
  have hzlt := hz.lt
  go_enter Try.func73, Try.ntmps73
  go_wp2_with fail
  refine C.out.mono ?_
  rintro e w1 ⟨rfl, hn, hg⟩
  have hB := grownBy_new hg
  go_wp2_with fail
  refine (D.out w1 (hz.below hB hzlt) (hx.below hB) hn).mono ?_
  rintro e w2 ⟨rfl, hfin, hg2⟩
  go_wp2
  go_ret
  exact ⟨rfl, by rw [Int.sub_eq_add_neg]; exact hfin, grownBy_then (grownBy_of_below hB) hg2⟩
end Go.Proofs.Ytajfohnblmnjjaa
