/-
  Contracts of the reference's whole numbers: SetUint64, SetInt64, NewInt, Uint64, Int64, Set, Neg, CmpAbs.
-/
import Derived.Test.YtajfohnblmnjjaaBigAt
import Derived.Laws.BitsAllLaws
import Derived.Test.YtajfohnblmnjjaaRegionP
namespace Go.Proofs.Ytajfohnblmnjjaa
open Go.RowKit
set_option linter.unusedVariables false

set_option maxHeartbeats 400000 in
theorem SetUint64_any (b : Nat) (n : Int) (h0 : 0 ≤ n) (h1 : n < 18446744073709551616) (w : World) (h : IntBox w b) :
    Calls Try.prog 63 #[ptr b, .int .u64 n] w fun e w' => e = .returned (ptr b) ∧ BigAt w' b n ∧ w.grownBy w' (some b) := by
  have hlt := h.lt
  have f0 := h.free 0
  have f1 := h.free 1
  obtain ⟨s, A, m, c, hb⟩ := h
  have c0 := hb.cell 0 rfl
  have c1 := hb.cell 1 rfl
  go_enter Try.func63, Try.ntmps63
  go_wp2_with fail
  have hraw : RawAt (((w.setCell ⟨b, 0, none⟩ (.bool false)).setCell ⟨b, 1, none⟩ (.slice (some ⟨w.heap.size, 0, none⟩) 2 2)).alloc (.cells #[.int .u32 (n % 4294967296), .int .u32 (n / 4294967296)] 84)) b false (some ⟨w.heap.size, 0, none⟩) 2 2 [n % 4294967296, n / 4294967296] :=
    ⟨(hb.pair _ _).alloc _, Rd.litAt (Value.int .u32) [n % 4294967296, n / 4294967296] _ (by simp [World.setCell]), Nat.le_refl _, Dig.cons ⟨by omega, by omega⟩ (Dig.cons ⟨by omega, by omega⟩ Dig.nil)⟩
  refine (trim_any b false _ 2 2 _ _ hraw (by decide)).mono ?_
  rintro e w1 ⟨rfl, hB, hg⟩
  rw [show sgn false (mag [n % 4294967296, n / 4294967296]) = n by simp [sgn, mag]; omega] at hB
  have hG := grownBy_then (grownBy_then (grownBy_pair w b _ _) (grownBy_of_below ((Below.refl _ _).alloc (Nat.le_refl _) _))) hg
  clear hg hraw
  go_wp2
  go_ret
  exact ⟨rfl, hB, hG⟩

set_option maxHeartbeats 400000 in
theorem SetInt64_any (b : Nat) (n : Int) (hn : in64 n) (w : World) (h : IntBox w b) :
    Calls Try.prog 55 #[ptr b, .int .i64 n] w fun e w' => e = .returned (ptr b) ∧ BigAt w' b n ∧ w.grownBy w' (some b) := by
  obtain ⟨n0, n1⟩ := hn
  by_cases hneg : n < 0
  · have C := Lib.hid (SetUint64_any b (-n) (by omega) (by omega) w h)
    have hwr : IntKind.u64.wrap (-IntKind.u64.wrap n) = -n := by rw [IntKind.wrap_u64, IntKind.wrap_u64]; omega
    go_enter Try.func55, Try.ntmps55
    go_wp2_with fail
    refine C.out.mono ?_
    rintro e w1 ⟨rfl, hB, hg⟩
    obtain ⟨A, m, c, l, hr, ht, hm⟩ := hB
    have c0 := hr.box.cell 0 rfl
    have f0 := hr.box.free 0
    go_wp2
    go_ret
    refine ⟨rfl, ⟨A, m, c, l, ⟨?_, rd_grown hr.rd hr.int (grownBy_setCell _ _ _), hr.cap, hr.dig⟩, ht, by omega⟩, grownBy_then hg (grownBy_setCell _ _ _)⟩
    rw [decide_eq_true hneg]
    simpa using hr.box.set 0 (.bool true)
  · have C := Lib.hid (SetUint64_any b n (by omega) (by omega) w h)
    go_enter Try.func55, Try.ntmps55
    go_wp2_with fail
    refine C.out.mono ?_
    rintro e w1 ⟨rfl, hB, hg⟩
    go_wp2
    go_ret
    exact ⟨rfl, hB, hg⟩

theorem NewInt_any (n : Int) (hn : in64 n) (w : World) :
    Calls Try.prog 37 #[.int .i64 n] w fun e w' => e = .returned (ptr w.heap.size) ∧ BigAt w' w.heap.size n ∧ Below w.heap.size w w' := by
  have C := Lib.hid (SetInt64_any w.heap.size n hn _ (IntBox.new w))
  go_enter Try.func37, Try.ntmps37
  go_wp2_with fail
  refine C.out.mono ?_
  rintro e w1 ⟨rfl, hB, hg⟩
  go_wp2
  go_ret
  exact ⟨rfl, hB, grownBy_new hg⟩

/-- In a block whose number does not matter. -/
theorem NewInt_ex (n : Int) (hn : in64 n) (w : World) :
    Calls Try.prog 37 #[.int .i64 n] w fun e w' => ∃ b, e = .returned (ptr b) ∧ BigAt w' b n ∧ Below w.heap.size w w' ∧ w.heap.size ≤ b :=
  (NewInt_any n hn w).mono fun e w' h => ⟨_, h.1, h.2.1, h.2.2, Nat.le_refl _⟩

theorem or32 (m d : Int) (h0 : 0 ≤ m) (h1 : m < 4294967296) (h2 : 0 ≤ d) (h3 : d < 4294967296) : bits .or .u64 (m * 4294967296) d = m * 4294967296 + d := by
  obtain ⟨a, rfl⟩ := Int.eq_ofNat_of_zero_le h0
  obtain ⟨b, rfl⟩ := Int.eq_ofNat_of_zero_le h2
  have e : ((a : Int) * 4294967296) = ((2 ^ 32 * a : Nat) : Int) := by omega
  rw [e, u64_or_nat _ _ (by omega) (by omega), ← Nat.two_pow_add_eq_or_of_lt (by omega)]
  omega

set_option maxHeartbeats 400000 in
theorem Uint64_any (b : Nat) (z : Int) (w : World) (h : BigAt w b z) (hz : z.natAbs < 18446744073709551616) :
    Calls Try.prog 62 #[ptr b] w fun e w' => e = .returned (.int .u64 z.natAbs) ∧ w = w' := by
  obtain ⟨A, n, c, l, hr, ht, hm⟩ := h
  have hl := hr.rd.lenMap
  have hn : n ≤ 2 := by
    rw [← hl]
    exact len_le hr.dig ht (by rw [hm]; simp only [pow32]; omega)
  have c1 := hr.box.cell 1 rfl
  have hmn : min n 2 = n := Nat.min_eq_left hn
  have hmn' : min (n : Int) 2 = n := Int.min_eq_left (by omega)
  rw [← hm]
  clear hm hz ht
  have Hl := Lib.hid hl; clear hl
  go_enter Try.func62, Try.ntmps62
  go_wp2
  go_loop [3, 4] (fun v i => ∃ j : Nat, j ≤ n ∧ i = .int .i64 ((j : Int) - 1) ∧ v = .int .u64 (mag (l.drop j))) (fun _ i => (intOf i + 1).toNat)
  case atStart => exact ⟨n, Nat.le_refl _, rfl, by rw [List.drop_eq_nil_of_le (by rw [Hl.out]; exact Nat.le_refl _)]; rfl⟩
  case round =>
    obtain ⟨j, hj, rfl, rfl⟩ := hrel
    by_cases hj0 : 0 < j
    · obtain ⟨ad, x, rfl, hx, hc⟩ := hr.rd.atMap (k := j - 1) (by omega)
      have hxd := hr.dig.at hx
      have hdr := drop_cons hx
      rw [Nat.sub_add_cancel hj0] at hdr
      have Hd : Hid (mag (l.drop (j - 1)) = mag (l.drop j) * 4294967296 + x) := by show _ = _; rw [hdr, mag]; omega
      have hr0 := mag_nonneg (hr.dig.drop j)
      have hr1 : mag (l.drop j) < 4294967296 := by
        have h1 := mag_lt (hr.dig.drop j)
        have h2 := pow32_mono (show (l.drop j).length ≤ 1 by rw [List.length_drop, Hl.out]; omega)
        have h3 : pow32 1 = 4294967296 := by decide
        omega
      obtain ⟨x0, x1⟩ := hxd
      have hor := or32 (mag (l.drop j)) x hr0 hr1 x0 x1
      clear hx hdr
      generalize mag (l.drop j) = m at *
      go_wp2
      go_round
      case rel => exact ⟨j - 1, by omega, by go_num, int_eq Hd.out.symm⟩
      case measure => simp [intOf] <;> omega
    · obtain rfl : j = 0 := by omega
      go_wp2
      go_ret
      exact ⟨rfl, rfl⟩

theorem Int64_any (b : Nat) (z : Int) (w : World) (h : BigAt w b z) (hz : in64 z) :
    Calls Try.prog 43 #[ptr b] w fun e w' => e = .returned (.int .i64 z) ∧ w = w' := by
  obtain ⟨z0, z1⟩ := hz
  have C := Lib.hid (Uint64_any b z w h (by omega))
  obtain ⟨A, n, c, l, hr, _⟩ := h
  have c0 := hr.box.cell 0 rfl
  by_cases hneg : z < 0
  · rw [decide_eq_true hneg] at c0
    have hwr : wrap64 (-wrap64 (z.natAbs : Int)) = z := by unfold wrap64; omega
    go_enter Try.func43, Try.ntmps43
    go_wp2_with fail
    refine C.out.mono ?_
    rintro e w1 ⟨rfl, rfl⟩
    go_wp2
    go_ret
    exact ⟨ret_int hwr, rfl⟩
  · rw [decide_eq_false hneg] at c0
    have hwr : IntKind.i64.wrap (z.natAbs : Int) = z := by rw [IntWalk.i64_in _ (by omega)]; omega
    go_enter Try.func43, Try.ntmps43
    go_wp2_with fail
    refine C.out.mono ?_
    rintro e w1 ⟨rfl, rfl⟩
    go_wp2
    go_ret
    exact ⟨rfl, rfl⟩

theorem below_drew {B : Nat} (w : World) : Below B w w.drew := ⟨rfl, rfl, rfl, Nat.le_refl _, fun _ _ => rfl⟩

set_option maxHeartbeats 800000 in
theorem BigSet_any (b x : Nat) (z : Int) (w : World) (hb : IntBox w b) (h : BigAt w x z) (hz : ((z.natAbs : Nat) : Int) < pow32 1000000) :
    Calls Try.prog 65 #[ptr b, ptr x] w fun e w' => e = .returned (ptr b) ∧ BigAt w' b z ∧ w.grownBy w' (some b) := by
  obtain ⟨A, n, c, l, hr, ht, hm⟩ := h
  have Hl := Lib.hid hr.rd.lenMap
  have hn : n ≤ 1000000 := by rw [← Hl.out]; exact len_le hr.dig ht (by rw [hm]; exact hz)
  have hlt := hr.box.lt
  have hblt := hb.lt
  have Hc0 := Lib.hid (hr.box.cell 0 rfl)
  have Hc1 := Lib.hid (hr.box.cell 1 rfl)
  generalize hs : decide (z < 0) = s at *
  have Hs := Lib.hid hs; clear hs hz
  go_enter Try.func65, Try.ntmps65
  go_wp2
  refine wp_region_F 12 (w.heap.size) (by kernel_rfl) ?_
  refine wpAnyF_pure (i := 0) (oi := { dst := some 5, op := Op.move (Go.Operand.tmp 0), type := 62, pos := "big.go:43", after := #[], guard := none }) (v := ?v1) rfl (by kernel_rfl) (by kernel_rfl) (by kernel_rfl) (fun _ _ _ h => h) (Or.inl ⟨by rfl, ?hy1⟩) ?rs1
  case hy1 => (intro W hW; go_simp; try with_reducible rfl)
  try simp only [Act.put, List.setIfInBounds_toArray, List.set_cons_zero, List.set_cons_succ]
  refine wpAnyF_pure (i := 1) (oi := { dst := some 6, op := Op.move (Go.Operand.tmp 0), type := 62, pos := "big.go:43", after := #[{ on := 14, ground := Ground.gcOnly Go.Departure.lateStores }], guard := none }) (v := ?v2) rfl (by kernel_rfl) (by kernel_rfl) (by kernel_rfl) (fun _ _ _ h => h) (Or.inl ⟨by rfl, ?hy2⟩) ?rs2
  case hy2 => (intro W hW; go_simp; try with_reducible rfl)
  try simp only [Act.put, List.setIfInBounds_toArray, List.set_cons_zero, List.set_cons_succ]
  refine wpAnyF_pure (i := 2) (oi := { dst := some 7, op := Op.move (Go.Operand.tmp 1), type := 62, pos := "big.go:43", after := #[], guard := none }) (v := ?v3) rfl (by kernel_rfl) (by kernel_rfl) (by kernel_rfl) (fun _ _ _ h => h) (Or.inl ⟨by rfl, ?hy3⟩) ?rs3
  case hy3 => (intro W hW; go_simp; try with_reducible rfl)
  try simp only [Act.put, List.setIfInBounds_toArray, List.set_cons_zero, List.set_cons_succ]
  refine wpAnyF_pure (i := 3) (oi := { dst := some 8, op := Op.nilCheck (Go.Operand.tmp 7), type := 0, pos := "big.go:43", after := #[{ on := 2, ground := Ground.data }], guard := none }) (v := ?v4) rfl (by kernel_rfl) (by kernel_rfl) (by kernel_rfl) (fun _ _ _ h => h) (Or.inl ⟨by rfl, ?hy4⟩) ?rs4
  case hy4 => (intro W hW; go_simp; try with_reducible rfl)
  try simp only [Act.put, List.setIfInBounds_toArray, List.set_cons_zero, List.set_cons_succ]
  refine wpAnyF_pure (i := 4) (oi := { dst := some 9, op := Op.fieldAddr 67 (Go.Operand.tmp 8) 0, type := 0, pos := "big.go:43", after := #[{ on := 3, ground := Ground.data }], guard := none }) (v := ?v5) rfl (by kernel_rfl) (by kernel_rfl) (by kernel_rfl) (fun _ _ _ h => h) (Or.inl ⟨by rfl, ?hy5⟩) ?rs5
  case hy5 => (intro W hW; go_simp; try with_reducible rfl)
  try simp only [Act.put, List.setIfInBounds_toArray, List.set_cons_zero, List.set_cons_succ]
  refine wpAnyF_take (i := 5) (oi := { dst := some 10, op := Op.load 4 (Go.Operand.tmp 9), type := 4, pos := "big.go:43", after := #[{ on := 4, ground := Ground.data }], guard := none }) (v := ?v6) rfl (by kernel_rfl) (by kernel_rfl) (by kernel_rfl) (by decide) (by kernel_rfl) (fun _ _ _ h => h) (Or.inl ⟨by rfl, ?hy6⟩) ?rs6
  case hy6 => (intro W hW; have hc := (hW.cell (p := ⟨x, 0, none⟩) hlt).trans Hc0.out; go_simp; try with_reducible rfl)
  try simp only [Act.put, List.setIfInBounds_toArray, List.set_cons_zero, List.set_cons_succ]
  refine wpAnyF_pure (i := 7) (oi := { dst := some 12, op := Op.move (Go.Operand.tmp 1), type := 62, pos := "big.go:43", after := #[], guard := none }) (v := ?v7) rfl (by kernel_rfl) (by kernel_rfl) (by kernel_rfl) (fun _ _ _ h => h) (Or.inl ⟨by rfl, ?hy7⟩) ?rs7
  case hy7 => (intro W hW; go_simp; try with_reducible rfl)
  try simp only [Act.put, List.setIfInBounds_toArray, List.set_cons_zero, List.set_cons_succ]
  refine wpAnyF_pure (i := 8) (oi := { dst := some 13, op := Op.nilCheck (Go.Operand.tmp 12), type := 0, pos := "big.go:43", after := #[{ on := 7, ground := Ground.data }], guard := none }) (v := ?v8) rfl (by kernel_rfl) (by kernel_rfl) (by kernel_rfl) (fun _ _ _ h => h) (Or.inl ⟨by rfl, ?hy8⟩) ?rs8
  case hy8 => (intro W hW; go_simp; try with_reducible rfl)
  try simp only [Act.put, List.setIfInBounds_toArray, List.set_cons_zero, List.set_cons_succ]
  refine wpAnyF_pure (i := 9) (oi := { dst := some 14, op := Op.fieldAddr 67 (Go.Operand.tmp 13) 1, type := 0, pos := "big.go:43", after := #[{ on := 8, ground := Ground.data }], guard := none }) (v := ?v9) rfl (by kernel_rfl) (by kernel_rfl) (by kernel_rfl) (fun _ _ _ h => h) (Or.inl ⟨by rfl, ?hy9⟩) ?rs9
  case hy9 => (intro W hW; go_simp; try with_reducible rfl)
  try simp only [Act.put, List.setIfInBounds_toArray, List.set_cons_zero, List.set_cons_succ]
  refine wpAnyF_take (i := 10) (oi := { dst := some 15, op := Op.load 65 (Go.Operand.tmp 14), type := 65, pos := "big.go:43", after := #[{ on := 9, ground := Ground.data }], guard := none }) (v := ?v10) rfl (by kernel_rfl) (by kernel_rfl) (by kernel_rfl) (by decide) (by kernel_rfl) (fun _ _ _ h => h) (Or.inl ⟨by rfl, ?hy10⟩) ?rs10
  case hy10 => (intro W hW; have hc := (hW.cell (p := ⟨x, 1, none⟩) hlt).trans Hc1.out; go_simp; try with_reducible rfl)
  try simp only [Act.put, List.setIfInBounds_toArray, List.set_cons_zero, List.set_cons_succ]
  refine wpAnyF_one (i := 6) (o := { dst := some 11, op := Op.buildSlice 65 0 #[], type := 65, pos := "big.go:43", after := #[], guard := none }) (by kernel_rfl) rfl (fun K hK => ?_)
  go_simp
  refine hK.out _ _ ((Below.refl _ _).alloc (by first | exact Nat.le_refl _ | omega | (simp; omega)) _) ?_
  clear hK K
  try simp only [Act.put, List.setIfInBounds_toArray, List.set_cons_zero, List.set_cons_succ]
  refine wpAnyF_one (i := 11) (o := { dst := some 16, op := Op.call { callee := Callee.builtin Builtin.append, args := #[Go.Operand.tmp 11, Go.Operand.tmp 15], argTypes := #[65, 65] }, type := 65, pos := "big.go:43", after := #[{ on := 6, ground := Ground.data }, { on := 10, ground := Ground.data }], guard := none }) (by kernel_rfl) rfl (fun K hK => ?_)
  rw [if_pos (by rfl)]
  refine wp_apW (Value.int .u32) _ elU32 rfl (one_int .u32) w.heap.size (.slice (some ⟨w.heap.size, 0, none⟩) 0 0) [] rfl (Ow.empty (Value.int .u32) w.drew _ (Nat.le_refl _)) A n c l rfl (hr.rd.drew.alloc _) (le_alloc (Nat.le_refl _)) (by simp <;> omega) (by omega) ?_; intro v1 w1 ho1 hm1; have hbk := hm1.below (Below.refl w.heap.size _) (le_alloc (Nat.le_refl _)) (new_block (Nat.le_refl _)); obtain ⟨A2, c2, rfl, hcap2, _, hrd2⟩ := ho1.formN (n := n) (by simpa using Hl.out)
  refine hK.out _ _ hbk ?_
  clear hK K
  try simp only [Act.put, List.setIfInBounds_toArray, List.set_cons_zero, List.set_cons_succ]
  refine wpAnyF_pure (i := 12) (oi := { dst := some 17, op := Op.nilCheck (Go.Operand.tmp 5), type := 0, pos := "big.go:43", after := #[{ on := 0, ground := Ground.data }, { on := 0, ground := Ground.phase }, { on := 1, ground := Ground.textOnly Go.Departure.lateStores }, { on := 2, ground := Ground.phase }, { on := 3, ground := Ground.phase }, { on := 4, ground := Ground.phase }, { on := 5, ground := Ground.phase }, { on := 6, ground := Ground.textOnly Go.Departure.lateStoresUnsure }, { on := 7, ground := Ground.textOnly Go.Departure.lateStores }, { on := 8, ground := Ground.textOnly Go.Departure.lateStoresUnsure }, { on := 9, ground := Ground.textOnly Go.Departure.lateStoresUnsure }, { on := 10, ground := Ground.phase }, { on := 11, ground := Ground.phase }], guard := none }) (v := ?v11) rfl (by kernel_rfl) (by kernel_rfl) (by kernel_rfl) (fun _ _ _ h => h) (Or.inl ⟨by rfl, ?hy11⟩) ?rs11
  case hy11 => (intro W hW; go_simp; try with_reducible rfl)
  try simp only [Act.put, List.setIfInBounds_toArray, List.set_cons_zero, List.set_cons_succ]
  refine wpAnyF_pure (i := 13) (oi := { dst := some 18, op := Op.fieldAddr 67 (Go.Operand.tmp 17) 0, type := 0, pos := "big.go:43", after := #[{ on := 12, ground := Ground.data }, { on := 0, ground := Ground.phase }, { on := 1, ground := Ground.textOnly Go.Departure.lateStores }, { on := 2, ground := Ground.phase }, { on := 3, ground := Ground.phase }, { on := 4, ground := Ground.phase }, { on := 5, ground := Ground.phase }, { on := 6, ground := Ground.textOnly Go.Departure.lateStoresUnsure }, { on := 7, ground := Ground.textOnly Go.Departure.lateStores }, { on := 8, ground := Ground.textOnly Go.Departure.lateStoresUnsure }, { on := 9, ground := Ground.textOnly Go.Departure.lateStoresUnsure }, { on := 10, ground := Ground.phase }, { on := 11, ground := Ground.phase }], guard := none }) (v := ?v12) rfl (by kernel_rfl) (by kernel_rfl) (by kernel_rfl) (fun _ _ _ h => h) (Or.inl ⟨by rfl, ?hy12⟩) ?rs12
  case hy12 => (intro W hW; go_simp; try with_reducible rfl)
  try simp only [Act.put, List.setIfInBounds_toArray, List.set_cons_zero, List.set_cons_succ]
  refine wpAnyF_last (i := 14) (o := { dst := none, op := Op.store 4 (Go.Operand.tmp 18) (Go.Operand.tmp 10), type := 0, pos := "big.go:43", after := #[{ on := 13, ground := Ground.data }, { on := 5, ground := Ground.data }, { on := 11, ground := Ground.chain }, { on := 0, ground := Ground.phase }, { on := 1, ground := Ground.textOnly Go.Departure.lateStores }, { on := 2, ground := Ground.phase }, { on := 3, ground := Ground.phase }, { on := 4, ground := Ground.phase }, { on := 5, ground := Ground.phase }, { on := 6, ground := Ground.textOnly Go.Departure.lateStoresUnsure }, { on := 7, ground := Ground.textOnly Go.Departure.lateStores }, { on := 8, ground := Ground.textOnly Go.Departure.lateStoresUnsure }, { on := 9, ground := Ground.textOnly Go.Departure.lateStoresUnsure }, { on := 10, ground := Ground.phase }, { on := 11, ground := Ground.phase }], guard := none }) (by kernel_rfl) rfl (by decide) (fun K hK => ?_)
  have hB1 : Below w.heap.size w w1 := (below_drew w).trans (((Below.refl w.heap.size w.drew).alloc (Nat.le_refl _) _).trans hbk); have hb1 := hb.below hB1 hblt; have f0 := hb1.free 0; have f1 := hb1.free 1; obtain ⟨s1, A1, m1, k1, hbx⟩ := hb1; have d0 := hbx.cell 0 rfl; have d1 := hbx.cell 1 rfl
  go_simp
  refine hK.out _ _ ?_
  clear hK K
  try simp only [Act.put, List.setIfInBounds_toArray, List.set_cons_zero, List.set_cons_succ]
  refine wpAnyF_pure (i := 15) (oi := { dst := some 19, op := Op.nilCheck (Go.Operand.tmp 6), type := 0, pos := "big.go:43", after := #[{ on := 1, ground := Ground.data }, { on := 0, ground := Ground.phase }, { on := 1, ground := Ground.phase }, { on := 2, ground := Ground.phase }, { on := 3, ground := Ground.phase }, { on := 4, ground := Ground.phase }, { on := 5, ground := Ground.phase }, { on := 6, ground := Ground.phase }, { on := 7, ground := Ground.phase }, { on := 8, ground := Ground.phase }, { on := 9, ground := Ground.phase }, { on := 10, ground := Ground.phase }, { on := 11, ground := Ground.phase }, { on := 12, ground := Ground.phase }, { on := 13, ground := Ground.phase }, { on := 14, ground := Ground.phase }], guard := none }) (v := ?v13) rfl (by kernel_rfl) (by kernel_rfl) (by kernel_rfl) (fun _ _ _ h => h) (Or.inl ⟨by rfl, ?hy13⟩) ?rs13
  case hy13 => (intro W hW; go_simp; try with_reducible rfl)
  try simp only [Act.put, List.setIfInBounds_toArray, List.set_cons_zero, List.set_cons_succ]
  refine wpAnyF_pure (i := 16) (oi := { dst := some 20, op := Op.fieldAddr 67 (Go.Operand.tmp 19) 1, type := 0, pos := "big.go:43", after := #[{ on := 15, ground := Ground.data }, { on := 0, ground := Ground.phase }, { on := 1, ground := Ground.phase }, { on := 2, ground := Ground.phase }, { on := 3, ground := Ground.phase }, { on := 4, ground := Ground.phase }, { on := 5, ground := Ground.phase }, { on := 6, ground := Ground.phase }, { on := 7, ground := Ground.phase }, { on := 8, ground := Ground.phase }, { on := 9, ground := Ground.phase }, { on := 10, ground := Ground.phase }, { on := 11, ground := Ground.phase }, { on := 12, ground := Ground.phase }, { on := 13, ground := Ground.phase }, { on := 14, ground := Ground.phase }], guard := none }) (v := ?v14) rfl (by kernel_rfl) (by kernel_rfl) (by kernel_rfl) (fun _ _ _ h => h) (Or.inl ⟨by rfl, ?hy14⟩) ?rs14
  case hy14 => (intro W hW; go_simp; try with_reducible rfl)
  try simp only [Act.put, List.setIfInBounds_toArray, List.set_cons_zero, List.set_cons_succ]
  refine wpAnyF_last (i := 17) (o := { dst := none, op := Op.store 65 (Go.Operand.tmp 20) (Go.Operand.tmp 16), type := 0, pos := "big.go:43", after := #[{ on := 16, ground := Ground.data }, { on := 11, ground := Ground.data }, { on := 14, ground := Ground.chain }, { on := 0, ground := Ground.phase }, { on := 1, ground := Ground.phase }, { on := 2, ground := Ground.phase }, { on := 3, ground := Ground.phase }, { on := 4, ground := Ground.phase }, { on := 5, ground := Ground.phase }, { on := 6, ground := Ground.phase }, { on := 7, ground := Ground.phase }, { on := 8, ground := Ground.phase }, { on := 9, ground := Ground.phase }, { on := 10, ground := Ground.phase }, { on := 11, ground := Ground.phase }, { on := 12, ground := Ground.phase }, { on := 13, ground := Ground.phase }, { on := 14, ground := Ground.phase }], guard := none }) (by kernel_rfl) rfl (by decide) (fun K hK => ?_)
  go_simp
  refine hK.out _ _ ?_
  clear hK K
  try simp only [Act.put, List.setIfInBounds_toArray, List.set_cons_zero, List.set_cons_succ]
  refine wpAnyF_done (by kernel_rfl) ?_
  clear Hc0 Hc1
  go_wp2
  go_ret
  have hint : IntBox w1 b := ⟨_, _, _, _, hbx⟩
  refine ⟨rfl, ⟨A2, n, c2, l, ⟨?_, rd_grown (by simpa using hrd2) hint (grownBy_pair _ _ _ _), hcap2, hr.dig⟩, ht, hm⟩, grownBy_then (grownBy_of_below hB1) (grownBy_pair _ _ _ _)⟩
  rw [Hs.out]
  exact hbx.pair _ _
end Go.Proofs.Ytajfohnblmnjjaa
