/-
  Contracts of the reference's whole numbers: Mul.
-/
import Derived.Test.YtajfohnblmnjjaaBigWalks3
namespace Go.Proofs.Ytajfohnblmnjjaa
open Go.RowKit
set_option linter.unusedVariables false

theorem prod_sign (x y : Int) : sgn (!(decide (x < 0) == decide (y < 0))) ((x.natAbs : Int) * y.natAbs) = x * y := by
  by_cases hx : x < 0 <;> by_cases hy : y < 0
  · rw [decide_eq_true hx, decide_eq_true hy]
    rw [Int.ofNat_natAbs_of_nonpos (by omega), Int.ofNat_natAbs_of_nonpos (by omega), Int.neg_mul_neg]
    simp [sgn]
  · rw [decide_eq_true hx, decide_eq_false hy]
    rw [Int.ofNat_natAbs_of_nonpos (by omega), Int.natAbs_of_nonneg (by omega)]
    simp [sgn, Int.neg_mul]
  · rw [decide_eq_false hx, decide_eq_true hy]
    rw [Int.natAbs_of_nonneg (by omega), Int.ofNat_natAbs_of_nonpos (by omega)]
    simp [sgn, Int.mul_neg]
  · rw [decide_eq_false hx, decide_eq_false hy]
    rw [Int.natAbs_of_nonneg (by omega), Int.natAbs_of_nonneg (by omega)]
    simp [sgn]

theorem digs_prod {a b : Int} (ha : IsDig a) (hb : IsDig b) : 0 ≤ a * b ∧ a * b ≤ 18446744065119617025 := by
  unfold IsDig at ha hb
  refine ⟨Int.mul_nonneg ha.1 hb.1, ?_⟩
  have := Int.mul_le_mul (show a ≤ 4294967295 by omega) (show b ≤ 4294967295 by omega) hb.1 (by omega)
  omega

/-- The row's digit at place k + j. -/
theorem mul_at {acc racc rest win : List Int} {k j : Nat} {o : Int} (hk : acc.length = k) (hj : racc.length = j) (ho : win[j]? = some o) : (acc ++ racc ++ win.drop j ++ rest)[k + j]? = some o := by
  have hl : (acc ++ racc).length = k + j := by simp; omega
  have hlt : j < win.length := (List.getElem?_eq_some_iff.1 ho).1
  rw [List.append_assoc (acc ++ racc), List.getElem?_append_right (by omega), hl, Nat.sub_self, drop_cons ho]; rfl
theorem mul_set {acc racc rest win : List Int} {k j : Nat} {o : Int} (v : Int) (hk : acc.length = k) (hj : racc.length = j) (ho : win[j]? = some o) :
    (acc ++ racc ++ win.drop j ++ rest).set (k + j) v = acc ++ (racc ++ [v]) ++ win.drop (j + 1) ++ rest := by
  have hl : (acc ++ racc).length = k + j := by simp; omega
  rw [List.append_assoc (acc ++ racc), List.set_append_right _ _ (by omega), hl, Nat.sub_self, drop_cons ho]
  simp
/-- The row's last carry. -/
theorem mul_last {acc racc : List Int} {k m t : Nat} (v : Int) (hk : acc.length = k) (hj : racc.length = m) :
    (acc ++ racc ++ List.replicate (t + 1) 0)[k + m]? = some 0 ∧ (acc ++ racc ++ List.replicate (t + 1) 0).set (k + m) v = acc ++ (racc ++ [v]) ++ List.replicate t 0 := by
  have hl : (acc ++ racc).length = k + m := by simp; omega
  constructor
  · rw [List.getElem?_append_right (by omega), hl, Nat.sub_self]; rfl
  · rw [List.set_append_right _ _ (by omega), hl, Nat.sub_self, List.replicate_succ, List.set_cons_zero]; simp

theorem RawAt.storedN {w1 : World} {b base : Nat} {s : Bool} {A : Option Addr} {n c : Nat} {l : List Int} (hz : IntBox w1 b) (ho : Ow (Value.int .u32) w1 base 84 (.slice A n c) l) (hd : Dig l) :
    RawAt ((w1.setCell ⟨b, 0, none⟩ (.bool s)).setCell ⟨b, 1, none⟩ (.slice A n c)) b s A n c l := by
  have hz' := hz
  obtain ⟨s0, A0, n0, c0, hb⟩ := hz
  exact ⟨hb.pair _ _, rd_grown ho.rd hz' (grownBy_pair _ _ _ _), ho.len.2.1, hd⟩

set_option maxHeartbeats 3200000 in
theorem BigMul_any (bz bx bY : Nat) (x y : Int) (w : World) (hz : IntBox w bz) (hx : BigAt w bx x) (hy : BigAt w bY y) (sx : ((x.natAbs : Nat) : Int) < pow32 1000000) (sy : ((y.natAbs : Nat) : Int) < pow32 1000000) :
    Calls Try.prog 39 #[ptr bz, ptr bx, ptr bY] w fun e w' => e = .returned (ptr bz) ∧ BigAt w' bz (x * y) ∧ w.grownBy w' (some bz) := by
  have Hsg := Lib.hid (prod_sign x y)
  obtain ⟨A, n, c, l, hr, ht, hm⟩ := hx
  obtain ⟨B, m, d, r, hs, hu, hv⟩ := hy
  have Hl := Lib.hid hr.rd.lenMap
  have Hr := Lib.hid hs.rd.lenMap
  have hn : n ≤ 1000000 := by rw [← Hl.out]; exact len_le hr.dig ht (by rw [hm]; exact sx)
  have hn' : m ≤ 1000000 := by rw [← Hr.out]; exact len_le hs.dig hu (by rw [hv]; exact sy)
  have Hm := Lib.hid hm; have Hv := Lib.hid hv; clear hm hv sx sy ht hu
  have hxlt := hr.box.lt
  have hylt := hs.box.lt
  have hzlt := hz.lt
  have Xc1 := Lib.hid (hr.box.cell 1 rfl)
  have Yc1 := Lib.hid (hs.box.cell 1 rfl)
  have dx := hr.dig
  have dy := hs.dig
  generalize decide (x < 0) = s at *
  generalize decide (y < 0) = s' at *
  have hmk : ∀ W : World, (Instr.makeSlice 65 (.int .i64 ((n : Int) + (m : Int))) (.int .i64 ((n : Int) + (m : Int)))).run Try.prog W = .ok (.slice (some ⟨W.heap.size, 0, none⟩) (n + m) (n + m)) (W.alloc (.cells (madeCells #[.int .u32 0] (n + m)) 84)) := fun W => by
    have := run_mk elU32 rfl .i64 .i64 (n + m) (n + m) (Nat.le_refl _) (by omega) (by omega) W
    simpa using this
  have hwr : IntKind.i64.wrap ((n : Int) + (m : Int)) = (n : Int) + (m : Int) := IntWalk.i64_in _ (by omega)
  have Ho0 := Lib.hid (Ow.make (Value.int .u32) 0 w.drew 84 (base := w.heap.size) (n + m) (by unfold maxLen; omega) (Nat.le_refl _))
  go_enter Try.func39, Try.ntmps39
  go_wp2
  refine wp_region_F 13 (w.heap.size) (by kernel_rfl) ?_
  refine wpAnyF_pure (i := 0) (oi := { dst := some 13, op := Op.move (Go.Operand.tmp 1), type := 62, pos := "big.go:196", after := #[], guard := none }) (v := ?v1) rfl (by kernel_rfl) (by kernel_rfl) (by kernel_rfl) (fun _ _ _ h => h) (Or.inl ⟨by rfl, ?hy1⟩) ?rs1
  case hy1 => (intro W hW; go_simp; try with_reducible rfl)
  try simp only [Act.put, List.setIfInBounds_toArray, List.set_cons_zero, List.set_cons_succ]
  refine wpAnyF_pure (i := 1) (oi := { dst := some 14, op := Op.nilCheck (Go.Operand.tmp 13), type := 0, pos := "big.go:196", after := #[{ on := 0, ground := Ground.data }], guard := none }) (v := ?v2) rfl (by kernel_rfl) (by kernel_rfl) (by kernel_rfl) (fun _ _ _ h => h) (Or.inl ⟨by rfl, ?hy2⟩) ?rs2
  case hy2 => (intro W hW; go_simp; try with_reducible rfl)
  try simp only [Act.put, List.setIfInBounds_toArray, List.set_cons_zero, List.set_cons_succ]
  refine wpAnyF_pure (i := 2) (oi := { dst := some 15, op := Op.fieldAddr 67 (Go.Operand.tmp 14) 1, type := 0, pos := "big.go:196", after := #[{ on := 1, ground := Ground.data }], guard := none }) (v := ?v3) rfl (by kernel_rfl) (by kernel_rfl) (by kernel_rfl) (fun _ _ _ h => h) (Or.inl ⟨by rfl, ?hy3⟩) ?rs3
  case hy3 => (intro W hW; go_simp; try with_reducible rfl)
  try simp only [Act.put, List.setIfInBounds_toArray, List.set_cons_zero, List.set_cons_succ]
  refine wpAnyF_take (i := 3) (oi := { dst := some 16, op := Op.load 65 (Go.Operand.tmp 15), type := 65, pos := "big.go:196", after := #[{ on := 2, ground := Ground.data }], guard := none }) (v := ?v4) rfl (by kernel_rfl) (by kernel_rfl) (by kernel_rfl) (by decide) (by kernel_rfl) (fun _ _ _ h => h) (Or.inl ⟨by rfl, ?hy4⟩) ?rs4
  case hy4 => (intro W hW; have hc := (hW.cell (p := ⟨bx, 1, none⟩) hxlt).trans Xc1.out; go_simp; try with_reducible rfl)
  try simp only [Act.put, List.setIfInBounds_toArray, List.set_cons_zero, List.set_cons_succ]
  refine wpAnyF_pure (i := 4) (oi := { dst := some 17, op := Op.call { callee := Callee.builtin Builtin.len, args := #[Go.Operand.tmp 16], argTypes := #[65] }, type := 3, pos := "big.go:196", after := #[{ on := 3, ground := Ground.data }], guard := none }) (v := ?v5) rfl (by kernel_rfl) (by kernel_rfl) (by kernel_rfl) (fun _ _ _ h => h) (Or.inl ⟨by rfl, ?hy5⟩) ?rs5
  case hy5 => (intro W hW; go_simp; try with_reducible rfl)
  try simp only [Act.put, List.setIfInBounds_toArray, List.set_cons_zero, List.set_cons_succ]
  refine wpAnyF_pure (i := 5) (oi := { dst := some 18, op := Op.move (Go.Operand.tmp 2), type := 62, pos := "big.go:196", after := #[], guard := none }) (v := ?v6) rfl (by kernel_rfl) (by kernel_rfl) (by kernel_rfl) (fun _ _ _ h => h) (Or.inl ⟨by rfl, ?hy6⟩) ?rs6
  case hy6 => (intro W hW; go_simp; try with_reducible rfl)
  try simp only [Act.put, List.setIfInBounds_toArray, List.set_cons_zero, List.set_cons_succ]
  refine wpAnyF_pure (i := 6) (oi := { dst := some 19, op := Op.nilCheck (Go.Operand.tmp 18), type := 0, pos := "big.go:196", after := #[{ on := 5, ground := Ground.data }], guard := none }) (v := ?v7) rfl (by kernel_rfl) (by kernel_rfl) (by kernel_rfl) (fun _ _ _ h => h) (Or.inl ⟨by rfl, ?hy7⟩) ?rs7
  case hy7 => (intro W hW; go_simp; try with_reducible rfl)
  try simp only [Act.put, List.setIfInBounds_toArray, List.set_cons_zero, List.set_cons_succ]
  refine wpAnyF_pure (i := 7) (oi := { dst := some 20, op := Op.fieldAddr 67 (Go.Operand.tmp 19) 1, type := 0, pos := "big.go:196", after := #[{ on := 6, ground := Ground.data }], guard := none }) (v := ?v8) rfl (by kernel_rfl) (by kernel_rfl) (by kernel_rfl) (fun _ _ _ h => h) (Or.inl ⟨by rfl, ?hy8⟩) ?rs8
  case hy8 => (intro W hW; go_simp; try with_reducible rfl)
  try simp only [Act.put, List.setIfInBounds_toArray, List.set_cons_zero, List.set_cons_succ]
  refine wpAnyF_take (i := 8) (oi := { dst := some 21, op := Op.load 65 (Go.Operand.tmp 20), type := 65, pos := "big.go:196", after := #[{ on := 7, ground := Ground.data }], guard := none }) (v := ?v9) rfl (by kernel_rfl) (by kernel_rfl) (by kernel_rfl) (by decide) (by kernel_rfl) (fun _ _ _ h => h) (Or.inl ⟨by rfl, ?hy9⟩) ?rs9
  case hy9 => (intro W hW; have hc := (hW.cell (p := ⟨bY, 1, none⟩) hylt).trans Yc1.out; go_simp; try with_reducible rfl)
  try simp only [Act.put, List.setIfInBounds_toArray, List.set_cons_zero, List.set_cons_succ]
  refine wpAnyF_pure (i := 9) (oi := { dst := some 22, op := Op.call { callee := Callee.builtin Builtin.len, args := #[Go.Operand.tmp 21], argTypes := #[65] }, type := 3, pos := "big.go:196", after := #[{ on := 8, ground := Ground.data }], guard := none }) (v := ?v10) rfl (by kernel_rfl) (by kernel_rfl) (by kernel_rfl) (fun _ _ _ h => h) (Or.inl ⟨by rfl, ?hy10⟩) ?rs10
  case hy10 => (intro W hW; go_simp; try with_reducible rfl)
  try simp only [Act.put, List.setIfInBounds_toArray, List.set_cons_zero, List.set_cons_succ]
  refine wpAnyF_pure (i := 10) (oi := { dst := some 23, op := Op.binOp Go.BinOp.add 3 (Go.Operand.tmp 17) (Go.Operand.tmp 22) 3, type := 3, pos := "big.go:196", after := #[{ on := 4, ground := Ground.data }, { on := 9, ground := Ground.data }], guard := none }) (v := ?v11) rfl (by kernel_rfl) (by kernel_rfl) (by kernel_rfl) (fun _ _ _ h => h) (Or.inl ⟨by rfl, ?hy11⟩) ?rs11
  case hy11 => (intro W hW; go_simp; try with_reducible rfl)
  try simp only [Act.put, List.setIfInBounds_toArray, List.set_cons_zero, List.set_cons_succ]
  refine wpAnyF_one (i := 11) (o := { dst := some 24, op := Op.makeSlice 65 (Go.Operand.tmp 23) (Go.Operand.tmp 23), type := 65, pos := "big.go:196", after := #[{ on := 10, ground := Ground.data }, { on := 10, ground := Ground.data }], guard := none }) (by kernel_rfl) rfl (fun K hK => ?_)
  go_simp
  refine hK.out _ _ ((Below.refl _ _).alloc (by first | exact Nat.le_refl _ | omega | (simp; omega)) _) ?_
  clear hK K
  try simp only [Act.put, List.setIfInBounds_toArray, List.set_cons_zero, List.set_cons_succ]
  refine wpAnyF_pure (i := 12) (oi := { dst := some 7, op := Op.assign (Go.Operand.tmp 24), type := 65, pos := "big.go:196", after := #[{ on := 11, ground := Ground.data }, { on := 0, ground := Ground.phase }, { on := 1, ground := Ground.phase }, { on := 2, ground := Ground.phase }, { on := 3, ground := Ground.phase }, { on := 4, ground := Ground.phase }, { on := 5, ground := Ground.phase }, { on := 6, ground := Ground.phase }, { on := 7, ground := Ground.phase }, { on := 8, ground := Ground.phase }, { on := 9, ground := Ground.phase }, { on := 10, ground := Ground.phase }, { on := 11, ground := Ground.phase }], guard := none }) (v := ?v12) rfl (by kernel_rfl) (by kernel_rfl) (by kernel_rfl) (fun _ _ _ h => h) (Or.inl ⟨by rfl, ?hy12⟩) ?rs12
  case hy12 => (intro W hW; go_simp; try with_reducible rfl)
  try simp only [Act.put, List.setIfInBounds_toArray, List.set_cons_zero, List.set_cons_succ]
  refine wpAnyF_done (by kernel_rfl) ?_
  clear hmk hwr
  have hB0 : Below w.heap.size w ((w.alloc (.cells (madeCells #[.int .u32 0] (n + m)) 84)).drew) := ((Below.refl w.heap.size w).alloc (Nat.le_refl _) _).trans (below_drew _)
  have Ho1 := Lib.hid (show Ow (Value.int .u32) ((w.alloc (.cells (madeCells #[.int .u32 0] (n + m)) 84)).drew) w.heap.size 84 (.slice (some ⟨w.heap.size, 0, none⟩) (n + m) (n + m)) (List.replicate (n + m) 0) from Ho0.out)
  clear Ho0
  generalize (w.alloc (.cells (madeCells #[.int .u32 0] (n + m)) 84)).drew = w0 at *
  have x1 := (hB0.cell (p := ⟨bx, 1, none⟩) hxlt).trans Xc1.out
  go_wp2
  go_loopw [30] (fun i wr => ∃ (k : Nat) (acc win : List Int), k ≤ n ∧ i = .int .i64 k ∧ acc.length = k ∧ win.length = m ∧ Dig win ∧ acc ++ mulM r (l.drop k) win = mulM r l (List.replicate m 0) ∧ Ow (Value.int .u32) wr w.heap.size 84 (.slice (some ⟨w.heap.size, 0, none⟩) (n + m) (n + m)) (acc ++ win ++ List.replicate (n - k) 0) ∧ Below w.heap.size w wr) (fun i _ => n - (intOf i).toNat)
  case atStart =>
    refine ⟨0, [], List.replicate m 0, Nat.zero_le _, rfl, rfl, by simp, Dig.zeros m, rfl, ?_, hB0⟩
    have := Ho1.out
    rw [List.nil_append, List.replicate_append_replicate, Nat.sub_zero, Nat.add_comm m n]
    exact this
  case round =>
    obtain ⟨k, acc, win, hk, rfl, hal, hwl, hwd, hacc, ho, hb⟩ := hrel
    have Hacc := Lib.hid hacc; clear hacc
    have Hal := Lib.hid hal; clear hal
    have Hwl := Lib.hid hwl; clear hwl
    have y1 := (hb.cell (p := ⟨bY, 1, none⟩) hylt).trans Yc1.out
    by_cases hlt : k < n
    · obtain ⟨ad, a, rfl, ha, hca⟩ := (hr.rd.below hb).atMap (k := k) hlt
      have hda := dx.at ha
      have Ha := Lib.hid (drop_cons ha); clear ha
      have hda' := hda
      obtain ⟨a0, a1⟩ := hda'
      rename World => wo
      go_wp2
      go_loopw [10, 40] (fun cv i wr => ∃ (j : Nat) (cc : Int) (racc : List Int), j ≤ m ∧ i = .int .i64 j ∧ cv = .int .u64 cc ∧ 0 ≤ cc ∧ cc < 4294967296 ∧ racc.length = j ∧ racc ++ rowM cc a (r.drop j) (win.drop j) = rowM 0 a r win ∧ Ow (Value.int .u32) wr w.heap.size 84 (.slice (some ⟨w.heap.size, 0, none⟩) (n + m) (n + m)) (acc ++ racc ++ win.drop j ++ List.replicate (n - k) 0) ∧ Below w.heap.size w wr) (fun _ i _ => m - (intOf i).toNat)
      case atStart => exact ⟨0, 0, [], Nat.zero_le _, rfl, rfl, by omega, by omega, rfl, rfl, by simpa using ho, hb⟩
      case round =>
        obtain ⟨j, cc, racc, hj, rfl, rfl, hc0, hc1, hrl, hrow, hoj, hbj⟩ := hrel
        have Hrow := Lib.hid hrow; clear hrow
        have Hrl := Lib.hid hrl; clear hrl
        by_cases hjm : j < m
        · obtain ⟨bd, b, rfl, hbb, hcb⟩ := (hs.rd.below hbj).atMap (k := j) hjm
          have hdb := dy.at hbb
          have Hb := Lib.hid (drop_cons hbb); clear hbb
          obtain ⟨o, hwo⟩ : ∃ o, win[j]? = some o := ⟨_, List.getElem?_eq_getElem (by rw [Hwl.out]; exact hjm)⟩
          have hdo := hwd.at hwo
          have hp := digs_prod hda hdb
          have hcell := hoj.cellAt (k := k + j) (x := o) (mul_at Hal.out Hrl.out hwo)
          have hfree := hoj.freeAt (k + j)
          have hput := Lib.hid (fun v : Int => hoj.put (k + j) v)
          have Hset := Lib.hid (fun v : Int => mul_set (rest := List.replicate (n - k) 0) v Hal.out Hrl.out hwo)
          have Hw := Lib.hid (drop_cons hwo)
          obtain ⟨b0, b1⟩ := hdb
          obtain ⟨o0, o1⟩ := hdo
          obtain ⟨p0, p1⟩ := hp
          clear hoj hwo
          have Hbj := Lib.hid hbj
          go_wp2
          go_roundw
          case rel =>
            refine ⟨j + 1, (cc + (a * b + o)) / 4294967296, racc ++ [(cc + (a * b + o)) % 4294967296], by omega, by go_num, rfl, by omega, by omega, by simp [Hrl.out], ?_, ?_, below_grown hbj (grownBy_setCell _ ⟨w.heap.size, k + j, none⟩ _) (Nat.le_refl _) hbj.size⟩
            · rw [← Hrow.out, Hb.out, Hw.out, rowM, List.append_assoc]; rfl
            · rw [← Hset.out]; exact hput.out _
          case measure => simp [intOf] <;> omega
        · obtain rfl : j = m := by omega
          obtain ⟨t, htt⟩ : ∃ t, n - k = t + 1 := ⟨n - k - 1, by omega⟩
          have hdw : win.drop j = [] := List.drop_eq_nil_of_le (by rw [Hwl.out]; exact Nat.le_refl _)
          rw [hdw, htt, List.append_nil] at hoj
          have hcell := hoj.cellAt (k := k + j) (x := 0) (mul_last (t := t) 0 Hal.out Hrl.out).1
          have hfree := hoj.freeAt (k + j)
          have hput := Lib.hid (hoj.put (k + j) cc)
          rw [(mul_last (t := t) cc Hal.out Hrl.out).2] at hput
          have y2 := (hbj.cell (p := ⟨bY, 1, none⟩) hylt).trans Yc1.out
          have Hend : Hid (racc ++ [cc] = rowM 0 a r win) := by
            show _ = _
            rw [← Hrow.out, List.drop_eq_nil_of_le (by rw [Hr.out]; exact Nat.le_refl _)]; rfl
          have hmod : cc % 4294967296 = cc := Int.emod_eq_of_lt hc0 hc1
          clear hoj hdw
          go_wp2
          go_roundw
          case rel =>
            have hrd := rowM_dig hda r 0 win dy hwd ⟨by decide, by decide⟩
            have hrlen := rowM_len a r 0 win
            obtain ⟨h0, tl, hh⟩ : ∃ h0 tl, rowM 0 a r win = h0 :: tl := by
              cases hc : rowM 0 a r win with
              | nil => rw [hc] at hrlen; simp at hrlen
              | cons h0 tl => exact ⟨h0, tl, rfl⟩
            rw [hh] at hrd hrlen
            refine ⟨k + 1, acc ++ [h0], tl, by omega, by go_num, by simp [Hal.out], by rw [← Hr.out]; simpa using hrlen, hrd.tail, ?_, ?_, below_grown hbj (grownBy_setCell _ ⟨w.heap.size, k + j, none⟩ _) (Nat.le_refl _) hbj.size⟩
            · rw [← Hacc.out, Ha.out, mulM, hh, List.append_assoc]; rfl
            · have := hput.out
              rw [Hend.out, hh] at this
              rw [show n - (k + 1) = t by omega]
              simpa using this
          case measure => simp [intOf] <;> omega
    · obtain rfl : k = n := by omega
      have Hend : Hid (acc ++ win = mulM r l (List.replicate m 0)) := by
        show _ = _
        rw [← Hacc.out, List.drop_eq_nil_of_le (by rw [Hl.out]; exact Nat.le_refl _)]; rfl
      have Ho := Lib.hid ho; clear ho
      have X0 := Lib.hid (hr.box.cell 0 rfl)
      have Y0 := Lib.hid (hs.box.cell 0 rfl)
      clear y1
      have hz1 : IntBox wr bz := hz.below hb hzlt
      have ho1 : Ow (Value.int .u32) wr w.heap.size 84 (.slice (some ⟨w.heap.size, 0, none⟩) (k + m) (k + m)) (mulM r l (List.replicate m 0)) := by
        have := Ho.out
        rw [Nat.sub_self, List.replicate_zero, List.append_nil, Hend.out] at this
        exact this
      have hraw := Lib.hid (fun s : Bool => (RawAt.storedN (s := s) hz1 ho1 (mulM_dig r dy l _ dx (Dig.zeros m))).below (below_drew _))
      have Hmag : Hid (mag (mulM r l (List.replicate m 0)) = (x.natAbs : Int) * y.natAbs) := by
        show _ = _
        rw [mulM_mag r l _ (by rw [List.length_replicate, Hr.out]), mag_zeros, Hm.out, Hv.out, Int.zero_add]
      have f0 := hz1.free 0
      have f1 := hz1.free 1
      clear ho1 Ho Hend Hacc
      generalize mulM r l (List.replicate m 0) = L at *
      have hz2 := hz1
      obtain ⟨s1, A1, m1, k1, hbx⟩ := hz2
      have e0 := hbx.cell 0 rfl
      have e1 := hbx.cell 1 rfl
      have hgp := Lib.hid (fun s : Bool => grownBy_then (grownBy_then (grownBy_of_below (row := some bz) hb) (grownBy_pair wr bz (.bool s) (.slice (some ⟨w.heap.size, 0, none⟩) (k + m) (k + m)))) (grownBy_of_below (below_drew _)))
      go_wp2
      refine wp_region_F 12 (w.heap.size) (by kernel_rfl) ?_
      refine wpAnyF_pure (i := 0) (oi := { dst := some 82, op := Op.move (Go.Operand.tmp 0), type := 62, pos := "big.go:206", after := #[], guard := none }) (v := ?v13) rfl (by kernel_rfl) (by kernel_rfl) (by kernel_rfl) (fun _ _ _ h => h) (Or.inl ⟨by rfl, ?hy13⟩) ?rs13
      case hy13 => (intro W hW; go_simp; try with_reducible rfl)
      try simp only [Act.put, List.setIfInBounds_toArray, List.set_cons_zero, List.set_cons_succ]
      refine wpAnyF_pure (i := 1) (oi := { dst := some 83, op := Op.move (Go.Operand.tmp 0), type := 62, pos := "big.go:206", after := #[{ on := 14, ground := Ground.gcOnly Go.Departure.lateStores }], guard := none }) (v := ?v14) rfl (by kernel_rfl) (by kernel_rfl) (by kernel_rfl) (fun _ _ _ h => h) (Or.inl ⟨by rfl, ?hy14⟩) ?rs14
      case hy14 => (intro W hW; go_simp; try with_reducible rfl)
      try simp only [Act.put, List.setIfInBounds_toArray, List.set_cons_zero, List.set_cons_succ]
      refine wpAnyF_pure (i := 2) (oi := { dst := some 84, op := Op.move (Go.Operand.tmp 1), type := 62, pos := "big.go:206", after := #[], guard := none }) (v := ?v15) rfl (by kernel_rfl) (by kernel_rfl) (by kernel_rfl) (fun _ _ _ h => h) (Or.inl ⟨by rfl, ?hy15⟩) ?rs15
      case hy15 => (intro W hW; go_simp; try with_reducible rfl)
      try simp only [Act.put, List.setIfInBounds_toArray, List.set_cons_zero, List.set_cons_succ]
      refine wpAnyF_pure (i := 3) (oi := { dst := some 85, op := Op.nilCheck (Go.Operand.tmp 84), type := 0, pos := "big.go:206", after := #[{ on := 2, ground := Ground.data }], guard := none }) (v := ?v16) rfl (by kernel_rfl) (by kernel_rfl) (by kernel_rfl) (fun _ _ _ h => h) (Or.inl ⟨by rfl, ?hy16⟩) ?rs16
      case hy16 => (intro W hW; go_simp; try with_reducible rfl)
      try simp only [Act.put, List.setIfInBounds_toArray, List.set_cons_zero, List.set_cons_succ]
      refine wpAnyF_pure (i := 4) (oi := { dst := some 86, op := Op.fieldAddr 67 (Go.Operand.tmp 85) 0, type := 0, pos := "big.go:206", after := #[{ on := 3, ground := Ground.data }], guard := none }) (v := ?v17) rfl (by kernel_rfl) (by kernel_rfl) (by kernel_rfl) (fun _ _ _ h => h) (Or.inl ⟨by rfl, ?hy17⟩) ?rs17
      case hy17 => (intro W hW; go_simp; try with_reducible rfl)
      try simp only [Act.put, List.setIfInBounds_toArray, List.set_cons_zero, List.set_cons_succ]
      refine wpAnyF_take (i := 5) (oi := { dst := some 87, op := Op.load 4 (Go.Operand.tmp 86), type := 4, pos := "big.go:206", after := #[{ on := 4, ground := Ground.data }], guard := none }) (v := ?v18) rfl (by kernel_rfl) (by kernel_rfl) (by kernel_rfl) (by decide) (by kernel_rfl) (fun _ _ _ h => h) (Or.inl ⟨by rfl, ?hy18⟩) ?rs18
      case hy18 => (intro W hW; have hc := ((hb.trans ((below_drew wr).trans hW)).cell (p := ⟨bx, 0, none⟩) hxlt).trans X0.out; go_simp; try with_reducible rfl)
      try simp only [Act.put, List.setIfInBounds_toArray, List.set_cons_zero, List.set_cons_succ]
      refine wpAnyF_pure (i := 6) (oi := { dst := some 88, op := Op.move (Go.Operand.tmp 2), type := 62, pos := "big.go:206", after := #[], guard := none }) (v := ?v19) rfl (by kernel_rfl) (by kernel_rfl) (by kernel_rfl) (fun _ _ _ h => h) (Or.inl ⟨by rfl, ?hy19⟩) ?rs19
      case hy19 => (intro W hW; go_simp; try with_reducible rfl)
      try simp only [Act.put, List.setIfInBounds_toArray, List.set_cons_zero, List.set_cons_succ]
      refine wpAnyF_pure (i := 7) (oi := { dst := some 89, op := Op.nilCheck (Go.Operand.tmp 88), type := 0, pos := "big.go:206", after := #[{ on := 6, ground := Ground.data }], guard := none }) (v := ?v20) rfl (by kernel_rfl) (by kernel_rfl) (by kernel_rfl) (fun _ _ _ h => h) (Or.inl ⟨by rfl, ?hy20⟩) ?rs20
      case hy20 => (intro W hW; go_simp; try with_reducible rfl)
      try simp only [Act.put, List.setIfInBounds_toArray, List.set_cons_zero, List.set_cons_succ]
      refine wpAnyF_pure (i := 8) (oi := { dst := some 90, op := Op.fieldAddr 67 (Go.Operand.tmp 89) 0, type := 0, pos := "big.go:206", after := #[{ on := 7, ground := Ground.data }], guard := none }) (v := ?v21) rfl (by kernel_rfl) (by kernel_rfl) (by kernel_rfl) (fun _ _ _ h => h) (Or.inl ⟨by rfl, ?hy21⟩) ?rs21
      case hy21 => (intro W hW; go_simp; try with_reducible rfl)
      try simp only [Act.put, List.setIfInBounds_toArray, List.set_cons_zero, List.set_cons_succ]
      refine wpAnyF_take (i := 9) (oi := { dst := some 91, op := Op.load 4 (Go.Operand.tmp 90), type := 4, pos := "big.go:206", after := #[{ on := 8, ground := Ground.data }], guard := none }) (v := ?v22) rfl (by kernel_rfl) (by kernel_rfl) (by kernel_rfl) (by decide) (by kernel_rfl) (fun _ _ _ h => h) (Or.inl ⟨by rfl, ?hy22⟩) ?rs22
      case hy22 => (intro W hW; have hc := ((hb.trans ((below_drew wr).trans hW)).cell (p := ⟨bY, 0, none⟩) hylt).trans Y0.out; go_simp; try with_reducible rfl)
      try simp only [Act.put, List.setIfInBounds_toArray, List.set_cons_zero, List.set_cons_succ]
      refine wpAnyF_pure (i := 10) (oi := { dst := some 92, op := Op.binOp Go.BinOp.neq 4 (Go.Operand.tmp 87) (Go.Operand.tmp 91) 4, type := 4, pos := "big.go:206", after := #[{ on := 5, ground := Ground.data }, { on := 9, ground := Ground.data }], guard := none }) (v := ?v23) rfl (by kernel_rfl) (by kernel_rfl) (by kernel_rfl) (fun _ _ _ h => h) (Or.inl ⟨by rfl, ?hy23⟩) ?rs23
      case hy23 => (intro W hW; go_simp; try with_reducible rfl)
      try simp only [Act.put, List.setIfInBounds_toArray, List.set_cons_zero, List.set_cons_succ]
      refine wpAnyF_pure (i := 11) (oi := { dst := some 93, op := Op.move (Go.Operand.tmp 7), type := 65, pos := "big.go:206", after := #[{ on := 14, ground := Ground.gcOnly Go.Departure.lateStores }], guard := none }) (v := ?v24) rfl (by kernel_rfl) (by kernel_rfl) (by kernel_rfl) (fun _ _ _ h => h) (Or.inl ⟨by rfl, ?hy24⟩) ?rs24
      case hy24 => (intro W hW; go_simp; try with_reducible rfl)
      try simp only [Act.put, List.setIfInBounds_toArray, List.set_cons_zero, List.set_cons_succ]
      refine wpAnyF_pure (i := 12) (oi := { dst := some 94, op := Op.nilCheck (Go.Operand.tmp 82), type := 0, pos := "big.go:206", after := #[{ on := 0, ground := Ground.data }, { on := 0, ground := Ground.phase }, { on := 1, ground := Ground.textOnly Go.Departure.lateStores }, { on := 2, ground := Ground.phase }, { on := 3, ground := Ground.phase }, { on := 4, ground := Ground.phase }, { on := 5, ground := Ground.phase }, { on := 6, ground := Ground.phase }, { on := 7, ground := Ground.phase }, { on := 8, ground := Ground.phase }, { on := 9, ground := Ground.phase }, { on := 10, ground := Ground.phase }, { on := 11, ground := Ground.textOnly Go.Departure.lateStores }], guard := none }) (v := ?v25) rfl (by kernel_rfl) (by kernel_rfl) (by kernel_rfl) (fun _ _ _ h => h) (Or.inl ⟨by rfl, ?hy25⟩) ?rs25
      case hy25 => (intro W hW; go_simp; try with_reducible rfl)
      try simp only [Act.put, List.setIfInBounds_toArray, List.set_cons_zero, List.set_cons_succ]
      refine wpAnyF_pure (i := 13) (oi := { dst := some 95, op := Op.fieldAddr 67 (Go.Operand.tmp 94) 0, type := 0, pos := "big.go:206", after := #[{ on := 12, ground := Ground.data }, { on := 0, ground := Ground.phase }, { on := 1, ground := Ground.textOnly Go.Departure.lateStores }, { on := 2, ground := Ground.phase }, { on := 3, ground := Ground.phase }, { on := 4, ground := Ground.phase }, { on := 5, ground := Ground.phase }, { on := 6, ground := Ground.phase }, { on := 7, ground := Ground.phase }, { on := 8, ground := Ground.phase }, { on := 9, ground := Ground.phase }, { on := 10, ground := Ground.phase }, { on := 11, ground := Ground.textOnly Go.Departure.lateStores }], guard := none }) (v := ?v26) rfl (by kernel_rfl) (by kernel_rfl) (by kernel_rfl) (fun _ _ _ h => h) (Or.inl ⟨by rfl, ?hy26⟩) ?rs26
      case hy26 => (intro W hW; go_simp; try with_reducible rfl)
      try simp only [Act.put, List.setIfInBounds_toArray, List.set_cons_zero, List.set_cons_succ]
      refine wpAnyF_last (i := 14) (o := { dst := none, op := Op.store 4 (Go.Operand.tmp 95) (Go.Operand.tmp 92), type := 0, pos := "big.go:206", after := #[{ on := 13, ground := Ground.data }, { on := 10, ground := Ground.data }, { on := 0, ground := Ground.phase }, { on := 1, ground := Ground.textOnly Go.Departure.lateStores }, { on := 2, ground := Ground.phase }, { on := 3, ground := Ground.phase }, { on := 4, ground := Ground.phase }, { on := 5, ground := Ground.phase }, { on := 6, ground := Ground.phase }, { on := 7, ground := Ground.phase }, { on := 8, ground := Ground.phase }, { on := 9, ground := Ground.phase }, { on := 10, ground := Ground.phase }, { on := 11, ground := Ground.textOnly Go.Departure.lateStores }], guard := none }) (by kernel_rfl) rfl (by decide) (fun K hK => ?_)
      go_simp
      refine hK.out _ _ ?_
      clear hK K
      try simp only [Act.put, List.setIfInBounds_toArray, List.set_cons_zero, List.set_cons_succ]
      refine wpAnyF_pure (i := 15) (oi := { dst := some 96, op := Op.nilCheck (Go.Operand.tmp 83), type := 0, pos := "big.go:206", after := #[{ on := 1, ground := Ground.data }, { on := 0, ground := Ground.phase }, { on := 1, ground := Ground.phase }, { on := 2, ground := Ground.phase }, { on := 3, ground := Ground.phase }, { on := 4, ground := Ground.phase }, { on := 5, ground := Ground.phase }, { on := 6, ground := Ground.phase }, { on := 7, ground := Ground.phase }, { on := 8, ground := Ground.phase }, { on := 9, ground := Ground.phase }, { on := 10, ground := Ground.phase }, { on := 11, ground := Ground.phase }, { on := 12, ground := Ground.phase }, { on := 13, ground := Ground.phase }, { on := 14, ground := Ground.phase }], guard := none }) (v := ?v27) rfl (by kernel_rfl) (by kernel_rfl) (by kernel_rfl) (fun _ _ _ h => h) (Or.inl ⟨by rfl, ?hy27⟩) ?rs27
      case hy27 => (intro W hW; go_simp; try with_reducible rfl)
      try simp only [Act.put, List.setIfInBounds_toArray, List.set_cons_zero, List.set_cons_succ]
      refine wpAnyF_pure (i := 16) (oi := { dst := some 97, op := Op.fieldAddr 67 (Go.Operand.tmp 96) 1, type := 0, pos := "big.go:206", after := #[{ on := 15, ground := Ground.data }, { on := 0, ground := Ground.phase }, { on := 1, ground := Ground.phase }, { on := 2, ground := Ground.phase }, { on := 3, ground := Ground.phase }, { on := 4, ground := Ground.phase }, { on := 5, ground := Ground.phase }, { on := 6, ground := Ground.phase }, { on := 7, ground := Ground.phase }, { on := 8, ground := Ground.phase }, { on := 9, ground := Ground.phase }, { on := 10, ground := Ground.phase }, { on := 11, ground := Ground.phase }, { on := 12, ground := Ground.phase }, { on := 13, ground := Ground.phase }, { on := 14, ground := Ground.phase }], guard := none }) (v := ?v28) rfl (by kernel_rfl) (by kernel_rfl) (by kernel_rfl) (fun _ _ _ h => h) (Or.inl ⟨by rfl, ?hy28⟩) ?rs28
      case hy28 => (intro W hW; go_simp; try with_reducible rfl)
      try simp only [Act.put, List.setIfInBounds_toArray, List.set_cons_zero, List.set_cons_succ]
      refine wpAnyF_last (i := 17) (o := { dst := none, op := Op.store 65 (Go.Operand.tmp 97) (Go.Operand.tmp 93), type := 0, pos := "big.go:206", after := #[{ on := 16, ground := Ground.data }, { on := 11, ground := Ground.data }, { on := 14, ground := Ground.chain }, { on := 0, ground := Ground.phase }, { on := 1, ground := Ground.phase }, { on := 2, ground := Ground.phase }, { on := 3, ground := Ground.phase }, { on := 4, ground := Ground.phase }, { on := 5, ground := Ground.phase }, { on := 6, ground := Ground.phase }, { on := 7, ground := Ground.phase }, { on := 8, ground := Ground.phase }, { on := 9, ground := Ground.phase }, { on := 10, ground := Ground.phase }, { on := 11, ground := Ground.phase }, { on := 12, ground := Ground.phase }, { on := 13, ground := Ground.phase }, { on := 14, ground := Ground.phase }], guard := none }) (by kernel_rfl) rfl (by decide) (fun K hK => ?_)
      go_simp
      refine hK.out _ _ ?_
      clear hK K
      try simp only [Act.put, List.setIfInBounds_toArray, List.set_cons_zero, List.set_cons_succ]
      refine wpAnyF_done (by kernel_rfl) ?_
      clear e0 e1 hbx f0 f1 X0 Y0
      go_wp2_with fail
      refine (trim_any bz (!(s == s')) _ (k + m) (k + m) L _ (hraw.out _) (by omega)).mono ?_
      rintro e w3 ⟨rfl, hfin, hg3⟩
      go_wp2
      go_ret
      refine ⟨rfl, ?_, grownBy_then (hgp.out _) hg3⟩
      rw [Hmag.out, Hsg.out] at hfin
      exact hfin
end Go.Proofs.Ytajfohnblmnjjaa
