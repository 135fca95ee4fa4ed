/-
  Contract of the reference's TUse. No statement of the seat is here.
-/
import Derived.Test.YtajfohnblmnjjaaRmsRef2
import Derived.Test.YtajfohnblmnjjaaRegionH
namespace Go.Proofs.Ytajfohnblmnjjaa
open Go.RowKit
set_option linter.unusedVariables false
set_option maxRecDepth 20000

/-- What the use of tasks in range is. -/
def TUseIs (M : List Tk) (a b x : Int) : Prop := (useBig M = true ∧ a = 0 ∧ b = 0 ∧ x = 4) ∨ (useBig M = false ∧ a = useNum M ∧ b = useDen M ∧ x = 0)
theorem len_big {z k : Nat} (h1 : (z : Int) < 2 ^ k) (h2 : 0 < k → (2 : Int) ^ (k - 1) ≤ z) : decide (63 < k) = decide (z > 9223372036854775807) := by
  apply decide_eq_decide.2
  have c1 : ((2 : Int) ^ k) = ((2 ^ k : Nat) : Int) := by push_cast; rfl
  rw [c1] at h1
  constructor
  · intro h
    have h3 := h2 (by omega)
    have c2 : ((2 : Int) ^ (k - 1)) = ((2 ^ (k - 1) : Nat) : Int) := by push_cast; rfl
    rw [c2] at h3
    have h4 : 2 ^ 63 ≤ 2 ^ (k - 1) := Nat.pow_le_pow_right (by decide) (by omega)
    have h5 : (2 : Nat) ^ 63 = 9223372036854775808 := rfl
    omega
  · intro h
    apply Nat.lt_of_not_le
    intro hk
    have h4 : 2 ^ k ≤ 2 ^ 63 := Nat.pow_le_pow_right (by decide) hk
    have h5 : (2 : Nat) ^ 63 = 9223372036854775808 := rfl
    omega
theorem kept_box {W : World} {b : Nat} {e : TypeId} {p t : Int} (h : Box W b e [.int .i64 p, .int .i64 t]) : Kept b p t W := ⟨h.cell 0 rfl, h.cell 1 rfl⟩
set_option maxHeartbeats 6400000 in
theorem TUse_any (A : Option Addr) (n c : Nat) (M : List Tk) (hM : GoodK M) (w : World) (h : RdG tkC 2 w A n M) :
    Calls Try.prog 14 #[.slice A n c] w fun e w' => ∃ a b x, e = .returned (.tuple #[.agg #[.int .i64 a, .int .i64 b], .int .i64 x]) ∧ Hid (TUseIs M a b x) ∧ Below w.heap.size w w' := by
  have hl : M.length = n := RdG.len tkK h
  have hn16 : n ≤ 16 := by have := hM.len; omega
  have HM := Lib.hid hM
  have N1 := Lib.hid (fun W => NewInt_ex 0 ⟨by decide, by decide⟩ W)
  have N2 := Lib.hid (fun W => NewInt_ex 1 ⟨by decide, by decide⟩ W)
  have hbF := Box.new w 24 [.int .i64 0, .int .i64 0]
  have hB0 : Below w.heap.size w (w.alloc (.cells #[.int .i64 0, .int .i64 0] 24)) := below_one _
  have h' := Rd.below h hB0
  have hs0 : (w.alloc (.cells #[.int .i64 0, .int .i64 0] 24)).heap.size = w.heap.size + 1 := by simp
  clear hM h
  go_enter Try.func14, Try.ntmps14
  go_upto_region 1 with fail
  replace hbF : Box (w.alloc (.cells #[.int .i64 0, .int .i64 0] 24)) w.heap.size 24 [.int .i64 0, .int .i64 0] := hbF
  have HS0 := Lib.hid hs0
  clear hs0
  generalize w.alloc (.cells #[.int .i64 0, .int .i64 0] 24) = w0 at *
  go_wp2_with fail
  refine (N1.out w0).mono ?_
  rintro e w1 ⟨bx, rfl, hx1, hb1, hge1⟩
  go_wp2_with fail
  refine (N2.out w1).mono ?_
  rintro e w2 ⟨bY, rfl, hy2, hb2, hge2⟩
  have hxlt := hx1.int.lt
  have T0 : TwoB w0 w2 bx bY ((useN (M.take 0) : Nat) : Int) ((useD (M.take 0) : Nat) : Int) := ⟨hx1.below hb2, hy2, by omega, hge1, by have := hb1.size; omega, bthen hb1 hb2⟩
  have HT := Lib.hid T0
  clear N1 N2 hx1 hy2 hb1 hb2 hge1 hge2 hxlt T0
  go_upto_region 3 with fail
  go_loopw [14] (fun i wr => ∃ k : Nat, k ≤ n ∧ i = .int .i64 k ∧ TwoB w0 wr bx bY ((useN (M.take k) : Nat) : Int) ((useD (M.take k) : Nat) : Int)) (fun i _ => n - (intOf i).toNat)
  case atStart => exact ⟨0, Nat.zero_le _, rfl, HT.out⟩
  case round =>
    obtain ⟨k, hk, rfl, T⟩ := hrel
    clear HT
    obtain ⟨zD, zN, _⟩ := (HM.out.take k).sizes
    obtain ⟨yD, yN, _⟩ := (HM.out.take (k + 1)).sizes
    by_cases hlt : k < n
    · obtain ⟨ad, p, t, rfl, hx, hc0, hc1⟩ := tk_at (Rd.below h' T.bl) hlt
      obtain ⟨h1, h2, h3⟩ := HM.out.at_ hx
      simp only at h1 h2 h3
      have hsn := use_snoc (M.take k) ⟨p, t⟩
      rw [← take_snoc hx] at hsn
      simp only at hsn
      have z1 : useN (M.take k) * p ≤ 160000000000000000000000000000000000000000000000000000000000000000 := by omega
      have z2 : useD (M.take k) * t ≤ 160000000000000000000000000000000000000000000000000000000000000000 := by omega
      have HX : Hid (((useN (M.take k) : Nat) : Int) * (p : Int) + ((useD (M.take k) : Nat) : Int) * (t : Int) = ((useN (M.take (k + 1)) : Nat) : Int)) := by show _ = _; rw [hsn.1, Int.natCast_add, Int.natCast_mul, Int.natCast_mul]
      have HY : Hid (((useD (M.take k) : Nat) : Int) * (p : Int) = ((useD (M.take (k + 1)) : Nat) : Int)) := by show _ = _; rw [hsn.2, Int.natCast_mul]
      have P1 := Lib.hid (fun W => NewInt_ex (p : Int) ⟨by omega, by omega⟩ W)
      have P2 := Lib.hid (fun W => NewInt_ex (t : Int) ⟨by omega, by omega⟩ W)
      have M1 := Lib.hid (fun (W : World) (b b' : Nat) (g0 : IntBox W b) (g1 : BigAt W bx ((useN (M.take k) : Nat) : Int)) (g2 : BigAt W b' (p : Int)) => BigMul_any b bx b' _ _ W g0 g1 g2 (big_small (by omega)) (big_small (by omega)))
      have M2 := Lib.hid (fun (W : World) (b b' : Nat) (g0 : IntBox W b) (g1 : BigAt W bY ((useD (M.take k) : Nat) : Int)) (g2 : BigAt W b' (t : Int)) => BigMul_any b bY b' _ _ W g0 g1 g2 (big_small (by omega)) (big_small (by omega)))
      have M3 := Lib.hid (fun (W : World) (b : Nat) (g1 : BigAt W bY ((useD (M.take k) : Nat) : Int)) (g2 : BigAt W b (p : Int)) => BigMul_any bY bY b _ _ W g1.int g1 g2 (big_small (by omega)) (big_small (by omega)))
      have A1 := Lib.hid (fun (W : World) (b b' : Nat) (g0 : IntBox W bx) (g1 : BigAt W b ((useN (M.take k) * p : Nat) : Int)) (g2 : BigAt W b' ((useD (M.take k) * t : Nat) : Int)) => BigAdd_any bx b b' _ _ W g0 g1 g2 (big_small (by omega)) (big_small (by omega)))
      rw [Int.natCast_mul, Int.natCast_mul, HX.out] at A1
      rw [HY.out] at M3
      generalize hXe : ((useN (M.take k) : Nat) : Int) = X at *
      generalize hYe : ((useD (M.take k) : Nat) : Int) = Y at *
      clear hXe hYe hsn HX HY zD zN yD yN hx z1 z2
      have hbx := Box.new wr 38 [.int .i64 (p : Int), .int .i64 (t : Int)]
      have T1 := T.later (below_one (w := wr) (.cells #[.int .i64 (p : Int), .int .i64 (t : Int)] 38))
      have hxb : bx < wr.heap.size := T.x.int.lt
      go_upto_region 5 with fail
      clear T
      generalize wr.alloc (.cells #[.int .i64 (p : Int), .int .i64 (t : Int)] 38) = X1 at *
      generalize wr.heap.size = b at *
      clear hc0 hc1
      have q0 := hbx.cell 0 rfl
      go_wp2_with fail
      refine (P1.out X1).mono ?_
      rintro e w5 ⟨bp, rfl, hp5, hb5, hge5⟩
      have T5 := T1.later hb5
      have hbx5 := hbx.below hb5 hbx.lt
      have hne1 : bx ≠ bp := by have := T1.x.int.lt; omega
      have hne2 : bY ≠ bp := by have := T1.y.int.lt; omega
      clear P1 T1 hb5 q0 hbx hge5
      go_upto_region 6 with fail
      go_cut [] (fun W => TwoB w0 W bx bY ((useN (M.take (k + 1)) : Nat) : Int) Y ∧ BigAt W bp (p : Int))
      case first =>
        have hB : Below w5.heap.size w5 w5.drew := below_drew _
        have HL : Hid (∀ W, Below w5.heap.size w5 W → TwoB w0 W bx bY X Y ∧ BigAt W bp (p : Int) ∧ Box W b 38 [.int .i64 (p : Int), .int .i64 (t : Int)]) := fun W hW => ⟨T5.later hW, hp5.below hW, hbx5.below hW hbx5.lt⟩
        have hS : Kept b (p : Int) (t : Int) w5.drew := kept_box (HL.out _ hB).2.2
        clear T5 hp5 hbx5 M3
        refine wp_region_S (Kept b (p : Int) (t : Int)) (by kernel_rfl) hS ?_
        refine wpAnyS_take (i := 0) (oi := { dst := some 21, op := Op.move (Go.Operand.tmp 4), type := 62, pos := "rms.go:10", after := #[], guard := none }) (v := ?v1) rfl (by kernel_rfl) (by kernel_rfl) (by kernel_rfl) (fun _ _ _ h => h) (Or.inl ⟨by rfl, ?hy1⟩) hS ?rs1
        case hy1 => (intro W hW; go_simp; try with_reducible rfl)
        try simp only [Act.put, List.setIfInBounds_toArray, List.set_cons_zero, List.set_cons_succ]
        refine wpAnyS_take (i := 2) (oi := { dst := some 23, op := Op.move (Go.Operand.tmp 4), type := 62, pos := "rms.go:10", after := #[], guard := none }) (v := ?v2) rfl (by kernel_rfl) (by kernel_rfl) (by kernel_rfl) (fun _ _ _ h => h) (Or.inl ⟨by rfl, ?hy2⟩) hS ?rs2
        case hy2 => (intro W hW; go_simp; try with_reducible rfl)
        try simp only [Act.put, List.setIfInBounds_toArray, List.set_cons_zero, List.set_cons_succ]
        refine wpAnyS_take (i := 3) (oi := { dst := some 24, op := Op.move (Go.Operand.tmp 8), type := 62, pos := "rms.go:10", after := #[], guard := none }) (v := ?v3) rfl (by kernel_rfl) (by kernel_rfl) (by kernel_rfl) (fun _ _ _ h => h) (Or.inl ⟨by rfl, ?hy3⟩) hS ?rs3
        case hy3 => (intro W hW; go_simp; try with_reducible rfl)
        try simp only [Act.put, List.setIfInBounds_toArray, List.set_cons_zero, List.set_cons_succ]
        refine wpAnyS_take (i := 6) (oi := { dst := some 27, op := Op.move (Go.Operand.tmp 5), type := 62, pos := "rms.go:10", after := #[], guard := none }) (v := ?v4) rfl (by kernel_rfl) (by kernel_rfl) (by kernel_rfl) (fun _ _ _ h => h) (Or.inl ⟨by rfl, ?hy4⟩) hS ?rs4
        case hy4 => (intro W hW; go_simp; try with_reducible rfl)
        try simp only [Act.put, List.setIfInBounds_toArray, List.set_cons_zero, List.set_cons_succ]
        refine wpAnyS_take (i := 7) (oi := { dst := some 28, op := Op.fieldAddr 38 (Go.Operand.tmp 7) 1, type := 0, pos := "rms.go:10", after := #[], guard := none }) (v := ?v5) rfl (by kernel_rfl) (by kernel_rfl) (by kernel_rfl) (fun _ _ _ h => h) (Or.inl ⟨by rfl, ?hy5⟩) hS ?rs5
        case hy5 => (intro W hW; go_simp; try with_reducible rfl)
        try simp only [Act.put, List.setIfInBounds_toArray, List.set_cons_zero, List.set_cons_succ]
        refine wpAnyS_take (i := 8) (oi := { dst := some 29, op := Op.load 3 (Go.Operand.tmp 28), type := 3, pos := "rms.go:10", after := #[{ on := 7, ground := Ground.data }], guard := none }) (v := ?v6) rfl (by kernel_rfl) (by kernel_rfl) (by kernel_rfl) (fun _ _ _ h => h) (Or.inl ⟨by rfl, ?hy6⟩) hS ?rs6
        case hy6 => (intro W hW; obtain ⟨g0, g1⟩ := hW; go_simp; try with_reducible rfl)
        try simp only [Act.put, List.setIfInBounds_toArray, List.set_cons_zero, List.set_cons_succ]
        refine wpAnyS_two (i := 1) (j := 5) (oi := { dst := some 22, op := Op.alloc 67, type := 62, pos := "rms.go:10", after := #[], guard := none }) (oj := { dst := some 26, op := Op.alloc 67, type := 62, pos := "rms.go:10", after := #[], guard := none }) (by kernel_rfl) rfl rfl (fun K hK => ?_) (fun K hK => ?_)
        go_simp
        (first | (have hlt5 := z5.lt; have hge1 : w5.heap.size ≤ wb.heap.size := hB.size; have hbk : Below w5.heap.size wb (wb.alloc (.cells #[.bool false, .slice none 0 0] 67)) := (Below.refl _ _).alloc hge1 _; replace z5 := z5.alloc (.cells #[.bool false, .slice none 0 0] 67); have z1 := IntBox.new wb; generalize wb.alloc (.cells #[.bool false, .slice none 0 0] 67) = wa at *; replace hB := hB.trans hbk) | (have hge1 : w5.heap.size ≤ w5.heap.size := Nat.le_refl _; have hbk : Below w5.heap.size w5.drew (w5.alloc (.cells #[.bool false, .slice none 0 0] 67)).drew := (Below.refl w5.heap.size w5.drew).alloc (Nat.le_refl _) (.cells #[.bool false, .slice none 0 0] 67); have z1 : IntBox (w5.alloc (.cells #[.bool false, .slice none 0 0] 67)).drew w5.heap.size := IntBox.new w5; generalize (w5.alloc (.cells #[.bool false, .slice none 0 0] 67)).drew = wa at *; replace hB := hB.trans hbk)); replace hS := kept_box (HL.out _ hB).2.2
        refine hK.out _ _ hS ?_
        clear hK K
        try simp only [Act.put, List.setIfInBounds_toArray, List.set_cons_zero, List.set_cons_succ]
        refine wpAnyS_two (i := 4) (j := 5) (oi := { dst := some 25, op := Op.call { callee := Callee.value (Go.Operand.func 39), args := #[Go.Operand.tmp 22, Go.Operand.tmp 23, Go.Operand.tmp 24], argTypes := #[62, 62, 62] }, type := 62, pos := "rms.go:10", after := #[{ on := 1, ground := Ground.data }, { on := 2, ground := Ground.data }, { on := 3, ground := Ground.data }], guard := none }) (oj := { dst := some 26, op := Op.alloc 67, type := 62, pos := "rms.go:10", after := #[], guard := none }) (by kernel_rfl) rfl rfl (fun K hK => ?_) (fun K hK => ?_)
        go_simp
        refine (M1.out _ _ _ z1 (HL.out _ hB).1.x (HL.out _ hB).2.1).mono ?_; rintro e w4 ⟨rfl, hX, hg4⟩; have hbk := below_of_grownBy hg4 hge1 hB.size; (try replace z5 := z5.grown hg4 (by omega)); replace hB := hB.trans hbk; replace hS := kept_box (HL.out _ hB).2.2
        refine hK.out _ _ hS ?_
        clear hK K
        try simp only [Act.put, List.setIfInBounds_toArray, List.set_cons_zero, List.set_cons_succ]
        refine wpAnyS_two (i := 5) (j := 9) (oi := { dst := some 26, op := Op.alloc 67, type := 62, pos := "rms.go:10", after := #[], guard := none }) (oj := { dst := some 30, op := Op.call { callee := Callee.value (Go.Operand.func 37), args := #[Go.Operand.tmp 29], argTypes := #[2] }, type := 62, pos := "rms.go:10", after := #[{ on := 8, ground := Ground.data }, { on := 4, ground := Ground.chain }], guard := none }) (by kernel_rfl) rfl rfl (fun K hK => ?_) (fun K hK => ?_)
        go_simp
        (first | (have hlt1 := hX.int.lt; have hge5 : w5.heap.size ≤ w9.heap.size := hB.size; have hbk : Below w5.heap.size w9 (w9.alloc (.cells #[.bool false, .slice none 0 0] 67)) := (Below.refl _ _).alloc hge5 _; replace hX := hX.alloc (.cells #[.bool false, .slice none 0 0] 67); replace hC := hC.alloc (.cells #[.bool false, .slice none 0 0] 67); have z5 := IntBox.new w9; generalize w9.alloc (.cells #[.bool false, .slice none 0 0] 67) = wb at *; replace hB := hB.trans hbk) | (have hlt1 := hX.int.lt; have hge5 : w5.heap.size ≤ w4.heap.size := hB.size; have hbk : Below w5.heap.size w4 (w4.alloc (.cells #[.bool false, .slice none 0 0] 67)) := (Below.refl _ _).alloc hge5 _; replace hX := hX.alloc (.cells #[.bool false, .slice none 0 0] 67); have z5 := IntBox.new w4; generalize w4.alloc (.cells #[.bool false, .slice none 0 0] 67) = wb at *; replace hB := hB.trans hbk) | (have hlt1 := z1.lt; have hge5 : w5.heap.size ≤ wa.heap.size := hB.size; have hbk : Below w5.heap.size wa (wa.alloc (.cells #[.bool false, .slice none 0 0] 67)) := (Below.refl _ _).alloc hge5 _; replace z1 := z1.alloc (.cells #[.bool false, .slice none 0 0] 67); have z5 := IntBox.new wa; generalize wa.alloc (.cells #[.bool false, .slice none 0 0] 67) = wb at *; replace hB := hB.trans hbk) | (have hge5 : w5.heap.size ≤ w5.heap.size := Nat.le_refl _; have hbk : Below w5.heap.size w5.drew (w5.alloc (.cells #[.bool false, .slice none 0 0] 67)).drew := (Below.refl w5.heap.size w5.drew).alloc (Nat.le_refl _) (.cells #[.bool false, .slice none 0 0] 67); have z5 : IntBox (w5.alloc (.cells #[.bool false, .slice none 0 0] 67)).drew w5.heap.size := IntBox.new w5; generalize (w5.alloc (.cells #[.bool false, .slice none 0 0] 67)).drew = wb at *; replace hB := hB.trans hbk)); replace hS := kept_box (HL.out _ hB).2.2
        refine hK.out _ _ hS ?_
        clear hK K
        try simp only [Act.put, List.setIfInBounds_toArray, List.set_cons_zero, List.set_cons_succ]
        refine wpAnyS_one (i := 9) (o := { dst := some 30, op := Op.call { callee := Callee.value (Go.Operand.func 37), args := #[Go.Operand.tmp 29], argTypes := #[2] }, type := 62, pos := "rms.go:10", after := #[{ on := 8, ground := Ground.data }, { on := 4, ground := Ground.chain }], guard := none }) (by kernel_rfl) rfl (fun K hK => ?_)
        go_simp
        refine (P2.out _).mono ?_; rintro e w9 ⟨b9, rfl, hC, hb9, hge9⟩; have hbk := hb9.mono hB.size; replace hX := hX.below hb9; (try replace z5 := z5.below hb9 z5.lt); replace hB := hB.trans hbk; replace hS := kept_box (HL.out _ hB).2.2
        refine hK.out _ _ hS ?_
        clear hK K
        try simp only [Act.put, List.setIfInBounds_toArray, List.set_cons_zero, List.set_cons_succ]
        refine wpAnyS_one (i := 10) (o := { dst := some 31, op := Op.call { callee := Callee.value (Go.Operand.func 39), args := #[Go.Operand.tmp 26, Go.Operand.tmp 27, Go.Operand.tmp 30], argTypes := #[62, 62, 62] }, type := 62, pos := "rms.go:10", after := #[{ on := 5, ground := Ground.data }, { on := 6, ground := Ground.data }, { on := 9, ground := Ground.data }, { on := 9, ground := Ground.chain }], guard := none }) (by kernel_rfl) rfl (fun K hK => ?_)
        go_simp
        refine (M2.out _ _ _ z5 (HL.out _ hB).1.y hC).mono ?_; rintro e w10 ⟨rfl, hY, hg10⟩; have hbk := below_of_grownBy hg10 hge5 hB.size; have hX10 := hX.grown z5 hg10 (by omega); replace hB := hB.trans hbk; replace hS := kept_box (HL.out _ hB).2.2
        refine hK.out _ _ hS ?_
        clear hK K
        try simp only [Act.put, List.setIfInBounds_toArray, List.set_cons_zero, List.set_cons_succ]
        refine wpAnyS_one (i := 11) (o := { dst := some 32, op := Op.call { callee := Callee.value (Go.Operand.func 38), args := #[Go.Operand.tmp 21, Go.Operand.tmp 25, Go.Operand.tmp 31], argTypes := #[62, 62, 62] }, type := 62, pos := "rms.go:10", after := #[{ on := 0, ground := Ground.data }, { on := 4, ground := Ground.data }, { on := 10, ground := Ground.data }, { on := 10, ground := Ground.chain }], guard := none }) (by kernel_rfl) rfl (fun K hK => ?_)
        go_simp
        refine (A1.out _ _ _ (HL.out _ hB).1.x.int hX10 hY).mono ?_; rintro e w11 ⟨rfl, hN, hg11⟩; replace hS := hS.grown hg11 (fun e => by injection e with e; omega)
        refine hK.out _ _ hS ?_
        clear hK K
        try simp only [Act.put, List.setIfInBounds_toArray, List.set_cons_zero, List.set_cons_succ]
        refine wpAnyS_done (by kernel_rfl) ?_
        rotate_left
        go_simp
        refine (P2.out _).mono ?_; rintro e w9 ⟨b9, rfl, hC, hb9, hge9⟩; have hbk := hb9.mono hB.size; replace hX := hX.below hb9; (try replace z5 := z5.below hb9 z5.lt); replace hB := hB.trans hbk; replace hS := kept_box (HL.out _ hB).2.2
        refine hK.out _ _ hS ?_
        clear hK K
        try simp only [Act.put, List.setIfInBounds_toArray, List.set_cons_zero, List.set_cons_succ]
        refine wpAnyS_one (i := 5) (o := { dst := some 26, op := Op.alloc 67, type := 62, pos := "rms.go:10", after := #[], guard := none }) (by kernel_rfl) rfl (fun K hK => ?_)
        go_simp
        (first | (have hlt1 := hX.int.lt; have hge5 : w5.heap.size ≤ w9.heap.size := hB.size; have hbk : Below w5.heap.size w9 (w9.alloc (.cells #[.bool false, .slice none 0 0] 67)) := (Below.refl _ _).alloc hge5 _; replace hX := hX.alloc (.cells #[.bool false, .slice none 0 0] 67); replace hC := hC.alloc (.cells #[.bool false, .slice none 0 0] 67); have z5 := IntBox.new w9; generalize w9.alloc (.cells #[.bool false, .slice none 0 0] 67) = wb at *; replace hB := hB.trans hbk) | (have hlt1 := hX.int.lt; have hge5 : w5.heap.size ≤ w4.heap.size := hB.size; have hbk : Below w5.heap.size w4 (w4.alloc (.cells #[.bool false, .slice none 0 0] 67)) := (Below.refl _ _).alloc hge5 _; replace hX := hX.alloc (.cells #[.bool false, .slice none 0 0] 67); have z5 := IntBox.new w4; generalize w4.alloc (.cells #[.bool false, .slice none 0 0] 67) = wb at *; replace hB := hB.trans hbk) | (have hlt1 := z1.lt; have hge5 : w5.heap.size ≤ wa.heap.size := hB.size; have hbk : Below w5.heap.size wa (wa.alloc (.cells #[.bool false, .slice none 0 0] 67)) := (Below.refl _ _).alloc hge5 _; replace z1 := z1.alloc (.cells #[.bool false, .slice none 0 0] 67); have z5 := IntBox.new wa; generalize wa.alloc (.cells #[.bool false, .slice none 0 0] 67) = wb at *; replace hB := hB.trans hbk) | (have hge5 : w5.heap.size ≤ w5.heap.size := Nat.le_refl _; have hbk : Below w5.heap.size w5.drew (w5.alloc (.cells #[.bool false, .slice none 0 0] 67)).drew := (Below.refl w5.heap.size w5.drew).alloc (Nat.le_refl _) (.cells #[.bool false, .slice none 0 0] 67); have z5 : IntBox (w5.alloc (.cells #[.bool false, .slice none 0 0] 67)).drew w5.heap.size := IntBox.new w5; generalize (w5.alloc (.cells #[.bool false, .slice none 0 0] 67)).drew = wb at *; replace hB := hB.trans hbk)); replace hS := kept_box (HL.out _ hB).2.2
        refine hK.out _ _ hS ?_
        clear hK K
        try simp only [Act.put, List.setIfInBounds_toArray, List.set_cons_zero, List.set_cons_succ]
        refine wpAnyS_one (i := 10) (o := { dst := some 31, op := Op.call { callee := Callee.value (Go.Operand.func 39), args := #[Go.Operand.tmp 26, Go.Operand.tmp 27, Go.Operand.tmp 30], argTypes := #[62, 62, 62] }, type := 62, pos := "rms.go:10", after := #[{ on := 5, ground := Ground.data }, { on := 6, ground := Ground.data }, { on := 9, ground := Ground.data }, { on := 9, ground := Ground.chain }], guard := none }) (by kernel_rfl) rfl (fun K hK => ?_)
        go_simp
        refine (M2.out _ _ _ z5 (HL.out _ hB).1.y hC).mono ?_; rintro e w10 ⟨rfl, hY, hg10⟩; have hbk := below_of_grownBy hg10 hge5 hB.size; have hX10 := hX.grown z5 hg10 (by omega); replace hB := hB.trans hbk; replace hS := kept_box (HL.out _ hB).2.2
        refine hK.out _ _ hS ?_
        clear hK K
        try simp only [Act.put, List.setIfInBounds_toArray, List.set_cons_zero, List.set_cons_succ]
        refine wpAnyS_one (i := 11) (o := { dst := some 32, op := Op.call { callee := Callee.value (Go.Operand.func 38), args := #[Go.Operand.tmp 21, Go.Operand.tmp 25, Go.Operand.tmp 31], argTypes := #[62, 62, 62] }, type := 62, pos := "rms.go:10", after := #[{ on := 0, ground := Ground.data }, { on := 4, ground := Ground.data }, { on := 10, ground := Ground.data }, { on := 10, ground := Ground.chain }], guard := none }) (by kernel_rfl) rfl (fun K hK => ?_)
        go_simp
        refine (A1.out _ _ _ (HL.out _ hB).1.x.int hX10 hY).mono ?_; rintro e w11 ⟨rfl, hN, hg11⟩; replace hS := hS.grown hg11 (fun e => by injection e with e; omega)
        refine hK.out _ _ hS ?_
        clear hK K
        try simp only [Act.put, List.setIfInBounds_toArray, List.set_cons_zero, List.set_cons_succ]
        refine wpAnyS_done (by kernel_rfl) ?_
        rotate_left
        go_simp
        (first | (have hlt1 := hX.int.lt; have hge5 : w5.heap.size ≤ w9.heap.size := hB.size; have hbk : Below w5.heap.size w9 (w9.alloc (.cells #[.bool false, .slice none 0 0] 67)) := (Below.refl _ _).alloc hge5 _; replace hX := hX.alloc (.cells #[.bool false, .slice none 0 0] 67); replace hC := hC.alloc (.cells #[.bool false, .slice none 0 0] 67); have z5 := IntBox.new w9; generalize w9.alloc (.cells #[.bool false, .slice none 0 0] 67) = wb at *; replace hB := hB.trans hbk) | (have hlt1 := hX.int.lt; have hge5 : w5.heap.size ≤ w4.heap.size := hB.size; have hbk : Below w5.heap.size w4 (w4.alloc (.cells #[.bool false, .slice none 0 0] 67)) := (Below.refl _ _).alloc hge5 _; replace hX := hX.alloc (.cells #[.bool false, .slice none 0 0] 67); have z5 := IntBox.new w4; generalize w4.alloc (.cells #[.bool false, .slice none 0 0] 67) = wb at *; replace hB := hB.trans hbk) | (have hlt1 := z1.lt; have hge5 : w5.heap.size ≤ wa.heap.size := hB.size; have hbk : Below w5.heap.size wa (wa.alloc (.cells #[.bool false, .slice none 0 0] 67)) := (Below.refl _ _).alloc hge5 _; replace z1 := z1.alloc (.cells #[.bool false, .slice none 0 0] 67); have z5 := IntBox.new wa; generalize wa.alloc (.cells #[.bool false, .slice none 0 0] 67) = wb at *; replace hB := hB.trans hbk) | (have hge5 : w5.heap.size ≤ w5.heap.size := Nat.le_refl _; have hbk : Below w5.heap.size w5.drew (w5.alloc (.cells #[.bool false, .slice none 0 0] 67)).drew := (Below.refl w5.heap.size w5.drew).alloc (Nat.le_refl _) (.cells #[.bool false, .slice none 0 0] 67); have z5 : IntBox (w5.alloc (.cells #[.bool false, .slice none 0 0] 67)).drew w5.heap.size := IntBox.new w5; generalize (w5.alloc (.cells #[.bool false, .slice none 0 0] 67)).drew = wb at *; replace hB := hB.trans hbk)); replace hS := kept_box (HL.out _ hB).2.2
        refine hK.out _ _ hS ?_
        clear hK K
        try simp only [Act.put, List.setIfInBounds_toArray, List.set_cons_zero, List.set_cons_succ]
        refine wpAnyS_one (i := 4) (o := { dst := some 25, op := Op.call { callee := Callee.value (Go.Operand.func 39), args := #[Go.Operand.tmp 22, Go.Operand.tmp 23, Go.Operand.tmp 24], argTypes := #[62, 62, 62] }, type := 62, pos := "rms.go:10", after := #[{ on := 1, ground := Ground.data }, { on := 2, ground := Ground.data }, { on := 3, ground := Ground.data }], guard := none }) (by kernel_rfl) rfl (fun K hK => ?_)
        go_simp
        refine (M1.out _ _ _ z1 (HL.out _ hB).1.x (HL.out _ hB).2.1).mono ?_; rintro e w4 ⟨rfl, hX, hg4⟩; have hbk := below_of_grownBy hg4 hge1 hB.size; (try replace z5 := z5.grown hg4 (by omega)); replace hB := hB.trans hbk; replace hS := kept_box (HL.out _ hB).2.2
        refine hK.out _ _ hS ?_
        clear hK K
        try simp only [Act.put, List.setIfInBounds_toArray, List.set_cons_zero, List.set_cons_succ]
        refine wpAnyS_one (i := 9) (o := { dst := some 30, op := Op.call { callee := Callee.value (Go.Operand.func 37), args := #[Go.Operand.tmp 29], argTypes := #[2] }, type := 62, pos := "rms.go:10", after := #[{ on := 8, ground := Ground.data }, { on := 4, ground := Ground.chain }], guard := none }) (by kernel_rfl) rfl (fun K hK => ?_)
        go_simp
        refine (P2.out _).mono ?_; rintro e w9 ⟨b9, rfl, hC, hb9, hge9⟩; have hbk := hb9.mono hB.size; replace hX := hX.below hb9; (try replace z5 := z5.below hb9 z5.lt); replace hB := hB.trans hbk; replace hS := kept_box (HL.out _ hB).2.2
        refine hK.out _ _ hS ?_
        clear hK K
        try simp only [Act.put, List.setIfInBounds_toArray, List.set_cons_zero, List.set_cons_succ]
        refine wpAnyS_one (i := 10) (o := { dst := some 31, op := Op.call { callee := Callee.value (Go.Operand.func 39), args := #[Go.Operand.tmp 26, Go.Operand.tmp 27, Go.Operand.tmp 30], argTypes := #[62, 62, 62] }, type := 62, pos := "rms.go:10", after := #[{ on := 5, ground := Ground.data }, { on := 6, ground := Ground.data }, { on := 9, ground := Ground.data }, { on := 9, ground := Ground.chain }], guard := none }) (by kernel_rfl) rfl (fun K hK => ?_)
        go_simp
        refine (M2.out _ _ _ z5 (HL.out _ hB).1.y hC).mono ?_; rintro e w10 ⟨rfl, hY, hg10⟩; have hbk := below_of_grownBy hg10 hge5 hB.size; have hX10 := hX.grown z5 hg10 (by omega); replace hB := hB.trans hbk; replace hS := kept_box (HL.out _ hB).2.2
        refine hK.out _ _ hS ?_
        clear hK K
        try simp only [Act.put, List.setIfInBounds_toArray, List.set_cons_zero, List.set_cons_succ]
        refine wpAnyS_one (i := 11) (o := { dst := some 32, op := Op.call { callee := Callee.value (Go.Operand.func 38), args := #[Go.Operand.tmp 21, Go.Operand.tmp 25, Go.Operand.tmp 31], argTypes := #[62, 62, 62] }, type := 62, pos := "rms.go:10", after := #[{ on := 0, ground := Ground.data }, { on := 4, ground := Ground.data }, { on := 10, ground := Ground.data }, { on := 10, ground := Ground.chain }], guard := none }) (by kernel_rfl) rfl (fun K hK => ?_)
        go_simp
        refine (A1.out _ _ _ (HL.out _ hB).1.x.int hX10 hY).mono ?_; rintro e w11 ⟨rfl, hN, hg11⟩; replace hS := hS.grown hg11 (fun e => by injection e with e; omega)
        refine hK.out _ _ hS ?_
        clear hK K
        try simp only [Act.put, List.setIfInBounds_toArray, List.set_cons_zero, List.set_cons_succ]
        refine wpAnyS_done (by kernel_rfl) ?_
        rotate_left
        go_simp
        (first | (have hlt1 := hX.int.lt; have hge5 : w5.heap.size ≤ w9.heap.size := hB.size; have hbk : Below w5.heap.size w9 (w9.alloc (.cells #[.bool false, .slice none 0 0] 67)) := (Below.refl _ _).alloc hge5 _; replace hX := hX.alloc (.cells #[.bool false, .slice none 0 0] 67); replace hC := hC.alloc (.cells #[.bool false, .slice none 0 0] 67); have z5 := IntBox.new w9; generalize w9.alloc (.cells #[.bool false, .slice none 0 0] 67) = wb at *; replace hB := hB.trans hbk) | (have hlt1 := hX.int.lt; have hge5 : w5.heap.size ≤ w4.heap.size := hB.size; have hbk : Below w5.heap.size w4 (w4.alloc (.cells #[.bool false, .slice none 0 0] 67)) := (Below.refl _ _).alloc hge5 _; replace hX := hX.alloc (.cells #[.bool false, .slice none 0 0] 67); have z5 := IntBox.new w4; generalize w4.alloc (.cells #[.bool false, .slice none 0 0] 67) = wb at *; replace hB := hB.trans hbk) | (have hlt1 := z1.lt; have hge5 : w5.heap.size ≤ wa.heap.size := hB.size; have hbk : Below w5.heap.size wa (wa.alloc (.cells #[.bool false, .slice none 0 0] 67)) := (Below.refl _ _).alloc hge5 _; replace z1 := z1.alloc (.cells #[.bool false, .slice none 0 0] 67); have z5 := IntBox.new wa; generalize wa.alloc (.cells #[.bool false, .slice none 0 0] 67) = wb at *; replace hB := hB.trans hbk) | (have hge5 : w5.heap.size ≤ w5.heap.size := Nat.le_refl _; have hbk : Below w5.heap.size w5.drew (w5.alloc (.cells #[.bool false, .slice none 0 0] 67)).drew := (Below.refl w5.heap.size w5.drew).alloc (Nat.le_refl _) (.cells #[.bool false, .slice none 0 0] 67); have z5 : IntBox (w5.alloc (.cells #[.bool false, .slice none 0 0] 67)).drew w5.heap.size := IntBox.new w5; generalize (w5.alloc (.cells #[.bool false, .slice none 0 0] 67)).drew = wb at *; replace hB := hB.trans hbk)); replace hS := kept_box (HL.out _ hB).2.2
        refine hK.out _ _ hS ?_
        clear hK K
        try simp only [Act.put, List.setIfInBounds_toArray, List.set_cons_zero, List.set_cons_succ]
        refine wpAnyS_one (i := 1) (o := { dst := some 22, op := Op.alloc 67, type := 62, pos := "rms.go:10", after := #[], guard := none }) (by kernel_rfl) rfl (fun K hK => ?_)
        go_simp
        (first | (have hlt5 := z5.lt; have hge1 : w5.heap.size ≤ wb.heap.size := hB.size; have hbk : Below w5.heap.size wb (wb.alloc (.cells #[.bool false, .slice none 0 0] 67)) := (Below.refl _ _).alloc hge1 _; replace z5 := z5.alloc (.cells #[.bool false, .slice none 0 0] 67); have z1 := IntBox.new wb; generalize wb.alloc (.cells #[.bool false, .slice none 0 0] 67) = wa at *; replace hB := hB.trans hbk) | (have hge1 : w5.heap.size ≤ w5.heap.size := Nat.le_refl _; have hbk : Below w5.heap.size w5.drew (w5.alloc (.cells #[.bool false, .slice none 0 0] 67)).drew := (Below.refl w5.heap.size w5.drew).alloc (Nat.le_refl _) (.cells #[.bool false, .slice none 0 0] 67); have z1 : IntBox (w5.alloc (.cells #[.bool false, .slice none 0 0] 67)).drew w5.heap.size := IntBox.new w5; generalize (w5.alloc (.cells #[.bool false, .slice none 0 0] 67)).drew = wa at *; replace hB := hB.trans hbk)); replace hS := kept_box (HL.out _ hB).2.2
        refine hK.out _ _ hS ?_
        clear hK K
        try simp only [Act.put, List.setIfInBounds_toArray, List.set_cons_zero, List.set_cons_succ]
        refine wpAnyS_one (i := 4) (o := { dst := some 25, op := Op.call { callee := Callee.value (Go.Operand.func 39), args := #[Go.Operand.tmp 22, Go.Operand.tmp 23, Go.Operand.tmp 24], argTypes := #[62, 62, 62] }, type := 62, pos := "rms.go:10", after := #[{ on := 1, ground := Ground.data }, { on := 2, ground := Ground.data }, { on := 3, ground := Ground.data }], guard := none }) (by kernel_rfl) rfl (fun K hK => ?_)
        go_simp
        refine (M1.out _ _ _ z1 (HL.out _ hB).1.x (HL.out _ hB).2.1).mono ?_; rintro e w4 ⟨rfl, hX, hg4⟩; have hbk := below_of_grownBy hg4 hge1 hB.size; (try replace z5 := z5.grown hg4 (by omega)); replace hB := hB.trans hbk; replace hS := kept_box (HL.out _ hB).2.2
        refine hK.out _ _ hS ?_
        clear hK K
        try simp only [Act.put, List.setIfInBounds_toArray, List.set_cons_zero, List.set_cons_succ]
        refine wpAnyS_one (i := 9) (o := { dst := some 30, op := Op.call { callee := Callee.value (Go.Operand.func 37), args := #[Go.Operand.tmp 29], argTypes := #[2] }, type := 62, pos := "rms.go:10", after := #[{ on := 8, ground := Ground.data }, { on := 4, ground := Ground.chain }], guard := none }) (by kernel_rfl) rfl (fun K hK => ?_)
        go_simp
        refine (P2.out _).mono ?_; rintro e w9 ⟨b9, rfl, hC, hb9, hge9⟩; have hbk := hb9.mono hB.size; replace hX := hX.below hb9; (try replace z5 := z5.below hb9 z5.lt); replace hB := hB.trans hbk; replace hS := kept_box (HL.out _ hB).2.2
        refine hK.out _ _ hS ?_
        clear hK K
        try simp only [Act.put, List.setIfInBounds_toArray, List.set_cons_zero, List.set_cons_succ]
        refine wpAnyS_one (i := 10) (o := { dst := some 31, op := Op.call { callee := Callee.value (Go.Operand.func 39), args := #[Go.Operand.tmp 26, Go.Operand.tmp 27, Go.Operand.tmp 30], argTypes := #[62, 62, 62] }, type := 62, pos := "rms.go:10", after := #[{ on := 5, ground := Ground.data }, { on := 6, ground := Ground.data }, { on := 9, ground := Ground.data }, { on := 9, ground := Ground.chain }], guard := none }) (by kernel_rfl) rfl (fun K hK => ?_)
        go_simp
        refine (M2.out _ _ _ z5 (HL.out _ hB).1.y hC).mono ?_; rintro e w10 ⟨rfl, hY, hg10⟩; have hbk := below_of_grownBy hg10 hge5 hB.size; have hX10 := hX.grown z5 hg10 (by omega); replace hB := hB.trans hbk; replace hS := kept_box (HL.out _ hB).2.2
        refine hK.out _ _ hS ?_
        clear hK K
        try simp only [Act.put, List.setIfInBounds_toArray, List.set_cons_zero, List.set_cons_succ]
        refine wpAnyS_one (i := 11) (o := { dst := some 32, op := Op.call { callee := Callee.value (Go.Operand.func 38), args := #[Go.Operand.tmp 21, Go.Operand.tmp 25, Go.Operand.tmp 31], argTypes := #[62, 62, 62] }, type := 62, pos := "rms.go:10", after := #[{ on := 0, ground := Ground.data }, { on := 4, ground := Ground.data }, { on := 10, ground := Ground.data }, { on := 10, ground := Ground.chain }], guard := none }) (by kernel_rfl) rfl (fun K hK => ?_)
        go_simp
        refine (A1.out _ _ _ (HL.out _ hB).1.x.int hX10 hY).mono ?_; rintro e w11 ⟨rfl, hN, hg11⟩; replace hS := hS.grown hg11 (fun e => by injection e with e; omega)
        refine hK.out _ _ hS ?_
        clear hK K
        try simp only [Act.put, List.setIfInBounds_toArray, List.set_cons_zero, List.set_cons_succ]
        refine wpAnyS_done (by kernel_rfl) ?_
        rotate_left
        all_goals
          have T11 := (HL.out _ hB).1.setX hN hg11
          have hp11 := (HL.out _ hB).2.1.grown (HL.out _ hB).1.x.int hg11 (fun e => hne1 e.symm)
          clear HL M1 M2 A1 P2
          go_wp2
          go_meet
          exact ⟨T11, hp11⟩
      case rest =>
        obtain ⟨T6, hp6⟩ := hcut
        clear M1 M2 A1 P2 T5 hp5 hbx5
        go_wp2_with fail
        refine (M3.out wc bp T6.y hp6).mono ?_
        rintro e w8 ⟨rfl, hy8, hg8⟩
        have T8 := T6.setY hy8 hg8
        clear M3 T6 hp6 hy8 hg8
        go_wp2
        go_roundw
        case rel => exact ⟨k + 1, by omega, by go_num, T8⟩
        case measure => simp [intOf] <;> omega
    · have hkn : k = n := by omega
      subst hkn
      rw [List.take_of_length_le (by omega)] at T zD zN
      have hD0 := useD_pos HM.out.pos
      have hG0 := useG_pos HM.out.pos
      have hGD : useG M ≤ useD M := Nat.gcd_le_right _ hD0
      have hNle : useNum M ≤ useN M := Nat.div_le_self _ _
      have hDle : useDen M ≤ useD M := Nat.div_le_self _ _
      have C1 := Lib.hid (GCD_any wr.heap.size bx bY (useN M) (useD M) _ (IntBox.new wr) (T.x.alloc _) (T.y.alloc _) (big_small (a := useN M) (by omega)) (big_small (a := useD M) (by omega)))
      have T1 := T.later (below_one (w := wr) (.cells #[.bool false, .slice none 0 0] 67))
      have hxlt := T.x.int.lt
      have hylt := T.y.int.lt
      have hblr := T.bl.size
      have D1 := Lib.hid (fun (W : World) (b : Nat) (g1 : BigAt W bx ((useN M : Nat) : Int)) (g2 : BigAt W b ((useG M : Nat) : Int)) => Div_all bx bx b _ _ W g1.int g1 g2 (big_small (a := useN M) (by omega)) (big_small (a := useG M) (by omega)) (by omega))
      have D2 := Lib.hid (fun (W : World) (b : Nat) (g1 : BigAt W bY ((useD M : Nat) : Int)) (g2 : BigAt W b ((useG M : Nat) : Int)) => Div_all bY bY b _ _ W g1.int g1 g2 (big_small (a := useD M) (by omega)) (big_small (a := useG M) (by omega)) (by omega))
      have eN : ((useN M : Nat) : Int) / ((useG M : Nat) : Int) = ((useNum M : Nat) : Int) := by rw [← Int.natCast_ediv]; rfl
      have eD : ((useD M : Nat) : Int) / ((useG M : Nat) : Int) = ((useDen M : Nat) : Int) := by rw [← Int.natCast_ediv]; rfl
      rw [eN] at D1
      rw [eD] at D2
      have L1 := Lib.hid (fun (W : World) (b : Nat) (g : BigAt W b ((useNum M : Nat) : Int)) => BitLen_any b _ (by omega) W g (big_small (a := useNum M) (by omega)))
      have L2 := Lib.hid (fun (W : World) (b : Nat) (g : BigAt W b ((useDen M : Nat) : Int)) => BitLen_any b _ (by omega) W g (big_small (a := useDen M) (by omega)))
      have HU : Hid (useBig M = (decide (useNum M > 9223372036854775807) || decide (useDen M > 9223372036854775807))) := rfl
      have hgc : ((Nat.gcd (useN M) (useD M) : Nat) : Int) = ((useG M : Nat) : Int) := rfl
      rw [hgc] at C1
      clear hgc T eN eD hG0 hGD hNle hDle hD0 zD zN hl
      go_wp2_with fail
      refine C1.out.mono ?_
      rintro e w2 ⟨rfl, hg2, hgr2⟩
      have hgn := grownBy_new hgr2
      have Tn : TwoB w0 w2 bx bY ((useN M : Nat) : Int) ((useD M : Nat) : Int) := ⟨T1.x.grown (IntBox.new wr) hgr2 (by omega), T1.y.grown (IntBox.new wr) hgr2 (by omega), T1.ne, T1.lx, T1.ly, T1.bl.trans (by
        have h1 := below_of_grownBy (B := w0.heap.size) hgr2 hblr (by simp; omega)
        exact h1)⟩
      clear C1 T1 hgr2 hgn
      go_wp2_with fail
      refine (D1.out w2 _ Tn.x hg2).mono ?_
      rintro e w3 ⟨rfl, hx3, hgr3⟩
      have T3 := Tn.setX hx3 hgr3
      have hg3 := hg2.grown Tn.x.int hgr3 (by omega)
      clear D1 Tn hx3 hgr3 hg2
      go_wp2_with fail
      refine (D2.out w3 _ T3.y hg3).mono ?_
      rintro e w4 ⟨rfl, hy4, hgr4⟩
      have T4 := T3.setY hy4 hgr4
      clear D2 T3 hy4 hgr4 hg3
      have hbF4 := hbF.below T4.bl (by rw [HS0.out]; omega)
      have hB4 : Below w.heap.size w w4 := hB0.trans (T4.bl.mono (by rw [HS0.out]; omega))
      have z0 := hbF4.cell 0 rfl
      have z1 := hbF4.cell 1 rfl
      have f0 := hbF4.free 0
      have f1 := hbF4.free 1
      go_wp2_with fail
      refine (L1.out w4 bx T4.x).mono ?_
      rintro e w5 ⟨k1, rfl, hk1, rfl⟩
      have e1 := len_big hk1.out.1 hk1.out.2
      clear L1 hk1
      by_cases g1 : useNum M > 9223372036854775807
      · rw [decide_eq_true g1] at HU e1
        rw [Bool.true_or] at HU
        have hk63 : 63 < k1 := of_decide_eq_true e1
        clear L2
        go_wp2
        have hFz := Box.pair hbF4 (.int .i64 0) (.int .i64 0)
        have hBz := (hB4.setCell (p := ⟨w.heap.size, 0, none⟩) (Nat.le_refl _) (.int .i64 0)).setCell (p := ⟨w.heap.size, 1, none⟩) (Nat.le_refl _) (.int .i64 0)
        generalize ((w5.setCell ⟨w.heap.size, 0, none⟩ (.int .i64 0)).setCell ⟨w.heap.size, 1, none⟩ (.int .i64 0)) = wz at *
        have q0 := hFz.cell 0 rfl
        have q1 := hFz.cell 1 rfl
        exact bodyPost_ret (v := .tuple #[.agg #[.int .i64 0, .int .i64 0], .int .i64 4]) (by simp [results, Try.results14, go_sem, q0, q1]) rfl ⟨0, 0, 4, rfl, .inl ⟨HU.out, rfl, rfl, rfl⟩, hBz⟩
      · rw [decide_eq_false g1] at HU e1
        rw [Bool.false_or] at HU
        have hk63 : ¬ 63 < k1 := of_decide_eq_false e1
        go_wp2_with fail
        refine (L2.out w5 bY T4.y).mono ?_
        rintro e w6 ⟨k2, rfl, hk2, rfl⟩
        have e2 := len_big hk2.out.1 hk2.out.2
        clear L2 hk2
        by_cases g2 : useDen M > 9223372036854775807
        · rw [decide_eq_true g2] at HU e2
          have hk64 : 63 < k2 := of_decide_eq_true e2
          go_wp2
          have hFz := Box.pair hbF4 (.int .i64 0) (.int .i64 0)
          have hBz := (hB4.setCell (p := ⟨w.heap.size, 0, none⟩) (Nat.le_refl _) (.int .i64 0)).setCell (p := ⟨w.heap.size, 1, none⟩) (Nat.le_refl _) (.int .i64 0)
          generalize ((w6.setCell ⟨w.heap.size, 0, none⟩ (.int .i64 0)).setCell ⟨w.heap.size, 1, none⟩ (.int .i64 0)) = wz at *
          have q0 := hFz.cell 0 rfl
          have q1 := hFz.cell 1 rfl
          exact bodyPost_ret (v := .tuple #[.agg #[.int .i64 0, .int .i64 0], .int .i64 4]) (by simp [results, Try.results14, go_sem, q0, q1]) rfl ⟨0, 0, 4, rfl, .inl ⟨HU.out, rfl, rfl, rfl⟩, hBz⟩
        · rw [decide_eq_false g2] at HU e2
          have hk64 : ¬ 63 < k2 := of_decide_eq_false e2
          have I1 := Lib.hid (Int64_any bx _ w6 T4.x ⟨by omega, by omega⟩)
          have I2 := Lib.hid (Int64_any bY _ w6 T4.y ⟨by omega, by omega⟩)
          clear T4 g1 g2
          go_wp2_with fail
          refine I1.out.mono ?_
          rintro e w7 ⟨rfl, rfl⟩
          go_wp2_with fail
          refine I2.out.mono ?_
          rintro e w8 ⟨rfl, rfl⟩
          clear I1 I2
          go_wp2
          have hFz := Box.pair hbF4 (.int .i64 (useNum M : Int)) (.int .i64 (useDen M : Int))
          have hBz := (hB4.setCell (p := ⟨w.heap.size, 0, none⟩) (Nat.le_refl _) (.int .i64 (useNum M : Int))).setCell (p := ⟨w.heap.size, 1, none⟩) (Nat.le_refl _) (.int .i64 (useDen M : Int))
          generalize ((w6.setCell ⟨w.heap.size, 0, none⟩ (.int .i64 (useNum M : Int))).setCell ⟨w.heap.size, 1, none⟩ (.int .i64 (useDen M : Int))) = wz at *
          have q0 := hFz.cell 0 rfl
          have q1 := hFz.cell 1 rfl
          exact bodyPost_ret (v := .tuple #[.agg #[.int .i64 (useNum M : Int), .int .i64 (useDen M : Int)], .int .i64 0]) (by simp [results, Try.results14, go_sem, q0, q1]) rfl ⟨_, _, 0, rfl, .inr ⟨HU.out, rfl, rfl, rfl⟩, hBz⟩
end Go.Proofs.Ytajfohnblmnjjaa
