/-
  Contract of the reference's QuoRem, whatever the size (up to a million digits).
-/
import Derived.Test.YtajfohnblmnjjaaBigWalks5
import Derived.Test.YtajfohnblmnjjaaDivMany
namespace Go.Proofs.Ytajfohnblmnjjaa
open Go.RowKit
set_option linter.unusedVariables false

theorem RawAt.storedR {w1 : World} {b : Nat} {s : Bool} {A : Option Addr} {n c : Nat} {l : List Int} (hz : IntBox w1 b) (ho : Rd w1 1 A n (l.map (Value.int .u32))) (hc : n ≤ c) (hd : Dig l) :
    RawAt ((w1.setCell ⟨b, 0, none⟩ (.bool s)).setCell ⟨b, 1, none⟩ (.slice A n c)) b s A n c l := by
  have hz' := hz
  obtain ⟨s0, A0, n0, c0, hb⟩ := hz
  exact ⟨hb.pair _ _, rd_grown ho hz' (grownBy_pair _ _ _ _), hc, hd⟩
set_option maxHeartbeats 3200000 in
theorem QuoRem_lt (bz bx bY br : Nat) (x y : Int) (w : World) (hz : IntBox w bz) (hx : BigAt w bx x) (hy : BigAt w bY y) (hr : IntBox w br) (hne : br ≠ bz) (sx : ((x.natAbs : Nat) : Int) < pow32 1000000) (sy : ((y.natAbs : Nat) : Int) < pow32 1000000) (hy0 : y ≠ 0) (hlt : (x.natAbs : Int) < y.natAbs) :
    Calls Try.prog 72 #[ptr bz, ptr bx, ptr bY, ptr br] w fun e w' => e = .returned (.tuple #[ptr bz, ptr br]) ∧ BigAt w' bz (Int.tdiv x y) ∧ BigAt w' br (Int.tmod x y) ∧ Wrote2 w w' bz br := by
  have C := Lib.hid (CmpAbs_any bx bY x y w hx hy sx sy)
  rw [cmpI_lt hlt] at C
  have e1 : Int.tdiv x y = 0 := by rw [← quo_sign hy0, Int.ediv_eq_zero_of_lt (by omega) hlt]; cases (!(decide (x < 0) == decide (y < 0))) <;> rfl
  have e2 : Int.tmod x y = x := by
    rw [← rem_sign hy0, Int.emod_eq_of_lt (by omega) hlt]
    by_cases h : x < 0
    · rw [decide_eq_true h]; simp [sgn]; omega
    · rw [decide_eq_false h]; simp [sgn]; omega
  rw [e1, e2]
  have D := Lib.hid (fun (W : World) (h1 : IntBox W br) (h2 : BigAt W bx x) => BigSet_any br bx x W h1 h2 sx)
  have E := Lib.hid (fun (W : World) (h1 : IntBox W bz) => SetInt64_any bz 0 ⟨by decide, by decide⟩ W h1)
  clear e1 e2 hlt sx sy
  go_enter Try.func72, Try.ntmps72
  go_wp2_with fail
  refine C.out.mono ?_
  rintro e w1 ⟨rfl, hq⟩
  have hb1 := below_draws hq
  clear hq
  go_wp2_with fail
  refine (D.out w1 (hr.below hb1 hr.lt) (hx.below hb1)).mono ?_
  rintro e w2 ⟨rfl, hR, hg2⟩
  have hz2 := (hz.below hb1 hz.lt).grown hg2 (Ne.symm hne)
  go_wp2_with fail
  refine (E.out w2 hz2).mono ?_
  rintro e w3 ⟨rfl, hZ, hg3⟩
  go_wp2
  go_ret2
  exact ⟨rfl, hZ, hR.grown hz2 hg3 hne, ((Wrote2.of0 hb1 _ _).trans (Wrote2.of2 hg2 _)).trans (Wrote2.of1 hg3 _)⟩
set_option maxHeartbeats 3200000 in
theorem QuoRem_long (bz bx bY br : Nat) (x y : Int) (w : World) (hz : IntBox w bz) (hx : BigAt w bx x) (hy : BigAt w bY y) (hr : IntBox w br) (hne : br ≠ bz) (sx : ((x.natAbs : Nat) : Int) < pow32 1000000) (sy : ((y.natAbs : Nat) : Int) < pow32 1000000) (hy0 : y ≠ 0) (hge : (y.natAbs : Int) ≤ x.natAbs) (hbig : pow32 2 ≤ ((x.natAbs : Nat) : Int)) :
    Calls Try.prog 72 #[ptr bz, ptr bx, ptr bY, ptr br] w fun e w' => e = .returned (.tuple #[ptr bz, ptr br]) ∧ BigAt w' bz (Int.tdiv x y) ∧ BigAt w' br (Int.tmod x y) ∧ Wrote2 w w' bz br := by
  have C := Lib.hid (CmpAbs_any bx bY x y w hx hy sx sy)
  have hcm : decide (cmpI x.natAbs y.natAbs < 0) = false := by
    apply decide_eq_false
    rcases Int.lt_or_eq_of_le hge with k | k
    · rw [cmpI_gt k]; decide
    · rw [cmpI_eq k.symm]; decide
  generalize cmpI x.natAbs y.natAbs = cm at *
  obtain ⟨A, n, c, l, hr1, ht, hm⟩ := hx
  obtain ⟨B, m, d, r, hs1, hu, hv⟩ := hy
  have hln := hr1.rd.lenMap
  have hlm := hs1.rd.lenMap
  have hn : n ≤ 1000000 := by rw [← hln]; exact len_le hr1.dig ht (by rw [hm]; exact sx)
  have hn3 : 3 ≤ n := by
    rcases Nat.lt_or_ge n 3 with h | h
    · exfalso
      have h1 := mag_lt hr1.dig
      have h2 := pow32_mono (show n ≤ 2 by omega)
      rw [hln, hm] at h1
      omega
    · exact h
  have hm1 : 1 ≤ m := by
    rcases Nat.lt_or_ge m 1 with h | h
    · exfalso
      have : r = [] := List.eq_nil_of_length_eq_zero (by omega)
      rw [this] at hv
      simp [mag] at hv
      omega
    · exact h
  have hmn : m ≤ n := by
    rcases Nat.lt_or_ge n m with h | h
    · exfalso
      have := mag_cmp_len hr1.dig hs1.dig hu (by rw [hln, hlm]; exact h)
      omega
    · exact h
  have hn3' : ¬ (n : Int) < 3 := by omega
  have Hq := Lib.hid (quo_sign (x := x) hy0)
  have Hm := Lib.hid (rem_sign (x := x) hy0)
  generalize hsx : decide (x < 0) = s at *
  generalize hsy : decide (y < 0) = s' at *
  have P := Lib.hid (fun (W : World) (h1 : Rd W 1 A n (l.map (Value.int .u32))) (h2 : Rd W 1 B m (r.map (Value.int .u32))) => parts_any A n c l B m d r W h1 h2 hr1.dig hs1.dig hu hn hm1 hmn)
  unfold GivesParts at P
  rw [hm, hv] at P
  generalize (x.natAbs : Int) = X at *
  generalize (y.natAbs : Int) = Y at *
  clear hsx hsy hge sx sy hy0 hbig hm hv hln hlm
  have c0 := hr1.box.cell 0 rfl
  have c1 := hr1.box.cell 1 rfl
  have d0 := hs1.box.cell 0 rfl
  have d1 := hs1.box.cell 1 rfl
  have hxlt := hr1.box.lt
  have hylt := hs1.box.lt
  go_enter Try.func72, Try.ntmps72
  go_wp2_with fail
  refine C.out.mono ?_
  rintro e w1 ⟨rfl, hq⟩
  have hb1 := below_draws hq
  have c0' := (hb1.cell (p := ⟨bx, 0, none⟩) hxlt).trans c0
  have c1' := (hb1.cell (p := ⟨bx, 1, none⟩) hxlt).trans c1
  have d0' := (hb1.cell (p := ⟨bY, 0, none⟩) hylt).trans d0
  have d1' := (hb1.cell (p := ⟨bY, 1, none⟩) hylt).trans d1
  clear hq c0 c1 d0 d1
  go_wp2
  go_quiet (fail)
  have hb2 : Below w.heap.size w (w1.drewN nq) := hb1.trans ((below_draws ⟨_, rfl⟩ : Below w1.heap.size w1 (w1.drewN nq)).mono hb1.size)
  have c1'' : (w1.drewN nq).cell? ⟨bx, 1, none⟩ = some (.slice A n c) := c1'
  have d1'' : (w1.drewN nq).cell? ⟨bY, 1, none⟩ = some (.slice B m d) := d1'
  generalize w1.drewN nq = w2 at *
  clear c0' c1' d0' d1' hb1
  go_upto_region 11 with fail
  have F : Hid (∀ W, Below w2.heap.size w2 W → W.cell? ⟨bx, 1, none⟩ = some (.slice A n c) ∧ W.cell? ⟨bY, 1, none⟩ = some (.slice B m d)) := fun W hW => ⟨(hW.cell (p := ⟨bx, 1, none⟩) (Nat.lt_of_lt_of_le hxlt hb2.size)).trans c1'', (hW.cell (p := ⟨bY, 1, none⟩) (Nat.lt_of_lt_of_le hylt hb2.size)).trans d1''⟩
  have hB : Below w2.heap.size w2 w2.drew := below_drew w2
  clear c1'' d1''
  refine wp_region_B (by kernel_rfl) ?_
  refine wpAnyB_take (i := 0) (oi := { dst := some 69, op := Op.move (Go.Operand.tmp 1), type := 62, pos := "big.go:319", after := #[], guard := none }) (v := ?v1) rfl (by kernel_rfl) (by kernel_rfl) (by kernel_rfl) (fun _ _ _ h => h) (Or.inl ⟨by rfl, ?hy1⟩) ?rs1
  case hy1 => (intro W hW; go_simp; try with_reducible rfl)
  try simp only [Act.put, List.setIfInBounds_toArray, List.set_cons_zero, List.set_cons_succ]
  refine wpAnyB_take (i := 1) (oi := { dst := some 70, op := Op.nilCheck (Go.Operand.tmp 69), type := 0, pos := "big.go:319", after := #[{ on := 0, ground := Ground.data }], guard := none }) (v := ?v2) rfl (by kernel_rfl) (by kernel_rfl) (by kernel_rfl) (fun _ _ _ h => h) (Or.inl ⟨by rfl, ?hy2⟩) ?rs2
  case hy2 => (intro W hW; go_simp; try with_reducible rfl)
  try simp only [Act.put, List.setIfInBounds_toArray, List.set_cons_zero, List.set_cons_succ]
  refine wpAnyB_take (i := 2) (oi := { dst := some 71, op := Op.fieldAddr 67 (Go.Operand.tmp 70) 1, type := 0, pos := "big.go:319", after := #[{ on := 1, ground := Ground.data }], guard := none }) (v := ?v3) rfl (by kernel_rfl) (by kernel_rfl) (by kernel_rfl) (fun _ _ _ h => h) (Or.inl ⟨by rfl, ?hy3⟩) ?rs3
  case hy3 => (intro W hW; go_simp; try with_reducible rfl)
  try simp only [Act.put, List.setIfInBounds_toArray, List.set_cons_zero, List.set_cons_succ]
  refine wpAnyB_take (i := 3) (oi := { dst := some 72, op := Op.load 65 (Go.Operand.tmp 71), type := 65, pos := "big.go:319", after := #[{ on := 2, ground := Ground.data }], guard := none }) (v := ?v4) rfl (by kernel_rfl) (by kernel_rfl) (by kernel_rfl) (fun _ _ _ h => h) (Or.inl ⟨by rfl, ?hy4⟩) ?rs4
  case hy4 => (intro W hW; obtain ⟨g1, g2⟩ := F.out W (bthen hB hW); go_simp; try with_reducible rfl)
  try simp only [Act.put, List.setIfInBounds_toArray, List.set_cons_zero, List.set_cons_succ]
  refine wpAnyB_take (i := 4) (oi := { dst := some 73, op := Op.move (Go.Operand.tmp 2), type := 62, pos := "big.go:319", after := #[], guard := none }) (v := ?v5) rfl (by kernel_rfl) (by kernel_rfl) (by kernel_rfl) (fun _ _ _ h => h) (Or.inl ⟨by rfl, ?hy5⟩) ?rs5
  case hy5 => (intro W hW; go_simp; try with_reducible rfl)
  try simp only [Act.put, List.setIfInBounds_toArray, List.set_cons_zero, List.set_cons_succ]
  refine wpAnyB_take (i := 5) (oi := { dst := some 74, op := Op.nilCheck (Go.Operand.tmp 73), type := 0, pos := "big.go:319", after := #[{ on := 4, ground := Ground.data }], guard := none }) (v := ?v6) rfl (by kernel_rfl) (by kernel_rfl) (by kernel_rfl) (fun _ _ _ h => h) (Or.inl ⟨by rfl, ?hy6⟩) ?rs6
  case hy6 => (intro W hW; go_simp; try with_reducible rfl)
  try simp only [Act.put, List.setIfInBounds_toArray, List.set_cons_zero, List.set_cons_succ]
  refine wpAnyB_take (i := 6) (oi := { dst := some 75, op := Op.fieldAddr 67 (Go.Operand.tmp 74) 1, type := 0, pos := "big.go:319", after := #[{ on := 5, ground := Ground.data }], guard := none }) (v := ?v7) rfl (by kernel_rfl) (by kernel_rfl) (by kernel_rfl) (fun _ _ _ h => h) (Or.inl ⟨by rfl, ?hy7⟩) ?rs7
  case hy7 => (intro W hW; go_simp; try with_reducible rfl)
  try simp only [Act.put, List.setIfInBounds_toArray, List.set_cons_zero, List.set_cons_succ]
  refine wpAnyB_take (i := 7) (oi := { dst := some 76, op := Op.load 65 (Go.Operand.tmp 75), type := 65, pos := "big.go:319", after := #[{ on := 6, ground := Ground.data }], guard := none }) (v := ?v8) rfl (by kernel_rfl) (by kernel_rfl) (by kernel_rfl) (fun _ _ _ h => h) (Or.inl ⟨by rfl, ?hy8⟩) ?rs8
  case hy8 => (intro W hW; obtain ⟨g1, g2⟩ := F.out W (bthen hB hW); go_simp; try with_reducible rfl)
  try simp only [Act.put, List.setIfInBounds_toArray, List.set_cons_zero, List.set_cons_succ]
  refine wpAnyB_one (i := 8) (o := { dst := some 77, op := Op.call { callee := Callee.value (Go.Operand.func 76), args := #[Go.Operand.tmp 72, Go.Operand.tmp 76], argTypes := #[65, 65] }, type := 97, pos := "big.go:319", after := #[{ on := 3, ground := Ground.data }, { on := 7, ground := Ground.data }], guard := none }) (by kernel_rfl) rfl (fun K hK => ?_)
  go_simp
  refine (P.out _ (hr1.rd.below (bthen hb2 hB)) (hs1.rd.below (bthen hb2 hB))).mono ?_; rintro e w3 ⟨u3, v3, Q, R, rfl, hQ, hR, dQ, dR, mQ, mR, lQ, lR, hbk⟩; replace hB := bthen hB hbk
  refine hK.out _ _ hbk ?_
  clear hK K
  try simp only [Act.put, List.setIfInBounds_toArray, List.set_cons_zero, List.set_cons_succ]
  refine wpAnyB_take (i := 9) (oi := { dst := some 68, op := Op.move (Go.Operand.tmp 77), type := 97, pos := "big.go:319", after := #[{ on := 8, ground := Ground.data }], guard := none }) (v := ?v9) rfl (by kernel_rfl) (by kernel_rfl) (by kernel_rfl) (fun _ _ _ h => h) (Or.inl ⟨by rfl, ?hy9⟩) ?rs9
  case hy9 => (intro W hW; go_simp; try with_reducible rfl)
  try simp only [Act.put, List.setIfInBounds_toArray, List.set_cons_zero, List.set_cons_succ]
  refine wpAnyB_take (i := 10) (oi := { dst := some 78, op := Op.extract (Go.Operand.tmp 68) 0, type := 65, pos := "big.go:319", after := #[{ on := 9, ground := Ground.data }], guard := none }) (v := ?v10) rfl (by kernel_rfl) (by kernel_rfl) (by kernel_rfl) (fun _ _ _ h => h) (Or.inl ⟨by rfl, ?hy10⟩) ?rs10
  case hy10 => (intro W hW; go_simp; try with_reducible rfl)
  try simp only [Act.put, List.setIfInBounds_toArray, List.set_cons_zero, List.set_cons_succ]
  refine wpAnyB_take (i := 11) (oi := { dst := some 79, op := Op.extract (Go.Operand.tmp 68) 1, type := 65, pos := "big.go:319", after := #[{ on := 9, ground := Ground.data }, { on := 12, ground := Ground.gcOnly Go.Departure.lateStores }], guard := none }) (v := ?v11) rfl (by kernel_rfl) (by kernel_rfl) (by kernel_rfl) (fun _ _ _ h => h) (Or.inl ⟨by rfl, ?hy11⟩) ?rs11
  case hy11 => (intro W hW; go_simp; try with_reducible rfl)
  try simp only [Act.put, List.setIfInBounds_toArray, List.set_cons_zero, List.set_cons_succ]
  refine wpAnyB_take (i := 12) (oi := { dst := some 14, op := Op.assign (Go.Operand.tmp 78), type := 65, pos := "big.go:319", after := #[{ on := 10, ground := Ground.data }, { on := 8, ground := Ground.chain }, { on := 0, ground := Ground.phase }, { on := 1, ground := Ground.phase }, { on := 2, ground := Ground.phase }, { on := 3, ground := Ground.phase }, { on := 4, ground := Ground.phase }, { on := 5, ground := Ground.phase }, { on := 6, ground := Ground.phase }, { on := 7, ground := Ground.phase }, { on := 8, ground := Ground.phase }, { on := 9, ground := Ground.phase }, { on := 10, ground := Ground.phase }, { on := 11, ground := Ground.textOnly Go.Departure.lateStores }], guard := none }) (v := ?v12) rfl (by kernel_rfl) (by kernel_rfl) (by kernel_rfl) (fun _ _ _ h => h) (Or.inl ⟨by rfl, ?hy12⟩) ?rs12
  case hy12 => (intro W hW; go_simp; try with_reducible rfl)
  try simp only [Act.put, List.setIfInBounds_toArray, List.set_cons_zero, List.set_cons_succ]
  refine wpAnyB_take (i := 13) (oi := { dst := some 15, op := Op.assign (Go.Operand.tmp 79), type := 65, pos := "big.go:319", after := #[{ on := 11, ground := Ground.data }, { on := 12, ground := Ground.chain }, { on := 0, ground := Ground.phase }, { on := 1, ground := Ground.phase }, { on := 2, ground := Ground.phase }, { on := 3, ground := Ground.phase }, { on := 4, ground := Ground.phase }, { on := 5, ground := Ground.phase }, { on := 6, ground := Ground.phase }, { on := 7, ground := Ground.phase }, { on := 8, ground := Ground.phase }, { on := 9, ground := Ground.phase }, { on := 10, ground := Ground.phase }, { on := 11, ground := Ground.phase }, { on := 12, ground := Ground.phase }], guard := none }) (v := ?v13) rfl (by kernel_rfl) (by kernel_rfl) (by kernel_rfl) (fun _ _ _ h => h) (Or.inl ⟨by rfl, ?hy13⟩) ?rs13
  case hy13 => (intro W hW; go_simp; try with_reducible rfl)
  try simp only [Act.put, List.setIfInBounds_toArray, List.set_cons_zero, List.set_cons_succ]
  refine wpAnyB_done (by kernel_rfl) ?_
  have hB3 := bthen hb2 hB
  have hz3 := hz.below hB3 hz.lt
  have hr3 := hr.below hB3 hr.lt
  obtain ⟨nQ, hnQ⟩ : ∃ nQ, Q.length = nQ := ⟨_, rfl⟩
  obtain ⟨nR, hnR⟩ : ∃ nR, R.length = nR := ⟨_, rfl⟩
  obtain ⟨AQ, cQ, rfl, hcQ, -, rdQ⟩ := hQ.formN hnQ
  obtain ⟨AR, cR, rfl, hcR, -, rdR⟩ := hR.formN hnR
  have g4 := grownBy_pair w3 bz (.bool (!(s == s'))) (.slice AQ nQ cQ)
  have z4 := RawAt.storedR (s := !(s == s')) hz3 rdQ hcQ dQ
  have hr4 := hr3.grown g4 hne
  have rdR4 := rd_grown rdR hz3 g4
  have hz3' := hz3
  obtain ⟨s0, A0, n0, q0, hbz⟩ := hz3'
  have a0 := hbz.cell 0 rfl
  have a1 := hbz.cell 1 rfl
  have f0 := hbz.free 0
  have f1 := hbz.free 1
  have hlz := hbz.lt
  have HW4 := Lib.hid ((Wrote2.of0 hB3 bz br).trans (Wrote2.of1 g4 br))
  have Z4 := Lib.hid z4
  have R4 := Lib.hid rdR4
  have Hr4 := Lib.hid hr4
  clear hQ hR rdQ rdR hz3 hr3 hbz g4 z4 rdR4 P F C hcm hnQ hnR hr1 hs1 hbk hB hB3 hz hr
  go_upto_region 13 with fail
  generalize (w3.setCell ⟨bz, 0, none⟩ (.bool (!(s == s')))).setCell ⟨bz, 1, none⟩ (.slice AQ nQ cQ) = w4 at *
  have g5 := grownBy_pair w4 br (.bool s) (.slice AR nR cR)
  have r5 := RawAt.storedR (s := s) Hr4.out R4.out hcR dR
  have z5 := Z4.out.grown Hr4.out g5 (Ne.symm hne)
  have hr4' := Hr4.out
  obtain ⟨s0, A0, n0, q0, hbz⟩ := hr4'
  have b0 := hbz.cell 0 rfl
  have b1 := hbz.cell 1 rfl
  have k0 := hbz.free 0
  have k1 := hbz.free 1
  have hlr := hbz.lt
  have HW5 := Lib.hid (HW4.out.trans (Wrote2.of2 g5 bz))
  have Z5 := Lib.hid z5
  have R5 := Lib.hid r5
  clear a0 a1 f0 f1 hlz hbz g5 r5 z5 HW4 Z4 R4 Hr4
  go_upto_region 14 with fail
  generalize (w4.setCell ⟨br, 0, none⟩ (.bool s)).setCell ⟨br, 1, none⟩ (.slice AR nR cR) = w5 at *
  clear b0 b1 k0 k1 hlr
  have T1 := Lib.hid (trim_any bz (!(s == s')) AQ nQ cQ Q w5 Z5.out (by have := Z5.out.rd.lenMap; omega))
  go_wp2_with fail
  refine T1.out.mono ?_
  rintro e w6 ⟨rfl, hZ6, hg6⟩
  have hr6 := R5.out.grown Z5.out.int hg6 hne
  have T2 := Lib.hid (trim_any br s AR nR cR R w6 hr6 (by have := hr6.rd.lenMap; omega))
  go_wp2_with fail
  refine T2.out.mono ?_
  rintro e w7 ⟨rfl, hR7, hg7⟩
  have hZ7 := hZ6.grown hr6.int hg7 (Ne.symm hne)
  rw [mQ, Hq.out] at hZ7
  rw [mR, Hm.out] at hR7
  clear T1 T2 hZ6
  go_wp2
  go_ret2
  exact ⟨rfl, hZ7, hR7, (HW5.out.trans (Wrote2.of1 hg6 _)).trans (Wrote2.of2 hg7 _)⟩
/-- QuoRem of any two numbers, the divisor not nought. -/
theorem QuoRem_all (bz bx bY br : Nat) (x y : Int) (w : World) (hz : IntBox w bz) (hx : BigAt w bx x) (hy : BigAt w bY y) (hr : IntBox w br) (hne : br ≠ bz) (sx : ((x.natAbs : Nat) : Int) < pow32 1000000) (sy : ((y.natAbs : Nat) : Int) < pow32 1000000) (hy0 : y ≠ 0) :
    Calls Try.prog 72 #[ptr bz, ptr bx, ptr bY, ptr br] w fun e w' => e = .returned (.tuple #[ptr bz, ptr br]) ∧ BigAt w' bz (Int.tdiv x y) ∧ BigAt w' br (Int.tmod x y) ∧ Wrote2 w w' bz br := by
  have hp2 : pow32 2 = 18446744073709551616 := by decide
  rcases Int.lt_or_le (x.natAbs : Int) (y.natAbs : Int) with h | h
  · exact QuoRem_lt bz bx bY br x y w hz hx hy hr hne sx sy hy0 h
  · rcases Int.lt_or_le (x.natAbs : Int) (pow32 2) with g | g
    · exact QuoRem_any bz bx bY br x y w hz hx hy hr hne (by omega) (by omega) hy0
    · exact QuoRem_long bz bx bY br x y w hz hx hy hr hne sx sy hy0 h g
set_option maxHeartbeats 1600000 in
theorem DivMod_all (bz bx bY bm : Nat) (x y : Int) (w : World) (hz : IntBox w bz) (hx : BigAt w bx x) (hy : BigAt w bY y) (hm : IntBox w bm) (hne : bm ≠ bz) (sx : ((x.natAbs : Nat) : Int) < pow32 1000000) (sy : ((y.natAbs : Nat) : Int) < pow32 1000000) (hy0 : 0 < y) :
    Calls Try.prog 66 #[ptr bz, ptr bx, ptr bY, ptr bm] w fun e w' => e = .returned (.tuple #[ptr bz, ptr bm]) ∧ BigAt w' bz (x / y) ∧ BigAt w' bm (x % y) ∧ Wrote2 w w' bz bm := by
  have C := Lib.hid (BigSet_any w.heap.size bY y _ (IntBox.new w) (hy.alloc _) sy)
  have D := Lib.hid (fun (W : World) (h1 : IntBox W bz) (h2 : BigAt W bx x) (h3 : BigAt W bY y) (h4 : IntBox W bm) => QuoRem_all bz bx bY bm x y W h1 h2 h3 h4 hne sx sy (by omega))
  have hzlt := hz.lt
  have hmlt := hm.lt
  have hq := tdiv_abs x y
  have hr : (Int.tmod x y).natAbs < y.natAbs := by
    have h1 := Int.tmod_lt_of_pos x hy0
    have h2 := Int.lt_tmod_of_pos x hy0
    omega
  by_cases hneg : Int.tmod x y < 0
  · have Hf := Lib.hid (tdiv_floor hy0 hneg)
    have E := Lib.hid (fun (W : World) => NewInt_any 1 ⟨by decide, by decide⟩ W)
    have F := Lib.hid (fun (W : World) (g : Nat) (h1 : IntBox W bz) (h2 : BigAt W bz (Int.tdiv x y)) (h3 : BigAt W g 1) => BigSub_any bz bz g (Int.tdiv x y) 1 W h1 h2 h3 (by omega) (small64 (by decide)))
    have G := Lib.hid (fun (W : World) (h1 : IntBox W bm) (h2 : BigAt W bm (Int.tmod x y)) (h3 : BigAt W w.heap.size y) => BigAdd_any bm bm w.heap.size (Int.tmod x y) y W h1 h2 h3 (by omega) sy)
    have hdn : decide (Int.tmod x y < 0) = true := decide_eq_true hneg
    have hyn : decide (y < 0) = false := decide_eq_false (by omega)
    clear hq hr hneg
    generalize Int.tdiv x y = q at *
    generalize Int.tmod x y = r at *
    go_enter Try.func66, Try.ntmps66
    go_wp2_with fail
    refine C.out.mono ?_
    rintro e w1 ⟨rfl, hd1, hg1⟩
    have hB1 := grownBy_new hg1
    go_wp2_with fail
    refine (D.out w1 (hz.below hB1 hzlt) (hx.below hB1) (hy.below hB1) (hm.below hB1 hmlt)).mono ?_
    rintro e w2 ⟨rfl, hq2, hr2, hw2⟩
    have hd2 : BigAt w2 w.heap.size y := hd1.wrote (hz.below hB1 hzlt) (hm.below hB1 hmlt) hw2 (by omega) (by omega)
    have hW2 := (Wrote2.of0 hB1 bz bm).trans hw2
    have hr2' := hr2
    obtain ⟨A, n, c, l, ha, _⟩ := hr2'
    have c0 := ha.box.cell 0 rfl
    have hd2' := hd2
    obtain ⟨A', n', c', l', hb, _⟩ := hd2'
    have d0 := hb.box.cell 0 rfl
    rw [hdn] at c0
    rw [hyn] at d0
    go_wp2_with fail
    refine (E.out w2).mono ?_
    rintro e w3 ⟨rfl, h1, hb3⟩
    have hq3 := hq2.below hb3
    go_wp2_with fail
    refine (F.out w3 _ hq3.int hq3 h1).mono ?_
    rintro e w4 ⟨rfl, hq4, hg4⟩
    have hr4 := (hr2.below hb3).grown hq3.int hg4 hne
    have hd4 := (hd2.below hb3).grown hq3.int hg4 (by omega)
    go_wp2_with fail
    refine (G.out w4 hr4.int hr4 hd4).mono ?_
    rintro e w5 ⟨rfl, hr5, hg5⟩
    have hq5 := hq4.grown hr4.int hg5 (Ne.symm hne)
    rw [Hf.out.1] at hq5
    rw [Hf.out.2] at hr5
    clear c0 d0
    go_wp2
    go_ret2
    exact ⟨rfl, hq5, hr5, ((hW2.trans (Wrote2.of0 hb3 _ _)).trans (Wrote2.of1 hg4 _)).trans (Wrote2.of2 hg5 _)⟩
  · have Hf := Lib.hid (tdiv_same hy0 hneg)
    have hdn : decide (Int.tmod x y < 0) = false := decide_eq_false hneg
    clear hq hr hneg
    generalize Int.tdiv x y = q at *
    generalize Int.tmod x y = r at *
    go_enter Try.func66, Try.ntmps66
    go_wp2_with fail
    refine C.out.mono ?_
    rintro e w1 ⟨rfl, hd1, hg1⟩
    have hB1 := grownBy_new hg1
    go_wp2_with fail
    refine (D.out w1 (hz.below hB1 hzlt) (hx.below hB1) (hy.below hB1) (hm.below hB1 hmlt)).mono ?_
    rintro e w2 ⟨rfl, hq2, hr2, hw2⟩
    have hW2 := (Wrote2.of0 hB1 bz bm).trans hw2
    have hr2' := hr2
    obtain ⟨A, n, c, l, ha, _⟩ := hr2'
    have c0 := ha.box.cell 0 rfl
    rw [hdn] at c0
    rw [Hf.out.1] at hq2
    rw [Hf.out.2] at hr2
    go_wp2
    go_ret2
    exact ⟨rfl, hq2, hr2, hW2⟩

set_option maxHeartbeats 400000 in
theorem Div_all (bz bx bY : Nat) (x y : Int) (w : World) (hz : IntBox w bz) (hx : BigAt w bx x) (hy : BigAt w bY y) (sx : ((x.natAbs : Nat) : Int) < pow32 1000000) (sy : ((y.natAbs : Nat) : Int) < pow32 1000000) (hy0 : 0 < y) :
    Calls Try.prog 41 #[ptr bz, ptr bx, ptr bY] w fun e w' => e = .returned (ptr bz) ∧ BigAt w' bz (x / y) ∧ w.grownBy w' (some bz) := by
  have hzlt := hz.lt
  have C := Lib.hid (DivMod_all bz bx bY w.heap.size x y _ (hz.alloc _) (hx.alloc _) (hy.alloc _) (IntBox.new w) (by omega) sx sy hy0)
  go_enter Try.func41, Try.ntmps41
  go_wp2_with fail
  refine C.out.mono ?_
  rintro e w1 ⟨rfl, hq, hm, hw⟩
  go_wp2
  go_ret
  exact ⟨rfl, hq, Wrote2.one ((Below.refl _ _).alloc (Nat.le_refl _) _) hw (Nat.le_refl _)⟩
end Go.Proofs.Ytajfohnblmnjjaa
