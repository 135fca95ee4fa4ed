/-
  Contracts of the reference's whole numbers, where they fit 64 bits: QuoRem, DivMod, Div.
-/
import Derived.Test.YtajfohnblmnjjaaBigWalks4
namespace Go.Proofs.Ytajfohnblmnjjaa
open Go.RowKit
set_option linter.unusedVariables false

theorem small64 {z : Int} (h : z.natAbs < 18446744073709551616) : ((z.natAbs : Nat) : Int) < pow32 1000000 := by
  have h1 : pow32 2 = 18446744073709551616 := by decide
  have h2 := pow32_mono (show 2 ≤ 1000000 by decide)
  omega

/-- A sign is set, and the number trimmed. -/
theorem RawAt.sign {w : World} {b : Nat} {s : Bool} {A : Option Addr} {n c : Nat} {l : List Int} (h : RawAt w b s A n c l) (t : Bool) : RawAt (w.setCell ⟨b, 0, none⟩ (.bool t)) b t A n c l :=
  ⟨by simpa using h.box.set 0 (.bool t), rd_grown h.rd h.int (grownBy_setCell _ _ _), h.cap, h.dig⟩

theorem quo_sign {x y : Int} (hy : y ≠ 0) : sgn (!(decide (x < 0) == decide (y < 0))) ((x.natAbs : Int) / y.natAbs) = Int.tdiv x y := by
  by_cases hx : x < 0 <;> by_cases hy : y < 0
  · rw [decide_eq_true hx, decide_eq_true hy, Int.ofNat_natAbs_of_nonpos (by omega), Int.ofNat_natAbs_of_nonpos (by omega)]
    rw [← Int.tdiv_eq_ediv_of_nonneg (by omega), Int.neg_tdiv, Int.tdiv_neg]
    simp [sgn]
  · rw [decide_eq_true hx, decide_eq_false hy, Int.ofNat_natAbs_of_nonpos (by omega), Int.natAbs_of_nonneg (by omega)]
    rw [← Int.tdiv_eq_ediv_of_nonneg (by omega), Int.neg_tdiv]
    simp [sgn]
  · rw [decide_eq_false hx, decide_eq_true hy, Int.natAbs_of_nonneg (by omega), Int.ofNat_natAbs_of_nonpos (by omega)]
    rw [← Int.tdiv_eq_ediv_of_nonneg (by omega), Int.tdiv_neg]
    simp [sgn]
  · rw [decide_eq_false hx, decide_eq_false hy, Int.natAbs_of_nonneg (by omega), Int.natAbs_of_nonneg (by omega)]
    rw [← Int.tdiv_eq_ediv_of_nonneg (by omega)]
    simp [sgn]
theorem rem_sign {x y : Int} (hy : y ≠ 0) : sgn (decide (x < 0)) ((x.natAbs : Int) % y.natAbs) = Int.tmod x y := by
  by_cases hx : x < 0
  · rw [decide_eq_true hx, Int.ofNat_natAbs_of_nonpos (by omega), ← Int.tmod_eq_emod_of_nonneg (by omega), Int.neg_tmod]
    by_cases hy : y < 0
    · rw [Int.ofNat_natAbs_of_nonpos (by omega), Int.tmod_neg]; simp [sgn]
    · rw [Int.natAbs_of_nonneg (by omega)]; simp [sgn]
  · rw [decide_eq_false hx, Int.natAbs_of_nonneg (a := x) (by omega), ← Int.tmod_eq_emod_of_nonneg (by omega)]
    by_cases hy : y < 0
    · rw [Int.ofNat_natAbs_of_nonpos (by omega), Int.tmod_neg]; simp [sgn]
    · rw [Int.natAbs_of_nonneg (by omega)]; simp [sgn]

/-- Of the old blocks at most a and b have been written. -/
structure Wrote2 (w w' : World) (a b : Nat) : Prop where
  os : w'.os = w.os
  tape : w'.tape = w.tape
  output : w'.output = w.output
  size : w.heap.size ≤ w'.heap.size
  block : ∀ k, k < w.heap.size → k ≠ a → k ≠ b → w'.heap[k]? = w.heap[k]?
section
variable {w w1 w2 : World} {a b : Nat}
theorem Wrote2.of1 (h : w.grownBy w1 (some a)) (b : Nat) : Wrote2 w w1 a b := ⟨h.os, h.tape, h.output, h.size, fun k hk h1 _ => h.block k hk (by simpa using h1)⟩
theorem Wrote2.of2 (h : w.grownBy w1 (some b)) (a : Nat) : Wrote2 w w1 a b := ⟨h.os, h.tape, h.output, h.size, fun k hk _ h1 => h.block k hk (by simpa using h1)⟩
theorem Wrote2.of0 (h : Below w.heap.size w w1) (a b : Nat) : Wrote2 w w1 a b := ⟨h.os, h.tape, h.output, h.size, fun k hk _ _ => h.block k hk⟩
theorem Wrote2.trans (h : Wrote2 w w1 a b) (k : Wrote2 w1 w2 a b) : Wrote2 w w2 a b :=
  ⟨k.os.trans h.os, k.tape.trans h.tape, k.output.trans h.output, Nat.le_trans h.size k.size, fun i hi h1 h2 => (k.block i (Nat.lt_of_lt_of_le hi h.size) h1 h2).trans (h.block i hi h1 h2)⟩
/-- The second one is new. -/
theorem Wrote2.one {w0 : World} (h0 : Below w0.heap.size w0 w) (h : Wrote2 w w1 a b) (hb : w0.heap.size ≤ b) : w0.grownBy w1 (some a) :=
  ⟨h.os.trans h0.os, h.tape.trans h0.tape, h.output.trans h0.output, Nat.le_trans h0.size h.size, fun k hk hne => (h.block k (Nat.lt_of_lt_of_le hk h0.size) (by simpa using hne) (by omega)).trans (h0.block k hk)⟩
theorem IntBox.wrote {c : Nat} (h : IntBox w c) (hw : Wrote2 w w1 a b) (h1 : c ≠ a) (h2 : c ≠ b) : IntBox w1 c := by
  have hlt := h.lt
  obtain ⟨s, A, n, d, h⟩ := h
  exact ⟨s, A, n, d, (hw.block c hlt h1 h2).trans h⟩
theorem rd_wrote {A : Option Addr} {n : Nat} {l : List Int} (h : Rd w 1 A n (l.map (Value.int .u32))) (ha : IntBox w a) (hb : IntBox w b) (hw : Wrote2 w w1 a b) : Rd w1 1 A n (l.map (Value.int .u32)) := by
  have apart : ∀ {g : Nat}, IntBox w g → ∀ (ad : Addr) (x : Int), w.cell? ad = some (.int .u32 x) → ad.block ≠ g := by
    intro g hg ad x hc heq
    obtain ⟨s0, A0, n0, c0, hb⟩ := hg
    unfold World.cell? at hc
    rw [heq] at hc
    unfold Box at hb
    rw [hb] at hc
    simp only at hc
    split at hc
    · cases hc
    · rename_i hs
      generalize ad.off = k at hc
      match k with
      | 0 => simp at hc
      | 1 => simp at hc
      | k + 2 => simp at hc
  refine ⟨h.1, fun hn => ?_⟩
  obtain ⟨ad, e, hc⟩ := h.2 hn
  refine ⟨ad, e, fun j u hu => ?_⟩
  have h1 := hc j u hu
  rw [List.getElem?_map] at hu
  cases hx : l[j]? with
  | none => rw [hx] at hu; cases hu
  | some x =>
    rw [hx] at hu
    simp at hu
    subst hu
    rw [World.cell?_of_block (w := w) (hw.block _ (World.block_lt_of_cell? w _ h1) (apart ha _ _ h1) (apart hb _ _ h1))]
    exact h1
theorem BigAt.wrote {c : Nat} {z : Int} (h : BigAt w c z) (ha : IntBox w a) (hb : IntBox w b) (hw : Wrote2 w w1 a b) (h1 : c ≠ a) (h2 : c ≠ b) : BigAt w1 c z := by
  obtain ⟨A, n, d, l, hr, r⟩ := h
  exact ⟨A, n, d, l, ⟨(hw.block c hr.box.lt h1 h2).trans hr.box, rd_wrote hr.rd ha hb hw, hr.cap, hr.dig⟩, r⟩
end

set_option maxHeartbeats 1600000 in
theorem QuoRem_any (bz bx bY br : Nat) (x y : Int) (w : World) (hz : IntBox w bz) (hx : BigAt w bx x) (hy : BigAt w bY y) (hr : IntBox w br) (hne : br ≠ bz) (sx : x.natAbs < 18446744073709551616) (sy : y.natAbs < 18446744073709551616) (hy0 : y ≠ 0) :
    Calls Try.prog 72 #[ptr bz, ptr bx, ptr bY, ptr br] w fun e w' => e = .returned (.tuple #[ptr bz, ptr br]) ∧ BigAt w' bz (Int.tdiv x y) ∧ BigAt w' br (Int.tmod x y) ∧ Wrote2 w w' bz br := by
  have C := Lib.hid (CmpAbs_any bx bY x y w hx hy (small64 sx) (small64 sy))
  by_cases hlt : (x.natAbs : Int) < y.natAbs
  · rw [cmpI_lt hlt] at C
    have e1 : Int.tdiv x y = 0 := by rw [← quo_sign hy0, Int.ediv_eq_zero_of_lt (by omega) hlt]; cases (!(decide (x < 0) == decide (y < 0))) <;> rfl
    have e2 : Int.tmod x y = x := by
      rw [← rem_sign hy0, Int.emod_eq_of_lt (by omega) hlt]
      by_cases h : x < 0
      · rw [decide_eq_true h]; simp [sgn]; omega
      · rw [decide_eq_false h]; simp [sgn]; omega
    rw [e1, e2]
    have D := Lib.hid (fun (W : World) (h1 : IntBox W br) (h2 : BigAt W bx x) => BigSet_any br bx x W h1 h2 (small64 sx))
    have E := Lib.hid (fun (W : World) (h1 : IntBox W bz) => SetInt64_any bz 0 ⟨by decide, by decide⟩ W h1)
    clear e1 e2 hlt
    go_enter Try.func72, Try.ntmps72
    go_wp2_with fail
    refine C.out.mono ?_
    rintro e w1 ⟨rfl, hq⟩
    have hb1 := below_draws hq
    clear hq
    go_wp2_with fail
    refine (D.out w1 (hr.below hb1 hr.lt) (hx.below hb1)).mono ?_
    rintro e w2 ⟨rfl, hR, hg2⟩
    have hz2 := (hz.below hb1 hz.lt).grown hg2 (Ne.symm hne)
    go_wp2_with fail
    refine (E.out w2 hz2).mono ?_
    rintro e w3 ⟨rfl, hZ, hg3⟩
    go_wp2
    go_ret2
    exact ⟨rfl, hZ, hR.grown hz2 hg3 hne, ((Wrote2.of0 hb1 _ _).trans (Wrote2.of2 hg2 _)).trans (Wrote2.of1 hg3 _)⟩
  · have hcm : decide (cmpI x.natAbs y.natAbs < 0) = false := by
      apply decide_eq_false
      rcases Int.lt_or_eq_of_le (Int.not_lt.1 hlt) with k | k
      · rw [cmpI_gt k]; decide
      · rw [cmpI_eq k.symm]; decide
    generalize cmpI x.natAbs y.natAbs = cm at *
    have U1 := Lib.hid (fun (W : World) (h1 : BigAt W bx x) => Uint64_any bx x W h1 sx)
    have U2 := Lib.hid (fun (W : World) (h1 : BigAt W bY y) => Uint64_any bY y W h1 sy)
    have hX := hx
    have hY := hy
    obtain ⟨A, n, c, l, hr1, ht, hm⟩ := hx
    obtain ⟨B, m, d, r, hs1, hu, hv⟩ := hy
    have hn : n ≤ 2 := by
      rw [← hr1.rd.lenMap]
      exact len_le hr1.dig ht (by rw [hm]; simp only [pow32]; omega)
    have Hq := Lib.hid (quo_sign (x := x) hy0)
    have Hm := Lib.hid (rem_sign (x := x) hy0)
    generalize hsx : decide (x < 0) = s at *
    generalize hsy : decide (y < 0) = s' at *
    clear hsx hsy
    have y0 : 0 < (y.natAbs : Int) := by omega
    have x0 : 0 ≤ (x.natAbs : Int) := by omega
    have q0 : 0 ≤ (x.natAbs : Int) / y.natAbs := Int.ediv_nonneg x0 (by omega)
    have q1 : (x.natAbs : Int) / y.natAbs ≤ x.natAbs := Int.ediv_le_self _ x0
    have r0 := Int.emod_nonneg (x.natAbs : Int) (show (y.natAbs : Int) ≠ 0 by omega)
    have r1 := Int.emod_lt_of_pos (x.natAbs : Int) y0
    have sx' : (x.natAbs : Int) < 18446744073709551616 := by omega
    have sy' : (y.natAbs : Int) < 18446744073709551616 := by omega
    have Z := Lib.hid (fun (W : World) (h1 : IntBox W bz) => SetUint64_any bz ((x.natAbs : Int) / y.natAbs) q0 (by omega) W h1)
    have R := Lib.hid (fun (W : World) (h1 : IntBox W br) => SetUint64_any br ((x.natAbs : Int) % y.natAbs) r0 (by omega) W h1)
    have hy0' : ((y.natAbs : Int) == 0) = false := by simp; omega
    generalize (x.natAbs : Int) = X at *
    generalize (y.natAbs : Int) = Y at *
    clear hlt sx sy hy0
    have c0 := hr1.box.cell 0 rfl
    have c1 := hr1.box.cell 1 rfl
    have d0 := hs1.box.cell 0 rfl
    have hxlt := hr1.box.lt
    have hylt := hs1.box.lt
    go_enter Try.func72, Try.ntmps72
    go_wp2_with fail
    refine C.out.mono ?_
    rintro e w1 ⟨rfl, hq⟩
    have hb1 := below_draws hq
    have c0' := (hb1.cell (p := ⟨bx, 0, none⟩) hxlt).trans c0
    have c1' := (hb1.cell (p := ⟨bx, 1, none⟩) hxlt).trans c1
    have d0' := (hb1.cell (p := ⟨bY, 0, none⟩) hylt).trans d0
    clear hq c0 c1 d0
    go_wp2
    go_quiet (fail)
    have hb2 : Below w.heap.size w (w1.drewN nq) := hb1.trans ((below_draws ⟨_, rfl⟩ : Below w1.heap.size w1 (w1.drewN nq)).mono hb1.size)
    have c1'' : (w1.drewN nq).cell? ⟨bx, 1, none⟩ = some (.slice A n c) := c1'
    generalize w1.drewN nq = w2 at *
    clear c0' c1' d0' hb1
    go_wp2_with fail
    refine (U1.out w2 (hX.below hb2)).mono ?_
    rintro e w2' ⟨rfl, rfl⟩
    go_wp2_with fail
    refine (U2.out w2 (hY.below hb2)).mono ?_
    rintro e w2' ⟨rfl, rfl⟩
    go_wp2_with fail
    refine (Z.out w2 (hz.below hb2 hz.lt)).mono ?_
    rintro e w3 ⟨rfl, hZ3, hg3⟩
    have hR3 := (hr.below hb2 hr.lt).grown hg3 hne
    go_wp2_with fail
    refine (R.out w3 hR3).mono ?_
    rintro e w4 ⟨rfl, hR4, hg4⟩
    have hZ4 := hZ3.grown hR3 hg4 (Ne.symm hne)
    have HW := Lib.hid (((Wrote2.of0 hb2 bz br).trans (Wrote2.of1 hg3 _)).trans (Wrote2.of2 hg4 _))
    clear hg3 hg4 hZ3 hR3
    obtain ⟨A2, n2, c2, l2, hr2, ht2, hm2⟩ := hZ4
    obtain ⟨A3, n3, c3, l3, hr3, ht3, hm3⟩ := hR4
    have e0 := hr2.box.cell 0 rfl
    have f0 := hr2.box.free 0
    have g0 := hr3.box.cell 0 rfl
    have k0 := hr3.box.free 0
    have hn2 : n2 ≤ 2 := by rw [← hr2.rd.lenMap]; exact len_le hr2.dig ht2 (by rw [hm2]; simp only [pow32]; omega)
    have hn3 : n3 ≤ 2 := by rw [← hr3.rd.lenMap]; exact len_le hr3.dig ht3 (by rw [hm3]; simp only [pow32]; omega)
    have hm2' : mag l2 = X / Y := by omega
    have hm3' : mag l3 = X % Y := by omega
    have hz5 := (hr2.sign (!(s == s'))).grown (hr3.grown hr2.int (grownBy_setCell w4 ⟨bz, 0, none⟩ (.bool (!(s == s')))) hne).int (grownBy_setCell _ ⟨br, 0, none⟩ (.bool s)) (Ne.symm hne)
    have hr5 := (hr3.grown hr2.int (grownBy_setCell w4 ⟨bz, 0, none⟩ (.bool (!(s == s')))) hne).sign s
    have HW5 := Lib.hid ((HW.out.trans (Wrote2.of1 (grownBy_setCell w4 ⟨bz, 0, none⟩ (.bool (!(s == s')))) _)).trans (Wrote2.of2 (grownBy_setCell _ ⟨br, 0, none⟩ (.bool s)) _))
    have g0' := (hr3.grown hr2.int (grownBy_setCell w4 ⟨bz, 0, none⟩ (.bool (!(s == s')))) hne).box.cell 0 rfl
    have k0' := (hr3.grown hr2.int (grownBy_setCell w4 ⟨bz, 0, none⟩ (.bool (!(s == s')))) hne).box.free 0
    have Hm2 := Lib.hid hm2'; have Hm3 := Lib.hid hm3'; clear hm2 hm3 hm2' hm3' HW g0 k0
    have T1 := Lib.hid (fun (h : True) => trim_any bz (!(s == s')) A2 n2 c2 l2 _ hz5 (by omega))
    have Hr5 := Lib.hid hr5; have Hz5 := Lib.hid hz5.int; clear hr5 hz5
    go_wp2_with fail
    refine (T1.out trivial).mono ?_
    rintro e w6 ⟨rfl, hZ6, hg6⟩
    have hr6 := Hr5.out.grown Hz5.out hg6 hne
    have T2 := Lib.hid (trim_any br s A3 n3 c3 l3 w6 hr6 (by omega))
    go_wp2_with fail
    refine T2.out.mono ?_
    rintro e w7 ⟨rfl, hR7, hg7⟩
    have hZ7 := hZ6.grown hr6.int hg7 (Ne.symm hne)
    rw [Hm2.out, Hq.out] at hZ7
    rw [Hm3.out, Hm.out] at hR7
    clear e0 f0 g0' k0' T1 T2 hZ6
    go_wp2
    go_ret2
    exact ⟨rfl, hZ7, hR7, (HW5.out.trans (Wrote2.of1 hg6 _)).trans (Wrote2.of2 hg7 _)⟩

theorem tdiv_floor {x y : Int} (hy : 0 < y) (h : Int.tmod x y < 0) : Int.tdiv x y - 1 = x / y ∧ Int.tmod x y + y = x % y := by
  have h1 := Int.mul_tdiv_add_tmod x y
  have h2 : -y < Int.tmod x y := by
    have := Int.lt_tmod_of_pos x hy
    omega
  have := (Int.ediv_emod_unique (a := x) (b := y) (q := Int.tdiv x y - 1) (r := Int.tmod x y + y) hy).2 ⟨?_, by omega, by omega⟩
  · exact ⟨this.1.symm, this.2.symm⟩
  · rw [Int.mul_sub, Int.mul_one]; omega
theorem tdiv_same {x y : Int} (hy : 0 < y) (h : ¬ Int.tmod x y < 0) : Int.tdiv x y = x / y ∧ Int.tmod x y = x % y := by
  have h1 := Int.mul_tdiv_add_tmod x y
  have h2 := Int.tmod_lt_of_pos x hy
  have := (Int.ediv_emod_unique (a := x) (b := y) (q := Int.tdiv x y) (r := Int.tmod x y) hy).2 ⟨by omega, by omega, by omega⟩
  exact ⟨this.1.symm, this.2.symm⟩
theorem tdiv_abs (x y : Int) : (Int.tdiv x y).natAbs ≤ x.natAbs := by
  rw [Int.natAbs_tdiv]
  exact Nat.div_le_self _ _

set_option maxHeartbeats 1600000 in
theorem DivMod_any (bz bx bY bm : Nat) (x y : Int) (w : World) (hz : IntBox w bz) (hx : BigAt w bx x) (hy : BigAt w bY y) (hm : IntBox w bm) (hne : bm ≠ bz) (sx : x.natAbs < 9223372036854775808) (sy : y.natAbs < 9223372036854775808) (hy0 : 0 < y) :
    Calls Try.prog 66 #[ptr bz, ptr bx, ptr bY, ptr bm] w fun e w' => e = .returned (.tuple #[ptr bz, ptr bm]) ∧ BigAt w' bz (x / y) ∧ BigAt w' bm (x % y) ∧ Wrote2 w w' bz bm := by
  have C := Lib.hid (BigSet_any w.heap.size bY y _ (IntBox.new w) (hy.alloc _) (small64 (by omega)))
  have D := Lib.hid (fun (W : World) (h1 : IntBox W bz) (h2 : BigAt W bx x) (h3 : BigAt W bY y) (h4 : IntBox W bm) => QuoRem_any bz bx bY bm x y W h1 h2 h3 h4 hne (by omega) (by omega) (by omega))
  have hzlt := hz.lt
  have hmlt := hm.lt
  have hq := tdiv_abs x y
  have hr : (Int.tmod x y).natAbs < y.natAbs := by
    have h1 := Int.tmod_lt_of_pos x hy0
    have h2 := Int.lt_tmod_of_pos x hy0
    omega
  by_cases hneg : Int.tmod x y < 0
  · have Hf := Lib.hid (tdiv_floor hy0 hneg)
    have E := Lib.hid (fun (W : World) => NewInt_any 1 ⟨by decide, by decide⟩ W)
    have F := Lib.hid (fun (W : World) (g : Nat) (h1 : IntBox W bz) (h2 : BigAt W bz (Int.tdiv x y)) (h3 : BigAt W g 1) => BigSub_any bz bz g (Int.tdiv x y) 1 W h1 h2 h3 (small64 (by omega)) (small64 (by decide)))
    have G := Lib.hid (fun (W : World) (h1 : IntBox W bm) (h2 : BigAt W bm (Int.tmod x y)) (h3 : BigAt W w.heap.size y) => BigAdd_any bm bm w.heap.size (Int.tmod x y) y W h1 h2 h3 (small64 (by omega)) (small64 (by omega)))
    have hdn : decide (Int.tmod x y < 0) = true := decide_eq_true hneg
    have hyn : decide (y < 0) = false := decide_eq_false (by omega)
    clear hq hr hneg
    generalize Int.tdiv x y = q at *
    generalize Int.tmod x y = r at *
    go_enter Try.func66, Try.ntmps66
    go_wp2_with fail
    refine C.out.mono ?_
    rintro e w1 ⟨rfl, hd1, hg1⟩
    have hB1 := grownBy_new hg1
    go_wp2_with fail
    refine (D.out w1 (hz.below hB1 hzlt) (hx.below hB1) (hy.below hB1) (hm.below hB1 hmlt)).mono ?_
    rintro e w2 ⟨rfl, hq2, hr2, hw2⟩
    have hd2 : BigAt w2 w.heap.size y := hd1.wrote (hz.below hB1 hzlt) (hm.below hB1 hmlt) hw2 (by omega) (by omega)
    have hW2 := (Wrote2.of0 hB1 bz bm).trans hw2
    have hr2' := hr2
    obtain ⟨A, n, c, l, ha, _⟩ := hr2'
    have c0 := ha.box.cell 0 rfl
    have hd2' := hd2
    obtain ⟨A', n', c', l', hb, _⟩ := hd2'
    have d0 := hb.box.cell 0 rfl
    rw [hdn] at c0
    rw [hyn] at d0
    go_wp2_with fail
    refine (E.out w2).mono ?_
    rintro e w3 ⟨rfl, h1, hb3⟩
    have hq3 := hq2.below hb3
    go_wp2_with fail
    refine (F.out w3 _ hq3.int hq3 h1).mono ?_
    rintro e w4 ⟨rfl, hq4, hg4⟩
    have hr4 := (hr2.below hb3).grown hq3.int hg4 hne
    have hd4 := (hd2.below hb3).grown hq3.int hg4 (by omega)
    go_wp2_with fail
    refine (G.out w4 hr4.int hr4 hd4).mono ?_
    rintro e w5 ⟨rfl, hr5, hg5⟩
    have hq5 := hq4.grown hr4.int hg5 (Ne.symm hne)
    rw [Hf.out.1] at hq5
    rw [Hf.out.2] at hr5
    clear c0 d0
    go_wp2
    go_ret2
    exact ⟨rfl, hq5, hr5, ((hW2.trans (Wrote2.of0 hb3 _ _)).trans (Wrote2.of1 hg4 _)).trans (Wrote2.of2 hg5 _)⟩
  · have Hf := Lib.hid (tdiv_same hy0 hneg)
    have hdn : decide (Int.tmod x y < 0) = false := decide_eq_false hneg
    clear hq hr hneg
    generalize Int.tdiv x y = q at *
    generalize Int.tmod x y = r at *
    go_enter Try.func66, Try.ntmps66
    go_wp2_with fail
    refine C.out.mono ?_
    rintro e w1 ⟨rfl, hd1, hg1⟩
    have hB1 := grownBy_new hg1
    go_wp2_with fail
    refine (D.out w1 (hz.below hB1 hzlt) (hx.below hB1) (hy.below hB1) (hm.below hB1 hmlt)).mono ?_
    rintro e w2 ⟨rfl, hq2, hr2, hw2⟩
    have hW2 := (Wrote2.of0 hB1 bz bm).trans hw2
    have hr2' := hr2
    obtain ⟨A, n, c, l, ha, _⟩ := hr2'
    have c0 := ha.box.cell 0 rfl
    rw [hdn] at c0
    rw [Hf.out.1] at hq2
    rw [Hf.out.2] at hr2
    go_wp2
    go_ret2
    exact ⟨rfl, hq2, hr2, hW2⟩

set_option maxHeartbeats 400000 in
theorem Div_any (bz bx bY : Nat) (x y : Int) (w : World) (hz : IntBox w bz) (hx : BigAt w bx x) (hy : BigAt w bY y) (sx : x.natAbs < 9223372036854775808) (sy : y.natAbs < 9223372036854775808) (hy0 : 0 < y) :
    Calls Try.prog 41 #[ptr bz, ptr bx, ptr bY] w fun e w' => e = .returned (ptr bz) ∧ BigAt w' bz (x / y) ∧ w.grownBy w' (some bz) := by
  have hzlt := hz.lt
  have C := Lib.hid (DivMod_any bz bx bY w.heap.size x y _ (hz.alloc _) (hx.alloc _) (hy.alloc _) (IntBox.new w) (by omega) sx sy hy0)
  go_enter Try.func41, Try.ntmps41
  go_wp2_with fail
  refine C.out.mono ?_
  rintro e w1 ⟨rfl, hq, hm, hw⟩
  go_wp2
  go_ret
  exact ⟨rfl, hq, Wrote2.one ((Below.refl _ _).alloc (Nat.le_refl _) _) hw (Nat.le_refl _)⟩
end Go.Proofs.Ytajfohnblmnjjaa
