/-
  Contracts of the reference's whole numbers beyond the field: Abs, Sign, Mod, GCD, BitLen, Cmp, of numbers that are not below 0. No statement of the seat is here.
-/
import Derived.Test.YtajfohnblmnjjaaBigWalks6
import Derived.BigRegion
import Derived.BigQuiet
import Derived.Deep.QuietTactic
import Derived.Deep.CutBlock
import Derived.Deep.DeepCutAuto
namespace Go.Proofs.Ytajfohnblmnjjaa
open Go.RowKit
set_option linter.unusedVariables false
set_option maxRecDepth 20000

theorem pos_dec {z : Int} (h : 0 ≤ z) : decide (z < 0) = false := decide_eq_false (by omega)
theorem Abs_any (b x : Nat) (z : Int) (hz0 : 0 ≤ z) (w : World) (hb : IntBox w b) (h : BigAt w x z) (hz : ((z.natAbs : Nat) : Int) < pow32 1000000) :
    Calls Try.prog 60 #[ptr b, ptr x] w fun e w' => e = .returned (ptr b) ∧ BigAt w' b z ∧ w.grownBy w' (some b) := by
  have C := Lib.hid (BigSet_any b x z w hb h hz)
  clear hb h
  go_enter Try.func60, Try.ntmps60
  go_wp2_with fail
  refine C.out.mono ?_
  rintro e w1 ⟨rfl, hq, hg⟩
  obtain ⟨A, n, c, l, hr, ht, hm⟩ := hq
  rw [pos_dec hz0] at hr
  have c0 := hr.box.cell 0 rfl
  have f0 := hr.box.free 0
  have hr2 := hr.sign false
  have hg2 := grownBy_then hg (grownBy_setCell w1 ⟨b, 0, none⟩ (.bool false))
  clear hr C
  go_wp2
  go_ret
  exact ⟨rfl, ⟨A, n, c, l, by rw [pos_dec hz0]; exact hr2, ht, hm⟩, hg2⟩
theorem Sign_any (b : Nat) (z : Int) (hz0 : 0 ≤ z) (w : World) (h : BigAt w b z) :
    Calls Try.prog 61 #[ptr b] w fun e w' => e = .returned (.int .i64 (if z = 0 then 0 else 1)) ∧ w' = w := by
  obtain ⟨A, n, c, l, hr, ht, hm⟩ := h
  have hl := hr.rd.lenMap
  have c0 := hr.box.cell 0 rfl
  have c1 := hr.box.cell 1 rfl
  rw [pos_dec hz0] at c0
  by_cases h0 : z = 0
  · rw [if_pos h0]
    have hl0 : n = 0 := by
      have : l = [] := trim_zero hr.dig ht (by omega)
      rw [← hl, this]; rfl
    subst hl0
    clear hr
    go_enter Try.func61, Try.ntmps61
    go_wp2
    go_ret
    exact ⟨rfl, rfl⟩
  · rw [if_neg h0]
    have hn : ¬ n = 0 := by
      intro e
      subst e
      have : l = [] := List.eq_nil_of_length_eq_zero hl
      rw [this] at hm
      have : mag [] = 0 := rfl
      omega
    have hn2 : ((n : Int) == 0) = false := by simp; omega
    clear hr
    go_enter Try.func61, Try.ntmps61
    go_wp2
    go_ret
    exact ⟨rfl, rfl⟩
theorem Wrote2.other {w0 w w1 : World} {a b : Nat} (h0 : Below w0.heap.size w0 w) (h : Wrote2 w w1 a b) (ha : w0.heap.size ≤ a) : w0.grownBy w1 (some b) :=
  ⟨h.os.trans h0.os, h.tape.trans h0.tape, h.output.trans h0.output, Nat.le_trans h0.size h.size, fun k hk hne => (h.block k (Nat.lt_of_lt_of_le hk h0.size) (by omega) (by intro e; subst e; exact hne rfl)).trans (h0.block k hk)⟩
theorem Mod_any (bz bx bY : Nat) (x y : Int) (w : World) (hz : IntBox w bz) (hx : BigAt w bx x) (hy : BigAt w bY y) (sx : ((x.natAbs : Nat) : Int) < pow32 1000000) (sy : ((y.natAbs : Nat) : Int) < pow32 1000000) (hy0 : 0 < y) :
    Calls Try.prog 64 #[ptr bz, ptr bx, ptr bY] w fun e w' => e = .returned (ptr bz) ∧ BigAt w' bz (x % y) ∧ w.grownBy w' (some bz) := by
  have hzlt := hz.lt
  have C := Lib.hid (DivMod_all w.heap.size bx bY bz x y _ (IntBox.new w) (hx.alloc _) (hy.alloc _) (hz.alloc _) (by omega) sx sy hy0)
  clear hx hy hz
  go_enter Try.func64, Try.ntmps64
  go_wp2_with fail
  refine C.out.mono ?_
  rintro e w1 ⟨rfl, hq, hm, hw⟩
  go_wp2
  go_ret
  exact ⟨rfl, hm, Wrote2.other ((Below.refl _ _).alloc (Nat.le_refl _) _) hw (Nat.le_refl _)⟩
theorem Cmp_any (bx bY : Nat) (x y : Int) (hx0 : 0 ≤ x) (hy0 : 0 ≤ y) (w : World) (hx : BigAt w bx x) (hy : BigAt w bY y) (sx : ((x.natAbs : Nat) : Int) < pow32 1000000) (sy : ((y.natAbs : Nat) : Int) < pow32 1000000) :
    Calls Try.prog 44 #[ptr bx, ptr bY] w fun e w' => e = .returned (.int .i64 (cmpI x y)) ∧ ∃ q, w' = w.drewN q := by
  have C := fun q => CmpAbs_any bx bY x y (w.drewN q) (hx.drewN q) (hy.drewN q) sx sy
  rw [show ((x.natAbs : Nat) : Int) = x by omega, show ((y.natAbs : Nat) : Int) = y by omega] at C
  obtain ⟨A, n, c, l, hr, ht, hm⟩ := hx
  obtain ⟨B, m, d, r, hs, hu, hv⟩ := hy
  have c0 := hr.box.cell 0 rfl
  have e0 := hs.box.cell 0 rfl
  rw [pos_dec hx0] at c0
  rw [pos_dec hy0] at e0
  have HC := Lib.hid C
  clear C hr hs ht hu
  generalize cmpI x y = v at *
  go_enter Try.func44, Try.ntmps44
  go_upto_region 1 with fail
  go_quiet (fail)
  replace c0 : (w.drewN nq).cell? ⟨bx, 0, none⟩ = _ := c0
  replace e0 : (w.drewN nq).cell? ⟨bY, 0, none⟩ = _ := e0
  have C := HC.out nq
  have hq : ∃ q, w.drewN nq = w.drewN q := ⟨_, rfl⟩
  clear HC
  generalize w.drewN nq = w1 at *
  go_wp2_with fail
  refine C.mono ?_
  rintro e w2 ⟨rfl, q2, rfl⟩
  go_wp2
  go_ret
  obtain ⟨q, rfl⟩ := hq
  exact ⟨rfl, q + q2, by rw [World.drewN_drewN]⟩
end Go.Proofs.Ytajfohnblmnjjaa

/-
  Contract of the reference's BitLen. No statement of the seat is here.
-/
namespace Go.Proofs.Ytajfohnblmnjjaa
open Go.RowKit
set_option linter.unusedVariables false
set_option maxRecDepth 20000

theorem pow32_two : ∀ q : Nat, pow32 q = 2 ^ (32 * q)
  | 0 => rfl
  | q + 1 => by
    rw [pow32, pow32_two q, show 32 * (q + 1) = 32 + 32 * q by omega, Int.pow_add]
    rfl
/-- Whether a bit is there, where nothing is above it. -/
theorem bit_top {l : List Int} {z : Int} {q r : Nat} {x : Int} (hd : Dig l) (hm : mag l = z) (hx : l[q]? = some x) (hr : r < 32) (hz : z < 2 ^ (32 * q + r + 1)) :
    (x / 2 ^ r = 0 ∧ z < 2 ^ (32 * q + r)) ∨ (x / 2 ^ r = 1 ∧ 2 ^ (32 * q + r) ≤ z) := by
  have hlt : q < l.length := (List.getElem?_eq_some_iff.1 hx).1
  have e : l = l.take q ++ x :: l.drop (q + 1) := by rw [← drop_cons hx, List.take_append_drop]
  have hlen : (l.take q).length = q := by rw [List.length_take]; omega
  have t0 := mag_nonneg (hd.take q)
  have t1 := mag_lt (hd.take q)
  have r0 := mag_nonneg (hd.drop (q + 1))
  have hdx := hd.at hx
  rw [e, mag_append, hlen, mag] at hm
  rw [hlen] at t1
  have hp := pow32_pos q
  have hpr : (0 : Int) < 2 ^ r := Int.pow_pos (by decide)
  rw [show 32 * q + r + 1 = 32 * q + (r + 1) by omega, Int.pow_add, ← pow32_two, Int.pow_succ] at hz
  rw [Int.pow_add, ← pow32_two]
  have hr32 : (2 : Int) ^ r * 2 ≤ 4294967296 := by
    have h1 : 2 ^ (r + 1) ≤ 2 ^ 32 := Nat.pow_le_pow_right (by decide) (by omega)
    rw [Nat.pow_succ] at h1
    have h2 : ((2 : Nat) ^ r : Int) = ((2 ^ r : Nat) : Int) := by push_cast; rfl
    have h3 : ((2 : Int) ^ r) = ((2 ^ r : Nat) : Int) := by push_cast; rfl
    rw [h3]
    have h4 : (2 : Nat) ^ 32 = 4294967296 := rfl
    omega
  generalize (2 : Int) ^ r = p at *
  generalize pow32 q = P at *
  generalize mag (l.take q) = T at *
  generalize mag (l.drop (q + 1)) = U at *
  obtain ⟨hx0, hx1⟩ := hdx
  -- nothing above
  have hlow : x + 4294967296 * U < p * 2 := by
    apply Int.lt_of_not_ge
    intro h
    have := Int.mul_le_mul_of_nonneg_left h (show 0 ≤ P by omega)
    omega
  have hU : U = 0 := by omega
  subst hU
  have hm2 : z = T + P * x := by rw [← hm]; simp
  by_cases hxp : x < p
  · refine .inl ⟨Int.ediv_eq_zero_of_lt hx0 hxp, ?_⟩
    have := Int.mul_le_mul_of_nonneg_left (show x + 1 ≤ p by omega) (show 0 ≤ P by omega)
    rw [Int.mul_add] at this
    omega
  · refine .inr ⟨?_, ?_⟩
    · have h1 : x = (x - p) + 1 * p := by omega
      rw [h1, Int.add_mul_ediv_right _ _ (by omega), Int.ediv_eq_zero_of_lt (by omega) (by omega)]; rfl
    · have := Int.mul_le_mul_of_nonneg_left (show p ≤ x by omega) (show 0 ≤ P by omega)
      omega
set_option maxHeartbeats 800000 in
theorem BitLen_any (b : Nat) (z : Int) (hz0 : 0 ≤ z) (w : World) (h : BigAt w b z) (sz : ((z.natAbs : Nat) : Int) < pow32 1000000) :
    Calls Try.prog 42 #[ptr b] w fun e w' => ∃ n : Nat, e = .returned (.int .i64 (n : Int)) ∧ Hid (z < 2 ^ n ∧ (0 < n → 2 ^ (n - 1) ≤ z)) ∧ w' = w := by
  obtain ⟨A, n, c, l, hr, ht, hm⟩ := h
  have hl := hr.rd.lenMap
  have hn : n ≤ 1000000 := by rw [← hl]; exact len_le hr.dig ht (by rw [hm]; exact sz)
  have hmz : mag l = z := by omega
  have hzl : z < 2 ^ (32 * n) := by rw [← hmz, ← hl, ← pow32_two]; exact mag_lt hr.dig
  have c1 := hr.box.cell 1 rfl
  have Hrd := Lib.hid hr.rd
  have Hd := Lib.hid hr.dig
  have Hm := Lib.hid hmz
  have Hzl := Lib.hid hzl
  have hwn : IntKind.i64.wrap ((n : Int) * 32) = ((32 * n : Nat) : Int) := by rw [show (n : Int) * 32 = ((32 * n : Nat) : Int) by omega]; exact IntWalk.i64_in _ (by omega)
  clear hr hm hzl hmz ht
  go_enter Try.func42, Try.ntmps42
  go_upto_region 2 with fail
  go_loopw [3] (fun i wr => ∃ k : Nat, i = .int .i64 k ∧ k ≤ 32 * n ∧ Hid (z < 2 ^ k) ∧ wr = w) (fun i _ => (intOf i).toNat)
  case atStart => exact ⟨32 * n, by first | rfl | (simp), Nat.le_refl _, Hzl, rfl⟩
  case round =>
    obtain ⟨k, rfl, hk, hzk, rfl⟩ := hrel
    by_cases h0 : k = 0
    · subst h0
      go_wp2
      go_ret
      exact ⟨0, rfl, ⟨hzk.out, fun h => by omega⟩, rfl⟩
    · obtain ⟨j, hj⟩ : ∃ j, k = j + 1 := ⟨k - 1, by omega⟩
      obtain ⟨q, hq⟩ : ∃ q, q = j / 32 := ⟨_, rfl⟩
      obtain ⟨r, hrr⟩ : ∃ r, r = j % 32 := ⟨_, rfl⟩
      have hjq : j = 32 * q + r := by omega
      have hqn : q < n := by omega
      obtain ⟨ad, x, hA, hx, hc⟩ := Hrd.out.atMap (k := q) hqn
      have hb := bit_top Hd.out Hm.out hx (show r < 32 by omega) (by rw [← hjq, ← hj]; exact hzk.out)
      rw [← hjq] at hb
      have hw1 : IntKind.i64.wrap ((k : Int) - 1) = (j : Int) := by rw [show (k : Int) - 1 = (j : Int) by omega]; exact IntWalk.i64_in _ (by omega)
      have hw2 : (j : Int) / 32 = (q : Int) := by omega
      have hw3 : (j : Int) % 32 = (r : Int) := by omega
      have hd0 : decide (0 < k) = true := decide_eq_true (by omega)
      have hk0 : 0 < k := by omega
      subst hA
      have Hj := Lib.hid hj
      clear hx hq hrr hjq hj
      rcases hb with ⟨hb, hlt⟩ | ⟨hb, hge⟩
      · have hbit : bits .and .u32 (x / 2 ^ r) 1 = 0 := by rw [hb]; rfl
        have HL := Lib.hid hlt
        clear hb hlt
        go_wp2
        exact ⟨⟨j, rfl, by have := Hj.out; omega, HL, trivial⟩, by have := Hj.out; simp [intOf] <;> omega⟩
      · have hbit : bits .and .u32 (x / 2 ^ r) 1 = 1 := by rw [hb]; rfl
        have HG := Lib.hid hge
        clear hb hge
        go_wp2
        go_ret
        exact ⟨k, rfl, ⟨hzk.out, fun _ => by rw [Hj.out, Nat.add_sub_cancel]; exact HG.out⟩, rfl⟩
end Go.Proofs.Ytajfohnblmnjjaa

/-
  Contract of the reference's GCD. No statement of the seat is here.
-/
namespace Go.Proofs.Ytajfohnblmnjjaa
open Go.RowKit
set_option linter.unusedVariables false
set_option maxRecDepth 20000

/-- A block holds one number at most. -/
theorem BigAt.unique {w : World} {b : Nat} {x y : Int} (hx : BigAt w b x) (hy : BigAt w b y) : x = y := by
  obtain ⟨A, n, c, l, hr, ht, hm⟩ := hx
  obtain ⟨B, m, d, r, hs, hu, hv⟩ := hy
  have e0 := (hr.box.cell 0 rfl).symm.trans (hs.box.cell 0 rfl)
  have e1 := (hr.box.cell 1 rfl).symm.trans (hs.box.cell 1 rfl)
  injection e0 with e0
  injection e0 with e0
  injection e1 with e1
  injection e1 with eA en ec
  subst eA en
  have hl := hr.rd.lenMap
  have hl2 := hs.rd.lenMap
  have e : l = r := by
    apply List.ext_getElem?
    intro k
    by_cases hk : k < n
    · obtain ⟨ad, a, rfl, ha, hc⟩ := hr.rd.atMap hk
      obtain ⟨ad2, a2, e2, ha2, hc2⟩ := hs.rd.atMap hk
      injection e2 with e2
      subst e2
      have := hc.symm.trans hc2
      injection this with this
      injection this with _ this
      rw [ha, ha2, this]
    · rw [List.getElem?_eq_none (by omega), List.getElem?_eq_none (by omega)]
  rw [← e] at hv
  have he : decide (x < 0) = decide (y < 0) := e0
  have he2 := decide_eq_decide.1 he
  omega
theorem mod_small {u v : Nat} (h : u % v < v) (hv : (v : Int) < pow32 1000000) : ((u % v : Nat) : Int) < pow32 1000000 := by
  generalize pow32 1000000 = P at *
  omega
/-- The number that a pointer leads to. -/
noncomputable def valB (w : World) (v : Value) : Nat := Classical.epsilon fun n : Nat => ∃ b, v = ptr b ∧ BigAt w b n
theorem valB_is {w : World} {b n : Nat} (h : BigAt w b n) : valB w (ptr b) = n := by
  have hs := Classical.epsilon_spec (p := fun m : Nat => ∃ c, ptr b = ptr c ∧ BigAt w c m) ⟨n, b, rfl, h⟩
  obtain ⟨c, hc, hb⟩ := hs
  have e : b = c := by injection hc with hc; injection hc with hc; injection hc
  subst e
  have := hb.unique h
  unfold valB
  omega
theorem two_words {w : World} {b : Nat} {s : Bool} {A : Option Addr} {n c : Nat} {l : List Int} {z : Nat} (hr : RawAt w b s A n c l) (hm : mag l = z) (hn : n < 3) : z < 18446744073709551616 := by
  have h1 := mag_lt hr.dig
  have h2 := hr.rd.lenMap
  have h3 := pow32_mono (show l.length ≤ 2 by omega)
  have h4 : pow32 2 = 18446744073709551616 := rfl
  omega
set_option maxHeartbeats 3200000 in
theorem GCD_any (bz ba bb x y : Nat) (w : World) (hz : IntBox w bz) (ha : BigAt w ba x) (hb : BigAt w bb y) (sx : (x : Int) < pow32 1000000) (sy : (y : Int) < pow32 1000000) :
    Calls Try.prog 40 #[ptr bz, .pointer none, .pointer none, ptr ba, ptr bb] w fun e w' => e = .returned (ptr bz) ∧ BigAt w' bz (Nat.gcd x y : Nat) ∧ w.grownBy w' (some bz) := by
  have hzlt := hz.lt
  have halt := ha.int.lt
  have hblt := hb.int.lt
  have A1 := Lib.hid (Abs_any w.heap.size ba x (by omega) _ (IntBox.new w) (ha.alloc _) sx)
  have hz1 := hz.alloc (.cells #[.bool false, .slice none 0 0] 67)
  have hb1 := hb.alloc (.cells #[.bool false, .slice none 0 0] 67)
  have A2 := Lib.hid (fun (W : World) (c : Nat) (h1 : IntBox W c) (h2 : BigAt W bb y) => Abs_any c bb y (by omega) W h1 h2 sy)
  have HS0 := Lib.hid (And.intro sx sy)
  clear ha hb hz sx sy
  go_enter Try.func40, Try.ntmps40
  go_wp2_with fail
  refine A1.out.mono ?_
  rintro e w1 ⟨rfl, hp, hg1⟩
  have hs1 : w.heap.size + 1 ≤ w1.heap.size := by have := hg1.size; simpa using this
  have hz2 := hz1.grown hg1 (by omega)
  have hb2 := hb1.grown (IntBox.new w) hg1 (by omega)
  have hB1 := grownBy_new hg1
  have A3 := Lib.hid (A2.out _ w1.heap.size (IntBox.new w1) (hb2.alloc _))
  have hz3 := hz2.alloc (.cells #[.bool false, .slice none 0 0] 67)
  have hp3 := hp.alloc (.cells #[.bool false, .slice none 0 0] 67)
  have hn3 := IntBox.new w1
  clear A1 A2 hz1 hb1 hz2 hb2 hg1 hp
  go_wp2_with fail
  refine A3.out.mono ?_
  rintro e w2 ⟨rfl, hq, hg2⟩
  have hB2 := bthen hB1 (grownBy_new hg2)
  have hz4 := hz3.grown hg2 (by omega)
  have hp4 := hp3.grown hn3 hg2 (by omega)
  have hs2 : w1.heap.size + 1 ≤ w2.heap.size := by have := hg2.size; simpa using this
  clear A3 hz3 hp3 hn3 hg2 hB1
  go_upto_region 2 with fail
  go_loopw [11, 12] (fun p q wr => ∃ bp bq u v : Nat, p = ptr bp ∧ q = ptr bq ∧ BigAt wr bp u ∧ BigAt wr bq v ∧ (u : Int) < pow32 1000000 ∧ (v : Int) < pow32 1000000 ∧ Nat.gcd u v = Nat.gcd x y ∧ IntBox wr bz ∧ w.heap.size ≤ bp ∧ w.heap.size ≤ bq ∧ Below w.heap.size w wr) (fun _ q wr => valB wr q)
  case atStart => exact ⟨w.heap.size, w1.heap.size, x, y, rfl, rfl, hp4, hq, HS0.out.1, HS0.out.2, rfl, hz4, Nat.le_refl _, by omega, hB2⟩
  case round =>
    obtain ⟨bp, bq, u, v, rfl, rfl, hu, hv, su, sv, hG, hzr, lp, lq, hbl⟩ := hrel
    have HG := Lib.hid hG
    have HV := Lib.hid (valB_is hv)
    have CS := Sign_any bq v (by omega) wr hv
    have HSu := Lib.hid (And.intro su sv)
    have CT := Lib.hid (BigSet_any bz bp u wr hzr hu su)
    clear hG hp4 hq hB2 hz4 su sv
    by_cases hv0 : v = 0
    · subst hv0
      rw [if_pos (by rfl)] at CS
      have hGu := HG.out
      rw [Nat.gcd_zero_right] at hGu
      have HC := Lib.hid CS
      rw [hGu] at CT
      clear CS
      go_wp2_with fail
      refine HC.out.mono ?_
      rintro e w3 ⟨rfl, rfl⟩
      go_wp2_with fail
      refine CT.out.mono ?_
      rintro e w4 ⟨rfl, hgq, hgg⟩
      go_wp2
      go_ret
      exact ⟨rfl, hgq, grownBy_then (grownBy_of_below hbl) hgg⟩
    · rw [if_neg (by omega)] at CS
      have HC := Lib.hid CS
      obtain ⟨A, n, c, l, hr, ht, hm⟩ := id hu
      obtain ⟨B, m, d, r, hs, hq2, hmv⟩ := id hv
      have c1 := hr.box.cell 1 rfl
      have e1 := hs.box.cell 1 rfl
      by_cases hsm : n < 3 ∧ m < 3
      · have zu := two_words hr (z := u) (by omega) hsm.1
        have zv := two_words hs (z := v) (by omega) hsm.2
        have d1 : decide (n < 3) = true := decide_eq_true hsm.1
        have d2 : decide (m < 3) = true := decide_eq_true hsm.2
        have U1 := Lib.hid (Uint64_any bp u wr hu (by omega))
        have U2 := Lib.hid (Uint64_any bq v wr hv (by omega))
        rw [show (((u : Int).natAbs : Nat) : Int) = (u : Int) by omega] at U1
        rw [show (((v : Int).natAbs : Nat) : Int) = (v : Int) by omega] at U2
        have SU := Lib.hid (fun (n : Nat) (hn : n < 18446744073709551616) (W : World) (h : IntBox W bz) => SetUint64_any bz n (by omega) (by omega) W h)
        have HZ := Lib.hid (And.intro zu zv)
        clear hr ht hm hs hq2 hmv CS zu zv
        go_wp2_with fail
        refine HC.out.mono ?_
        rintro e w3 ⟨rfl, rfl⟩
        go_wp2_with fail
        refine U1.out.mono ?_
        rintro e w4 ⟨rfl, rfl⟩
        go_wp2_with fail
        refine U2.out.mono ?_
        rintro e w4 ⟨rfl, rfl⟩
        clear U1 U2 HC CT c1 e1 HV hu hv
        go_upto_region 5 with fail
        go_loopw [13, 14] (fun i k W => ∃ a b : Nat, i = .int .u64 (a : Int) ∧ k = .int .u64 (b : Int) ∧ Hid (a < 18446744073709551616 ∧ b < 18446744073709551616) ∧ Hid (Nat.gcd a b = Nat.gcd x y) ∧ ∃ q, W = w3.drewN q) (fun _ k _ => (intOf k).toNat)
        case atStart => exact ⟨u, v, rfl, rfl, HZ, HG, 0, rfl⟩
        case round =>
          obtain ⟨a, b, rfl, rfl, hab, hgab, q, rfl⟩ := hrel
          have hzq : IntBox (w3.drewN q) bz := hzr.below (below_draws ⟨q, rfl⟩) hzr.lt
          have hbq := bthen hbl (below_draws (w := w3) ⟨q, rfl⟩)
          have hqq : Hid (∀ p, ∃ r, (w3.drewN q).drewN p = w3.drewN r) := fun p => ⟨q + p, by rw [World.drewN_drewN]⟩
          generalize w3.drewN q = w5 at *
          by_cases hb0 : b = 0
          · subst hb0
            have hgf := hgab.out
            rw [Nat.gcd_zero_right] at hgf
            have SV := Lib.hid (SU.out a hab.out.1 w5 hzq)
            rw [hgf] at SV
            clear SU hab hgab
            go_wp2_with fail
            refine SV.out.mono ?_
            rintro e w6 ⟨rfl, hq6, hg6⟩
            go_wp2
            go_ret
            exact ⟨rfl, hq6, grownBy_then (grownBy_of_below hbq) hg6⟩
          · have hb1 : ¬ ((b : Int) = 0) := by omega
            have hb2 : 0 < b := by omega
            have hmod := Nat.mod_lt a hb2
            have hwr : IntKind.u64.wrap ((a : Int) % (b : Int)) = ((a % b : Nat) : Int) := by
              rw [← Int.natCast_emod, IntKind.wrap_u64]
              have := hab.out.2
              omega
            have hab2 : Hid (b < 18446744073709551616 ∧ a % b < 18446744073709551616) := ⟨hab.out.2, by have := hab.out.2; omega⟩
            have hg2 : Hid (Nat.gcd b (a % b) = Nat.gcd x y) := by
              show _ = _
              rw [← hgab.out, Nat.gcd_comm a b, Nat.gcd_rec b a, Nat.gcd_comm b]
            clear hab hgab
            go_wp2
            go_quiet (fail)
            go_wp2
            go_roundw
            case rel => exact ⟨b, a % b, rfl, by first | rfl | (rw [Int.natCast_emod]), hab2, hg2, hqq.out _⟩
            case measure => simp [intOf] <;> omega
      · have hbn := hu.int.lt
        have hqn := hv.int.lt
        have M1 := Lib.hid (Mod_any wr.heap.size bp bq u v _ (IntBox.new wr) (hu.alloc _) (hv.alloc _) HSu.out.1 HSu.out.2 (by omega))
        have hv2 := hv.alloc (.cells #[.bool false, .slice none 0 0] 67)
        have hz2 := hzr.alloc (.cells #[.bool false, .slice none 0 0] 67)
        have hn2 := IntBox.new wr
        have hsz := hbl.size
        have hlt := Nat.mod_lt u (show 0 < v by omega)
        have hzlt2 := hzr.lt
        have hgN : Hid (Nat.gcd v (u % v) = Nat.gcd x y) := by
          show _ = _
          rw [← HG.out, Nat.gcd_comm u v, Nat.gcd_rec v u, Nat.gcd_comm v]
        have hcase : n ≥ 3 ∨ (n < 3 ∧ m ≥ 3) := by omega
        have Hlt := Lib.hid hlt
        have HH := Lib.hid (And.intro hv2 (And.intro hz2 hn2))
        clear hr ht hm hs hq2 hmv CS hu hv hzr hsm CT hlt hv2 hz2 hn2
        rcases hcase with h1 | ⟨h1, h2⟩
        · have d1 : decide (n < 3) = false := decide_eq_false (by omega)
          go_wp2_with fail
          refine HC.out.mono ?_
          rintro e w3 ⟨rfl, rfl⟩
          go_wp2_with fail
          refine M1.out.mono ?_
          rintro e w4 ⟨rfl, hm4, hg4⟩
          have hv4 := HH.out.1.grown HH.out.2.2 hg4 (by omega)
          have hz4 := HH.out.2.1.grown hg4 (by omega)
          have hB4 := bthen hbl (grownBy_new hg4)
          have hV4 := valB_is (n := u % v) hm4
          have HV2 := Lib.hid hV4
          clear M1 HC HH hg4 c1 e1 hV4
          go_wp2
          go_roundw
          case rel => exact ⟨bq, _, v, u % v, rfl, rfl, hv4, hm4, HSu.out.2, mod_small Hlt.out HSu.out.2, hgN.out, hz4, lq, hsz, hB4⟩
          case measure => rw [HV.out, HV2.out]; exact Hlt.out
        · have d1 : decide (n < 3) = true := decide_eq_true h1
          have d2 : decide (m < 3) = false := decide_eq_false (by omega)
          go_wp2_with fail
          refine HC.out.mono ?_
          rintro e w3 ⟨rfl, rfl⟩
          go_wp2_with fail
          refine M1.out.mono ?_
          rintro e w4 ⟨rfl, hm4, hg4⟩
          have hv4 := HH.out.1.grown HH.out.2.2 hg4 (by omega)
          have hz4 := HH.out.2.1.grown hg4 (by omega)
          have hB4 := bthen hbl (grownBy_new hg4)
          have hV4 := valB_is (n := u % v) hm4
          have HV2 := Lib.hid hV4
          clear M1 HC HH hg4 c1 e1 hV4
          go_wp2
          go_roundw
          case rel => exact ⟨bq, _, v, u % v, rfl, rfl, hv4, hm4, HSu.out.2, mod_small Hlt.out HSu.out.2, hgN.out, hz4, lq, hsz, hB4⟩
          case measure => rw [HV.out, HV2.out]; exact Hlt.out
end Go.Proofs.Ytajfohnblmnjjaa
