/-
  Contracts of package field: Wrong, place, Get, wrongSet, put, Set, for every input.
-/
import Derived.Test.YtldkmopkakdgnaaFieldMath2
import Derived.Test.YtldkmopkakdgnaaSlices
import Derived.Test.YtldkmopkakdgnaaBox
import Derived.Test.YtldkmopkakdgnaaBitWalks2
namespace Go.Proofs.Ytldkmopkakdgnaa
open Go.RowKit
set_option maxRecDepth 20000
set_option linter.unusedVariables false

theorem fld_below (w : World) (o : Obj) : Below w.heap.size w (w.alloc o) := (Below.refl _ _).alloc (Nat.le_refl _) o
theorem wrap64_in {x : Int} (h : 0 ≤ x ∧ x ≤ 4611686018427387904) : wrap64 x = x := by unfold wrap64; omega
theorem FWrong_any (f : FI) (k : Int) (w : World) : Calls Try.prog 12 #[f.v, .int .i64 k] w fun e w' => e = .returned (.int .i64 (wrongW f k)) ∧ Below w.heap.size w w' := by
  obtain ⟨a, b, g⟩ := f
  show Calls Try.prog 12 #[.agg #[.int .i64 a, .int .i64 b, .bool g], .int .i64 k] w _
  by_cases h1 : k < 0 ∨ 400 < k ∨ b < 1 ∨ 62 < b ∨ a < 0
  · have hw : wrongW ⟨a, b, g⟩ k = 2 := if_pos h1
    rw [hw]
    clear hw
    by_cases c1 : k < 0
    · clear h1
      go_enter Try.func12, Try.ntmps12
      go_wp2
      go_ret
      exact ⟨rfl, fld_below _ _⟩
    · have d1 : decide (k < 0) = false := decide_eq_false c1
      by_cases c2 : 400 < k
      · clear h1
        go_enter Try.func12, Try.ntmps12
        go_wp2
        go_ret
        exact ⟨rfl, fld_below _ _⟩
      · have d2 : decide (400 < k) = false := decide_eq_false c2
        by_cases c3 : b < 1
        · clear h1
          go_enter Try.func12, Try.ntmps12
          go_wp2
          go_ret
          exact ⟨rfl, fld_below _ _⟩
        · have d3 : decide (b < 1) = false := decide_eq_false c3
          by_cases c4 : 62 < b
          · clear h1
            go_enter Try.func12, Try.ntmps12
            go_wp2
            go_ret
            exact ⟨rfl, fld_below _ _⟩
          · have d4 : decide (62 < b) = false := decide_eq_false c4
            have c5 : a < 0 := by omega
            clear h1
            go_enter Try.func12, Try.ntmps12
            go_wp2
            go_ret
            exact ⟨rfl, fld_below _ _⟩
  · have c1 : ¬ k < 0 := by omega
    have c2 : ¬ 400 < k := by omega
    have c3 : ¬ b < 1 := by omega
    have c4 : ¬ 62 < b := by omega
    have c5 : ¬ a < 0 := by omega
    have x1 : IntKind.i64.wrap (8 * k) = 8 * k := IntWalk.i64_in _ (by omega)
    have x2 : IntKind.i64.wrap (8 * k - b) = 8 * k - b := IntWalk.i64_in _ (by omega)
    by_cases c6 : 8 * k - b < a
    · have hw : wrongW ⟨a, b, g⟩ k = 8 := by unfold wrongW; rw [if_neg h1, if_pos c6]
      rw [hw]
      clear hw h1
      go_enter Try.func12, Try.ntmps12
      go_wp2
      go_ret
      exact ⟨rfl, fld_below _ _⟩
    · have hw : wrongW ⟨a, b, g⟩ k = 0 := by unfold wrongW; rw [if_neg h1, if_neg c6]
      rw [hw]
      clear hw h1
      go_enter Try.func12, Try.ntmps12
      go_wp2
      go_ret
      exact ⟨rfl, fld_below _ _⟩
theorem place_any (f : Fld) (e : Nat) (he : e < f.wd) (hf : f.fr + f.wd ≤ 3200) (w : World) : Calls Try.prog 19 #[f.i.v, .int .i64 (e : Int)] w fun r w' => r = .returned (.int .i64 (plc f e : Int)) ∧ Below w.heap.size w w' := by
  obtain ⟨a, b, g⟩ := f
  simp only at he hf
  show Calls Try.prog 19 #[.agg #[.int .i64 (a : Int), .int .i64 (b : Int), .bool g], .int .i64 (e : Int)] w _
  cases g
  · have x1 : IntKind.i64.wrap ((a : Int) + (e : Int)) = (a : Int) + (e : Int) := IntWalk.i64_in _ (by omega)
    have hp : plc ⟨a, b, false⟩ e = a + e := rfl
    rw [hp]
    go_enter Try.func19, Try.ntmps19
    go_wp2
    go_ret
    exact ⟨ret_int (by omega), fld_below _ _⟩
  · have x1 : IntKind.i64.wrap ((a : Int) + (b : Int)) = (a : Int) + (b : Int) := IntWalk.i64_in _ (by omega)
    have x2 : IntKind.i64.wrap ((a : Int) + (b : Int) - 1) = (a : Int) + (b : Int) - 1 := IntWalk.i64_in _ (by omega)
    have x3 : IntKind.i64.wrap ((a : Int) + (b : Int) - 1 - (e : Int)) = ((a + b - 1 - e : Nat) : Int) := by rw [IntWalk.i64_in _ (by omega)]; omega
    have hx := Lib.hid (xor_seven (a := a + b - 1 - e) (by omega))
    have hp : plc ⟨a, b, true⟩ e = turnB (a + b - 1 - e) := rfl
    rw [hp]
    generalize turnB (a + b - 1 - e) = t at *
    generalize a + b - 1 - e = u at *
    go_enter Try.func19, Try.ntmps19
    go_wp2
    go_ret
    exact ⟨ret_int hx.out, fld_below _ _⟩
theorem FGet_bad (A : Option Addr) (n c : Nat) (f : FI) (w : World) (hne : wrongW f (n : Int) ≠ 0) :
    Calls Try.prog 9 #[.slice A n c, f.v] w fun e w' => e = .returned (.tuple #[.int .i64 0, .int .i64 (wrongW f (n : Int))]) ∧ Below w.heap.size w w' := by
  have C := Lib.hid (fun (W : World) => FWrong_any f (n : Int) W)
  generalize wrongW f (n : Int) = r at *
  obtain ⟨a, b, g⟩ := f
  show Calls Try.prog 9 #[.slice A n c, .agg #[.int .i64 a, .int .i64 b, .bool g]] w _
  have hne' : (r != 0) = true := by simpa using hne
  go_enter Try.func9, Try.ntmps9
  go_wp2_with fail
  refine (C.out _).mono ?_
  rintro e w1 ⟨rfl, hb⟩
  clear C
  go_wp2
  go_ret2
  exact ⟨rfl, below_new hb⟩
theorem FGet_ok (A : Option Addr) (n c : Nat) (l : List Int) (f : Fld) (w : World) (h : Rd w 1 A n (l.map (Value.int .u8))) (hb : Byt l) (ok : f.Ok n) :
    Calls Try.prog 9 #[.slice A n c, f.i.v] w fun e w' => e = .returned (.tuple #[.int .i64 (getF l f), .int .i64 0]) ∧ Below w.heap.size w w' := by
  have hl := h.lenMap
  have C := Lib.hid (fun (W : World) => FWrong_any f.i (n : Int) W)
  rw [wrongW_ok ok] at C
  have CP := Lib.hid (fun (e : Nat) (he : e < f.wd) (W : World) => place_any f e he ok.far W)
  have Hok := Lib.hid ok
  have HR : Hid (lowF l f f.wd = getF l f) := lowF_all l f
  generalize getF l f = R at *
  have h62 := ok.wide
  have Hl := Lib.hid hl
  show Calls Try.prog 9 #[.slice A n c, .agg #[.int .i64 (f.fr : Int), .int .i64 (f.wd : Int), .bool f.bg]] w _
  clear ok hl
  go_enter Try.func9, Try.ntmps9
  go_wp2_with fail
  refine (C.out _).mono ?_
  rintro e w1 ⟨rfl, hb1⟩
  clear C
  have hbx := (Box.new w 24 [.int .i64 (f.fr : Int), .int .i64 (f.wd : Int), .bool f.bg]).below hb1 (by simp)
  have hw1 := below_new hb1
  clear hb1
  have hq0 := hbx.cell 0 rfl
  have hq1 := hbx.cell 1 rfl
  have hq2 := hbx.cell 2 rfl
  go_wp2
  go_loopw [7, 19] (fun v i wr => ∃ (e : Nat), e ≤ f.wd ∧ v = .int .i64 (lowF l f e) ∧ i = .int .i64 e ∧ Below w1.heap.size w1 wr) (fun _ i _ => f.wd - (intOf i).toNat)
  case atStart => exact ⟨0, Nat.zero_le _, by rw [lowF_zero], rfl, Below.refl _ _⟩
  case round =>
    obtain ⟨e, he, rfl, rfl, hb2⟩ := hrel
    have hbx2 := hbx.below hb2 hbx.lt
    have hw2 := bthen hw1 hb2
    clear hq0 hq1 hq2
    have hq0 := hbx2.cell 0 rfl
    have hq1 := hbx2.cell 1 rfl
    have hq2 := hbx2.cell 2 rfl
    by_cases hlt : e < f.wd
    · have hp : plc f e < 8 * n := plc_lt Hok.out.fits hlt
      obtain ⟨x, hx, hbit⟩ := place_at (m := l) (p := plc f e) (by rw [Hl.out]; exact hp)
      obtain ⟨x0, x1⟩ := hb.at_ hx
      have HX := Lib.hid hx
      have HB := Lib.hid ((bit_of x (plc f e % 8) x0 x1 (Nat.mod_lt _ (by omega))).trans (by rw [← hbit]))
      have HN := Lib.hid (lowF_next (l := l) hlt)
      have HZ := Lib.hid (lowF_range (l := l) he)
      have CQ := Lib.hid (CP.out e hlt wr)
      clear CP hx hbit
      have h400 : n ≤ 400 := Hok.out.few
      generalize plc f e = p at *
      generalize lowF l f e = z at *
      have hd : ((p : Int).tdiv 8) = ((p / 8 : Nat) : Int) := by rw [Int.tdiv_eq_ediv_of_nonneg (by omega)]; omega
      have hm : ((p : Int).tmod 8) = ((p % 8 : Nat) : Int) := by rw [Int.tmod_eq_emod_of_nonneg (by omega)]; omega
      go_wp2_with fail
      refine CQ.out.mono ?_
      rintro r w3 ⟨rfl, hb3⟩
      clear CQ
      have hr := h.below (bthen hw2 hb3)
      obtain ⟨ad, y, rfl, hy, hc⟩ := hr.atMap (k := p / 8) (by omega)
      obtain rfl : x = y := by have := hy.symm.trans HX.out; simpa using this.symm
      clear hy
      go_wp2
      have he62 : e < 62 := by omega
      have H : bits .or .i64 z (wrap64 (wrap64 (bits .and .u8 (x / 2 ^ (p % 8)) 1) * 2 ^ e)) = lowF l f (e + 1) := by
        have hpe : (2 : Int) ^ e ≤ 2 ^ 61 := pow_le_pow (by omega)
        have hp0 : (0 : Int) < 2 ^ e := Int.pow_pos (by omega)
        rw [HB.out, HN.out]
        generalize (ofBytes l).getD (turnB p) false = b at *
        have hw0 : wrap64 (if b then 1 else 0) = if b then 1 else 0 := wrap64_in (by cases b <;> simp)
        rw [hw0]
        have hw2 : wrap64 ((if b then 1 else 0) * 2 ^ e) = (if b then 1 else 0) * 2 ^ e := wrap64_in (by cases b <;> simp <;> omega)
        rw [hw2]
        exact or_bit b HZ.out.1 HZ.out.2 he62
      go_roundw
      case rel => exact ⟨e + 1, by omega, int_eq H, by go_num, bthen hb2 hb3⟩
      case measure => simp [intOf] <;> omega
    · obtain rfl : e = f.wd := by omega
      go_wp2
      go_ret2
      exact ⟨by rw [← HR.out]; rfl, hw2⟩
theorem FGet_any (A : Option Addr) (n c : Nat) (l : List Int) (f : FI) (w : World) (h : Rd w 1 A n (l.map (Value.int .u8))) (hb : Byt l) :
    Calls Try.prog 9 #[.slice A n c, f.v] w fun e w' => e = .returned (.tuple #[.int .i64 (getE l f).1, .int .i64 (getE l f).2]) ∧ Below w.heap.size w w' := by
  have hl := h.lenMap
  unfold getE
  rw [hl]
  by_cases hw : wrongW f (n : Int) = 0
  · rw [if_pos hw]
    obtain ⟨F, m, e1, rfl, ok⟩ := wrongW_zero hw
    obtain rfl : n = m := by omega
    rw [i_fld]
    exact FGet_ok A n c l F w h hb ok
  · rw [if_neg hw]
    exact FGet_bad A n c f w hw
theorem wrongSet_any (f : FI) (k n : Int) (w : World) : Calls Try.prog 20 #[f.v, .int .i64 k, .int .i64 n] w fun e w' => e = .returned (.int .i64 (setW f k n)) ∧ Below w.heap.size w w' := by
  by_cases hw : wrongW f k = 0
  · obtain ⟨F, m, rfl, rfl, ok⟩ := wrongW_zero hw
    have hs : setW F.i (m : Int) n = if n < 0 ∨ 2 ^ F.wd ≤ n then 2 else 0 := by
      unfold setW
      rw [if_neg (by omega), show F.i.wd.toNat = F.wd by simp [Fld.i]]
    rw [hs]
    clear hs
    have C := Lib.hid (fun (W : World) => FWrong_any F.i (m : Int) W)
    rw [hw] at C
    have h62 := ok.wide
    have hpe : (2 : Int) ^ F.wd ≤ 2 ^ 62 := pow_le_pow h62
    have hp0 : (0 : Int) < 2 ^ F.wd := Int.pow_pos (by omega)
    have hx : wrap64 (2 ^ F.wd) = 2 ^ F.wd := wrap64_in (by omega)
    show Calls Try.prog 20 #[.agg #[.int .i64 (F.fr : Int), .int .i64 (F.wd : Int), .bool F.bg], .int .i64 (m : Int), .int .i64 n] w _
    clear hw
    have HP := Lib.hid hpe
    have HP0 := Lib.hid hp0
    have HX := Lib.hid hx
    clear hpe hp0 hx
    by_cases c1 : n < 0
    · rw [if_pos (.inl c1)]
      go_enter Try.func20, Try.ntmps20
      go_wp2_with fail
      refine (C.out _).mono ?_
      rintro e w1 ⟨rfl, hb1⟩
      clear C
      go_wp2
      go_ret
      exact ⟨rfl, below_new hb1⟩
    · have d1 : decide (n < 0) = false := decide_eq_false c1
      by_cases c2 : 2 ^ F.wd ≤ n
      · rw [if_pos (.inr c2)]
        have d2 : decide (wrap64 (2 ^ F.wd) ≤ n) = true := by rw [HX.out]; exact decide_eq_true c2
        clear c2
        go_enter Try.func20, Try.ntmps20
        go_wp2_with fail
        refine (C.out _).mono ?_
        rintro e w1 ⟨rfl, hb1⟩
        clear C
        have hbx := (Box.new w 24 [.int .i64 (F.fr : Int), .int .i64 (F.wd : Int), .bool F.bg]).below hb1 (by simp)
        have hw1 := below_new hb1
        clear hb1
        have hq1 := hbx.cell 1 rfl
        go_wp2
        go_ret
        exact ⟨rfl, hw1⟩
      · rw [if_neg (by omega)]
        have d2 : decide (wrap64 (2 ^ F.wd) ≤ n) = false := by rw [HX.out]; exact decide_eq_false c2
        clear c2
        go_enter Try.func20, Try.ntmps20
        go_wp2_with fail
        refine (C.out _).mono ?_
        rintro e w1 ⟨rfl, hb1⟩
        clear C
        have hbx := (Box.new w 24 [.int .i64 (F.fr : Int), .int .i64 (F.wd : Int), .bool F.bg]).below hb1 (by simp)
        have hw1 := below_new hb1
        clear hb1
        have hq1 := hbx.cell 1 rfl
        go_wp2
        go_ret
        exact ⟨rfl, hw1⟩
  · have hs : setW f k n = wrongW f k := by unfold setW; rw [if_pos hw]
    rw [hs]
    clear hs
    have C := Lib.hid (fun (W : World) => FWrong_any f k W)
    generalize wrongW f k = r at *
    obtain ⟨a, b, g⟩ := f
    show Calls Try.prog 20 #[.agg #[.int .i64 a, .int .i64 b, .bool g], .int .i64 k, .int .i64 n] w _
    have hne' : (r != 0) = true := by simpa using hw
    go_enter Try.func20, Try.ntmps20
    go_wp2_with fail
    refine (C.out _).mono ?_
    rintro e w1 ⟨rfl, hb⟩
    clear C
    go_wp2
    go_ret
    exact ⟨rfl, below_new hb⟩
end Go.Proofs.Ytldkmopkakdgnaa
