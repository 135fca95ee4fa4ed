/-
  Contract of the reference's TSure. No statement of the seat is here.
-/
import Derived.Test.YtajfohnblmnjjaaJ6
import Derived.Test.YtajfohnblmnjjaaJ2
import Derived.Test.YtajfohnblmnjjaaJ4
namespace Go.Proofs.Ytajfohnblmnjjaa
open Go.RowKit
set_option linter.unusedVariables false
set_option maxRecDepth 20000

theorem big_small {a : Nat} (h : a ≤ 2000000000000000000000000000000000000000000000000000000000000000000000) : ((((a : Int).natAbs : Nat)) : Int) < pow32 1000000 := by
  have h1 := pow32_mono (show 8 ≤ 1000000 by decide)
  have h2 : pow32 8 = 115792089237316195423570985008687907853269984665640564039457584007913129639936 := by simp [pow32]
  rw [h2] at h1
  generalize pow32 1000000 = P at *
  omega
/-- Two numbers in blocks of the call's own. -/
structure TwoB (w W : World) (bx bY : Nat) (x y : Int) : Prop where
  x : BigAt W bx x
  y : BigAt W bY y
  ne : bx ≠ bY
  lx : w.heap.size ≤ bx
  ly : w.heap.size ≤ bY
  bl : Below w.heap.size w W
theorem TwoB.later {w W W' : World} {bx bY : Nat} {x y : Int} (h : TwoB w W bx bY x y) (hb : Below W.heap.size W W') : TwoB w W' bx bY x y :=
  ⟨h.x.below hb, h.y.below hb, h.ne, h.lx, h.ly, bthen h.bl hb⟩
theorem TwoB.setX {w W W' : World} {bx bY : Nat} {x y z : Int} (h : TwoB w W bx bY x y) (hz : BigAt W' bx z) (hg : W.grownBy W' (some bx)) : TwoB w W' bx bY z y :=
  ⟨hz, h.y.grown h.x.int hg (fun e => h.ne e.symm), h.ne, h.lx, h.ly, below_grown h.bl hg h.lx h.bl.size⟩
theorem TwoB.setY {w W W' : World} {bx bY : Nat} {x y z : Int} (h : TwoB w W bx bY x y) (hz : BigAt W' bY z) (hg : W.grownBy W' (some bY)) : TwoB w W' bx bY x z :=
  ⟨h.x.grown h.y.int hg h.ne, hz, h.ne, h.lx, h.ly, below_grown h.bl hg h.ly h.bl.size⟩
set_option maxHeartbeats 1600000 in
theorem TSure_any (A : Option Addr) (n c : Nat) (M : List Tk) (hM : GoodK M) (w : World) (h : RdG tkC 2 w A n M) :
    Calls Try.prog 17 #[.slice A n c] w fun e w' => e = .returned (.bool (decide (prodA M ≤ 2 * useD M))) ∧ Below w.heap.size w w' := by
  have hl : M.length = n := RdG.len tkK h
  have hn16 : n ≤ 16 := by have := hM.len; omega
  have HM := Lib.hid hM
  have N1 := Lib.hid (NewInt_ex 1 ⟨by decide, by decide⟩ w)
  have N2 := Lib.hid (fun W => NewInt_ex 2 ⟨by decide, by decide⟩ W)
  clear hM
  go_enter Try.func17, Try.ntmps17
  go_wp2_with fail
  refine N1.out.mono ?_
  rintro e w1 ⟨bx, rfl, hx1, hb1, hge1⟩
  go_wp2_with fail
  refine (N2.out w1).mono ?_
  rintro e w2 ⟨bY, rfl, hy2, hb2, hge2⟩
  have hxlt := hx1.int.lt
  have T0 : TwoB w w2 bx bY (((prodA (M.take 0) : Nat)) : Int) ((2 * useD (M.take 0) : Nat) : Int) := ⟨hx1.below hb2, hy2, by omega, hge1, by have := hb1.size; omega, bthen hb1 hb2⟩
  have HT := Lib.hid T0
  clear N1 N2 hx1 hy2 hb1 hb2 hge1 hge2 hxlt T0
  go_upto_region 3 with fail
  go_loopw [11] (fun i wr => ∃ k : Nat, k ≤ n ∧ i = .int .i64 k ∧ TwoB w wr bx bY ((prodA (M.take k) : Nat) : Int) ((2 * useD (M.take k) : Nat) : Int)) (fun i _ => n - (intOf i).toNat)
  case atStart => exact ⟨0, Nat.zero_le _, rfl, HT.out⟩
  case round =>
    obtain ⟨k, hk, rfl, T⟩ := hrel
    clear HT
    obtain ⟨zD, _, zA⟩ := (HM.out.take k).sizes
    by_cases hlt : k < n
    · obtain ⟨ad, p, t, rfl, hx, hc0, hc1⟩ := tk_at (h.below T.bl) hlt
      obtain ⟨h1, h2, h3⟩ := HM.out.at_ hx
      simp only at h1 h2 h3
      have hsn := prod_snoc (M.take k) ⟨p, t⟩
      rw [← take_snoc hx] at hsn
      simp only at hsn
      have HX : Hid (((prodA (M.take k) : Nat) : Int) * ((t + p : Nat) : Int) = ((prodA (M.take (k + 1)) : Nat) : Int)) := by show _ = _; rw [hsn.1, Int.natCast_mul]
      have HY : Hid (((2 * useD (M.take k) : Nat) : Int) * (p : Int) = ((2 * useD (M.take (k + 1)) : Nat) : Int)) := by show _ = _; rw [hsn.2, ← Nat.mul_assoc, Int.natCast_mul (2 * useD (M.take k))]
      have hw1 : IntKind.i64.wrap ((t : Int) + (p : Int)) = ((t + p : Nat) : Int) := by rw [← Int.natCast_add]; exact IntWalk.i64_in _ (by omega)
      have P1 := Lib.hid (fun W => NewInt_ex ((t + p : Nat) : Int) ⟨by omega, by omega⟩ W)
      have P2 := Lib.hid (fun W => NewInt_ex (p : Int) ⟨by omega, by omega⟩ W)
      have M1 := Lib.hid (fun (W : World) (b : Nat) (g1 : BigAt W bx ((prodA (M.take k) : Nat) : Int)) (g2 : BigAt W b ((t + p : Nat) : Int)) => BigMul_any bx bx b _ _ W g1.int g1 g2 (big_small (by omega)) (big_small (by omega)))
      have M2 := Lib.hid (fun (W : World) (b : Nat) (g1 : BigAt W bY ((2 * useD (M.take k) : Nat) : Int)) (g2 : BigAt W b (p : Int)) => BigMul_any bY bY b _ _ W g1.int g1 g2 (big_small (by omega)) (big_small (by omega)))
      rw [HX.out] at M1
      rw [HY.out] at M2
      generalize hXe : ((prodA (M.take k) : Nat) : Int) = X at *
      generalize hYe : ((2 * useD (M.take k) : Nat) : Int) = Y at *
      clear hXe hYe hsn HX HY zD zA hx
      have hbx := Box.new wr 38 [.int .i64 (p : Int), .int .i64 (t : Int)]
      have T1 := T.later (below_one (w := wr) (.cells #[.int .i64 (p : Int), .int .i64 (t : Int)] 38))
      have hne1 : bx ≠ wr.heap.size := by have := T.x.int.lt; omega
      go_upto_region 5 with fail
      clear T
      generalize wr.alloc (.cells #[.int .i64 (p : Int), .int .i64 (t : Int)] 38) = X1 at *
      generalize wr.heap.size = b at *
      clear hc0 hc1
      have q0 := hbx.cell 0 rfl
      have q1 := hbx.cell 1 rfl
      go_wp2_with fail
      refine (P1.out X1).mono ?_
      rintro e w5 ⟨b5, rfl, hi5, hb5, _⟩
      have T5 := T1.later hb5
      have hbx5 := hbx.below hb5 hbx.lt
      clear P1 T1 hb5 q0 q1 hbx
      go_wp2_with fail
      refine (M1.out w5 b5 T5.x hi5).mono ?_
      rintro e w6 ⟨rfl, hx6, hg6⟩
      have T6 := T5.setX hx6 hg6
      have hbx6 := hbx5.grown hg6 (by intro e; injection e with e; omega)
      have q0 := hbx6.cell 0 rfl
      clear M1 T5 hi5 hx6 hg6 hbx5 hw1
      go_wp2_with fail
      refine (P2.out w6).mono ?_
      rintro e w7 ⟨b7, rfl, hi7, hb7, _⟩
      have T7 := T6.later hb7
      clear P2 T6 hb7 q0 hbx6
      go_wp2_with fail
      refine (M2.out w7 b7 T7.y hi7).mono ?_
      rintro e w8 ⟨rfl, hy8, hg8⟩
      have T8 := T7.setY hy8 hg8
      clear M2 T7 hi7 hy8 hg8
      go_wp2
      go_roundw
      case rel => exact ⟨k + 1, by omega, by go_num, T8⟩
      case measure => simp [intOf] <;> omega
    · have hkn : k = n := by omega
      subst hkn
      rw [List.take_of_length_le (by omega)] at T zD zA
      have C := Lib.hid (Cmp_any bx bY _ _ (by omega) (by omega) wr T.x T.y (big_small (by omega)) (big_small (by omega)))
      have hbl := T.bl
      have HR : Hid (decide (cmpI ((prodA M : Nat) : Int) ((2 * useD M : Nat) : Int) ≤ 0) = decide (prodA M ≤ 2 * useD M)) := by
        show _ = _
        apply decide_eq_decide.2
        unfold cmpI
        split
        · constructor <;> intro <;> omega
        · split
          · constructor <;> intro <;> omega
          · constructor <;> intro <;> omega
      clear T zD zA
      generalize cmpI ((prodA M : Nat) : Int) ((2 * useD M : Nat) : Int) = v at *
      go_wp2_with fail
      refine C.out.mono ?_
      rintro e w2 ⟨rfl, q, rfl⟩
      go_wp2
      go_ret
      exact ⟨by rw [← HR.out]; rfl, bthen hbl (below_draws ⟨_, rfl⟩)⟩
end Go.Proofs.Ytajfohnblmnjjaa
