/-
  The walk of LineTells.
-/
import Derived.Test.YtfnkaccfhlkfdaaLineRef
import Derived.Test.YtfnkaccfhlkfdaaRegion
namespace Go.Proofs.Ytfnkaccfhlkfdaa
open Go.RowKit
set_option linter.unusedVariables false

/-- How far the sum has been after the first k - 1 bits. -/
theorem far_step {l : List Bool} {k : Nat} (hk : k ≤ l.length) : (balM (l.take k)).2 = max (max (balM (l.take (k - 1))).2 (balM (l.take k)).1) (-(balM (l.take k)).1) := by
  cases k with
  | zero => simp [balM]
  | succ j =>
    have hx : l[j]? = some (l[j]'(by omega)) := List.getElem?_eq_getElem _
    rw [take_snoc hx, balM_snoc]
    simp [balStep]

set_option maxHeartbeats 2000000 in
theorem LineTells_walk (a0 : Bool) (A1 : Option Addr) (n1 c1 : Nat) (l1 : List Bool) (w : World) (h1 : Rd w 1 A1 n1 (l1.map Value.bool)) (k1 : n1 ≤ c1) (b1 : c1 * 1 ≤ 140737488351232) :
    Calls Try.prog 3 #[.bool a0, .slice A1 n1 c1] w fun e w' => e = .returned (.bool true) ∧ Below w.heap.size w w' := by
  have Hl := Lib.hid h1.lenMap
  have hlen : (bothM l1).length = 2 * n1 := by rw [bothM_len, Hl.out]
  have hul := unboth_len l1
  rw [Hl.out] at hul
  obtain ⟨un, hun⟩ : ∃ un, (unbothM l1).1.length = un := ⟨_, rfl⟩
  rw [hun] at hul
  have hcut := fun (W : World) (k : Nat) (hk : k ≤ c1) => run_to elBool W A1 n1 c1 k hk
  go_enter Try.func3, Try.ntmps3
  go_wp2_with fail
  refine (Unboth_any A1 n1 c1 l1 _ h1 (by omega)).mono ?_
  rintro e w1 ⟨v1, rfl, ho1, hb1⟩
  obtain ⟨Ax, cx, rfl, _, _, rx⟩ := ho1.formN hun
  clear ho1
  go_wp2_with fail
  refine (FUnboth_any A1 n1 c1 l1 _ (h1.below hb1) (by omega)).mono ?_
  rintro e w2 ⟨v2, rfl, ho2, hb2⟩
  obtain ⟨Ay, cy, rfl, _, _, ry⟩ := ho2.formN hun
  replace rx := rx.below hb2
  replace hb1 := bthen hb1 hb2
  clear ho2 hb2 hun
  generalize (unbothM l1).1 = u at *
  generalize (unbothM l1).2 = er at *
  go_wp2_with fail
  refine (Both_any A1 n1 c1 l1 _ (h1.below hb1) (by omega)).mono ?_
  rintro e w3 ⟨v3, rfl, ho3, hb3⟩
  obtain ⟨Ab, cb, rfl, _, _, rb⟩ := ho3.formN hlen
  replace rx := rx.below hb3
  replace ry := ry.below hb3
  replace hb1 := bthen hb1 hb3
  clear ho3 hb3 hlen
  go_wp2_with fail
  refine (Balance_any A1 n1 c1 l1 _ (h1.below hb1) (by omega)).mono ?_
  rintro e w4 ⟨rfl, rfl⟩
  have r1 := h1.below hb1
  go_wp2
  go_loopw [12, 36] (fun s i wr => ∃ (k : Nat), k ≤ n1 + 1 ∧ i = .int .i64 k ∧ s = .int .i64 (balM (l1.take (k - 1))).2 ∧ Below w3.heap.size w3 wr) (fun _ i _ => n1 + 1 - (intOf i).toNat)
  case atStart => exact ⟨0, Nat.zero_le _, rfl, rfl, Below.refl _ _⟩
  case round =>
    obtain ⟨k, hk, rfl, rfl, hb4⟩ := hrel
    obtain ⟨W, hW⟩ : ∃ W, W = wr := ⟨_, rfl⟩
    subst hW
    by_cases hlt : k < n1 + 1
    · have hstep := far_step (l := l1) (k := k) (by rw [Hl.out]; omega)
      have htk := (r1.below hb4).take (k := k) (by omega)
      rw [Nat.mul_one, ← List.map_take] at htk
      have hfar := balM_le (l1.take k)
      have hfar2 := balM_le (l1.take (k - 1))
      simp only [List.length_take] at hfar hfar2
      have hcall : ∀ q : Nat, Calls Try.prog 12 #[.slice A1 k c1] (W.drewN q) fun e w' => e = .returned (.int .i64 (balM (l1.take k)).1) ∧ w' = W.drewN q := fun q => (FBalance_any A1 k c1 (l1.take k) (W.drewN q) (htk.drewN q) (by omega)).mono (fun e w' h => ⟨h.1, h.2.symm⟩)
      generalize (balM (l1.take (k - 1))).2 = f0 at *
      generalize hf1 : (balM (l1.take k)).2 = f1 at *
      generalize (balM (l1.take k)).1 = s1 at *
      have hc2 := fun W' : World => hcut W' k (by omega)
      have hlt' : (k : Int) < (n1 : Int) + 1 := by omega
      go_wp2
      go_quiet (first | (go_at_call 12; refine Calls.quiet_of_same (hcall _)))
      go_wp2
      all_goals go_roundw
      case rel =>
        refine ⟨k + 1, by omega, by go_num, int_eq ?_, below_drawn hb4 _⟩
        rw [Nat.add_sub_cancel, hf1, hstep]
        first | omega | (split <;> omega)
      case measure => simp [intOf] <;> omega
    · obtain rfl : k = n1 + 1 := by omega
      rw [Nat.add_sub_cancel, List.take_of_length_le (by rw [Hl.out]; exact Nat.le_refl _)]
      clear hcut
      replace rx := rx.below hb4
      replace ry := ry.below hb4
      replace rb := rb.below hb4
      replace hb1 := bthen hb1 hb4
      have r1' := h1.below hb1
      clear r1 hb4
      have hat := fun k x hx => bothM_at l1 k x hx
      have Hat := Lib.hid hat
      clear hat hlt hk
      generalize bothM l1 = y at *
      go_wp2
      go_loop [59] (fun i => ∃ (k : Nat), k ≤ n1 ∧ i = .int .i64 k) (fun i => n1 - (intOf i).toNat)
      case atStart => exact ⟨0, Nat.zero_le _, rfl⟩
      case round =>
        obtain ⟨k, hk, rfl⟩ := hrel
        by_cases hlt : k < n1
        · obtain ⟨ad, x, rfl, hx, hc⟩ := r1'.atMap hlt
          obtain ⟨adb, y0, rfl, hy0, hc0⟩ := rb.atMap (k := 2 * k) (by omega)
          obtain ⟨adb', y1, he, hy1, hc1⟩ := rb.atMap (k := 2 * k + 1) (by omega)
          injection he with he
          subst he
          have hh := Hat.out k x hx
          rw [hy0, hy1] at hh
          injection hh.1 with e0
          injection hh.2 with e1
          subst e0 e1
          have hc2 : W.cell? ⟨adb.block, adb.off + (2 * k + 1), none⟩ = some (.bool y1) := by simpa [Addr.add] using hc1
          clear hh hy0 hy1 hx
          have t0 : (2 * (k : Int)).toNat = 2 * k := by omega
          have t1 : (2 * (k : Int) + 1).toNat = 2 * k + 1 := by omega
          have v0 : IntKind.i64.wrap (2 * (k : Int)) = 2 * k := IntWalk.i64_in _ (by omega)
          have v1 : IntKind.i64.wrap (2 * (k : Int) + 1) = 2 * k + 1 := IntWalk.i64_in _ (by omega)
          have q0 : ((!y1) == y1) = false := by cases y1 <;> rfl
          have q1 : (y1 != y1) = false := by simp
          go_wp2
          go_round
          case rel => exact ⟨k + 1, by omega, by go_num⟩
          case measure => simp [intOf] <;> omega
        · obtain rfl : k = n1 := by omega
          clear hlt hk
          have hlt1 : (turnM a0 l1).length = k := by rw [turnM_len, Hl.out]
          have hlt2 : (unturnM a0 l1).length = k := by rw [unturnM_len, Hl.out]
          have Htu := Lib.hid (turn_unturn l1 a0)
          go_wp2_with fail
          refine (EqualB_any_same Ax Ay un cx un cy u _ rx ry (by omega)).mono ?_
          rintro e w5 ⟨rfl, hq⟩
          replace hb1 := bthen hb1 hq
          clear hq rx ry rb r1'
          go_wp2_with fail
          refine (Turn_any a0 A1 k c1 l1 _ (h1.below hb1) (by omega)).mono ?_
          rintro e w6 ⟨v6, rfl, ho6, hb6⟩
          obtain ⟨A6, c6, rfl, _, _, r6⟩ := ho6.formN hlt1
          replace hb1 := bthen hb1 hb6
          clear ho6 hb6
          go_wp2_with fail
          refine (FTurn_any a0 A1 k c1 l1 _ (h1.below hb1) (by omega)).mono ?_
          rintro e w7 ⟨v7, rfl, ho7, hb7⟩
          obtain ⟨A7, c7, rfl, _, _, r7⟩ := ho7.formN hlt1
          replace r6 := r6.below hb7
          replace hb1 := bthen hb1 hb7
          clear ho7 hb7
          generalize turnM a0 l1 = t at *
          go_wp2_with fail
          refine (EqualB_any_same A6 A7 k c6 k c7 t _ r6 r7 (by omega)).mono ?_
          rintro e w8 ⟨rfl, hq⟩
          replace hb1 := bthen hb1 hq
          clear hq r6 r7
          go_wp2_with fail
          refine (Unturn_any a0 A1 k c1 l1 _ (h1.below hb1) (by omega)).mono ?_
          rintro e w9 ⟨v9, rfl, ho9, hb9⟩
          obtain ⟨A9, c9, rfl, _, _, r9⟩ := ho9.formN hlt2
          replace hb1 := bthen hb1 hb9
          clear ho9 hb9
          generalize unturnM a0 l1 = z at *
          go_wp2_with fail
          refine (FTurn_any a0 A9 k c9 z _ r9 (by omega)).mono ?_
          rintro e w10 ⟨v10, rfl, ho10, hb10⟩
          rw [Htu.out] at ho10
          obtain ⟨A10, c10, rfl, _, _, r10⟩ := ho10.formN Hl.out
          replace hb1 := bthen hb1 hb10
          clear ho10 hb10 r9
          go_wp2_with fail
          refine (EqualB_any_same A10 A1 k c10 k c1 l1 _ r10 (h1.below hb1) (by omega)).mono ?_
          rintro e w11 ⟨rfl, hq⟩
          replace hb1 := bthen hb1 hq
          clear hq r10
          go_wp2_with fail
          refine (FBalance_any A1 k c1 l1 _ (h1.below hb1) (by omega)).mono ?_
          rintro e w12 ⟨rfl, rfl⟩
          go_wp2
          go_ret
          exact ⟨rfl, hb1⟩
end Go.Proofs.Ytfnkaccfhlkfdaa
