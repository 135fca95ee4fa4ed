/-
  Contracts of the reference's GGuard, GNumber and GSum. No statement of the seat is here.
-/
import Derived.Test.YtpcpbccolkhgfaaLinWalks
import Derived.Shelf.Abstract
namespace Go.Proofs.Ytpcpbccolkhgfaa
open Go.RowKit
set_option linter.unusedVariables false

theorem enterG : ∀ args w, (callFunc 21 args).run Try.prog w = .ok (.enter 21 args) w := enters_of Try.func21 (by kernel_rfl) rfl

set_option maxHeartbeats 400000 in
theorem GCount_any (bb : Nat) (Ab : Option Addr) (cb : Nat) (b : List Bool) (A : Option Addr) (n c : Nat) (l : List Int) (w : World) (hbb : w.cell? ⟨bb, 0, none⟩ = some (.slice Ab 6 cb)) (hb : Rd w 1 Ab 6 (b.map Value.bool)) (h : Rd w 1 A n (l.map (Value.int .i64))) (hl : ∀ k ∈ l, 0 ≤ k ∧ k ≤ 5) (hn : n ≤ 4) :
    Calls Try.prog 21 #[.slice A n c, .pointer (some ⟨bb, 0, none⟩)] w fun e w' => e = .returned (.int .i64 (cntM b l)) ∧ w = w' := by
  have Hl := Lib.hid h.lenMap
  have HL := Lib.hid hl
  clear hl
  go_enter Try.func21, Try.ntmps21
  go_wp2
  go_loop [4, 9] (fun s i => ∃ k : Nat, k ≤ n ∧ i = .int .i64 k ∧ s = .int .i64 (cntM b (l.take k))) (fun _ i => n - (intOf i).toNat)
  case atStart => exact ⟨0, Nat.zero_le _, rfl, rfl⟩
  case round =>
    obtain ⟨k, hk, rfl, rfl⟩ := hrel
    have hle := cntM_le b (l.take k)
    have hlk : (l.take k).length ≤ 4 := by simp; omega
    by_cases hlt : k < n
    · obtain ⟨ad, x, rfl, hx, hc⟩ := h.atMap hlt
      have hxb := HL.out x (List.mem_of_getElem? hx)
      have hx0 := hxb.1
      have hx5 := hxb.2
      obtain ⟨adb, y, rfl, hy, hcb⟩ := hb.atMap (k := (5 - x).toNat) (by omega)
      have Hs : Hid (cntM b (l.take (k + 1)) = if y = true then cntM b (l.take k) + 1 else cntM b (l.take k)) := by
        show _ = _
        rw [take_snoc hx, cntM_snoc, hy]
        simp
      have v1 : IntKind.i64.wrap (5 - x) = 5 - x := IntWalk.i64_in _ (by omega)
      have b1 : 0 ≤ 5 - x := by omega
      have b2 : 5 - x < 6 := by omega
      clear hx hxb hy
      generalize cntM b (l.take k) = p at *
      cases y
      · have e := Hs.out
        simp only [Bool.false_eq_true, if_false] at e
        have He := Lib.hid e; clear e Hs
        go_wp2
        go_round
        case rel => exact ⟨k + 1, by omega, by go_num, by rw [He.out]⟩
        case measure => simp [intOf] <;> omega
      · have e := Hs.out
        simp only [if_true] at e
        have He := Lib.hid e; clear e Hs
        go_wp2
        go_round
        case rel => exact ⟨k + 1, by omega, by go_num, by rw [He.out]⟩
        case measure => simp [intOf] <;> omega
    · obtain rfl : k = n := by omega
      rw [List.take_of_length_le (by rw [Hl.out]; exact Nat.le_refl _)]
      go_wp2
      go_ret
      exact ⟨rfl, rfl⟩

set_option maxHeartbeats 1000000 in
theorem GGuard_any (id : Int) (w : World) (h : IdOk id) :
    Calls Try.prog 14 #[.int .i64 id] w fun e w' => e = .returned (.int .u8 (guardM id)) ∧ Below w.heap.size w w' := by
  have hid0 := h.1
  have hid1 := h.2
  have Href := Lib.hid (guard_ref h)
  have hgr := guard_range h
  have e1 := enterG
  have hc1 := cntM_le (bitsOf 6 id) [0, 1, 2, 4]
  have hc2 := cntM_le (bitsOf 6 id) [1, 3, 4, 5]
  simp only [List.length_cons, List.length_nil, Nat.zero_add, Nat.reduceAdd] at hc1 hc2
  generalize guardM id = g at *
  clear h
  go_enter Try.func14, Try.ntmps14
  go_wp2_with fail
  refine (APut_ok 6 id _ (by decide) hid0 (by simp; omega)).mono ?_
  rintro e w1 ⟨A1, c1, rfl, ho1, hb1⟩
  have r1 := ho1.rd
  clear ho1
  have hG := GCount_any w1.heap.size A1 c1 (bitsOf 6 id)
  have hq1 : ∀ k ∈ ([0, 1, 2, 4] : List Int), 0 ≤ k ∧ k ≤ 5 := by decide
  have hq2 : ∀ k ∈ ([1, 3, 4, 5] : List Int), 0 ≤ k ∧ k ≤ 5 := by decide
  generalize bitsOf 6 id = bs at *
  go_wp2_with fail
  have hB0 : Below w1.heap.size w1 ((w1.alloc (.cells #[.slice A1 6 c1] 44)).alloc (.cells #[.int .i64 0, .int .i64 1, .int .i64 2, .int .i64 4] 3)) := ((Below.refl _ _).alloc (Nat.le_refl _) _).alloc (le_alloc (Nat.le_refl _)) _
  have hx0 : Box ((w1.alloc (.cells #[.slice A1 6 c1] 44)).alloc (.cells #[.int .i64 0, .int .i64 1, .int .i64 2, .int .i64 4] 3)) w1.heap.size 44 [.slice A1 6 c1] := (Box.new w1 44 [.slice A1 6 c1]).alloc _
  refine (hG _ 4 4 [0, 1, 2, 4] _ (Box.cell hx0 0 rfl) (r1.below hB0) (Rd.litAt (Value.int .i64) _ _ (by simp)) hq1 (by omega)).mono ?_
  rintro e w2 ⟨rfl, hw2⟩
  rw [hw2] at hB0 hx0
  clear hw2
  have c2 := Box.cell hx0 0 rfl
  have hlt := hx0.lt
  generalize cntM bs [0, 1, 2, 4] = p at *
  have hwi : IntKind.i64.wrap (id + 64) = id + 64 := IntWalk.i64_in _ (by omega)
  have htm : Int.tmod p 2 = p % 2 := Int.tmod_eq_emod_of_nonneg (by omega)
  have hB1 := bthen hb1 hB0
  have hcc := fun W hB hx => hG (some ⟨w2.heap.size, 0, none⟩) 4 4 [1, 3, 4, 5] W hx (r1.below hB)
  have hB3 : Below w1.heap.size w1 (w2.alloc (.cells #[.int .i64 1, .int .i64 3, .int .i64 4, .int .i64 5] 3)) := hB0.alloc hB0.size _
  have hx3 := Box.cell (hx0.alloc (.cells #[.int .i64 1, .int .i64 3, .int .i64 4, .int .i64 5] 3)) 0 rfl
  have hC := hcc _ hB3 hx3 (Rd.litAt (Value.int .i64) _ _ rfl) hq2 (by omega)
  have hB4 : Below w.heap.size w (w2.alloc (.cells #[.int .i64 1, .int .i64 3, .int .i64 4, .int .i64 5] 3)) := hB1.alloc hB1.size _
  clear hcc hG hq1 hq2 c2 hx3
  generalize hcn : cntM bs [1, 3, 4, 5] = q at *
  have htm2 : Int.tmod q 2 = q % 2 := Int.tmod_eq_emod_of_nonneg (by omega)
  by_cases hp : p % 2 = 1
  · have hpq : (p % 2 == 1) = true := by simpa using hp
    by_cases hq : q % 2 = 0
    · have hqq : (q % 2 == 0) = true := by simpa using hq
      have e := Href.out
      rw [if_pos hp, if_pos hq] at e
      have He := Lib.hid e
      clear hp hq Href e
      go_wp2_with fail
      refine hC.mono ?_
      rintro e w4 ⟨rfl, hw4⟩
      rw [hw4] at hB4
      clear hw4
      go_wp2
      go_ret
      refine ⟨ret_int ?_, hB4⟩
      have := He.out
      omega
    · have hqq : (q % 2 == 0) = false := by simpa using hq
      have e := Href.out
      rw [if_pos hp, if_neg hq] at e
      have He := Lib.hid e
      clear hp hq Href e
      go_wp2_with fail
      refine hC.mono ?_
      rintro e w4 ⟨rfl, hw4⟩
      rw [hw4] at hB4
      clear hw4
      go_wp2
      go_ret
      refine ⟨ret_int ?_, hB4⟩
      have := He.out
      omega
  · have hpq : (p % 2 == 1) = false := by simpa using hp
    by_cases hq : q % 2 = 0
    · have hqq : (q % 2 == 0) = true := by simpa using hq
      have e := Href.out
      rw [if_neg hp, if_pos hq] at e
      have He := Lib.hid e
      clear hp hq Href e
      go_wp2_with fail
      refine hC.mono ?_
      rintro e w4 ⟨rfl, hw4⟩
      rw [hw4] at hB4
      clear hw4
      go_wp2
      go_ret
      refine ⟨ret_int ?_, hB4⟩
      have := He.out
      omega
    · have hqq : (q % 2 == 0) = false := by simpa using hq
      have e := Href.out
      rw [if_neg hp, if_neg hq] at e
      have He := Lib.hid e
      clear hp hq Href e
      go_wp2_with fail
      refine hC.mono ?_
      rintro e w4 ⟨rfl, hw4⟩
      rw [hw4] at hB4
      clear hw4
      go_wp2
      go_ret
      refine ⟨ret_int ?_, hB4⟩
      have := He.out
      omega

set_option maxHeartbeats 400000 in
theorem GNumber_any (b : Int) (w : World) (h0 : 0 ≤ b) (h1 : b < 256) :
    Calls Try.prog 11 #[.int .u8 b] w fun e w' => e = .returned (.tuple #[.int .i64 (numberM b).1, .int .i64 (numberM b).2]) ∧ Below w.heap.size w w' := by
  obtain ⟨R, hR⟩ : ∃ R, R = numberM b := ⟨_, rfl⟩
  rw [← hR]
  have HR := Lib.hid hR; clear hR
  go_enter Try.func11, Try.ntmps11
  go_wp2
  go_loopw [5] (fun i wr => ∃ k : Nat, k ≤ 64 ∧ i = .int .i64 k ∧ (∀ j : Nat, j < k → guardM j ≠ b) ∧ Below w.heap.size w wr) (fun i _ => 64 - (intOf i).toNat)
  case atStart => exact ⟨0, by omega, rfl, fun j hj => absurd hj (by omega), Below.refl _ _⟩
  case round =>
    obtain ⟨k, hk, rfl, hno, hbl⟩ := hrel
    have Hno := Lib.hid hno; clear hno
    by_cases hlt : k < 64
    · have hi : IdOk (k : Int) := ⟨by omega, by omega⟩
      have Hg := Lib.hid (number_guard hi)
      have hlz : decide ((k : Int) < 64) = true := by simp; omega
      go_wp2_with fail
      refine (GGuard_any k _ hi).mono ?_
      rintro e w2 ⟨rfl, hb2⟩
      replace hbl := bthen hbl hb2
      clear hb2
      by_cases hgb : guardM k = b
      · have e : R = ((k : Int), 0) := by rw [HR.out, ← hgb]; exact Hg.out
        have hq : (guardM k == b) = true := by simpa using hgb
        subst e
        clear hgb HR Hg Hno
        generalize guardM k = g at *
        go_wp2
        go_ret2
        exact ⟨rfl, hbl⟩
      · have hq : (guardM k == b) = false := by simpa using hgb
        have Hnx : Hid (∀ j : Nat, j < k + 1 → guardM j ≠ b) := fun j hj => by
          rcases Nat.lt_succ_iff_lt_or_eq.1 hj with h | h
          · exact Hno.out j h
          · subst h; exact hgb
        clear hgb HR Hg Hno
        generalize guardM k = g at *
        go_wp2
        go_roundw
        case rel => exact ⟨k + 1, by omega, by go_num, Hnx.out, hbl⟩
        case measure => simp [intOf] <;> omega
    · obtain rfl : k = 64 := by omega
      have e : R = (0, 7) := by
        rw [HR.out]
        unfold numberM
        have hr := low_range h0 h1
        rw [if_neg]
        intro hb
        refine Hno.out (lowM b).toNat (by have := hr.2; omega) ?_
        rw [Int.toNat_of_nonneg hr.1]
        exact hb.symm
      subst e
      clear HR Hno
      go_wp2
      go_ret2
      exact ⟨rfl, hbl⟩

set_option maxHeartbeats 400000 in
theorem GSum_any (A : Option Addr) (n c : Nat) (l : List Int) (w : World) (h : Rd w 1 A n (l.map (Value.int .u8))) (hb : Byte8 l) (hn : n ≤ 140737488355328) :
    Calls Try.prog 13 #[.slice A n c] w fun e w' => e = .returned (.int .u8 (sumM l)) ∧ w = w' := by
  have Hl := Lib.hid h.lenMap
  have Hb := Lib.hid hb
  clear hb
  go_enter Try.func13, Try.ntmps13
  go_wp2
  go_loop [3, 8] (fun s i => ∃ (k : Nat) (p : Int), k ≤ n ∧ i = .int .i64 k ∧ s = .int .i64 p ∧ p = tot (l.take k) ∧ 0 ≤ p ∧ p ≤ 255 * k) (fun _ i => n - (intOf i).toNat)
  case atStart => exact ⟨0, 0, Nat.zero_le _, rfl, rfl, by simp [tot], by omega, by omega⟩
  case round =>
    obtain ⟨k, p, hk, rfl, rfl, hp, hp0, hp1⟩ := hrel
    have Hp := Lib.hid hp; clear hp
    by_cases hlt : k < n
    · obtain ⟨ad, x, rfl, hx, hc⟩ := h.atMap hlt
      have hxb := Hb.out x (List.mem_of_getElem? hx)
      have hx0 := hxb.1
      have hx1 := hxb.2
      have Hs : Hid (tot (l.take (k + 1)) = p + x) := by
        show _ = _
        rw [take_snoc hx, tot_snoc, ← Hp.out]
      have hwr : IntKind.i64.wrap x = x := IntWalk.i64_in _ (by omega)
      clear hx hxb
      go_wp2
      go_round
      case rel => exact ⟨k + 1, p + x, by omega, by go_num, by go_num, Hs.out.symm, by omega, by omega⟩
      case measure => simp [intOf] <;> omega
    · obtain rfl : k = n := by omega
      have e := Hp.out
      rw [List.take_of_length_le (by rw [Hl.out]; exact Nat.le_refl _)] at e
      have He := Lib.hid e; clear e Hp
      go_wp2
      go_loop [3] (fun s => ∃ q : Int, s = .int .i64 q ∧ foldC q = foldC p ∧ 0 ≤ q ∧ q ≤ p) (fun s => (intOf s).toNat)
      case atStart => exact ⟨p, rfl, rfl, hp0, Int.le_refl _⟩
      case round =>
        obtain ⟨q, rfl, hq, hq0, hqp⟩ := hrel
        have Hq := Lib.hid hq; clear hq
        by_cases hbig : 255 < q
        · have htd : Int.tdiv q 256 = q / 256 := Int.tdiv_eq_ediv_of_nonneg hq0
          have htm : Int.tmod q 256 = q % 256 := Int.tmod_eq_emod_of_nonneg hq0
          have Hf := Lib.hid ((foldC_256 q hbig).trans Hq.out)
          go_wp2
          go_round
          case rel => exact ⟨q / 256 + q % 256, by go_num, Hf.out, by omega, by omega⟩
          case measure => simp [intOf] <;> omega
        · have e : sumM l = 255 - q := by unfold sumM; rw [← He.out, ← Hq.out, foldC_small q hq0 (by omega)]
          have He2 := Lib.hid e
          clear e
          go_wp2
          go_ret
          exact ⟨ret_int He2.out.symm, rfl⟩
end Go.Proofs.Ytpcpbccolkhgfaa
