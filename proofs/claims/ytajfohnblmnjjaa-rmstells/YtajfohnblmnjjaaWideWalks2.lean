/-
  Contracts of rms's numbers of 256 bits: common, exceeds, isGreat, number. No statement of the seat is here.
-/
import Derived.Test.YtajfohnblmnjjaaWideWalks
namespace Go.Proofs.Ytajfohnblmnjjaa
open Go.RowKit
set_option linter.unusedVariables false
set_option maxRecDepth 20000

theorem oneW (w : World) (A : List Nat) : WBox (w.alloc (.cells (wordsV A).toArray 47)) w.heap.size A := Box.new w _ _
set_option maxHeartbeats 800000 in
theorem common_any (a y : Nat) (hy0 : 0 < y) (hy : y < 65536) (ha : a < powW 4) (w : World) :
    Calls Try.prog 48 #[wideV a, wordV y] w fun e w' => e = .returned (wordV (Nat.gcd y a)) ∧ Below w.heap.size w w' := by
  have CO := Lib.hid (fun (W : World) => over_any a y hy0 hy ha W)
  unfold GivesWide at CO
  have e1 : wideV a = .agg (wordsV (digsW 4 a)).toArray := rfl
  have e2 : wideV (a / y) = .agg (wordsV (digsW 4 (a / y))).toArray := rfl
  rw [e1, e2] at CO
  rw [e1]
  have hG : Nat.gcd (a % y) y = Nat.gcd y a := (Nat.gcd_rec y a).symm
  have hr := Nat.mod_lt a hy0
  obtain ⟨a0, a1, a2, a3, hA⟩ := wide_cells a
  obtain ⟨b0, b1, b2, b3, hB⟩ := wide_cells (a / y)
  rw [hA, hB] at CO
  rw [hA]
  clear e1 e2 hA hB
  have H1 := oneW w [a0, a1, a2, a3]
  have HG := Lib.hid hG
  generalize a % y = r at *
  generalize Nat.gcd y a = G at *
  unfold wordV at CO ⊢
  have ew : (wordsV [a0, a1, a2, a3]).toArray = #[.int .u64 (a0 : Int), .int .u64 (a1 : Int), .int .u64 (a2 : Int), .int .u64 (a3 : Int)] := rfl
  have eb : (wordsV [b0, b1, b2, b3]).toArray = #[.int .u64 (b0 : Int), .int .u64 (b1 : Int), .int .u64 (b2 : Int), .int .u64 (b3 : Int)] := rfl
  rw [ew] at CO H1 ⊢
  rw [eb] at CO
  clear hG ew eb
  obtain ⟨c0, c1, c2, c3⟩ := H1.four
  unfold wordV at c0 c1 c2 c3
  have hb0 : Below w.heap.size w (w.alloc (.cells #[.int .u64 (a0 : Int), .int .u64 (a1 : Int), .int .u64 (a2 : Int), .int .u64 (a3 : Int)] 47)) := (Below.refl _ _).alloc (Nat.le_refl _) _
  go_enter Try.func48, Try.ntmps48
  go_wp2_with fail
  refine (CO.out _).mono ?_
  rintro e w1 ⟨rfl, hbl⟩
  have hb1 := bthen hb0 hbl
  clear CO c0 c1 c2 c3 H1 hb0 hbl
  go_upto_region 2 with fail
  have hb2 : Below w.heap.size w (w1.alloc (.cells #[.int .u64 (b0 : Int), .int .u64 (b1 : Int), .int .u64 (b2 : Int), .int .u64 (b3 : Int)] 47)) := hb1.alloc hb1.size _
  clear hb1
  generalize w1.alloc (.cells #[.int .u64 (b0 : Int), .int .u64 (b1 : Int), .int .u64 (b2 : Int), .int .u64 (b3 : Int)] 47) = w2 at *
  go_loopw [1, 6] (fun o i wr => ∃ (c r : Nat), o = .int .u64 (c : Int) ∧ i = .int .u64 (r : Int) ∧ c < 65536 ∧ r < 65536 ∧ Nat.gcd r c = G ∧ Below w.heap.size w wr) (fun _ i _ => (intOf i).toNat)
  case atStart => exact ⟨y, r, rfl, rfl, by omega, by omega, HG.out, hb2⟩
  case round =>
    obtain ⟨c, d, rfl, rfl, hc, hd, hg, hbl⟩ := hrel
    have HN := Lib.hid hg
    clear hg HG hb2
    by_cases h0 : 0 < d
    · have hd0 : ¬ ((d : Int) = 0) := by omega
      have hd1 : ¬ (d = 0) := by omega
      have hr2 := Nat.mod_lt c h0
      have hw : IntKind.u64.wrap ((c : Int) % (d : Int)) = ((c % d : Nat) : Int) := by rw [← Int.natCast_emod, w64 (by omega)]
      have hg2 : Hid (Nat.gcd (c % d) d = G) := by show _ = _; rw [← Nat.gcd_rec, HN.out]
      go_wp2
      go_quiet (fail)
      go_wp2
      go_roundw
      case rel => exact ⟨d, c % d, rfl, by first | rfl | (rw [Int.natCast_emod]), hd, by omega, hg2.out, bthen hbl (below_draws ⟨_, rfl⟩)⟩
      case measure => simp [intOf] <;> omega
    · have hd0 : d = 0 := by omega
      subst hd0
      have hG2 := HN.out
      rw [Nat.gcd_zero_left] at hG2
      go_wp2
      go_ret
      exact ⟨by rw [hG2]; rfl, hbl⟩
set_option maxHeartbeats 800000 in
theorem exceeds_any (a b : Nat) (ha : a < powW 4) (hb : b < powW 4) (w : World) :
    Calls Try.prog 32 #[wideV a, wideV b] w fun e w' => e = .returned (.bool (decide (a > b))) ∧ Below w.heap.size w w' := by
  have hA := digsW_ok 4 a
  have lA := digsW_len 4 a
  have vA := digsW_v ha
  have hB := digsW_ok 4 b
  have lB := digsW_len 4 b
  have vB := digsW_v hb
  rw [show wideV a = .agg (wordsV (digsW 4 a)).toArray from rfl, show wideV b = .agg (wordsV (digsW 4 b)).toArray from rfl]
  generalize digsW 4 a = A at *
  generalize digsW 4 b = B at *
  obtain ⟨a0, a1, a2, a3, hAe⟩ := wide_four A lA
  obtain ⟨b0, b1, b2, b3, hBe⟩ := wide_four B lB
  have T0 := twoW w A B
  have e0 : wordsV A = [wordV a0, wordV a1, wordV a2, wordV a3] := by rw [hAe]; rfl
  have e1 : wordsV B = [wordV b0, wordV b1, wordV b2, wordV b3] := by rw [hBe]; rfl
  rw [e0, e1] at T0 ⊢
  have HA := Lib.hid hA
  have HB := Lib.hid hB
  have HV := Lib.hid (And.intro vA vB)
  have HT := Lib.hid T0
  clear hA hB hAe hBe e0 e1 vA vB T0
  go_enter Try.func32, Try.ntmps32
  go_upto_region 2 with fail
  go_loopw [5] (fun i wr => ∃ k : Nat, k ≤ 4 ∧ i = .int .i64 ((k : Int) - 1) ∧ A.drop k = B.drop k ∧ TwoW w wr A B) (fun i _ => (intOf i + 1).toNat)
  case atStart => exact ⟨4, by omega, rfl, by rw [List.drop_of_length_le (by omega), List.drop_of_length_le (by omega)], HT.out⟩
  case round =>
    obtain ⟨k, hk, rfl, hd, T⟩ := hrel
    have HD := Lib.hid hd
    clear hd HT
    by_cases hlt : 0 < k
    · obtain ⟨j, rfl⟩ : ∃ j, k = j + 1 := ⟨k - 1, by omega⟩
      obtain ⟨x, hx⟩ : ∃ x, A[j]? = some x := ⟨A[j], List.getElem?_eq_getElem (by omega)⟩
      obtain ⟨y, hy⟩ : ∃ y, B[j]? = some y := ⟨B[j], List.getElem?_eq_getElem (by omega)⟩
      have hca := T.a.cell hx
      have hcb := T.r.cell hy
      unfold wordV at hca hcb
      have hi0 : (((j + 1 : Nat) : Int) - 1) = (j : Int) := by omega
      rw [hi0]
      have hab : a = vW A ∧ b = vW B := ⟨HV.out.1.symm, HV.out.2.symm⟩
      by_cases hxy : x = y
      · have hdd : Hid (A.drop j = B.drop j) := by show _ = _; rw [drop_cons hx, drop_cons hy, hxy, HD.out]
        have HS := Lib.hid T
        clear T hx hy hab
        subst hxy
        go_wp2
        go_quiet (fail)
        go_wp2
        go_roundw
        case rel => exact ⟨j, by omega, by go_num, hdd.out, HS.out.drewN _⟩
        case measure => simp [intOf] <;> omega
      · have hgt := gt_step HA.out HB.out (by omega) hx hy hxy HD.out
        have hne : ((x : Int) == (y : Int)) = false := by simp; omega
        have HG : Hid (decide (a > b) = decide (y < x)) := by show _ = _; rw [hab.1, hab.2]; exact decide_eq_decide.2 hgt
        have HS := Lib.hid T
        clear T hx hy hab hgt
        have hsv := HS.out.bl
        go_upto_region 4 with fail
        go_quiet (fail)
        replace hca : (wr.drewN nq).cell? ⟨w.heap.size, j, none⟩ = _ := hca
        replace hcb : (wr.drewN nq).cell? ⟨w.heap.size + 1, j, none⟩ = _ := hcb
        have hs2 := bthen hsv (below_draws (w := wr) ⟨nq, rfl⟩)
        clear hsv HS
        generalize wr.drewN nq = w3 at *
        go_upto_region 5 with fail
        go_quiet (fail)
        go_wp2
        go_ret
        exact ⟨by rw [HG.out]; try rfl, bthen hs2 (below_draws ⟨_, rfl⟩)⟩
    · have hk0 : k = 0 := by omega
      subst hk0
      have hd := HD.out
      rw [List.drop_zero, List.drop_zero] at hd
      have hab : decide (a > b) = false := by rw [← HV.out.1, ← HV.out.2, hd]; simp
      have hi0 : ((0 : Nat) : Int) - 1 = -1 := rfl
      rw [hi0]
      have hsv := T.bl
      clear T
      go_wp2
      go_ret
      exact ⟨by rw [hab]; rfl, hsv⟩
set_option maxHeartbeats 400000 in
theorem isGreat_any (a : Nat) (ha : a < powW 4) (w : World) :
    Calls Try.prog 27 #[wideV a] w fun e w' => e = .returned (.bool (decide (a > 9223372036854775807))) ∧ Below w.heap.size w w' := by
  have CE := Lib.hid (fun (W : World) => exceeds_any a 9223372036854775807 ha (by rw [powW_four]; omega) W)
  rw [show wideV 9223372036854775807 = .agg #[.int .u64 9223372036854775807, .int .u64 0, .int .u64 0, .int .u64 0] from rfl, show wideV a = .agg (wordsV (digsW 4 a)).toArray from rfl] at CE
  rw [show wideV a = .agg (wordsV (digsW 4 a)).toArray from rfl]
  obtain ⟨a0, a1, a2, a3, hA⟩ := wide_cells a
  rw [hA] at CE ⊢
  have H1 := oneW w [a0, a1, a2, a3]
  have ew : (wordsV [a0, a1, a2, a3]).toArray = #[.int .u64 (a0 : Int), .int .u64 (a1 : Int), .int .u64 (a2 : Int), .int .u64 (a3 : Int)] := rfl
  rw [ew] at CE H1 ⊢
  clear hA ew
  obtain ⟨c0, c1, c2, c3⟩ := H1.four
  unfold wordV at c0 c1 c2 c3
  have hb0 : Below w.heap.size w (w.alloc (.cells #[.int .u64 (a0 : Int), .int .u64 (a1 : Int), .int .u64 (a2 : Int), .int .u64 (a3 : Int)] 47)) := (Below.refl _ _).alloc (Nat.le_refl _) _
  go_enter Try.func27, Try.ntmps27
  go_wp2_with fail
  refine (CE.out _).mono ?_
  rintro e w1 ⟨rfl, hbl⟩
  go_wp2
  go_ret
  exact ⟨rfl, bthen hb0 hbl⟩
set_option maxHeartbeats 400000 in
theorem number_any (a : Nat) (ha : a < 9223372036854775808) (w : World) :
    Calls Try.prog 28 #[wideV a] w fun e w' => e = .returned (.int .i64 (a : Int)) ∧ Below w.heap.size w w' := by
  rw [show wideV a = .agg (wordsV (digsW 4 a)).toArray from rfl]
  obtain ⟨a0, a1, a2, a3, hA⟩ := wide_cells a
  have h0 : a0 = a := by
    have e : digsW 4 a = a % 18446744073709551616 :: digsW 3 (a / 18446744073709551616) := rfl
    rw [e] at hA
    injection hA with h1 h2
    omega
  subst h0
  rw [hA]
  have H1 := oneW w [a0, a1, a2, a3]
  have ew : (wordsV [a0, a1, a2, a3]).toArray = #[.int .u64 (a0 : Int), .int .u64 (a1 : Int), .int .u64 (a2 : Int), .int .u64 (a3 : Int)] := rfl
  rw [ew] at H1 ⊢
  clear hA ew
  obtain ⟨c0, c1, c2, c3⟩ := H1.four
  unfold wordV at c0 c1 c2 c3
  have hb0 : Below w.heap.size w (w.alloc (.cells #[.int .u64 (a0 : Int), .int .u64 (a1 : Int), .int .u64 (a2 : Int), .int .u64 (a3 : Int)] 47)) := (Below.refl _ _).alloc (Nat.le_refl _) _
  have hw : IntKind.i64.wrap (a0 : Int) = (a0 : Int) := IntWalk.i64_in _ (by omega)
  go_enter Try.func28, Try.ntmps28
  go_wp2
  go_ret
  exact ⟨rfl, hb0⟩
end Go.Proofs.Ytajfohnblmnjjaa
