/-
  The walk of FtaTells: it returns true, at every argument.
-/
import Derived.Test.YtddegfgkkepliaaFtaRef
namespace Go.Proofs.Ytddegfgkkepliaa
open Go.RowKit
set_option linter.unusedVariables false

set_option maxHeartbeats 3200000 in
theorem FtaTells_walk (A0 : Option Addr) (n0 c0 : Nat) (l0 : List Int) (a1 : Int) (w : World) (h0 : Rd w 1 A0 n0 (l0.map (Value.int .i64))) (q0 : ∀ x ∈ l0, (Lit.int .i64 x).wf = true) (k0 : n0 ≤ c0) (b0 : c0 * 8 ≤ 140737488351232) (w1 : (Lit.int .i64 a1).wf = true) :
    Calls Try.prog 3 #[.slice A0 n0 c0, .int .i64 a1] w fun e w' => e = .returned (.bool true) ∧ Below w.heap.size w w' := by
  have hl := h0.lenMap
  clear q0 w1
  have C1 := Lib.hid (fun (W : World) (h : Rd W 1 A0 n0 (l0.map (Value.int .i64))) => Mid_any A0 n0 c0 l0 a1 W h (by omega))
  have C2 := Lib.hid (fun (W : World) (h : Rd W 1 A0 n0 (l0.map (Value.int .i64))) => Mean_any A0 n0 c0 l0 a1 W h (by omega))
  have C3 := Lib.hid (fun (W : World) (h : Rd W 1 A0 n0 (l0.map (Value.int .i64))) => Spread_any A0 n0 c0 l0 a1 W h (by omega))
  have C4 := Lib.hid (fun (W : World) (h : Rd W 1 A0 n0 (l0.map (Value.int .i64))) => LWrong_any A0 n0 c0 l0 a1 W h (by omega))
  have C5 := Lib.hid (fun (W : World) (h : Rd W 1 A0 n0 (l0.map (Value.int .i64))) => FtaWrong_any A0 n0 c0 l0 a1 W h (by omega))
  by_cases hw : wrongL l0 a1 = 0
  · have hF := wrongL_ok.1 hw
    obtain ⟨q, rfl, hq1, hq2⟩ := hF.nat
    have Hmid := Lib.hid (midR_ok hw)
    have Hmean := Lib.hid (meanR_ok hw)
    have Hspread := Lib.hid (spreadR_ok hw)
    rw [hw] at C1 C2 C3 C4 C5
    rw [show ((q : Int)).toNat = q by omega] at Hmid Hmean Hspread
    have hx0 := hF.nth (j := q) (by omega)
    have hx1 := hF.nth (j := l0.length - 1 - q) (by omega)
    have Hin : Hid (∀ x ∈ l0, -1099511627776 ≤ x ∧ x ≤ 1099511627776) := hF.2.2.2
    have Hq := Lib.hid hq1
    rw [hl] at hq1 hq2
    have Hl := Lib.hid hl
    have hsp := spreadR_range l0 q
    clear hw hF
    obtain ⟨m, hm⟩ : ∃ m, n0 - 2 * q = m := ⟨_, rfl⟩
    have hm0 : 0 < m := by omega
    have hm1 : m ≤ 400 := by omega
    go_enter Try.func3, Try.ntmps3
    clear hl hx0 hx1 hsp
    go_wp2_with fail
    refine (C1.out _ h0).mono ?_
    rintro e w1 ⟨rfl, hb1⟩
    replace h0 := h0.below hb1
    go_wp2_with fail
    refine (C2.out _ h0).mono ?_
    rintro e w2 ⟨rfl, hb2⟩
    replace h0 := h0.below hb2
    have hB2 := bthen hb1 hb2
    clear hb1 hb2
    go_wp2_with fail
    refine (C3.out _ h0).mono ?_
    rintro e w3 ⟨rfl, hb3⟩
    replace h0 := h0.below hb3
    have hB3 := bthen hB2 hb3
    clear hB2 hb3
    go_wp2_with fail
    refine (C4.out _ h0).mono ?_
    rintro e w4 ⟨rfl, hw4⟩
    rw [hw4] at h0 hB3
    clear hw4
    go_wp2_with fail
    refine (C5.out _ h0).mono ?_
    rintro e w5 ⟨rfl, hw5⟩
    rw [hw5] at h0 hB3
    clear hw5 C1 C2 C3 C4 C5
    go_wp2_with fail
    refine (LRest_any A0 n0 c0 l0 q w5 h0 (by omega) (by omega)).mono ?_
    rintro e w6 ⟨v6, r, rfl, ho6, hr, hb6⟩
    have hlen := len_rest hr
    rw [Hl.out, hm] at hlen
    obtain ⟨A6, c6, rfl, _, _, h6⟩ := ho6.formN hlen
    have hB6 := bthen hB3 hb6
    have Hlen := Lib.hid hlen
    have Hleast := Lib.hid (least_rest hr Hq.out)
    have Hgreat := Lib.hid (great_rest hr Hq.out)
    have Hsum := Lib.hid (sum_rest hr)
    have Hinr : Hid (∀ x ∈ r, -1099511627776 ≤ x ∧ x ≤ 1099511627776) := fun x hx => by
      have hp : x ∈ restL l0 q := by rw [← hr]; exact (sortI_is r).mem_iff.2 hx
      obtain ⟨j, _, hj, rfl⟩ := restL_mem hp
      exact Hin.out _ (nth_mem (by omega))
    have Hmid2 : Hid (midR l0 q = (leastI r + greatI r) / 2) := by show _ = _; rw [Hmid.out, Hleast.out, Hgreat.out]; rfl
    have Hmean2 : Hid (meanR l0 q = r.sum / (m : Int)) := by
      show _ = _
      rw [Hmean.out, Hsum.out, ← hm, ← Hl.out]
      rfl
    have Hspread2 : Hid (spreadR l0 q = greatI r - leastI r) := by show _ = _; rw [Hspread.out, Hleast.out, Hgreat.out]; rfl
    have hne : r ≠ [] := by rintro rfl; simp at hlen; omega
    have g1 := Hinr.out _ (leastI_mem hne)
    have g2 := Hinr.out _ (greatI_mem hne)
    have K1 := Lib.hid (fun (W : World) (h : Rd W 1 A6 m (r.map (Value.int .i64))) => Min_any A6 m c6 r W h hm0 (by omega))
    have K2 := Lib.hid (fun (W : World) (h : Rd W 1 A6 m (r.map (Value.int .i64))) => Max_any A6 m c6 r W h hm0 (by omega))
    rw [Hmid2.out, Hmean2.out, Hspread2.out]
    generalize leastI r = lo at *
    generalize greatI r = hi at *
    obtain ⟨g3, g4⟩ := g1
    obtain ⟨g5, g6⟩ := g2
    have F1 := Lib.hid (fun (W : World) => LFloor_any (lo + hi) 2 (by omega) (by omega) (by decide) (by decide) W)
    clear hr hlen hne ho6 h0 hB3 hb6 Hmid Hmean Hspread Hmid2 Hmean2 Hspread2 Hleast Hgreat Hsum Hin Hq Hl hm
    go_wp2
    go_loop [13, 76] (fun t i => ∃ j : Nat, j ≤ m ∧ i = .int .i64 j ∧ t = .int .i64 (r.take j).sum) (fun _ i => m - (intOf i).toNat)
    case atStart => exact ⟨0, Nat.zero_le _, rfl, rfl⟩
    case round =>
      obtain ⟨j, hj, rfl, rfl⟩ := hrel
      have hin : ∀ x ∈ r.take j, -1099511627776 ≤ x ∧ x ≤ 1099511627776 := fun x hx => Hinr.out x (List.mem_of_mem_take hx)
      obtain ⟨s1, s2⟩ := sum_between hin
      have hlj : (r.take j).length = j := by rw [List.length_take, Hlen.out]; omega
      rw [hlj] at s1 s2
      clear hin hlj
      by_cases hlt : j < m
      · obtain ⟨ad', x, rfl, hx, hcx⟩ := h6.atMap hlt
        have Hs : Hid ((r.take (j + 1)).sum = (r.take j).sum + x) := by show _ = _; rw [take_snoc hx]; simp
        obtain ⟨x1, x2⟩ := Hinr.out x (List.mem_of_getElem? hx)
        clear hx
        generalize (r.take j).sum = t at *
        go_wp2
        go_round
        case rel => exact ⟨j + 1, by omega, by go_num, int_eq Hs.out.symm⟩
        case measure => simp [intOf] <;> omega
      · have hnk : j = m := by omega
        subst hnk
        have hs : r.take j = r := List.take_of_length_le (by rw [Hlen.out]; exact Nat.le_refl _)
        rw [hs] at s1 s2 ⊢
        clear hs
        have F2 := Lib.hid (fun (W : World) => LFloor_any r.sum (j : Int) (by omega) (by omega) (by omega) (by omega) W)
        generalize r.sum = t at *
        go_wp2_with fail
        refine (K1.out _ h6).mono ?_
        rintro e w7 ⟨rfl, hw7⟩
        rw [hw7] at h6 hB6
        clear hw7
        go_wp2_with fail
        refine (K2.out _ h6).mono ?_
        rintro e w8 ⟨rfl, hw8⟩
        rw [hw8] at hB6
        clear hw8 h6 K1 K2
        go_wp2_with fail
        refine (F1.out _).mono ?_
        rintro e w9 ⟨rfl, hb9⟩
        have hB9 := bthen hB6 hb9
        clear hb9 F1
        go_wp2_with fail
        refine (F2.out _).mono ?_
        rintro e w10 ⟨rfl, hb10⟩
        have hB10 := bthen hB9 hb10
        clear hb10 F2
        go_wp2
        go_ret
        exact ⟨rfl, hB10⟩
  · have hne : (wrongL l0 a1 != 0) = true := by simpa using hw
    rw [midR_no hw] at C1
    rw [meanR_no hw] at C2
    rw [spreadR_no hw] at C3
    clear hw hl
    generalize wrongL l0 a1 = R at *
    go_enter Try.func3, Try.ntmps3
    go_wp2_with fail
    refine (C1.out _ h0).mono ?_
    rintro e w1 ⟨rfl, hb1⟩
    replace h0 := h0.below hb1
    go_wp2_with fail
    refine (C2.out _ h0).mono ?_
    rintro e w2 ⟨rfl, hb2⟩
    replace h0 := h0.below hb2
    have hB2 := bthen hb1 hb2
    clear hb1 hb2
    go_wp2_with fail
    refine (C3.out _ h0).mono ?_
    rintro e w3 ⟨rfl, hb3⟩
    replace h0 := h0.below hb3
    have hB3 := bthen hB2 hb3
    clear hB2 hb3
    go_wp2_with fail
    refine (C4.out _ h0).mono ?_
    rintro e w4 ⟨rfl, hw4⟩
    rw [hw4] at h0 hB3
    clear hw4
    go_wp2_with fail
    refine (C5.out _ h0).mono ?_
    rintro e w5 ⟨rfl, hw5⟩
    rw [hw5] at hB3
    clear hw5 C1 C2 C3 C4 C5 h0
    go_wp2
    go_ret
    exact ⟨rfl, hB3⟩
end Go.Proofs.Ytddegfgkkepliaa
