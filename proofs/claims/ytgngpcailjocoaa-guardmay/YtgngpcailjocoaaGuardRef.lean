/-
  Contracts of the reference's NMay and NWrong.
-/
import Derived.Test.YtgngpcailjocoaaGuardWalks2
import Derived.Test.YtgngpcailjocoaaSlotsRef
namespace Go.Proofs.Ytgngpcailjocoaa
open Go.RowKit
set_option linter.unusedVariables false

set_option maxHeartbeats 1600000 in
theorem NMay_any (P : Int) (A : Option Addr) (n c : Nat) (L : List Slt) (nd fr lg : Int) (w : World) (h : RdS w A n L) (hR : rightM P L = true) (ht : OkT ⟨nd, fr, lg⟩) :
    Calls Try.prog 11 #[.int .i64 P, .slice A n c, .agg #[.int .i64 nd, .int .i64 fr, .int .i64 lg]] w fun e w' => e = .returned (.bool (fitsM P L ⟨nd, fr, lg⟩)) ∧ Below w.heap.size w w' := by
  obtain ⟨⟨hp1, hp2, hn4⟩, hr⟩ := rightM_true.1 hR
  have Hl := Lib.hid h.lenS
  rw [Hl.out] at hn4
  obtain ⟨h1, h2, h3, h4, h5, h6⟩ := ht
  simp only at *
  have r0 := Int.emod_nonneg fr (show P ≠ 0 by omega)
  have r1 := Int.emod_lt_of_pos fr (show 0 < P by omega)
  have hrem := rem_pos (P := P) h3
  have HF : Hid (fitsM P L ⟨nd, fr, lg⟩ = L.any (fun s => decide (s.nd = nd ∧ s.fr ≤ fr % P ∧ fr % P + lg ≤ s.fr + s.lg))) := rfl
  have Hr := Lib.hid hr
  generalize fr % P = r at *
  obtain ⟨p, Hp⟩ : ∃ p : Slt → Bool, Hid (∀ s, p s = decide (s.nd = nd ∧ s.fr ≤ r ∧ r + lg ≤ s.fr + s.lg)) := ⟨_, fun _ => rfl⟩
  rw [HF.out, show (fun s : Slt => decide (s.nd = nd ∧ s.fr ≤ r ∧ r + lg ≤ s.fr + s.lg)) = p from funext fun s => (Hp.out s).symm]
  clear hR hr HF
  have hbx := Box.new w 30 [.int .i64 nd, .int .i64 fr, .int .i64 lg]
  have Hbx := Lib.hid hbx
  clear hbx
  go_enter Try.func11, Try.ntmps11
  go_wp2
  go_loopw [12] (fun i wr => ∃ (k : Nat), k ≤ n ∧ i = .int .i64 k ∧ L.any p = (L.drop k).any p ∧ Box wr w.heap.size 30 [.int .i64 nd, .int .i64 fr, .int .i64 lg] ∧ Below w.heap.size w wr) (fun i _ => n - (intOf i).toNat)
  case atStart => exact ⟨0, Nat.zero_le _, rfl, rfl, Hbx.out, below_one _⟩
  case round =>
    obtain ⟨k, hk, rfl, hacc, hbox, hbl⟩ := hrel
    have Hacc := Lib.hid hacc; clear hacc Hbx
    by_cases hlt : k < n
    · obtain ⟨ad, sn, sf, sl, rfl, hx, hc0, hc1, hc2⟩ := (h.below hbl).atS hlt
      obtain ⟨_, _, q3, q4, q5⟩ := right_mem Hr.out (List.mem_of_getElem? hx)
      simp only at q3 q4 q5
      have Hd : Hid (L.any p = (p ⟨sn, sf, sl⟩ || (L.drop (k + 1)).any p)) := by show _ = _; rw [Hacc.out, drop_cell hx]; rfl
      rw [Hp.out] at Hd
      clear hx Hacc
      have hx0 := hbox.cell 0 rfl
      have hx1 := hbox.cell 1 rfl
      have hx2 := hbox.cell 2 rfl
      have hlw := hbox.lt
      have Hbox := Lib.hid hbox
      clear hbox
      by_cases g1 : sn = nd
      · subst g1
        by_cases g2 : sf ≤ r
        · by_cases g3 : r + lg ≤ sf + sl
          · rw [decide_eq_true (show sn = sn ∧ sf ≤ r ∧ r + lg ≤ sf + sl from ⟨rfl, g2, g3⟩)] at Hd
            go_wp2
            go_quiet (fail)
            go_wp2
            go_ret
            exact ⟨ret_bool (by rw [Hd.out]; rfl), bthen (hbl.alloc hbl.size _) (below_draws ⟨_, rfl⟩)⟩
          · rw [decide_eq_false (show ¬ (sn = sn ∧ sf ≤ r ∧ r + lg ≤ sf + sl) by omega)] at Hd
            go_wp2
            go_quiet (fail)
            go_wp2
            go_roundw
            case rel => exact ⟨k + 1, by omega, by go_num, Hd.out, Hbox.out.alloc _, bthen (hbl.alloc hbl.size _) (below_draws ⟨_, rfl⟩)⟩
            case measure => simp [intOf] <;> omega
        · rw [decide_eq_false (show ¬ (sn = sn ∧ sf ≤ r ∧ r + lg ≤ sf + sl) by omega)] at Hd
          go_wp2
          go_quiet (fail)
          go_wp2
          go_roundw
          case rel => exact ⟨k + 1, by omega, by go_num, Hd.out, Hbox.out.alloc _, bthen (hbl.alloc hbl.size _) (below_draws ⟨_, rfl⟩)⟩
          case measure => simp [intOf] <;> omega
      · rw [decide_eq_false (show ¬ (sn = nd ∧ sf ≤ r ∧ r + lg ≤ sf + sl) by omega)] at Hd
        have hne : (sn == nd) = false := by simpa using g1
        go_wp2
        go_quiet (fail)
        go_wp2
        go_roundw
        case rel => exact ⟨k + 1, by omega, by go_num, Hd.out, Hbox.out.alloc _, bthen (hbl.alloc hbl.size _) (below_draws ⟨_, rfl⟩)⟩
        case measure => simp [intOf] <;> omega
    · obtain rfl : k = n := by omega
      have He : Hid (L.any p = false) := by show _ = _; rw [Hacc.out, List.drop_eq_nil_of_le (by rw [Hl.out]; exact Nat.le_refl _)]; rfl
      go_wp2
      go_ret
      exact ⟨ret_bool He.out.symm, hbl⟩

set_option maxHeartbeats 1600000 in
theorem NWrong_any (P : Int) (hP : in64 P) (A : Option Addr) (n c : Nat) (L : List Slt) (B : Option Addr) (m d : Nat) (T : List Slt) (w : World) (h : RdS w A n L) (hL : ∀ s ∈ L, s.Ok) (hn : n ≤ 140737488355328) (hT : RdS w B m T) (hm : m ≤ 140737488355328) :
    Calls Try.prog 10 #[.int .i64 P, .slice A n c, .slice B m d] w fun e w' => e = .returned (.int .i64 (checkG P L T)) ∧ Below w.heap.size w w' := by
  have Hc := Lib.hid (IRight_any P hP A n c L w h hL hn)
  have Hl := Lib.hid hT.lenS
  cases hR : rightM P L
  · rw [hR] at Hc
    rw [checkG_1 hR]
    clear hR
    go_enter Try.func10, Try.ntmps10
    go_wp2_with fail
    refine Hc.out.mono ?_
    rintro e w1 ⟨rfl, hb⟩
    go_wp2
    go_ret
    exact ⟨rfl, hb⟩
  · rw [hR] at Hc
    have Hw : Hid (wrongG T = (!(decide ((m : Int) ≤ 400)) || (T.drop 0).any badT)) := by
      show _ = _
      rw [wrongG, Hl.out, List.drop_zero]
      congr 1
      rw [Bool.eq_iff_iff]
      simp
      omega
    have H2 : Hid (wrongG T = true → checkG P L T = 2) := fun e => checkG_2 hR e
    have H0 : Hid (wrongG T = false → checkG P L T = 0) := fun e => checkG_0 hR e
    clear hR
    go_enter Try.func10, Try.ntmps10
    go_wp2_with fail
    refine Hc.out.mono ?_
    rintro e w1 ⟨rfl, hb⟩
    go_wp2
    go_loopw [7, 19] (fun v i wr => ∃ (ok : Bool) (k : Nat), k ≤ m ∧ i = .int .i64 k ∧ v = .bool ok ∧ wrongG T = (!ok || (T.drop k).any badT) ∧ Below w.heap.size w wr) (fun _ i _ => m - (intOf i).toNat)
    case atStart => exact ⟨_, 0, Nat.zero_le _, rfl, rfl, Hw.out, hb⟩
    case round =>
      obtain ⟨ok, k, hk, rfl, rfl, hacc, hbl⟩ := hrel
      have Hacc := Lib.hid hacc
      clear hacc Hw
      by_cases hlt : k < m
      · obtain ⟨ad, nd, fr, lg, rfl, hx, hc0, hc1, hc2⟩ := (hT.below hbl).atS hlt
        have Hd : Hid ((T.drop k).any badT = (badT ⟨nd, fr, lg⟩ || (T.drop (k + 1)).any badT)) := by show _ = _; rw [drop_cell hx]; rfl
        clear hx
        cases ok with
        | false =>
          go_wp2
          go_roundw
          case rel => exact ⟨false, k + 1, by omega, by go_num, by rfl, Hacc.out, hbl.alloc hbl.size _⟩
          case measure => simp [intOf] <;> omega
        | true =>
          by_cases hok : 0 ≤ nd ∧ nd < 16 ∧ 0 ≤ fr ∧ fr ≤ 1099511627776 ∧ 1 ≤ lg ∧ lg ≤ 1048576
          · have Hn : Hid (wrongG T = (!true || (T.drop (k + 1)).any badT)) := by
              show _ = _
              obtain ⟨h1, h2, h3, h4, h5, h6⟩ := hok
              rw [Hacc.out, Hd.out, badT_false.2 ⟨h1, h2, h3, h4, h5, h6⟩]; rfl
            obtain ⟨h1, h2, h3, h4, h5, h6⟩ := hok
            go_wp2
            go_roundw
            case rel => exact ⟨true, k + 1, by omega, by go_num, congrArg Value.bool (by first | rfl | (simp; omega)), Hn.out, hbl.alloc hbl.size _⟩
            case measure => simp [intOf] <;> omega
          · have Hn : Hid (wrongG T = (!false || (T.drop (k + 1)).any badT)) := by
              show _ = _
              rw [Hacc.out, Hd.out, badT_true hok]; rfl
            have hq : nd < 0 ∨ (0 ≤ nd ∧ 16 ≤ nd) ∨ (0 ≤ nd ∧ nd < 16 ∧ fr < 0) ∨ (0 ≤ nd ∧ nd < 16 ∧ 0 ≤ fr ∧ 1099511627776 < fr) ∨ (0 ≤ nd ∧ nd < 16 ∧ 0 ≤ fr ∧ fr ≤ 1099511627776 ∧ lg < 1) ∨ (0 ≤ nd ∧ nd < 16 ∧ 0 ≤ fr ∧ fr ≤ 1099511627776 ∧ 1 ≤ lg ∧ 1048576 < lg) := by omega
            clear hok
            rcases hq with h1 | ⟨h1, h2⟩ | ⟨h1, h2, h3⟩ | ⟨h1, h2, h3, h4⟩ | ⟨h1, h2, h3, h4, h5⟩ | ⟨h1, h2, h3, h4, h5, h6⟩
            all_goals
              go_wp2
              go_roundw
              case rel => exact ⟨false, k + 1, by omega, by go_num, congrArg Value.bool (by first | rfl | (simp; omega)), Hn.out, hbl.alloc hbl.size _⟩
              case measure => simp [intOf] <;> omega
      · obtain rfl : k = m := by omega
        have He : Hid (wrongG T = !ok) := by show _ = _; rw [Hacc.out, List.drop_eq_nil_of_le (by rw [Hl.out]; exact Nat.le_refl _)]; cases ok <;> rfl
        cases ok with
        | true =>
          have H := Lib.hid (H0.out He.out)
          go_wp2
          go_ret
          exact ⟨ret_int H.out.symm, hbl⟩
        | false =>
          have H := Lib.hid (H2.out He.out)
          go_wp2
          go_ret
          exact ⟨ret_int H.out.symm, hbl⟩
end Go.Proofs.Ytgngpcailjocoaa
