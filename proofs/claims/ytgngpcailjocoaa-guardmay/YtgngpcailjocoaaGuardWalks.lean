/-
  Contracts of guard's functions isWrong, overlap, fits, check, May, for every input.
-/
import Derived.Test.YtgngpcailjocoaaGuardMath
import Derived.Test.YtgngpcailjocoaaSlotsWalks2
import Derived.Test.YtgngpcailjocoaaSlicesS
import Derived.Test.YtgngpcailjocoaaRoom
namespace Go.Proofs.Ytgngpcailjocoaa
open Go.RowKit
set_option linter.unusedVariables false

theorem below_one {w : World} (o : Obj) : Below w.heap.size w (w.alloc o) := (Below.refl _ _).alloc (Nat.le_refl _) o
theorem below_two {w : World} (o o' : Obj) : Below w.heap.size w ((w.alloc o).alloc o') := below_new (below_one o')

set_option maxHeartbeats 800000 in
theorem isWrong_any (nd fr lg : Int) (w : World) : Calls Try.prog 24 #[.agg #[.int .i64 nd, .int .i64 fr, .int .i64 lg]] w fun e w' => e = .returned (.bool (badT ⟨nd, fr, lg⟩)) ∧ Below w.heap.size w w' := by
  by_cases hok : 0 ≤ nd ∧ nd < 16 ∧ 0 ≤ fr ∧ fr ≤ 1099511627776 ∧ 1 ≤ lg ∧ lg ≤ 1048576
  · obtain ⟨h1, h2, h3, h4, h5, h6⟩ := hok
    rw [badT_false.2 ⟨h1, h2, h3, h4, h5, h6⟩]
    go_enter Try.func24, Try.ntmps24
    go_wp2
    go_ret
    exact ⟨ret_bool (by simp; omega), below_one _⟩
  · rw [badT_true hok]
    have hc : nd < 0 ∨ (0 ≤ nd ∧ 16 ≤ nd) ∨ (0 ≤ nd ∧ nd < 16 ∧ fr < 0) ∨ (0 ≤ nd ∧ nd < 16 ∧ 0 ≤ fr ∧ 1099511627776 < fr) ∨ (0 ≤ nd ∧ nd < 16 ∧ 0 ≤ fr ∧ fr ≤ 1099511627776 ∧ lg < 1) ∨ (0 ≤ nd ∧ nd < 16 ∧ 0 ≤ fr ∧ fr ≤ 1099511627776 ∧ 1 ≤ lg ∧ 1048576 < lg) := by omega
    clear hok
    rcases hc with h1 | ⟨h1, h2⟩ | ⟨h1, h2, h3⟩ | ⟨h1, h2, h3, h4⟩ | ⟨h1, h2, h3, h4, h5⟩ | ⟨h1, h2, h3, h4, h5, h6⟩
    all_goals
      go_enter Try.func24, Try.ntmps24
      go_wp2
      go_ret
      exact ⟨rfl, below_one _⟩

set_option maxHeartbeats 800000 in
theorem overlap_any (t u : Slt) (ht : OkT t) (hu : OkT u) (w : World) : Calls Try.prog 19 #[.agg #[.int .i64 t.nd, .int .i64 t.fr, .int .i64 t.lg], .agg #[.int .i64 u.nd, .int .i64 u.fr, .int .i64 u.lg]] w fun e w' => e = .returned (.bool (overM t u)) ∧ Below w.heap.size w w' := by
  obtain ⟨nd, fr, lg⟩ := t
  obtain ⟨nd', fr', lg'⟩ := u
  obtain ⟨_, _, h3, h4, h5, h6⟩ := ht
  obtain ⟨_, _, g3, g4, g5, g6⟩ := hu
  simp only at *
  by_cases h1 : fr < fr' + lg'
  · by_cases h2 : fr' < fr + lg
    · rw [show overM ⟨nd, fr, lg⟩ ⟨nd', fr', lg'⟩ = true by simp only [overM, decide_eq_true_eq]; exact ⟨h1, h2⟩]
      go_enter Try.func19, Try.ntmps19
      go_wp2
      go_ret
      exact ⟨rfl, below_two _ _⟩
    · rw [show overM ⟨nd, fr, lg⟩ ⟨nd', fr', lg'⟩ = false by simp only [overM, decide_eq_false_iff_not]; omega]
      go_enter Try.func19, Try.ntmps19
      go_wp2
      go_ret
      exact ⟨rfl, below_two _ _⟩
  · rw [show overM ⟨nd, fr, lg⟩ ⟨nd', fr', lg'⟩ = false by simp only [overM, decide_eq_false_iff_not]; omega]
    go_enter Try.func19, Try.ntmps19
    go_wp2
    go_ret
    exact ⟨rfl, below_two _ _⟩

set_option maxHeartbeats 800000 in
theorem fitsF_any (b1 b2 : Nat) (nd fr lg r : Int) (s : Slt) (w : World) (c0 : w.cell? ⟨b1, 0, none⟩ = some (.int .i64 nd)) (c2 : w.cell? ⟨b1, 2, none⟩ = some (.int .i64 lg)) (c3 : w.cell? ⟨b2, 0, none⟩ = some (.int .i64 r))
    (r0 : 0 ≤ r) (r1 : r < 1048576) (l0 : 1 ≤ lg) (l1 : lg ≤ 1048576) (s0 : 0 ≤ s.fr) (s1 : 1 ≤ s.lg) (s2 : s.fr + s.lg ≤ 1048576) :
    Calls Try.prog 26 #[.agg #[.int .i64 s.nd, .int .i64 s.fr, .int .i64 s.lg], .pointer (some ⟨b1, 0, none⟩), .pointer (some ⟨b2, 0, none⟩)] w fun e w' => e = .returned (.bool (decide (s.nd = nd ∧ s.fr ≤ r ∧ r + lg ≤ s.fr + s.lg))) ∧ Below w.heap.size w w' := by
  obtain ⟨sn, sf, sl⟩ := s
  simp only at *
  have hb1 := World.block_lt_of_cell? w _ c0
  have hb2 := World.block_lt_of_cell? w _ c3
  simp only at hb1 hb2
  by_cases h1 : sn = nd
  · subst h1
    by_cases h2 : sf ≤ r
    · by_cases h3 : r + lg ≤ sf + sl
      · rw [decide_eq_true (show sn = sn ∧ sf ≤ r ∧ r + lg ≤ sf + sl from ⟨rfl, h2, h3⟩)]
        go_enter Try.func26, Try.ntmps26
        go_wp2
        go_ret
        exact ⟨rfl, below_one _⟩
      · rw [decide_eq_false (show ¬ (sn = sn ∧ sf ≤ r ∧ r + lg ≤ sf + sl) by omega)]
        go_enter Try.func26, Try.ntmps26
        go_wp2
        go_ret
        exact ⟨rfl, below_one _⟩
    · rw [decide_eq_false (show ¬ (sn = sn ∧ sf ≤ r ∧ r + lg ≤ sf + sl) by omega)]
      go_enter Try.func26, Try.ntmps26
      go_wp2
      go_ret
      exact ⟨rfl, below_one _⟩
  · rw [decide_eq_false (show ¬ (sn = nd ∧ sf ≤ r ∧ r + lg ≤ sf + sl) by omega)]
    have hne : (sn == nd) = false := by simpa using h1
    go_enter Try.func26, Try.ntmps26
    go_wp2
    go_ret
    exact ⟨rfl, below_one _⟩
theorem enterFits : ∀ args w, (callFunc 26 args).run Try.prog w = .ok (.enter 26 args) w := enters_of Try.func26 (by kernel_rfl) rfl
theorem enterWrong : ∀ args w, (callFunc 24 args).run Try.prog w = .ok (.enter 24 args) w := enters_of Try.func24 (by kernel_rfl) rfl

set_option maxHeartbeats 800000 in
theorem fits_any (P : Int) (A : Option Addr) (n c : Nat) (L : List Slt) (nd fr lg : Int) (w : World) (h : RdS w A n L) (hR : rightM P L = true) (ht : OkT ⟨nd, fr, lg⟩) :
    Calls Try.prog 17 #[.int .i64 P, .slice A n c, .agg #[.int .i64 nd, .int .i64 fr, .int .i64 lg]] w fun e w' => e = .returned (.bool (fitsM P L ⟨nd, fr, lg⟩)) ∧ Below w.heap.size w w' := by
  obtain ⟨⟨hp1, hp2, hn4⟩, hr⟩ := rightM_true.1 hR
  rw [h.lenS] at hn4
  obtain ⟨h1, h2, h3, h4, h5, h6⟩ := ht
  simp only at *
  have r0 := Int.emod_nonneg fr (show P ≠ 0 by omega)
  have r1 := Int.emod_lt_of_pos fr (show 0 < P by omega)
  have hrem := rem_pos (P := P) h3
  have HF : Hid (fitsM P L ⟨nd, fr, lg⟩ = L.any (fun s => decide (s.nd = nd ∧ s.fr ≤ fr % P ∧ fr % P + lg ≤ s.fr + s.lg))) := rfl
  have Hr := Lib.hid hr
  generalize fr % P = r at *
  clear hR hr
  have HC : Hid (∀ W (hb : Below w.heap.size w W) (b1 b2 : Nat), Box W b1 30 [.int .i64 nd, .int .i64 fr, .int .i64 lg] → Box W b2 3 [.int .i64 r] →
      Calls Try.prog 25 #[.slice A n c, .func (.func 26) #[] #[.pointer (some ⟨b1, 0, none⟩), .pointer (some ⟨b2, 0, none⟩)]] W fun e w' => e = .returned (.bool (L.any (fun s => decide (s.nd = nd ∧ s.fr ≤ r ∧ r + lg ≤ s.fr + s.lg)))) ∧ Below W.heap.size W w') := by
    intro W hb b1 b2 x1 x2
    refine ContainsFuncS_any 26 _ enterFits _ A n c L W (h.below hb) (fun s hs W' hb' => ?_) (by omega)
    obtain ⟨_, _, q3, q4, q5⟩ := right_mem Hr.out hs
    have x1' := x1.below hb' x1.lt
    have x2' := x2.below hb' x2.lt
    exact fitsF_any b1 b2 nd fr lg r s W' (x1'.cell 0 rfl) (x1'.cell 2 rfl) (x2'.cell 0 rfl) r0 (by omega) h5 h6 q4 q3 (by omega)
  have x1 := Box.new w 30 [.int .i64 nd, .int .i64 fr, .int .i64 lg]
  have x2 := Box.new (w.alloc (.cells #[.int .i64 nd, .int .i64 fr, .int .i64 lg] 30)) 3 [.int .i64 r]
  rw [World.size_alloc] at x2
  have Hcall := Lib.hid (HC.out _ (below_two _ _) _ _ (x1.alloc _) x2)
  rw [HF.out]
  clear HF HC x1 x2
  generalize L.any (fun s => decide (s.nd = nd ∧ s.fr ≤ r ∧ r + lg ≤ s.fr + s.lg)) = v at *
  go_enter Try.func17, Try.ntmps17
  go_wp2_with fail
  refine (Calls.mono Hcall.out ?_)
  rintro e w' ⟨rfl, hb⟩
  go_wp2
  go_ret
  exact ⟨rfl, below_new (below_new hb)⟩

set_option maxHeartbeats 800000 in
theorem checkG_any (P : Int) (hP : in64 P) (A : Option Addr) (n c : Nat) (L : List Slt) (B : Option Addr) (m d : Nat) (T : List Slt) (w : World) (h : RdS w A n L) (hL : ∀ s ∈ L, s.Ok) (hn : n ≤ 140737488355328) (hT : RdS w B m T) (hm : m ≤ 140737488355328) :
    Calls Try.prog 16 #[.int .i64 P, .slice A n c, .slice B m d] w fun e w' => e = .returned (.int .i64 (checkG P L T)) ∧ Below w.heap.size w w' := by
  have Hc := Lib.hid (Right_any P hP A n c L w h hL hn)
  have Hl := Lib.hid hT.lenS
  cases hR : rightM P L
  · rw [hR] at Hc
    rw [checkG_1 hR]
    clear hR
    go_enter Try.func16, Try.ntmps16
    go_wp2_with fail
    refine Hc.out.mono ?_
    rintro e w1 ⟨rfl, hb⟩
    go_wp2
    go_ret
    exact ⟨rfl, hb⟩
  · rw [hR] at Hc
    by_cases hm4 : 400 < m
    · rw [checkG_2 hR (by rw [wrongG, Hl.out, decide_eq_true hm4]; rfl)]
      clear hR
      go_enter Try.func16, Try.ntmps16
      go_wp2_with fail
      refine Hc.out.mono ?_
      rintro e w1 ⟨rfl, hb⟩
      go_wp2
      go_ret
      exact ⟨rfl, hb⟩
    · have HC := Lib.hid (fun (W : World) (hb : Below w.heap.size w W) => ContainsFuncT_any 24 #[] enterWrong badT B m d T W (hT.below hb) (fun x _ W' _ => isWrong_any x.nd x.fr x.lg W') (by omega))
      have hw : wrongG T = T.any badT := by rw [wrongG, Hl.out, decide_eq_false hm4]; rfl
      have hd : decide ((m : Int) > 400) = false := decide_eq_false (by omega)
      cases ha : T.any badT
      · rw [ha] at HC hw
        rw [checkG_0 hR hw]
        clear hR ha hw
        go_enter Try.func16, Try.ntmps16
        go_wp2_with fail
        refine Hc.out.mono ?_
        rintro e w1 ⟨rfl, hb⟩
        go_wp2_with fail
        refine (HC.out w1 hb).mono ?_
        rintro e w2 ⟨rfl, hb2⟩
        go_wp2
        go_ret
        exact ⟨rfl, bthen hb hb2⟩
      · rw [ha] at HC hw
        rw [checkG_2 hR hw]
        clear hR ha hw
        go_enter Try.func16, Try.ntmps16
        go_wp2_with fail
        refine Hc.out.mono ?_
        rintro e w1 ⟨rfl, hb⟩
        go_wp2_with fail
        refine (HC.out w1 hb).mono ?_
        rintro e w2 ⟨rfl, hb2⟩
        go_wp2
        go_ret
        exact ⟨rfl, bthen hb hb2⟩
end Go.Proofs.Ytgngpcailjocoaa
