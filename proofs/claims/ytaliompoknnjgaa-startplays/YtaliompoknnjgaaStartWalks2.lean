/-
  Contracts of package start: areCloser, Wrong. No statement of the seat is here.
-/
import Derived.Test.YtaliompoknnjgaaStartWalks
import Derived.Test.YtaliompoknnjgaaSortI
import Derived.Deep.QuietTactic
import Derived.BigQuiet
namespace Go.Proofs.Ytaliompoknnjgaa
open Go.RowKit
set_option maxRecDepth 20000
set_option linter.unusedVariables false

set_option maxHeartbeats 800000 in
theorem areCloser_any (A : Option Addr) (n c : Nat) (l : List Int) (q : Int) (w : World) (h : Rd w 1 A n (l.map (Value.int .i64))) (h0 : 0 < n) (hn : n ≤ 400) (hq : 1 ≤ q) (hq2 : q ≤ 1000) (hin : ∀ x ∈ l, inWait x) :
    Calls Try.prog 20 #[.slice A n c, .int .i64 q] w fun e w' => e = .returned (.bool (!decide (l.Pairwise (farS q)))) ∧ Below w.heap.size w w' := by
  have Hlen := Lib.hid h.lenMap
  have Hsl : Hid ((sortI l).length = n) := by show _ = _; rw [sortI_length]; exact Hlen.out
  have Hrise := Lib.hid (sortI_rises l)
  have Hfar := Lib.hid (sort_far l q)
  have Hin : Hid (∀ x ∈ sortI l, 1 ≤ x ∧ x ≤ 1048576) := fun x hx => hin x ((sortI_is l).mem_iff.1 hx)
  have C := Lib.hid (CloneI_any A n c l w h (by omega))
  clear h hin
  go_enter Try.func20, Try.ntmps20
  go_wp2_with fail
  refine C.out.mono ?_
  rintro e w2 ⟨v2, rfl, ho2, hb2⟩
  go_wp2_with fail
  refine (Sort_own ho2 (by rw [Hlen.out]; omega)).mono ?_
  rintro e w3 ⟨rfl, ho3, hm3⟩
  have hb3 := hm3.below hb2 hb2.size ho2.block
  obtain ⟨A3, c3, rfl, _, _, hr3⟩ := ho3.formN Hsl.out
  clear ho2 hb2 hm3 ho3 C
  generalize sortI l = s at *
  go_wp2
  go_loopw [6] (fun i wr => ∃ j k : Nat, k ≤ n ∧ Hid (k = j + 1) ∧ i = .int .i64 k ∧ (s.take (j + 1)).Pairwise (farS q) ∧ Below w3.heap.size w3 wr) (fun i _ => n - (intOf i).toNat)
  case atStart =>
    refine ⟨0, 1, by omega, rfl, rfl, ?_, Below.refl _ _⟩
    cases s with
    | nil => exact .nil
    | cons a s => simp
  case round =>
    obtain ⟨j, k, hk, Hk, rfl, hp, hbl⟩ := hrel
    have Hp := Lib.hid hp
    clear hp
    by_cases hlt : k < n
    · have hr := hr3.below hbl
      obtain ⟨ad, a, rfl, ha, hca⟩ := hr.atMap (show j < n by have := Hk.out; omega)
      obtain ⟨_, b, e, hb, hcb⟩ := hr.atMap hlt
      cases e
      have e1 : (k : Int) - 1 = j := by have := Hk.out; omega
      have e2 : j < n := by have := Hk.out; omega
      rw [Hk.out] at hb
      obtain ⟨a1, a2⟩ := Hin.out a (List.mem_of_getElem? ha)
      obtain ⟨b1, b2⟩ := Hin.out b (List.mem_of_getElem? hb)
      have Ha := Lib.hid ha
      have Hb := Lib.hid hb
      clear ha hb hr
      by_cases hab : b - a < q
      · have H : Hid (decide (l.Pairwise (farS q)) = false) := by
          show _ = _
          exact decide_eq_false fun h => far_not Hrise.out hq Ha.out Hb.out hab (Hfar.out.2 h)
        clear Ha Hb Hp
        go_wp2
        go_quiet (fail)
        go_wp2
        go_ret
        refine ⟨ret_bool (by rw [H.out]; rfl), bthen hb3 (bthen hbl ?_)⟩
        exact below_draws ⟨_, rfl⟩
      · have H : Hid ((s.take (j + 1 + 1)).Pairwise (farS q)) := far_next Hrise.out Ha.out Hb.out Hp.out (by omega)
        clear Ha Hb Hp
        go_wp2
        go_quiet (fail)
        go_wp2
        go_roundw
        case rel => exact ⟨j + 1, k + 1, by omega, by show k + 1 = j + 1 + 1; rw [Hk.out], by go_num, H.out, bthen hbl (below_draws ⟨_, rfl⟩)⟩
        case measure => simp [intOf] <;> omega
    · have H : Hid (decide (l.Pairwise (farS q)) = true) := by
        show _ = _
        refine decide_eq_true (Hfar.out.1 ?_)
        have := Hp.out
        rwa [List.take_of_length_le (by rw [Hsl.out, ← Hk.out]; omega)] at this
      go_wp2
      go_ret
      exact ⟨ret_bool (by rw [H.out]; rfl), bthen hb3 hbl⟩

set_option maxHeartbeats 800000 in
theorem StartWrong_any (A : Option Addr) (n c : Nat) (on : List Int) (B : Option Addr) (n2 c2 : Nat) (waits : List Int) (late : Int) (w : World) (h : Rd w 1 A n (on.map (Value.int .i64))) (h2 : Rd w 1 B n2 (waits.map (Value.int .i64))) (hn : n ≤ 4611686018427387904) (hn2 : n2 ≤ 4611686018427387904) :
    Calls Try.prog 10 #[.slice A n c, .slice B n2 c2, .int .i64 late] w fun e w' => e = .returned (.int .i64 (wrongS on waits late)) ∧ Below w.heap.size w w' := by
  have hl := h.lenMap
  have hl2 := h2.lenMap
  by_cases e1 : n = n2
  · subst e1
    by_cases k : n = 0 ∨ 16 < n ∨ late < 1 ∨ 1000 < late
    · have H := Lib.hid (wrongS_many (late := late) (hl.trans hl2.symm) (by rw [hl]; exact k))
      clear h h2 hl hl2
      have k' : n = 0 ∨ (¬ n = 0 ∧ 16 < n) ∨ (¬ n = 0 ∧ ¬ 16 < n ∧ late < 1) ∨ (¬ n = 0 ∧ ¬ 16 < n ∧ ¬ late < 1 ∧ 1000 < late) := by omega
      clear k
      rcases k' with k1 | ⟨k1, k2⟩ | ⟨k1, k2, k3⟩ | ⟨k1, k2, k3, k4⟩
      all_goals
        go_enter Try.func10, Try.ntmps10
        go_wp2
        go_ret
        exact ⟨ret_int H.out.symm, Below.refl _ _⟩
    · have k1 : 0 < n := by omega
      have k2 : n ≤ 16 := by omega
      have k3 : 1 ≤ late := by omega
      have k4 : late ≤ 1000 := by omega
      have k0 : ((n : Int) == 0) = false := by rw [beq_eq_false_iff_ne]; omega
      clear k
      have Hr := Lib.hid (wrongS_range (late := late) (hl.trans hl2.symm))
      have Hf := Lib.hid (wrongS_far (late := late) (hl.trans hl2.symm) (by omega) (by omega) k3 k4)
      have D1 := Lib.hid (areBetween_any A n c on 0 1048576 w h k1 hn)
      have D2 := Lib.hid (fun (W : World) (hb : Below w.heap.size w W) => areBetween_any B n c2 waits 1 1048576 W (h2.below hb) k1 hn)
      have D3 := Lib.hid (fun (hin : ∀ x ∈ waits, inWait x) (W : World) (hb : Below w.heap.size w W) => areCloser_any B n c2 waits late W (h2.below hb) k1 (by omega) k3 k4 hin)
      clear h h2
      by_cases g1 : ∀ x ∈ on, 0 ≤ x ∧ x ≤ 1048576
      · rw [decide_eq_true g1] at D1
        by_cases g2 : ∀ x ∈ waits, 1 ≤ x ∧ x ≤ 1048576
        · rw [decide_eq_true g2] at D2
          have D3 := Lib.hid (D3.out g2)
          have H := Lib.hid (Hf.out g1 g2)
          by_cases g3 : waits.Pairwise (farS late)
          · rw [decide_eq_true g3] at D3
            rw [if_pos g3] at H
            clear Hr Hf g1 g2 g3 hl hl2
            go_enter Try.func10, Try.ntmps10
            go_wp2_with fail
            refine D1.out.mono ?_
            rintro e w1 ⟨rfl, rfl⟩
            go_wp2_with fail
            refine (D2.out _ (Below.refl _ _)).mono ?_
            rintro e w1 ⟨rfl, rfl⟩
            go_wp2_with fail
            refine (D3.out _ (Below.refl _ _)).mono ?_
            rintro e w1 ⟨rfl, hb1⟩
            go_wp2
            go_ret
            exact ⟨ret_int H.out.symm, hb1⟩
          · rw [decide_eq_false g3] at D3
            rw [if_neg g3] at H
            clear Hr Hf g1 g2 g3 hl hl2
            go_enter Try.func10, Try.ntmps10
            go_wp2_with fail
            refine D1.out.mono ?_
            rintro e w1 ⟨rfl, rfl⟩
            go_wp2_with fail
            refine (D2.out _ (Below.refl _ _)).mono ?_
            rintro e w1 ⟨rfl, rfl⟩
            go_wp2_with fail
            refine (D3.out _ (Below.refl _ _)).mono ?_
            rintro e w1 ⟨rfl, hb1⟩
            go_wp2
            go_ret
            exact ⟨ret_int H.out.symm, hb1⟩
        · rw [decide_eq_false g2] at D2
          have H := Lib.hid (Hr.out fun h => g2 h.2)
          clear Hr Hf g1 g2 D3 hl hl2
          go_enter Try.func10, Try.ntmps10
          go_wp2_with fail
          refine D1.out.mono ?_
          rintro e w1 ⟨rfl, rfl⟩
          go_wp2_with fail
          refine (D2.out _ (Below.refl _ _)).mono ?_
          rintro e w1 ⟨rfl, rfl⟩
          go_wp2
          go_ret
          exact ⟨ret_int H.out.symm, Below.refl _ _⟩
      · rw [decide_eq_false g1] at D1
        have H := Lib.hid (Hr.out fun h => g1 h.1)
        clear Hr Hf g1 D2 D3 hl hl2
        go_enter Try.func10, Try.ntmps10
        go_wp2_with fail
        refine D1.out.mono ?_
        rintro e w1 ⟨rfl, rfl⟩
        go_wp2
        go_ret
        exact ⟨ret_int H.out.symm, Below.refl _ _⟩
  · have H := Lib.hid (wrongS_form (on := on) (waits := waits) (late := late) (by rw [hl, hl2]; exact e1))
    clear h h2 hl hl2
    go_enter Try.func10, Try.ntmps10
    go_wp2
    go_ret
    exact ⟨ret_int H.out.symm, Below.refl _ _⟩
end Go.Proofs.Ytaliompoknnjgaa
