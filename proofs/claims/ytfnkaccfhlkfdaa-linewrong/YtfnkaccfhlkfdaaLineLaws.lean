/-
  alive6 returns true; the walks of chapter 6's laws: both levels, by turns, and stuffed.
-/
import Derived.Test.YtfnkaccfhlkfdaaLineWalks2
import Derived.Test.YtfnkaccfhlkfdaaStuffWalks
namespace Go.Proofs.Ytfnkaccfhlkfdaa
open Go.RowKit
set_option linter.unusedVariables false

set_option maxHeartbeats 400000 in
theorem turnedL_any (A : Option Addr) (n c : Nat) (l : List Bool) (w : World) (h : Rd w 1 A n (l.map Value.bool)) (hn : n ≤ 175921860444160) :
    Calls Try.prog 19 #[.slice A n c] w fun e w' => ∃ v, e = .returned v ∧ Ow Value.bool w' w.heap.size 4 v (l.map (!·)) ∧ Below w.heap.size w w' := by
  have Hl := Lib.hid h.lenMap
  go_enter Try.func19, Try.ntmps19
  go_wp2_with fail
  refine (Clone_any A n c l _ h hn).mono ?_
  rintro e w1 ⟨v1, rfl, ho1, hb1⟩
  rcases Nat.eq_zero_or_pos n with hz | hz
  · subst hz
    obtain rfl : l = [] := List.eq_nil_of_length_eq_zero Hl.out
    obtain ⟨A1, c1, hv, _⟩ := ho1.form
    rw [List.length_nil] at hv
    subst hv
    go_wp2
    go_loopw [9] (fun i wr => i = .int .i64 0 ∧ wr = w1) (fun _ _ => 0)
    case atStart => exact ⟨rfl, rfl⟩
    case round =>
      obtain ⟨rfl, rfl⟩ := hrel
      go_wp2
      go_ret
      exact ⟨_, rfl, ho1, hb1⟩
  · obtain ⟨g, c1, hv, hg, hc1, hcm⟩ := ho1.head (by rw [Hl.out]; exact hz)
    rw [Hl.out] at hv hc1
    subst hv
    go_wp2
    go_loopw [9] (fun i wr => ∃ k : Nat, k ≤ n ∧ i = .int .i64 k ∧ Ow Value.bool wr w.heap.size 4 (.slice (some ⟨g, 0, none⟩) n c1) ((l.take k).map (!·) ++ l.drop k) ∧ Below w.heap.size w wr) (fun i _ => n - (intOf i).toNat)
    case atStart => exact ⟨0, Nat.zero_le _, rfl, by simpa using ho1, hb1⟩
    case round =>
      obtain ⟨k, hk, rfl, ho, hbl⟩ := hrel
      by_cases hlt : k < n
      · have hx : l[k]? = some (l[k]'(by rw [Hl.out]; exact hlt)) := List.getElem?_eq_getElem _
        have Hs := Lib.hid (set_take_drop hx (!·))
        have hat : ((l.take k).map (!·) ++ l.drop k)[k]? = some (l[k]'(by rw [Hl.out]; exact hlt)) := at_take_drop hx _
        generalize l[k]'(by rw [Hl.out]; exact hlt) = x at *
        have hc := ho.cellAt hat
        have hf := ho.freeAt k
        have hp := ho.put k (!x)
        have hbp := hbl.setCell (p := ⟨g, k, none⟩) hg (.bool (!x))
        clear hat hx
        go_wp2
        go_roundw
        case rel => exact ⟨k + 1, by omega, by go_num, by rw [← Hs.out]; exact hp, hbp⟩
        case measure => simp [intOf] <;> omega
      · have hnk : k = n := by omega
        subst hnk
        go_wp2
        go_ret
        refine ⟨_, rfl, ?_, hbl⟩
        rw [List.take_of_length_le (by rw [Hl.out]; exact Nat.le_refl _), List.drop_eq_nil_of_le (by rw [Hl.out]; exact Nat.le_refl _), List.append_nil] at ho
        exact ho

set_option maxHeartbeats 1000000 in
theorem alive6_any (w : World) : Calls Try.prog 17 #[] w fun e w' => e = .returned (.bool true) ∧ Below w.heap.size w w' := by
  have e1 : unbothM [false, true, true, false] = ([true, false], 0) := by decide
  have e2 : balM [true, true, false] = (1, 2) := by decide
  have e3 : turnM false [false, true, false] = [true, true, false] := by decide
  have E1 := Lib.hid e1; have E2 := Lib.hid e2; have E3 := Lib.hid e3
  clear e1 e2 e3
  go_enter Try.func17, Try.ntmps17
  go_wp2_with fail
  refine (Unboth_any _ 4 4 [false, true, true, false] _ (Rd.litAt Value.bool _ _ rfl) (by decide)).mono ?_
  rintro e w1 ⟨v1, rfl, ho1, hb1⟩
  rw [E1.out] at ho1 ⊢
  simp only at ho1 ⊢
  obtain ⟨A1, c1, rfl, _, _, r1⟩ := ho1.formN (n := 2) rfl
  replace hb1 := below_new hb1
  clear ho1
  go_wp2_with fail
  refine (Balance_any _ 3 3 [true, true, false] _ (Rd.litAt Value.bool _ _ rfl) (by decide)).mono ?_
  rintro e w2 ⟨rfl, hw⟩
  rw [E2.out]
  have r2 : Rd w2 1 A1 2 ([true, false].map Value.bool) := by rw [← hw]; exact r1.alloc _
  have hb2 : Below w.heap.size w w2 := by rw [← hw]; exact hb1.alloc hb1.size _
  clear r1 hb1 hw
  simp only
  go_wp2_with fail
  refine (EqualB_any A1 _ 2 c1 2 2 _ [true, false] _ (r2.alloc _) (Rd.litAt Value.bool _ _ rfl) (by decide)).mono ?_
  rintro e w3 ⟨rfl, hq⟩
  rw [show decide ([true, false] = [true, false]) = true by decide]
  have hb3 := bthen hb2 (below_new (below_draws hq))
  clear hq hb2 r2
  go_wp2_with fail
  refine (Turn_any false _ 3 3 [false, true, false] _ (Rd.litAt Value.bool _ _ rfl) (by decide)).mono ?_
  rintro e w4 ⟨v4, rfl, ho4, hb4⟩
  rw [E3.out] at ho4
  obtain ⟨A4, c4, rfl, _, _, r4⟩ := ho4.formN (n := 3) rfl
  replace hb3 := bthen hb3 (below_new hb4)
  clear ho4 hb4
  go_wp2_with fail
  refine (EqualB_any A4 _ 3 c4 3 3 _ [true, true, false] _ (r4.alloc _) (Rd.litAt Value.bool _ _ rfl) (by decide)).mono ?_
  rintro e w5 ⟨rfl, hq⟩
  rw [show decide ([true, true, false] = [true, true, false]) = true by decide]
  replace hb3 := bthen hb3 (below_new (below_draws hq))
  go_wp2
  go_ret
  exact ⟨rfl, hb3⟩

set_option maxHeartbeats 1000000 in
theorem LineBoth_walk (A0 : Option Addr) (n0 c0 : Nat) (l0 : List Bool) (w : World) (h0 : Rd w 1 A0 n0 (l0.map Value.bool)) (k0 : n0 ≤ c0) (b0 : c0 * 1 ≤ 140737488351232) :
    Calls Try.prog 4 #[.slice A0 n0 c0] w fun e w' => e = .returned (.bool true) ∧ Below w.heap.size w w' := by
  have Hl := Lib.hid h0.lenMap
  have hlen : (bothM l0).length = 2 * n0 := by rw [bothM_len, Hl.out]
  have Hun := Lib.hid (unboth_both l0)
  have hbal := bal_both l0 0 (by omega) (by omega)
  have Hlong : Hid (longM (bothM l0) ≤ 2) := long_both l0 (false, 0) 0 (by simp) (by omega)
  go_enter Try.func4, Try.ntmps4
  go_wp2_with fail
  refine (alive6_any _).mono ?_
  rintro e w1 ⟨rfl, hb1⟩
  go_wp2_with fail
  refine (Both_any A0 n0 c0 l0 _ (h0.below hb1) (by omega)).mono ?_
  rintro e w2 ⟨v2, rfl, ho2, hb2⟩
  obtain ⟨A2, c2, rfl, _, _, r2⟩ := ho2.formN hlen
  replace hb2 := bthen hb1 hb2
  clear hb1 ho2 hlen
  change (balM (bothM l0)).1 = 0 ∧ (balM (bothM l0)).2 ≤ 1 at hbal
  have hba2 := (balM_le (bothM l0)).2.2.1
  generalize bothM l0 = y at *
  go_wp2_with fail
  refine (Unboth_any A2 _ c2 y _ r2 (by omega)).mono ?_
  rintro e w3 ⟨v3, rfl, ho3, hb3⟩
  rw [Hun.out] at ho3 ⊢
  simp only at ho3 ⊢
  obtain ⟨A3, c3, rfl, _, _, r3⟩ := ho3.formN Hl.out
  replace r2 := r2.below hb3
  replace hb2 := bthen hb2 hb3
  clear ho3 hb3
  go_wp2_with fail
  refine (Balance_any A2 _ c2 y _ r2 (by omega)).mono ?_
  rintro e w4 ⟨rfl, rfl⟩
  obtain ⟨hba0, hba1⟩ := hbal
  rw [hba0]
  clear hba0
  generalize (balM y).2 = far at *
  have hbq : decide (far ≤ 1) = true := by simpa using hba1
  go_wp2_with fail
  refine (EqualB_any_same A3 A0 n0 c3 n0 c0 l0 _ r3 (h0.below hb2) (by omega)).mono ?_
  rintro e w5 ⟨rfl, hq⟩
  replace r2 := r2.below hq
  replace hb2 := bthen hb2 hq
  clear hq r3
  go_wp2_with fail
  refine (Longest_any A2 _ c2 y _ r2 (by omega)).mono ?_
  rintro e w6 ⟨rfl, hb6⟩
  have hlo := Hlong.out
  generalize longM y = lg at *
  have hlq : decide ((lg : Int) ≤ 2) = true := by simp; omega
  go_wp2
  go_ret
  exact ⟨ret_bool (by simp <;> omega), bthen hb2 hb6⟩

set_option maxHeartbeats 1000000 in
theorem LineTurn_walk (a0 : Bool) (A1 : Option Addr) (n1 c1 : Nat) (l1 : List Bool) (w : World) (h1 : Rd w 1 A1 n1 (l1.map Value.bool)) (k1 : n1 ≤ c1) (b1 : c1 * 1 ≤ 140737488351232) :
    Calls Try.prog 5 #[.bool a0, .slice A1 n1 c1] w fun e w' => e = .returned (.bool true) ∧ Below w.heap.size w w' := by
  have Hl := Lib.hid h1.lenMap
  have hlen : (turnM a0 l1).length = n1 := by rw [turnM_len, Hl.out]
  have hlen2 : (unturnM a0 l1).length = n1 := by rw [unturnM_len, Hl.out]
  have Hun := Lib.hid (unturn_turn l1 a0)
  have Htu := Lib.hid (turn_unturn l1 a0)
  have Hnot := Lib.hid (turn_not l1 a0)
  go_enter Try.func5, Try.ntmps5
  go_wp2_with fail
  refine (alive6_any _).mono ?_
  rintro e w1 ⟨rfl, hb1⟩
  go_wp2_with fail
  refine (Turn_any a0 A1 n1 c1 l1 _ (h1.below hb1) (by omega)).mono ?_
  rintro e w2 ⟨v2, rfl, ho2, hb2⟩
  obtain ⟨A2, c2, rfl, _, _, r2⟩ := ho2.formN hlen
  replace hb2 := bthen hb1 hb2
  clear hb1 ho2
  generalize turnM a0 l1 = y at *
  go_wp2_with fail
  refine (Unturn_any a0 A2 n1 c2 y _ r2 (by omega)).mono ?_
  rintro e w3 ⟨v3, rfl, ho3, hb3⟩
  rw [Hun.out] at ho3
  obtain ⟨A3, c3, rfl, _, _, r3⟩ := ho3.formN Hl.out
  replace r2 := r2.below hb3
  replace hb2 := bthen hb2 hb3
  clear ho3 hb3
  go_wp2_with fail
  refine (EqualB_any_same A3 A1 n1 c3 n1 c1 l1 _ r3 (h1.below hb2) (by omega)).mono ?_
  rintro e w4 ⟨rfl, hq⟩
  replace r2 := r2.below hq
  replace hb2 := bthen hb2 hq
  clear hq r3
  go_wp2_with fail
  refine (Turn_any (!a0) A1 n1 c1 l1 _ (h1.below hb2) (by omega)).mono ?_
  rintro e w5 ⟨v5, rfl, ho5, hb5⟩
  rw [Hnot.out] at ho5
  obtain ⟨A5, c5, rfl, _, _, r5⟩ := ho5.formN (n := n1) (by simp [hlen])
  replace r2 := r2.below hb5
  replace hb2 := bthen hb2 hb5
  clear ho5 hb5
  go_wp2_with fail
  refine (turnedL_any A2 n1 c2 y _ r2 (by omega)).mono ?_
  rintro e w6 ⟨v6, rfl, ho6, hb6⟩
  obtain ⟨A6, c6, rfl, _, _, r6⟩ := ho6.formN (n := n1) (by simp [hlen])
  replace r5 := r5.below hb6
  replace hb2 := bthen hb2 hb6
  clear ho6 hb6 r2
  go_wp2_with fail
  refine (EqualB_any_same A5 A6 n1 c5 n1 c6 (y.map (!·)) _ r5 r6 (by omega)).mono ?_
  rintro e w7 ⟨rfl, hq⟩
  replace hb2 := bthen hb2 hq
  clear hq r5 r6
  go_wp2_with fail
  refine (Unturn_any a0 A1 n1 c1 l1 _ (h1.below hb2) (by omega)).mono ?_
  rintro e w8 ⟨v8, rfl, ho8, hb8⟩
  obtain ⟨A8, c8, rfl, _, _, r8⟩ := ho8.formN hlen2
  replace hb2 := bthen hb2 hb8
  clear ho8 hb8
  generalize unturnM a0 l1 = z at *
  go_wp2_with fail
  refine (Turn_any a0 A8 n1 c8 z _ r8 (by omega)).mono ?_
  rintro e w9 ⟨v9, rfl, ho9, hb9⟩
  rw [Htu.out] at ho9
  obtain ⟨A9, c9, rfl, _, _, r9⟩ := ho9.formN Hl.out
  replace hb2 := bthen hb2 hb9
  clear ho9 hb9 r8
  go_wp2_with fail
  refine (EqualB_any_same A9 A1 n1 c9 n1 c1 l1 _ r9 (h1.below hb2) (by omega)).mono ?_
  rintro e w10 ⟨rfl, hq⟩
  replace hb2 := bthen hb2 hq
  go_wp2
  go_ret
  exact ⟨rfl, hb2⟩

set_option maxHeartbeats 1000000 in
theorem LineStuffed_walk (a0 : Bool) (A1 : Option Addr) (n1 c1 : Nat) (l1 : List Bool) (w : World) (h1 : Rd w 1 A1 n1 (l1.map Value.bool)) (k1 : n1 ≤ c1) (b1 : c1 * 1 ≤ 140737488351232) :
    Calls Try.prog 7 #[.bool a0, .slice A1 n1 c1] w fun e w' => e = .returned (.bool true) ∧ Below w.heap.size w w' := by
  have Hl := Lib.hid h1.lenMap
  have hsl := stuffM_len4 l1
  rw [Hl.out] at hsl
  have Hlong := Lib.hid (long_turn_stuff l1 a0)
  have Hus := Lib.hid (unstuff_stuff l1)
  go_enter Try.func7, Try.ntmps7
  go_wp2_with fail
  refine (alive6_any _).mono ?_
  rintro e w1 ⟨rfl, hb1⟩
  go_wp2_with fail
  refine (Stuff_any A1 n1 c1 l1 _ (h1.below hb1) (by omega)).mono ?_
  rintro e w2 ⟨v2, rfl, ho2, hb2⟩
  obtain ⟨m, hm⟩ : ∃ m, (stuffM l1).length = m := ⟨_, rfl⟩
  rw [hm] at hsl
  obtain ⟨A2, c2, rfl, _, _, r2⟩ := ho2.formN hm
  replace hb2 := bthen hb1 hb2
  clear hb1 ho2
  generalize stuffM l1 = s at *
  have hlen : (turnM a0 s).length = m := by rw [turnM_len, hm]
  have Hun := Lib.hid (unturn_turn s a0)
  go_wp2_with fail
  refine (Turn_any a0 A2 m c2 s _ r2 (by omega)).mono ?_
  rintro e w3 ⟨v3, rfl, ho3, hb3⟩
  obtain ⟨A3, c3, rfl, _, _, r3⟩ := ho3.formN hlen
  replace hb2 := bthen hb2 hb3
  clear ho3 hb3 r2
  generalize turnM a0 s = y at *
  go_wp2_with fail
  refine (Unturn_any a0 A3 m c3 y _ r3 (by omega)).mono ?_
  rintro e w4 ⟨v4, rfl, ho4, hb4⟩
  rw [Hun.out] at ho4
  obtain ⟨A4, c4, rfl, _, _, r4⟩ := ho4.formN hm
  replace r3 := r3.below hb4
  replace hb2 := bthen hb2 hb4
  clear ho4 hb4
  go_wp2_with fail
  refine (Unstuff_any A4 m c4 s _ r4 (by omega)).mono ?_
  rintro e w5 ⟨v5, rfl, ho5, hb5⟩
  rw [Hus.out] at ho5 ⊢
  simp only at ho5 ⊢
  obtain ⟨A5, c5, rfl, _, _, r5⟩ := ho5.formN Hl.out
  replace r3 := r3.below hb5
  replace hb2 := bthen hb2 hb5
  clear ho5 hb5 r4
  go_wp2_with fail
  refine (Longest_any A3 m c3 y _ r3 (by omega)).mono ?_
  rintro e w6 ⟨rfl, hb6⟩
  have hlo := Hlong.out
  generalize longM y = lg at *
  have hlq : decide ((lg : Int) ≤ 6) = true := by simp; omega
  replace r5 := r5.below hb6
  replace hb2 := bthen hb2 hb6
  clear hb6 r3
  go_wp2_with fail
  refine (EqualB_any_same A5 A1 n1 c5 n1 c1 l1 _ r5 (h1.below hb2) (by omega)).mono ?_
  rintro e w7 ⟨rfl, hq⟩
  replace hb2 := bthen hb2 hq
  go_wp2
  go_ret
  exact ⟨rfl, hb2⟩
end Go.Proofs.Ytfnkaccfhlkfdaa
