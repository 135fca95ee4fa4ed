/-
  slices.Clone of operations; the law EvqAll.
-/
import Derived.Test.YtlanmehbcpgoaaaEvqLaws3
import Derived.Lib.SliceRun
namespace Go.Proofs.Ytlanmehbcpgoaaa
open Go.RowKit
set_option linter.unusedVariables false

set_option maxHeartbeats 400000 in
theorem CloneOp_any (A : Option Addr) (n c : Nat) (l : List EvO) (w : World) (h : RdG opC 2 w A n l) (hn : n ≤ 8796093022208) :
    Calls Try.prog 15 #[.slice A n c] w fun e w' => ∃ v, e = .returned v ∧ OwG opC 2 w' w.heap.size 36 v l ∧ Below w.heap.size w w' := by
  have hq := fun (W : World) => Lib.run_eql_slice_nil (P := Try.prog) W 22 36 A n c 0 0 Try.underlying22
  go_enter Try.func15, Try.ntmps15
  cases A with
  | none =>
    go_wp2
    go_ret
    have hn0 : n = 0 := by
      rcases Nat.eq_zero_or_pos n with h0 | h0
      · exact h0
      · obtain ⟨ad, e, _⟩ := h.2 h0; cases e
    obtain rfl : l = [] := List.eq_nil_of_length_eq_zero ((RdG.len opK h).trans hn0)
    exact ⟨_, rfl, OwG.nil _ _ _, Below.refl _ _⟩
  | some ad =>
    go_wp2_with (at_builtin; go_must (refine wpList_apG opK _ elOp rfl rfl w.heap.size (.slice (some ⟨w.heap.size, 0, none⟩) 0 0) [] rfl (OwG.empty _ _ (Nat.le_refl _)) _ _ _ l rfl (h.alloc _) (le_alloc (Nat.le_refl _)) (by simp; omega) (by simp; omega) ?_; intro v1 w1 ho1 hm1))
    go_ret
    exact ⟨_, rfl, ho1, hm1.below ((Below.refl _ _).alloc (Nat.le_refl _) _) (le_alloc (Nat.le_refl _)) (new_block (Nat.le_refl _))⟩
theorem slotsTakes_snoc : ∀ m, slotsTakes (m + 1) = slotsTakes m ++ [⟨2, 0⟩, ⟨3, 0⟩]
  | 0 => rfl
  | m + 1 => by
    show (⟨2, 0⟩ : EvO) :: ⟨3, 0⟩ :: slotsTakes (m + 1) = ⟨2, 0⟩ :: ⟨3, 0⟩ :: (slotsTakes m ++ [⟨2, 0⟩, ⟨3, 0⟩])
    rw [slotsTakes_snoc m]
theorem slotsTakes_len : ∀ m, (slotsTakes m).length = 2 * m
  | 0 => rfl
  | m + 1 => by
    rw [slotsTakes, List.length_cons, List.length_cons, slotsTakes_len m]
    omega
set_option maxHeartbeats 1600000 in
theorem EvqAll_walk (A0 : Option Addr) (n0 c0 : Nat) (l0 : List EvO) (w : World) (h0 : RdG opC 2 w A0 n0 l0) (q0 : ∀ s ∈ l0, in64 s.kd ∧ in64 s.n) (k0 : n0 ≤ c0) (b0 : c0 * 16 ≤ 140737488351232) :
    Calls Try.prog 5 #[.slice A0 n0 c0] w fun e w' => e = .returned (.bool true) ∧ Below w.heap.size w w' := by
  have hl0 := RdG.len opK h0
  have C0 := Lib.hid (alive18_any w)
  have CC := Lib.hid (fun (W : World) (hW : RdG opC 2 W A0 n0 l0) => CloneOp_any A0 n0 c0 l0 W hW (by omega))
  have C1 := Lib.hid (fun (W : World) (A : Option Addr) (c : Nat) (hW : RdG opC 2 W A (n0 + 24) (l0 ++ slotsTakes 12)) => Play_any A (n0 + 24) c (l0 ++ slotsTakes 12) W hW (by omega))
  have CH := Lib.hid (fun (W : World) (A : Option Addr) (c : Nat) (hW : RdG opC 2 W A (n0 + 24) (l0 ++ slotsTakes 12)) (B : Option Addr) (d : Nat) (hB : Rd W 1 B (n0 + 24) ((evErrs (l0 ++ slotsTakes 12)).map (Value.int .i64))) => handed_any A (n0 + 24) c (l0 ++ slotsTakes 12) B d (evErrs (l0 ++ slotsTakes 12)) W hW hB (by omega))
  have hel : (evErrs (l0 ++ slotsTakes 12)).length = n0 + 24 := by rw [evErrs_length, List.length_append, slotsTakes_len, hl0]
  obtain ⟨e1, e2, e3, e4⟩ := all_come l0
  have hok := ev_ok (l0 ++ slotsTakes 12)
  have hsm := evRun_small (l0 ++ slotsTakes 12)
  have hD : ((evRun (l0 ++ slotsTakes 12)).al.length : Int) - ((evRun (l0 ++ slotsTakes 12)).kn : Int) = 0 := by have := hok.k1; have := hok.k3; omega
  have hU : ((evRun (l0 ++ slotsTakes 12)).cm : Int) - ((evRun (l0 ++ slotsTakes 12)).tk : Int) = 0 := by have := hok.k4; omega
  rw [handed_run] at CH
  unfold GivesPlay at C1
  rw [hD, hU, e2] at C1
  rw [List.length_append, slotsTakes_len, hl0] at hsm
  generalize (evRun (l0 ++ slotsTakes 12)).al = H at *
  generalize evErrs (l0 ++ slotsTakes 12) = E at *
  obtain ⟨m, hm⟩ : ∃ m, H.length = m := ⟨_, rfl⟩
  have hmn : m ≤ n0 + 24 := by omega
  have Hl := Lib.hid hl0
  clear q0 e1 e2 e3 e4 hok hsm hD hU hl0
  go_enter Try.func5, Try.ntmps5
  go_wp2_with fail
  refine C0.out.mono ?_
  rintro e w1 ⟨rfl, hb1⟩
  have h1 := h0.below hb1
  clear C0 h0
  go_wp2_with fail
  refine (CC.out _ h1).mono ?_
  rintro e w2 ⟨v2, rfl, ho2, hb2⟩
  have hB2 := bthen hb1 hb2
  replace ho2 := ho2.mono hb1.size
  clear CC h1 hb2 hb1
  go_wp2
  go_loopw [3, 11] (fun v i wr => ∃ j : Nat, j ≤ 12 ∧ i = .int .i64 j ∧ OwG opC 2 wr w.heap.size 36 v (l0 ++ slotsTakes j) ∧ Below w.heap.size w wr) (fun _ i _ => 12 - (intOf i).toNat)
  case atStart => exact ⟨0, by omega, rfl, by rw [slotsTakes, List.append_nil]; exact ho2, hB2⟩
  case round =>
    obtain ⟨j, hj, rfl, ho, hbl⟩ := hrel
    clear ho2 hB2
    by_cases hlt : j < 12
    · have hlen : Hid ((l0 ++ slotsTakes j).length = n0 + 2 * j) := by show _ = _; rw [List.length_append, slotsTakes_len, Hl.out]
      have Hs : Hid (l0 ++ slotsTakes (j + 1) = (l0 ++ slotsTakes j) ++ [⟨2, 0⟩, ⟨3, 0⟩]) := by show _ = _; rw [slotsTakes_snoc, List.append_assoc]
      have hs2 := hbl.size
      have Hb := Lib.hid hbl
      clear hbl
      generalize l0 ++ slotsTakes j = L at *
      go_wp2_with (at_builtin; go_must (refine wpList_apG opK _ elOp rfl rfl w.heap.size _ L rfl (ho.alloc _) _ 2 2 [(⟨2, 0⟩ : EvO), ⟨3, 0⟩] rfl (Rd.litFlat opK.len [(⟨2, 0⟩ : EvO), ⟨3, 0⟩] _ rfl) (by simp; omega) (by have := hlen.out; omega) (by have := hlen.out; omega) ?_; intro v9 w9 ho9 hm9; have HF := Lib.hid (hm9.below (Hb.out.alloc hs2 _) (by simp; omega) (fun k hk => ho.block k hk))))
      go_roundw
      case rel => exact ⟨j + 1, by omega, by go_num, by rw [Hs.out]; exact ho9, HF.out⟩
      case measure => simp [intOf] <;> omega
    · obtain rfl : j = 12 := by omega
      obtain ⟨A3, c3, rfl, hc3, -, r3⟩ := ho.formN (show (l0 ++ slotsTakes 12).length = n0 + 24 by rw [List.length_append, slotsTakes_len, Hl.out])
      clear ho
      go_wp2_with fail
      refine (C1.out _ _ _ r3).mono ?_
      rintro e w4 ⟨u4, v4, rfl, he4, ht4, hb4⟩
      have hB := bthen hbl hb4
      obtain ⟨A4, c4, rfl, -, -, r4⟩ := he4.formN hel
      obtain ⟨B4, d4, rfl, -, -, s4⟩ := ht4.formN hm
      have X4 := Lib.hid (Box.new w4 25 [.int .i64 0, .int .i64 0])
      have R4 := Lib.hid (r4.alloc (.cells #[.int .i64 0, .int .i64 0] 25))
      have S4 := Lib.hid (s4.alloc (.cells #[.int .i64 0, .int .i64 0] 25))
      have H4 := Lib.hid ((r3.below hb4).alloc (.cells #[.int .i64 0, .int .i64 0] 25))
      have HB := Lib.hid (hB.alloc hB.size (.cells #[.int .i64 0, .int .i64 0] 25))
      have hq := fun (W : World) => eq_pair 0 0 0 0 W
      clear C1 hb4 he4 ht4 r4 s4 hB r3 hbl
      go_upto_region 9 with fail
      change Hid (Box (w4.alloc (.cells #[.int .i64 0, .int .i64 0] 25)) _ _ _) at X4
      generalize w4.alloc (.cells #[.int .i64 0, .int .i64 0] 25) = w5 at *
      go_wp2_with fail
      refine (CH.out _ _ _ H4.out _ _ R4.out).mono ?_
      rintro e w6 ⟨v6, rfl, ho6, hb6⟩
      obtain ⟨A6, c6, rfl, -, -, r6⟩ := ho6.formN hm
      have hB6 := bthen HB.out hb6
      have X6 := Lib.hid (X4.out.below hb6 X4.out.lt)
      have CI := Lib.hid (EqualI_any_same B4 A6 m d4 m c6 H w6 (S4.out.below hb6) r6 (by omega))
      clear CH R4 S4 X4 H4 HB hb6 ho6 r6
      go_wp2_with fail
      refine CI.out.mono ?_
      rintro e w7 ⟨rfl, hb7⟩
      have hB7 := bthen hB6 hb7
      have x7 := X6.out.below hb7 X6.out.lt
      have p0 := x7.cell 0 rfl
      have p1 := x7.cell 1 rfl
      clear CI X6 hb7 hB6 x7
      go_wp2
      go_ret
      exact ⟨rfl, hB7⟩
end Go.Proofs.Ytlanmehbcpgoaaa
