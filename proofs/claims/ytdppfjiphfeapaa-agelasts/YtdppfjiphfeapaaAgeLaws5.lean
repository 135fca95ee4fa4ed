/-
  The law AgeLasts.
-/
import Derived.Test.YtdppfjiphfeapaaAgeLaws4
namespace Go.Proofs.Ytdppfjiphfeapaa
open Go.RowKit
set_option maxRecDepth 20000
set_option linter.unusedVariables false

set_option maxHeartbeats 3200000 in
theorem AgeLasts_walk (a0 a1 a2 : Int) (w : World) (w0 : (Lit.int .i64 a0).wf = true) (w1 : (Lit.int .i64 a1).wf = true) (w2 : (Lit.int .i64 a2).wf = true) :
    Calls Try.prog 5 #[.int .i64 a0, .int .i64 a1, .int .i64 a2] w fun e w' => e = .returned (.bool true) ∧ Below w.heap.size w w' := by
  have C0 := Lib.hid (alive21_any w)
  have C1 := Lib.hid (fun (W : World) => Lasts_any a0 a1 W)
  clear w0 w1 w2
  by_cases g : a0 < 1 ∨ 1048576 < a0 ∨ a1 < 0 ∨ 400 < a1
  · rw [show lastsV a0 a1 = 0 from if_pos g, show lastsE a0 a1 = 2 from if_pos g] at C1
    clear g
    go_enter Try.func5, Try.ntmps5
    go_wp2_with fail
    refine C0.out.mono ?_
    rintro e w1 ⟨rfl, hb1⟩
    clear C0
    go_wp2_with fail
    refine (C1.out _).mono ?_
    rintro e w2 ⟨rfl, rfl⟩
    clear C1
    go_wp2
    go_ret
    exact ⟨rfl, hb1⟩
  rw [show lastsV a0 a1 = (a1 + 1) * a0 - 1 from if_neg g, show lastsE a0 a1 = 0 from if_neg g] at C1
  have p1 : 1 ≤ a0 := by omega
  have p2 : 0 ≤ a1 := by omega
  clear g
  by_cases g : 10 < a0 ∨ 5 < a1 ∨ a2 < 0 ∨ 100 < a2
  · have hcs : 10 < a0 ∨ (a0 ≤ 10 ∧ 5 < a1) ∨ (a0 ≤ 10 ∧ a1 ≤ 5 ∧ a2 < 0) ∨ (a0 ≤ 10 ∧ a1 ≤ 5 ∧ 0 ≤ a2 ∧ 100 < a2) := by omega
    clear g p1 p2
    generalize (a1 + 1) * a0 - 1 = V at *
    rcases hcs with q1 | ⟨q1, q2⟩ | ⟨q1, q2, q3⟩ | ⟨q1, q2, q3, q4⟩
    all_goals
      go_enter Try.func5, Try.ntmps5
      go_wp2_with fail
      refine C0.out.mono ?_
      rintro e w1 ⟨rfl, hb1⟩
      clear C0
      go_wp2_with fail
      refine (C1.out _).mono ?_
      rintro e w2 ⟨rfl, rfl⟩
      clear C1
      go_wp2
      go_ret
      exact ⟨rfl, hb1⟩
  have p3 : a0 ≤ 10 := by omega
  have p4 : a1 ≤ 5 := by omega
  obtain ⟨T, rfl⟩ : ∃ T : Nat, a2 = T := ⟨a2.toNat, by omega⟩
  have hT : T ≤ 100 := by omega
  clear g
  have b1 : 1 * 1 ≤ a0 * (a1 + 1) := Int.mul_le_mul p1 (by omega) (by omega) (by omega)
  have b2 : a0 * (a1 + 1) ≤ 10 * 6 := Int.mul_le_mul p3 (by omega) (by omega) (by omega)
  obtain ⟨P, hP⟩ : ∃ P : Nat, a0 * (a1 + 1) = (P : Int) := ⟨(a0 * (a1 + 1)).toNat, by omega⟩
  rw [show (a1 + 1) * a0 - 1 = (P : Int) - 1 by rw [Int.mul_comm, hP]] at C1
  have hP1 : 1 ≤ P := by omega
  have hP6 : P ≤ 60 := by omega
  have CP := Lib.hid (fun (x : Int) (hx : 0 ≤ x) (hx2 : x ≤ 100) (W : World) (A : Option Addr) (n c : Nat) (hn : n ≤ 300) (hW : RdG agoC 2 W A n (tickOps P T)) => agePlay_any x A n c (tickOps P T) W hW (by omega))
  have CO := Lib.hid (fun (A : Option Addr) (n c : Nat) (l : List AgA) (W : World) (hW : RdG agaC 3 W A n l) (hn : n ≤ 4611686018427387904) => old_any A n c l W hW hn)
  have HE : Hid (∀ x : Int, 0 ≤ x → x ≤ 100 → ageE x (tickOps P T) = 0 ∧ ageL x (tickOps P T) = agAns x ag0 (tickOps P T)) := fun x h0 h1 => by
    have hlen := tick_len P T
    refine ageE_ok ?_
    rw [show agMax = 1099511627776 from rfl]
    omega
  have HN := Lib.hid (none_bad (P := P) (by omega) T (by omega))
  have HS := Lib.hid (fun (h : 2 ≤ P) => some_bad h T (by omega))
  have Hlen := Lib.hid (fun j => tick_len P j)
  have HZ : Hid (∀ j : Nat, ((j : Int) % (a0 * (a1 + 1)) = 0 ↔ j % P = 0)) := fun j => by
    rw [hP]; omega
  have HPx := Lib.hid hP
  clear hP
  go_enter Try.func5, Try.ntmps5
  go_wp2_with fail
  refine C0.out.mono ?_
  rintro e w1 ⟨rfl, hb1⟩
  clear C0
  go_wp2_with fail
  refine (C1.out _).mono ?_
  rintro e w2 ⟨rfl, rfl⟩
  clear C1
  go_wp2
  go_loopw [9, 10, 49] (fun v x i wr => ∃ j : Nat, j ≤ T ∧ i = .int .i64 j ∧ OwG agoC 2 wr w.heap.size 35 v (tickOps P j) ∧ Below w.heap.size w wr) (fun _ _ i _ => T - (intOf i).toNat)
  case atStart => exact ⟨0, Nat.zero_le _, rfl, OwG.nil _ _ _, hb1⟩
  case round =>
    obtain ⟨j, hj, rfl, ho, hbl⟩ := hrel
    clear hb1
    by_cases hlt : j < T
    · have hs0 := hbl.size
      have Hb := Lib.hid hbl
      have HL : Hid ((tickOps P j).length ≤ 3 * j) := Hlen.out j
      clear hbl
      by_cases hz : j % P = 0
      · have hz' : (j : Int) % (a0 * (a1 + 1)) = 0 := (HZ.out j).2 hz
        have Hs : Hid (tickOps P (j + 1) = (tickOps P j ++ [⟨1, (j : Int)⟩]) ++ [⟨2, 0⟩, ⟨3, 1⟩]) := by
          show _ = _
          rw [tickOps, if_pos hz, List.append_assoc]
        clear hz
        generalize tickOps P j = L at *
        go_upto_region 12 with (at_builtin; go_must (refine wpList_apG agoK _ elAgo rfl rfl w.heap.size _ L rfl (ho.alloc _) _ 1 1 [(⟨1, (j : Int)⟩ : AgO)] rfl (Rd.litFlat agoK.len [(⟨1, (j : Int)⟩ : AgO)] _ rfl) (by simp; omega) (by have := HL.out; omega) (by have := HL.out; omega) ?_; intro v5 w5 ho5 hm5; have HF := Lib.hid (hm5.below (Hb.out.alloc hs0 _) (by simp; omega) (fun k hk => ho.block k hk))))
        have hs5 := HF.out.size
        have HL5 : Hid ((L ++ [(⟨1, (j : Int)⟩ : AgO)]).length ≤ 3 * j + 1) := by
          show _ ≤ _
          rw [List.length_append]
          have := HL.out
          simp; omega
        clear hm5 ho Hb
        generalize L ++ [(⟨1, (j : Int)⟩ : AgO)] = L5 at *
        go_wp2_with (at_builtin; go_must (refine wpList_apG agoK _ elAgo rfl rfl w.heap.size _ L5 rfl (ho5.alloc _) _ 2 2 [(⟨2, 0⟩ : AgO), ⟨3, 1⟩] rfl (Rd.litFlat agoK.len [(⟨2, 0⟩ : AgO), ⟨3, 1⟩] _ rfl) (by simp; omega) (by have := HL5.out; omega) (by have := HL5.out; omega) ?_; intro v6 w6 ho6 hm6; have HF6 := Lib.hid (hm6.below (HF.out.alloc hs5 _) (by simp; omega) (fun k hk => ho5.block k hk))))
        go_roundw
        case rel => exact ⟨j + 1, by omega, by go_num, by rw [Hs.out]; exact ho6, HF6.out⟩
        case measure => simp [intOf] <;> omega
      · have hz' : ¬ (j : Int) % (a0 * (a1 + 1)) = 0 := fun q => hz ((HZ.out j).1 q)
        have Hs : Hid (tickOps P (j + 1) = tickOps P j ++ [⟨2, 0⟩, ⟨3, 1⟩]) := by
          show _ = _
          rw [tickOps, if_neg hz, List.nil_append]
        clear hz
        generalize tickOps P j = L at *
        go_wp2_with (at_builtin; go_must (refine wpList_apG agoK _ elAgo rfl rfl w.heap.size _ L rfl (ho.alloc _) _ 2 2 [(⟨2, 0⟩ : AgO), ⟨3, 1⟩] rfl (Rd.litFlat agoK.len [(⟨2, 0⟩ : AgO), ⟨3, 1⟩] _ rfl) (by simp; omega) (by have := HL.out; omega) (by have := HL.out; omega) ?_; intro v6 w6 ho6 hm6; have HF6 := Lib.hid (hm6.below (Hb.out.alloc hs0 _) (by simp; omega) (fun k hk => ho.block k hk))))
        go_roundw
        case rel => exact ⟨j + 1, by omega, by go_num, by rw [Hs.out]; exact ho6, HF6.out⟩
        case measure => simp [intOf] <;> omega
    · obtain rfl : j = T := by omega
      obtain ⟨m, hm⟩ : ∃ m, (tickOps P j).length = m := ⟨_, rfl⟩
      have hm300 : m ≤ 300 := by have := Hlen.out j; omega
      have HAl : Hid (∀ x : Int, (agAns x ag0 (tickOps P j)).length = m) := fun x => by rw [agAns_len]; exact hm
      obtain ⟨A3, c3, rfl, hc3, hc3', r3⟩ := ho.formN hm
      clear ho hm HZ Hlen hc3 hc3'
      have hP0 : 0 ≤ (P : Int) - 1 := by omega
      have hP9 : (P : Int) - 1 ≤ 100 := by omega
      go_wp2_with fail
      refine (CP.out ((P : Int) - 1) hP0 hP9 _ _ _ _ hm300 r3).mono ?_
      rintro e w4 ⟨v4, rfl, ho4, hb4⟩
      rw [(HE.out _ hP0 hP9).1]
      rw [(HE.out _ hP0 hP9).2] at ho4
      have hB4 := bthen hbl hb4
      obtain ⟨A4, c4, rfl, hc4, hc4', r4⟩ := ho4.formN (HAl.out _)
      have r3' := Rd.below r3 hb4
      clear hbl hb4 ho4 hc4 hc4' r3
      go_wp2_with fail
      refine (CO.out _ _ _ _ _ r4 (by omega)).mono ?_
      rintro e w5 ⟨rfl, hb5⟩
      rw [HN.out]
      have hB5 := bthen hB4 hb5
      have r3 := Rd.below r3' hb5
      clear hB4 hb5 r4 r3' HN
      by_cases h1 : P = 1
      · subst h1
        clear HS
        go_wp2
        go_ret
        exact ⟨rfl, hB5⟩
      · have hP2 : 0 ≤ (P : Int) - 1 - 1 := by omega
        have hP8 : (P : Int) - 1 - 1 ≤ 100 := by omega
        have HS' := Lib.hid (HS.out (by omega))
        clear HS
        go_wp2_with fail
        refine (CP.out ((P : Int) - 1 - 1) hP2 hP8 _ _ _ _ hm300 r3).mono ?_
        rintro e w6 ⟨v6, rfl, ho6, hb6⟩
        rw [(HE.out _ hP2 hP8).1]
        rw [(HE.out _ hP2 hP8).2] at ho6
        have hB6 := bthen hB5 hb6
        obtain ⟨A6, c6, rfl, hc6, hc6', r6⟩ := ho6.formN (HAl.out _)
        clear hB5 hb6 ho6 hc6 hc6' r3
        go_wp2_with fail
        refine (CO.out _ _ _ _ _ r6 (by omega)).mono ?_
        rintro e w7 ⟨rfl, hb7⟩
        rw [HS'.out]
        have hB7 := bthen hB6 hb7
        clear hB6 hb7 r6 HS' HE CP CO HAl
        go_wp2
        go_ret
        exact ⟨ret_bool (by simp), hB7⟩
end Go.Proofs.Ytdppfjiphfeapaa
