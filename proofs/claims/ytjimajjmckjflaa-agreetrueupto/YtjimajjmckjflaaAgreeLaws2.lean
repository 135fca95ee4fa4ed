/-
  The walk of AgreeTrue: it returns true, at every argument whose slices take at most 1048576 elements.
-/
import Derived.Test.YtjimajjmckjflaaAgreeLaws
namespace Go.Proofs.Ytjimajjmckjflaa
open Go.RowKit
set_option linter.unusedVariables false

theorem elRows : ElemT Try.prog 23 22 (.slice none 0 0) 1 24 := ⟨Try.underlying23, by kernel_rfl, rfl, by decide⟩
def noRow : Option Addr × Nat × Nat × List Int := (none, 0, 0, [])
theorem lists_none (n : Nat) : lists (List.replicate n noRow) = List.replicate n [] := by
  rw [lists, List.map_replicate]
  rfl
theorem rows_none (w : World) (n : Nat) : RdRows w (List.replicate n noRow) := by
  intro p hp
  rw [List.eq_of_mem_replicate hp]
  exact ⟨⟨rfl, fun h => absurd h (by decide)⟩, Nat.le_refl _, by decide⟩

set_option maxHeartbeats 1600000 in
theorem AgreeTrue_walk (A0 : Option Addr) (n0 c0 : Nat) (l0 : List Int) (w : World)
    (h0 : Rd w 1 A0 n0 (l0.map (Value.int .i64))) (q0 : ∀ x ∈ l0, (Lit.int .i64 x).wf = true) (k0 : n0 ≤ c0) (b0 : c0 ≤ 1048576) :
    Calls Try.prog 7 #[.slice A0 n0 c0] w fun e w' => e = .returned (.bool true) ∧ Below w.heap.size w w' := by
  have hl := h0.lenMap
  have C0 := Lib.hid (alive13_any w)
  have hmk : ∀ W : World, (Instr.makeSlice 23 (.int .i64 n0) (.int .i64 n0)).run Try.prog W = .ok (.slice (some ⟨W.heap.size, 0, none⟩) n0 n0) (W.alloc (.cells (madeCells #[.slice none 0 0] n0) 22)) := run_mk elRows rfl .i64 .i64 n0 n0 (Nat.le_refl _) (by omega) (by omega)
  have C1 := Lib.hid (fun (W : World) (A B : Option Addr) (c : Nat) (l : List Int) (h : Rd W 1 A n0 (l.map (Value.int .i64))) (hc : n0 ≤ c) (hB : Rd W 1 B n0 ((List.replicate n0 noRow).map rowV)) => Round_any A n0 c l 0 B n0 n0 (List.replicate n0 noRow) W h hc (by omega) hB (rows_none W n0) (by omega))
  simp only [lists_none] at C1
  have C2 := Lib.hid (fun (W : World) (h : Rd W 1 A0 n0 (l0.map (Value.int .i64))) => CloneI_any A0 n0 c0 l0 W h (by omega))
  have Hlr : Hid (l0.reverse.length = n0) := by show _ = _; rw [List.length_reverse, hl]
  have Ho0 := Lib.hid (fun (W : World) => show Ow rowV (W.alloc (.cells (madeCells #[.slice none 0 0] n0) 22)) W.heap.size 22 (.slice (some ⟨W.heap.size, 0, none⟩) n0 n0) (List.replicate n0 noRow) from Ow.make rowV noRow W 22 n0 (by unfold maxLen; omega) (Nat.le_refl _))
  have He : wrongA l0.reverse 0 (List.replicate n0 []) = wrongA l0 0 (List.replicate n0 []) := wrongA_perm (List.reverse_perm l0) _ _
  have Ca := Lib.hid (fun W A B c => C1.out W A B c l0)
  have Cb := Lib.hid (fun W A B c => C1.out W A B c l0.reverse)
  rw [He] at Cb
  have Her := Lib.hid He
  have Hl := Lib.hid hl
  clear q0 hl C1 He
  go_enter Try.func7, Try.ntmps7
  go_wp2_with fail
  refine C0.out.mono ?_
  rintro e w1 ⟨rfl, hb1⟩
  have ho2 := Ho0.out w1
  replace h0 := (h0.below hb1).alloc (.cells (madeCells #[.slice none 0 0] n0) 22)
  have hB2 : Below w.heap.size w (w1.alloc (.cells (madeCells #[.slice none 0 0] n0) 22)) := hb1.alloc hb1.size _
  go_wp2_with fail
  generalize some (⟨w1.heap.size, 0, none⟩ : Addr) = B at *
  have hB := ho2.rd
  clear ho2 Ho0 hmk hb1 C0
  generalize w1.alloc (.cells (madeCells #[.slice none 0 0] n0) 22) = w2 at *
  refine (C2.out _ h0).mono ?_
  rintro e w3 ⟨v3, rfl, ho3, hb3⟩
  go_wp2_with fail
  refine (Reverse_own ho3 (by rw [Hl.out]; omega)).mono ?_
  rintro e w4 ⟨rfl, ho4, hm4⟩
  have hb4 := hm4.below hb3 hb3.size ho3.block
  obtain ⟨A4, c4, rfl, hc4, _, hr4⟩ := ho4.formN Hlr.out
  replace h0 := h0.below hb4
  replace hB := hB.below hb4
  have hB4 := bthen hB2 hb4
  clear ho3 hb3 hm4 ho4 hb4 hB2 C2
  go_wp2_with fail
  refine (Ca.out _ _ _ _ h0 k0 hB).mono ?_
  rintro e w5 ⟨v5, rfl, ho5, hb5⟩
  replace hr4 := hr4.below hb5
  replace hB := hB.below hb5
  have hB5 := bthen hB4 hb5
  clear hb5 hB4 Ca h0
  go_wp2_with fail
  refine (Cb.out _ _ _ _ hr4 hc4 hB).mono ?_
  rintro e w6 ⟨v6, rfl, ho6, hb6⟩
  replace ho5 := ho5.below hb6
  have hB6 := bthen hB5 hb6
  clear hb6 hB5 Cb hB hr4
  by_cases hw : wrongA l0 0 (List.replicate n0 []) = 0
  · have hw' := Her.out.trans hw
    obtain ⟨q, hq, hA⟩ := wrongA_ok.1 hw
    obtain rfl : q = 0 := by omega
    have e1 : roundsR l0 0 (List.replicate n0 []) 1 = roundM l0 0 (List.replicate n0 []) := by
      rw [roundsR_ok (by rw [roundsE_1]; exact hw)]
      rfl
    have e2 : roundsR l0.reverse 0 (List.replicate n0 []) 1 = roundM l0 0 (List.replicate n0 []) := by
      rw [roundsR_ok (by rw [roundsE_1]; exact hw')]
      exact true_round (List.reverse_perm l0) n0
    have hp := hA.pos
    rw [Hl.out] at hp
    have Hlen : Hid ((roundM l0 0 (List.replicate n0 [])).length = n0) := by show _ = _; rw [round_len, List.length_replicate]
    have hw5 := hA.round.wide
    have hw6 : wd (goodL (roundM l0 0 (List.replicate n0 [])) 0) = 0 := true_wd hp
    rw [hw6] at hw5
    rw [e1] at ho5
    rw [e2] at ho6
    rw [hw]
    obtain ⟨A5, c5, rfl, hc5, _, hr5⟩ := ho5.formN Hlen.out
    obtain ⟨A6, c6, rfl, hc6, _, hr6⟩ := ho6.formN Hlen.out
    have C3 := Lib.hid (Wide_any A5 n0 c5 (roundM l0 0 (List.replicate n0 [])) 0 w6 hr5 hc5 (by omega))
    rw [show wideE (roundM l0 0 (List.replicate n0 [])) 0 = 0 from hw5.1, show wideR (roundM l0 0 (List.replicate n0 [])) 0 = 0 from hw5.2] at C3
    have C4 := Lib.hid (EqualI_any_same A5 A6 n0 c5 n0 c6 (roundM l0 0 (List.replicate n0 [])) w6 hr5 hr6 (by omega))
    clear ho5 ho6 hr5 hr6 hw hw' hA e1 e2 hw5 hw6 Her hq
    go_wp2_with fail
    refine C3.out.mono ?_
    rintro e w7 ⟨rfl, rfl⟩
    go_wp2_with fail
    refine C4.out.mono ?_
    rintro e w8 ⟨rfl, hb8⟩
    have hB8 := bthen hB6 hb8
    clear hb8 C3 C4
    go_wp2
    go_ret
    exact ⟨rfl, hB8⟩
  · have hne : (wrongA l0 0 (List.replicate n0 []) != 0) = true := by simpa using hw
    clear hw Her ho5 ho6
    generalize wrongA l0 0 (List.replicate n0 []) = E at *
    go_wp2
    go_ret
    exact ⟨ret_bool (by simp), hB6⟩
end Go.Proofs.Ytjimajjmckjflaa
