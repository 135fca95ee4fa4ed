/-
  The walks of RmsSure, RmsFull and RmsBest: each returns true, at every argument.
-/
import Derived.Test.YtajfohnblmnjjaaRmsLaws
namespace Go.Proofs.Ytajfohnblmnjjaa
open Go.RowKit
set_option linter.unusedVariables false
set_option maxRecDepth 20000

set_option maxHeartbeats 1600000 in
theorem RmsSure_walk (A0 : Option Addr) (n0 c0 : Nat) (l0 : List Tsk) (w : World) (h0 : RdG tskC 2 w A0 n0 l0) (q0 : ∀ s ∈ l0, in64 s.p ∧ in64 s.c) (k0 : n0 ≤ c0) (b0 : c0 * 16 ≤ 140737488351232) :
    Calls Try.prog 4 #[.slice A0 n0 c0] w fun e w' => e = .returned (.bool true) ∧ Below w.heap.size w w' := by
  have C0 := Lib.hid (alive20_any w)
  have C1 := Lib.hid (fun (W : World) (h : RdG tskC 2 W A0 n0 l0) => Sure_any A0 n0 c0 l0 W h (by omega))
  have C2 := Lib.hid (fun (W : World) (h : RdG tskC 2 W A0 n0 l0) => Fit_any A0 n0 c0 l0 W h (by omega))
  clear q0
  cases hw : wrongK l0
  · obtain ⟨M, rfl, hM⟩ := good_of hw
    replace C1 := Lib.hid (fun (W : World) h => (C1.out W h).mono fun e w' hg => hg.good hM)
    replace C2 := Lib.hid (fun (W : World) h => (C2.out W h).mono fun e w' hg => hg.good hM)
    have HS := Lib.hid (fun (hs : prodA M ≤ 2 * useD M) => feas_of_sure hM.okL hs)
    have HE : Hid (decide (prodA M ≤ 2 * useD M) = true → prodA M ≤ 2 * useD M) := of_decide_eq_true
    generalize decide (prodA M ≤ 2 * useD M) = s at *
    clear hM hw
    go_enter Try.func4, Try.ntmps4
    go_wp2_with fail
    refine C0.out.mono ?_
    rintro e w1 ⟨rfl, hb1⟩
    go_wp2_with fail
    refine (C1.out _ (h0.below hb1)).mono ?_
    rintro e w2 ⟨rfl, hb2⟩
    have hB2 := bthen hb1 hb2
    go_wp2_with fail
    refine (C2.out _ (h0.below hB2)).mono ?_
    rintro e w3 ⟨b, rfl, hf, hb3⟩
    have hsb : s = false ∨ b = true := by
      cases s
      · exact .inl rfl
      · exact .inr (hf.out.2 (HS.out (HE.out rfl)))
    clear hf HS HE C0 C1 C2 h0
    rcases hsb with rfl | rfl
    · cases b
      · go_wp2
        go_ret
        exact ⟨rfl, bthen hB2 hb3⟩
      · go_wp2
        go_ret
        exact ⟨rfl, bthen hB2 hb3⟩
    · cases s
      · go_wp2
        go_ret
        exact ⟨rfl, bthen hB2 hb3⟩
      · go_wp2
        go_ret
        exact ⟨rfl, bthen hB2 hb3⟩
  · replace C1 := Lib.hid (fun (W : World) h => (C1.out W h).mono fun e w' hg => hg.wrong hw)
    replace C2 := Lib.hid (fun (W : World) h => (C2.out W h).mono fun e w' hg => hg.wrong hw)
    go_enter Try.func4, Try.ntmps4
    go_wp2_with fail
    refine C0.out.mono ?_
    rintro e w1 ⟨rfl, hb1⟩
    go_wp2_with fail
    refine (C1.out _ (h0.below hb1)).mono ?_
    rintro e w2 ⟨rfl, hb2⟩
    have hB2 := bthen hb1 hb2
    go_wp2_with fail
    refine (C2.out _ (h0.below hB2)).mono ?_
    rintro e w3 ⟨rfl, hb3⟩
    go_wp2
    go_ret
    exact ⟨rfl, bthen hB2 hb3⟩
set_option maxHeartbeats 1600000 in
theorem RmsFull_walk (A0 : Option Addr) (n0 c0 : Nat) (l0 : List Tsk) (w : World) (h0 : RdG tskC 2 w A0 n0 l0) (q0 : ∀ s ∈ l0, in64 s.p ∧ in64 s.c) (k0 : n0 ≤ c0) (b0 : c0 * 16 ≤ 140737488351232) :
    Calls Try.prog 5 #[.slice A0 n0 c0] w fun e w' => e = .returned (.bool true) ∧ Below w.heap.size w w' := by
  have C0 := Lib.hid (alive20_any w)
  have C1 := Lib.hid (fun (W : World) (h : RdG tskC 2 W A0 n0 l0) => Use_any A0 n0 c0 l0 W h (by omega))
  have C2 := Lib.hid (fun (W : World) (h : RdG tskC 2 W A0 n0 l0) => Fit_any A0 n0 c0 l0 W h (by omega))
  clear q0
  -- what Use and Fit tell together
  have HU : Hid (∀ a b x : Int, ((wrongK l0 = true ∧ a = 0 ∧ b = 0 ∧ x = 2) ∨ ∃ M, l0 = M.map Tk.asT ∧ GoodK M ∧ UseIs M a b x) → (x ≠ 0 ∧ a = 0 ∧ b = 0) ∨ (x = 0 ∧ ∃ (u v : Nat) (M : List Tk), a = u ∧ b = v ∧ 1 ≤ v ∧ l0 = M.map Tk.asT ∧ GoodK M ∧ (Feas M → u ≤ v))) := by
    rintro a b x (⟨_, rfl, rfl, rfl⟩ | ⟨M, hL, hM, ⟨_, rfl, rfl, rfl⟩ | ⟨_, rfl, rfl, rfl⟩⟩)
    · exact .inl ⟨by decide, rfl, rfl⟩
    · exact .inl ⟨by decide, rfl, rfl⟩
    · exact .inr ⟨rfl, _, _, M, rfl, rfl, useDen_pos hM.pos, hL, hM, fun hF => (use_le_iff hM.pos).2 (use_of_feas hM.okL hF)⟩
  go_enter Try.func5, Try.ntmps5
  go_wp2_with fail
  refine C0.out.mono ?_
  rintro e w1 ⟨rfl, hb1⟩
  go_wp2_with fail
  refine (C1.out _ (h0.below hb1)).mono ?_
  rintro e w2 ⟨a, b, x, rfl, hu, hb2⟩
  have hB2 := bthen hb1 hb2
  have H1 := Lib.hid (HU.out a b x hu.out)
  clear hu HU hb2 C0 C1
  go_upto_region 4 with fail
  have hbx := Box.new w2 24 [.int .i64 a, .int .i64 b]
  have hB3 := bthen hB2 (below_one (w := w2) (.cells #[.int .i64 a, .int .i64 b] 24))
  replace hbx : Box (w2.alloc (.cells #[.int .i64 a, .int .i64 b] 24)) w2.heap.size 24 [.int .i64 a, .int .i64 b] := hbx
  clear hB2
  generalize w2.alloc (.cells #[.int .i64 a, .int .i64 b] 24) = w3 at *
  generalize w2.heap.size = bx at *
  go_wp2_with fail
  refine (C2.out _ (h0.below hB3)).mono ?_
  intro e w4 hg
  rcases H1.out with ⟨hx, rfl, rfl⟩ | ⟨rfl, u, v, M, rfl, rfl, hv, rfl, hM, hF⟩
  · obtain ⟨y, z, rfl, hb4⟩ := hg.split
    have hbx4 := hbx.below hb4 hbx.lt
    have c0' := hbx4.cell 0 rfl
    have c1' := hbx4.cell 1 rfl
    have hx1 : ¬ x = 0 := hx
    clear C2 hg
    go_wp2
    go_ret
    exact ⟨ret_bool (by simp), bthen hB3 hb4⟩
  · obtain ⟨y, rfl, hf, hb4⟩ := hg.good hM
    have hbx4 := hbx.below hb4 hbx.lt
    have c0' := hbx4.cell 0 rfl
    have c1' := hbx4.cell 1 rfl
    have hyF : y = false ∨ u ≤ v := by
      cases y
      · exact .inl rfl
      · exact .inr (hF (hf.out.1 rfl))
    clear C2 hg hf hF H1
    rcases hyF with rfl | hle
    · go_wp2
      go_ret
      exact ⟨ret_bool (by simp <;> omega), bthen hB3 hb4⟩
    · cases y
      · go_wp2
        go_ret
        exact ⟨ret_bool (by simp <;> omega), bthen hB3 hb4⟩
      · go_wp2
        go_ret
        exact ⟨ret_bool (by simp <;> omega), bthen hB3 hb4⟩
set_option maxHeartbeats 1600000 in
theorem RmsBest_walk (A0 : Option Addr) (n0 c0 : Nat) (l0 : List Tsk) (w : World) (h0 : RdG tskC 2 w A0 n0 l0) (q0 : ∀ s ∈ l0, in64 s.p ∧ in64 s.c) (k0 : n0 ≤ c0) (b0 : c0 * 16 ≤ 140737488351232) :
    Calls Try.prog 6 #[.slice A0 n0 c0] w fun e w' => e = .returned (.bool true) ∧ Below w.heap.size w w' := by
  have C0 := Lib.hid (alive20_any w)
  have C1 := Lib.hid (fun (W : World) (h : RdG tskC 2 W A0 n0 l0) => Ends_any A0 n0 c0 l0 W h k0 (by omega))
  have C2 := Lib.hid (fun (W : World) (h : RdG tskC 2 W A0 n0 l0) => Fit_any A0 n0 c0 l0 W h (by omega))
  clear q0
  go_enter Try.func6, Try.ntmps6
  go_wp2_with fail
  refine C0.out.mono ?_
  rintro e w1 ⟨rfl, hb1⟩
  go_wp2_with fail
  refine (C1.out _ (h0.below hb1)).mono ?_
  intro e w2 hg
  obtain ⟨⟨A2, m, c2, x, rfl, _, hx⟩, hb2⟩ := hg.split
  have hB2 := bthen hb1 hb2
  go_wp2_with fail
  refine (C2.out _ (h0.below hB2)).mono ?_
  intro e w3 hf
  rcases hx.out with hx0 | ⟨rfl, _, M, R, rfl, hM, hR, _⟩
  · obtain ⟨b, y, rfl, hb3⟩ := hf.split
    have hx1 : ¬ x = 0 := hx0
    clear C0 C1 C2 hg hf hx
    go_wp2
    go_ret
    exact ⟨ret_bool (by simp), bthen hB2 hb3⟩
  · obtain ⟨rfl, hb3⟩ := hf.yes hM (feas_of_ends hM.okL (allEnd_of hR))
    clear C0 C1 C2 hg hf hx
    go_wp2
    go_ret
    exact ⟨rfl, bthen hB2 hb3⟩
end Go.Proofs.Ytajfohnblmnjjaa
