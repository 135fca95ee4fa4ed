/-
  The walks of VoteTwo and VoteMost: each returns true, at every argument.
-/
import Derived.Test.YtiaemlfkpnpkaaaVoteWalks2
import Derived.Test.YtiaemlfkpnpkaaaVoteRef
namespace Go.Proofs.Ytiaemlfkpnpkaaa
open Go.RowKit
set_option linter.unusedVariables false

set_option maxHeartbeats 1600000 in
theorem VoteMost_walk (A0 : Option Addr) (n0 c0 : Nat) (l0 : List Int) (a1 : Int) (w : World) (h0 : Rd w 1 A0 n0 (l0.map (Value.int .i64))) (q0 : ∀ x ∈ l0, (Lit.int .i64 x).wf = true) (k0 : n0 ≤ c0) (b0 : c0 * 8 ≤ 140737488351232) (w1 : (Lit.int .i64 a1).wf = true) :
    Calls Try.prog 4 #[.slice A0 n0 c0, .int .i64 a1] w fun e w' => e = .returned (.bool true) ∧ Below w.heap.size w w' := by
  have hq := in64s_wf q0
  have C1 := Lib.hid (fun (W : World) (h : Rd W 1 A0 n0 (l0.map (Value.int .i64))) => Most_any A0 n0 c0 l0 W h hq (by omega))
  have C2 := Lib.hid (fun (W : World) (h : Rd W 1 A0 n0 (l0.map (Value.int .i64))) => OMost_any A0 n0 c0 l0 W h (by omega))
  have C3 := Lib.hid (fun (W : World) (h : Rd W 1 A0 n0 (l0.map (Value.int .i64))) => Near_any A0 n0 c0 l0 a1 W h (by omega))
  have C4 := Lib.hid (fun (W : World) (h : Rd W 1 A0 n0 (l0.map (Value.int .i64))) => ONear_any A0 n0 c0 l0 a1 W h (by omega))
  generalize mostV l0 = MV at *
  generalize mostE l0 = ME at *
  generalize nearV l0 a1 = NV at *
  generalize nearE l0 a1 = NE at *
  clear q0 hq w1
  go_enter Try.func4, Try.ntmps4
  go_wp2_with fail
  refine (C1.out _ h0).mono ?_
  rintro e w1 ⟨rfl, hb1⟩
  replace h0 := h0.below hb1
  clear C1
  go_wp2_with fail
  refine (C2.out _ h0).mono ?_
  rintro e w2 ⟨rfl, rfl⟩
  clear C2
  go_wp2_with fail
  refine (C3.out _ h0).mono ?_
  rintro e w3 ⟨rfl, hb3⟩
  replace h0 := h0.below hb3
  have hB3 := bthen hb1 hb3
  clear hb1 hb3 C3
  go_wp2_with fail
  refine (C4.out _ h0).mono ?_
  rintro e w4 ⟨rfl, rfl⟩
  clear C4
  go_wp2
  go_ret
  exact ⟨rfl, hB3⟩

/-- The five cases of two copies. -/
theorem two_table (g1 : Bool) (v1 : Int) (g2 : Bool) (v2 : Int) :
    (g1 = false ∧ g2 = false ∧ twoV g1 v1 g2 v2 = 0 ∧ twoE g1 g2 = 3 ∧ sameV g1 v1 g2 v2 = 0 ∧ sameE g1 v1 g2 v2 = 3) ∨
    (g1 = false ∧ g2 = true ∧ twoV g1 v1 g2 v2 = v2 ∧ twoE g1 g2 = 0 ∧ sameV g1 v1 g2 v2 = v2 ∧ sameE g1 v1 g2 v2 = 0) ∨
    (g1 = true ∧ g2 = false ∧ twoV g1 v1 g2 v2 = v1 ∧ twoE g1 g2 = 0 ∧ sameV g1 v1 g2 v2 = v1 ∧ sameE g1 v1 g2 v2 = 0) ∨
    (g1 = true ∧ g2 = true ∧ twoV g1 v1 g2 v2 = v1 ∧ twoE g1 g2 = 0 ∧ (((v1 != v2) = false ∧ sameV g1 v1 g2 v2 = v1 ∧ sameE g1 v1 g2 v2 = 0) ∨ ((v1 != v2) = true ∧ sameV g1 v1 g2 v2 = 0 ∧ sameE g1 v1 g2 v2 = 7))) := by
  by_cases hv : v1 = v2
  · subst hv
    cases g1 <;> cases g2 <;> simp [sameV, sameE, twoE, twoV]
  · cases g1 <;> cases g2 <;> simp [sameV, sameE, twoE, twoV, hv]
set_option maxHeartbeats 3200000 in
theorem VoteTwo_walk (a0 : Bool) (a1 : Int) (b0 : Bool) (b1 : Int) (A2 : Option Addr) (n2 c2 : Nat) (l2 : List Int) (w : World) (w0 : (Lit.int .i64 a1).wf = true) (w1 : (Lit.int .i64 b1).wf = true)
    (h2 : Rd w 1 A2 n2 (l2.map (Value.int .i64))) (q2 : ∀ x ∈ l2, (Lit.int .i64 x).wf = true) (k2 : n2 ≤ c2) (bb2 : c2 * 8 ≤ 140737488351232) :
    Calls Try.prog 3 #[copyV a0 a1, copyV b0 b1, .slice A2 n2 c2] w fun e w' => e = .returned (.bool true) ∧ Below w.heap.size w w' := by
  have hl := h2.lenMap
  have C1 := Lib.hid (fun (W : World) => Two_any a0 a1 b0 b1 W)
  have C2 := Lib.hid (fun (W : World) => Same_any a0 a1 b0 b1 W)
  have C3 := Lib.hid (fun (W : World) (h : Rd W 1 A2 n2 (l2.map (Value.int .i64))) => Middle_any A2 n2 c2 l2 W h (by omega))
  have C4 := Lib.hid (fun (W : World) (h : Rd W 1 A2 n2 (l2.map (Value.int .i64))) (g : n2 ≤ 400) (g2 : n2 % 2 = 1) => OMiddle_any A2 n2 c2 l2 W h g g2)
  have T : (400 < n2 ∧ middleE l2 = 2 ∧ middleV l2 = 0) ∨ (n2 ≤ 400 ∧ n2 % 2 = 0 ∧ middleE l2 = 1 ∧ middleV l2 = 0) ∨ (n2 ≤ 400 ∧ n2 % 2 = 1 ∧ middleE l2 = 0 ∧ middleV l2 = midO l2) := by
    by_cases g : 400 < n2
    · exact .inl ⟨g, middle_big (by omega)⟩
    · by_cases g2 : n2 % 2 = 0
      · exact .inr (.inl ⟨by omega, g2, middle_even (by omega) (by omega)⟩)
      · exact .inr (.inr ⟨by omega, by omega, middle_ok (by omega) (by omega)⟩)
  have HT := Lib.hid T
  have HD := Lib.hid (two_table a0 a1 b0 b1)
  clear T w0 w1 q2 hl
  generalize sameV a0 a1 b0 b1 = x at *
  generalize sameE a0 a1 b0 b1 = e at *
  generalize twoV a0 a1 b0 b1 = z at *
  generalize twoE a0 b0 = g at *
  generalize middleV l2 = M at *
  generalize middleE l2 = G at *
  generalize midO l2 = MO at *
  have hB : Below w.heap.size w ((w.alloc (.cells #[.bool a0, .int .i64 a1] 23)).alloc (.cells #[.bool b0, .int .i64 b1] 23)) := ((Below.refl _ _).alloc (Nat.le_refl _) _).alloc (by simp) _
  go_enter Try.func3, Try.ntmps3
  go_wp2_with fail
  refine (C1.out _).mono ?_
  rintro e w1 ⟨rfl, hb1⟩
  have hx : Box w1 w.heap.size 23 [.bool a0, .int .i64 a1] := ((Box.new w _ _).alloc _).below hb1 (by simp; omega)
  have hy : Box w1 (w.heap.size + 1) 23 [.bool b0, .int .i64 b1] := by
    have := (Box.new (w.alloc (.cells #[.bool a0, .int .i64 a1] 23)) 23 [.bool b0, .int .i64 b1]).below hb1 (by simp)
    simpa using this
  have hB1 := bthen hB hb1
  have x0 := hx.cell 0 rfl
  have x1 := hx.cell 1 rfl
  have y0 := hy.cell 0 rfl
  have y1 := hy.cell 1 rfl
  clear hb1 hB C1
  go_wp2_with fail
  refine (C2.out _).mono ?_
  rintro e w2 ⟨rfl, hb2⟩
  replace hx := hx.below hb2 hx.lt
  replace hy := hy.below hb2 hy.lt
  have hB2 := bthen hB1 hb2
  clear x0 x1 y0 y1
  have x0 := hx.cell 0 rfl
  have x1 := hx.cell 1 rfl
  have y0 := hy.cell 0 rfl
  have y1 := hy.cell 1 rfl
  replace h2 := h2.below hB2
  clear hb2 hB1 C2
  go_wp2_with fail
  refine (C3.out _ h2).mono ?_
  rintro e w3 ⟨rfl, hb3⟩
  replace hx := hx.below hb3 hx.lt
  replace hy := hy.below hb3 hy.lt
  replace h2 := h2.below hb3
  have hB3 := bthen hB2 hb3
  clear x0 x1 y0 y1
  have x0 := hx.cell 0 rfl
  have x1 := hx.cell 1 rfl
  have y0 := hy.cell 0 rfl
  have y1 := hy.cell 1 rfl
  clear hb3 hB2 C3 hx hy
  rcases HT.out with ⟨g1, rfl, rfl⟩ | ⟨g1, g2, rfl, rfl⟩ | ⟨g1, g2, rfl, rfl⟩
  · clear HT C4
    rcases HD.out with ⟨rfl, rfl, rfl, rfl, rfl, rfl⟩ | ⟨rfl, rfl, rfl, rfl, rfl, rfl⟩ | ⟨rfl, rfl, rfl, rfl, rfl, rfl⟩ | ⟨rfl, rfl, rfl, rfl, ⟨hne, rfl, rfl⟩ | ⟨hne, rfl, rfl⟩⟩
    all_goals
      clear HD
      go_wp2
      go_ret
      exact ⟨rfl, hB3⟩
  · have et : (n2 : Int).tmod 2 = 0 := by
      rw [Int.tmod_eq_emod_of_nonneg (by omega)]; omega
    clear HT C4 g2
    rcases HD.out with ⟨rfl, rfl, rfl, rfl, rfl, rfl⟩ | ⟨rfl, rfl, rfl, rfl, rfl, rfl⟩ | ⟨rfl, rfl, rfl, rfl, rfl, rfl⟩ | ⟨rfl, rfl, rfl, rfl, ⟨hne, rfl, rfl⟩ | ⟨hne, rfl, rfl⟩⟩
    all_goals
      clear HD
      go_wp2
      go_ret
      exact ⟨rfl, hB3⟩
  · have et : (n2 : Int).tmod 2 = 1 := by
      rw [Int.tmod_eq_emod_of_nonneg (by omega)]; omega
    have C4' := Lib.hid (C4.out _ h2 g1 g2)
    clear HT C4 g2
    rcases HD.out with ⟨rfl, rfl, rfl, rfl, rfl, rfl⟩ | ⟨rfl, rfl, rfl, rfl, rfl, rfl⟩ | ⟨rfl, rfl, rfl, rfl, rfl, rfl⟩ | ⟨rfl, rfl, rfl, rfl, ⟨hne, rfl, rfl⟩ | ⟨hne, rfl, rfl⟩⟩
    all_goals
      clear HD
      go_wp2_with fail
      refine C4'.out.mono ?_
      rintro e w4 ⟨rfl, rfl⟩
      go_wp2
      go_ret
      exact ⟨rfl, hB3⟩
end Go.Proofs.Ytiaemlfkpnpkaaa
