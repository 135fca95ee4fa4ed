/-
  The walks of RtaWorst and RtaLast: each returns true, at every argument.
-/
import Derived.Test.YtiejgmkbhjnceaaRtaGives
import Derived.Test.YtiejgmkbhjnceaaSlicesI
namespace Go.Proofs.Ytiejgmkbhjnceaa
open Go.RowKit
set_option linter.unusedVariables false

set_option maxHeartbeats 1600000 in
theorem RtaWorst_walk (A0 : Option Addr) (n0 c0 : Nat) (l0 : List Tsk) (w : World) (h0 : RdG tskC 2 w A0 n0 l0) (q0 : ∀ s ∈ l0, in64 s.p ∧ in64 s.c) (k0 : n0 ≤ c0) (b0 : c0 * 16 ≤ 140737488351232) :
    Calls Try.prog 4 #[.slice A0 n0 c0] w fun e w' => e = .returned (.bool true) ∧ Below w.heap.size w w' := by
  have hl := RdG.len tskK h0
  have C0 := Lib.hid (alive19_any w)
  have C1 := Lib.hid (fun (W : World) (h : RdG tskC 2 W A0 n0 l0) => Ends_any A0 n0 c0 l0 W h k0 (by omega))
  have C2 := Lib.hid (fun (W : World) (h : RdG tskC 2 W A0 n0 l0) => Run_any A0 n0 c0 l0 400 W h k0 (by omega) ⟨by decide, by decide⟩)
  clear q0
  cases hw : wrongK l0
  · obtain ⟨M, rfl, hM⟩ := good_of hw
    rw [List.length_map] at hl
    subst hl
    have h16 := hM.len
    rcases ends_dec M with ⟨R, hR⟩ | hN
    · replace C1 := Lib.hid (fun (W : World) h => (C1.out W h).mono fun e w' hg => hg.ok hM hR)
      replace C2 := Lib.hid (fun (W : World) h => (C2.out W h).mono fun e w' hg => GivesRun.ok (N := 400) hg hM (by decide))
      have hRl : R.length = M.length := hR.len
      have Hfirst := Lib.hid (fun (hx : ∀ r ∈ R, r ≤ 400) => first_ends hM hR hx)
      have Hmax := Lib.hid (fun (B : Option Addr) (c : Nat) (W : World) (h : Rd W 1 B M.length ((natL R).map (Value.int .i64))) (hp : 0 < M.length) => Max_any B M.length c (natL R) W h hp (by omega))
      have Hgt : Hid (0 < M.length → ¬ 400 < greatI (natL R) → ∀ r ∈ R, r ≤ 400) := fun _ hg r hr => by
        have := greatI_le (show (r : Int) ∈ natL R from List.mem_map.2 ⟨r, hr, rfl⟩)
        omega
      have HR0 : Hid (M.length = 0 → R = []) := fun hz => List.eq_nil_of_length_eq_zero (by omega)
      clear hM hR hRl hw
      go_enter Try.func4, Try.ntmps4
      go_wp2_with fail
      refine C0.out.mono ?_
      rintro e w1 ⟨rfl, hb1⟩
      go_wp2_with fail
      refine (C1.out _ (h0.below hb1)).mono ?_
      rintro e w2 ⟨A2, c2, rfl, r2, hc2, hb2⟩
      have hB2 := bthen hb1 hb2
      by_cases hp : 0 < M.length
      · have CM := Hmax.out _ c2 w2 r2 hp
        generalize greatI (natL R) = G at *
        by_cases hg : 400 < G
        · go_wp2_with fail
          refine CM.mono ?_
          rintro e w3 ⟨rfl, rfl⟩
          go_wp2
          go_ret
          exact ⟨rfl, hB2⟩
        · have Hx := Lib.hid (Hfirst.out (Hgt.out hp (by omega)))
          go_wp2_with fail
          refine CM.mono ?_
          rintro e w3 ⟨rfl, rfl⟩
          go_wp2_with fail
          refine (C2.out _ (h0.below hB2)).mono ?_
          rintro e w4 ⟨A4, B4, c4, d4, rfl, r4, s4, hb4⟩
          rw [Hx.out] at r4
          have CE := Lib.hid (EqualI_any_same A4 A2 M.length c4 M.length c2 (natL R) w4 r4 (r2.below hb4) (by omega))
          have hB4 := bthen hB2 hb4
          clear r4 s4
          go_wp2_with fail
          refine CE.out.mono ?_
          rintro e w5 ⟨rfl, hb5⟩
          go_wp2
          go_ret
          exact ⟨rfl, bthen hB4 hb5⟩
      · have hz : M.length = 0 := by omega
        obtain rfl := List.eq_nil_of_length_eq_zero hz
        obtain rfl := HR0.out rfl
        have Hx := Lib.hid (Hfirst.out (by intro r hr; cases hr))
        clear hp hz Hgt Hmax Hfirst HR0
        simp only [List.length_nil] at *
        go_wp2_with fail
        refine (C2.out _ (h0.below hB2)).mono ?_
        rintro e w4 ⟨A4, B4, c4, d4, rfl, r4, s4, hb4⟩
        rw [Hx.out] at r4
        have CE := Lib.hid (EqualI_any_same A4 A2 0 c4 0 c2 (natL []) w4 r4 (r2.below hb4) (by omega))
        have hB4 := bthen hB2 hb4
        clear r4 s4
        go_wp2_with fail
        refine CE.out.mono ?_
        rintro e w5 ⟨rfl, hb5⟩
        go_wp2
        go_ret
        exact ⟨rfl, bthen hB4 hb5⟩
    · replace C1 := Lib.hid (fun (W : World) h => (C1.out W h).mono fun e w' hg => hg.full hM hN)
      clear hM hN hw
      go_enter Try.func4, Try.ntmps4
      go_wp2_with fail
      refine C0.out.mono ?_
      rintro e w1 ⟨rfl, hb1⟩
      go_wp2_with fail
      refine (C1.out _ (h0.below hb1)).mono ?_
      rintro e w2 ⟨rfl, hb2⟩
      go_wp2
      go_ret
      exact ⟨rfl, bthen hb1 hb2⟩
  · replace C1 := Lib.hid (fun (W : World) h => (C1.out W h).mono fun e w' hg => hg.wrong hw)
    go_enter Try.func4, Try.ntmps4
    go_wp2_with fail
    refine C0.out.mono ?_
    rintro e w1 ⟨rfl, hb1⟩
    go_wp2_with fail
    refine (C1.out _ (h0.below hb1)).mono ?_
    rintro e w2 ⟨rfl, hb2⟩
    go_wp2
    go_ret
    exact ⟨rfl, bthen hb1 hb2⟩
end Go.Proofs.Ytiejgmkbhjnceaa
