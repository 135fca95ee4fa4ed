/-
  The walk of StartPlays: it returns true, at every argument.
-/
import Derived.Test.YtaliompoknnjgaaStartRef
import Derived.Test.YtaliompoknnjgaaStartRef2
namespace Go.Proofs.Ytaliompoknnjgaa
open Go.RowKit
set_option maxRecDepth 20000
set_option linter.unusedVariables false

set_option maxHeartbeats 1600000 in
theorem StartPlays_no (A0 : Option Addr) (n0 c0 : Nat) (l0 : List Int) (A1 : Option Addr) (n1 c1 : Nat) (l1 : List Int) (a2 : Int) (w : World)
    (h0 : Rd w 1 A0 n0 (l0.map (Value.int .i64))) (h1 : Rd w 1 A1 n1 (l1.map (Value.int .i64))) (hn0 : n0 ≤ 4611686018427387904) (hn1 : n1 ≤ 4611686018427387904) (hw : wrongS l0 l1 a2 ≠ 0) :
    Calls Try.prog 3 #[.slice A0 n0 c0, .slice A1 n1 c1, .int .i64 a2] w fun e w' => e = .returned (.bool true) ∧ Below w.heap.size w w' := by
  have C1 := Lib.hid (StartPlay_no A0 n0 c0 l0 A1 n1 c1 l1 a2 w h0 h1 hn0 hn1 hw)
  have C2 := Lib.hid (fun (W : World) (hb : Below w.heap.size w W) => VWrong_any A0 n0 c0 l0 A1 n1 c1 l1 a2 W (h0.below hb) (h1.below hb) hn0 hn1)
  have C3 := Lib.hid (fun (W : World) (hb : Below w.heap.size w W) => StartWrong_any A0 n0 c0 l0 A1 n1 c1 l1 a2 W (h0.below hb) (h1.below hb) hn0 hn1)
  clear h0 h1
  generalize wrongS l0 l1 a2 = E at *
  have hne : (E != 0) = true := by simpa using hw
  have hee : (E != E) = false := by simp
  go_enter Try.func3, Try.ntmps3
  go_wp2_with fail
  refine C1.out.mono ?_
  rintro e w1 ⟨rfl, hb1⟩
  unfold startV
  go_wp2_with fail
  refine (C2.out _ hb1).mono ?_
  rintro e w' ⟨rfl, rfl⟩
  go_wp2_with fail
  refine (C3.out _ hb1).mono ?_
  rintro e w2 ⟨rfl, hb2⟩
  have hB := bthen hb1 hb2
  clear C1 C2 C3 hb1 hb2
  go_wp2
  go_ret
  exact ⟨rfl, hB⟩

set_option maxHeartbeats 1600000 in
theorem StartPlays_yes (A0 : Option Addr) (n0 c0 : Nat) (A1 : Option Addr) (c1 : Nat) (m q : Nat) (f g : Nat → Nat) (hn : n0 = m + 1) (G : GoodS m q f g) (w : World)
    (h0 : Rd w 1 A0 n0 ((lst m f).map (Value.int .i64))) (h1 : Rd w 1 A1 n0 ((lst m g).map (Value.int .i64))) :
    Calls Try.prog 3 #[.slice A0 n0 c0, .slice A1 n0 c1, .int .i64 (q : Nat)] w fun e w' => e = .returned (.bool true) ∧ Below w.heap.size w w' := by
  have hm := G.few
  have C1 := Lib.hid (StartPlay_yes A0 n0 c0 A1 c1 m q f g hn G w h0 h1)
  have C2 := Lib.hid (fun (W : World) (hb : Below w.heap.size w W) => VWrong_any A0 n0 c0 (lst m f) A1 n0 c1 (lst m g) q W (h0.below hb) (h1.below hb) (by omega) (by omega))
  have C3 := Lib.hid (fun (W : World) (hb : Below w.heap.size w W) => StartWrong_any A0 n0 c0 (lst m f) A1 n0 c1 (lst m g) q W (h0.below hb) (h1.below hb) (by omega) (by omega))
  have C4 := Lib.hid (fun (W : World) (hb : Below w.heap.size w W) => VPlay_any A0 n0 c0 A1 c1 m q f g hn G W (h0.below hb) (h1.below hb))
  rw [good_iff.2 G] at C2 C3
  clear h0 h1 hn G
  go_enter Try.func3, Try.ntmps3
  go_wp2_with fail
  refine C1.out.mono ?_
  rintro e w1 ⟨k, hk, rfl, hb1⟩
  unfold startV
  go_wp2_with fail
  refine (C2.out _ hb1).mono ?_
  rintro e w' ⟨rfl, rfl⟩
  go_wp2_with fail
  refine (C3.out _ hb1).mono ?_
  rintro e w2 ⟨rfl, hb2⟩
  have hB := bthen hb1 hb2
  clear C1 C2 C3 hb1 hb2
  go_wp2_with fail
  refine (C4.out _ hB).mono ?_
  rintro e w3 ⟨k', hk', rfl, hb3⟩
  obtain rfl := hk'.out.unique hk.out
  have hB3 := bthen hB hb3
  clear C4 hB hb3 hk hk'
  generalize whoS m q f g k' = X at *
  generalize timS m q f g k' = Y at *
  go_wp2
  go_ret
  exact ⟨ret_bool (by simp), hB3⟩

theorem StartPlays_walk (A0 : Option Addr) (n0 c0 : Nat) (l0 : List Int) (A1 : Option Addr) (n1 c1 : Nat) (l1 : List Int) (a2 : Int) (w : World)
    (h0 : Rd w 1 A0 n0 (l0.map (Value.int .i64))) (q0 : ∀ x ∈ l0, (Lit.int .i64 x).wf = true) (k0 : n0 ≤ c0) (b0 : c0 * 8 ≤ 140737488351232)
    (h1 : Rd w 1 A1 n1 (l1.map (Value.int .i64))) (q1 : ∀ x ∈ l1, (Lit.int .i64 x).wf = true) (k1 : n1 ≤ c1) (b1 : c1 * 8 ≤ 140737488351232) (w2 : (Lit.int .i64 a2).wf = true) :
    Calls Try.prog 3 #[.slice A0 n0 c0, .slice A1 n1 c1, .int .i64 a2] w fun e w' => e = .returned (.bool true) ∧ Below w.heap.size w w' := by
  by_cases hw : wrongS l0 l1 a2 = 0
  · obtain ⟨m, q, f, g, rfl, rfl, rfl, G⟩ := wrongS_ok hw
    have hl := h0.lenMap
    have hl2 := h1.lenMap
    rw [lst_len] at hl hl2
    obtain rfl : n1 = n0 := hl2.symm.trans hl
    exact StartPlays_yes A0 n1 c0 A1 c1 m q f g hl.symm G w h0 h1
  · exact StartPlays_no A0 n0 c0 l0 A1 n1 c1 l1 a2 w h0 h1 (by omega) (by omega) hw
end Go.Proofs.Ytaliompoknnjgaa
