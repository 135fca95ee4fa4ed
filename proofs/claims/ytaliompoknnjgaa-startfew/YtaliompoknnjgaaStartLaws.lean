/-
  alive22 returns true; the walks of StartOne and StartFew.
-/
import Derived.Test.YtaliompoknnjgaaStartPlay
import Derived.Test.YtaliompoknnjgaaSlices
namespace Go.Proofs.Ytaliompoknnjgaa
open Go.RowKit
set_option maxRecDepth 20000
set_option linter.unusedVariables false

def alF (k : Nat) : Nat := if k = 0 then 0 else if k = 1 then 5 else 40
def alG (k : Nat) : Nat := if k = 0 then 20 else if k = 1 then 16 else 30
theorem al_on : lst 2 alF = [0, 5, 40] := by decide
theorem al_wait : lst 2 alG = [20, 16, 30] := by decide
theorem al_good : GoodS 2 3 alF alG := good_iff.1 (by decide)
theorem al_ends : EndsAt 2 3 alF alG 1 := by
  refine ⟨fun i hi => ?_, ?_⟩
  · obtain rfl : i = 0 := by omega
    exact ⟨1, by decide, by decide, by decide⟩
  · rintro ⟨v, hv, h1, h2⟩
    have : ∀ v < 3, v ≠ whoS 2 3 alF alG 1 → ¬ schS 2 3 alF alG 1 v < timS 2 3 alF alG 1 + 3 := by decide
    exact this v (by omega) h1 h2

set_option maxHeartbeats 800000 in
theorem alive22_any (w : World) : Calls Try.prog 12 #[] w fun e w' => e = .returned (.bool true) ∧ Below w.heap.size w w' := by
  have C := Lib.hid (fun (W : World) (A B : Option Addr) (h : Rd W 1 A 3 ([0, 5, 40].map (Value.int .i64))) (h2 : Rd W 1 B 3 ([20, 16, 30].map (Value.int .i64))) => StartPlay_yes A 3 3 B 3 2 3 alF alG rfl al_good W (al_on ▸ h) (al_wait ▸ h2))
  go_enter Try.func12, Try.ntmps12
  go_wp2_with fail
  refine (C.out _ _ _ ((Rd.litAt (Value.int .i64) [0, 5, 40] _ rfl).alloc _) (Rd.litAt (Value.int .i64) [20, 16, 30] _ (by simp))).mono ?_
  rintro e w' ⟨k, hk, rfl, hb⟩
  obtain rfl := hk.out.unique al_ends
  have e1 : whoS 2 3 alF alG 1 = 1 := by decide
  have e2 : timS 2 3 alF alG 1 = 39 := by decide
  rw [e1, e2]
  have hB := Lib.hid (below_new (below_new hb))
  clear hk e1 e2 C hb
  unfold startV
  go_wp2
  go_ret
  exact ⟨rfl, hB.out⟩

set_option maxHeartbeats 1600000 in
theorem StartOne_walk (A0 : Option Addr) (n0 c0 : Nat) (l0 : List Int) (A1 : Option Addr) (n1 c1 : Nat) (l1 : List Int) (a2 : Int) (w : World)
    (h0 : Rd w 1 A0 n0 (l0.map (Value.int .i64))) (q0 : ∀ x ∈ l0, (Lit.int .i64 x).wf = true) (k0 : n0 ≤ c0) (b0 : c0 * 8 ≤ 140737488351232)
    (h1 : Rd w 1 A1 n1 (l1.map (Value.int .i64))) (q1 : ∀ x ∈ l1, (Lit.int .i64 x).wf = true) (k1 : n1 ≤ c1) (b1 : c1 * 8 ≤ 140737488351232) (w2 : (Lit.int .i64 a2).wf = true) :
    Calls Try.prog 4 #[.slice A0 n0 c0, .slice A1 n1 c1, .int .i64 a2] w fun e w' => e = .returned (.bool true) ∧ Below w.heap.size w w' := by
  have C0 := Lib.hid (alive22_any w)
  have C1 := Lib.hid (fun (W : World) (hb : Below w.heap.size w W) => StartPlay_any A0 n0 c0 l0 A1 n1 c1 l1 a2 W (h0.below hb) (h1.below hb) (by omega) (by omega))
  have Hl := Lib.hid h0.lenMap
  have Hl1 := Lib.hid h1.lenMap
  clear q0 q1 w2
  go_enter Try.func4, Try.ntmps4
  go_wp2_with fail
  refine C0.out.mono ?_
  rintro e w1 ⟨rfl, hb1⟩
  go_wp2_with fail
  refine (C1.out _ hb1).mono ?_
  rintro e w3 ⟨a, t, k, hT, rfl, hb3⟩
  have hB := bthen hb1 hb3
  clear C0 C1 hb1 hb3
  unfold startV
  by_cases hw : wrongS l0 l1 a2 = 0
  · obtain ⟨m, q, f, g, c, rfl, rfl, rfl, G, -, rfl, rfl, rfl⟩ := hT.out.2 hw
    rw [hw]
    have hn0 : n0 = m + 1 := by have := Hl.out; rw [lst_len] at this; exact this.symm
    have hn1 : n1 = m + 1 := by have := Hl1.out; rw [lst_len] at this; exact this.symm
    have hwm := whoS_le m q f g c
    have htw := tim_waited m q f g c
    have x1 := G.on _ hwm
    have x2 := G.w2 _ hwm
    have hi0 : whoS m q f g c < n0 := by omega
    have hi1 : whoS m q f g c < n1 := by omega
    obtain ⟨ad, x, rfl, hx, hc⟩ := (h0.below hB).atMap hi0
    obtain ⟨aw, y, rfl, hy, hd⟩ := (h1.below hB).atMap hi1
    rw [lst_at hwm] at hx hy
    injection hx with hx
    injection hy with hy
    subst hx hy
    clear hT hw h0 h1 G Hl Hl1 hn1 hn0 hwm
    generalize timS m q f g c = T at *
    generalize whoS m q f g c = W at *
    generalize f W = X at *
    generalize g W = Y at *
    have hdd : decide ((X : Int) + (Y : Int) ≤ (T : Int)) = true := decide_eq_true (by omega)
    go_wp2
    go_quiet (fail)
    go_wp2
    go_ret
    exact ⟨ret_bool (by simp <;> omega), bthen hB (below_draws ⟨_, rfl⟩)⟩
  · obtain ⟨rfl, rfl, rfl⟩ := hT.out.1 hw
    have hne : (wrongS l0 l1 a2 != 0) = true := by simpa using hw
    clear hT hw h0 h1
    generalize wrongS l0 l1 a2 = E at *
    go_wp2
    go_ret
    exact ⟨rfl, hB⟩

set_option maxHeartbeats 1600000 in
theorem StartFew_walk (A0 : Option Addr) (n0 c0 : Nat) (l0 : List Int) (A1 : Option Addr) (n1 c1 : Nat) (l1 : List Int) (a2 : Int) (w : World)
    (h0 : Rd w 1 A0 n0 (l0.map (Value.int .i64))) (q0 : ∀ x ∈ l0, (Lit.int .i64 x).wf = true) (k0 : n0 ≤ c0) (b0 : c0 * 8 ≤ 140737488351232)
    (h1 : Rd w 1 A1 n1 (l1.map (Value.int .i64))) (q1 : ∀ x ∈ l1, (Lit.int .i64 x).wf = true) (k1 : n1 ≤ c1) (b1 : c1 * 8 ≤ 140737488351232) (w2 : (Lit.int .i64 a2).wf = true) :
    Calls Try.prog 6 #[.slice A0 n0 c0, .slice A1 n1 c1, .int .i64 a2] w fun e w' => e = .returned (.bool true) ∧ Below w.heap.size w w' := by
  have C0 := Lib.hid (alive22_any w)
  have C1 := Lib.hid (fun (W : World) (hb : Below w.heap.size w W) => StartPlay_any A0 n0 c0 l0 A1 n1 c1 l1 a2 W (h0.below hb) (h1.below hb) (by omega) (by omega))
  have Hl := Lib.hid h0.lenMap
  clear q0 q1 w2 h0 h1
  go_enter Try.func6, Try.ntmps6
  go_wp2_with fail
  refine C0.out.mono ?_
  rintro e w1 ⟨rfl, hb1⟩
  go_wp2_with fail
  refine (C1.out _ hb1).mono ?_
  rintro e w3 ⟨a, t, k, hT, rfl, hb3⟩
  have hB := bthen hb1 hb3
  clear C0 C1 hb1 hb3
  unfold startV
  by_cases hw : wrongS l0 l1 a2 = 0
  · obtain ⟨m, q, f, g, c, rfl, rfl, rfl, G, hE, rfl, rfl, rfl⟩ := hT.out.2 hw
    rw [hw]
    have hn0 : n0 = m + 1 := by have := Hl.out; rw [lst_len] at this; exact this.symm
    have hfew := G.few_ hE.1
    have hm := G.few
    clear hT hw G Hl hE
    generalize timS m q f g c = T at *
    generalize whoS m q f g c = W at *
    go_wp2
    go_ret
    exact ⟨ret_bool (by simp <;> omega), hB⟩
  · have hne : (wrongS l0 l1 a2 != 0) = true := by simpa using hw
    clear hT hw
    generalize wrongS l0 l1 a2 = E at *
    go_wp2
    go_ret
    exact ⟨rfl, hB⟩
end Go.Proofs.Ytaliompoknnjgaa
