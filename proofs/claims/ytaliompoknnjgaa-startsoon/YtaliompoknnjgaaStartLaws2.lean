/-
  The walk of StartSoon: it returns true, at every argument.
-/
import Derived.Test.YtaliompoknnjgaaStartLaws
import Derived.Test.YtaliompoknnjgaaRepeatZero
namespace Go.Proofs.Ytaliompoknnjgaa
open Go.RowKit
set_option maxRecDepth 20000
set_option linter.unusedVariables false

theorem GoodS.at_ {m q p : Nat} {f g : Nat → Nat} (G : GoodS m q f g) (hp : p ≤ 1048576) : GoodS m q (fun _ => p) g :=
  { G with on := fun _ _ => hp }
theorem soon_ends {m q p : Nat} {g : Nat → Nat} (G : GoodS m q (fun _ => p) g) {k : Nat} (h : EndsAt m q (fun _ => p) g k) :
    k = 0 ∧ whoS m q (fun _ => p) g 0 = argm g m ∧ timS m q (fun _ => p) g 0 = p + g (argm g m) := by
  obtain ⟨h1, h2, h3⟩ := soon_none (m := m) (late := q) (on := fun _ => p) (wait := g) (at_ := p) G.hd (fun _ _ => rfl)
  have e : EndsAt m q (fun _ => p) g 0 := ⟨fun i hi => absurd hi (Nat.not_lt_zero _), h1⟩
  exact ⟨h.unique e, h2, h3⟩

set_option maxHeartbeats 1600000 in
theorem StartSoon_walk (A0 : Option Addr) (n0 c0 : Nat) (l0 : List Int) (a1 a2 : Int) (w : World) (h0 : Rd w 1 A0 n0 (l0.map (Value.int .i64))) (q0 : ∀ x ∈ l0, (Lit.int .i64 x).wf = true) (k0 : n0 ≤ c0) (b0 : c0 * 8 ≤ 140737488351232) (w1 : (Lit.int .i64 a1).wf = true) (w2 : (Lit.int .i64 a2).wf = true) :
    Calls Try.prog 5 #[.slice A0 n0 c0, .int .i64 a1, .int .i64 a2] w fun e w' => e = .returned (.bool true) ∧ Below w.heap.size w w' := by
  have C0 := Lib.hid (alive22_any w)
  have Hl := Lib.hid h0.lenMap
  clear q0 w1 w2
  by_cases d1 : a2 < 0
  · go_enter Try.func5, Try.ntmps5
    go_wp2_with fail
    refine C0.out.mono ?_
    rintro e w1 ⟨rfl, hb1⟩
    go_wp2
    go_ret
    exact ⟨rfl, hb1⟩
  by_cases d2 : 1048576 < a2
  · go_enter Try.func5, Try.ntmps5
    go_wp2_with fail
    refine C0.out.mono ?_
    rintro e w1 ⟨rfl, hb1⟩
    go_wp2
    go_ret
    exact ⟨rfl, hb1⟩
  obtain ⟨p, rfl⟩ : ∃ p : Nat, a2 = p := ⟨a2.toNat, by omega⟩
  have hp : p ≤ 1048576 := by omega
  have hmk : ∀ W : World, (Instr.makeSlice 22 (.int .i64 (n0 : Nat)) (.int .i64 (n0 : Nat))).run Try.prog W = .ok (.slice (some ⟨W.heap.size, 0, none⟩) n0 n0) (W.alloc (.cells (madeCells #[.int .i64 0] n0) 3)) := fun W => run_mk (P := Try.prog) elInt rfl .i64 .i64 n0 n0 (Nat.le_refl _) (by omega) (by omega) W
  have C1 := Lib.hid (fun (W : World) (hb : Below w.heap.size w W) => StartWrong_any (some ⟨W.heap.size, 0, none⟩) n0 n0 (List.replicate n0 0) A0 n0 c0 l0 a1 (W.alloc (.cells (madeCells #[.int .i64 0] n0) 3))
    (Ow.make (Value.int .i64) 0 W 3 (base := w.heap.size) n0 (by unfold maxLen; omega) hb.size).rd ((h0.below hb).alloc _) (by omega) (by omega))
  go_enter Try.func5, Try.ntmps5
  go_wp2_with fail
  refine C0.out.mono ?_
  rintro e w1 ⟨rfl, hb1⟩
  go_wp2_with fail
  refine (C1.out _ hb1).mono ?_
  rintro e w2 ⟨rfl, hb2⟩
  have hB := bthen hb1 (below_new hb2)
  clear C0 C1 hb1 hb2 hmk
  by_cases hw : wrongS (List.replicate n0 0) l0 a1 = 0
  · rw [hw]
    obtain ⟨m, q, f, g, -, rfl, rfl, G0⟩ := wrongS_ok hw
    have G := G0.at_ hp
    have hn0 : n0 = m + 1 := by have := Hl.out; rw [lst_len] at this; exact this.symm
    have hm := G.few
    have hpos : 0 < n0 := by omega
    have hrep : List.replicate n0 ((p : Nat) : Int) = lst m (fun _ => p) := by rw [hn0]; exact lst_rep m p
    have C2 := Lib.hid (fun (W : World) => RepeatI_any (some ⟨W.heap.size, 0, none⟩) 1 n0 p (by omega) (W.alloc (.cells #[.int .i64 p] 3)) (Rd.one W (.int .i64 p) 3))
    have C3 := Lib.hid (fun (W : World) (A : Option Addr) (c : Nat) (h : Rd W 1 A n0 ((lst m fun _ => p).map (Value.int .i64))) (hb : Below w.heap.size w W) => StartPlay_yes A n0 c A0 c0 m q (fun _ => p) g hn0 G W h (h0.below hb))
    have C4 := Lib.hid (fun (W : World) (hb : Below w.heap.size w W) => Min_any A0 n0 c0 (lst m g) W (h0.below hb) hpos (by omega))
    have C5 := Lib.hid (fun (W : World) (t : Int) (hb : Below w.heap.size w W) => IndexI_any A0 n0 c0 (lst m g) t W (h0.below hb) (by omega))
    have hse := fun k h => soon_ends G (k := k) h
    have Hse := Lib.hid hse
    have hx := G.w2 _ (argm_le g m)
    clear hw G G0 h0 Hl hse hn0
    go_wp2_with fail
    refine (C2.out _).mono ?_
    rintro e w3 ⟨gb, d, rfl, ho, -, -, hb3⟩
    rw [hrep] at ho
    have hB3 := bthen hB (below_new hb3)
    have hrd := ho.rd
    clear ho C2 hb3 hB
    go_wp2_with fail
    refine (C3.out _ _ _ hrd hB3).mono ?_
    rintro e w4 ⟨k, hk, rfl, hb4⟩
    have hB4 := bthen hB3 hb4
    obtain ⟨rfl, e2, e3⟩ := Hse.out k hk.out
    rw [e2, e3]
    have D4 := Lib.hid (C4.out _ hB4)
    rw [lst_least] at D4
    have D5 := Lib.hid (C5.out _ ((g (argm g m) : Nat) : Int) hB4)
    have Hi := Lib.hid (fun r => lst_index (m := m) (f := g) (r := r))
    clear C3 C4 C5 hrd hB3 hb4 hk e2 e3 Hse hrep
    generalize g (argm g m) = X at *
    generalize argm g m = I at *
    unfold startV
    go_wp2_with fail
    refine D4.out.mono ?_
    rintro e w' ⟨rfl, rfl⟩
    go_wp2_with fail
    refine D5.out.mono ?_
    rintro e w' ⟨r, rfl, hr, rfl⟩
    obtain rfl := Hi.out r hr
    clear hr Hi D5
    go_wp2_with fail
    refine D4.out.mono ?_
    rintro e w' ⟨rfl, rfl⟩
    clear D4
    go_wp2
    go_ret
    exact ⟨ret_bool (by simp <;> omega), hB4⟩
  · have hne : (wrongS (List.replicate n0 0) l0 a1 != 0) = true := by simpa using hw
    clear hw h0
    generalize wrongS (List.replicate n0 0) l0 a1 = E at *
    go_wp2
    go_ret
    exact ⟨rfl, hB⟩
end Go.Proofs.Ytaliompoknnjgaa
