/-
  The walks of VoteMasks, VoteBetween, VoteOne, VoteNear, VoteSame: each returns true, at every argument.
-/
import Derived.Test.YtiaemlfkpnpkaaaVoteWalks2
import Derived.Test.YtiaemlfkpnpkaaaConcatI
namespace Go.Proofs.Ytiaemlfkpnpkaaa
open Go.RowKit
set_option linter.unusedVariables false

def aL1 : List Int := [9, 1, 4]
def aL2 : List Int := [7, 2, 7]
def aL3 : List Int := [1, 2]
def aL4 : List Int := [10, 12, 90]
theorem aL1_sort : sortI aL1 = [1, 4, 9] := sortI_unique (by decide) (by decide)
theorem aL2_sort : sortI aL2 = [2, 7, 7] := sortI_unique (by decide) (by decide)
theorem aL3_sort : sortI aL3 = [1, 2] := sortI_unique (by decide) (by decide)
theorem aL4_sort : sortI aL4 = [10, 12, 90] := sortI_unique (by decide) (by decide)
theorem aL1_mid : middleV aL1 = 4 ∧ middleE aL1 = 0 := by
  obtain ⟨h1, h2⟩ := middle_ok (l := aL1) (by decide) (by decide)
  refine ⟨?_, h1⟩
  rw [h2]
  unfold midO nth
  rw [aL1_sort]
  rfl
theorem aL2_most : mostV aL2 = 7 ∧ mostE aL2 = 0 := by
  obtain ⟨h1, h2⟩ := most_is (l := aL2) (x := 7) (by decide) (by decide)
  exact ⟨h2, h1⟩
theorem aL3_most : mostE aL3 = 3 := (most_nobody (l := aL3) (by decide) (by decide)).1
theorem aL4_near : nearV aL4 2 = 10 ∧ nearE aL4 2 = 0 := by
  obtain ⟨h1, h2⟩ := near_some (l := aL4) (far := 2) (v := 10) (by decide) (nearF_is (by decide) (by decide) (by decide))
  exact ⟨h2, h1⟩

set_option maxHeartbeats 800000 in
theorem alive15_any (w : World) : Calls Try.prog 18 #[] w fun e w' => e = .returned (.bool true) ∧ Below w.heap.size w w' := by
  have C0 := Lib.hid (fun (W : World) => Two_any false 3 true 4 W)
  have C1 := Lib.hid (fun (W : World) (A : Option Addr) (h : Rd W 1 A 3 (aL1.map (Value.int .i64))) => Middle_any A 3 3 aL1 W h (by decide))
  have C2 := Lib.hid (fun (W : World) (A : Option Addr) (h : Rd W 1 A 3 (aL2.map (Value.int .i64))) => Most_any A 3 3 aL2 W h (by unfold in64; decide) (by decide))
  have C3 := Lib.hid (fun (W : World) (A : Option Addr) (h : Rd W 1 A 2 (aL3.map (Value.int .i64))) => Most_any A 2 2 aL3 W h (by unfold in64; decide) (by decide))
  have C4 := Lib.hid (fun (W : World) (A : Option Addr) (h : Rd W 1 A 3 (aL4.map (Value.int .i64))) => Near_any A 3 3 aL4 2 W h (by decide))
  rw [aL1_mid.1, aL1_mid.2] at C1
  rw [aL2_most.1, aL2_most.2] at C2
  rw [aL3_most] at C3
  rw [aL4_near.1, aL4_near.2] at C4
  go_enter Try.func18, Try.ntmps18
  go_wp2_with fail
  refine (C0.out _).mono ?_
  rintro e w0 ⟨rfl, hB0⟩
  go_wp2_with fail
  refine (C1.out _ _ (Rd.litAt (Value.int .i64) aL1 _ rfl)).mono ?_
  rintro e w1 ⟨rfl, hb1⟩
  have hB1 := bthen hB0 (below_new hb1)
  clear hb1
  go_wp2_with fail
  refine (C2.out _ _ (Rd.litAt (Value.int .i64) aL2 _ rfl)).mono ?_
  rintro e w2 ⟨rfl, hb2⟩
  have hB2 := bthen hB1 (below_new hb2)
  clear hb2
  go_wp2_with fail
  refine (C3.out _ _ (Rd.litAt (Value.int .i64) aL3 _ rfl)).mono ?_
  rintro e w3 ⟨rfl, hb3⟩
  have hB3 := bthen hB2 (below_new hb3)
  clear hb3
  go_wp2_with fail
  refine (C4.out _ _ (Rd.litAt (Value.int .i64) aL4 _ rfl)).mono ?_
  rintro e w4 ⟨rfl, hb4⟩
  go_wp2
  go_ret
  exact ⟨rfl, bthen hB3 (below_new hb4)⟩

/-! VoteMasks -/
theorem Box.rd {w : World} {b : Nat} {t : TypeId} {vs : List Value} {n : Nat} (h : Box w b t vs) (hn : vs.length = n) : Rd w 1 (some ⟨b, 0, none⟩) n vs := by
  refine ⟨by omega, fun _ => ⟨_, rfl, fun j u hj => ?_⟩⟩
  have hadd : (⟨b, 0, none⟩ : Addr).add j = ⟨b, j, none⟩ := by unfold Addr.add; split <;> simp_all
  rw [hadd]
  exact h.cell j hj
theorem masks_facts {m : List Int} {g : Int} (hl : m.length = 3) (hc : 2 ≤ cntE m g) : (middleV m = g ∧ middleE m = 0) ∧ mostV m = g ∧ mostE m = 0 := by
  have h2 : m.length / 2 < cntE m g := by omega
  obtain ⟨e1, e2⟩ := middle_ok (l := m) (by omega) (by omega)
  obtain ⟨f1, f2⟩ := most_is (l := m) (by omega) h2
  exact ⟨⟨e2.trans (most_mid h2), e1⟩, f2, f1⟩
theorem masks_count (g b : Int) : 2 ≤ cntE [b, g, g] g ∧ 2 ≤ cntE [g, b, g] g ∧ 2 ≤ cntE [g, g, b] g := by
  unfold cntE
  simp only [List.countP_cons, List.countP_nil, decide_true, if_true]
  exact ⟨by omega, by omega, by omega⟩
set_option maxHeartbeats 1600000 in
theorem VoteMasks_walk (a0 a1 a2 : Int) (w : World) (w0 : (Lit.int .i64 a0).wf = true) (w1 : (Lit.int .i64 a1).wf = true) (w2 : (Lit.int .i64 a2).wf = true) :
    Calls Try.prog 5 #[.int .i64 a0, .int .i64 a1, .int .i64 a2] w fun e w' => e = .returned (.bool true) ∧ Below w.heap.size w w' := by
  have r0 := in64_wf w0
  have r1 := in64_wf w1
  have C0 := Lib.hid (alive15_any w)
  clear w0 w1 w2
  by_cases g1 : a2 < 0
  · clear r0 r1
    go_enter Try.func5, Try.ntmps5
    go_wp2_with fail
    refine C0.out.mono ?_
    rintro e w1 ⟨rfl, hb1⟩
    go_wp2
    go_ret
    exact ⟨rfl, hb1⟩
  by_cases g2 : 2 < a2
  · clear r0 r1
    go_enter Try.func5, Try.ntmps5
    go_wp2_with fail
    refine C0.out.mono ?_
    rintro e w1 ⟨rfl, hb1⟩
    go_wp2
    go_ret
    exact ⟨rfl, hb1⟩
  have h3 : (∃ k : Nat, ∃ m : List Int, a2 = (k : Int) ∧ k < 3 ∧ m = [a0, a0, a0].set k a1 ∧ 2 ≤ cntE m a0) := by
    obtain ⟨c1, c2, c3⟩ := masks_count a0 a1
    have : a2 = 0 ∨ a2 = 1 ∨ a2 = 2 := by omega
    rcases this with rfl | rfl | rfl
    · exact ⟨0, _, rfl, by omega, rfl, c1⟩
    · exact ⟨1, _, rfl, by omega, rfl, c2⟩
    · exact ⟨2, _, rfl, by omega, rfl, c3⟩
  obtain ⟨k, m, rfl, hk, hm, hc⟩ := h3
  have hml : m.length = 3 := by rw [hm, List.length_set]; rfl
  have hmq : in64s m := by
    intro x hx
    rw [hm] at hx
    rcases List.mem_or_eq_of_mem_set hx with hx | rfl
    · simp at hx; subst hx; exact r0
    · exact r1
  obtain ⟨⟨e1, e2⟩, e3, e4⟩ := masks_facts hml hc
  have C1 := Lib.hid (fun (W : World) (A : Option Addr) (h : Rd W 1 A 3 (m.map (Value.int .i64))) => Middle_any A 3 3 m W h (by decide))
  have C2 := Lib.hid (fun (W : World) (A : Option Addr) (h : Rd W 1 A 3 (m.map (Value.int .i64))) => Most_any A 3 3 m W h hmq (by decide))
  rw [e1, e2] at C1
  rw [e3, e4] at C2
  have Hm : Hid (m.map (Value.int .i64) = ([a0, a0, a0].map (Value.int .i64)).set k (.int .i64 a1)) := by
    show _ = _
    rw [hm, List.map_set]
  clear e1 e2 e3 e4 hc hm hml hmq r0 r1 g1 g2
  go_enter Try.func5, Try.ntmps5
  go_wp2_with fail
  refine C0.out.mono ?_
  rintro e w1 ⟨rfl, hb1⟩
  have hbx := Box.new w1 3 [.int .i64 a0, .int .i64 a0, .int .i64 a0]
  have hfr := hbx.free k
  have hB2 : Below w.heap.size w (w1.alloc (.cells ([.int .i64 a0, .int .i64 a0, .int .i64 a0].set k (.int .i64 a1)).toArray 3)) := hb1.alloc hb1.size _
  have hrd := (Box.new w1 3 ([.int .i64 a0, .int .i64 a0, .int .i64 a0].set k (.int .i64 a1))).rd (n := 3) (by simp)
  have hcell : ∃ u, (w1.alloc (.cells #[.int .i64 a0, .int .i64 a0, .int .i64 a0] 3)).cell? ⟨w1.heap.size, k, none⟩ = some u := ⟨_, hbx.cell k (v := .int .i64 a0) (by
    have : k = 0 ∨ k = 1 ∨ k = 2 := by omega
    rcases this with rfl | rfl | rfl <;> rfl)⟩
  obtain ⟨u, hcell⟩ := hcell
  have hrd2 : Rd (w1.alloc (.cells ([.int .i64 a0, .int .i64 a0, .int .i64 a0].set k (.int .i64 a1)).toArray 3)) 1 (some ⟨w1.heap.size, 0, none⟩) 3 (m.map (Value.int .i64)) := by
    rw [Hm.out]; exact hrd
  clear hrd hbx
  go_wp2_with fail
  refine (C1.out _ _ hrd2).mono ?_
  rintro e w3 ⟨rfl, hb3⟩
  replace hrd2 := hrd2.below hb3
  have hB3 := bthen hB2 hb3
  clear hb3 hB2 hcell hfr
  go_wp2_with fail
  refine (C2.out _ _ hrd2).mono ?_
  rintro e w4 ⟨rfl, hb4⟩
  have hB4 := bthen hB3 hb4
  clear hb4 hB3 hrd2
  go_wp2
  go_ret
  exact ⟨rfl, hB4⟩

/-! VoteBetween -/
theorem between_facts {bad good : List Int} (hm : bad.length < good.length) (he : middleE (bad ++ good) = 0) : leastI good ≤ middleV (bad ++ good) ∧ middleV (bad ++ good) ≤ greatI good := by
  rw [middleV_ok he]
  unfold midO
  refine nth_safe (bad := bad) (good := good) (List.Perm.refl _) (fun x hx => ⟨leastI_le hx, greatI_le hx⟩) ?_ ?_
  · rw [List.length_append]; omega
  · rw [List.length_append]; omega
set_option maxHeartbeats 1600000 in
theorem VoteBetween_walk (A0 : Option Addr) (n0 c0 : Nat) (l0 : List Int) (A1 : Option Addr) (n1 c1 : Nat) (l1 : List Int) (w : World) (h0 : Rd w 1 A0 n0 (l0.map (Value.int .i64))) (q0 : ∀ x ∈ l0, (Lit.int .i64 x).wf = true) (k0 : n0 ≤ c0) (b0 : c0 * 8 ≤ 140737488351232)
    (h1 : Rd w 1 A1 n1 (l1.map (Value.int .i64))) (q1 : ∀ x ∈ l1, (Lit.int .i64 x).wf = true) (k1 : n1 ≤ c1) (b1 : c1 * 8 ≤ 140737488351232) :
    Calls Try.prog 6 #[.slice A0 n0 c0, .slice A1 n1 c1] w fun e w' => e = .returned (.bool true) ∧ Below w.heap.size w w' := by
  have hl0 := h0.lenMap
  have hl1 := h1.lenMap
  have C0 := Lib.hid (alive15_any w)
  have Hlen : Hid ((l1 ++ l0).length = n1 + n0) := by show _ = _; rw [List.length_append]; omega
  have C1 := Lib.hid (fun (W : World) (A : Option Addr) (c : Nat) (h : Rd W 1 A (n1 + n0) ((l1 ++ l0).map (Value.int .i64))) => Middle_any A (n1 + n0) c (l1 ++ l0) W h (by omega))
  have Hf : Hid (middleE (l1 ++ l0) = 0 → n1 < n0 → leastI l0 ≤ middleV (l1 ++ l0) ∧ middleV (l1 ++ l0) ≤ greatI l0) := fun hw hm => between_facts (by omega) hw
  have Hno : Hid (¬ middleE (l1 ++ l0) = 0 → middleV (l1 ++ l0) = 0) := fun hw => middleV_no hw
  have K4 := Lib.hid (fun (W : World) (h : Rd W 1 A0 n0 (l0.map (Value.int .i64))) (hp : 0 < n0) => Min_any A0 n0 c0 l0 W h hp (by omega))
  have K5 := Lib.hid (fun (W : World) (h : Rd W 1 A0 n0 (l0.map (Value.int .i64))) (hp : 0 < n0) => Max_any A0 n0 c0 l0 W h hp (by omega))
  clear q0 q1 hl0 hl1
  go_enter Try.func6, Try.ntmps6
  go_wp2_with fail
  refine C0.out.mono ?_
  rintro e w1 ⟨rfl, hb1⟩
  replace h0 := h0.below hb1
  replace h1 := h1.below hb1
  go_wp2_with fail
  refine (ConcatI_any _ 2 2 [(A1, n1, c1, l1), (A0, n0, c0, l0)] _ (Rd.litAt ConcatI_any_val _ _ rfl) ?_ (by decide) (by rw [two_parts, Hlen.out]; omega) (by rw [two_parts, Hlen.out]; omega)).mono ?_
  · intro p hp
    simp only [List.mem_cons, List.not_mem_nil, or_false] at hp
    rcases hp with rfl | rfl
    · exact h1.alloc _
    · exact h0.alloc _
  rintro e w2 ⟨v2, rfl, ho2, hb2⟩
  rw [two_parts] at ho2
  obtain ⟨Ax, cx, rfl, _, _, hx⟩ := ho2.formN Hlen.out
  have hB2 := bthen hb1 (below_new hb2)
  replace h0 := h0.below (below_new hb2)
  clear ho2 hb1 hb2 h1
  go_wp2_with fail
  refine (C1.out _ _ _ hx).mono ?_
  rintro e w3 ⟨rfl, hb3⟩
  replace h0 := h0.below hb3
  have hB3 := bthen hB2 hb3
  clear hb3 hB2 hx C0 C1
  by_cases hw : middleE (l1 ++ l0) = 0
  · by_cases hm : n1 < n0
    · obtain ⟨f1, f2⟩ := Hf.out hw hm
      rw [hw]
      generalize middleV (l1 ++ l0) = a at *
      generalize leastI l0 = lo at *
      generalize greatI l0 = hi at *
      clear Hf Hno hw
      have hp : 0 < n0 := by omega
      go_wp2_with fail
      refine (K4.out _ h0 hp).mono ?_
      rintro e w6 ⟨rfl, hw6⟩
      rw [hw6] at h0 hB3
      clear hw6
      go_wp2_with fail
      refine (K5.out _ h0 hp).mono ?_
      rintro e w7 ⟨rfl, hw7⟩
      rw [hw7] at hB3
      clear hw7 h0
      go_wp2
      go_ret
      exact ⟨rfl, hB3⟩
    · rw [hw]
      clear Hf Hno hw
      go_wp2
      go_ret
      exact ⟨rfl, hB3⟩
  · have hz := Hno.out hw
    rw [hz]
    have hne : (middleE (l1 ++ l0) != 0) = true := by simpa using hw
    have hne2 : (middleE (l1 ++ l0) == 0) = false := by simpa using hw
    clear Hf Hno hw hz
    go_wp2
    go_ret
    exact ⟨rfl, hB3⟩

/-! VoteSame -/
theorem same_facts (g1 : Bool) (v1 : Int) (g2 : Bool) (v2 : Int) :
    sameV g1 v1 g2 v2 = sameV g2 v2 g1 v1 ∧ sameE g1 v1 g2 v2 = sameE g2 v2 g1 v1 ∧
    ((sameE g1 v1 g2 v2 = 0 ∧ twoE g1 g2 = 0 ∧ twoV g1 v1 g2 v2 = sameV g1 v1 g2 v2) ∨ (sameE g1 v1 g2 v2 = 3 ∧ twoE g1 g2 = 3) ∨ (sameE g1 v1 g2 v2 = 7 ∧ twoE g1 g2 = 0 ∧ ¬ v1 = v2)) := by
  by_cases hv : v1 = v2
  · subst hv
    cases g1 <;> cases g2 <;> simp [sameV, sameE, twoE, twoV]
  · have hv2 : ¬ v2 = v1 := fun e => hv e.symm
    cases g1 <;> cases g2 <;> simp [sameV, sameE, twoE, twoV, hv, hv2]
set_option maxHeartbeats 1600000 in
theorem VoteSame_walk (a0 : Bool) (a1 : Int) (b0 : Bool) (b1 : Int) (w : World) (w0 : (Lit.int .i64 a1).wf = true) (w1 : (Lit.int .i64 b1).wf = true) :
    Calls Try.prog 9 #[copyV a0 a1, copyV b0 b1] w fun e w' => e = .returned (.bool true) ∧ Below w.heap.size w w' := by
  have C0 := Lib.hid (fun (W : World) => alive15_any W)
  have C1 := Lib.hid (fun (W : World) => Same_any a0 a1 b0 b1 W)
  have C2 := Lib.hid (fun (W : World) => Same_any b0 b1 a0 a1 W)
  have C3 := Lib.hid (fun (W : World) => Two_any a0 a1 b0 b1 W)
  obtain ⟨e1, e2, e3⟩ := same_facts a0 a1 b0 b1
  rw [← e1, ← e2] at C2
  have E3 := Lib.hid e3
  clear e1 e2 e3 w0 w1
  generalize sameV a0 a1 b0 b1 = x at *
  generalize sameE a0 a1 b0 b1 = e at *
  generalize twoV a0 a1 b0 b1 = z at *
  generalize twoE a0 b0 = g at *
  have hB : Below w.heap.size w ((w.alloc (.cells #[.bool a0, .int .i64 a1] 23)).alloc (.cells #[.bool b0, .int .i64 b1] 23)) := ((Below.refl _ _).alloc (Nat.le_refl _) _).alloc (by simp) _
  go_enter Try.func9, Try.ntmps9
  go_wp2_with fail
  refine (C0.out _).mono ?_
  rintro e w1 ⟨rfl, hb1⟩
  have hx : Box w1 w.heap.size 23 [.bool a0, .int .i64 a1] := ((Box.new w _ _).alloc _).below hb1 (by simp; omega)
  have hy : Box w1 (w.heap.size + 1) 23 [.bool b0, .int .i64 b1] := by
    have := (Box.new (w.alloc (.cells #[.bool a0, .int .i64 a1] 23)) 23 [.bool b0, .int .i64 b1]).below hb1 (by simp)
    simpa using this
  have hB1 := bthen hB hb1
  have x0 := hx.cell 0 rfl
  have x1 := hx.cell 1 rfl
  have y0 := hy.cell 0 rfl
  have y1 := hy.cell 1 rfl
  clear hb1 hB
  go_wp2_with fail
  refine (C1.out _).mono ?_
  rintro e w2 ⟨rfl, hb2⟩
  replace hx := hx.below hb2 hx.lt
  replace hy := hy.below hb2 hy.lt
  have hB2 := bthen hB1 hb2
  clear x0 x1 y0 y1
  have x0 := hx.cell 0 rfl
  have x1 := hx.cell 1 rfl
  have y0 := hy.cell 0 rfl
  have y1 := hy.cell 1 rfl
  clear hb2 hB1
  go_wp2_with fail
  refine (C2.out _).mono ?_
  rintro e w3 ⟨rfl, hb3⟩
  replace hx := hx.below hb3 hx.lt
  replace hy := hy.below hb3 hy.lt
  have hB3 := bthen hB2 hb3
  clear x0 x1 y0 y1
  have x0 := hx.cell 0 rfl
  have x1 := hx.cell 1 rfl
  have y0 := hy.cell 0 rfl
  have y1 := hy.cell 1 rfl
  clear hb3 hB2
  go_wp2_with fail
  refine (C3.out _).mono ?_
  rintro e w4 ⟨rfl, hb4⟩
  replace hx := hx.below hb4 hx.lt
  replace hy := hy.below hb4 hy.lt
  have hB4 := bthen hB3 hb4
  clear x0 x1 y0 y1
  have x0 := hx.cell 0 rfl
  have x1 := hx.cell 1 rfl
  have y0 := hy.cell 0 rfl
  have y1 := hy.cell 1 rfl
  clear hb4 hB3 hx hy
  rcases E3.out with ⟨rfl, rfl, rfl⟩ | ⟨rfl, rfl⟩ | ⟨rfl, rfl, hne⟩
  · clear C0 C1 C2 C3 E3
    go_wp2
    go_ret
    exact ⟨rfl, hB4⟩
  · clear C0 C1 C2 C3 E3
    go_wp2
    go_ret
    exact ⟨rfl, hB4⟩
  · have hne' : (a1 != b1) = true := by simpa using hne
    clear C0 C1 C2 C3 E3 hne
    go_wp2
    go_ret
    exact ⟨rfl, hB4⟩
end Go.Proofs.Ytiaemlfkpnpkaaa
