/-
  The walks of FtaSafe, FtaHalf, FtaShift, FtaRises: each returns true, at every argument.
-/
import Derived.Test.YtddegfgkkepliaaFtaWalks
import Derived.Test.YtddegfgkkepliaaConcatI
namespace Go.Proofs.Ytddegfgkkepliaa
open Go.RowKit
set_option linter.unusedVariables false

def aL1 : List Int := [9, 1, 100, 4]
def aL2 : List Int := [-3, 1, 100, 4, -900]
def aL3 : List Int := [1, 2]
theorem aL1_sort : sortI aL1 = [1, 4, 9, 100] := sortI_unique (by decide) (by decide)
theorem aL2_sort : sortI aL2 = [-900, -3, 1, 4, 100] := sortI_unique (by decide) (by decide)
theorem aL1_w : wrongL aL1 1 = 0 := by decide
theorem aL2_w : wrongL aL2 1 = 0 := by decide
theorem aL3_w : wrongL aL3 1 = 8 := by decide
theorem aL1_mid : midR aL1 1 = 6 := by
  rw [midR_ok aL1_w]
  unfold midV nth
  rw [aL1_sort]
  rfl
theorem aL1_spread : spreadR aL1 1 = 5 := by
  rw [spreadR_ok aL1_w]
  unfold spreadV nth
  rw [aL1_sort]
  rfl
theorem aL2_mean : meanR aL2 1 = 0 := by
  rw [meanR_ok aL2_w]
  unfold meanV restL
  rw [aL2_sort]
  rfl

set_option maxHeartbeats 800000 in
theorem alive12_any (w : World) : Calls Try.prog 17 #[] w fun e w' => e = .returned (.bool true) ∧ Below w.heap.size w w' := by
  have C1 := Lib.hid (fun (W : World) (A : Option Addr) (h : Rd W 1 A 4 (aL1.map (Value.int .i64))) => Mid_any A 4 4 aL1 1 W h (by decide))
  have C2 := Lib.hid (fun (W : World) (A : Option Addr) (h : Rd W 1 A 5 (aL2.map (Value.int .i64))) => Mean_any A 5 5 aL2 1 W h (by decide))
  have C3 := Lib.hid (fun (W : World) (A : Option Addr) (h : Rd W 1 A 4 (aL1.map (Value.int .i64))) => Spread_any A 4 4 aL1 1 W h (by decide))
  have C4 := Lib.hid (fun (W : World) (A : Option Addr) (h : Rd W 1 A 2 (aL3.map (Value.int .i64))) => Mid_any A 2 2 aL3 1 W h (by decide))
  rw [aL1_mid, aL1_w] at C1
  rw [aL2_mean, aL2_w] at C2
  rw [aL1_spread, aL1_w] at C3
  rw [aL3_w] at C4
  go_enter Try.func17, Try.ntmps17
  go_wp2_with fail
  refine (C1.out _ _ (Rd.litAt (Value.int .i64) aL1 _ rfl)).mono ?_
  rintro e w1 ⟨rfl, hb1⟩
  have hB1 := below_new hb1
  clear hb1
  go_wp2_with fail
  refine (C2.out _ _ (Rd.litAt (Value.int .i64) aL2 _ rfl)).mono ?_
  rintro e w2 ⟨rfl, hb2⟩
  have hB2 := bthen hB1 (below_new hb2)
  clear hb2
  go_wp2_with fail
  refine (C3.out _ _ (Rd.litAt (Value.int .i64) aL1 _ rfl)).mono ?_
  rintro e w3 ⟨rfl, hb3⟩
  have hB3 := bthen hB2 (below_new hb3)
  clear hb3
  go_wp2_with fail
  refine (C4.out _ _ (Rd.litAt (Value.int .i64) aL3 _ rfl)).mono ?_
  rintro e w4 ⟨rfl, hb4⟩
  go_wp2
  go_ret
  exact ⟨rfl, bthen hB3 (below_new hb4)⟩

theorem safe_facts {bad good : List Int} (hw : wrongL (bad ++ good) (bad.length : Int) = 0) :
    0 < good.length ∧ (-1099511627776 ≤ leastI good ∧ greatI good ≤ 1099511627776) ∧ leastI good ≤ midR (bad ++ good) bad.length ∧ midR (bad ++ good) bad.length ≤ greatI good ∧ leastI good ≤ meanR (bad ++ good) bad.length ∧ meanR (bad ++ good) bad.length ≤ greatI good ∧ spreadR (bad ++ good) bad.length ≤ greatI good - leastI good := by
  rw [midR_ok hw, meanR_ok hw, spreadR_ok hw, show ((bad.length : Int)).toNat = bad.length by omega]
  obtain ⟨h1, h2, h3, h4⟩ := wrongL_ok.1 hw
  rw [List.length_append] at h1 h3
  have hg : good ≠ [] := by rintro rfl; simp at h3; omega
  have hin : ∀ x ∈ good, leastI good ≤ x ∧ x ≤ greatI good := fun x hx => ⟨leastI_le hx, greatI_le hx⟩
  have hb : ∀ j, bad.length ≤ j → j + bad.length < (bad ++ good).length → leastI good ≤ nth (bad ++ good) j ∧ nth (bad ++ good) j ≤ greatI good := fun j h1 h2 => nth_safe (List.Perm.refl _) hin h1 h2
  have m1 := mid_between (l := bad ++ good) (n := bad.length) (by rw [List.length_append]; omega) hb
  have m2 := mean_between (l := bad ++ good) (n := bad.length) (by rw [List.length_append]; omega) hb
  have a1 := hb bad.length (Nat.le_refl _) (by rw [List.length_append]; omega)
  have a2 := hb ((bad ++ good).length - 1 - bad.length) (by rw [List.length_append]; omega) (by rw [List.length_append]; omega)
  have r1 := h4 _ (List.mem_append_right _ (leastI_mem hg))
  have r2 := h4 _ (List.mem_append_right _ (greatI_mem hg))
  refine ⟨by omega, ⟨r1.1, r2.2⟩, m1.1, m1.2, m2.1, m2.2, ?_⟩
  unfold spreadV
  omega
theorem half_facts {good bad other : List Int} (ho : other.length = bad.length) (hm : 2 * bad.length < good.length) (hw : wrongL (good ++ bad) (bad.length : Int) = 0) (hw' : wrongL (other ++ good) (bad.length : Int) = 0) :
    (-1099511627776 ≤ leastI good ∧ leastI good ≤ greatI good ∧ greatI good ≤ 1099511627776) ∧ 2 * (midR (good ++ bad) bad.length - midR (other ++ good) bad.length) ≤ greatI good - leastI good + 1 ∧ 2 * (midR (other ++ good) bad.length - midR (good ++ bad) bad.length) ≤ greatI good - leastI good + 1 := by
  rw [midR_ok hw, midR_ok hw', show ((bad.length : Int)).toNat = bad.length by omega]
  obtain ⟨_, _, _, h4⟩ := wrongL_ok.1 hw
  have hg : good ≠ [] := by rintro rfl; simp at hm
  have hin : ∀ x ∈ good, leastI good ≤ x ∧ x ≤ greatI good := fun x hx => ⟨leastI_le hx, greatI_le hx⟩
  have r1 := h4 _ (List.mem_append_left _ (leastI_mem hg))
  have r2 := h4 _ (List.mem_append_left _ (greatI_mem hg))
  have r3 := hin _ (greatI_mem hg)
  exact ⟨⟨r1.1, r3.1, r2.2⟩, half (bad := bad) (other := other) (good := good) List.perm_append_comm (List.Perm.refl _) ho hm hin⟩

theorem two_parts {α : Type} (A B : Option Addr) (n m c d : Nat) (l l' : List α) : List.flatMap (fun x : Option Addr × Nat × Nat × List α => x.2.2.2) [(A, n, c, l), (B, m, d, l')] = l ++ l' := by simp

set_option maxHeartbeats 1600000 in
theorem FtaSafe_walk (A0 : Option Addr) (n0 c0 : Nat) (l0 : List Int) (A1 : Option Addr) (n1 c1 : Nat) (l1 : List Int) (w : World) (h0 : Rd w 1 A0 n0 (l0.map (Value.int .i64))) (q0 : ∀ x ∈ l0, (Lit.int .i64 x).wf = true) (k0 : n0 ≤ c0) (b0 : c0 * 8 ≤ 140737488351232)
    (h1 : Rd w 1 A1 n1 (l1.map (Value.int .i64))) (q1 : ∀ x ∈ l1, (Lit.int .i64 x).wf = true) (k1 : n1 ≤ c1) (b1 : c1 * 8 ≤ 140737488351232) :
    Calls Try.prog 4 #[.slice A0 n0 c0, .slice A1 n1 c1] w fun e w' => e = .returned (.bool true) ∧ Below w.heap.size w w' := by
  have hl0 := h0.lenMap
  have hl1 := h1.lenMap
  have C0 := Lib.hid (alive12_any w)
  have hlen : (l1 ++ l0).length = n1 + n0 := by rw [List.length_append]; omega
  have Hlen := Lib.hid hlen
  have C1 := Lib.hid (fun (W : World) (A : Option Addr) (c : Nat) (h : Rd W 1 A (n1 + n0) ((l1 ++ l0).map (Value.int .i64))) => Mid_any A (n1 + n0) c (l1 ++ l0) n1 W h (by omega))
  have C2 := Lib.hid (fun (W : World) (A : Option Addr) (c : Nat) (h : Rd W 1 A (n1 + n0) ((l1 ++ l0).map (Value.int .i64))) => Mean_any A (n1 + n0) c (l1 ++ l0) n1 W h (by omega))
  have C3 := Lib.hid (fun (W : World) (A : Option Addr) (c : Nat) (h : Rd W 1 A (n1 + n0) ((l1 ++ l0).map (Value.int .i64))) => Spread_any A (n1 + n0) c (l1 ++ l0) n1 W h (by omega))
  have Hf : Hid (wrongL (l1 ++ l0) n1 = 0 → 0 < n0 ∧ (-1099511627776 ≤ leastI l0 ∧ greatI l0 ≤ 1099511627776) ∧ leastI l0 ≤ midR (l1 ++ l0) n1 ∧ midR (l1 ++ l0) n1 ≤ greatI l0 ∧ leastI l0 ≤ meanR (l1 ++ l0) n1 ∧ meanR (l1 ++ l0) n1 ≤ greatI l0 ∧ spreadR (l1 ++ l0) n1 ≤ greatI l0 - leastI l0) := by
    intro hw
    rw [← hl1] at hw ⊢
    rw [← hl0]
    exact safe_facts hw
  have Hr := Lib.hid (spreadR_range (l1 ++ l0) n1)
  have K4 := Lib.hid (fun (W : World) (h : Rd W 1 A0 n0 (l0.map (Value.int .i64))) (hp : 0 < n0) => Min_any A0 n0 c0 l0 W h hp (by omega))
  have K5 := Lib.hid (fun (W : World) (h : Rd W 1 A0 n0 (l0.map (Value.int .i64))) (hp : 0 < n0) => Max_any A0 n0 c0 l0 W h hp (by omega))
  have Hl0 := Lib.hid hl0
  have Hl1 := Lib.hid hl1
  clear q0 q1 hl0 hl1 hlen
  go_enter Try.func4, Try.ntmps4
  go_wp2_with fail
  refine C0.out.mono ?_
  rintro e w1 ⟨rfl, hb1⟩
  replace h0 := h0.below hb1
  replace h1 := h1.below hb1
  go_wp2_with fail
  refine (ConcatI_any _ 2 2 [(A1, n1, c1, l1), (A0, n0, c0, l0)] _ (Rd.litAt ConcatI_any_val _ _ rfl) ?_ (by decide) (by rw [two_parts, Hlen.out]; omega) (by rw [two_parts, Hlen.out]; omega)).mono ?_
  · intro p hp
    simp only [List.mem_cons, List.not_mem_nil, or_false] at hp
    rcases hp with rfl | rfl
    · exact h1.alloc _
    · exact h0.alloc _
  rintro e w2 ⟨v2, rfl, ho2, hb2⟩
  rw [two_parts] at ho2
  obtain ⟨Ax, cx, rfl, _, _, hx⟩ := ho2.formN Hlen.out
  have hB2 := bthen hb1 (below_new hb2)
  replace h0 := h0.below (below_new hb2)
  clear ho2 hb1 hb2 h1
  go_wp2_with fail
  refine (C1.out _ _ _ hx).mono ?_
  rintro e w3 ⟨rfl, hb3⟩
  replace hx := hx.below hb3
  replace h0 := h0.below hb3
  have hB3 := bthen hB2 hb3
  clear hb3 hB2
  go_wp2_with fail
  refine (C2.out _ _ _ hx).mono ?_
  rintro e w4 ⟨rfl, hb4⟩
  replace hx := hx.below hb4
  replace h0 := h0.below hb4
  have hB4 := bthen hB3 hb4
  clear hb4 hB3
  go_wp2_with fail
  refine (C3.out _ _ _ hx).mono ?_
  rintro e w5 ⟨rfl, hb5⟩
  replace h0 := h0.below hb5
  have hB5 := bthen hB4 hb5
  clear hb5 hB4 hx C1 C2 C3 C0
  by_cases hw : wrongL (l1 ++ l0) n1 = 0
  · obtain ⟨f0, ⟨f1, f2⟩, f3, f4, f5, f6, f7⟩ := Hf.out hw
    obtain ⟨r1, r2⟩ := Hr.out
    rw [hw]
    generalize midR (l1 ++ l0) n1 = a at *
    generalize meanR (l1 ++ l0) n1 = b at *
    generalize spreadR (l1 ++ l0) n1 = c at *
    generalize leastI l0 = lo at *
    generalize greatI l0 = hi at *
    clear Hf Hr hw
    go_wp2_with fail
    refine (K4.out _ h0 f0).mono ?_
    rintro e w6 ⟨rfl, hw6⟩
    rw [hw6] at h0 hB5
    clear hw6
    go_wp2_with fail
    refine (K5.out _ h0 f0).mono ?_
    rintro e w7 ⟨rfl, hw7⟩
    rw [hw7] at hB5
    clear hw7 h0
    go_wp2
    go_ret
    exact ⟨rfl, hB5⟩
  · have hne : (wrongL (l1 ++ l0) n1 != 0) = true := by simpa using hw
    clear Hf Hr hw
    go_wp2
    go_ret
    exact ⟨rfl, hB5⟩

set_option maxHeartbeats 1600000 in
theorem FtaHalf_walk (A0 : Option Addr) (n0 c0 : Nat) (l0 : List Int) (A1 : Option Addr) (n1 c1 : Nat) (l1 : List Int) (A2 : Option Addr) (n2 c2 : Nat) (l2 : List Int) (w : World) (h0 : Rd w 1 A0 n0 (l0.map (Value.int .i64))) (q0 : ∀ x ∈ l0, (Lit.int .i64 x).wf = true) (k0 : n0 ≤ c0) (b0 : c0 * 8 ≤ 140737488351232)
    (h1 : Rd w 1 A1 n1 (l1.map (Value.int .i64))) (q1 : ∀ x ∈ l1, (Lit.int .i64 x).wf = true) (k1 : n1 ≤ c1) (b1 : c1 * 8 ≤ 140737488351232)
    (h2 : Rd w 1 A2 n2 (l2.map (Value.int .i64))) (q2 : ∀ x ∈ l2, (Lit.int .i64 x).wf = true) (k2 : n2 ≤ c2) (b2 : c2 * 8 ≤ 140737488351232) :
    Calls Try.prog 5 #[.slice A0 n0 c0, .slice A1 n1 c1, .slice A2 n2 c2] w fun e w' => e = .returned (.bool true) ∧ Below w.heap.size w w' := by
  have hl0 := h0.lenMap
  have hl1 := h1.lenMap
  have hl2 := h2.lenMap
  have C0 := Lib.hid (alive12_any w)
  clear q0 q1 q2
  by_cases hn : ¬ n2 = n1
  · have hne : ((n2 : Int) != (n1 : Int)) = true := by simpa using (show ¬ (n2 : Int) = n1 by omega)
    clear hn
    go_enter Try.func5, Try.ntmps5
    go_wp2_with fail
    refine C0.out.mono ?_
    rintro e w1 ⟨rfl, hb1⟩
    go_wp2
    go_ret
    exact ⟨rfl, hb1⟩
  have hn' : n2 = n1 := Classical.not_not.1 hn
  clear hn
  subst hn'
  by_cases hm : n0 < 2 * n2 + 1
  · go_enter Try.func5, Try.ntmps5
    go_wp2_with fail
    refine C0.out.mono ?_
    rintro e w1 ⟨rfl, hb1⟩
    go_wp2
    go_ret
    exact ⟨rfl, hb1⟩
  have Hlx : Hid ((l0 ++ l1).length = n0 + n2) := by show _ = _; rw [List.length_append]; omega
  have Hly : Hid ((l2 ++ l0).length = n2 + n0) := by show _ = _; rw [List.length_append]; omega
  have C1 := Lib.hid (fun (W : World) (A : Option Addr) (c : Nat) (h : Rd W 1 A (n0 + n2) ((l0 ++ l1).map (Value.int .i64))) => Mid_any A (n0 + n2) c (l0 ++ l1) n2 W h (by omega))
  have C2 := Lib.hid (fun (W : World) (A : Option Addr) (c : Nat) (h : Rd W 1 A (n2 + n0) ((l2 ++ l0).map (Value.int .i64))) => Mid_any A (n2 + n0) c (l2 ++ l0) n2 W h (by omega))
  have Hf : Hid (wrongL (l0 ++ l1) n2 = 0 → wrongL (l2 ++ l0) n2 = 0 → (-1099511627776 ≤ leastI l0 ∧ leastI l0 ≤ greatI l0 ∧ greatI l0 ≤ 1099511627776) ∧ 2 * (midR (l0 ++ l1) n2 - midR (l2 ++ l0) n2) ≤ greatI l0 - leastI l0 + 1 ∧ 2 * (midR (l2 ++ l0) n2 - midR (l0 ++ l1) n2) ≤ greatI l0 - leastI l0 + 1) := by
    intro hw hw'
    rw [← hl1] at hw hw' ⊢
    exact half_facts (by omega) (by omega) hw hw'
  have Hr1 := Lib.hid (midR_range (l0 ++ l1) n2)
  have Hr2 := Lib.hid (midR_range (l2 ++ l0) n2)
  have K4 := Lib.hid (fun (W : World) (h : Rd W 1 A0 n0 (l0.map (Value.int .i64))) => Min_any A0 n0 c0 l0 W h (by omega) (by omega))
  have K5 := Lib.hid (fun (W : World) (h : Rd W 1 A0 n0 (l0.map (Value.int .i64))) => Max_any A0 n0 c0 l0 W h (by omega) (by omega))
  clear hl0 hl1 hl2
  go_enter Try.func5, Try.ntmps5
  go_wp2_with fail
  refine C0.out.mono ?_
  rintro e w1 ⟨rfl, hb1⟩
  replace h0 := h0.below hb1
  replace h1 := h1.below hb1
  replace h2 := h2.below hb1
  go_wp2_with fail
  refine (ConcatI_any _ 2 2 [(A0, n0, c0, l0), (A1, n2, c1, l1)] _ (Rd.litAt ConcatI_any_val _ _ rfl) ?_ (by decide) (by rw [two_parts, Hlx.out]; omega) (by rw [two_parts, Hlx.out]; omega)).mono ?_
  · intro p hp
    simp only [List.mem_cons, List.not_mem_nil, or_false] at hp
    rcases hp with rfl | rfl
    · exact h0.alloc _
    · exact h1.alloc _
  rintro e w2 ⟨v2, rfl, ho2, hb2⟩
  rw [two_parts] at ho2
  obtain ⟨Ax, cx, rfl, _, _, hx⟩ := ho2.formN Hlx.out
  have hB2 := bthen hb1 (below_new hb2)
  replace h0 := h0.below (below_new hb2)
  replace h2 := h2.below (below_new hb2)
  clear ho2 hb1 hb2 h1
  go_wp2_with fail
  refine (C1.out _ _ _ hx).mono ?_
  rintro e w3 ⟨rfl, hb3⟩
  replace h0 := h0.below hb3
  replace h2 := h2.below hb3
  have hB3 := bthen hB2 hb3
  clear hb3 hB2 hx
  go_wp2_with fail
  refine (ConcatI_any _ 2 2 [(A2, n2, c2, l2), (A0, n0, c0, l0)] _ (Rd.litAt ConcatI_any_val _ _ rfl) ?_ (by decide) (by rw [two_parts, Hly.out]; omega) (by rw [two_parts, Hly.out]; omega)).mono ?_
  · intro p hp
    simp only [List.mem_cons, List.not_mem_nil, or_false] at hp
    rcases hp with rfl | rfl
    · exact h2.alloc _
    · exact h0.alloc _
  rintro e w4 ⟨v4, rfl, ho4, hb4⟩
  rw [two_parts] at ho4
  obtain ⟨Ay, cy, rfl, _, _, hy⟩ := ho4.formN Hly.out
  have hB4 := bthen hB3 (below_new hb4)
  replace h0 := h0.below (below_new hb4)
  clear ho4 hb4 h2 hB3
  go_wp2_with fail
  refine (C2.out _ _ _ hy).mono ?_
  rintro e w5 ⟨rfl, hb5⟩
  replace h0 := h0.below hb5
  have hB5 := bthen hB4 hb5
  clear hb5 hB4 hy C0 C1 C2
  by_cases hw : wrongL (l0 ++ l1) n2 = 0
  · by_cases hw' : wrongL (l2 ++ l0) n2 = 0
    · obtain ⟨⟨f1, f2, f3⟩, f4, f5⟩ := Hf.out hw hw'
      obtain ⟨r1, r2⟩ := Hr1.out
      obtain ⟨r3, r4⟩ := Hr2.out
      rw [hw, hw']
      generalize midR (l0 ++ l1) n2 = a at *
      generalize midR (l2 ++ l0) n2 = b at *
      generalize leastI l0 = lo at *
      generalize greatI l0 = hi at *
      clear Hf Hr1 Hr2 hw hw'
      go_wp2_with fail
      refine (K5.out _ h0).mono ?_
      rintro e w6 ⟨rfl, hw6⟩
      rw [hw6] at h0 hB5
      clear hw6
      go_wp2_with fail
      refine (K4.out _ h0).mono ?_
      rintro e w7 ⟨rfl, hw7⟩
      rw [hw7] at hB5
      clear hw7 h0
      go_wp2
      all_goals (go_ret; exact ⟨ret_bool (by simp; omega), hB5⟩)
    · have hne : (wrongL (l2 ++ l0) n2 != 0) = true := by simpa using hw'
      rw [hw]
      clear Hf Hr1 Hr2 hw hw'
      go_wp2
      go_ret
      exact ⟨rfl, hB5⟩
  · have hne : (wrongL (l0 ++ l1) n2 != 0) = true := by simpa using hw
    clear Hf Hr1 Hr2 hw
    go_wp2
    go_ret
    exact ⟨rfl, hB5⟩
end Go.Proofs.Ytddegfgkkepliaa
