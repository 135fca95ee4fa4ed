/-
  alive13 returns true; the walks of AgreeNearer and AgreeWithin.
-/
import Derived.Test.YtjimajjmckjflaaAgreeWalks2
import Derived.Test.YtjimajjmckjflaaSlices
namespace Go.Proofs.Ytjimajjmckjflaa
open Go.RowKit
set_option linter.unusedVariables false

def aS : List Int := [0, 10, 20, 99]
def aL : List (List Int) := [[-50], [50], [0], [7]]
theorem aS_w : wrongA aS 1 aL = 0 := by decide
theorem mid_of {l l' : List Int} (h1 : l'.Pairwise (· ≤ ·)) (h2 : l'.Perm l) (k : Nat) : midV l k = (l'[k]?.getD 0 + l'[l.length - 1 - k]?.getD 0) / 2 := by
  unfold midV nth
  rw [sortI_unique h1 h2]
theorem aS_round : roundsR aS 1 aL 1 = [5, 15, 5, 8] := by
  rw [roundsR_ok (by rw [roundsE_1]; exact aS_w)]
  show [midV [0, 10, 20, -50] 1, midV [0, 10, 20, 50] 1, midV [0, 10, 20, 0] 1, midV [0, 10, 20, 7] 1] = _
  rw [mid_of (l' := [-50, 0, 10, 20]) (by decide) (by decide), mid_of (l' := [0, 10, 20, 50]) (by decide) (by decide), mid_of (l' := [0, 0, 10, 20]) (by decide) (by decide), mid_of (l' := [0, 7, 10, 20]) (by decide) (by decide)]
  rfl
theorem aS_wide : wideE aS 1 = 0 ∧ wideR aS 1 = 20 := by decide

set_option maxHeartbeats 1600000 in
theorem alive13_any (w : World) : Calls Try.prog 19 #[] w fun e w' => e = .returned (.bool true) ∧ Below w.heap.size w w' := by
  have C1 := Lib.hid (fun (W : World) (A B a1 a2 a3 a4 : Option Addr) (h : Rd W 1 A 4 (aS.map (Value.int .i64))) (hB : Rd W 1 B 4 ([(a1, 1, 1, [-50]), (a2, 1, 1, [50]), (a3, 1, 1, [0]), (a4, 1, 1, [7])].map rowV))
    (h1 : Rd W 1 a1 1 ([-50].map (Value.int .i64))) (h2 : Rd W 1 a2 1 ([50].map (Value.int .i64))) (h3 : Rd W 1 a3 1 ([0].map (Value.int .i64))) (h4 : Rd W 1 a4 1 ([7].map (Value.int .i64))) =>
    Round_any A 4 4 aS 1 B 4 4 [(a1, 1, 1, [-50]), (a2, 1, 1, [50]), (a3, 1, 1, [0]), (a4, 1, 1, [7])] W h (by decide) (by decide) hB (by
      intro p hp
      simp only [List.mem_cons, List.not_mem_nil, or_false] at hp
      rcases hp with rfl | rfl | rfl | rfl
      · exact ⟨h1, Nat.le_refl 1, show 1 * 8 ≤ 140737488351232 by decide⟩
      · exact ⟨h2, Nat.le_refl 1, show 1 * 8 ≤ 140737488351232 by decide⟩
      · exact ⟨h3, Nat.le_refl 1, show 1 * 8 ≤ 140737488351232 by decide⟩
      · exact ⟨h4, Nat.le_refl 1, show 1 * 8 ≤ 140737488351232 by decide⟩) (by decide))
  have C2 := Lib.hid (fun (W : World) (A : Option Addr) (h : Rd W 1 A 4 (aS.map (Value.int .i64))) => Wide_any A 4 4 aS 1 W h (by decide) (by decide))
  have e1 : ∀ a1 a2 a3 a4 : Option Addr, lists [(a1, 1, 1, [-50]), (a2, 1, 1, [50]), (a3, 1, 1, [0]), (a4, 1, 1, [7])] = aL := fun _ _ _ _ => rfl
  simp only [e1] at C1
  rw [aS_round, aS_w] at C1
  rw [aS_wide.1, aS_wide.2] at C2
  clear e1
  go_enter Try.func19, Try.ntmps19
  go_wp2_with fail
  refine (C1.out _ _ _ (some ⟨w.heap.size + 1, 0, none⟩) (some ⟨w.heap.size + 2, 0, none⟩) (some ⟨w.heap.size + 3, 0, none⟩) (some ⟨w.heap.size + 4, 0, none⟩)
    ((((((Rd.litAt (Value.int .i64) aS _ rfl).alloc _).alloc _).alloc _).alloc _).alloc _) (Rd.litAt rowV [(some ⟨w.heap.size + 1, 0, none⟩, 1, 1, [-50]), (some ⟨w.heap.size + 2, 0, none⟩, 1, 1, [50]), (some ⟨w.heap.size + 3, 0, none⟩, 1, 1, [0]), (some ⟨w.heap.size + 4, 0, none⟩, 1, 1, [7])] _ (by simp))
    (((((Rd.litAt (Value.int .i64) [-50] _ (by simp)).alloc _).alloc _).alloc _).alloc _) ((((Rd.litAt (Value.int .i64) [50] _ (by simp)).alloc _).alloc _).alloc _) (((Rd.litAt (Value.int .i64) [0] _ (by simp)).alloc _).alloc _) ((Rd.litAt (Value.int .i64) [7] _ (by simp)).alloc _)).mono ?_
  rintro e w1 ⟨v1, rfl, ho1, hb1⟩
  obtain ⟨A1, c1, rfl, _, _, hr1⟩ := ho1.formN (n := 4) rfl
  have hB1 := below_new (below_new (below_new (below_new (below_new (below_new hb1)))))
  clear ho1 hb1 C1
  go_wp2_with fail
  refine (C2.out _ _ (Rd.litAt (Value.int .i64) aS _ rfl)).mono ?_
  rintro e w2 ⟨rfl, hw2⟩
  have hb2 : Below w1.heap.size w1 w2 := by rw [← hw2]; exact (Below.refl _ _).alloc (Nat.le_refl _) _
  have hB2 := bthen hB1 hb2
  replace hr1 := hr1.below hb2
  clear hw2 hb2 hB1 C2
  go_wp2_with fail
  refine (EqualI_any_same A1 _ 4 c1 4 4 [5, 15, 5, 8] _ (hr1.alloc _) (Rd.litAt (Value.int .i64) [5, 15, 5, 8] _ rfl) (by decide)).mono ?_
  rintro e w3 ⟨rfl, hb3⟩
  go_wp2
  go_ret
  exact ⟨rfl, bthen hB2 (below_new hb3)⟩

set_option maxHeartbeats 1600000 in
theorem AgreeNearer_walk (A0 : Option Addr) (n0 c0 : Nat) (l0 : List Int) (a1 : Int) (A2 : Option Addr) (n2 c2 : Nat) (L : List (Option Addr × Nat × Nat × List Int)) (w : World)
    (h0 : Rd w 1 A0 n0 (l0.map (Value.int .i64))) (q0 : ∀ x ∈ l0, (Lit.int .i64 x).wf = true) (k0 : n0 ≤ c0) (b0 : c0 * 8 ≤ 140737488351232) (w1 : (Lit.int .i64 a1).wf = true)
    (h2 : Rd w 1 A2 n2 (L.map rowV)) (r2 : ∀ p ∈ L, Rd w 1 p.1 p.2.1 (p.2.2.2.map (Value.int .i64)) ∧ p.2.1 ≤ p.2.2.1 ∧ p.2.2.1 * 8 ≤ 140737488351232 ∧ ∀ x ∈ p.2.2.2, (Lit.int .i64 x).wf = true) (k2 : n2 ≤ c2) (b2 : c2 * 24 ≤ 140737488351232) :
    Calls Try.prog 4 #[.slice A0 n0 c0, .int .i64 a1, .slice A2 n2 c2] w fun e w' => e = .returned (.bool true) ∧ Below w.heap.size w w' := by
  have hL : RdRows w L := fun p hp => ⟨(r2 p hp).1, (r2 p hp).2.1, (r2 p hp).2.2.1⟩
  have C0 := Lib.hid (alive13_any w)
  have C1 := Lib.hid (fun (W : World) (hb : Below w.heap.size w W) => Round_any A0 n0 c0 l0 a1 A2 n2 c2 L W (h0.below hb) k0 (by omega) (h2.below hb) (hL.below hb) (by omega))
  have C2 := Lib.hid (fun (W : World) (hb : Below w.heap.size w W) => Wide_any A0 n0 c0 l0 a1 W (h0.below hb) k0 (by omega))
  have Hl := Lib.hid h0.lenMap
  clear q0 w1 r2 hL h0 h2
  by_cases hw : wrongA l0 a1 (lists L) = 0
  · obtain ⟨q, rfl, hA⟩ := wrongA_ok.1 hw
    have eR : roundsR l0 q (lists L) 1 = roundM l0 q (lists L) := by
      rw [roundsR_ok (by rw [roundsE_1]; exact hw)]
      rfl
    rw [eR, hw] at C1
    rw [hA.wide.1, hA.wide.2] at C2
    have hf := hA.few
    have hmo := hA.most
    rw [Hl.out] at hf hmo
    have C3 := Lib.hid (fun (W : World) (A : Option Addr) (c : Nat) (hc : n0 ≤ c) (h : Rd W 1 A n0 ((roundM l0 q (lists L)).map (Value.int .i64))) => Wide_any A n0 c (roundM l0 q (lists L)) q W h hc (by omega))
    rw [hA.round.wide.1, hA.round.wide.2] at C3
    have Hlen : Hid ((roundM l0 q (lists L)).length = n0) := by show _ = _; rw [round_len, hA.each, Hl.out]
    have hh := hA.half
    obtain ⟨w1, w2⟩ := hA.wd_bound
    obtain ⟨w3, w4⟩ := hA.round.wd_bound
    generalize wd (goodL (roundM l0 q (lists L)) q) = y at *
    generalize wd (goodL l0 q) = x at *
    generalize roundM l0 q (lists L) = Rn at *
    clear hw hA eR
    go_enter Try.func4, Try.ntmps4
    go_wp2_with fail
    refine C0.out.mono ?_
    rintro e w5 ⟨rfl, hb5⟩
    go_wp2_with fail
    refine (C1.out _ hb5).mono ?_
    rintro e w6 ⟨v6, rfl, ho6, hb6⟩
    obtain ⟨A6, c6, rfl, hc6, _, hr6⟩ := ho6.formN Hlen.out
    have hB6 := bthen hb5 hb6
    clear ho6 hb5 hb6 C0 C1
    go_wp2_with fail
    refine (C2.out _ hB6).mono ?_
    rintro e w7 ⟨rfl, hw7⟩
    rw [hw7] at hB6 hr6
    clear hw7
    go_wp2_with fail
    refine (C3.out _ _ _ hc6 hr6).mono ?_
    rintro e w8 ⟨rfl, hw8⟩
    rw [hw8] at hB6
    clear hw8 hr6
    go_wp2
    go_ret
    exact ⟨ret_bool (by simp <;> omega), hB6⟩
  · have hne : (wrongA l0 a1 (lists L) != 0) = true := by simpa using hw
    rw [roundsR_no (by rw [roundsE_1]; exact hw)] at C1
    clear hw
    generalize wrongA l0 a1 (lists L) = E at *
    go_enter Try.func4, Try.ntmps4
    go_wp2_with fail
    refine C0.out.mono ?_
    rintro e w5 ⟨rfl, hb5⟩
    go_wp2_with fail
    refine (C1.out _ hb5).mono ?_
    rintro e w6 ⟨v6, rfl, ho6, hb6⟩
    obtain ⟨A6, c6, rfl, hc6, _, hr6⟩ := ho6.formN (n := 0) rfl
    have hB6 := bthen hb5 hb6
    clear ho6 hb5 hb6 C0 C1
    go_wp2
    go_ret
    exact ⟨rfl, hB6⟩

set_option maxHeartbeats 1600000 in
theorem AgreeWithin_walk (A0 : Option Addr) (n0 c0 : Nat) (l0 : List Int) (a1 : Int) (A2 : Option Addr) (n2 c2 : Nat) (L : List (Option Addr × Nat × Nat × List Int)) (a3 : Int) (w : World)
    (h0 : Rd w 1 A0 n0 (l0.map (Value.int .i64))) (q0 : ∀ x ∈ l0, (Lit.int .i64 x).wf = true) (k0 : n0 ≤ c0) (b0 : c0 * 8 ≤ 140737488351232) (w1 : (Lit.int .i64 a1).wf = true)
    (h2 : Rd w 1 A2 n2 (L.map rowV)) (r2 : ∀ p ∈ L, Rd w 1 p.1 p.2.1 (p.2.2.2.map (Value.int .i64)) ∧ p.2.1 ≤ p.2.2.1 ∧ p.2.2.1 * 8 ≤ 140737488351232 ∧ ∀ x ∈ p.2.2.2, (Lit.int .i64 x).wf = true) (k2 : n2 ≤ c2) (b2 : c2 * 24 ≤ 140737488351232) (w3 : (Lit.int .i64 a3).wf = true) :
    Calls Try.prog 5 #[.slice A0 n0 c0, .int .i64 a1, .slice A2 n2 c2, .int .i64 a3] w fun e w' => e = .returned (.bool true) ∧ Below w.heap.size w w' := by
  have hL : RdRows w L := fun p hp => ⟨(r2 p hp).1, (r2 p hp).2.1, (r2 p hp).2.2.1⟩
  have C0 := Lib.hid (alive13_any w)
  have C1 := Lib.hid (fun (W : World) (hb : Below w.heap.size w W) => Rounds_any A0 n0 c0 l0 a1 A2 n2 c2 L a3 W (h0.below hb) k0 (by omega) (h2.below hb) (hL.below hb) (by omega))
  have Hl := Lib.hid h0.lenMap
  clear q0 w1 w3 r2 hL h2
  by_cases hw : roundsE l0 a1 (lists L) a3 = 0
  · obtain ⟨⟨q, rfl, hA⟩, p, rfl, hp⟩ := roundsE_all.1 hw
    rw [roundsR_ok hw, hw, show ((q : Int)).toNat = q by omega, show ((p : Int)).toNat = p by omega] at C1
    have hf := hA.few
    have hmo := hA.most
    rw [Hl.out] at hf hmo
    have Hlen : Hid ((roundsM l0 q (lists L) p).length = n0) := by show _ = _; rw [rounds_len hA, Hl.out]
    have Hin : Hid (∀ x ∈ (roundsM l0 q (lists L) p).take (n0 - q), leastI (goodL l0 q) ≤ x ∧ x ≤ greatI (goodL l0 q)) := fun x hx => by
      refine hA.within (fun y hy => ⟨leastI_le hy, greatI_le hy⟩) p x ?_
      rw [goodL, Hlen.out]
      exact hx
    have eg : l0.take (n0 - q) = goodL l0 q := by rw [goodL, Hl.out]
    obtain ⟨hs, hr⟩ := ahead_int (k := n0 - q) h0 (by omega) k0
    rw [show ((n0 - q : Nat) : Int) = (n0 : Int) - q by omega] at hs
    rw [eg] at hr
    have K4 := Lib.hid (fun (W : World) (hb : Below w.heap.size w W) => Min_any A0 (n0 - q) c0 (goodL l0 q) W (hr.below hb) (by omega) (by omega))
    have K5 := Lib.hid (fun (W : World) (hb : Below w.heap.size w W) => Max_any A0 (n0 - q) c0 (goodL l0 q) W (hr.below hb) (by omega) (by omega))
    obtain ⟨g, hg⟩ : ∃ g, n0 - q = g := ⟨_, rfl⟩
    rw [hg] at hs Hin K4 K5
    have hgn : g ≤ n0 := by omega
    generalize leastI (goodL l0 q) = lo at *
    generalize greatI (goodL l0 q) = hi at *
    generalize roundsM l0 q (lists L) p = Rn at *
    clear hw hA h0 hr eg hg
    go_enter Try.func5, Try.ntmps5
    go_wp2_with fail
    refine C0.out.mono ?_
    rintro e w5 ⟨rfl, hb5⟩
    go_wp2_with fail
    refine (C1.out _ hb5).mono ?_
    rintro e w6 ⟨v6, rfl, ho6, hb6⟩
    obtain ⟨A6, c6, rfl, hc6, _, hr6⟩ := ho6.formN Hlen.out
    have hB6 := bthen hb5 hb6
    obtain ⟨hs6, hr7⟩ := ahead_int (k := g) hr6 hgn hc6
    clear ho6 hb5 hb6 C0 C1 hr6
    go_wp2
    go_loop [51] (fun i => ∃ j : Nat, j ≤ g ∧ i = .int .i64 j) (fun i => g - (intOf i).toNat)
    case atStart => exact ⟨0, Nat.zero_le _, rfl⟩
    case round =>
      obtain ⟨j, hj, rfl⟩ := hrel
      by_cases hlt : j < g
      · obtain ⟨ad, x, rfl, hx, hc⟩ := hr7.atMap hlt
        obtain ⟨x1, x2⟩ := Hin.out x (List.mem_of_getElem? hx)
        clear hx
        go_wp2_with fail
        refine (K4.out _ hB6).mono ?_
        rintro e w7 ⟨rfl, rfl⟩
        go_wp2_with fail
        refine (K5.out _ hB6).mono ?_
        rintro e w8 ⟨rfl, rfl⟩
        go_wp2
        go_round
        case rel => exact ⟨j + 1, by omega, by go_num⟩
        case measure => simp [intOf] <;> omega
      · go_wp2
        go_ret
        exact ⟨rfl, hB6⟩
  · have hne : (roundsE l0 a1 (lists L) a3 != 0) = true := by simpa using hw
    rw [roundsR_no hw] at C1
    clear hw h0
    generalize roundsE l0 a1 (lists L) a3 = E at *
    go_enter Try.func5, Try.ntmps5
    go_wp2_with fail
    refine C0.out.mono ?_
    rintro e w5 ⟨rfl, hb5⟩
    go_wp2_with fail
    refine (C1.out _ hb5).mono ?_
    rintro e w6 ⟨v6, rfl, ho6, hb6⟩
    obtain ⟨A6, c6, rfl, hc6, _, hr6⟩ := ho6.formN (n := 0) rfl
    have hB6 := bthen hb5 hb6
    clear ho6 hb5 hb6 C0 C1
    go_wp2
    go_ret
    exact ⟨rfl, hB6⟩

theorem soon_start {x : Int} (h0 : 0 ≤ x) : (x + 1) * ((2 ^ 0 : Nat) : Int) > x ∧ x * ((2 ^ 0 : Nat) : Int) ≤ x := by simp; omega
/-- One halving. -/
theorem soon_step {x t : Int} {j : Nat} (ht : 0 < t) (h1 : x < (t + 1) * ((2 ^ j : Nat) : Int)) (h2 : t * ((2 ^ j : Nat) : Int) ≤ x) : x < (t.tdiv 2 + 1) * ((2 ^ (j + 1) : Nat) : Int) ∧ t.tdiv 2 * ((2 ^ (j + 1) : Nat) : Int) ≤ x := by
  rw [Int.tdiv_eq_ediv_of_nonneg (by omega)]
  have e : ((2 ^ (j + 1) : Nat) : Int) = 2 * ((2 ^ j : Nat) : Int) := by rw [Nat.pow_succ]; omega
  rw [e]
  have hp : (0 : Int) < ((2 ^ j : Nat) : Int) := by have := Nat.two_pow_pos j; omega
  generalize ((2 ^ j : Nat) : Int) = P at *
  obtain ⟨u, hu⟩ : ∃ u, u = t / 2 := ⟨_, rfl⟩
  rw [← hu]
  have k1 : t ≤ 2 * u + 1 := by omega
  have k2 : 2 * u ≤ t := by omega
  have m1 : (t + 1) * P ≤ (2 * u + 1 + 1) * P := Int.mul_le_mul_of_nonneg_right (by omega) (by omega)
  have m2 : 2 * u * P ≤ t * P := Int.mul_le_mul_of_nonneg_right k2 (by omega)
  have e1 : (u + 1) * (2 * P) = (2 * u + 1 + 1) * P := by simp only [Int.add_mul, ← Int.mul_assoc, Int.mul_comm u 2]; omega
  have e2 : u * (2 * P) = 2 * u * P := by rw [← Int.mul_assoc, Int.mul_comm u 2]
  rw [e1, e2]
  omega
theorem soon_few {x t : Int} {j : Nat} (ht : 0 < t) (h2 : t * ((2 ^ j : Nat) : Int) ≤ x) (hx : x ≤ 2199023255552) : j ≤ 41 := by
  apply Classical.byContradiction
  intro hj
  have h1 : 2 ^ 42 ≤ 2 ^ j := Nat.pow_le_pow_right (by decide) (by omega)
  have h3 : 1 * ((2 ^ j : Nat) : Int) ≤ t * ((2 ^ j : Nat) : Int) := Int.mul_le_mul_of_nonneg_right (by omega) (by omega)
  have h4 : (2 ^ 42 : Nat) = 4398046511104 := by decide
  omega

set_option maxHeartbeats 1600000 in
theorem AgreeSoon_walk (A0 : Option Addr) (n0 c0 : Nat) (l0 : List Int) (a1 : Int) (A2 : Option Addr) (n2 c2 : Nat) (L : List (Option Addr × Nat × Nat × List Int)) (w : World)
    (h0 : Rd w 1 A0 n0 (l0.map (Value.int .i64))) (q0 : ∀ x ∈ l0, (Lit.int .i64 x).wf = true) (k0 : n0 ≤ c0) (b0 : c0 * 8 ≤ 140737488351232) (w1 : (Lit.int .i64 a1).wf = true)
    (h2 : Rd w 1 A2 n2 (L.map rowV)) (r2 : ∀ p ∈ L, Rd w 1 p.1 p.2.1 (p.2.2.2.map (Value.int .i64)) ∧ p.2.1 ≤ p.2.2.1 ∧ p.2.2.1 * 8 ≤ 140737488351232 ∧ ∀ x ∈ p.2.2.2, (Lit.int .i64 x).wf = true) (k2 : n2 ≤ c2) (b2 : c2 * 24 ≤ 140737488351232) :
    Calls Try.prog 6 #[.slice A0 n0 c0, .int .i64 a1, .slice A2 n2 c2] w fun e w' => e = .returned (.bool true) ∧ Below w.heap.size w w' := by
  have hL : RdRows w L := fun p hp => ⟨(r2 p hp).1, (r2 p hp).2.1, (r2 p hp).2.2.1⟩
  have C0 := Lib.hid (alive13_any w)
  have C1 := Lib.hid (fun (W : World) (hb : Below w.heap.size w W) (m : Int) => Rounds_any A0 n0 c0 l0 a1 A2 n2 c2 L m W (h0.below hb) k0 (by omega) (h2.below hb) (hL.below hb) (by omega))
  have C2 := Lib.hid (fun (W : World) (hb : Below w.heap.size w W) => Wide_any A0 n0 c0 l0 a1 W (h0.below hb) k0 (by omega))
  have C3 := Lib.hid (fun (W : World) (hb : Below w.heap.size w W) => AgreeWrong_any A0 n0 c0 l0 a1 A2 n2 c2 L W (h0.below hb) (by omega) (h2.below hb) (hL.below hb) (by omega))
  have Hl := Lib.hid h0.lenMap
  clear q0 w1 r2 hL h2 h0
  by_cases hw : wrongA l0 a1 (lists L) = 0
  · obtain ⟨q, rfl, hA⟩ := wrongA_ok.1 hw
    rw [hw] at C3
    rw [hA.wide.1, hA.wide.2] at C2
    have hf := hA.few
    have hmo := hA.most
    rw [Hl.out] at hf hmo
    obtain ⟨x0, x1⟩ := hA.wd_bound
    have C4 := Lib.hid (fun (W : World) (hb : Below w.heap.size w W) (m : Nat) (hm : m ≤ 100) => show Calls Try.prog 9 #[.slice A0 n0 c0, .int .i64 q, .slice A2 n2 c2, .int .i64 m] W (GivesInts (roundsM l0 q (lists L) m) 0 W) by
      have := C1.out W hb m
      rw [roundsR_ok (roundsE_ok hw (by omega) (by omega)), roundsE_ok hw (by omega) (by omega), show ((q : Int)).toNat = q by omega, show ((m : Int)).toNat = m by omega] at this
      exact this)
    have C5 := Lib.hid (fun (W : World) (A : Option Addr) (c : Nat) (m : Nat) (hc : n0 ≤ c) (h : Rd W 1 A n0 ((roundsM l0 q (lists L) m).map (Value.int .i64))) => show Calls Try.prog 10 #[.slice A n0 c, .int .i64 q] W fun e w' => e = .returned (.tuple #[.int .i64 (wd (goodL (roundsM l0 q (lists L) m) q)), .int .i64 0]) ∧ W = w' by
      have := Wide_any A n0 c (roundsM l0 q (lists L) m) q W h hc (by omega)
      rw [(hA.rounds m).wide.1, (hA.rounds m).wide.2] at this
      exact this)
    have Hsoon : Hid (∀ j : Nat, wd (goodL l0 q) < ((2 ^ j : Nat) : Int) → wd (goodL (roundsM l0 q (lists L) (j + 1)) q) ≤ 1) := fun j hj => hA.soon1 hj
    have Hlen : Hid (∀ m, (roundsM l0 q (lists L) m).length = n0) := fun m => by rw [rounds_len hA, Hl.out]
    clear hw hA C1
    generalize wd (goodL l0 q) = x at *
    go_enter Try.func6, Try.ntmps6
    go_wp2_with fail
    refine C0.out.mono ?_
    rintro e w5 ⟨rfl, hb5⟩
    go_wp2_with fail
    refine (C2.out _ hb5).mono ?_
    rintro e w6 ⟨rfl, hw6⟩
    rw [hw6] at hb5
    clear hw6
    go_wp2_with fail
    refine (C3.out _ hb5).mono ?_
    rintro e w7 ⟨rfl, hw7⟩
    rw [hw7] at hb5
    clear hw7 C0 C2 C3
    go_wp2
    go_loop [7, 9] (fun a b => ∃ (t : Int) (j : Nat), 0 ≤ t ∧ t ≤ 2199023255552 ∧ j ≤ 42 ∧ a = .int .i64 t ∧ b = .int .i64 ((j : Int) + 1) ∧ Hid (x < (t + 1) * ((2 ^ j : Nat) : Int)) ∧ Hid (t * ((2 ^ j : Nat) : Int) ≤ x)) (fun a _ => (intOf a).toNat)
    case atStart => exact ⟨x, 0, x0, x1, by omega, rfl, rfl, (soon_start x0).1, (soon_start x0).2⟩
    case round =>
      obtain ⟨t, j, ht0, ht1, hj, rfl, rfl, Ha, Hb⟩ := hrel
      by_cases hlt : 0 < t
      · have hs := soon_step hlt Ha.out Hb.out
        have hj2 := soon_few hlt Hb.out x1
        have hd : t.tdiv 2 = t / 2 := Int.tdiv_eq_ediv_of_nonneg ht0
        have Hs1 := Lib.hid hs.1
        have Hs2 := Lib.hid hs.2
        rw [hd] at Hs1 Hs2
        clear hs
        go_wp2
        go_round
        case rel => exact ⟨t / 2, j + 1, by omega, by omega, by omega, by first | rfl | rw [hd] | go_num, by go_num, Hs1.out, Hs2.out⟩
        case measure => simp [intOf] <;> omega
      · obtain rfl : t = 0 := by omega
        have Hs := Lib.hid (Hsoon.out j (by have := Ha.out; omega))
        obtain ⟨m, hm⟩ : ∃ m : Nat, m = j + 1 := ⟨_, rfl⟩
        rw [← hm] at Hs
        have hm2 : (j : Int) + 1 = (m : Int) := by omega
        have hm3 : m ≤ 100 := by omega
        rw [hm2]
        clear hm2 hm Ha Hb Hsoon hj
        go_wp2_with fail
        refine (C4.out _ hb5 m hm3).mono ?_
        rintro e w8 ⟨v8, rfl, ho8, hb8⟩
        obtain ⟨A8, c8, rfl, hc8, _, hr8⟩ := ho8.formN (Hlen.out m)
        have hB8 := bthen hb5 hb8
        clear ho8 hb8 hb5 C4
        have hy := Hs.out
        have C6 := Lib.hid (C5.out _ _ _ m hc8 hr8)
        clear C5 Hs hr8 Hlen
        generalize wd (goodL (roundsM l0 q (lists L) m) q) = y at *
        go_wp2_with fail
        refine C6.out.mono ?_
        rintro e w9 ⟨rfl, hw9⟩
        rw [hw9] at hB8
        clear hw9 C6
        go_wp2
        go_ret
        exact ⟨ret_bool (by simp <;> omega), hB8⟩
  · have hne : (wrongA l0 a1 (lists L) != 0) = true := by simpa using hw
    clear hw C1
    generalize wrongA l0 a1 (lists L) = E at *
    rcases wideE_2 l0 a1 with he | he
    · rw [he] at C2
      clear he
      generalize wideR l0 a1 = x at *
      go_enter Try.func6, Try.ntmps6
      go_wp2_with fail
      refine C0.out.mono ?_
      rintro e w5 ⟨rfl, hb5⟩
      go_wp2_with fail
      refine (C2.out _ hb5).mono ?_
      rintro e w6 ⟨rfl, hw6⟩
      rw [hw6] at hb5
      clear hw6
      go_wp2_with fail
      refine (C3.out _ hb5).mono ?_
      rintro e w7 ⟨rfl, hw7⟩
      rw [hw7] at hb5
      clear hw7 C0 C2 C3
      go_wp2
      go_ret
      exact ⟨rfl, hb5⟩
    · rw [he] at C2
      clear he
      generalize wideR l0 a1 = x at *
      go_enter Try.func6, Try.ntmps6
      go_wp2_with fail
      refine C0.out.mono ?_
      rintro e w5 ⟨rfl, hb5⟩
      go_wp2_with fail
      refine (C2.out _ hb5).mono ?_
      rintro e w6 ⟨rfl, hw6⟩
      rw [hw6] at hb5
      clear hw6
      go_wp2
      go_ret
      exact ⟨rfl, hb5⟩
end Go.Proofs.Ytjimajjmckjflaa
