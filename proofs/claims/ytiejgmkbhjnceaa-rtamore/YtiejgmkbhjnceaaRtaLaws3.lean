/-
  The walk of RtaMore: it returns true, at every argument.
-/
import Derived.Test.YtiejgmkbhjnceaaRtaLaws2
namespace Go.Proofs.Ytiejgmkbhjnceaa
open Go.RowKit
set_option linter.unusedVariables false

/-- One cost raised. -/
def putC (L : List Tsk) (k : Nat) (x : Int) : List Tsk := match L[k]? with | some t => L.set k ⟨t.p, x⟩ | none => L
theorem putC_some {L : List Tsk} {k : Nat} {t : Tsk} (h : L[k]? = some t) (x : Int) : putC L k x = L.set k ⟨t.p, x⟩ := by unfold putC; rw [h]
theorem need_same {M M' : List Tk} {k i : Nat} (hs : ∀ j, j ≠ k → M'[j]? = M[j]?) (hi : i ≤ k) : M'.take i = M.take i := by
  refine List.ext_getElem? fun j => ?_
  rw [List.getElem?_take, List.getElem?_take]
  split
  · exact hs j (by omega)
  · rfl
/-- Raised costs need no less. -/
theorem need_more : ∀ {A B : List Tk}, A.length = B.length → (∀ (j : Nat) t u, A[j]? = some t → B[j]? = some u → t.p = u.p ∧ t.c ≤ u.c) → ∀ r, need A r ≤ need B r
  | [], [], _, _, r => Nat.le_refl _
  | [], u :: B, h, _, _ => by simp at h
  | t :: A, [], h, _, _ => by simp at h
  | t :: A, u :: B, h, hp, r => by
    have h1 := need_more (A := A) (B := B) (by simpa using h) (fun j a b ha hb => hp (j + 1) a b (by simpa using ha) (by simpa using hb)) r
    obtain ⟨e, hc⟩ := hp 0 t u rfl rfl
    have := Nat.mul_le_mul_left (up r t.p) hc
    rw [need, need, ← e]
    omega
theorem ends_more {M M' : List Tk} {R R' : List Nat} (h : EndsAre M R) (h' : EndsAre M' R') (hl : M.length = M'.length) (hp : ∀ (j : Nat) t u, M[j]? = some t → M'[j]? = some u → t.p = u.p ∧ t.c ≤ u.c) {i r r' : Nat} (hr : R[i]? = some r) (hr' : R'[i]? = some r') : r ≤ r' := by
  obtain ⟨t, ht, e⟩ := h.back hr
  obtain ⟨t', ht', e'⟩ := h'.back hr'
  refine e.more e' (hp i t t' ht ht').2 fun x => need_more (by rw [List.length_take, List.length_take, hl]) (fun j a b ha hb => ?_) x
  rw [List.getElem?_take] at ha hb
  split at ha
  · rename_i hj
    rw [if_pos hj] at hb
    exact hp j a b ha hb
  · cases ha
theorem ends_same {M M' : List Tk} {R R' : List Nat} (h : EndsAre M R) (h' : EndsAre M' R') {k : Nat} (hs : ∀ j, j ≠ k → M'[j]? = M[j]?) {i r r' : Nat} (hi : i < k) (hr : R[i]? = some r) (hr' : R'[i]? = some r') : r = r' := by
  obtain ⟨t, ht, e⟩ := h.back hr
  obtain ⟨t', ht', e'⟩ := h'.back hr'
  rw [need_same hs (Nat.le_of_lt hi)] at e'
  rw [hs i (by omega), ht] at ht'
  cases ht'
  exact e.unique e'
theorem cmp_of {L : List Tsk} {M M' : List Tk} {R R' : List Nat} {k : Nat} {tp tc a : Int} (h : EndsAre M R) (h' : EndsAre M' R') (e : L = M.map Tk.asT) (e' : L.set k ⟨tp, tc + a⟩ = M'.map Tk.asT) (ht : L[k]? = some ⟨tp, tc⟩) (ha : 0 ≤ a) :
    ∀ (i : Nat) (x y : Int), (natL R)[i]? = some x → (natL R')[i]? = some y → (i < k → x = y) ∧ x ≤ y := by
  have hl : M.length = M'.length := by have := congrArg List.length e'; rw [List.length_set, e, List.length_map, List.length_map] at this; exact this
  have hs : ∀ j, j ≠ k → M'[j]? = M[j]? := fun j hj => by
    have h1 := congrArg (·[j]?) e'
    simp only [List.getElem?_set_ne (Ne.symm hj), e, List.getElem?_map] at h1
    cases hm : M[j]? with
    | none =>
      rw [hm] at h1
      cases hm' : M'[j]? with
      | none => rfl
      | some u => rw [hm'] at h1; cases h1
    | some t =>
      rw [hm] at h1
      cases hm' : M'[j]? with
      | none => rw [hm'] at h1; cases h1
      | some u =>
        rw [hm'] at h1
        injection h1 with h1
        have := asT_inj (M := [t]) (M' := [u]) (by rw [List.map_cons, List.map_cons, h1])
        injection this with this
        rw [this]
  have hp : ∀ (j : Nat) t u, M[j]? = some t → M'[j]? = some u → t.p = u.p ∧ t.c ≤ u.c := fun j t u h1 h2 => by
    by_cases hj : j = k
    · subst hj
      have e1 := ht
      rw [e, List.getElem?_map, h1] at e1
      have e2 : (L.set j ⟨tp, tc + a⟩)[j]? = some ⟨tp, tc + a⟩ := List.getElem?_set_self (List.getElem?_eq_some_iff.1 ht).1
      rw [e', List.getElem?_map, h2] at e2
      injection e1 with e1
      injection e2 with e2
      injection e1 with a1 a2
      injection e2 with b1 b2
      omega
    · rw [hs j hj, h1] at h2
      cases h2
      exact ⟨rfl, Nat.le_refl _⟩
  intro i x y hx hy
  have hx' := hx
  have hy' := hy
  unfold natL at hx' hy'
  rw [List.getElem?_map] at hx' hy'
  obtain ⟨r, hr, rfl⟩ := Option.map_eq_some_iff.1 hx'
  obtain ⟨r', hr', rfl⟩ := Option.map_eq_some_iff.1 hy'
  have h1 := ends_more h h' hl hp hr hr'
  refine ⟨fun hi => ?_, by omega⟩
  rw [ends_same h h' hs hi hr hr']
set_option maxRecDepth 20000 in
set_option maxHeartbeats 1600000 in
theorem RtaMore_walk (A0 : Option Addr) (n0 c0 : Nat) (l0 : List Tsk) (a1 a2 : Int) (w : World) (h0 : RdG tskC 2 w A0 n0 l0) (q0 : ∀ s ∈ l0, in64 s.p ∧ in64 s.c) (k0 : n0 ≤ c0) (b0 : c0 * 16 ≤ 140737488351232) (w1 : (Lit.int .i64 a1).wf = true) (w2 : (Lit.int .i64 a2).wf = true) :
    Calls Try.prog 6 #[.slice A0 n0 c0, .int .i64 a1, .int .i64 a2] w fun e w' => e = .returned (.bool true) ∧ Below w.heap.size w w' := by
  have hl := RdG.len tskK h0
  have C0 := Lib.hid (alive19_any w)
  have hn47 : n0 * 16 ≤ 140737488351232 := by omega
  by_cases hin : 0 ≤ a1 ∧ a1 < n0 ∧ 0 ≤ a2 ∧ a2 ≤ 100
  · obtain ⟨g1, g2, g3, g4⟩ := hin
    obtain ⟨k, rfl⟩ := Int.eq_ofNat_of_zero_le g1
    have hkn : k < n0 := by omega
    have C1 := Lib.hid (fun (W : World) (h : RdG tskC 2 W A0 n0 l0) => (Ends_any A0 n0 c0 l0 W h k0 (by omega)).mono fun e w' hg => hg.split)
    have C2 := Lib.hid (fun (W : World) (h : RdG tskC 2 W A0 n0 l0) => CloneK_any A0 n0 c0 l0 W h (by omega))
    have C3 := Lib.hid (fun (W : World) (B : Option Addr) (d : Nat) (L : List Tsk) (h : RdG tskC 2 W B n0 L) (hd : n0 ≤ d) => (Ends_any B n0 d L W h hd (by omega)).mono fun e w' hg => hg.split)
    obtain ⟨⟨tp, tc⟩, ht⟩ : ∃ t, l0[k]? = some t := ⟨_, List.getElem?_eq_getElem (by omega)⟩
    obtain ⟨-, q1, q2⟩ := q0 _ (List.mem_of_getElem? ht)
    simp only at q1 q2
    have Hl := Lib.hid hl
    have Ht := Lib.hid ht
    have HA : Hid (∀ ad, A0 = some ad → ad.block < w.heap.size) := fun ad e => by
      obtain ⟨ad', x, e', _, hc0, _⟩ := tsk_at h0 hkn
      rw [e] at e'
      cases e'
      have := World.block_lt_of_cell? w _ hc0
      rwa [ad_block] at this
    clear q0 hl ht
    go_enter Try.func6, Try.ntmps6
    go_wp2_with fail
    refine C0.out.mono ?_
    rintro e w1 ⟨rfl, hb1⟩
    replace h0 := h0.below hb1
    clear C0
    go_wp2_with fail
    refine (C2.out _ h0).mono ?_
    rintro e w2 ⟨v, rfl, ho, hb2⟩
    obtain ⟨g, d, rfl, hg, hd, _⟩ := ho.head (by rw [Hl.out]; omega)
    rw [Hl.out] at hd ho ⊢
    have hB2 := bthen hb1 hb2
    replace h0 := h0.below hb2
    have hs1 := hb1.size
    have cc := ho.cellAt tskK Ht.out (j := 1) rfl
    have fc := ho.freeAt (k * 2 + 1)
    have Hput := Lib.hid (ho.put tskK (k := k) (j := 1) (y := ⟨tp, tc + a2⟩) Ht.out (by decide) rfl)
    clear hb2 hb1 C2
    by_cases hbig : 1048576 < tc
    · go_wp2
      go_ret
      exact ⟨rfl, hB2⟩
    · go_upto_region 9 with fail
      replace Hput : Hid (OwG tskC 2 (w2.setCell ⟨g, k * 2 + 1, none⟩ (.int .i64 (tc + a2))) w1.heap.size 39 (.slice (some ⟨g, 0, none⟩) n0 d) (l0.set k ⟨tp, tc + a2⟩)) := Hput
      have hg3 := grownBy_setCell w2 ⟨g, k * 2 + 1, none⟩ (.int .i64 (tc + a2))
      have hB3 : Below w.heap.size w (w2.setCell ⟨g, k * 2 + 1, none⟩ (.int .i64 (tc + a2))) := below_grown hB2 hg3 (by show w.heap.size ≤ g; omega) (by have := hB2.size; omega)
      have h03 : RdG tskC 2 (w2.setCell ⟨g, k * 2 + 1, none⟩ (.int .i64 (tc + a2))) A0 n0 l0 := h0.grownG hg3 fun ad e e2 => by
        have := HA.out ad e
        injection e2 with e2
        simp only at e2
        omega
      clear cc fc ho hB2 hg3 h0
      generalize w2.setCell ⟨g, k * 2 + 1, none⟩ (.int .i64 (tc + a2)) = w3 at *
      have hrp := Hput.out.rd
      go_wp2_with fail
      refine (C1.out _ h03).mono ?_
      rintro e w4 ⟨⟨A4, m4, c4, x4, rfl, hm4, HS4⟩, hb4⟩
      go_wp2_with fail
      refine (C3.out _ _ _ _ (hrp.below hb4) hd).mono ?_
      rintro e w5 ⟨⟨A5, m5, c5, x5, rfl, hm5, HS5⟩, hb5⟩
      have hB5 := Lib.hid (bthen hB3 (bthen hb4 hb5))
      rw [Hl.out] at hm4
      rw [List.length_set, Hl.out] at hm5
      rcases HS4.out with hx | ⟨rfl, hm4', M, R, hM1, hM2, hR, r4, hc4⟩
      · have hne : (x4 != 0) = true := by simpa using hx
        clear hx
        go_wp2
        go_ret
        exact ⟨rfl, hB5.out⟩
      · rcases HS5.out with hx | ⟨rfl, hm5', M', R', hM1', hM2', hR', r5, hc5⟩
        · have hne : (x5 != 0) = true := by simpa using hx
          clear hx
          go_wp2
          go_ret
          exact ⟨rfl, hB5.out⟩
        · rw [Hl.out] at hm4' r4 hc4
          rw [List.length_set, Hl.out] at hm5' r5 hc5
          subst hm4' hm5'
          have Hcmp := Lib.hid (cmp_of hR hR' hM1 hM1' Ht.out g3)
          have hRl : (natL R).length = m5 := by rw [natL_len, hR.len, ← Hl.out, hM1, List.length_map]
          have r4' := r4.below hb5
          clear hb4 hb5 hrp h03 hR hR' hM1 hM1' hM2 hM2' HS4 HS5 C1 C3 Hput hB3 r4 HA Ht
          go_wp2
          go_loopw [79] (fun i wr => ∃ j : Nat, j ≤ m5 ∧ i = .int .i64 j ∧ ∃ q, wr = w5.drewN q) (fun i _ => m5 - (intOf i).toNat)
          case atStart => exact ⟨0, Nat.zero_le _, rfl, 0, rfl⟩
          case round =>
            obtain ⟨j, hj, rfl, q, rfl⟩ := hrel
            by_cases hlt : j < m5
            · obtain ⟨ad, x, rfl, hx, hcx⟩ := r4'.atMap hlt
              obtain ⟨ad', y, rfl, hy, hcy⟩ := r5.atMap hlt
              obtain ⟨p1, p2⟩ := Hcmp.out j x y hx hy
              clear hx hy
              by_cases hjk : j < k
              · obtain rfl := p1 hjk
                have d1 : decide (j < k) = true := decide_eq_true hjk
                have d2 : decide (k ≤ j) = false := decide_eq_false (by omega)
                have d3 : (x != x) = false := by simp
                clear p1
                go_wp2
                go_quiet (fail)
                go_wp2
                go_roundw
                case rel => exact ⟨j + 1, by omega, by go_num, _, rfl⟩
                case measure => simp [intOf] <;> omega
              · have d1 : decide (j < k) = false := decide_eq_false hjk
                have d2 : decide (k ≤ j) = true := decide_eq_true (by omega)
                have d3 : decide (y < x) = false := decide_eq_false (by omega)
                clear p1
                go_wp2
                go_quiet (fail)
                go_wp2
                go_roundw
                case rel => exact ⟨j + 1, by omega, by go_num, _, rfl⟩
                case measure => simp [intOf] <;> omega
            · obtain rfl : j = m5 := by omega
              go_wp2
              go_ret
              exact ⟨rfl, bthen hB5.out (below_draws ⟨_, rfl⟩)⟩
  · have hc : a1 < 0 ∨ (0 ≤ a1 ∧ (n0 : Int) ≤ a1) ∨ (0 ≤ a1 ∧ a1 < n0 ∧ a2 < 0) ∨ (0 ≤ a1 ∧ a1 < n0 ∧ 0 ≤ a2 ∧ 100 < a2) := by omega
    clear hin hl q0
    rcases hc with g1 | ⟨g1, g2⟩ | ⟨g1, g2, g3⟩ | ⟨g1, g2, g3, g4⟩
    all_goals
      go_enter Try.func6, Try.ntmps6
      go_wp2_with fail
      refine C0.out.mono ?_
      rintro e w1 ⟨rfl, hb1⟩
      go_wp2
      go_ret
      exact ⟨rfl, hb1⟩
end Go.Proofs.Ytiejgmkbhjnceaa
