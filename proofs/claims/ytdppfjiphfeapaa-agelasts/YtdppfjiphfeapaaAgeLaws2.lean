/-
  slices.Clone of operations; the laws AgeMore and AgeAgain.
-/
import Derived.Test.YtdppfjiphfeapaaAgeLaws
import Derived.Lib.SliceRun
namespace Go.Proofs.Ytdppfjiphfeapaa
open Go.RowKit
set_option maxRecDepth 20000
set_option linter.unusedVariables false

set_option maxHeartbeats 400000 in
theorem CloneAge_any (A : Option Addr) (n c : Nat) (l : List AgO) (w : World) (h : RdG agoC 2 w A n l) (hn : n * 16 ≤ 140737488355328) :
    Calls Try.prog 16 #[.slice A n c] w fun e w' => ∃ v, e = .returned v ∧ OwG agoC 2 w' w.heap.size 35 v l ∧ Below w.heap.size w w' := by
  have hq := fun (W : World) => Lib.run_eql_slice_nil (P := Try.prog) W 22 35 A n c 0 0 Try.underlying22
  go_enter Try.func16, Try.ntmps16
  cases A with
  | none =>
    go_wp2
    go_ret
    have hn0 : n = 0 := by
      rcases Nat.eq_zero_or_pos n with h0 | h0
      · exact h0
      · obtain ⟨ad, e, _⟩ := h.2 h0; cases e
    obtain rfl : l = [] := List.eq_nil_of_length_eq_zero ((RdG.len agoK h).trans hn0)
    exact ⟨_, rfl, OwG.nil _ _ _, Below.refl _ _⟩
  | some ad =>
    go_wp2_with (at_builtin; go_must (refine wpList_apG agoK _ elAgo rfl rfl w.heap.size (.slice (some ⟨w.heap.size, 0, none⟩) 0 0) [] rfl (OwG.empty _ _ (Nat.le_refl _)) _ _ _ l rfl (h.alloc _) (le_alloc (Nat.le_refl _)) (by simp; omega) (by simp; omega) ?_; intro v1 w1 ho1 hm1))
    go_ret
    exact ⟨_, rfl, ho1, hm1.below ((Below.refl _ _).alloc (Nat.le_refl _) _) (le_alloc (Nat.le_refl _)) (new_block (Nat.le_refl _))⟩
theorem ans_more {f m : Int} (hm : 0 ≤ m) (l : List AgO) {k : Nat} {a b : AgA} (ha : (agAns f ag0 l)[k]? = some a) (hb : (agAns (f + m) ag0 l)[k]? = some b) : a.er = 1 ∨ b = a := by
  have hk : k < l.length := by
    have := (List.getElem?_eq_some_iff.1 ha).1
    rwa [agAns_len] at this
  have h1 := agAns_at f l ag0 k l[k] (List.getElem?_eq_getElem hk)
  have h2 := agAns_at (f + m) l ag0 k l[k] (List.getElem?_eq_getElem hk)
  rw [ha] at h1
  rw [hb] at h2
  injection h1 with h1
  injection h2 with h2
  rw [h1, h2]
  exact more_ok hm _ _
set_option maxHeartbeats 1600000 in
theorem AgeMore_walk (a0 a1 : Int) (A2 : Option Addr) (n2 c2 : Nat) (l2 : List AgO) (w : World) (w0 : (Lit.int .i64 a0).wf = true) (w1 : (Lit.int .i64 a1).wf = true) (h2 : RdG agoC 2 w A2 n2 l2) (q2 : ∀ s ∈ l2, in64 s.kd ∧ in64 s.n) (k2 : n2 ≤ c2) (b2 : c2 * 16 ≤ 140737488351232) :
    Calls Try.prog 6 #[.int .i64 a0, .int .i64 a1, .slice A2 n2 c2] w fun e w' => e = .returned (.bool true) ∧ Below w.heap.size w w' := by
  have C0 := Lib.hid (alive21_any w)
  have hw0 := in64_wf w0
  unfold in64 at hw0
  obtain ⟨hw0a, hw0b⟩ := hw0
  have hM : agMax = 1099511627776 := rfl
  have hl := RdG.len agoK h2
  clear q2 w0 w1
  by_cases g1 : a1 < 0 ∨ 1000 < a1
  · clear hl hM
    have g1' : a1 < 0 ∨ (0 ≤ a1 ∧ 1000 < a1) := by omega
    clear g1
    rcases g1' with g1 | ⟨g1, g2⟩
    all_goals
      go_enter Try.func6, Try.ntmps6
      go_wp2_with fail
      refine C0.out.mono ?_
      rintro e w1 ⟨rfl, hb1⟩
      go_wp2
      go_ret
      exact ⟨rfl, hb1⟩
  have g1a : 0 ≤ a1 := by omega
  have g1b : a1 ≤ 1000 := by omega
  clear g1
  have C1 := Lib.hid (fun (W : World) (hW : RdG agoC 2 W A2 n2 l2) => agePlay_any a0 A2 n2 c2 l2 W hW (by omega))
  have C2 := Lib.hid (fun (x : Int) (W : World) (hW : RdG agoC 2 W A2 n2 l2) => agePlay_any x A2 n2 c2 l2 W hW (by omega))
  unfold GivesAge at C1 C2
  by_cases g : a0 < 0 ∨ agMax < a0 ∨ 400 < l2.length
  · rw [(ageE_no g).1, (ageE_no g).2] at C1
    clear g hM hl
    go_enter Try.func6, Try.ntmps6
    go_wp2_with fail
    refine C0.out.mono ?_
    rintro e w1 ⟨rfl, hb1⟩
    have h2' := h2.below hb1
    clear C0 h2
    go_wp2_with fail
    refine (C1.out _ h2').mono ?_
    rintro e w2 ⟨v2, rfl, ho2, hb2⟩
    have hB := bthen hb1 hb2
    have h2 := Rd.below h2' hb2
    clear ho2 C1 hb1 hb2 h2'
    go_wp2_with fail
    refine (C2.out _ _ h2).mono ?_
    rintro e w3 ⟨v3, rfl, ho3, hb3⟩
    have hB3 := bthen hB hb3
    clear ho3 C2 hb3 h2 hB
    go_wp2
    go_ret
    exact ⟨rfl, hB3⟩
  · have g5 : 0 ≤ a0 := by omega
    have g6 : a0 ≤ 1099511627776 := by omega
    have hn400 : n2 ≤ 400 := by omega
    rw [(ageE_ok g).1, (ageE_ok g).2] at C1
    have Hl := Lib.hid hl
    by_cases g' : a0 + a1 < 0 ∨ agMax < a0 + a1 ∨ 400 < l2.length
    · replace C2 := Lib.hid (C2.out (a0 + a1))
      rw [(ageE_no g').1, (ageE_no g').2] at C2
      clear g g' hM hl
      go_enter Try.func6, Try.ntmps6
      go_wp2_with fail
      refine C0.out.mono ?_
      rintro e w1 ⟨rfl, hb1⟩
      have h2' := h2.below hb1
      clear C0 h2
      go_wp2_with fail
      refine (C1.out _ h2').mono ?_
      rintro e w2 ⟨v2, rfl, ho2, hb2⟩
      have hB := bthen hb1 hb2
      have h2 := Rd.below h2' hb2
      clear ho2 C1 hb1 hb2 h2'
      go_wp2_with fail
      refine (C2.out _ h2).mono ?_
      rintro e w3 ⟨v3, rfl, ho3, hb3⟩
      have hB3 := bthen hB hb3
      clear ho3 C2 hb3 h2 hB
      go_wp2
      go_ret
      exact ⟨rfl, hB3⟩
    · replace C2 := Lib.hid (C2.out (a0 + a1))
      rw [(ageE_ok g').1, (ageE_ok g').2] at C2
      have HM := Lib.hid (fun (k : Nat) (a b : AgA) => ans_more (f := a0) (m := a1) g1a l2 (k := k) (a := a) (b := b))
      have e1 : (agAns a0 ag0 l2).length = n2 := by rw [agAns_len]; exact hl
      have e2 : (agAns (a0 + a1) ag0 l2).length = n2 := by rw [agAns_len]; exact hl
      generalize agAns a0 ag0 l2 = L1 at *
      generalize agAns (a0 + a1) ag0 l2 = L2 at *
      have E1 := Lib.hid e1
      have E2 := Lib.hid e2
      clear g g' hM hl e1 e2
      go_enter Try.func6, Try.ntmps6
      go_wp2_with fail
      refine C0.out.mono ?_
      rintro e w1 ⟨rfl, hb1⟩
      have h2' := h2.below hb1
      clear C0 h2
      go_wp2_with fail
      refine (C1.out _ h2').mono ?_
      rintro e w2 ⟨v2, rfl, ho2, hb2⟩
      have hB := bthen hb1 hb2
      have h2 := Rd.below h2' hb2
      clear C1 hb1 hb2 h2'
      go_wp2_with fail
      refine (C2.out _ h2).mono ?_
      rintro e w3 ⟨v3, rfl, ho3, hb3⟩
      have hB3 := bthen hB hb3
      obtain ⟨A4, c4, rfl, hc4, hc4', r4⟩ := (ho2.below hb3).formN E1.out
      obtain ⟨A5, c5, rfl, hc5, hc5', r5⟩ := ho3.formN E2.out
      clear ho2 ho3 C2 hb3 h2 hB hc4 hc4' hc5 hc5'
      go_wp2
      go_loopw [11, 55] (fun x i wr => ∃ j : Nat, j ≤ n2 ∧ i = .int .i64 j ∧ ∃ q, wr = w3.drewN q) (fun _ i _ => n2 - (intOf i).toNat)
      case atStart => exact ⟨0, Nat.zero_le _, rfl, 0, rfl⟩
      case round =>
        obtain ⟨j, hj, rfl, q, rfl⟩ := hrel
        by_cases hlt : j < n2
        · obtain ⟨ad, er, va, od, rfl, hx, m0, m1, m2⟩ := aga_at r4 hlt
          obtain ⟨bd, er', va', od', rfl, hy, p0, p1, p2⟩ := aga_at r5 hlt
          have HH := HM.out j _ _ hx hy
          clear hx hy
          by_cases k1 : er = 1
          · subst k1
            clear HH
            go_wp2
            go_quiet (fail)
            go_wp2
            go_roundw
            case rel => exact ⟨j + 1, by omega, by go_num, _, rfl⟩
            case measure => simp [intOf] <;> omega
          · have hh : er' = er ∧ va' = va ∧ od' = od := by
              rcases HH with h | h
              · exact absurd h k1
              · injection h with a b c
                exact ⟨c, a, b⟩
            obtain ⟨rfl, rfl, rfl⟩ := hh
            by_cases k0 : er' = 0
            · subst k0
              clear k1 HH
              go_wp2
              go_quiet (fail)
              go_wp2
              go_roundw
              case rel => exact ⟨j + 1, by omega, by go_num, _, rfl⟩
              case measure => simp [intOf] <;> omega
            · clear HH
              go_wp2
              go_quiet (fail)
              go_wp2
              go_roundw
              case rel => exact ⟨j + 1, by omega, by go_num, _, rfl⟩
              case measure => simp [intOf] <;> omega
        · have hB4 := bthen hB3 (below_draws ⟨q, rfl⟩)
          go_wp2
          go_ret
          exact ⟨rfl, hB4⟩
end Go.Proofs.Ytdppfjiphfeapaa
