/-
  Contracts of the reference's functions of chapter 5: EWrong, EWin, ESaid. No statement of the seat is here.
-/
import Derived.Test.YtolcfifbnmkfaaaArbLaws4
import Derived.Test.YtolcfifbnmkfaaaRangeI
namespace Go.Proofs.Ytolcfifbnmkfaaa
open Go.RowKit
set_option linter.unusedVariables false

set_option maxHeartbeats 1600000 in
theorem EWrong_any (A : Option Addr) (n c : Nat) (l : List Int) (w : World) (h : Rd w 1 A n (l.map (Value.int .i64))) (hnc : n ≤ c) :
    Calls Try.prog 11 #[.slice A n c] w fun e w' => e = .returned (.int .i64 (wrongM l)) ∧ w = w' := by
  have hl := h.lenMap
  by_cases hn : 400 < n
  · have hw : wrongM l = 2 := by unfold wrongM; rw [if_pos (by omega)]
    rw [hw]
    clear hw
    go_enter Try.func11, Try.ntmps11
    go_wp2
    go_ret
    exact ⟨rfl, rfl⟩
  · have hw : wrongM l = wrongFrom (l.take 0) (l.drop 0) := by unfold wrongM; rw [if_neg (by omega)]; rfl
    rw [hw]
    generalize hR : wrongFrom (l.take 0) (l.drop 0) = R
    have HR := Lib.hid hR; clear hR hw
    have Hl := Lib.hid hl; clear hl
    go_enter Try.func11, Try.ntmps11
    go_wp2
    go_loop [12] (fun i => ∃ k : Nat, k ≤ n ∧ i = .int .i64 k ∧ wrongFrom (l.take k) (l.drop k) = R) (fun i => n - (intOf i).toNat)
    case atStart => exact ⟨0, Nat.zero_le _, rfl, HR.out⟩
    case round =>
      obtain ⟨k, hk, rfl, hR⟩ := hrel
      have HR := Lib.hid hR; clear hR
      by_cases hlt : k < n
      · obtain ⟨ad, x, rfl, hx, hc⟩ := h.atMap hlt
        have Hx := Lib.hid hx; clear hx
        by_cases h0 : x < 0
        · have H : Hid (R = 2) := HR.out.symm.trans (wrongFrom_range Hx.out (.inl h0))
          go_wp2
          go_ret
          exact ⟨ret_int H.out.symm, rfl⟩
        · by_cases h1 : 2047 < x
          · have H : Hid (R = 2) := HR.out.symm.trans (wrongFrom_range Hx.out (.inr h1))
            have hf : decide (x < 0) = false := by simpa using h0
            go_wp2
            go_ret
            exact ⟨ret_int H.out.symm, rfl⟩
          · have hf : decide (x < 0) = false := by simpa using h0
            have hf2 : decide ((2047 : Int) < x) = false := by simpa using h1
            have hcut := fun W => run_to elInt W (some ad) n c k (by omega)
            go_wp2
            go_loop [27] (fun i => ∃ j : Nat, j ≤ k ∧ i = .int .i64 j ∧ x ∉ l.take j) (fun i => k - (intOf i).toNat)
            case atStart => exact ⟨0, Nat.zero_le _, rfl, by simp⟩
            case round =>
              obtain ⟨j, hj, rfl, hno⟩ := hrel
              have Hno := Lib.hid hno; clear hno
              by_cases hjk : j < k
              · obtain ⟨ad', y, had, hy, hcy⟩ := h.atMap (k := j) (by omega)
                cases had
                have Hy := Lib.hid hy; clear hy
                by_cases hxy : x = y
                · subst hxy
                  have H : Hid (R = 6) := HR.out.symm.trans (wrongFrom_held Hx.out (by omega) (by omega) (List.mem_take_iff_getElem.2 ⟨j, by have := (List.getElem?_eq_some_iff.1 Hy.out).1; omega, (List.getElem?_eq_some_iff.1 Hy.out).2⟩))
                  go_wp2
                  go_ret
                  exact ⟨ret_int H.out.symm, rfl⟩
                · have hne : (x == y) = false := by simp [hxy]
                  have Hxy := Lib.hid hxy; clear hxy
                  go_wp2
                  go_round
                  case rel => exact ⟨j + 1, by omega, by go_num, by rw [take_snoc Hy.out, List.mem_append, List.mem_singleton]; exact fun h => h.elim Hno.out Hxy.out⟩
                  case measure => simp [intOf] <;> omega
              · obtain rfl : j = k := by omega
                have H : Hid (_ = R) := (wrongFrom_next Hx.out (by omega) (by omega) Hno.out).symm.trans HR.out
                go_wp2
                go_round
                case rel => exact ⟨j + 1, by omega, by go_num, H.out⟩
                case measure => simp [intOf] <;> omega
      · obtain rfl : k = n := by omega
        have H : Hid (R = 0) := HR.out.symm.trans (wrongFrom_end (by rw [Hl.out]; exact Nat.le_refl _))
        go_wp2
        go_ret
        exact ⟨ret_int H.out.symm, rfl⟩
set_option maxHeartbeats 1600000 in
theorem EWin_any (A : Option Addr) (n c : Nat) (l : List Int) (w : World) (h : Rd w 1 A n (l.map (Value.int .i64))) (h0 : 0 < n) (hn : n ≤ 4611686018427387904) :
    Calls Try.prog 13 #[.slice A n c] w fun e w' => ∃ a : Nat, e = .returned (.int .i64 a) ∧ l[a]? = some (leastI l) ∧ Below w.heap.size w w' := by
  have Hl := Lib.hid h.lenMap
  go_enter Try.func13, Try.ntmps13
  go_wp2
  go_loopw [3, 7] (fun v i wr => ∃ (k a : Nat) (y : Int), k ≤ n ∧ a < n ∧ i = .int .i64 k ∧ v = .int .i64 a ∧ l[a]? = some y ∧ (k = 0 → a = 0) ∧ (0 < k → y = leastI (l.take k)) ∧ Below w.heap.size w wr) (fun _ i _ => n - (intOf i).toNat)
  case atStart =>
    obtain ⟨_, y, _, hy, _⟩ := h.atMap h0
    exact ⟨0, 0, y, Nat.zero_le _, h0, rfl, rfl, hy, fun _ => rfl, fun h => absurd h (by omega), Below.refl _ _⟩
  case round =>
    obtain ⟨k, a, y, hk, ha, rfl, rfl, hy, hz, hle, hb⟩ := hrel
    by_cases hlt : k < n
    · obtain ⟨ad, x, rfl, hx, hcx⟩ := (h.below hb).atMap hlt
      obtain ⟨ad', y', had, hy', hcy⟩ := (h.below hb).atMap ha
      cases had
      obtain rfl : y = y' := Option.some.inj (hy.symm.trans hy')
      clear hy'
      have hkz : (k : Int) < (n : Int) := by omega
      have haz : (a : Int) < (n : Int) := by omega
      have hnext : min y x = leastI (l.take (k + 1)) := by
        rcases Nat.eq_zero_or_pos k with e | e
        · subst e
          have := hz rfl
          subst this
          obtain rfl : y = x := Option.some.inj (hy.symm.trans hx)
          rw [take_snoc hx]
          simp [leastI]
        · rw [leastI_take hx e, hle e]
      have Hn := Lib.hid hnext; clear hnext
      have Hx := Lib.hid hx; clear hx
      have Hy := Lib.hid hy; clear hy
      by_cases hxy : x < y
      · go_wp2
        go_quiet (fail)
        go_wp2
        go_roundw
        case rel => exact ⟨k + 1, k, x, by omega, hlt, by go_num, rfl, Hx.out, by omega, fun _ => by rw [← Hn.out]; omega, bthen hb (below_draws ⟨_, rfl⟩)⟩
        case measure => simp [intOf] <;> omega
      · have hd : decide (x < y) = false := by simpa using hxy
        go_wp2
        go_quiet (fail)
        go_wp2
        go_roundw
        case rel => exact ⟨k + 1, a, y, by omega, ha, by go_num, rfl, Hy.out, by omega, fun _ => by rw [← Hn.out]; omega, bthen hb (below_draws ⟨_, rfl⟩)⟩
        case measure => simp [intOf] <;> omega
    · obtain rfl : k = n := by omega
      have e := hle h0
      rw [List.take_of_length_le (by rw [Hl.out]; exact Nat.le_refl _)] at e
      subst e
      go_wp2
      go_ret
      exact ⟨a, rfl, hy, hb⟩
end Go.Proofs.Ytolcfifbnmkfaaa
