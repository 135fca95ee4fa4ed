/-
  Contracts of package vote: Two, Same, sorted, mostAreNear, isWrong, Middle, Most, Near, for every input.
-/
import Derived.Test.YtiaemlfkpnpkaaaVoteMath
import Derived.Test.YtiaemlfkpnpkaaaSortI
import Derived.Test.YtiaemlfkpnpkaaaSlicesF
import Derived.Test.YtiaemlfkpnpkaaaBox
namespace Go.Proofs.Ytiaemlfkpnpkaaa
open Go.RowKit
set_option linter.unusedVariables false

/-- A copy as a value. -/
abbrev copyV (g : Bool) (v : Int) : Value := .agg #[.bool g, .int .i64 v]

theorem copy_box {w w1 : World} {g : Bool} {v : Int} {t : TypeId} (hb : Below (w.alloc (.cells #[.bool g, .int .i64 v] t)).heap.size (w.alloc (.cells #[.bool g, .int .i64 v] t)) w1) : Box w1 w.heap.size t [.bool g, .int .i64 v] :=
  Box.below (Box.new w t [.bool g, .int .i64 v]) hb (by simp)

theorem Two_any (g1 : Bool) (v1 : Int) (g2 : Bool) (v2 : Int) (w : World) :
    Calls Try.prog 10 #[copyV g1 v1, copyV g2 v2] w fun e w' => e = .returned (.tuple #[.int .i64 (twoV g1 v1 g2 v2), .int .i64 (twoE g1 g2)]) ∧ Below w.heap.size w w' := by
  have hB : Below w.heap.size w ((w.alloc (.cells #[.bool g1, .int .i64 v1] 23)).alloc (.cells #[.bool g2, .int .i64 v2] 23)) := ((Below.refl _ _).alloc (Nat.le_refl _) _).alloc (by simp) _
  cases g1 <;> cases g2
  all_goals
    go_enter Try.func10, Try.ntmps10
    go_wp2
    go_ret2
    exact ⟨rfl, hB⟩
theorem Same_any (g1 : Bool) (v1 : Int) (g2 : Bool) (v2 : Int) (w : World) :
    Calls Try.prog 11 #[copyV g1 v1, copyV g2 v2] w fun e w' => e = .returned (.tuple #[.int .i64 (sameV g1 v1 g2 v2), .int .i64 (sameE g1 v1 g2 v2)]) ∧ Below w.heap.size w w' := by
  have hB : Below w.heap.size w ((w.alloc (.cells #[.bool g1, .int .i64 v1] 23)).alloc (.cells #[.bool g2, .int .i64 v2] 23)) := ((Below.refl _ _).alloc (Nat.le_refl _) _).alloc (by simp) _
  have C := Lib.hid (fun (W : World) => Two_any g1 v1 g2 v2 W)
  by_cases hs : (g1 && g2 && v1 != v2) = true
  · have e1 : sameV g1 v1 g2 v2 = 0 := if_pos hs
    have e2 : sameE g1 v1 g2 v2 = 7 := if_pos hs
    rw [e1, e2]
    simp only [Bool.and_eq_true] at hs
    obtain ⟨⟨rfl, rfl⟩, hne⟩ := hs
    clear C e1 e2
    go_enter Try.func11, Try.ntmps11
    go_wp2
    go_ret2
    exact ⟨rfl, hB⟩
  · have e1 : sameV g1 v1 g2 v2 = twoV g1 v1 g2 v2 := if_neg hs
    have e2 : sameE g1 v1 g2 v2 = twoE g1 g2 := if_neg hs
    rw [e1, e2]
    clear e1 e2
    generalize twoV g1 v1 g2 v2 = R at *
    generalize twoE g1 g2 = E at *
    cases g1 with
    | false =>
      clear hs
      go_enter Try.func11, Try.ntmps11
      go_wp2_with fail
      refine (C.out _).mono ?_
      rintro e w1 ⟨rfl, hb⟩
      go_wp2
      go_ret2
      exact ⟨rfl, bthen hB hb⟩
    | true =>
      cases g2 with
      | false =>
        clear hs
        go_enter Try.func11, Try.ntmps11
        go_wp2_with fail
        refine (C.out _).mono ?_
        rintro e w1 ⟨rfl, hb⟩
        go_wp2
        go_ret2
        exact ⟨rfl, bthen hB hb⟩
      | true =>
        have hne : (v1 != v2) = false := by simpa using hs
        clear hs
        go_enter Try.func11, Try.ntmps11
        go_wp2_with fail
        refine (C.out _).mono ?_
        rintro e w1 ⟨rfl, hb⟩
        go_wp2
        go_ret2
        exact ⟨rfl, bthen hB hb⟩
theorem sorted_any (A : Option Addr) (n c : Nat) (l : List Int) (w : World) (h : Rd w 1 A n (l.map (Value.int .i64))) (hn : n ≤ 17592186044416) :
    Calls Try.prog 25 #[.slice A n c] w fun e w' => ∃ B d, e = .returned (.slice B n d) ∧ Rd w' 1 B n ((sortI l).map (Value.int .i64)) ∧ Below w.heap.size w w' := by
  have Hl := Lib.hid h.lenMap
  go_enter Try.func25, Try.ntmps25
  go_wp2_with fail
  refine (CloneI_any A n c l w h hn).mono ?_
  rintro e w2 ⟨v2, rfl, ho2, hb2⟩
  go_wp2_with fail
  refine (Sort_own ho2 (by rw [Hl.out]; omega)).mono ?_
  rintro e w3 ⟨rfl, ho3, hm3⟩
  have hb3 := hm3.below hb2 hb2.size ho2.block
  obtain ⟨B, d, rfl, hnd, hdm, hr⟩ := ho3.formN ((sortI_length l).trans Hl.out)
  clear ho2 ho3 hm3 hb2 h
  go_wp2
  go_ret
  exact ⟨B, d, rfl, hr, hb3⟩
theorem cntN_snoc {l : List Int} {j : Nat} {x : Int} (v far : Int) (h : l[j]? = some x) : cntN (l.take (j + 1)) v far = cntN (l.take j) v far + if nearB v far x then 1 else 0 := by
  unfold cntN
  rw [take_snoc h, List.countP_append, List.countP_singleton]
theorem cntN_le (l : List Int) (j : Nat) (v far : Int) : cntN (l.take j) v far ≤ j := by
  unfold cntN
  have := List.countP_le_length (p := nearB v far) (l := l.take j)
  rw [List.length_take] at this
  omega
set_option maxHeartbeats 400000 in
theorem mostAreNear_any (A : Option Addr) (n c : Nat) (l : List Int) (v far : Int) (w : World) (h : Rd w 1 A n (l.map (Value.int .i64))) (hn : n ≤ 4611686018427387904) (h1 : -9223372036854775808 ≤ v - far) (h2 : v - far ≤ 9223372036854775807) (h3 : -9223372036854775808 ≤ v + far) (h4 : v + far ≤ 9223372036854775807) :
    Calls Try.prog 26 #[.slice A n c, .int .i64 v, .int .i64 far] w fun e w' => e = .returned (.bool (nearP l far v)) ∧ w = w' := by
  have Hl := Lib.hid h.lenMap
  have Hfin : Hid (nearP l far v = decide (((n / 2 : Nat) : Int) < (cntN (l.take n) v far : Int))) := by
    show _ = _
    rw [List.take_of_length_le (by rw [Hl.out]; exact Nat.le_refl _), nearP, Hl.out]
    exact decide_eq_decide.2 (by omega)
  generalize nearP l far v = R at *
  go_enter Try.func26, Try.ntmps26
  go_wp2
  go_loop [7, 12] (fun m i => ∃ k : Nat, k ≤ n ∧ i = .int .i64 k ∧ m = .int .i64 (cntN (l.take k) v far)) (fun _ i => n - (intOf i).toNat)
  case atStart => exact ⟨0, Nat.zero_le _, rfl, rfl⟩
  case round =>
    obtain ⟨k, hk, rfl, rfl⟩ := hrel
    have hle := cntN_le l k v far
    by_cases hlt : k < n
    · obtain ⟨ad, x, rfl, hx, hc⟩ := h.atMap hlt
      have Hs := Lib.hid (cntN_snoc v far hx)
      clear hx Hfin
      generalize cntN (l.take k) v far = m at *
      by_cases g1 : v - far ≤ x
      · by_cases g2 : x ≤ v + far
        · have Hb : Hid (nearB v far x = true) := by show _ = _; simp [nearB]; omega
          go_wp2
          go_round
          case rel => exact ⟨k + 1, by omega, by go_num, int_eq (by rw [Hs.out, Hb.out]; simp)⟩
          case measure => simp [intOf] <;> omega
        · have Hb : Hid (nearB v far x = false) := by show _ = _; simp [nearB]; omega
          go_wp2
          go_round
          case rel => exact ⟨k + 1, by omega, by go_num, int_eq (by rw [Hs.out, Hb.out]; simp)⟩
          case measure => simp [intOf] <;> omega
      · have Hb : Hid (nearB v far x = false) := by show _ = _; simp [nearB]; omega
        go_wp2
        go_round
        case rel => exact ⟨k + 1, by omega, by go_num, int_eq (by rw [Hs.out, Hb.out]; simp)⟩
        case measure => simp [intOf] <;> omega
    · have hnk : k = n := by omega
      subst hnk
      generalize cntN (l.take k) v far = m at *
      go_wp2
      go_ret
      refine ⟨ret_bool ?_, rfl⟩
      rw [Hfin.out]
      exact decide_eq_decide.2 (by omega)
end Go.Proofs.Ytiaemlfkpnpkaaa
