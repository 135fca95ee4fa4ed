/-
  Contracts of package vote: isWrong, Middle, Most, Near, for every input.
-/
import Derived.Test.YtiaemlfkpnpkaaaVoteWalks
namespace Go.Proofs.Ytiaemlfkpnpkaaa
open Go.RowKit
set_option linter.unusedVariables false

theorem isWrongV_any (x : Int) (w : World) : Calls Try.prog 28 #[.int .i64 x] w fun e w' => e = .returned (.bool (outX x)) ∧ w = w' := by
  by_cases x1 : x < -1099511627776
  · have Ho : Hid (outX x = true) := by show _ = _; simp [outX, x1]
    go_enter Try.func28, Try.ntmps28
    go_wp2
    go_ret
    exact ⟨ret_bool (by rw [Ho.out]), rfl⟩
  · by_cases x2 : 1099511627776 < x
    · have Ho : Hid (outX x = true) := by show _ = _; simp [outX, x2]
      go_enter Try.func28, Try.ntmps28
      go_wp2
      go_ret
      exact ⟨ret_bool (by rw [Ho.out]), rfl⟩
    · have Ho : Hid (outX x = false) := by show _ = _; simp [outX]; omega
      go_enter Try.func28, Try.ntmps28
      go_wp2
      go_ret
      exact ⟨ret_bool (by rw [Ho.out]), rfl⟩
theorem enterW : ∀ args w, (callFunc 28 args).run Try.prog w = .ok (.enter 28 args) w := enters_of Try.func28 (by kernel_rfl) rfl
theorem ContainsW_any (A : Option Addr) (n c : Nat) (l : List Int) (w : World) (h : Rd w 1 A n (l.map (Value.int .i64))) (hn : n ≤ 4611686018427387904) :
    Calls Try.prog 27 #[.slice A n c, .func (.func 28) #[] #[]] w fun e w' => e = .returned (.bool (l.any outX)) ∧ Below w.heap.size w w' := by
  refine (ContainsFunc_any 28 #[] enterW outX none A n c l w h (fun x _ W _ => ?_) hn).mono ?_
  · refine (isWrongV_any x W).mono ?_
    rintro e w' ⟨rfl, rfl⟩
    exact ⟨rfl, 0, rfl⟩
  · rintro e w' ⟨rfl, hq⟩
    exact ⟨rfl, below_draws hq⟩
set_option maxHeartbeats 400000 in
theorem ContainsI_any_index (A : Option Addr) (n c : Nat) (l : List Int) (b : Int) (w : World) (h : Rd w 1 A n (l.map (Value.int .i64))) (hn : n ≤ 4611686018427387904) :
    Calls Try.prog 31 #[.slice A n c, Value.int .i64 b] w fun e w' => ∃ r : Int, e = .returned (.int .i64 r) ∧ (0 ≤ r ↔ b ∈ l) ∧ w = w' := by
  have Hl := Lib.hid h.lenMap
  go_enter Try.func31, Try.ntmps31
  go_wp2
  go_loop [8] (fun i => ∃ k : Nat, k ≤ n ∧ i = .int .i64 k ∧ b ∉ l.take k) (fun i => n - (intOf i).toNat)
  case atStart => exact ⟨0, Nat.zero_le _, rfl, by simp⟩
  case round =>
    obtain ⟨k, hk, rfl, hni⟩ := hrel
    have Hni := Lib.hid hni; clear hni
    by_cases hlt : k < n
    · obtain ⟨ad, x, rfl, hx, hc⟩ := h.atMap hlt
      have Hx := Lib.hid hx; clear hx
      by_cases hxx : b = x
      · subst hxx
        go_wp2
        go_ret
        exact ⟨_, rfl, by simp; exact List.mem_of_getElem? Hx.out, rfl⟩
      · have hne : (b == x) = false := by simp [hxx]
        have Hxx := Lib.hid hxx; clear hxx
        go_wp2
        go_round
        case rel => exact ⟨k + 1, by omega, by go_num, by rw [take_snoc Hx.out, List.mem_append, List.mem_singleton]; exact fun h => h.elim Hni.out Hxx.out⟩
        case measure => simp [intOf] <;> omega
    · have hnk : k = n := by omega
      subst hnk
      go_wp2
      go_ret
      refine ⟨_, rfl, ?_, rfl⟩
      have e := Hni.out
      rw [List.take_of_length_le (by rw [Hl.out]; exact Nat.le_refl _)] at e
      simp [e]
theorem ContainsI_any (A : Option Addr) (n c : Nat) (l : List Int) (b : Int) (w : World) (h : Rd w 1 A n (l.map (Value.int .i64))) (hn : n ≤ 4611686018427387904) :
    Calls Try.prog 24 #[.slice A n c, Value.int .i64 b] w fun e w' => e = .returned (.bool (decide (b ∈ l))) ∧ w = w' := by
  go_enter Try.func24, Try.ntmps24
  go_wp2_with (go_at_call 31; refine (ContainsI_any_index A n c l b w h hn).mono ?_; rintro e w' ⟨r, rfl, hr, rfl⟩)
  go_ret
  refine ⟨ret_bool ?_, rfl⟩
  by_cases hb : b ∈ l <;> simp [hb]
set_option maxHeartbeats 400000 in
theorem Middle_any (A : Option Addr) (n c : Nat) (l : List Int) (w : World) (h : Rd w 1 A n (l.map (Value.int .i64))) (hn : n ≤ 4611686018427387904) :
    Calls Try.prog 12 #[.slice A n c] w fun e w' => e = .returned (.tuple #[.int .i64 (middleV l), .int .i64 (middleE l)]) ∧ Below w.heap.size w w' := by
  have hl := h.lenMap
  by_cases h1 : 400 < n
  · rw [(middle_big (l := l) (by omega)).1, (middle_big (l := l) (by omega)).2]
    clear hl
    go_enter Try.func12, Try.ntmps12
    go_wp2
    go_ret2
    exact ⟨rfl, Below.refl _ _⟩
  have et : (n : Int).tmod 2 = ((n % 2 : Nat) : Int) := by
    rw [Int.tmod_eq_emod_of_nonneg (by omega)]; omega
  by_cases h2 : n % 2 = 0
  · rw [(middle_even (l := l) (by omega) (by omega)).1, (middle_even (l := l) (by omega) (by omega)).2]
    rw [h2] at et
    clear hl h2
    go_enter Try.func12, Try.ntmps12
    go_wp2
    go_ret2
    exact ⟨rfl, Below.refl _ _⟩
  rw [show n % 2 = 1 by omega] at et
  have C := Lib.hid (sorted_any A n c l w h (by omega))
  have ho := middle_ok (l := l) (by omega) (by omega)
  rw [ho.1, ho.2]
  have hm : (sortI l)[n / 2]? = some (midO l) := by rw [← hl]; exact nth_some (by omega)
  generalize midO l = R at *
  have ed : (n : Int).tdiv 2 = ((n / 2 : Nat) : Int) := by
    rw [Int.tdiv_eq_ediv_of_nonneg (by omega)]; omega
  have hlt : n / 2 < n := by omega
  clear ho hl h2
  go_enter Try.func12, Try.ntmps12
  go_wp2_with fail
  refine C.out.mono ?_
  rintro e w1 ⟨B, d, rfl, hr, hb⟩
  obtain ⟨ad, x, rfl, hx, hc⟩ := hr.atMap hlt
  rw [hm] at hx
  cases hx
  clear hm hr
  generalize n / 2 = q at *
  go_wp2
  go_ret2
  exact ⟨rfl, hb⟩
set_option maxHeartbeats 400000 in
theorem Most_any (A : Option Addr) (n c : Nat) (l : List Int) (w : World) (h : Rd w 1 A n (l.map (Value.int .i64))) (hq : ∀ x ∈ l, in64 x) (hn : n ≤ 4611686018427387904) :
    Calls Try.prog 14 #[.slice A n c] w fun e w' => e = .returned (.tuple #[.int .i64 (mostV l), .int .i64 (mostE l)]) ∧ Below w.heap.size w w' := by
  have hl := h.lenMap
  by_cases h1 : 400 < n
  · rw [(most_big (l := l) (by omega)).1, (most_big (l := l) (by omega)).2]
    clear hl hq
    go_enter Try.func14, Try.ntmps14
    go_wp2
    go_ret2
    exact ⟨rfl, Below.refl _ _⟩
  by_cases h2 : n = 0
  · obtain rfl : l = [] := List.eq_nil_of_length_eq_zero (by omega)
    rw [(most_none (l := []) (by decide) (by decide)).1, (most_none (l := []) (by decide) (by decide)).2]
    subst h2
    clear hl hq
    go_enter Try.func14, Try.ntmps14
    go_wp2
    go_ret2
    exact ⟨rfl, Below.refl _ _⟩
  have hne : ((n : Int) == 0) = false := by simpa using (show ¬ (n : Int) = 0 by omega)
  have C := Lib.hid (sorted_any A n c l w h (by omega))
  have hm : (sortI l)[n / 2]? = some (midO l) := by rw [← hl]; exact nth_some (by omega)
  obtain ⟨r1, r2⟩ := hq _ (midO_mem (l := l) (by omega))
  have Hp : Hid (nearP l 0 (midO l) = true → mostE l = 0 ∧ mostV l = midO l) := fun g => by
    rw [nearP, cntN_zero] at g
    exact most_ok (by omega) (of_decide_eq_true g)
  have Hp2 : Hid (nearP l 0 (midO l) = false → mostE l = 3 ∧ mostV l = 0) := fun g => by
    rw [nearP, cntN_zero] at g
    exact most_none (by omega) (of_decide_eq_false g)
  have C2 := Lib.hid (fun (W : World) (h : Rd W 1 A n (l.map (Value.int .i64))) => mostAreNear_any A n c l (midO l) 0 W h hn (by omega) (by omega) (by omega) (by omega))
  generalize midO l = R at *
  generalize mostE l = E at *
  generalize mostV l = V at *
  have ed : (n : Int).tdiv 2 = ((n / 2 : Nat) : Int) := by
    rw [Int.tdiv_eq_ediv_of_nonneg (by omega)]; omega
  have hlt : n / 2 < n := by omega
  clear hl hq
  go_enter Try.func14, Try.ntmps14
  go_wp2_with fail
  refine C.out.mono ?_
  rintro e w1 ⟨B, d, rfl, hr, hb⟩
  replace h := h.below hb
  obtain ⟨ad, x, rfl, hx, hc⟩ := hr.atMap hlt
  rw [hm] at hx
  cases hx
  clear hm hr C
  generalize n / 2 = q at *
  go_wp2_with fail
  refine (C2.out _ h).mono ?_
  rintro e w2 ⟨rfl, rfl⟩
  clear C2
  cases hp : nearP l 0 R with
  | true =>
    obtain ⟨e1, e2⟩ := Hp.out hp
    subst e1 e2
    clear Hp Hp2 hp h
    go_wp2
    go_ret2
    exact ⟨rfl, hb⟩
  | false =>
    obtain ⟨e1, e2⟩ := Hp2.out hp
    subst e1 e2
    clear Hp Hp2 hp h
    go_wp2
    go_ret2
    exact ⟨rfl, hb⟩
set_option maxHeartbeats 800000 in
theorem Near_any (A : Option Addr) (n c : Nat) (l : List Int) (far : Int) (w : World) (h : Rd w 1 A n (l.map (Value.int .i64))) (hn : n ≤ 4611686018427387904) :
    Calls Try.prog 16 #[.slice A n c, .int .i64 far] w fun e w' => e = .returned (.tuple #[.int .i64 (nearV l far), .int .i64 (nearE l far)]) ∧ Below w.heap.size w w' := by
  have hl := h.lenMap
  by_cases h1 : 400 < n
  · have hw : wrongN l far := .inl (by omega)
    rw [(near_wrong hw).1, (near_wrong hw).2]
    clear hl hw
    go_enter Try.func16, Try.ntmps16
    go_wp2
    go_ret2
    exact ⟨rfl, Below.refl _ _⟩
  by_cases h2 : far < 0
  · have hw : wrongN l far := .inr (.inl h2)
    rw [(near_wrong hw).1, (near_wrong hw).2]
    clear hl hw
    go_enter Try.func16, Try.ntmps16
    go_wp2
    go_ret2
    exact ⟨rfl, Below.refl _ _⟩
  by_cases h3 : 1099511627776 < far
  · have hw : wrongN l far := .inr (.inr (.inl h3))
    rw [(near_wrong hw).1, (near_wrong hw).2]
    clear hl hw
    go_enter Try.func16, Try.ntmps16
    go_wp2
    go_ret2
    exact ⟨rfl, Below.refl _ _⟩
  have C := Lib.hid (ContainsW_any A n c l w h hn)
  cases ho : l.any outX with
  | true =>
    have hw : wrongN l far := .inr (.inr (.inr ho))
    rw [(near_wrong hw).1, (near_wrong hw).2]
    rw [ho] at C
    clear hl hw ho
    go_enter Try.func16, Try.ntmps16
    go_wp2_with fail
    refine C.out.mono ?_
    rintro e w1 ⟨rfl, hb⟩
    go_wp2
    go_ret2
    exact ⟨rfl, hb⟩
  | false =>
    have hw : ¬ wrongN l far := by
      unfold wrongN
      rw [ho, hl]
      simp
      omega
    have Hin : Hid (∀ x ∈ sortI l, -1099511627776 ≤ x ∧ x ≤ 1099511627776) := fun x hx => by
      have := List.any_eq_false.1 ho x ((sortI_is l).mem_iff.1 hx)
      simp [outX] at this
      omega
    have Hsome : Hid (∀ (k : Nat) (x : Int), (sortI l)[k]? = some x → (∀ y ∈ (sortI l).take k, nearP l far y = false) → nearP l far x = true → nearE l far = 0 ∧ nearV l far = x) := fun k x hx hall hp => by
      refine near_some hw ?_
      unfold nearF
      have hd := drop_cons hx
      have e : sortI l = (sortI l).take k ++ x :: (sortI l).drop (k + 1) := by rw [← hd, List.take_append_drop]
      rw [e, List.find?_append, List.find?_eq_none.2 (fun y hy => by simp [hall y hy]), List.find?_cons_of_pos hp]
      rfl
    have Hnone : Hid ((∀ y ∈ sortI l, nearP l far y = false) → nearE l far = 3 ∧ nearV l far = 0) := fun g => near_none hw (nearF_no (fun x hx => g x ((sortI_is l).mem_iff.2 hx)))
    have C2 := Lib.hid (fun (W : World) (h : Rd W 1 A n (l.map (Value.int .i64))) => sorted_any A n c l W h (by omega))
    have C3 := Lib.hid (fun (W : World) (h : Rd W 1 A n (l.map (Value.int .i64))) (x : Int) (hx : -1099511627776 ≤ x ∧ x ≤ 1099511627776) => mostAreNear_any A n c l x far W h hn (by omega) (by omega) (by omega) (by omega))
    have Hls := Lib.hid ((sortI_length l).trans hl)
    rw [ho] at C
    clear hl hw ho
    generalize sortI l = s at *
    generalize nearE l far = E at *
    generalize nearV l far = V at *
    go_enter Try.func16, Try.ntmps16
    go_wp2_with fail
    refine C.out.mono ?_
    rintro e w1 ⟨rfl, hb⟩
    replace h := h.below hb
    clear C
    go_wp2_with fail
    refine (C2.out _ h).mono ?_
    rintro e w2 ⟨B, d, rfl, hr, hb2⟩
    replace h := h.below hb2
    have hB := bthen hb hb2
    clear C2 hb hb2
    go_wp2
    go_loop [26] (fun i => ∃ k : Nat, k ≤ n ∧ i = .int .i64 k ∧ Hid (∀ y ∈ s.take k, nearP l far y = false)) (fun i => n - (intOf i).toNat)
    case atStart => exact ⟨0, Nat.zero_le _, rfl, by show ∀ y ∈ _, _; simp⟩
    case round =>
      obtain ⟨k, hk, rfl, Hni⟩ := hrel
      by_cases hlt : k < n
      · obtain ⟨ad, x, rfl, hx, hc⟩ := hr.atMap hlt
        have Hx := Lib.hid hx; clear hx
        have hin := Hin.out x (List.mem_of_getElem? Hx.out)
        go_wp2_with fail
        refine (C3.out _ h x hin).mono ?_
        rintro e w3 ⟨rfl, rfl⟩
        cases hp : nearP l far x with
        | true =>
          obtain ⟨e1, e2⟩ := Hsome.out k x Hx.out Hni.out hp
          subst e1 e2
          clear hp C3
          go_wp2
          go_ret2
          exact ⟨rfl, hB⟩
        | false =>
          have Hp := Lib.hid hp; clear hp
          go_wp2
          go_round
          case rel =>
            refine ⟨k + 1, by omega, by go_num, ?_⟩
            show ∀ y ∈ _, _
            intro y hy
            rw [take_snoc Hx.out, List.mem_append, List.mem_singleton] at hy
            rcases hy with hy | rfl
            · exact Hni.out y hy
            · exact Hp.out
          case measure => simp [intOf] <;> omega
      · have hnk : k = n := by omega
        subst hnk
        have e := Hni.out
        rw [List.take_of_length_le (by rw [Hls.out]; exact Nat.le_refl _)] at e
        obtain ⟨e1, e2⟩ := Hnone.out e
        subst e1 e2
        clear e C3
        go_wp2
        go_ret2
        exact ⟨rfl, hB⟩
end Go.Proofs.Ytiaemlfkpnpkaaa
