/-
  Contracts of package fta: Wrong, divideDown, trimmed, Mid, Mean, Spread.
-/
import Derived.Test.YtjimajjmckjflaaFtaMath
import Derived.Test.YtjimajjmckjflaaSortI
import Derived.Test.YtjimajjmckjflaaRegion
import Derived.BigQuiet
import Derived.Deep.QuietTactic
namespace Go.Proofs.Ytjimajjmckjflaa
open Go.RowKit
set_option linter.unusedVariables false

theorem wrongL_2 {l : List Int} {k : Int} (h : 400 < l.length ∨ k < 0 ∨ 400 < k ∨ l.any outX = true) : wrongL l k = 2 := if_pos h
theorem wrongL_8 {l : List Int} {k : Int} (h1 : l.length ≤ 400) (h2 : 0 ≤ k) (h3 : k ≤ 400) (h4 : l.any outX = false) (h5 : (l.length : Int) ≤ 2 * k) : wrongL l k = 8 := by
  unfold wrongL
  rw [if_neg (by rw [h4]; simp; omega), if_pos h5]
theorem wrongL_0 {l : List Int} {k : Int} (h1 : l.length ≤ 400) (h2 : 0 ≤ k) (h3 : k ≤ 400) (h4 : l.any outX = false) (h5 : ¬ (l.length : Int) ≤ 2 * k) : wrongL l k = 0 := by
  unfold wrongL
  rw [if_neg (by rw [h4]; simp; omega), if_neg h5]

set_option maxHeartbeats 800000 in
theorem FtaWrong_any (A : Option Addr) (n c : Nat) (l : List Int) (k : Int) (w : World) (h : Rd w 1 A n (l.map (Value.int .i64))) (hn : n ≤ 4611686018427387904) :
    Calls Try.prog 39 #[.slice A n c, .int .i64 k] w fun e w' => e = .returned (.int .i64 (wrongL l k)) ∧ w = w' := by
  have hl := h.lenMap
  have H2 := Lib.hid (fun (g : 400 < n ∨ k < 0 ∨ 400 < k ∨ l.any outX = true) => wrongL_2 (l := l) (k := k) (by rw [hl]; exact g))
  have H8 := Lib.hid (fun (h1 : n ≤ 400) (h2 : 0 ≤ k) (h3 : k ≤ 400) (h4 : l.any outX = false) (h5 : (n : Int) ≤ 2 * k) => wrongL_8 (l := l) (k := k) (by rw [hl]; exact h1) h2 h3 h4 (by rw [hl]; exact h5))
  have H0 := Lib.hid (fun (h1 : n ≤ 400) (h2 : 0 ≤ k) (h3 : k ≤ 400) (h4 : l.any outX = false) (h5 : ¬ (n : Int) ≤ 2 * k) => wrongL_0 (l := l) (k := k) (by rw [hl]; exact h1) h2 h3 h4 (by rw [hl]; exact h5))
  have Hl := Lib.hid hl
  generalize wrongL l k = R at *
  clear hl
  by_cases h1 : 400 < n
  · have e := H2.out (.inl h1)
    subst e
    go_enter Try.func39, Try.ntmps39
    go_wp2
    go_ret
    exact ⟨rfl, rfl⟩
  by_cases h2 : k < 0
  · have e := H2.out (.inr (.inl h2))
    subst e
    go_enter Try.func39, Try.ntmps39
    go_wp2
    go_ret
    exact ⟨rfl, rfl⟩
  by_cases h3 : 400 < k
  · have e := H2.out (.inr (.inr (.inl h3)))
    subst e
    go_enter Try.func39, Try.ntmps39
    go_wp2
    go_ret
    exact ⟨rfl, rfl⟩
  go_enter Try.func39, Try.ntmps39
  go_wp2
  go_loop [20] (fun i => ∃ j : Nat, j ≤ n ∧ i = .int .i64 j ∧ (l.take j).any outX = false) (fun i => n - (intOf i).toNat)
  case atStart => exact ⟨0, Nat.zero_le _, rfl, by simp⟩
  case round =>
    obtain ⟨j, hj, rfl, hni⟩ := hrel
    have Hni := Lib.hid hni; clear hni
    by_cases hlt : j < n
    · obtain ⟨ad, x, rfl, hx, hc⟩ := h.atMap hlt
      have Hx := Lib.hid hx; clear hx
      have ho : ∀ (g : outX x = true), R = 2 := fun g => H2.out (.inr (.inr (.inr (List.any_eq_true.2 ⟨x, List.mem_of_getElem? Hx.out, g⟩))))
      have Ho := Lib.hid ho; clear ho
      by_cases x1 : x < -1099511627776
      · go_wp2
        go_ret
        exact ⟨ret_int (Ho.out (by simp [outX, x1])).symm, rfl⟩
      by_cases x2 : 1099511627776 < x
      · go_wp2
        go_ret
        exact ⟨ret_int (Ho.out (by simp [outX, x2])).symm, rfl⟩
      have Hn : Hid (outX x = false) := by show _ = _; simp [outX]; omega
      go_wp2
      go_round
      case rel => exact ⟨j + 1, by omega, by go_num, by rw [take_snoc Hx.out, List.any_append, Hni.out]; simp [Hn.out]⟩
      case measure => simp [intOf] <;> omega
    · have hnk : j = n := by omega
      subst hnk
      have Hany : Hid (l.any outX = false) := by
        have e := Hni.out
        rwa [List.take_of_length_le (by rw [Hl.out]; exact Nat.le_refl _)] at e
      by_cases h5 : (j : Int) ≤ 2 * k
      · go_wp2
        go_ret
        exact ⟨ret_int (H8.out (by omega) (by omega) (by omega) Hany.out h5).symm, rfl⟩
      · go_wp2
        go_ret
        exact ⟨ret_int (H0.out (by omega) (by omega) (by omega) Hany.out h5).symm, rfl⟩

theorem tdiv_down {s b : Int} (hb : 0 < b) : (if s.tmod b < 0 then s.tdiv b - 1 else s.tdiv b) = s / b := by
  have h1 := Int.mul_tdiv_add_tmod s b
  have h2 := Int.mul_ediv_add_emod s b
  have h3 := Int.emod_nonneg s (show b ≠ 0 by omega)
  have h4 := Int.emod_lt_of_pos s hb
  by_cases hs : 0 ≤ s
  · have := Int.tmod_nonneg b hs
    rw [if_neg (by omega), Int.tdiv_eq_ediv_of_nonneg hs]
  · have h5 : -b < s.tmod b := by
      have := Int.lt_tmod_of_pos s hb
      omega
    have h6 : s.tmod b ≤ 0 := by
      have := Int.tmod_nonneg b (show 0 ≤ -s by omega)
      rw [Int.neg_tmod] at this
      omega
    have key : ∀ q : Int, b * q ≤ s → s < b * q + b → q = s / b := by
      intro q g1 g2
      have k1 := Int.le_ediv_of_mul_le hb (show q * b ≤ s by rw [Int.mul_comm]; exact g1)
      have k2 := Int.ediv_lt_of_lt_mul hb (show s < (q + 1) * b by rw [Int.mul_comm, Int.mul_add]; omega)
      omega
    by_cases h7 : s.tmod b < 0
    · rw [if_pos h7]
      refine key _ ?_ ?_ <;> rw [Int.mul_sub] <;> omega
    · rw [if_neg h7]
      exact key _ (by omega) (by omega)

set_option maxHeartbeats 400000 in
theorem divideDown_any (s b : Int) (hb : 0 < b) (hb2 : b < 4611686018427387904) (hs : -4611686018427387904 < s) (hs2 : s < 4611686018427387904) (w : World) :
    Calls Try.prog 34 #[.int .i64 s, .int .i64 b] w fun e w' => e = .returned (.int .i64 (s / b)) ∧ w = w' := by
  have Hf := Lib.hid (tdiv_down (s := s) hb)
  have hq : -4611686018427387904 ≤ s.tdiv b ∧ s.tdiv b ≤ 4611686018427387904 := by
    have := Int.natAbs_tdiv_le_natAbs s b
    omega
  generalize s / b = R at *
  by_cases h : s.tmod b < 0
  · rw [if_pos h] at Hf
    go_enter Try.func34, Try.ntmps34
    go_wp2
    go_ret
    exact ⟨ret_int Hf.out, rfl⟩
  · rw [if_neg h] at Hf
    go_enter Try.func34, Try.ntmps34
    go_wp2
    go_ret
    exact ⟨ret_int Hf.out, rfl⟩

/-- l[lo:hi] with its reading. -/
theorem part_int {w : World} {A : Option Addr} {n c lo hi : Nat} {l : List Int} (h : Rd w 1 A n (l.map (Value.int .i64))) (h1 : lo ≤ hi) (h2 : hi ≤ n) (hc : n ≤ c) :
    ∃ B, (∀ W, (Instr.slice 22 (.slice A n c) (some (.int .i64 (lo : Int))) (some (.int .i64 (hi : Int))) none).run Try.prog W = .ok (.slice B (hi - lo) (c - lo)) W) ∧ Rd w 1 B (hi - lo) (((l.take hi).drop lo).map (Value.int .i64)) := by
  refine ⟨_, fun W => run_part elInt W A n c lo hi h1 (by omega), ?_⟩
  have := (h.take h2).cut (k := lo) (cap := c) h1 (by omega)
  simp only [Nat.mul_one] at this ⊢
  rwa [← List.map_take, ← List.map_drop] at this

/-- What trimmed returns: a slice that reads as the trimmed list, or nil and the error. -/
def Trims (l : List Int) (k : Int) (w : World) (e : Ending) (w' : World) : Prop :=
  Below w.heap.size w w' ∧ ((wrongL l k ≠ 0 ∧ e = .returned (.tuple #[.slice none 0 0, .int .i64 (wrongL l k)])) ∨
    (wrongL l k = 0 ∧ ∃ A c, e = .returned (.tuple #[.slice A (l.length - 2 * k.toNat) c, .int .i64 0]) ∧ Rd w' 1 A (l.length - 2 * k.toNat) ((restL l k.toNat).map (Value.int .i64)) ∧ l.length - 2 * k.toNat ≤ c))

set_option maxHeartbeats 800000 in
theorem trimmed_any (A : Option Addr) (n c : Nat) (l : List Int) (k : Int) (w : World) (h : Rd w 1 A n (l.map (Value.int .i64))) (hn : n ≤ 4611686018427387904) :
    Calls Try.prog 33 #[.slice A n c, .int .i64 k] w (Trims l k w) := by
  have hl := h.lenMap
  have C1 := Lib.hid (FtaWrong_any A n c l k w h hn)
  by_cases hw : wrongL l k = 0
  · obtain ⟨q, rfl, hq1, hq2⟩ := (wrongL_ok.1 hw).nat
    have Hw := Lib.hid hw
    rw [hw] at C1
    clear hw
    rw [hl] at hq1 hq2
    have C2 := Lib.hid (CloneI_any A n c l w h (by omega))
    have e1 : ((n : Int) - (q : Int)) = ((n - q : Nat) : Int) := by omega
    go_enter Try.func33, Try.ntmps33
    go_wp2_with fail
    refine C1.out.mono ?_
    rintro e w1 ⟨rfl, rfl⟩
    go_wp2_with fail
    refine C2.out.mono ?_
    rintro e w2 ⟨v2, rfl, ho2, hb2⟩
    go_wp2_with fail
    refine (Sort_own ho2 (by rw [hl]; omega)).mono ?_
    rintro e w3 ⟨rfl, ho3, hm3⟩
    have hb3 := hm3.below hb2 hb2.size ho2.block
    obtain ⟨B, d, rfl, hnd, hdm, hr⟩ := ho3.formN ((sortI_length l).trans hl)
    obtain ⟨B2, hs, hr2⟩ := part_int (lo := q) (hi := n - q) hr (by omega) (by omega) hnd
    have Hfin : Hid (Trims l (q : Int) w (.returned (.tuple #[.slice B2 (n - q - q) (d - q), .int .i64 0])) w3) := by
      refine ⟨hb3, .inr ⟨Hw.out, B2, d - q, ?_, ?_, ?_⟩⟩
      · rw [hl, show ((q : Int)).toNat = q by omega, show n - q - q = n - 2 * q by omega]
      · rw [hl, show ((q : Int)).toNat = q by omega, show n - 2 * q = n - q - q by omega]
        have e2 : restL l q = ((sortI l).take (n - q)).drop q := by rw [restL, hl]
        rw [e2]
        exact hr2
      · rw [hl, show ((q : Int)).toNat = q by omega]; omega
    clear ho2 ho3 hm3 hb2 hb3 hr hr2 hl h
    go_wp2
    go_ret2
    exact Hfin.out
  · have hne : (wrongL l k != 0) = true := by simpa using hw
    have Hw := Lib.hid hw
    clear hw
    have Hfin : Hid (Trims l k w (.returned (.tuple #[.slice none 0 0, .int .i64 (wrongL l k)])) w) := ⟨Below.refl _ _, .inl ⟨Hw.out, rfl⟩⟩
    generalize wrongL l k = R at C1 hne Hfin
    clear hl h Hw
    go_enter Try.func33, Try.ntmps33
    go_wp2_with fail
    refine C1.out.mono ?_
    rintro e w1 ⟨rfl, rfl⟩
    go_wp2
    go_ret2
    exact Hfin.out

theorem Trims.ends {l : List Int} {k : Int} {w w' : World} {e : Ending} (h : Trims l k w e w') (hw : wrongL l k = 0) :
    ∃ (p q : Nat) (ad : Addr) (c : Nat), k = q ∧ l.length = p + 1 + 2 * q ∧ p ≤ 400 ∧ e = .returned (.tuple #[.slice (some ad) (p + 1) c, .int .i64 0]) ∧ Rd w' 1 (some ad) (p + 1) ((restL l q).map (Value.int .i64)) ∧
      w'.cell? ad = some (.int .i64 (nth l q)) ∧ w'.cell? (ad.add p) = some (.int .i64 (nth l (l.length - 1 - q))) ∧ Below w.heap.size w w' := by
  obtain ⟨hb, ⟨hn, _⟩ | ⟨_, A, c, he, hr, hc⟩⟩ := h
  · exact absurd hw hn
  · obtain ⟨q, rfl, h1, h2⟩ := (wrongL_ok.1 hw).nat
    rw [show ((q : Int)).toNat = q by omega] at he hr hc
    obtain ⟨p, hp⟩ : ∃ p, l.length - 2 * q = p + 1 := ⟨l.length - 2 * q - 1, by omega⟩
    rw [hp] at he hr hc
    obtain ⟨ad, x0, rfl, hx0, hc0⟩ := hr.atMap (k := 0) (by omega)
    obtain ⟨ad', x1, had, hx1, hc1⟩ := hr.atMap (k := p) (by omega)
    cases had
    rw [restL_at (by omega)] at hx0 hx1
    simp only [Option.some.injEq] at hx0 hx1
    subst hx0 hx1
    refine ⟨p, q, ad, c, rfl, by omega, by omega, he, hr, by simpa [go_sem] using hc0, ?_, hb⟩
    rw [show l.length - 1 - q = q + p by omega]
    exact hc1
theorem Trims.errs {l : List Int} {k : Int} {w w' : World} {e : Ending} (h : Trims l k w e w') (hw : wrongL l k ≠ 0) : e = .returned (.tuple #[.slice none 0 0, .int .i64 (wrongL l k)]) ∧ Below w.heap.size w w' := by
  obtain ⟨hb, ⟨_, he⟩ | ⟨h0, _⟩⟩ := h
  · exact ⟨he, hb⟩
  · exact absurd h0 hw

set_option maxHeartbeats 800000 in
theorem Mid_any (A : Option Addr) (n c : Nat) (l : List Int) (k : Int) (w : World) (h : Rd w 1 A n (l.map (Value.int .i64))) (hn : n ≤ 4611686018427387904) :
    Calls Try.prog 28 #[.slice A n c, .int .i64 k] w fun e w' => e = .returned (.tuple #[.int .i64 (midR l k), .int .i64 (wrongL l k)]) ∧ Below w.heap.size w w' := by
  have C1 := Lib.hid (trimmed_any A n c l k w h hn)
  by_cases hw : wrongL l k = 0
  · have hF := wrongL_ok.1 hw
    go_enter Try.func28, Try.ntmps28
    go_wp2_with fail
    refine C1.out.mono ?_
    intro e w1 ht
    obtain ⟨p, q, ad, d, rfl, hl, hp, rfl, hr, hc0, hc1, hb⟩ := ht.ends hw
    have b0 := hF.nth (j := q) (by omega)
    have b1 := hF.nth (j := l.length - 1 - q) (by omega)
    have Hm : Hid (midR l q = (nth l q + nth l (l.length - 1 - q)) / 2) := by show _ = _; rw [midR_ok hw, show ((q : Int)).toNat = q by omega]; rfl
    have Hw := Lib.hid hw
    obtain ⟨b2, b3⟩ := b0
    obtain ⟨b4, b5⟩ := b1
    generalize nth l q = x0 at *
    generalize nth l (l.length - 1 - q) = x1 at *
    have hD : ∀ z : Nat, Calls Try.prog 34 #[.int .i64 (x0 + x1), .int .i64 2] (w1.drewN z) fun e w' => e = .returned (.int .i64 ((x0 + x1) / 2)) ∧ w' = w1.drewN z := fun z => (divideDown_any (x0 + x1) 2 (by decide) (by decide) (by omega) (by omega) (w1.drewN z)).mono (fun e w' h => ⟨h.1, h.2.symm⟩)
    clear hr ht hl hw hF C1 h
    go_wp2
    go_quiet (first | (go_at_call 34; refine Calls.quiet_of_same (hD _)))
    go_wp2
    go_ret2
    exact ⟨by rw [Hm.out, Hw.out]; rfl, bthen hb (below_draws ⟨_, rfl⟩)⟩
  · have hne : (wrongL l k != 0) = true := by simpa using hw
    rw [midR_no hw]
    go_enter Try.func28, Try.ntmps28
    go_wp2_with fail
    refine C1.out.mono ?_
    intro e w1 ht
    obtain ⟨rfl, hb⟩ := ht.errs hw
    clear ht C1 hw
    go_wp2
    go_ret2
    exact ⟨rfl, hb⟩

end Go.Proofs.Ytjimajjmckjflaa
