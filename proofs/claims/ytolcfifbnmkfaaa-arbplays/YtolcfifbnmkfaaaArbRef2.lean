/-
  Contract of the reference's ESaid. No statement of the seat is here.
-/
import Derived.Test.YtolcfifbnmkfaaaArbRef
namespace Go.Proofs.Ytolcfifbnmkfaaa
open Go.RowKit
set_option linter.unusedVariables false

set_option maxRecDepth 100000 in
set_option maxHeartbeats 1600000 in
theorem ESaid_any (A : Option Addr) (n c : Nat) (l : List Int) (k : Nat) (x : Int) (w : World) (h : Rd w 1 A n (l.map (Value.int .i64))) (hf : Fair l) (hx : l[k]? = some x) :
    Calls Try.prog 14 #[.slice A n c, .int .i64 k] w fun e w' => e = .returned (.int .i64 (saidS (leastI l) x 11)) ∧ Below w.heap.size w w' := by
  have hln := h.lenMap
  have hkl := (List.getElem?_eq_some_iff.1 hx).1
  have hn4 : n ≤ 400 := by have := hf.1; omega
  have hkn : k < n := by omega
  have hkz : (k : Int) < (n : Int) := by omega
  have hxr := hf.2.1 x (List.mem_of_getElem? hx)
  have hl : l ≠ [] := by intro e; subst e; simp at hx
  have hm := hf.2.1 _ (leastI_mem hl)
  obtain ⟨ad, x', rfl, hx', hcx⟩ := h.atMap hkn
  obtain rfl : x = x' := Option.some.inj (hx.symm.trans hx')
  have hE := fun W h => EWin_any (some ad) n c l W h (by omega) (by omega)
  generalize leastI l = m at *
  have hP1 := fun W => APut_ok 11 x W (by omega) hxr.1 (by omega)
  have hP2 := fun W => APut_ok 11 m W (by omega) hm.1 (by omega)
  rw [show bitsOf 11 x = B x from rfl] at hP1
  rw [show bitsOf 11 m = B m from rfl] at hP2
  have hfin := fun (t : Nat) ht h1 h2 => saidS_of (m := m) (x := x) (n := t) ht h1 h2 11 (Nat.le_refl _)
  have Hfin := Lib.hid hfin; clear hfin
  generalize saidS m x 11 = R at *
  have hBx := B_length x
  have hBm := B_length m
  clear hf hx hx' hl
  go_enter Try.func14, Try.ntmps14
  go_wp2_with (first
    | (go_at_call 15; refine (hP1 w).mono ?_; clear hP1; rintro e w1 ⟨A1, c1, rfl, h1, hb1⟩)
    | (go_at_call 13; refine (hE w1 (h.below hb1)).mono ?_; clear hE; rintro e w2 ⟨a, rfl, ha, hb2⟩; have han : a < n := (by have := (List.getElem?_eq_some_iff.1 ha).1; omega); have haz : (a : Int) < (n : Int) := (by omega); obtain ⟨ad2, m2, had2, hm2, hcm⟩ := ((h.below hb1).below hb2).atMap han; cases had2; obtain rfl : m = m2 := Option.some.inj (ha.symm.trans hm2))
    | (go_at_call 15; refine (hP2 w2).mono ?_; clear hP2; rintro e w3 ⟨A3, c3, rfl, h3, hb3⟩))
  have r1 := (h1.below (bthen hb2 hb3)).rd
  have r3 := h3.rd
  clear h1 h3 hcx
  go_loopw [9] (fun i wr => ∃ t : Nat, t ≤ 11 ∧ i = .int .i64 t ∧ (B x).take t = (B m).take t ∧ Below w3.heap.size w3 wr) (fun i _ => 11 - (intOf i).toNat)
  case atStart => exact ⟨0, by omega, rfl, rfl, Below.refl _ _⟩
  case round =>
    obtain ⟨t, ht, rfl, hta, hb4⟩ := hrel
    have Hta := Lib.hid hta; clear hta
    by_cases hlt : t < 11
    · obtain ⟨ada, p, rfl, hp, hcp⟩ := (r1.below hb4).atMap hlt
      obtain ⟨adb, q, rfl, hq, hcq⟩ := (r3.below hb4).atMap hlt
      have htz : (t : Int) < 11 := by omega
      by_cases hpq : p = q
      · subst hpq
        have Hp := Lib.hid hp; clear hp
        have Hq := Lib.hid hq; clear hq
        go_wp2
        go_quiet (fail)
        go_wp2
        go_roundw
        case rel => exact ⟨t + 1, by omega, by go_num, by rw [take_snoc Hp.out, take_snoc Hq.out, Hta.out], bthen hb4 (below_draws ⟨_, rfl⟩)⟩
        case measure => simp [intOf] <;> omega
      · have hR : Hid (R = min ((t : Int) + 1) 11) := Hfin.out t (by omega) Hta.out (.inr (by rw [hp, hq]; simpa using hpq))
        have hne : (p == q) = false := by simpa using hpq
        clear hp hq hpq
        rcases Int.lt_or_le 11 ((t : Int) + 1) with h11 | h11
        · omega
        · go_wp2
          go_quiet (fail)
          go_wp2
          all_goals go_ret
          all_goals exact ⟨ret_int (by have := hR.out; omega), bthen (bthen (bthen (bthen hb1 hb2) hb3) hb4) (below_draws ⟨_, rfl⟩)⟩
    · obtain rfl : t = 11 := by omega
      have hR : Hid (R = min (((11 : Nat) : Int) + 1) 11) := Hfin.out 11 (by omega) Hta.out (.inl rfl)
      go_wp2
      go_quiet (fail)
      go_wp2
      all_goals go_ret
      all_goals exact ⟨ret_int (by have := hR.out; omega), bthen (bthen (bthen (bthen hb1 hb2) hb3) hb4) (below_draws ⟨_, rfl⟩)⟩
end Go.Proofs.Ytolcfifbnmkfaaa
