/-
  arb's law: the least number goes on.
-/
import Derived.Test.YtolcfifbnmkfaaaArbLaws
namespace Go.Proofs.Ytolcfifbnmkfaaa
open Go.RowKit
set_option linter.unusedVariables false

theorem MinQ {A : Option Addr} {n c : Nat} {l : List Int} {w : World} (h : Rd w 1 A n (l.map (Value.int .i64))) (h0 : 0 < n) (hn : n ≤ 4611686018427387904) :
    Calls Try.prog 22 #[.slice A n c] w fun e w' => e = .returned (.int .i64 (leastI l)) ∧ w' = w :=
  (Min_any A n c l w h h0 hn).mono fun _ _ ⟨h1, h2⟩ => ⟨h1, h2.symm⟩
set_option maxHeartbeats 1600000 in
theorem ArbLeast_walk (A : Option Addr) (n c : Nat) (l : List Int) (w : World) (h : Rd w 1 A n (l.map (Value.int .i64))) (hwf : ∀ x ∈ l, (Lit.int .i64 x).wf = true) (hk : n ≤ c) (hc : c * 8 ≤ 140737488351232) :
    Calls Try.prog 4 #[.slice A n c] w fun e w' => e = .returned (.bool true) ∧ Below w.heap.size w w' := by
  have hln := h.lenMap
  by_cases he : playErr l = 0
  · obtain ⟨hf, hl⟩ := (playErr_zero l).1 he
    have hP := fun W h => Play_ok A n c l W h hf hl
    have hW := fun W h => Win_ok A n c l W h hf hl
    have hn4 : n ≤ 400 := by have := hf.1; omega
    have hn0 : 0 < n := by rw [← hln]; exact List.length_pos_iff.2 hl
    have hm := hf.2.1 _ (leastI_mem hl)
    have hM := fun W (h : Rd W 1 A n (l.map (Value.int .i64))) => MinQ (c := c) h hn0 (by omega)
    have hbl : (playBus l).length = 11 := B_length _
    have hPut := fun W => Put_ok 11 (leastI l) W (by omega) hm.1 (by omega)
    rw [show bitsOf 11 (leastI l) = playBus l from rfl] at hPut
    generalize leastI l = m at *
    generalize playSent l = S at *
    generalize playBus l = T at *
    clear hf hl he hwf hk hc
    go_enter Try.func4, Try.ntmps4
    go_wp2_with (first
      | (go_at_call 20; refine (alive5_any w).mono ?_; rintro e w1 ⟨rfl, hb1⟩)
      | (go_at_call 9; refine (hW w1 (h.below hb1)).mono ?_; clear hW; rintro e w2 ⟨k, rfl, hk, hb2⟩)
      | (go_at_call 8; refine (hP w2 ((h.below hb1).below hb2)).mono ?_; clear hP; rintro e w3 ⟨v, b, rfl, h1, h2, hb3⟩; obtain ⟨A3, c3, rfl, _, _, r3⟩ := h2.formN hbl)
      | (go_at_call 22; refine (hM w3 (((h.below hb1).below hb2).below hb3)).mono ?_; rintro e w4 ⟨rfl, rfl⟩)
      | (go_at_call 21; refine (hPut _).mono ?_; clear hPut; rintro e w5 ⟨A5, c5, rfl, h5, hb5⟩; have hb45 : Below w.heap.size w w5 := bthen (bthen (bthen hb1 hb2) hb3) hb5; have hr5 := h.below hb45; have hkn : k < n := (by have := (List.getElem?_eq_some_iff.1 hk).1; omega); obtain ⟨ad, x, rfl, hx, hcx⟩ := hr5.atMap hkn; obtain rfl : m = x := Option.some.inj (hk.symm.trans hx); have hkz : (k : Int) < (n : Int) := (by omega); have hk0 : (0 : Int) ≤ (k : Int) := (by omega); have r35 := r3.below hb5; have r5 := h5.rd))
    clear hk hx h1 h2 h5
    have hEq := fun (q : Nat) => EqualB_any A3 A5 11 c3 11 c5 T T (w5.drewN q) r35 r5 (by omega)
    have hMq := fun (q : Nat) => hM (w5.drewN q) hr5
    simp only [decide_true] at hEq
    go_quiet (first | (go_at_call 22; refine Calls.quiet_of_same (hMq _)) | (go_at_call 16; refine Calls.quiet_of (hEq _)))
    go_wp2
    go_ret
    exact ⟨rfl, bthen hb45 (below_draws ⟨_, rfl⟩)⟩
  · have hP := fun W h => Play_any A n c l W h
    have hW := fun W h => Win_bad A n c l W h he
    have hne : (playErr l != 0) = true := by simpa using he
    generalize playErr l = R at *
    generalize sentM l = S at *
    generalize busM l = T at *
    clear he hwf hk hc
    go_enter Try.func4, Try.ntmps4
    go_wp2_with (first
      | (go_at_call 20; refine (alive5_any w).mono ?_; rintro e w1 ⟨rfl, hb1⟩)
      | (go_at_call 9; refine (hW w1 (h.below hb1)).mono ?_; clear hW; rintro e w2 ⟨rfl, hb2⟩)
      | (go_at_call 8; refine (hP w2 ((h.below hb1).below hb2)).mono ?_; clear hP; rintro e w3 ⟨v, b, rfl, h1, h2, hb3⟩))
    go_ret
    exact ⟨rfl, bthen (bthen hb1 hb2) hb3⟩
end Go.Proofs.Ytolcfifbnmkfaaa
