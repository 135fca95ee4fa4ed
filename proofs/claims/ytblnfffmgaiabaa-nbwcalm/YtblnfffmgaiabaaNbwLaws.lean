/-
  slices.Equal of reads, alive17; the laws NbwPlays, NbwWhole.
-/
import Derived.Test.YtblnfffmgaiabaaNbwRef
namespace Go.Proofs.Ytblnfffmgaiabaa
open Go.RowKit
set_option linter.unusedVariables false

theorem playQL_len (l : List Int) : (playQL l).length ≤ 400 ∧ playQN l ≤ 400 := by
  by_cases h : playQE l = 0
  · rw [(playQ_ok h).1, (playQ_ok h).2]
    have h1 := (playQE_ok.1 h).1
    have h2 := run_small l
    omega
  · rw [(playQ_no h).1, (playQ_no h).2]
    exact ⟨by simp, by decide⟩
set_option maxHeartbeats 1600000 in
theorem EqualG_same (A B : Option Addr) (n c d : Nat) (L : List GotQ) (w : World) (h : RdG gotC 3 w A n L) (h' : RdG gotC 3 w B n L) (hn : n ≤ 4611686018427387904) :
    Calls Try.prog 10 #[.slice A n c, .slice B n d] w fun e w' => e = .returned (.bool true) ∧ ∃ q, w' = w.drewN q := by
  go_enter Try.func10, Try.ntmps10
  go_wp2
  go_loopw [13] (fun i wr => ∃ k : Nat, k ≤ n ∧ i = .int .i64 k ∧ ∃ q, wr = w.drewN q) (fun i _ => n - (intOf i).toNat)
  case atStart => exact ⟨0, Nat.zero_le _, rfl, 0, rfl⟩
  case round =>
    obtain ⟨k, hk, rfl, q, rfl⟩ := hrel
    by_cases hlt : k < n
    · obtain ⟨ad, x, rfl, hx, m0, m1, m2⟩ := got_at h hlt
      obtain ⟨ad', x', rfl, hx', m0', m1', m2'⟩ := got_at h' hlt
      rw [hx] at hx'
      injection hx' with hx'
      subst hx'
      obtain ⟨xv, xt, xl⟩ := x
      simp only at m0 m1 m2 m0' m1' m2'
      clear hx
      go_wp2
      go_quiet (fail)
      go_wp2
      go_roundw
      case rel => exact ⟨k + 1, by omega, by go_num, _, rfl⟩
      case measure => simp [intOf] <;> omega
    · obtain rfl : k = n := by omega
      go_wp2
      go_ret
      exact ⟨rfl, _, rfl⟩
set_option maxHeartbeats 1600000 in
theorem NbwPlays_walk (A0 : Option Addr) (n0 c0 : Nat) (l0 : List Int) (w : World) (h0 : Rd w 1 A0 n0 (l0.map (Value.int .i64))) (q0 : ∀ x ∈ l0, (Lit.int .i64 x).wf = true) (k0 : n0 ≤ c0) (b0 : c0 * 8 ≤ 140737488351232) :
    Calls Try.prog 3 #[.slice A0 n0 c0] w fun e w' => e = .returned (.bool true) ∧ Below w.heap.size w w' := by
  have C1 := Lib.hid (Play_any A0 n0 c0 l0 w h0 (by omega))
  have C2 := Lib.hid (fun (W : World) (hW : Rd W 1 A0 n0 (l0.map (Value.int .i64))) => QPlay_any A0 n0 c0 l0 W hW (by omega))
  have Hlen := Lib.hid (playQL_len l0).1
  generalize playQL l0 = L at *
  generalize playQE l0 = E at *
  generalize playQN l0 = N at *
  clear q0
  go_enter Try.func3, Try.ntmps3
  go_wp2_with fail
  refine C1.out.mono ?_
  rintro e w2 ⟨v2, rfl, ho2, hb2⟩
  have h2 := Lib.hid (h0.below hb2)
  have Ho2 := Lib.hid ho2
  clear ho2 C1
  go_wp2_with fail
  refine (C2.out _ h2.out).mono ?_
  rintro e w3 ⟨v3, rfl, ho3, hb3⟩
  have ho2 := Ho2.out.below hb3
  obtain ⟨m, hm⟩ : ∃ m, L.length = m := ⟨_, rfl⟩
  obtain ⟨A2, c2, rfl, hc2, hc2', r2⟩ := ho2.formN hm
  obtain ⟨A3, c3, rfl, -, -, r3⟩ := ho3.formN hm
  have CE := Lib.hid (EqualG_same A2 A3 m c2 c3 L w3 r2 r3 (by have := Hlen.out; omega))
  have hB := bthen hb2 hb3
  clear hm ho2 ho3 Ho2 C2 h2 r2 r3 hc2 hc2'
  go_wp2_with fail
  refine CE.out.mono ?_
  rintro e w4 ⟨rfl, hq⟩
  have hB4 := bthen hB (below_draws hq)
  clear CE hq
  go_wp2
  go_ret
  exact ⟨rfl, hB4⟩
def aQ : List Int := [1, 2, 1, 1, 1, 2, 2, 2, 2, 2, 2, 2, 1, 2, 2, 1, 1, 1, 2, 2, 2, 2]
def aR : List GotQ := [⟨1, 1, 2⟩, ⟨2, 2, 3⟩]
theorem aQ_play : playQE aQ = 0 ∧ playQN aQ = 2 ∧ playQL aQ = aR := by decide +kernel
set_option maxHeartbeats 1600000 in
theorem alive17_any (w : World) : Calls Try.prog 11 #[] w fun e w' => e = .returned (.bool true) ∧ Below w.heap.size w w' := by
  have C1 := Lib.hid (fun (W : World) (A : Option Addr) (h : Rd W 1 A 22 (aQ.map (Value.int .i64))) => Play_any A 22 22 aQ W h (by decide))
  rw [aQ_play.1, aQ_play.2.1, aQ_play.2.2] at C1
  go_enter Try.func11, Try.ntmps11
  go_wp2_with fail
  refine (C1.out _ _ (Rd.litAt (Value.int .i64) aQ _ rfl)).mono ?_
  rintro e w2 ⟨v2, rfl, ho2, hb2⟩
  have hB := below_new hb2
  obtain ⟨A2, c2, rfl, hc2, hc2', r2⟩ := ho2.formN (n := 2) rfl
  have CE := Lib.hid (EqualG_same A2 (some ⟨w2.heap.size, 0, none⟩) 2 c2 2 aR (w2.alloc (.cells #[.int .i64 1, .int .i64 1, .int .i64 2, .int .i64 2, .int .i64 2, .int .i64 3] 29)) (r2.alloc _) (Rd.litFlat gotK.len aR _ rfl) (by decide))
  clear ho2 C1 hb2 r2 hc2 hc2'
  go_wp2_with fail
  refine CE.out.mono ?_
  rintro e w4 ⟨rfl, hq⟩
  have hB4 := bthen hB (below_new (below_draws hq))
  clear CE hq
  go_wp2
  go_ret
  exact ⟨rfl, hB4⟩
theorem ownG_len {w : World} {base : Nat} {e : TypeId} {v : Value} {L : List GotQ} (h : OwG gotC 3 w base e v L) : ∃ A m c, L.length = m ∧ v = .slice A m c ∧ RdG gotC 3 w A m L ∧ m ≤ maxLen := by
  obtain ⟨A, c, e, h1, h2, h3⟩ := h.formN (n := L.length) rfl
  exact ⟨A, _, c, rfl, e, h3, by omega⟩
set_option maxHeartbeats 1600000 in
theorem NbwWhole_walk (A0 : Option Addr) (n0 c0 : Nat) (l0 : List Int) (w : World) (h0 : Rd w 1 A0 n0 (l0.map (Value.int .i64))) (q0 : ∀ x ∈ l0, (Lit.int .i64 x).wf = true) (k0 : n0 ≤ c0) (b0 : c0 * 8 ≤ 140737488351232) :
    Calls Try.prog 4 #[.slice A0 n0 c0] w fun e w' => e = .returned (.bool true) ∧ Below w.heap.size w w' := by
  have C0 := Lib.hid (alive17_any w)
  have C1 := Lib.hid (fun (W : World) (hW : Rd W 1 A0 n0 (l0.map (Value.int .i64))) => Play_any A0 n0 c0 l0 W hW (by omega))
  have hno := Lib.hid (fun h => playQ_no (l := l0) h)
  have hw := Lib.hid (whole_facts l0)
  generalize playQL l0 = L at *
  generalize playQE l0 = E at *
  generalize playQN l0 = N at *
  clear q0
  go_enter Try.func4, Try.ntmps4
  go_wp2_with fail
  refine C0.out.mono ?_
  rintro e w1 ⟨rfl, hb1⟩
  have h1 := h0.below hb1
  clear C0 h0
  go_wp2_with fail
  refine (C1.out _ h1).mono ?_
  rintro e w2 ⟨v2, rfl, ho2, hb2⟩
  have hB := bthen hb1 hb2
  obtain ⟨A2, m, c2, hm, rfl, r2, hmx⟩ := ownG_len ho2
  simp only [maxLen] at hmx
  clear ho2 C1 hb1 hb2 h1
  by_cases hE : E = 0
  · subst hE
    clear hno
    go_wp2
    go_loopw [27] (fun i wr => ∃ j : Nat, j ≤ m ∧ i = .int .i64 j ∧ Below w2.heap.size w2 wr) (fun i _ => m - (intOf i).toNat)
    case atStart => exact ⟨0, Nat.zero_le _, rfl, Below.refl _ _⟩
    case round =>
      obtain ⟨j, hj, rfl, hbl⟩ := hrel
      by_cases hlt : j < m
      · obtain ⟨ad, x, rfl, hx, m0, m1, m2⟩ := got_at (r2.below hbl) hlt
        obtain ⟨e1, e2⟩ := hw.out x (List.mem_of_getElem? hx)
        obtain ⟨xf, xs, xt⟩ := x
        simp only at m0 m1 m2 e1 e2
        subst e1
        have e2' : (xf : Int) ≤ N := by omega
        have hb' := hbl.size
        clear hx
        go_wp2
        go_roundw
        case rel => exact ⟨j + 1, by omega, by go_num, by repeat (first | (with_reducible exact Below.refl _ _) | (with_reducible assumption) | (with_reducible refine Below.setCell ?_ (by (try simp) <;> omega) _) | (with_reducible refine Below.alloc ?_ (by (try simp) <;> omega) _) | (with_reducible refine Below.drew ?_))⟩
        case measure => simp [intOf] <;> omega
      · have hB2 := bthen hB hbl
        go_wp2
        go_ret
        exact ⟨rfl, hB2⟩
  · obtain ⟨rfl, rfl⟩ := hno.out hE
    obtain rfl : 0 = m := hm
    clear hno hw
    go_wp2
    go_ret
    exact ⟨rfl, hB⟩
end Go.Proofs.Ytblnfffmgaiabaa
