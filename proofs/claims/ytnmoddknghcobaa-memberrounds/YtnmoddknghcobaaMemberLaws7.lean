/-
  The law MemberRounds.
-/
import Derived.Test.YtnmoddknghcobaaMemberRef5
namespace Go.Proofs.Ytnmoddknghcobaa
open Go.RowKit
set_option linter.unusedVariables false

set_option maxHeartbeats 1600000 in
theorem EqualM_same (A B : Option Addr) (n c d : Nat) (L : List Mem) (w : World) (h : RdG memC 4 w A n L) (h' : RdG memC 4 w B n L) (hn : n ≤ 4611686018427387904) :
    Calls Try.prog 18 #[.slice A n c, .slice B n d] w fun e w' => e = .returned (.bool true) ∧ ∃ q, w' = w.drewN q := by
  go_enter Try.func18, Try.ntmps18
  go_wp2
  go_loopw [13] (fun i wr => ∃ k : Nat, k ≤ n ∧ i = .int .i64 k ∧ ∃ q, wr = w.drewN q) (fun i _ => n - (intOf i).toNat)
  case atStart => exact ⟨0, Nat.zero_le _, rfl, 0, rfl⟩
  case round =>
    obtain ⟨k, hk, rfl, q, rfl⟩ := hrel
    by_cases hlt : k < n
    · obtain ⟨ad, x, rfl, hx, m0, m1, m2, m3⟩ := mem_at h hlt
      obtain ⟨ad', x', rfl, hx', m0', m1', m2', m3'⟩ := mem_at h' hlt
      rw [hx] at hx'
      injection hx' with hx'
      subst hx'
      obtain ⟨xv, xt, xl, xo⟩ := x
      simp only at m0 m1 m2 m3 m0' m1' m2' m3'
      clear hx
      go_wp2
      go_quiet (fail)
      go_wp2
      go_roundw
      case rel => exact ⟨k + 1, by omega, by go_num, _, rfl⟩
      case measure => simp [intOf] <;> omega
    · obtain rfl : k = n := by omega
      go_wp2
      go_ret
      exact ⟨rfl, _, rfl⟩
theorem u16s_nat (l : List Int) (h : ∀ x ∈ l, (Lit.int .u16 x).wf = true) : ∃ hs : List Nat, l.map (Value.int .u16) = hs.map u16V ∧ ∀ x ∈ hs, x < 65536 := by
  refine ⟨l.map Int.toNat, ?_, ?_⟩
  · rw [List.map_map]
    refine List.map_congr_left fun x hx => ?_
    have := wf_u16 (h x hx)
    show Value.int .u16 x = .int .u16 ((x.toNat : Nat) : Int)
    rw [Int.toNat_of_nonneg this.1]
  · intro x hx
    obtain ⟨y, hy, rfl⟩ := List.mem_map.1 hx
    have := wf_u16 (h y hy)
    omega
set_option maxHeartbeats 1600000 in
theorem MemberRounds_walk (A : Option Addr) (n c : Nat) (l : List Int) (rounds : Int) (w : World) (h : Rd w 1 A n (l.map (Value.int .u16))) (hl : ∀ x ∈ l, (Lit.int .u16 x).wf = true) (hk : n ≤ c) (hb : c * 2 ≤ 140737488351232) (w1 : (Lit.int .i64 rounds).wf = true) :
    Calls Try.prog 4 #[.slice A n c, .int .i64 rounds] w fun e w' => e = .returned (.bool true) ∧ Below w.heap.size w w' := by
  obtain ⟨hs, e, h16⟩ := u16s_nat l hl
  rw [e] at h
  have C1 := Lib.hid (Rounds_any A n c hs rounds w h h16 (by omega))
  have C2 := Lib.hid (fun (W : World) (hW : Rd W 1 A n (hs.map u16V)) => PRounds_any A n c hs rounds W hW h16 (by omega))
  have hlen : (roundsL hs rounds).length ≤ 16 := by
    unfold roundsL
    split
    · rename_i g
      unfold roundsE at g
      split at g
      · cases g
      · unfold roundsR; rw [groupM_length]; omega
    · simp
  have Hlen := Lib.hid hlen
  clear e hl h16 hlen
  generalize roundsL hs rounds = L at *
  generalize roundsE n rounds = E at *
  go_enter Try.func4, Try.ntmps4
  go_wp2_with fail
  refine C1.out.mono ?_
  rintro e w2 ⟨v2, rfl, ho2, hb2⟩
  have h2 := Lib.hid (h.below hb2)
  have Ho2 := Lib.hid ho2
  clear ho2 C1
  go_wp2_with fail
  refine (C2.out _ h2.out).mono ?_
  rintro e w3 ⟨v3, rfl, ho3, hb3⟩
  have ho2 := Ho2.out.below hb3
  obtain ⟨m, hm⟩ : ∃ m, L.length = m := ⟨_, rfl⟩
  have hm16 : m ≤ 16 := by rw [← hm]; exact Hlen.out
  obtain ⟨A2, c2, rfl, -, -, r2⟩ := ho2.formN hm
  obtain ⟨A3, c3, rfl, -, -, r3⟩ := ho3.formN hm
  have CE := Lib.hid (EqualM_same A2 A3 m c2 c3 L w3 r2 r3 (by omega))
  have hB := bthen hb2 hb3
  clear hm ho2 ho3 Ho2 C2 h2 r2 r3
  go_wp2_with fail
  refine CE.out.mono ?_
  rintro e w4 ⟨rfl, hq⟩
  have hB4 := bthen hB (below_draws hq)
  clear CE hq
  go_wp2
  go_ret
  exact ⟨rfl, hB4⟩
end Go.Proofs.Ytnmoddknghcobaa
