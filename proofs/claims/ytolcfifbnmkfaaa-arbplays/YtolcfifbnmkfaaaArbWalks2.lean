/-
  Contracts of the functions that arb.Play makes: which node sends a 0, and which node stops. No statement of the seat is here.
-/
import Derived.Test.YtolcfifbnmkfaaaArbWalks
namespace Go.Proofs.Ytolcfifbnmkfaaa
open Go.RowKit
set_option linter.unusedVariables false

theorem enter1 : ∀ args w, (callFunc 28 args).run Try.prog w = .ok (.enter 28 args) w := enters_of Try.func28 (by kernel_rfl) rfl
theorem enter2 : ∀ args w, (callFunc 31 args).run Try.prog w = .ok (.enter 31 args) w := enters_of Try.func31 (by kernel_rfl) rfl
set_option maxHeartbeats 800000 in
theorem Dom_any (b1 b2 : Nat) (A : Option Addr) (n c p k : Nat) (l : List Int) (x : Int) (w : World) (hb1 : w.cell? ⟨b1, 0, none⟩ = some (.slice A n c)) (hb2 : w.cell? ⟨b2, 0, none⟩ = some (.int .i64 p)) (h : Rd w 1 A n (l.map (Value.int .i64)))
    (hx : l[k]? = some x) (h0 : 0 ≤ x) (h1 : x ≤ 2047) (hp : p ≤ 10) (hn : n ≤ 400) :
    Calls Try.prog 28 #[.int .i64 k, .pointer (some ⟨b1, 0, none⟩), .pointer (some ⟨b2, 0, none⟩)] w fun e w' => e = .returned (.bool (x / 2 ^ p % 2 == 0)) ∧ ∃ q, w' = w.drewN q := by
  have hk : k < n := by have := (List.getElem?_eq_some_iff.1 hx).1; rw [h.lenMap] at this; exact this
  obtain ⟨ad, x', rfl, hx', hc⟩ := h.atMap hk
  obtain rfl : x = x' := Option.some.inj (hx.symm.trans hx')
  have hp1 : (1 : Int) ≤ 2 ^ p := pow_le_pow (a := 0) (Nat.zero_le _)
  have h2 : 0 ≤ x / 2 ^ p := Int.ediv_nonneg h0 (by omega)
  have h3 : x / 2 ^ p ≤ x := Int.ediv_le_self _ h0
  have ha := i64_and_one (x / 2 ^ p) h2 (by omega)
  have hkz : (k : Int) < (n : Int) := by omega
  have hpz : (p : Int) < 64 := by omega
  clear hx hx' hp1 h3 h
  go_enter Try.func28, Try.ntmps28
  go_wp2
  go_quiet (fail)
  go_wp2
  go_ret
  exact ⟨rfl, nq, rfl⟩
set_option maxHeartbeats 800000 in
theorem Stop_any (b1 b2 b3 b4 : Nat) (A : Option Addr) (n c p k : Nat) (l : List Int) (x : Int) (bit : Bool) (w : World) (hb3 : w.cell? ⟨b3, 0, none⟩ = some (.func (.func 28) #[] #[.pointer (some ⟨b1, 0, none⟩), .pointer (some ⟨b2, 0, none⟩)])) (hb4 : w.cell? ⟨b4, 0, none⟩ = some (.bool bit))
    (hb1 : w.cell? ⟨b1, 0, none⟩ = some (.slice A n c)) (hb2 : w.cell? ⟨b2, 0, none⟩ = some (.int .i64 p)) (h : Rd w 1 A n (l.map (Value.int .i64)))
    (hx : l[k]? = some x) (h0 : 0 ≤ x) (h1 : x ≤ 2047) (hp : p ≤ 10) (hn : n ≤ 400) :
    Calls Try.prog 31 #[.int .i64 k, .pointer (some ⟨b3, 0, none⟩), .pointer (some ⟨b4, 0, none⟩)] w fun e w' => e = .returned (.bool ((x / 2 ^ p % 2 == 0) == bit)) ∧ ∃ q, w' = w.drewN q := by
  have hD : ∀ q, Calls Try.prog 28 #[.int .i64 k, .pointer (some ⟨b1, 0, none⟩), .pointer (some ⟨b2, 0, none⟩)] (w.drewN q) fun e w' => e = .returned (.bool (x / 2 ^ p % 2 == 0)) ∧ ∃ m, w' = (w.drewN q).drewN m :=
    fun q => Dom_any b1 b2 A n c p k l x (w.drewN q) hb1 hb2 h hx h0 h1 hp hn
  have e1 := enter1
  clear hb1 hb2 h hx
  generalize (x / 2 ^ p % 2 == 0) = d at *
  go_enter Try.func31, Try.ntmps31
  go_wp2
  go_quiet (first | (go_at_call 28; refine Calls.quiet_of (hD _)))
  go_wp2
  go_ret
  exact ⟨rfl, _, rfl⟩
end Go.Proofs.Ytolcfifbnmkfaaa
