/-
  Contracts of package evq: the channel's methods, for every state.
-/
import Derived.Test.YtlanmehbcpgoaaaEvqTypes
import Derived.Deep.QuietTactic
import Derived.BigQuiet
import Derived.Deep.CutBlock
import Derived.Deep.DeepCutAuto
namespace Go.Proofs.Ytlanmehbcpgoaaa
open Go.RowKit
set_option linter.unusedVariables false

theorem unack_any (b : Nat) (s : EvS) (v : Value) (hok : EvOk s) (hs : s.al.length ≤ 17592186044416) (w : World) (h : ChanV w b s v) :
    Calls Try.prog 19 #[.pointer (some ⟨b, 0, none⟩)] w fun e w' => e = .returned (.int .i64 ((s.al.length : Int) - (s.kn : Int))) ∧ ∃ q, w' = w.drewN q := by
  obtain ⟨m, hm⟩ : ∃ m, s.al.length = m := ⟨_, rfl⟩
  obtain ⟨A, c, rfl, hc, hcx, hr⟩ := h.own.formN hm
  have hkm : s.kn ≤ m := by have := hok.k1; have := hok.k3; omega
  have c0 := h.box.cell 0 rfl
  have c1 := h.box.cell 1 rfl
  rw [hm] at hs ⊢
  clear hm h hok hr hc hcx
  go_enter Try.func19, Try.ntmps19
  go_wp2
  go_quiet (fail)
  go_wp2
  go_ret
  exact ⟨rfl, _, rfl⟩
theorem untaken_any (b : Nat) (s : EvS) (v : Value) (hok : EvOk s) (hs : s.al.length ≤ 17592186044416) (w : World) (h : ChanV w b s v) :
    Calls Try.prog 20 #[.pointer (some ⟨b, 0, none⟩)] w fun e w' => e = .returned (.int .i64 ((s.cm : Int) - (s.tk : Int))) ∧ ∃ q, w' = w.drewN q := by
  have hcm : s.cm ≤ 17592186044416 := by have := hok.k3; omega
  have htk := hok.k4
  have c0 := h.box.cell 2 rfl
  have c1 := h.box.cell 3 rfl
  clear h hok
  go_enter Try.func20, Try.ntmps20
  go_wp2
  go_quiet (fail)
  go_wp2
  go_ret
  exact ⟨rfl, _, rfl⟩
theorem first_any (b : Nat) (s : EvS) (v : Value) (w : World) (h : ChanV w b s v) :
    Calls Try.prog 28 #[.pointer (some ⟨b, 0, none⟩)] w fun e w' => e = .returned (.bool (decide (s.kn < s.cm))) ∧ ∃ q, w' = w.drewN q := by
  have c0 := h.box.cell 2 rfl
  have c1 := h.box.cell 1 rfl
  clear h
  go_enter Try.func28, Try.ntmps28
  go_wp2
  go_quiet (fail)
  go_wp2
  go_ret
  exact ⟨ret_bool (by simp), _, rfl⟩
end Go.Proofs.Ytlanmehbcpgoaaa
