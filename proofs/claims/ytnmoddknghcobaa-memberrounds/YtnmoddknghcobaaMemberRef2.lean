/-
  Contract of the reference's PStep, for every input.
-/
import Derived.Test.YtnmoddknghcobaaMemberRef
import Derived.Laws.EntriesVeiled
import Derived.Shelf.Abstract
namespace Go.Proofs.Ytnmoddknghcobaa
open Go.RowKit
set_option linter.unusedVariables false

theorem enterHas : ∀ args w, (callFunc 24 args).run Try.prog w = .ok (.enter 24 args) w := enters_of Try.func24 (by kernel_rfl) rfl
theorem enterSet : ∀ args w, (callFunc 25 args).run Try.prog w = .ok (.enter 25 args) w := enters_of Try.func25 (by kernel_rfl) rfl
theorem grownBy_drew {w w' : World} {row : Option Nat} (h : w.grownBy w' row) : w.grownBy w'.drew row := ⟨h.os, h.tape, h.output, h.size, h.block⟩
theorem not_eq_not {a b : Bool} (h : ¬ a = b) : a = !b := by cases a <;> cases b <;> simp_all
abbrev fnHas : Value := .func (.func 24) #[] #[]
set_option maxHeartbeats 800000 in
theorem PStepF2_any (k : Nat) (hk : k < 16) (is : Bool) (bT bM : Nat) (m : Mem) (hv : m.vw < 65536) (w : World) (hT : w.cell? ⟨bT, 0, none⟩ = some fnHas) (hM : Box w bM 24 (memC m)) :
    Calls Try.prog 25 #[.int .i64 (k : Int), .bool is, .pointer (some ⟨bT, 0, none⟩), .pointer (some ⟨bM, 0, none⟩)] w fun e w' => e = .returned (.tuple #[]) ∧ Box w' bM 24 (memC ⟨putB m.vw k is, m.tk, m.ls, m.ou⟩) ∧ w.grownBy w' (some bM) := by
  obtain ⟨vw, tk, ls, ou⟩ := m
  simp only at hv
  have C := Lib.hid (fun (W : World) => PStepF1_any vw k hv hk W)
  have g0 := hM.cell 0 rfl
  have f0 := hM.free 0
  have hlw := hM.lt
  have hs := shl16 hk
  rw [Int.one_mul] at hs
  have hx := u16_xor hv (one_lt16 hk)
  by_cases h : hasB vw k = is
  · have e : putB vw k is = vw := put_same h
    rw [h] at C
    rw [e]
    have hM' := Lib.hid hM
    clear e h hs hx hM
    cases is
    all_goals
      go_enter Try.func25, Try.ntmps25
      go_wp2_with fail
      refine (C.out _).mono ?_
      rintro e w' ⟨rfl, hw⟩
      obtain rfl := hw.symm
      go_wp2
      go_end0
      exact ⟨rfl, hM'.out, World.grownBy.refl _ _⟩
  · have hex : bits .xor .u16 (vw : Int) ((1 <<< k : Nat) : Int) = (putB vw k is : Int) := by
      rw [hx]; unfold putB; rw [if_neg (show ¬ vw.testBit k = is from h)]
    have hy : hasB vw k = !is := not_eq_not h
    rw [hy] at C
    clear hy
    generalize putB vw k is = v1 at *
    generalize 1 <<< k = b at *
    have hM' := Lib.hid (hM.set 0 (.int .u16 (v1 : Int)))
    clear h hx hM
    cases is
    all_goals
      go_enter Try.func25, Try.ntmps25
      go_wp2_with fail
      refine (C.out _).mono ?_
      rintro e w' ⟨rfl, hw⟩
      obtain rfl := hw.symm
      go_wp2
      go_region
      go_wp2
      go_end0
      exact ⟨rfl, hM'.out, grownBy_drew (grownBy_setCell _ ⟨bM, 0, none⟩ _)⟩
end Go.Proofs.Ytnmoddknghcobaa
