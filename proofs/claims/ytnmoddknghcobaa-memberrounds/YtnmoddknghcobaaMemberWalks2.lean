/-
  Contracts of package member: inOwnSlot, inSlotOfOther, for every input.
-/
import Derived.Test.YtnmoddknghcobaaMemberWalks
namespace Go.Proofs.Ytnmoddknghcobaa
open Go.RowKit
set_option linter.unusedVariables false

/-- What an own slot makes of a member that is there. -/
def ownM (k : Nat) (m : Mem) : Mem := if m.tk < m.ls then ⟨putB m.vw k false, 0, 0, true⟩ else ⟨m.vw, 0, 0, m.ou⟩
set_option maxHeartbeats 400000 in
theorem inOwnSlot_any (k : Nat) (hk : k < 16) (m : Mem) (hv : m.vw < 65536) (w : World) : Calls Try.prog 29 #[.int .i64 (k : Int), memV m] w fun e w' => e = .returned (memV (ownM k m)) ∧ Below w.heap.size w w' := by
  obtain ⟨vw, tk, ls, ou⟩ := m
  simp only at hv
  by_cases h : tk < ls
  · rw [show ownM k ⟨vw, tk, ls, ou⟩ = ⟨putB vw k false, 0, 0, true⟩ from if_pos h]
    have C := Lib.hid (fun (W : World) => bit_any k hk W)
    have H := Lib.hid (u16_andNot hv hk)
    generalize putB vw k false = vw' at *
    generalize 1 <<< k = b at *
    go_enter Try.func29, Try.ntmps29
    go_wp2
    go_region_with ((go_at_call 31; refine (C.out _).mono ?_; rintro e w' ⟨rfl, rfl⟩))
    all_goals go_wp2
    all_goals exact bodyPost_ret (v := .agg #[.int .u16 (vw' : Int), .int .i64 0, .int .i64 0, .bool true]) (by simp [results, Try.results29, go_sem, H.out]) rfl ⟨rfl, by repeat (first | exact Below.refl _ _ | assumption | refine Below.setCell ?_ (by (try simp) <;> omega) _ | refine Below.alloc ?_ (by (try simp) <;> omega) _ | refine Below.drew ?_)⟩
  · rw [show ownM k ⟨vw, tk, ls, ou⟩ = ⟨vw, 0, 0, ou⟩ from if_neg h]
    go_enter Try.func29, Try.ntmps29
    go_wp2
    exact bodyPost_ret (v := .agg #[.int .u16 (vw : Int), .int .i64 0, .int .i64 0, .bool ou]) (by simp [results, Try.results29, go_sem]) rfl ⟨rfl, by repeat (first | exact Below.refl _ _ | assumption | refine Below.setCell ?_ (by (try simp) <;> omega) _ | refine Below.alloc ?_ (by (try simp) <;> omega) _ | refine Below.drew ?_)⟩
/-- What another's slot makes of a member that is there. -/
def otherM (k : Nat) (m : Mem) (cm : Bool) (hv : Nat) : Mem :=
  if cm = true ∧ likeB m.vw hv k = true then ⟨putB m.vw k true, m.tk + 1, m.ls, m.ou⟩ else if cm = false ∧ hasB m.vw k = false then m else ⟨putB m.vw k false, m.tk, m.ls + 1, m.ou⟩
theorem like_zero (v u k : Nat) : putB (u ^^^ v) k false = 0 ↔ likeB v u k = true := by
  rw [like_iff]
  constructor
  · intro h i hi
    have := congrArg (fun x => Nat.testBit x i) h
    simp only [put_bit, if_neg (Ne.symm hi), Nat.testBit_xor, Nat.zero_testBit] at this
    cases hu : u.testBit i <;> cases hw : v.testBit i <;> simp_all
  · intro h
    refine Nat.eq_of_testBit_eq (fun i => ?_)
    rw [put_bit, Nat.zero_testBit]
    by_cases e : k = i
    · rw [if_pos e]
    · rw [if_neg e, Nat.testBit_xor, h i (fun c => e c.symm)]
      simp
set_option maxHeartbeats 800000 in
theorem inSlotOfOther_any (k : Nat) (hk : k < 16) (m : Mem) (cm : Bool) (hv : Nat) (h1 : m.vw < 65536) (h2 : hv < 65536) (h3 : 0 ≤ m.tk) (h4 : m.tk ≤ 400) (h5 : 0 ≤ m.ls) (h6 : m.ls ≤ 400) (w : World) :
    Calls Try.prog 30 #[memV m, hrdV ⟨k, cm, hv⟩] w fun e w' => e = .returned (memV (otherM k m cm hv)) ∧ Below w.heap.size w w' := by
  obtain ⟨vw, tk, ls, ou⟩ := m
  simp only at h1 h3 h4 h5 h6
  have C := Lib.hid (fun (W : World) => bit_any k hk W)
  have hb := one_lt16 hk
  have H1 := Lib.hid (u16_andNot h1 hk)
  have H2 : Hid (bits .or .u16 (vw : Int) ((1 <<< k : Nat) : Int) = ((putB vw k true : Nat) : Int)) := by show _ = _; rw [u16_or h1 hb, put_true]
  have H3 : Hid (bits .andNot .u16 (bits .xor .u16 (hv : Int) (vw : Int)) ((1 <<< k : Nat) : Int) = ((putB (hv ^^^ vw) k false : Nat) : Int)) := by show _ = _; rw [u16_xor h2 h1, u16_andNot (Nat.xor_lt_two_pow (n := 16) h2 h1) hk]
  have H4 : Hid (bits .and .u16 (vw : Int) ((1 <<< k : Nat) : Int) = ((vw &&& 1 <<< k : Nat) : Int)) := by show _ = _; rw [u16_and h1 hb]
  have H5 := Lib.hid (and_bit vw k)
  have H6 := Lib.hid (like_zero vw hv k)
  cases cm with
  | true =>
    by_cases hl : likeB vw hv k = true
    · rw [show otherM k ⟨vw, tk, ls, ou⟩ true hv = ⟨putB vw k true, tk + 1, ls, ou⟩ from if_pos ⟨rfl, hl⟩]
      have hz := H3.out
      rw [H6.out.2 hl] at hz
      have ho := H2.out
      clear hl H1 H2 H3 H4 H5 H6 hb
      generalize putB vw k true = v1 at *
      generalize 1 <<< k = b at *
      go_enter Try.func30, Try.ntmps30
      go_wp2_with fail
      refine (C.out _).mono ?_
      rintro e w1 ⟨rfl, rfl⟩
      go_wp2
      exact bodyPost_ret (v := .agg #[.int .u16 (v1 : Int), .int .i64 (tk + 1), .int .i64 ls, .bool ou]) (by simp [results, Try.results30, go_sem]) rfl ⟨rfl, by repeat (first | exact Below.refl _ _ | assumption | refine Below.setCell ?_ (by (try simp) <;> omega) _ | refine Below.alloc ?_ (by (try simp) <;> omega) _ | refine Below.drew ?_)⟩
    · rw [show otherM k ⟨vw, tk, ls, ou⟩ true hv = ⟨putB vw k false, tk, ls + 1, ou⟩ by unfold otherM; rw [if_neg (fun g => hl g.2), if_neg (fun g => by cases g.1)]]
      have hz := H3.out
      have hq : ((putB (hv ^^^ vw) k false : Nat) : Int) ≠ 0 := fun g => hl (H6.out.1 (by omega))
      have ho := H1.out
      have hq2 : (((putB (hv ^^^ vw) k false : Nat) : Int) == 0) = false := by simpa using hq
      clear hl H1 H2 H3 H4 H5 H6 hb hq
      generalize putB (hv ^^^ vw) k false = q at *
      generalize putB vw k false = v1 at *
      generalize 1 <<< k = b at *
      go_enter Try.func30, Try.ntmps30
      go_wp2_with fail
      refine (C.out _).mono ?_
      rintro e w1 ⟨rfl, rfl⟩
      go_wp2
      exact bodyPost_ret (v := .agg #[.int .u16 (v1 : Int), .int .i64 tk, .int .i64 (ls + 1), .bool ou]) (by simp [results, Try.results30, go_sem]) rfl ⟨rfl, by repeat (first | exact Below.refl _ _ | assumption | refine Below.setCell ?_ (by (try simp) <;> omega) _ | refine Below.alloc ?_ (by (try simp) <;> omega) _ | refine Below.drew ?_)⟩
  | false =>
    by_cases hl : hasB vw k = true
    · rw [show otherM k ⟨vw, tk, ls, ou⟩ false hv = ⟨putB vw k false, tk, ls + 1, ou⟩ by unfold otherM; rw [if_neg (fun g => by cases g.1), if_neg (fun g => by have := g.2; simp only at this; rw [hl] at this; cases this)]]
      have ha := H4.out
      have hq : ((vw &&& 1 <<< k : Nat) : Int) ≠ 0 := fun g => by
        have := H5.out.1 (by omega)
        rw [hl] at this; cases this
      have hq2 : (((vw &&& 1 <<< k : Nat) : Int) != 0) = true := by simpa using hq
      have ho := H1.out
      clear hl H1 H2 H3 H4 H5 H6 hb hq
      generalize vw &&& 1 <<< k = q at *
      generalize putB vw k false = v1 at *
      generalize 1 <<< k = b at *
      go_enter Try.func30, Try.ntmps30
      go_wp2_with fail
      refine (C.out _).mono ?_
      rintro e w1 ⟨rfl, rfl⟩
      go_wp2
      exact bodyPost_ret (v := .agg #[.int .u16 (v1 : Int), .int .i64 tk, .int .i64 (ls + 1), .bool ou]) (by simp [results, Try.results30, go_sem]) rfl ⟨rfl, by repeat (first | exact Below.refl _ _ | assumption | refine Below.setCell ?_ (by (try simp) <;> omega) _ | refine Below.alloc ?_ (by (try simp) <;> omega) _ | refine Below.drew ?_)⟩
    · have hl' : hasB vw k = false := by simpa using hl
      rw [show otherM k ⟨vw, tk, ls, ou⟩ false hv = ⟨vw, tk, ls, ou⟩ by unfold otherM; rw [if_neg (fun g => by cases g.1), if_pos ⟨rfl, hl'⟩]]
      have ha := H4.out
      rw [H5.out.2 hl'] at ha
      clear hl hl' H1 H2 H3 H4 H5 H6 hb
      generalize 1 <<< k = b at *
      go_enter Try.func30, Try.ntmps30
      go_wp2_with fail
      refine (C.out _).mono ?_
      rintro e w1 ⟨rfl, rfl⟩
      go_wp2
      exact bodyPost_ret (v := .agg #[.int .u16 (vw : Int), .int .i64 tk, .int .i64 ls, .bool ou]) (by simp [results, Try.results30, go_sem]) rfl ⟨rfl, by repeat (first | exact Below.refl _ _ | assumption | refine Below.setCell ?_ (by (try simp) <;> omega) _ | refine Below.alloc ?_ (by (try simp) <;> omega) _ | refine Below.drew ?_)⟩
end Go.Proofs.Ytnmoddknghcobaa
