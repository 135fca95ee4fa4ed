/-
  Contracts of package member: next, All, Step, Play, for every input.
-/
import Derived.Test.YtnmoddknghcobaaMemberWalks2
namespace Go.Proofs.Ytnmoddknghcobaa
open Go.RowKit
set_option linter.unusedVariables false

theorem stepG_eq {own k : Nat} {m : Mem} {cm : Bool} {hv : Nat} : stepG own m k cm hv = if m.ou then m else if k = own then ownM own m else otherM k m cm hv := by
  unfold stepG ownM otherM
  obtain ⟨vw, tk, ls, ou⟩ := m
  cases ou
  · by_cases h1 : k = own
    · simp [h1]
    · by_cases h2 : cm = false ∧ hasB vw k = false
      · simp [h1, h2]
      · by_cases h3 : cm = true ∧ likeB vw hv k = true
        · simp [h1, h3]
        · simp [h1, h2, h3]
  · simp
theorem bcell {W w1 : World} (hb : Below W.heap.size W w1) : (∀ b o, b < W.heap.size → w1.cell? ⟨b, o, none⟩ = W.cell? ⟨b, o, none⟩) ∧ (∀ b o, b < W.heap.size → w1.frozen? ⟨b, o, none⟩ = W.frozen? ⟨b, o, none⟩) :=
  ⟨fun b o h => hb.cell (p := ⟨b, o, none⟩) h, fun b o h => hb.frozen (p := ⟨b, o, none⟩) h⟩
set_option maxHeartbeats 800000 in
theorem next_any (own : Nat) (ho : own < 16) (m : Mem) (k : Nat) (hk : k < 16) (cm : Bool) (hv : Nat) (h1 : m.vw < 65536) (h2 : hv < 65536) (h3 : 0 ≤ m.tk) (h4 : m.tk ≤ 400) (h5 : 0 ≤ m.ls) (h6 : m.ls ≤ 400) (w : World) :
    Calls Try.prog 22 #[.int .i64 (own : Int), memV m, hrdV ⟨k, cm, hv⟩] w fun e w' => e = .returned (memV (stepG own m k cm hv)) ∧ Below w.heap.size w w' := by
  have C1 := Lib.hid (fun (W : World) => inOwnSlot_any own ho m h1 W)
  have C2 := Lib.hid (fun (W : World) => inSlotOfOther_any k hk m cm hv h1 h2 h3 h4 h5 h6 W)
  have e := stepG_eq (own := own) (k := k) (m := m) (cm := cm) (hv := hv)
  rw [e]
  clear e
  obtain ⟨vw, tk, ls, ou⟩ := m
  cases ou with
  | true =>
    rw [if_pos rfl]
    go_enter Try.func22, Try.ntmps22
    go_wp2
    exact bodyPost_ret (v := .agg #[.int .u16 (vw : Int), .int .i64 tk, .int .i64 ls, .bool true]) (by simp [results, Try.results22, go_sem]) rfl ⟨rfl, by repeat (first | exact Below.refl _ _ | assumption | refine Below.setCell ?_ (by (try simp) <;> omega) _ | refine Below.alloc ?_ (by (try simp) <;> omega) _ | refine Below.drew ?_)⟩
  | false =>
    rw [if_neg (by simp)]
    by_cases hko : k = own
    · rw [if_pos hko]
      subst hko
      generalize ownM k ⟨vw, tk, ls, false⟩ = r at *
      obtain ⟨rv, rt, rl, ro⟩ := r
      go_enter Try.func22, Try.ntmps22
      go_wp2_with fail
      refine (C1.out _).mono ?_
      rintro e w1 ⟨rfl, hb⟩
      obtain ⟨hc, hf⟩ := bcell hb
      have hB := below_new (below_new (below_new hb))
      clear C1 C2
      go_wp2
      exact bodyPost_ret (v := .agg #[.int .u16 (rv : Int), .int .i64 rt, .int .i64 rl, .bool ro]) (by simp [results, Try.results22, go_sem, hc]) rfl ⟨rfl, by repeat (first | exact Below.refl _ _ | assumption | refine Below.setCell ?_ (by (try simp) <;> omega) _ | refine Below.alloc ?_ (by (try simp) <;> omega) _ | refine Below.drew ?_)⟩
    · rw [if_neg hko]
      have hne : ((k : Int) == (own : Int)) = false := by simp; omega
      generalize otherM k ⟨vw, tk, ls, false⟩ cm hv = r at *
      obtain ⟨rv, rt, rl, ro⟩ := r
      go_enter Try.func22, Try.ntmps22
      go_wp2_with fail
      refine (C2.out _).mono ?_
      rintro e w1 ⟨rfl, hb⟩
      obtain ⟨hc, hf⟩ := bcell hb
      have hB := below_new (below_new (below_new hb))
      clear C1 C2
      go_wp2
      exact bodyPost_ret (v := .agg #[.int .u16 (rv : Int), .int .i64 rt, .int .i64 rl, .bool ro]) (by simp [results, Try.results22, go_sem, hc]) rfl ⟨rfl, by repeat (first | exact Below.refl _ _ | assumption | refine Below.setCell ?_ (by (try simp) <;> omega) _ | refine Below.alloc ?_ (by (try simp) <;> omega) _ | refine Below.drew ?_)⟩
/-- A member and an error as a result. -/
def GivesMem (m : Mem) (x : Int) (w : World) (e : Ending) (w' : World) : Prop := e = .returned (.tuple #[memV m, .int .i64 x]) ∧ Below w.heap.size w w'
theorem full_of {n : Nat} (h1 : 1 ≤ n) (h2 : n ≤ 16) : (65535 : Int) / 2 ^ (16 - n) = (fullV n : Int) := by
  have : ∀ n < 17, n = 0 ∨ (65535 : Int) / 2 ^ (16 - n) = (fullV n : Int) := by decide +kernel
  exact (this n (by omega)).resolve_left (by omega)
theorem allE_no {own many : Int} (h : many < 1 ∨ 16 < many ∨ own < 0 ∨ many ≤ own) : allE own many = 2 ∧ allM own many = zeroM := by
  have e : allE own many = 2 := if_pos h
  exact ⟨e, by rw [allM, e]; rfl⟩
theorem allE_ok {own many : Int} (h : ¬ (many < 1 ∨ 16 < many ∨ own < 0 ∨ many ≤ own)) : allE own many = 0 ∧ allM own many = startM many.toNat := by
  have e : allE own many = 0 := if_neg h
  exact ⟨e, by rw [allM, e]; rfl⟩
set_option maxHeartbeats 800000 in
theorem All_any (own many : Int) (w : World) : Calls Try.prog 12 #[.int .i64 own, .int .i64 many] w (GivesMem (allM own many) (allE own many) w) := by
  by_cases h : many < 1 ∨ 16 < many ∨ own < 0 ∨ many ≤ own
  · rw [(allE_no h).1, (allE_no h).2]
    have hc : many < 1 ∨ (1 ≤ many ∧ 16 < many) ∨ (1 ≤ many ∧ many ≤ 16 ∧ own < 0) ∨ (1 ≤ many ∧ many ≤ 16 ∧ 0 ≤ own ∧ many ≤ own) := by omega
    clear h
    rcases hc with h1 | ⟨h1, h2⟩ | ⟨h1, h2, h3⟩ | ⟨h1, h2, h3, h4⟩
    all_goals
      go_enter Try.func12, Try.ntmps12
      go_wp2
      exact bodyPost_ret (v := .tuple #[memV zeroM, .int .i64 2]) (by simp [results, Try.results12, go_sem, memV, zeroM]) rfl ⟨rfl, by repeat (first | exact Below.refl _ _ | assumption | refine Below.setCell ?_ (by (try simp) <;> omega) _ | refine Below.alloc ?_ (by (try simp) <;> omega) _ | refine Below.drew ?_)⟩
  · rw [(allE_ok h).1, (allE_ok h).2]
    obtain ⟨n, rfl⟩ : ∃ n : Nat, many = n := ⟨many.toNat, by omega⟩
    rw [Int.toNat_natCast]
    have H := Lib.hid (full_of (n := n) (by omega) (by omega))
    have h1 : ¬ (n : Int) < 1 := by omega
    have h2 : ¬ 16 < (n : Int) := by omega
    have h3 : ¬ own < 0 := by omega
    have h4 : ¬ (n : Int) ≤ own := by omega
    clear h
    go_enter Try.func12, Try.ntmps12
    go_wp2
    exact bodyPost_ret (v := .tuple #[.agg #[.int .u16 (fullV n : Int), .int .i64 (n : Int), .int .i64 0, .bool false], .int .i64 0]) (by simp [results, Try.results12, go_sem, H.out]) rfl ⟨rfl, by repeat (first | exact Below.refl _ _ | assumption | refine Below.setCell ?_ (by (try simp) <;> omega) _ | refine Below.alloc ?_ (by (try simp) <;> omega) _ | refine Below.drew ?_)⟩
end Go.Proofs.Ytnmoddknghcobaa
