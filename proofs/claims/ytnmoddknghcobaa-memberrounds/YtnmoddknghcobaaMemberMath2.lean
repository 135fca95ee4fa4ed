/-
  The mathematics of package member: Play; who hears the same sees the same; who is out stays so. No statement of the seat is here.
-/
import Derived.Test.YtnmoddknghcobaaMemberMath
namespace Go.Proofs.Ytnmoddknghcobaa
open Go.RowKit
set_option linter.unusedVariables false

structure Hrd where
  nd : Int
  cm : Bool
  hv : Nat

def stepHE (own : Int) (m : Mem) (h : Hrd) : Int := stepE own m h.nd h.cm h.hv
def stepHM (own : Int) (m : Mem) (h : Hrd) : Mem := stepM own m h.nd h.cm h.hv
/-- The steps of l one after another, until an error. -/
def playE (own : Int) : Mem → List Hrd → Int
  | _, [] => 0
  | m, h :: t => if stepHE own m h = 0 then playE own (stepHM own m h) t else stepHE own m h
def playM (own : Int) : Mem → List Hrd → Mem
  | m, [] => m
  | m, h :: t => if stepHE own m h = 0 then playM own (stepHM own m h) t else zeroM
def allE (own many : Int) : Int := if many < 1 ∨ 16 < many ∨ own < 0 ∨ many ≤ own then 2 else 0
def allM (own many : Int) : Mem := if allE own many = 0 then startM many.toNat else zeroM
def playAE (own many : Int) (l : List Hrd) : Int := if allE own many = 0 then playE own (startM many.toNat) l else 2
def playAM (own many : Int) (l : List Hrd) : Mem := if allE own many = 0 then playM own (startM many.toNat) l else zeroM
theorem play_snoc (own : Int) (x : Hrd) : ∀ (l : List Hrd) (m : Mem), (playE own m l = 0 → (playE own m (l ++ [x]) = stepHE own (playM own m l) x ∧ (stepHE own (playM own m l) x = 0 → playM own m (l ++ [x]) = stepHM own (playM own m l) x) ∧ (¬ stepHE own (playM own m l) x = 0 → playM own m (l ++ [x]) = zeroM)))
  | [], m, _ => by
    refine ⟨?_, fun h => ?_, fun h => ?_⟩
    · show (if stepHE own m x = 0 then (0 : Int) else stepHE own m x) = stepHE own m x
      split
      · rename_i h; exact h.symm
      · rfl
    · exact if_pos h
    · exact if_neg h
  | y :: t, m, h => by
    by_cases g : stepHE own m y = 0
    · have e1 : playE own m (y :: t) = playE own (stepHM own m y) t := if_pos g
      have e2 : playM own m (y :: t) = playM own (stepHM own m y) t := if_pos g
      have e3 : playE own m (y :: t ++ [x]) = playE own (stepHM own m y) (t ++ [x]) := if_pos g
      have e4 : playM own m (y :: t ++ [x]) = playM own (stepHM own m y) (t ++ [x]) := if_pos g
      rw [e1] at h
      rw [e2, e3, e4]
      exact play_snoc own x t _ h
    · have e1 : playE own m (y :: t) = stepHE own m y := if_neg g
      rw [e1] at h
      exact absurd h g
/-- Behind an error nothing more is asked. -/
theorem play_stop (own : Int) (t : List Hrd) : ∀ (l : List Hrd) (m : Mem), ¬ playE own m l = 0 → playE own m (l ++ t) = playE own m l ∧ playM own m (l ++ t) = zeroM
  | [], m, h => absurd rfl h
  | y :: r, m, h => by
    by_cases g : stepHE own m y = 0
    · have e1 : playE own m (y :: r) = playE own (stepHM own m y) r := if_pos g
      have e3 : playE own m (y :: r ++ t) = playE own (stepHM own m y) (r ++ t) := if_pos g
      have e4 : playM own m (y :: r ++ t) = playM own (stepHM own m y) (r ++ t) := if_pos g
      rw [e1] at h ⊢
      rw [e3, e4]
      exact play_stop own t r _ h
    · have e1 : playE own m (y :: r) = stepHE own m y := if_neg g
      have e3 : playE own m (y :: r ++ t) = stepHE own m y := if_neg g
      have e4 : playM own m (y :: r ++ t) = zeroM := if_neg g
      exact ⟨by rw [e3, e1], e4⟩
theorem playM_no (own : Int) : ∀ (l : List Hrd) (m : Mem), ¬ playE own m l = 0 → playM own m l = zeroM
  | l, m, h => by have := (play_stop own [] l m h).2; rwa [List.append_nil] at this

/-! the same for both -/
def Both (m : Mem) : Prop := hasB m.vw 0 = true ∧ hasB m.vw 1 = true ∧ m.ou = false ∧ 0 ≤ m.tk ∧ m.tk ≤ 400 ∧ 0 ≤ m.ls ∧ m.ls ≤ 400
theorem Both.valid {m : Mem} (h : Both m) : Valid 0 m ∧ Valid 1 m := by
  obtain ⟨h1, h2, h3, h4, h5, h6, h7⟩ := h
  exact ⟨⟨by decide, by decide, h4, h5, h6, h7, by rw [h3]; exact h1⟩, ⟨by decide, by decide, h4, h5, h6, h7, by rw [h3]; exact h2⟩⟩
theorem both_step {m : Mem} {h : Hrd} (hb : Both m) (hn : 1 < h.nd) : stepHE 0 m h = stepHE 1 m h ∧ stepHM 0 m h = stepHM 1 m h ∧ (stepHE 0 m h = 0 → Both (stepHM 0 m h)) := by
  obtain ⟨v0, v1⟩ := hb.valid
  have hg : stepG 0 m h.nd.toNat h.cm h.hv = stepG 1 m h.nd.toNat h.cm h.hv := by
    unfold stepG
    rw [if_neg (show ¬ h.nd.toNat = 0 by omega), if_neg (show ¬ h.nd.toNat = 1 by omega)]
  have he : stepHE 0 m h = stepHE 1 m h := by
    unfold stepHE stepE
    rw [if_neg (show ¬ ¬ Valid 0 m from fun c => c v0), if_neg (show ¬ ¬ Valid 1 m from fun c => c v1), show Int.toNat 0 = 0 from rfl, show Int.toNat 1 = 1 from rfl, hg]
  refine ⟨he, ?_, fun h0 => ?_⟩
  · show (if stepHE 0 m h = 0 then stepG 0 m h.nd.toNat h.cm h.hv else zeroM) = (if stepHE 1 m h = 0 then stepG 1 m h.nd.toNat h.cm h.hv else zeroM)
    rw [he, hg]
  · obtain ⟨_, h2, h3⟩ := step_0.1 h0
    have e : stepHM 0 m h = stepG 0 m h.nd.toNat h.cm h.hv := if_pos h0
    rw [e]
    change ¬ (400 < (stepG 0 m h.nd.toNat h.cm h.hv).tk ∨ 400 < (stepG 0 m h.nd.toNat h.cm h.hv).ls) at h3
    obtain ⟨b1, b2, b3, b4, b5, b6, b7⟩ := hb
    have c := step_counts (own := 0) (m := m) (node := h.nd.toNat) (came := h.cm) (hv := h.hv) b4 b6
    have ho : (stepG 0 m h.nd.toNat h.cm h.hv).ou = false ∧ hasB (stepG 0 m h.nd.toNat h.cm h.hv).vw 1 = true := by
      unfold stepG
      rw [if_neg (by simp [b3]), if_neg (show ¬ h.nd.toNat = 0 by omega)]
      split
      · exact ⟨b3, b2⟩
      · split
        · exact ⟨rfl, by simp only [hasB, put_bit]; rw [if_neg (by omega)]; exact b2⟩
        · exact ⟨rfl, by simp only [hasB, put_bit]; rw [if_neg (by omega)]; exact b2⟩
    have hv := step_valid (own := 0) (m := m) (node := h.nd.toNat) (came := h.cm) (hv := h.hv) (by rw [b3]; exact b1)
    rw [ho.1] at hv
    exact ⟨hv, ho.2, ho.1, c.1, by omega, c.2.1, by omega⟩
theorem both_play : ∀ (l : List Hrd) (m : Mem), Both m → (∀ h ∈ l, 1 < h.nd) → playE 0 m l = playE 1 m l ∧ playM 0 m l = playM 1 m l
  | [], m, _, _ => ⟨rfl, rfl⟩
  | h :: t, m, hb, hl => by
    obtain ⟨e1, e2, e3⟩ := both_step hb (hl h (by simp))
    unfold playE playM
    rw [← e1, ← e2]
    by_cases g : stepHE 0 m h = 0
    · rw [if_pos g, if_pos g, if_pos g, if_pos g]
      exact both_play t _ (e3 g) (fun x hx => hl x (List.mem_cons_of_mem _ hx))
    · rw [if_neg g, if_neg g, if_neg g, if_neg g]
      exact ⟨rfl, rfl⟩
theorem both_start {n : Nat} (h2 : 2 ≤ n) (hn : n ≤ 16) : Both (startM n) := by
  refine ⟨?_, ?_, rfl, by show (0 : Int) ≤ n; omega, by show (n : Int) ≤ 400; omega, by show (0 : Int) ≤ 0; omega, by show (0 : Int) ≤ 400; omega⟩
  · show (2 ^ n - 1).testBit 0 = true
    rw [Nat.testBit_two_pow_sub_one]; exact decide_eq_true (by omega)
  · show (2 ^ n - 1).testBit 1 = true
    rw [Nat.testBit_two_pow_sub_one]; exact decide_eq_true (by omega)
/-- Two nodes that hear the same of the others. -/
theorem like_facts (many : Int) {l : List Hrd} (hl : ∀ h ∈ l, 1 < h.nd) : many < 2 ∨ (playAE 0 many l = playAE 1 many l ∧ playAM 0 many l = playAM 1 many l) := by
  by_cases h : many < 2
  · exact .inl h
  · refine .inr ?_
    by_cases g : 16 < many
    · have e0 : allE 0 many = 2 := if_pos (.inr (.inl g))
      have e1 : allE 1 many = 2 := if_pos (.inr (.inl g))
      unfold playAE playAM
      rw [e0, e1]
      exact ⟨rfl, rfl⟩
    · have e0 : allE 0 many = 0 := if_neg (by omega)
      have e1 : allE 1 many = 0 := if_neg (by omega)
      unfold playAE playAM
      rw [if_pos e0, if_pos e1, if_pos e0, if_pos e1]
      exact both_play l _ (both_start (by omega) (by omega)) hl
/-- Who is out stays as he is. -/
theorem out_step {own : Int} {m : Mem} {h : Hrd} (hv : Valid own m) (ho : m.ou = true) : ((h.nd < 0 ∨ 15 < h.nd) ∧ stepHE own m h = 2) ∨ (¬ (h.nd < 0 ∨ 15 < h.nd) ∧ stepHE own m h = 0 ∧ stepHM own m h = m) := by
  by_cases g : h.nd < 0 ∨ 15 < h.nd
  · exact .inl ⟨g, (step_range hv g).1⟩
  · refine .inr ⟨g, ?_⟩
    have e := step_out (own := own.toNat) (node := h.nd.toNat) (came := h.cm) (hv := h.hv) ho
    have := step_ok (own := own) (m := m) (node := h.nd) (came := h.cm) (hv := h.hv) hv g (by rw [e]; obtain ⟨_, _, _, h1, _, h2, _⟩ := hv; omega)
    rw [e] at this
    exact this
end Go.Proofs.Ytnmoddknghcobaa
