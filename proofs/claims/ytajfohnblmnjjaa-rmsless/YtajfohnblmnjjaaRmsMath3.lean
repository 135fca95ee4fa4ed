/-
  The use of all time in lowest terms, as rms finds it; how great its numbers are. No statement of the seat is here.
-/
import Derived.Test.YtajfohnblmnjjaaRmsMath2
import Derived.Test.YtajfohnblmnjjaaWideMath
namespace Go.Proofs.Ytajfohnblmnjjaa
open Go.RowKit
set_option linter.unusedVariables false

/-- The product of one number of each. -/
def pby {α : Type} (q : α → Nat) (L : List α) : Nat := L.foldr (fun u a => a * q u) 1
theorem pby_cons {α : Type} (q : α → Nat) (t : α) (L : List α) : pby q (t :: L) = pby q L * q t := rfl
theorem pby_append {α : Type} (q : α → Nat) (A B : List α) : pby q (A ++ B) = pby q A * pby q B := by
  induction A with
  | nil => rw [List.nil_append]; exact (Nat.one_mul _).symm
  | cons t A ih => rw [List.cons_append, pby_cons, pby_cons, ih, Nat.mul_right_comm]
theorem pby_snoc {α : Type} (q : α → Nat) (L : List α) (t : α) : pby q (L ++ [t]) = pby q L * q t := by rw [pby_append, pby_cons]; show _ * (1 * _) = _; rw [Nat.one_mul]
theorem pby_le {α : Type} {q : α → Nat} {B : Nat} : ∀ {L : List α}, (∀ t ∈ L, q t ≤ B) → pby q L ≤ B ^ L.length
  | [], _ => Nat.le_refl _
  | t :: L, h => by
    rw [pby_cons, List.length_cons, Nat.pow_succ]
    exact Nat.mul_le_mul (pby_le fun u hu => h u (List.mem_cons_of_mem _ hu)) (h t (by simp))
theorem pby_small {α : Type} {q : α → Nat} {L : List α} (h : ∀ t ∈ L, q t ≤ 20000) (hl : L.length ≤ 16) : pby q L ≤ 655360000000000000000000000000000000000000000000000000000000000000000 := by
  refine Nat.le_trans (pby_le h) ?_
  have : 20000 ^ L.length ≤ 20000 ^ 16 := Nat.pow_le_pow_right (by omega) hl
  exact this
theorem pby_pos {α : Type} {q : α → Nat} {L : List α} (h : ∀ t ∈ L, 0 < q t) : 0 < pby q L := by
  induction L with
  | nil => exact Nat.one_pos
  | cons t L ih => rw [pby_cons]; exact Nat.mul_pos (ih fun u hu => h u (List.mem_cons_of_mem _ hu)) (h t (by simp))
theorem useD_pby (L : List Tk) : useD L = pby (fun t => t.p) L := rfl
theorem prodA_pby (L : List Tk) : prodA L = pby (fun t => t.c + t.p) L := rfl
/-- How great the numerator gets. -/
theorem useN_le {L : List Tk} (h : ∀ t ∈ L, t.Ok) : useN L ≤ L.length * useD L := by
  induction L with
  | nil => exact Nat.le_refl _
  | cons t L ih =>
    have ht := h t (by simp)
    unfold Tk.Ok at ht
    have ih := ih fun u hu => h u (List.mem_cons_of_mem _ hu)
    rw [useN_cons, useD_cons, List.length_cons, Nat.add_mul, Nat.one_mul]
    have h1 : useN L * t.p ≤ L.length * useD L * t.p := Nat.mul_le_mul_right _ ih
    have h2 : useD L * t.c ≤ useD L * t.p := Nat.mul_le_mul_left _ ht.2.1
    rw [← Nat.mul_assoc]
    omega
theorem GoodK.sizes {M : List Tk} (h : GoodK M) : useD M ≤ 10000000000000000000000000000000000000000000000000000000000000000 ∧ useN M ≤ 160000000000000000000000000000000000000000000000000000000000000000 ∧ prodA M ≤ 655360000000000000000000000000000000000000000000000000000000000000000 := by
  have hD : useD M ≤ 10000000000000000000000000000000000000000000000000000000000000000 := by
    rw [useD_pby]
    refine Nat.le_trans (pby_le (B := 10000) fun t ht => (h.ok t ht).2.2) ?_
    have : 10000 ^ M.length ≤ 10000 ^ 16 := Nat.pow_le_pow_right (by omega) h.len
    exact this
  refine ⟨hD, ?_, ?_⟩
  · have h1 := useN_le h.ok
    have h2 : M.length * useD M ≤ 16 * useD M := Nat.mul_le_mul_right _ h.len
    omega
  · rw [prodA_pby]
    exact pby_small (fun t ht => by have := h.ok t ht; unfold Tk.Ok at this; omega) h.len
/-- What is taken out of the numerator, task by task: N is what is left of it, F the factors of the denominator. -/
structure Low (N0 : Nat) (P : List Nat) (N : Nat) (F : List Nat) : Prop where
  len : F.length = P.length
  val : N * pby id P = N0 * pby id F
  co : ∀ f ∈ F, Nat.Coprime N f
  pos : ∀ f ∈ F, 0 < f
  small : ∀ f ∈ F, f ≤ 10000
theorem Low.start (N0 : Nat) : Low N0 [] N0 [] := ⟨rfl, rfl, fun f h => (by cases h), fun f h => (by cases h), fun f h => (by cases h)⟩
theorem Low.step {N0 N p : Nat} {P F : List Nat} (h : Low N0 P N F) (hp : 0 < p) (hp2 : p ≤ 10000) : Low N0 (P ++ [p]) (N / Nat.gcd p N) (F ++ [p / Nat.gcd p N]) := by
  have g0 : 0 < Nat.gcd p N := Nat.gcd_pos_of_pos_left _ hp
  have d1 : Nat.gcd p N ∣ p := Nat.gcd_dvd_left _ _
  have d2 : Nat.gcd p N ∣ N := Nat.gcd_dvd_right _ _
  refine ⟨by simp [h.len], ?_, ?_, ?_, ?_⟩
  · rw [pby_snoc, pby_snoc]
    show N / Nat.gcd p N * (pby id P * p) = N0 * (pby id F * (p / Nat.gcd p N))
    have e1 : Nat.gcd p N * (p / Nat.gcd p N) = p := Nat.mul_div_cancel' d1
    have e2 : N / Nat.gcd p N * Nat.gcd p N = N := Nat.div_mul_cancel d2
    rw [← Nat.mul_assoc N0, ← h.val]
    generalize Nat.gcd p N = g at *
    generalize p / g = u at *
    generalize N / g = v at *
    subst e1
    subst e2
    rw [Nat.mul_assoc v, Nat.mul_assoc v, Nat.mul_left_comm (pby id P), Nat.mul_assoc g]
  · intro f hf
    rcases List.mem_append.1 hf with hf | hf
    · exact Nat.Coprime.coprime_dvd_left (Nat.div_dvd_of_dvd d2) (h.co f hf)
    · rw [List.mem_singleton.1 hf]
      exact (Nat.coprime_div_gcd_div_gcd g0).symm
  · intro f hf
    rcases List.mem_append.1 hf with hf | hf
    · exact h.pos f hf
    · rw [List.mem_singleton.1 hf]
      exact Nat.div_pos (Nat.le_of_dvd hp d1) g0
  · intro f hf
    rcases List.mem_append.1 hf with hf | hf
    · exact h.small f hf
    · rw [List.mem_singleton.1 hf]
      exact Nat.le_trans (Nat.div_le_self _ _) hp2
theorem coprime_pby {N : Nat} : ∀ {F : List Nat}, (∀ f ∈ F, Nat.Coprime N f) → Nat.Coprime N (pby id F)
  | [], _ => Nat.coprime_one_right N
  | f :: F, h => by
    rw [pby_cons]
    exact Nat.Coprime.mul_right (coprime_pby fun x hx => h x (List.mem_cons_of_mem _ hx)) (h f (by simp))
/-- In the end: the lowest terms. -/
theorem Low.done {N0 N : Nat} {P F : List Nat} (h : Low N0 P N F) (hP : 0 < pby id P) : N = N0 / Nat.gcd N0 (pby id P) ∧ pby id F = pby id P / Nat.gcd N0 (pby id P) := by
  have hc := coprime_pby h.co
  have hF : 0 < pby id F := pby_pos h.pos
  have hv := h.val
  generalize pby id F = f at *
  generalize pby id P = p at *
  -- N / f = N0 / p, N and f without a common factor
  have hd : f ∣ p := by
    have : f ∣ N * p := ⟨N0, by rw [hv, Nat.mul_comm]⟩
    exact hc.symm.dvd_of_dvd_mul_left this
  obtain ⟨g, rfl⟩ := hd
  have hN : N * g = N0 := by
    have : N * g * f = N0 * f := by rw [Nat.mul_assoc, Nat.mul_comm g f, hv]
    exact Nat.eq_of_mul_eq_mul_right hF this
  have hg : 0 < g := by
    rcases Nat.eq_zero_or_pos g with h0 | h0
    · subst h0; simp at hP
    · exact h0
  have hgcd : Nat.gcd N0 (f * g) = g := by
    rw [← hN, Nat.gcd_mul_right, hc.gcd_eq_one, Nat.one_mul]
  rw [hgcd, ← hN, Nat.mul_div_cancel _ hg, Nat.mul_div_cancel _ hg]
  exact ⟨rfl, rfl⟩
/-- The use in lowest terms, and whether it is told. -/
def useG (M : List Tk) : Nat := Nat.gcd (useN M) (useD M)
def useNum (M : List Tk) : Nat := useN M / useG M
def useDen (M : List Tk) : Nat := useD M / useG M
def useBig (M : List Tk) : Bool := decide (useNum M > 9223372036854775807) || decide (useDen M > 9223372036854775807)
theorem useG_pos {M : List Tk} (h : ∀ t ∈ M, 0 < t.p) : 0 < useG M := Nat.gcd_pos_of_pos_right _ (useD_pos h)
theorem useDen_pos {M : List Tk} (h : ∀ t ∈ M, 0 < t.p) : 0 < useDen M := Nat.div_pos (Nat.le_of_dvd (useD_pos h) (Nat.gcd_dvd_right _ _)) (useG_pos h)
theorem use_le_iff {M : List Tk} (h : ∀ t ∈ M, 0 < t.p) : useNum M ≤ useDen M ↔ useN M ≤ useD M := by
  have hg := useG_pos h
  have e1 : useNum M * useG M = useN M := Nat.div_mul_cancel (Nat.gcd_dvd_left _ _)
  have e2 : useDen M * useG M = useD M := Nat.div_mul_cancel (Nat.gcd_dvd_right _ _)
  constructor
  · intro hh
    rw [← e1, ← e2]
    exact Nat.mul_le_mul_right _ hh
  · intro hh
    rw [← e1, ← e2] at hh
    exact Nat.le_of_mul_le_mul_right hh hg
end Go.Proofs.Ytajfohnblmnjjaa
