/-
  The mathematics of package rms: what fits is told without an order; the hyperbolic bound; no more than all time; halves. No statement of the seat is here.
-/
import Derived.Test.YtajfohnblmnjjaaRtaMath
namespace Go.Proofs.Ytajfohnblmnjjaa
open Go.RowKit
set_option linter.unusedVariables false

/-- Each has its least end. -/
def AllEnd (S : List Tk) : Prop := ∀ k t, S[k]? = some t → ∃ R, EndIs (S.take k) t R
/-- Those that go at least as often as P. -/
def often (P : Nat) (L : List Tk) : List Tk := L.filter fun y => decide (y.p ≤ P)
/-- It fits, told without an order. -/
def Feas (L : List Tk) : Prop := ∀ x ∈ L, ∃ r, 0 < r ∧ r ≤ x.p ∧ need (often x.p L) r ≤ r
def OkL (L : List Tk) : Prop := ∀ t ∈ L, 0 < t.c ∧ t.c ≤ t.p
theorem OkL.pos {L : List Tk} (h : OkL L) : ∀ t ∈ L, 0 < t.p := fun t ht => by have := h t ht; omega

theorem need_perm {L M : List Tk} (h : L.Perm M) (r : Nat) : need L r = need M r := by
  induction h with
  | nil => rfl
  | cons x _ ih => rw [need, need, ih]
  | swap x y l => rw [need, need, need, need]; omega
  | trans _ _ ih1 ih2 => rw [ih1, ih2]
theorem need_filter (q : Tk → Bool) (L : List Tk) (r : Nat) : need (L.filter q) r ≤ need L r := by
  induction L with
  | nil => exact Nat.le_refl _
  | cons t L ih =>
    rw [List.filter_cons]
    split
    · rw [need, need]; omega
    · rw [need]; omega
theorem Feas.perm {L M : List Tk} (h : Feas L) (p : L.Perm M) : Feas M := fun x hx => by
  obtain ⟨r, h1, h2, h3⟩ := h x (p.mem_iff.2 hx)
  refine ⟨r, h1, h2, ?_⟩
  have e := need_perm (p.filter fun y => decide (y.p ≤ x.p)) r
  change need (often x.p L) r = need (often x.p M) r at e
  omega
/-- The last one that goes at least as often. -/
theorem last_of (q : Tk → Bool) : ∀ {L : List Tk}, (∃ x ∈ L, q x = true) → ∃ z t, L[z]? = some t ∧ q t = true ∧ ∀ u ∈ L.drop (z + 1), q u = false
  | [], h => by obtain ⟨x, hx, _⟩ := h; cases hx
  | t :: L, h => by
    by_cases g : ∃ x ∈ L, q x = true
    · obtain ⟨z, u, h1, h2, h3⟩ := last_of q g
      exact ⟨z + 1, u, by simpa using h1, h2, by simpa using h3⟩
    · obtain ⟨x, hx, hq⟩ := h
      rcases List.mem_cons.1 hx with rfl | hx
      · refine ⟨0, x, rfl, hq, fun u hu => ?_⟩
        cases e : q u
        · rfl
        · exact absurd ⟨u, by simpa using hu, e⟩ g
      · exact absurd ⟨x, hx, hq⟩ g
theorem filter_none {q : Tk → Bool} {L : List Tk} (h : ∀ u ∈ L, q u = false) : L.filter q = [] := by
  rw [List.filter_eq_nil_iff]
  intro u hu
  rw [h u hu]
  decide
/-- Liu and Layland: whatever the order, what has its ends fits. -/
theorem feas_of_ends {L : List Tk} (hL : OkL L) (h : AllEnd L) : Feas L := fun x hx => by
  obtain ⟨z, t, h1, h2, h3⟩ := last_of (fun y => decide (y.p ≤ x.p)) ⟨x, hx, by simp⟩
  obtain ⟨R, hR⟩ := h z t h1
  have ht := hL t (List.mem_of_getElem? h1)
  refine ⟨R, by have := hR.lo; omega, by have := hR.hi; have := of_decide_eq_true h2; omega, ?_⟩
  have e : often x.p L = (L.take (z + 1)).filter fun y => decide (y.p ≤ x.p) := by
    unfold often
    conv => lhs; rw [← List.take_append_drop (z + 1) L]
    rw [List.filter_append, filter_none h3, List.append_nil]
  rw [e]
  have := need_filter (fun y => decide (y.p ≤ x.p)) (L.take (z + 1)) R
  rw [take_next h1, need_self hR ht.1] at this
  rw [take_next h1]
  exact this
def SortedT (S : List Tk) : Prop := S.Pairwise fun a b => a.p ≤ b.p
/-- What fits has its ends in the order of the periods. -/
theorem ends_of_feas {S : List Tk} (hs : SortedT S) (h : Feas S) : AllEnd S := fun k t hk => by
  obtain ⟨r, h0, h1, h2⟩ := h t (List.mem_of_getElem? hk)
  have hlt := (List.getElem?_eq_some_iff.1 hk).1
  have ha : ∀ u ∈ S.take (k + 1), u.p ≤ t.p := fun u hu => by
    obtain ⟨j, hj⟩ := List.mem_iff_getElem?.1 hu
    rw [List.getElem?_take] at hj
    split at hj
    · rename_i hjk
      by_cases e : j = k
      · subst e
        rw [hk] at hj
        injection hj with hj
        subst hj
        exact Nat.le_refl _
      · obtain ⟨g1, e1⟩ := List.getElem?_eq_some_iff.1 hj
        obtain ⟨g2, e2⟩ := List.getElem?_eq_some_iff.1 hk
        have := List.pairwise_iff_getElem.1 hs j k g1 g2 (by omega)
        rw [e1, e2] at this
        exact this
    · cases hj
  have e : often t.p S = S.take (k + 1) ++ (S.drop (k + 1)).filter fun y => decide (y.p ≤ t.p) := by
    unfold often
    conv => lhs; rw [← List.take_append_drop (k + 1) S]
    rw [List.filter_append, List.filter_eq_self.2 (fun u hu => decide_eq_true (ha u hu))]
  rw [e, need_append, take_next hk, need_append, need, need, up_one h0 h1] at h2
  obtain ⟨R, _, hR⟩ := end_exists (pre := S.take k) (t := t) h1 (by omega)
  exact ⟨R, hR⟩
theorem OkL.perm {L M : List Tk} (h : OkL L) (p : L.Perm M) : OkL M := fun t ht => h t (p.mem_iff.2 ht)
/-- The ends in the order of the periods say whether it fits. -/
theorem fit_iff {L S : List Tk} (hL : OkL L) (p : L.Perm S) (hs : SortedT S) : AllEnd S ↔ Feas L :=
  ⟨fun h => (feas_of_ends (hL.perm p) h).perm p.symm, fun h => ends_of_feas hs (h.perm p)⟩

/-! the use of all time -/
def useN : List Tk → Nat
  | [] => 0
  | t :: L => useN L * t.p + (L.foldr (fun u a => a * u.p) 1) * t.c
def useD (L : List Tk) : Nat := L.foldr (fun u a => a * u.p) 1
theorem useD_cons (t : Tk) (L : List Tk) : useD (t :: L) = useD L * t.p := rfl
theorem useN_cons (t : Tk) (L : List Tk) : useN (t :: L) = useN L * t.p + useD L * t.c := rfl
theorem useD_pos {L : List Tk} (h : ∀ t ∈ L, 0 < t.p) : 0 < useD L := by
  induction L with
  | nil => exact Nat.one_pos
  | cons t L ih => rw [useD_cons]; exact Nat.mul_pos (ih fun u hu => h u (List.mem_cons_of_mem _ hu)) (h t (by simp))
theorem useD_append (A B : List Tk) : useD (A ++ B) = useD A * useD B := by
  induction A with
  | nil => rw [List.nil_append]; exact (Nat.one_mul _).symm
  | cons t A ih => rw [List.cons_append, useD_cons, useD_cons, ih, Nat.mul_right_comm]
theorem useN_append (A B : List Tk) : useN (A ++ B) = useN A * useD B + useD A * useN B := by
  induction A with
  | nil => rw [List.nil_append]; show _ = 0 * _ + 1 * _; omega
  | cons t A ih =>
    rw [List.cons_append, useN_cons, useN_cons, useD_cons, ih, useD_append, Nat.add_mul, Nat.add_mul]
    have e1 : useN A * useD B * t.p = useN A * t.p * useD B := Nat.mul_right_comm _ _ _
    have e2 : useD A * useN B * t.p = useD A * t.p * useN B := Nat.mul_right_comm _ _ _
    have e3 : useD A * useD B * t.c = useD A * t.c * useD B := Nat.mul_right_comm _ _ _
    omega
/-- As the reference gathers it: from the front. -/
theorem use_snoc (L : List Tk) (t : Tk) : useN (L ++ [t]) = useN L * t.p + useD L * t.c ∧ useD (L ++ [t]) = useD L * t.p := by
  have e1 : useD [t] = t.p := by show 1 * t.p = t.p; omega
  have e2 : useN [t] = t.c := by show 0 * t.p + 1 * t.c = t.c; omega
  rw [useN_append, useD_append, e1, e2]
  exact ⟨rfl, rfl⟩
/-- In r units the tasks ask for at least their share of r. -/
theorem use_need {L : List Tk} (h : ∀ t ∈ L, 0 < t.p) (r : Nat) : useN L * r ≤ useD L * need L r := by
  induction L with
  | nil => show 0 * r ≤ _; omega
  | cons t L ih =>
    have ih := ih fun u hu => h u (List.mem_cons_of_mem _ hu)
    have hu := up_mul (r := r) (h t (by simp))
    rw [useN_cons, useD_cons, need, Nat.add_mul, Nat.mul_add]
    have a1 : useN L * t.p * r ≤ useD L * t.p * need L r := by
      have := Nat.mul_le_mul_right t.p ih
      rwa [Nat.mul_right_comm, Nat.mul_right_comm (useD L)] at this
    have a2 : useD L * t.c * r ≤ useD L * t.p * (up r t.p * t.c) := by
      have := Nat.mul_le_mul_left (useD L * t.c) hu
      have e : useD L * t.c * (up r t.p * t.p) = useD L * t.p * (up r t.p * t.c) := by
        simp only [Nat.mul_assoc, Nat.mul_comm, Nat.mul_left_comm]
      omega
    omega
/-- Where r holds whole periods alone, it is just their share. -/
theorem use_need_eq {L : List Tk} (h : ∀ t ∈ L, 0 < t.p) {r : Nat} (hr : ∀ t ∈ L, ∃ m, r = m * t.p) : useN L * r = useD L * need L r := by
  induction L with
  | nil => show 0 * r = useD [] * 0; omega
  | cons t L ih =>
    have ih := ih (fun u hu => h u (List.mem_cons_of_mem _ hu)) (fun u hu => hr u (List.mem_cons_of_mem _ hu))
    obtain ⟨m, hm⟩ := hr t (by simp)
    have hu : up r t.p = m := by rw [hm]; exact up_steps (h t (by simp))
    rw [useN_cons, useD_cons, need, Nat.add_mul, Nat.mul_add, hu]
    have a1 : useN L * t.p * r = useD L * t.p * need L r := by rw [Nat.mul_right_comm, ih, Nat.mul_right_comm]
    have a2 : useD L * t.c * r = useD L * t.p * (m * t.c) := by
      rw [hm]
      simp only [Nat.mul_assoc, Nat.mul_comm, Nat.mul_left_comm]
    omega
theorem max_exists : ∀ {L : List Tk}, L ≠ [] → ∃ x ∈ L, ∀ y ∈ L, y.p ≤ x.p
  | [], h => absurd rfl h
  | [x], _ => ⟨x, by simp, fun y hy => by rw [List.mem_singleton.1 hy]; exact Nat.le_refl _⟩
  | x :: y :: L, _ => by
    obtain ⟨z, hz, hm⟩ := max_exists (L := y :: L) (by simp)
    by_cases g : x.p ≤ z.p
    · exact ⟨z, List.mem_cons_of_mem _ hz, fun u hu => by
        rcases List.mem_cons.1 hu with rfl | hu
        · exact g
        · exact hm u hu⟩
    · exact ⟨x, by simp, fun u hu => by
        rcases List.mem_cons.1 hu with rfl | hu
        · exact Nat.le_refl _
        · have := hm u hu; omega⟩
/-- Nothing fits that takes more than all time. -/
theorem use_of_feas {L : List Tk} (hL : OkL L) (h : Feas L) : useN L ≤ useD L := by
  by_cases h0 : L = []
  · subst h0; decide
  · obtain ⟨x, hx, hm⟩ := max_exists h0
    obtain ⟨r, h1, h2, h3⟩ := h x hx
    have e : often x.p L = L := List.filter_eq_self.2 fun y hy => decide_eq_true (hm y hy)
    rw [e] at h3
    have h4 := use_need hL.pos r
    have h5 := Nat.mul_le_mul_left (useD L) h3
    exact Nat.le_of_mul_le_mul_right (Nat.le_trans h4 h5) h1
/-- A part takes no more than its share. -/
theorem use_filter (q : Tk → Bool) {L : List Tk} (h : ∀ t ∈ L, 0 < t.p) : useN (L.filter q) * useD L ≤ useN L * useD (L.filter q) := by
  induction L with
  | nil => exact Nat.le_refl _
  | cons t L ih =>
    have ih := ih fun u hu => h u (List.mem_cons_of_mem _ hu)
    rw [List.filter_cons]
    split
    · rw [useN_cons, useD_cons, useN_cons, useD_cons, Nat.add_mul, Nat.add_mul]
      have a1 : useN (L.filter q) * t.p * (useD L * t.p) ≤ useN L * t.p * (useD (L.filter q) * t.p) := by
        have := Nat.mul_le_mul_right (t.p * t.p) ih
        have e1 : useN (L.filter q) * useD L * (t.p * t.p) = useN (L.filter q) * t.p * (useD L * t.p) := by simp only [Nat.mul_assoc, Nat.mul_comm, Nat.mul_left_comm]
        have e2 : useN L * useD (L.filter q) * (t.p * t.p) = useN L * t.p * (useD (L.filter q) * t.p) := by simp only [Nat.mul_assoc, Nat.mul_comm, Nat.mul_left_comm]
        omega
      have a2 : useD (L.filter q) * t.c * (useD L * t.p) = useD L * t.c * (useD (L.filter q) * t.p) := by simp only [Nat.mul_assoc, Nat.mul_comm, Nat.mul_left_comm]
      omega
    · rw [useD_cons, useN_cons, Nat.add_mul]
      have a1 : useN (L.filter q) * (useD L * t.p) ≤ useN L * t.p * useD (L.filter q) := by
        have := Nat.mul_le_mul_right t.p ih
        have e1 : useN (L.filter q) * useD L * t.p = useN (L.filter q) * (useD L * t.p) := Nat.mul_assoc _ _ _
        have e2 : useN L * useD (L.filter q) * t.p = useN L * t.p * useD (L.filter q) := Nat.mul_right_comm _ _ _
        omega
      omega
/-- Where each period is a multiple of those that go more often, all time can be used. -/
theorem feas_harmonic {L : List Tk} (hL : OkL L) (hh : ∀ x ∈ L, ∀ y ∈ L, y.p ≤ x.p → ∃ m, x.p = m * y.p) (hu : useN L ≤ useD L) : Feas L := fun x hx => by
  have hG : ∀ t ∈ often x.p L, 0 < t.p := fun t ht => hL.pos t (List.mem_filter.1 ht).1
  have hD := useD_pos hG
  have hDL := useD_pos hL.pos
  refine ⟨x.p, hL.pos x hx, Nat.le_refl _, ?_⟩
  have e := use_need_eq hG (r := x.p) (fun t ht => hh x hx t (List.mem_filter.1 ht).1 (of_decide_eq_true (List.mem_filter.1 ht).2))
  have f := use_filter (fun y => decide (y.p ≤ x.p)) hL.pos
  change useN (often x.p L) * useD L ≤ useN L * useD (often x.p L) at f
  have g : useN (often x.p L) ≤ useD (often x.p L) := by
    have := Nat.le_trans f (Nat.mul_le_mul_right (useD (often x.p L)) hu)
    rw [Nat.mul_comm (useD L)] at this
    exact Nat.le_of_mul_le_mul_right this hDL
  have k := Nat.mul_le_mul_right x.p g
  rw [e] at k
  exact Nat.le_of_mul_le_mul_left k hD

/-! with less to do it still fits -/
theorem need_set {L : List Tk} {k : Nat} {t u : Tk} (hk : L[k]? = some t) (hp : u.p = t.p) (hc : u.c ≤ t.c) (q : Nat → Bool) (r : Nat) : need ((L.set k u).filter fun y => q y.p) r ≤ need (L.filter fun y => q y.p) r := by
  induction L generalizing k with
  | nil => cases hk
  | cons x L ih =>
    cases k with
    | zero =>
      simp at hk
      subst hk
      rw [List.set_cons_zero, List.filter_cons, List.filter_cons, hp]
      split
      · rw [need, need, hp]
        have := Nat.mul_le_mul_left (up r x.p) hc
        omega
      · exact Nat.le_refl _
    | succ k =>
      have ih := ih (k := k) (by simpa using hk)
      rw [List.set_cons_succ, List.filter_cons, List.filter_cons]
      split
      · rw [need, need]; omega
      · exact ih
theorem Feas.less {L : List Tk} {k : Nat} {t u : Tk} (h : Feas L) (hk : L[k]? = some t) (hp : u.p = t.p) (hc : u.c ≤ t.c) : Feas (L.set k u) := fun x hx => by
  have hx' : ∃ y ∈ L, y.p = x.p := by
    rcases List.mem_or_eq_of_mem_set hx with g | g
    · exact ⟨x, g, rfl⟩
    · exact ⟨t, List.mem_of_getElem? hk, by rw [g, hp]⟩
  obtain ⟨y, hy, e⟩ := hx'
  obtain ⟨r, h1, h2, h3⟩ := h y hy
  rw [e] at h2 h3
  exact ⟨r, h1, h2, Nat.le_trans (need_set hk hp hc (fun p => decide (p ≤ x.p)) r) h3⟩
theorem Feas.drop {A B : List Tk} {t : Tk} (h : Feas (A ++ t :: B)) : Feas (A ++ B) := fun x hx => by
  obtain ⟨r, h1, h2, h3⟩ := h x (by
    rcases List.mem_append.1 hx with g | g
    · exact List.mem_append.2 (.inl g)
    · exact List.mem_append.2 (.inr (List.mem_cons_of_mem _ g)))
  refine ⟨r, h1, h2, Nat.le_trans ?_ h3⟩
  unfold often
  rw [List.filter_append, List.filter_append, need_append, need_append, List.filter_cons]
  split
  · rw [need]; omega
  · exact Nat.le_refl _

/-! the hyperbolic bound -/
def prodA (L : List Tk) : Nat := L.foldr (fun u a => a * (u.c + u.p)) 1
theorem prodA_cons (t : Tk) (L : List Tk) : prodA (t :: L) = prodA L * (t.c + t.p) := rfl
theorem prodA_perm {L M : List Tk} (h : L.Perm M) : prodA L = prodA M := by
  induction h with
  | nil => rfl
  | cons x _ ih => rw [prodA_cons, prodA_cons, ih]
  | swap x y l => rw [prodA_cons, prodA_cons, prodA_cons, prodA_cons, Nat.mul_right_comm]
  | trans _ _ ih1 ih2 => rw [ih1, ih2]
theorem useD_perm {L M : List Tk} (h : L.Perm M) : useD L = useD M := by
  induction h with
  | nil => rfl
  | cons x _ ih => rw [useD_cons, useD_cons, ih]
  | swap x y l => rw [useD_cons, useD_cons, useD_cons, useD_cons, Nat.mul_right_comm]
  | trans _ _ ih1 ih2 => rw [ih1, ih2]
theorem prod_snoc (L : List Tk) (t : Tk) : prodA (L ++ [t]) = prodA L * (t.c + t.p) ∧ useD (L ++ [t]) = useD L * t.p := by
  refine ⟨?_, (use_snoc L t).2⟩
  induction L with
  | nil => rfl
  | cons x L ih => rw [List.cons_append, prodA_cons, ih, prodA_cons, Nat.mul_right_comm]
theorem prod_filter (q : Tk → Bool) (L : List Tk) : prodA (L.filter q) * useD L ≤ prodA L * useD (L.filter q) := by
  induction L with
  | nil => exact Nat.le_refl _
  | cons t L ih =>
    rw [List.filter_cons]
    split
    · rw [prodA_cons, prodA_cons, useD_cons, useD_cons]
      have := Nat.mul_le_mul_right ((t.c + t.p) * t.p) ih
      have e1 : prodA (L.filter q) * useD L * ((t.c + t.p) * t.p) = prodA (L.filter q) * (t.c + t.p) * (useD L * t.p) := by
        rw [Nat.mul_assoc, Nat.mul_assoc, Nat.mul_left_comm (useD L)]
      have e2 : prodA L * useD (L.filter q) * ((t.c + t.p) * t.p) = prodA L * (t.c + t.p) * (useD (L.filter q) * t.p) := by
        rw [Nat.mul_assoc, Nat.mul_assoc, Nat.mul_left_comm (useD (L.filter q))]
      omega
    · rw [prodA_cons, useD_cons]
      have := Nat.mul_le_mul ih (show t.p ≤ t.c + t.p by omega)
      have e1 : prodA (L.filter q) * useD L * t.p = prodA (L.filter q) * (useD L * t.p) := Nat.mul_assoc _ _ _
      have e2 : prodA L * useD (L.filter q) * (t.c + t.p) = prodA L * (t.c + t.p) * useD (L.filter q) := Nat.mul_right_comm _ _ _
      omega
/-- The last release of y in T, and what it asks for until then. -/
def rel (T : Nat) (y : Tk) : Nat := T / y.p * y.p
def wrk (T : Nat) : List Tk → Nat
  | [] => 0
  | y :: L => T / y.p * y.c + wrk T L
theorem wrk_append (T : Nat) (A B : List Tk) : wrk T (A ++ B) = wrk T A + wrk T B := by
  induction A with
  | nil => simp [wrk]
  | cons t A ih => rw [List.cons_append, wrk, wrk, ih]; omega
/-- At r, those ahead: at most twice; those behind: once. -/
theorem need_ahead {T r : Nat} {L : List Tk} (h : ∀ y ∈ L, 0 < y.p ∧ y.p ≤ T) (hr : r ≤ T) : need L r ≤ wrk T L + wrk T L := by
  induction L with
  | nil => exact Nat.le_refl _
  | cons y L ih =>
    obtain ⟨h1, h2⟩ := h y (by simp)
    have ih := ih fun u hu => h u (List.mem_cons_of_mem _ hu)
    have hq : 1 ≤ T / y.p := (Nat.le_div_iff_mul_le h1).2 (by omega)
    have hu : up r y.p ≤ T / y.p + T / y.p := by
      have h3 : up r y.p ≤ T / y.p + 1 := (up_le_iff h1).2 (by
        have : T < (T / y.p + 1) * y.p := (Nat.div_lt_iff_lt_mul h1).1 (Nat.lt_succ_self (T / y.p))
        omega)
      omega
    have := Nat.mul_le_mul_right y.c hu
    rw [Nat.add_mul] at this
    rw [need, wrk]; omega
theorem need_behind {T r : Nat} {L : List Tk} (h : ∀ y ∈ L, 0 < y.p ∧ r ≤ rel T y) : need L r ≤ wrk T L := by
  induction L with
  | nil => exact Nat.le_refl _
  | cons y L ih =>
    obtain ⟨h1, h2⟩ := h y (by simp)
    have ih := ih fun u hu => h u (List.mem_cons_of_mem _ hu)
    have := Nat.mul_le_mul_right y.c ((up_le_iff (n := T / y.p) h1).2 h2)
    rw [need, wrk]; omega
/-- Bini and Buttazzo: what never has time enough passes the bound. A: the work of all. -/
theorem hyper {T : Nat} {M : List Tk} (hM : ∀ y ∈ M, 0 < y.p ∧ 0 < y.c ∧ y.p ≤ T) (hs : M.Pairwise fun a b => rel T a ≤ rel T b) (hno : ∀ r, 0 < r → r ≤ T → r < need M r) :
    ∀ j, j ≤ M.length → useD (M.take j) * (wrk T M + wrk T (M.take j)) ≤ prodA (M.take j) * wrk T M ∧ (0 < j → useD (M.take j) * (wrk T M + wrk T (M.take j)) < prodA (M.take j) * wrk T M)
  | 0, _ => by
    rw [List.take_zero]
    exact ⟨by show 1 * (wrk T M + 0) ≤ 1 * wrk T M; omega, fun h => absurd h (by omega)⟩
  | j + 1, hj => by
    obtain ⟨y, hy⟩ : ∃ y, M[j]? = some y := ⟨_, List.getElem?_eq_getElem (by omega)⟩
    obtain ⟨h1, h2, h3⟩ := hM y (List.mem_of_getElem? hy)
    have hq : 1 ≤ T / y.p := (Nat.le_div_iff_mul_le h1).2 (by omega)
    have hr0 : 0 < rel T y := Nat.mul_pos hq h1
    have hrT : rel T y ≤ T := Nat.div_mul_le_self T y.p
    -- there isn't time enough at the last release of y
    have hlt : rel T y < wrk T M + wrk T (M.take j) := by
      have g := hno _ hr0 hrT
      have e : need M (rel T y) = need (M.take j) (rel T y) + need (M.drop j) (rel T y) := by rw [← need_append, List.take_append_drop]
      have ew : wrk T M = wrk T (M.take j) + wrk T (M.drop j) := by rw [← wrk_append, List.take_append_drop]
      have g1 := need_ahead (T := T) (r := rel T y) (L := M.take j) (fun u hu => by have := hM u (List.mem_of_mem_take hu); exact ⟨this.1, this.2.2⟩) hrT
      have g2 := need_behind (T := T) (r := rel T y) (L := M.drop j) (fun u hu => by
        refine ⟨(hM u (List.mem_of_mem_drop hu)).1, ?_⟩
        obtain ⟨i, hi⟩ := List.mem_iff_getElem?.1 hu
        rw [List.getElem?_drop] at hi
        by_cases e : i = 0
        · subst e
          rw [Nat.add_zero, hy] at hi
          injection hi with hi
          subst hi
          exact Nat.le_refl _
        · obtain ⟨q1, e1⟩ := List.getElem?_eq_some_iff.1 hy
          obtain ⟨q2, e2⟩ := List.getElem?_eq_some_iff.1 hi
          have := List.pairwise_iff_getElem.1 hs j (j + i) q1 q2 (by omega)
          rw [e1, e2] at this
          exact this)
      omega
    obtain ⟨ih, _⟩ := hyper hM hs hno j (by omega)
    have et := take_next hy
    have ew : wrk T (M.take (j + 1)) = wrk T (M.take j) + T / y.p * y.c := by rw [et, wrk_append]; rfl
    obtain ⟨p1, p2⟩ := prod_snoc (M.take j) y
    rw [← et] at p1 p2
    rw [p1, p2, ew]
    have hD : 0 < useD (M.take j) := useD_pos fun u hu => (hM u (List.mem_of_mem_take hu)).1
    generalize useD (M.take j) = D at *
    generalize prodA (M.take j) = A at *
    generalize wrk T M = W at *
    generalize wrk T (M.take j) = V at *
    have key : D * y.p * (W + (V + T / y.p * y.c)) < A * (y.c + y.p) * W := by
      have k1 := Nat.mul_le_mul_right (y.c + y.p) ih
      have k2 : D * (W + V) * (y.c + y.p) = D * (W + V) * y.c + D * (W + V) * y.p := Nat.mul_add _ _ _
      have k3 : A * W * (y.c + y.p) = A * (y.c + y.p) * W := Nat.mul_right_comm _ _ _
      have k4 : D * y.p * (W + (V + T / y.p * y.c)) = D * (W + V) * y.p + D * (T / y.p * y.p) * y.c := by
        rw [← Nat.add_assoc, Nat.mul_add]
        have a1 : D * y.p * (W + V) = D * (W + V) * y.p := Nat.mul_right_comm _ _ _
        have a2 : D * y.p * (T / y.p * y.c) = D * (T / y.p * y.p) * y.c := by
          simp only [Nat.mul_comm, Nat.mul_left_comm]
        omega
      have k5 : D * (T / y.p * y.p) * y.c < D * (W + V) * y.c :=
        Nat.mul_lt_mul_of_pos_right (Nat.mul_lt_mul_of_pos_left hlt hD) h2
      omega
    exact ⟨Nat.le_of_lt key, fun _ => key⟩
/-- The hyperbolic bound is enough. -/
theorem feas_of_sure {L : List Tk} (hL : OkL L) (h : prodA L ≤ 2 * useD L) : Feas L := fun x hx => by
  by_cases g : ∃ r, 0 < r ∧ r ≤ x.p ∧ need (often x.p L) r ≤ r
  · exact g
  · exfalso
    have hno : ∀ r, 0 < r → r ≤ x.p → r < need (often x.p L) r := fun r h1 h2 => by
      by_cases q : r < need (often x.p L) r
      · exact q
      · exact absurd ⟨r, h1, h2, by omega⟩ g
    have hG : ∀ y ∈ often x.p L, 0 < y.p ∧ 0 < y.c ∧ y.p ≤ x.p := fun y hy => by
      obtain ⟨a, b⟩ := List.mem_filter.1 hy
      exact ⟨hL.pos y a, (hL y a).1, of_decide_eq_true b⟩
    have hxG : x ∈ often x.p L := List.mem_filter.2 ⟨hx, by simp⟩
    -- in the order of the last releases
    have hperm := List.mergeSort_perm (often x.p L) (fun a b => decide (rel x.p a ≤ rel x.p b))
    have hsort := List.pairwise_mergeSort (le := fun a b => decide (rel x.p a ≤ rel x.p b)) (fun a b c h1 h2 => by simp at *; omega) (fun a b => by simp; omega) (often x.p L)
    generalize (often x.p L).mergeSort (fun a b => decide (rel x.p a ≤ rel x.p b)) = M at *
    have hM : ∀ y ∈ M, 0 < y.p ∧ 0 < y.c ∧ y.p ≤ x.p := fun y hy => hG y (hperm.mem_iff.1 hy)
    have hk := (hyper hM (hsort.imp fun h => of_decide_eq_true h) (fun r h1 h2 => by rw [need_perm hperm]; exact hno r h1 h2) M.length (Nat.le_refl _)).2 (List.length_pos_of_mem (hperm.mem_iff.2 hxG))
    rw [List.take_length, useD_perm hperm, prodA_perm hperm] at hk
    have hW : useD (often x.p L) * 2 < prodA (often x.p L) := by
      have e : useD (often x.p L) * (wrk x.p M + wrk x.p M) = useD (often x.p L) * 2 * wrk x.p M := by
        rw [Nat.mul_assoc, Nat.two_mul]
      rw [e] at hk
      exact Nat.lt_of_mul_lt_mul_right hk
    have hf := prod_filter (fun y => decide (y.p ≤ x.p)) L
    change prodA (often x.p L) * useD L ≤ prodA L * useD (often x.p L) at hf
    have hD := useD_pos hL.pos
    have hf2 := Nat.le_trans hf (Nat.mul_le_mul_right (useD (often x.p L)) h)
    have e : 2 * useD L * useD (often x.p L) = useD (often x.p L) * 2 * useD L := by
      simp only [Nat.mul_assoc, Nat.mul_comm, Nat.mul_left_comm]
    rw [e] at hf2
    have := Nat.le_of_mul_le_mul_right hf2 hD
    omega
end Go.Proofs.Ytajfohnblmnjjaa
