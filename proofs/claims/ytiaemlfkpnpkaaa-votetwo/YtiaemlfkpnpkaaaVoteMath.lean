/-
  The mathematics of package vote: the middle, what more than half tell, the least that is near to more than half. No statement of the seat is here.
-/
import Derived.Test.YtiaemlfkpnpkaaaFtaMath
namespace Go.Proofs.Ytiaemlfkpnpkaaa
open Go.RowKit
set_option linter.unusedVariables false

/-- How many are x. -/
def cntE (l : List Int) (x : Int) : Nat := l.countP (fun y => decide (y = x))
def cntL (l : List Int) (x : Int) : Nat := l.countP (fun y => decide (y < x))
def cntG (l : List Int) (x : Int) : Nat := l.countP (fun y => decide (x < y))
theorem cnt_three (l : List Int) (x : Int) : cntL l x + cntE l x + cntG l x = l.length := by
  unfold cntL cntE cntG
  induction l with
  | nil => rfl
  | cons a r ih =>
    simp only [List.countP_cons, List.length_cons, decide_eq_true_eq]
    rcases Int.lt_trichotomy a x with h | h | h
    · rw [if_pos h, if_neg (by omega), if_neg (by omega)]; omega
    · rw [if_neg (by omega), if_pos h, if_neg (by omega)]; omega
    · rw [if_neg (by omega), if_neg (by omega), if_pos h]; omega
theorem cntL_next (l : List Int) (x : Int) : cntL l (x + 1) = cntL l x + cntE l x := by
  unfold cntL cntE
  induction l with
  | nil => rfl
  | cons a r ih =>
    simp only [List.countP_cons, decide_eq_true_eq]
    rcases Int.lt_trichotomy a x with h | h | h
    · rw [if_pos (by omega), if_pos h, if_neg (by omega)]; omega
    · rw [if_pos (by omega), if_neg (by omega), if_pos h]; omega
    · rw [if_neg (by omega), if_neg (by omega), if_neg (by omega)]; omega

/-- The middle one. -/
def midO (l : List Int) : Int := nth l (l.length / 2)
theorem midO_mem {l : List Int} (h : 0 < l.length) : midO l ∈ l := nth_mem (by omega)
/-- What more than half tell is the middle. -/
theorem most_mid {l : List Int} {x : Int} (h : l.length / 2 < cntE l x) : midO l = x := by
  have h3 := cnt_three l x
  have hn := cntL_next l x
  have hj : l.length / 2 < l.length := by omega
  have h1 := nth_lt hj x
  have h2 := nth_lt hj (x + 1)
  unfold cntL at *
  unfold midO
  omega
/-- Who has at most half on either side is the middle, and the middle has. -/
theorem sides_mid {l : List Int} {x : Int} (ho : l.length % 2 = 1) : (cntL l x ≤ l.length / 2 ∧ cntG l x ≤ l.length / 2) ↔ x = midO l := by
  have hj : l.length / 2 < l.length := by omega
  have h3 := cnt_three l x
  have hn := cntL_next l x
  have h1 := nth_lt hj x
  have h2 := nth_lt hj (x + 1)
  unfold midO
  unfold cntL at *
  omega

def middleE (l : List Int) : Int := if 400 < l.length then 2 else if l.length % 2 = 0 then 1 else 0
def middleV (l : List Int) : Int := if middleE l = 0 then midO l else 0
theorem middle_big {l : List Int} (h : 400 < l.length) : middleE l = 2 ∧ middleV l = 0 := by
  have e : middleE l = 2 := if_pos h
  exact ⟨e, by rw [middleV, e]; rfl⟩
theorem middle_even {l : List Int} (h : l.length ≤ 400) (h2 : l.length % 2 = 0) : middleE l = 1 ∧ middleV l = 0 := by
  have e : middleE l = 1 := by rw [middleE, if_neg (by omega), if_pos h2]
  exact ⟨e, by rw [middleV, e]; rfl⟩
theorem middle_ok {l : List Int} (h : l.length ≤ 400) (h2 : l.length % 2 = 1) : middleE l = 0 ∧ middleV l = midO l := by
  have e : middleE l = 0 := by rw [middleE, if_neg (by omega), if_neg (by omega)]
  exact ⟨e, by rw [middleV, e]; rfl⟩
theorem middle_0 {l : List Int} : middleE l = 0 ↔ l.length ≤ 400 ∧ l.length % 2 = 1 := by
  unfold middleE
  by_cases h : 400 < l.length
  · rw [if_pos h]; omega
  · rw [if_neg h]
    by_cases h2 : l.length % 2 = 0
    · rw [if_pos h2]; omega
    · rw [if_neg h2]; omega
theorem middleV_no {l : List Int} (h : ¬ middleE l = 0) : middleV l = 0 := if_neg h
theorem middleV_ok {l : List Int} (h : middleE l = 0) : middleV l = midO l := if_pos h

def mostE (l : List Int) : Int := if 400 < l.length then 2 else if l.length / 2 < cntE l (midO l) then 0 else 3
def mostV (l : List Int) : Int := if mostE l = 0 then midO l else 0
theorem most_big {l : List Int} (h : 400 < l.length) : mostE l = 2 ∧ mostV l = 0 := by
  have e : mostE l = 2 := if_pos h
  exact ⟨e, by rw [mostV, e]; rfl⟩
theorem most_none {l : List Int} (h : l.length ≤ 400) (h2 : ¬ l.length / 2 < cntE l (midO l)) : mostE l = 3 ∧ mostV l = 0 := by
  have e : mostE l = 3 := by rw [mostE, if_neg (by omega), if_neg h2]
  exact ⟨e, by rw [mostV, e]; rfl⟩
theorem most_ok {l : List Int} (h : l.length ≤ 400) (h2 : l.length / 2 < cntE l (midO l)) : mostE l = 0 ∧ mostV l = midO l := by
  have e : mostE l = 0 := by rw [mostE, if_neg (by omega), if_pos h2]
  exact ⟨e, by rw [mostV, e]; rfl⟩
theorem most_is {l : List Int} {x : Int} (h : l.length ≤ 400) (h2 : l.length / 2 < cntE l x) : mostE l = 0 ∧ mostV l = x := by
  have e := most_mid h2
  subst e
  exact most_ok h h2
theorem most_0 {l : List Int} : mostE l = 0 ↔ l.length ≤ 400 ∧ l.length / 2 < cntE l (midO l) := by
  unfold mostE
  by_cases h : 400 < l.length
  · rw [if_pos h]; omega
  · rw [if_neg h]
    by_cases h2 : l.length / 2 < cntE l (midO l)
    · rw [if_pos h2]; omega
    · rw [if_neg h2]; omega
theorem mostV_no {l : List Int} (h : ¬ mostE l = 0) : mostV l = 0 := if_neg h
theorem mostV_ok {l : List Int} (h : mostE l = 0) : mostV l = midO l := if_pos h
theorem most_nobody {l : List Int} (h : l.length ≤ 400) (h2 : ∀ x ∈ l, ¬ l.length / 2 < cntE l x) : mostE l = 3 ∧ mostV l = 0 := by
  refine most_none h (fun g => ?_)
  have : 0 < cntE l (midO l) := by omega
  unfold cntE at this
  obtain ⟨y, hy, e⟩ := List.countP_pos_iff.1 this
  simp at e
  subst e
  exact h2 _ hy g
/-- In whatever order. -/
theorem midO_perm {l m : List Int} (h : l.Perm m) : midO l = midO m := by
  unfold midO nth
  rw [sortI_perm h, h.length_eq]
theorem cntE_perm {l m : List Int} (h : l.Perm m) (x : Int) : cntE l x = cntE m x := h.countP_eq _
theorem mostE_perm {l m : List Int} (h : l.Perm m) : mostE l = mostE m := by
  unfold mostE
  rw [midO_perm h, cntE_perm h, h.length_eq]
theorem mostV_perm {l m : List Int} (h : l.Perm m) : mostV l = mostV m := by
  unfold mostV
  rw [midO_perm h, mostE_perm h]
/-- Most tell x, if and only if x is what Most tells. -/
theorem most_iff {l : List Int} {x : Int} (h : mostE l = 0) : l.length < 2 * cntE l x ↔ x = mostV l := by
  obtain ⟨h1, h2⟩ := most_0.1 h
  rw [mostV_ok h]
  constructor
  · intro g
    exact (most_mid (by omega)).symm
  · rintro rfl
    omega

/-! Near -/
def nearB (v far o : Int) : Bool := decide (v - far ≤ o) && decide (o ≤ v + far)
def cntN (l : List Int) (v far : Int) : Nat := l.countP (nearB v far)
theorem cntN_zero (l : List Int) (v : Int) : cntN l v 0 = cntE l v := by
  unfold cntN cntE
  refine List.countP_congr (fun o _ => ?_)
  simp [nearB]
  omega
theorem cntN_more (l : List Int) (v far more : Int) (h : 0 ≤ more) : cntN l v far ≤ cntN l v (far + more) := by
  unfold cntN
  refine List.countP_mono_left (fun o _ ho => ?_)
  simp [nearB] at *
  omega
def nearP (l : List Int) (far v : Int) : Bool := decide (l.length / 2 < cntN l v far)
def nearF (l : List Int) (far : Int) : Option Int := (sortI l).find? (nearP l far)
def wrongN (l : List Int) (far : Int) : Prop := 400 < l.length ∨ far < 0 ∨ 1099511627776 < far ∨ l.any outX = true
instance (l : List Int) (far : Int) : Decidable (wrongN l far) := by unfold wrongN; infer_instance
def nearE (l : List Int) (far : Int) : Int := if wrongN l far then 2 else if (nearF l far).isSome then 0 else 3
def nearV (l : List Int) (far : Int) : Int := if wrongN l far then 0 else (nearF l far).getD 0
theorem near_wrong {l : List Int} {far : Int} (h : wrongN l far) : nearE l far = 2 ∧ nearV l far = 0 := ⟨if_pos h, if_pos h⟩
theorem near_some {l : List Int} {far v : Int} (h : ¬ wrongN l far) (g : nearF l far = some v) : nearE l far = 0 ∧ nearV l far = v := by
  rw [nearE, nearV, if_neg h, if_neg h, g]
  exact ⟨rfl, rfl⟩
theorem near_none {l : List Int} {far : Int} (h : ¬ wrongN l far) (g : nearF l far = none) : nearE l far = 3 ∧ nearV l far = 0 := by
  rw [nearE, nearV, if_neg h, if_neg h, g]
  exact ⟨rfl, rfl⟩
theorem find_sorted {p : Int → Bool} : ∀ {s : List Int} (hs : s.Pairwise (· ≤ ·)) {v : Int}, v ∈ s → p v = true → (∀ x ∈ s, p x = true → v ≤ x) → s.find? p = some v
  | [], _, v, hv, _, _ => by simp at hv
  | a :: r, hs, v, hv, hp, hm => by
    rw [List.pairwise_cons] at hs
    by_cases ha : p a = true
    · rw [List.find?_cons_of_pos ha]
      have h1 := hm a (by simp) ha
      rcases List.mem_cons.1 hv with e | e
      · rw [e]
      · have h2 := hs.1 v e
        congr 1
        omega
    · rw [List.find?_cons_of_neg ha]
      rcases List.mem_cons.1 hv with e | e
      · subst e; exact absurd hp ha
      · exact find_sorted hs.2 e hp (fun x hx => hm x (List.mem_cons_of_mem _ hx))
theorem nearF_is {l : List Int} {far v : Int} (h1 : v ∈ l) (h2 : nearP l far v = true) (h3 : ∀ x ∈ l, nearP l far x = true → v ≤ x) : nearF l far = some v :=
  find_sorted (sortI_rises l) ((sortI_is l).mem_iff.2 h1) h2 (fun x hx => h3 x ((sortI_is l).mem_iff.1 hx))
theorem nearF_no {l : List Int} {far : Int} (h : ∀ x ∈ l, nearP l far x = false) : nearF l far = none := by
  unfold nearF
  rw [List.find?_eq_none]
  intro x hx
  simp [h x ((sortI_is l).mem_iff.1 hx)]
theorem find_least {p : Int → Bool} : ∀ {s : List Int} (hs : s.Pairwise (· ≤ ·)) {v : Int}, s.find? p = some v → ∀ x ∈ s, p x = true → v ≤ x
  | [], _, v, hv, _, _, _ => by simp at hv
  | a :: r, hs, v, hv, x, hx, hp => by
    rw [List.pairwise_cons] at hs
    by_cases ha : p a = true
    · rw [List.find?_cons_of_pos ha] at hv
      simp at hv
      subst hv
      rcases List.mem_cons.1 hx with e | e
      · omega
      · exact hs.1 x e
    · rw [List.find?_cons_of_neg ha] at hv
      rcases List.mem_cons.1 hx with e | e
      · subst e; exact absurd hp ha
      · exact find_least hs.2 hv x e hp
theorem near_0 {l : List Int} {far : Int} (h : nearE l far = 0) : ¬ wrongN l far ∧ nearV l far ∈ l ∧ nearP l far (nearV l far) = true ∧ ∀ x ∈ l, nearP l far x = true → nearV l far ≤ x := by
  by_cases hw : wrongN l far
  · rw [(near_wrong hw).1] at h; exact absurd h (by decide)
  · cases hf : nearF l far with
    | none => rw [(near_none hw hf).1] at h; exact absurd h (by decide)
    | some v =>
      rw [(near_some hw hf).2]
      refine ⟨hw, (sortI_is l).mem_iff.1 (List.mem_of_find?_eq_some hf), List.find?_some hf, fun x hx hp => ?_⟩
      exact find_least (sortI_rises l) hf x ((sortI_is l).mem_iff.2 hx) hp
theorem nearV_no {l : List Int} {far : Int} (h : ¬ nearE l far = 0) : nearV l far = 0 := by
  by_cases hw : wrongN l far
  · exact (near_wrong hw).2
  · cases hf : nearF l far with
    | none => exact (near_none hw hf).2
    | some v => exact absurd (near_some hw hf).1 h
/-- The codes are small. -/
theorem nearE_3 (l : List Int) (far : Int) : nearE l far = 0 ∨ nearE l far = 2 ∨ nearE l far = 3 := by
  unfold nearE
  split
  · exact .inr (.inl rfl)
  · split
    · exact .inl rfl
    · exact .inr (.inr rfl)
theorem near_zero_most {l : List Int} {far : Int} (h : ¬ wrongN l far) (hm : mostE l = 0) : nearE l 0 = 0 ∧ nearV l 0 = mostV l := by
  obtain ⟨h1, h2⟩ := most_0.1 hm
  rw [mostV_ok hm]
  have hw : ¬ wrongN l 0 := by
    unfold wrongN at *
    intro g
    apply h
    rcases g with g | g | g | g
    · exact .inl g
    · omega
    · omega
    · exact .inr (.inr (.inr g))
  have hp : 0 < l.length := by
    have := cnt_three l (midO l)
    omega
  refine near_some hw (nearF_is (midO_mem hp) ?_ ?_)
  · rw [nearP, cntN_zero]
    exact decide_eq_true h2
  · intro x hx hp
    rw [nearP, cntN_zero] at hp
    have := most_mid (of_decide_eq_true hp)
    omega
theorem near_more {l : List Int} {far more : Int} (h : nearE l far = 0) (h2 : nearE l (far + more) = 0) (hm : 0 ≤ more) : nearV l (far + more) ≤ nearV l far := by
  obtain ⟨_, g1, g2, _⟩ := near_0 h
  obtain ⟨_, _, _, k⟩ := near_0 h2
  refine k _ g1 ?_
  have := cntN_more l (nearV l far) far more hm
  have e := of_decide_eq_true g2
  exact decide_eq_true (by omega)
/-- Two copies. -/
def twoV (g : Bool) (v : Int) (g2 : Bool) (v2 : Int) : Int := if g then v else if g2 then v2 else 0
def twoE (g g2 : Bool) : Int := if g || g2 then 0 else 3
def sameV (g : Bool) (v : Int) (g2 : Bool) (v2 : Int) : Int := if g && g2 && v != v2 then 0 else twoV g v g2 v2
def sameE (g : Bool) (v : Int) (g2 : Bool) (v2 : Int) : Int := if g && g2 && v != v2 then 7 else twoE g g2
end Go.Proofs.Ytiaemlfkpnpkaaa
