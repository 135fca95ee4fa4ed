/-
  The mathematics of package evq: all that was handed in, how many came, are known to have come, were taken. No statement of the seat is here.
-/
import Derived.Test.YtlanmehbcpgoaaaBase
namespace Go.Proofs.Ytlanmehbcpgoaaa
open Go.RowKit
set_option linter.unusedVariables false

structure EvS where
  al : List Int
  cm : Nat
  kn : Nat
  tk : Nat
structure EvO where
  kd : Int
  n : Int
def ev0 : EvS := ⟨[], 0, 0, 0⟩
def evE (s : EvS) (o : EvO) : Int :=
  if o.kd < 1 ∨ 3 < o.kd then 5
  else if o.kd = 1 then (if s.al.length - s.kn = 4 then 4 else 0)
  else if o.kd = 2 then (if o.n < 0 ∨ 3 < o.n then 2 else 0)
  else if s.cm = s.tk then 3 else 0
/-- How many have come behind a slot. -/
def comeC (s : EvS) (n : Int) : Nat := if n % 2 = 0 ∧ s.cm = s.kn ∧ s.kn < s.al.length ∧ s.cm - s.tk < 4 then s.cm + 1 else s.cm
def evG (s : EvS) (o : EvO) : EvS :=
  if o.kd = 1 then ⟨s.al ++ [o.n], s.cm, s.kn, s.tk⟩
  else if o.kd = 2 then ⟨s.al, comeC s o.n, if o.n < 2 then comeC s o.n else s.kn, s.tk⟩
  else ⟨s.al, s.cm, s.kn, s.tk + 1⟩
def evS (s : EvS) (o : EvO) : EvS := if evE s o = 0 then evG s o else s
def evRun (l : List EvO) : EvS := l.foldl evS ev0
def evErr : EvS → List EvO → List Int
  | _, [] => []
  | s, o :: l => evE s o :: evErr (evS s o) l
def evErrs (l : List EvO) : List Int := evErr ev0 l
def evTaken (s : EvS) : List Int := s.al.take s.tk
theorem evRun_snoc (l : List EvO) (o : EvO) : evRun (l ++ [o]) = evS (evRun l) o := by unfold evRun; rw [List.foldl_append]; rfl
theorem evRun_append (l t : List EvO) : evRun (l ++ t) = t.foldl evS (evRun l) := by unfold evRun; rw [List.foldl_append]
theorem evErr_append (l t : List EvO) : ∀ s, evErr s (l ++ t) = evErr s l ++ evErr (l.foldl evS s) t := by
  induction l with
  | nil => intro s; rfl
  | cons o l ih => intro s; rw [List.cons_append, evErr, evErr, List.cons_append, ih]; rfl
theorem evErrs_append (l t : List EvO) : evErrs (l ++ t) = evErrs l ++ evErr (evRun l) t := evErr_append l t ev0
theorem evErrs_snoc (l : List EvO) (o : EvO) : evErrs (l ++ [o]) = evErrs l ++ [evE (evRun l) o] := evErrs_append l [o]
theorem evErr_length : ∀ (l : List EvO) (s : EvS), (evErr s l).length = l.length
  | [], _ => rfl
  | o :: l, s => by rw [evErr, List.length_cons, List.length_cons, evErr_length l]
theorem evErrs_length (l : List EvO) : (evErrs l).length = l.length := evErr_length l ev0

/-- What holds at each place. -/
structure EvOk (s : EvS) : Prop where
  k1 : s.kn ≤ s.cm
  k2 : s.cm ≤ s.kn + 1
  k3 : s.cm ≤ s.al.length
  k4 : s.tk ≤ s.cm
  k5 : s.al.length ≤ s.kn + 4
  k6 : s.cm ≤ s.tk + 4
theorem evOk_start : EvOk ev0 := ⟨Nat.le_refl _, by decide, Nat.le_refl _, Nat.le_refl _, by decide, by decide⟩
theorem comeC_cases (s : EvS) (n : Int) : (comeC s n = s.cm + 1 ∧ s.cm = s.kn ∧ s.kn < s.al.length ∧ s.cm - s.tk < 4) ∨ comeC s n = s.cm := by
  unfold comeC
  split
  · rename_i g; exact .inl ⟨rfl, g.2⟩
  · exact .inr rfl
theorem EvOk.step {s : EvS} (h : EvOk s) (o : EvO) : EvOk (evS s o) := by
  unfold evS
  split
  · rename_i he
    obtain ⟨k1, k2, k3, k4, k5, k6⟩ := h
    unfold evE at he
    split at he
    · cases he
    · unfold evG
      by_cases h1 : o.kd = 1
      · rw [if_pos h1] at he ⊢
        split at he
        · cases he
        · exact ⟨k1, k2, by show s.cm ≤ (s.al ++ [o.n]).length; rw [List.length_append]; omega, k4, by show (s.al ++ [o.n]).length ≤ s.kn + 4; rw [List.length_append, List.length_singleton]; omega, k6⟩
      · rw [if_neg h1] at he ⊢
        by_cases h2 : o.kd = 2
        · rw [if_pos h2] at he ⊢
          rcases comeC_cases s o.n with ⟨g1, g2, g3, g4⟩ | g1
          · rw [g1]
            split
            · exact ⟨Nat.le_refl _, by show s.cm + 1 ≤ s.cm + 1 + 1; omega, by show s.cm + 1 ≤ s.al.length; omega, by show s.tk ≤ s.cm + 1; omega, by show s.al.length ≤ s.cm + 1 + 4; omega, by show s.cm + 1 ≤ s.tk + 4; omega⟩
            · exact ⟨by show s.kn ≤ s.cm + 1; omega, by show s.cm + 1 ≤ s.kn + 1; omega, by show s.cm + 1 ≤ s.al.length; omega, by show s.tk ≤ s.cm + 1; omega, k5, by show s.cm + 1 ≤ s.tk + 4; omega⟩
          · rw [g1]
            split
            · exact ⟨Nat.le_refl _, by show s.cm ≤ s.cm + 1; omega, k3, k4, by show s.al.length ≤ s.cm + 4; omega, k6⟩
            · exact ⟨k1, k2, k3, k4, k5, k6⟩
        · rw [if_neg h2] at he ⊢
          split at he
          · cases he
          · exact ⟨k1, k2, k3, by show s.tk + 1 ≤ s.cm; omega, k5, by show s.cm ≤ s.tk + 1 + 4; omega⟩
  · exact h
theorem EvOk.fold {s : EvS} (h : EvOk s) (l : List EvO) : EvOk (l.foldl evS s) := by
  induction l generalizing s with
  | nil => exact h
  | cons o l ih => exact ih (h.step o)
theorem ev_ok (l : List EvO) : EvOk (evRun l) := evOk_start.fold l

/-- What is handed in: told by the errors. -/
def handedL : List EvO → List Int → List Int
  | o :: l, e :: r => if e = 0 ∧ o.kd = 1 then o.n :: handedL l r else handedL l r
  | _, _ => []
theorem al_step (s : EvS) (o : EvO) : (evS s o).al = if evE s o = 0 ∧ o.kd = 1 then s.al ++ [o.n] else s.al := by
  unfold evS
  by_cases he : evE s o = 0
  · rw [if_pos he]
    unfold evG
    by_cases h1 : o.kd = 1
    · rw [if_pos h1, if_pos ⟨he, h1⟩]
    · rw [if_neg h1, if_neg (show ¬ (evE s o = 0 ∧ o.kd = 1) from fun g => h1 g.2)]
      by_cases h2 : o.kd = 2
      · rw [if_pos h2]
      · rw [if_neg h2]
  · rw [if_neg he, if_neg (fun g => he g.1)]
theorem handed_is : ∀ (l : List EvO) (s : EvS), (l.foldl evS s).al = s.al ++ handedL l (evErr s l)
  | [], s => by simp [handedL]
  | o :: l, s => by
    rw [List.foldl_cons, handed_is l, al_step, evErr, handedL]
    split <;> simp
theorem handed_run (l : List EvO) : handedL l (evErrs l) = (evRun l).al := (handed_is l ev0).symm
/-- What comes later: more handed in, more taken. -/
theorem ev_later (l : List EvO) : ∀ s : EvS, (∃ m, (l.foldl evS s).al = s.al ++ m) ∧ s.tk ≤ (l.foldl evS s).tk := by
  induction l with
  | nil => intro s; exact ⟨⟨[], by simp⟩, Nat.le_refl _⟩
  | cons o l ih =>
    intro s
    obtain ⟨⟨m, h1⟩, h2⟩ := ih (evS s o)
    have ha := al_step s o
    have ht : s.tk ≤ (evS s o).tk := by
      unfold evS
      split
      · unfold evG
        split
        · exact Nat.le_refl _
        · split
          · exact Nat.le_refl _
          · show s.tk ≤ s.tk + 1; omega
      · exact Nat.le_refl _
    refine ⟨?_, Nat.le_trans ht h2⟩
    rw [List.foldl_cons, h1, ha]
    split
    · exact ⟨o.n :: m, by simp⟩
    · exact ⟨m, rfl⟩
theorem taken_later (l t : List EvO) : (evTaken (evRun l)).length ≤ (evTaken (evRun (l ++ t))).length ∧ (evTaken (evRun (l ++ t))).take (evTaken (evRun l)).length = evTaken (evRun l) := by
  obtain ⟨⟨m, h1⟩, h2⟩ := ev_later t (evRun l)
  rw [← evRun_append] at h1 h2
  have o1 := ev_ok l
  have o2 := ev_ok (l ++ t)
  generalize evRun (l ++ t) = s2 at *
  generalize evRun l = s1 at *
  have e1 : (evTaken s1).length = s1.tk := by unfold evTaken; rw [List.length_take]; have := o1.k3; have := o1.k4; omega
  have e2 : (evTaken s2).length = s2.tk := by unfold evTaken; rw [List.length_take]; have := o2.k3; have := o2.k4; omega
  refine ⟨by omega, ?_⟩
  rw [e1]
  unfold evTaken
  rw [List.take_take, Nat.min_eq_left h2, h1, List.take_append_of_le_length (by have := o1.k3; have := o1.k4; omega)]
theorem taken_len {s : EvS} (h : EvOk s) : (evTaken s).length = s.tk := by
  unfold evTaken
  rw [List.length_take]
  have := h.k3
  have := h.k4
  omega
/-- A slot that is lost both ways is no slot. -/
theorem lost_both (s : EvS) : evE s ⟨2, 3⟩ = 0 ∧ evS s ⟨2, 3⟩ = s := by
  have e : evE s ⟨2, 3⟩ = 0 := rfl
  refine ⟨e, ?_⟩
  unfold evS
  rw [if_pos e]
  have c : comeC s 3 = s.cm := if_neg (fun g => absurd g.1 (by decide))
  show (⟨s.al, comeC s 3, if (3 : Int) < 2 then comeC s 3 else s.kn, s.tk⟩ : EvS) = s
  rw [c]
  rfl
theorem lost_insert (l t : List EvO) : evRun (l ++ ⟨2, 3⟩ :: t) = evRun (l ++ t) ∧ evErrs (l ++ ⟨2, 3⟩ :: t) = evErrs l ++ 0 :: evErr (evRun l) t ∧ evErrs (l ++ t) = evErrs l ++ evErr (evRun l) t := by
  obtain ⟨h1, h2⟩ := lost_both (evRun l)
  refine ⟨?_, ?_, evErrs_append l t⟩
  · rw [evRun_append, evRun_append, List.foldl_cons, h2]
  · rw [evErrs_append, evErr, h1, h2]

/-! slots and takes, none lost: all comes in the end -/
/-- What waits to be known, whether the first of it has come, what waits to be taken. -/
def absT (a : Nat × Nat × Nat) : Nat × Nat × Nat :=
  let b1 := if a.2.1 = 0 ∧ 0 < a.1 ∧ a.2.2 < 4 then 1 else a.2.1
  let c1 := if a.2.1 = 0 ∧ 0 < a.1 ∧ a.2.2 < 4 then a.2.2 + 1 else a.2.2
  (a.1 - b1, 0, c1 - 1)
def absN : Nat → Nat × Nat × Nat → Nat × Nat × Nat
  | 0, a => a
  | m + 1, a => absN m (absT a)
theorem abs_check : ∀ s < 5, ∀ b < 2, ∀ c < 5, s < b ∨ absN 12 (s, b, c) = (0, 0, 0) := by decide +kernel
def absE (s : EvS) : Nat × Nat × Nat := (s.al.length - s.kn, s.cm - s.kn, s.cm - s.tk)
theorem abs_round {s : EvS} (h : EvOk s) : absE (evS (evS s ⟨2, 0⟩) ⟨3, 0⟩) = absT (absE s) ∧ (evS (evS s ⟨2, 0⟩) ⟨3, 0⟩).al = s.al := by
  obtain ⟨k1, k2, k3, k4, k5, k6⟩ := h
  have e1 : evS s ⟨2, 0⟩ = ⟨s.al, comeC s 0, comeC s 0, s.tk⟩ := rfl
  rw [e1]
  have e2 : ∀ c : Nat, evS ⟨s.al, c, c, s.tk⟩ ⟨3, 0⟩ = ⟨s.al, c, c, if c = s.tk then s.tk else s.tk + 1⟩ := fun c => by
    unfold evS
    by_cases g : c = s.tk
    · have : evE ⟨s.al, c, c, s.tk⟩ ⟨3, 0⟩ = 3 := if_pos g
      rw [this, if_neg (by decide), if_pos g]
    · have : evE ⟨s.al, c, c, s.tk⟩ ⟨3, 0⟩ = 0 := if_neg g
      rw [this, if_pos rfl, if_neg g]
      rfl
  rw [e2]
  refine ⟨?_, rfl⟩
  unfold absE absT
  by_cases g : s.cm = s.kn ∧ s.kn < s.al.length ∧ s.cm - s.tk < 4
  · have ec : comeC s 0 = s.cm + 1 := if_pos ⟨rfl, g⟩
    obtain ⟨g1, g2, g3⟩ := g
    rw [ec]
    simp only
    rw [if_neg (by omega), if_pos (show s.cm - s.kn = 0 ∧ 0 < s.al.length - s.kn ∧ s.cm - s.tk < 4 by omega), if_pos (show s.cm - s.kn = 0 ∧ 0 < s.al.length - s.kn ∧ s.cm - s.tk < 4 by omega)]
    refine Prod.ext (by show s.al.length - (s.cm + 1) = s.al.length - s.kn - 1; omega) (Prod.ext (by show s.cm + 1 - (s.cm + 1) = 0; omega) (by show s.cm + 1 - (s.tk + 1) = s.cm - s.tk + 1 - 1; omega))
  · have ec : comeC s 0 = s.cm := if_neg (fun q => g q.2)
    rw [ec]
    simp only
    rw [if_neg (show ¬ (s.cm - s.kn = 0 ∧ 0 < s.al.length - s.kn ∧ s.cm - s.tk < 4) by omega), if_neg (show ¬ (s.cm - s.kn = 0 ∧ 0 < s.al.length - s.kn ∧ s.cm - s.tk < 4) by omega)]
    refine Prod.ext (by show s.al.length - s.cm = s.al.length - s.kn - (s.cm - s.kn); omega) (Prod.ext (by show s.cm - s.cm = 0; omega) ?_)
    show s.cm - (if s.cm = s.tk then s.tk else s.tk + 1) = s.cm - s.tk - 1
    split <;> omega
def slotsTakes : Nat → List EvO
  | 0 => []
  | m + 1 => ⟨2, 0⟩ :: ⟨3, 0⟩ :: slotsTakes m
theorem abs_rounds : ∀ (m : Nat) {s : EvS}, EvOk s → absE ((slotsTakes m).foldl evS s) = absN m (absE s) ∧ ((slotsTakes m).foldl evS s).al = s.al
  | 0, s, _ => ⟨rfl, rfl⟩
  | m + 1, s, h => by
    obtain ⟨h1, h2⟩ := abs_round h
    obtain ⟨g1, g2⟩ := abs_rounds m ((h.step ⟨2, 0⟩).step ⟨3, 0⟩)
    refine ⟨?_, g2.trans h2⟩
    show absE ((slotsTakes m).foldl evS (evS (evS s ⟨2, 0⟩) ⟨3, 0⟩)) = _
    rw [g1, h1]
    rfl
theorem all_come (l : List EvO) : let s := evRun (l ++ slotsTakes 12); s.al = (evRun l).al ∧ evTaken s = s.al ∧ s.al.length - s.kn = 0 ∧ s.cm - s.tk = 0 := by
  intro s
  have h := ev_ok l
  have h2 := ev_ok (l ++ slotsTakes 12)
  obtain ⟨g1, g2⟩ := abs_rounds 12 h
  rw [← evRun_append] at g1 g2
  have hc := abs_check ((evRun l).al.length - (evRun l).kn) (by have := h.k5; omega) ((evRun l).cm - (evRun l).kn) (by have := h.k2; omega) ((evRun l).cm - (evRun l).tk) (by have := h.k6; omega)
  have hb : ¬ (evRun l).al.length - (evRun l).kn < (evRun l).cm - (evRun l).kn := by have := h.k3; omega
  have hc := hc.resolve_left hb
  change absN 12 (absE (evRun l)) = _ at hc
  rw [hc] at g1
  change absE s = _ at g1
  have p1 : s.al.length - s.kn = 0 := congrArg (·.1) g1
  have p2 : s.cm - s.kn = 0 := congrArg (·.2.1) g1
  have p3 : s.cm - s.tk = 0 := congrArg (·.2.2) g1
  refine ⟨g2, ?_, p1, p3⟩
  have o : EvOk s := h2
  have := o.k1; have := o.k3; have := o.k4
  unfold evTaken
  exact List.take_of_length_le (by omega)

/-! with fewer lost no fewer come -/
def calmE : List Int → List EvO
  | [] => []
  | n :: l => ⟨1, n⟩ :: ⟨2, 0⟩ :: ⟨3, 0⟩ :: calmE l
theorem calm_fold : ∀ (l : List Int) (a : List Int), (calmE l).foldl evS ⟨a, a.length, a.length, a.length⟩ = ⟨a ++ l, (a ++ l).length, (a ++ l).length, (a ++ l).length⟩
  | [], a => by simp [calmE]
  | n :: l, a => by
    have e1 : evS ⟨a, a.length, a.length, a.length⟩ ⟨1, n⟩ = ⟨a ++ [n], a.length, a.length, a.length⟩ := by
      have : evE ⟨a, a.length, a.length, a.length⟩ ⟨1, n⟩ = 0 := by
        show (if a.length - a.length = 4 then (4 : Int) else 0) = 0
        rw [if_neg (by omega)]
      unfold evS
      rw [if_pos this]
      rfl
    have e2 : evS ⟨a ++ [n], a.length, a.length, a.length⟩ ⟨2, 0⟩ = ⟨a ++ [n], a.length + 1, a.length + 1, a.length⟩ := by
      have c : comeC ⟨a ++ [n], a.length, a.length, a.length⟩ 0 = a.length + 1 := if_pos ⟨rfl, rfl, by show a.length < (a ++ [n]).length; simp, by show a.length - a.length < 4; omega⟩
      show (⟨a ++ [n], comeC ⟨a ++ [n], a.length, a.length, a.length⟩ 0, comeC ⟨a ++ [n], a.length, a.length, a.length⟩ 0, a.length⟩ : EvS) = _
      rw [c]
    have e3 : evS ⟨a ++ [n], a.length + 1, a.length + 1, a.length⟩ ⟨3, 0⟩ = ⟨a ++ [n], (a ++ [n]).length, (a ++ [n]).length, (a ++ [n]).length⟩ := by
      have : evE ⟨a ++ [n], a.length + 1, a.length + 1, a.length⟩ ⟨3, 0⟩ = 0 := by
        show (if a.length + 1 = a.length then (3 : Int) else 0) = 0
        rw [if_neg (by omega)]
      unfold evS
      rw [if_pos this]
      show (⟨a ++ [n], a.length + 1, a.length + 1, a.length + 1⟩ : EvS) = _
      simp
    show (calmE l).foldl evS (evS (evS (evS ⟨a, a.length, a.length, a.length⟩ ⟨1, n⟩) ⟨2, 0⟩) ⟨3, 0⟩) = _
    rw [e1, e2, e3, calm_fold l (a ++ [n]), List.append_assoc]
    rfl
theorem calm_taken (l : List Int) : evTaken (evRun (calmE l)) = l := by
  have := calm_fold l []
  change evRun (calmE l) = _ at this
  rw [this]
  simp [evTaken]
theorem al_count (l : List EvO) : ∀ s : EvS, (l.foldl evS s).al.length ≤ s.al.length + l.countP fun o => decide (o.kd = 1) := by
  induction l with
  | nil => intro s; exact Nat.le_add_right _ _
  | cons o l ih =>
    intro s
    have := ih (evS s o)
    rw [al_step] at this
    rw [List.foldl_cons, List.countP_cons]
    split at this
    · rename_i g
      rw [decide_eq_true g.2]
      rw [List.length_append, List.length_singleton] at this
      simp
      omega
    · split <;> omega
/-- Never more taken than handed in. -/
theorem taken_few (l : List EvO) : (evTaken (evRun l)).length ≤ l.countP fun o => decide (o.kd = 1) := by
  have h := ev_ok l
  have h1 := al_count l ev0
  change (evRun l).al.length ≤ 0 + _ at h1
  rw [taken_len h]
  have := h.k3; have := h.k4
  omega
end Go.Proofs.Ytlanmehbcpgoaaa
