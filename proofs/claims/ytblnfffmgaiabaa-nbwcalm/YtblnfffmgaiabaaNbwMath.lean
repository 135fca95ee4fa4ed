/-
  The mathematics of package nbw: the writer as a number of steps, the reader's state, what is read. No statement of the seat is here.
-/
import Derived.Test.YtblnfffmgaiabaaBase
namespace Go.Proofs.Ytblnfffmgaiabaa
open Go.RowKit
set_option linter.unusedVariables false

/-- The counter and both words behind d steps of the writer. -/
def cntQ (d : Nat) : Nat := d / 4 * 2 + (d % 4 + 2) / 3
def wd1 (d : Nat) : Nat := (d + 2) / 4
def wd2 (d : Nat) : Nat := (d + 1) / 4
theorem cntQ_even {d : Nat} (h : cntQ d % 2 = 0) : d % 4 = 0 ∧ cntQ d = d / 4 * 2 := by
  unfold cntQ at *
  have : d % 4 < 4 := Nat.mod_lt _ (by decide)
  have h2 : (d % 4 + 2) / 3 = if d % 4 = 0 then 0 else 1 := by
    split <;> omega
  split at h2 <;> omega
theorem cntQ_mono {a b : Nat} (h : a ≤ b) : cntQ a ≤ cntQ b := by unfold cntQ; omega
theorem cntQ_half (d : Nat) : cntQ d / 2 = d / 4 := by unfold cntQ; omega
theorem cntQ_next {d : Nat} : cntQ (d + 1) = cntQ d + if d % 4 = 0 ∨ d % 4 = 3 then 1 else 0 := by
  unfold cntQ
  split <;> omega
theorem wd1_next {d : Nat} : wd1 (d + 1) = wd1 d + if d % 4 = 1 then 1 else 0 := by
  unfold wd1; split <;> omega
theorem wd2_next {d : Nat} : wd2 (d + 1) = wd2 d + if d % 4 = 2 then 1 else 0 := by
  unfold wd2; split <;> omega

structure GotQ where
  fi : Nat
  se : Nat
  tr : Nat
  deriving DecidableEq
/-- The reader: which step of an attempt comes next, the counter that it saw, the attempts so far, the words that it read. -/
structure RdQ where
  pos : Nat
  saw : Nat
  tr : Nat
  fi : Nat
  se : Nat
  deriving DecidableEq
def rd0 : RdQ := ⟨0, 0, 0, 0, 0⟩
/-- One step of the reader while the writer has done d. -/
def readQ (d : Nat) (r : RdQ) : RdQ :=
  if r.pos = 0 then (if cntQ d % 2 = 1 then ⟨0, cntQ d, r.tr + 1, r.fi, r.se⟩ else ⟨1, cntQ d, r.tr + 1, r.fi, r.se⟩)
  else if r.pos = 1 then ⟨2, r.saw, r.tr, wd1 d, r.se⟩
  else if r.pos = 2 then ⟨3, r.saw, r.tr, r.fi, wd2 d⟩
  else if r.saw = cntQ d then ⟨0, r.saw, 0, r.fi, r.se⟩ else ⟨0, r.saw, r.tr, r.fi, r.se⟩
/-- What it gives back. -/
def giveQ (d : Nat) (r : RdQ) : List GotQ := if r.pos = 3 ∧ r.saw = cntQ d then [⟨r.fi, r.se, r.tr⟩] else []
structure StQ where
  d : Nat
  r : RdQ
  out : List GotQ
def st0 : StQ := ⟨0, rd0, []⟩
def stepQ (s : StQ) (x : Int) : StQ := if x = 1 then ⟨s.d + 1, s.r, s.out⟩ else ⟨s.d, readQ s.d s.r, s.out ++ giveQ s.d s.r⟩
def runQ (l : List Int) : StQ := l.foldl stepQ st0
theorem runQ_snoc (l : List Int) (x : Int) : runQ (l ++ [x]) = stepQ (runQ l) x := by unfold runQ; rw [List.foldl_append]; rfl
theorem runQ_append (l t : List Int) : runQ (l ++ t) = t.foldl stepQ (runQ l) := by unfold runQ; rw [List.foldl_append]
theorem runQ_nil : runQ [] = st0 := rfl
/-- The errors, and the answer. -/
def kindB (x : Int) : Bool := x == 1 || x == 2
def playQE (l : List Int) : Int := if 400 < l.length then 2 else if l.all kindB = true then 0 else 5
def playQN (l : List Int) : Nat := if playQE l = 0 then (runQ l).d / 4 else 0
def playQL (l : List Int) : List GotQ := if playQE l = 0 then (runQ l).out else []
theorem playQE_big {l : List Int} (h : 400 < l.length) : playQE l = 2 := if_pos h
theorem playQE_ok {l : List Int} : playQE l = 0 ↔ l.length ≤ 400 ∧ ∀ x ∈ l, x = 1 ∨ x = 2 := by
  unfold playQE
  split
  · exact ⟨fun h => absurd h (by decide), fun h => absurd h.1 (by omega)⟩
  · split
    · rename_i h1 h2
      refine ⟨fun _ => ⟨by omega, fun x hx => ?_⟩, fun _ => rfl⟩
      have := List.all_eq_true.1 h2 x hx
      simpa [kindB] using this
    · rename_i h1 h2
      refine ⟨fun h => absurd h (by decide), fun h => absurd (List.all_eq_true.2 fun x hx => ?_) h2⟩
      rcases h.2 x hx with e | e <;> subst e <;> rfl

/-! the writer -/
def onesQ (l : List Int) : Nat := l.countP (fun x => decide (x = 1))
theorem runQ_d (l : List Int) : (runQ l).d = onesQ l := by
  induction l using snoc_rec with
  | nil => rfl
  | snoc l x ih =>
    rw [runQ_snoc]
    unfold onesQ
    rw [List.countP_append, List.countP_singleton]
    unfold stepQ
    by_cases h : x = 1
    · rw [if_pos h]
      show (runQ l).d + 1 = _
      rw [ih, decide_eq_true h]; rfl
    · rw [if_neg h]
      show (runQ l).d = _
      rw [ih, decide_eq_false h]; rfl
theorem ones_le (l : List Int) : onesQ l ≤ l.length := List.countP_le_length

/-! what is read is whole: the reader's state says so at each place -/
structure WholeQ (d : Nat) (r : RdQ) : Prop where
  pos : r.pos ≤ 3
  even : 1 ≤ r.pos → r.saw % 2 = 0
  le : 1 ≤ r.pos → r.saw ≤ cntQ d
  fi : 2 ≤ r.pos → cntQ d = r.saw → r.fi = d / 4
  se : 3 ≤ r.pos → cntQ d = r.saw → r.se = d / 4
theorem whole_start : WholeQ 0 rd0 := ⟨by decide, fun h => absurd h (by decide), fun h => absurd h (by decide), fun h => absurd h (by decide), fun h => absurd h (by decide)⟩
theorem WholeQ.write {d : Nat} {r : RdQ} (h : WholeQ d r) : WholeQ (d + 1) r := by
  have hne : 1 ≤ r.pos → ¬ cntQ (d + 1) = r.saw := fun hp e => by
    have h1 := h.even hp
    have h2 := h.le hp
    rw [← e] at h1
    obtain ⟨g1, g2⟩ := cntQ_even h1
    have := cntQ_next (d := d)
    rw [if_pos (by omega)] at this
    omega
  refine ⟨h.pos, h.even, fun hp => Nat.le_trans (h.le hp) (cntQ_mono (by omega)), fun hp e => absurd e (hne (by omega)), fun hp e => absurd e (hne (by omega))⟩
theorem WholeQ.read {d : Nat} {r : RdQ} (h : WholeQ d r) : WholeQ d (readQ d r) := by
  unfold readQ
  by_cases h0 : r.pos = 0
  · rw [if_pos h0]
    by_cases ho : cntQ d % 2 = 1
    · rw [if_pos ho]
      exact ⟨by show 0 ≤ 3; omega, fun g => absurd g (by show ¬ 1 ≤ 0; omega), fun g => absurd g (by show ¬ 1 ≤ 0; omega), fun g => absurd g (by show ¬ 2 ≤ 0; omega), fun g => absurd g (by show ¬ 3 ≤ 0; omega)⟩
    · rw [if_neg ho]
      exact ⟨by show 1 ≤ 3; omega, fun _ => by show cntQ d % 2 = 0; omega, fun _ => Nat.le_refl _, fun g => absurd g (by show ¬ 2 ≤ 1; omega), fun g => absurd g (by show ¬ 3 ≤ 1; omega)⟩
  · rw [if_neg h0]
    by_cases h1 : r.pos = 1
    · rw [if_pos h1]
      have he := h.even (by omega)
      have hl := h.le (by omega)
      refine ⟨by show 2 ≤ 3; omega, fun _ => he, fun _ => hl, fun _ e => ?_, fun g => absurd g (by show ¬ 3 ≤ 2; omega)⟩
      change cntQ d = r.saw at e
      rw [← e] at he
      have := (cntQ_even he).1
      show wd1 d = d / 4
      unfold wd1; omega
    · rw [if_neg h1]
      by_cases h2 : r.pos = 2
      · rw [if_pos h2]
        have he := h.even (by omega)
        have hl := h.le (by omega)
        refine ⟨by show 3 ≤ 3; omega, fun _ => he, fun _ => hl, fun _ e => h.fi (by omega) e, fun _ e => ?_⟩
        change cntQ d = r.saw at e
        rw [← e] at he
        have := (cntQ_even he).1
        show wd2 d = d / 4
        unfold wd2; omega
      · rw [if_neg h2]
        split <;> exact ⟨by show 0 ≤ 3; omega, fun g => absurd g (by show ¬ 1 ≤ 0; omega), fun g => absurd g (by show ¬ 1 ≤ 0; omega), fun g => absurd g (by show ¬ 2 ≤ 0; omega), fun g => absurd g (by show ¬ 3 ≤ 0; omega)⟩
theorem WholeQ.step {s : StQ} (h : WholeQ s.d s.r) (x : Int) : WholeQ (stepQ s x).d (stepQ s x).r := by
  unfold stepQ
  split
  · exact h.write
  · exact h.read
theorem whole_run (l : List Int) : WholeQ (runQ l).d (runQ l).r := by
  induction l using snoc_rec with
  | nil => exact whole_start
  | snoc l x ih => rw [runQ_snoc]; exact ih.step x
/-- What a step gives back is the value that is whole there. -/
theorem give_is {d : Nat} {r : RdQ} (h : WholeQ d r) : giveQ d r = [] ∨ giveQ d r = [⟨d / 4, d / 4, r.tr⟩] := by
  unfold giveQ
  split
  · rename_i g
    obtain ⟨g1, g2⟩ := g
    right
    rw [h.fi (by omega) g2.symm, h.se (by omega) g2.symm]
  · exact .inl rfl

/-! the outputs: behind a place only values at least as new; never falling; at most the last -/
structure GoodO (lo hi : Nat) (t : List GotQ) : Prop where
  same : ∀ g ∈ t, g.fi = g.se
  lo : ∀ g ∈ t, lo ≤ g.fi
  hi : ∀ g ∈ t, g.fi ≤ hi
  up : t.Pairwise (fun a b => a.fi ≤ b.fi)
theorem GoodO.nil (lo hi : Nat) : GoodO lo hi [] := ⟨by simp, by simp, by simp, List.Pairwise.nil⟩
theorem GoodO.more {lo hi hi' : Nat} {t : List GotQ} (h : GoodO lo hi t) (hh : hi ≤ hi') : GoodO lo hi' t := ⟨h.same, h.lo, fun g hg => Nat.le_trans (h.hi g hg) hh, h.up⟩
theorem GoodO.snoc {lo hi : Nat} {t : List GotQ} (h : GoodO lo hi t) (hl : lo ≤ hi) (tr : Nat) : GoodO lo hi (t ++ [⟨hi, hi, tr⟩]) := by
  refine ⟨fun g hg => ?_, fun g hg => ?_, fun g hg => ?_, List.pairwise_append.2 ⟨h.up, by simp, fun a ha b hb => ?_⟩⟩
  · rcases List.mem_append.1 hg with g1 | g1
    · exact h.same g g1
    · rw [List.mem_singleton.1 g1]
  · rcases List.mem_append.1 hg with g1 | g1
    · exact h.lo g g1
    · rw [List.mem_singleton.1 g1]; exact hl
  · rcases List.mem_append.1 hg with g1 | g1
    · exact h.hi g g1
    · rw [List.mem_singleton.1 g1]; exact Nat.le_refl _
  · rw [List.mem_singleton.1 hb]; exact h.hi a ha
/-- Behind the list l, whatever comes: more outputs, all of them at least as new as what was whole there. -/
theorem run_more (l : List Int) : ∀ t : List Int, ∃ o, (runQ (l ++ t)).out = (runQ l).out ++ o ∧ GoodO ((runQ l).d / 4) ((runQ (l ++ t)).d / 4) o ∧ (runQ l).d ≤ (runQ (l ++ t)).d := by
  intro t
  induction t using snoc_rec with
  | nil => exact ⟨[], by simp, GoodO.nil _ _, by simp⟩
  | snoc t x ih =>
    obtain ⟨o, h1, h2, h3⟩ := ih
    rw [← List.append_assoc, runQ_snoc]
    have hw := whole_run (l ++ t)
    generalize runQ (l ++ t) = s at *
    unfold stepQ
    by_cases hx : x = 1
    · rw [if_pos hx]
      exact ⟨o, h1, h2.more (by show s.d / 4 ≤ (s.d + 1) / 4; omega), by show (runQ l).d ≤ s.d + 1; omega⟩
    · rw [if_neg hx]
      rcases give_is hw with g | g
      · exact ⟨o, by show s.out ++ giveQ s.d s.r = _; rw [g, List.append_nil]; exact h1, h2, h3⟩
      · refine ⟨o ++ [⟨s.d / 4, s.d / 4, s.r.tr⟩], by show s.out ++ giveQ s.d s.r = _; rw [g, h1, List.append_assoc], h2.snoc (by omega) _, h3⟩
/-- All outputs of a list. -/
theorem run_good (l : List Int) : GoodO 0 ((runQ l).d / 4) (runQ l).out := by
  obtain ⟨o, h1, h2, _⟩ := run_more [] l
  rw [List.nil_append] at h1 h2
  rw [h1]
  exact h2

/-! the writer alone -/
theorem run_ones (l : List Int) (h : ∀ x ∈ l, x = 1) : (runQ l).out = [] ∧ (runQ l).d = l.length := by
  induction l using snoc_rec with
  | nil => exact ⟨rfl, rfl⟩
  | snoc l x ih =>
    obtain ⟨h1, h2⟩ := ih (fun y hy => h y (List.mem_append.2 (.inl hy)))
    rw [runQ_snoc]
    unfold stepQ
    rw [if_pos (h x (by simp)), List.length_append]
    exact ⟨h1, by show (runQ l).d + 1 = _; rw [h2]; rfl⟩

/-! the reader alone, the writer being still between two writes -/
/-- m steps of the reader. -/
def readsQ (d : Nat) : Nat → RdQ × List GotQ → RdQ × List GotQ
  | 0, s => s
  | m + 1, s => readsQ d m (readQ d s.1, s.2 ++ giveQ d s.1)
theorem fold_reads (m : Nat) : ∀ s : StQ, (List.replicate m (2 : Int)).foldl stepQ s = ⟨s.d, (readsQ s.d m (s.r, s.out)).1, (readsQ s.d m (s.r, s.out)).2⟩ := by
  induction m with
  | zero => intro s; rfl
  | succ m ih =>
    intro s
    rw [List.replicate_succ, List.foldl_cons, ih]
    rfl
theorem reads_add (d : Nat) (a b : Nat) : ∀ s, readsQ d (a + b) s = readsQ d b (readsQ d a s) := by
  induction a with
  | zero => intro s; rw [Nat.zero_add]; rfl
  | succ a ih => intro s; rw [show a + 1 + b = (a + b) + 1 by omega]; exact ih _
/-- From the start of an attempt: four steps, a success. -/
theorem reads_four {d : Nat} (hd : d % 4 = 0) (s : RdQ × List GotQ) (h0 : s.1.pos = 0) : ∃ r, readsQ d 4 s = (r, s.2 ++ [⟨d / 4, d / 4, s.1.tr + 1⟩]) ∧ r.pos = 0 ∧ r.tr = 0 := by
  obtain ⟨⟨p, sw, tr, fi, se⟩, o⟩ := s
  simp only at h0
  subst h0
  have hc : cntQ d % 2 = 0 := by unfold cntQ; omega
  have h1 : wd1 d = d / 4 := by unfold wd1; omega
  have h2 : wd2 d = d / 4 := by unfold wd2; omega
  refine ⟨⟨0, cntQ d, 0, d / 4, d / 4⟩, ?_, rfl, rfl⟩
  simp [readsQ, readQ, giveQ, hc, h1, h2]
/-- So many attempts from the start of one: so many successes, all but the first in one attempt. -/
theorem reads_many {d : Nat} (hd : d % 4 = 0) : ∀ (m : Nat) (s : RdQ × List GotQ), s.1.pos = 0 → ∃ r o, readsQ d (4 * m) s = (r, s.2 ++ o) ∧ r.pos = 0 ∧ o.length = m ∧ (∀ k g, o[k]? = some g → g.fi = d / 4 ∧ g.se = d / 4 ∧ ((0 < k ∨ s.1.tr = 0) → g.tr = 1)) ∧ ((0 < m ∨ s.1.tr = 0) → r.tr = 0)
  | 0, s, h0 => ⟨s.1, [], by simp [readsQ], h0, rfl, by simp, fun h => h.resolve_left (by omega)⟩
  | m + 1, s, h0 => by
    obtain ⟨r1, e1, p1, t1⟩ := reads_four hd s h0
    obtain ⟨r, o, e2, p2, l2, f2, t2⟩ := reads_many hd m (r1, s.2 ++ [⟨d / 4, d / 4, s.1.tr + 1⟩]) p1
    refine ⟨r, ⟨d / 4, d / 4, s.1.tr + 1⟩ :: o, ?_, p2, by simp [l2], fun k g hk => ?_, fun _ => t2 (.inr t1)⟩
    · rw [show 4 * (m + 1) = 4 + 4 * m by omega, reads_add, e1, e2]
      simp
    · cases k with
      | zero =>
        simp at hk
        subst hk
        exact ⟨rfl, rfl, fun h => by have := h.resolve_left (by omega); show s.1.tr + 1 = 1; omega⟩
      | succ k =>
        have := f2 k g (by simpa using hk)
        exact ⟨this.1, this.2.1, fun _ => this.2.2 (.inr t1)⟩
/-- What is left of an attempt: no output, or one with which the attempts begin anew. -/
theorem reads_rest {d : Nat} (s : RdQ × List GotQ) (h1 : 1 ≤ s.1.pos) (h3 : s.1.pos ≤ 3) : ∃ r o, readsQ d (4 - s.1.pos) s = (r, s.2 ++ o) ∧ r.pos = 0 ∧ (o = [] ∨ (o.length = 1 ∧ r.tr = 0)) := by
  obtain ⟨⟨p, sw, tr, fi, se⟩, o⟩ := s
  simp only at h1 h3
  have hp : p = 1 ∨ p = 2 ∨ p = 3 := by omega
  rcases hp with rfl | rfl | rfl
  · by_cases g : sw = cntQ d
    · exact ⟨⟨0, sw, 0, wd1 d, wd2 d⟩, [⟨wd1 d, wd2 d, tr⟩], by simp [readsQ, readQ, giveQ, g], rfl, .inr ⟨rfl, rfl⟩⟩
    · exact ⟨⟨0, sw, tr, wd1 d, wd2 d⟩, [], by simp [readsQ, readQ, giveQ, g], rfl, .inl rfl⟩
  · by_cases g : sw = cntQ d
    · exact ⟨⟨0, sw, 0, fi, wd2 d⟩, [⟨fi, wd2 d, tr⟩], by simp [readsQ, readQ, giveQ, g], rfl, .inr ⟨rfl, rfl⟩⟩
    · exact ⟨⟨0, sw, tr, fi, wd2 d⟩, [], by simp [readsQ, readQ, giveQ, g], rfl, .inl rfl⟩
  · by_cases g : sw = cntQ d
    · exact ⟨⟨0, sw, 0, fi, se⟩, [⟨fi, se, tr⟩], by simp [readsQ, readQ, giveQ, g], rfl, .inr ⟨rfl, rfl⟩⟩
    · exact ⟨⟨0, sw, tr, fi, se⟩, [], by simp [readsQ, readQ, giveQ, g], rfl, .inl rfl⟩
theorem reads_few {d : Nat} (hd : d % 4 = 0) (s : RdQ × List GotQ) (h0 : s.1.pos = 0) {j : Nat} (hj : j ≤ 3) : (readsQ d j s).2 = s.2 := by
  obtain ⟨⟨p, sw, tr, fi, se⟩, o⟩ := s
  simp only at h0
  subst h0
  have hc : cntQ d % 2 = 0 := by unfold cntQ; omega
  have hp : j = 0 ∨ j = 1 ∨ j = 2 ∨ j = 3 := by omega
  rcases hp with rfl | rfl | rfl | rfl <;> simp [readsQ, readQ, giveQ, hc]
/-- Behind a list that leaves the writer still: so many attempts and three steps more. -/
theorem calm_run {l : List Int} (hd : (runQ l).d % 4 = 0) (m : Nat) : (runQ (l ++ List.replicate (4 * m + 3) 2)).d = (runQ l).d ∧
    ∃ o, (runQ (l ++ List.replicate (4 * m + 3) 2)).out = (runQ l).out ++ o ∧ m ≤ o.length ∧ ∀ k g, 1 ≤ k → o[k]? = some g → g = ⟨(runQ l).d / 4, (runQ l).d / 4, 1⟩ := by
  rw [runQ_append, fold_reads]
  have hw := whole_run l
  generalize runQ l = s at *
  refine ⟨rfl, ?_⟩
  show ∃ o, (readsQ s.d (4 * m + 3) (s.r, s.out)).2 = s.out ++ o ∧ _
  by_cases h0 : s.r.pos = 0
  · obtain ⟨r, o, e, p, l1, f, _⟩ := reads_many hd m (s.r, s.out) h0
    refine ⟨o, ?_, by omega, fun k g hk hg => ?_⟩
    · rw [reads_add, e, reads_few hd (r, s.out ++ o) p (by omega)]
    · obtain ⟨f1, f2, f3⟩ := f k g hg
      have := f3 (.inl hk)
      obtain ⟨a, b, c⟩ := g
      simp only at f1 f2 this
      subst f1 f2 this
      rfl
  · have h3 := hw.pos
    obtain ⟨r1, o1, e1, p1, q1⟩ := reads_rest (d := s.d) (s.r, s.out) (by show 1 ≤ s.r.pos; omega) h3
    obtain ⟨r, o, e, p, l1, f, _⟩ := reads_many hd m (r1, s.out ++ o1) p1
    have ea : 4 * m + 3 = (4 - s.r.pos) + (4 * m + (s.r.pos - 1)) := by omega
    refine ⟨o1 ++ o, ?_, by rw [List.length_append]; omega, fun k g hk hg => ?_⟩
    · rw [ea, reads_add, e1, reads_add, e, reads_few hd (r, s.out ++ o1 ++ o) p (by omega), List.append_assoc]
    · have hf : ∃ k', o[k']? = some g ∧ (0 < k' ∨ r1.tr = 0) := by
        rcases q1 with q | ⟨q, q'⟩
        · subst q
          exact ⟨k, by simpa using hg, .inl hk⟩
        · rw [List.getElem?_append_right (by omega)] at hg
          exact ⟨_, hg, .inr q'⟩
      obtain ⟨k', hg', hk'⟩ := hf
      obtain ⟨f1, f2, f3⟩ := f k' g hg'
      have := f3 hk'
      obtain ⟨a, b, c⟩ := g
      simp only at f1 f2 this
      subst f1 f2 this
      rfl

/-! what the laws ask -/
theorem playQ_ok {l : List Int} (h : playQE l = 0) : playQN l = (runQ l).d / 4 ∧ playQL l = (runQ l).out := ⟨if_pos h, if_pos h⟩
theorem playQ_no {l : List Int} (h : ¬ playQE l = 0) : playQN l = 0 ∧ playQL l = [] := ⟨if_neg h, if_neg h⟩
theorem whole_facts (l : List Int) : ∀ g ∈ playQL l, g.fi = g.se ∧ g.fi ≤ playQN l := by
  intro g hg
  by_cases h : playQE l = 0
  · rw [(playQ_ok h).2] at hg
    rw [(playQ_ok h).1]
    exact ⟨(run_good l).same g hg, (run_good l).hi g hg⟩
  · rw [(playQ_no h).2] at hg
    cases hg
theorem rise_facts (l : List Int) : (playQL l).Pairwise (fun a b => a.fi ≤ b.fi) := by
  by_cases h : playQE l = 0
  · rw [(playQ_ok h).2]; exact (run_good l).up
  · rw [(playQ_no h).2]; exact List.Pairwise.nil
/-- The steps up to a place, and all. -/
theorem new_facts {l : List Int} {k : Nat} (h : playQE l = 0) : playQE (l.take k) = 0 ∧ ∃ o, playQL l = playQL (l.take k) ++ o ∧ ∀ g ∈ o, playQN (l.take k) ≤ g.fi := by
  have hk : playQE (l.take k) = 0 := by
    obtain ⟨h1, h2⟩ := playQE_ok.1 h
    exact playQE_ok.2 ⟨by rw [List.length_take]; omega, fun x hx => h2 x (List.mem_of_mem_take hx)⟩
  refine ⟨hk, ?_⟩
  obtain ⟨o, h1, h2, _⟩ := run_more (l.take k) (l.drop k)
  rw [List.take_append_drop] at h1
  rw [(playQ_ok h).2, (playQ_ok hk).2, (playQ_ok hk).1]
  exact ⟨o, h1, h2.lo⟩
theorem calm_facts {l : List Int} {m : Nat} (h : playQE l = 0) (hl : l.length ≤ 200) (hm : m ≤ 20) (hd : onesQ l % 4 = 0) :
    playQE (l ++ List.replicate (4 * m + 3) 2) = 0 ∧ playQN (l ++ List.replicate (4 * m + 3) 2) = playQN l ∧ playQN l = onesQ l / 4 ∧
    ∃ o, playQL (l ++ List.replicate (4 * m + 3) 2) = playQL l ++ o ∧ m ≤ o.length ∧ ∀ k g, 1 ≤ k → o[k]? = some g → g = ⟨playQN l, playQN l, 1⟩ := by
  obtain ⟨_, h2⟩ := playQE_ok.1 h
  have hb : playQE (l ++ List.replicate (4 * m + 3) 2) = 0 := playQE_ok.2 ⟨by rw [List.length_append, List.length_replicate]; omega, fun x hx => by
    rcases List.mem_append.1 hx with g | g
    · exact h2 x g
    · exact .inr (List.eq_of_mem_replicate g)⟩
  obtain ⟨c1, o, c2, c3, c4⟩ := calm_run (l := l) (by rw [runQ_d]; exact hd) m
  rw [(playQ_ok hb).1, (playQ_ok hb).2, (playQ_ok h).1, (playQ_ok h).2, c1]
  exact ⟨hb, rfl, by rw [runQ_d], o, c2, c3, c4⟩
def ownQ (l : List Int) : List Int := l.filter (fun x => !(x == 2))
theorem writer_facts {l : List Int} (h : playQE l = 0) : playQE (ownQ l) = 0 ∧ playQN (ownQ l) = playQN l ∧ playQN l = (ownQ l).length / 4 ∧ playQL (ownQ l) = [] := by
  obtain ⟨h1, h2⟩ := playQE_ok.1 h
  have h3 : ∀ x ∈ ownQ l, x = 1 := fun x hx => by
    obtain ⟨g1, g2⟩ := List.mem_filter.1 hx
    exact (h2 x g1).resolve_right (by simpa using g2)
  have hle : (ownQ l).length ≤ l.length := List.length_filter_le _ _
  have hb : playQE (ownQ l) = 0 := playQE_ok.2 ⟨by omega, fun x hx => .inl (h3 x hx)⟩
  obtain ⟨r1, r2⟩ := run_ones (ownQ l) h3
  have hlen : (ownQ l).length = onesQ l := by
    unfold ownQ onesQ
    rw [← List.countP_eq_length_filter]
    refine List.countP_congr fun x hx => ?_
    rcases h2 x hx with e | e <;> subst e <;> decide
  rw [(playQ_ok hb).1, (playQ_ok hb).2, (playQ_ok h).1, r1, r2, runQ_d, hlen]
  exact ⟨hb, rfl, rfl, rfl⟩
end Go.Proofs.Ytblnfffmgaiabaa
