/-
  The mathematics of package rta: demand, the least end, who runs when; nothing is later than said, the first one is just then. No statement of the seat is here.
-/
import Derived.Test.YtajfohnblmnjjaaBase
import Derived.Test.YtajfohnblmnjjaaJ1
namespace Go.Proofs.Ytajfohnblmnjjaa
open Go.RowKit
set_option linter.unusedVariables false

structure Tk where
  p : Nat
  c : Nat
  deriving DecidableEq
def Tk.Ok (t : Tk) : Prop := 1 ≤ t.c ∧ t.c ≤ t.p ∧ t.p ≤ 10000
instance (t : Tk) : Decidable t.Ok := by unfold Tk.Ok; infer_instance

/-- r through p, rounded up. -/
def up (r p : Nat) : Nat := (r + (p - 1)) / p
theorem up_zero {p : Nat} (h : 0 < p) : up 0 p = 0 := by unfold up; rw [Nat.zero_add]; exact Nat.div_eq_of_lt (by omega)
theorem up_mono {a b p : Nat} (h : a ≤ b) : up a p ≤ up b p := Nat.div_le_div_right (by omega)
/-- The law of being at least: so many periods. -/
theorem up_le_iff {r p n : Nat} (hp : 0 < p) : up r p ≤ n ↔ r ≤ n * p := by
  unfold up
  rw [← Nat.lt_succ_iff, Nat.div_lt_iff_lt_mul hp, Nat.succ_mul]
  omega
theorem up_mul {r p : Nat} (hp : 0 < p) : r ≤ up r p * p := (up_le_iff hp).1 (Nat.le_refl _)
theorem lt_up_iff {r p n : Nat} (hp : 0 < p) : n < up r p ↔ n * p < r := by
  have := up_le_iff (r := r) (n := n) hp
  omega
theorem up_add {a b p : Nat} (hp : 0 < p) : up (a + b) p ≤ up a p + up b p := by
  rw [up_le_iff hp, Nat.add_mul]
  have := up_mul (r := a) hp
  have := up_mul (r := b) hp
  omega
theorem up_one {r p : Nat} (h0 : 0 < r) (h : r ≤ p) : up r p = 1 := by
  have hp : 0 < p := by omega
  have h1 : up r p ≤ 1 := (up_le_iff hp).2 (by omega)
  have h2 : 0 < up r p := (lt_up_iff hp).2 (by omega)
  omega
theorem up_succ {n p : Nat} (hp : 0 < p) : up (n + 1) p = n / p + 1 := by
  unfold up
  rw [show n + 1 + (p - 1) = n + p by omega, Nat.add_div_right _ hp]
theorem up_steps {m p : Nat} (hp : 0 < p) : up (m * p) p = m := by
  have h1 : up (m * p) p ≤ m := (up_le_iff hp).2 (Nat.le_refl _)
  have h2 : m ≤ up (m * p) p := by
    cases m with
    | zero => exact Nat.zero_le _
    | succ k => exact (lt_up_iff hp).2 (by rw [Nat.succ_mul]; omega)
  omega

/-- What the tasks of L ask for in r units of time. -/
def need : List Tk → Nat → Nat
  | [], _ => 0
  | t :: L, r => up r t.p * t.c + need L r
theorem need_append (A B : List Tk) (r : Nat) : need (A ++ B) r = need A r + need B r := by
  induction A with
  | nil => simp [need]
  | cons t A ih => rw [List.cons_append, need, need, ih]; omega
theorem need_mono (L : List Tk) {a b : Nat} (h : a ≤ b) : need L a ≤ need L b := by
  induction L with
  | nil => exact Nat.le_refl _
  | cons t L ih =>
    have := Nat.mul_le_mul_right t.c (up_mono (p := t.p) h)
    rw [need, need]; omega
theorem need_add (L : List Tk) (hL : ∀ t ∈ L, 0 < t.p) (a b : Nat) : need L (a + b) ≤ need L a + need L b := by
  induction L with
  | nil => exact Nat.le_refl _
  | cons t L ih =>
    have h1 := ih (fun x hx => hL x (List.mem_cons_of_mem _ hx))
    have h2 := Nat.mul_le_mul_right t.c (up_add (a := a) (b := b) (hL t (by simp)))
    rw [Nat.add_mul] at h2
    rw [need, need, need]; omega
theorem need_zero (L : List Tk) (hL : ∀ t ∈ L, 0 < t.p) : need L 0 = 0 := by
  induction L with
  | nil => rfl
  | cons t L ih => rw [need, up_zero (hL t (by simp)), ih (fun x hx => hL x (List.mem_cons_of_mem _ hx))]; simp

/-- R is the least end of t behind the tasks of pre. -/
structure EndIs (pre : List Tk) (t : Tk) (R : Nat) : Prop where
  lo : t.c ≤ R
  hi : R ≤ t.p
  fix : t.c + need pre R = R
  least : ∀ r, t.c ≤ r → r < R → t.c + need pre r ≠ r
/-- There is none. -/
def NoEnd (pre : List Tk) (t : Tk) : Prop := ∀ r, t.c ≤ r → r ≤ t.p → t.c + need pre r ≠ r
/-- Below the least end there isn't enough time either. -/
theorem lt_of_no {pre : List Tk} {t : Tk} {R : Nat} (h : ∀ r, t.c ≤ r → r < R → t.c + need pre r ≠ r) : ∀ r, r < R → r < t.c + need pre r := by
  intro r
  induction r using Nat.strongRecOn with
  | _ r ih =>
    intro hr
    by_cases hc : r < t.c
    · omega
    · by_cases hlt : r < t.c + need pre r
      · exact hlt
      · exfalso
        have hne := h r (by omega) hr
        have h1 := ih (t.c + need pre r) (by omega) (by omega)
        have h2 := need_mono pre (show t.c + need pre r ≤ r by omega)
        omega
theorem EndIs.lt {pre : List Tk} {t : Tk} {R : Nat} (h : EndIs pre t R) {r : Nat} (hr : r < R) : r < t.c + need pre r := lt_of_no h.least r hr
theorem EndIs.le {pre : List Tk} {t : Tk} {R : Nat} (h : EndIs pre t R) {r : Nat} (hr : t.c + need pre r ≤ r) : R ≤ r := by
  by_cases g : r < R
  · have := h.lt g; omega
  · omega
theorem NoEnd.lt {pre : List Tk} {t : Tk} (h : NoEnd pre t) {r : Nat} (hr : r ≤ t.p) : r < t.c + need pre r :=
  lt_of_no (R := t.p + 1) (fun r h1 h2 => h r h1 (by omega)) r (by omega)
theorem EndIs.unique {pre : List Tk} {t : Tk} {R S : Nat} (h : EndIs pre t R) (k : EndIs pre t S) : R = S := by
  have h1 := h.le (Nat.le_of_eq k.fix)
  have h2 := k.le (Nat.le_of_eq h.fix)
  omega
theorem EndIs.not_no {pre : List Tk} {t : Tk} {R : Nat} (h : EndIs pre t R) : ¬ NoEnd pre t := fun g => g R h.lo h.hi h.fix
/-- Whoever has time enough at some r has a least end. -/
theorem end_exists {pre : List Tk} {t : Tk} {r : Nat} (hr : r ≤ t.p) (h : t.c + need pre r ≤ r) : ∃ R, R ≤ r ∧ EndIs pre t R := by
  induction r using Nat.strongRecOn with
  | _ r ih =>
    by_cases g : ∃ q, q < r ∧ t.c + need pre q ≤ q
    · obtain ⟨q, hq, hn⟩ := g
      obtain ⟨R, h1, h2⟩ := ih q hq (by omega) hn
      exact ⟨R, by omega, h2⟩
    · refine ⟨r, Nat.le_refl _, by omega, hr, ?_, fun q _ hq e => g ⟨q, hq, by omega⟩⟩
      by_cases e : t.c + need pre r = r
      · exact e
      · exact absurd ⟨t.c + need pre r, by omega, by have := need_mono pre (show t.c + need pre r ≤ r by omega); omega⟩ g
theorem end_dec (pre : List Tk) (t : Tk) : (∃ R, EndIs pre t R) ∨ NoEnd pre t := by
  by_cases g : ∃ r, r ≤ t.p ∧ t.c + need pre r ≤ r
  · obtain ⟨r, h1, h2⟩ := g
    obtain ⟨R, _, h⟩ := end_exists h1 h2
    exact .inl ⟨R, h⟩
  · refine .inr fun r h1 h2 e => g ⟨r, h2, by omega⟩
/-- More to do, ahead or by itself, ends no earlier. -/
theorem EndIs.more {pre pre' : List Tk} {t t' : Tk} {R S : Nat} (h : EndIs pre t R) (k : EndIs pre' t' S) (hc : t.c ≤ t'.c) (hn : ∀ r, need pre r ≤ need pre' r) : R ≤ S :=
  h.le (by have := k.fix; have := hn S; omega)

/-! the time that goes by -/
/-- One unit of time: the first task that has something to do does one unit of it. D: what each has done. -/
def tickL : List Tk → List Nat → Nat → List Nat
  | t :: L, d :: D, now => if d < up (now + 1) t.p * t.c then (d + 1) :: D else d :: tickL L D now
  | _, D, _ => D
/-- Who runs. -/
def pickL : List Tk → List Nat → Nat → Option Nat
  | t :: L, d :: D, now => if d < up (now + 1) t.p * t.c then some 0 else (pickL L D now).map (· + 1)
  | _, _, _ => none
/-- What each has done behind so many units. -/
def didL (L : List Tk) : Nat → List Nat
  | 0 => List.replicate L.length 0
  | now + 1 => tickL L (didL L now) now
theorem tick_length : ∀ (L : List Tk) (D : List Nat) (now : Nat), (tickL L D now).length = D.length
  | [], D, _ => by cases D <;> rfl
  | t :: L, [], _ => rfl
  | t :: L, d :: D, now => by
    rw [tickL]
    split
    · rfl
    · rw [List.length_cons, List.length_cons, tick_length L D now]
theorem did_length (L : List Tk) : ∀ now, (didL L now).length = L.length
  | 0 => by simp [didL]
  | now + 1 => by rw [didL, tick_length, did_length L now]
/-- Those that come later change nothing. -/
theorem tick_take : ∀ (L : List Tk) (D : List Nat) (now k : Nat), L.length = D.length → (tickL L D now).take k = tickL (L.take k) (D.take k) now
  | [], [], _, k, _ => by simp [tickL]
  | [], d :: D, _, k, h => by cases h
  | t :: L, [], _, k, h => by cases h
  | t :: L, d :: D, now, 0, h => by simp [tickL]
  | t :: L, d :: D, now, k + 1, h => by
    rw [List.take_succ_cons, List.take_succ_cons, tickL, tickL]
    split
    · rfl
    · rw [List.take_succ_cons, tick_take L D now k (by simpa using h)]
theorem did_take (L : List Tk) (k : Nat) : ∀ now, (didL L now).take k = didL (L.take k) now
  | 0 => by simp [didL, List.take_replicate, List.length_take]
  | now + 1 => by rw [didL, tick_take L _ now k (did_length L now).symm, did_take L k now, didL]

def sumL : List Nat → Nat
  | [] => 0
  | d :: D => d + sumL D
theorem sum_append (A B : List Nat) : sumL (A ++ B) = sumL A + sumL B := by
  induction A with
  | nil => simp [sumL]
  | cons a A ih => rw [List.cons_append, sumL, sumL, ih]; omega
theorem sum_zeros (n : Nat) : sumL (List.replicate n 0) = 0 := by
  induction n with
  | zero => rfl
  | succ n ih => rw [List.replicate_succ, sumL, ih]
/-- Nobody has done more than was there. -/
def LeN : List Tk → List Nat → Nat → Prop
  | [], [], _ => True
  | t :: L, d :: D, now => d ≤ up now t.p * t.c ∧ LeN L D now
  | _, _, _ => False
theorem LeN.zero : ∀ (L : List Tk) (now : Nat), LeN L (List.replicate L.length 0) now
  | [], _ => trivial
  | t :: L, now => ⟨Nat.zero_le _, LeN.zero L now⟩
theorem LeN.mono : ∀ {L : List Tk} {D : List Nat} {now : Nat}, LeN L D now → LeN L D (now + 1)
  | [], [], _, _ => trivial
  | [], d :: D, _, h => h.elim
  | t :: L, [], _, h => h.elim
  | t :: L, d :: D, now, h => ⟨Nat.le_trans h.1 (Nat.mul_le_mul_right t.c (up_mono (p := t.p) (Nat.le_add_right now 1))), LeN.mono h.2⟩
theorem LeN.tick : ∀ {L : List Tk} {D : List Nat} {now : Nat}, LeN L D now → LeN L (tickL L D now) (now + 1)
  | [], [], _, _ => trivial
  | [], d :: D, _, h => h.elim
  | t :: L, [], _, h => h.elim
  | t :: L, d :: D, now, h => by
    obtain ⟨h1, h2⟩ := h
    rw [tickL]
    have hm := Nat.mul_le_mul_right t.c (up_mono (p := t.p) (Nat.le_add_right now 1))
    split
    · rename_i g
      exact ⟨g, h2.mono⟩
    · exact ⟨Nat.le_trans h1 hm, LeN.tick h2⟩
theorem did_le (L : List Tk) : ∀ now, LeN L (didL L now) now
  | 0 => LeN.zero L 0
  | now + 1 => (did_le L now).tick
theorem LeN.sum : ∀ {L : List Tk} {D : List Nat} {now : Nat}, LeN L D now → sumL D ≤ need L now
  | [], [], _, _ => Nat.le_refl _
  | [], d :: D, _, h => h.elim
  | t :: L, [], _, h => h.elim
  | t :: L, d :: D, now, h => by
    have := LeN.sum h.2
    have := h.1
    rw [sumL, need]; omega
/-- All is done: each has done just what was there. -/
theorem LeN.full_at : ∀ {L : List Tk} {D : List Nat} {now : Nat}, LeN L D now → sumL D = need L now → ∀ {k : Nat} {t : Tk} {d : Nat}, L[k]? = some t → D[k]? = some d → d = up now t.p * t.c
  | [], [], _, _, _, k, t, d, hk, _ => by cases hk
  | [], d :: D, _, h, _, _, _, _, _, _ => h.elim
  | t :: L, [], _, h, _, _, _, _, _, _ => h.elim
  | t :: L, d :: D, now, h, e, k, t', d', hk, hd => by
    have h1 := h.1
    have h2 := LeN.sum h.2
    rw [sumL, need] at e
    cases k with
    | zero =>
      simp at hk hd
      subst hk hd
      omega
    | succ k => exact LeN.full_at h.2 (by omega) (by simpa using hk) (by simpa using hd)
theorem LeN.at_ : ∀ {L : List Tk} {D : List Nat} {now : Nat}, LeN L D now → ∀ {k : Nat} {t : Tk} {d : Nat}, L[k]? = some t → D[k]? = some d → d ≤ up now t.p * t.c
  | [], [], _, _, k, t, d, hk, _ => by cases hk
  | [], d :: D, _, h, _, _, _, _, _ => h.elim
  | t :: L, [], _, h, _, _, _, _, _ => h.elim
  | t :: L, d :: D, now, h, k, t', d', hk, hd => by
    cases k with
    | zero =>
      simp at hk hd
      subst hk hd
      exact h.1
    | succ k => exact LeN.at_ h.2 (by simpa using hk) (by simpa using hd)
/-- A unit of time is used, or all is done. -/
theorem tick_sum : ∀ {L : List Tk} {D : List Nat} {now : Nat}, LeN L D now → sumL (tickL L D now) = sumL D + 1 ∨ (tickL L D now = D ∧ sumL D = need L (now + 1))
  | [], [], _, _ => .inr ⟨rfl, rfl⟩
  | [], d :: D, _, h => h.elim
  | t :: L, [], _, h => h.elim
  | t :: L, d :: D, now, h => by
    have h1 := h.1
    have hm := Nat.mul_le_mul_right t.c (up_mono (p := t.p) (Nat.le_add_right now 1))
    rw [tickL]
    split
    · left; rw [sumL, sumL]; omega
    · rename_i g
      rcases tick_sum h.2 with e | ⟨e1, e2⟩
      · left; rw [sumL, sumL, e]; omega
      · right
        refine ⟨by rw [e1], ?_⟩
        rw [sumL, need, e2]
        omega
theorem did_sum_le (L : List Tk) : ∀ now, sumL (didL L now) ≤ now
  | 0 => by rw [didL, sum_zeros]; exact Nat.le_refl _
  | now + 1 => by
    have := did_sum_le L now
    rcases tick_sum (did_le L now) with e | ⟨e, _⟩
    · rw [didL, e]; omega
    · rw [didL, e]; omega
/-- Nothing is left behind. -/
def Idle (L : List Tk) (now : Nat) : Prop := sumL (didL L now) = need L now
theorem idle_zero {L : List Tk} (hL : ∀ t ∈ L, 0 < t.p) : Idle L 0 := by
  unfold Idle
  rw [didL, sum_zeros, need_zero L hL]
/-- Behind an idle place the next one is no farther than R, if R units hold all that comes in R units. -/
theorem idle_next {L : List Tk} (hL : ∀ t ∈ L, 0 < t.p) {R t0 : Nat} (hR : 0 < R) (hn : need L R ≤ R) (h0 : Idle L t0) : ∃ t1, t0 < t1 ∧ t1 ≤ t0 + R ∧ Idle L t1 := by
  have h : ∀ x, x ≤ R → (∃ t1, t0 < t1 ∧ t1 ≤ t0 + x ∧ Idle L t1) ∨ sumL (didL L (t0 + x)) = sumL (didL L t0) + x := by
    intro x
    induction x with
    | zero => intro _; exact .inr rfl
    | succ x ih =>
      intro hx
      rcases ih (by omega) with ⟨t1, a, b, c⟩ | e
      · exact .inl ⟨t1, a, by omega, c⟩
      · rcases tick_sum (did_le L (t0 + x)) with g | ⟨g1, g2⟩
        · right
          rw [← Nat.add_assoc, didL, g, e]; omega
        · left
          refine ⟨t0 + x + 1, by omega, by omega, ?_⟩
          unfold Idle
          rw [didL, g1, g2]
  rcases h R (Nat.le_refl _) with g | g
  · exact g
  · refine ⟨t0 + R, by omega, Nat.le_refl _, ?_⟩
    have h1 := (did_le L (t0 + R)).sum
    have h2 := need_add L hL t0 R
    unfold Idle at h0 ⊢
    omega
theorem idle_soon {L : List Tk} (hL : ∀ t ∈ L, 0 < t.p) {R : Nat} (hR : 0 < R) (hn : need L R ≤ R) : ∀ s, ∃ t1, s < t1 ∧ t1 ≤ s + R ∧ Idle L t1
  | 0 => idle_next hL hR hn (idle_zero hL)
  | s + 1 => by
    obtain ⟨t1, a, b, c⟩ := idle_soon hL hR hn s
    by_cases e : t1 = s + 1
    · subst e
      exact idle_next hL hR hn c
    · exact ⟨t1, by omega, by omega, c⟩
theorem tick_mono : ∀ (L : List Tk) (D : List Nat) (now k d : Nat), D[k]? = some d → ∃ e, (tickL L D now)[k]? = some e ∧ d ≤ e
  | [], D, _, k, d, h => ⟨d, by cases D <;> exact h, Nat.le_refl _⟩
  | t :: L, [], _, k, d, h => by cases h
  | t :: L, x :: D, now, k, d, h => by
    rw [tickL]
    split
    · cases k with
      | zero => simp at h; subst h; exact ⟨x + 1, rfl, by omega⟩
      | succ k => exact ⟨d, by simpa using h, Nat.le_refl _⟩
    · cases k with
      | zero => simp at h; subst h; exact ⟨x, rfl, Nat.le_refl _⟩
      | succ k =>
        obtain ⟨e, h1, h2⟩ := tick_mono L D now k d (by simpa using h)
        exact ⟨e, by simpa using h1, h2⟩
/-- What task k has done. -/
def didK (L : List Tk) (k now : Nat) : Nat := (didL L now).getD k 0
theorem didK_some {L : List Tk} {k now : Nat} (h : k < L.length) : (didL L now)[k]? = some (didK L k now) := by
  unfold didK
  rw [List.getD_eq_getElem?_getD, List.getElem?_eq_getElem (by rw [did_length]; exact h)]; rfl
theorem didK_mono {L : List Tk} {k : Nat} (h : k < L.length) {a b : Nat} (hab : a ≤ b) : didK L k a ≤ didK L k b := by
  obtain ⟨d, rfl⟩ : ∃ d, b = a + d := ⟨b - a, by omega⟩
  clear hab
  induction d with
  | zero => exact Nat.le_refl _
  | succ d ih =>
    obtain ⟨e, h1, h2⟩ := tick_mono L (didL L (a + d)) (a + d) k _ (didK_some h)
    have h3 := didK_some (L := L) (now := a + d + 1) h
    rw [didL, h1] at h3
    injection h3 with h3
    rw [← Nat.add_assoc, ← h3]
    omega
theorem didK_take {L : List Tk} {k n now : Nat} (h : k < n) : didK (L.take n) k now = didK L k now := by
  unfold didK
  rw [← did_take, List.getD_eq_getElem?_getD, List.getD_eq_getElem?_getD, List.getElem?_take, if_pos h]
theorem didK_le {L : List Tk} {k now : Nat} {t : Tk} (h : L[k]? = some t) : didK L k now ≤ up now t.p * t.c :=
  (did_le L now).at_ h (didK_some (List.getElem?_eq_some_iff.1 h).1)

/-! nothing is later than said -/
theorem take_next {L : List Tk} {k : Nat} {t : Tk} (h : L[k]? = some t) : L.take (k + 1) = L.take k ++ [t] := take_snoc h
theorem need_self {pre : List Tk} {t : Tk} {R : Nat} (h : EndIs pre t R) (hc : 0 < t.c) : need (pre ++ [t]) R = R := by
  rw [need_append, need, need, up_one (by have := h.lo; omega) h.hi]
  have := h.fix
  omega
/-- Each time in time: the job that comes at m periods is done R units later. -/
theorem in_time {L : List Tk} (hL : ∀ t ∈ L, 0 < t.p) {k : Nat} {t : Tk} (hk : L[k]? = some t) (hc : 0 < t.c) {R : Nat} (h : EndIs (L.take k) t R) (m : Nat) : (m + 1) * t.c ≤ didK L k (m * t.p + R) := by
  have hlt := (List.getElem?_eq_some_iff.1 hk).1
  have hk' : (L.take (k + 1))[k]? = some t := by rw [List.getElem?_take, if_pos (by omega)]; exact hk
  have hn : need (L.take (k + 1)) R ≤ R := by rw [take_next hk]; exact Nat.le_of_eq (need_self h hc)
  have hL' : ∀ u ∈ L.take (k + 1), 0 < u.p := fun u hu => hL u (List.mem_of_mem_take hu)
  have hp : 0 < t.p := hL t (List.mem_of_getElem? hk)
  obtain ⟨t1, a, b, c⟩ := idle_soon hL' (by have := h.lo; omega) hn (m * t.p)
  have hl' : k < (L.take (k + 1)).length := (List.getElem?_eq_some_iff.1 hk').1
  have e := (did_le (L.take (k + 1)) t1).full_at c hk' (didK_some hl')
  rw [didK_take (by omega)] at e
  have h1 : m + 1 ≤ up t1 t.p := (lt_up_iff hp).2 a
  have h2 := didK_mono hlt b
  rw [e] at h2
  exact Nat.le_trans (Nat.mul_le_mul_right _ h1) h2
/-- What has been done when it begins again: all. -/
theorem done_at {L : List Tk} (hL : ∀ t ∈ L, 0 < t.p) {k : Nat} {t : Tk} (hk : L[k]? = some t) (hc : 0 < t.c) {R : Nat} (h : EndIs (L.take k) t R) (m : Nat) : didK L k (m * t.p) = m * t.c := by
  have hp : 0 < t.p := hL t (List.mem_of_getElem? hk)
  have hlt := (List.getElem?_eq_some_iff.1 hk).1
  have h1 := didK_le (now := m * t.p) hk
  rw [up_steps hp] at h1
  cases m with
  | zero => omega
  | succ m =>
    have h2 := in_time hL hk hc h m
    have h3 := didK_mono hlt (show m * t.p + R ≤ (m + 1) * t.p by rw [Nat.succ_mul]; have := h.hi; omega)
    omega

/-! the first one: just then -/
/-- The last of a list has done something only where the others had nothing to do. -/
theorem tick_last : ∀ {A : List Tk} {DA : List Nat} {now : Nat} {t : Tk} {d : Nat}, LeN A DA now → (tickL (A ++ [t]) (DA ++ [d]) now = tickL A DA now ++ [d]) ∨ (tickL (A ++ [t]) (DA ++ [d]) now = DA ++ [d + 1] ∧ tickL A DA now = DA ∧ sumL DA = need A (now + 1))
  | [], [], now, t, d, _ => by
    by_cases g : d < up (now + 1) t.p * t.c
    · exact .inr ⟨by simp [tickL, g], rfl, rfl⟩
    · exact .inl (by simp [tickL, g])
  | [], x :: DA, _, _, _, h => h.elim
  | u :: A, [], _, _, _, h => h.elim
  | u :: A, x :: DA, now, t, d, h => by
    have h1 := h.1
    have hm := Nat.mul_le_mul_right u.c (up_mono (p := u.p) (Nat.le_add_right now 1))
    rw [List.cons_append, List.cons_append, tickL, tickL]
    by_cases g : x < up (now + 1) u.p * u.c
    · rw [if_pos g, if_pos g]
      exact .inl rfl
    · rw [if_neg g, if_neg g]
      rcases tick_last (t := t) (d := d) h.2 with e | ⟨e1, e2, e3⟩
      · exact .inl (by rw [e]; rfl)
      · refine .inr ⟨by rw [e1]; rfl, by rw [e2], ?_⟩
        rw [sumL, need, e3]
        omega
/-- Before R the first job isn't done. -/
theorem not_before {A : List Tk} {t : Tk} {R : Nat} (h : EndIs A t R) (hc : 0 < t.c) : ∀ x, x < R → ∃ d, didL (A ++ [t]) x = didL A x ++ [d] ∧ d < t.c
  | 0, _ => ⟨0, by simp [didL, List.replicate_succ'], hc⟩
  | x + 1, hx => by
    obtain ⟨d, e, hd⟩ := not_before h hc x (by omega)
    have hlast := tick_last (t := t) (d := d) (did_le A x)
    rw [← e] at hlast
    rcases hlast with g | ⟨g1, g2, g3⟩
    · exact ⟨d, g, hd⟩
    · refine ⟨d + 1, by rw [didL, g1, didL, g2], ?_⟩
      by_cases q : d + 1 < t.c
      · exact q
      · exfalso
        have hs := did_sum_le (A ++ [t]) (x + 1)
        rw [didL, g1, sum_append, g3] at hs
        have : sumL [d + 1] = d + 1 := rfl
        rw [this] at hs
        have := h.lt hx
        omega
/-- The first job of task k is done just at R. -/
theorem first_at {L : List Tk} (hL : ∀ t ∈ L, 0 < t.p) {k : Nat} {t : Tk} (hk : L[k]? = some t) (hc : 0 < t.c) {R : Nat} (h : EndIs (L.take k) t R) : (∀ x, x < R → didK L k x < t.c) ∧ ∀ x, R ≤ x → t.c ≤ didK L k x := by
  have hlt := (List.getElem?_eq_some_iff.1 hk).1
  have hkl : (L.take k).length = k := by rw [List.length_take]; omega
  refine ⟨fun x hx => ?_, fun x hx => ?_⟩
  · obtain ⟨d, e, hd⟩ := not_before h hc x hx
    rw [← take_next hk] at e
    rw [← didK_take (n := k + 1) (by omega)]
    unfold didK
    rw [e, List.getD_eq_getElem?_getD, List.getElem?_append_right (by rw [did_length, hkl]; exact Nat.le_refl _), did_length, hkl, Nat.sub_self]
    exact hd
  · have h1 := in_time hL hk hc h 0
    have h2 := didK_mono hlt (show 0 * t.p + R ≤ x by omega)
    omega
/-- A tick adds one to the one who is picked, and nothing to the others. -/
theorem pick_tick : ∀ (L : List Tk) (D : List Nat) (now : Nat), L.length = D.length → (pickL L D now = none ∧ tickL L D now = D) ∨ ∃ k d, pickL L D now = some k ∧ D[k]? = some d ∧ tickL L D now = D.set k (d + 1)
  | [], [], _, _ => .inl ⟨rfl, rfl⟩
  | [], d :: D, _, h => by cases h
  | t :: L, [], _, h => by cases h
  | t :: L, d :: D, now, h => by
    rw [pickL, tickL]
    split
    · exact .inr ⟨0, d, rfl, rfl, rfl⟩
    · rcases pick_tick L D now (by simpa using h) with ⟨e1, e2⟩ | ⟨k, x, e1, e2, e3⟩
      · exact .inl ⟨by rw [e1]; rfl, by rw [e2]⟩
      · exact .inr ⟨k + 1, x, by rw [e1]; rfl, by simpa using e2, by rw [e3]; rfl⟩
end Go.Proofs.Ytajfohnblmnjjaa

/-
  The mathematics of package rms: what fits is told without an order; the hyperbolic bound; no more than all time; halves. No statement of the seat is here.
-/
namespace Go.Proofs.Ytajfohnblmnjjaa
open Go.RowKit
set_option linter.unusedVariables false

/-- Each has its least end. -/
def AllEnd (S : List Tk) : Prop := ∀ k t, S[k]? = some t → ∃ R, EndIs (S.take k) t R
/-- Those that go at least as often as P. -/
def often (P : Nat) (L : List Tk) : List Tk := L.filter fun y => decide (y.p ≤ P)
/-- It fits, told without an order. -/
def Feas (L : List Tk) : Prop := ∀ x ∈ L, ∃ r, 0 < r ∧ r ≤ x.p ∧ need (often x.p L) r ≤ r
def OkL (L : List Tk) : Prop := ∀ t ∈ L, 0 < t.c ∧ t.c ≤ t.p
theorem OkL.pos {L : List Tk} (h : OkL L) : ∀ t ∈ L, 0 < t.p := fun t ht => by have := h t ht; omega

theorem need_perm {L M : List Tk} (h : L.Perm M) (r : Nat) : need L r = need M r := by
  induction h with
  | nil => rfl
  | cons x _ ih => rw [need, need, ih]
  | swap x y l => rw [need, need, need, need]; omega
  | trans _ _ ih1 ih2 => rw [ih1, ih2]
theorem need_filter (q : Tk → Bool) (L : List Tk) (r : Nat) : need (L.filter q) r ≤ need L r := by
  induction L with
  | nil => exact Nat.le_refl _
  | cons t L ih =>
    rw [List.filter_cons]
    split
    · rw [need, need]; omega
    · rw [need]; omega
theorem Feas.perm {L M : List Tk} (h : Feas L) (p : L.Perm M) : Feas M := fun x hx => by
  obtain ⟨r, h1, h2, h3⟩ := h x (p.mem_iff.2 hx)
  refine ⟨r, h1, h2, ?_⟩
  have e := need_perm (p.filter fun y => decide (y.p ≤ x.p)) r
  change need (often x.p L) r = need (often x.p M) r at e
  omega
/-- The last one that goes at least as often. -/
theorem last_of (q : Tk → Bool) : ∀ {L : List Tk}, (∃ x ∈ L, q x = true) → ∃ z t, L[z]? = some t ∧ q t = true ∧ ∀ u ∈ L.drop (z + 1), q u = false
  | [], h => by obtain ⟨x, hx, _⟩ := h; cases hx
  | t :: L, h => by
    by_cases g : ∃ x ∈ L, q x = true
    · obtain ⟨z, u, h1, h2, h3⟩ := last_of q g
      exact ⟨z + 1, u, by simpa using h1, h2, by simpa using h3⟩
    · obtain ⟨x, hx, hq⟩ := h
      rcases List.mem_cons.1 hx with rfl | hx
      · refine ⟨0, x, rfl, hq, fun u hu => ?_⟩
        cases e : q u
        · rfl
        · exact absurd ⟨u, by simpa using hu, e⟩ g
      · exact absurd ⟨x, hx, hq⟩ g
theorem filter_none {q : Tk → Bool} {L : List Tk} (h : ∀ u ∈ L, q u = false) : L.filter q = [] := by
  rw [List.filter_eq_nil_iff]
  intro u hu
  rw [h u hu]
  decide
/-- Liu and Layland: whatever the order, what has its ends fits. -/
theorem feas_of_ends {L : List Tk} (hL : OkL L) (h : AllEnd L) : Feas L := fun x hx => by
  obtain ⟨z, t, h1, h2, h3⟩ := last_of (fun y => decide (y.p ≤ x.p)) ⟨x, hx, by simp⟩
  obtain ⟨R, hR⟩ := h z t h1
  have ht := hL t (List.mem_of_getElem? h1)
  refine ⟨R, by have := hR.lo; omega, by have := hR.hi; have := of_decide_eq_true h2; omega, ?_⟩
  have e : often x.p L = (L.take (z + 1)).filter fun y => decide (y.p ≤ x.p) := by
    unfold often
    conv => lhs; rw [← List.take_append_drop (z + 1) L]
    rw [List.filter_append, filter_none h3, List.append_nil]
  rw [e]
  have := need_filter (fun y => decide (y.p ≤ x.p)) (L.take (z + 1)) R
  rw [take_next h1, need_self hR ht.1] at this
  rw [take_next h1]
  exact this
def SortedT (S : List Tk) : Prop := S.Pairwise fun a b => a.p ≤ b.p
/-- What fits has its ends in the order of the periods. -/
theorem ends_of_feas {S : List Tk} (hs : SortedT S) (h : Feas S) : AllEnd S := fun k t hk => by
  obtain ⟨r, h0, h1, h2⟩ := h t (List.mem_of_getElem? hk)
  have hlt := (List.getElem?_eq_some_iff.1 hk).1
  have ha : ∀ u ∈ S.take (k + 1), u.p ≤ t.p := fun u hu => by
    obtain ⟨j, hj⟩ := List.mem_iff_getElem?.1 hu
    rw [List.getElem?_take] at hj
    split at hj
    · rename_i hjk
      by_cases e : j = k
      · subst e
        rw [hk] at hj
        injection hj with hj
        subst hj
        exact Nat.le_refl _
      · obtain ⟨g1, e1⟩ := List.getElem?_eq_some_iff.1 hj
        obtain ⟨g2, e2⟩ := List.getElem?_eq_some_iff.1 hk
        have := List.pairwise_iff_getElem.1 hs j k g1 g2 (by omega)
        rw [e1, e2] at this
        exact this
    · cases hj
  have e : often t.p S = S.take (k + 1) ++ (S.drop (k + 1)).filter fun y => decide (y.p ≤ t.p) := by
    unfold often
    conv => lhs; rw [← List.take_append_drop (k + 1) S]
    rw [List.filter_append, List.filter_eq_self.2 (fun u hu => decide_eq_true (ha u hu))]
  rw [e, need_append, take_next hk, need_append, need, need, up_one h0 h1] at h2
  obtain ⟨R, _, hR⟩ := end_exists (pre := S.take k) (t := t) h1 (by omega)
  exact ⟨R, hR⟩
theorem OkL.perm {L M : List Tk} (h : OkL L) (p : L.Perm M) : OkL M := fun t ht => h t (p.mem_iff.2 ht)
/-- The ends in the order of the periods say whether it fits. -/
theorem fit_iff {L S : List Tk} (hL : OkL L) (p : L.Perm S) (hs : SortedT S) : AllEnd S ↔ Feas L :=
  ⟨fun h => (feas_of_ends (hL.perm p) h).perm p.symm, fun h => ends_of_feas hs (h.perm p)⟩

/-! the use of all time -/
def useN : List Tk → Nat
  | [] => 0
  | t :: L => useN L * t.p + (L.foldr (fun u a => a * u.p) 1) * t.c
def useD (L : List Tk) : Nat := L.foldr (fun u a => a * u.p) 1
theorem useD_cons (t : Tk) (L : List Tk) : useD (t :: L) = useD L * t.p := rfl
theorem useN_cons (t : Tk) (L : List Tk) : useN (t :: L) = useN L * t.p + useD L * t.c := rfl
theorem useD_pos {L : List Tk} (h : ∀ t ∈ L, 0 < t.p) : 0 < useD L := by
  induction L with
  | nil => exact Nat.one_pos
  | cons t L ih => rw [useD_cons]; exact Nat.mul_pos (ih fun u hu => h u (List.mem_cons_of_mem _ hu)) (h t (by simp))
theorem useD_append (A B : List Tk) : useD (A ++ B) = useD A * useD B := by
  induction A with
  | nil => rw [List.nil_append]; exact (Nat.one_mul _).symm
  | cons t A ih => rw [List.cons_append, useD_cons, useD_cons, ih, Nat.mul_right_comm]
theorem useN_append (A B : List Tk) : useN (A ++ B) = useN A * useD B + useD A * useN B := by
  induction A with
  | nil => rw [List.nil_append]; show _ = 0 * _ + 1 * _; omega
  | cons t A ih =>
    rw [List.cons_append, useN_cons, useN_cons, useD_cons, ih, useD_append, Nat.add_mul, Nat.add_mul]
    have e1 : useN A * useD B * t.p = useN A * t.p * useD B := Nat.mul_right_comm _ _ _
    have e2 : useD A * useN B * t.p = useD A * t.p * useN B := Nat.mul_right_comm _ _ _
    have e3 : useD A * useD B * t.c = useD A * t.c * useD B := Nat.mul_right_comm _ _ _
    omega
/-- As the reference gathers it: from the front. -/
theorem use_snoc (L : List Tk) (t : Tk) : useN (L ++ [t]) = useN L * t.p + useD L * t.c ∧ useD (L ++ [t]) = useD L * t.p := by
  have e1 : useD [t] = t.p := by show 1 * t.p = t.p; omega
  have e2 : useN [t] = t.c := by show 0 * t.p + 1 * t.c = t.c; omega
  rw [useN_append, useD_append, e1, e2]
  exact ⟨rfl, rfl⟩
/-- In r units the tasks ask for at least their share of r. -/
theorem use_need {L : List Tk} (h : ∀ t ∈ L, 0 < t.p) (r : Nat) : useN L * r ≤ useD L * need L r := by
  induction L with
  | nil => show 0 * r ≤ _; omega
  | cons t L ih =>
    have ih := ih fun u hu => h u (List.mem_cons_of_mem _ hu)
    have hu := up_mul (r := r) (h t (by simp))
    rw [useN_cons, useD_cons, need, Nat.add_mul, Nat.mul_add]
    have a1 : useN L * t.p * r ≤ useD L * t.p * need L r := by
      have := Nat.mul_le_mul_right t.p ih
      rwa [Nat.mul_right_comm, Nat.mul_right_comm (useD L)] at this
    have a2 : useD L * t.c * r ≤ useD L * t.p * (up r t.p * t.c) := by
      have := Nat.mul_le_mul_left (useD L * t.c) hu
      have e : useD L * t.c * (up r t.p * t.p) = useD L * t.p * (up r t.p * t.c) := by
        simp only [Nat.mul_assoc, Nat.mul_comm, Nat.mul_left_comm]
      omega
    omega
/-- Where r holds whole periods alone, it is just their share. -/
theorem use_need_eq {L : List Tk} (h : ∀ t ∈ L, 0 < t.p) {r : Nat} (hr : ∀ t ∈ L, ∃ m, r = m * t.p) : useN L * r = useD L * need L r := by
  induction L with
  | nil => show 0 * r = useD [] * 0; omega
  | cons t L ih =>
    have ih := ih (fun u hu => h u (List.mem_cons_of_mem _ hu)) (fun u hu => hr u (List.mem_cons_of_mem _ hu))
    obtain ⟨m, hm⟩ := hr t (by simp)
    have hu : up r t.p = m := by rw [hm]; exact up_steps (h t (by simp))
    rw [useN_cons, useD_cons, need, Nat.add_mul, Nat.mul_add, hu]
    have a1 : useN L * t.p * r = useD L * t.p * need L r := by rw [Nat.mul_right_comm, ih, Nat.mul_right_comm]
    have a2 : useD L * t.c * r = useD L * t.p * (m * t.c) := by
      rw [hm]
      simp only [Nat.mul_assoc, Nat.mul_comm, Nat.mul_left_comm]
    omega
theorem max_exists : ∀ {L : List Tk}, L ≠ [] → ∃ x ∈ L, ∀ y ∈ L, y.p ≤ x.p
  | [], h => absurd rfl h
  | [x], _ => ⟨x, by simp, fun y hy => by rw [List.mem_singleton.1 hy]; exact Nat.le_refl _⟩
  | x :: y :: L, _ => by
    obtain ⟨z, hz, hm⟩ := max_exists (L := y :: L) (by simp)
    by_cases g : x.p ≤ z.p
    · exact ⟨z, List.mem_cons_of_mem _ hz, fun u hu => by
        rcases List.mem_cons.1 hu with rfl | hu
        · exact g
        · exact hm u hu⟩
    · exact ⟨x, by simp, fun u hu => by
        rcases List.mem_cons.1 hu with rfl | hu
        · exact Nat.le_refl _
        · have := hm u hu; omega⟩
/-- Nothing fits that takes more than all time. -/
theorem use_of_feas {L : List Tk} (hL : OkL L) (h : Feas L) : useN L ≤ useD L := by
  by_cases h0 : L = []
  · subst h0; decide
  · obtain ⟨x, hx, hm⟩ := max_exists h0
    obtain ⟨r, h1, h2, h3⟩ := h x hx
    have e : often x.p L = L := List.filter_eq_self.2 fun y hy => decide_eq_true (hm y hy)
    rw [e] at h3
    have h4 := use_need hL.pos r
    have h5 := Nat.mul_le_mul_left (useD L) h3
    exact Nat.le_of_mul_le_mul_right (Nat.le_trans h4 h5) h1
/-- A part takes no more than its share. -/
theorem use_filter (q : Tk → Bool) {L : List Tk} (h : ∀ t ∈ L, 0 < t.p) : useN (L.filter q) * useD L ≤ useN L * useD (L.filter q) := by
  induction L with
  | nil => exact Nat.le_refl _
  | cons t L ih =>
    have ih := ih fun u hu => h u (List.mem_cons_of_mem _ hu)
    rw [List.filter_cons]
    split
    · rw [useN_cons, useD_cons, useN_cons, useD_cons, Nat.add_mul, Nat.add_mul]
      have a1 : useN (L.filter q) * t.p * (useD L * t.p) ≤ useN L * t.p * (useD (L.filter q) * t.p) := by
        have := Nat.mul_le_mul_right (t.p * t.p) ih
        have e1 : useN (L.filter q) * useD L * (t.p * t.p) = useN (L.filter q) * t.p * (useD L * t.p) := by simp only [Nat.mul_assoc, Nat.mul_comm, Nat.mul_left_comm]
        have e2 : useN L * useD (L.filter q) * (t.p * t.p) = useN L * t.p * (useD (L.filter q) * t.p) := by simp only [Nat.mul_assoc, Nat.mul_comm, Nat.mul_left_comm]
        omega
      have a2 : useD (L.filter q) * t.c * (useD L * t.p) = useD L * t.c * (useD (L.filter q) * t.p) := by simp only [Nat.mul_assoc, Nat.mul_comm, Nat.mul_left_comm]
      omega
    · rw [useD_cons, useN_cons, Nat.add_mul]
      have a1 : useN (L.filter q) * (useD L * t.p) ≤ useN L * t.p * useD (L.filter q) := by
        have := Nat.mul_le_mul_right t.p ih
        have e1 : useN (L.filter q) * useD L * t.p = useN (L.filter q) * (useD L * t.p) := Nat.mul_assoc _ _ _
        have e2 : useN L * useD (L.filter q) * t.p = useN L * t.p * useD (L.filter q) := Nat.mul_right_comm _ _ _
        omega
      omega
/-- Where each period is a multiple of those that go more often, all time can be used. -/
theorem feas_harmonic {L : List Tk} (hL : OkL L) (hh : ∀ x ∈ L, ∀ y ∈ L, y.p ≤ x.p → ∃ m, x.p = m * y.p) (hu : useN L ≤ useD L) : Feas L := fun x hx => by
  have hG : ∀ t ∈ often x.p L, 0 < t.p := fun t ht => hL.pos t (List.mem_filter.1 ht).1
  have hD := useD_pos hG
  have hDL := useD_pos hL.pos
  refine ⟨x.p, hL.pos x hx, Nat.le_refl _, ?_⟩
  have e := use_need_eq hG (r := x.p) (fun t ht => hh x hx t (List.mem_filter.1 ht).1 (of_decide_eq_true (List.mem_filter.1 ht).2))
  have f := use_filter (fun y => decide (y.p ≤ x.p)) hL.pos
  change useN (often x.p L) * useD L ≤ useN L * useD (often x.p L) at f
  have g : useN (often x.p L) ≤ useD (often x.p L) := by
    have := Nat.le_trans f (Nat.mul_le_mul_right (useD (often x.p L)) hu)
    rw [Nat.mul_comm (useD L)] at this
    exact Nat.le_of_mul_le_mul_right this hDL
  have k := Nat.mul_le_mul_right x.p g
  rw [e] at k
  exact Nat.le_of_mul_le_mul_left k hD

/-! with less to do it still fits -/
theorem need_set {L : List Tk} {k : Nat} {t u : Tk} (hk : L[k]? = some t) (hp : u.p = t.p) (hc : u.c ≤ t.c) (q : Nat → Bool) (r : Nat) : need ((L.set k u).filter fun y => q y.p) r ≤ need (L.filter fun y => q y.p) r := by
  induction L generalizing k with
  | nil => cases hk
  | cons x L ih =>
    cases k with
    | zero =>
      simp at hk
      subst hk
      rw [List.set_cons_zero, List.filter_cons, List.filter_cons, hp]
      split
      · rw [need, need, hp]
        have := Nat.mul_le_mul_left (up r x.p) hc
        omega
      · exact Nat.le_refl _
    | succ k =>
      have ih := ih (k := k) (by simpa using hk)
      rw [List.set_cons_succ, List.filter_cons, List.filter_cons]
      split
      · rw [need, need]; omega
      · exact ih
theorem Feas.less {L : List Tk} {k : Nat} {t u : Tk} (h : Feas L) (hk : L[k]? = some t) (hp : u.p = t.p) (hc : u.c ≤ t.c) : Feas (L.set k u) := fun x hx => by
  have hx' : ∃ y ∈ L, y.p = x.p := by
    rcases List.mem_or_eq_of_mem_set hx with g | g
    · exact ⟨x, g, rfl⟩
    · exact ⟨t, List.mem_of_getElem? hk, by rw [g, hp]⟩
  obtain ⟨y, hy, e⟩ := hx'
  obtain ⟨r, h1, h2, h3⟩ := h y hy
  rw [e] at h2 h3
  exact ⟨r, h1, h2, Nat.le_trans (need_set hk hp hc (fun p => decide (p ≤ x.p)) r) h3⟩
theorem Feas.drop {A B : List Tk} {t : Tk} (h : Feas (A ++ t :: B)) : Feas (A ++ B) := fun x hx => by
  obtain ⟨r, h1, h2, h3⟩ := h x (by
    rcases List.mem_append.1 hx with g | g
    · exact List.mem_append.2 (.inl g)
    · exact List.mem_append.2 (.inr (List.mem_cons_of_mem _ g)))
  refine ⟨r, h1, h2, Nat.le_trans ?_ h3⟩
  unfold often
  rw [List.filter_append, List.filter_append, need_append, need_append, List.filter_cons]
  split
  · rw [need]; omega
  · exact Nat.le_refl _

/-! the hyperbolic bound -/
def prodA (L : List Tk) : Nat := L.foldr (fun u a => a * (u.c + u.p)) 1
theorem prodA_cons (t : Tk) (L : List Tk) : prodA (t :: L) = prodA L * (t.c + t.p) := rfl
theorem prodA_perm {L M : List Tk} (h : L.Perm M) : prodA L = prodA M := by
  induction h with
  | nil => rfl
  | cons x _ ih => rw [prodA_cons, prodA_cons, ih]
  | swap x y l => rw [prodA_cons, prodA_cons, prodA_cons, prodA_cons, Nat.mul_right_comm]
  | trans _ _ ih1 ih2 => rw [ih1, ih2]
theorem useD_perm {L M : List Tk} (h : L.Perm M) : useD L = useD M := by
  induction h with
  | nil => rfl
  | cons x _ ih => rw [useD_cons, useD_cons, ih]
  | swap x y l => rw [useD_cons, useD_cons, useD_cons, useD_cons, Nat.mul_right_comm]
  | trans _ _ ih1 ih2 => rw [ih1, ih2]
theorem prod_snoc (L : List Tk) (t : Tk) : prodA (L ++ [t]) = prodA L * (t.c + t.p) ∧ useD (L ++ [t]) = useD L * t.p := by
  refine ⟨?_, (use_snoc L t).2⟩
  induction L with
  | nil => rfl
  | cons x L ih => rw [List.cons_append, prodA_cons, ih, prodA_cons, Nat.mul_right_comm]
theorem prod_filter (q : Tk → Bool) (L : List Tk) : prodA (L.filter q) * useD L ≤ prodA L * useD (L.filter q) := by
  induction L with
  | nil => exact Nat.le_refl _
  | cons t L ih =>
    rw [List.filter_cons]
    split
    · rw [prodA_cons, prodA_cons, useD_cons, useD_cons]
      have := Nat.mul_le_mul_right ((t.c + t.p) * t.p) ih
      have e1 : prodA (L.filter q) * useD L * ((t.c + t.p) * t.p) = prodA (L.filter q) * (t.c + t.p) * (useD L * t.p) := by
        rw [Nat.mul_assoc, Nat.mul_assoc, Nat.mul_left_comm (useD L)]
      have e2 : prodA L * useD (L.filter q) * ((t.c + t.p) * t.p) = prodA L * (t.c + t.p) * (useD (L.filter q) * t.p) := by
        rw [Nat.mul_assoc, Nat.mul_assoc, Nat.mul_left_comm (useD (L.filter q))]
      omega
    · rw [prodA_cons, useD_cons]
      have := Nat.mul_le_mul ih (show t.p ≤ t.c + t.p by omega)
      have e1 : prodA (L.filter q) * useD L * t.p = prodA (L.filter q) * (useD L * t.p) := Nat.mul_assoc _ _ _
      have e2 : prodA L * useD (L.filter q) * (t.c + t.p) = prodA L * (t.c + t.p) * useD (L.filter q) := Nat.mul_right_comm _ _ _
      omega
/-- The last release of y in T, and what it asks for until then. -/
def rel (T : Nat) (y : Tk) : Nat := T / y.p * y.p
def wrk (T : Nat) : List Tk → Nat
  | [] => 0
  | y :: L => T / y.p * y.c + wrk T L
theorem wrk_append (T : Nat) (A B : List Tk) : wrk T (A ++ B) = wrk T A + wrk T B := by
  induction A with
  | nil => simp [wrk]
  | cons t A ih => rw [List.cons_append, wrk, wrk, ih]; omega
/-- At r, those ahead: at most twice; those behind: once. -/
theorem need_ahead {T r : Nat} {L : List Tk} (h : ∀ y ∈ L, 0 < y.p ∧ y.p ≤ T) (hr : r ≤ T) : need L r ≤ wrk T L + wrk T L := by
  induction L with
  | nil => exact Nat.le_refl _
  | cons y L ih =>
    obtain ⟨h1, h2⟩ := h y (by simp)
    have ih := ih fun u hu => h u (List.mem_cons_of_mem _ hu)
    have hq : 1 ≤ T / y.p := (Nat.le_div_iff_mul_le h1).2 (by omega)
    have hu : up r y.p ≤ T / y.p + T / y.p := by
      have h3 : up r y.p ≤ T / y.p + 1 := (up_le_iff h1).2 (by
        have : T < (T / y.p + 1) * y.p := (Nat.div_lt_iff_lt_mul h1).1 (Nat.lt_succ_self (T / y.p))
        omega)
      omega
    have := Nat.mul_le_mul_right y.c hu
    rw [Nat.add_mul] at this
    rw [need, wrk]; omega
theorem need_behind {T r : Nat} {L : List Tk} (h : ∀ y ∈ L, 0 < y.p ∧ r ≤ rel T y) : need L r ≤ wrk T L := by
  induction L with
  | nil => exact Nat.le_refl _
  | cons y L ih =>
    obtain ⟨h1, h2⟩ := h y (by simp)
    have ih := ih fun u hu => h u (List.mem_cons_of_mem _ hu)
    have := Nat.mul_le_mul_right y.c ((up_le_iff (n := T / y.p) h1).2 h2)
    rw [need, wrk]; omega
/-- Bini and Buttazzo: what never has time enough passes the bound. A: the work of all. -/
theorem hyper {T : Nat} {M : List Tk} (hM : ∀ y ∈ M, 0 < y.p ∧ 0 < y.c ∧ y.p ≤ T) (hs : M.Pairwise fun a b => rel T a ≤ rel T b) (hno : ∀ r, 0 < r → r ≤ T → r < need M r) :
    ∀ j, j ≤ M.length → useD (M.take j) * (wrk T M + wrk T (M.take j)) ≤ prodA (M.take j) * wrk T M ∧ (0 < j → useD (M.take j) * (wrk T M + wrk T (M.take j)) < prodA (M.take j) * wrk T M)
  | 0, _ => by
    rw [List.take_zero]
    exact ⟨by show 1 * (wrk T M + 0) ≤ 1 * wrk T M; omega, fun h => absurd h (by omega)⟩
  | j + 1, hj => by
    obtain ⟨y, hy⟩ : ∃ y, M[j]? = some y := ⟨_, List.getElem?_eq_getElem (by omega)⟩
    obtain ⟨h1, h2, h3⟩ := hM y (List.mem_of_getElem? hy)
    have hq : 1 ≤ T / y.p := (Nat.le_div_iff_mul_le h1).2 (by omega)
    have hr0 : 0 < rel T y := Nat.mul_pos hq h1
    have hrT : rel T y ≤ T := Nat.div_mul_le_self T y.p
    -- there isn't time enough at the last release of y
    have hlt : rel T y < wrk T M + wrk T (M.take j) := by
      have g := hno _ hr0 hrT
      have e : need M (rel T y) = need (M.take j) (rel T y) + need (M.drop j) (rel T y) := by rw [← need_append, List.take_append_drop]
      have ew : wrk T M = wrk T (M.take j) + wrk T (M.drop j) := by rw [← wrk_append, List.take_append_drop]
      have g1 := need_ahead (T := T) (r := rel T y) (L := M.take j) (fun u hu => by have := hM u (List.mem_of_mem_take hu); exact ⟨this.1, this.2.2⟩) hrT
      have g2 := need_behind (T := T) (r := rel T y) (L := M.drop j) (fun u hu => by
        refine ⟨(hM u (List.mem_of_mem_drop hu)).1, ?_⟩
        obtain ⟨i, hi⟩ := List.mem_iff_getElem?.1 hu
        rw [List.getElem?_drop] at hi
        by_cases e : i = 0
        · subst e
          rw [Nat.add_zero, hy] at hi
          injection hi with hi
          subst hi
          exact Nat.le_refl _
        · obtain ⟨q1, e1⟩ := List.getElem?_eq_some_iff.1 hy
          obtain ⟨q2, e2⟩ := List.getElem?_eq_some_iff.1 hi
          have := List.pairwise_iff_getElem.1 hs j (j + i) q1 q2 (by omega)
          rw [e1, e2] at this
          exact this)
      omega
    obtain ⟨ih, _⟩ := hyper hM hs hno j (by omega)
    have et := take_next hy
    have ew : wrk T (M.take (j + 1)) = wrk T (M.take j) + T / y.p * y.c := by rw [et, wrk_append]; rfl
    obtain ⟨p1, p2⟩ := prod_snoc (M.take j) y
    rw [← et] at p1 p2
    rw [p1, p2, ew]
    have hD : 0 < useD (M.take j) := useD_pos fun u hu => (hM u (List.mem_of_mem_take hu)).1
    generalize useD (M.take j) = D at *
    generalize prodA (M.take j) = A at *
    generalize wrk T M = W at *
    generalize wrk T (M.take j) = V at *
    have key : D * y.p * (W + (V + T / y.p * y.c)) < A * (y.c + y.p) * W := by
      have k1 := Nat.mul_le_mul_right (y.c + y.p) ih
      have k2 : D * (W + V) * (y.c + y.p) = D * (W + V) * y.c + D * (W + V) * y.p := Nat.mul_add _ _ _
      have k3 : A * W * (y.c + y.p) = A * (y.c + y.p) * W := Nat.mul_right_comm _ _ _
      have k4 : D * y.p * (W + (V + T / y.p * y.c)) = D * (W + V) * y.p + D * (T / y.p * y.p) * y.c := by
        rw [← Nat.add_assoc, Nat.mul_add]
        have a1 : D * y.p * (W + V) = D * (W + V) * y.p := Nat.mul_right_comm _ _ _
        have a2 : D * y.p * (T / y.p * y.c) = D * (T / y.p * y.p) * y.c := by
          simp only [Nat.mul_comm, Nat.mul_left_comm]
        omega
      have k5 : D * (T / y.p * y.p) * y.c < D * (W + V) * y.c :=
        Nat.mul_lt_mul_of_pos_right (Nat.mul_lt_mul_of_pos_left hlt hD) h2
      omega
    exact ⟨Nat.le_of_lt key, fun _ => key⟩
/-- The hyperbolic bound is enough. -/
theorem feas_of_sure {L : List Tk} (hL : OkL L) (h : prodA L ≤ 2 * useD L) : Feas L := fun x hx => by
  by_cases g : ∃ r, 0 < r ∧ r ≤ x.p ∧ need (often x.p L) r ≤ r
  · exact g
  · exfalso
    have hno : ∀ r, 0 < r → r ≤ x.p → r < need (often x.p L) r := fun r h1 h2 => by
      by_cases q : r < need (often x.p L) r
      · exact q
      · exact absurd ⟨r, h1, h2, by omega⟩ g
    have hG : ∀ y ∈ often x.p L, 0 < y.p ∧ 0 < y.c ∧ y.p ≤ x.p := fun y hy => by
      obtain ⟨a, b⟩ := List.mem_filter.1 hy
      exact ⟨hL.pos y a, (hL y a).1, of_decide_eq_true b⟩
    have hxG : x ∈ often x.p L := List.mem_filter.2 ⟨hx, by simp⟩
    -- in the order of the last releases
    have hperm := List.mergeSort_perm (often x.p L) (fun a b => decide (rel x.p a ≤ rel x.p b))
    have hsort := List.pairwise_mergeSort (le := fun a b => decide (rel x.p a ≤ rel x.p b)) (fun a b c h1 h2 => by simp at *; omega) (fun a b => by simp; omega) (often x.p L)
    generalize (often x.p L).mergeSort (fun a b => decide (rel x.p a ≤ rel x.p b)) = M at *
    have hM : ∀ y ∈ M, 0 < y.p ∧ 0 < y.c ∧ y.p ≤ x.p := fun y hy => hG y (hperm.mem_iff.1 hy)
    have hk := (hyper hM (hsort.imp fun h => of_decide_eq_true h) (fun r h1 h2 => by rw [need_perm hperm]; exact hno r h1 h2) M.length (Nat.le_refl _)).2 (List.length_pos_of_mem (hperm.mem_iff.2 hxG))
    rw [List.take_length, useD_perm hperm, prodA_perm hperm] at hk
    have hW : useD (often x.p L) * 2 < prodA (often x.p L) := by
      have e : useD (often x.p L) * (wrk x.p M + wrk x.p M) = useD (often x.p L) * 2 * wrk x.p M := by
        rw [Nat.mul_assoc, Nat.two_mul]
      rw [e] at hk
      exact Nat.lt_of_mul_lt_mul_right hk
    have hf := prod_filter (fun y => decide (y.p ≤ x.p)) L
    change prodA (often x.p L) * useD L ≤ prodA L * useD (often x.p L) at hf
    have hD := useD_pos hL.pos
    have hf2 := Nat.le_trans hf (Nat.mul_le_mul_right (useD (often x.p L)) h)
    have e : 2 * useD L * useD (often x.p L) = useD (often x.p L) * 2 * useD L := by
      simp only [Nat.mul_assoc, Nat.mul_comm, Nat.mul_left_comm]
    rw [e] at hf2
    have := Nat.le_of_mul_le_mul_right hf2 hD
    omega
end Go.Proofs.Ytajfohnblmnjjaa

/-
  Numbers that an int holds. No statement of the seat is here.
-/
namespace Go.Proofs.Ytajfohnblmnjjaa

def in64 (x : Int) : Prop := -9223372036854775808 ≤ x ∧ x ≤ 9223372036854775807
def in64s (l : List Int) : Prop := ∀ x ∈ l, in64 x
theorem in64_wf {x : Int} (h : (Lit.int .i64 x).wf = true) : in64 x := wf_i64 h
theorem in64s_wf {l : List Int} (h : ∀ x ∈ l, (Lit.int .i64 x).wf = true) : in64s l := fun x hx => wf_i64 (h x hx)
end Go.Proofs.Ytajfohnblmnjjaa

/-
  Tasks as pairs of integers, wrong lists; the search for the least end; what is left to do; the first ends of the simulation. No statement of the seat is here.
-/
namespace Go.Proofs.Ytajfohnblmnjjaa
open Go.RowKit
set_option linter.unusedVariables false

structure Tsk where
  p : Int
  c : Int
def tskC (t : Tsk) : List Value := [.int .i64 t.p, .int .i64 t.c]
def Tsk.In (t : Tsk) : Prop := in64 t.p ∧ in64 t.c
/-- In range. -/
def Tsk.Fit (t : Tsk) : Prop := 1 ≤ t.c ∧ t.c ≤ t.p ∧ t.p ≤ 10000
instance (t : Tsk) : Decidable t.Fit := by unfold Tsk.Fit; infer_instance
def badK (t : Tsk) : Bool := !decide t.Fit
def wrongK (L : List Tsk) : Bool := decide (16 < L.length) || L.any badK
def errK (L : List Tsk) : Int := if wrongK L = true then 2 else 0
theorem errK_two {L : List Tsk} (h : wrongK L = true) : errK L = 2 := by rw [errK, if_pos h]
theorem errK_zero {L : List Tsk} (h : wrongK L = false) : errK L = 0 := by rw [errK, if_neg (by rw [h]; exact Bool.false_ne_true)]
theorem badK_false {t : Tsk} (h : t.Fit) : badK t = false := by unfold badK; rw [decide_eq_true h]; rfl
theorem badK_true {t : Tsk} (h : ¬ t.Fit) : badK t = true := by unfold badK; rw [decide_eq_false h]; rfl

/-- A task in range, as the program holds it. -/
def Tk.asT (t : Tk) : Tsk := ⟨t.p, t.c⟩
def tkC (t : Tk) : List Value := [.int .i64 (t.p : Int), .int .i64 (t.c : Int)]
theorem tk_flat (M : List Tk) : (M.map Tk.asT).flatMap tskC = M.flatMap tkC := by rw [List.flatMap_map]; rfl
structure GoodK (M : List Tk) : Prop where
  len : M.length ≤ 16
  ok : ∀ t ∈ M, t.Ok
theorem GoodK.pos {M : List Tk} (h : GoodK M) : ∀ t ∈ M, 0 < t.p := fun t ht => by have := h.ok t ht; unfold Tk.Ok at this; omega
theorem GoodK.at_ {M : List Tk} (h : GoodK M) {k : Nat} {t : Tk} (hk : M[k]? = some t) : 1 ≤ t.c ∧ t.c ≤ t.p ∧ t.p ≤ 10000 := h.ok t (List.mem_of_getElem? hk)
theorem GoodK.take {M : List Tk} (h : GoodK M) (k : Nat) : GoodK (M.take k) := ⟨by have := h.len; rw [List.length_take]; omega, fun t ht => h.ok t (List.mem_of_mem_take ht)⟩
theorem good_of {L : List Tsk} (h : wrongK L = false) : ∃ M : List Tk, L = M.map Tk.asT ∧ GoodK M := by
  unfold wrongK at h
  rw [Bool.or_eq_false_iff, decide_eq_false_iff_not, List.any_eq_false] at h
  obtain ⟨h1, h2⟩ := h
  have hf : ∀ t ∈ L, t.Fit := fun t ht => by
    by_cases g : t.Fit
    · exact g
    · exact absurd (badK_true g) (h2 t ht)
  refine ⟨L.map fun t => ⟨t.p.toNat, t.c.toNat⟩, ?_, by simpa using h1, fun t ht => ?_⟩
  · rw [List.map_map]
    refine (List.map_id L).symm.trans (List.map_congr_left fun t ht => ?_)
    obtain ⟨g1, g2, g3⟩ := hf t ht
    obtain ⟨p, c⟩ := t
    simp only at g1 g2 g3
    simp only [id, Function.comp, Tk.asT, Tsk.mk.injEq]
    omega
  · obtain ⟨s, hs, rfl⟩ := List.mem_map.1 ht
    obtain ⟨g1, g2, g3⟩ := hf s hs
    unfold Tk.Ok
    simp only
    omega
theorem good_not {M : List Tk} (h : GoodK M) : wrongK (M.map Tk.asT) = false := by
  unfold wrongK
  rw [Bool.or_eq_false_iff, decide_eq_false_iff_not, List.any_eq_false]
  refine ⟨by have := h.len; simpa using this, fun s hs => ?_⟩
  obtain ⟨t, ht, rfl⟩ := List.mem_map.1 hs
  have := h.ok t ht
  unfold Tk.Ok at this
  rw [badK_false (by unfold Tsk.Fit Tk.asT; simp only; omega)]
  exact Bool.false_ne_true

/-! the ends of all -/
structure EndsAre (M : List Tk) (R : List Nat) : Prop where
  len : R.length = M.length
  at_ : ∀ k t r, M[k]? = some t → R[k]? = some r → EndIs (M.take k) t r
def NoEnds (M : List Tk) : Prop := ∃ k t, M[k]? = some t ∧ NoEnd (M.take k) t
theorem EndsAre.one {M : List Tk} {R : List Nat} (h : EndsAre M R) {k : Nat} {t : Tk} (hk : M[k]? = some t) : ∃ r, R[k]? = some r ∧ EndIs (M.take k) t r := by
  have hlt : k < R.length := by rw [h.len]; exact (List.getElem?_eq_some_iff.1 hk).1
  exact ⟨_, List.getElem?_eq_getElem hlt, h.at_ k t _ hk (List.getElem?_eq_getElem hlt)⟩
theorem EndsAre.back {M : List Tk} {R : List Nat} (h : EndsAre M R) {k : Nat} {r : Nat} (hk : R[k]? = some r) : ∃ t, M[k]? = some t ∧ EndIs (M.take k) t r := by
  have hlt : k < M.length := by rw [← h.len]; exact (List.getElem?_eq_some_iff.1 hk).1
  exact ⟨_, List.getElem?_eq_getElem hlt, h.at_ k _ r (List.getElem?_eq_getElem hlt) hk⟩
theorem EndsAre.unique {M : List Tk} {R S : List Nat} (h : EndsAre M R) (k : EndsAre M S) : R = S := by
  refine List.ext_getElem? fun j => ?_
  by_cases hj : j < M.length
  · obtain ⟨r, h1, h2⟩ := h.one (List.getElem?_eq_getElem hj)
    obtain ⟨s, k1, k2⟩ := k.one (List.getElem?_eq_getElem hj)
    rw [h1, k1, h2.unique k2]
  · rw [List.getElem?_eq_none (by rw [h.len]; omega), List.getElem?_eq_none (by rw [k.len]; omega)]
theorem EndsAre.not_no {M : List Tk} {R : List Nat} (h : EndsAre M R) : ¬ NoEnds M := fun ⟨k, t, hk, hn⟩ => by
  obtain ⟨r, _, h2⟩ := h.one hk
  exact h2.not_no hn
theorem EndsAre.nil : EndsAre [] [] := ⟨rfl, fun k t r h => by cases h⟩
/-- The ends of the first k, and of one more. -/
theorem EndsAre.snoc {M : List Tk} {R : List Nat} {k r : Nat} {t : Tk} (h : EndsAre (M.take k) R) (hk : M[k]? = some t) (hr : EndIs (M.take k) t r) : EndsAre (M.take (k + 1)) (R ++ [r]) := by
  have hlt := (List.getElem?_eq_some_iff.1 hk).1
  have hl : R.length = k := by rw [h.len, List.length_take]; omega
  refine ⟨by rw [List.length_append, hl, List.length_take, List.length_singleton]; omega, fun j u s hj hs => ?_⟩
  have hjk : j < k + 1 := by have := (List.getElem?_eq_some_iff.1 hj).1; rw [List.length_take] at this; omega
  rw [List.getElem?_take, if_pos hjk] at hj
  rw [List.take_take, show min j (k + 1) = j by omega]
  by_cases e : j = k
  · subst e
    rw [hk] at hj
    cases hj
    rw [List.getElem?_append_right (by omega), hl, Nat.sub_self] at hs
    simp at hs
    subst hs
    exact hr
  · rw [List.getElem?_append_left (by omega)] at hs
    have := h.at_ j u s (by rw [List.getElem?_take, if_pos (by omega)]; exact hj) hs
    rwa [List.take_take, show min j k = j by omega] at this

/-! the search -/
/-- No end below g. -/
def Seek (pre : List Tk) (t : Tk) (g : Nat) : Prop := t.c ≤ g ∧ ∀ r, t.c ≤ r → r < g → t.c + need pre r ≠ r
theorem Seek.start (pre : List Tk) (t : Tk) : Seek pre t t.c := ⟨Nat.le_refl _, fun r h1 h2 => by omega⟩
theorem Seek.more {pre : List Tk} {t : Tk} {g : Nat} (h : Seek pre t g) : g ≤ t.c + need pre g := by
  by_cases e : t.c + need pre g < g
  · exfalso
    have h1 := lt_of_no h.2 _ e
    have h2 := need_mono pre (Nat.le_of_lt e)
    omega
  · omega
theorem Seek.next {pre : List Tk} {t : Tk} {g : Nat} (h : Seek pre t g) : Seek pre t (t.c + need pre g) := by
  refine ⟨by omega, fun r h1 h2 => ?_⟩
  by_cases hr : r < g
  · exact h.2 r h1 hr
  · have := need_mono pre (show g ≤ r by omega)
    omega
/-- One by one. -/
theorem Seek.succ {pre : List Tk} {t : Tk} {g : Nat} (h : Seek pre t g) (hn : t.c + need pre g ≠ g) : Seek pre t (g + 1) := by
  refine ⟨by have := h.1; omega, fun r h1 h2 => ?_⟩
  by_cases hr : r = g
  · subst hr; exact hn
  · exact h.2 r h1 (by omega)
theorem Seek.done {pre : List Tk} {t : Tk} {g : Nat} (h : Seek pre t g) (he : t.c + need pre g = g) (hp : g ≤ t.p) : EndIs pre t g := ⟨h.1, hp, he, h.2⟩
theorem Seek.none {pre : List Tk} {t : Tk} {g : Nat} (h : Seek pre t g) (hp : t.p < g) : NoEnd pre t := fun r h1 h2 => h.2 r h1 (by omega)
theorem up_size {r p : Nat} (hp : 0 < p) : up r p * p ≤ r + p := by
  have := Nat.div_mul_le_self (r + (p - 1)) p
  unfold up
  omega
theorem one_size {t : Tk} (h : t.Ok) (r : Nat) : up r t.p * t.c ≤ r + 10000 := by
  obtain ⟨h1, h2, h3⟩ := h
  have h4 := Nat.mul_le_mul_left (up r t.p) h2
  have h5 := up_size (r := r) (p := t.p) (by omega)
  omega
theorem need_size {M : List Tk} (h : ∀ t ∈ M, t.Ok) (r : Nat) : need M r ≤ M.length * (r + 10000) := by
  induction M with
  | nil => simp [need]
  | cons t M ih =>
    have h1 := ih fun u hu => h u (List.mem_cons_of_mem _ hu)
    have h2 := one_size (h t (by simp)) r
    rw [need, List.length_cons, Nat.succ_mul]
    omega
theorem GoodK.need {M : List Tk} (h : GoodK M) {r : Nat} (hr : r ≤ 20000) : need M r ≤ 480000 := by
  have h1 := need_size h.ok r
  have h2 := Nat.mul_le_mul h.len (show r + 10000 ≤ 30000 by omega)
  omega
theorem need_snoc {M : List Tk} {k : Nat} {t : Tk} (h : M[k]? = some t) (r : Nat) : need (M.take (k + 1)) r = need (M.take k) r + up r t.p * t.c := by
  rw [take_snoc h, need_append]; simp [need]

/-! the simulation -/
/-- One unit later, one period more where the period divides the time. -/
theorem up_next {n p : Nat} (hp : 0 < p) : up (n + 1) p = up n p + if n % p = 0 then 1 else 0 := by
  rw [up_succ hp]
  split
  · rename_i h
    have := up_steps (m := n / p) hp
    rw [Nat.div_mul_cancel (Nat.dvd_of_mod_eq_zero h)] at this
    omega
  · rename_i h
    cases n with
    | zero => simp at h
    | succ n =>
      rw [up_succ hp]
      have : (n + 1) / p = n / p := by
        rw [Nat.succ_div]
        rw [if_neg (fun hd => h (Nat.mod_eq_zero_of_dvd hd))]
        omega
      omega
def leftL : List Tk → List Nat → Nat → List Nat
  | t :: M, d :: D, now => (up now t.p * t.c - d) :: leftL M D now
  | _, _, _ => []
def relL : List Tk → List Nat → Nat → List Nat
  | t :: M, x :: T, now => (if now % t.p = 0 then x + t.c else x) :: relL M T now
  | _, _, _ => []
theorem left_length : ∀ (M : List Tk) (D : List Nat) (now : Nat), M.length = D.length → (leftL M D now).length = M.length
  | [], D, _, _ => by cases D <;> rfl
  | t :: M, [], _, h => by cases h
  | t :: M, d :: D, now, h => by rw [leftL, List.length_cons, List.length_cons, left_length M D now (by simpa using h)]
theorem rel_length : ∀ (M : List Tk) (T : List Nat) (now : Nat), M.length = T.length → (relL M T now).length = M.length
  | [], T, _, _ => by cases T <;> rfl
  | t :: M, [], _, h => by cases h
  | t :: M, x :: T, now, h => by rw [relL, List.length_cons, List.length_cons, rel_length M T now (by simpa using h)]
theorem rel_at : ∀ {M : List Tk} {T : List Nat} {now k : Nat} {t : Tk} {x : Nat}, M[k]? = some t → T[k]? = some x → (relL M T now)[k]? = some (if now % t.p = 0 then x + t.c else x)
  | [], T, _, k, t, x, h, _ => by cases h
  | u :: M, [], _, k, t, x, _, h => by cases h
  | u :: M, y :: T, now, 0, t, x, h, g => by
    simp at h g
    subst h g
    rfl
  | u :: M, y :: T, now, k + 1, t, x, h, g => by
    rw [relL, List.getElem?_cons_succ]
    exact rel_at (by simpa using h) (by simpa using g)
theorem left_at : ∀ {M : List Tk} {D : List Nat} {now k : Nat} {t : Tk} {d : Nat}, M[k]? = some t → D[k]? = some d → (leftL M D now)[k]? = some (up now t.p * t.c - d)
  | [], D, _, k, t, d, h, _ => by cases h
  | u :: M, [], _, k, t, d, _, h => by cases h
  | u :: M, y :: D, now, 0, t, d, h, g => by
    simp at h g
    subst h g
    rfl
  | u :: M, y :: D, now, k + 1, t, d, h, g => by
    rw [leftL, List.getElem?_cons_succ]
    exact left_at (by simpa using h) (by simpa using g)
theorem left_set : ∀ {M : List Tk} {D : List Nat} {now k : Nat} {t : Tk} {d : Nat}, M[k]? = some t → D[k]? = some d → leftL M (D.set k (d + 1)) now = (leftL M D now).set k (up now t.p * t.c - d - 1)
  | [], D, _, k, t, d, h, _ => by cases h
  | u :: M, [], _, k, t, d, _, h => by cases h
  | u :: M, y :: D, now, 0, t, d, h, g => by
    simp at h g
    subst h g
    rw [List.set_cons_zero, leftL, leftL, List.set_cons_zero, Nat.sub_sub]
  | u :: M, y :: D, now, k + 1, t, d, h, g => by
    rw [List.set_cons_succ, leftL, leftL, List.set_cons_succ, left_set (by simpa using h) (by simpa using g)]
/-- What is left, behind the release. -/
theorem left_rel : ∀ {M : List Tk} {D : List Nat} {now : Nat}, (∀ t ∈ M, 0 < t.p) → LeN M D now → relL M (leftL M D now) now = leftL M D (now + 1)
  | [], [], _, _, _ => rfl
  | [], d :: D, _, _, h => h.elim
  | t :: M, [], _, _, h => h.elim
  | t :: M, d :: D, now, hp, h => by
    rw [leftL, leftL, relL, left_rel (fun u hu => hp u (List.mem_cons_of_mem _ hu)) h.2, up_next (hp t (by simp))]
    congr 1
    have := h.1
    split
    · rw [Nat.succ_mul]; omega
    · rfl
theorem left_start : ∀ (M : List Tk), (∀ t ∈ M, 0 < t.p) → leftL M (List.replicate M.length 0) 0 = List.replicate M.length 0
  | [], _ => rfl
  | t :: M, hp => by rw [List.length_cons, List.replicate_succ, leftL, left_start M fun u hu => hp u (List.mem_cons_of_mem _ hu), up_zero (hp t (by simp))]; simp
/-- Who has something to do. -/
def BusyK (M : List Tk) (D : List Nat) (now k : Nat) : Prop := ∃ t d, M[k]? = some t ∧ D[k]? = some d ∧ d < up (now + 1) t.p * t.c
theorem pick_none : ∀ {M : List Tk} {D : List Nat} {now : Nat}, (∀ k, ¬ BusyK M D now k) → pickL M D now = none ∧ tickL M D now = D
  | [], D, _, _ => ⟨rfl, by cases D <;> rfl⟩
  | t :: M, [], _, _ => ⟨rfl, rfl⟩
  | t :: M, d :: D, now, h => by
    have h0 : ¬ d < up (now + 1) t.p * t.c := fun g => h 0 ⟨t, d, rfl, rfl, g⟩
    obtain ⟨e1, e2⟩ := pick_none (M := M) (D := D) (now := now) fun k ⟨u, x, a, b, g⟩ => h (k + 1) ⟨u, x, by simpa using a, by simpa using b, g⟩
    exact ⟨by rw [pickL, if_neg h0, e1]; rfl, by rw [tickL, if_neg h0, e2]⟩
theorem pick_some : ∀ {M : List Tk} {D : List Nat} {now k : Nat} {t : Tk} {d : Nat}, M[k]? = some t → D[k]? = some d → d < up (now + 1) t.p * t.c → (∀ j, j < k → ¬ BusyK M D now j) → pickL M D now = some k ∧ tickL M D now = D.set k (d + 1)
  | [], D, _, k, t, d, h, _, _, _ => by cases h
  | u :: M, [], _, k, t, d, _, h, _, _ => by cases h
  | u :: M, y :: D, now, 0, t, d, h, g, hb, _ => by
    simp at h g
    subst h g
    exact ⟨by rw [pickL, if_pos hb], by rw [tickL, if_pos hb]; rfl⟩
  | u :: M, y :: D, now, k + 1, t, d, h, g, hb, hn => by
    have h0 : ¬ y < up (now + 1) u.p * u.c := fun q => hn 0 (by omega) ⟨u, y, rfl, rfl, q⟩
    obtain ⟨e1, e2⟩ := pick_some (M := M) (D := D) (now := now) (k := k) (by simpa using h) (by simpa using g) hb fun j hj ⟨a, x, p1, p2, q⟩ => hn (j + 1) (by omega) ⟨a, x, by simpa using p1, by simpa using p2, q⟩
    exact ⟨by rw [pickL, if_neg h0, e1]; rfl, by rw [tickL, if_neg h0, e2]; rfl⟩
/-- Who runs, as a number. -/
def whoL (M : List Tk) (now : Nat) : Int := match pickL M (didL M now) now with | none => -1 | some k => k
def ranL (M : List Tk) (long : Nat) : List Int := (List.range long).map (whoL M)
theorem ran_length (M : List Tk) (n : Nat) : (ranL M n).length = n := by simp [ranL]
theorem ran_succ (M : List Tk) (n : Nat) : ranL M (n + 1) = ranL M n ++ [whoL M n] := by unfold ranL; rw [List.range_succ, List.map_append]; rfl
theorem ran_at {M : List Tk} {n k : Nat} (h : k < n) : (ranL M n)[k]? = some (whoL M k) := by unfold ranL; rw [List.getElem?_map, List.getElem?_range h]; rfl
/-- When each had done its first. -/
def firstL (M : List Tk) : Nat → List Int
  | 0 => List.replicate M.length (-1)
  | now + 1 => match pickL M (didL M now) now with
    | none => firstL M now
    | some k => if M[k]?.map (·.c) = some (didK M k (now + 1)) then (firstL M now).set k (now + 1) else firstL M now
theorem first_length (M : List Tk) : ∀ n, (firstL M n).length = M.length
  | 0 => by simp [firstL]
  | n + 1 => by
    rw [firstL]
    split
    · exact first_length M n
    · split
      · rw [List.length_set]; exact first_length M n
      · exact first_length M n
theorem first_none {M : List Tk} {now : Nat} (h : pickL M (didL M now) now = none) : firstL M (now + 1) = firstL M now := by rw [firstL, h]
theorem first_some {M : List Tk} {now k : Nat} (h : pickL M (didL M now) now = some k) : firstL M (now + 1) = if M[k]?.map (·.c) = some (didK M k (now + 1)) then (firstL M now).set k (now + 1) else firstL M now := by rw [firstL, h]
/-- One unit: who is picked does one, the others nothing. -/
theorem did_pick {M : List Tk} {now : Nat} : (pickL M (didL M now) now = none ∧ ∀ k, didK M k (now + 1) = didK M k now) ∨ ∃ j, j < M.length ∧ pickL M (didL M now) now = some j ∧ didK M j (now + 1) = didK M j now + 1 ∧ ∀ k, k ≠ j → didK M k (now + 1) = didK M k now := by
  rcases pick_tick M (didL M now) now (did_length M now).symm with ⟨e1, e2⟩ | ⟨j, d, e1, e2, e3⟩
  · exact .inl ⟨e1, fun k => by unfold didK; rw [didL, e2]⟩
  · have hlt : j < (didL M now).length := (List.getElem?_eq_some_iff.1 e2).1
    refine .inr ⟨j, by rw [← did_length M now]; exact hlt, e1, ?_, fun k hk => ?_⟩
    · unfold didK
      rw [didL, e3, List.getD_eq_getElem?_getD, List.getD_eq_getElem?_getD, List.getElem?_set_self hlt, e2]; rfl
    · unfold didK
      rw [didL, e3, List.getD_eq_getElem?_getD, List.getD_eq_getElem?_getD, List.getElem?_set_ne (Ne.symm hk)]
theorem who_none {M : List Tk} {now : Nat} (h : pickL M (didL M now) now = none) : whoL M now = -1 := by unfold whoL; rw [h]
theorem who_some {M : List Tk} {now k : Nat} (h : pickL M (didL M now) now = some k) : whoL M now = k := by unfold whoL; rw [h]
theorem did_who {M : List Tk} (k now : Nat) : didK M k (now + 1) = didK M k now + if whoL M now = k then 1 else 0 := by
  rcases did_pick (M := M) (now := now) with ⟨e1, e2⟩ | ⟨j, _, e1, e2, e3⟩
  · rw [who_none e1, if_neg (by omega), e2]; rfl
  · rw [who_some e1]
    by_cases h : k = j
    · subst h
      rw [if_pos rfl, e2]
    · rw [if_neg (by omega), e3 k h]; rfl
theorem didK_start (M : List Tk) (k : Nat) : didK M k 0 = 0 := by
  unfold didK
  rw [didL, List.getD_eq_getElem?_getD, List.getElem?_replicate]
  split <;> rfl
theorem first_at_end {M : List Tk} (hM : ∀ t ∈ M, 0 < t.p) {k : Nat} {t : Tk} (hk : M[k]? = some t) (hc : 0 < t.c) {R : Nat} (h : EndIs (M.take k) t R) : ∀ x, (firstL M x)[k]? = some (if R ≤ x then (R : Int) else -1)
  | 0 => by
    have hlt := (List.getElem?_eq_some_iff.1 hk).1
    rw [firstL, List.getElem?_replicate, if_pos hlt, if_neg (by have := h.lo; omega)]
  | x + 1 => by
    have hlt := (List.getElem?_eq_some_iff.1 hk).1
    have ih := first_at_end hM hk hc h x
    obtain ⟨f1, f2⟩ := first_at hM hk hc h
    rcases did_pick (M := M) (now := x) with ⟨e1, e2⟩ | ⟨j, hj, e1, e2, e3⟩
    · rw [first_none e1, ih]
      have := e2 k
      by_cases g : R ≤ x
      · rw [if_pos g, if_pos (by omega)]
      · rw [if_neg g]
        by_cases g2 : R ≤ x + 1
        · have q1 := f1 x (by omega)
          have q2 := f2 (x + 1) g2
          omega
        · rw [if_neg g2]
    · rw [first_some e1]
      by_cases hjk : j = k
      · subst hjk
        rw [hk]
        by_cases g : R ≤ x
        · have q := f2 x g
          rw [if_neg (by simp; omega), ih, if_pos g, if_pos (by omega)]
        · have q1 := f1 x (by omega)
          by_cases g2 : R ≤ x + 1
          · have q2 := f2 (x + 1) g2
            rw [if_pos (by simp; omega), List.getElem?_set_self (by rw [first_length]; exact hlt), if_pos g2]
            congr 1; omega
          · have q3 := f1 (x + 1) (by omega)
            rw [if_neg (by simp; omega), ih, if_neg g, if_neg g2]
      · have e4 := e3 k (fun e => hjk e.symm)
        have ih' : (if M[j]?.map (·.c) = some (didK M j (x + 1)) then (firstL M x).set j (x + 1) else firstL M x)[k]? = (firstL M x)[k]? := by
          split
          · rw [List.getElem?_set_ne hjk]
          · rfl
        rw [ih', ih]
        by_cases g : R ≤ x
        · rw [if_pos g, if_pos (by omega)]
        · rw [if_neg g]
          by_cases g2 : R ≤ x + 1
          · have q1 := f1 x (by omega)
            have q2 := f2 (x + 1) g2
            omega
          · rw [if_neg g2]
theorem first_ends {M : List Tk} (hM : GoodK M) {R : List Nat} (h : EndsAre M R) {x : Nat} (hx : ∀ r ∈ R, r ≤ x) : firstL M x = R.map (fun r : Nat => (r : Int)) := by
  refine List.ext_getElem? fun k => ?_
  by_cases hk : k < M.length
  · obtain ⟨r, h1, h2⟩ := h.one (List.getElem?_eq_getElem hk)
    have := hM.at_ (List.getElem?_eq_getElem hk)
    rw [first_at_end hM.pos (List.getElem?_eq_getElem hk) (by omega) h2, List.getElem?_map, h1, if_pos (hx r (List.mem_of_getElem? h1))]; rfl
  · rw [List.getElem?_eq_none (by rw [first_length]; omega), List.getElem?_eq_none (by rw [List.length_map, h.len]; omega)]
/-- Not more than has come. -/
theorem didK_size {M : List Tk} (hM : GoodK M) {k : Nat} {t : Tk} (hk : M[k]? = some t) (now : Nat) : didK M k now ≤ now := by
  have hs : ∀ (D : List Nat) (j d : Nat), D[j]? = some d → d ≤ sumL D := by
    intro D
    induction D with
    | nil => intro j d h; cases h
    | cons x D ih =>
      intro j d h
      cases j with
      | zero => simp at h; subst h; rw [sumL]; omega
      | succ j => have := ih j d (by simpa using h); rw [sumL]; omega
  have h1 := hs _ _ _ (didK_some (L := M) (now := now) (List.getElem?_eq_some_iff.1 hk).1)
  have h2 := did_sum_le M now
  omega
end Go.Proofs.Ytajfohnblmnjjaa

/-
  Ends of all, or none for some: as rms asks it. No statement of the seat is here.
-/
namespace Go.Proofs.Ytajfohnblmnjjaa
open Go.RowKit
set_option linter.unusedVariables false

theorem allEnd_of {M : List Tk} {R : List Nat} (h : EndsAre M R) : AllEnd M := fun k t hk => by
  obtain ⟨r, _, hr⟩ := h.one hk
  exact ⟨r, hr⟩
theorem not_allEnd {M : List Tk} (h : NoEnds M) : ¬ AllEnd M := fun g => by
  obtain ⟨k, t, hk, hn⟩ := h
  obtain ⟨R, hR⟩ := g k t hk
  exact hR.not_no hn
theorem GoodK.okL {M : List Tk} (h : GoodK M) : OkL M := fun t ht => by
  have := h.ok t ht
  unfold Tk.Ok at this
  omega
theorem GoodK.perm {M S : List Tk} (h : GoodK M) (p : M.Perm S) : GoodK S := ⟨by rw [← p.length_eq]; exact h.len, fun t ht => h.ok t (p.mem_iff.2 ht)⟩
/-- A stable order by the periods: one by one, each behind all that go as often. -/
def putT (t : Tk) : List Tk → List Tk
  | [] => [t]
  | u :: S => if u.p ≤ t.p then u :: putT t S else t :: u :: S
def sortT (L : List Tk) : List Tk := L.foldl (fun S t => putT t S) []
theorem putT_perm (t : Tk) : ∀ S : List Tk, (putT t S).Perm (t :: S)
  | [] => List.Perm.refl _
  | u :: S => by
    rw [putT]
    split
    · exact ((putT_perm t S).cons u).trans (List.Perm.swap t u S)
    · exact List.Perm.refl _
theorem putT_mem {t x : Tk} {S : List Tk} : x ∈ putT t S ↔ x = t ∨ x ∈ S := by rw [(putT_perm t S).mem_iff, List.mem_cons]
theorem putT_sorted {t : Tk} : ∀ {S : List Tk}, SortedT S → SortedT (putT t S)
  | [], _ => List.pairwise_singleton _ _
  | u :: S, h => by
    unfold SortedT at h ⊢
    rw [List.pairwise_cons] at h
    rw [putT]
    split
    · rename_i hu
      refine List.Pairwise.cons (fun x hx => ?_) (putT_sorted h.2)
      rcases putT_mem.1 hx with rfl | hx
      · exact hu
      · exact h.1 x hx
    · rename_i hu
      refine List.Pairwise.cons (fun x hx => ?_) (List.pairwise_cons.2 h)
      rcases List.mem_cons.1 hx with rfl | hx
      · omega
      · have := h.1 x hx; omega
theorem sort_snoc (L : List Tk) (t : Tk) : sortT (L ++ [t]) = putT t (sortT L) := by unfold sortT; rw [List.foldl_append]; rfl
theorem sort_perm (L : List Tk) : (sortT L).Perm L := by
  induction L using snoc_rec with
  | nil => exact List.Perm.refl _
  | snoc L t ih => rw [sort_snoc]; exact ((putT_perm t _).trans (ih.cons t)).trans (List.perm_append_singleton t L).symm
theorem sort_sorted (L : List Tk) : SortedT (sortT L) := by
  induction L using snoc_rec with
  | nil => exact List.Pairwise.nil
  | snoc L t ih => rw [sort_snoc]; exact putT_sorted ih
/-- It fits: the ends of the sorted ones. -/
theorem fit_sorted {L : List Tk} (hL : OkL L) : AllEnd (sortT L) ↔ Feas L := fit_iff hL (sort_perm L).symm (sort_sorted L)
/-- Where the last one that goes as often stands: behind the first j. -/
theorem putT_cut {t : Tk} : ∀ {S : List Tk}, SortedT S → ∃ j, j ≤ S.length ∧ putT t S = S.take j ++ t :: S.drop j ∧ (∀ u ∈ S.take j, u.p ≤ t.p) ∧ ∀ u ∈ S.drop j, t.p < u.p
  | [], _ => ⟨0, Nat.le_refl _, rfl, by simp, by simp⟩
  | u :: S, h => by
    unfold SortedT at h
    rw [List.pairwise_cons] at h
    rw [putT]
    split
    · rename_i hu
      obtain ⟨j, h1, h2, h3, h4⟩ := putT_cut (t := t) h.2
      refine ⟨j + 1, by simp; omega, by rw [h2]; rfl, fun x hx => ?_, fun x hx => h4 x (by simpa using hx)⟩
      rw [List.take_succ_cons] at hx
      rcases List.mem_cons.1 hx with rfl | hx
      · exact hu
      · exact h3 x hx
    · rename_i hu
      refine ⟨0, by simp, rfl, by simp, fun x hx => ?_⟩
      rw [List.drop_zero] at hx
      rcases List.mem_cons.1 hx with rfl | hx
      · omega
      · have := h.1 x hx; omega
end Go.Proofs.Ytajfohnblmnjjaa

/-
  The use of all time in lowest terms, as rms finds it; how great its numbers are. No statement of the seat is here.
-/
namespace Go.Proofs.Ytajfohnblmnjjaa
open Go.RowKit
set_option linter.unusedVariables false

/-- The product of one number of each. -/
def pby {α : Type} (q : α → Nat) (L : List α) : Nat := L.foldr (fun u a => a * q u) 1
theorem pby_cons {α : Type} (q : α → Nat) (t : α) (L : List α) : pby q (t :: L) = pby q L * q t := rfl
theorem pby_append {α : Type} (q : α → Nat) (A B : List α) : pby q (A ++ B) = pby q A * pby q B := by
  induction A with
  | nil => rw [List.nil_append]; exact (Nat.one_mul _).symm
  | cons t A ih => rw [List.cons_append, pby_cons, pby_cons, ih, Nat.mul_right_comm]
theorem pby_snoc {α : Type} (q : α → Nat) (L : List α) (t : α) : pby q (L ++ [t]) = pby q L * q t := by rw [pby_append, pby_cons]; show _ * (1 * _) = _; rw [Nat.one_mul]
theorem pby_le {α : Type} {q : α → Nat} {B : Nat} : ∀ {L : List α}, (∀ t ∈ L, q t ≤ B) → pby q L ≤ B ^ L.length
  | [], _ => Nat.le_refl _
  | t :: L, h => by
    rw [pby_cons, List.length_cons, Nat.pow_succ]
    exact Nat.mul_le_mul (pby_le fun u hu => h u (List.mem_cons_of_mem _ hu)) (h t (by simp))
theorem pby_small {α : Type} {q : α → Nat} {L : List α} (h : ∀ t ∈ L, q t ≤ 20000) (hl : L.length ≤ 16) : pby q L ≤ 655360000000000000000000000000000000000000000000000000000000000000000 := by
  refine Nat.le_trans (pby_le h) ?_
  have : 20000 ^ L.length ≤ 20000 ^ 16 := Nat.pow_le_pow_right (by omega) hl
  exact this
theorem pby_pos {α : Type} {q : α → Nat} {L : List α} (h : ∀ t ∈ L, 0 < q t) : 0 < pby q L := by
  induction L with
  | nil => exact Nat.one_pos
  | cons t L ih => rw [pby_cons]; exact Nat.mul_pos (ih fun u hu => h u (List.mem_cons_of_mem _ hu)) (h t (by simp))
theorem useD_pby (L : List Tk) : useD L = pby (fun t => t.p) L := rfl
theorem prodA_pby (L : List Tk) : prodA L = pby (fun t => t.c + t.p) L := rfl
/-- How great the numerator gets. -/
theorem useN_le {L : List Tk} (h : ∀ t ∈ L, t.Ok) : useN L ≤ L.length * useD L := by
  induction L with
  | nil => exact Nat.le_refl _
  | cons t L ih =>
    have ht := h t (by simp)
    unfold Tk.Ok at ht
    have ih := ih fun u hu => h u (List.mem_cons_of_mem _ hu)
    rw [useN_cons, useD_cons, List.length_cons, Nat.add_mul, Nat.one_mul]
    have h1 : useN L * t.p ≤ L.length * useD L * t.p := Nat.mul_le_mul_right _ ih
    have h2 : useD L * t.c ≤ useD L * t.p := Nat.mul_le_mul_left _ ht.2.1
    rw [← Nat.mul_assoc]
    omega
theorem GoodK.sizes {M : List Tk} (h : GoodK M) : useD M ≤ 10000000000000000000000000000000000000000000000000000000000000000 ∧ useN M ≤ 160000000000000000000000000000000000000000000000000000000000000000 ∧ prodA M ≤ 655360000000000000000000000000000000000000000000000000000000000000000 := by
  have hD : useD M ≤ 10000000000000000000000000000000000000000000000000000000000000000 := by
    rw [useD_pby]
    refine Nat.le_trans (pby_le (B := 10000) fun t ht => (h.ok t ht).2.2) ?_
    have : 10000 ^ M.length ≤ 10000 ^ 16 := Nat.pow_le_pow_right (by omega) h.len
    exact this
  refine ⟨hD, ?_, ?_⟩
  · have h1 := useN_le h.ok
    have h2 : M.length * useD M ≤ 16 * useD M := Nat.mul_le_mul_right _ h.len
    omega
  · rw [prodA_pby]
    exact pby_small (fun t ht => by have := h.ok t ht; unfold Tk.Ok at this; omega) h.len
/-- What is taken out of the numerator, task by task: N is what is left of it, F the factors of the denominator. -/
structure Low (N0 : Nat) (P : List Nat) (N : Nat) (F : List Nat) : Prop where
  len : F.length = P.length
  val : N * pby id P = N0 * pby id F
  co : ∀ f ∈ F, Nat.Coprime N f
  pos : ∀ f ∈ F, 0 < f
  small : ∀ f ∈ F, f ≤ 10000
theorem Low.start (N0 : Nat) : Low N0 [] N0 [] := ⟨rfl, rfl, fun f h => (by cases h), fun f h => (by cases h), fun f h => (by cases h)⟩
theorem Low.step {N0 N p : Nat} {P F : List Nat} (h : Low N0 P N F) (hp : 0 < p) (hp2 : p ≤ 10000) : Low N0 (P ++ [p]) (N / Nat.gcd p N) (F ++ [p / Nat.gcd p N]) := by
  have g0 : 0 < Nat.gcd p N := Nat.gcd_pos_of_pos_left _ hp
  have d1 : Nat.gcd p N ∣ p := Nat.gcd_dvd_left _ _
  have d2 : Nat.gcd p N ∣ N := Nat.gcd_dvd_right _ _
  refine ⟨by simp [h.len], ?_, ?_, ?_, ?_⟩
  · rw [pby_snoc, pby_snoc]
    show N / Nat.gcd p N * (pby id P * p) = N0 * (pby id F * (p / Nat.gcd p N))
    have e1 : Nat.gcd p N * (p / Nat.gcd p N) = p := Nat.mul_div_cancel' d1
    have e2 : N / Nat.gcd p N * Nat.gcd p N = N := Nat.div_mul_cancel d2
    rw [← Nat.mul_assoc N0, ← h.val]
    generalize Nat.gcd p N = g at *
    generalize p / g = u at *
    generalize N / g = v at *
    subst e1
    subst e2
    rw [Nat.mul_assoc v, Nat.mul_assoc v, Nat.mul_left_comm (pby id P), Nat.mul_assoc g]
  · intro f hf
    rcases List.mem_append.1 hf with hf | hf
    · exact Nat.Coprime.coprime_dvd_left (Nat.div_dvd_of_dvd d2) (h.co f hf)
    · rw [List.mem_singleton.1 hf]
      exact (Nat.coprime_div_gcd_div_gcd g0).symm
  · intro f hf
    rcases List.mem_append.1 hf with hf | hf
    · exact h.pos f hf
    · rw [List.mem_singleton.1 hf]
      exact Nat.div_pos (Nat.le_of_dvd hp d1) g0
  · intro f hf
    rcases List.mem_append.1 hf with hf | hf
    · exact h.small f hf
    · rw [List.mem_singleton.1 hf]
      exact Nat.le_trans (Nat.div_le_self _ _) hp2
theorem coprime_pby {N : Nat} : ∀ {F : List Nat}, (∀ f ∈ F, Nat.Coprime N f) → Nat.Coprime N (pby id F)
  | [], _ => Nat.coprime_one_right N
  | f :: F, h => by
    rw [pby_cons]
    exact Nat.Coprime.mul_right (coprime_pby fun x hx => h x (List.mem_cons_of_mem _ hx)) (h f (by simp))
/-- In the end: the lowest terms. -/
theorem Low.done {N0 N : Nat} {P F : List Nat} (h : Low N0 P N F) (hP : 0 < pby id P) : N = N0 / Nat.gcd N0 (pby id P) ∧ pby id F = pby id P / Nat.gcd N0 (pby id P) := by
  have hc := coprime_pby h.co
  have hF : 0 < pby id F := pby_pos h.pos
  have hv := h.val
  generalize pby id F = f at *
  generalize pby id P = p at *
  -- N / f = N0 / p, N and f without a common factor
  have hd : f ∣ p := by
    have : f ∣ N * p := ⟨N0, by rw [hv, Nat.mul_comm]⟩
    exact hc.symm.dvd_of_dvd_mul_left this
  obtain ⟨g, rfl⟩ := hd
  have hN : N * g = N0 := by
    have : N * g * f = N0 * f := by rw [Nat.mul_assoc, Nat.mul_comm g f, hv]
    exact Nat.eq_of_mul_eq_mul_right hF this
  have hg : 0 < g := by
    rcases Nat.eq_zero_or_pos g with h0 | h0
    · subst h0; simp at hP
    · exact h0
  have hgcd : Nat.gcd N0 (f * g) = g := by
    rw [← hN, Nat.gcd_mul_right, hc.gcd_eq_one, Nat.one_mul]
  rw [hgcd, ← hN, Nat.mul_div_cancel _ hg, Nat.mul_div_cancel _ hg]
  exact ⟨rfl, rfl⟩
/-- The use in lowest terms, and whether it is told. -/
def useG (M : List Tk) : Nat := Nat.gcd (useN M) (useD M)
def useNum (M : List Tk) : Nat := useN M / useG M
def useDen (M : List Tk) : Nat := useD M / useG M
def useBig (M : List Tk) : Bool := decide (useNum M > 9223372036854775807) || decide (useDen M > 9223372036854775807)
theorem useG_pos {M : List Tk} (h : ∀ t ∈ M, 0 < t.p) : 0 < useG M := Nat.gcd_pos_of_pos_right _ (useD_pos h)
theorem useDen_pos {M : List Tk} (h : ∀ t ∈ M, 0 < t.p) : 0 < useDen M := Nat.div_pos (Nat.le_of_dvd (useD_pos h) (Nat.gcd_dvd_right _ _)) (useG_pos h)
theorem use_le_iff {M : List Tk} (h : ∀ t ∈ M, 0 < t.p) : useNum M ≤ useDen M ↔ useN M ≤ useD M := by
  have hg := useG_pos h
  have e1 : useNum M * useG M = useN M := Nat.div_mul_cancel (Nat.gcd_dvd_left _ _)
  have e2 : useDen M * useG M = useD M := Nat.div_mul_cancel (Nat.gcd_dvd_right _ _)
  constructor
  · intro hh
    rw [← e1, ← e2]
    exact Nat.mul_le_mul_right _ hh
  · intro hh
    rw [← e1, ← e2] at hh
    exact Nat.le_of_mul_le_mul_right hh hg
end Go.Proofs.Ytajfohnblmnjjaa
