/-
  The mathematics of package rta: demand, the least end, who runs when; nothing is later than said, the first one is just then. No statement of the seat is here.
-/
import Derived.Test.YtajfohnblmnjjaaBase
namespace Go.Proofs.Ytajfohnblmnjjaa
open Go.RowKit
set_option linter.unusedVariables false

structure Tk where
  p : Nat
  c : Nat
  deriving DecidableEq
def Tk.Ok (t : Tk) : Prop := 1 ≤ t.c ∧ t.c ≤ t.p ∧ t.p ≤ 10000
instance (t : Tk) : Decidable t.Ok := by unfold Tk.Ok; infer_instance

/-- r through p, rounded up. -/
def up (r p : Nat) : Nat := (r + (p - 1)) / p
theorem up_zero {p : Nat} (h : 0 < p) : up 0 p = 0 := by unfold up; rw [Nat.zero_add]; exact Nat.div_eq_of_lt (by omega)
theorem up_mono {a b p : Nat} (h : a ≤ b) : up a p ≤ up b p := Nat.div_le_div_right (by omega)
/-- The law of being at least: so many periods. -/
theorem up_le_iff {r p n : Nat} (hp : 0 < p) : up r p ≤ n ↔ r ≤ n * p := by
  unfold up
  rw [← Nat.lt_succ_iff, Nat.div_lt_iff_lt_mul hp, Nat.succ_mul]
  omega
theorem up_mul {r p : Nat} (hp : 0 < p) : r ≤ up r p * p := (up_le_iff hp).1 (Nat.le_refl _)
theorem lt_up_iff {r p n : Nat} (hp : 0 < p) : n < up r p ↔ n * p < r := by
  have := up_le_iff (r := r) (n := n) hp
  omega
theorem up_add {a b p : Nat} (hp : 0 < p) : up (a + b) p ≤ up a p + up b p := by
  rw [up_le_iff hp, Nat.add_mul]
  have := up_mul (r := a) hp
  have := up_mul (r := b) hp
  omega
theorem up_one {r p : Nat} (h0 : 0 < r) (h : r ≤ p) : up r p = 1 := by
  have hp : 0 < p := by omega
  have h1 : up r p ≤ 1 := (up_le_iff hp).2 (by omega)
  have h2 : 0 < up r p := (lt_up_iff hp).2 (by omega)
  omega
theorem up_succ {n p : Nat} (hp : 0 < p) : up (n + 1) p = n / p + 1 := by
  unfold up
  rw [show n + 1 + (p - 1) = n + p by omega, Nat.add_div_right _ hp]
theorem up_steps {m p : Nat} (hp : 0 < p) : up (m * p) p = m := by
  have h1 : up (m * p) p ≤ m := (up_le_iff hp).2 (Nat.le_refl _)
  have h2 : m ≤ up (m * p) p := by
    cases m with
    | zero => exact Nat.zero_le _
    | succ k => exact (lt_up_iff hp).2 (by rw [Nat.succ_mul]; omega)
  omega

/-- What the tasks of L ask for in r units of time. -/
def need : List Tk → Nat → Nat
  | [], _ => 0
  | t :: L, r => up r t.p * t.c + need L r
theorem need_append (A B : List Tk) (r : Nat) : need (A ++ B) r = need A r + need B r := by
  induction A with
  | nil => simp [need]
  | cons t A ih => rw [List.cons_append, need, need, ih]; omega
theorem need_mono (L : List Tk) {a b : Nat} (h : a ≤ b) : need L a ≤ need L b := by
  induction L with
  | nil => exact Nat.le_refl _
  | cons t L ih =>
    have := Nat.mul_le_mul_right t.c (up_mono (p := t.p) h)
    rw [need, need]; omega
theorem need_add (L : List Tk) (hL : ∀ t ∈ L, 0 < t.p) (a b : Nat) : need L (a + b) ≤ need L a + need L b := by
  induction L with
  | nil => exact Nat.le_refl _
  | cons t L ih =>
    have h1 := ih (fun x hx => hL x (List.mem_cons_of_mem _ hx))
    have h2 := Nat.mul_le_mul_right t.c (up_add (a := a) (b := b) (hL t (by simp)))
    rw [Nat.add_mul] at h2
    rw [need, need, need]; omega
theorem need_zero (L : List Tk) (hL : ∀ t ∈ L, 0 < t.p) : need L 0 = 0 := by
  induction L with
  | nil => rfl
  | cons t L ih => rw [need, up_zero (hL t (by simp)), ih (fun x hx => hL x (List.mem_cons_of_mem _ hx))]; simp

/-- R is the least end of t behind the tasks of pre. -/
structure EndIs (pre : List Tk) (t : Tk) (R : Nat) : Prop where
  lo : t.c ≤ R
  hi : R ≤ t.p
  fix : t.c + need pre R = R
  least : ∀ r, t.c ≤ r → r < R → t.c + need pre r ≠ r
/-- There is none. -/
def NoEnd (pre : List Tk) (t : Tk) : Prop := ∀ r, t.c ≤ r → r ≤ t.p → t.c + need pre r ≠ r
/-- Below the least end there isn't enough time either. -/
theorem lt_of_no {pre : List Tk} {t : Tk} {R : Nat} (h : ∀ r, t.c ≤ r → r < R → t.c + need pre r ≠ r) : ∀ r, r < R → r < t.c + need pre r := by
  intro r
  induction r using Nat.strongRecOn with
  | _ r ih =>
    intro hr
    by_cases hc : r < t.c
    · omega
    · by_cases hlt : r < t.c + need pre r
      · exact hlt
      · exfalso
        have hne := h r (by omega) hr
        have h1 := ih (t.c + need pre r) (by omega) (by omega)
        have h2 := need_mono pre (show t.c + need pre r ≤ r by omega)
        omega
theorem EndIs.lt {pre : List Tk} {t : Tk} {R : Nat} (h : EndIs pre t R) {r : Nat} (hr : r < R) : r < t.c + need pre r := lt_of_no h.least r hr
theorem EndIs.le {pre : List Tk} {t : Tk} {R : Nat} (h : EndIs pre t R) {r : Nat} (hr : t.c + need pre r ≤ r) : R ≤ r := by
  by_cases g : r < R
  · have := h.lt g; omega
  · omega
theorem NoEnd.lt {pre : List Tk} {t : Tk} (h : NoEnd pre t) {r : Nat} (hr : r ≤ t.p) : r < t.c + need pre r :=
  lt_of_no (R := t.p + 1) (fun r h1 h2 => h r h1 (by omega)) r (by omega)
theorem EndIs.unique {pre : List Tk} {t : Tk} {R S : Nat} (h : EndIs pre t R) (k : EndIs pre t S) : R = S := by
  have h1 := h.le (Nat.le_of_eq k.fix)
  have h2 := k.le (Nat.le_of_eq h.fix)
  omega
theorem EndIs.not_no {pre : List Tk} {t : Tk} {R : Nat} (h : EndIs pre t R) : ¬ NoEnd pre t := fun g => g R h.lo h.hi h.fix
/-- Whoever has time enough at some r has a least end. -/
theorem end_exists {pre : List Tk} {t : Tk} {r : Nat} (hr : r ≤ t.p) (h : t.c + need pre r ≤ r) : ∃ R, R ≤ r ∧ EndIs pre t R := by
  induction r using Nat.strongRecOn with
  | _ r ih =>
    by_cases g : ∃ q, q < r ∧ t.c + need pre q ≤ q
    · obtain ⟨q, hq, hn⟩ := g
      obtain ⟨R, h1, h2⟩ := ih q hq (by omega) hn
      exact ⟨R, by omega, h2⟩
    · refine ⟨r, Nat.le_refl _, by omega, hr, ?_, fun q _ hq e => g ⟨q, hq, by omega⟩⟩
      by_cases e : t.c + need pre r = r
      · exact e
      · exact absurd ⟨t.c + need pre r, by omega, by have := need_mono pre (show t.c + need pre r ≤ r by omega); omega⟩ g
theorem end_dec (pre : List Tk) (t : Tk) : (∃ R, EndIs pre t R) ∨ NoEnd pre t := by
  by_cases g : ∃ r, r ≤ t.p ∧ t.c + need pre r ≤ r
  · obtain ⟨r, h1, h2⟩ := g
    obtain ⟨R, _, h⟩ := end_exists h1 h2
    exact .inl ⟨R, h⟩
  · refine .inr fun r h1 h2 e => g ⟨r, h2, by omega⟩
/-- More to do, ahead or by itself, ends no earlier. -/
theorem EndIs.more {pre pre' : List Tk} {t t' : Tk} {R S : Nat} (h : EndIs pre t R) (k : EndIs pre' t' S) (hc : t.c ≤ t'.c) (hn : ∀ r, need pre r ≤ need pre' r) : R ≤ S :=
  h.le (by have := k.fix; have := hn S; omega)

/-! the time that goes by -/
/-- One unit of time: the first task that has something to do does one unit of it. D: what each has done. -/
def tickL : List Tk → List Nat → Nat → List Nat
  | t :: L, d :: D, now => if d < up (now + 1) t.p * t.c then (d + 1) :: D else d :: tickL L D now
  | _, D, _ => D
/-- Who runs. -/
def pickL : List Tk → List Nat → Nat → Option Nat
  | t :: L, d :: D, now => if d < up (now + 1) t.p * t.c then some 0 else (pickL L D now).map (· + 1)
  | _, _, _ => none
/-- What each has done behind so many units. -/
def didL (L : List Tk) : Nat → List Nat
  | 0 => List.replicate L.length 0
  | now + 1 => tickL L (didL L now) now
theorem tick_length : ∀ (L : List Tk) (D : List Nat) (now : Nat), (tickL L D now).length = D.length
  | [], D, _ => by cases D <;> rfl
  | t :: L, [], _ => rfl
  | t :: L, d :: D, now => by
    rw [tickL]
    split
    · rfl
    · rw [List.length_cons, List.length_cons, tick_length L D now]
theorem did_length (L : List Tk) : ∀ now, (didL L now).length = L.length
  | 0 => by simp [didL]
  | now + 1 => by rw [didL, tick_length, did_length L now]
/-- Those that come later change nothing. -/
theorem tick_take : ∀ (L : List Tk) (D : List Nat) (now k : Nat), L.length = D.length → (tickL L D now).take k = tickL (L.take k) (D.take k) now
  | [], [], _, k, _ => by simp [tickL]
  | [], d :: D, _, k, h => by cases h
  | t :: L, [], _, k, h => by cases h
  | t :: L, d :: D, now, 0, h => by simp [tickL]
  | t :: L, d :: D, now, k + 1, h => by
    rw [List.take_succ_cons, List.take_succ_cons, tickL, tickL]
    split
    · rfl
    · rw [List.take_succ_cons, tick_take L D now k (by simpa using h)]
theorem did_take (L : List Tk) (k : Nat) : ∀ now, (didL L now).take k = didL (L.take k) now
  | 0 => by simp [didL, List.take_replicate, List.length_take]
  | now + 1 => by rw [didL, tick_take L _ now k (did_length L now).symm, did_take L k now, didL]

def sumL : List Nat → Nat
  | [] => 0
  | d :: D => d + sumL D
theorem sum_append (A B : List Nat) : sumL (A ++ B) = sumL A + sumL B := by
  induction A with
  | nil => simp [sumL]
  | cons a A ih => rw [List.cons_append, sumL, sumL, ih]; omega
theorem sum_zeros (n : Nat) : sumL (List.replicate n 0) = 0 := by
  induction n with
  | zero => rfl
  | succ n ih => rw [List.replicate_succ, sumL, ih]
/-- Nobody has done more than was there. -/
def LeN : List Tk → List Nat → Nat → Prop
  | [], [], _ => True
  | t :: L, d :: D, now => d ≤ up now t.p * t.c ∧ LeN L D now
  | _, _, _ => False
theorem LeN.zero : ∀ (L : List Tk) (now : Nat), LeN L (List.replicate L.length 0) now
  | [], _ => trivial
  | t :: L, now => ⟨Nat.zero_le _, LeN.zero L now⟩
theorem LeN.mono : ∀ {L : List Tk} {D : List Nat} {now : Nat}, LeN L D now → LeN L D (now + 1)
  | [], [], _, _ => trivial
  | [], d :: D, _, h => h.elim
  | t :: L, [], _, h => h.elim
  | t :: L, d :: D, now, h => ⟨Nat.le_trans h.1 (Nat.mul_le_mul_right t.c (up_mono (p := t.p) (Nat.le_add_right now 1))), LeN.mono h.2⟩
theorem LeN.tick : ∀ {L : List Tk} {D : List Nat} {now : Nat}, LeN L D now → LeN L (tickL L D now) (now + 1)
  | [], [], _, _ => trivial
  | [], d :: D, _, h => h.elim
  | t :: L, [], _, h => h.elim
  | t :: L, d :: D, now, h => by
    obtain ⟨h1, h2⟩ := h
    rw [tickL]
    have hm := Nat.mul_le_mul_right t.c (up_mono (p := t.p) (Nat.le_add_right now 1))
    split
    · rename_i g
      exact ⟨g, h2.mono⟩
    · exact ⟨Nat.le_trans h1 hm, LeN.tick h2⟩
theorem did_le (L : List Tk) : ∀ now, LeN L (didL L now) now
  | 0 => LeN.zero L 0
  | now + 1 => (did_le L now).tick
theorem LeN.sum : ∀ {L : List Tk} {D : List Nat} {now : Nat}, LeN L D now → sumL D ≤ need L now
  | [], [], _, _ => Nat.le_refl _
  | [], d :: D, _, h => h.elim
  | t :: L, [], _, h => h.elim
  | t :: L, d :: D, now, h => by
    have := LeN.sum h.2
    have := h.1
    rw [sumL, need]; omega
/-- All is done: each has done just what was there. -/
theorem LeN.full_at : ∀ {L : List Tk} {D : List Nat} {now : Nat}, LeN L D now → sumL D = need L now → ∀ {k : Nat} {t : Tk} {d : Nat}, L[k]? = some t → D[k]? = some d → d = up now t.p * t.c
  | [], [], _, _, _, k, t, d, hk, _ => by cases hk
  | [], d :: D, _, h, _, _, _, _, _, _ => h.elim
  | t :: L, [], _, h, _, _, _, _, _, _ => h.elim
  | t :: L, d :: D, now, h, e, k, t', d', hk, hd => by
    have h1 := h.1
    have h2 := LeN.sum h.2
    rw [sumL, need] at e
    cases k with
    | zero =>
      simp at hk hd
      subst hk hd
      omega
    | succ k => exact LeN.full_at h.2 (by omega) (by simpa using hk) (by simpa using hd)
theorem LeN.at_ : ∀ {L : List Tk} {D : List Nat} {now : Nat}, LeN L D now → ∀ {k : Nat} {t : Tk} {d : Nat}, L[k]? = some t → D[k]? = some d → d ≤ up now t.p * t.c
  | [], [], _, _, k, t, d, hk, _ => by cases hk
  | [], d :: D, _, h, _, _, _, _, _ => h.elim
  | t :: L, [], _, h, _, _, _, _, _ => h.elim
  | t :: L, d :: D, now, h, k, t', d', hk, hd => by
    cases k with
    | zero =>
      simp at hk hd
      subst hk hd
      exact h.1
    | succ k => exact LeN.at_ h.2 (by simpa using hk) (by simpa using hd)
/-- A unit of time is used, or all is done. -/
theorem tick_sum : ∀ {L : List Tk} {D : List Nat} {now : Nat}, LeN L D now → sumL (tickL L D now) = sumL D + 1 ∨ (tickL L D now = D ∧ sumL D = need L (now + 1))
  | [], [], _, _ => .inr ⟨rfl, rfl⟩
  | [], d :: D, _, h => h.elim
  | t :: L, [], _, h => h.elim
  | t :: L, d :: D, now, h => by
    have h1 := h.1
    have hm := Nat.mul_le_mul_right t.c (up_mono (p := t.p) (Nat.le_add_right now 1))
    rw [tickL]
    split
    · left; rw [sumL, sumL]; omega
    · rename_i g
      rcases tick_sum h.2 with e | ⟨e1, e2⟩
      · left; rw [sumL, sumL, e]; omega
      · right
        refine ⟨by rw [e1], ?_⟩
        rw [sumL, need, e2]
        omega
theorem did_sum_le (L : List Tk) : ∀ now, sumL (didL L now) ≤ now
  | 0 => by rw [didL, sum_zeros]; exact Nat.le_refl _
  | now + 1 => by
    have := did_sum_le L now
    rcases tick_sum (did_le L now) with e | ⟨e, _⟩
    · rw [didL, e]; omega
    · rw [didL, e]; omega
/-- Nothing is left behind. -/
def Idle (L : List Tk) (now : Nat) : Prop := sumL (didL L now) = need L now
theorem idle_zero {L : List Tk} (hL : ∀ t ∈ L, 0 < t.p) : Idle L 0 := by
  unfold Idle
  rw [didL, sum_zeros, need_zero L hL]
/-- Behind an idle place the next one is no farther than R, if R units hold all that comes in R units. -/
theorem idle_next {L : List Tk} (hL : ∀ t ∈ L, 0 < t.p) {R t0 : Nat} (hR : 0 < R) (hn : need L R ≤ R) (h0 : Idle L t0) : ∃ t1, t0 < t1 ∧ t1 ≤ t0 + R ∧ Idle L t1 := by
  have h : ∀ x, x ≤ R → (∃ t1, t0 < t1 ∧ t1 ≤ t0 + x ∧ Idle L t1) ∨ sumL (didL L (t0 + x)) = sumL (didL L t0) + x := by
    intro x
    induction x with
    | zero => intro _; exact .inr rfl
    | succ x ih =>
      intro hx
      rcases ih (by omega) with ⟨t1, a, b, c⟩ | e
      · exact .inl ⟨t1, a, by omega, c⟩
      · rcases tick_sum (did_le L (t0 + x)) with g | ⟨g1, g2⟩
        · right
          rw [← Nat.add_assoc, didL, g, e]; omega
        · left
          refine ⟨t0 + x + 1, by omega, by omega, ?_⟩
          unfold Idle
          rw [didL, g1, g2]
  rcases h R (Nat.le_refl _) with g | g
  · exact g
  · refine ⟨t0 + R, by omega, Nat.le_refl _, ?_⟩
    have h1 := (did_le L (t0 + R)).sum
    have h2 := need_add L hL t0 R
    unfold Idle at h0 ⊢
    omega
theorem idle_soon {L : List Tk} (hL : ∀ t ∈ L, 0 < t.p) {R : Nat} (hR : 0 < R) (hn : need L R ≤ R) : ∀ s, ∃ t1, s < t1 ∧ t1 ≤ s + R ∧ Idle L t1
  | 0 => idle_next hL hR hn (idle_zero hL)
  | s + 1 => by
    obtain ⟨t1, a, b, c⟩ := idle_soon hL hR hn s
    by_cases e : t1 = s + 1
    · subst e
      exact idle_next hL hR hn c
    · exact ⟨t1, by omega, by omega, c⟩
theorem tick_mono : ∀ (L : List Tk) (D : List Nat) (now k d : Nat), D[k]? = some d → ∃ e, (tickL L D now)[k]? = some e ∧ d ≤ e
  | [], D, _, k, d, h => ⟨d, by cases D <;> exact h, Nat.le_refl _⟩
  | t :: L, [], _, k, d, h => by cases h
  | t :: L, x :: D, now, k, d, h => by
    rw [tickL]
    split
    · cases k with
      | zero => simp at h; subst h; exact ⟨x + 1, rfl, by omega⟩
      | succ k => exact ⟨d, by simpa using h, Nat.le_refl _⟩
    · cases k with
      | zero => simp at h; subst h; exact ⟨x, rfl, Nat.le_refl _⟩
      | succ k =>
        obtain ⟨e, h1, h2⟩ := tick_mono L D now k d (by simpa using h)
        exact ⟨e, by simpa using h1, h2⟩
/-- What task k has done. -/
def didK (L : List Tk) (k now : Nat) : Nat := (didL L now).getD k 0
theorem didK_some {L : List Tk} {k now : Nat} (h : k < L.length) : (didL L now)[k]? = some (didK L k now) := by
  unfold didK
  rw [List.getD_eq_getElem?_getD, List.getElem?_eq_getElem (by rw [did_length]; exact h)]; rfl
theorem didK_mono {L : List Tk} {k : Nat} (h : k < L.length) {a b : Nat} (hab : a ≤ b) : didK L k a ≤ didK L k b := by
  obtain ⟨d, rfl⟩ : ∃ d, b = a + d := ⟨b - a, by omega⟩
  clear hab
  induction d with
  | zero => exact Nat.le_refl _
  | succ d ih =>
    obtain ⟨e, h1, h2⟩ := tick_mono L (didL L (a + d)) (a + d) k _ (didK_some h)
    have h3 := didK_some (L := L) (now := a + d + 1) h
    rw [didL, h1] at h3
    injection h3 with h3
    rw [← Nat.add_assoc, ← h3]
    omega
theorem didK_take {L : List Tk} {k n now : Nat} (h : k < n) : didK (L.take n) k now = didK L k now := by
  unfold didK
  rw [← did_take, List.getD_eq_getElem?_getD, List.getD_eq_getElem?_getD, List.getElem?_take, if_pos h]
theorem didK_le {L : List Tk} {k now : Nat} {t : Tk} (h : L[k]? = some t) : didK L k now ≤ up now t.p * t.c :=
  (did_le L now).at_ h (didK_some (List.getElem?_eq_some_iff.1 h).1)

/-! nothing is later than said -/
theorem take_next {L : List Tk} {k : Nat} {t : Tk} (h : L[k]? = some t) : L.take (k + 1) = L.take k ++ [t] := take_snoc h
theorem need_self {pre : List Tk} {t : Tk} {R : Nat} (h : EndIs pre t R) (hc : 0 < t.c) : need (pre ++ [t]) R = R := by
  rw [need_append, need, need, up_one (by have := h.lo; omega) h.hi]
  have := h.fix
  omega
/-- Each time in time: the job that comes at m periods is done R units later. -/
theorem in_time {L : List Tk} (hL : ∀ t ∈ L, 0 < t.p) {k : Nat} {t : Tk} (hk : L[k]? = some t) (hc : 0 < t.c) {R : Nat} (h : EndIs (L.take k) t R) (m : Nat) : (m + 1) * t.c ≤ didK L k (m * t.p + R) := by
  have hlt := (List.getElem?_eq_some_iff.1 hk).1
  have hk' : (L.take (k + 1))[k]? = some t := by rw [List.getElem?_take, if_pos (by omega)]; exact hk
  have hn : need (L.take (k + 1)) R ≤ R := by rw [take_next hk]; exact Nat.le_of_eq (need_self h hc)
  have hL' : ∀ u ∈ L.take (k + 1), 0 < u.p := fun u hu => hL u (List.mem_of_mem_take hu)
  have hp : 0 < t.p := hL t (List.mem_of_getElem? hk)
  obtain ⟨t1, a, b, c⟩ := idle_soon hL' (by have := h.lo; omega) hn (m * t.p)
  have hl' : k < (L.take (k + 1)).length := (List.getElem?_eq_some_iff.1 hk').1
  have e := (did_le (L.take (k + 1)) t1).full_at c hk' (didK_some hl')
  rw [didK_take (by omega)] at e
  have h1 : m + 1 ≤ up t1 t.p := (lt_up_iff hp).2 a
  have h2 := didK_mono hlt b
  rw [e] at h2
  exact Nat.le_trans (Nat.mul_le_mul_right _ h1) h2
/-- What has been done when it begins again: all. -/
theorem done_at {L : List Tk} (hL : ∀ t ∈ L, 0 < t.p) {k : Nat} {t : Tk} (hk : L[k]? = some t) (hc : 0 < t.c) {R : Nat} (h : EndIs (L.take k) t R) (m : Nat) : didK L k (m * t.p) = m * t.c := by
  have hp : 0 < t.p := hL t (List.mem_of_getElem? hk)
  have hlt := (List.getElem?_eq_some_iff.1 hk).1
  have h1 := didK_le (now := m * t.p) hk
  rw [up_steps hp] at h1
  cases m with
  | zero => omega
  | succ m =>
    have h2 := in_time hL hk hc h m
    have h3 := didK_mono hlt (show m * t.p + R ≤ (m + 1) * t.p by rw [Nat.succ_mul]; have := h.hi; omega)
    omega

/-! the first one: just then -/
/-- The last of a list has done something only where the others had nothing to do. -/
theorem tick_last : ∀ {A : List Tk} {DA : List Nat} {now : Nat} {t : Tk} {d : Nat}, LeN A DA now → (tickL (A ++ [t]) (DA ++ [d]) now = tickL A DA now ++ [d]) ∨ (tickL (A ++ [t]) (DA ++ [d]) now = DA ++ [d + 1] ∧ tickL A DA now = DA ∧ sumL DA = need A (now + 1))
  | [], [], now, t, d, _ => by
    by_cases g : d < up (now + 1) t.p * t.c
    · exact .inr ⟨by simp [tickL, g], rfl, rfl⟩
    · exact .inl (by simp [tickL, g])
  | [], x :: DA, _, _, _, h => h.elim
  | u :: A, [], _, _, _, h => h.elim
  | u :: A, x :: DA, now, t, d, h => by
    have h1 := h.1
    have hm := Nat.mul_le_mul_right u.c (up_mono (p := u.p) (Nat.le_add_right now 1))
    rw [List.cons_append, List.cons_append, tickL, tickL]
    by_cases g : x < up (now + 1) u.p * u.c
    · rw [if_pos g, if_pos g]
      exact .inl rfl
    · rw [if_neg g, if_neg g]
      rcases tick_last (t := t) (d := d) h.2 with e | ⟨e1, e2, e3⟩
      · exact .inl (by rw [e]; rfl)
      · refine .inr ⟨by rw [e1]; rfl, by rw [e2], ?_⟩
        rw [sumL, need, e3]
        omega
/-- Before R the first job isn't done. -/
theorem not_before {A : List Tk} {t : Tk} {R : Nat} (h : EndIs A t R) (hc : 0 < t.c) : ∀ x, x < R → ∃ d, didL (A ++ [t]) x = didL A x ++ [d] ∧ d < t.c
  | 0, _ => ⟨0, by simp [didL, List.replicate_succ'], hc⟩
  | x + 1, hx => by
    obtain ⟨d, e, hd⟩ := not_before h hc x (by omega)
    have hlast := tick_last (t := t) (d := d) (did_le A x)
    rw [← e] at hlast
    rcases hlast with g | ⟨g1, g2, g3⟩
    · exact ⟨d, g, hd⟩
    · refine ⟨d + 1, by rw [didL, g1, didL, g2], ?_⟩
      by_cases q : d + 1 < t.c
      · exact q
      · exfalso
        have hs := did_sum_le (A ++ [t]) (x + 1)
        rw [didL, g1, sum_append, g3] at hs
        have : sumL [d + 1] = d + 1 := rfl
        rw [this] at hs
        have := h.lt hx
        omega
/-- The first job of task k is done just at R. -/
theorem first_at {L : List Tk} (hL : ∀ t ∈ L, 0 < t.p) {k : Nat} {t : Tk} (hk : L[k]? = some t) (hc : 0 < t.c) {R : Nat} (h : EndIs (L.take k) t R) : (∀ x, x < R → didK L k x < t.c) ∧ ∀ x, R ≤ x → t.c ≤ didK L k x := by
  have hlt := (List.getElem?_eq_some_iff.1 hk).1
  have hkl : (L.take k).length = k := by rw [List.length_take]; omega
  refine ⟨fun x hx => ?_, fun x hx => ?_⟩
  · obtain ⟨d, e, hd⟩ := not_before h hc x hx
    rw [← take_next hk] at e
    rw [← didK_take (n := k + 1) (by omega)]
    unfold didK
    rw [e, List.getD_eq_getElem?_getD, List.getElem?_append_right (by rw [did_length, hkl]; exact Nat.le_refl _), did_length, hkl, Nat.sub_self]
    exact hd
  · have h1 := in_time hL hk hc h 0
    have h2 := didK_mono hlt (show 0 * t.p + R ≤ x by omega)
    omega
/-- A tick adds one to the one who is picked, and nothing to the others. -/
theorem pick_tick : ∀ (L : List Tk) (D : List Nat) (now : Nat), L.length = D.length → (pickL L D now = none ∧ tickL L D now = D) ∨ ∃ k d, pickL L D now = some k ∧ D[k]? = some d ∧ tickL L D now = D.set k (d + 1)
  | [], [], _, _ => .inl ⟨rfl, rfl⟩
  | [], d :: D, _, h => by cases h
  | t :: L, [], _, h => by cases h
  | t :: L, d :: D, now, h => by
    rw [pickL, tickL]
    split
    · exact .inr ⟨0, d, rfl, rfl, rfl⟩
    · rcases pick_tick L D now (by simpa using h) with ⟨e1, e2⟩ | ⟨k, x, e1, e2, e3⟩
      · exact .inl ⟨by rw [e1]; rfl, by rw [e2]⟩
      · exact .inr ⟨k + 1, x, by rw [e1]; rfl, by simpa using e2, by rw [e3]; rfl⟩
end Go.Proofs.Ytajfohnblmnjjaa
