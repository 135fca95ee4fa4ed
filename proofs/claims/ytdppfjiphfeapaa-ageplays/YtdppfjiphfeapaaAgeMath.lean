/-
  The mathematics of package age: the time, what was told last and when. No statement of the seat is here.
-/
import Derived.Test.YtdppfjiphfeapaaBase
namespace Go.Proofs.Ytdppfjiphfeapaa
set_option maxRecDepth 20000
set_option linter.unusedVariables false

structure AgO where
  kd : Int
  n : Int
structure AgA where
  va : Int
  od : Int
  er : Int
deriving DecidableEq
/-- The time; whether something was told; what was told last, and when. -/
structure AgS where
  nw : Int
  any : Bool
  va : Int
  at_ : Int
def ag0 : AgS := ⟨0, false, 0, 0⟩
def agMax : Int := 1099511627776
def agS (s : AgS) (o : AgO) : AgS :=
  if o.kd = 1 then ⟨s.nw, true, o.n, s.nw⟩
  else if o.kd = 3 ∧ 0 ≤ o.n ∧ o.n ≤ agMax then ⟨if agMax < s.nw + o.n then agMax else s.nw + o.n, s.any, s.va, s.at_⟩
  else s
def agA (f : Int) (s : AgS) (o : AgO) : AgA :=
  if o.kd = 1 then ⟨0, 0, 0⟩
  else if o.kd = 2 then (if s.any then (if s.at_ + f < s.nw then ⟨0, 0, 1⟩ else ⟨s.va, s.nw - s.at_, 0⟩) else ⟨0, 0, 3⟩)
  else if o.kd = 3 then (if 0 ≤ o.n ∧ o.n ≤ agMax then ⟨0, 0, 0⟩ else ⟨0, 0, 2⟩)
  else ⟨0, 0, 5⟩
def agRun (l : List AgO) : AgS := l.foldl agS ag0
def agAns (f : Int) : AgS → List AgO → List AgA
  | _, [] => []
  | s, o :: l => agA f s o :: agAns f (agS s o) l
theorem agRun_snoc (l : List AgO) (o : AgO) : agRun (l ++ [o]) = agS (agRun l) o := by unfold agRun; rw [List.foldl_append]; rfl
theorem agAns_append (f : Int) (l t : List AgO) : ∀ s, agAns f s (l ++ t) = agAns f s l ++ agAns f (l.foldl agS s) t := by
  induction l with
  | nil => intro s; rfl
  | cons o l ih => intro s; rw [List.cons_append, agAns, agAns, List.cons_append, ih]; rfl
theorem agAns_snoc (f : Int) (l : List AgO) (o : AgO) : agAns f ag0 (l ++ [o]) = agAns f ag0 l ++ [agA f (agRun l) o] := agAns_append f l [o] ag0
theorem agAns_len (f : Int) : ∀ (l : List AgO) (s : AgS), (agAns f s l).length = l.length
  | [], _ => rfl
  | o :: l, s => by rw [agAns, List.length_cons, List.length_cons, agAns_len f l]
theorem agAns_at (f : Int) : ∀ (l : List AgO) (s : AgS) (k : Nat) (o : AgO), l[k]? = some o → (agAns f s l)[k]? = some (agA f ((l.take k).foldl agS s) o)
  | [], _, _, _, h => by simp at h
  | p :: l, s, 0, o, h => by simp at h; subst h; rfl
  | p :: l, s, k + 1, o, h => by
    rw [agAns, List.getElem?_cons_succ, agAns_at f l (agS s p) k o (by simpa using h)]
    rfl
/-- What holds at each place. -/
structure AgOk (s : AgS) : Prop where
  n0 : 0 ≤ s.nw
  n1 : s.nw ≤ agMax
  a0 : 0 ≤ s.at_
  a1 : s.at_ ≤ s.nw
theorem ag_start : AgOk ag0 := ⟨by decide, by decide, by decide, by decide⟩
theorem AgOk.step {s : AgS} (h : AgOk s) (o : AgO) : AgOk (agS s o) := by
  obtain ⟨h1, h2, h3, h4⟩ := h
  unfold agS
  split
  · exact ⟨h1, h2, h1, Int.le_refl _⟩
  · split
    · rename_i g
      have hM : agMax = 1099511627776 := rfl
      have hx : ∀ x : Int, x = (if agMax < s.nw + o.n then agMax else s.nw + o.n) → 0 ≤ x ∧ x ≤ agMax ∧ s.at_ ≤ x := fun x hx => by
        split at hx <;> omega
      obtain ⟨g1, g2, g3⟩ := hx _ rfl
      exact ⟨g1, g2, h3, g3⟩
    · exact ⟨h1, h2, h3, h4⟩
theorem AgOk.fold {s : AgS} (h : AgOk s) (l : List AgO) : AgOk (l.foldl agS s) := by
  induction l generalizing s with
  | nil => exact h
  | cons o l ih => exact ih (h.step o)
theorem ag_ok (l : List AgO) : AgOk (agRun l) := ag_start.fold l
/-- AgeNever: what is read is what was told last, and not too old. -/
theorem read_ok {f : Int} {s : AgS} {o : AgO} (hs : AgOk s) (hk : o.kd = 2) (h : (agA f s o).er = 0) : s.any = true ∧ (agA f s o).va = s.va ∧ 0 ≤ (agA f s o).od ∧ (agA f s o).od ≤ f := by
  have h4 := hs.a1
  unfold agA at h ⊢
  rw [if_neg (by omega), if_pos hk] at h ⊢
  cases ha : s.any with
  | false => rw [ha] at h; simp at h
  | true =>
    rw [ha] at h
    simp only [if_true] at h ⊢
    by_cases g : s.at_ + f < s.nw
    · rw [if_pos g] at h; simp at h
    · rw [if_neg g]
      exact ⟨trivial, rfl, by show 0 ≤ s.nw - s.at_; omega, by show s.nw - s.at_ ≤ f; omega⟩
/-- AgeMore: with more time the same, but for what was too old. -/
theorem more_ok {f m : Int} (hm : 0 ≤ m) (s : AgS) (o : AgO) : (agA f s o).er = 1 ∨ agA (f + m) s o = agA f s o := by
  unfold agA
  split
  · exact .inr rfl
  · split
    · cases s.any with
      | false => exact .inr rfl
      | true =>
        simp only [if_true]
        by_cases g : s.at_ + f < s.nw
        · rw [if_pos g]; exact .inl rfl
        · rw [if_neg g, if_neg (by omega)]; exact .inr rfl
    · exact .inr rfl
/-- AgeAgain: told again, it is new. -/
theorem again_ok {f : Int} (hf : 0 ≤ f) (s : AgS) (n : Int) : agA f (agS s ⟨1, n⟩) ⟨2, 0⟩ = ⟨n, 0, 0⟩ := by
  unfold agS
  rw [if_pos rfl]
  unfold agA
  rw [if_neg (by decide), if_pos rfl]
  simp only [if_true]
  rw [if_neg (by omega)]
  simp

/-! told each P units -/
def tickOps (P : Nat) : Nat → List AgO
  | 0 => []
  | t + 1 => tickOps P t ++ ((if t % P = 0 then [⟨1, (t : Int)⟩] else []) ++ [⟨2, 0⟩, ⟨3, 1⟩])
theorem tick_state {P : Nat} (hP : 0 < P) : ∀ t : Nat, t ≤ 1000 → (agRun (tickOps P t)).nw = t ∧ (0 < t → (agRun (tickOps P t)).any = true ∧ (agRun (tickOps P t)).at_ = (((t - 1) / P * P : Nat) : Int))
  | 0, _ => ⟨rfl, fun h => absurd h (by omega)⟩
  | t + 1, ht => by
    obtain ⟨h1, h2⟩ := tick_state hP t (by omega)
    have e : agRun (tickOps P (t + 1)) = agS (agS (if t % P = 0 then agS (agRun (tickOps P t)) ⟨1, (t : Int)⟩ else agRun (tickOps P t)) ⟨2, 0⟩) ⟨3, 1⟩ := by
      rw [tickOps]
      unfold agRun
      split <;> simp [List.foldl_append]
    have r2 : ∀ s : AgS, agS s ⟨2, 0⟩ = s := fun s => by unfold agS; rw [if_neg (by decide), if_neg (by decide)]
    have r3 : ∀ s : AgS, s.nw = t → agS s ⟨3, 1⟩ = ⟨(t : Int) + 1, s.any, s.va, s.at_⟩ := fun s hs => by
      unfold agS
      rw [if_neg (by decide), if_pos (by decide), if_neg (by show ¬ agMax < s.nw + 1; unfold agMax; omega), hs]
    rw [e, r2]
    by_cases hz : t % P = 0
    · rw [if_pos hz, r3 _ (by unfold agS; rw [if_pos rfl]; exact h1)]
      refine ⟨by show (t : Int) + 1 = _; omega, fun _ => ⟨by unfold agS; rw [if_pos rfl], ?_⟩⟩
      show (agS (agRun (tickOps P t)) ⟨1, (t : Int)⟩).at_ = _
      unfold agS
      rw [if_pos rfl]
      show (agRun (tickOps P t)).nw = _
      rw [h1, Nat.add_sub_cancel, Nat.div_mul_cancel (Nat.dvd_of_mod_eq_zero hz)]
    · rw [if_neg hz, r3 _ h1]
      have ht0 : 0 < t := by
        rcases Nat.eq_zero_or_pos t with g | g
        · subst g; exact absurd (Nat.zero_mod P) hz
        · exact g
      obtain ⟨g1, g2⟩ := h2 ht0
      refine ⟨by show (t : Int) + 1 = _; omega, fun _ => ⟨g1, ?_⟩⟩
      show (agRun (tickOps P t)).at_ = _
      rw [g2, Nat.add_sub_cancel]
      have hd : (t - 1) / P = t / P := by
        have h3 := Nat.div_add_mod t P
        have h4 := Nat.mod_lt t hP
        refine Nat.div_eq_of_lt_le ?_ ?_
        · have : t / P * P = P * (t / P) := Nat.mul_comm _ _
          omega
        · have : (t / P + 1) * P = P * (t / P) + P := by rw [Nat.add_mul, Nat.one_mul, Nat.mul_comm]
          omega
      rw [hd]
/-- The answer of the reading in the unit t. -/
theorem tick_read {P : Nat} (hP : 0 < P) (t : Nat) (ht : t < 1000) (f : Int) : (agA f (if t % P = 0 then agS (agRun (tickOps P t)) ⟨1, (t : Int)⟩ else agRun (tickOps P t)) ⟨2, 0⟩).er = if f < ((t % P : Nat) : Int) then 1 else 0 := by
  obtain ⟨h1, h2⟩ := tick_state hP t (by omega)
  by_cases hz : t % P = 0
  · rw [if_pos hz, hz]
    unfold agS agA
    rw [if_pos rfl, if_neg (by decide), if_pos rfl]
    simp only [if_true]
    by_cases hf : f < 0
    · rw [if_pos (by omega), if_pos (by show f < ((0 : Nat) : Int); omega)]
    · rw [if_neg (by omega), if_neg (by show ¬ f < ((0 : Nat) : Int); omega)]
  · rw [if_neg hz]
    have ht0 : 0 < t := by
      rcases Nat.eq_zero_or_pos t with g | g
      · subst g; exact absurd (Nat.zero_mod P) hz
      · exact g
    obtain ⟨g1, g2⟩ := h2 ht0
    have hd : (t - 1) / P * P + t % P = t := by
      have h3 := Nat.div_add_mod t P
      have h4 := Nat.mod_lt t hP
      have : (t - 1) / P = t / P := by
        refine Nat.div_eq_of_lt_le ?_ ?_
        · have : t / P * P = P * (t / P) := Nat.mul_comm _ _
          omega
        · have : (t / P + 1) * P = P * (t / P) + P := by rw [Nat.add_mul, Nat.one_mul, Nat.mul_comm]
          omega
      rw [this, Nat.mul_comm]
      exact h3
    unfold agA
    rw [if_neg (by decide), if_pos rfl, g1]
    simp only [if_true]
    rw [g2, h1]
    by_cases hf : f < ((t % P : Nat) : Int)
    · rw [if_pos (by omega), if_pos hf]
    · rw [if_neg (by omega), if_neg hf]
/-! the interval that bears so many lost -/
def lastsE (p l : Int) : Int := if p < 1 ∨ 1048576 < p ∨ l < 0 ∨ 400 < l then 2 else 0
def lastsV (p l : Int) : Int := if p < 1 ∨ 1048576 < p ∨ l < 0 ∨ 400 < l then 0 else (l + 1) * p - 1
/-- What Play answers. -/
def ageE (f : Int) (l : List AgO) : Int := if f < 0 ∨ agMax < f ∨ 400 < l.length then 2 else 0
def ageL (f : Int) (l : List AgO) : List AgA := if f < 0 ∨ agMax < f ∨ 400 < l.length then [] else agAns f ag0 l
theorem ageE_no {f : Int} {l : List AgO} (h : f < 0 ∨ agMax < f ∨ 400 < l.length) : ageE f l = 2 ∧ ageL f l = [] := ⟨if_pos h, if_pos h⟩
theorem ageE_ok {f : Int} {l : List AgO} (h : ¬ (f < 0 ∨ agMax < f ∨ 400 < l.length)) : ageE f l = 0 ∧ ageL f l = agAns f ag0 l := ⟨if_neg h, if_neg h⟩
theorem ageL_len (f : Int) (l : List AgO) : (ageL f l).length ≤ 400 := by
  by_cases h : f < 0 ∨ agMax < f ∨ 400 < l.length
  · rw [(ageE_no h).2]; exact Nat.zero_le _
  · rw [(ageE_ok h).2, agAns_len]; omega
end Go.Proofs.Ytdppfjiphfeapaa
