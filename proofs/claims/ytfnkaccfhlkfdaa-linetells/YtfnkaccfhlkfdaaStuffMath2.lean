/-
  Bit stuffing on lists, what the laws of chapter 2 say: inverse to each other, never six alike, complements, beginnings. No program here.
-/
import Derived.Test.YtfnkaccfhlkfdaaStuffMath
namespace Go.Proofs.Ytfnkaccfhlkfdaa

/-- Stuffing from a run on. -/
def stuffFrom (r : Bool × Nat) : List Bool → List Bool
  | [] => []
  | x :: t => if (addRun r x).2 = 5 then x :: (!x) :: stuffFrom (addRun (addRun r x) (!x)) t else x :: stuffFrom (addRun r x) t
theorem foldl_stuff : ∀ (l acc : List Bool), l.foldl stuffStep acc = acc ++ stuffFrom (runOf acc) l
  | [], acc => by simp [stuffFrom]
  | x :: t, acc => by
    rw [List.foldl_cons, foldl_stuff t]
    by_cases h : (addRun (runOf acc) x).2 = 5
    · have e : stuffStep acc x = acc ++ [x] ++ [!x] := by rw [stuffStep, runOf_snoc, if_pos h]
      rw [e, stuffFrom, if_pos h, runOf_snoc, runOf_snoc]; simp
    · have e : stuffStep acc x = acc ++ [x] := by rw [stuffStep, runOf_snoc, if_neg h]
      rw [e, stuffFrom, if_neg h, runOf_snoc]; simp
theorem stuffM_from (l : List Bool) : stuffM l = stuffFrom (false, 0) l := by
  unfold stuffM; rw [foldl_stuff]; rfl
theorem stuffM_append (p q : List Bool) : stuffM (p ++ q) = stuffM p ++ stuffFrom (runOf (stuffM p)) q := by
  unfold stuffM; rw [List.foldl_append, foldl_stuff q]
theorem addRun_fst (r : Bool × Nat) (x : Bool) : (addRun r x).1 = x := by unfold addRun; split <;> simp_all
theorem addRun_not (r : Bool × Nat) : (addRun r (!r.1)).2 = 1 := by unfold addRun; simp
theorem addRun_not' (r : Bool × Nat) (x : Bool) : (addRun (addRun r x) (!x)).2 = 1 := by
  have := addRun_not (addRun r x); rwa [addRun_fst] at this

theorem un_stuff : ∀ (l : List Bool) (r : Bool × Nat), r.2 < 5 → unFrom r (stuffFrom r l) = (l, 0)
  | [], r, h => by simp [stuffFrom, unFrom]; omega
  | x :: t, r, h => by
    have h5 : r.2 ≠ 5 := by omega
    have hle := addRun_le r x
    by_cases h1 : (addRun r x).2 = 5
    · rw [stuffFrom, if_pos h1, unFrom, if_neg h5, unFrom, if_pos h1, addRun_fst, if_neg (show ¬ (!x) = x by cases x <;> simp), un_stuff t _ (by rw [addRun_not']; decide)]; simp
    · rw [stuffFrom, if_neg h1, unFrom, if_neg h5, un_stuff t _ (by omega)]; simp
theorem unstuff_stuff (l : List Bool) : unstuffM (stuffM l) = (l, 0) := by
  rw [stuffM_from]; exact un_stuff l _ (by decide)

theorem stuff_un : ∀ (l : List Bool) (r : Bool × Nat) (y : List Bool), r.2 ≤ 5 → unFrom r l = (y, 0) →
    if r.2 = 5 then l = (!r.1) :: stuffFrom (addRun r (!r.1)) y else l = stuffFrom r y
  | [], r, y, hr, h => by
    unfold unFrom at h
    by_cases h5 : r.2 = 5
    · rw [if_pos h5] at h; injection h with _ h2; simp at h2
    · rw [if_neg h5] at h ⊢; injection h with h1 _; subst h1; rfl
  | x :: t, r, y, hr, h => by
    unfold unFrom at h
    by_cases h5 : r.2 = 5
    · rw [if_pos h5] at h ⊢
      by_cases hx : x = r.1
      · rw [if_pos hx] at h; injection h with _ h2; simp at h2
      · rw [if_neg hx] at h
        have hxn : x = !r.1 := by cases x <;> cases h1 : r.1 <;> simp_all
        subst hxn
        have ih := stuff_un t (addRun r (!r.1)) y (by rw [addRun_not]; decide) h
        rw [if_neg (by rw [addRun_not]; decide)] at ih
        rw [← ih]
    · rw [if_neg h5] at h ⊢
      have hle := addRun_le r x
      by_cases h0 : (unFrom (addRun r x) t).2 = 0
      · rw [if_pos h0] at h
        injection h with hy _
        subst hy
        have ih := stuff_un t (addRun r x) (unFrom (addRun r x) t).1 (by omega) (Prod.ext rfl h0)
        rw [stuffFrom]
        by_cases h1 : (addRun r x).2 = 5
        · rw [if_pos h1] at ih ⊢
          rw [addRun_fst] at ih
          rw [← ih]
        · rw [if_neg h1] at ih ⊢
          rw [← ih]
      · rw [if_neg h0] at h; injection h with _ h2; exact absurd h2 h0
theorem stuff_unstuff (l y : List Bool) (h : unstuffM l = (y, 0)) : stuffM y = l := by
  have := stuff_un l (false, 0) y (by decide) h
  rw [if_neg (by decide)] at this
  rw [stuffM_from]; exact this.symm
theorem unstuffM_err (l : List Bool) (h : (unstuffM l).2 ≠ 0) : (unstuffM l).1 = [] := unFrom_err l _ h
theorem unstuffM_len (l : List Bool) : (unstuffM l).1.length ≤ l.length := unFrom_len l _

theorem long_le : ∀ (l : List Bool) (r : Bool × Nat) (m : Nat), r.2 < 5 → m ≤ 5 → longFrom r m (stuffFrom r l) ≤ 5
  | [], r, m, _, h => by simpa [stuffFrom, longFrom] using h
  | x :: t, r, m, hr, hm => by
    have hle := addRun_le r x
    by_cases h1 : (addRun r x).2 = 5
    · rw [stuffFrom, if_pos h1, longFrom, longFrom]
      have := addRun_not' r x
      exact long_le t _ _ (by omega) (by omega)
    · rw [stuffFrom, if_neg h1, longFrom]
      exact long_le t _ _ (by omega) (by omega)
theorem never_six (l : List Bool) : longM (stuffM l) ≤ 5 := by
  rw [stuffM_from]; exact long_le l _ _ (by decide) (by decide)
theorem grow_le : ∀ (l : List Bool) (r : Bool × Nat), 1 ≤ r.2 → r.2 < 5 → l.length ≤ (stuffFrom r l).length ∧ 4 * (stuffFrom r l).length + 1 ≤ 5 * l.length + r.2
  | [], r, _, _ => by simp [stuffFrom]; omega
  | x :: t, r, h0, hr => by
    have hle := addRun_le r x
    have hpos : 1 ≤ (addRun r x).2 := by unfold addRun; split <;> simp
    by_cases h1 : (addRun r x).2 = 5
    · rw [stuffFrom, if_pos h1]
      have e := addRun_not' r x
      have := grow_le t (addRun (addRun r x) (!x)) (by omega) (by omega)
      simp only [List.length_cons]
      omega
    · rw [stuffFrom, if_neg h1]
      have := grow_le t (addRun r x) hpos (by omega)
      simp only [List.length_cons]
      omega
theorem stuff_grows (l : List Bool) : l.length ≤ (stuffM l).length ∧ 4 * (stuffM l).length ≤ 5 * l.length - 1 := by
  rw [stuffM_from]
  cases l with
  | nil => simp [stuffFrom]
  | cons x t =>
    have e : (addRun (false, 0) x).2 = 1 := by cases x <;> rfl
    rw [stuffFrom, if_neg (by omega)]
    have := grow_le t (addRun (false, 0) x) (by omega) (by omega)
    simp only [List.length_cons]
    omega

theorem stuffM_len4 (l : List Bool) : 4 * (stuffM l).length ≤ 5 * l.length := by have := stuff_grows l; omega

/-- Complements. -/
def Turned (r r' : Bool × Nat) : Prop := r'.2 = r.2 ∧ (r.2 = 0 ∨ r'.1 = !r.1)
theorem turned_add {r r' : Bool × Nat} (h : Turned r r') (x : Bool) : Turned (addRun r x) (addRun r' (!x)) := by
  obtain ⟨b, n⟩ := r
  obtain ⟨b', n'⟩ := r'
  obtain ⟨h1, h2⟩ := h
  simp only at h1 h2
  subst h1
  rcases h2 with h2 | h2
  · subst h2; cases x <;> cases b <;> cases b' <;> simp [Turned, addRun]
  · subst h2; cases x <;> cases b <;> simp [Turned, addRun]
theorem turned_stuff : ∀ (l : List Bool) (r r' : Bool × Nat), Turned r r' → stuffFrom r' (l.map (!·)) = (stuffFrom r l).map (!·)
  | [], _, _, _ => rfl
  | x :: t, r, r', h => by
    have h1 := turned_add h x
    have h2 := turned_add h1 (!x)
    rw [List.map_cons, stuffFrom, stuffFrom, h1.1]
    split
    · rw [turned_stuff t _ _ h2]; simp
    · rw [turned_stuff t _ _ h1]; simp
theorem turned_un : ∀ (l : List Bool) (r r' : Bool × Nat), Turned r r' → unFrom r' (l.map (!·)) = ((unFrom r l).1.map (!·), (unFrom r l).2)
  | [], r, r', h => by simp [unFrom, h.1]
  | x :: t, r, r', h => by
    have h1 := turned_add h x
    have ih := turned_un t _ _ h1
    rw [List.map_cons, unFrom, unFrom, h.1]
    by_cases h5 : r.2 = 5
    · rw [if_pos h5, if_pos h5]
      have hb : r'.1 = !r.1 := by rcases h.2 with h0 | h0; · omega
                                  · exact h0
      rw [hb]
      by_cases hx : x = r.1
      · rw [if_pos hx, if_pos (by rw [hx])]; rfl
      · rw [if_neg hx, if_neg (by simpa using hx)]; exact ih
    · rw [if_neg h5, if_neg h5, ih]
      split <;> simp
theorem turned_zero : Turned (false, 0) (false, 0) := ⟨rfl, .inl rfl⟩
theorem stuff_turned (l : List Bool) : stuffM (l.map (!·)) = (stuffM l).map (!·) := by rw [stuffM_from, stuffM_from]; exact turned_stuff l _ _ turned_zero
theorem unstuff_turned (l : List Bool) : unstuffM (l.map (!·)) = ((unstuffM l).1.map (!·), (unstuffM l).2) := turned_un l _ _ turned_zero
theorem stuff_ahead (l : List Bool) (n : Nat) : (stuffM (l.take n)).length ≤ (stuffM l).length ∧ (stuffM l).take (stuffM (l.take n)).length = stuffM (l.take n) := by
  have e : stuffM l = stuffM (l.take n) ++ stuffFrom (runOf (stuffM (l.take n))) (l.drop n) := by rw [← stuffM_append, List.take_append_drop]
  rw [e]; simp
end Go.Proofs.Ytfnkaccfhlkfdaa
