/-
  Package start told by lists: rows of numbers as functions, which arguments are wrong, when the clashes end, who is alone. No statement of the seat is here.
-/
import Derived.Test.YtaliompoknnjgaaStartMath
import Derived.Test.YtaliompoknnjgaaSortDef
import Derived.Test.YtaliompoknnjgaaSlicesI
namespace Go.Proofs.Ytaliompoknnjgaa
open Go.RowKit
set_option maxRecDepth 20000
set_option linter.unusedVariables false

/-- m + 1 numbers. -/
def lst (m : Nat) (f : Nat → Nat) : List Int := (List.range (m + 1)).map fun k => ((f k : Nat) : Int)
section
variable {m : Nat} {f g : Nat → Nat}
theorem lst_len (m : Nat) (f : Nat → Nat) : (lst m f).length = m + 1 := by simp [lst]
theorem lst_at {k : Nat} (h : k ≤ m) : (lst m f)[k]? = some ((f k : Nat) : Int) := by
  unfold lst
  rw [List.getElem?_map, List.getElem?_range (by omega)]; rfl
theorem lst_mem {x : Int} : x ∈ lst m f ↔ ∃ k, k ≤ m ∧ x = ((f k : Nat) : Int) := by
  unfold lst
  rw [List.mem_map]
  constructor
  · rintro ⟨k, hk, rfl⟩; exact ⟨k, by have := List.mem_range.1 hk; omega, rfl⟩
  · rintro ⟨k, hk, rfl⟩; exact ⟨k, List.mem_range.2 (by omega), rfl⟩
theorem lst_congr (h : ∀ k, k ≤ m → f k = g k) : lst m f = lst m g := by
  unfold lst
  apply List.map_congr_left
  intro k hk
  have := List.mem_range.1 hk
  rw [h k (by omega)]
theorem lst_ext {l : List Int} (hl : l.length = m + 1) (h : ∀ k, k ≤ m → l[k]? = some ((g k : Nat) : Int)) : l = lst m g := by
  apply List.ext_getElem?
  intro k
  by_cases hk : k ≤ m
  · rw [h k hk, lst_at hk]
  · rw [List.getElem?_eq_none (by omega), List.getElem?_eq_none (by rw [lst_len]; omega)]
theorem lst_put {k : Nat} {x : Int} (hk : k ≤ m) (hx : x = ((g k : Nat) : Int)) (h : ∀ j, j ≤ m → j ≠ k → f j = g j) : (lst m f).set k x = lst m g := by
  apply lst_ext (by rw [List.length_set, lst_len])
  intro j hj
  rw [List.getElem?_set]
  by_cases e : k = j
  · subst e
    rw [if_pos rfl, if_pos (by rw [lst_len]; omega), hx]
  · rw [if_neg e, lst_at hj, h j hj (Ne.symm e)]
theorem lst_of {l : List Int} (hl : l.length = m + 1) (h : ∀ x ∈ l, 0 ≤ x) : ∃ f, l = lst m f := by
  refine ⟨fun k => (l[k]?.getD 0).toNat, lst_ext hl fun k hk => ?_⟩
  have hx : l[k]? = some (l[k]'(by omega)) := List.getElem?_eq_getElem _
  have := h _ (List.mem_of_getElem? hx)
  rw [hx]
  simp only [Option.getD_some]
  congr 1
  omega
theorem lst_rep (m a : Nat) : List.replicate (m + 1) ((a : Nat) : Int) = lst m fun _ => a := by
  apply lst_ext (by simp)
  intro k hk
  rw [List.getElem?_replicate, if_pos (by omega)]
/-- The least of them. -/
theorem lst_least (m : Nat) (f : Nat → Nat) : leastI (lst m f) = ((f (argm f m) : Nat) : Int) := by
  have hne : lst m f ≠ [] := fun h => by have := lst_len m f; rw [h] at this; simp at this
  obtain ⟨k, hk, e⟩ := lst_mem.1 (leastI_mem hne)
  have h1 := leastI_le (lst_mem.2 ⟨argm f m, argm_le f m, rfl⟩ : (((f (argm f m) : Nat) : Int) ∈ lst m f))
  have h2 := argm_least f m k hk
  omega
/-- The first place of the least of them. -/
theorem lst_index {r : Int} (h : (r = -1 ∧ ((f (argm f m) : Nat) : Int) ∉ lst m f) ∨ ∃ k : Nat, r = k ∧ (lst m f)[k]? = some ((f (argm f m) : Nat) : Int) ∧ ((f (argm f m) : Nat) : Int) ∉ (lst m f).take k) : r = ((argm f m : Nat) : Int) := by
  rcases h with ⟨_, h⟩ | ⟨k, rfl, h1, h2⟩
  · exact absurd (lst_mem.2 ⟨_, argm_le f m, rfl⟩) h
  · have hk : k < (lst m f).length := (List.getElem?_eq_some_iff.1 h1).1
    rw [lst_len] at hk
    rw [lst_at (by omega)] at h1
    have e : f k = f (argm f m) := by injection h1 with h1; omega
    rcases Nat.lt_trichotomy k (argm f m) with g | g | g
    · have := argm_first f m k g
      omega
    · rw [g]
    · exfalso
      apply h2
      apply List.mem_of_getElem? (i := argm f m)
      rw [List.getElem?_take, if_pos g, lst_at (argm_le f m)]
end

/-! Which arguments are wrong -/
/-- Not closer than so much. -/
def farS (q x y : Int) : Prop := x + q ≤ y ∨ y + q ≤ x
instance (q x y : Int) : Decidable (farS q x y) := inferInstanceAs (Decidable (_ ∨ _))
def inOn (x : Int) : Prop := 0 ≤ x ∧ x ≤ 1048576
def inWait (x : Int) : Prop := 1 ≤ x ∧ x ≤ 1048576
instance (x : Int) : Decidable (inOn x) := inferInstanceAs (Decidable (_ ∧ _))
instance (x : Int) : Decidable (inWait x) := inferInstanceAs (Decidable (_ ∧ _))
def wrongS (on waits : List Int) (late : Int) : Int :=
  if on.length ≠ waits.length then 1
  else if on.length = 0 ∨ 16 < on.length ∨ late < 1 ∨ 1000 < late then 2
  else if (∀ x ∈ on, inOn x) ∧ ∀ x ∈ waits, inWait x then (if waits.Pairwise (farS late) then 0 else 6) else 2
section
variable {on waits : List Int} {late : Int}
theorem wrongS_form (h : on.length ≠ waits.length) : wrongS on waits late = 1 := if_pos h
theorem wrongS_many (h : on.length = waits.length) (k : on.length = 0 ∨ 16 < on.length ∨ late < 1 ∨ 1000 < late) : wrongS on waits late = 2 := by
  rw [wrongS, if_neg (by omega), if_pos k]
theorem wrongS_range (h : on.length = waits.length) (k : ¬ ((∀ x ∈ on, inOn x) ∧ ∀ x ∈ waits, inWait x)) : wrongS on waits late = 2 := by
  rw [wrongS, if_neg (by omega)]
  by_cases c : on.length = 0 ∨ 16 < on.length ∨ late < 1 ∨ 1000 < late
  · rw [if_pos c]
  · rw [if_neg c, if_neg k]
theorem wrongS_far (h : on.length = waits.length) (h0 : 0 < on.length) (h1 : on.length ≤ 16) (h2 : 1 ≤ late) (h3 : late ≤ 1000) (k1 : ∀ x ∈ on, inOn x) (k2 : ∀ x ∈ waits, inWait x) : wrongS on waits late = if waits.Pairwise (farS late) then 0 else 6 := by
  rw [wrongS, if_neg (by omega), if_neg (by omega), if_pos ⟨k1, k2⟩]
end
theorem farS_symm {q x y : Int} (h : farS q x y) : farS q y x := Or.symm h
theorem sort_far (l : List Int) (q : Int) : (sortI l).Pairwise (farS q) ↔ l.Pairwise (farS q) := List.Perm.pairwise_iff (R := farS q) (fun h => farS_symm h) (sortI_is l)
/-- One more of a list in order. -/
theorem far_next {s : List Int} {q a b : Int} {k : Nat} (hs : s.Pairwise (· ≤ ·)) (ha : s[k]? = some a) (hb : s[k + 1]? = some b) (h : (s.take (k + 1)).Pairwise (farS q)) (hab : q ≤ b - a) : (s.take (k + 1 + 1)).Pairwise (farS q) := by
  rw [take_snoc hb, List.pairwise_append]
  refine ⟨h, List.pairwise_singleton _ _, fun x hx y hy => ?_⟩
  rw [List.mem_singleton] at hy
  subst hy
  obtain ⟨i, hi⟩ := List.getElem?_of_mem hx
  rw [List.getElem?_take] at hi
  split at hi
  · obtain ⟨hil, hie⟩ := List.getElem?_eq_some_iff.1 hi
    obtain ⟨hkl, hke⟩ := List.getElem?_eq_some_iff.1 ha
    have hxa : x ≤ a := by
      by_cases e : i = k
      · subst e
        rw [← hie, ← hke]; exact Int.le_refl _
      · have := List.pairwise_iff_getElem.1 hs i k hil hkl (by omega)
        rwa [hie, hke] at this
    left
    omega
  · cases hi
theorem far_not {s : List Int} {q a b : Int} {k : Nat} (hs : s.Pairwise (· ≤ ·)) (hq : 1 ≤ q) (ha : s[k]? = some a) (hb : s[k + 1]? = some b) (hab : b - a < q) : ¬ s.Pairwise (farS q) := by
  intro h
  obtain ⟨hkl, hke⟩ := List.getElem?_eq_some_iff.1 ha
  obtain ⟨hbl, hbe⟩ := List.getElem?_eq_some_iff.1 hb
  have h1 := List.pairwise_iff_getElem.1 h k (k + 1) hkl hbl (by omega)
  have h2 := List.pairwise_iff_getElem.1 hs k (k + 1) hkl hbl (by omega)
  rw [hke, hbe] at h1 h2
  rcases h1 with h1 | h1 <;> omega
/-- As the reference asks: each with each. -/
theorem far_each {l : List Int} {q : Int} (hq : 1 ≤ q) : l.Pairwise (farS q) ↔ ∀ (i j : Nat) (x y : Int), l[i]? = some x → l[j]? = some y → i ≠ j → x ≤ y → x + q ≤ y := by
  rw [List.pairwise_iff_getElem]
  constructor
  · intro h i j x y hx hy hne hxy
    obtain ⟨hil, rfl⟩ := List.getElem?_eq_some_iff.1 hx
    obtain ⟨hjl, rfl⟩ := List.getElem?_eq_some_iff.1 hy
    rcases Nat.lt_or_gt_of_ne hne with g | g
    · rcases h i j hil hjl g with k | k <;> omega
    · rcases h j i hjl hil g with k | k <;> omega
  · intro h i j hi hj hij
    have hx : l[i]? = some l[i] := List.getElem?_eq_getElem hi
    have hy : l[j]? = some l[j] := List.getElem?_eq_getElem hj
    rcases Int.le_total l[i] l[j] with g | g
    · exact .inl (h i j _ _ hx hy (by omega) g)
    · exact .inr (h j i _ _ hy hx (by omega) g)

/-- Arguments without a fault. -/
structure GoodS (m q : Nat) (f g : Nat → Nat) : Prop where
  few : m ≤ 15
  q1 : 1 ≤ q
  q2 : q ≤ 1000
  on : ∀ k, k ≤ m → f k ≤ 1048576
  w1 : ∀ k, k ≤ m → 0 < g k
  w2 : ∀ k, k ≤ m → g k ≤ 1048576
  hd : ∀ a b, a ≤ m → b ≤ m → a ≠ b → g a ≤ g b → g a + q ≤ g b
theorem good_iff {m q : Nat} {f g : Nat → Nat} : wrongS (lst m f) (lst m g) q = 0 ↔ GoodS m q f g := by
  have hl : (lst m f).length = (lst m g).length := by rw [lst_len, lst_len]
  constructor
  · intro h
    by_cases k : (lst m f).length = 0 ∨ 16 < (lst m f).length ∨ (q : Int) < 1 ∨ 1000 < (q : Int)
    · rw [wrongS_many hl k] at h; cases h
    · by_cases k2 : (∀ x ∈ lst m f, inOn x) ∧ ∀ x ∈ lst m g, inWait x
      · rw [lst_len] at k
        rw [wrongS_far hl (by rw [lst_len]; omega) (by rw [lst_len]; omega) (by omega) (by omega) k2.1 k2.2] at h
        by_cases k3 : (lst m g).Pairwise (farS q)
        · refine ⟨by omega, by omega, by omega, fun j hj => ?_, fun j hj => ?_, fun j hj => ?_, fun a b ha hb hab h => ?_⟩
          · have := k2.1 _ (lst_mem.2 ⟨j, hj, rfl⟩); unfold inOn at this; omega
          · have := k2.2 _ (lst_mem.2 ⟨j, hj, rfl⟩); unfold inWait at this; omega
          · have := k2.2 _ (lst_mem.2 ⟨j, hj, rfl⟩); unfold inWait at this; omega
          · have := (far_each (by omega)).1 k3 a b _ _ (lst_at ha) (lst_at hb) hab (by omega)
            omega
        · rw [if_neg k3] at h; cases h
      · rw [wrongS_range hl k2] at h; cases h
  · intro h
    have h1 := h.few
    have h2 := h.q1
    have h3 := h.q2
    rw [wrongS_far hl (by rw [lst_len]; omega) (by rw [lst_len]; omega) (by omega) (by omega) (fun x hx => ?_) (fun x hx => ?_), if_pos]
    · rw [far_each (by omega)]
      intro i j x y hx hy hij hxy
      have hi : i < (lst m g).length := (List.getElem?_eq_some_iff.1 hx).1
      have hj : j < (lst m g).length := (List.getElem?_eq_some_iff.1 hy).1
      rw [lst_len] at hi hj
      rw [lst_at (by omega)] at hx hy
      injection hx with hx
      injection hy with hy
      have := h.hd i j (by omega) (by omega) hij (by omega)
      omega
    · obtain ⟨k, hk, rfl⟩ := lst_mem.1 hx
      have := h.on k hk
      unfold inOn; omega
    · obtain ⟨k, hk, rfl⟩ := lst_mem.1 hx
      have := h.w1 k hk
      have := h.w2 k hk
      unfold inWait; omega
theorem wrongS_ok {on waits : List Int} {late : Int} (h : wrongS on waits late = 0) : ∃ m q f g, on = lst m f ∧ waits = lst m g ∧ late = ((q : Nat) : Int) ∧ GoodS m q f g := by
  by_cases hl : on.length = waits.length
  · by_cases k : on.length = 0 ∨ 16 < on.length ∨ late < 1 ∨ 1000 < late
    · rw [wrongS_many hl k] at h; cases h
    · by_cases k2 : (∀ x ∈ on, inOn x) ∧ ∀ x ∈ waits, inWait x
      · obtain ⟨m, hm⟩ : ∃ m, on.length = m + 1 := ⟨on.length - 1, by omega⟩
        obtain ⟨f, rfl⟩ := lst_of hm fun x hx => (k2.1 x hx).1
        obtain ⟨g, rfl⟩ := lst_of (hl.symm.trans hm) fun x hx => by have := (k2.2 x hx).1; omega
        obtain ⟨q, rfl⟩ : ∃ q : Nat, late = q := ⟨late.toNat, by omega⟩
        exact ⟨m, q, f, g, rfl, rfl, rfl, good_iff.1 h⟩
      · rw [wrongS_range hl k2] at h; cases h
  · rw [wrongS_form hl] at h; cases h

/-! How it ends -/
/-- The first so many are clashes, the next one is none. -/
def EndsAt (m q : Nat) (f g : Nat → Nat) (c : Nat) : Prop := (∀ i, i < c → Clash m q f g i) ∧ ¬ Clash m q f g c
theorem EndsAt.unique {m q : Nat} {f g : Nat → Nat} {c d : Nat} (h : EndsAt m q f g c) (k : EndsAt m q f g d) : c = d := by
  rcases Nat.lt_trichotomy c d with e | e | e
  · exact absurd (k.1 c e) h.2
  · exact e
  · exact absurd (h.1 d e) k.2
theorem GoodS.few_ {m q : Nat} {f g : Nat → Nat} (h : GoodS m q f g) {c : Nat} (hc : ∀ i, i < c → Clash m q f g i) : c < 2 * (m + 1) := few_clashes h.w1 h.hd hc
theorem GoodS.fr_le {m q : Nat} {f g : Nat → Nat} (h : GoodS m q f g) (i : Nat) : ∀ k, k ≤ m → frS m q f g i k ≤ 1048576 + 1049576 * i := by
  induction i with
  | zero =>
    intro k hk
    have := h.on k hk
    have e : frS m q f g 0 k = f k := rfl
    rw [e]
    omega
  | succ i ih =>
    intro k hk
    have h1 := ih k hk
    have h2 := ih _ (whoS_le m q f g i)
    have h3 := h.w2 _ (whoS_le m q f g i)
    have h4 := h.q2
    have e : timS m q f g i = frS m q f g i (whoS m q f g i) + g (whoS m q f g i) := rfl
    rw [frS_succ]
    split <;> omega
theorem GoodS.sch_le {m q : Nat} {f g : Nat → Nat} (h : GoodS m q f g) {i k : Nat} (hk : k ≤ m) : schS m q f g i k ≤ 2097152 + 1049576 * i := by
  have h1 := h.fr_le i k hk
  have h2 := h.w2 k hk
  unfold schS
  omega
theorem GoodS.tim_le {m q : Nat} {f g : Nat → Nat} (h : GoodS m q f g) (i : Nat) : timS m q f g i ≤ 2097152 + 1049576 * i := h.sch_le (whoS_le m q f g i)
/-- The rows. -/
def schL (m q : Nat) (f g : Nat → Nat) (i : Nat) : List Int := lst m (schS m q f g i)
def frL (m q : Nat) (f g : Nat → Nat) (i : Nat) : List Int := lst m (frS m q f g i)
theorem sch_least (m q : Nat) (f g : Nat → Nat) (i : Nat) : leastI (schL m q f g i) = ((timS m q f g i : Nat) : Int) := lst_least m _
theorem sch_succ (m q : Nat) (f g : Nat → Nat) (i k : Nat) : schS m q f g (i + 1) k = if f k ≤ timS m q f g i then timS m q f g i + q + g k else schS m q f g i k := by
  unfold schS
  rw [frS_succ]
  split <;> rfl

theorem count_one (n w : Nat) (h : w < n) : (List.range n).countP (fun k => decide (k = w)) = 1 := by
  induction n with
  | zero => omega
  | succ n ih =>
    rw [List.range_succ, List.countP_append]
    by_cases e : w = n
    · subst e
      have h0 : (List.range w).countP (fun k => decide (k = w)) = 0 := by
        rw [List.countP_eq_zero]
        intro k hk
        have := List.mem_range.1 hk
        simp; omega
      rw [h0]; simp
    · rw [ih (by omega)]
      simp [Ne.symm e]
/-- Just one is ahead of the time at which he is heard: no clash. -/
theorem alone_iff {m q : Nat} {f g : Nat → Nat} {i : Nat} (hq : 1 ≤ q) : (schL m q f g i).countP (fun x => decide (x < ((timS m q f g i : Nat) : Int) + q)) = 1 ↔ ¬ Clash m q f g i := by
  have e : (schL m q f g i).countP (fun x => decide (x < ((timS m q f g i : Nat) : Int) + q)) = (List.range (m + 1)).countP fun k => decide (schS m q f g i k < timS m q f g i + q) := by
    unfold schL lst
    rw [List.countP_map]
    apply List.countP_congr
    intro k hk
    simp only [Function.comp, decide_eq_true_eq]
    omega
  rw [e]
  have hw : schS m q f g i (whoS m q f g i) < timS m q f g i + q := by
    have : timS m q f g i = schS m q f g i (whoS m q f g i) := rfl
    omega
  have h1 := count_one (m + 1) (whoS m q f g i) (Nat.lt_succ_of_le (whoS_le m q f g i))
  have h2 := count_lt (p := fun k => decide (k = whoS m q f g i)) (q := fun k => decide (schS m q f g i k < timS m q f g i + q)) (l := List.range (m + 1)) fun k _ hk => by
    have := of_decide_eq_true hk
    subst this
    exact decide_eq_true hw
  rw [h1] at h2
  constructor
  · rintro h ⟨v, hv, hne, hlt⟩
    have := h2.2 ⟨v, List.mem_range.2 (by omega), decide_eq_true hlt, decide_eq_false hne⟩
    omega
  · intro h
    refine (List.countP_congr ?_).trans h1
    intro k hk
    have hk := List.mem_range.1 hk
    simp only [decide_eq_true_eq]
    constructor
    · intro hlt
      apply Classical.byContradiction
      intro hne
      exact h ⟨k, by omega, hne, hlt⟩
    · rintro rfl
      exact hw

/-- What Play gives, whatever its arguments are. -/
def ToldS (on waits : List Int) (late a t n E : Int) : Prop :=
  (E ≠ 0 → a = 0 ∧ t = 0 ∧ n = 0) ∧
  (E = 0 → ∃ m q f g c, on = lst m f ∧ waits = lst m g ∧ late = ((q : Nat) : Int) ∧ GoodS m q f g ∧ EndsAt m q f g c ∧ a = ((whoS m q f g c : Nat) : Int) ∧ t = ((timS m q f g c : Nat) : Int) ∧ n = ((c : Nat) : Int))
theorem lst_same {m m' : Nat} {f f' : Nat → Nat} (h : lst m f = lst m' f') : m = m' ∧ ∀ k, k ≤ m → f k = f' k := by
  have e : m = m' := by have := congrArg List.length h; rw [lst_len, lst_len] at this; omega
  subst e
  refine ⟨rfl, fun k hk => ?_⟩
  have := lst_at (f := f) hk
  rw [h, lst_at hk] at this
  injection this with this
  omega
end Go.Proofs.Ytaliompoknnjgaa
