/-
  The mathematics of package fta: numbers in order, the trimmed list, its middle and its mean; what a few wrong ones can do. No statement of the seat is here.
-/
import Derived.Test.YtiaemlfkpnpkaaaSortDef
import Derived.Test.YtiaemlfkpnpkaaaSlicesI
import Derived.Test.YtiaemlfkpnpkaaaNums
namespace Go.Proofs.Ytiaemlfkpnpkaaa
open Go.RowKit
set_option linter.unusedVariables false

/-- The place of a number in a rising list, told by counting. -/
theorem stat_lt (x : Int) : ∀ {s : List Int} (hs : s.Pairwise (· ≤ ·)) {j : Nat} {y : Int} (hy : s[j]? = some y), y < x ↔ j < s.countP (fun z => decide (z < x))
  | [], _, j, y, hy => by simp at hy
  | a :: r, hs, j, y, hy => by
    rw [List.pairwise_cons] at hs
    by_cases ha : a < x
    · rw [List.countP_cons_of_pos (by simpa using ha)]
      cases j with
      | zero => simp at hy; subst hy; simp [ha]
      | succ i =>
        have := stat_lt x hs.2 (j := i) (y := y) (by simpa using hy)
        omega
    · have h0 : r.countP (fun z => decide (z < x)) = 0 := by
        rw [List.countP_eq_zero]
        intro z hz
        have := hs.1 z hz
        simp; omega
      rw [List.countP_cons_of_neg (by simpa using ha), h0]
      have hay : a ≤ y := by
        cases j with
        | zero => simp at hy; omega
        | succ i => exact hs.1 y (List.mem_of_getElem? (by simpa using hy))
      omega

/-- The j-th of the numbers in order. -/
def nth (l : List Int) (j : Nat) : Int := (sortI l)[j]?.getD 0
theorem nth_some {l : List Int} {j : Nat} (hj : j < l.length) : (sortI l)[j]? = some (nth l j) := by
  have : j < (sortI l).length := by rw [sortI_length]; exact hj
  simp [nth, List.getElem?_eq_getElem this]
theorem nth_mem {l : List Int} {j : Nat} (hj : j < l.length) : nth l j ∈ l := (sortI_is l).mem_iff.1 (List.mem_of_getElem? (nth_some hj))
theorem nth_lt {l : List Int} {j : Nat} (hj : j < l.length) (x : Int) : nth l j < x ↔ j < l.countP (fun z => decide (z < x)) := by
  rw [← (sortI_is l).countP_eq]
  exact stat_lt x (sortI_rises l) (nth_some hj)
theorem nth_ge {l : List Int} {j : Nat} (hj : j < l.length) {x : Int} (h : l.countP (fun z => decide (z < x)) ≤ j) : x ≤ nth l j := by
  have := nth_lt hj x
  omega
theorem nth_le {l : List Int} {j : Nat} (hj : j < l.length) {x : Int} (h : j < l.countP (fun z => decide (z < x + 1))) : nth l j ≤ x := by
  have := nth_lt hj (x + 1)
  omega
theorem nth_mono {l : List Int} {i j : Nat} (hij : i ≤ j) (hj : j < l.length) : nth l i ≤ nth l j := by
  have h1 := nth_lt (l := l) (j := i) (by omega) (nth l j + 1)
  have h2 := nth_lt hj (nth l j + 1)
  omega

/-- The trimmed list, in rising order. -/
def restL (l : List Int) (k : Nat) : List Int := ((sortI l).take (l.length - k)).drop k
theorem restL_length (l : List Int) (k : Nat) : (restL l k).length = l.length - 2 * k := by simp [restL, sortI_length]; omega
theorem restL_at {l : List Int} {k i : Nat} (h : i < l.length - 2 * k) : (restL l k)[i]? = some (nth l (k + i)) := by
  rw [restL, List.getElem?_drop, List.getElem?_take, if_pos (by omega)]
  exact nth_some (by omega)
theorem restL_mem {l : List Int} {k : Nat} {x : Int} (h : x ∈ restL l k) : ∃ j, k ≤ j ∧ j + k < l.length ∧ x = nth l j := by
  obtain ⟨i, hi⟩ := List.getElem?_of_mem h
  have hl : i < l.length - 2 * k := by rw [← restL_length]; exact (List.getElem?_eq_some_iff.1 hi).1
  rw [restL_at hl] at hi
  exact ⟨k + i, by omega, by omega, by simpa using hi.symm⟩

def midV (l : List Int) (k : Nat) : Int := (nth l k + nth l (l.length - 1 - k)) / 2
def meanV (l : List Int) (k : Nat) : Int := (restL l k).sum / ((l.length - 2 * k : Nat) : Int)
def spreadV (l : List Int) (k : Nat) : Int := nth l (l.length - 1 - k) - nth l k

def outX (x : Int) : Bool := decide (x < -1099511627776) || decide (1099511627776 < x)
def wrongL (l : List Int) (k : Int) : Int := if 400 < l.length ∨ k < 0 ∨ 400 < k ∨ l.any outX = true then 2 else if (l.length : Int) ≤ 2 * k then 8 else 0
/-- What Wrong lets pass. -/
def Fine (l : List Int) (k : Int) : Prop := l.length ≤ 400 ∧ 0 ≤ k ∧ 2 * k < (l.length : Int) ∧ ∀ x ∈ l, -1099511627776 ≤ x ∧ x ≤ 1099511627776
theorem wrongL_ok {l : List Int} {k : Int} : wrongL l k = 0 ↔ Fine l k := by
  have ha : l.any outX = true ↔ ¬ ∀ x ∈ l, -1099511627776 ≤ x ∧ x ≤ 1099511627776 := by
    constructor
    · intro h hc
      obtain ⟨x, hx, ho⟩ := List.any_eq_true.1 h
      have := hc x hx
      simp [outX] at ho
      omega
    · intro h
      rw [List.any_eq_true]
      apply Classical.byContradiction
      intro hc
      apply h
      intro x hx
      have hx' : ¬ outX x = true := fun ho => hc ⟨x, hx, ho⟩
      simp [outX] at hx'
      omega
  unfold wrongL Fine
  by_cases h1 : 400 < l.length ∨ k < 0 ∨ 400 < k ∨ l.any outX = true
  · rw [if_pos h1]
    refine ⟨fun h => absurd h (by decide), fun ⟨p1, p2, p3, p4⟩ => ?_⟩
    rcases h1 with h | h | h | h
    · omega
    · omega
    · omega
    · exact absurd p4 (ha.1 h)
  · rw [if_neg h1]
    simp only [not_or] at h1
    obtain ⟨p1, p2, p3, p4⟩ := h1
    have p5 : ∀ x ∈ l, -1099511627776 ≤ x ∧ x ≤ 1099511627776 := Classical.byContradiction fun h => p4 (ha.2 h)
    by_cases h2 : (l.length : Int) ≤ 2 * k
    · rw [if_pos h2]
      exact ⟨fun h => absurd h (by decide), fun ⟨q1, q2, q3, q4⟩ => by omega⟩
    · rw [if_neg h2]
      exact ⟨fun _ => ⟨by omega, by omega, by omega, p5⟩, fun _ => rfl⟩
theorem wrongL_3 (l : List Int) (k : Int) : wrongL l k = 0 ∨ wrongL l k = 2 ∨ wrongL l k = 8 := by
  unfold wrongL
  split
  · exact .inr (.inl rfl)
  · split
    · exact .inr (.inr rfl)
    · exact .inl rfl

def midR (l : List Int) (k : Int) : Int := if wrongL l k = 0 then midV l k.toNat else 0
def meanR (l : List Int) (k : Int) : Int := if wrongL l k = 0 then meanV l k.toNat else 0
def spreadR (l : List Int) (k : Int) : Int := if wrongL l k = 0 then spreadV l k.toNat else 0
theorem midR_ok {l : List Int} {k : Int} (h : wrongL l k = 0) : midR l k = midV l k.toNat := if_pos h
theorem meanR_ok {l : List Int} {k : Int} (h : wrongL l k = 0) : meanR l k = meanV l k.toNat := if_pos h
theorem spreadR_ok {l : List Int} {k : Int} (h : wrongL l k = 0) : spreadR l k = spreadV l k.toNat := if_pos h
theorem midR_no {l : List Int} {k : Int} (h : ¬ wrongL l k = 0) : midR l k = 0 := if_neg h
theorem meanR_no {l : List Int} {k : Int} (h : ¬ wrongL l k = 0) : meanR l k = 0 := if_neg h
theorem spreadR_no {l : List Int} {k : Int} (h : ¬ wrongL l k = 0) : spreadR l k = 0 := if_neg h

/-! Sums -/
theorem sum_perm : ∀ {l l' : List Int}, l.Perm l' → l.sum = l'.sum := by
  intro l l' h
  induction h with
  | nil => rfl
  | cons x _ ih => simp [ih]
  | swap x y l => simp; omega
  | trans _ _ i1 i2 => exact i1.trans i2
theorem sum_between {a b : Int} : ∀ {s : List Int}, (∀ x ∈ s, a ≤ x ∧ x ≤ b) → a * (s.length : Int) ≤ s.sum ∧ s.sum ≤ b * (s.length : Int)
  | [], _ => by simp
  | x :: r, h => by
    have h1 := h x (by simp)
    have h2 := sum_between (s := r) (fun y hy => h y (List.mem_cons_of_mem _ hy))
    simp only [List.sum_cons, List.length_cons, Int.natCast_add, Int.mul_add]
    omega
theorem sum_le : ∀ {a b : List Int}, a.length = b.length → (∀ (i : Nat) (x y : Int), a[i]? = some x → b[i]? = some y → x ≤ y) → a.sum ≤ b.sum
  | [], [], _, _ => by simp
  | [], _ :: _, h, _ => by simp at h
  | _ :: _, [], h, _ => by simp at h
  | x :: a, y :: b, h, g => by
    have h1 := g 0 x y rfl rfl
    have h2 := sum_le (a := a) (b := b) (by simpa using h) (fun i u v hu hv => g (i + 1) u v (by simpa using hu) (by simpa using hv))
    simp only [List.sum_cons]
    omega
theorem sum_shift (by_ : Int) : ∀ (s : List Int), (s.map (· + by_)).sum = s.sum + by_ * (s.length : Int)
  | [] => by simp
  | x :: r => by
    simp only [List.map_cons, List.sum_cons, List.length_cons, Int.natCast_add, Int.mul_add, sum_shift by_ r]
    omega
theorem div_between {s n a b : Int} (hn : 0 < n) (h1 : a * n ≤ s) (h2 : s ≤ b * n) : a ≤ s / n ∧ s / n ≤ b :=
  ⟨Int.le_ediv_of_mul_le hn h1, by
    have := Int.ediv_le_ediv hn h2
    rwa [Int.mul_ediv_cancel _ (by omega)] at this⟩

/-! Bounds of the answers -/
section
variable {l : List Int} {k : Int}
theorem Fine.nat (h : Fine l k) : ∃ n : Nat, k = n ∧ 2 * n < l.length ∧ l.length ≤ 400 := by
  obtain ⟨h1, h2, h3, _⟩ := h
  exact ⟨k.toNat, by omega, by omega, h1⟩
theorem mid_between {a b : Int} {n : Nat} (hn : 2 * n < l.length) (h : ∀ j, n ≤ j → j + n < l.length → a ≤ nth l j ∧ nth l j ≤ b) : a ≤ midV l n ∧ midV l n ≤ b := by
  have h1 := h n (Nat.le_refl _) (by omega)
  have h2 := h (l.length - 1 - n) (by omega) (by omega)
  unfold midV
  omega
theorem mean_between {a b : Int} {n : Nat} (hn : 2 * n < l.length) (h : ∀ j, n ≤ j → j + n < l.length → a ≤ nth l j ∧ nth l j ≤ b) : a ≤ meanV l n ∧ meanV l n ≤ b := by
  have h1 := sum_between (s := restL l n) (a := a) (b := b) (fun x hx => by
    obtain ⟨j, h1, h2, rfl⟩ := restL_mem hx
    exact h j h1 h2)
  rw [restL_length] at h1
  exact div_between (by omega) h1.1 h1.2
theorem Fine.nth (h : Fine l k) {j : Nat} (hj : j < l.length) : -1099511627776 ≤ nth l j ∧ Go.Proofs.Ytiaemlfkpnpkaaa.nth l j ≤ 1099511627776 := h.2.2.2 _ (nth_mem hj)
theorem Fine.mid (h : Fine l k) : -1099511627776 ≤ midV l k.toNat ∧ midV l k.toNat ≤ 1099511627776 := by
  obtain ⟨h1, h2, h3, h4⟩ := h
  exact mid_between (by omega) (fun j _ hj => h4 _ (nth_mem (by omega)))
theorem Fine.mean (h : Fine l k) : -1099511627776 ≤ meanV l k.toNat ∧ meanV l k.toNat ≤ 1099511627776 := by
  obtain ⟨h1, h2, h3, h4⟩ := h
  exact mean_between (by omega) (fun j _ hj => h4 _ (nth_mem (by omega)))
theorem Fine.spread (h : Fine l k) : 0 ≤ spreadV l k.toNat ∧ spreadV l k.toNat ≤ 2199023255552 := by
  obtain ⟨n, rfl, hn, _⟩ := h.nat
  have h1 := h.nth (j := n) (by omega)
  have h2 := h.nth (j := l.length - 1 - n) (by omega)
  have h3 := nth_mono (l := l) (i := n) (j := l.length - 1 - n) (by omega) (by omega)
  unfold spreadV
  rw [show ((n : Int)).toNat = n by omega]
  omega
theorem midR_range (l : List Int) (k : Int) : -1099511627776 ≤ midR l k ∧ midR l k ≤ 1099511627776 := by
  by_cases h : wrongL l k = 0
  · rw [midR_ok h]; exact (wrongL_ok.1 h).mid
  · rw [midR_no h]; omega
theorem meanR_range (l : List Int) (k : Int) : -1099511627776 ≤ meanR l k ∧ meanR l k ≤ 1099511627776 := by
  by_cases h : wrongL l k = 0
  · rw [meanR_ok h]; exact (wrongL_ok.1 h).mean
  · rw [meanR_no h]; omega
theorem spreadR_range (l : List Int) (k : Int) : 0 ≤ spreadR l k ∧ spreadR l k ≤ 2199023255552 := by
  by_cases h : wrongL l k = 0
  · rw [spreadR_ok h]; exact (wrongL_ok.1 h).spread
  · rw [spreadR_no h]; omega
end

/-! A few wrong ones never lead out -/
theorem nth_safe {bad good all : List Int} (hp : all.Perm (bad ++ good)) {lo hi : Int} (hg : ∀ x ∈ good, lo ≤ x ∧ x ≤ hi) {j : Nat} (h1 : bad.length ≤ j) (h2 : j + bad.length < all.length) : lo ≤ nth all j ∧ nth all j ≤ hi := by
  have hl := hp.length_eq
  rw [List.length_append] at hl
  constructor
  · refine nth_ge (by omega) ?_
    rw [hp.countP_eq, List.countP_append, (List.countP_eq_zero (l := good)).2 (fun x hx => by have := (hg x hx).1; simp; omega)]
    have := List.countP_le_length (p := fun z : Int => decide (z < lo)) (l := bad)
    omega
  · refine nth_le (by omega) ?_
    rw [hp.countP_eq, List.countP_append, (List.countP_eq_length (l := good)).2 (fun x hx => by have := (hg x hx).2; simp; omega)]
    omega

/-- Two who hear the same good ones have a number between in common. -/
theorem nth_common {bad good all : List Int} (hp : all.Perm (bad ++ good)) (hm : 2 * bad.length < good.length) :
    nth all bad.length ≤ nth good bad.length ∧ nth good bad.length ≤ nth all (all.length - 1 - bad.length) := by
  have hl := hp.length_eq
  rw [List.length_append] at hl
  constructor
  · refine nth_le (by omega) ?_
    rw [hp.countP_eq, List.countP_append]
    have := (nth_lt (l := good) (j := bad.length) (by omega) (nth good bad.length + 1)).1 (by omega)
    omega
  · refine nth_ge (by omega) ?_
    rw [hp.countP_eq, List.countP_append]
    have h1 := nth_lt (l := good) (j := bad.length) (by omega) (nth good bad.length)
    have h2 := List.countP_le_length (p := fun z : Int => decide (z < nth good bad.length)) (l := bad)
    omega
theorem half {bad other good all all' : List Int} (hp : all.Perm (bad ++ good)) (hp' : all'.Perm (other ++ good)) (ho : other.length = bad.length) (hm : 2 * bad.length < good.length) {lo hi : Int} (hg : ∀ x ∈ good, lo ≤ x ∧ x ≤ hi) :
    2 * (midV all bad.length - midV all' bad.length) ≤ hi - lo + 1 ∧ 2 * (midV all' bad.length - midV all bad.length) ≤ hi - lo + 1 := by
  have c1 := nth_common hp hm
  have c2 := nth_common hp' (by omega)
  have hl := hp.length_eq
  have hl' := hp'.length_eq
  rw [List.length_append] at hl hl'
  have s1 := nth_safe hp hg (j := bad.length) (by omega) (by omega)
  have s2 := nth_safe hp hg (j := all.length - 1 - bad.length) (by omega) (by omega)
  have s3 := nth_safe hp' hg (j := bad.length) (by omega) (by omega)
  have s4 := nth_safe hp' hg (j := all'.length - 1 - bad.length) (by omega) (by omega)
  rw [ho] at c2
  unfold midV
  omega

/-! Shift -/
theorem sortI_shift {l m : List Int} {d : Int} (hm : m.Perm (l.map (· + d))) : sortI m = (sortI l).map (· + d) := by
  refine sortI_unique ?_ (((sortI_is l).map _).trans hm.symm)
  rw [List.pairwise_map]
  exact (sortI_rises l).imp (fun h => by omega)
theorem nth_shift {l m : List Int} {d : Int} (hm : m.Perm (l.map (· + d))) {j : Nat} (hj : j < l.length) : nth m j = nth l j + d := by
  unfold nth
  rw [sortI_shift hm, List.getElem?_map, nth_some hj]
  rfl
theorem mid_shift {l m : List Int} {d : Int} (hm : m.Perm (l.map (· + d))) {n : Nat} (hn : 2 * n < l.length) : midV m n = midV l n + d := by
  have hl : m.length = l.length := by simpa using hm.length_eq
  unfold midV
  rw [hl, nth_shift hm (by omega), nth_shift hm (by omega)]
  omega
theorem mean_shift {l m : List Int} {d : Int} (hm : m.Perm (l.map (· + d))) {n : Nat} (hn : 2 * n < l.length) : meanV m n = meanV l n + d := by
  have hl : m.length = l.length := by simpa using hm.length_eq
  have hr : restL m n = (restL l n).map (· + d) := by simp only [restL, sortI_shift hm, hl, List.map_take, List.map_drop]
  unfold meanV
  rw [hr, sum_shift, restL_length, hl]
  exact Int.add_mul_ediv_right _ _ (by omega)

/-! Who says more never makes it less -/
theorem count_set {l : List Int} {i : Nat} {a b : Int} (ha : l[i]? = some a) (hab : a ≤ b) (x : Int) : (l.set i b).countP (fun z => decide (z < x)) ≤ l.countP (fun z => decide (z < x)) := by
  have hi : i < l.length := (List.getElem?_eq_some_iff.1 ha).1
  have e1 : l = l.take i ++ a :: l.drop (i + 1) := by rw [← drop_cons ha, List.take_append_drop]
  have e2 : l.set i b = l.take i ++ b :: l.drop (i + 1) := by
    have hl : (l.take i).length = i := by simp; omega
    conv => lhs; rw [e1]
    rw [List.set_append_right _ _ (by omega), hl, Nat.sub_self, List.set_cons_zero]
  rw [e2]
  conv => rhs; rw [e1]
  simp only [List.countP_append, List.countP_cons]
  by_cases hb : b < x
  · rw [if_pos (by simpa using hb), if_pos (by simp; omega)]
    exact Nat.le_refl _
  · rw [if_neg (by simpa using hb)]
    omega
theorem nth_rises {l : List Int} {i : Nat} {a b : Int} (ha : l[i]? = some a) (hab : a ≤ b) {j : Nat} (hj : j < l.length) : nth l j ≤ nth (l.set i b) j := by
  have h1 := nth_lt (l := l.set i b) (j := j) (by simpa using hj) (nth l j)
  have h2 := nth_lt hj (nth l j)
  have h3 := count_set ha hab (nth l j)
  omega
theorem mid_rises {l : List Int} {i : Nat} {a b : Int} (ha : l[i]? = some a) (hab : a ≤ b) {n : Nat} (hn : 2 * n < l.length) : midV l n ≤ midV (l.set i b) n := by
  have h1 := nth_rises ha hab (j := n) (by omega)
  have h2 := nth_rises ha hab (j := l.length - 1 - n) (by omega)
  unfold midV
  rw [List.length_set]
  omega
theorem mean_rises {l : List Int} {i : Nat} {a b : Int} (ha : l[i]? = some a) (hab : a ≤ b) {n : Nat} (hn : 2 * n < l.length) : meanV l n ≤ meanV (l.set i b) n := by
  unfold meanV
  rw [List.length_set]
  refine Int.ediv_le_ediv (by omega) (sum_le (by rw [restL_length, restL_length, List.length_set]) ?_)
  intro j x y hx hy
  have hj : j < l.length - 2 * n := by rw [← restL_length]; exact (List.getElem?_eq_some_iff.1 hx).1
  rw [restL_at hj] at hx
  rw [restL_at (by simpa using hj)] at hy
  simp at hx hy
  subst hx hy
  exact nth_rises ha hab (by omega)

/-! Taking out one by one -/
theorem out_perm {l : List Int} {i : Nat} {x : Int} (hx : l[i]? = some x) : (x :: (l.take i ++ l.drop (i + 1))).Perm l := by
  have e1 : l = l.take i ++ x :: l.drop (i + 1) := by rw [← drop_cons hx, List.take_append_drop]
  conv => rhs; rw [e1]
  exact List.perm_middle.symm
theorem out_great {l : List Int} {i : Nat} {x : Int} (hx : l[i]? = some x) (hm : ∀ y ∈ l, y ≤ x) : sortI (l.take i ++ l.drop (i + 1)) = (sortI l).dropLast := by
  have hp := out_perm hx
  have : sortI l = sortI (l.take i ++ l.drop (i + 1)) ++ [x] := by
    refine sortI_unique ?_ (List.perm_append_comm.trans (((sortI_is _).cons x).trans hp))
    rw [List.pairwise_append]
    refine ⟨sortI_rises _, by simp, fun y hy z hz => ?_⟩
    simp at hz
    subst hz
    exact hm y (hp.mem_iff.1 (List.mem_cons_of_mem _ ((sortI_is _).mem_iff.1 hy)))
  rw [this, List.dropLast_concat]
theorem out_least {l : List Int} {i : Nat} {x : Int} (hx : l[i]? = some x) (hm : ∀ y ∈ l, x ≤ y) : sortI (l.take i ++ l.drop (i + 1)) = (sortI l).tail := by
  have hp := out_perm hx
  have : sortI l = x :: sortI (l.take i ++ l.drop (i + 1)) := by
    refine sortI_unique ?_ (((sortI_is _).cons x).trans hp)
    rw [List.pairwise_cons]
    refine ⟨fun y hy => hm y (hp.mem_iff.1 (List.mem_cons_of_mem _ ((sortI_is _).mem_iff.1 hy))), sortI_rises _⟩
  rw [this, List.tail_cons]
/-- a of the greatest and b of the least are out. -/
def cutL (l : List Int) (a b : Nat) : List Int := ((sortI l).take (l.length - a)).drop b
theorem cutL_zero (l : List Int) : cutL l 0 0 = sortI l := by
  unfold cutL
  rw [List.drop_zero, Nat.sub_zero, List.take_of_length_le (by rw [sortI_length]; exact Nat.le_refl _)]
theorem cutL_great {l : List Int} {a b : Nat} (h : a + b < l.length) : (cutL l a b).dropLast = cutL l (a + 1) b := by
  unfold cutL
  rw [List.dropLast_eq_take, List.length_drop, List.length_take, sortI_length, List.take_drop, List.take_take]
  congr 2
  omega
theorem cutL_least {l : List Int} {a b : Nat} : (cutL l a b).tail = cutL l a (b + 1) := by
  unfold cutL
  rw [List.tail_drop]
theorem least_rest {l r : List Int} {k : Nat} (hr : sortI r = restL l k) (hk : 2 * k < l.length) : leastI r = nth l k := by
  have hp : r.Perm (restL l k) := hr ▸ (sortI_is r).symm
  have hne : r ≠ [] := by
    rintro rfl
    have := hp.length_eq
    rw [restL_length] at this
    simp at this
    omega
  have h1 : nth l k ∈ r := hp.mem_iff.2 (List.mem_of_getElem? (restL_at (i := 0) (by omega)))
  obtain ⟨j, h2, h3, h4⟩ := restL_mem (hp.mem_iff.1 (leastI_mem hne))
  have h5 := nth_mono h2 (by omega : j < l.length)
  have h6 := leastI_le h1
  omega
theorem great_rest {l r : List Int} {k : Nat} (hr : sortI r = restL l k) (hk : 2 * k < l.length) : greatI r = nth l (l.length - 1 - k) := by
  have hp : r.Perm (restL l k) := hr ▸ (sortI_is r).symm
  have hne : r ≠ [] := by
    rintro rfl
    have := hp.length_eq
    rw [restL_length] at this
    simp at this
    omega
  have h1 : nth l (l.length - 1 - k) ∈ r := by
    have := restL_at (l := l) (k := k) (i := l.length - 1 - 2 * k) (by omega)
    rw [show k + (l.length - 1 - 2 * k) = l.length - 1 - k by omega] at this
    exact hp.mem_iff.2 (List.mem_of_getElem? this)
  obtain ⟨j, h2, h3, h4⟩ := restL_mem (hp.mem_iff.1 (greatI_mem hne))
  have h5 := nth_mono (l := l) (show j ≤ l.length - 1 - k by omega) (by omega)
  have h6 := greatI_le h1
  omega
theorem sum_rest {l r : List Int} {k : Nat} (hr : sortI r = restL l k) : r.sum = (restL l k).sum := sum_perm (hr ▸ (sortI_is r).symm)
theorem len_rest {l r : List Int} {k : Nat} (hr : sortI r = restL l k) : r.length = l.length - 2 * k := by rw [← restL_length, ← hr, sortI_length]
end Go.Proofs.Ytiaemlfkpnpkaaa
