/-
  Bus arbitration: what each node sends, and what the bus carries: the plain mathematics of chapter 5, without a program.
-/
import Derived.Test.YtolcfifbnmkfaaaArbWalks3
namespace Go.Proofs.Ytolcfifbnmkfaaa
open Go.RowKit
set_option linter.unusedVariables false

/-- The eleven bits of an identifier. -/
def B (x : Int) : List Bool := bitsOf 11 x
theorem B_length (x : Int) : (B x).length = 11 := bitsOf_length 11 x
theorem bitsOf_get : ∀ (w : Nat) (n : Int) (s : Nat), s < w → (bitsOf w n)[s]? = some (decide (n / 2 ^ (w - 1 - s) % 2 = 1))
  | 0, n, s, h => by omega
  | w + 1, n, 0, h => by simp [bitsOf]
  | w + 1, n, s + 1, h => by
    rw [bitsOf, List.getElem?_cons_succ, bitsOf_get w n s (by omega), show w + 1 - 1 - (s + 1) = w - 1 - s by omega]
theorem B_get (x : Int) {s : Nat} (h : s < 11) : (B x)[s]? = some (decide (x / 2 ^ (10 - s) % 2 = 1)) := bitsOf_get 11 x s h
theorem num_B {x : Int} (h0 : 0 ≤ x) (h1 : x ≤ 2047) : num (B x) = x := num_bitsOf 11 x h0 (by omega)
theorem B_inj {x y : Int} (h0 : 0 ≤ x) (h1 : x ≤ 2047) (h2 : 0 ≤ y) (h3 : y ≤ 2047) (h : B x = B y) : x = y := by
  rw [← num_B h0 h1, ← num_B h2 h3, h]
/-- The first s bits are alike. -/
def agree (m x : Int) (s : Nat) : Bool := decide ((B x).take s = (B m).take s)
def saidS (m x : Int) : Nat → Int
  | 0 => 0
  | s + 1 => saidS m x s + if agree m x s then 1 else 0
theorem agree_succ (m x : Int) {s : Nat} (hs : s < 11) : agree m x (s + 1) = (agree m x s && (decide (x / 2 ^ (10 - s) % 2 = 1) == decide (m / 2 ^ (10 - s) % 2 = 1))) := by
  unfold agree
  rw [take_snoc (B_get x hs), take_snoc (B_get m hs)]
  have hl : ((B x).take s).length = ((B m).take s).length := by simp [B_length]
  by_cases h : (B x).take s = (B m).take s
  · rw [h]
    generalize decide (x / 2 ^ (10 - s) % 2 = 1) = a
    generalize decide (m / 2 ^ (10 - s) % 2 = 1) = b
    cases a <;> cases b <;> simp
  · have : ¬ ((B x).take s ++ [decide (x / 2 ^ (10 - s) % 2 = 1)] = (B m).take s ++ [decide (m / 2 ^ (10 - s) % 2 = 1)]) := fun e => h (List.append_inj_left e hl)
    rw [decide_eq_false this, decide_eq_false h, Bool.false_and]
/-- Where the least one has a 1, all that agree so far have a 1. -/
theorem bit_up {m x : Int} (hm0 : 0 ≤ m) (hm1 : m ≤ 2047) (hx0 : 0 ≤ x) (hx1 : x ≤ 2047) (hmx : m ≤ x) {s : Nat} (ha : (B x).take s = (B m).take s) {b b' : Bool} (hx : (B x)[s]? = some b) (hm : (B m)[s]? = some b') (hne : b ≠ b') : b = true ∧ b' = false := by
  have h := num_first (B x) (B m) s b b' (by rw [B_length, B_length]) ha hx hm hne
  rw [num_B hx0 hx1, num_B hm0 hm1] at h
  rcases Int.lt_or_eq_of_le hmx with h1 | h1
  · rw [decide_eq_true h1] at h
    cases b <;> cases b' <;> simp_all
  · subst h1
    exact absurd (Option.some.inj (hx.symm.trans hm)) hne
/-- Who sends a 0. -/
def domM (x : Int) (p : Nat) : Bool := x / 2 ^ p % 2 == 0
theorem domM_eq (x : Int) (p : Nat) : domM x p = !decide (x / 2 ^ p % 2 = 1) := by
  unfold domM
  rcases Int.emod_two_eq (x / 2 ^ p) with h | h <;> rw [h] <;> rfl
def nodeAt (l : List Int) (i : Int) : Int := l[i.toNat]?.getD 0
theorem nodeAt_nat {l : List Int} {k : Nat} {x : Int} (h : l[k]? = some x) : nodeAt l k = x := by simp [nodeAt, h]
/-- The nodes that still send when s bits are over. -/
def act (l : List Int) (m : Int) (s : Nat) : List Int := (iota l.length).filter fun i => agree m (nodeAt l i) s
theorem act_zero (l : List Int) (m : Int) : act l m 0 = iota l.length := by
  unfold act
  exact List.filter_eq_self.2 (fun i _ => by simp [agree])
theorem act_mem {l : List Int} {m i : Int} {s : Nat} (h : i ∈ act l m s) : ∃ (k : Nat) (x : Int), i = k ∧ l[k]? = some x ∧ agree m x s = true := by
  obtain ⟨h1, h2⟩ := List.mem_filter.1 h
  obtain ⟨k, rfl, hk⟩ := iota_mem h1
  refine ⟨k, l[k], rfl, List.getElem?_eq_getElem hk, ?_⟩
  rwa [nodeAt_nat (List.getElem?_eq_getElem hk)] at h2
theorem act_len (l : List Int) (m : Int) (s : Nat) : (act l m s).length ≤ l.length := by
  have := List.length_filter_le (fun i => agree m (nodeAt l i) s) (iota l.length)
  rwa [iota_length] at this
theorem mem_iota {n k : Nat} (h : k < n) : (k : Int) ∈ iota n := List.mem_map.2 ⟨k, by simpa using h, rfl⟩
theorem act_succ (l : List Int) (m : Int) {s : Nat} (hs : s < 11) : (act l m s).filter (fun i => !(domM (nodeAt l i) (10 - s) == decide (m / 2 ^ (10 - s) % 2 = 1))) = act l m (s + 1) := by
  unfold act
  rw [List.filter_filter]
  refine List.filter_congr (fun i _ => ?_)
  rw [agree_succ m _ hs, domM_eq]
  generalize decide (nodeAt l i / 2 ^ (10 - s) % 2 = 1) = a
  generalize decide (m / 2 ^ (10 - s) % 2 = 1) = b
  cases agree m (nodeAt l i) s <;> cases a <;> cases b <;> rfl
/-- The bit on the bus is the least one's. -/
theorem bus_bit {l : List Int} (hf : ∀ x ∈ l, 0 ≤ x ∧ x ≤ 2047) (hl : l ≠ []) {s : Nat} (hs : s < 11) : (!(act l (leastI l) s).any (fun i => domM (nodeAt l i) (10 - s))) = decide (leastI l / 2 ^ (10 - s) % 2 = 1) := by
  have hm := leastI_mem hl
  obtain ⟨k, hk, ek⟩ := List.getElem_of_mem hm
  have hk? : l[k]? = some (leastI l) := by rw [List.getElem?_eq_getElem hk, ek]
  cases hb : decide (leastI l / 2 ^ (10 - s) % 2 = 1) with
  | true =>
    rw [Bool.not_eq_true', List.any_eq_false]
    intro i hi
    obtain ⟨j, x, rfl, hx, ha⟩ := act_mem hi
    have hxl := List.mem_of_getElem? hx
    rw [nodeAt_nat hx, domM_eq]
    by_cases hd : decide (x / 2 ^ (10 - s) % 2 = 1) = true
    · simp [hd]
    · have hd' : decide (x / 2 ^ (10 - s) % 2 = 1) = false := by simpa using hd
      have h1 := B_get x hs
      have h2 := B_get (leastI l) hs
      rw [hd'] at h1
      rw [hb] at h2
      have := bit_up (hf _ hm).1 (hf _ hm).2 (hf _ hxl).1 (hf _ hxl).2 (leastI_le hxl) (by simpa [agree] using ha) h1 h2 (by simp)
      cases this.1
  | false =>
    rw [Bool.not_eq_false', List.any_eq_true]
    refine ⟨k, List.mem_filter.2 ⟨mem_iota hk, ?_⟩, ?_⟩
    · rw [nodeAt_nat hk?]; simp [agree]
    · rw [nodeAt_nat hk?, domM_eq, hb]; rfl
/-- One more bit sent by each of the nodes. -/
def bump (a is : List Int) : List Int := is.foldl (fun a i => a.set i.toNat ((a[i.toNat]?.getD 0) + 1)) a
theorem bump_snoc (a is : List Int) (i : Int) : bump a (is ++ [i]) = (bump a is).set i.toNat (((bump a is)[i.toNat]?.getD 0) + 1) := by simp [bump, List.foldl_append]
theorem bump_length : ∀ (is a : List Int), (bump a is).length = a.length
  | [], a => rfl
  | i :: r, a => by rw [show bump a (i :: r) = bump (a.set i.toNat ((a[i.toNat]?.getD 0) + 1)) r from rfl, bump_length r]; simp
theorem bump_get : ∀ (is a : List Int) (k : Nat), (∀ i ∈ is, 0 ≤ i) → (bump a is)[k]? = (a[k]?).map (· + (is.count (k : Int) : Int))
  | [], a, k, h => by simp [bump]
  | i :: r, a, k, h => by
    have hi := h i (by simp)
    rw [show bump a (i :: r) = bump (a.set i.toNat ((a[i.toNat]?.getD 0) + 1)) r from rfl, bump_get r _ k (fun j hj => h j (by simp [hj])), List.count_cons, List.getElem?_set]
    by_cases e : i.toNat = k
    · have ei : i = (k : Int) := by omega
      subst ei
      simp only [Int.toNat_natCast, if_true, beq_self_eq_true]
      by_cases hk : k < a.length
      · simp [hk]; omega
      · simp [hk]
    · have ei : (i == (k : Int)) = false := by rw [beq_eq_false_iff_ne]; omega
      simp [e, ei]
theorem count_iota (n k : Nat) : (iota n).count (k : Int) = if k < n then 1 else 0 := by
  induction n with
  | zero => simp [iota]
  | succ n ih =>
    rw [iota_succ, List.count_append, ih, List.count_singleton]
    by_cases h : n = k
    · subst h; simp
    · have : ((n : Int) == (k : Int)) = false := by rw [beq_eq_false_iff_ne]; omega
      rw [this]
      by_cases h2 : k < n
      · simp [h2, show k < n + 1 by omega]
      · simp [h2, show ¬ k < n + 1 by omega]
theorem bump_act (l : List Int) (m : Int) (s : Nat) : bump (l.map fun x => saidS m x s) (act l m s) = l.map fun x => saidS m x (s + 1) := by
  apply List.ext_getElem?
  intro k
  rw [bump_get _ _ k (fun i hi => by obtain ⟨j, _, rfl, _⟩ := act_mem hi; omega), List.getElem?_map, List.getElem?_map]
  cases hk : l[k]? with
  | none => rfl
  | some x =>
    have hlt := (List.getElem?_eq_some_iff.1 hk).1
    simp only [Option.map_some, saidS]
    congr 2
    cases ha : agree m x s with
    | true =>
      rw [show (act l m s).count (k : Int) = (iota l.length).count (k : Int) from List.count_filter (by rw [nodeAt_nat hk]; exact ha), count_iota, if_pos hlt]
      rfl
    | false =>
      rw [List.count_eq_zero.2 (fun hi => by
        obtain ⟨j, y, e, hy, hay⟩ := act_mem hi
        have : k = j := by omega
        subst this
        rw [Option.some.inj (hk.symm.trans hy), hay] at ha
        cases ha)]
      rfl
/-- How far two rows agree. -/
theorem lcp_exists (m x : Int) : ∀ s, s ≤ 11 → ∃ n, n ≤ s ∧ (B x).take n = (B m).take n ∧ (n = s ∨ (B x)[n]? ≠ (B m)[n]?)
  | 0, _ => ⟨0, Nat.le_refl _, rfl, .inl rfl⟩
  | s + 1, h => by
    obtain ⟨n, hn, ht, hd⟩ := lcp_exists m x s (by omega)
    rcases hd with rfl | hd
    · by_cases e : (B x)[n]? = (B m)[n]?
      · refine ⟨n + 1, Nat.le_refl _, ?_, .inl rfl⟩
        rw [B_get x (by omega), B_get m (by omega)] at e
        rw [take_snoc (B_get x (by omega)), take_snoc (B_get m (by omega)), ht, Option.some.inj e]
      · exact ⟨n, by omega, ht, .inr e⟩
    · exact ⟨n, by omega, ht, .inr hd⟩
theorem agree_iff {m x : Int} {n : Nat} (hn : n ≤ 11) (ht : (B x).take n = (B m).take n) (hd : n = 11 ∨ (B x)[n]? ≠ (B m)[n]?) {s : Nat} (hs : s ≤ 11) : agree m x s = decide (s ≤ n) := by
  unfold agree
  by_cases h : s ≤ n
  · rw [decide_eq_true h, decide_eq_true_iff]
    have := congrArg (List.take s) ht
    rwa [List.take_take, List.take_take, Nat.min_eq_left h] at this
  · rw [decide_eq_false h, decide_eq_false_iff_not]
    intro e
    rcases hd with rfl | hd
    · omega
    · apply hd
      have := congrArg (·[n]?) e
      simpa [List.getElem?_take, show n < s by omega] using this
theorem saidS_of {m x : Int} {n : Nat} (hn : n ≤ 11) (ht : (B x).take n = (B m).take n) (hd : n = 11 ∨ (B x)[n]? ≠ (B m)[n]?) : ∀ s, s ≤ 11 → saidS m x s = min ((n : Int) + 1) s
  | 0, _ => by simp [saidS]; omega
  | s + 1, h => by
    rw [saidS, saidS_of hn ht hd s (by omega), agree_iff hn ht hd (by omega)]
    by_cases hs : s ≤ n
    · simp only [decide_eq_true hs, if_true]; omega
    · simp only [decide_eq_false hs, Bool.false_eq_true, if_false]; omega
/-- What Play tells. -/
def playSent (l : List Int) : List Int := l.map fun x => saidS (leastI l) x 11
def playBus (l : List Int) : List Bool := B (leastI l)
/-- Play's error. -/
def playErr (l : List Int) : Int := if wrongM l = 0 ∧ l = [] then 3 else wrongM l
end Go.Proofs.Ytolcfifbnmkfaaa
