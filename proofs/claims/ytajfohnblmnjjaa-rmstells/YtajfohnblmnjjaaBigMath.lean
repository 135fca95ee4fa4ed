/-
  Whole numbers as rows of digits of 32 bits, the least one first: sums, differences, products, comparison. No statement of the seat is here.
-/
import Derived.Test.YtajfohnblmnjjaaJ2
namespace Go.Proofs.Ytajfohnblmnjjaa

/-- What a row of digits is worth. -/
def mag : List Int → Int
  | [] => 0
  | a :: r => a + 4294967296 * mag r
def IsDig (a : Int) : Prop := 0 ≤ a ∧ a < 4294967296
/-- Digits of 32 bits. -/
def Dig (l : List Int) : Prop := ∀ a ∈ l, IsDig a
/-- No noughts at the end. -/
def Trim (l : List Int) : Prop := l.getLast? ≠ some 0
/-- The base's powers, as whole numbers. -/
def pow32 : Nat → Int
  | 0 => 1
  | k + 1 => 4294967296 * pow32 k
theorem pow32_pos : ∀ k, 0 < pow32 k
  | 0 => by decide
  | k + 1 => by have := pow32_pos k; unfold pow32; omega
theorem pow32_add (j : Nat) : ∀ k, pow32 (k + j) = pow32 k * pow32 j
  | 0 => by rw [Nat.zero_add]; unfold pow32; omega
  | k + 1 => by rw [Nat.add_right_comm, pow32, pow32_add j k, pow32, Int.mul_assoc]
theorem pow32_mono {i j : Nat} (h : i ≤ j) : pow32 i ≤ pow32 j := by
  obtain ⟨k, rfl⟩ := Nat.le.dest h
  rw [Nat.add_comm, pow32_add]
  have := Int.mul_le_mul_of_nonneg_right (show (1 : Int) ≤ pow32 k from pow32_pos k) (Int.le_of_lt (pow32_pos i))
  omega

theorem Dig.nil : Dig [] := fun _ h => by cases h
theorem Dig.cons {a : Int} {l : List Int} (h : IsDig a) (hl : Dig l) : Dig (a :: l) := fun x hx => by
  rcases List.mem_cons.1 hx with rfl | hx
  · exact h
  · exact hl x hx
theorem Dig.head {a : Int} {l : List Int} (h : Dig (a :: l)) : IsDig a := h a (by simp)
theorem Dig.tail {a : Int} {l : List Int} (h : Dig (a :: l)) : Dig l := fun x hx => h x (by simp [hx])
theorem Dig.append {l r : List Int} (h : Dig l) (k : Dig r) : Dig (l ++ r) := fun x hx => by
  rcases List.mem_append.1 hx with hx | hx
  · exact h x hx
  · exact k x hx
theorem Dig.take {l : List Int} (h : Dig l) (k : Nat) : Dig (l.take k) := fun x hx => h x (List.mem_of_mem_take hx)
theorem Dig.drop {l : List Int} (h : Dig l) (k : Nat) : Dig (l.drop k) := fun x hx => h x (List.mem_of_mem_drop hx)
theorem Dig.at {l : List Int} (h : Dig l) {k : Nat} {x : Int} (hx : l[k]? = some x) : IsDig x := h x (List.mem_of_getElem? hx)
theorem Dig.zeros (n : Nat) : Dig (List.replicate n 0) := fun x hx => by rw [(List.mem_replicate.1 hx).2]; exact ⟨by decide, by decide⟩

theorem mag_zeros (n : Nat) : mag (List.replicate n 0) = 0 := by
  induction n with
  | zero => rfl
  | succ n ih => rw [List.replicate_succ, mag, ih]; rfl
theorem mag_append (l r : List Int) : mag (l ++ r) = mag l + pow32 l.length * mag r := by
  induction l with
  | nil => simp [mag, pow32]
  | cons a l ih => rw [List.cons_append, mag, ih, mag, List.length_cons, pow32, Int.mul_add, Int.mul_assoc]; omega
theorem mag_nonneg {l : List Int} (h : Dig l) : 0 ≤ mag l := by
  induction l with
  | nil => exact Int.le_refl _
  | cons a l ih => have := ih h.tail; have := h.head; unfold IsDig at this; unfold mag; omega
theorem mag_lt {l : List Int} (h : Dig l) : mag l < pow32 l.length := by
  induction l with
  | nil => decide
  | cons a l ih => have := ih h.tail; have := h.head; unfold IsDig at this; rw [List.length_cons]; unfold mag pow32; omega
/-- A nought at the end is worth nothing. -/
theorem mag_take_zero {l : List Int} {n : Nat} (h : l[n]? = some 0) : mag (l.take (n + 1)) = mag (l.take n) := by
  rw [take_snoc h, mag_append]; simp [mag]
/-- What has no noughts at the end is worth at least its highest digit's place. -/
theorem mag_ge {l : List Int} (h : Dig l) (ht : Trim l) (hl : 0 < l.length) : pow32 (l.length - 1) ≤ mag l := by
  rw [← List.dropLast_concat_getLast (l := l) (by intro e; simp [e] at hl)]
  rw [mag_append]
  have hd : Dig l.dropLast := fun x hx => h x (List.dropLast_sublist l |>.subset hx)
  have h1 := mag_nonneg hd
  have hne : l ≠ [] := by intro e; simp [e] at hl
  have h2 : l.getLast hne ≠ 0 := by
    intro e
    apply ht
    rw [List.getLast?_eq_some_getLast hne, e]
  have h3 := h _ (List.getLast_mem hne)
  have hlen : l.dropLast.length = l.length - 1 := by simp
  have hlen2 : (l.dropLast ++ [l.getLast hne]).length - 1 = l.length - 1 := by simp
  rw [hlen2, hlen]
  unfold IsDig at h3
  have h4 : pow32 (l.length - 1) ≤ pow32 (l.length - 1) * l.getLast hne := by
    have := Int.mul_le_mul_of_nonneg_left (show (1 : Int) ≤ l.getLast hne by omega) (Int.le_of_lt (pow32_pos (l.length - 1)))
    omega
  simp only [mag]
  simp only [Int.mul_zero, Int.add_zero]
  omega
theorem len_le {l : List Int} (h : Dig l) (ht : Trim l) {k : Nat} (hk : mag l < pow32 k) : l.length ≤ k := by
  rcases Nat.lt_or_ge k l.length with h1 | h1
  · have h2 := mag_ge h ht (by omega)
    have h3 := pow32_mono (show k ≤ l.length - 1 by omega)
    omega
  · exact h1
theorem mag_pos {l : List Int} (h : Dig l) (ht : Trim l) (hl : 0 < l.length) : 0 < mag l := by
  have := mag_ge h ht hl
  have := pow32_pos (l.length - 1)
  omega
theorem trim_zero {l : List Int} (h : Dig l) (ht : Trim l) (hz : mag l = 0) : l = [] := by
  rcases Nat.eq_zero_or_pos l.length with h0 | h0
  · exact List.eq_nil_of_length_eq_zero h0
  · have := mag_pos h ht h0; omega
theorem trim_take {l : List Int} {n : Nat} {x : Int} (hx : l[n]? = some x) (h0 : x ≠ 0) : Trim (l.take (n + 1)) := by
  unfold Trim
  rw [take_snoc hx, List.getLast?_append]
  simp [h0]
theorem trim_nil : Trim [] := by simp [Trim]

/-! Sums -/
def addL (c : Int) : List Int → List Int → List Int
  | [], _ => [c]
  | a :: x, y => (c + a + y.headD 0) % 4294967296 :: addL ((c + a + y.headD 0) / 4294967296) x y.tail
theorem addL_mag (x : List Int) : ∀ (c : Int) (y : List Int), y.length ≤ x.length → mag (addL c x y) = c + mag x + mag y := by
  induction x with
  | nil =>
    intro c y h
    obtain rfl : y = [] := List.eq_nil_of_length_eq_zero (by simpa using h)
    simp [addL, mag]
  | cons a x ih =>
    intro c y h
    rw [addL, mag, ih _ _ (by simp at h ⊢; omega), mag]
    have hy : mag y = y.headD 0 + 4294967296 * mag y.tail := by cases y <;> simp [mag]
    rw [hy]
    omega
theorem addL_dig (x : List Int) : ∀ (c : Int) (y : List Int), Dig x → Dig y → 0 ≤ c → c ≤ 1 → Dig (addL c x y) := by
  induction x with
  | nil => intro c y _ _ h0 h1; exact Dig.cons ⟨h0, by omega⟩ Dig.nil
  | cons a x ih =>
    intro c y hx hy h0 h1
    have ha := hx.head
    have hb : IsDig (y.headD 0) := by cases y with
      | nil => exact ⟨by decide, by decide⟩
      | cons b y => exact hy.head
    have ht : Dig y.tail := by cases y with
      | nil => exact Dig.nil
      | cons b y => exact hy.tail
    unfold IsDig at ha hb
    rw [addL]
    exact Dig.cons ⟨by omega, by omega⟩ (ih _ _ hx.tail ht (by omega) (by omega))
theorem addL_len (x : List Int) : ∀ (c : Int) (y : List Int), (addL c x y).length = x.length + 1 := by
  induction x with
  | nil => intro c y; rfl
  | cons a x ih => intro c y; rw [addL, List.length_cons, ih, List.length_cons]

/-! Differences -/
def subL (c : Int) : List Int → List Int → List Int
  | [], _ => []
  | a :: x, y => (a - c - y.headD 0) % 4294967296 :: subL (if a - c - y.headD 0 < 0 then 1 else 0) x y.tail
theorem subL_mag (x : List Int) : ∀ (c : Int) (y : List Int), y.length ≤ x.length → Dig x → Dig y → 0 ≤ c → c ≤ 1 → mag y + c ≤ mag x → mag (subL c x y) = mag x - mag y - c := by
  induction x with
  | nil =>
    intro c y h _ _ h0 _ hle
    obtain rfl : y = [] := List.eq_nil_of_length_eq_zero (by simpa using h)
    simp [mag] at hle
    simp [subL, mag]; omega
  | cons a x ih =>
    intro c y h hx hy h0 h1 hle
    have ha := hx.head
    have hb : IsDig (y.headD 0) := by cases y with
      | nil => exact ⟨by decide, by decide⟩
      | cons b y => exact hy.head
    have ht : Dig y.tail := by cases y with
      | nil => exact Dig.nil
      | cons b y => exact hy.tail
    have hyv : mag y = y.headD 0 + 4294967296 * mag y.tail := by cases y <;> simp [mag]
    rw [hyv, mag] at hle
    unfold IsDig at ha hb
    rw [subL, mag, mag, hyv]
    split
    · rw [ih _ _ (by simp at h ⊢; omega) hx.tail ht (by omega) (by omega) (by omega)]; omega
    · rw [ih _ _ (by simp at h ⊢; omega) hx.tail ht (by omega) (by omega) (by omega)]; omega
theorem subL_dig (x : List Int) : ∀ (c : Int) (y : List Int), Dig (subL c x y) := by
  induction x with
  | nil => intro c y; exact Dig.nil
  | cons a x ih => intro c y; rw [subL]; exact Dig.cons ⟨by omega, by omega⟩ (ih _ _)
theorem subL_len (x : List Int) : ∀ (c : Int) (y : List Int), (subL c x y).length = x.length := by
  induction x with
  | nil => intro c y; rfl
  | cons a x ih => intro c y; rw [subL, List.length_cons, ih, List.length_cons]

/-! Products -/
/-- One row: c and a times y and what stood there. -/
def rowM (c a : Int) : List Int → List Int → List Int
  | [], _ => [c]
  | b :: y, o => (c + (a * b + o.headD 0)) % 4294967296 :: rowM ((c + (a * b + o.headD 0)) / 4294967296) a y o.tail
theorem rowM_mag (a : Int) (y : List Int) : ∀ (c : Int) (o : List Int), o.length = y.length → mag (rowM c a y o) = c + a * mag y + mag o := by
  induction y with
  | nil =>
    intro c o h
    obtain rfl : o = [] := List.eq_nil_of_length_eq_zero (by simpa using h)
    simp [rowM, mag]
  | cons b y ih =>
    intro c o h
    cases o with
    | nil => simp at h
    | cons d o =>
      rw [rowM, mag, ih _ _ (by simpa using h)]
      simp only [List.headD_cons, List.tail_cons, mag]
      rw [Int.mul_add a b, Int.mul_left_comm a 4294967296]
      generalize a * b = p
      generalize a * mag y = q
      omega
theorem rowM_dig {a : Int} (ha : IsDig a) (y : List Int) : ∀ (c : Int) (o : List Int), Dig y → Dig o → IsDig c → Dig (rowM c a y o) := by
  induction y with
  | nil => intro c o _ _ hc; exact Dig.cons hc Dig.nil
  | cons b y ih =>
    intro c o hy ho hc
    have hb := hy.head
    have hd : IsDig (o.headD 0) := by cases o with
      | nil => exact ⟨by decide, by decide⟩
      | cons d o => exact ho.head
    have ht : Dig o.tail := by cases o with
      | nil => exact Dig.nil
      | cons d o => exact ho.tail
    have hp : 0 ≤ a * b ∧ a * b ≤ 18446744065119617025 := by
      unfold IsDig at ha hb
      refine ⟨Int.mul_nonneg ha.1 hb.1, ?_⟩
      have := Int.mul_le_mul (show a ≤ 4294967295 by omega) (show b ≤ 4294967295 by omega) hb.1 (by omega)
      omega
    unfold IsDig at hc hd
    rw [rowM]
    exact Dig.cons ⟨by omega, by omega⟩ (ih _ _ hy.tail ht ⟨by omega, by omega⟩)
theorem rowM_len (a : Int) (y : List Int) : ∀ (c : Int) (o : List Int), (rowM c a y o).length = y.length + 1 := by
  induction y with
  | nil => intro c o; rfl
  | cons b y ih => intro c o; rw [rowM, List.length_cons, ih, List.length_cons]

/-- All rows; o: what stands where the next row begins, as many digits as y has. -/
def mulM (y : List Int) : List Int → List Int → List Int
  | [], o => o
  | a :: x, o => (rowM 0 a y o).headD 0 :: mulM y x (rowM 0 a y o).tail
theorem mulM_mag (y : List Int) (x : List Int) : ∀ o : List Int, o.length = y.length → mag (mulM y x o) = mag o + mag x * mag y := by
  induction x with
  | nil => intro o _; simp [mulM, mag]
  | cons a x ih =>
    intro o h
    have hl := rowM_len a y 0 o
    have hm := rowM_mag a y 0 o h
    rw [mulM, mag, ih _ (by simp; omega), mag]
    have hr : mag (rowM 0 a y o) = (rowM 0 a y o).headD 0 + 4294967296 * mag (rowM 0 a y o).tail := by
      cases hc : rowM 0 a y o with
      | nil => rw [hc] at hl; simp at hl
      | cons d r => simp [mag]
    rw [Int.add_mul, Int.mul_assoc]
    generalize mag x * mag y = q at *
    generalize a * mag y = p at *
    omega
theorem mulM_dig (y : List Int) (hy : Dig y) (x : List Int) : ∀ o : List Int, Dig x → Dig o → Dig (mulM y x o) := by
  induction x with
  | nil => intro o _ ho; exact ho
  | cons a x ih =>
    intro o hx ho
    have hd := rowM_dig hx.head y 0 o hy ho ⟨by decide, by decide⟩
    have hl := rowM_len a y 0 o
    rw [mulM]
    cases hc : rowM 0 a y o with
    | nil => rw [hc] at hl; simp at hl
    | cons d r =>
      rw [hc] at hd
      exact Dig.cons hd.head (ih _ hx.tail hd.tail)

/-! Comparison -/
theorem mag_cmp_len {x y : List Int} (hx : Dig x) (hy : Dig y) (ty : Trim y) (h : x.length < y.length) : mag x < mag y := by
  have h1 := mag_lt hx
  have h2 := mag_ge hy ty (by omega)
  have h3 := pow32_mono (show x.length ≤ y.length - 1 by omega)
  omega
/-- From the highest digit that differs. -/
theorem mag_cmp_at {x y : List Int} (hx : Dig x) (hy : Dig y) (hl : x.length = y.length) {k : Nat} {a b : Int} (ha : x[k]? = some a) (hb : y[k]? = some b) (he : x.drop (k + 1) = y.drop (k + 1)) (hab : a < b) : mag x < mag y := by
  have ex : x = x.take k ++ a :: x.drop (k + 1) := by rw [← drop_cons ha, List.take_append_drop]
  have ey : y = y.take k ++ b :: y.drop (k + 1) := by rw [← drop_cons hb, List.take_append_drop]
  have hka : k < x.length := (List.getElem?_eq_some_iff.1 ha).1
  rw [ex, ey, mag_append, mag_append, mag, mag, he]
  have l1 : (x.take k).length = k := by simp; omega
  have l2 : (y.take k).length = k := by simp; omega
  rw [l1, l2]
  have h1 := mag_lt (hx.take k)
  rw [l1] at h1
  have h2 := mag_nonneg (hy.take k)
  have h3 : pow32 k * (a + 1) ≤ pow32 k * b := Int.mul_le_mul_of_nonneg_left (by omega) (Int.le_of_lt (pow32_pos k))
  rw [Int.mul_add, Int.mul_one] at h3
  rw [Int.mul_add, Int.mul_add]
  omega
end Go.Proofs.Ytajfohnblmnjjaa
