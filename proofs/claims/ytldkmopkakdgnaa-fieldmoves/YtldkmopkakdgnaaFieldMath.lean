/-
  The mathematics of package field: bits of a buffer by their place, fields of both kinds, what is got and set; the reference's rows. No statement of the seat is here.
-/
import Derived.Test.YtldkmopkakdgnaaBitMath
namespace Go.Proofs.Ytldkmopkakdgnaa
open Go.RowKit
set_option maxRecDepth 20000
set_option linter.unusedVariables false

structure Fld where
  fr : Nat
  wd : Nat
  bg : Bool
  deriving DecidableEq
/-- Each byte the other way round. -/
def turnB (i : Nat) : Nat := 8 * (i / 8) + (7 - i % 8)
theorem turn_turn (i : Nat) : turnB (turnB i) = i := by unfold turnB; omega
theorem turn_lt {i k : Nat} (h : i < 8 * k) : turnB i < 8 * k := by unfold turnB; omega
/-- The number that the field's own count gives bit i (the bits of the buffer in order, the most significant of each byte first). -/
def Fld.nb (f : Fld) (i : Nat) : Nat := if f.bg = true then i else turnB i
theorem nb_nb (f : Fld) (i : Nat) : f.nb (f.nb i) = i := by
  unfold Fld.nb
  split
  · rfl
  · exact turn_turn i
theorem nb_lt (f : Fld) {i k : Nat} (h : i < 8 * k) : f.nb i < 8 * k := by
  unfold Fld.nb
  split
  · exact h
  · exact turn_lt h
def Fld.on (f : Fld) (i : Nat) : Prop := f.fr ≤ f.nb i ∧ f.nb i < f.fr + f.wd
instance (f : Fld) (i : Nat) : Decidable (f.on i) := by unfold Fld.on; infer_instance
/-- Which of the field's bits it is, the most significant one first. -/
def Fld.ix (f : Fld) (i : Nat) : Nat := if f.bg = true then f.nb i - f.fr else f.fr + f.wd - 1 - f.nb i
/-- Where bit j of the field lies. -/
def Fld.at_ (f : Fld) (j : Nat) : Nat := f.nb (if f.bg = true then f.fr + j else f.fr + f.wd - 1 - j)
theorem at_on (f : Fld) {j : Nat} (h : j < f.wd) : f.on (f.at_ j) ∧ f.ix (f.at_ j) = j := by
  unfold Fld.on Fld.ix Fld.at_
  rw [nb_nb]
  cases f.bg <;> simp <;> omega
theorem on_at (f : Fld) {i : Nat} (h : f.on i) : f.ix i < f.wd ∧ f.at_ (f.ix i) = i := by
  obtain ⟨h1, h2⟩ := h
  have e : f.nb (f.nb i) = i := nb_nb f i
  unfold Fld.ix Fld.at_
  cases hb : f.bg
  · simp only [Bool.false_eq_true, if_false]
    refine ⟨by omega, ?_⟩
    rw [show f.fr + f.wd - 1 - (f.fr + f.wd - 1 - f.nb i) = f.nb i by omega]
    exact e
  · simp only [if_true]
    refine ⟨by omega, ?_⟩
    rw [show f.fr + (f.nb i - f.fr) = f.nb i by omega]
    exact e
/-- It fits so many bytes. -/
def Fld.fits (f : Fld) (k : Nat) : Prop := f.fr + f.wd ≤ 8 * k
theorem at_lt {f : Fld} {k j : Nat} (h : f.fits k) (hj : j < f.wd) : f.at_ j < 8 * k := by
  unfold Fld.at_
  refine nb_lt f ?_
  unfold Fld.fits at h
  split <;> omega
/-- Two fields without a bit in common. -/
def FarF (f g : Fld) : Prop := ∀ i, ¬ (f.on i ∧ g.on i)
theorem FarF.symm {f g : Fld} (h : FarF f g) : FarF g f := fun i ⟨a, b⟩ => h i ⟨b, a⟩

def getR (R : List Bool) (f : Fld) : List Bool := (List.range f.wd).map fun j => R.getD (f.at_ j) false
def setR (R : List Bool) (f : Fld) (row : List Bool) : List Bool := (List.range R.length).map fun i => if f.on i then row.getD (f.ix i) false else R.getD i false
theorem getR_length (R : List Bool) (f : Fld) : (getR R f).length = f.wd := by simp [getR]
theorem setR_length (R : List Bool) (f : Fld) (row : List Bool) : (setR R f row).length = R.length := by simp [setR]
theorem setR_getD {R : List Bool} {f : Fld} {row : List Bool} {i : Nat} (h : i < R.length) : (setR R f row).getD i false = if f.on i then row.getD (f.ix i) false else R.getD i false := by
  rw [List.getD_eq_getElem?_getD, setR, List.getElem?_map, List.getElem?_range h]; rfl
theorem getR_getD {R : List Bool} {f : Fld} {j : Nat} (h : j < f.wd) : (getR R f).getD j false = R.getD (f.at_ j) false := by
  rw [List.getD_eq_getElem?_getD, getR, List.getElem?_map, List.getElem?_range h]; rfl
theorem ext_getD {A B : List Bool} (hl : A.length = B.length) (h : ∀ i, i < A.length → A.getD i false = B.getD i false) : A = B := by
  refine List.ext_getElem hl fun i h1 h2 => ?_
  have := h i h1
  rw [List.getD_eq_getElem?_getD, List.getD_eq_getElem?_getD, List.getElem?_eq_getElem h1, List.getElem?_eq_getElem h2] at this
  exact this
/-- What was set is got. -/
theorem get_set {R row : List Bool} {f : Fld} {k : Nat} (hR : R.length = 8 * k) (hf : f.fits k) (hr : row.length = f.wd) : getR (setR R f row) f = row := by
  refine ext_getD (by rw [getR_length, hr]) fun j hj => ?_
  rw [getR_length] at hj
  obtain ⟨h1, h2⟩ := at_on f hj
  rw [getR_getD hj, setR_getD (by rw [hR]; exact at_lt hf hj), if_pos h1, h2]
/-- Set to what it is, nothing changes. -/
theorem set_get (R : List Bool) (f : Fld) : setR R f (getR R f) = R := by
  refine ext_getD (setR_length _ _ _) fun i hi => ?_
  rw [setR_length] at hi
  rw [setR_getD hi]
  split
  · rename_i h
    obtain ⟨h1, h2⟩ := on_at f h
    rw [getR_getD h1, h2]
  · rfl
/-- Another field is left alone. -/
theorem get_far {R row : List Bool} {f g : Fld} {k : Nat} (hR : R.length = 8 * k) (hg : g.fits k) (h : FarF f g) : getR (setR R f row) g = getR R g := by
  refine ext_getD (by rw [getR_length, getR_length]) fun j hj => ?_
  rw [getR_length] at hj
  rw [getR_getD hj, getR_getD hj, setR_getD (by rw [hR]; exact at_lt hg hj), if_neg fun e => h _ ⟨e, (at_on g hj).1⟩]
theorem set_far {R a b : List Bool} {f g : Fld} (h : FarF f g) : setR (setR R f a) g b = setR (setR R g b) f a := by
  refine ext_getD (by rw [setR_length, setR_length, setR_length, setR_length]) fun i hi => ?_
  rw [setR_length, setR_length] at hi
  rw [setR_getD (R := setR R f a) (by rw [setR_length]; exact hi), setR_getD (R := R) (f := f) hi, setR_getD (R := setR R g b) (by rw [setR_length]; exact hi), setR_getD (R := R) (f := g) hi]
  by_cases h1 : f.on i
  · rw [if_pos h1, if_pos h1, if_neg fun h2 => h i ⟨h1, h2⟩]
  · rw [if_neg h1, if_neg h1]
/-- Set twice: the last one stays. -/
theorem set_set {R a b : List Bool} {f : Fld} : setR (setR R f a) f b = setR R f b := by
  refine ext_getD (by rw [setR_length, setR_length, setR_length]) fun i hi => ?_
  rw [setR_length, setR_length] at hi
  rw [setR_getD (by rw [setR_length]; exact hi), setR_getD hi, setR_getD hi]
  split <;> rfl

/-! buffers -/
theorem bits_back {R : List Bool} {k : Nat} (h : R.length = 8 * k) : ofBytes (bytesOf R) = R := by
  obtain ⟨m, hm, e⟩ := bits_of_bytes R
  have := congrArg List.length e
  rw [ofBytes_length, List.length_append, List.length_replicate, h] at this
  rw [e, show m = 0 by omega]
  simp
theorem bytes_len {R : List Bool} {k : Nat} (h : R.length = 8 * k) : (bytesOf R).length = k := by
  have := congrArg List.length (bits_back h)
  rw [ofBytes_length, h] at this
  omega
def Byt (l : List Int) : Prop := ∀ x ∈ l, 0 ≤ x ∧ x < 256
def getF (l : List Int) (f : Fld) : Int := num (getR (ofBytes l) f)
def setF (l : List Int) (f : Fld) (n : Int) : List Int := bytesOf (setR (ofBytes l) f (bitsOf f.wd n))
theorem setF_bits (l : List Int) (f : Fld) (n : Int) : ofBytes (setF l f n) = setR (ofBytes l) f (bitsOf f.wd n) := bits_back (by rw [setR_length, ofBytes_length])
theorem setF_length (l : List Int) (f : Fld) (n : Int) : (setF l f n).length = l.length := bytes_len (by rw [setR_length, ofBytes_length])
theorem setF_byt (l : List Int) (f : Fld) (n : Int) : Byt (setF l f n) := bytesOf_range _
theorem getF_nonneg (l : List Int) (f : Fld) : 0 ≤ getF l f := num_nonneg _
theorem getF_lt (l : List Int) (f : Fld) : getF l f < 2 ^ f.wd := by
  have := num_lt (getR (ofBytes l) f)
  rwa [getR_length] at this
theorem getF_setF {l : List Int} {f : Fld} {n : Int} (hf : f.fits l.length) (h0 : 0 ≤ n) (h1 : n < 2 ^ f.wd) : getF (setF l f n) f = n := by
  unfold getF
  rw [setF_bits, get_set (ofBytes_length l) hf (bitsOf_length _ _), num_bitsOf _ _ h0 h1]
theorem bitsOf_getF (l : List Int) (f : Fld) : bitsOf f.wd (getF l f) = getR (ofBytes l) f := by
  have := bitsOf_num (getR (ofBytes l) f)
  rwa [getR_length] at this
theorem setF_getF {l : List Int} (f : Fld) (hl : Byt l) : setF l f (getF l f) = l := by
  unfold setF
  rw [bitsOf_getF, set_get, bytes_of_bits l hl]
theorem getF_far {l : List Int} {f g : Fld} (n : Int) (hg : g.fits l.length) (h : FarF f g) : getF (setF l f n) g = getF l g := by
  unfold getF
  rw [setF_bits, get_far (ofBytes_length l) hg h]
theorem setF_far {l : List Int} {f g : Fld} (n m : Int) (h : FarF f g) : setF (setF l f n) g m = setF (setF l g m) f n := by
  unfold setF
  rw [bits_back (k := l.length) (by rw [setR_length, ofBytes_length]), bits_back (k := l.length) (by rw [setR_length, ofBytes_length]), set_far h]
theorem setF_setF {l : List Int} {f : Fld} (n m : Int) : setF (setF l f n) f m = setF l f m := by
  unfold setF
  rw [bits_back (k := l.length) (by rw [setR_length, ofBytes_length]), set_set]
/-- Moved there and back. -/
theorem moved_back {l t : List Int} {f g : Fld} (hl : Byt l) (hg : g.fits t.length) (hw : f.wd = g.wd) : getF (setF t g (getF l f)) g = getF l f ∧ setF l f (getF (setF t g (getF l f)) g) = l := by
  have e := getF_setF (l := t) hg (getF_nonneg l f) (by rw [← hw]; exact getF_lt l f)
  exact ⟨e, by rw [e, setF_getF f hl]⟩

/-! without a bit in common: as the reference tells it -/
theorem num_zero {l : List Bool} : num l = 0 ↔ ∀ b ∈ l, b = false := by
  induction l using snoc_rec with
  | nil => simp [num]
  | snoc l x ih =>
    have h0 := num_nonneg l
    rw [num_snoc]
    constructor
    · intro h b hb
      cases x
      · simp at h
        rcases List.mem_append.1 hb with hb | hb
        · exact ih.1 (by omega) b hb
        · simpa using hb
      · simp at h; omega
    · intro h
      have hx := h x (by simp)
      subst hx
      have := ih.2 fun b hb => h b (by simp [hb])
      simp [this]
theorem ones_getD {w j : Nat} (h : j < w) : (bitsOf w (2 ^ w - 1)).getD j false = true := by
  have e : bitsOf w (2 ^ w - 1) = List.replicate w true := by
    have hn : num (List.replicate w true) = 2 ^ w - 1 := by
      clear h
      induction w with
      | zero => rfl
      | succ w ih =>
        rw [List.replicate_succ', num_snoc, ih, Int.pow_succ]
        simp
        omega
    have := bitsOf_num (List.replicate w true)
    rwa [List.length_replicate, hn] at this
  rw [e, List.getD_eq_getElem?_getD, List.getElem?_replicate, if_pos h]; rfl
theorem zeros_bits (k : Nat) : ofBytes (List.replicate k 0) = List.replicate (8 * k) false := by
  induction k with
  | zero => rfl
  | succ k ih => rw [List.replicate_succ, ofBytes_cons, ih, show bitsOf 8 0 = List.replicate 8 false by decide, List.replicate_append_replicate]; congr 1; omega
theorem far_iff {f g : Fld} {k : Nat} (hf : f.fits k) (hg : g.fits k) : getF (setF (List.replicate k 0) f (2 ^ f.wd - 1)) g = 0 ↔ FarF f g := by
  unfold getF
  rw [setF_bits, zeros_bits, num_zero]
  have hlen : (List.replicate (8 * k) false).length = 8 * k := by simp
  constructor
  · intro h i ⟨h1, h2⟩
    obtain ⟨j1, j2⟩ := on_at g h2
    obtain ⟨f1, _⟩ := on_at f h1
    have hi : i < 8 * k := by rw [← j2]; exact at_lt hg j1
    have := h _ (List.mem_map.2 ⟨g.ix i, List.mem_range.2 j1, rfl⟩)
    rw [j2, setR_getD (by rw [hlen]; exact hi), if_pos h1, ones_getD f1] at this
    cases this
  · intro h b hb
    obtain ⟨j, hj, rfl⟩ := List.mem_map.1 hb
    rw [List.mem_range] at hj
    rw [setR_getD (by rw [hlen]; exact at_lt hg hj), if_neg fun e => h _ ⟨e, (at_on g hj).1⟩, List.getD_eq_getElem?_getD, List.getElem?_replicate]
    split <;> rfl

/-! the reference's rows -/
def rowF (bg : Bool) (l : List Int) : List Bool := l.flatMap fun x => if bg = true then bitsOf 8 x else (bitsOf 8 x).reverse
theorem rowF_true (l : List Int) : rowF true l = ofBytes l := rfl
theorem rowF_snoc (bg : Bool) (l : List Int) (x : Int) : rowF bg (l ++ [x]) = rowF bg l ++ if bg = true then bitsOf 8 x else (bitsOf 8 x).reverse := by simp [rowF]
theorem rowF_length (bg : Bool) (l : List Int) : (rowF bg l).length = 8 * l.length := by
  induction l with
  | nil => rfl
  | cons x r ih =>
    rw [rowF, List.flatMap_cons, List.length_append, ← rowF, ih, List.length_cons]
    split <;> simp only [List.length_reverse, bitsOf_length] <;> omega
theorem rowF_getD : ∀ (l : List Int) (i : Nat), i < 8 * l.length → (rowF false l).getD i false = (ofBytes l).getD (turnB i) false
  | [], i, h => by simp at h
  | x :: l, i, h => by
    rw [rowF, List.flatMap_cons, ← rowF, ofBytes_cons]
    simp only [Bool.false_eq_true, if_false]
    have h8 : (bitsOf 8 x).length = 8 := bitsOf_length 8 x
    by_cases hi : i < 8
    · have ht : turnB i = 7 - i := by unfold turnB; omega
      rw [ht, List.getD_eq_getElem?_getD, List.getD_eq_getElem?_getD, List.getElem?_append_left (by rw [List.length_reverse, h8]; exact hi), List.getElem?_append_left (by rw [h8]; omega), List.getElem?_reverse (by rw [h8]; exact hi), h8]
    · rw [List.length_cons] at h
      have ih := rowF_getD l (i - 8) (by omega)
      have ht : turnB i = turnB (i - 8) + 8 := by unfold turnB; omega
      rw [List.getD_eq_getElem?_getD, List.getD_eq_getElem?_getD] at ih ⊢
      rw [List.getElem?_append_right (by rw [List.length_reverse, h8]; omega), List.length_reverse, h8, ih, ht, List.getElem?_append_right (by rw [h8]; omega), h8, Nat.add_sub_cancel]
theorem rowF_nb {l : List Int} {f : Fld} {i : Nat} (h : i < 8 * l.length) : (rowF f.bg l).getD i false = (ofBytes l).getD (f.nb i) false := by
  unfold Fld.nb
  cases hb : f.bg
  · exact rowF_getD l i h
  · rfl
theorem cut_getD {R : List Bool} {a n j : Nat} (h : j < n) : ((R.drop a).take n).getD j false = R.getD (a + j) false := by
  rw [List.getD_eq_getElem?_getD, List.getD_eq_getElem?_getD, List.getElem?_take, if_pos h, List.getElem?_drop]
/-- What the reference gets. -/
def refGet (l : List Int) (f : Fld) : Int := num (if f.bg = true then ((rowF f.bg l).drop f.fr).take f.wd else (((rowF f.bg l).drop f.fr).take f.wd).reverse)
theorem refGet_is {l : List Int} {f : Fld} (hf : f.fits l.length) : refGet l f = getF l f := by
  unfold refGet getF
  have hl : (((rowF f.bg l).drop f.fr).take f.wd).length = f.wd := by
    rw [List.length_take, List.length_drop, rowF_length]
    unfold Fld.fits at hf
    omega
  congr 1
  refine ext_getD (by rw [getR_length]; split <;> simp only [List.length_reverse, hl]) fun j hj => ?_
  have hjw : j < f.wd := by split at hj <;> simp only [List.length_reverse, hl] at hj <;> exact hj
  rw [getR_getD hjw]
  unfold Fld.fits at hf
  unfold Fld.at_
  split
  · rename_i hb
    rw [cut_getD hjw, rowF_nb (by omega)]
  · rename_i hb
    rw [List.getD_eq_getElem?_getD, List.getElem?_reverse (by rw [hl]; exact hjw), ← List.getD_eq_getElem?_getD, hl, cut_getD (by omega), rowF_nb (by omega), show f.fr + (f.wd - 1 - j) = f.fr + f.wd - 1 - j by omega]
/-- What the reference sets, in its own rows, and as bytes. -/
def refRow (R : List Bool) (f : Fld) (row : List Bool) : List Bool := R.take f.fr ++ (if f.bg = true then row else row.reverse) ++ R.drop (f.fr + f.wd)
def refSet (l : List Int) (f : Fld) (n : Int) : List Int := if f.bg = true then bytesOf (refRow (rowF f.bg l) f (bitsOf f.wd n)) else bytesOf (rowF false (bytesOf (refRow (rowF f.bg l) f (bitsOf f.wd n))))
theorem refRow_length {R row : List Bool} {f : Fld} {k : Nat} (hR : R.length = 8 * k) (hf : f.fits k) (hr : row.length = f.wd) : (refRow R f row).length = 8 * k := by
  unfold refRow
  unfold Fld.fits at hf
  rw [List.length_append, List.length_append, List.length_take, List.length_drop, hR]
  split <;> simp only [List.length_reverse, hr] <;> omega
theorem refRow_getD {R row : List Bool} {f : Fld} {k i : Nat} (hR : R.length = 8 * k) (hf : f.fits k) (hr : row.length = f.wd) (hi : i < 8 * k) : (refRow R f row).getD i false = if f.fr ≤ i ∧ i < f.fr + f.wd then row.getD (if f.bg = true then i - f.fr else f.fr + f.wd - 1 - i) false else R.getD i false := by
  unfold refRow
  unfold Fld.fits at hf
  have ht : (R.take f.fr).length = f.fr := by rw [List.length_take]; omega
  obtain ⟨Z, hZ⟩ : ∃ Z, Z = if f.bg = true then row else row.reverse := ⟨_, rfl⟩
  have hm : Z.length = f.wd := by rw [hZ]; split <;> simp only [List.length_reverse, hr]
  have hz : ∀ j, j < f.wd → Z.getD j false = row.getD (if f.bg = true then j else f.wd - 1 - j) false := fun j hj => by
    rw [hZ]
    split
    · rfl
    · rw [List.getD_eq_getElem?_getD, List.getD_eq_getElem?_getD, List.getElem?_reverse (by omega), hr]
  rw [← hZ]
  clear hZ
  by_cases h1 : i < f.fr
  · rw [if_neg (by omega)]
    simp only [List.getD_eq_getElem?_getD]
    rw [List.append_assoc, List.getElem?_append_left (by omega), List.getElem?_take, if_pos h1]
  · by_cases h2 : i < f.fr + f.wd
    · rw [if_pos ⟨by omega, h2⟩]
      have := hz (i - f.fr) (by omega)
      simp only [List.getD_eq_getElem?_getD] at this ⊢
      rw [List.append_assoc, List.getElem?_append_right (by omega), ht, List.getElem?_append_left (by omega), this]
      congr 2
      split
      · rfl
      · omega
    · rw [if_neg (by omega)]
      simp only [List.getD_eq_getElem?_getD]
      rw [List.getElem?_append_right (by rw [List.length_append]; omega), List.length_append, ht, hm, List.getElem?_drop, show f.fr + f.wd + (i - (f.fr + f.wd)) = i by omega]
theorem refSet_is {l : List Int} {f : Fld} (n : Int) (hf : f.fits l.length) : refSet l f n = setF l f n := by
  unfold refSet setF
  have hr := bitsOf_length f.wd n
  have hL := refRow_length (rowF_length f.bg l) hf hr
  have key : ∀ i, i < 8 * l.length → (refRow (rowF f.bg l) f (bitsOf f.wd n)).getD (f.nb i) false = (setR (ofBytes l) f (bitsOf f.wd n)).getD i false := fun i hi => by
    rw [refRow_getD (rowF_length f.bg l) hf hr (nb_lt f hi), setR_getD (by rw [ofBytes_length]; exact hi), rowF_nb (nb_lt f hi), nb_nb]
    rfl
  cases hb : f.bg
  · simp only [Bool.false_eq_true, if_false]
    rw [hb] at key hL
    congr 1
    have hB := bytes_len hL
    refine ext_getD (by rw [rowF_length, hB, setR_length, ofBytes_length]) fun i hi => ?_
    rw [rowF_length, hB] at hi
    rw [rowF_getD _ i (by rw [hB]; exact hi), bits_back hL, ← key i hi]
    unfold Fld.nb
    rw [hb]; rfl
  · simp only [if_true]
    rw [hb] at key hL
    congr 1
    refine ext_getD (by rw [hL, setR_length, ofBytes_length]) fun i hi => ?_
    rw [hL] at hi
    rw [← key i hi]
    unfold Fld.nb
    rw [hb]; rfl
/-- Bytes the other way round. -/
theorem turned {l : List Int} {from_ wide : Nat} (hw : from_ + wide ≤ l.length) : getF l ⟨8 * from_, 8 * wide, true⟩ = getF l.reverse ⟨8 * (l.length - from_ - wide), 8 * wide, false⟩ := by
  unfold getF
  congr 1
  refine ext_getD (by rw [getR_length, getR_length]) fun j hj => ?_
  rw [getR_length] at hj
  have hj' : j < 8 * wide := hj
  rw [getR_getD hj, getR_getD hj']
  have hbit : ∀ (m : List Int) (q : Nat), q < 8 * m.length → ∃ x, m[q / 8]? = some x ∧ (ofBytes m).getD q false = (bitsOf 8 x).getD (q % 8) false := by
    intro m
    induction m with
    | nil => intro q h; simp at h
    | cons x m ih =>
      intro q h
      rw [List.length_cons] at h
      rw [ofBytes_cons]
      have h8 := bitsOf_length 8 x
      simp only [List.getD_eq_getElem?_getD]
      by_cases hq : q < 8
      · refine ⟨x, by rw [show q / 8 = 0 by omega]; rfl, ?_⟩
        rw [List.getElem?_append_left (by omega), show q % 8 = q by omega]
      · obtain ⟨y, h1, h2⟩ := ih (q - 8) (by omega)
        refine ⟨y, by rw [show q / 8 = (q - 8) / 8 + 1 by omega, List.getElem?_cons_succ]; exact h1, ?_⟩
        simp only [List.getD_eq_getElem?_getD] at h2
        rw [List.getElem?_append_right (by omega), h8, h2, show (q - 8) % 8 = q % 8 by omega]
  have e1 : (⟨8 * from_, 8 * wide, true⟩ : Fld).at_ j = 8 * from_ + j := rfl
  have e2 : (⟨8 * (l.length - from_ - wide), 8 * wide, false⟩ : Fld).at_ j = turnB (8 * (l.length - from_ - wide) + 8 * wide - 1 - j) := rfl
  rw [e1, e2]
  obtain ⟨x, h1, h2⟩ := hbit l (8 * from_ + j) (by omega)
  have hq : turnB (8 * (l.length - from_ - wide) + 8 * wide - 1 - j) = 8 * (l.length - 1 - (8 * from_ + j) / 8) + j % 8 := by unfold turnB; omega
  obtain ⟨y, g1, g2⟩ := hbit l.reverse (8 * (l.length - 1 - (8 * from_ + j) / 8) + j % 8) (by rw [List.length_reverse]; omega)
  rw [hq, h2, g2]
  have hy : x = y := by
    rw [show (8 * (l.length - 1 - (8 * from_ + j) / 8) + j % 8) / 8 = l.length - 1 - (8 * from_ + j) / 8 by omega, List.getElem?_reverse (by omega), show l.length - 1 - (l.length - 1 - (8 * from_ + j) / 8) = (8 * from_ + j) / 8 by omega, h1] at g1
    injection g1
  rw [hy, show (8 * (l.length - 1 - (8 * from_ + j) / 8) + j % 8) % 8 = (8 * from_ + j) % 8 by omega]
end Go.Proofs.Ytldkmopkakdgnaa
