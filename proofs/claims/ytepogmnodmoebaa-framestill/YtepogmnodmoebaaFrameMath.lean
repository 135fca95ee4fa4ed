/-
  Frames on lists: the plain row of bits, the transmitted one, and what is read. No program here.
-/
import Derived.Test.YtepogmnodmoebaaBitMath
import Derived.Test.YtepogmnodmoebaaStuffMath2
import Derived.Test.YtepogmnodmoebaaCrcMath
namespace Go.Proofs.Ytepogmnodmoebaa

def FrameOk (id : Int) (n : Nat) : Prop := 0 ≤ id ∧ id ≤ 2047 ∧ n ≤ 8
instance (id : Int) (n : Nat) : Decidable (FrameOk id n) := by unfold FrameOk; infer_instance
def wrongM (id : Int) (n : Nat) : Int := if FrameOk id n then 0 else 2
/-- The plain row. -/
def rowM (id : Int) (l : List Int) : List Bool := false :: (bitsOf 11 id ++ (false :: false :: false :: (bitsOf 4 l.length ++ ofBytes l)))
def plainM (id : Int) (l : List Int) : List Bool := if FrameOk id l.length then rowM id l else []
def sentM (id : Int) (l : List Int) : List Bool := stuffM (sealM (rowM id l))
def writeM (id : Int) (l : List Int) : List Bool := if FrameOk id l.length then sentM id l else []
theorem wrong_ok {id : Int} {n : Nat} (h : FrameOk id n) : wrongM id n = 0 := if_pos h
theorem wrong_bad {id : Int} {n : Nat} (h : ¬ FrameOk id n) : wrongM id n = 2 := if_neg h
theorem plain_ok {id : Int} {l : List Int} (h : FrameOk id l.length) : plainM id l = rowM id l := if_pos h
theorem plain_bad {id : Int} {l : List Int} (h : ¬ FrameOk id l.length) : plainM id l = [] := if_neg h
theorem write_ok {id : Int} {l : List Int} (h : FrameOk id l.length) : writeM id l = sentM id l := if_pos h
theorem write_bad {id : Int} {l : List Int} (h : ¬ FrameOk id l.length) : writeM id l = [] := if_neg h
theorem row_length (id : Int) (l : List Int) : (rowM id l).length = 19 + 8 * l.length := by
  simp [rowM, bitsOf_length, ofBytes_length]; omega
theorem bits0_1 : bitsOf 1 0 = [false] := by decide
theorem bits0_3 : bitsOf 3 0 = [false, false, false] := by decide
theorem pack_row (id : Int) (n : Nat) (h : FrameOk id n) : packM [1, 11, 3, 4] [0, id, 0, (n : Int)] = (false :: (bitsOf 11 id ++ (false :: false :: false :: bitsOf 4 n)), 0) := by
  obtain ⟨h0, h1, h2⟩ := h
  have p1 : PutOk 1 0 := by unfold PutOk; decide
  have p2 : PutOk 11 id := ⟨by decide, by decide, h0, by simp; omega⟩
  have p3 : PutOk 3 0 := by unfold PutOk; decide
  have p4 : PutOk 4 n := ⟨by decide, by decide, by omega, by simp; omega⟩
  have := fin_nil_pack [1, 11, 3, 4] [0, id, 0, (n : Int)]
  rw [← this, fin_pack _ _ _ _ _ p1, fin_pack _ _ _ _ _ p2, fin_pack _ _ _ _ _ p3, fin_pack _ _ _ _ _ p4]
  simp [packM, fin, bits0_1, bits0_3]

/-- What is read of a plain row. -/
def parseM (p : List Bool) : (Int × List Int) × Int :=
  if p.length < 19 then ((0, []), 8)
  else if p[0]? = some true ∨ p[12]? = some true ∨ p[13]? = some true ∨ p[14]? = some true ∨ 8 < num ((p.drop 15).take 4) then ((0, []), 1)
  else if (p.length : Int) < 19 + 8 * num ((p.drop 15).take 4) then ((0, []), 8)
  else if 19 + 8 * num ((p.drop 15).take 4) < (p.length : Int) then ((0, []), 1)
  else ((num ((p.drop 1).take 11), bytesOf (p.drop 19)), 0)
def readM (b : List Bool) : (Int × List Int) × Int :=
  if (unstuffM b).2 ≠ 0 then ((0, []), (unstuffM b).2)
  else if (openM (unstuffM b).1).2 ≠ 0 then ((0, []), (openM (unstuffM b).1).2)
  else parseM (openM (unstuffM b).1).1
theorem read_sent (b p : List Bool) (h : unstuffM b = (sealM p, 0)) : readM b = parseM p := by
  unfold readM; rw [h]; simp [open_seal]

/-- A plain row of 19 bits and more, written out. -/
theorem row_split (p : List Bool) (h : 19 ≤ p.length) : ∃ (s : Bool) (i : List Bool) (x y z : Bool) (c d : List Bool), p = s :: (i ++ (x :: y :: z :: (c ++ d))) ∧ i.length = 11 ∧ c.length = 4 := by
  match p, h with
  | s :: t, h =>
    have e : t = t.take 11 ++ t.drop 11 := (List.take_append_drop 11 t).symm
    have hl : 7 ≤ (t.drop 11).length := by simp at h ⊢; omega
    generalize hq : t.drop 11 = q at *
    match q, hl with
    | x :: y :: z :: r, hl =>
      refine ⟨s, t.take 11, x, y, z, r.take 4, r.drop 4, ?_, ?_, ?_⟩
      · rw [List.take_append_drop, ← e]
      · have := congrArg List.length hq; simp at this h ⊢; omega
      · simp at hl ⊢; omega
section
variable {s x y z : Bool} {i c d : List Bool}
def rowOf (s : Bool) (i : List Bool) (x y z : Bool) (c d : List Bool) : List Bool := s :: (i ++ (x :: y :: z :: (c ++ d)))
theorem rowOf_length (hi : i.length = 11) (hc : c.length = 4) : (rowOf s i x y z c d).length = 19 + d.length := by simp [rowOf, hi, hc]; omega
theorem rowOf_0 : (rowOf s i x y z c d)[0]? = some s := rfl
theorem rowOf_12 (hi : i.length = 11) : (rowOf s i x y z c d)[12]? = some x := by
  unfold rowOf; rw [List.getElem?_cons_succ, List.getElem?_append_right (by omega), hi]; rfl
theorem rowOf_13 (hi : i.length = 11) : (rowOf s i x y z c d)[13]? = some y := by
  unfold rowOf; rw [List.getElem?_cons_succ, List.getElem?_append_right (by omega), hi]; rfl
theorem rowOf_14 (hi : i.length = 11) : (rowOf s i x y z c d)[14]? = some z := by
  unfold rowOf; rw [List.getElem?_cons_succ, List.getElem?_append_right (by omega), hi]; rfl
theorem rowOf_id (hi : i.length = 11) : ((rowOf s i x y z c d).drop 1).take 11 = i := by
  unfold rowOf; rw [List.drop_succ_cons, List.drop_zero, ← hi, List.take_left]
theorem rowOf_15 (hi : i.length = 11) : (rowOf s i x y z c d).drop 15 = c ++ d := by
  unfold rowOf; rw [List.drop_succ_cons, List.drop_append, hi, List.drop_eq_nil_of_le (by omega)]; rfl
theorem rowOf_c (hi : i.length = 11) (hc : c.length = 4) : ((rowOf s i x y z c d).drop 15).take 4 = c := by
  rw [rowOf_15 hi, ← hc, List.take_left]
theorem rowOf_19 (hi : i.length = 11) (hc : c.length = 4) : (rowOf s i x y z c d).drop 19 = d := by
  rw [show 19 = 15 + 4 from rfl, ← List.drop_drop, rowOf_15 hi, ← hc, List.drop_left]
theorem rowOf_header (hi : i.length = 11) (hc : c.length = 4) : (rowOf s i x y z c d).take 19 = rowOf s i x y z c [] := by
  have e : rowOf s i x y z c d = rowOf s i x y z c [] ++ d := by simp [rowOf]
  rw [e, ← show (rowOf s i x y z c []).length = 19 by rw [rowOf_length hi hc]; rfl, List.take_left]
theorem unpack_row (hi : i.length = 11) (hc : c.length = 4) : unpackM [1, 11, 3, 4] (rowOf s i x y z c []) = ([num [s], num i, num [x, y, z], num c], 0) := by
  have h1 : (0 : Int) ≤ 1 ∧ (1 : Int) ≤ 62 := by decide
  have h2 : (0 : Int) ≤ 11 ∧ (11 : Int) ≤ 62 := by decide
  have h3 : (0 : Int) ≤ 3 ∧ (3 : Int) ≤ 62 := by decide
  have h4 : (0 : Int) ≤ 4 ∧ (4 : Int) ≤ 62 := by decide
  have e1 : (rowOf s i x y z c []).take 1 = [s] := rfl
  have e2 : ((rowOf s i x y z c []).drop 1) = i ++ (x :: y :: z :: c) := by simp [rowOf]
  have e3 : (i ++ (x :: y :: z :: c)).take 11 = i := by rw [← hi, List.take_left]
  have e4 : (i ++ (x :: y :: z :: c)).drop 11 = x :: y :: z :: c := by rw [← hi, List.drop_left]
  have e5 : (x :: y :: z :: c).take 3 = [x, y, z] := rfl
  have e6 : (x :: y :: z :: c).drop 3 = c := rfl
  have e7 : c.take 4 = c := List.take_of_length_le (by omega)
  have e8 : c.drop 4 = [] := List.drop_eq_nil_of_le (by omega)
  rw [← fin_nil_unpack, fin_unpack _ _ _ _ h1 (by rw [rowOf_length hi hc]; simp), show (1 : Int).toNat = 1 from rfl, e1, e2,
    fin_unpack _ _ _ _ h2 (by simp [hi]), show (11 : Int).toNat = 11 from rfl, e3, e4,
    fin_unpack _ _ _ _ h3 (by simp), show (3 : Int).toNat = 3 from rfl, e5, e6,
    fin_unpack _ _ _ _ h4 (by simp [hc]), show (4 : Int).toNat = 4 from rfl, e7, e8]
  simp [unpackM, fin]
theorem parse_rowOf (hi : i.length = 11) (hc : c.length = 4) : parseM (rowOf s i x y z c d) =
    if s = true ∨ x = true ∨ y = true ∨ z = true ∨ 8 < num c then ((0, []), 1)
    else if (d.length : Int) < 8 * num c then ((0, []), 8) else if 8 * num c < (d.length : Int) then ((0, []), 1) else ((num i, bytesOf d), 0) := by
  unfold parseM
  rw [rowOf_length hi hc, rowOf_0, rowOf_12 hi, rowOf_13 hi, rowOf_14 hi, rowOf_c hi hc, rowOf_id hi, rowOf_19 hi hc, if_neg (by omega)]
  simp only [Option.some.injEq]
  by_cases h : s = true ∨ x = true ∨ y = true ∨ z = true ∨ 8 < num c
  · rw [if_pos h, if_pos h]
  · rw [if_neg h, if_neg h]
    by_cases h1 : (d.length : Int) < 8 * num c
    · rw [if_pos h1, if_pos (by omega)]
    · rw [if_neg h1, if_neg (by omega)]
      by_cases h2 : 8 * num c < (d.length : Int)
      · rw [if_pos h2, if_pos (by omega)]
      · rw [if_neg h2, if_neg (by omega)]
end
theorem num1 (s : Bool) : num [s] = if s then 1 else 0 := by cases s <;> rfl
theorem num3 (x y z : Bool) : num [x, y, z] ≠ 0 ↔ x = true ∨ y = true ∨ z = true := by cases x <;> cases y <;> cases z <;> decide
theorem row_rowOf (id : Int) (l : List Int) : rowM id l = rowOf false (bitsOf 11 id) false false false (bitsOf 4 l.length) (ofBytes l) := rfl

def Bytes8 (l : List Int) : Prop := ∀ x ∈ l, 0 ≤ x ∧ x < 256
theorem parse_row (id : Int) (l : List Int) (h : FrameOk id l.length) (hb : Bytes8 l) : parseM (rowM id l) = ((id, l), 0) := by
  obtain ⟨h0, h1, h2⟩ := h
  have e4 : num (bitsOf 4 (l.length : Int)) = l.length := num_bitsOf 4 _ (by omega) (by simp; omega)
  rw [row_rowOf, parse_rowOf (bitsOf_length _ _) (bitsOf_length _ _), e4, num_bitsOf 11 id h0 (by simp; omega), ofBytes_length, if_neg (by simp; omega), if_neg (by omega), if_neg (by omega), bytes_of_bits l hb]
theorem read_write (id : Int) (l : List Int) (h : FrameOk id l.length) (hb : Bytes8 l) : readM (sentM id l) = ((id, l), 0) := by
  unfold sentM
  rw [read_sent _ (rowM id l) (unstuff_stuff _), parse_row id l h hb]
theorem parse_err (p : List Bool) (h : (parseM p).2 ≠ 0) : (parseM p).1 = (0, []) := by
  unfold parseM at h ⊢
  split
  · rfl
  · split
    · rfl
    · split
      · rfl
      · split
        · rfl
        · rename_i h1 h2 h3 h4; rw [if_neg h1, if_neg h2, if_neg h3, if_neg h4] at h; simp at h
theorem read_err (b : List Bool) (h : (readM b).2 ≠ 0) : (readM b).1 = (0, []) := by
  unfold readM at h ⊢
  split
  · rfl
  · split
    · rfl
    · rename_i h1 h2; rw [if_neg h1, if_neg h2] at h; exact parse_err _ h
theorem bytesOf_len8 (k : Nat) : ∀ b : List Bool, b.length = 8 * k → (bytesOf b).length = k := by
  induction k with
  | zero => intro b hb; rw [List.eq_nil_of_length_eq_zero (l := b) (by omega), bytesOf_nil]; rfl
  | succ k ih => intro b hb; rw [bytesOf_ge b (by omega), List.length_cons, ih _ (by simp; omega)]
theorem bits_of_bytes8 (k : Nat) : ∀ b : List Bool, b.length = 8 * k → ofBytes (bytesOf b) = b := by
  intro b hb
  obtain ⟨j, hj, e⟩ := bits_of_bytes b
  have h1 := congrArg List.length e
  rw [ofBytes_length, bytesOf_len8 k b hb, List.length_append, List.length_replicate] at h1
  obtain rfl : j = 0 := by omega
  simpa using e
/-- What is read was written: the row itself. -/
theorem parse_ok (p : List Bool) (id : Int) (l : List Int) (h : parseM p = ((id, l), 0)) : FrameOk id l.length ∧ Bytes8 l ∧ rowM id l = p := by
  have h19 : 19 ≤ p.length := by
    by_cases h19 : p.length < 19
    · unfold parseM at h; rw [if_pos h19] at h; simp at h
    · omega
  obtain ⟨s, i, x, y, z, c, d, rfl, hi, hc⟩ := row_split p h19
  change parseM (rowOf s i x y z c d) = _ at h
  rw [parse_rowOf hi hc] at h
  by_cases h1 : s = true ∨ x = true ∨ y = true ∨ z = true ∨ 8 < num c
  · rw [if_pos h1] at h; simp at h
  rw [if_neg h1] at h
  by_cases h2 : (d.length : Int) < 8 * num c
  · rw [if_pos h2] at h; simp at h
  rw [if_neg h2] at h
  by_cases h3 : 8 * num c < (d.length : Int)
  · rw [if_pos h3] at h; simp at h
  rw [if_neg h3] at h
  simp only [Prod.mk.injEq, and_true] at h
  obtain ⟨rfl, rfl⟩ := h
  have hn := num_nonneg c
  have hid := num_lt i
  rw [hi] at hid
  have hid0 := num_nonneg i
  obtain ⟨k, hk⟩ := Int.eq_ofNat_of_zero_le hn
  have hdk : d.length = 8 * k := by omega
  have hlk := bytesOf_len8 k d hdk
  have hsx : s = false ∧ x = false ∧ y = false ∧ z = false ∧ ¬ 8 < num c := by simpa using h1
  obtain ⟨rfl, rfl, rfl, rfl, h8⟩ := hsx
  refine ⟨⟨hid0, by simp at hid; omega, by omega⟩, fun x hx => bytesOf_range d x hx, ?_⟩
  unfold rowM
  rw [hlk, ← hk, bits_of_bytes8 k d hdk]
  have e1 := bitsOf_num i
  have e2 := bitsOf_num c
  rw [hi] at e1
  rw [hc] at e2
  rw [e1, e2]
theorem write_read (b : List Bool) (id : Int) (l : List Int) (h : readM b = ((id, l), 0)) : FrameOk id l.length ∧ Bytes8 l ∧ sentM id l = b := by
  unfold readM at h
  by_cases h1 : (unstuffM b).2 ≠ 0
  · rw [if_pos h1] at h; simp at h; exact absurd h.2 h1
  rw [if_neg h1] at h
  by_cases h2 : (openM (unstuffM b).1).2 ≠ 0
  · rw [if_pos h2] at h; simp at h; exact absurd h.2 h2
  rw [if_neg h2] at h
  obtain ⟨g1, g2, g3⟩ := parse_ok _ _ _ h
  refine ⟨g1, g2, ?_⟩
  have e1 : unstuffM b = ((unstuffM b).1, 0) := Prod.ext rfl (by simpa using h1)
  have e2 : openM (unstuffM b).1 = ((openM (unstuffM b).1).1, 0) := Prod.ext rfl (by simpa using h2)
  unfold sentM
  rw [g3, seal_open _ _ e2, stuff_unstuff _ _ e1]
theorem sent_inj (id id' : Int) (l l' : List Int) (h : FrameOk id l.length) (h' : FrameOk id' l'.length) (hb : Bytes8 l) (hb' : Bytes8 l') : sentM id l = sentM id' l' ↔ (id = id' ∧ l = l') := by
  constructor
  · intro e
    have := read_write id l h hb
    rw [e, read_write id' l' h' hb'] at this
    simp at this
    exact ⟨this.1.symm, this.2.symm⟩
  · rintro ⟨rfl, rfl⟩; rfl
theorem sent_length (id : Int) (l : List Int) : 34 + 8 * l.length ≤ (sentM id l).length ∧ 4 * (sentM id l).length ≤ 5 * (34 + 8 * l.length) - 1 := by
  have := stuff_grows (sealM (rowM id l))
  rw [sealM_length, row_length] at this
  unfold sentM
  omega
theorem read_len (b : List Bool) : (readM b).1.2.length ≤ 8 := by
  rcases Int.decEq (readM b).2 0 with h | h
  · rw [read_err b h]; simp
  · have := write_read b (readM b).1.1 (readM b).1.2 (Prod.ext rfl h)
    exact this.1.2.2
theorem read_bytes (b : List Bool) : Bytes8 (readM b).1.2 := by
  rcases Int.decEq (readM b).2 0 with h | h
  · rw [read_err b h]; intro x hx; simp at hx
  · exact (write_read b (readM b).1.1 (readM b).1.2 (Prod.ext rfl h)).2.1
/-- One bit of the row that is sealed, turned. -/
theorem one_turned (X : List Bool) (k : Nat) (x : Bool) (hk : X[k]? = some x) (hX : crcM X = 0) (hl : 15 ≤ X.length) : openM (X.set k (!x)) = ([], 7) := by
  have hd : dif (X.set k (!x)) X = 1 := by
    clear hX hl
    induction X generalizing k with
    | nil => simp at hk
    | cons a t ih =>
      cases k with
      | zero =>
        simp at hk
        subst hk
        have e : ∀ t : List Bool, dif t t = 0 := by
          intro t
          induction t with
          | nil => rfl
          | cons b r ih => simp [dif, ih]
        simp [dif, e]
      | succ k =>
        rw [List.getElem?_cons_succ] at hk
        simp [dif, ih k hk]
  have := crc_odd X (X.set k (!x)) (by simp) hX (by rw [hd])
  unfold openM
  rw [if_neg (by simp; omega), if_pos this]
theorem read_turned (X : List Bool) (k : Nat) (x : Bool) (hk : X[k]? = some x) (hX : crcM X = 0) (hl : 15 ≤ X.length) : readM (stuffM (X.set k (!x))) = ((0, []), 7) := by
  unfold readM
  rw [unstuff_stuff]
  simp [one_turned X k x hk hX hl]
end Go.Proofs.Ytepogmnodmoebaa
