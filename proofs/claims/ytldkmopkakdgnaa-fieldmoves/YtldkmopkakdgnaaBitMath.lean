/-
  Bits and numbers: the plain mathematics of chapter 1, without a program.
-/
import Derived.Test.YtldkmopkakdgnaaBase
namespace Go.Proofs.Ytldkmopkakdgnaa
open Go.RowKit
set_option maxRecDepth 20000
set_option linter.unusedVariables false

/-- The number that a row of bits stands for, the most significant bit first. -/
def num (l : List Bool) : Int := l.foldl (fun n b => 2 * n + if b then 1 else 0) 0
theorem num_snoc (l : List Bool) (b : Bool) : num (l ++ [b]) = 2 * num l + if b then 1 else 0 := by simp [num]
theorem num_nonneg (l : List Bool) : 0 ≤ num l :=
  snoc_rec (p := fun l => 0 ≤ num l) (by simp [num]) (fun l b ih => by rw [num_snoc]; split <;> omega) l
theorem num_lt (l : List Bool) : num l < 2 ^ l.length :=
  snoc_rec (p := fun l => num l < 2 ^ l.length) (by simp [num]) (fun l b ih => by rw [num_snoc, List.length_append]; simp only [List.length_singleton, Int.pow_succ]; split <;> omega) l
theorem num_take (l : List Bool) (k : Nat) (b : Bool) (h : l[k]? = some b) : num (l.take (k + 1)) = 2 * num (l.take k) + if b then 1 else 0 := by
  rw [take_snoc h]; exact num_snoc _ _
theorem pow_le_pow {a b : Nat} (h : a ≤ b) : (2 : Int) ^ a ≤ 2 ^ b := by exact_mod_cast Nat.pow_le_pow_right (by omega) h
theorem num_lt_of_le (l : List Bool) (k : Nat) (h : l.length ≤ k) : num l < 2 ^ k := Int.lt_of_lt_of_le (num_lt l) (pow_le_pow h)

/-- The bits of a number, the most significant of 'width' bits first. -/
def bitsOf : Nat → Int → List Bool
  | 0, _ => []
  | w + 1, n => decide (n / 2 ^ w % 2 = 1) :: bitsOf w n
theorem bitsOf_length (w : Nat) (n : Int) : (bitsOf w n).length = w := by
  induction w with
  | zero => rfl
  | succ w ih => simp [bitsOf, ih]
theorem bitsOf_cons (w : Nat) (n : Int) (h0 : 0 ≤ n) (h1 : n < 9223372036854775808) : (bits .and .i64 (n / 2 ^ w) 1 == 1) :: bitsOf w n = bitsOf (w + 1) n := by
  have hp : (1 : Int) ≤ 2 ^ w := pow_le_pow (a := 0) (Nat.zero_le _)
  have h2 : 0 ≤ n / 2 ^ w := Int.ediv_nonneg h0 (by omega)
  have h3 : n / 2 ^ w ≤ n := Int.ediv_le_self _ h0
  rw [i64_and_one _ h2 (by omega)]
  rfl
theorem num_cons (b : Bool) (l : List Bool) : num (b :: l) = (if b then 2 ^ l.length else 0) + num l :=
  snoc_rec (p := fun l => num (b :: l) = (if b then 2 ^ l.length else 0) + num l) (by simp [num]) (fun l x ih => by
    rw [← List.cons_append, num_snoc, ih, num_snoc, List.length_append, List.length_singleton, Int.pow_succ, Int.mul_add]
    cases b <;> simp <;> omega) l
theorem emod_two_mul (n a : Int) (ha : 0 < a) : n % (a * 2) = a * (n / a % 2) + n % a := by
  have e1 := Int.mul_ediv_add_emod n a
  have e2 := Int.mul_ediv_add_emod (n / a) 2
  have h1 := Int.emod_nonneg n (by omega : a ≠ 0)
  have h2 := Int.emod_lt_of_pos n ha
  have e3 : n = (a * (n / a % 2) + n % a) + (a * 2) * (n / a / 2) := by
    rw [Int.mul_assoc]
    have : a * (n / a % 2) + a * (2 * (n / a / 2)) = a * (n / a) := by rw [← Int.mul_add]; congr 1; omega
    omega
  have e4 : n % (a * 2) = (a * (n / a % 2) + n % a) % (a * 2) := by
    conv => lhs; rw [e3]
    exact Int.add_mul_emod_self_left _ _ _
  rw [e4]
  rcases Int.emod_two_eq (n / a) with h | h <;> rw [h] <;> apply Int.emod_eq_of_lt <;> omega
theorem num_bitsOf_mod (w : Nat) (n : Int) : num (bitsOf w n) = n % 2 ^ w := by
  induction w with
  | zero => simp [bitsOf, num]
  | succ w ih =>
    rw [bitsOf, num_cons, ih, bitsOf_length, Int.pow_succ]
    have hp : (0 : Int) < 2 ^ w := Int.pow_pos (by omega)
    rw [emod_two_mul _ _ hp]
    rcases Int.emod_two_eq (n / 2 ^ w) with h | h <;> simp [h]
theorem num_bitsOf (w : Nat) (n : Int) (h0 : 0 ≤ n) (h1 : n < 2 ^ w) : num (bitsOf w n) = n := by
  rw [num_bitsOf_mod w n, Int.emod_eq_of_lt h0 h1]
theorem num_append (p q : List Bool) : num (p ++ q) = num p * 2 ^ q.length + num q :=
  snoc_rec (p := fun q => num (p ++ q) = num p * 2 ^ q.length + num q) (by simp [num]) (fun q x ih => by
    rw [← List.append_assoc, num_snoc, ih, num_snoc, List.length_append, List.length_singleton, Int.pow_succ, Int.mul_add, Int.mul_comm 2 (num p * _), Int.mul_assoc]
    omega) q
/-- Where two rows of one length first differ, the greater number's bit is set. -/
theorem num_first (x y : List Bool) (k : Nat) (b b' : Bool) (hl : x.length = y.length) (ht : x.take k = y.take k) (hx : x[k]? = some b) (hy : y[k]? = some b') (hb : b ≠ b') : (b == decide (num y < num x)) = true := by
  have ex : x = x.take k ++ b :: x.drop (k + 1) := by rw [← drop_cons hx, List.take_append_drop]
  have ey : y = y.take k ++ b' :: y.drop (k + 1) := by rw [← drop_cons hy, List.take_append_drop]
  have hd : (x.drop (k + 1)).length = (y.drop (k + 1)).length := by simp [hl]
  have n1 : num x = num (x.take k) * 2 ^ ((x.drop (k + 1)).length + 1) + ((if b then 2 ^ (x.drop (k + 1)).length else 0) + num (x.drop (k + 1))) := by
    conv => lhs; rw [ex]
    rw [num_append, num_cons, List.length_cons]
  have n2 : num y = num (x.take k) * 2 ^ ((x.drop (k + 1)).length + 1) + ((if b' then 2 ^ (x.drop (k + 1)).length else 0) + num (y.drop (k + 1))) := by
    conv => lhs; rw [ey]
    rw [num_append, num_cons, List.length_cons, ht, hd]
  have h1 := num_nonneg (x.drop (k + 1))
  have h2 := num_nonneg (y.drop (k + 1))
  have h3 := num_lt (x.drop (k + 1))
  have h4 := num_lt (y.drop (k + 1))
  rw [← hd] at h4
  rw [n1, n2]
  clear n1 n2 ex ey hd hl ht hx hy
  generalize num (x.take k) * 2 ^ ((x.drop (k + 1)).length + 1) = P at *
  generalize (2 : Int) ^ (x.drop (k + 1)).length = Q at *
  generalize num (x.drop (k + 1)) = R at *
  generalize num (y.drop (k + 1)) = S at *
  cases b <;> cases b' <;> simp at hb ⊢ <;> omega
theorem bitsOf_num (l : List Bool) : bitsOf l.length (num l) = l := by
  have key : ∀ (l : List Bool) (k : Int), bitsOf l.length (num l + k * 2 ^ l.length) = l := by
    intro l
    induction l with
    | nil => intro k; rfl
    | cons b l ih =>
      intro k
      have hp : (0 : Int) < 2 ^ l.length := Int.pow_pos (by omega)
      have h0 := num_nonneg l
      have h1 := num_lt l
      have e : num (b :: l) + k * 2 ^ (l.length + 1) = num l + ((if b then 1 else 0) + k * 2) * 2 ^ l.length := by
        rw [num_cons, Int.pow_succ, Int.add_mul, Int.mul_assoc k 2, Int.mul_comm 2]
        cases b <;> simp <;> omega
      rw [List.length_cons, bitsOf, e, ih]
      congr 1
      rw [Int.add_mul_ediv_right _ _ (by omega), Int.ediv_eq_zero_of_lt h0 h1]
      cases b <;> simp <;> omega
  have := key l 0
  simpa using this
/-- The arguments that Put takes. -/
def PutOk (width n : Int) : Prop := 0 ≤ width ∧ width ≤ 62 ∧ 0 ≤ n ∧ n < 2 ^ width.toNat
instance (width n : Int) : Decidable (PutOk width n) := by unfold PutOk; exact inferInstance
/-- Put's and Get's results and errors. -/
def putM (width n : Int) : List Bool × Int := if PutOk width n then (bitsOf width.toNat n, 0) else ([], 2)
def getM (b : List Bool) : Int × Int := if b.length ≤ 62 then (num b, 0) else (0, 2)
theorem putM_ok {width n : Int} (h : PutOk width n) : putM width n = (bitsOf width.toNat n, 0) := if_pos h
theorem putM_bad {width n : Int} (h : ¬ PutOk width n) : putM width n = ([], 2) := if_neg h
theorem putM_len (width n : Int) : (putM width n).1.length ≤ 62 := by
  by_cases h : PutOk width n
  · rw [putM_ok h]; simp only [bitsOf_length]; have := h.1; have := h.2.1; omega
  · rw [putM_bad h]; simp
theorem bitsOf_ref (w : Nat) (n : Int) : decide (n / 2 ^ w % 2 = 1) :: bitsOf w n = bitsOf (w + 1) n := rfl

/-- The bits of bytes. -/
def ofBytes (l : List Int) : List Bool := l.flatMap (bitsOf 8)
theorem ofBytes_snoc (l : List Int) (x : Int) : ofBytes (l ++ [x]) = ofBytes l ++ bitsOf 8 x := by simp [ofBytes]
theorem ofBytes_length (l : List Int) : (ofBytes l).length = 8 * l.length := by
  induction l with
  | nil => rfl
  | cons x r ih => simp [ofBytes, bitsOf_length] at *; omega

/-- The bytes of bits, the last one completed with zeros. -/
def bytesOf (b : List Bool) : List Int :=
  if 8 ≤ b.length then num (b.take 8) :: bytesOf (b.drop 8) else if b = [] then [] else [num b * 2 ^ (8 - b.length)]
termination_by b.length
decreasing_by simp; omega
theorem bytesOf_ge (b : List Bool) (h : 8 ≤ b.length) : bytesOf b = num (b.take 8) :: bytesOf (b.drop 8) := by rw [bytesOf, if_pos h]
theorem bytesOf_nil : bytesOf [] = [] := by rw [bytesOf]; simp
theorem bytesOf_lt (b : List Bool) (h : b.length < 8) (h0 : 0 < b.length) : bytesOf b = [num b * 2 ^ (8 - b.length)] := by
  rw [bytesOf, if_neg (by omega), if_neg (by intro e; subst e; simp at h0)]
theorem bytesOf_length (b : List Bool) : (bytesOf b).length ≤ b.length := by
  generalize hn : b.length = n
  induction n using Nat.strongRecOn generalizing b with
  | ind n ih =>
    subst hn
    by_cases h : 8 ≤ b.length
    · rw [bytesOf_ge b h, List.length_cons]
      have := ih (b.drop 8).length (by simp; omega) (b.drop 8) rfl
      simp at this; omega
    · rcases Nat.eq_zero_or_pos b.length with h0 | h0
      · rw [List.eq_nil_of_length_eq_zero h0, bytesOf_nil]; exact Nat.le_refl _
      · rw [bytesOf_lt b (by omega) h0]; simp; omega
theorem num_pad (b : List Bool) (k : Nat) : num (b ++ List.replicate k false) = num b * 2 ^ k := by
  induction k with
  | zero => simp
  | succ k ih => rw [List.replicate_succ', ← List.append_assoc, num_snoc, ih, Int.pow_succ]; simp; rw [Int.mul_comm 2, Int.mul_assoc]
theorem bytesOf_step (r : List Bool) (h : 0 < r.length) : bytesOf r = num (r.take 8 ++ List.replicate (8 - (r.take 8).length) false) :: bytesOf (r.drop 8) := by
  by_cases h8 : 8 ≤ r.length
  · rw [bytesOf_ge r h8, show 8 - (r.take 8).length = 0 by simp; omega]; simp
  · rw [bytesOf_lt r (by omega) h, num_pad, List.take_of_length_le (by omega), List.drop_eq_nil_of_le (by omega), bytesOf_nil]
/-- The reference's sum: what the first k bits stand for among n. -/
theorem num_hi (l : List Bool) (n k : Nat) (b : Bool) (hk : k < n) (h : l[k]? = some b) : num (l.take (k + 1)) * 2 ^ (n - (k + 1)) = num (l.take k) * 2 ^ (n - k) + if b then 2 ^ (n - 1 - k) else 0 := by
  rw [num_take l k b h, show n - k = (n - (k + 1)) + 1 by omega, show n - 1 - k = n - (k + 1) by omega, Int.pow_succ, Int.add_mul, Int.mul_comm 2 (num _), Int.mul_assoc, Int.mul_comm (2 ^ _) 2]
  congr 1
  split <;> simp
theorem num_hi_le (l : List Bool) (n k : Nat) (hk : k < n) (hl : l.length = n) (hn : n ≤ 62) : 0 ≤ num (l.take k) * 2 ^ (n - k) ∧ num (l.take k) * 2 ^ (n - k) + 2 ^ (n - 1 - k) ≤ 4611686018427387904 := by
  have h0 := num_nonneg (l.take k)
  have h1 : num (l.take k) < 2 ^ k := num_lt_of_le _ _ (by simp; omega)
  have hp : (0 : Int) < 2 ^ (n - k) := Int.pow_pos (by omega)
  refine ⟨Int.mul_nonneg h0 (by omega), ?_⟩
  have h2 : num (l.take k) * 2 ^ (n - k) ≤ (2 ^ k - 1) * 2 ^ (n - k) := Int.mul_le_mul_of_nonneg_right (by omega) (by omega)
  have h3 : (2 : Int) ^ k * 2 ^ (n - k) = 2 ^ n := by rw [← Int.pow_add]; congr 1; omega
  have h4 : (2 : Int) ^ n ≤ 2 ^ 62 := pow_le_pow hn
  have h5 : (2 : Int) ^ (n - 1 - k) ≤ 2 ^ (n - k) := pow_le_pow (by omega)
  rw [Int.sub_mul, h3] at h2
  omega

/-- Pack and Unpack of equal lengths: the result and the error's number. -/
def packM : List Int → List Int → List Bool × Int
  | w :: ws, n :: ns => if PutOk w n then (let r := packM ws ns; if r.2 = 0 then (bitsOf w.toNat n ++ r.1, 0) else ([], r.2)) else ([], 2)
  | _, _ => ([], 0)
def unpackM : List Int → List Bool → List Int × Int
  | [], b => if b = [] then ([], 0) else ([], 1)
  | w :: ws, b => if ¬ (0 ≤ w ∧ w ≤ 62) then ([], 2) else if b.length < w.toNat then ([], 8) else
      (let r := unpackM ws (b.drop w.toNat); if r.2 = 0 then (num (b.take w.toNat) :: r.1, 0) else ([], r.2))
/-- What was gathered, and what is still to come. -/
def fin {α : Type} (acc : List α) (r : List α × Int) : List α × Int := if r.2 = 0 then (acc ++ r.1, 0) else ([], r.2)
theorem pack_err : ∀ ws ns, (packM ws ns).2 ≠ 0 → (packM ws ns).1 = [] := by
  intro ws
  induction ws with
  | nil => intro ns h; simp [packM]
  | cons w ws ih =>
    intro ns h
    cases ns with
    | nil => simp [packM]
    | cons n ns =>
      simp only [packM] at h ⊢
      split
      · rename_i hp
        simp only [if_pos hp] at h
        split
        · rename_i h2; simp [h2] at h
        · rfl
      · rfl
theorem fin_nil_pack (ws ns : List Int) : fin [] (packM ws ns) = packM ws ns := by
  unfold fin
  split
  · rename_i h; exact Prod.ext rfl h.symm
  · rename_i h; exact Prod.ext (pack_err ws ns h).symm rfl
theorem fin_nil_unpack (ws : List Int) (b : List Bool) : fin [] (unpackM ws b) = unpackM ws b := by
  have : ∀ ws b, (unpackM ws b).2 ≠ 0 → (unpackM ws b).1 = [] := by
    intro ws
    induction ws with
    | nil => intro b h; simp only [unpackM]; split <;> rfl
    | cons w ws ih =>
      intro b h
      simp only [unpackM] at h ⊢
      split
      · rfl
      · rename_i h1
        rw [if_neg h1] at h
        split
        · rfl
        · rename_i h2
          rw [if_neg h2] at h
          split
          · rename_i h3; simp [h3] at h
          · rfl
  unfold fin
  split
  · rename_i h; exact Prod.ext rfl h.symm
  · rename_i h; exact Prod.ext (this ws b h).symm rfl
theorem fin_pack (acc : List Bool) (w n : Int) (ws ns : List Int) (h : PutOk w n) : fin acc (packM (w :: ws) (n :: ns)) = fin (acc ++ bitsOf w.toNat n) (packM ws ns) := by
  simp only [packM, if_pos h, fin]
  by_cases hr : (packM ws ns).2 = 0 <;> simp [hr]
theorem fin_pack_bad (acc : List Bool) (w n : Int) (ws ns : List Int) (h : ¬ PutOk w n) : fin acc (packM (w :: ws) (n :: ns)) = ([], 2) := by
  simp [packM, if_neg h, fin]
theorem fin_unpack_range (acc : List Int) (w : Int) (ws : List Int) (b : List Bool) (h : ¬ (0 ≤ w ∧ w ≤ 62)) : fin acc (unpackM (w :: ws) b) = ([], 2) := by
  simp only [unpackM, if_pos h, fin]
  rfl
theorem fin_unpack_short (acc : List Int) (w : Int) (ws : List Int) (b : List Bool) (h : 0 ≤ w ∧ w ≤ 62) (h2 : b.length < w.toNat) : fin acc (unpackM (w :: ws) b) = ([], 8) := by
  simp only [unpackM, h, fin, if_pos h2]
  rfl
theorem fin_unpack (acc : List Int) (w : Int) (ws : List Int) (b : List Bool) (h : 0 ≤ w ∧ w ≤ 62) (h2 : w.toNat ≤ b.length) : fin acc (unpackM (w :: ws) b) = fin (acc ++ [num (b.take w.toNat)]) (unpackM ws (b.drop w.toNat)) := by
  simp only [unpackM, h, fin, if_neg (Nat.not_lt.2 h2)]
  by_cases hr : (unpackM ws (b.drop w.toNat)).2 = 0 <;> simp [hr]
theorem ofBytes_cons (x : Int) (l : List Int) : ofBytes (x :: l) = bitsOf 8 x ++ ofBytes l := by simp [ofBytes]
theorem bytes_of_bits (l : List Int) (h : ∀ x ∈ l, 0 ≤ x ∧ x < 256) : bytesOf (ofBytes l) = l := by
  induction l with
  | nil => simp [ofBytes, bytesOf_nil]
  | cons x l ih =>
    have hl := bitsOf_length 8 x
    obtain ⟨h0, h1⟩ := h x (by simp)
    rw [ofBytes_cons, bytesOf_ge _ (by simp [hl]), List.take_left' hl, List.drop_left' hl, ih (fun y hy => h y (by simp [hy])), num_bitsOf 8 x h0 (by omega)]
theorem bits_of_bytes (b : List Bool) : ∃ k, k < 8 ∧ ofBytes (bytesOf b) = b ++ List.replicate k false := by
  generalize hn : b.length = n
  induction n using Nat.strongRecOn generalizing b with
  | ind n ih =>
    subst hn
    by_cases h : 8 ≤ b.length
    · obtain ⟨k, hk, e⟩ := ih (b.drop 8).length (by simp; omega) (b.drop 8) rfl
      refine ⟨k, hk, ?_⟩
      have hb := bitsOf_num (b.take 8)
      rw [show (b.take 8).length = 8 by simp; omega] at hb
      rw [bytesOf_ge b h, ofBytes_cons, e, hb, ← List.append_assoc, List.take_append_drop]
    · rcases Nat.eq_zero_or_pos b.length with h0 | h0
      · refine ⟨0, by omega, ?_⟩
        rw [List.eq_nil_of_length_eq_zero h0, bytesOf_nil]; rfl
      · refine ⟨8 - b.length, by omega, ?_⟩
        have hb := bitsOf_num (b ++ List.replicate (8 - b.length) false)
        rw [show (b ++ List.replicate (8 - b.length) false).length = 8 by simp; omega, num_pad] at hb
        rw [bytesOf_lt b (by omega) h0, ofBytes_cons, hb]
        simp [ofBytes]
theorem bytesOf_range (b : List Bool) : ∀ x ∈ bytesOf b, 0 ≤ x ∧ x < 256 := by
  generalize hn : b.length = n
  induction n using Nat.strongRecOn generalizing b with
  | ind n ih =>
    subst hn
    by_cases h : 8 ≤ b.length
    · rw [bytesOf_ge b h]
      intro x hx
      rcases List.mem_cons.1 hx with e | e
      · subst e
        exact ⟨num_nonneg _, num_lt_of_le _ 8 (by simp; omega)⟩
      · exact ih (b.drop 8).length (by simp; omega) (b.drop 8) rfl x e
    · rcases Nat.eq_zero_or_pos b.length with h0 | h0
      · rw [List.eq_nil_of_length_eq_zero h0, bytesOf_nil]; intro x hx; simp at hx
      · rw [bytesOf_lt b (by omega) h0, ← num_pad]
        intro x hx
        simp at hx
        subst hx
        exact ⟨num_nonneg _, num_lt_of_le _ 8 (by simp; omega)⟩
theorem packM_cons {w n : Int} {ws ns : List Int} {l : List Bool} (h : packM (w :: ws) (n :: ns) = (l, 0)) : PutOk w n ∧ ∃ l', packM ws ns = (l', 0) ∧ l = bitsOf w.toNat n ++ l' := by
  simp only [packM] at h
  by_cases hp : PutOk w n
  · rw [if_pos hp] at h
    by_cases hr : (packM ws ns).2 = 0
    · rw [if_pos hr] at h
      injection h with h _
      exact ⟨hp, (packM ws ns).1, Prod.ext rfl hr, h.symm⟩
    · rw [if_neg hr] at h
      injection h with _ h
      exact absurd h hr
  · rw [if_neg hp] at h
    injection h with _ h
    exact absurd h (by decide)
theorem packM_len : ∀ (ws ns : List Int) (l : List Bool), packM ws ns = (l, 0) → l.length ≤ 62 * ws.length := by
  intro ws
  induction ws with
  | nil => intro ns l h; simp [packM] at h; subst h; simp
  | cons w ws ih =>
    intro ns l h
    cases ns with
    | nil => simp [packM] at h; subst h; simp
    | cons n ns =>
      obtain ⟨hp, l', h', rfl⟩ := packM_cons h
      have := ih ns l' h'
      have h1 := hp.1
      have h2 := hp.2.1
      simp [bitsOf_length]
      omega
theorem unpackM_cons (w : Int) (ws : List Int) (b : List Bool) (h : 0 ≤ w ∧ w ≤ 62) (h2 : w.toNat ≤ b.length) : unpackM (w :: ws) b = (let r := unpackM ws (b.drop w.toNat); if r.2 = 0 then (num (b.take w.toNat) :: r.1, 0) else ([], r.2)) := by
  simp only [unpackM, h, if_neg (Nat.not_lt.2 h2)]
  rfl
theorem unpackM_len : ∀ (ws : List Int) (b : List Bool), (unpackM ws b).1.length ≤ ws.length := by
  intro ws
  induction ws with
  | nil => intro b; simp only [unpackM]; split <;> simp
  | cons w ws ih =>
    intro b
    simp only [unpackM]
    split
    · simp
    · split
      · simp
      · have := ih (b.drop w.toNat)
        split <;> simp <;> omega
theorem unpack_ext (x : List Bool) : ∀ (ws ns : List Int) (l : List Bool), ws.length = ns.length → packM ws ns = (l, 0) → unpackM ws (l ++ x) = if x = [] then (ns, 0) else ([], 1) := by
  intro ws
  induction ws with
  | nil =>
    intro ns l hl h
    obtain rfl : ns = [] := List.eq_nil_of_length_eq_zero (by simpa using hl.symm)
    simp [packM] at h
    subst h
    by_cases hx : x = [] <;> simp [unpackM, hx]
  | cons w ws ih =>
    intro ns l hl h
    cases ns with
    | nil => simp at hl
    | cons n ns =>
      obtain ⟨hp, l', h', rfl⟩ := packM_cons h
      have hb := bitsOf_length w.toNat n
      have i := ih ns l' (by simpa using hl) h'
      rw [unpackM_cons w ws _ ⟨hp.1, hp.2.1⟩ (by simp [hb])]
      have hd : (bitsOf w.toNat n ++ l' ++ x).drop w.toNat = l' ++ x := by rw [List.append_assoc]; exact List.drop_left' hb
      have ht : (bitsOf w.toNat n ++ l' ++ x).take w.toNat = bitsOf w.toNat n := by rw [List.append_assoc]; exact List.take_left' hb
      rw [hd, ht, i, num_bitsOf _ _ hp.2.2.1 hp.2.2.2]
      by_cases hx : x = [] <;> simp [hx]
theorem unpack_cut : ∀ (ws ns : List Int) (l : List Bool), ws.length = ns.length → packM ws ns = (l, 0) → l ≠ [] → unpackM ws (l.take (l.length - 1)) = ([], 8) := by
  intro ws
  induction ws with
  | nil =>
    intro ns l hl h h0
    simp [packM] at h
    exact absurd h h0
  | cons w ws ih =>
    intro ns l hl h h0
    cases ns with
    | nil => simp at hl
    | cons n ns =>
      obtain ⟨hp, l', h', rfl⟩ := packM_cons h
      have hb := bitsOf_length w.toNat n
      by_cases hl' : l' = []
      · subst hl'
        rw [List.append_nil] at h0 ⊢
        have h1 : w.toNat ≠ 0 := fun e => by rw [e] at h0; exact h0 rfl
        simp only [unpackM, hp.1, hp.2.1, hb]
        rw [if_neg (by simp), if_pos (by simp [hb]; omega)]
      · have i := ih ns l' (by simpa using hl) h' hl'
        have hpos : 0 < l'.length := List.length_pos_iff.2 hl'
        have e : (bitsOf w.toNat n ++ l').take ((bitsOf w.toNat n ++ l').length - 1) = bitsOf w.toNat n ++ l'.take (l'.length - 1) := by
          rw [List.length_append, hb, List.take_append, hb, List.take_of_length_le (by omega)]
          congr 2
          omega
        rw [e, unpackM_cons w ws _ ⟨hp.1, hp.2.1⟩ (by simp [hb])]
        rw [List.drop_left' hb, i]
        rfl
end Go.Proofs.Ytldkmopkakdgnaa
