/-
  The checksum of 15 bits: the plain mathematics of chapter 3, without a program.
-/
import Derived.Test.YtllloipjaeljlaaBitMath
namespace Go.Proofs.Ytllloipjaeljlaa
open Go.RowKit
set_option linter.unusedVariables false

/-- One bit, a row of bits from a register s on, a row. -/
def crcStep (s : Nat) (b : Bool) : Nat := if decide (16384 ≤ s) != b then (2 * s % 32768) ^^^ 17817 else 2 * s % 32768
def crcFrom (s : Nat) (l : List Bool) : Nat := l.foldl crcStep s
def crcM (l : List Bool) : Nat := crcFrom 0 l
theorem crcFrom_nil (s : Nat) : crcFrom s [] = s := rfl
theorem crcFrom_cons (s : Nat) (b : Bool) (l : List Bool) : crcFrom s (b :: l) = crcFrom (crcStep s b) l := rfl
theorem crcFrom_append (s : Nat) (l r : List Bool) : crcFrom s (l ++ r) = crcFrom (crcFrom s l) r := List.foldl_append
theorem crcM_snoc (l : List Bool) (b : Bool) : crcM (l ++ [b]) = crcStep (crcM l) b := crcFrom_append 0 l [b]
theorem crcStep_lt (s : Nat) (b : Bool) : crcStep s b < 32768 := by
  have h : 2 * s % 32768 < 2 ^ 15 := Nat.mod_lt _ (by decide)
  unfold crcStep
  split
  · exact Nat.xor_lt_two_pow h (by decide)
  · exact h
theorem crcFrom_lt (l : List Bool) : ∀ s, s < 32768 → crcFrom s l < 32768 := by
  induction l with
  | nil => intro s h; exact h
  | cons b l ih => intro s h; rw [crcFrom_cons]; exact ih _ (crcStep_lt s b)
theorem crcM_lt (l : List Bool) : crcM l < 32768 := crcFrom_lt l 0 (by decide)
theorem top_bit (s : Nat) (h : s < 32768) : decide (16384 ≤ s) = s.testBit 14 := by
  rw [Nat.testBit_eq_decide_div_mod_eq, decide_eq_decide]; omega
def gen (b : Bool) : Nat := if b then 17817 else 0
theorem crcStep_eq (s : Nat) (b : Bool) (h : s < 32768) : crcStep s b = (2 * s % 32768) ^^^ gen (s.testBit 14 != b) := by
  rw [crcStep, top_bit s h, gen]; split <;> simp
theorem double_xor (s t : Nat) : 2 * (s ^^^ t) % 32768 = (2 * s % 32768) ^^^ (2 * t % 32768) := by
  have e : ∀ x : Nat, 2 * x % 32768 = x <<< 1 % 2 ^ 15 := fun x => by rw [Nat.shiftLeft_eq]; omega
  rw [e, e, e, Nat.shiftLeft_xor_distrib, Nat.xor_mod_two_pow]
/-- The step is linear. -/
theorem crcStep_xor (s t : Nat) (b c : Bool) (hs : s < 32768) (ht : t < 32768) : crcStep (s ^^^ t) (b != c) = crcStep s b ^^^ crcStep t c := by
  have hst : s ^^^ t < 32768 := Nat.xor_lt_two_pow (n := 15) hs ht
  rw [crcStep_eq _ _ hs, crcStep_eq _ _ ht, crcStep_eq _ _ hst, double_xor, Nat.testBit_xor]
  have hg : gen ((s.testBit 14 ^^ t.testBit 14) != (b != c)) = gen (s.testBit 14 != b) ^^^ gen (t.testBit 14 != c) := by
    cases s.testBit 14 <;> cases t.testBit 14 <;> cases b <;> cases c <;> rfl
  rw [hg]
  generalize 2 * s % 32768 = x
  generalize 2 * t % 32768 = y
  generalize gen (s.testBit 14 != b) = u
  generalize gen (t.testBit 14 != c) = v
  rw [Nat.xor_assoc, Nat.xor_assoc, ← Nat.xor_assoc y u v, ← Nat.xor_assoc u y v, Nat.xor_comm y u]
/-- The register that a row of at most 15 bits takes to 0: the row's own bits. -/
theorem crcFrom_zero (p : List Bool) : ∀ s, s < 32768 → p.length ≤ 15 → (crcFrom s p = 0 ↔ (s : Int) = num p * 2 ^ (15 - p.length)) := by
  induction p with
  | nil => intro s h _; simp [crcFrom, num]
  | cons b p ih =>
    intro s h hl
    rw [List.length_cons] at hl
    rw [crcFrom_cons, ih _ (crcStep_lt s b) (by omega), List.length_cons, num_cons]
    have e1 : (2 : Int) ^ (15 - p.length) = 2 * 2 ^ (14 - p.length) := by rw [show 15 - p.length = (14 - p.length) + 1 by omega, Int.pow_succ, Int.mul_comm]
    have e2 : 15 - (p.length + 1) = 14 - p.length := by omega
    have e3 : (2 : Int) ^ p.length * 2 ^ (14 - p.length) = 16384 := by rw [← Int.pow_add, show p.length + (14 - p.length) = 14 by omega]; rfl
    have hp : (0 : Int) < 2 ^ (14 - p.length) := Int.pow_pos (by omega)
    have h0 : 0 ≤ num p * 2 ^ (14 - p.length) := Int.mul_nonneg (num_nonneg p) (Int.le_of_lt hp)
    have h1 : num p * 2 ^ (14 - p.length) < 16384 := by rw [← e3]; exact Int.mul_lt_mul_of_pos_right (num_lt p) hp
    rw [e1, e2, Int.add_mul, ← Int.mul_assoc, Int.mul_comm (num p) 2, Int.mul_assoc]
    have e4 : (if b then (2 : Int) ^ p.length else 0) * 2 ^ (14 - p.length) = if b then 16384 else 0 := by cases b <;> simp [e3]
    rw [e4]
    generalize num p * 2 ^ (14 - p.length) = Y at *
    clear e1 e2 e3 e4 hp ih
    have hodd : ((2 * s % 32768) ^^^ 17817) % 2 = 1 := by
      have e := Nat.testBit_xor (2 * s % 32768) 17817 0
      simp only [Nat.testBit_zero] at e
      have e2 : decide (2 * s % 32768 % 2 = 1) = false := by rw [decide_eq_false_iff_not]; omega
      rw [e2] at e
      exact of_decide_eq_true (e.trans (by decide))
    unfold crcStep
    by_cases ht : 16384 ≤ s <;> cases b <;> simp [ht] <;> omega

/-- p mixed into the head of l, bit by bit. -/
def mix : List Bool → List Bool → List Bool
  | [], l => l
  | _ :: _, [] => []
  | p :: ps, x :: xs => (x != p) :: mix ps xs
theorem mix_length (p : List Bool) : ∀ l, (mix p l).length = l.length := by
  induction p with
  | nil => intro l; rfl
  | cons y p ih => intro l; cases l with
    | nil => rfl
    | cons x l => simp [mix, ih]
theorem mix_at (p : List Bool) : ∀ l j, p.length ≤ j → (mix p l)[j]? = l[j]? := by
  induction p with
  | nil => intro l j _; rfl
  | cons y p ih => intro l j h; cases l with
    | nil => rfl
    | cons x l =>
      obtain ⟨j, rfl⟩ : ∃ i, j = i + 1 := ⟨j - 1, by simp at h; omega⟩
      simp at h
      simp [mix, ih l j h]
theorem mix_snoc (p : List Bool) (y : Bool) : ∀ l x, l[p.length]? = some x → mix (p ++ [y]) l = (mix p l).set p.length (x != y) := by
  induction p with
  | nil => intro l x h; cases l with
    | nil => simp at h
    | cons z l => simp at h; subst h; rfl
  | cons z p ih => intro l x h; cases l with
    | nil => simp at h
    | cons u l => simp at h; simp [mix, ih l x h]
theorem mix_false (p : List Bool) : ∀ l, p.length < l.length → mix (p ++ [false]) l = mix p l := by
  induction p with
  | nil => intro l h; cases l with
    | nil => simp at h
    | cons z l => simp [mix]
  | cons z p ih => intro l h; cases l with
    | nil => simp at h
    | cons u l => simp at h; simp [mix, ih l h]
theorem mix_zeros (k : Nat) : ∀ l, mix (List.replicate k false) l = l := by
  induction k with
  | zero => intro l; rfl
  | succ k ih => intro l; cases l with
    | nil => rfl
    | cons x l => simp [List.replicate_succ, mix, ih]
theorem mix_self (p : List Bool) : mix p (List.replicate p.length false) = p := by
  induction p with
  | nil => rfl
  | cons x p ih => simp [List.replicate_succ, mix, ih]
theorem mix_mix (a : List Bool) : ∀ b l, a.length = b.length → mix a (mix b l) = mix (mix a b) l := by
  induction a with
  | nil => intro b l h; rw [List.eq_nil_of_length_eq_zero h.symm]; rfl
  | cons x a ih => intro b l h; cases b with
    | nil => simp at h
    | cons y b => cases l with
      | nil => rfl
      | cons z l =>
        simp at h
        simp only [mix, ih b l h]
        congr 1
        cases x <;> cases y <;> cases z <;> rfl
/-- The checksum of a row with bits turned. -/
theorem crcFrom_zeros (k : Nat) : crcFrom 0 (List.replicate k false) = 0 := by
  induction k with
  | zero => rfl
  | succ k ih => rw [List.replicate_succ, crcFrom_cons]; exact ih
theorem crcFrom_mix (e : List Bool) : ∀ l s t, s < 32768 → t < 32768 → e.length ≤ l.length → crcFrom (s ^^^ t) (mix e l) = crcFrom s l ^^^ crcFrom t (e ++ List.replicate (l.length - e.length) false) := by
  induction e with
  | nil =>
    intro l
    induction l with
    | nil => intro s t hs ht _; rfl
    | cons x l ih =>
      intro s t hs ht h
      have := ih (crcStep s x) (crcStep t false) (crcStep_lt _ _) (crcStep_lt _ _) (by simp)
      have e := crcStep_xor s t x false hs ht
      simp only [Bool.bne_false] at e
      simp only [mix, List.nil_append, List.length_nil, Nat.sub_zero, List.length_cons, List.replicate_succ, crcFrom_cons] at this ⊢
      rw [e]; exact this
  | cons y e ih =>
    intro l s t hs ht h
    cases l with
    | nil => simp at h
    | cons x l =>
      simp at h
      rw [mix, crcFrom_cons, crcFrom_cons, List.cons_append, crcFrom_cons, crcStep_xor s t x y hs ht, ih l _ _ (crcStep_lt _ _) (crcStep_lt _ _) h]
      simp
theorem crcM_mix (e l : List Bool) (h : e.length ≤ l.length) : crcM (mix e l) = crcM l ^^^ crcM (e ++ List.replicate (l.length - e.length) false) := by
  have := crcFrom_mix e l 0 0 (by decide) (by decide) h
  rw [Nat.xor_self] at this
  exact this
theorem crcFrom_ne (k : Nat) : ∀ s, s < 32768 → s ≠ 0 → crcFrom s (List.replicate k false) ≠ 0 := by
  induction k with
  | zero => intro s _ h; exact h
  | succ k ih =>
    intro s hs h
    rw [List.replicate_succ, crcFrom_cons]
    refine ih _ (crcStep_lt _ _) fun e => h ?_
    have := (crcFrom_zero [false] s hs (by decide)).1 e
    simpa [num] using this
/-- A burst of 15 bits is seen. -/
theorem crc_burst (l q : List Bool) (a : Nat) (hq : q.length = 15) (ha : a + 15 ≤ l.length) (hl : crcM l = 0) (hne : q ≠ List.replicate 15 false) : crcM (mix (List.replicate a false ++ q) l) ≠ 0 := by
  rw [crcM_mix _ _ (by simp [hq]; omega), hl, Nat.zero_xor, crcM, crcFrom_append, crcFrom_append, crcFrom_zeros]
  refine crcFrom_ne _ _ (crcFrom_lt _ _ (by decide)) fun e => hne ?_
  have h1 := (crcFrom_zero q 0 (by decide) (by omega)).1 e
  have h2 := bitsOf_num q
  rw [hq] at h1 h2
  simp only [Nat.sub_self, Int.pow_zero, Int.mul_one] at h1
  rw [← h1] at h2
  rw [← h2]
  decide
/-- Seal and Open. -/
def sealM (l : List Bool) : List Bool := l ++ bitsOf 15 (crcM l)
def openM (l : List Bool) : List Bool × Int := if l.length < 15 then ([], 8) else if crcM l ≠ 0 then ([], 7) else (l.take (l.length - 15), 0)
theorem sealM_length (l : List Bool) : (sealM l).length = l.length + 15 := by simp [sealM, bitsOf_length]
theorem openM_length (l : List Bool) : (openM l).1.length ≤ l.length := by
  unfold openM; split
  · simp
  · split <;> simp
theorem openM_err (l : List Bool) (h : (openM l).2 ≠ 0) : (openM l).1 = [] := by
  unfold openM at *; split
  · rfl
  · split
    · rfl
    · rename_i h1 h2; simp [h1, h2] at h
theorem crc_sealM (l : List Bool) : crcM (sealM l) = 0 := by
  have h := crcM_lt l
  rw [sealM, crcM, crcFrom_append]
  refine (crcFrom_zero _ _ (crcFrom_lt l 0 (by decide)) (by simp [bitsOf_length])).2 ?_
  rw [num_bitsOf 15 _ (by omega) (by simp; omega), bitsOf_length]
  simp [crcM]
theorem open_seal (l : List Bool) : openM (sealM l) = (l, 0) := by
  have h := sealM_length l
  rw [openM, if_neg (by omega), if_neg (by simp [crc_sealM]), h, Nat.add_sub_cancel, sealM, List.take_left]
theorem num_of_zero (l : List Bool) (h : 15 ≤ l.length) : crcM l = 0 ↔ (crcM (l.take (l.length - 15)) : Int) = num (l.drop (l.length - 15)) := by
  have hd : (l.drop (l.length - 15)).length = 15 := by simp; omega
  have e : crcM l = crcFrom (crcM (l.take (l.length - 15))) (l.drop (l.length - 15)) := by
    conv => lhs; rw [← List.take_append_drop (l.length - 15) l]
    exact crcFrom_append _ _ _
  rw [e, crcFrom_zero _ _ (crcM_lt _) (by omega), hd]
  simp
theorem seal_open (l u : List Bool) (h : openM l = (u, 0)) : sealM u = l := by
  unfold openM at h
  split at h
  · simp at h
  · split at h
    · simp at h
    · rename_i h1 h2
      have hu : u = l.take (l.length - 15) := by simpa using (congrArg Prod.fst h).symm
      have hd : (l.drop (l.length - 15)).length = 15 := by simp; omega
      have h3 := (num_of_zero l (by omega)).1 (by simpa using h2)
      have h4 := bitsOf_num (l.drop (l.length - 15))
      rw [hd, ← h3] at h4
      rw [hu, sealM, h4, List.take_append_drop]

/-- Long division: l by x^15 and the generator, its first m bits. -/
def divM : Nat → List Bool → List Bool
  | 0, l => l
  | _ + 1, [] => []
  | m + 1, x :: r => divM m (if x then mix (bitsOf 15 17817) r else r)
theorem eq_of_num {a b : List Bool} (hl : a.length = b.length) (h : num a = num b) : a = b := by
  rw [← bitsOf_num a, ← bitsOf_num b, hl, h]
theorem bitsOf_xor (k a b : Nat) : mix (bitsOf k a) (bitsOf k b) = bitsOf k ((a ^^^ b : Nat) : Int) := by
  have hd : ∀ (n w : Nat), decide ((n : Int) / 2 ^ w % 2 = 1) = n.testBit w := fun n w => by
    rw [Nat.testBit_eq_decide_div_mod_eq, decide_eq_decide]
    have e : (n : Int) / 2 ^ w = ((n / 2 ^ w : Nat) : Int) := by simp
    rw [e]; omega
  induction k with
  | zero => rfl
  | succ k ih =>
    simp only [bitsOf, mix, ih, hd, Nat.testBit_xor]
    congr 1
    cases a.testBit k <;> cases b.testBit k <;> rfl
theorem divM_crc (b : List Bool) : ∀ s : Nat, s < 32768 → divM b.length (mix (bitsOf 15 s) (b ++ List.replicate 15 false)) = bitsOf 15 (crcFrom s b) := by
  induction b with
  | nil =>
    intro s hs
    have := mix_self (bitsOf 15 (s : Int))
    rw [bitsOf_length] at this
    exact this
  | cons x b ih =>
    intro s hs
    rw [crcFrom_cons, ← ih _ (crcStep_lt s x), List.length_cons, List.cons_append, show bitsOf 15 (s : Int) = decide ((s : Int) / 2 ^ 14 % 2 = 1) :: bitsOf 14 s from rfl, mix, divM]
    congr 1
    have hr : 15 ≤ (b ++ List.replicate 15 false).length := by simp
    generalize b ++ List.replicate 15 false = r at *
    have e1 : mix (bitsOf 14 s) r = mix (bitsOf 15 ((2 * s % 32768 : Nat) : Int)) r := by
      rw [← mix_false _ r (by rw [bitsOf_length]; omega)]
      congr 1
      refine eq_of_num (by simp [bitsOf_length]) ?_
      rw [num_snoc, num_bitsOf_mod, num_bitsOf_mod]
      simp
      omega
    have e2 : decide ((s : Int) / 2 ^ 14 % 2 = 1) = decide (16384 ≤ s) := by rw [decide_eq_decide]; simp; omega
    rw [e2]
    unfold crcStep
    by_cases hx : (decide (16384 ≤ s) != x) = true
    · rw [if_pos hx, if_pos (by rw [← hx]; cases x <;> cases decide (16384 ≤ s) <;> rfl), e1, mix_mix _ _ _ (by simp [bitsOf_length]), Nat.xor_comm]
      exact congrArg (mix · r) (bitsOf_xor 15 17817 _)
    · rw [if_neg hx, if_neg (by intro h; apply hx; rw [← h]; cases x <;> cases decide (16384 ≤ s) <;> rfl), e1]
theorem divM_sum (b : List Bool) : divM b.length (b ++ List.replicate 15 false) = bitsOf 15 (crcM b) := by
  have := divM_crc b 0 (by decide)
  rw [show bitsOf 15 ((0 : Nat) : Int) = List.replicate 15 false by decide, mix_zeros] at this
  exact this
theorem divM_step (m : Nat) (x : Bool) (r : List Bool) : divM (m + 1) (x :: r) = divM m (if x then mix (bitsOf 15 17817) r else r) := rfl
theorem divM_nil (l : List Bool) : divM 0 l = l := by cases l <;> rfl

/-- Parity. -/
def parN : Nat → Nat → Bool
  | 0, _ => false
  | k + 1, n => n.testBit k != parN k n
def parL : List Bool → Bool
  | [] => false
  | x :: l => x != parL l
theorem parN_xor (k a b : Nat) : parN k (a ^^^ b) = (parN k a != parN k b) := by
  induction k with
  | zero => rfl
  | succ k ih =>
    simp only [parN, ih, Nat.testBit_xor]
    cases a.testBit k <;> cases b.testBit k <;> cases parN k a <;> cases parN k b <;> rfl
theorem parN_double (k n : Nat) : parN (k + 1) (2 * n) = parN k n := by
  induction k with
  | zero => simp [parN]
  | succ k ih =>
    rw [parN, ih, parN]
    congr 1
    rw [Nat.testBit_succ, Nat.mul_div_cancel_left _ (by decide)]
theorem parN_mod (k m n : Nat) (h : k ≤ m) : parN k (n % 2 ^ m) = parN k n := by
  induction k with
  | zero => rfl
  | succ k ih =>
    rw [parN, ih (by omega), parN, Nat.testBit_mod_two_pow]
    simp; omega
theorem parN_step (s : Nat) (b : Bool) (h : s < 32768) : parN 15 (crcStep s b) = (parN 15 s != b) := by
  rw [crcStep_eq s b h, parN_xor, show 2 * s % 32768 = 2 * s % 2 ^ 15 from rfl, parN_mod 15 15 _ (Nat.le_refl _), parN_double 14, show parN 15 s = (s.testBit 14 != parN 14 s) from rfl]
  have hg : ∀ c, parN 15 (gen c) = c := by decide
  rw [hg]
  cases s.testBit 14 <;> cases parN 14 s <;> cases b <;> rfl
theorem parN_crc (l : List Bool) : ∀ s, s < 32768 → parN 15 (crcFrom s l) = (parN 15 s != parL l) := by
  induction l with
  | nil => intro s _; simp [crcFrom, parL]
  | cons b l ih =>
    intro s hs
    rw [crcFrom_cons, ih _ (crcStep_lt _ _), parN_step s b hs, parL]
    cases parN 15 s <;> cases b <;> cases parL l <;> rfl
/-- In how many places two rows differ. -/
def dif : List Bool → List Bool → Nat
  | x :: a, y :: b => (if x != y then 1 else 0) + dif a b
  | _, _ => 0
theorem dif_snoc (a : List Bool) (x y : Bool) : ∀ b, a.length = b.length → dif (a ++ [x]) (b ++ [y]) = dif a b + if x != y then 1 else 0 := by
  induction a with
  | nil => intro b h; rw [List.eq_nil_of_length_eq_zero h.symm]; simp [dif]
  | cons u a ih => intro b h; cases b with
    | nil => simp at h
    | cons v b =>
      simp at h
      simp only [List.cons_append, dif, ih b h]
      omega
theorem dif_le (a : List Bool) : ∀ b, dif a b ≤ a.length := by
  induction a with
  | nil => intro b; simp [dif]
  | cons u a ih => intro b; cases b with
    | nil => simp [dif]
    | cons v b => have := ih b; simp only [dif, List.length_cons]; split <;> omega
theorem dif_par (a : List Bool) : ∀ b, a.length = b.length → parL a = (parL b != decide (dif a b % 2 = 1)) := by
  induction a with
  | nil => intro b h; rw [List.eq_nil_of_length_eq_zero h.symm]; rfl
  | cons u a ih => intro b h; cases b with
    | nil => simp at h
    | cons v b =>
      simp at h
      rw [parL, ih b h, parL, dif]
      have h2 : decide (((if u != v then 1 else 0) + dif a b) % 2 = 1) = ((u != v) != decide (dif a b % 2 = 1)) := by
        rcases Nat.mod_two_eq_zero_or_one (dif a b) with e | e <;> cases u <;> cases v <;> simp [e] <;> omega
      rw [h2]
      cases u <;> cases v <;> cases parL b <;> cases decide (dif a b % 2 = 1) <;> rfl
/-- An odd number of turned bits is seen. -/
theorem crc_odd (l x : List Bool) (h : x.length = l.length) (hl : crcM l = 0) (ho : dif x l % 2 = 1) : crcM x ≠ 0 := by
  intro hx
  have h1 := parN_crc l 0 (by decide)
  have h2 := parN_crc x 0 (by decide)
  rw [show crcFrom 0 l = 0 from hl, dif_par l l rfl] at h1
  rw [show crcFrom 0 x = 0 from hx, dif_par x l h, ho] at h2
  have h3 : parN 15 0 = false := by decide
  have h4 := parN_crc l 0 (by decide)
  rw [show crcFrom 0 l = 0 from hl] at h4
  rw [h3] at h2 h4
  simp at h2 h4
  rw [h2] at h4
  cases h4
end Go.Proofs.Ytllloipjaeljlaa
