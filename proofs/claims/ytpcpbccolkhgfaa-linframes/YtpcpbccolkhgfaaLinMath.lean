/-
  Protected identifiers, sums with carry and the frames of chapter 7: the plain mathematics, without a program.
-/
import Derived.Test.YtpcpbccolkhgfaaBitMath
import Derived.Lib.BitFns
namespace Go.Proofs.Ytpcpbccolkhgfaa
open Go.RowKit
set_option linter.unusedVariables false

/-- Whether an odd number of bits is set. -/
def oddM (x : Int) : Bool := decide ((Lib.onesCount x.toNat : Int) % 2 = 1)
/-- The protected identifier of an identifier. -/
def guardM (id : Int) : Int :=
  if oddM (bits .and .u8 id 58) then (if oddM (bits .and .u8 id 23) then bits .or .u8 id 64 else id)
  else bits .or .u8 (if oddM (bits .and .u8 id 23) then bits .or .u8 id 64 else id) 128
/-- The lowest six bits. -/
def lowM (b : Int) : Int := bits .and .u8 b 63
def numberM (b : Int) : Int × Int := if b = guardM (lowM b) then (lowM b, 0) else (0, 7)
def IdOk (id : Int) : Prop := 0 ≤ id ∧ id ≤ 63
instance (id : Int) : Decidable (IdOk id) := inferInstanceAs (Decidable (_ ∧ _))
def guardV (id : Int) : Int × Int := if IdOk id then (guardM id, 0) else (0, 2)
/-- How many of the bits of b (the highest of six first) that l names are set. -/
def cntM (b : List Bool) (l : List Int) : Int := l.foldl (fun n k => if b[(5 - k).toNat]? = some true then n + 1 else n) 0
theorem cntM_snoc (b : List Bool) (l : List Int) (k : Int) : cntM b (l ++ [k]) = if b[(5 - k).toNat]? = some true then cntM b l + 1 else cntM b l := by simp [cntM]
theorem cntM_le (b : List Bool) (l : List Int) : 0 ≤ cntM b l ∧ cntM b l ≤ l.length :=
  snoc_rec (p := fun l => 0 ≤ cntM b l ∧ cntM b l ≤ l.length) (by simp [cntM]) (fun l k ih => by rw [cntM_snoc, List.length_append]; simp only [List.length_singleton]; split <;> omega) l

theorem guard_all : ∀ k : Fin 64, 0 ≤ guardM (k.val : Int) ∧ guardM (k.val : Int) < 256 ∧ lowM (guardM (k.val : Int)) = (k.val : Int) := by decide +kernel
theorem guard_ref_all : ∀ k : Fin 64, (let a := cntM (bitsOf 6 (k.val : Int)) [0, 1, 2, 4] % 2; let b := cntM (bitsOf 6 (k.val : Int)) [1, 3, 4, 5] % 2;
    ((k.val : Int) + (if a = 1 then 64 else 0)) + (if b = 0 then 128 else 0) = guardM (k.val : Int)) := by decide +kernel
theorem low_all : ∀ k : Fin 256, 0 ≤ lowM (k.val : Int) ∧ lowM (k.val : Int) ≤ 63 := by decide +kernel
theorem flip_all : ∀ k : Fin 64, ∀ j : Fin 8, (numberM (bits .xor .u8 (guardM (k.val : Int)) (2 ^ j.val))).2 = 7 := by decide +kernel
theorem and_all : ∀ k : Fin 64, (0 ≤ bits .and .u8 (k.val : Int) 23 ∧ bits .and .u8 (k.val : Int) 23 ≤ 255) ∧ (0 ≤ bits .and .u8 (k.val : Int) 58 ∧ bits .and .u8 (k.val : Int) 58 ≤ 255) := by decide +kernel

theorem ofFin {n : Nat} {p : Int → Prop} (h : ∀ k : Fin n, p (k.val : Int)) (x : Int) (h0 : 0 ≤ x) (h1 : x < n) : p x := by
  have := h ⟨x.toNat, by omega⟩
  simpa [Int.toNat_of_nonneg h0] using this
section
variable {id : Int} (h : IdOk id)
include h
theorem guard_range : 0 ≤ guardM id ∧ guardM id < 256 ∧ lowM (guardM id) = id := ofFin (n := 64) (p := fun id => 0 ≤ guardM id ∧ guardM id < 256 ∧ lowM (guardM id) = id) guard_all id h.1 (by have := h.2; omega)
theorem guard_ref : (id + (if cntM (bitsOf 6 id) [0, 1, 2, 4] % 2 = 1 then 64 else 0)) + (if cntM (bitsOf 6 id) [1, 3, 4, 5] % 2 = 0 then 128 else 0) = guardM id :=
  ofFin (n := 64) (p := fun id => (id + (if cntM (bitsOf 6 id) [0, 1, 2, 4] % 2 = 1 then 64 else 0)) + (if cntM (bitsOf 6 id) [1, 3, 4, 5] % 2 = 0 then 128 else 0) = guardM id) guard_ref_all id h.1 (by have := h.2; omega)
theorem guard_and : (0 ≤ bits .and .u8 id 23 ∧ bits .and .u8 id 23 ≤ 255) ∧ (0 ≤ bits .and .u8 id 58 ∧ bits .and .u8 id 58 ≤ 255) :=
  ofFin (n := 64) (p := fun id => (0 ≤ bits .and .u8 id 23 ∧ bits .and .u8 id 23 ≤ 255) ∧ (0 ≤ bits .and .u8 id 58 ∧ bits .and .u8 id 58 ≤ 255)) and_all id h.1 (by have := h.2; omega)
theorem number_guard : numberM (guardM id) = (id, 0) := by unfold numberM; rw [(guard_range h).2.2, if_pos rfl]
theorem guard_flip (j : Nat) (hj : j < 8) : (numberM (bits .xor .u8 (guardM id) (2 ^ j))).2 = 7 :=
  ofFin (n := 64) (p := fun id => (numberM (bits .xor .u8 (guardM id) (2 ^ j))).2 = 7) (fun k => flip_all k ⟨j, hj⟩) id h.1 (by have := h.2; omega)
end
theorem low_range {b : Int} (h0 : 0 ≤ b) (h1 : b < 256) : IdOk (lowM b) := ofFin (n := 256) (p := fun b => IdOk (lowM b)) low_all b h0 h1
theorem number_ok {b id : Int} (h0 : 0 ≤ b) (h1 : b < 256) (h : numberM b = (id, 0)) : IdOk id ∧ guardM id = b := by
  unfold numberM at h
  split at h
  · rename_i e
    injection h with h _
    subst h
    exact ⟨low_range h0 h1, e.symm⟩
  · injection h with _ h; cases h
theorem number_err (b : Int) (h : (numberM b).2 ≠ 0) : numberM b = (0, 7) := by
  unfold numberM at *
  split
  · rename_i e; rw [if_pos e] at h; exact absurd rfl h
  · rfl
theorem number_two (b : Int) : (numberM b).2 = 0 ∨ (numberM b).2 = 7 := by
  unfold numberM; split <;> simp

/-- What the numbers make together. -/
def tot : List Int → Int
  | [] => 0
  | x :: l => x + tot l
theorem tot_append (l m : List Int) : tot (l ++ m) = tot l + tot m := by
  induction l with
  | nil => simp [tot]
  | cons x l ih => simp only [List.cons_append, tot, ih]; omega
theorem tot_reverse (l : List Int) : tot l.reverse = tot l := by
  induction l with
  | nil => rfl
  | cons x l ih => rw [List.reverse_cons, tot_append, ih]; simp only [tot]; omega
theorem tot_snoc (l : List Int) (x : Int) : tot (l ++ [x]) = tot l + x := by rw [tot_append]; simp [tot]
theorem tot_range {l : List Int} (h : ∀ x ∈ l, 0 ≤ x ∧ x < 256) : 0 ≤ tot l ∧ tot l ≤ 255 * l.length := by
  induction l with
  | nil => simp [tot]
  | cons x l ih =>
    have h1 := h x (by simp)
    have h2 := ih fun y hy => h y (by simp [hy])
    simp only [tot, List.length_cons]
    omega
theorem tot_set (l : List Int) (k : Nat) (x y : Int) (h : l[k]? = some x) : tot (l.set k y) = tot l - x + y := by
  induction l generalizing k with
  | nil => simp at h
  | cons z l ih =>
    cases k with
    | zero => simp at h; subst h; simp [tot]; omega
    | succ k => simp at h; simp [tot, ih k h]; omega
/-- The sum with carry: from 1 to 255 but for nothing at all. -/
def foldC (n : Int) : Int := if n = 0 then 0 else (n - 1) % 255 + 1
theorem foldC_range (n : Int) (h : 0 ≤ n) : 0 ≤ foldC n ∧ foldC n ≤ 255 := by unfold foldC; split <;> omega
theorem foldC_small (n : Int) (h : 0 ≤ n) (h1 : n ≤ 255) : foldC n = n := by unfold foldC; split <;> omega
theorem foldC_add (n x : Int) (h : 0 ≤ n) (h0 : 0 ≤ x) (h1 : x ≤ 255) : foldC (n + x) = if 255 < foldC n + x then foldC n + x - 255 else foldC n + x := by
  unfold foldC; split <;> split <;> split <;> omega
theorem foldC_256 (n : Int) (h : 255 < n) : foldC (n / 256 + n % 256) = foldC n := by
  unfold foldC; split <;> split <;> omega
theorem foldC_eq (n m : Int) (h : 0 ≤ n) (h' : 0 ≤ m) (e : foldC n = foldC m) : (n - m) % 255 = 0 := by
  unfold foldC at e; split at e <;> split at e <;> omega
def sumM (l : List Int) : Int := 255 - foldC (tot l)
theorem sumM_range {l : List Int} (h : ∀ x ∈ l, 0 ≤ x ∧ x < 256) : 0 ≤ sumM l ∧ sumM l < 256 := by
  have := foldC_range _ (tot_range h).1
  unfold sumM; omega
theorem sumM_reverse (l : List Int) : sumM l.reverse = sumM l := by unfold sumM; rw [tot_reverse]
theorem sumM_sealed {l : List Int} (h : ∀ x ∈ l, 0 ≤ x ∧ x < 256) : sumM (l ++ [sumM l]) = 0 := by
  have := (tot_range h).1
  unfold sumM
  rw [tot_snoc]
  generalize tot l = t at *
  unfold foldC
  split <;> split <;> omega

/-- What the checksum covers. -/
def bodyM (g : Int) (l : List Int) (newer : Bool) : List Int := if newer then g :: l else l
/-- A row of bytes by its parts. -/
def rowL (x : Int) (m : List Int) (y : Int) : List Int := x :: (m ++ [y])
theorem rowL_length (x : Int) (m : List Int) (y : Int) : (rowL x m y).length = m.length + 2 := by simp [rowL]
theorem rowL_split (b : List Int) (h : 2 ≤ b.length) : ∃ x m y, b = rowL x m y := by
  cases b with
  | nil => simp at h
  | cons x r =>
    have hr : r ≠ [] := by intro e; subst e; simp at h
    exact ⟨x, r.dropLast, r.getLast hr, by rw [rowL, List.dropLast_concat_getLast hr]⟩
theorem rowL_first (x : Int) (m : List Int) (y : Int) : (rowL x m y)[0]? = some x := rfl
theorem rowL_last (x : Int) (m : List Int) (y : Int) : (rowL x m y)[m.length + 1]? = some y := by simp [rowL]
theorem rowL_body (x : Int) (m : List Int) (y : Int) : (rowL x m y).take (m.length + 1) = x :: m := by simp [rowL]
def DataOk (n : Nat) : Prop := 1 ≤ n ∧ n ≤ 8
instance (n : Nat) : Decidable (DataOk n) := inferInstanceAs (Decidable (_ ∧ _))
def sentL (id : Int) (l : List Int) (newer : Bool) : List Int := rowL (guardM id) l (sumM (bodyM (guardM id) l newer))
def writeL (id : Int) (l : List Int) (newer : Bool) : List Int × Int := if IdOk id then (if DataOk l.length then (sentL id l newer, 0) else ([], 1)) else ([], 2)
/-- What a row of bytes between three and ten reads as. -/
def readR (x : Int) (m : List Int) (y : Int) (newer : Bool) : (Int × List Int) × Int :=
  if (numberM x).2 ≠ 0 then ((0, []), 7) else if y ≠ sumM (bodyM x m newer) then ((0, []), 7) else (((numberM x).1, m), 0)
def readL (b : List Int) (newer : Bool) : (Int × List Int) × Int :=
  if b.length ≤ 2 then ((0, []), 8) else if 10 < b.length then ((0, []), 1) else readR (b.headD 0) ((b.drop 1).dropLast) (b.getLastD 0) newer
theorem readL_row (x : Int) (m : List Int) (y : Int) (newer : Bool) (h : DataOk m.length) : readL (rowL x m y) newer = readR x m y newer := by
  have h1 := h.1
  have h2 := h.2
  unfold readL
  rw [rowL_length, if_neg (by omega), if_neg (by omega)]
  have e : (rowL x m y).getLastD 0 = y := by
    unfold rowL
    rw [← List.cons_append, List.getLastD_concat]
  rw [e]
  simp [rowL]
theorem readL_short (b : List Int) (newer : Bool) (h : b.length ≤ 2) : readL b newer = ((0, []), 8) := by unfold readL; rw [if_pos h]
theorem readL_long (b : List Int) (newer : Bool) (h : 10 < b.length) : readL b newer = ((0, []), 1) := by unfold readL; rw [if_neg (by omega), if_pos h]
theorem body_bytes {g : Int} {l : List Int} (newer : Bool) (hg : 0 ≤ g ∧ g < 256) (h : ∀ x ∈ l, 0 ≤ x ∧ x < 256) : ∀ x ∈ bodyM g l newer, 0 ≤ x ∧ x < 256 := by
  unfold bodyM
  cases newer
  · exact h
  · intro x hx
    rcases List.mem_cons.1 hx with rfl | hx
    · exact hg
    · exact h x hx
theorem sent_bytes {id : Int} {l : List Int} (newer : Bool) (hi : IdOk id) (h : ∀ x ∈ l, 0 ≤ x ∧ x < 256) : ∀ x ∈ sentL id l newer, 0 ≤ x ∧ x < 256 := by
  have hg := guard_range hi
  have hs := sumM_range (body_bytes newer ⟨hg.1, hg.2.1⟩ h)
  unfold sentL rowL
  generalize guardM id = g at *
  generalize sumM (bodyM g l newer) = s at *
  intro x hx
  simp only [List.mem_cons, List.mem_append, List.mem_nil_iff, or_false] at hx
  rcases hx with hx | hx | hx
  · rw [hx]; exact ⟨hg.1, hg.2.1⟩
  · exact h x hx
  · rw [hx]; exact hs
theorem read_sentL {id : Int} {l : List Int} (newer : Bool) (hi : IdOk id) (hl : DataOk l.length) : readL (sentL id l newer) newer = ((id, l), 0) := by
  unfold sentL
  rw [readL_row _ _ _ _ hl]
  unfold readR
  rw [number_guard hi]
  simp
theorem read_errL (b : List Int) (newer : Bool) (h : (readL b newer).2 ≠ 0) : (readL b newer).1 = (0, []) := by
  by_cases h2 : b.length ≤ 2
  · rw [readL_short b newer h2]
  by_cases h10 : 10 < b.length
  · rw [readL_long b newer h10]
  unfold readL at *
  rw [if_neg h2, if_neg h10] at *
  unfold readR at *
  generalize b.headD 0 = x at *
  generalize b.getLastD 0 = y at *
  generalize (b.drop 1).dropLast = m at *
  split
  · rfl
  · rename_i hn
    rw [if_neg hn] at h
    split
    · rfl
    · rename_i hy
      rw [if_neg hy] at h
      exact absurd rfl h
theorem sent_readL {b : List Int} {newer : Bool} (hb : ∀ x ∈ b, 0 ≤ x ∧ x < 256) {id : Int} {l : List Int} (h : readL b newer = ((id, l), 0)) : IdOk id ∧ DataOk l.length ∧ sentL id l newer = b := by
  by_cases h2 : b.length ≤ 2
  · rw [readL_short b newer h2] at h; injection h with _ h; cases h
  by_cases h10 : 10 < b.length
  · rw [readL_long b newer h10] at h; injection h with _ h; cases h
  obtain ⟨x, m, y, rfl⟩ := rowL_split b (by omega)
  rw [rowL_length] at h2 h10
  have hm : DataOk m.length := ⟨by omega, by omega⟩
  rw [readL_row _ _ _ _ hm] at h
  unfold readR at h
  have hx := hb x (by simp [rowL])
  split at h
  · injection h with _ h; cases h
  · rename_i hn
    split at h
    · injection h with _ h; cases h
    · rename_i hy
      injection h with h _
      injection h with hid hl
      subst hl
      have hnum : numberM x = (id, 0) := Prod.ext hid (Decidable.not_not.1 hn)
      obtain ⟨hi, hg⟩ := number_ok hx.1 hx.2 hnum
      refine ⟨hi, hm, ?_⟩
      unfold sentL
      rw [hg, Decidable.not_not.1 hy]
theorem read_bytesL {b : List Int} {newer : Bool} (hb : ∀ x ∈ b, 0 ≤ x ∧ x < 256) : (∀ x ∈ (readL b newer).1.2, 0 ≤ x ∧ x < 256) ∧ (readL b newer).1.2.length ≤ 8 := by
  by_cases he : (readL b newer).2 = 0
  · obtain ⟨_, h2, h3⟩ := sent_readL hb (id := (readL b newer).1.1) (l := (readL b newer).1.2) (newer := newer) (Prod.ext rfl he)
    refine ⟨fun x hx => hb x ?_, h2.2⟩
    rw [← h3]
    simp only [sentL, rowL, List.mem_cons, List.mem_append]
    exact .inr (.inl hx)
  · rw [read_errL b newer he]; simp
theorem body_tot (g : Int) (l : List Int) (newer : Bool) : tot (bodyM g l newer) = (if newer then g else 0) + tot l := by
  unfold bodyM; cases newer <;> simp [tot]
/-- A byte behind the first one that is turned, but not between 0 and 255. -/
theorem read_turnedL {id : Int} {l : List Int} {newer : Bool} (hi : IdOk id) (hl : DataOk l.length) (hb : ∀ x ∈ l, 0 ≤ x ∧ x < 256) {k : Nat} {x y : Int} (hk : (sentL id l newer)[k]? = some x) (h1 : 1 ≤ k)
    (hy0 : 0 ≤ y) (hy1 : y < 256) (hne : y ≠ x) (hn1 : ¬ (x = 0 ∧ y = 255)) (hn2 : ¬ (x = 255 ∧ y = 0)) : (readL ((sentL id l newer).set k y) newer).2 = 7 := by
  have hg := guard_range hi
  obtain ⟨j, rfl⟩ : ∃ j, k = j + 1 := ⟨k - 1, by omega⟩
  unfold sentL at *
  by_cases hj : j < l.length
  · have e : (rowL (guardM id) l (sumM (bodyM (guardM id) l newer))).set (j + 1) y = rowL (guardM id) (l.set j y) (sumM (bodyM (guardM id) l newer)) := by
      simp only [rowL, List.set_cons_succ]
      rw [List.set_append_left _ _ hj]
    have hx : l[j]? = some x := by
      simp only [rowL, List.getElem?_cons_succ] at hk
      rwa [List.getElem?_append_left hj] at hk
    rw [e, readL_row _ _ _ _ (by simpa using hl)]
    unfold readR
    rw [number_guard hi, if_neg (by simp), if_pos]
    intro hs
    unfold sumM at hs
    have hxb := hb x (List.mem_of_getElem? hx)
    have t1 := (tot_range (body_bytes newer ⟨hg.1, hg.2.1⟩ hb)).1
    have t2 := foldC_eq (tot (bodyM (guardM id) l newer)) (tot (bodyM (guardM id) (l.set j y) newer)) t1 (by
      rw [body_tot] at t1 ⊢; rw [tot_set l j x y hx]
      have := (tot_range (l := l.set j y) (fun z hz => by
        rcases List.mem_or_eq_of_mem_set hz with h | h
        · exact hb z h
        · subst h; exact ⟨hy0, hy1⟩)).1
      rw [tot_set l j x y hx] at this
      split <;> omega) (by omega)
    rw [body_tot, body_tot, tot_set l j x y hx] at t2
    omega
  · have hjl : j = l.length := by
      have := (List.getElem?_eq_some_iff.1 hk).1
      rw [rowL_length] at this
      omega
    subst hjl
    have hx : sumM (bodyM (guardM id) l newer) = x := by rw [rowL_last] at hk; exact Option.some.inj hk
    have e : (rowL (guardM id) l (sumM (bodyM (guardM id) l newer))).set (l.length + 1) y = rowL (guardM id) l y := by simp [rowL]
    rw [e, readL_row _ _ _ _ hl]
    unfold readR
    rw [number_guard hi, if_neg (by simp), if_pos (by rw [hx]; exact hne)]

/-- u8's exclusive or. -/
theorem u8_xor_nat (a b : Nat) (ha : a < 256) (hb : b < 256) : bits .xor .u8 (a : Int) (b : Int) = ((a ^^^ b : Nat) : Int) := by
  have hx : a ^^^ b < 2 ^ 8 := Nat.xor_lt_two_pow (by omega) (by omega)
  show IntKind.u8.wrap ((BitVec.ofInt 8 (a : Int) ^^^ BitVec.ofInt 8 (b : Int)).toNat : Int) = _
  rw [BitVec.toNat_xor, BitVec.ofInt_natCast, BitVec.ofInt_natCast, BitVec.toNat_ofNat, BitVec.toNat_ofNat, Nat.mod_eq_of_lt (by omega), Nat.mod_eq_of_lt (by omega)]
  have : IntKind.u8.wrap ((a ^^^ b : Nat) : Int) = ((a ^^^ b : Nat) : Int) % 256 := IntKind.wrap_u8 _
  omega
theorem u8_turned (x t : Int) (hx0 : 0 ≤ x) (hx1 : x < 256) (ht0 : 0 ≤ t) (ht1 : t < 256) (ht : t ≠ 0) : 0 ≤ bits .xor .u8 x t ∧ bits .xor .u8 x t < 256 ∧ bits .xor .u8 x t ≠ x := by
  obtain ⟨a, rfl⟩ := Int.eq_ofNat_of_zero_le hx0
  obtain ⟨b, rfl⟩ := Int.eq_ofNat_of_zero_le ht0
  rw [u8_xor_nat a b (by omega) (by omega)]
  have hx : a ^^^ b < 2 ^ 8 := Nat.xor_lt_two_pow (by omega) (by omega)
  refine ⟨by omega, by omega, fun e => ?_⟩
  have e1 : a ^^^ b = a := by omega
  have e2 : a ^^^ (a ^^^ b) = a ^^^ a := by rw [e1]
  rw [← Nat.xor_assoc, Nat.xor_self, Nat.zero_xor] at e2
  omega
end Go.Proofs.Ytpcpbccolkhgfaa
