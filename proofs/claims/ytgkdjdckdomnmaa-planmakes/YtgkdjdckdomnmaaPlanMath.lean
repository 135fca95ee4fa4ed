/-
  What plan's functions answer, on plain lists and numbers: the slots in use as a function of the slot's number, the passes of Make, and why they find room. No statement of the seat is here.
-/
import Derived.Test.YtgkdjdckdomnmaaBase
namespace Go.Proofs.Ytgkdjdckdomnmaa
set_option linter.unusedVariables false

def jwrongF : List Int → Int
  | [] => 0
  | p :: r => if p < 1 ∨ p > 64 then 2 else if 64 % p = 0 then jwrongF r else 1
def jwrong (l : List Int) : Int := if l.length > 400 then 2 else jwrongF l
def loadS : List Int → Int
  | [] => 0
  | p :: r => 64 / p + loadS r
/-- Slot t is one of f, f + p, f + 2p .. -/
def hits (f p : Int) (t : Nat) : Bool := decide (f ≤ t ∧ ((t : Int) - f) % p = 0)
def mark (U : Nat → Bool) (f p : Int) : Nat → Bool := fun t => U t || hits f p t
/-- The first slot that is not in use, and 64 if all are. -/
def ff (U : Nat → Bool) : Nat := (List.range 64).findIdx (fun t => !U t)
def freeM (U : Nat → Bool) (f p : Int) : Bool := (List.range 64).all (fun t => !(hits f p t && U t))
def cnt (U : Nat → Bool) : Nat := (List.range 64).countP U
def rightF (U : Nat → Bool) : List Int → List Int → Bool
  | p :: r, f :: fs => decide (0 ≤ f ∧ f < p) && (freeM U f p && rightF (mark U f p) r fs)
  | _, _ => true
def none0 : Nat → Bool := fun _ => false
def passM (d : Int) (U : Nat → Bool) : List Int → List Int → (Nat → Bool) × List Int
  | p :: r, f :: fs => if p = d then ((passM d (mark U (ff U) d) r fs).1, (ff U : Int) :: (passM d (mark U (ff U) d) r fs).2) else ((passM d U r fs).1, f :: (passM d U r fs).2)
  | _, _ => (U, [])
def passes (l : List Int) : List Int → (Nat → Bool) × List Int → (Nat → Bool) × List Int
  | [], s => s
  | d :: ds, s => passes l ds (passM d s.1 l s.2)
def allDs : List Int := [1, 2, 4, 8, 16, 32, 64]
def makeL (l : List Int) : List Int := (passes l allDs (none0, List.replicate l.length 0)).2
def Pow (p : Int) : Prop := p = 1 ∨ p = 2 ∨ p = 4 ∨ p = 8 ∨ p = 16 ∨ p = 32 ∨ p = 64
def Pows (l : List Int) : Prop := ∀ p ∈ l, Pow p

theorem Pow.range {p : Int} (h : Pow p) : 1 ≤ p ∧ p ≤ 64 := by unfold Pow at h; omega
theorem Pow.dvd {p : Int} (h : Pow p) : p ∣ 64 := by
  rcases h with rfl | rfl | rfl | rfl | rfl | rfl | rfl <;> decide
theorem pow_of {p : Int} (h1 : 1 ≤ p) (h2 : p ≤ 64) (h3 : 64 % p = 0) : Pow p := by
  have key : ∀ k : Fin 65, 1 ≤ k.val → (64 : Int) % (k.val : Int) = 0 → ((k.val : Int) = 1 ∨ (k.val : Int) = 2 ∨ (k.val : Int) = 4 ∨ (k.val : Int) = 8 ∨ (k.val : Int) = 16 ∨ (k.val : Int) = 32 ∨ (k.val : Int) = 64) := by decide +kernel
  obtain ⟨k, rfl⟩ := Int.eq_ofNat_of_zero_le (show 0 ≤ p by omega)
  exact key ⟨k, by omega⟩ (by simp only; omega) h3
theorem Pow.mod {p : Int} (h : Pow p) : (64 : Int) % p = 0 := by
  rcases h with rfl | rfl | rfl | rfl | rfl | rfl | rfl <;> decide
theorem Pow.quo {p : Int} (h : Pow p) : (64 : Int).tdiv p = 64 / p := by
  rcases h with rfl | rfl | rfl | rfl | rfl | rfl | rfl <;> decide
theorem Pow.part {p : Int} (h : Pow p) : 1 ≤ (64 : Int) / p ∧ (64 : Int) / p ≤ 64 := by
  rcases h with rfl | rfl | rfl | rfl | rfl | rfl | rfl <;> decide
theorem and_mod {p : Int} (h1 : 1 ≤ p) (h2 : p ≤ 64) : (bits .and .i64 p (p - 1) = 0) ↔ 64 % p = 0 := by
  have key : ∀ k : Fin 65, 1 ≤ k.val → ((bits .and .i64 (k.val : Int) ((k.val : Int) - 1) = 0) ↔ (64 : Int) % (k.val : Int) = 0) := by decide +kernel
  obtain ⟨k, rfl⟩ := Int.eq_ofNat_of_zero_le (show 0 ≤ p by omega)
  exact key ⟨k, by omega⟩ (by simp only; omega)

/-! Wrong -/
theorem jwrongF_zero {l : List Int} : jwrongF l = 0 ↔ Pows l := by
  induction l with
  | nil => exact ⟨fun _ p hp => (List.not_mem_nil hp).elim, fun _ => rfl⟩
  | cons p r ih =>
    rw [jwrongF]
    constructor
    · intro h
      split at h
      · cases h
      · split at h
        · intro q hq
          rcases List.mem_cons.1 hq with rfl | hq
          · exact pow_of (by omega) (by omega) (by assumption)
          · exact ih.1 h q hq
        · cases h
    · intro h
      have hp := h p (by simp)
      have := hp.range
      rw [if_neg (by omega), if_pos hp.mod]
      exact ih.2 fun q hq => h q (by simp [hq])
theorem jwrong_zero {l : List Int} : jwrong l = 0 ↔ l.length ≤ 400 ∧ Pows l := by
  unfold jwrong
  split
  · constructor
    · intro h; cases h
    · intro h; omega
  · rw [jwrongF_zero]
    exact ⟨fun h => ⟨by omega, h⟩, fun h => h.2⟩
theorem jwrongF_ran (l : List Int) : jwrongF l = 0 ∨ jwrongF l = 1 ∨ jwrongF l = 2 := by
  induction l with
  | nil => exact .inl rfl
  | cons p r ih =>
    rw [jwrongF]
    split
    · exact .inr (.inr rfl)
    · split
      · exact ih
      · exact .inr (.inl rfl)
theorem jwrong_ran (l : List Int) : jwrong l = 0 ∨ jwrong l = 1 ∨ jwrong l = 2 := by
  unfold jwrong
  split
  · exact .inr (.inr rfl)
  · exact jwrongF_ran l
theorem load_range {l : List Int} (h : Pows l) : 0 ≤ loadS l ∧ loadS l ≤ 64 * (l.length : Int) := by
  induction l with
  | nil => simp [loadS]
  | cons p r ih =>
    have hp := (h p (by simp)).part
    have := ih fun q hq => h q (by simp [hq])
    rw [loadS, List.length_cons]
    omega
theorem load_snoc (l : List Int) (p : Int) : loadS (l ++ [p]) = loadS l + 64 / p := by
  induction l with
  | nil => simp [loadS]
  | cons x r ih => rw [List.cons_append, loadS, loadS, ih]; omega
theorem Pows.take {l : List Int} (h : Pows l) (k : Nat) : Pows (l.take k) := fun p hp => h p (List.mem_of_mem_take hp)

/-! The slots of one message -/
theorem hits_iff {f p : Int} {t : Nat} : hits f p t = true ↔ f ≤ t ∧ p ∣ ((t : Int) - f) := by
  unfold hits
  rw [decide_eq_true_eq]
  exact ⟨fun h => ⟨h.1, Int.dvd_of_emod_eq_zero h.2⟩, fun h => ⟨h.1, Int.emod_eq_zero_of_dvd h.2⟩⟩
theorem hits_mod {f p : Int} (h0 : 0 ≤ f) (h1 : f < p) (t : Nat) : hits f p t = true ↔ (t : Int) % p = f := by
  rw [hits_iff]
  constructor
  · rintro ⟨h2, h3⟩
    have := Int.emod_emod_of_dvd
    have e : (t : Int) % p = f % p := Int.emod_eq_emod_iff_emod_sub_eq_zero.2 (Int.emod_eq_zero_of_dvd h3)
    rw [e, Int.emod_eq_of_lt h0 h1]
  · intro h
    have hd := Int.emod_add_mul_ediv (t : Int) p
    have hq : 0 ≤ (t : Int) / p := Int.ediv_nonneg (by omega) (by omega)
    have hm : 0 ≤ p * ((t : Int) / p) := Int.mul_nonneg (by omega) hq
    refine ⟨by omega, ⟨(t : Int) / p, by omega⟩⟩
theorem hits_start (f : Nat) (p : Int) : hits f p f = true := by
  rw [hits_iff]; exact ⟨Int.le_refl _, by simp⟩
theorem hits_next {f p : Int} {a : Nat} (h : hits f p a = true) (q : Nat) (hq : (q : Int) = p) : hits f p (a + q) = true := by
  rw [hits_iff] at h ⊢
  obtain ⟨h1, h2⟩ := h
  refine ⟨by omega, ?_⟩
  have e : ((a + q : Nat) : Int) - f = (a - f) + p := by omega
  rw [e]
  exact Int.dvd_add h2 (Int.dvd_refl _)
/-- Between one slot of a message and the next there is none. -/
theorem hits_gap {f p : Int} {a t : Nat} (h : hits f p a = true) (ht : hits f p t = true) (h1 : a ≤ t) (h2 : (t : Int) < a + p) : t = a := by
  rw [hits_iff] at h ht
  have hd : p ∣ (t : Int) - a := by
    have e : (t : Int) - a = ((t : Int) - f) - ((a : Int) - f) := by omega
    rw [e]
    exact Int.dvd_sub ht.2 h.2
  have := Int.emod_eq_zero_of_dvd hd
  rw [Int.emod_eq_of_lt (by omega) (by omega)] at this
  omega
theorem hits_low {f p : Int} {t : Nat} (h : (t : Int) < f) : hits f p t = false := by
  cases hb : hits f p t
  · rfl
  · have := (hits_iff.1 hb).1; omega

/-! Counting -/
theorem countP_or {L : List Nat} {a b : Nat → Bool} (h : ∀ t ∈ L, b t = true → a t = false) : L.countP (fun t => a t || b t) = L.countP a + L.countP b := by
  induction L with
  | nil => rfl
  | cons x r ih =>
    have hx := h x (by simp)
    have := ih fun t ht => h t (by simp [ht])
    rw [List.countP_cons, List.countP_cons, List.countP_cons, this]
    cases ha : a x <;> cases hb : b x <;> simp_all <;> omega
theorem free_iff {U : Nat → Bool} {f p : Int} : freeM U f p = true ↔ ∀ t, t < 64 → hits f p t = true → U t = false := by
  unfold freeM
  rw [List.all_eq_true]
  constructor
  · intro h t ht hh
    have := h t (List.mem_range.2 ht)
    rw [hh] at this
    simpa using this
  · intro h t ht
    cases hh : hits f p t
    · rfl
    · rw [h t (List.mem_range.1 ht) hh]; rfl
theorem cnt_mark {U : Nat → Bool} {f p : Int} (h : freeM U f p = true) : cnt (mark U f p) = cnt U + cnt (hits f p) :=
  countP_or fun t ht hh => free_iff.1 h t (List.mem_range.1 ht) hh
theorem cnt_hits {f p : Int} (hp : Pow p) (h0 : 0 ≤ f) (h1 : f < p) : (cnt (hits f p) : Int) = 64 / p := by
  have key : ∀ q ∈ [1, 2, 4, 8, 16, 32, 64], ∀ k : Fin 64, k.val < q → ((List.range 64).countP (hits (k.val : Int) (q : Int)) : Int) = 64 / ((q : Nat) : Int) := by decide +kernel
  obtain ⟨k, rfl⟩ := Int.eq_ofNat_of_zero_le h0
  have hr := hp.range
  rcases hp with rfl | rfl | rfl | rfl | rfl | rfl | rfl
  · exact key 1 (by decide) ⟨k, by omega⟩ (by simp only; omega)
  · exact key 2 (by decide) ⟨k, by omega⟩ (by simp only; omega)
  · exact key 4 (by decide) ⟨k, by omega⟩ (by simp only; omega)
  · exact key 8 (by decide) ⟨k, by omega⟩ (by simp only; omega)
  · exact key 16 (by decide) ⟨k, by omega⟩ (by simp only; omega)
  · exact key 32 (by decide) ⟨k, by omega⟩ (by simp only; omega)
  · exact key 64 (by decide) ⟨k, by omega⟩ (by simp only; omega)
theorem cnt_le (U : Nat → Bool) : cnt U ≤ 64 := by
  have := List.countP_le_length (p := U) (l := List.range 64)
  rwa [List.length_range] at this
theorem cnt_some {U : Nat → Bool} (h : cnt U < 64) : ∃ s, s < 64 ∧ U s = false := by
  rcases Classical.em (∃ s, s < 64 ∧ U s = false) with h' | h'
  · exact h'
  · exfalso
    have : (List.range 64).countP U = (List.range 64).length := List.countP_eq_length.2 fun t ht => by
      cases hU : U t
      · exact absurd ⟨t, List.mem_range.1 ht, hU⟩ h'
      · rfl
    rw [List.length_range] at this
    unfold cnt at h
    omega

/-! The first free slot -/
theorem ff_le (U : Nat → Bool) : ff U ≤ 64 := by
  have := List.findIdx_le_length (p := fun t => !U t) (xs := List.range 64)
  rwa [List.length_range] at this
theorem ff_true {U : Nat → Bool} {t : Nat} (h : t < ff U) : U t = true := by
  have h64 := ff_le U
  have := List.not_of_lt_findIdx h
  simpa using this
theorem ff_false {U : Nat → Bool} (h : ff U < 64) : U (ff U) = false := by
  have := List.findIdx_getElem (p := fun t => !U t) (xs := List.range 64) (w := by simpa [ff] using h)
  simpa [ff] using this
theorem ff_eq {U : Nat → Bool} {a : Nat} (h1 : a ≤ 64) (h2 : ∀ t, t < a → U t = true) (h3 : a < 64 → U a = false) : ff U = a := by
  rcases Nat.lt_trichotomy (ff U) a with h | h | h
  · have := ff_false (U := U) (by omega)
    rw [h2 _ h] at this
    cases this
  · exact h
  · have := ff_true h
    have h4 := ff_le U
    rw [h3 (by omega)] at this
    cases this

/-! One pass of Make -/
def Per (d : Int) (U : Nat → Bool) : Prop := ∀ t s : Nat, (t : Int) % d = (s : Int) % d → U t = U s
theorem Per.up {d e : Int} {U : Nat → Bool} (h : Per d U) (hd : d ∣ e) : Per e U := fun t s he => h t s (by
  rw [← Int.emod_emod_of_dvd (t : Int) hd, he, Int.emod_emod_of_dvd (s : Int) hd])
theorem Per.mark {d f : Int} {U : Nat → Bool} (h : Per d U) (h0 : 0 ≤ f) (h1 : f < d) : Per d (mark U f d) := fun t s he => by
  unfold Go.Proofs.Ytgkdjdckdomnmaa.mark
  rw [h t s he]
  congr 1
  rw [Bool.eq_iff_iff, hits_mod h0 h1, hits_mod h0 h1, he]
theorem ff_small {d : Int} {U : Nat → Bool} (hd : Pow d) (h : Per d U) (hc : cnt U < 64) : (ff U : Int) < d ∧ ff U < 64 := by
  obtain ⟨s, hs, hU⟩ := cnt_some hc
  have hr := hd.range
  have e0 := Int.emod_nonneg (s : Int) (show d ≠ 0 by omega)
  have e1 := Int.emod_lt_of_pos (s : Int) (show 0 < d by omega)
  have hf : U ((s : Int) % d).toNat = false := by
    rw [h _ s (by rw [Int.toNat_of_nonneg e0, Int.emod_emod]), hU]
  have : ff U ≤ ((s : Int) % d).toNat := by
    rcases Nat.lt_or_ge ((s : Int) % d).toNat (ff U) with h' | h'
    · rw [ff_true h'] at hf; cases hf
    · exact h'
  omega
theorem free_per {d : Int} {U : Nat → Bool} (hd : Pow d) (h : Per d U) (hf : (ff U : Int) < d) (h64 : ff U < 64) : freeM U (ff U) d = true := by
  rw [free_iff]
  intro t ht hh
  rw [hits_mod (by omega) hf] at hh
  rw [h t (ff U) (by rw [hh, Int.emod_eq_of_lt (by omega) hf])]
  exact ff_false h64

def b2 (b : Bool) : Nat := if b = true then 1 else 0
/-- How many of the messages with a period below d use slot t. -/
def uses (d : Int) (t : Nat) : List Int → List Int → Nat
  | p :: r, f :: fs => (if p < d ∧ hits f p t = true then 1 else 0) + uses d t r fs
  | _, _ => 0
/-- The first slots of the messages with a period below d lie within their periods. -/
def inR (d : Int) : List Int → List Int → Prop
  | p :: r, f :: fs => (p < d → 0 ≤ f ∧ f < p) ∧ inR d r fs
  | _, _ => True
def restS (d : Int) : List Int → Int
  | [] => 0
  | p :: r => (if d ≤ p then 64 / p else 0) + restS d r
/-- Each first slot that a pass looks for is found. -/
def FitP (d : Int) (U : Nat → Bool) : List Int → Prop
  | [] => True
  | p :: r => if p = d then ff U < 64 ∧ FitP d (mark U (ff U) d) r else FitP d U r
def FitAll (l : List Int) : List Int → (Nat → Bool) × List Int → Prop
  | [], _ => True
  | d :: ds, s => FitP d s.1 l ∧ FitAll l ds (passM d s.1 l s.2)

theorem rest_nonneg {d : Int} {l : List Int} (h : Pows l) : 0 ≤ restS d l := by
  induction l with
  | nil => simp [restS]
  | cons p r ih =>
    have hp := (h p (by simp)).part
    have := ih fun q hq => h q (by simp [hq])
    rw [restS]
    split <;> omega
theorem rest_same {d e : Int} {l : List Int} (h : ∀ p ∈ l, (d ≤ p ↔ e ≤ p)) : restS d l = restS e l := by
  induction l with
  | nil => rfl
  | cons p r ih =>
    rw [restS, restS, ih fun q hq => h q (by simp [hq])]
    have := h p (by simp)
    by_cases h1 : d ≤ p
    · rw [if_pos h1, if_pos (this.1 h1)]
    · rw [if_neg h1, if_neg (fun h2 => h1 (this.2 h2))]
theorem uses_same {d e : Int} {t : Nat} {l F : List Int} (h : ∀ p ∈ l, (p < d ↔ p < e)) : uses d t l F = uses e t l F := by
  induction l generalizing F with
  | nil => rfl
  | cons p r ih =>
    cases F with
    | nil => rfl
    | cons f fs =>
      rw [uses, uses, ih fun q hq => h q (by simp [hq])]
      have := h p (by simp)
      by_cases h1 : p < d
      · simp [h1, this.1 h1]
      · have h2 : ¬ p < e := fun h2 => h1 (this.2 h2)
        simp [h1, h2]
theorem inR_same {d e : Int} {l F : List Int} (h : ∀ p ∈ l, (p < d ↔ p < e)) (hi : inR d l F) : inR e l F := by
  induction l generalizing F with
  | nil => trivial
  | cons p r ih =>
    cases F with
    | nil => trivial
    | cons f fs => exact ⟨fun h1 => hi.1 ((h p (by simp)).2 h1), ih (fun q hq => h q (by simp [hq])) hi.2⟩
theorem pass_len (d : Int) (U : Nat → Bool) (l F : List Int) (h : l.length = F.length) : (passM d U l F).2.length = l.length := by
  induction l generalizing U F with
  | nil => cases F <;> simp [passM]
  | cons p r ih =>
    cases F with
    | nil => simp at h
    | cons f fs =>
      rw [passM]
      have h' : r.length = fs.length := by simpa using h
      split <;> simp [ih _ fs h']
theorem pass_main {d : Int} (hd : Pow d) (l : List Int) : ∀ (F : List Int) (U : Nat → Bool), l.length = F.length → Pows l → Per d U → (cnt U : Int) + restS d l ≤ 64 → inR d l F →
    Per d (passM d U l F).1 ∧ (cnt (passM d U l F).1 : Int) + restS (d + 1) l = cnt U + restS d l ∧ (∀ t, t < 64 → b2 ((passM d U l F).1 t) + uses d t l F = b2 (U t) + uses (d + 1) t l (passM d U l F).2) ∧ inR (d + 1) l (passM d U l F).2 ∧ FitP d U l := by
  induction l with
  | nil =>
    intro F U hl hp hper hc hi
    cases F with
    | nil => exact ⟨hper, rfl, fun t _ => rfl, trivial, trivial⟩
    | cons f fs => simp at hl
  | cons p r ih =>
    intro F U hl hp hper hc hi
    cases F with
    | nil => simp at hl
    | cons f fs =>
      have hl' : r.length = fs.length := by simpa using hl
      have hp' : Pows r := fun q hq => hp q (by simp [hq])
      have hrn := rest_nonneg (d := d) hp'
      obtain ⟨hi0, hi'⟩ := hi
      by_cases hpd : p = d
      · subst hpd
        have hq := hd.part
        rw [restS, if_pos (Int.le_refl _)] at hc
        obtain ⟨g1, g2⟩ := ff_small hd hper (by omega)
        have hfree := free_per hd hper g1 g2
        have hcm := cnt_mark hfree
        have hch := cnt_hits hd (f := (ff U : Int)) (by omega) g1
        obtain ⟨k1, k2, k3, k4, k5⟩ := ih fs (mark U (ff U) p) hl' hp' (hper.mark (by omega) g1) (by omega) hi'
        have e : passM p U (p :: r) (f :: fs) = ((passM p (mark U (ff U) p) r fs).1, (ff U : Int) :: (passM p (mark U (ff U) p) r fs).2) := by rw [passM, if_pos rfl]
        rw [e]
        refine ⟨k1, ?_, fun t ht => ?_, ⟨fun _ => ⟨by omega, g1⟩, k4⟩, ?_⟩
        · rw [restS, restS, if_neg (by omega), if_pos (Int.le_refl _)]
          simp only
          omega
        · have hk := k3 t ht
          have hb : b2 (mark U (ff U) p t) = b2 (U t) + (if hits (ff U) p t = true then 1 else 0) := by
            unfold mark b2
            cases hh : hits (ff U : Int) p t
            · simp
            · rw [free_iff.1 hfree t ht hh]; rfl
          rw [uses, uses, if_neg (by omega)]
          have h1 : (if p < p + 1 ∧ hits (ff U) p t = true then 1 else 0) = (if hits (ff U) p t = true then 1 else 0) := by
            have : p < p + 1 := by omega
            simp [this]
          rw [h1]
          simp only
          omega
        · rw [FitP, if_pos rfl]; exact ⟨g2, k5⟩
      · have hc' : (cnt U : Int) + restS d r ≤ 64 := by
          have hq := (hp p (by simp)).part
          rw [restS] at hc
          split at hc <;> omega
        obtain ⟨k1, k2, k3, k4, k5⟩ := ih fs U hl' hp' hper hc' hi'
        have e : passM d U (p :: r) (f :: fs) = ((passM d U r fs).1, f :: (passM d U r fs).2) := by rw [passM, if_neg hpd]
        rw [e]
        refine ⟨k1, ?_, fun t ht => ?_, ⟨fun h => hi0 (by omega), k4⟩, ?_⟩
        · rw [restS, restS]
          have : (if d + 1 ≤ p then 64 / p else 0) = (if d ≤ p then 64 / p else 0) := by
            by_cases h1 : d ≤ p
            · rw [if_pos h1, if_pos (by omega)]
            · rw [if_neg h1, if_neg (by omega)]
          rw [this]
          simp only
          omega
        · have hk := k3 t ht
          rw [uses, uses]
          have h1 : (if p < d ∧ hits f p t = true then 1 else 0) = (if p < d + 1 ∧ hits f p t = true then 1 else 0) := by
            by_cases h1 : p < d
            · have h2 : p < d + 1 := by omega
              simp [h1, h2]
            · have h2 : ¬ p < d + 1 := by omega
              simp [h1, h2]
          rw [h1]
          simp only
          omega
        · rw [FitP, if_neg hpd]; exact k5

/-! All passes -/
structure St10 (l : List Int) (d : Int) (s : (Nat → Bool) × List Int) : Prop where
  per : Per d s.1
  room : (cnt s.1 : Int) + restS d l ≤ 64
  len : l.length = s.2.length
  used : ∀ t, t < 64 → b2 (s.1 t) = uses d t l s.2
  inr : inR d l s.2
theorem St10.step {l : List Int} {d e : Int} {s : (Nat → Bool) × List Int} (h : St10 l d s) (hp : Pows l) (hd : Pow d) (hdv : d ∣ e) (hn : ∀ p : Int, Pow p → (p < d + 1 ↔ p < e)) : St10 l e (passM d s.1 l s.2) ∧ FitP d s.1 l := by
  obtain ⟨k1, k2, k3, k4, k5⟩ := pass_main hd l s.2 s.1 h.len hp h.per h.room h.inr
  have hm : ∀ p ∈ l, (p < d + 1 ↔ p < e) := fun p hpl => hn p (hp p hpl)
  refine ⟨⟨k1.up hdv, ?_, (pass_len d s.1 l s.2 h.len).symm, fun t ht => ?_, inR_same hm k4⟩, k5⟩
  · have := rest_same (l := l) (d := d + 1) (e := e) fun p hpl => by have := hm p hpl; omega
    have := h.room
    omega
  · have h1 := k3 t ht
    have h2 := h.used t ht
    rw [uses_same hm] at h1
    omega
theorem uses_one (t : Nat) (l F : List Int) (h : Pows l) : uses 1 t l F = 0 := by
  induction l generalizing F with
  | nil => rfl
  | cons p r ih =>
    cases F with
    | nil => rfl
    | cons f fs =>
      have := (h p (by simp)).range
      rw [uses, if_neg (by omega), ih fs fun q hq => h q (by simp [hq])]
theorem inR_one (l F : List Int) (h : Pows l) : inR 1 l F := by
  induction l generalizing F with
  | nil => trivial
  | cons p r ih =>
    cases F with
    | nil => trivial
    | cons f fs =>
      have := (h p (by simp)).range
      exact ⟨fun h1 => by omega, ih fs fun q hq => h q (by simp [hq])⟩
theorem rest_one (l : List Int) (h : Pows l) : restS 1 l = loadS l := by
  induction l with
  | nil => rfl
  | cons p r ih =>
    have := (h p (by simp)).range
    rw [restS, loadS, if_pos (by omega), ih fun q hq => h q (by simp [hq])]
theorem cnt_none : cnt none0 = 0 := by decide +kernel
theorem make_main {l : List Int} (hp : Pows l) (hload : loadS l ≤ 64) : St10 l 128 (passes l allDs (none0, List.replicate l.length 0)) ∧ FitAll l allDs (none0, List.replicate l.length 0) := by
  have s0 : St10 l 1 (none0, List.replicate l.length 0) := ⟨fun _ _ _ => rfl, by rw [rest_one l hp]; show (cnt none0 : Int) + _ ≤ _; rw [cnt_none]; omega, by simp, fun t _ => by rw [uses_one t l _ hp]; rfl, inR_one l _ hp⟩
  obtain ⟨s1, f1⟩ := s0.step (e := 2) hp (.inl rfl) (by decide) (fun p hq => by unfold Pow at hq; omega)
  obtain ⟨s2, f2⟩ := s1.step (e := 4) hp (by unfold Pow; omega) (by decide) (fun p hq => by unfold Pow at hq; omega)
  obtain ⟨s3, f3⟩ := s2.step (e := 8) hp (by unfold Pow; omega) (by decide) (fun p hq => by unfold Pow at hq; omega)
  obtain ⟨s4, f4⟩ := s3.step (e := 16) hp (by unfold Pow; omega) (by decide) (fun p hq => by unfold Pow at hq; omega)
  obtain ⟨s5, f5⟩ := s4.step (e := 32) hp (by unfold Pow; omega) (by decide) (fun p hq => by unfold Pow at hq; omega)
  obtain ⟨s6, f6⟩ := s5.step (e := 64) hp (by unfold Pow; omega) (by decide) (fun p hq => by unfold Pow at hq; omega)
  obtain ⟨s7, f7⟩ := s6.step (e := 128) hp (by unfold Pow; omega) (by decide) (fun p hq => by unfold Pow at hq; omega)
  exact ⟨s7, f1, f2, f3, f4, f5, f6, f7, trivial⟩
theorem passes_len (l : List Int) : ∀ (ds : List Int) (s : (Nat → Bool) × List Int), l.length = s.2.length → (passes l ds s).2.length = l.length
  | [], s, h => h.symm
  | d :: ds, s, h => passes_len l ds _ (pass_len d s.1 l s.2 h).symm
theorem make_len (l : List Int) : (makeL l).length = l.length := passes_len l _ _ (by simp)

/-! Right -/
theorem right_iff {l F : List Int} (hp : Pows l) (U : Nat → Bool) : rightF U l F = true ↔ inR 128 l F ∧ ∀ t, t < 64 → (uses 128 t l F ≠ 0 → b2 (U t) + uses 128 t l F ≤ 1) := by
  induction l generalizing F U with
  | nil => exact ⟨fun _ => ⟨trivial, fun t _ h => absurd rfl h⟩, fun _ => rfl⟩
  | cons p r ih =>
    cases F with
    | nil => exact ⟨fun _ => ⟨trivial, fun t _ h => absurd rfl h⟩, fun _ => rfl⟩
    | cons f fs =>
      have hpr := (hp p (by simp)).range
      have hp' : Pows r := fun q hq => hp q (by simp [hq])
      rw [rightF, Bool.and_eq_true, Bool.and_eq_true, decide_eq_true_eq, free_iff, ih hp' (mark U f p)]
      have hu : ∀ t, uses 128 t (p :: r) (f :: fs) = (if hits f p t = true then 1 else 0) + uses 128 t r fs := fun t => by
        rw [uses]
        have : p < 128 := by omega
        simp [this]
      have hm : ∀ t, b2 (mark U f p t) = if hits f p t = true then 1 else b2 (U t) := fun t => by
        unfold mark b2
        cases hits f p t <;> simp
      constructor
      · rintro ⟨h1, h2, h3, h4⟩
        refine ⟨⟨fun _ => h1, h3⟩, fun t ht hne => ?_⟩
        rw [hu] at hne ⊢
        have h4' := h4 t ht
        rw [hm] at h4'
        by_cases hh : hits f p t = true
        · have h2' := h2 t ht hh
          simp only [hh, if_true] at h4' hne ⊢
          have : b2 (U t) = 0 := by rw [h2']; rfl
          omega
        · simp only [hh] at h4' hne ⊢
          simp at h4' hne ⊢
          exact h4' hne
      · rintro ⟨⟨h1, h3⟩, h4⟩
        refine ⟨h1 (by omega), fun t ht hh => ?_, h3, fun t ht hne => ?_⟩
        · have h4' := h4 t ht
          rw [hu, if_pos hh] at h4'
          cases hU : U t
          · rfl
          · rw [hU] at h4'
            have : b2 true = 1 := rfl
            omega
        · have h4' := h4 t ht
          rw [hu] at h4'
          rw [hm]
          by_cases hh : hits f p t = true
          · simp only [hh, if_true] at h4' ⊢
            omega
          · simp only [hh] at h4' ⊢
            simp at h4' ⊢
            exact h4' hne
theorem make_right {l : List Int} (hp : Pows l) (hload : loadS l ≤ 64) : rightF none0 l (makeL l) = true := by
  rw [right_iff hp]
  have h := (make_main hp hload).1
  refine ⟨h.inr, fun t ht _ => ?_⟩
  have h1 := h.used t ht
  have e : b2 (none0 t) = 0 := rfl
  have h2 : b2 ((passes l allDs (none0, List.replicate l.length 0)).1 t) ≤ 1 := by unfold b2; split <;> omega
  unfold makeL
  omega
theorem right_load {l F : List Int} (hp : Pows l) (hl : l.length = F.length) (U : Nat → Bool) (h : rightF U l F = true) : (cnt U : Int) + loadS l ≤ 64 := by
  induction l generalizing F U with
  | nil => have := cnt_le U; simp [loadS]; omega
  | cons p r ih =>
    cases F with
    | nil => simp at hl
    | cons f fs =>
      rw [rightF, Bool.and_eq_true, Bool.and_eq_true, decide_eq_true_eq] at h
      obtain ⟨h1, h2, h3⟩ := h
      have := ih (fun q hq => hp q (by simp [hq])) (by simpa using hl) _ h3
      have hc := cnt_mark h2
      have hh := cnt_hits (hp p (by simp)) h1.1 h1.2
      rw [loadS]
      omega
theorem free_less {U V : Nat → Bool} (h : ∀ t, V t = true → U t = true) {f p : Int} (hf : freeM U f p = true) : freeM V f p = true := by
  rw [free_iff] at hf ⊢
  intro t ht hh
  cases hV : V t
  · rfl
  · exact absurd (h t hV) (by rw [hf t ht hh]; decide)
theorem mark_less {U V : Nat → Bool} (h : ∀ t, V t = true → U t = true) (f p : Int) : ∀ t, mark V f p t = true → mark U f p t = true := by
  intro t
  unfold mark
  rw [Bool.or_eq_true, Bool.or_eq_true]
  exact fun h' => h'.imp (h t) id
theorem right_less {U V : Nat → Bool} (h : ∀ t, V t = true → U t = true) {l F : List Int} (hr : rightF U l F = true) : rightF V l F = true := by
  induction l generalizing F U V with
  | nil => rfl
  | cons p r ih =>
    cases F with
    | nil => rfl
    | cons f fs =>
      rw [rightF, Bool.and_eq_true, Bool.and_eq_true] at hr ⊢
      exact ⟨hr.1, free_less h hr.2.1, ih (mark_less h f p) hr.2.2⟩
theorem right_erase {l F : List Int} (U : Nat → Bool) (k : Nat) (hr : rightF U l F = true) : rightF U (l.eraseIdx k) (F.eraseIdx k) = true := by
  induction l generalizing F U k with
  | nil => rfl
  | cons p r ih =>
    cases F with
    | nil => simp [rightF]
    | cons f fs =>
      have hr' := hr
      rw [rightF, Bool.and_eq_true, Bool.and_eq_true] at hr
      cases k with
      | zero =>
        rw [List.eraseIdx_cons_zero, List.eraseIdx_cons_zero]
        exact right_less (fun t ht => by unfold mark; rw [ht]; rfl) hr.2.2
      | succ k =>
        rw [List.eraseIdx_cons_succ, List.eraseIdx_cons_succ, rightF, Bool.and_eq_true, Bool.and_eq_true]
        exact ⟨hr.1, hr.2.1, ih _ k hr.2.2⟩
theorem load_erase {l : List Int} (hp : Pows l) (k : Nat) : loadS (l.eraseIdx k) ≤ loadS l := by
  induction l generalizing k with
  | nil => exact Int.le_refl _
  | cons p r ih =>
    have hq := (hp p (by simp)).part
    cases k with
    | zero => rw [List.eraseIdx_cons_zero, loadS]; omega
    | succ k =>
      have := ih (fun q hq => hp q (by simp [hq])) k
      rw [List.eraseIdx_cons_succ, loadS, loadS]
      omega
theorem Pows.erase {l : List Int} (h : Pows l) (k : Nat) : Pows (l.eraseIdx k) := fun p hp => h p (List.mem_of_mem_eraseIdx hp)

/-! Shifted -/
def shiftM (b : Int) : List Int → List Int → List Int
  | p :: r, f :: fs => (f + b) % p :: shiftM b r fs
  | _, _ => []
theorem hits_shift {f p : Int} (hp : Pow p) (h0 : 0 ≤ f) (h1 : f < p) (b t : Nat) : hits ((f + b) % p) p ((t + b) % 64) = hits f p t := by
  have hr := hp.range
  have e0 := Int.emod_nonneg (f + b) (show p ≠ 0 by omega)
  have e1 := Int.emod_lt_of_pos (f + b) (show 0 < p by omega)
  rw [Bool.eq_iff_iff, hits_mod e0 e1, hits_mod h0 h1]
  have e : (((t + b) % 64 : Nat) : Int) % p = ((t : Int) + b) % p := by
    rw [Int.natCast_emod, Int.natCast_add]
    exact Int.emod_emod_of_dvd _ hp.dvd
  rw [e]
  constructor
  · intro h
    have := Int.emod_add_cancel_right b |>.1 h
    rw [this, Int.emod_eq_of_lt h0 h1]
  · intro h
    exact (Int.emod_add_cancel_right b).2 (by rw [h, Int.emod_eq_of_lt h0 h1])
theorem inR_shift {b : Int} {l F : List Int} (hp : Pows l) : inR 128 l (shiftM b l F) := by
  induction l generalizing F with
  | nil => trivial
  | cons p r ih =>
    cases F with
    | nil => trivial
    | cons f fs =>
      have hr := (hp p (by simp)).range
      exact ⟨fun _ => ⟨Int.emod_nonneg _ (by omega), Int.emod_lt_of_pos _ (by omega)⟩, ih fun q hq => hp q (by simp [hq])⟩
theorem uses_shift {l F : List Int} (hp : Pows l) (hi : inR 128 l F) (b t : Nat) : uses 128 ((t + b) % 64) l (shiftM b l F) = uses 128 t l F := by
  induction l generalizing F with
  | nil => rfl
  | cons p r ih =>
    cases F with
    | nil => rfl
    | cons f fs =>
      have hr := (hp p (by simp)).range
      obtain ⟨h1, h2⟩ := hi.1 (by omega)
      rw [shiftM, uses, uses, hits_shift (hp p (by simp)) h1 h2, ih (fun q hq => hp q (by simp [hq])) hi.2]
theorem right_shift {l F : List Int} (hp : Pows l) (hi : inR 128 l F) (b : Nat) : rightF none0 l (shiftM b l F) = rightF none0 l F := by
  rw [Bool.eq_iff_iff, right_iff hp, right_iff hp]
  constructor
  · rintro ⟨_, h⟩
    refine ⟨hi, fun t ht => ?_⟩
    have := h ((t + b) % 64) (Nat.mod_lt _ (by decide))
    rw [uses_shift hp hi] at this
    exact this
  · rintro ⟨_, h⟩
    refine ⟨inR_shift hp, fun t ht => ?_⟩
    have e : ((t + 64 - b % 64) % 64 + b) % 64 = t := by omega
    have := h ((t + 64 - b % 64) % 64) (Nat.mod_lt _ (by decide))
    rw [← uses_shift hp hi b, e] at this
    exact this
end Go.Proofs.Ytgkdjdckdomnmaa
