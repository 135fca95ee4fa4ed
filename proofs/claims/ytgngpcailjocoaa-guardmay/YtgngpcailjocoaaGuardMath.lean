/-
  What guard's functions answer, on plain lists and numbers. A transmission is three numbers as a slot is (node, start, length), so a Slt serves for both. No statement of the seat is here.
-/
import Derived.Test.YtgngpcailjocoaaSlotsMath
namespace Go.Proofs.Ytgngpcailjocoaa
set_option linter.unusedVariables false

def badT (t : Slt) : Bool := !decide (0 ≤ t.nd ∧ t.nd < 16 ∧ 0 ≤ t.fr ∧ t.fr ≤ 1099511627776 ∧ 1 ≤ t.lg ∧ t.lg ≤ 1048576)
def wrongG (T : List Slt) : Bool := decide (400 < T.length) || T.any badT
def checkG (P : Int) (L T : List Slt) : Int := if rightM P L = true then (if wrongG T = true then 2 else 0) else 1
def inS (P : Int) (t s : Slt) : Bool := decide (s.nd = t.nd ∧ s.fr ≤ t.fr % P ∧ t.fr % P + t.lg ≤ s.fr + s.lg)
def fitsM (P : Int) (L : List Slt) (t : Slt) : Bool := L.any (inS P t)
def mayM (P : Int) (L T : List Slt) : List Bool := T.map (fitsM P L)
def overM (a b : Slt) : Bool := decide (a.fr < b.fr + b.lg ∧ b.fr < a.fr + a.lg)
def clash (P : Int) (L : List Slt) (t u : Slt) : Bool := fitsM P L u && overM t u
/-- Who is let through overlaps himself, so that he is alone where one alone overlaps him. -/
def heardV (P : Int) (L T : List Slt) (t : Slt) : Bool := fitsM P L t && (T.countP (clash P L t) == 1)
def heardM (P : Int) (L T : List Slt) : List Bool := T.map (heardV P L T)
def mayR (P : Int) (L T : List Slt) : List Bool := if checkG P L T = 0 then mayM P L T else []
def heardR (P : Int) (L T : List Slt) : List Bool := if checkG P L T = 0 then heardM P L T else []

structure OkT (t : Slt) : Prop where
  n0 : 0 ≤ t.nd
  n1 : t.nd < 16
  a0 : 0 ≤ t.fr
  a1 : t.fr ≤ 1099511627776
  l0 : 1 ≤ t.lg
  l1 : t.lg ≤ 1048576

theorem badT_false {t : Slt} : badT t = false ↔ OkT t := by
  simp only [badT, Bool.not_eq_false', decide_eq_true_eq]
  exact ⟨fun ⟨a, b, c, d, e, f⟩ => ⟨a, b, c, d, e, f⟩, fun h => ⟨h.n0, h.n1, h.a0, h.a1, h.l0, h.l1⟩⟩
theorem badT_true {t : Slt} (h : ¬ (0 ≤ t.nd ∧ t.nd < 16 ∧ 0 ≤ t.fr ∧ t.fr ≤ 1099511627776 ∧ 1 ≤ t.lg ∧ t.lg ≤ 1048576)) : badT t = true := by
  rw [badT, decide_eq_false h]; rfl
theorem wrongG_false {T : List Slt} : wrongG T = false ↔ T.length ≤ 400 ∧ ∀ t ∈ T, OkT t := by
  rw [wrongG, Bool.or_eq_false_iff, decide_eq_false_iff_not, List.any_eq_false]
  constructor
  · rintro ⟨h1, h2⟩; exact ⟨by omega, fun t ht => badT_false.1 (by simpa using h2 t ht)⟩
  · rintro ⟨h1, h2⟩; exact ⟨by omega, fun t ht => by simp [badT_false.2 (h2 t ht)]⟩
theorem checkG_zero {P : Int} {L T : List Slt} : checkG P L T = 0 ↔ rightM P L = true ∧ T.length ≤ 400 ∧ ∀ t ∈ T, OkT t := by
  rw [← wrongG_false]
  unfold checkG
  cases rightM P L <;> cases wrongG T <;> simp
theorem checkG_1 {P : Int} {L T : List Slt} (h : rightM P L = false) : checkG P L T = 1 := by simp [checkG, h]
theorem checkG_2 {P : Int} {L T : List Slt} (h : rightM P L = true) (h2 : wrongG T = true) : checkG P L T = 2 := by simp [checkG, h, h2]
theorem checkG_0 {P : Int} {L T : List Slt} (h : rightM P L = true) (h2 : wrongG T = false) : checkG P L T = 0 := by simp [checkG, h, h2]
theorem mayR_ok {P : Int} {L T : List Slt} (h : checkG P L T = 0) : mayR P L T = mayM P L T := by rw [mayR, if_pos h]
theorem mayR_no {P : Int} {L T : List Slt} (h : checkG P L T ≠ 0) : mayR P L T = [] := by rw [mayR, if_neg h]
theorem heardR_ok {P : Int} {L T : List Slt} (h : checkG P L T = 0) : heardR P L T = heardM P L T := by rw [heardR, if_pos h]
theorem heardR_no {P : Int} {L T : List Slt} (h : checkG P L T ≠ 0) : heardR P L T = [] := by rw [heardR, if_neg h]
theorem may_len (P : Int) (L T : List Slt) : (mayM P L T).length = T.length := by simp [mayM]
theorem heard_len (P : Int) (L T : List Slt) : (heardM P L T).length = T.length := by simp [heardM]

theorem fits_iff {P : Int} {L : List Slt} {t : Slt} : fitsM P L t = true ↔ ∃ s ∈ L, s.nd = t.nd ∧ s.fr ≤ t.fr % P ∧ t.fr % P + t.lg ≤ s.fr + s.lg := by
  simp only [fitsM, List.any_eq_true, inS, decide_eq_true_eq]
theorem over_comm (a b : Slt) : overM a b = overM b a := by
  unfold overM; rw [Bool.eq_iff_iff, decide_eq_true_eq, decide_eq_true_eq]; omega
theorem over_self {t : Slt} (h : OkT t) : overM t t = true := by
  have := h.l0
  simp only [overM, decide_eq_true_eq]; omega

theorem mod_within {P a d : Int} (hP : 1 ≤ P) (h0 : 0 ≤ d) (h1 : a % P + d < P) : (a + d) % P = a % P + d := by
  have hd := Int.emod_add_mul_ediv a P
  have r0 := Int.emod_nonneg a (show P ≠ 0 by omega)
  have e : a + d = (a % P + d) + P * (a / P) := by omega
  rw [e, Int.add_mul_emod_self_left, Int.emod_eq_of_lt (by omega) h1]
/-- All the times of what is let through are its node's. -/
theorem fits_who {P : Int} {L : List Slt} {t : Slt} (hR : rightM P L = true) (hf : fitsM P L t = true) {d : Int} (d0 : 0 ≤ d) (d1 : d < t.lg) : whoAt ((t.fr + d) % P) L = some t.nd := by
  obtain ⟨⟨hp, _, _⟩, hr⟩ := rightM_true.1 hR
  obtain ⟨s, hs, e, h1, h2⟩ := fits_iff.1 hf
  have := (right_mem hr hs).2.2.2.2
  rw [mod_within hp d0 (by omega), ← e]
  exact who_hit hr hs (by omega) (by omega)
theorem fits_apart {P : Int} {L : List Slt} {t u : Slt} (hR : rightM P L = true) (ht : fitsM P L t = true) (hu : fitsM P L u = true) (h : overM t u = true) (kt : OkT t) (ku : OkT u) : t.nd = u.nd := by
  simp only [overM, decide_eq_true_eq] at h
  have := kt.l0
  have := ku.l0
  rcases Int.le_total t.fr u.fr with hle | hle
  · have h1 := fits_who hR ht (d := u.fr - t.fr) (by omega) (by omega)
    have h2 := fits_who hR hu (d := 0) (by omega) (by omega)
    rw [show t.fr + (u.fr - t.fr) = u.fr + 0 by omega, h2] at h1
    injection h1 with h1; exact h1.symm
  · have h1 := fits_who hR hu (d := t.fr - u.fr) (by omega) (by omega)
    have h2 := fits_who hR ht (d := 0) (by omega) (by omega)
    rw [show u.fr + (t.fr - u.fr) = t.fr + 0 by omega, h2] at h1
    injection h1
/-- What is shorter is let through, if what is longer is. -/
theorem fits_short {P : Int} {L : List Slt} {t : Slt} (hR : rightM P L = true) (hf : fitsM P L t = true) {a b : Int} (ha : 0 ≤ a) (hb : 0 ≤ b) (hab : a + b < t.lg) : fitsM P L ⟨t.nd, t.fr + a, t.lg - a - b⟩ = true := by
  obtain ⟨⟨hp, _, _⟩, hr⟩ := rightM_true.1 hR
  obtain ⟨s, hs, e, h1, h2⟩ := fits_iff.1 hf
  have := (right_mem hr hs).2.2.2.2
  refine fits_iff.2 ⟨s, hs, e, ?_, ?_⟩
  · simp only; rw [mod_within hp ha (by omega)]; omega
  · simp only; rw [mod_within hp ha (by omega)]; omega
/-- A number of cycles later. -/
def later (d : Int) (t : Slt) : Slt := ⟨t.nd, t.fr + d, t.lg⟩
theorem fits_later {P : Int} {L : List Slt} {t : Slt} (r : Int) : fitsM P L (later (P * r) t) = fitsM P L t := by
  have e : (t.fr + P * r) % P = t.fr % P := Int.add_mul_emod_self_left _ _ _
  unfold fitsM
  congr 1
  funext s
  simp only [inS, later, e]
theorem over_later (d : Int) (t u : Slt) : overM (later d t) (later d u) = overM t u := by
  unfold overM later
  rw [Bool.eq_iff_iff, decide_eq_true_eq, decide_eq_true_eq]
  simp only
  omega
theorem heard_later {P : Int} {L T : List Slt} (r : Int) : heardM P L (T.map (later (P * r))) = heardM P L T := by
  unfold heardM
  rw [List.map_map]
  refine List.map_congr_left fun t _ => ?_
  simp only [Function.comp, heardV, fits_later]
  congr 2
  rw [List.countP_map]
  congr 1
  funext u
  simp only [Function.comp, clash, fits_later, over_later]
/-- Who babbles disturbs nobody else. -/
theorem heard_calm {P : Int} {L T : List Slt} (hR : rightM P L = true) (hT : ∀ t ∈ T, OkT t) (node : Int) : heardM P L (T.filter fun t => t.nd != node) = (T.filter fun t => t.nd != node).map (heardV P L T) := by
  unfold heardM
  refine List.map_congr_left fun t ht => ?_
  obtain ⟨hm, hn⟩ := List.mem_filter.1 ht
  have hne : t.nd ≠ node := by simpa using hn
  unfold heardV
  cases hf : fitsM P L t
  · rfl
  · congr 2
    rw [List.countP_filter]
    refine List.countP_congr fun u hu => ?_
    rw [Bool.and_eq_true]
    refine ⟨fun h => h.1, fun h => ⟨h, ?_⟩⟩
    rw [clash, Bool.and_eq_true] at h
    have := fits_apart hR hf h.1 h.2 (hT t hm) (hT u hu)
    simp only [bne_iff_ne]
    omega

/-! By places -/
theorem count_one {T : List Slt} {k : Nat} {t : Slt} {q : Slt → Bool} (hk : T[k]? = some t) (ht : q t = true) : T.countP q = 1 ↔ ∀ i u, i ≠ k → T[i]? = some u → q u = false := by
  obtain ⟨hlt, ek⟩ := List.getElem?_eq_some_iff.1 hk
  have e : T = T.take k ++ t :: T.drop (k + 1) := by
    conv => lhs; rw [← List.take_append_drop k T]
    rw [drop_cons hk]
  have hc : T.countP q = (T.take k).countP q + ((T.drop (k + 1)).countP q + 1) := by
    conv => lhs; rw [e]
    rw [List.countP_append, List.countP_cons_of_pos ht]
  rw [hc]
  constructor
  · intro h i u hi hu
    have h1 : (T.take k).countP q = 0 := by omega
    have h2 : (T.drop (k + 1)).countP q = 0 := by omega
    rw [List.countP_eq_zero] at h1 h2
    rcases Nat.lt_or_ge i k with h3 | h3
    · have := h1 u (List.mem_of_getElem? (show (T.take k)[i]? = some u by rw [List.getElem?_take, if_pos h3]; exact hu))
      simpa using this
    · have := h2 u (List.mem_of_getElem? (show (T.drop (k + 1))[i - (k + 1)]? = some u by rw [List.getElem?_drop, show k + 1 + (i - (k + 1)) = i by omega]; exact hu))
      simpa using this
  · intro h
    have h1 : (T.take k).countP q = 0 := by
      rw [List.countP_eq_zero]
      intro u hu
      obtain ⟨i, hi⟩ := List.getElem?_of_mem hu
      rw [List.getElem?_take] at hi
      split at hi
      · simp [h i u (by omega) hi]
      · cases hi
    have h2 : (T.drop (k + 1)).countP q = 0 := by
      rw [List.countP_eq_zero]
      intro u hu
      obtain ⟨i, hi⟩ := List.getElem?_of_mem hu
      rw [List.getElem?_drop] at hi
      simp [h (k + 1 + i) u (by omega) hi]
    omega
theorem heard_iff {P : Int} {L T : List Slt} {k : Nat} {t : Slt} (hk : T[k]? = some t) (ht : OkT t) : heardV P L T t = true ↔ fitsM P L t = true ∧ ∀ i u, i ≠ k → T[i]? = some u → clash P L t u = false := by
  unfold heardV
  rw [Bool.and_eq_true]
  constructor
  · rintro ⟨h1, h2⟩
    exact ⟨h1, (count_one hk (by rw [clash, h1, over_self ht]; rfl)).1 (by simpa using h2)⟩
  · rintro ⟨h1, h2⟩
    refine ⟨h1, ?_⟩
    simpa using (count_one hk (by rw [clash, h1, over_self ht]; rfl)).2 h2
def hit (P : Int) (L : List Slt) (a b : Slt) : Bool := fitsM P L a && fitsM P L b && overM a b
/-- What Heard has marked, once the pairs ahead of (a, b) are looked at. -/
def HeardTo (P : Int) (L T : List Slt) (a b : Nat) (l : List Bool) : Prop :=
  l.length = T.length ∧ ∀ k t, T[k]? = some t → ∃ v, l[k]? = some v ∧ (v = true ↔ fitsM P L t = true ∧ ∀ x y tx ty, y < x → (x < a ∨ x = a ∧ y < b) → T[x]? = some tx → T[y]? = some ty → hit P L tx ty = true → k ≠ x ∧ k ≠ y)
theorem HeardTo.start (P : Int) (L T : List Slt) : HeardTo P L T 0 0 (mayM P L T) := by
  refine ⟨may_len _ _ _, fun k t hk => ⟨fitsM P L t, by rw [mayM, List.getElem?_map, hk]; rfl, ?_⟩⟩
  exact ⟨fun h => ⟨h, fun x y tx ty _ h => by omega⟩, fun h => h.1⟩
theorem HeardTo.next {P : Int} {L T : List Slt} {a : Nat} {l : List Bool} (h : HeardTo P L T a a l) : HeardTo P L T (a + 1) 0 l := by
  refine ⟨h.1, fun k t hk => ?_⟩
  obtain ⟨v, hv, hi⟩ := h.2 k t hk
  refine ⟨v, hv, hi.trans (and_congr_right fun _ => ⟨fun H x y tx ty hy hx => H x y tx ty hy (by omega), fun H x y tx ty hy hx => H x y tx ty hy (by omega)⟩)⟩
theorem HeardTo.miss {P : Int} {L T : List Slt} {a b : Nat} {ta tb : Slt} {l : List Bool} (h : HeardTo P L T a b l) (ha : T[a]? = some ta) (hb : T[b]? = some tb) (hm : hit P L ta tb = false) : HeardTo P L T a (b + 1) l := by
  refine ⟨h.1, fun k t hk => ?_⟩
  obtain ⟨v, hv, hi⟩ := h.2 k t hk
  refine ⟨v, hv, hi.trans (and_congr_right fun _ => ⟨fun H x y tx ty hy hx ex ey hh => ?_, fun H x y tx ty hy hx => H x y tx ty hy (by omega)⟩)⟩
  by_cases hxy : x = a ∧ y = b
  · obtain ⟨rfl, rfl⟩ := hxy
    rw [ha] at ex; rw [hb] at ey
    injection ex with ex; injection ey with ey
    subst ex ey
    rw [hm] at hh; cases hh
  · exact H x y tx ty hy (by omega) ex ey hh
theorem HeardTo.hits {P : Int} {L T : List Slt} {a b : Nat} {ta tb : Slt} {l : List Bool} (h : HeardTo P L T a b l) (hba : b < a) (ha : T[a]? = some ta) (hb : T[b]? = some tb) (hm : hit P L ta tb = true) : HeardTo P L T a (b + 1) ((l.set a false).set b false) := by
  have la := (List.getElem?_eq_some_iff.1 ha).1
  have lb := (List.getElem?_eq_some_iff.1 hb).1
  have hl := h.1
  refine ⟨by simpa using h.1, fun k t hk => ?_⟩
  obtain ⟨v, hv, hi⟩ := h.2 k t hk
  by_cases hkb : k = b
  · subst hkb
    refine ⟨false, by rw [List.getElem?_set_self (by simp; omega)], ⟨fun h => Bool.noConfusion h, fun H => ?_⟩⟩
    exact absurd rfl (H.2 a k ta tb hba (by omega) ha hb hm).2
  · by_cases hka : k = a
    · subst hka
      refine ⟨false, by rw [List.getElem?_set_ne (Ne.symm hkb), List.getElem?_set_self (by omega)], ⟨fun h => Bool.noConfusion h, fun H => ?_⟩⟩
      exact absurd rfl (H.2 k b ta tb hba (by omega) ha hb hm).1
    · refine ⟨v, by rw [List.getElem?_set_ne (Ne.symm hkb), List.getElem?_set_ne (Ne.symm hka)]; exact hv, hi.trans (and_congr_right fun _ => ⟨fun H x y tx ty hy hx ex ey hh => ?_, fun H x y tx ty hy hx => H x y tx ty hy (by omega)⟩)⟩
      by_cases hxy : x = a ∧ y = b
      · obtain ⟨rfl, rfl⟩ := hxy; exact ⟨hka, hkb⟩
      · exact H x y tx ty hy (by omega) ex ey hh
theorem HeardTo.done {P : Int} {L T : List Slt} {l : List Bool} (h : HeardTo P L T T.length 0 l) (hT : ∀ t ∈ T, OkT t) : l = heardM P L T := by
  refine List.ext_getElem? fun k => ?_
  cases hk : T[k]? with
  | none =>
    have := List.getElem?_eq_none_iff.1 hk
    rw [List.getElem?_eq_none (by rw [h.1]; exact this), heardM, List.getElem?_map, hk]; rfl
  | some t =>
    obtain ⟨v, hv, hi⟩ := h.2 k t hk
    rw [hv, heardM, List.getElem?_map, hk]
    show some v = some _
    congr 1
    rw [Bool.eq_iff_iff, hi, heard_iff hk (hT t (List.mem_of_getElem? hk))]
    refine and_congr_right fun hf => ⟨fun H i u hne hu => ?_, fun H x y tx ty hy hx ex ey hh => ?_⟩
    · cases hc : clash P L t u
      · rfl
      · exfalso
        have li := (List.getElem?_eq_some_iff.1 hu).1
        have lk := (List.getElem?_eq_some_iff.1 hk).1
        rw [clash, Bool.and_eq_true] at hc
        rcases Nat.lt_or_ge i k with h3 | h3
        · exact (H k i t u h3 (by omega) hk hu (by rw [hit, hf, hc.1, hc.2]; rfl)).1 rfl
        · exact (H i k u t (by omega) (by omega) hu hk (by rw [hit, hf, hc.1, over_comm, hc.2]; rfl)).2 rfl
    · rw [hit, Bool.and_eq_true, Bool.and_eq_true] at hh
      obtain ⟨⟨h1, h2⟩, h3⟩ := hh
      constructor
      · rintro rfl
        rw [hk] at ex; injection ex with ex; subst ex
        have := H y ty (by omega) ey
        rw [clash, h2, h3] at this; cases this
      · rintro rfl
        rw [hk] at ey; injection ey with ey; subst ey
        have := H x tx (by omega) ex
        rw [clash, h1, over_comm, h3] at this; cases this
/-- What GuardMay's own loop has found, once the places ahead of i are looked at. -/
def AloneTo (P : Int) (L T : List Slt) (k : Nat) (t : Slt) (i : Nat) (v : Bool) : Prop := v = true ↔ fitsM P L t = true ∧ ∀ j u, j < i → j ≠ k → T[j]? = some u → clash P L t u = false
theorem AloneTo.start (P : Int) (L T : List Slt) (k : Nat) (t : Slt) : AloneTo P L T k t 0 (fitsM P L t) := ⟨fun h => ⟨h, fun j u hj => by omega⟩, fun h => h.1⟩
theorem AloneTo.same {P : Int} {L T : List Slt} {k : Nat} {t u : Slt} {i : Nat} {v : Bool} (h : AloneTo P L T k t i v) (hu : T[i]? = some u) (hc : i = k ∨ clash P L t u = false) : AloneTo P L T k t (i + 1) v := by
  refine Iff.trans h (and_congr_right fun _ => ⟨fun H j u' hj hne hu' => ?_, fun H j u' hj => H j u' (by omega)⟩)
  by_cases hji : j = i
  · subst hji
    rw [hu] at hu'; injection hu' with hu'; subst hu'
    rcases hc with hc | hc
    · exact absurd hc hne
    · exact hc
  · exact H j u' (by omega) hne hu'
theorem AloneTo.no {P : Int} {L T : List Slt} {k : Nat} {t u : Slt} {i : Nat} {v : Bool} (h : AloneTo P L T k t i v) (hu : T[i]? = some u) (hne : i ≠ k) (hc : clash P L t u = true) : AloneTo P L T k t (i + 1) false := by
  refine ⟨fun h => Bool.noConfusion h, fun H => ?_⟩
  have := H.2 i u (by omega) hne hu
  rw [hc] at this; cases this
theorem AloneTo.done {P : Int} {L T : List Slt} {k : Nat} {t : Slt} {v : Bool} (h : AloneTo P L T k t T.length v) (hk : T[k]? = some t) (ht : OkT t) : v = heardV P L T t := by
  rw [Bool.eq_iff_iff, heard_iff hk ht]
  refine Iff.trans h (and_congr_right fun _ => ⟨fun H i u hne hu => H i u (List.getElem?_eq_some_iff.1 hu).1 hne hu, fun H j u _ hne hu => H j u hne hu⟩)
theorem filter_snoc {T : List Slt} {k : Nat} {t : Slt} (p : Slt → Bool) (h : T[k]? = some t) : (T.take (k + 1)).filter p = (T.take k).filter p ++ if p t then [t] else [] := by
  rw [take_snoc h, List.filter_append]
  congr 1
  cases hp : p t <;> simp [hp]
end Go.Proofs.Ytgngpcailjocoaa
