/-
  Tasks as pairs of integers, wrong lists; the search for the least end; what is left to do; the first ends of the simulation. No statement of the seat is here.
-/
import Derived.Test.YtajfohnblmnjjaaRtaMath
import Derived.Test.YtajfohnblmnjjaaNums
namespace Go.Proofs.Ytajfohnblmnjjaa
open Go.RowKit
set_option linter.unusedVariables false

structure Tsk where
  p : Int
  c : Int
def tskC (t : Tsk) : List Value := [.int .i64 t.p, .int .i64 t.c]
def Tsk.In (t : Tsk) : Prop := in64 t.p ∧ in64 t.c
/-- In range. -/
def Tsk.Fit (t : Tsk) : Prop := 1 ≤ t.c ∧ t.c ≤ t.p ∧ t.p ≤ 10000
instance (t : Tsk) : Decidable t.Fit := by unfold Tsk.Fit; infer_instance
def badK (t : Tsk) : Bool := !decide t.Fit
def wrongK (L : List Tsk) : Bool := decide (16 < L.length) || L.any badK
def errK (L : List Tsk) : Int := if wrongK L = true then 2 else 0
theorem errK_two {L : List Tsk} (h : wrongK L = true) : errK L = 2 := by rw [errK, if_pos h]
theorem errK_zero {L : List Tsk} (h : wrongK L = false) : errK L = 0 := by rw [errK, if_neg (by rw [h]; exact Bool.false_ne_true)]
theorem badK_false {t : Tsk} (h : t.Fit) : badK t = false := by unfold badK; rw [decide_eq_true h]; rfl
theorem badK_true {t : Tsk} (h : ¬ t.Fit) : badK t = true := by unfold badK; rw [decide_eq_false h]; rfl

/-- A task in range, as the program holds it. -/
def Tk.asT (t : Tk) : Tsk := ⟨t.p, t.c⟩
def tkC (t : Tk) : List Value := [.int .i64 (t.p : Int), .int .i64 (t.c : Int)]
theorem tk_flat (M : List Tk) : (M.map Tk.asT).flatMap tskC = M.flatMap tkC := by rw [List.flatMap_map]; rfl
structure GoodK (M : List Tk) : Prop where
  len : M.length ≤ 16
  ok : ∀ t ∈ M, t.Ok
theorem GoodK.pos {M : List Tk} (h : GoodK M) : ∀ t ∈ M, 0 < t.p := fun t ht => by have := h.ok t ht; unfold Tk.Ok at this; omega
theorem GoodK.at_ {M : List Tk} (h : GoodK M) {k : Nat} {t : Tk} (hk : M[k]? = some t) : 1 ≤ t.c ∧ t.c ≤ t.p ∧ t.p ≤ 10000 := h.ok t (List.mem_of_getElem? hk)
theorem GoodK.take {M : List Tk} (h : GoodK M) (k : Nat) : GoodK (M.take k) := ⟨by have := h.len; rw [List.length_take]; omega, fun t ht => h.ok t (List.mem_of_mem_take ht)⟩
theorem good_of {L : List Tsk} (h : wrongK L = false) : ∃ M : List Tk, L = M.map Tk.asT ∧ GoodK M := by
  unfold wrongK at h
  rw [Bool.or_eq_false_iff, decide_eq_false_iff_not, List.any_eq_false] at h
  obtain ⟨h1, h2⟩ := h
  have hf : ∀ t ∈ L, t.Fit := fun t ht => by
    by_cases g : t.Fit
    · exact g
    · exact absurd (badK_true g) (h2 t ht)
  refine ⟨L.map fun t => ⟨t.p.toNat, t.c.toNat⟩, ?_, by simpa using h1, fun t ht => ?_⟩
  · rw [List.map_map]
    refine (List.map_id L).symm.trans (List.map_congr_left fun t ht => ?_)
    obtain ⟨g1, g2, g3⟩ := hf t ht
    obtain ⟨p, c⟩ := t
    simp only at g1 g2 g3
    simp only [id, Function.comp, Tk.asT, Tsk.mk.injEq]
    omega
  · obtain ⟨s, hs, rfl⟩ := List.mem_map.1 ht
    obtain ⟨g1, g2, g3⟩ := hf s hs
    unfold Tk.Ok
    simp only
    omega
theorem good_not {M : List Tk} (h : GoodK M) : wrongK (M.map Tk.asT) = false := by
  unfold wrongK
  rw [Bool.or_eq_false_iff, decide_eq_false_iff_not, List.any_eq_false]
  refine ⟨by have := h.len; simpa using this, fun s hs => ?_⟩
  obtain ⟨t, ht, rfl⟩ := List.mem_map.1 hs
  have := h.ok t ht
  unfold Tk.Ok at this
  rw [badK_false (by unfold Tsk.Fit Tk.asT; simp only; omega)]
  exact Bool.false_ne_true

/-! the ends of all -/
structure EndsAre (M : List Tk) (R : List Nat) : Prop where
  len : R.length = M.length
  at_ : ∀ k t r, M[k]? = some t → R[k]? = some r → EndIs (M.take k) t r
def NoEnds (M : List Tk) : Prop := ∃ k t, M[k]? = some t ∧ NoEnd (M.take k) t
theorem EndsAre.one {M : List Tk} {R : List Nat} (h : EndsAre M R) {k : Nat} {t : Tk} (hk : M[k]? = some t) : ∃ r, R[k]? = some r ∧ EndIs (M.take k) t r := by
  have hlt : k < R.length := by rw [h.len]; exact (List.getElem?_eq_some_iff.1 hk).1
  exact ⟨_, List.getElem?_eq_getElem hlt, h.at_ k t _ hk (List.getElem?_eq_getElem hlt)⟩
theorem EndsAre.back {M : List Tk} {R : List Nat} (h : EndsAre M R) {k : Nat} {r : Nat} (hk : R[k]? = some r) : ∃ t, M[k]? = some t ∧ EndIs (M.take k) t r := by
  have hlt : k < M.length := by rw [← h.len]; exact (List.getElem?_eq_some_iff.1 hk).1
  exact ⟨_, List.getElem?_eq_getElem hlt, h.at_ k _ r (List.getElem?_eq_getElem hlt) hk⟩
theorem EndsAre.unique {M : List Tk} {R S : List Nat} (h : EndsAre M R) (k : EndsAre M S) : R = S := by
  refine List.ext_getElem? fun j => ?_
  by_cases hj : j < M.length
  · obtain ⟨r, h1, h2⟩ := h.one (List.getElem?_eq_getElem hj)
    obtain ⟨s, k1, k2⟩ := k.one (List.getElem?_eq_getElem hj)
    rw [h1, k1, h2.unique k2]
  · rw [List.getElem?_eq_none (by rw [h.len]; omega), List.getElem?_eq_none (by rw [k.len]; omega)]
theorem EndsAre.not_no {M : List Tk} {R : List Nat} (h : EndsAre M R) : ¬ NoEnds M := fun ⟨k, t, hk, hn⟩ => by
  obtain ⟨r, _, h2⟩ := h.one hk
  exact h2.not_no hn
theorem EndsAre.nil : EndsAre [] [] := ⟨rfl, fun k t r h => by cases h⟩
/-- The ends of the first k, and of one more. -/
theorem EndsAre.snoc {M : List Tk} {R : List Nat} {k r : Nat} {t : Tk} (h : EndsAre (M.take k) R) (hk : M[k]? = some t) (hr : EndIs (M.take k) t r) : EndsAre (M.take (k + 1)) (R ++ [r]) := by
  have hlt := (List.getElem?_eq_some_iff.1 hk).1
  have hl : R.length = k := by rw [h.len, List.length_take]; omega
  refine ⟨by rw [List.length_append, hl, List.length_take, List.length_singleton]; omega, fun j u s hj hs => ?_⟩
  have hjk : j < k + 1 := by have := (List.getElem?_eq_some_iff.1 hj).1; rw [List.length_take] at this; omega
  rw [List.getElem?_take, if_pos hjk] at hj
  rw [List.take_take, show min j (k + 1) = j by omega]
  by_cases e : j = k
  · subst e
    rw [hk] at hj
    cases hj
    rw [List.getElem?_append_right (by omega), hl, Nat.sub_self] at hs
    simp at hs
    subst hs
    exact hr
  · rw [List.getElem?_append_left (by omega)] at hs
    have := h.at_ j u s (by rw [List.getElem?_take, if_pos (by omega)]; exact hj) hs
    rwa [List.take_take, show min j k = j by omega] at this

/-! the search -/
/-- No end below g. -/
def Seek (pre : List Tk) (t : Tk) (g : Nat) : Prop := t.c ≤ g ∧ ∀ r, t.c ≤ r → r < g → t.c + need pre r ≠ r
theorem Seek.start (pre : List Tk) (t : Tk) : Seek pre t t.c := ⟨Nat.le_refl _, fun r h1 h2 => by omega⟩
theorem Seek.more {pre : List Tk} {t : Tk} {g : Nat} (h : Seek pre t g) : g ≤ t.c + need pre g := by
  by_cases e : t.c + need pre g < g
  · exfalso
    have h1 := lt_of_no h.2 _ e
    have h2 := need_mono pre (Nat.le_of_lt e)
    omega
  · omega
theorem Seek.next {pre : List Tk} {t : Tk} {g : Nat} (h : Seek pre t g) : Seek pre t (t.c + need pre g) := by
  refine ⟨by omega, fun r h1 h2 => ?_⟩
  by_cases hr : r < g
  · exact h.2 r h1 hr
  · have := need_mono pre (show g ≤ r by omega)
    omega
/-- One by one. -/
theorem Seek.succ {pre : List Tk} {t : Tk} {g : Nat} (h : Seek pre t g) (hn : t.c + need pre g ≠ g) : Seek pre t (g + 1) := by
  refine ⟨by have := h.1; omega, fun r h1 h2 => ?_⟩
  by_cases hr : r = g
  · subst hr; exact hn
  · exact h.2 r h1 (by omega)
theorem Seek.done {pre : List Tk} {t : Tk} {g : Nat} (h : Seek pre t g) (he : t.c + need pre g = g) (hp : g ≤ t.p) : EndIs pre t g := ⟨h.1, hp, he, h.2⟩
theorem Seek.none {pre : List Tk} {t : Tk} {g : Nat} (h : Seek pre t g) (hp : t.p < g) : NoEnd pre t := fun r h1 h2 => h.2 r h1 (by omega)
theorem up_size {r p : Nat} (hp : 0 < p) : up r p * p ≤ r + p := by
  have := Nat.div_mul_le_self (r + (p - 1)) p
  unfold up
  omega
theorem one_size {t : Tk} (h : t.Ok) (r : Nat) : up r t.p * t.c ≤ r + 10000 := by
  obtain ⟨h1, h2, h3⟩ := h
  have h4 := Nat.mul_le_mul_left (up r t.p) h2
  have h5 := up_size (r := r) (p := t.p) (by omega)
  omega
theorem need_size {M : List Tk} (h : ∀ t ∈ M, t.Ok) (r : Nat) : need M r ≤ M.length * (r + 10000) := by
  induction M with
  | nil => simp [need]
  | cons t M ih =>
    have h1 := ih fun u hu => h u (List.mem_cons_of_mem _ hu)
    have h2 := one_size (h t (by simp)) r
    rw [need, List.length_cons, Nat.succ_mul]
    omega
theorem GoodK.need {M : List Tk} (h : GoodK M) {r : Nat} (hr : r ≤ 20000) : need M r ≤ 480000 := by
  have h1 := need_size h.ok r
  have h2 := Nat.mul_le_mul h.len (show r + 10000 ≤ 30000 by omega)
  omega
theorem need_snoc {M : List Tk} {k : Nat} {t : Tk} (h : M[k]? = some t) (r : Nat) : need (M.take (k + 1)) r = need (M.take k) r + up r t.p * t.c := by
  rw [take_snoc h, need_append]; simp [need]

/-! the simulation -/
/-- One unit later, one period more where the period divides the time. -/
theorem up_next {n p : Nat} (hp : 0 < p) : up (n + 1) p = up n p + if n % p = 0 then 1 else 0 := by
  rw [up_succ hp]
  split
  · rename_i h
    have := up_steps (m := n / p) hp
    rw [Nat.div_mul_cancel (Nat.dvd_of_mod_eq_zero h)] at this
    omega
  · rename_i h
    cases n with
    | zero => simp at h
    | succ n =>
      rw [up_succ hp]
      have : (n + 1) / p = n / p := by
        rw [Nat.succ_div]
        rw [if_neg (fun hd => h (Nat.mod_eq_zero_of_dvd hd))]
        omega
      omega
def leftL : List Tk → List Nat → Nat → List Nat
  | t :: M, d :: D, now => (up now t.p * t.c - d) :: leftL M D now
  | _, _, _ => []
def relL : List Tk → List Nat → Nat → List Nat
  | t :: M, x :: T, now => (if now % t.p = 0 then x + t.c else x) :: relL M T now
  | _, _, _ => []
theorem left_length : ∀ (M : List Tk) (D : List Nat) (now : Nat), M.length = D.length → (leftL M D now).length = M.length
  | [], D, _, _ => by cases D <;> rfl
  | t :: M, [], _, h => by cases h
  | t :: M, d :: D, now, h => by rw [leftL, List.length_cons, List.length_cons, left_length M D now (by simpa using h)]
theorem rel_length : ∀ (M : List Tk) (T : List Nat) (now : Nat), M.length = T.length → (relL M T now).length = M.length
  | [], T, _, _ => by cases T <;> rfl
  | t :: M, [], _, h => by cases h
  | t :: M, x :: T, now, h => by rw [relL, List.length_cons, List.length_cons, rel_length M T now (by simpa using h)]
theorem rel_at : ∀ {M : List Tk} {T : List Nat} {now k : Nat} {t : Tk} {x : Nat}, M[k]? = some t → T[k]? = some x → (relL M T now)[k]? = some (if now % t.p = 0 then x + t.c else x)
  | [], T, _, k, t, x, h, _ => by cases h
  | u :: M, [], _, k, t, x, _, h => by cases h
  | u :: M, y :: T, now, 0, t, x, h, g => by
    simp at h g
    subst h g
    rfl
  | u :: M, y :: T, now, k + 1, t, x, h, g => by
    rw [relL, List.getElem?_cons_succ]
    exact rel_at (by simpa using h) (by simpa using g)
theorem left_at : ∀ {M : List Tk} {D : List Nat} {now k : Nat} {t : Tk} {d : Nat}, M[k]? = some t → D[k]? = some d → (leftL M D now)[k]? = some (up now t.p * t.c - d)
  | [], D, _, k, t, d, h, _ => by cases h
  | u :: M, [], _, k, t, d, _, h => by cases h
  | u :: M, y :: D, now, 0, t, d, h, g => by
    simp at h g
    subst h g
    rfl
  | u :: M, y :: D, now, k + 1, t, d, h, g => by
    rw [leftL, List.getElem?_cons_succ]
    exact left_at (by simpa using h) (by simpa using g)
theorem left_set : ∀ {M : List Tk} {D : List Nat} {now k : Nat} {t : Tk} {d : Nat}, M[k]? = some t → D[k]? = some d → leftL M (D.set k (d + 1)) now = (leftL M D now).set k (up now t.p * t.c - d - 1)
  | [], D, _, k, t, d, h, _ => by cases h
  | u :: M, [], _, k, t, d, _, h => by cases h
  | u :: M, y :: D, now, 0, t, d, h, g => by
    simp at h g
    subst h g
    rw [List.set_cons_zero, leftL, leftL, List.set_cons_zero, Nat.sub_sub]
  | u :: M, y :: D, now, k + 1, t, d, h, g => by
    rw [List.set_cons_succ, leftL, leftL, List.set_cons_succ, left_set (by simpa using h) (by simpa using g)]
/-- What is left, behind the release. -/
theorem left_rel : ∀ {M : List Tk} {D : List Nat} {now : Nat}, (∀ t ∈ M, 0 < t.p) → LeN M D now → relL M (leftL M D now) now = leftL M D (now + 1)
  | [], [], _, _, _ => rfl
  | [], d :: D, _, _, h => h.elim
  | t :: M, [], _, _, h => h.elim
  | t :: M, d :: D, now, hp, h => by
    rw [leftL, leftL, relL, left_rel (fun u hu => hp u (List.mem_cons_of_mem _ hu)) h.2, up_next (hp t (by simp))]
    congr 1
    have := h.1
    split
    · rw [Nat.succ_mul]; omega
    · rfl
theorem left_start : ∀ (M : List Tk), (∀ t ∈ M, 0 < t.p) → leftL M (List.replicate M.length 0) 0 = List.replicate M.length 0
  | [], _ => rfl
  | t :: M, hp => by rw [List.length_cons, List.replicate_succ, leftL, left_start M fun u hu => hp u (List.mem_cons_of_mem _ hu), up_zero (hp t (by simp))]; simp
/-- Who has something to do. -/
def BusyK (M : List Tk) (D : List Nat) (now k : Nat) : Prop := ∃ t d, M[k]? = some t ∧ D[k]? = some d ∧ d < up (now + 1) t.p * t.c
theorem pick_none : ∀ {M : List Tk} {D : List Nat} {now : Nat}, (∀ k, ¬ BusyK M D now k) → pickL M D now = none ∧ tickL M D now = D
  | [], D, _, _ => ⟨rfl, by cases D <;> rfl⟩
  | t :: M, [], _, _ => ⟨rfl, rfl⟩
  | t :: M, d :: D, now, h => by
    have h0 : ¬ d < up (now + 1) t.p * t.c := fun g => h 0 ⟨t, d, rfl, rfl, g⟩
    obtain ⟨e1, e2⟩ := pick_none (M := M) (D := D) (now := now) fun k ⟨u, x, a, b, g⟩ => h (k + 1) ⟨u, x, by simpa using a, by simpa using b, g⟩
    exact ⟨by rw [pickL, if_neg h0, e1]; rfl, by rw [tickL, if_neg h0, e2]⟩
theorem pick_some : ∀ {M : List Tk} {D : List Nat} {now k : Nat} {t : Tk} {d : Nat}, M[k]? = some t → D[k]? = some d → d < up (now + 1) t.p * t.c → (∀ j, j < k → ¬ BusyK M D now j) → pickL M D now = some k ∧ tickL M D now = D.set k (d + 1)
  | [], D, _, k, t, d, h, _, _, _ => by cases h
  | u :: M, [], _, k, t, d, _, h, _, _ => by cases h
  | u :: M, y :: D, now, 0, t, d, h, g, hb, _ => by
    simp at h g
    subst h g
    exact ⟨by rw [pickL, if_pos hb], by rw [tickL, if_pos hb]; rfl⟩
  | u :: M, y :: D, now, k + 1, t, d, h, g, hb, hn => by
    have h0 : ¬ y < up (now + 1) u.p * u.c := fun q => hn 0 (by omega) ⟨u, y, rfl, rfl, q⟩
    obtain ⟨e1, e2⟩ := pick_some (M := M) (D := D) (now := now) (k := k) (by simpa using h) (by simpa using g) hb fun j hj ⟨a, x, p1, p2, q⟩ => hn (j + 1) (by omega) ⟨a, x, by simpa using p1, by simpa using p2, q⟩
    exact ⟨by rw [pickL, if_neg h0, e1]; rfl, by rw [tickL, if_neg h0, e2]; rfl⟩
/-- Who runs, as a number. -/
def whoL (M : List Tk) (now : Nat) : Int := match pickL M (didL M now) now with | none => -1 | some k => k
def ranL (M : List Tk) (long : Nat) : List Int := (List.range long).map (whoL M)
theorem ran_length (M : List Tk) (n : Nat) : (ranL M n).length = n := by simp [ranL]
theorem ran_succ (M : List Tk) (n : Nat) : ranL M (n + 1) = ranL M n ++ [whoL M n] := by unfold ranL; rw [List.range_succ, List.map_append]; rfl
theorem ran_at {M : List Tk} {n k : Nat} (h : k < n) : (ranL M n)[k]? = some (whoL M k) := by unfold ranL; rw [List.getElem?_map, List.getElem?_range h]; rfl
/-- When each had done its first. -/
def firstL (M : List Tk) : Nat → List Int
  | 0 => List.replicate M.length (-1)
  | now + 1 => match pickL M (didL M now) now with
    | none => firstL M now
    | some k => if M[k]?.map (·.c) = some (didK M k (now + 1)) then (firstL M now).set k (now + 1) else firstL M now
theorem first_length (M : List Tk) : ∀ n, (firstL M n).length = M.length
  | 0 => by simp [firstL]
  | n + 1 => by
    rw [firstL]
    split
    · exact first_length M n
    · split
      · rw [List.length_set]; exact first_length M n
      · exact first_length M n
theorem first_none {M : List Tk} {now : Nat} (h : pickL M (didL M now) now = none) : firstL M (now + 1) = firstL M now := by rw [firstL, h]
theorem first_some {M : List Tk} {now k : Nat} (h : pickL M (didL M now) now = some k) : firstL M (now + 1) = if M[k]?.map (·.c) = some (didK M k (now + 1)) then (firstL M now).set k (now + 1) else firstL M now := by rw [firstL, h]
/-- One unit: who is picked does one, the others nothing. -/
theorem did_pick {M : List Tk} {now : Nat} : (pickL M (didL M now) now = none ∧ ∀ k, didK M k (now + 1) = didK M k now) ∨ ∃ j, j < M.length ∧ pickL M (didL M now) now = some j ∧ didK M j (now + 1) = didK M j now + 1 ∧ ∀ k, k ≠ j → didK M k (now + 1) = didK M k now := by
  rcases pick_tick M (didL M now) now (did_length M now).symm with ⟨e1, e2⟩ | ⟨j, d, e1, e2, e3⟩
  · exact .inl ⟨e1, fun k => by unfold didK; rw [didL, e2]⟩
  · have hlt : j < (didL M now).length := (List.getElem?_eq_some_iff.1 e2).1
    refine .inr ⟨j, by rw [← did_length M now]; exact hlt, e1, ?_, fun k hk => ?_⟩
    · unfold didK
      rw [didL, e3, List.getD_eq_getElem?_getD, List.getD_eq_getElem?_getD, List.getElem?_set_self hlt, e2]; rfl
    · unfold didK
      rw [didL, e3, List.getD_eq_getElem?_getD, List.getD_eq_getElem?_getD, List.getElem?_set_ne (Ne.symm hk)]
theorem who_none {M : List Tk} {now : Nat} (h : pickL M (didL M now) now = none) : whoL M now = -1 := by unfold whoL; rw [h]
theorem who_some {M : List Tk} {now k : Nat} (h : pickL M (didL M now) now = some k) : whoL M now = k := by unfold whoL; rw [h]
theorem did_who {M : List Tk} (k now : Nat) : didK M k (now + 1) = didK M k now + if whoL M now = k then 1 else 0 := by
  rcases did_pick (M := M) (now := now) with ⟨e1, e2⟩ | ⟨j, _, e1, e2, e3⟩
  · rw [who_none e1, if_neg (by omega), e2]; rfl
  · rw [who_some e1]
    by_cases h : k = j
    · subst h
      rw [if_pos rfl, e2]
    · rw [if_neg (by omega), e3 k h]; rfl
theorem didK_start (M : List Tk) (k : Nat) : didK M k 0 = 0 := by
  unfold didK
  rw [didL, List.getD_eq_getElem?_getD, List.getElem?_replicate]
  split <;> rfl
theorem first_at_end {M : List Tk} (hM : ∀ t ∈ M, 0 < t.p) {k : Nat} {t : Tk} (hk : M[k]? = some t) (hc : 0 < t.c) {R : Nat} (h : EndIs (M.take k) t R) : ∀ x, (firstL M x)[k]? = some (if R ≤ x then (R : Int) else -1)
  | 0 => by
    have hlt := (List.getElem?_eq_some_iff.1 hk).1
    rw [firstL, List.getElem?_replicate, if_pos hlt, if_neg (by have := h.lo; omega)]
  | x + 1 => by
    have hlt := (List.getElem?_eq_some_iff.1 hk).1
    have ih := first_at_end hM hk hc h x
    obtain ⟨f1, f2⟩ := first_at hM hk hc h
    rcases did_pick (M := M) (now := x) with ⟨e1, e2⟩ | ⟨j, hj, e1, e2, e3⟩
    · rw [first_none e1, ih]
      have := e2 k
      by_cases g : R ≤ x
      · rw [if_pos g, if_pos (by omega)]
      · rw [if_neg g]
        by_cases g2 : R ≤ x + 1
        · have q1 := f1 x (by omega)
          have q2 := f2 (x + 1) g2
          omega
        · rw [if_neg g2]
    · rw [first_some e1]
      by_cases hjk : j = k
      · subst hjk
        rw [hk]
        by_cases g : R ≤ x
        · have q := f2 x g
          rw [if_neg (by simp; omega), ih, if_pos g, if_pos (by omega)]
        · have q1 := f1 x (by omega)
          by_cases g2 : R ≤ x + 1
          · have q2 := f2 (x + 1) g2
            rw [if_pos (by simp; omega), List.getElem?_set_self (by rw [first_length]; exact hlt), if_pos g2]
            congr 1; omega
          · have q3 := f1 (x + 1) (by omega)
            rw [if_neg (by simp; omega), ih, if_neg g, if_neg g2]
      · have e4 := e3 k (fun e => hjk e.symm)
        have ih' : (if M[j]?.map (·.c) = some (didK M j (x + 1)) then (firstL M x).set j (x + 1) else firstL M x)[k]? = (firstL M x)[k]? := by
          split
          · rw [List.getElem?_set_ne hjk]
          · rfl
        rw [ih', ih]
        by_cases g : R ≤ x
        · rw [if_pos g, if_pos (by omega)]
        · rw [if_neg g]
          by_cases g2 : R ≤ x + 1
          · have q1 := f1 x (by omega)
            have q2 := f2 (x + 1) g2
            omega
          · rw [if_neg g2]
theorem first_ends {M : List Tk} (hM : GoodK M) {R : List Nat} (h : EndsAre M R) {x : Nat} (hx : ∀ r ∈ R, r ≤ x) : firstL M x = R.map (fun r : Nat => (r : Int)) := by
  refine List.ext_getElem? fun k => ?_
  by_cases hk : k < M.length
  · obtain ⟨r, h1, h2⟩ := h.one (List.getElem?_eq_getElem hk)
    have := hM.at_ (List.getElem?_eq_getElem hk)
    rw [first_at_end hM.pos (List.getElem?_eq_getElem hk) (by omega) h2, List.getElem?_map, h1, if_pos (hx r (List.mem_of_getElem? h1))]; rfl
  · rw [List.getElem?_eq_none (by rw [first_length]; omega), List.getElem?_eq_none (by rw [List.length_map, h.len]; omega)]
/-- Not more than has come. -/
theorem didK_size {M : List Tk} (hM : GoodK M) {k : Nat} {t : Tk} (hk : M[k]? = some t) (now : Nat) : didK M k now ≤ now := by
  have hs : ∀ (D : List Nat) (j d : Nat), D[j]? = some d → d ≤ sumL D := by
    intro D
    induction D with
    | nil => intro j d h; cases h
    | cons x D ih =>
      intro j d h
      cases j with
      | zero => simp at h; subst h; rw [sumL]; omega
      | succ j => have := ih j d (by simpa using h); rw [sumL]; omega
  have h1 := hs _ _ _ (didK_some (L := M) (now := now) (List.getElem?_eq_some_iff.1 hk).1)
  have h2 := did_sum_le M now
  omega
end Go.Proofs.Ytajfohnblmnjjaa
