/-
  What slots' functions answer, on plain lists and numbers. No statement of the seat is here.
-/
import Derived.Test.YtgngpcailjocoaaSlotsTypes
namespace Go.Proofs.Ytgngpcailjocoaa
set_option linter.unusedVariables false

def rightFrom (P : Int) : Int → List Slt → Bool
  | _, [] => true
  | e, s :: r => decide (0 ≤ s.nd ∧ s.nd < 16 ∧ 1 ≤ s.lg ∧ e ≤ s.fr ∧ s.lg ≤ P - s.fr) && rightFrom P (s.fr + s.lg) r
def rightM (P : Int) (L : List Slt) : Bool := decide (1 ≤ P ∧ P ≤ 1048576 ∧ L.length ≤ 400) && rightFrom P 0 L
def whoAt (a : Int) : List Slt → Option Int
  | [] => none
  | s :: r => if s.fr ≤ a ∧ a < s.fr + s.lg then some s.nd else whoAt a r
def checkM (P : Int) (L : List Slt) (t : Int) : Int := if rightM P L = true then (if t < 0 ∨ t > 1099511627776 then 2 else 0) else 1
def whoR (a : Int) (L : List Slt) : Int × Int := match whoAt a L with | some x => (x, 0) | none => (0, 3)
def whoM (P : Int) (L : List Slt) (t : Int) : Int × Int := if checkM P L t = 0 then whoR (t % P) L else (0, checkM P L t)
def startsM (node : Int) : List Slt → List Int
  | [] => []
  | s :: r => if s.nd = node then s.fr :: startsM node r else startsM node r
def firstGe (r : Int) : List Int → Option Int
  | [] => none
  | f :: bs => if r ≤ f then some f else firstGe r bs
def nextOf (P : Int) (bs : List Int) (t : Int) : Int := match firstGe (t % P) bs with | some f => t - t % P + f | none => t - t % P + P + bs.headD 0
def nextM (P : Int) (L : List Slt) (node t : Int) : Int × Int := if checkM P L t = 0 then (if startsM node L = [] then (0, 3) else (nextOf P (startsM node L) t, 0)) else (0, checkM P L t)
def gapsM (m last : Int) : List Int → Int
  | [] => m
  | f :: r => gapsM (max m (f - last - 1)) f r
def waitsOf (P : Int) (bs : List Int) : Int := gapsM 0 (bs.getLastD 0 - P) bs
def waitsM (P : Int) (L : List Slt) (node : Int) : Int × Int := if rightM P L = true then (if startsM node L = [] then (0, 3) else (waitsOf P (startsM node L), 0)) else (0, 1)
def shareS (node : Int) : List Slt → Int
  | [] => 0
  | s :: r => (if s.nd = node then s.lg else 0) + shareS node r
def shareM (P : Int) (L : List Slt) (node : Int) : Int × Int := if rightM P L = true then (shareS node L, 0) else (0, 1)

theorem rightFrom_cons {P e : Int} {s : Slt} {r : List Slt} : rightFrom P e (s :: r) = true ↔ (0 ≤ s.nd ∧ s.nd < 16 ∧ 1 ≤ s.lg ∧ e ≤ s.fr ∧ s.lg ≤ P - s.fr) ∧ rightFrom P (s.fr + s.lg) r = true := by
  rw [rightFrom, Bool.and_eq_true, decide_eq_true_eq]
theorem rightM_true {P : Int} {L : List Slt} : rightM P L = true ↔ (1 ≤ P ∧ P ≤ 1048576 ∧ L.length ≤ 400) ∧ rightFrom P 0 L = true := by
  rw [rightM, Bool.and_eq_true, decide_eq_true_eq]
theorem right_mem {P e : Int} {L : List Slt} (h : rightFrom P e L = true) {s : Slt} (hs : s ∈ L) : 0 ≤ s.nd ∧ s.nd < 16 ∧ 1 ≤ s.lg ∧ e ≤ s.fr ∧ s.fr + s.lg ≤ P := by
  induction L generalizing e with
  | nil => cases hs
  | cons x r ih =>
    obtain ⟨⟨h1, h2, h3, h4, h5⟩, hr⟩ := rightFrom_cons.1 h
    rcases List.mem_cons.1 hs with rfl | hs
    · exact ⟨h1, h2, h3, h4, by omega⟩
    · obtain ⟨g1, g2, g3, g4, g5⟩ := ih hr hs
      exact ⟨g1, g2, g3, by omega, g5⟩
theorem right_weak {P e e' : Int} {L : List Slt} (he : e' ≤ e) (h : rightFrom P e L = true) : rightFrom P e' L = true := by
  cases L with
  | nil => rfl
  | cons x r =>
    obtain ⟨⟨h1, h2, h3, h4, h5⟩, hr⟩ := rightFrom_cons.1 h
    exact rightFrom_cons.2 ⟨⟨h1, h2, h3, by omega, h5⟩, hr⟩
theorem starts_mem {node : Int} {L : List Slt} {f : Int} : f ∈ startsM node L ↔ ∃ s ∈ L, s.nd = node ∧ s.fr = f := by
  induction L with
  | nil => simp [startsM]
  | cons x r ih =>
    rw [startsM]
    by_cases hx : x.nd = node
    · rw [if_pos hx, List.mem_cons, ih]
      constructor
      · rintro (rfl | ⟨s, hs, h⟩)
        · exact ⟨x, by simp, hx, rfl⟩
        · exact ⟨s, by simp [hs], h⟩
      · rintro ⟨s, hs, h1, h2⟩
        rcases List.mem_cons.1 hs with rfl | hs
        · exact .inl h2.symm
        · exact .inr ⟨s, hs, h1, h2⟩
    · rw [if_neg hx, ih]
      constructor
      · rintro ⟨s, hs, h⟩; exact ⟨s, by simp [hs], h⟩
      · rintro ⟨s, hs, h1, h2⟩
        rcases List.mem_cons.1 hs with rfl | hs
        · exact absurd h1 hx
        · exact ⟨s, hs, h1, h2⟩
/-- The starts of a node: they rise, and lie within the cycle. -/
structure Good (P : Int) (bs : List Int) : Prop where
  pos : 1 ≤ P
  rise : bs.Pairwise (· < ·)
  lo : ∀ f ∈ bs, 0 ≤ f
  hi : ∀ f ∈ bs, f < P
theorem starts_rise {P e node : Int} {L : List Slt} (h : rightFrom P e L = true) : (startsM node L).Pairwise (· < ·) := by
  induction L generalizing e with
  | nil => exact List.Pairwise.nil
  | cons x r ih =>
    obtain ⟨⟨h1, h2, h3, h4, h5⟩, hr⟩ := rightFrom_cons.1 h
    rw [startsM]
    split
    · refine List.Pairwise.cons (fun f hf => ?_) (ih hr)
      obtain ⟨s, hs, _, rfl⟩ := starts_mem.1 hf
      have := (right_mem hr hs).2.2.2.1
      omega
    · exact ih hr
theorem starts_good {P node : Int} {L : List Slt} (h : rightM P L = true) : Good P (startsM node L) := by
  obtain ⟨⟨h1, _, _⟩, hr⟩ := rightM_true.1 h
  refine ⟨h1, starts_rise hr, fun f hf => ?_, fun f hf => ?_⟩
  · obtain ⟨s, hs, _, rfl⟩ := starts_mem.1 hf; exact (right_mem hr hs).2.2.2.1
  · obtain ⟨s, hs, _, rfl⟩ := starts_mem.1 hf
    have := right_mem hr hs
    omega

/-! Who -/
theorem who_early {P e a : Int} {L : List Slt} (h : rightFrom P e L = true) (ha : a < e) : whoAt a L = none := by
  induction L generalizing e with
  | nil => rfl
  | cons x r ih =>
    obtain ⟨⟨h1, h2, h3, h4, h5⟩, hr⟩ := rightFrom_cons.1 h
    rw [whoAt, if_neg (by omega)]
    exact ih hr (by omega)
theorem who_hit {P e a : Int} {L : List Slt} (h : rightFrom P e L = true) {s : Slt} (hs : s ∈ L) (h1 : s.fr ≤ a) (h2 : a < s.fr + s.lg) : whoAt a L = some s.nd := by
  induction L generalizing e with
  | nil => cases hs
  | cons x r ih =>
    obtain ⟨_, hr⟩ := rightFrom_cons.1 h
    rw [whoAt]
    rcases List.mem_cons.1 hs with rfl | hs
    · rw [if_pos ⟨h1, h2⟩]
    · have := (right_mem hr hs).2.2.2.1
      rw [if_neg (by omega)]
      exact ih hr hs
def cntAt (a : Int) : List Slt → Nat
  | [] => 0
  | s :: r => (if s.fr ≤ a ∧ a < s.fr + s.lg then 1 else 0) + cntAt a r
theorem cnt_early {P e a : Int} {L : List Slt} (h : rightFrom P e L = true) (ha : a < e) : cntAt a L = 0 := by
  induction L generalizing e with
  | nil => rfl
  | cons x r ih =>
    obtain ⟨⟨h1, h2, h3, h4, h5⟩, hr⟩ := rightFrom_cons.1 h
    rw [cntAt, if_neg (by omega), ih hr (by omega)]
theorem who_one {P e a x : Int} {L : List Slt} (h : rightFrom P e L = true) (hw : whoAt a L = some x) : cntAt a L = 1 := by
  induction L generalizing e with
  | nil => cases hw
  | cons y r ih =>
    obtain ⟨⟨h1, h2, h3, h4, h5⟩, hr⟩ := rightFrom_cons.1 h
    rw [whoAt] at hw
    rw [cntAt]
    by_cases hy : y.fr ≤ a ∧ a < y.fr + y.lg
    · rw [if_pos hy, cnt_early hr (by omega)]
    · rw [if_neg hy] at hw ⊢
      rw [ih hr hw]
theorem who_lo {P e a x : Int} {L : List Slt} (h : rightFrom P e L = true) (hw : whoAt a L = some x) : 0 ≤ x ∧ x < 16 := by
  induction L generalizing e with
  | nil => cases hw
  | cons y r ih =>
    obtain ⟨⟨h1, h2, h3, h4, h5⟩, hr⟩ := rightFrom_cons.1 h
    rw [whoAt] at hw
    split at hw
    · injection hw with hw; subst hw; exact ⟨h1, h2⟩
    · exact ih hr hw

/-! Next -/
def nx (P t f : Int) : Int := t + (f - t) % P
theorem nx_form {P f : Int} (t : Int) (hP : 1 ≤ P) (h0 : 0 ≤ f) (h1 : f < P) : nx P t f = if t % P ≤ f then t - t % P + f else t - t % P + P + f := by
  have hd := Int.emod_add_mul_ediv t P
  have r0 := Int.emod_nonneg t (show P ≠ 0 by omega)
  have r1 := Int.emod_lt_of_pos t (show 0 < P by omega)
  unfold nx
  split
  · have e : f - t = (f - t % P) + P * (-(t / P)) := by rw [Int.mul_neg]; omega
    rw [e, Int.add_mul_emod_self_left, Int.emod_eq_of_lt (by omega) (by omega)]; omega
  · have e : f - t = (f - t % P + P) + P * (-(t / P) - 1) := by rw [Int.mul_sub, Int.mul_neg]; omega
    rw [e, Int.add_mul_emod_self_left, Int.emod_eq_of_lt (by omega) (by omega)]; omega
theorem nx_range {P f : Int} (t : Int) (hP : 1 ≤ P) : t ≤ nx P t f ∧ nx P t f < t + P := by
  have r0 := Int.emod_nonneg (f - t) (show P ≠ 0 by omega)
  have r1 := Int.emod_lt_of_pos (f - t) (show 0 < P by omega)
  unfold nx
  omega
theorem nx_small {P f t : Int} (hP : 1 ≤ P) (t0 : 0 ≤ t) (t1 : t ≤ P) (h0 : 0 ≤ f) (h1 : f < P) : nx P t f = if t ≤ f then f else f + P := by
  unfold nx
  split
  · rw [Int.emod_eq_of_lt (by omega) (by omega)]; omega
  · have e : f - t = (f - t + P) + P * (-1) := by omega
    rw [e, Int.add_mul_emod_self_left, Int.emod_eq_of_lt (by omega) (by omega)]; omega
theorem firstGe_some {r f : Int} {bs : List Int} (h : firstGe r bs = some f) : f ∈ bs ∧ r ≤ f := by
  induction bs with
  | nil => cases h
  | cons x bs ih =>
    rw [firstGe] at h
    split at h
    · injection h with h; subst h; exact ⟨by simp, by assumption⟩
    · obtain ⟨h1, h2⟩ := ih h; exact ⟨by simp [h1], h2⟩
theorem firstGe_least {r f : Int} {bs : List Int} (hs : bs.Pairwise (· < ·)) (h : firstGe r bs = some f) : ∀ g ∈ bs, r ≤ g → f ≤ g := by
  induction bs with
  | nil => cases h
  | cons x bs ih =>
    rw [firstGe] at h
    obtain ⟨hx, hr⟩ := List.pairwise_cons.1 hs
    intro g hg hrg
    split at h
    · injection h with h
      subst h
      rcases List.mem_cons.1 hg with rfl | hg
      · exact Int.le_refl _
      · have := hx g hg; omega
    · rcases List.mem_cons.1 hg with rfl | hg
      · omega
      · exact ih hr h g hg hrg
theorem firstGe_none {r : Int} {bs : List Int} (h : firstGe r bs = none) : ∀ g ∈ bs, g < r := by
  induction bs with
  | nil => intro g hg; cases hg
  | cons x bs ih =>
    rw [firstGe] at h
    split at h
    · cases h
    · intro g hg
      rcases List.mem_cons.1 hg with rfl | hg
      · omega
      · exact ih h g hg
theorem head_least {bs : List Int} (hs : bs.Pairwise (· < ·)) : ∀ g ∈ bs, bs.headD 0 ≤ g := by
  cases bs with
  | nil => intro g hg; cases hg
  | cons x bs =>
    intro g hg
    rcases List.mem_cons.1 hg with rfl | hg
    · exact Int.le_refl _
    · exact Int.le_of_lt ((List.pairwise_cons.1 hs).1 g hg)
theorem head_in {bs : List Int} (h : bs ≠ []) : bs.headD 0 ∈ bs := by
  cases bs with
  | nil => exact absurd rfl h
  | cons x bs => simp
theorem last_in {bs : List Int} (h : bs ≠ []) : bs.getLastD 0 ∈ bs := by
  cases bs with
  | nil => exact absurd rfl h
  | cons x bs => simp [List.getLastD]
theorem last_most {bs : List Int} (hs : bs.Pairwise (· < ·)) : ∀ g ∈ bs, g ≤ bs.getLastD 0 := by
  intro g hg
  obtain ⟨pre, z, rfl⟩ : ∃ pre z, bs = pre ++ [z] := by
    rcases List.eq_nil_or_concat bs with rfl | ⟨pre, z, rfl⟩
    · cases hg
    · exact ⟨pre, z, by simp⟩
  have hz : (pre ++ [z]).getLastD 0 = z := by simp [List.getLastD_eq_getLast?]
  rw [hz]
  rcases List.mem_append.1 hg with h | h
  · exact Int.le_of_lt ((List.pairwise_append.1 hs).2.2 g h z (by simp))
  · rw [List.mem_singleton.1 h]; exact Int.le_refl _
section
variable {P : Int} {bs : List Int}
theorem next_in (G : Good P bs) (hne : bs ≠ []) (t : Int) : ∃ f ∈ bs, nextOf P bs t = nx P t f := by
  unfold nextOf
  cases hf : firstGe (t % P) bs with
  | some f =>
    obtain ⟨h1, h2⟩ := firstGe_some hf
    exact ⟨f, h1, by rw [nx_form t G.pos (G.lo f h1) (G.hi f h1), if_pos h2]⟩
  | none =>
    have h1 := head_in hne
    have h2 := firstGe_none hf _ h1
    exact ⟨_, h1, by rw [nx_form t G.pos (G.lo _ h1) (G.hi _ h1), if_neg (by omega)]⟩
theorem next_least (G : Good P bs) (t : Int) : ∀ f ∈ bs, nextOf P bs t ≤ nx P t f := by
  intro f hf
  rw [nx_form t G.pos (G.lo f hf) (G.hi f hf)]
  have hP := G.hi f hf
  have hL := G.lo f hf
  unfold nextOf
  cases hg : firstGe (t % P) bs with
  | some g =>
    obtain ⟨h1, h2⟩ := firstGe_some hg
    have h3 := G.hi g h1
    simp only
    split
    · have := firstGe_least G.rise hg f hf (by assumption); omega
    · omega
  | none =>
    have h1 := firstGe_none hg f hf
    have h2 := head_least G.rise f hf
    simp only
    rw [if_neg (by omega)]
    omega
theorem next_range (G : Good P bs) (hne : bs ≠ []) (t : Int) : t ≤ nextOf P bs t ∧ nextOf P bs t < t + P := by
  obtain ⟨f, _, h⟩ := next_in G hne t
  rw [h]
  exact nx_range t G.pos
/-- What starts next is the start itself where one stands there. -/
theorem next_fix (G : Good P bs) (hne : bs ≠ []) (t : Int) : nextOf P bs (nextOf P bs t) = nextOf P bs t := by
  obtain ⟨f, hf, h⟩ := next_in G hne t
  have h1 := (next_range G hne (nextOf P bs t)).1
  have h2 := next_least G (nextOf P bs t) f hf
  have h3 : nx P (nextOf P bs t) f = nextOf P bs t := by
    rw [h]
    unfold nx
    have e : f - (t + (f - t) % P) = (f - t) - (f - t) % P := by omega
    have e2 : (f - t) - (f - t) % P = P * ((f - t) / P) := by have := Int.emod_add_mul_ediv (f - t) P; omega
    rw [e, e2, Int.mul_emod_right, Int.add_zero]
  omega
theorem next_mod (G : Good P bs) (hne : bs ≠ []) (t : Int) : nextOf P bs t % P ∈ bs := by
  obtain ⟨f, hf, h⟩ := next_in G hne t
  have e : nextOf P bs t % P = f := by
    rw [h]
    unfold nx
    rw [Int.add_emod, Int.emod_emod, ← Int.add_emod]
    have e2 : t + (f - t) = f := by omega
    rw [e2, Int.emod_eq_of_lt (G.lo f hf) (G.hi f hf)]
  rw [e]; exact hf
theorem next_fewer {bs' : List Int} (G : Good P bs) (G' : Good P bs') (hne : bs' ≠ []) (hsub : ∀ f ∈ bs', f ∈ bs) (t : Int) : nextOf P bs t ≤ nextOf P bs' t := by
  obtain ⟨f, hf, h⟩ := next_in G' hne t
  rw [h]
  exact next_least G t f (hsub f hf)

/-! Waits -/
theorem gaps_ge (m last : Int) (bs : List Int) : m ≤ gapsM m last bs := by
  induction bs generalizing m last with
  | nil => exact Int.le_refl _
  | cons f r ih => rw [gapsM]; have := ih (max m (f - last - 1)) f; omega
theorem gaps_bound {m last r f : Int} {bs : List Int} (hl : last < r) (h : firstGe r bs = some f) : f - r ≤ gapsM m last bs := by
  induction bs generalizing m last with
  | nil => cases h
  | cons x bs ih =>
    rw [firstGe] at h
    rw [gapsM]
    split at h
    · injection h with h
      subst h
      have := gaps_ge (max m (x - last - 1)) x bs
      omega
    · exact ih (by omega) h
theorem waits_upper (G : Good P bs) (hne : bs ≠ []) (t : Int) : nextOf P bs t - t ≤ waitsOf P bs := by
  have r0 := Int.emod_nonneg t (show P ≠ 0 by have := G.pos; omega)
  have r1 := Int.emod_lt_of_pos t (show 0 < P by have := G.pos; omega)
  have hl := G.hi _ (last_in hne)
  unfold nextOf waitsOf
  cases hf : firstGe (t % P) bs with
  | some f =>
    have := gaps_bound (m := 0) (last := bs.getLastD 0 - P) (by omega) hf
    simp only
    omega
  | none =>
    have h1 := firstGe_none hf _ (last_in hne)
    cases bs with
    | nil => exact absurd rfl hne
    | cons x r =>
      simp only [List.headD_cons, gapsM]
      have := gaps_ge (max 0 (x - ((x :: r).getLastD 0 - P) - 1)) x r
      omega
theorem gaps_le {M m last : Int} {bs : List Int} (hm : m ≤ M) (h : ∀ pre a f post, last :: bs = pre ++ a :: f :: post → f - a - 1 ≤ M) : gapsM m last bs ≤ M := by
  induction bs generalizing m last with
  | nil => exact hm
  | cons x r ih =>
    rw [gapsM]
    refine ih ?_ fun pre a f post e => h (last :: pre) a f post (by rw [e]; rfl)
    have := h [] last x r rfl
    omega
theorem waits_le (G : Good P bs) (hne : bs ≠ []) {M : Int} (h0 : 0 ≤ M) (h : ∀ b ∈ bs, nextOf P bs (b + 1) - (b + 1) ≤ M) : waitsOf P bs ≤ M := by
  refine gaps_le h0 fun pre a f post e => ?_
  have hmod : ∀ b ∈ bs, ∃ g ∈ bs, nextOf P bs (b + 1) = if b + 1 ≤ g then g else g + P := fun b hb => by
    obtain ⟨g, hg, e⟩ := next_in G hne (b + 1)
    have := G.lo b hb
    have := G.hi b hb
    exact ⟨g, hg, by rw [e, nx_small G.pos (by omega) (by omega) (G.lo g hg) (G.hi g hg)]⟩
  cases pre with
  | nil =>
    simp only [List.nil_append, List.cons.injEq] at e
    obtain ⟨ea, eb⟩ := e
    have hL := last_in hne
    have hM := last_most G.rise
    have hH := head_least G.rise
    have hd : bs.headD 0 = f := by rw [eb]; rfl
    obtain ⟨g, hg, eg⟩ := hmod _ hL
    have h1 := h _ hL
    have h2 := hM g hg
    have h3 := hH g hg
    rw [eg, if_neg (by omega)] at h1
    omega
  | cons y pre =>
    simp only [List.cons_append, List.cons.injEq] at e
    obtain ⟨_, eb⟩ := e
    have ha : a ∈ bs := by rw [eb]; simp
    have hf : f ∈ bs := by rw [eb]; simp
    have hrise := G.rise
    rw [eb] at hrise
    obtain ⟨_, hr2, hr3⟩ := List.pairwise_append.1 hrise
    obtain ⟨hr4, hr5⟩ := List.pairwise_cons.1 hr2
    obtain ⟨hr6, _⟩ := List.pairwise_cons.1 hr5
    obtain ⟨g, hg, eg⟩ := hmod a ha
    have h1 := h a ha
    have h2 := G.lo g hg
    have h3 := G.hi f hf
    rw [eg] at h1
    split at h1
    · have hfg : f ≤ g := by
        rw [eb] at hg
        rcases List.mem_append.1 hg with k | k
        · have := hr3 g k a (by simp); omega
        · rcases List.mem_cons.1 k with rfl | k
          · omega
          · rcases List.mem_cons.1 k with rfl | k
            · exact Int.le_refl _
            · have := hr6 g k; omega
      omega
    · omega
theorem waits_nonneg : 0 ≤ waitsOf P bs := gaps_ge 0 _ _
theorem waits_lt (G : Good P bs) (hne : bs ≠ []) : waitsOf P bs < P := by
  have hP := G.pos
  have := waits_le G hne (M := P - 1) (by omega) (fun b _ => by have := (next_range G hne (b + 1)).2; omega)
  omega
theorem waits_fewer {bs' : List Int} (G : Good P bs) (G' : Good P bs') (hne : bs' ≠ []) (hsub : ∀ f ∈ bs', f ∈ bs) : waitsOf P bs ≤ waitsOf P bs' := by
  have hne0 : bs ≠ [] := by intro e; have := hsub _ (head_in hne); rw [e] at this; cases this
  refine waits_le G hne0 waits_nonneg fun b _ => ?_
  have h1 := next_fewer G G' hne hsub (b + 1)
  have h2 := waits_upper G' hne (b + 1)
  omega
end
end Go.Proofs.Ytgngpcailjocoaa
