/-
  The mathematics of package start: the clashes one after another; each two of them bring one more node in order, so that there are fewer than twice as many as nodes. No statement of the seat is here.
-/
import Derived.Test.YtaliompoknnjgaaBase
namespace Go.Proofs.Ytaliompoknnjgaa
open Go.RowKit
set_option maxRecDepth 20000
set_option linter.unusedVariables false

/-- The first of 0 .. m whose f is least. -/
def argm (f : Nat → Nat) : Nat → Nat
  | 0 => 0
  | m + 1 => if f (m + 1) < f (argm f m) then m + 1 else argm f m
theorem argm_le (f : Nat → Nat) : ∀ m, argm f m ≤ m
  | 0 => Nat.le_refl _
  | m + 1 => by
    have := argm_le f m
    rw [argm]
    split <;> omega
theorem argm_least (f : Nat → Nat) : ∀ m k, k ≤ m → f (argm f m) ≤ f k
  | 0, k, h => by
    obtain rfl : k = 0 := by omega
    exact Nat.le_refl _
  | m + 1, k, h => by
    rw [argm]
    by_cases e : k = m + 1
    · subst e
      split <;> omega
    · have := argm_least f m k (by omega)
      split <;> omega
theorem argm_first (f : Nat → Nat) : ∀ m k, k < argm f m → f (argm f m) < f k
  | 0, k, h => absurd h (by show ¬ k < 0; omega)
  | m + 1, k, h => by
    rw [argm] at h ⊢
    split
    · rename_i g
      rw [if_pos g] at h
      have := argm_least f m k (by omega)
      omega
    · rename_i g
      rw [if_neg g] at h
      exact argm_first f m k h
theorem argm_congr {f g : Nat → Nat} : ∀ {m : Nat}, (∀ k, k ≤ m → ∀ j, j ≤ m → (f k < f j ↔ g k < g j)) → argm f m = argm g m
  | 0, _ => rfl
  | m + 1, h => by
    have e := argm_congr (m := m) fun k hk j hj => h k (by omega) j (by omega)
    have := h (m + 1) (Nat.le_refl _) (argm g m) (by have := argm_le g m; omega)
    rw [argm, argm, e]
    by_cases q : f (m + 1) < f (argm g m)
    · rw [if_pos q, if_pos (this.1 q)]
    · rw [if_neg q, if_neg (fun c => q (this.2 c))]

/-! m + 1 nodes: on, wait; late -/
section
variable (m late : Nat) (on wait : Nat → Nat)
/-- From when on each waits behind i clashes. -/
def frS : Nat → Nat → Nat
  | 0 => on
  | i + 1 => fun k => if on k ≤ frS i (argm (fun j => frS i j + wait j) m) + wait (argm (fun j => frS i j + wait j) m) then frS i (argm (fun j => frS i j + wait j) m) + wait (argm (fun j => frS i j + wait j) m) + late else frS i k
def schS (i k : Nat) : Nat := frS m late on wait i k + wait k
def whoS (i : Nat) : Nat := argm (schS m late on wait i) m
def timS (i : Nat) : Nat := schS m late on wait i (whoS m late on wait i)
/-- There is a clash. -/
def Clash (i : Nat) : Prop := ∃ v, v ≤ m ∧ v ≠ whoS m late on wait i ∧ schS m late on wait i v < timS m late on wait i + late
theorem frS_succ (i k : Nat) : frS m late on wait (i + 1) k = if on k ≤ timS m late on wait i then timS m late on wait i + late else frS m late on wait i k := rfl
theorem whoS_le (i : Nat) : whoS m late on wait i ≤ m := argm_le _ _
theorem timS_le {i k : Nat} (h : k ≤ m) : timS m late on wait i ≤ schS m late on wait i k := argm_least _ m k h
theorem frS_ge (i k : Nat) : on k ≤ frS m late on wait i k := by
  induction i with
  | zero => exact Nat.le_refl _
  | succ i ih =>
    rw [frS_succ]
    split <;> omega
/-- Whoever begins is on. -/
theorem who_on (i : Nat) : on (whoS m late on wait i) ≤ timS m late on wait i := by
  have := frS_ge m late on wait i (whoS m late on wait i)
  unfold timS schS
  omega
theorem tim_waited (i : Nat) : on (whoS m late on wait i) + wait (whoS m late on wait i) ≤ timS m late on wait i := by
  have := frS_ge m late on wait i (whoS m late on wait i)
  unfold timS schS
  omega
/-- Who was not on at the last clash has never been put back; and time goes on. -/
theorem fr_off (hw : ∀ k, k ≤ m → 0 < wait k) (i : Nat) : (∀ k, timS m late on wait i < on k → frS m late on wait (i + 1) k = on k) ∧ timS m late on wait i < timS m late on wait (i + 1) := by
  induction i with
  | zero =>
    have h1 : ∀ k, timS m late on wait 0 < on k → frS m late on wait (0 + 1) k = on k := fun k hk => by rw [frS_succ, if_neg (by omega)]; rfl
    refine ⟨h1, ?_⟩
    have hm := whoS_le m late on wait (0 + 1)
    have hp := hw _ hm
    show _ < frS m late on wait (0 + 1) (whoS m late on wait (0 + 1)) + wait (whoS m late on wait (0 + 1))
    by_cases g : on (whoS m late on wait (0 + 1)) ≤ timS m late on wait 0
    · rw [frS_succ, if_pos g]; omega
    · rw [h1 _ (by omega)]; omega
  | succ i ih =>
    obtain ⟨ih1, ih2⟩ := ih
    have h1 : ∀ k, timS m late on wait (i + 1) < on k → frS m late on wait (i + 1 + 1) k = on k := fun k hk => by rw [frS_succ, if_neg (by omega)]; exact ih1 k (by omega)
    refine ⟨h1, ?_⟩
    have hm := whoS_le m late on wait (i + 1 + 1)
    have hp := hw _ hm
    show _ < frS m late on wait (i + 1 + 1) (whoS m late on wait (i + 1 + 1)) + wait (whoS m late on wait (i + 1 + 1))
    by_cases g : on (whoS m late on wait (i + 1 + 1)) ≤ timS m late on wait (i + 1)
    · rw [frS_succ, if_pos g]; omega
    · rw [h1 _ (by omega)]; omega
/-- How many are on at clash i. -/
def onS (i : Nat) : Nat := (List.range (m + 1)).countP fun k => decide (on k ≤ timS m late on wait i)
end
theorem count_lt {p q : Nat → Bool} {l : List Nat} (h : ∀ k ∈ l, p k = true → q k = true) : l.countP p ≤ l.countP q ∧ ((∃ x ∈ l, q x = true ∧ p x = false) → l.countP p < l.countP q) := by
  induction l with
  | nil => exact ⟨Nat.le_refl _, fun ⟨x, hx, _⟩ => by cases hx⟩
  | cons a l ih =>
    obtain ⟨h1, h2⟩ := ih fun k hk => h k (List.mem_cons_of_mem _ hk)
    have ha := h a (by simp)
    rw [List.countP_cons, List.countP_cons]
    refine ⟨?_, fun ⟨x, hx, hq, hp⟩ => ?_⟩
    · cases ep : p a
      · simp; split <;> omega
      · rw [ha ep]; simp; omega
    · rcases List.mem_cons.1 hx with rfl | hx
      · rw [hq, hp]; simp; omega
      · have := h2 ⟨x, hx, hq, hp⟩
        cases ep : p a
        · simp; split <;> omega
        · rw [ha ep]; simp; omega
section
variable {m late : Nat} {on wait : Nat → Nat}
theorem onS_mono (hw : ∀ k, k ≤ m → 0 < wait k) (i : Nat) : onS m late on wait i ≤ onS m late on wait (i + 1) := by
  have := (fr_off m late on wait hw i).2
  exact (count_lt fun k _ hk => by
    have := of_decide_eq_true hk
    exact decide_eq_true (by omega)).1
theorem onS_le (i : Nat) : onS m late on wait i ≤ m + 1 := by
  unfold onS
  have := List.countP_le_length (p := fun k => decide (on k ≤ timS m late on wait i)) (l := List.range (m + 1))
  rwa [List.length_range] at this
/-- Of three clashes one after another the third finds more nodes on than the first one. -/
theorem onS_more (hw : ∀ k, k ≤ m → 0 < wait k) (hd : ∀ a b, a ≤ m → b ≤ m → a ≠ b → wait a ≤ wait b → wait a + late ≤ wait b) {i : Nat} (hc : Clash m late on wait (i + 1)) : onS m late on wait i < onS m late on wait (i + 2) := by
  by_cases he : onS m late on wait i < onS m late on wait (i + 1)
  · have := onS_mono (late := late) (on := on) hw (i + 1)
    exact Nat.lt_of_lt_of_le he this
  · -- the same nodes are on at i and i + 1
    obtain ⟨_, t1⟩ := fr_off m late on wait hw i
    obtain ⟨o1, t2⟩ := fr_off m late on wait hw (i + 1)
    have hsame : ∀ k, k ≤ m → on k ≤ timS m late on wait (i + 1) → on k ≤ timS m late on wait i := fun k hk hk1 => by
      by_cases g : on k ≤ timS m late on wait i
      · exact g
      · exact absurd ((count_lt (p := fun k => decide (on k ≤ timS m late on wait i)) (q := fun k => decide (on k ≤ timS m late on wait (i + 1))) (l := List.range (m + 1)) fun k _ hk => by
          have := of_decide_eq_true hk
          exact decide_eq_true (by omega)).2 ⟨k, List.mem_range.2 (by omega), decide_eq_true hk1, decide_eq_false g⟩) he
    obtain ⟨v, hv, hvne, hvt⟩ := hc
    have hum := whoS_le m late on wait (i + 1)
    have huon := hsame _ hum (who_on m late on wait (i + 1))
    have hvT := timS_le m late on wait (i := i + 1) hv
    have hTu : timS m late on wait (i + 1) = timS m late on wait i + late + wait (whoS m late on wait (i + 1)) := by
      show frS m late on wait (i + 1) (whoS m late on wait (i + 1)) + wait (whoS m late on wait (i + 1)) = _
      rw [frS_succ, if_pos huon]
    have hvoff : timS m late on wait (i + 1) < on v := by
      by_cases g : on v ≤ timS m late on wait (i + 1)
      · exfalso
        have hvs : schS m late on wait (i + 1) v = timS m late on wait i + late + wait v := by
          unfold schS
          rw [frS_succ, if_pos (hsame v hv g)]
        rw [hvs] at hvt hvT
        rw [hTu] at hvt hvT
        have := hd (whoS m late on wait (i + 1)) v hum hv (Ne.symm hvne) (by omega)
        omega
      · omega
    have hv2 : schS m late on wait (i + 2) v < timS m late on wait (i + 1) + late := by
      unfold schS at hvt ⊢
      rw [show i + 2 = i + 1 + 1 from rfl, frS_succ, if_neg (by omega)]
      exact hvt
    have hT2 := timS_le m late on wait (i := i + 2) hv
    -- who begins then has not been on before
    have hx := whoS_le m late on wait (i + 2)
    have hxon := who_on m late on wait (i + 2)
    have hxoff : timS m late on wait (i + 1) < on (whoS m late on wait (i + 2)) := by
      by_cases g : on (whoS m late on wait (i + 2)) ≤ timS m late on wait (i + 1)
      · exfalso
        have e : timS m late on wait (i + 2) = timS m late on wait (i + 1) + late + wait (whoS m late on wait (i + 2)) := by
          show frS m late on wait (i + 2) (whoS m late on wait (i + 2)) + wait (whoS m late on wait (i + 2)) = _
          rw [show i + 2 = i + 1 + 1 from rfl, frS_succ, if_pos g]
        omega
      · omega
    change timS m late on wait (i + 1) < timS m late on wait (i + 2) at t2
    exact (count_lt fun k _ hk => by
      have := of_decide_eq_true hk
      exact decide_eq_true (by omega)).2 ⟨_, List.mem_range.2 (Nat.lt_succ_of_le hx), decide_eq_true hxon, decide_eq_false (by omega)⟩
theorem onS_pos (i : Nat) : 1 ≤ onS m late on wait i := by
  unfold onS
  exact List.countP_pos_iff.2 ⟨whoS m late on wait i, List.mem_range.2 (Nat.lt_succ_of_le (whoS_le m late on wait i)), decide_eq_true (who_on m late on wait i)⟩
theorem onS_many (hw : ∀ k, k ≤ m → 0 < wait k) (hd : ∀ a b, a ≤ m → b ≤ m → a ≠ b → wait a ≤ wait b → wait a + late ≤ wait b) : ∀ j, (∀ i, i < 2 * j → Clash m late on wait i) → j + 1 ≤ onS m late on wait (2 * j)
  | 0, _ => onS_pos 0
  | j + 1, h => by
    have h1 := onS_many hw hd j fun i hi => h i (by omega)
    have h2 := onS_more hw hd (h (2 * j + 1) (by omega))
    rw [show 2 * (j + 1) = 2 * j + 2 by omega]
    omega
/-- Fewer clashes than twice as many as nodes. -/
theorem few_clashes (hw : ∀ k, k ≤ m → 0 < wait k) (hd : ∀ a b, a ≤ m → b ≤ m → a ≠ b → wait a ≤ wait b → wait a + late ≤ wait b) {c : Nat} (h : ∀ i, i < c → Clash m late on wait i) : c < 2 * (m + 1) := by
  by_cases g : c < 2 * (m + 1)
  · exact g
  · exfalso
    have h1 := onS_many hw hd (m + 1) fun i hi => h i (by omega)
    have h2 := onS_le (m := m) (late := late) (on := on) (wait := wait) (2 * (m + 1))
    omega
/-- All on at once: no clash at all, and the one who waits least begins. -/
theorem soon_none {at_ : Nat} (hd : ∀ a b, a ≤ m → b ≤ m → a ≠ b → wait a ≤ wait b → wait a + late ≤ wait b) (ha : ∀ k, k ≤ m → on k = at_) : ¬ Clash m late on wait 0 ∧ whoS m late on wait 0 = argm wait m ∧ timS m late on wait 0 = at_ + wait (argm wait m) := by
  have hwho : whoS m late on wait 0 = argm wait m := argm_congr fun k hk j hj => by
    show on k + wait k < on j + wait j ↔ _
    rw [ha k hk, ha j hj]
    omega
  have hm := argm_le wait m
  have htim : timS m late on wait 0 = at_ + wait (argm wait m) := by
    unfold timS
    rw [hwho]
    show on (argm wait m) + wait (argm wait m) = _
    rw [ha _ hm]
  refine ⟨fun ⟨v, hv, hne, ht⟩ => ?_, hwho, htim⟩
  rw [htim] at ht
  rw [hwho] at hne
  change on v + wait v < _ at ht
  rw [ha v hv] at ht
  have := hd (argm wait m) v hm hv (Ne.symm hne) (argm_least wait m v hv)
  omega
/-- All so much later: one clash. -/
theorem shift_one {on' : Nat → Nat} {by_ i : Nat} (hf : ∀ k, k ≤ m → frS m late on' wait i k = frS m late on wait i k + by_) : whoS m late on' wait i = whoS m late on wait i ∧ timS m late on' wait i = timS m late on wait i + by_ ∧ (Clash m late on' wait i ↔ Clash m late on wait i) := by
  have hs : ∀ k, k ≤ m → schS m late on' wait i k = schS m late on wait i k + by_ := fun k hk => by unfold schS; rw [hf k hk]; omega
  have hwho : whoS m late on' wait i = whoS m late on wait i := argm_congr fun k hk j hj => by rw [hs k hk, hs j hj]; omega
  have htim : timS m late on' wait i = timS m late on wait i + by_ := by
    unfold timS
    rw [hwho, hs _ (whoS_le m late on wait i)]
  refine ⟨hwho, htim, ?_⟩
  unfold Clash
  rw [hwho, htim]
  constructor
  · rintro ⟨v, hv, hne, ht⟩
    rw [hs v hv] at ht
    exact ⟨v, hv, hne, by omega⟩
  · rintro ⟨v, hv, hne, ht⟩
    exact ⟨v, hv, hne, by rw [hs v hv]; omega⟩
/-- All so much later. -/
theorem shift_fr {on' : Nat → Nat} {by_ : Nat} (h : ∀ k, k ≤ m → on' k = on k + by_) : ∀ i k, k ≤ m → frS m late on' wait i k = frS m late on wait i k + by_
  | 0, k, hk => h k hk
  | i + 1, k, hk => by
    have ih := shift_fr h i
    rw [frS_succ, frS_succ, (shift_one ih).2.1, h k hk, ih k hk]
    split <;> split <;> omega
theorem shift_all {on' : Nat → Nat} {by_ : Nat} (h : ∀ k, k ≤ m → on' k = on k + by_) (i : Nat) : whoS m late on' wait i = whoS m late on wait i ∧ timS m late on' wait i = timS m late on wait i + by_ ∧ (Clash m late on' wait i ↔ Clash m late on wait i) := shift_one (shift_fr h i)
end
end Go.Proofs.Ytaliompoknnjgaa
