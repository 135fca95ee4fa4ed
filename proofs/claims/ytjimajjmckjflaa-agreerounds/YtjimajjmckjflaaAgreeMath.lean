/-
  The mathematics of package agree: what Wrong lets pass, one round, many rounds; how near they come. No statement of the seat is here.
-/
import Derived.Test.YtjimajjmckjflaaFtaMath
namespace Go.Proofs.Ytjimajjmckjflaa
open Go.RowKit
set_option linter.unusedVariables false

/-- The rows one by one, and z behind them. -/
def rowsW (k : Int) : List (List Int) → Int → Int
  | [], z => z
  | r :: R, z => if (r.length : Int) ≠ k then 1 else if r.any outX = true then 2 else rowsW k R z
def wrongA (s : List Int) (k : Int) (L : List (List Int)) : Int :=
  if s.length = 0 ∨ 16 < s.length ∨ k < 0 ∨ 16 < k then 2
  else if (s.length : Int) ≤ 3 * k then 8
  else if L.length ≠ s.length then 1
  else rowsW k L (if s.any outX = true then 2 else 0)
def inX (x : Int) : Prop := -1099511627776 ≤ x ∧ x ≤ 1099511627776
theorem outX_no {x : Int} : outX x = false ↔ inX x := by
  simp [outX, inX]
theorem any_out_no {l : List Int} : l.any outX = false ↔ ∀ x ∈ l, inX x := by
  rw [List.any_eq_false]
  constructor
  · intro h x hx
    exact outX_no.1 (Bool.eq_false_iff.2 (h x hx))
  · intro h x hx
    exact Bool.eq_false_iff.1 (outX_no.2 (h x hx))
theorem any_out_yes {l : List Int} : ¬ l.any outX = true ↔ ∀ x ∈ l, inX x := by
  rw [← any_out_no, Bool.eq_false_iff]
/-- What Wrong lets pass. -/
structure Agrees (s : List Int) (q : Nat) (L : List (List Int)) : Prop where
  pos : 0 < s.length
  most : s.length ≤ 16
  few : 3 * q < s.length
  each : L.length = s.length
  rows : ∀ r ∈ L, r.length = q ∧ ∀ x ∈ r, inX x
  shows : ∀ x ∈ s, inX x
theorem rowsW_ok {k : Int} : ∀ {L : List (List Int)} {z : Int}, rowsW k L z = 0 ↔ (∀ r ∈ L, (r.length : Int) = k ∧ ∀ x ∈ r, inX x) ∧ z = 0
  | [], z => by simp [rowsW]
  | r :: R, z => by
    unfold rowsW
    by_cases h1 : (r.length : Int) ≠ k
    · rw [if_pos h1]
      refine ⟨fun h => absurd h (by decide), fun h => absurd (h.1 r (by simp)).1 h1⟩
    · rw [if_neg h1]
      by_cases h2 : r.any outX = true
      · rw [if_pos h2]
        refine ⟨fun h => absurd h (by decide), fun h => absurd h2 (any_out_yes.2 (h.1 r (by simp)).2)⟩
      · rw [if_neg h2, rowsW_ok]
        constructor
        · intro h
          refine ⟨fun x hx => ?_, h.2⟩
          rcases List.mem_cons.1 hx with rfl | hx
          · exact ⟨by omega, any_out_yes.1 h2⟩
          · exact h.1 x hx
        · intro h
          exact ⟨fun x hx => h.1 x (List.mem_cons_of_mem _ hx), h.2⟩
theorem wrongA_ok {s : List Int} {k : Int} {L : List (List Int)} : wrongA s k L = 0 ↔ ∃ q : Nat, k = q ∧ Agrees s q L := by
  unfold wrongA
  by_cases h1 : s.length = 0 ∨ 16 < s.length ∨ k < 0 ∨ 16 < k
  · rw [if_pos h1]
    refine ⟨fun h => absurd h (by decide), ?_⟩
    rintro ⟨q, rfl, h⟩
    have := h.pos; have := h.most; have := h.few
    omega
  · rw [if_neg h1]
    by_cases h2 : (s.length : Int) ≤ 3 * k
    · rw [if_pos h2]
      refine ⟨fun h => absurd h (by decide), ?_⟩
      rintro ⟨q, rfl, h⟩
      have := h.few
      omega
    · rw [if_neg h2]
      by_cases h3 : L.length ≠ s.length
      · rw [if_pos h3]
        refine ⟨fun h => absurd h (by decide), ?_⟩
        rintro ⟨q, rfl, h⟩
        exact absurd h.each h3
      · rw [if_neg h3, rowsW_ok]
        constructor
        · rintro ⟨h4, h5⟩
          refine ⟨k.toNat, by omega, by omega, by omega, by omega, by omega, fun r hr => ?_, ?_⟩
          · have := h4 r hr
            exact ⟨by omega, this.2⟩
          · refine any_out_yes.1 fun h => ?_
            rw [if_pos h] at h5
            exact absurd h5 (by decide)
        · rintro ⟨q, rfl, h⟩
          refine ⟨fun r hr => ⟨by have := (h.rows r hr).1; omega, (h.rows r hr).2⟩, if_neg (any_out_yes.2 h.shows)⟩
theorem rowsW_4 {k : Int} : ∀ {L : List (List Int)} {z : Int}, rowsW k L z = 1 ∨ rowsW k L z = 2 ∨ rowsW k L z = z
  | [], z => .inr (.inr rfl)
  | r :: R, z => by
    unfold rowsW
    split
    · exact .inl rfl
    · split
      · exact .inr (.inl rfl)
      · exact rowsW_4
theorem wrongA_4 (s : List Int) (k : Int) (L : List (List Int)) : wrongA s k L = 0 ∨ wrongA s k L = 1 ∨ wrongA s k L = 2 ∨ wrongA s k L = 8 := by
  unfold wrongA
  split
  · simp
  · split
    · simp
    · split
      · simp
      · have := rowsW_4 (k := k) (L := L) (z := if s.any outX = true then 2 else 0)
        generalize hz : (if s.any outX = true then (2 : Int) else 0) = z at this
        have hz2 : z = 2 ∨ z = 0 := by
          rw [← hz]; split <;> simp
        omega
/-- The same errors where the clocks are the same in another order. -/
theorem wrongA_perm {s s' : List Int} (h : s.Perm s') (k : Int) (L : List (List Int)) : wrongA s k L = wrongA s' k L := by
  have ha : s.any outX = s'.any outX := by
    rw [Bool.eq_iff_iff, List.any_eq_true, List.any_eq_true]
    exact ⟨fun ⟨x, hx, e⟩ => ⟨x, h.mem_iff.1 hx, e⟩, fun ⟨x, hx, e⟩ => ⟨x, h.mem_iff.2 hx, e⟩⟩
  unfold wrongA
  rw [h.length_eq, ha]

/-- The nodes that do not lie. -/
def goodL (s : List Int) (q : Nat) : List Int := s.take (s.length - q)
def roundM (s : List Int) (q : Nat) (L : List (List Int)) : List Int := L.map fun r => midV (goodL s q ++ r) q
def roundsM (s : List Int) (q : Nat) (L : List (List Int)) : Nat → List Int
  | 0 => s
  | m + 1 => roundM (roundsM s q L m) q L
def wd (l : List Int) : Int := greatI l - leastI l

section
variable {s : List Int} {q : Nat} {L : List (List Int)}
theorem Agrees.good_len (h : Agrees s q L) : (goodL s q).length = s.length - q := by
  rw [goodL, List.length_take]; omega
theorem Agrees.good_ne (h : Agrees s q L) : goodL s q ≠ [] := by
  intro e
  have := h.good_len
  have := h.few
  rw [e] at *
  simp at *
  omega
theorem good_mem {x : Int} (hx : x ∈ goodL s q) : x ∈ s := List.mem_of_mem_take hx
theorem Agrees.fine (h : Agrees s q L) {r : List Int} (hr : r ∈ L) : Fine (goodL s q ++ r) (q : Int) := by
  have h1 := (h.rows r hr).1
  have h2 := h.few
  have h3 := h.most
  have h4 : (goodL s q ++ r).length = s.length := by rw [List.length_append, h.good_len]; omega
  refine ⟨by omega, by omega, by omega, fun x hx => ?_⟩
  rcases List.mem_append.1 hx with hx | hx
  · exact h.shows x (good_mem hx)
  · exact (h.rows r hr).2 x hx
theorem Agrees.mid (h : Agrees s q L) {r : List Int} (hr : r ∈ L) : inX (midV (goodL s q ++ r) q) := by
  have := (h.fine hr).mid
  rwa [show ((q : Int)).toNat = q by omega] at this
theorem round_len (s : List Int) (q : Nat) (L : List (List Int)) : (roundM s q L).length = L.length := by simp [roundM]
theorem Agrees.round (h : Agrees s q L) : Agrees (roundM s q L) q L where
  pos := by rw [round_len, h.each]; exact h.pos
  most := by rw [round_len, h.each]; exact h.most
  few := by rw [round_len, h.each]; exact h.few
  each := by rw [round_len]
  rows := h.rows
  shows := fun x hx => by
    obtain ⟨r, hr, rfl⟩ := List.mem_map.1 hx
    exact h.mid hr
theorem Agrees.rounds (h : Agrees s q L) : ∀ m, Agrees (roundsM s q L m) q L
  | 0 => h
  | m + 1 => (h.rounds m).round
theorem rounds_len (h : Agrees s q L) (m : Nat) : (roundsM s q L m).length = s.length := by
  rw [← (h.rounds m).each, h.each]

/-- THEY COME NEARER. -/
theorem Agrees.half (h : Agrees s q L) : 2 * wd (goodL (roundM s q L) q) ≤ wd (goodL s q) + 1 := by
  have hg := h.good_len
  have hf := h.few
  have hin : ∀ x ∈ goodL s q, leastI (goodL s q) ≤ x ∧ x ≤ greatI (goodL s q) := fun x hx => ⟨leastI_le hx, greatI_le hx⟩
  obtain ⟨r1, hr1, e1⟩ := List.mem_map.1 (good_mem (greatI_mem h.round.good_ne))
  obtain ⟨r2, hr2, e2⟩ := List.mem_map.1 (good_mem (leastI_mem h.round.good_ne))
  change _ = greatI (goodL (roundM s q L) q) at e1
  change _ = leastI (goodL (roundM s q L) q) at e2
  have l1 := (h.rows r1 hr1).1
  have l2 := (h.rows r2 hr2).1
  have := (Go.Proofs.Ytjimajjmckjflaa.half (bad := r1) (other := r2) (good := goodL s q) (all := goodL s q ++ r1) (all' := goodL s q ++ r2) List.perm_append_comm List.perm_append_comm (by omega) (by omega) hin).1
  rw [l1] at this
  unfold wd
  rw [← e1, ← e2]
  exact this
theorem Agrees.within_step (h : Agrees s q L) {lo hi : Int} (hin : ∀ x ∈ goodL s q, lo ≤ x ∧ x ≤ hi) : ∀ x ∈ roundM s q L, lo ≤ x ∧ x ≤ hi := by
  intro x hx
  obtain ⟨r, hr, rfl⟩ := List.mem_map.1 hx
  have hl := (h.rows r hr).1
  have hg := h.good_len
  have hf := h.few
  refine mid_between (by rw [List.length_append]; omega) fun j h1 h2 => ?_
  exact nth_safe (bad := r) (good := goodL s q) List.perm_append_comm hin (by omega) (by omega)
/-- NOBODY IS LED OUT. -/
theorem Agrees.within (h : Agrees s q L) {lo hi : Int} (hin : ∀ x ∈ goodL s q, lo ≤ x ∧ x ≤ hi) : ∀ m, ∀ x ∈ goodL (roundsM s q L m) q, lo ≤ x ∧ x ≤ hi
  | 0 => hin
  | m + 1 => fun x hx => (h.rounds m).within_step (h.within hin m) x (good_mem hx)
theorem wd_nonneg {l : List Int} (hl : l ≠ []) : 0 ≤ wd l := by
  have := leastI_le (greatI_mem hl)
  unfold wd
  omega
theorem Agrees.wd_bound (h : Agrees s q L) : 0 ≤ wd (goodL s q) ∧ wd (goodL s q) ≤ 2199023255552 := by
  refine ⟨wd_nonneg h.good_ne, ?_⟩
  have h1 := h.shows _ (good_mem (greatI_mem h.good_ne))
  have h2 := h.shows _ (good_mem (leastI_mem h.good_ne))
  unfold inX at h1 h2
  unfold wd
  omega
/-- THEY ARE TOGETHER SOON. -/
theorem Agrees.soon (h : Agrees s q L) {j : Nat} (hj : wd (goodL s q) ≤ (2 ^ j : Nat)) : ∀ m, wd (goodL (roundsM s q L m) q) ≤ (2 ^ (j - m) : Nat)
  | 0 => hj
  | m + 1 => by
    have h1 := h.soon hj m
    have h2 := (h.rounds m).half
    change 2 * wd (goodL (roundM (roundsM s q L m) q L) q) ≤ _ at h2
    show wd (goodL (roundM (roundsM s q L m) q L) q) ≤ _
    by_cases hm : m < j
    · have e : 2 ^ (j - m) = 2 * 2 ^ (j - (m + 1)) := by rw [show j - m = j - (m + 1) + 1 by omega, Nat.pow_succ, Nat.mul_comm]
      rw [e] at h1
      omega
    · rw [show j - m = 0 by omega] at h1
      rw [show j - (m + 1) = 0 by omega]
      simp only [Nat.pow_zero] at h1 ⊢
      omega
theorem Agrees.soon1 (h : Agrees s q L) {j : Nat} (hj : wd (goodL s q) < (2 ^ j : Nat)) : wd (goodL (roundsM s q L (j + 1)) q) ≤ 1 := by
  have := h.soon (j := j) (by omega) (j + 1)
  rw [show j - (j + 1) = 0 by omega] at this
  simpa using this
end

/-! Wide -/
def wideE (s : List Int) (k : Int) : Int := if k < 0 ∨ (s.length : Int) ≤ k ∨ 16 < s.length ∨ s.any outX = true then 2 else 0
def wideR (s : List Int) (k : Int) : Int := if wideE s k = 0 then wd (goodL s k.toNat) else 0
theorem wideE_ok {s : List Int} {k : Int} : wideE s k = 0 ↔ 0 ≤ k ∧ k < (s.length : Int) ∧ s.length ≤ 16 ∧ ∀ x ∈ s, inX x := by
  unfold wideE
  split
  · rename_i h
    refine ⟨fun h => absurd h (by decide), fun ⟨h1, h2, h3, h4⟩ => ?_⟩
    rcases h with h | h | h | h
    · omega
    · omega
    · omega
    · exact absurd h (any_out_yes.2 h4)
  · rename_i h
    simp only [not_or] at h
    exact ⟨fun _ => ⟨by omega, by omega, by omega, any_out_yes.1 h.2.2.2⟩, fun _ => rfl⟩
theorem wideE_2 (s : List Int) (k : Int) : wideE s k = 0 ∨ wideE s k = 2 := by
  unfold wideE; split <;> simp
theorem wideR_ok {s : List Int} {k : Int} (h : wideE s k = 0) : wideR s k = wd (goodL s k.toNat) := if_pos h
theorem wideR_no {s : List Int} {k : Int} (h : ¬ wideE s k = 0) : wideR s k = 0 := if_neg h
theorem Agrees.wide {s : List Int} {q : Nat} {L : List (List Int)} (h : Agrees s q L) : wideE s q = 0 ∧ wideR s q = wd (goodL s q) := by
  have h1 : wideE s q = 0 := wideE_ok.2 ⟨by omega, by have := h.few; omega, h.most, h.shows⟩
  exact ⟨h1, by rw [wideR_ok h1, show ((q : Int)).toNat = q by omega]⟩
theorem wide_bounds {s : List Int} {k : Int} (h : wideE s k = 0) : inX (greatI (goodL s k.toNat)) ∧ inX (leastI (goodL s k.toNat)) ∧ 0 < (goodL s k.toNat).length ∧ (goodL s k.toNat).length = s.length - k.toNat := by
  obtain ⟨h1, h2, h3, h4⟩ := wideE_ok.1 h
  have hl : (goodL s k.toNat).length = s.length - k.toNat := by rw [goodL, List.length_take]; omega
  have hne : goodL s k.toNat ≠ [] := by
    intro e
    rw [e] at hl
    simp at hl
    omega
  exact ⟨h4 _ (good_mem (greatI_mem hne)), h4 _ (good_mem (leastI_mem hne)), by omega, hl⟩

/-! Rounds -/
def roundsE (s : List Int) (k : Int) (L : List (List Int)) (m : Int) : Int := if wrongA s k L = 0 then (if m < 0 ∨ 100 < m then 2 else 0) else wrongA s k L
def roundsR (s : List Int) (k : Int) (L : List (List Int)) (m : Int) : List Int := if roundsE s k L m = 0 then roundsM s k.toNat L m.toNat else []
theorem roundsE_wrong {s : List Int} {k : Int} {L : List (List Int)} {m : Int} (h : ¬ wrongA s k L = 0) : roundsE s k L m = wrongA s k L := if_neg h
theorem roundsE_many {s : List Int} {k : Int} {L : List (List Int)} {m : Int} (h : wrongA s k L = 0) (hm : m < 0 ∨ 100 < m) : roundsE s k L m = 2 := by
  rw [roundsE, if_pos h, if_pos hm]
theorem roundsE_ok {s : List Int} {k : Int} {L : List (List Int)} {m : Int} (h : wrongA s k L = 0) (h0 : 0 ≤ m) (h1 : m ≤ 100) : roundsE s k L m = 0 := by
  rw [roundsE, if_pos h, if_neg (by omega)]
theorem roundsR_ok {s : List Int} {k : Int} {L : List (List Int)} {m : Int} (h : roundsE s k L m = 0) : roundsR s k L m = roundsM s k.toNat L m.toNat := if_pos h
theorem roundsR_no {s : List Int} {k : Int} {L : List (List Int)} {m : Int} (h : ¬ roundsE s k L m = 0) : roundsR s k L m = [] := if_neg h
theorem roundsE_1 (s : List Int) (k : Int) (L : List (List Int)) : roundsE s k L 1 = wrongA s k L := by
  by_cases h : wrongA s k L = 0
  · rw [roundsE_ok h (by decide) (by decide), h]
  · exact roundsE_wrong h
theorem roundsE_all {s : List Int} {k : Int} {L : List (List Int)} {m : Int} : roundsE s k L m = 0 ↔ (∃ q : Nat, k = q ∧ Agrees s q L) ∧ ∃ p : Nat, m = p ∧ p ≤ 100 := by
  by_cases h : wrongA s k L = 0
  · constructor
    · intro e
      refine ⟨wrongA_ok.1 h, m.toNat, ?_⟩
      by_cases hm : m < 0 ∨ 100 < m
      · rw [roundsE_many h hm] at e
        exact absurd e (by decide)
      · omega
    · rintro ⟨_, p, rfl, hp⟩
      exact roundsE_ok h (by omega) (by omega)
  · rw [roundsE_wrong h]
    refine ⟨fun e => absurd e h, fun ⟨e, _⟩ => absurd (wrongA_ok.2 e) h⟩

/-! Without liars -/
theorem mid_perm {l l' : List Int} (h : l.Perm l') (n : Nat) : midV l n = midV l' n := by
  unfold midV nth
  rw [sortI_perm h, h.length_eq]
theorem true_round {s s' : List Int} (h : s.Perm s') (n : Nat) : roundM s 0 (List.replicate n []) = roundM s' 0 (List.replicate n []) := by
  unfold roundM
  simp only [List.map_replicate, List.append_nil, goodL, Nat.sub_zero, List.take_length]
  rw [mid_perm h]
theorem same_wd {n : Nat} {x : Int} (hn : 0 < n) : wd (List.replicate n x) = 0 := by
  have hne : List.replicate n x ≠ [] := by
    intro e
    have := congrArg List.length e
    simp at this
    omega
  have h1 := List.eq_of_mem_replicate (greatI_mem hne)
  have h2 := List.eq_of_mem_replicate (leastI_mem hne)
  unfold wd
  omega
theorem true_wd {s : List Int} {n : Nat} (hn : 0 < n) : wd (goodL (roundM s 0 (List.replicate n [])) 0) = 0 := by
  unfold roundM
  simp only [List.map_replicate, goodL, Nat.sub_zero, List.take_length]
  exact same_wd hn
end Go.Proofs.Ytjimajjmckjflaa
