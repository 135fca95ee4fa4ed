/-
  What Ends gives, case by case, without Run; slices.Clone at tasks; a task in a block. No statement of the seat is here.
-/
import Derived.Test.YtajfohnblmnjjaaRtaEnds
namespace Go.Proofs.Ytajfohnblmnjjaa
open Go.RowKit
set_option linter.unusedVariables false

theorem asT_inj : ∀ {M M' : List Tk}, M.map Tk.asT = M'.map Tk.asT → M = M'
  | [], [], _ => rfl
  | [], t :: M', h => by simp at h
  | t :: M, [], h => by simp at h
  | t :: M, t' :: M', h => by
    obtain ⟨p, c⟩ := t
    obtain ⟨p', c'⟩ := t'
    simp only [List.map_cons, List.cons.injEq, Tk.asT, Tsk.mk.injEq] at h
    obtain ⟨⟨h1, h2⟩, h3⟩ := h
    rw [asT_inj h3, show p = p' by omega, show c = c' by omega]
theorem ends_dec (M : List Tk) : (∃ R, EndsAre M R) ∨ NoEnds M := by
  have h : ∀ k, k ≤ M.length → (∃ R, EndsAre (M.take k) R) ∨ NoEnds M := by
    intro k
    induction k with
    | zero => intro _; exact .inl ⟨[], by rw [List.take_zero]; exact EndsAre.nil⟩
    | succ k ih =>
      intro hk
      rcases ih (by omega) with ⟨R, hR⟩ | h
      · have ht := List.getElem?_eq_getElem (show k < M.length by omega)
        rcases end_dec (M.take k) M[k] with ⟨r, hr⟩ | hn
        · exact .inl ⟨R ++ [r], hR.snoc ht hr⟩
        · exact .inr ⟨k, _, ht, hn⟩
      · exact .inr h
  have := h M.length (Nat.le_refl _)
  rwa [List.take_of_length_le (Nat.le_refl _)] at this
section
variable {M : List Tk} {L : List Tsk} {w w' : World} {e : Ending}
theorem GivesEnds.wrong (h : GivesEnds L w e w') (hL : wrongK L = true) : e = .returned (.tuple #[.slice none 0 0, .int .i64 2]) ∧ Below w.heap.size w w' := by
  rcases h.1 with ⟨_, h1⟩ | ⟨M', rfl, hM', _⟩
  · exact ⟨h1, h.2⟩
  · rw [good_not hM'] at hL; cases hL
theorem GivesEnds.full (h : GivesEnds (M.map Tk.asT) w e w') (hM : GoodK M) (hN : NoEnds M) : e = .returned (.tuple #[.slice none 0 0, .int .i64 4]) ∧ Below w.heap.size w w' := by
  rcases h.1 with ⟨h1, _⟩ | ⟨M', he, hM', ⟨_, h2⟩ | ⟨R, A, c, hR, h2, _⟩⟩
  · rw [good_not hM] at h1; cases h1
  · exact ⟨h2, h.2⟩
  · rw [asT_inj he] at hN
    exact absurd hN hR.not_no
theorem GivesEnds.ok (h : GivesEnds (M.map Tk.asT) w e w') (hM : GoodK M) {R : List Nat} (hR : EndsAre M R) : ∃ A c, e = .returned (.tuple #[.slice A M.length c, .int .i64 0]) ∧ Rd w' 1 A M.length ((natL R).map (Value.int .i64)) ∧ M.length ≤ c ∧ Below w.heap.size w w' := by
  rcases h.1 with ⟨h1, _⟩ | ⟨M', he, hM', ⟨h1, h2⟩ | ⟨S, A, c, hS, h2, h3⟩⟩
  · rw [good_not hM] at h1; cases h1
  · rw [asT_inj he] at hR
    exact absurd h1 hR.not_no
  · obtain rfl := asT_inj he
    obtain rfl := hR.unique hS
    exact ⟨A, c, h2, h3.rd, h3.len.2.1, h.2⟩
end
/-- Either an error, or the ends. -/
theorem GivesEnds.split {L : List Tsk} {w w' : World} {e : Ending} (h : GivesEnds L w e w') : (∃ A m c x, e = .returned (.tuple #[.slice A m c, .int .i64 x]) ∧ m ≤ L.length ∧ Hid (x ≠ 0 ∨ (x = 0 ∧ m = L.length ∧ ∃ M R, L = M.map Tk.asT ∧ GoodK M ∧ EndsAre M R ∧ Rd w' 1 A L.length ((natL R).map (Value.int .i64)) ∧ L.length ≤ c))) ∧ Below w.heap.size w w' := by
  rcases h.1 with ⟨h1, h2⟩ | ⟨M, he, hM, ⟨h1, h2⟩ | ⟨R, A, c, hR, h2, h3⟩⟩
  · exact ⟨⟨none, 0, 0, 2, h2, Nat.zero_le _, .inl (by decide)⟩, h.2⟩
  · exact ⟨⟨none, 0, 0, 4, h2, Nat.zero_le _, .inl (by decide)⟩, h.2⟩
  · have hl : L.length = M.length := by rw [he, List.length_map]
    rw [← hl] at h2 h3
    exact ⟨⟨A, L.length, c, 0, h2, Nat.le_refl _, .inr ⟨rfl, rfl, M, R, he, hM, hR, h3.rd, h3.len.2.1⟩⟩, h.2⟩
theorem EndsAre.takeN {M : List Tk} {R : List Nat} (h : EndsAre M R) (k : Nat) : EndsAre (M.take k) (R.take k) := by
  refine ⟨by rw [List.length_take, List.length_take, h.len], fun j t r hj hr => ?_⟩
  rw [List.getElem?_take] at hj hr
  split at hj
  · rename_i hjk
    rw [if_pos hjk] at hr
    rw [List.take_take, show min j k = j by omega]
    exact h.at_ j t r hj hr
  · cases hj
/-- A task lies in block b. -/
structure Kept (b : Nat) (p c : Int) (w : World) : Prop where
  fst : w.cell? ⟨b, 0, none⟩ = some (.int .i64 p)
  snd : w.cell? ⟨b, 1, none⟩ = some (.int .i64 c)
theorem Kept.below {b : Nat} {p c : Int} {w w' : World} (h : Kept b p c w) (hb : Below w.heap.size w w') : Kept b p c w' :=
  ⟨(hb.cell (World.block_lt_of_cell? w _ h.fst)).trans h.fst, (hb.cell (World.block_lt_of_cell? w _ h.snd)).trans h.snd⟩
theorem Kept.grown {b : Nat} {p c : Int} {w w' : World} {row : Option Nat} (h : Kept b p c w) (hg : w.grownBy w' row) (hne : row ≠ some b) : Kept b p c w' :=
  ⟨(hg.cell_far _ (World.block_lt_of_cell? w _ h.fst) (fun e => hne e.symm)).trans h.fst, (hg.cell_far _ (World.block_lt_of_cell? w _ h.snd) (fun e => hne e.symm)).trans h.snd⟩
set_option maxHeartbeats 400000 in
theorem CloneK_any (A : Option Addr) (n c : Nat) (l : List Tsk) (w : World) (h : RdG tskC 2 w A n l) (hn : n ≤ 8796093022208) :
    Calls Try.prog 21 #[.slice A n c] w fun e w' => ∃ v, e = .returned v ∧ OwG tskC 2 w' w.heap.size 38 v l ∧ Below w.heap.size w w' := by
  have hq := fun (W : World) => Lib.run_eql_slice_nil (P := Try.prog) W 22 38 A n c 0 0 Try.underlying22
  go_enter Try.func21, Try.ntmps21
  cases A with
  | none =>
    go_wp2
    go_ret
    have hn0 : n = 0 := by
      rcases Nat.eq_zero_or_pos n with h0 | h0
      · exact h0
      · obtain ⟨ad, e, _⟩ := h.2 h0; cases e
    obtain rfl : l = [] := List.eq_nil_of_length_eq_zero ((RdG.len tskK h).trans hn0)
    exact ⟨_, rfl, OwG.nil _ _ _, Below.refl _ _⟩
  | some ad =>
    go_wp2_with (at_builtin; go_must (refine wpList_apG tskK _ elTask rfl rfl w.heap.size (.slice (some ⟨w.heap.size, 0, none⟩) 0 0) [] rfl (OwG.empty _ _ (Nat.le_refl _)) _ _ _ l rfl (h.alloc _) (le_alloc (Nat.le_refl _)) (by simp; omega) (by simp; omega) ?_; intro v1 w1 ho1 hm1))
    go_ret
    exact ⟨_, rfl, ho1, hm1.below ((Below.refl _ _).alloc (Nat.le_refl _) _) (le_alloc (Nat.le_refl _)) (new_block (Nat.le_refl _))⟩
end Go.Proofs.Ytajfohnblmnjjaa
