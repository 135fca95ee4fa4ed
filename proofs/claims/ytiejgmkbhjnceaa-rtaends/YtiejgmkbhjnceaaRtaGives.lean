/-
  What Ends and Run give, case by case; the walk of the laws' own first words (alive19). No statement of the seat is here.
-/
import Derived.Test.YtiejgmkbhjnceaaRtaRun
namespace Go.Proofs.Ytiejgmkbhjnceaa
open Go.RowKit
set_option linter.unusedVariables false

theorem asT_inj : ∀ {M M' : List Tk}, M.map Tk.asT = M'.map Tk.asT → M = M'
  | [], [], _ => rfl
  | [], t :: M', h => by simp at h
  | t :: M, [], h => by simp at h
  | t :: M, t' :: M', h => by
    obtain ⟨p, c⟩ := t
    obtain ⟨p', c'⟩ := t'
    simp only [List.map_cons, List.cons.injEq, Tk.asT, Tsk.mk.injEq] at h
    obtain ⟨⟨h1, h2⟩, h3⟩ := h
    rw [asT_inj h3, show p = p' by omega, show c = c' by omega]
theorem ends_dec (M : List Tk) : (∃ R, EndsAre M R) ∨ NoEnds M := by
  have h : ∀ k, k ≤ M.length → (∃ R, EndsAre (M.take k) R) ∨ NoEnds M := by
    intro k
    induction k with
    | zero => intro _; exact .inl ⟨[], by rw [List.take_zero]; exact EndsAre.nil⟩
    | succ k ih =>
      intro hk
      rcases ih (by omega) with ⟨R, hR⟩ | h
      · have ht := List.getElem?_eq_getElem (show k < M.length by omega)
        rcases end_dec (M.take k) M[k] with ⟨r, hr⟩ | hn
        · exact .inl ⟨R ++ [r], hR.snoc ht hr⟩
        · exact .inr ⟨k, _, ht, hn⟩
      · exact .inr h
  have := h M.length (Nat.le_refl _)
  rwa [List.take_of_length_le (Nat.le_refl _)] at this
section
variable {M : List Tk} {L : List Tsk} {w w' : World} {e : Ending}
theorem GivesEnds.wrong (h : GivesEnds L w e w') (hL : wrongK L = true) : e = .returned (.tuple #[.slice none 0 0, .int .i64 2]) ∧ Below w.heap.size w w' := by
  rcases h.1 with ⟨_, h1⟩ | ⟨M', rfl, hM', _⟩
  · exact ⟨h1, h.2⟩
  · rw [good_not hM'] at hL; cases hL
theorem GivesEnds.full (h : GivesEnds (M.map Tk.asT) w e w') (hM : Good M) (hN : NoEnds M) : e = .returned (.tuple #[.slice none 0 0, .int .i64 4]) ∧ Below w.heap.size w w' := by
  rcases h.1 with ⟨h1, _⟩ | ⟨M', he, hM', ⟨_, h2⟩ | ⟨R, A, c, hR, h2, _⟩⟩
  · rw [good_not hM] at h1; cases h1
  · exact ⟨h2, h.2⟩
  · rw [asT_inj he] at hN
    exact absurd hN hR.not_no
theorem GivesEnds.ok (h : GivesEnds (M.map Tk.asT) w e w') (hM : Good M) {R : List Nat} (hR : EndsAre M R) : ∃ A c, e = .returned (.tuple #[.slice A M.length c, .int .i64 0]) ∧ Rd w' 1 A M.length ((natL R).map (Value.int .i64)) ∧ M.length ≤ c ∧ Below w.heap.size w w' := by
  rcases h.1 with ⟨h1, _⟩ | ⟨M', he, hM', ⟨h1, h2⟩ | ⟨S, A, c, hS, h2, h3⟩⟩
  · rw [good_not hM] at h1; cases h1
  · rw [asT_inj he] at hR
    exact absurd h1 hR.not_no
  · obtain rfl := asT_inj he
    obtain rfl := hR.unique hS
    exact ⟨A, c, h2, h3.rd, h3.len.2.1, h.2⟩
theorem GivesRun.wrong {long : Int} (h : GivesRun L long w e w') (hL : wrongK L = true ∨ long < 0 ∨ 400 < long) : e = .returned (.tuple #[.slice none 0 0, .slice none 0 0, .int .i64 2]) ∧ Below w.heap.size w w' := by
  rcases h.1 with ⟨_, h1⟩ | ⟨M', N, A, B, c, d, rfl, hM', rfl, hN, _⟩
  · exact ⟨h1, h.2⟩
  · rw [good_not hM'] at hL
    rcases hL with hL | hL | hL
    · cases hL
    · omega
    · omega
theorem GivesRun.ok {N : Nat} (h : GivesRun (M.map Tk.asT) (N : Int) w e w') (hM : Good M) (hN : N ≤ 400) : ∃ A B c d, e = .returned (.tuple #[.slice A M.length c, .slice B N d, .int .i64 0]) ∧ Rd w' 1 A M.length ((firstL M N).map (Value.int .i64)) ∧ Rd w' 1 B N ((ranL M N).map (Value.int .i64)) ∧ Below w.heap.size w w' := by
  rcases h.1 with ⟨h1 | h1 | h1, _⟩ | ⟨M', N', A, B, c, d, he, hM', hNN, hN', h1, h2, h3⟩
  · rw [good_not hM] at h1; cases h1
  · omega
  · omega
  · obtain rfl := asT_inj he
    obtain rfl : N = N' := by omega
    exact ⟨A, B, c, d, h1, h2, h3, h.2⟩
end

/-- The least end, checked. -/
def endOk (pre : List Tk) (t : Tk) (R : Nat) : Bool := decide (t.c ≤ R) && decide (R ≤ t.p) && decide (t.c + need pre R = R) && (List.range R).all fun r => decide (r < t.c) || decide (t.c + need pre r ≠ r)
theorem endOk_is {pre : List Tk} {t : Tk} {R : Nat} (h : endOk pre t R = true) : EndIs pre t R := by
  unfold endOk at h
  simp only [Bool.and_eq_true, decide_eq_true_eq, List.all_eq_true, List.mem_range, Bool.or_eq_true] at h
  obtain ⟨⟨⟨h1, h2⟩, h3⟩, h4⟩ := h
  exact ⟨h1, h2, h3, fun r g1 g2 => by rcases h4 r g2 with h | h <;> omega⟩
def aliveM : List Tk := [⟨4, 1⟩, ⟨6, 2⟩, ⟨12, 3⟩]
def aliveN : List Tk := [⟨4, 1⟩, ⟨6, 2⟩]
def aliveO : List Tk := [⟨2, 2⟩, ⟨9, 1⟩]
theorem aliveM_good : Good aliveM := ⟨by decide, by decide⟩
theorem aliveN_good : Good aliveN := ⟨by decide, by decide⟩
theorem aliveO_good : Good aliveO := ⟨by decide, by decide⟩
theorem aliveM_ends : EndsAre aliveM [1, 3, 10] := by
  have h0 : EndsAre (aliveM.take 0) [] := EndsAre.nil
  have h1 := h0.snoc (t := ⟨4, 1⟩) (r := 1) rfl (endOk_is (by decide))
  have h2 := h1.snoc (t := ⟨6, 2⟩) (r := 3) rfl (endOk_is (by decide))
  exact h2.snoc (t := ⟨12, 3⟩) (r := 10) rfl (endOk_is (by decide))
theorem aliveO_none : NoEnds aliveO := by
  refine ⟨1, ⟨9, 1⟩, rfl, fun r h1 h2 => ?_⟩
  have : ∀ r < 10, (decide (r < 1) || decide (1 + need [⟨2, 2⟩] r ≠ r)) = true := by decide
  have := this r (by simp only at h2; omega)
  simp only [Bool.or_eq_true, decide_eq_true_eq] at this
  rcases this with h | h
  · simp only at h1; omega
  · exact h
set_option maxHeartbeats 800000 in
theorem alive19_any (w : World) : Calls Try.prog 15 #[] w fun e w' => e = .returned (.bool true) ∧ Below w.heap.size w w' := by
  have C1 := Lib.hid (fun (W : World) (A : Option Addr) (h : RdG tskC 2 W A 3 (aliveM.map Tk.asT)) => (Ends_any A 3 3 _ W h (by decide) (by decide)).mono fun e w' hg => hg.ok aliveM_good aliveM_ends)
  have C2 := Lib.hid (fun (W : World) (A : Option Addr) (h : RdG tskC 2 W A 2 (aliveN.map Tk.asT)) => (Run_any A 2 2 _ 5 W h (by decide) (by decide) ⟨by decide, by decide⟩).mono fun e w' hg => GivesRun.ok (N := 5) hg aliveN_good (by decide))
  have C3 := Lib.hid (fun (W : World) (A : Option Addr) (h : RdG tskC 2 W A 2 (aliveO.map Tk.asT)) => (Ends_any A 2 2 _ W h (by decide) (by decide)).mono fun e w' hg => hg.full aliveO_good aliveO_none)
  rw [show firstL aliveN 5 = [1, 3] by decide, show ranL aliveN 5 = [0, 1, 1, -1, 0] by decide] at C2
  go_enter Try.func15, Try.ntmps15
  go_wp2_with fail
  refine (C1.out _ _ (Rd.litFlat tskK.len (aliveM.map Tk.asT) _ rfl)).mono ?_
  rintro e w1 ⟨A1, c1, rfl, r1, -, hb1⟩
  have hB1 := below_new hb1
  go_wp2_with fail
  refine (C2.out _ _ (Rd.litFlat tskK.len (aliveN.map Tk.asT) _ rfl)).mono ?_
  rintro e w2 ⟨A2, B2, c2, d2, rfl, r2, s2, hb2⟩
  have hB2 := bthen hB1 (below_new hb2)
  replace r1 := r1.below (below_new hb2)
  go_wp2_with fail
  refine (C3.out _ _ (Rd.litFlat tskK.len (aliveO.map Tk.asT) _ rfl)).mono ?_
  rintro e w3 ⟨rfl, hb3⟩
  have hB3 := bthen hB2 (below_new hb3)
  replace r1 := r1.below (below_new hb3)
  replace r2 := r2.below (below_new hb3)
  replace s2 := s2.below (below_new hb3)
  clear C1 C2 C3 hb1 hb2 hb3 hB1 hB2
  have CA := Lib.hid (EqualI_any_same A1 (some ⟨w3.heap.size, 0, none⟩) 3 c1 3 3 [1, 3, 10] (w3.alloc (.cells #[.int .i64 1, .int .i64 3, .int .i64 10] 3)) (r1.alloc _) (Rd.litAt (Value.int .i64) [1, 3, 10] 3 rfl) (by decide))
  have CB := Lib.hid (fun (W : World) (g : Rd W 1 A2 2 ([1, 3].map (Value.int .i64))) => EqualI_any_same A2 (some ⟨W.heap.size, 0, none⟩) 2 c2 2 2 [1, 3] (W.alloc (.cells #[.int .i64 1, .int .i64 3] 3)) (g.alloc _) (Rd.litAt (Value.int .i64) [1, 3] 3 rfl) (by decide))
  have CC := Lib.hid (fun (W : World) (g : Rd W 1 B2 5 ([0, 1, 1, -1, 0].map (Value.int .i64))) => EqualI_any_same B2 (some ⟨W.heap.size, 0, none⟩) 5 d2 5 5 [0, 1, 1, -1, 0] (W.alloc (.cells #[.int .i64 0, .int .i64 1, .int .i64 1, .int .i64 (-1), .int .i64 0] 3)) (g.alloc _) (Rd.litAt (Value.int .i64) [0, 1, 1, -1, 0] 3 rfl) (by decide))
  have R2 := Lib.hid r2
  have S2 := Lib.hid s2
  clear r1 r2 s2
  go_wp2_with fail
  refine CA.out.mono ?_
  rintro e w5 ⟨rfl, hb5⟩
  replace hb5 := below_new hb5
  have hB5 := bthen hB3 hb5
  replace R2 := R2.out.below hb5
  replace S2 := Lib.hid (S2.out.below hb5)
  go_wp2_with fail
  refine (CB.out _ R2).mono ?_
  rintro e w6 ⟨rfl, hb6⟩
  replace hb6 := below_new hb6
  have hB6 := bthen hB5 hb6
  replace S2 := S2.out.below hb6
  go_wp2_with fail
  refine (CC.out _ S2).mono ?_
  rintro e w7 ⟨rfl, hb7⟩
  replace hb7 := below_new hb7
  go_wp2
  go_ret
  exact ⟨rfl, bthen hB6 hb7⟩
end Go.Proofs.Ytiejgmkbhjnceaa
