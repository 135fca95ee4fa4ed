/-
  Contracts of arb.Play, Win and Order for all arguments. No statement of the seat is here.
-/
import Derived.Test.YtolcfifbnmkfaaaArbPlay
import Derived.Test.YtolcfifbnmkfaaaSortI
namespace Go.Proofs.Ytolcfifbnmkfaaa
open Go.RowKit
set_option linter.unusedVariables false

def sentM (l : List Int) : List Int := if playErr l = 0 then playSent l else []
def busM (l : List Int) : List Bool := if playErr l = 0 then playBus l else []
theorem playErr_zero (l : List Int) : playErr l = 0 ↔ Fair l ∧ l ≠ [] := by
  unfold playErr
  by_cases h : wrongM l = 0
  · have hf := (wrongM_zero l).1 h
    by_cases hl : l = []
    · subst hl
      rw [if_pos ⟨h, rfl⟩]
      simp
    · simp [h, hl, hf]
  · have hf : ¬ Fair l := fun hf => h ((wrongM_zero l).2 hf)
    simp [h, hf]
theorem Play_any (A : Option Addr) (n c : Nat) (l : List Int) (w : World) (h : Rd w 1 A n (l.map (Value.int .i64))) :
    Calls Try.prog 8 #[.slice A n c] w fun e w' => ∃ v b, e = .returned (.tuple #[v, b, .int .i64 (playErr l)]) ∧ Ow (Value.int .i64) w' w.heap.size 3 v (sentM l) ∧ Ow Value.bool w' w.heap.size 4 b (busM l) ∧ Below w.heap.size w w' := by
  by_cases hw : wrongM l = 0
  · by_cases hl : l = []
    · subst hl
      refine (Play_none A n c w h).mono ?_
      rintro e w' ⟨rfl, hb⟩
      exact ⟨_, _, rfl, Ow.nil _ _ _ _, Ow.nil _ _ _ _, hb⟩
    · have hf := (wrongM_zero l).1 hw
      refine (Play_ok A n c l w h hf hl).mono ?_
      rintro e w' ⟨v, b, rfl, h1, h2, hb⟩
      have e0 := (playErr_zero l).2 ⟨hf, hl⟩
      refine ⟨v, b, by rw [e0], ?_, ?_, hb⟩
      · unfold sentM; rw [if_pos e0]; exact h1
      · unfold busM; rw [if_pos e0]; exact h2
  · refine (Play_wrong A n c l w h hw).mono ?_
    rintro e w' ⟨rfl, hb⟩
    have e0 : playErr l = wrongM l := by unfold playErr; rw [if_neg (fun h => hw h.1)]
    have e1 : playErr l ≠ 0 := by rw [e0]; exact hw
    refine ⟨_, _, by rw [e0], ?_, ?_, hb⟩
    · unfold sentM; rw [if_neg e1]; exact Ow.nil _ _ _ _
    · unfold busM; rw [if_neg e1]; exact Ow.nil _ _ _ _
theorem Win_bad (A : Option Addr) (n c : Nat) (l : List Int) (w : World) (h : Rd w 1 A n (l.map (Value.int .i64))) (he : playErr l ≠ 0) :
    Calls Try.prog 9 #[.slice A n c] w fun e w' => e = .returned (.tuple #[.int .i64 0, .int .i64 (playErr l)]) ∧ Below w.heap.size w w' := by
  have hP := Play_any A n c l w h
  have hne : (playErr l != 0) = true := by simpa using he
  generalize playErr l = R at *
  go_enter Try.func9, Try.ntmps9
  go_wp2_with (go_at_call 8; refine hP.mono ?_; rintro e w' ⟨v, b, rfl, h1, h2, hb⟩)
  exact bodyPost_ret (v := .tuple #[.int .i64 0, .int .i64 R]) (by simp [results, Try.results9, go_sem]) rfl ⟨rfl, hb⟩
theorem Win_ok (A : Option Addr) (n c : Nat) (l : List Int) (w : World) (h : Rd w 1 A n (l.map (Value.int .i64))) (hf : Fair l) (hl : l ≠ []) :
    Calls Try.prog 9 #[.slice A n c] w fun e w' => ∃ k : Nat, e = .returned (.tuple #[.int .i64 k, .int .i64 0]) ∧ l[k]? = some (leastI l) ∧ Below w.heap.size w w' := by
  have hP := Play_ok A n c l w h hf hl
  have hm := leastI_mem hl
  have hr := hf.2.1 _ hm
  have hn : n ≤ 400 := by have := hf.1; rw [h.lenMap] at this; exact this
  have hnum := num_B hr.1 hr.2
  have hlen := B_length (leastI l)
  unfold playBus at hP
  have Hm := Lib.hid hm; clear hm
  generalize leastI l = m at *
  generalize playSent l = S at *
  go_enter Try.func9, Try.ntmps9
  go_wp2_with (first
    | (go_at_call 8; refine hP.mono ?_; clear hP; rintro e w1 ⟨v, b, rfl, h1, h2, hb1⟩; obtain ⟨A2, c2, rfl, _, _⟩ := h2.form)
    | (go_at_call 24; refine (Get_ok A2 _ c2 (B m) w1 h2.rd (by omega)).mono ?_; rintro e w2 ⟨rfl, rfl⟩)
    | (go_at_call 32; refine (IndexI_any A n c l _ w1 (h.below hb1) (by omega)).mono ?_; rintro e w3 ⟨r, rfl, hr3, rfl⟩))
  rcases hr3 with ⟨rfl, hno⟩ | ⟨k, rfl, hk, _⟩
  · exact absurd Hm.out hno
  · exact bodyPost_ret (v := .tuple #[.int .i64 k, .int .i64 0]) (by simp [results, Try.results9, go_sem]) rfl ⟨k, rfl, hk, hb1⟩
theorem Order_bad (A : Option Addr) (n c : Nat) (l : List Int) (w : World) (h : Rd w 1 A n (l.map (Value.int .i64))) (he : wrongM l ≠ 0) :
    Calls Try.prog 10 #[.slice A n c] w fun e w' => e = .returned (.tuple #[.slice none 0 0, .int .i64 (wrongM l)]) ∧ Below w.heap.size w w' := by
  have hP := Wrong_any A n c l w h
  have hne : (wrongM l != 0) = true := by simpa using he
  generalize wrongM l = R at *
  go_enter Try.func10, Try.ntmps10
  go_wp2_with (go_at_call 12; refine hP.mono ?_; rintro e w' ⟨rfl, hb⟩)
  exact bodyPost_ret (v := .tuple #[.slice none 0 0, .int .i64 R]) (by simp [results, Try.results10, go_sem]) rfl ⟨rfl, hb⟩
theorem Order_ok (A : Option Addr) (n c : Nat) (l : List Int) (w : World) (h : Rd w 1 A n (l.map (Value.int .i64))) (hf : Fair l) :
    Calls Try.prog 10 #[.slice A n c] w fun e w' => ∃ v, e = .returned (.tuple #[v, .int .i64 0]) ∧ Ow (Value.int .i64) w' w.heap.size 3 v (sortI l) ∧ Below w.heap.size w w' := by
  have hP := Wrong_any A n c l w h
  rw [(wrongM_zero l).2 hf] at hP
  have hn : n ≤ 400 := by have := hf.1; rw [h.lenMap] at this; exact this
  have hln := hf.1
  have Hf := Lib.hid hf; clear hf
  go_enter Try.func10, Try.ntmps10
  go_wp2_with (first
    | (go_at_call 12; refine hP.mono ?_; clear hP; rintro e w1 ⟨rfl, hb1⟩)
    | (go_at_call 23; refine (CloneI_any A n c l w1 (h.below hb1) (by omega)).mono ?_; rintro e w2 ⟨v, rfl, ho2, hb2⟩)
    | (go_at_call 33; refine (Sort_own ho2 (by omega)).mono ?_; rintro e w3 ⟨rfl, ho3, hm3⟩))
  exact bodyPost_ret (v := .tuple #[v, .int .i64 0]) (by simp [results, Try.results10, go_sem]) rfl ⟨v, rfl, ho3.mono hb1.size, hm3.below (bthen hb1 hb2) (bthen hb1 hb2).size (fun k hk => Nat.le_trans hb1.size (ho2.block k hk))⟩
/-- Order's result. -/
def orderM (l : List Int) : List Int := if wrongM l = 0 then sortI l else []
theorem Order_any (A : Option Addr) (n c : Nat) (l : List Int) (w : World) (h : Rd w 1 A n (l.map (Value.int .i64))) :
    Calls Try.prog 10 #[.slice A n c] w fun e w' => ∃ v, e = .returned (.tuple #[v, .int .i64 (wrongM l)]) ∧ Ow (Value.int .i64) w' w.heap.size 3 v (orderM l) ∧ Below w.heap.size w w' := by
  by_cases hw : wrongM l = 0
  · refine (Order_ok A n c l w h ((wrongM_zero l).1 hw)).mono ?_
    rintro e w' ⟨v, rfl, ho, hb⟩
    exact ⟨v, by rw [hw], by unfold orderM; rw [if_pos hw]; exact ho, hb⟩
  · refine (Order_bad A n c l w h hw).mono ?_
    rintro e w' ⟨rfl, hb⟩
    exact ⟨_, rfl, by unfold orderM; rw [if_neg hw]; exact Ow.nil _ _ _ _, hb⟩
end Go.Proofs.Ytolcfifbnmkfaaa
