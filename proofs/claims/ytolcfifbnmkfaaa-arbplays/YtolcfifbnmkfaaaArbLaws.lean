/-
  arb's laws: the fixed example, and that all go in the end, the least number first.
-/
import Derived.Test.YtolcfifbnmkfaaaArbWin
namespace Go.Proofs.Ytolcfifbnmkfaaa
open Go.RowKit
set_option linter.unusedVariables false

theorem Ow.formN {α : Type} {f : α → Value} {w : World} {base : Nat} {e : TypeId} {v : Value} {l : List α} (h : Ow f w base e v l) {n : Nat} (hn : l.length = n) : ∃ A c, v = .slice A n c ∧ n ≤ c ∧ c ≤ maxLen ∧ Rd w 1 A n (l.map f) := by
  subst hn
  obtain ⟨A, c, rfl, h1, h2⟩ := h.form
  exact ⟨A, c, rfl, h1, h2, h.rd⟩
theorem sortI_sorted (l : List Int) : (sortI l).Pairwise (· ≤ ·) := by
  have := List.pairwise_mergeSort (le := fun x y : Int => decide (x ≤ y)) (by intro a b c; simp; omega) (by intro a b; simp; omega) l
  exact this.imp (by simp)
theorem sortI_eq {l l' : List Int} (hp : l.Perm l') (hs : l'.Pairwise (· ≤ ·)) : sortI l = l' := by
  rw [sortI_perm hp]
  exact List.mergeSort_of_pairwise (hs.imp (by simp))
theorem Fair.perm {l l' : List Int} (h : Fair l) (hp : l.Perm l') : Fair l' :=
  ⟨by rw [← hp.length_eq]; exact h.1, fun x hx => h.2.1 x (hp.mem_iff.2 hx), hp.nodup_iff.1 h.2.2⟩
set_option maxHeartbeats 1600000 in
theorem alive5_any (w : World) : Calls Try.prog 20 #[] w fun e w' => e = .returned (.bool true) ∧ Below w.heap.size w w' := by
  have f1 : Fair [1024, 5, 4] := ⟨by decide, by decide, by decide⟩
  have f2 : Fair [9, 5, 7] := ⟨by decide, by decide, by decide⟩
  have s1 : playSent [1024, 5, 4] = [1, 11, 11] := by decide
  have s2 : sortI [9, 5, 7] = [5, 7, 9] := sortI_eq (by decide) (by decide)
  have s3 : leastI [9, 5, 7] = 5 := by decide
  have s4 : (playBus [1024, 5, 4]).length = 11 := B_length _
  have hP := fun W A c h => Play_ok A 3 c [1024, 5, 4] W h f1 (by simp)
  have hW := fun W A c h => Win_ok A 3 c [9, 5, 7] W h f2 (by simp)
  have hO := fun W A c h => Order_ok A 3 c [9, 5, 7] W h f2
  rw [s1] at hP
  rw [s2] at hO
  rw [s3] at hW
  clear f1 f2 s1 s2 s3
  have hk1 : ∀ k : Nat, ([9, 5, 7] : List Int)[k]? = some 5 → k = 1 := by
    intro k hk
    rcases k with _ | _ | _ | k
    · simp at hk
    · rfl
    · simp at hk
    · simp at hk
  generalize playBus [1024, 5, 4] = bus at *
  go_enter Try.func20, Try.ntmps20
  go_wp2_with (first
    | (go_at_call 8; refine (hP _ _ _ (Rd.litAt (Value.int .i64) [1024, 5, 4] 3 rfl)).mono ?_; clear hP; rintro e w1 ⟨v, b, rfl, h1, h2, hb1⟩; replace hb1 := below_new hb1; obtain ⟨A1, c1, rfl, _, _⟩ := h1.form; obtain ⟨A2, c2, rfl, _, _⟩ := h2.form)
    | (go_at_call 9; refine (hW _ _ _ (Rd.litAt (Value.int .i64) [9, 5, 7] 3 rfl)).mono ?_; clear hW; rintro e w2 ⟨k, rfl, hk, hb2⟩; replace hb2 := below_new hb2; obtain rfl := hk1 k hk)
    | (go_at_call 10; refine (hO _ _ _ (Rd.litAt (Value.int .i64) [9, 5, 7] 3 rfl)).mono ?_; clear hO; rintro e w3 ⟨v3, rfl, h3, hb3⟩; replace hb3 := below_new hb3; obtain ⟨A3, c3, rfl, _, _⟩ := h3.form)
    | (go_at_call 17; refine (EqualI_any_same A1 _ 3 c1 3 3 [1, 11, 11] _ (((h1.below hb2).below hb3).alloc _).rd (Rd.litAt (Value.int .i64) [1, 11, 11] 3 rfl) (by omega)).mono ?_; clear h1; rintro e w4 ⟨rfl, hb4⟩; replace hb4 := below_new hb4)
    | (go_at_call 17; refine (EqualI_any_same A3 _ 3 c3 3 3 [5, 7, 9] _ ((h3.below hb4).alloc _).rd (Rd.litAt (Value.int .i64) [5, 7, 9] 3 rfl) (by omega)).mono ?_; clear h3; rintro e w5 ⟨rfl, hb5⟩; replace hb5 := below_new hb5))
  go_ret
  exact ⟨rfl, bthen (bthen (bthen (bthen hb1 hb2) hb3) hb4) hb5⟩
set_option maxHeartbeats 1600000 in
theorem ArbOrder_walk (A : Option Addr) (n c : Nat) (l : List Int) (w : World) (h : Rd w 1 A n (l.map (Value.int .i64))) (hwf : ∀ x ∈ l, (Lit.int .i64 x).wf = true) (hk : n ≤ c) (hc : c * 8 ≤ 140737488351232) :
    Calls Try.prog 7 #[.slice A n c] w fun e w' => e = .returned (.bool true) ∧ Below w.heap.size w w' := by
  have hn : n ≤ 17592186044416 := by omega
  have hln := h.lenMap
  have hlr : l.reverse.length = n := by simp [hln]
  clear hwf hk hc
  by_cases hw : wrongM l = 0
  · have hf := (wrongM_zero l).1 hw
    have hfr := hf.perm l.reverse_perm.symm
    have hO := fun W A n c h => Order_ok A n c l W h hf
    have hR := fun W A n c h => Order_ok A n c l.reverse W h hfr
    rw [show sortI l.reverse = sortI l from sortI_perm l.reverse_perm] at hR
    have hs := sortI_sorted l
    have hSn := (sortI_length l).trans hln
    have hl400 := hf.1
    generalize sortI l = S at *
    clear hf hfr hw
    go_enter Try.func7, Try.ntmps7
    go_wp2_with (first
      | (go_at_call 20; refine (alive5_any w).mono ?_; rintro e w1 ⟨rfl, hb1⟩)
      | (go_at_call 10; refine (hO w1 A n c (h.below hb1)).mono ?_; clear hO; rintro e w2 ⟨v2, rfl, h2, hb2⟩; obtain ⟨A2, c2, rfl, _, _, r2⟩ := h2.formN hSn)
      | (go_at_call 23; refine (CloneI_any A n c l w2 ((h.below hb1).below hb2) (by omega)).mono ?_; rintro e w3 ⟨v3, rfl, h3, hb3⟩)
      | (go_at_call 25; refine (Reverse_own h3 (by omega)).mono ?_; rintro e w4 ⟨rfl, h4, hm4⟩; have hb4 : Below w2.heap.size w2 w4 := hm4.below hb3 hb3.size h3.block; clear h3 hm4; obtain ⟨A4, c4, rfl, _, _, r4⟩ := h4.formN hlr)
      | (go_at_call 10; refine (hR w4 A4 n c4 r4).mono ?_; clear hR; rintro e w5 ⟨v5, rfl, h5, hb5⟩; obtain ⟨A5, c5, rfl, _, _, r5⟩ := h5.formN hSn)
      | (go_at_call 26; refine (IsSorted_yes A2 n c2 S w5 ((r2.below hb4).below hb5) hs (by omega)).mono ?_; rintro e w6 ⟨rfl, hq6⟩; have hb6 := below_draws hq6)
      | (go_at_call 17; refine (EqualI_any_same A2 A5 n c2 n c5 S w6 (((r2.below hb4).below hb5).below hb6) (r5.below hb6) (by omega)).mono ?_; rintro e w7 ⟨rfl, hb7⟩))
    go_ret
    exact ⟨by simp, bthen (bthen (bthen (bthen (bthen hb1 hb2) hb4) hb5) hb6) hb7⟩
  · have hO := fun W A n c h => Order_bad A n c l W h hw
    have hR := fun W A n c h => Order_any A n c l.reverse W h
    have hne : (wrongM l != 0) = true := by simpa using hw
    generalize wrongM l = R at *
    generalize wrongM l.reverse = R' at *
    generalize orderM l.reverse = S' at *
    go_enter Try.func7, Try.ntmps7
    go_wp2_with (first
      | (go_at_call 20; refine (alive5_any w).mono ?_; rintro e w1 ⟨rfl, hb1⟩)
      | (go_at_call 10; refine (hO w1 A n c (h.below hb1)).mono ?_; clear hO; rintro e w2 ⟨rfl, hb2⟩)
      | (go_at_call 23; refine (CloneI_any A n c l w2 ((h.below hb1).below hb2) (by omega)).mono ?_; rintro e w3 ⟨v3, rfl, h3, hb3⟩)
      | (go_at_call 25; refine (Reverse_own h3 (by omega)).mono ?_; rintro e w4 ⟨rfl, h4, hm4⟩; have hb4 : Below w2.heap.size w2 w4 := hm4.below hb3 hb3.size h3.block; clear h3 hm4; obtain ⟨A4, c4, rfl, _, _, r4⟩ := h4.formN hlr)
      | (go_at_call 10; refine (hR w4 A4 n c4 r4).mono ?_; clear hR; rintro e w5 ⟨v5, rfl, h5, hb5⟩))
    go_ret
    exact ⟨rfl, bthen (bthen (bthen hb1 hb2) hb4) hb5⟩
end Go.Proofs.Ytolcfifbnmkfaaa
