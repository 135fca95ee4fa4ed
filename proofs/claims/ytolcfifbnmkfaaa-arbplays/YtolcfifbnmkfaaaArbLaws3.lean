/-
  arb's law: who comes with a greater number disturbs nobody.
-/
import Derived.Test.YtolcfifbnmkfaaaArbLaws2
namespace Go.Proofs.Ytolcfifbnmkfaaa
open Go.RowKit
set_option linter.unusedVariables false

theorem leastI_snoc {l : List Int} (hl : l ≠ []) (x : Int) : leastI (l ++ [x]) = min (leastI l) x := by
  cases l with
  | nil => exact absurd rfl hl
  | cons y r => simp [leastI, List.foldl_append]
theorem playSent_length (l : List Int) : (playSent l).length = l.length := by simp [playSent]
set_option maxHeartbeats 1600000 in
theorem ArbMore_walk (A : Option Addr) (n c : Nat) (l : List Int) (x : Int) (w : World) (h : Rd w 1 A n (l.map (Value.int .i64))) (hwf : ∀ x ∈ l, (Lit.int .i64 x).wf = true) (hk : n ≤ c) (hc : c * 8 ≤ 140737488351232) (hwx : (Lit.int .i64 x).wf = true) :
    Calls Try.prog 5 #[.slice A n c, .int .i64 x] w fun e w' => e = .returned (.bool true) ∧ Below w.heap.size w w' := by
  have hn : n ≤ 17592186043904 := by omega
  have hln := h.lenMap
  have hln2 : (l ++ [x]).length = n + 1 := by simp [hln]
  clear hwf hk hc hwx
  by_cases he : playErr l = 0
  · obtain ⟨hf, hl⟩ := (playErr_zero l).1 he
    have hP := fun W h => Play_ok A n c l W h hf hl
    have hn4 : n ≤ 400 := by have := hf.1; omega
    have hn0 : 0 < n := by rw [← hln]; exact List.length_pos_iff.2 hl
    have hSn := (playSent_length l).trans hln
    have hTn : (playBus l).length = 11 := B_length _
    by_cases he2 : playErr (l ++ [x]) = 0
    · obtain ⟨hf2, hl2⟩ := (playErr_zero (l ++ [x])).1 he2
      have hQ := fun W A2 c2 h => Play_ok A2 (n + 1) c2 (l ++ [x]) W h hf2 hl2
      have hSn2 := (playSent_length (l ++ [x])).trans hln2
      have hTn2 : (playBus (l ++ [x])).length = 11 := B_length _
      have hM := fun W (h : Rd W 1 A n (l.map (Value.int .i64))) => Min_any A n c l W h hn0 (by omega)
      by_cases hx : x < leastI l
      · have hxr := hf2.2.1 x (by simp)
        have hnum := num_B hxr.1 hxr.2
        have hbx : playBus (l ++ [x]) = B x := by unfold playBus; rw [leastI_snoc hl, Int.min_eq_right (by omega)]
        rw [hbx] at hQ hTn2
        clear hbx he he2 hf hf2 hl2
        generalize leastI l = m at *
        generalize playSent l = S at *
        generalize playSent (l ++ [x]) = S2 at *
        generalize playBus l = T at *
        generalize B x = T2 at *
        go_enter Try.func5, Try.ntmps5
        go_wp2_with (first
          | (go_at_call 20; refine (alive5_any w).mono ?_; rintro e w1 ⟨rfl, hb1⟩)
          | (go_at_call 8; refine (hP w1 (h.below hb1)).mono ?_; clear hP; rintro e w2 ⟨v, b, rfl, h1, h2, hb2⟩; obtain ⟨A1, c1, rfl, _, _, r1⟩ := h1.formN hSn; obtain ⟨A2, c2, rfl, _, _, r2⟩ := h2.formN hTn)
          | (go_at_call 23; refine (CloneI_any A n c l w2 ((h.below hb1).below hb2) (by omega)).mono ?_; rintro e w3 ⟨v3, rfl, h3, hb3⟩)
          | (at_builtin; go_must (refine wpList_apW (Value.int .i64) _ elInt rfl rfl (one_int .i64) w2.heap.size v3 l rfl (h3.alloc _) _ 1 1 [x] rfl (Rd.litAt (Value.int .i64) [x] 3 rfl) (le_alloc hb3.size) (by omega) (by omega) ?_; intro v4 w4 h4 hm4; have hb4 : Below w2.heap.size w2 w4 := hm4.below (hb3.alloc hb3.size _) (le_alloc hb3.size) h3.block; obtain ⟨A4, c4, rfl, _, _, r4⟩ := h4.formN hln2))
          | (go_at_call 8; refine (hQ w4 A4 c4 r4).mono ?_; clear hQ; rintro e w5 ⟨v5, b5, rfl, h5, h6, hb5⟩; obtain ⟨A5, c5, rfl, _, _, r5⟩ := h5.formN hSn2; obtain ⟨A6, c6, rfl, _, _, r6⟩ := h6.formN hTn2)
          | (go_at_call 22; refine (hM w5 ((((h.below hb1).below hb2).below hb4).below hb5)).mono ?_; clear hM; rintro e w6 ⟨rfl, rfl⟩)
          | (go_at_call 24; refine (Get_ok A6 11 c6 T2 w5 r6 (by omega)).mono ?_; rintro e w7 ⟨rfl, rfl⟩))
        go_ret
        exact ⟨by simp, bthen (bthen (bthen hb1 hb2) hb4) hb5⟩
      · have hbx : playBus (l ++ [x]) = playBus l := by unfold playBus; rw [leastI_snoc hl, Int.min_eq_left (by omega)]
        have hsx : playSent (l ++ [x]) = playSent l ++ [saidS (leastI l) x 11] := by unfold playSent; rw [leastI_snoc hl, Int.min_eq_left (by omega)]; simp
        rw [hbx, hsx] at hQ
        rw [hsx] at hSn2
        clear hbx hsx hTn2 he he2 hf hf2 hl2
        generalize saidS (leastI l) x 11 = y at *
        generalize leastI l = m at *
        generalize playSent l = S at *
        generalize playBus l = T at *
        go_enter Try.func5, Try.ntmps5
        go_wp2_with (first
          | (go_at_call 20; refine (alive5_any w).mono ?_; rintro e w1 ⟨rfl, hb1⟩)
          | (go_at_call 8; refine (hP w1 (h.below hb1)).mono ?_; clear hP; rintro e w2 ⟨v, b, rfl, h1, h2, hb2⟩; obtain ⟨A1, c1, rfl, _, _, r1⟩ := h1.formN hSn; obtain ⟨A2, c2, rfl, _, _, r2⟩ := h2.formN hTn)
          | (go_at_call 23; refine (CloneI_any A n c l w2 ((h.below hb1).below hb2) (by omega)).mono ?_; rintro e w3 ⟨v3, rfl, h3, hb3⟩)
          | (at_builtin; go_must (refine wpList_apW (Value.int .i64) _ elInt rfl rfl (one_int .i64) w2.heap.size v3 l rfl (h3.alloc _) _ 1 1 [x] rfl (Rd.litAt (Value.int .i64) [x] 3 rfl) (le_alloc hb3.size) (by omega) (by omega) ?_; intro v4 w4 h4 hm4; have hb4 : Below w2.heap.size w2 w4 := hm4.below (hb3.alloc hb3.size _) (le_alloc hb3.size) h3.block; obtain ⟨A4, c4, rfl, _, _, r4⟩ := h4.formN hln2))
          | (go_at_call 8; refine (hQ w4 A4 c4 r4).mono ?_; clear hQ; rintro e w5 ⟨v5, b5, rfl, h5, h6, hb5⟩; obtain ⟨A5, c5, rfl, hc5, _, r5⟩ := h5.formN hSn2; obtain ⟨A6, c6, rfl, _, _, r6⟩ := h6.formN hTn; have hcut := (fun W => run_to elInt W A5 (n + 1) c5 n (by omega)); have r5' : Rd w5 1 A5 n (S.map (Value.int .i64)) := (by have := r5.take (k := n) (by omega); rwa [Nat.mul_one, ← List.map_take, List.take_left' hSn] at this))
          | (go_at_call 22; refine (hM w5 ((((h.below hb1).below hb2).below hb4).below hb5)).mono ?_; clear hM; rintro e w6 ⟨rfl, rfl⟩)
          | (go_at_call 16; refine (EqualB_any_same A2 A6 11 c2 11 c6 T w5 ((r2.below hb4).below hb5) r6 (by omega)).mono ?_; rintro e w7 ⟨rfl, hb7⟩)
          | (go_at_call 17; refine (EqualI_any_same A5 A1 n c5 n c1 S w7 (r5'.below hb7) (((r1.below hb4).below hb5).below hb7) (by omega)).mono ?_; rintro e w8 ⟨rfl, hb8⟩))
        go_ret
        exact ⟨rfl, bthen (bthen (bthen (bthen (bthen hb1 hb2) hb4) hb5) hb7) hb8⟩
    · have hQ := fun W A2 c2 h => Play_any A2 (n + 1) c2 (l ++ [x]) W h
      have hne : (playErr (l ++ [x]) != 0) = true := by simpa using he2
      clear he he2 hf
      generalize playSent l = S at *
      generalize playBus l = T at *
      generalize playErr (l ++ [x]) = R2 at *
      generalize sentM (l ++ [x]) = S2 at *
      generalize busM (l ++ [x]) = T2 at *
      go_enter Try.func5, Try.ntmps5
      go_wp2_with (first
        | (go_at_call 20; refine (alive5_any w).mono ?_; rintro e w1 ⟨rfl, hb1⟩)
        | (go_at_call 8; refine (hP w1 (h.below hb1)).mono ?_; clear hP; rintro e w2 ⟨v, b, rfl, h1, h2, hb2⟩)
        | (go_at_call 23; refine (CloneI_any A n c l w2 ((h.below hb1).below hb2) (by omega)).mono ?_; rintro e w3 ⟨v3, rfl, h3, hb3⟩)
        | (at_builtin; go_must (refine wpList_apW (Value.int .i64) _ elInt rfl rfl (one_int .i64) w2.heap.size v3 l rfl (h3.alloc _) _ 1 1 [x] rfl (Rd.litAt (Value.int .i64) [x] 3 rfl) (le_alloc hb3.size) (by omega) (by omega) ?_; intro v4 w4 h4 hm4; have hb4 : Below w2.heap.size w2 w4 := hm4.below (hb3.alloc hb3.size _) (le_alloc hb3.size) h3.block; obtain ⟨A4, c4, rfl, _, _, r4⟩ := h4.formN hln2))
        | (go_at_call 8; refine (hQ w4 A4 c4 r4).mono ?_; clear hQ; rintro e w5 ⟨v5, b5, rfl, h5, h6, hb5⟩))
      go_ret
      exact ⟨rfl, bthen (bthen (bthen hb1 hb2) hb4) hb5⟩
  · have hP := fun W h => Play_any A n c l W h
    have hQ := fun W A2 c2 h => Play_any A2 (n + 1) c2 (l ++ [x]) W h
    have hne : (playErr l != 0) = true := by simpa using he
    clear he
    generalize playErr l = R at *
    generalize sentM l = S at *
    generalize busM l = T at *
    generalize playErr (l ++ [x]) = R2 at *
    generalize sentM (l ++ [x]) = S2 at *
    generalize busM (l ++ [x]) = T2 at *
    go_enter Try.func5, Try.ntmps5
    go_wp2_with (first
      | (go_at_call 20; refine (alive5_any w).mono ?_; rintro e w1 ⟨rfl, hb1⟩)
      | (go_at_call 8; refine (hP w1 (h.below hb1)).mono ?_; clear hP; rintro e w2 ⟨v, b, rfl, h1, h2, hb2⟩)
      | (go_at_call 23; refine (CloneI_any A n c l w2 ((h.below hb1).below hb2) (by omega)).mono ?_; rintro e w3 ⟨v3, rfl, h3, hb3⟩)
      | (at_builtin; go_must (refine wpList_apW (Value.int .i64) _ elInt rfl rfl (one_int .i64) w2.heap.size v3 l rfl (h3.alloc _) _ 1 1 [x] rfl (Rd.litAt (Value.int .i64) [x] 3 rfl) (le_alloc hb3.size) (by omega) (by omega) ?_; intro v4 w4 h4 hm4; have hb4 : Below w2.heap.size w2 w4 := hm4.below (hb3.alloc hb3.size _) (le_alloc hb3.size) h3.block; obtain ⟨A4, c4, rfl, _, _, r4⟩ := h4.formN hln2))
      | (go_at_call 8; refine (hQ w4 A4 c4 r4).mono ?_; clear hQ; rintro e w5 ⟨v5, b5, rfl, h5, h6, hb5⟩))
    go_ret
    exact ⟨rfl, bthen (bthen (bthen hb1 hb2) hb4) hb5⟩
end Go.Proofs.Ytolcfifbnmkfaaa
