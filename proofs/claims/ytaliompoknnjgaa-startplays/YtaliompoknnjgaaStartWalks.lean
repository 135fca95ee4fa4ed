/-
  Contracts of package start: areBetween, isAlone, collide. No statement of the seat is here.
-/
import Derived.Test.YtaliompoknnjgaaStartMath2
import Derived.Test.YtaliompoknnjgaaTypes
import Derived.Test.YtaliompoknnjgaaSlices
import Derived.Test.YtaliompoknnjgaaBox
import Derived.Test.YtaliompoknnjgaaNums
namespace Go.Proofs.Ytaliompoknnjgaa
open Go.RowKit
set_option maxRecDepth 20000
set_option linter.unusedVariables false

theorem between_iff {l : List Int} {lo hi : Int} (h0 : 0 < l.length) : decide (∀ x ∈ l, lo ≤ x ∧ x ≤ hi) = (decide (lo ≤ leastI l) && decide (greatI l ≤ hi)) := by
  have hne : l ≠ [] := fun h => by rw [h] at h0; cases h0
  have h1 := leastI_mem hne
  have h2 := greatI_mem hne
  rw [← Bool.decide_and, decide_eq_decide]
  constructor
  · intro h
    exact ⟨(h _ h1).1, (h _ h2).2⟩
  · rintro ⟨k1, k2⟩ x hx
    have := leastI_le hx
    have := greatI_le hx
    omega

set_option maxHeartbeats 400000 in
theorem areBetween_any (A : Option Addr) (n c : Nat) (l : List Int) (lo hi : Int) (w : World) (h : Rd w 1 A n (l.map (Value.int .i64))) (h0 : 0 < n) (hn : n ≤ 4611686018427387904) :
    Calls Try.prog 19 #[.slice A n c, .int .i64 lo, .int .i64 hi] w fun e w' => e = .returned (.bool (decide (∀ x ∈ l, lo ≤ x ∧ x ≤ hi))) ∧ w = w' := by
  have hl := h.lenMap
  have C1 := Lib.hid (fun (W : World) (hW : W = w) => Min_any A n c l W (hW ▸ h) h0 hn)
  have C2 := Lib.hid (fun (W : World) (hW : W = w) => Max_any A n c l W (hW ▸ h) h0 hn)
  have H := Lib.hid (between_iff (l := l) (lo := lo) (hi := hi) (by omega))
  clear h hl
  generalize leastI l = x at *
  generalize greatI l = y at *
  by_cases k1 : lo ≤ x
  · go_enter Try.func19, Try.ntmps19
    go_wp2_with fail
    refine (C1.out _ rfl).mono ?_
    rintro e w' ⟨rfl, rfl⟩
    go_wp2_with fail
    refine (C2.out _ rfl).mono ?_
    rintro e w' ⟨rfl, rfl⟩
    go_wp2
    go_ret
    exact ⟨ret_bool (by rw [H.out]; simp [k1]), rfl⟩
  · go_enter Try.func19, Try.ntmps19
    go_wp2_with fail
    refine (C1.out _ rfl).mono ?_
    rintro e w' ⟨rfl, rfl⟩
    go_wp2
    go_ret
    exact ⟨ret_bool (by rw [H.out, decide_eq_false (by omega : ¬ lo ≤ x)]; rfl), rfl⟩

set_option maxHeartbeats 400000 in
theorem isAlone_any (A : Option Addr) (n c : Nat) (l : List Int) (t : Int) (w : World) (h : Rd w 1 A n (l.map (Value.int .i64))) (hn : n ≤ 4611686018427387904) :
    Calls Try.prog 17 #[.slice A n c, .int .i64 t] w fun e w' => e = .returned (.bool (decide (l.countP (fun x => decide (x < t)) = 1))) ∧ w = w' := by
  have Hl := Lib.hid h.lenMap
  go_enter Try.func17, Try.ntmps17
  go_wp2
  go_loop [5, 10] (fun b i => ∃ (k : Nat), k ≤ n ∧ i = .int .i64 k ∧ b = .int .i64 (((l.take k).countP (fun x => decide (x < t)) : Nat) : Int)) (fun _ i => n - (intOf i).toNat)
  case atStart => exact ⟨0, Nat.zero_le _, rfl, rfl⟩
  case round =>
    obtain ⟨k, hk, rfl, rfl⟩ := hrel
    by_cases hlt : k < n
    · obtain ⟨ad, x, rfl, hx, hc⟩ := h.atMap hlt
      have Hs := Lib.hid (take_snoc hx)
      have hb := List.countP_le_length (p := fun x => decide (x < t)) (l := l.take k)
      rw [List.length_take] at hb
      have hb2 : List.countP (fun x => decide (x < t)) (l.take k) ≤ k := by omega
      clear hx hb
      by_cases hxt : x < t
      · have H : Hid ((l.take (k + 1)).countP (fun x => decide (x < t)) = (l.take k).countP (fun x => decide (x < t)) + 1) := by
          show _ = _
          rw [Hs.out, List.countP_append]; simp [hxt]
        generalize List.countP (fun x => decide (x < t)) (l.take k) = z at *
        go_wp2
        go_round
        case rel => exact ⟨k + 1, by omega, by go_num, int_eq (by rw [H.out]; omega)⟩
        case measure => simp [intOf] <;> omega
      · have H : Hid ((l.take (k + 1)).countP (fun x => decide (x < t)) = (l.take k).countP (fun x => decide (x < t))) := by
          show _ = _
          rw [Hs.out, List.countP_append]; simp [hxt]
        generalize List.countP (fun x => decide (x < t)) (l.take k) = z at *
        go_wp2
        go_round
        case rel => exact ⟨k + 1, by omega, by go_num, int_eq (by rw [H.out])⟩
        case measure => simp [intOf] <;> omega
    · obtain rfl : k = n := by omega
      rw [List.take_of_length_le (by rw [Hl.out]; exact Nat.le_refl _)]
      obtain ⟨z, hz⟩ : ∃ z, List.countP (fun x => decide (x < t)) l = z := ⟨_, rfl⟩
      rw [hz]
      go_wp2
      go_ret
      refine ⟨ret_bool ?_, rfl⟩
      by_cases e : z = 1
      · subst e; rfl
      · rw [decide_eq_false e, beq_eq_false_iff_ne]; omega

/-- All nodes that are on are put off. -/
theorem collide_any (w0 w : World) (Ao Aw As : Option Addr) (co cw cs m q i : Nat) (f g : Nat → Nat) (G : GoodS m q f g) (hi : i ≤ 40) (hb : Below w0.heap.size w0 w)
    (ho : Rd w0 1 Ao (m + 1) ((lst m f).map (Value.int .i64))) (hw : Rd w0 1 Aw (m + 1) ((lst m g).map (Value.int .i64)))
    (hs : Ow (Value.int .i64) w w0.heap.size 3 (.slice As (m + 1) cs) (schL m q f g i)) :
    Calls Try.prog 18 #[.slice As (m + 1) cs, .slice Ao (m + 1) co, .slice Aw (m + 1) cw, .int .i64 (timS m q f g i : Nat), .int .i64 (q : Nat)] w fun e w' =>
      e = .returned (.tuple #[]) ∧ Ow (Value.int .i64) w' w0.heap.size 3 (.slice As (m + 1) cs) (schL m q f g (i + 1)) ∧ Below w0.heap.size w0 w' := by
  have hm := G.few
  have hT := G.tim_le i
  have hq := G.q2
  have hW := Lib.hid G.w2
  have Hsucc := Lib.hid (sch_succ m q f g i)
  clear G
  obtain ⟨T, hTe⟩ : ∃ T, timS m q f g i = T := ⟨_, rfl⟩
  rw [hTe] at hT Hsucc
  simp only [hTe]
  have hT2 : T ≤ 50000000 := by omega
  clear hTe hT
  obtain ⟨F, hF⟩ : ∃ F, schS m q f g i = F := ⟨_, rfl⟩
  obtain ⟨F', hF'⟩ : ∃ F', schS m q f g (i + 1) = F' := ⟨_, rfl⟩
  unfold schL at hs ⊢
  rw [hF] at hs Hsucc
  rw [hF'] at Hsucc ⊢
  clear hF hF' hi
  go_enter Try.func18, Try.ntmps18
  go_wp2
  go_loopw [13] (fun j wr => ∃ (k : Nat), k ≤ m + 1 ∧ j = .int .i64 k ∧ Ow (Value.int .i64) wr w0.heap.size 3 (.slice As (m + 1) cs) (lst m fun j => if j < k then F' j else F j) ∧ Below w0.heap.size w0 wr) (fun j _ => m + 1 - (intOf j).toNat)
  case atStart =>
    refine ⟨0, Nat.zero_le _, rfl, ?_, hb⟩
    rw [lst_congr (g := F) fun k hk => by rw [if_neg (by omega)]]
    exact hs
  case round =>
    obtain ⟨k, hk, rfl, hown, hbl⟩ := hrel
    clear hs hb
    by_cases hlt : k < m + 1
    · obtain ⟨ad, x, rfl, hx, hc⟩ := (ho.below hbl).atMap hlt
      obtain ⟨aw, y, rfl, hy, hd⟩ := (hw.below hbl).atMap hlt
      rw [lst_at (by omega)] at hx hy
      injection hx with hx
      injection hy with hy
      subst hx hy
      obtain ⟨gb, c', hv, hgb, -⟩ := hown.head (by rw [lst_len]; omega)
      injection hv with hA hN hC
      clear hN
      subst hA hC
      have hfr := hown.freeAt k
      have hat := hown.cellAt (lst_at (f := fun j => if j < k then F' j else F j) (show k ≤ m by omega))
      have hW2 := hW.out k (by omega)
      have hs1 := Lib.hid (Hsucc.out k)
      by_cases hon : f k ≤ T
      · have hv : F' k = T + q + g k := by rw [hs1.out, if_pos hon]
        have hp := hown.put k ((T : Int) + q + g k)
        rw [lst_put (g := fun j => if j < k + 1 then F' j else F j) (show k ≤ m by omega) (by rw [if_pos (by omega), hv]; omega) (fun j hj hne => by
          by_cases e : j < k
          · rw [if_pos e, if_pos (by omega)]
          · rw [if_neg e, if_neg (by omega)])] at hp
        have hbp := hbl.setCell (p := ⟨gb, k, none⟩) hgb (.int .i64 ((T : Int) + q + g k))
        clear hown hs1 hv hbl
        generalize f k = X at *
        generalize g k = Y at *
        go_wp2
        go_roundw
        case rel => exact ⟨k + 1, by omega, by go_num, hp, hbp⟩
        case measure => simp [intOf] <;> omega
      · have hv : F' k = F k := by rw [hs1.out, if_neg hon]
        rw [lst_congr (g := fun j => if j < k + 1 then F' j else F j) (fun j hj => by
          by_cases e : j < k
          · rw [if_pos e, if_pos (by omega)]
          · rw [if_neg e]
            by_cases e2 : j = k
            · subst e2; rw [if_pos (by omega), hv]
            · rw [if_neg (by omega)])] at hown
        clear hat hs1 hv
        generalize f k = X at *
        generalize g k = Y at *
        go_wp2
        go_roundw
        case rel => exact ⟨k + 1, by omega, by go_num, hown, hbl⟩
        case measure => simp [intOf] <;> omega
    · obtain rfl : k = m + 1 := by omega
      rw [lst_congr (g := F') fun j hj => by rw [if_pos (by omega)]] at hown
      go_wp2
      go_end0
      exact ⟨rfl, hown, hbl⟩
end Go.Proofs.Ytaliompoknnjgaa
