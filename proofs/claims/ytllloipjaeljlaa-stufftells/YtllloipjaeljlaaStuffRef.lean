/-
  Contracts of the reference's BLast, BStuff and BUnstuff.
-/
import Derived.Test.YtllloipjaeljlaaStuffWalks
namespace Go.Proofs.Ytllloipjaeljlaa
open Go.RowKit
set_option linter.unusedVariables false

set_option maxHeartbeats 400000 in
theorem BLast_any (A : Option Addr) (n c : Nat) (l : List Bool) (w : World) (h : Rd w 1 A n (l.map Value.bool)) (hn : n ≤ 175921860444160) :
    Calls Try.prog 15 #[.slice A n c] w fun e w' => e = .returned (.int .i64 (runOf l).2) ∧ ∃ q, w' = w.drewN q := by
  have hl := h.lenMap
  rcases Nat.eq_zero_or_pos n with hz | hz
  · subst hz
    have hnil : l = [] := List.eq_nil_of_length_eq_zero hl
    subst hnil
    go_enter Try.func15, Try.ntmps15
    go_wp2
    go_loopw [3, 4] (fun t i wr => i = .int .i64 (-1) ∧ t = .int .i64 0 ∧ ∃ q, wr = w.drewN q) (fun _ i _ => (intOf i + 1).toNat)
    case atStart => exact ⟨rfl, rfl, 0, rfl⟩
    case round =>
      obtain ⟨rfl, rfl, q, rfl⟩ := hrel
      go_wp2
      go_quiet (fail)
      go_wp2
      go_ret
      exact ⟨rfl, _, World.drewN_drewN _ _ _⟩
  · obtain ⟨ad, x, rfl, hx, hcx⟩ := h.atMap (k := n - 1) (by omega)
    have Hl := Lib.hid hl; clear hl
    have Hx := Lib.hid hx; clear hx
    have hn1 : ((n : Int) - 1).toNat = n - 1 := by omega
    go_enter Try.func15, Try.ntmps15
    go_wp2
    go_loopw [3, 4] (fun t i wr => ∃ k : Nat, k ≤ n ∧ i = .int .i64 ((n : Int) - 1 - k) ∧ t = .int .i64 k ∧ l.drop (n - k) = List.replicate k x ∧ ∃ q, wr = w.drewN q) (fun _ i _ => (intOf i + 1).toNat)
    case atStart => exact ⟨0, Nat.zero_le _, by simp, rfl, by simp [Hl.out], 0, rfl⟩
    case round =>
      obtain ⟨k, hk, rfl, rfl, hrep, q, rfl⟩ := hrel
      have Hrep := Lib.hid hrep; clear hrep
      by_cases hlt : k < n
      · obtain ⟨ad', y, had, hy, hcy⟩ := h.atMap (k := n - 1 - k) (by omega)
        injection had with had
        subst had
        have Hy := Lib.hid hy; clear hy
        have hk1 : ((n : Int) - 1 - k).toNat = n - 1 - k := by omega
        have hge : decide ((k : Int) ≤ (n : Int) - 1) = true := by simp; omega
        have hge2 : 0 ≤ (n : Int) - 1 - k := by omega
        by_cases hyx : y = x
        · subst hyx
          go_wp2
          go_quiet (fail)
          go_wp2
          go_roundw
          case rel => exact ⟨k + 1, by omega, by go_num, by go_num, by rw [show n - (k + 1) = n - 1 - k by omega, drop_cons Hy.out, show n - 1 - k + 1 = n - k by omega, Hrep.out]; rfl, _, rfl⟩
          case measure => simp [intOf] <;> omega
        · have hyx' : (y == x) = false := by simp [hyx]
          have Hyx := Lib.hid hyx; clear hyx
          go_wp2
          go_quiet (fail)
          go_wp2
          go_ret
          refine ⟨ret_int ?_, _, World.drewN_drewN _ _ _⟩
          have hk0 : 0 < k := by
            rcases Nat.eq_zero_or_pos k with h0 | h0
            · subst h0; exact absurd (Option.some.inj (Hy.out.symm.trans Hx.out)) Hyx.out
            · exact h0
          rw [back_end l n k x Hl.out hk0 hk Hrep.out (.inr ⟨y, Hy.out, Hyx.out⟩)]
      · have hnk : k = n := by omega
        subst hnk
        have hneg : decide ((k : Int) ≤ (k : Int) - 1) = false := by simp; omega
        go_wp2
        go_quiet (fail)
        go_wp2
        go_ret
        refine ⟨ret_int ?_, _, World.drewN_drewN _ _ _⟩
        rw [back_end l k k x Hl.out hz (Nat.le_refl _) Hrep.out (.inl rfl)]

set_option maxHeartbeats 400000 in
theorem BStuff_any (A : Option Addr) (n c : Nat) (l : List Bool) (w : World) (h : Rd w 1 A n (l.map Value.bool)) (hn : n ≤ 140737488351232) :
    Calls Try.prog 18 #[.slice A n c] w fun e w' => ∃ v, e = .returned v ∧ Ow Value.bool w' w.heap.size 4 v (stuffM l) ∧ Below w.heap.size w w' := by
  have Hl := Lib.hid h.lenMap
  go_enter Try.func18, Try.ntmps18
  go_wp2
  go_loopw [3, 8] (fun v i wr => ∃ (k : Nat) (acc : List Bool), k ≤ n ∧ i = .int .i64 k ∧ acc = stuffM (l.take k) ∧ Ow Value.bool wr w.heap.size 4 v acc ∧ Below w.heap.size w wr) (fun _ i _ => n - (intOf i).toNat)
  case atStart => exact ⟨0, [], Nat.zero_le _, rfl, rfl, Ow.nil _ _ _ _, Below.refl _ _⟩
  case round =>
    obtain ⟨k, acc, hk, rfl, hacc, ho, hbl⟩ := hrel
    have hsz := hbl.size
    have hal : 4 * acc.length ≤ 5 * k := by have := stuffM_len4 (l.take k); rw [← hacc] at this; simp at this; omega
    have Hacc := Lib.hid hacc; clear hacc
    by_cases hlt : k < n
    · obtain ⟨ad, x, rfl, hx, hc⟩ := (h.below hbl).atMap hlt
      have Hs : Hid (stuffM (l.take (k + 1)) = stuffStep acc x) := by show _ = _; rw [take_snoc hx, stuffM_snoc, ← Hacc.out]
      clear hx
      go_wp2_with (at_builtin; go_must (refine wpList_apW Value.bool _ elBool rfl rfl one_bool w.heap.size _ acc rfl (ho.alloc _) _ 1 1 _ rfl (Rd.oneM Value.bool _ _ _) (le_alloc hsz) (by omega) (by omega) ?_; intro v1 w1 ho1 hm1))
      have hb1 : Below w.heap.size w w1 := hm1.below (hbl.alloc hsz _) (le_alloc hsz) ho.block
      clear hm1
      obtain ⟨A1, c1, hv, _, _⟩ := ho1.form
      rw [List.length_append, List.length_singleton] at hv
      subst hv
      refine (BLast_any A1 _ c1 (acc ++ [x]) _ ho1.rd (by omega)).mono ?_
      rintro e w2 ⟨rfl, hq⟩
      have ho2 := ho1.below (below_draws hq)
      have hb2 := bthen hb1 (below_draws hq)
      have hsz2 := hb2.size
      clear hq ho1
      by_cases h5 : (runOf (acc ++ [x])).2 = 5
      · have h5' : (((runOf (acc ++ [x])).2 : Int) == 5) = true := by rw [h5]; rfl
        have H5 := Lib.hid h5; clear h5
        go_wp2_with (at_builtin; go_must (refine wpList_apW Value.bool _ elBool rfl rfl one_bool w.heap.size _ (acc ++ [x]) rfl (ho2.alloc _) _ 1 1 _ rfl (Rd.oneM Value.bool _ _ _) (le_alloc hsz2) (by simp; omega) (by omega) ?_; intro v3 w3 ho3 hm3))
        have hb3 : Below w.heap.size w w3 := hm3.below (hb2.alloc hsz2 _) (le_alloc hsz2) ho2.block
        clear hm3
        go_wp2
        go_roundw
        case rel => exact ⟨k + 1, acc ++ [x] ++ [!x], by omega, by go_num, by rw [Hs.out, stuffStep, if_pos H5.out], ho3, hb3⟩
        case measure => simp [intOf] <;> omega
      · have h5' : (((runOf (acc ++ [x])).2 : Int) == 5) = false := by simp; omega
        have H5 := Lib.hid h5; clear h5
        go_wp2
        go_roundw
        case rel => exact ⟨k + 1, acc ++ [x], by omega, by go_num, by rw [Hs.out, stuffStep, if_neg H5.out], ho2, hb2⟩
        case measure => simp [intOf] <;> omega
    · have hnk : k = n := by omega
      subst hnk
      go_wp2
      go_ret
      have e := Hacc.out
      rw [List.take_of_length_le (by rw [Hl.out]; exact Nat.le_refl _)] at e
      exact ⟨_, rfl, by rw [← e]; exact ho, hbl⟩

set_option maxHeartbeats 400000 in
theorem BUnstuff_any (A : Option Addr) (n c : Nat) (l : List Bool) (w : World) (h : Rd w 1 A n (l.map Value.bool)) (hnc : n ≤ c) (hcm : c ≤ 9223372036854775807) (hn : n ≤ 175921860444160) :
    Calls Try.prog 14 #[.slice A n c] w fun e w' => ∃ v, e = .returned (.tuple #[v, .int .i64 (unstuffM l).2]) ∧ Ow Value.bool w' w.heap.size 4 v (unstuffM l).1 ∧ Below w.heap.size w w' := by
  have Hl := Lib.hid h.lenMap
  go_enter Try.func14, Try.ntmps14
  go_wp2
  go_loopw [4, 9] (fun v i wr => ∃ (k : Nat) (acc : List Bool), k ≤ n ∧ i = .int .i64 k ∧ acc.length ≤ k ∧ finU acc (unFrom (runOf (l.take k)) (l.drop k)) = unstuffM l ∧ Ow Value.bool wr w.heap.size 4 v acc ∧ Below w.heap.size w wr) (fun _ i _ => n - (intOf i).toNat)
  case atStart => exact ⟨0, [], Nat.zero_le _, rfl, by simp, finU_nil _ _, Ow.nil _ _ _ _, Below.refl _ _⟩
  case round =>
    obtain ⟨k, acc, hk, rfl, hal, hacc, ho, hbl⟩ := hrel
    have hsz := hbl.size
    have Hacc := Lib.hid hacc; clear hacc
    by_cases hlt : k < n
    · obtain ⟨ad, x, rfl, hx, hc⟩ := (h.below hbl).atMap hlt
      have Hx := Lib.hid (drop_cons hx)
      have Hr : Hid (runOf (l.take (k + 1)) = addRun (runOf (l.take k)) x) := by show _ = _; rw [take_snoc hx, runOf_snoc]
      clear hx
      have htk := (h.below hbl).take (k := k) hk
      rw [Nat.mul_one, ← List.map_take] at htk
      go_wp2_with fail
      refine (BLast_any (some ad) k c (l.take k) _ htk (by omega)).mono ?_
      rintro e w2 ⟨rfl, hq⟩
      have ho2 := ho.below (below_draws hq)
      have hb2 := bthen hbl (below_draws hq)
      have hsz2 := hb2.size
      clear hq ho hbl htk hc
      by_cases h5 : (runOf (l.take k)).2 = 5
      · have h5' : (((runOf (l.take k)).2 : Int) != 5) = false := by rw [h5]; rfl
        have hk5 : 5 ≤ k := by have := runOf_le (l.take k); simp at this; omega
        obtain ⟨ad', y, had, hy, hcy⟩ := (h.below hb2).atMap (k := k - 1) (by omega)
        injection had with had
        subst had
        have hk1 : ((k : Int) - 1).toNat = k - 1 := by omega
        have Hy : Hid ((runOf (l.take k)).1 = y) := by
          show _ = _
          rw [show k = k - 1 + 1 by omega, take_snoc hy, runOf_fst]
        clear hy
        have H5 := Lib.hid h5; clear h5
        by_cases hxr : x = y
        · have hxr' : (x == y) = true := by simp [hxr]
          have Hxr := Lib.hid hxr; clear hxr
          go_wp2
          go_ret2
          have e : unstuffM l = ([], 1) := by rw [← Hacc.out, Hx.out, finU_bad _ _ _ _ H5.out (by rw [Hy.out]; exact Hxr.out)]
          rw [e]
          exact ⟨_, rfl, Ow.nil _ _ _ _, hb2⟩
        · have hxr' : (x == y) = false := by simp [hxr]
          have Hxr := Lib.hid hxr; clear hxr
          go_wp2
          go_roundw
          case rel => exact ⟨k + 1, acc, by omega, by go_num, by omega, by rw [← Hacc.out, Hx.out, Hr.out, finU_drop _ _ _ _ H5.out (by rw [Hy.out]; exact Hxr.out)], ho2, hb2⟩
          case measure => simp [intOf] <;> omega
      · have h5' : (((runOf (l.take k)).2 : Int) != 5) = true := by simp; omega
        have H5 := Lib.hid h5; clear h5
        go_wp2_with (at_builtin; go_must (refine wpList_apW Value.bool _ elBool rfl rfl one_bool w.heap.size _ acc rfl (ho2.alloc _) _ 1 1 _ rfl (Rd.oneM Value.bool _ _ _) (le_alloc hsz2) (by omega) (by omega) ?_; intro v1 w1 ho1 hm1))
        have hb1 : Below w.heap.size w w1 := hm1.below (hb2.alloc hsz2 _) (le_alloc hsz2) ho2.block
        clear hm1
        go_wp2
        go_roundw
        case rel => exact ⟨k + 1, acc ++ [x], by omega, by go_num, by simp; omega, by rw [← Hacc.out, Hx.out, Hr.out, finU_take _ _ _ _ H5.out], ho1, hb1⟩
        case measure => simp [intOf] <;> omega
    · have hnk : k = n := by omega
      subst hnk
      have hall : l.take k = l := List.take_of_length_le (by rw [Hl.out]; exact Nat.le_refl _)
      have hdn : finU acc (unFrom (runOf l) []) = unstuffM l := by rw [← Hacc.out, List.drop_eq_nil_of_le (by rw [Hl.out]; exact Nat.le_refl _), hall]
      rw [finU_end] at hdn
      have Hdn := Lib.hid hdn; clear hdn hall
      go_wp2_with fail
      refine (BLast_any A k c l _ (h.below hbl) (by omega)).mono ?_
      rintro e w2 ⟨rfl, hq⟩
      have ho2 := ho.below (below_draws hq)
      have hb2 := bthen hbl (below_draws hq)
      clear hq
      by_cases h5 : (runOf l).2 = 5
      · have h5' : (((runOf l).2 : Int) == 5) = true := by rw [h5]; rfl
        have H5 := Lib.hid h5; clear h5
        go_wp2
        go_ret2
        have e := Hdn.out
        rw [if_pos H5.out] at e
        rw [← e]
        exact ⟨_, rfl, Ow.nil _ _ _ _, hb2⟩
      · have h5' : (((runOf l).2 : Int) == 5) = false := by simp; omega
        have H5 := Lib.hid h5; clear h5
        go_wp2
        go_ret2
        have e := Hdn.out
        rw [if_neg H5.out] at e
        rw [← e]
        exact ⟨_, rfl, ho2, hb2⟩
end Go.Proofs.Ytllloipjaeljlaa
