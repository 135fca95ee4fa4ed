/-
  Contracts of bitrow.Pack and Unpack and of the reference's AUnpack.
-/
import Derived.Test.YtepogmnodmoebaaBitWalks2
import Derived.Test.YtepogmnodmoebaaSlices
namespace Go.Proofs.Ytepogmnodmoebaa
open Go.RowKit
set_option linter.unusedVariables false

theorem Pack_len (A B : Option Addr) (n c m d : Nat) (w : World) (h : n ≠ m) :
    Calls Try.prog 21 #[.slice A n c, .slice B m d] w fun e w' => e = .returned (.tuple #[.slice none 0 0, .int .i64 1]) ∧ w = w' := by
  have hne : ((n : Int) != (m : Int)) = true := by rw [bne_iff_ne]; omega
  clear h
  go_enter Try.func21, Try.ntmps21
  go_wp2
  go_ret2
  exact ⟨rfl, rfl⟩

set_option maxHeartbeats 400000 in
theorem Pack_any (A B : Option Addr) (n c d : Nat) (ws ns : List Int) (w : World) (h : Rd w 1 A n (ws.map (Value.int .i64))) (h' : Rd w 1 B n (ns.map (Value.int .i64))) (hn : n ≤ 1099511627776) :
    Calls Try.prog 21 #[.slice A n c, .slice B n d] w fun e w' => ∃ v, e = .returned (.tuple #[v, .int .i64 (packM ws ns).2]) ∧ Ow Value.bool w' w.heap.size 4 v (packM ws ns).1 ∧ Below w.heap.size w w' := by
  have Hl := Lib.hid h.lenMap
  have Hl' := Lib.hid h'.lenMap
  go_enter Try.func21, Try.ntmps21
  go_wp2
  go_loopw [6, 18] (fun v i wr => ∃ (k : Nat) (acc : List Bool), k ≤ n ∧ i = .int .i64 k ∧ acc.length ≤ 62 * k ∧ fin acc (packM (ws.drop k) (ns.drop k)) = packM ws ns ∧ Ow Value.bool wr w.heap.size 4 v acc ∧ Below w.heap.size w wr) (fun _ i _ => n - (intOf i).toNat)
  case atStart => exact ⟨0, [], Nat.zero_le _, rfl, by simp, fin_nil_pack _ _, Ow.nil _ _ _ _, Below.refl _ _⟩
  case round =>
    obtain ⟨k, acc, hk, rfl, hal, hacc, ho, hbl⟩ := hrel
    have Hacc := Lib.hid hacc; clear hacc
    have hsz := hbl.size
    by_cases hlt : k < n
    · obtain ⟨ad, x, rfl, hx, hc⟩ := (h.below hbl).atMap hlt
      obtain ⟨ad', y, rfl, hy, hc'⟩ := (h'.below hbl).atMap hlt
      have Hx := Lib.hid (drop_cons hx); clear hx
      have Hy := Lib.hid (drop_cons hy); clear hy
      by_cases hok : PutOk x y
      · have hst := Lib.hid (fin_pack acc x y (ws.drop (k + 1)) (ns.drop (k + 1)) hok)
        obtain ⟨hx0, hx1, hy0, hy1⟩ := hok
        obtain ⟨wd, rfl⟩ := Int.eq_ofNat_of_zero_le hx0
        rw [Int.toNat_natCast] at hy1
        have Hy1 := Lib.hid hy1; clear hy1
        rw [Int.toNat_natCast] at hst
        go_wp2_with (first
          | (go_at_call 36; refine (Put_ok wd y _ (by omega) hy0 Hy1.out).mono ?_; rintro e w1 ⟨A1, c1, rfl, ho1, hb1⟩)
          | (at_builtin; go_must (refine wpList_apM Value.bool _ elBool rfl rfl one_bool w.heap.size _ acc rfl (ho.below hb1) A1 wd c1 _ rfl ho1.rd (by have := hb1.size; omega) (by omega) (by omega) ?_; intro v' w2 ho2 hm2)))
        go_roundw
        case rel => exact ⟨k + 1, acc ++ bitsOf wd y, by omega, by go_num, by simp [bitsOf_length]; omega, by rw [← Hacc.out, Hx.out, Hy.out, hst.out], ho2, hm2.below (hbl.trans (hb1.mono hsz)) (by have := hb1.size; omega) ho.block⟩
        case measure => simp [intOf] <;> omega
      · have hst := Lib.hid (fin_pack_bad acc x y (ws.drop (k + 1)) (ns.drop (k + 1)) hok)
        have Hok := Lib.hid hok; clear hok
        go_wp2_with (go_at_call 36; refine (Put_bad x y _ Hok.out).mono ?_; rintro e w1 ⟨rfl, rfl⟩)
        go_ret2
        have e : packM ws ns = ([], 2) := by rw [← Hacc.out, Hx.out, Hy.out, hst.out]
        rw [e]
        exact ⟨_, rfl, Ow.nil _ _ _ _, hbl⟩
    · have hnk : k = n := by omega
      subst hnk
      go_wp2
      go_ret2
      have e : packM ws ns = (acc, 0) := by
        rw [← Hacc.out, List.drop_eq_nil_of_le (by rw [Hl.out]; exact Nat.le_refl _)]
        simp [packM, fin]
      rw [e]
      exact ⟨_, rfl, ho, hbl⟩

set_option maxHeartbeats 400000 in
theorem Unpack_any (A B : Option Addr) (n c m d : Nat) (ws : List Int) (bs : List Bool) (w : World) (h : Rd w 1 A n (ws.map (Value.int .i64))) (h' : Rd w 1 B m (bs.map Value.bool)) (hmd : m ≤ d) (hn : n ≤ 1099511627776) (hd : d ≤ 9223372036854775807) :
    Calls Try.prog 41 #[.slice A n c, .slice B m d] w fun e w' => ∃ v, e = .returned (.tuple #[v, .int .i64 (unpackM ws bs).2]) ∧ Ow (Value.int .i64) w' w.heap.size 3 v (unpackM ws bs).1 ∧ Below w.heap.size w w' := by
  have Hl := Lib.hid h.lenMap
  go_enter Try.func41, Try.ntmps41
  go_wp2
  go_loopw [1, 6, 11] (fun s v i wr => ∃ (k : Nat) (acc : List Int) (B' : Option Addr) (m' d' : Nat) (rest : List Bool), k ≤ n ∧ i = .int .i64 k ∧ acc.length ≤ k ∧ s = .slice B' m' d' ∧ m' ≤ d' ∧ d' ≤ 9223372036854775807 ∧ Rd w 1 B' m' (rest.map Value.bool) ∧
      fin acc (unpackM (ws.drop k) rest) = unpackM ws bs ∧ Ow (Value.int .i64) wr w.heap.size 3 v acc ∧ Below w.heap.size w wr) (fun _ _ i _ => n - (intOf i).toNat)
  case atStart => exact ⟨0, [], B, m, d, bs, Nat.zero_le _, rfl, by simp, rfl, hmd, hd, h', fin_nil_unpack _ _, Ow.nil _ _ _ _, Below.refl _ _⟩
  case round =>
    obtain ⟨k, acc, B', m', d', rest, hk, rfl, hal, rfl, hmd', hd', hr, hacc, ho, hbl⟩ := hrel
    have Hacc := Lib.hid hacc; clear hacc
    have Hr := Lib.hid hr.lenMap
    have hsz := hbl.size
    by_cases hlt : k < n
    · obtain ⟨ad, x, rfl, hx, hc⟩ := (h.below hbl).atMap hlt
      have Hx := Lib.hid (drop_cons hx); clear hx
      by_cases hw : 0 ≤ x ∧ x ≤ 62
      · obtain ⟨hx0, hx1⟩ := id hw
        obtain ⟨wd, rfl⟩ := Int.eq_ofNat_of_zero_le hx0
        by_cases hle : wd ≤ m'
        · have hst := fin_unpack acc wd (ws.drop (k + 1)) rest hw (by rw [Hr.out]; simpa using hle)
          rw [Int.toNat_natCast] at hst
          have Hst := Lib.hid hst
          clear hst hw
          have htk := hr.take (k := wd) hle
          have hdr := hr.cut (k := wd) (cap := d') hle hmd'
          rw [Nat.mul_one, ← List.map_take] at htk
          rw [Nat.mul_one, ← List.map_drop] at hdr
          go_wp2_with (first
            | (go_at_call 43; refine (isWidth_yes _ _ (by omega) (by omega)).mono ?_; rintro e w1 ⟨rfl, rfl⟩)
            | (go_at_call 44; refine (number_any B' wd d' (rest.take wd) _ (htk.below hbl) (by omega)).mono ?_; rintro e w1 ⟨rfl, rfl⟩)
            | (at_builtin; go_must (refine wpList_apM (Value.int .i64) _ elInt rfl rfl (one_int _) w.heap.size u6 acc rfl (ho.alloc _) _ 1 1 _ rfl (Rd.oneM (Value.int .i64) _ _ _) (le_alloc (by omega)) (by omega) (by omega) ?_; intro v' w2 ho2 hm2)))
          go_roundw
          case rel =>
            have hb2 : Below w.heap.size w w2 := hm2.below (hbl.alloc hsz _) (le_alloc (by omega)) ho.block
            exact ⟨k + 1, acc ++ [num (rest.take wd)], _, m' - wd, d' - wd, rest.drop wd, by omega, by go_num, by simp; omega, rfl, by omega, by omega, hdr, by rw [← Hacc.out, Hx.out, Hst.out], ho2, hb2⟩
          case measure => simp [intOf] <;> omega
        · have hst := Lib.hid (fin_unpack_short acc wd (ws.drop (k + 1)) rest hw (by rw [Hr.out]; simp; omega))
          clear hw
          go_wp2_with (go_at_call 43; refine (isWidth_yes _ _ (by omega) (by omega)).mono ?_; rintro e w1 ⟨rfl, rfl⟩)
          go_ret2
          have e : unpackM ws bs = ([], 8) := by rw [← Hacc.out, Hx.out, hst.out]
          rw [e]
          exact ⟨_, rfl, Ow.nil _ _ _ _, hbl⟩
      · have hst := Lib.hid (fin_unpack_range acc x (ws.drop (k + 1)) rest hw)
        have Hw := Lib.hid hw; clear hw
        go_wp2_with (go_at_call 43; refine (isWidth_no _ _ (by have := Hw.out; omega)).mono ?_; rintro e w1 ⟨rfl, rfl⟩)
        go_ret2
        have e : unpackM ws bs = ([], 2) := by rw [← Hacc.out, Hx.out, hst.out]
        rw [e]
        exact ⟨_, rfl, Ow.nil _ _ _ _, hbl⟩
    · have hnk : k = n := by omega
      subst hnk
      have hdn : ws.drop k = [] := List.drop_eq_nil_of_le (by rw [Hl.out]; exact Nat.le_refl _)
      have Hdn := Lib.hid hdn; clear hdn
      rcases Nat.eq_zero_or_pos m' with hz | hz
      · subst hz
        go_wp2
        go_ret2
        have e : unpackM ws bs = (acc, 0) := by
          rw [← Hacc.out, Hdn.out, List.eq_nil_of_length_eq_zero Hr.out]
          simp [unpackM, fin]
        rw [e]
        exact ⟨_, rfl, ho, hbl⟩
      · go_wp2
        go_ret2
        have e : unpackM ws bs = ([], 1) := by
          have hne : rest ≠ [] := fun e => by rw [e] at Hr; have := Hr.out; simp at this; omega
          rw [← Hacc.out, Hdn.out]
          simp [unpackM, fin, hne]
        rw [e]
        exact ⟨_, rfl, Ow.nil _ _ _ _, hbl⟩

end Go.Proofs.Ytepogmnodmoebaa
