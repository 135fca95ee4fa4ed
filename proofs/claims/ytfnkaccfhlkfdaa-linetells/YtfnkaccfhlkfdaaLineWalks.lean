/-
  Contracts of line's functions: Both, Unboth, Turn, Unturn, Balance, for every input.
-/
import Derived.Test.YtfnkaccfhlkfdaaSlices
import Derived.Test.YtfnkaccfhlkfdaaRoom
import Derived.Test.YtfnkaccfhlkfdaaLineMath
namespace Go.Proofs.Ytfnkaccfhlkfdaa
open Go.RowKit
set_option linter.unusedVariables false

set_option maxHeartbeats 400000 in
theorem Both_any (A : Option Addr) (n c : Nat) (l : List Bool) (w : World) (h : Rd w 1 A n (l.map Value.bool)) (hn : n ≤ 140737488355328) :
    Calls Try.prog 10 #[.slice A n c] w fun e w' => ∃ v, e = .returned v ∧ Ow Value.bool w' w.heap.size 4 v (bothM l) ∧ Below w.heap.size w w' := by
  have Hl := Lib.hid h.lenMap
  have hmk : ∀ W : World, (Instr.makeSlice 22 (.int .i64 0) (.int .i64 (2 * (n : Int)))).run Try.prog W = .ok (.slice (some ⟨W.heap.size, 0, none⟩) 0 (2 * n)) (W.alloc (.cells (madeCells #[.bool false] (2 * n)) 4)) := fun W => by
    have := run_make0 elBool rfl .i64 .i64 (2 * n) (by omega) (by omega) W
    simpa using this
  have Ho0 := Lib.hid (Ow.room Value.bool false w 4 (base := w.heap.size) (2 * n) (by unfold maxLen; omega) (Nat.le_refl _))
  go_enter Try.func10, Try.ntmps10
  go_wp2
  go_loopw [3, 12] (fun v i wr => ∃ k : Nat, k ≤ n ∧ i = .int .i64 k ∧ v = .slice (some ⟨w.heap.size, 0, none⟩) (2 * k) (2 * n) ∧ Ow Value.bool wr w.heap.size 4 (.slice (some ⟨w.heap.size, 0, none⟩) (2 * k) (2 * n)) (bothM (l.take k)) ∧ Below w.heap.size w wr ∧ w.heap.size + 1 ≤ wr.heap.size) (fun _ i _ => n - (intOf i).toNat)
  case atStart => exact ⟨0, Nat.zero_le _, rfl, rfl, Ho0.out, (Below.refl _ _).alloc (Nat.le_refl _) _, by simp⟩
  case round =>
    obtain ⟨k, hk, rfl, rfl, ho, hbl, hsz⟩ := hrel
    by_cases hlt : k < n
    · obtain ⟨ad, x, rfl, hx, hc⟩ := (h.below hbl).atMap hlt
      have Hs : Hid (bothM (l.take (k + 1)) = bothM (l.take k) ++ [!x, x]) := by show _ = _; rw [take_snoc hx, bothM_snoc]
      clear hx
      go_wp2_with (at_builtin; go_must (refine wpList_apR Value.bool _ elBool rfl rfl one_bool w.heap.size w.heap.size (2 * k) (2 * n) _ rfl (ho.alloc _) _ 2 2 [!x, x] rfl (Rd.litAt Value.bool _ _ rfl) (by omega) (by omega) ?_; intro w1 ho1 hg1))
      go_roundw
      case rel =>
        refine ⟨k + 1, by omega, by go_num, rfl, by rw [Hs.out]; exact ho1, below_grown (hbl.alloc (by omega) _) hg1 (Nat.le_refl _) (le_alloc (by omega)), ?_⟩
        have := hg1.size; simp at this; omega
      case measure => simp [intOf] <;> omega
    · obtain rfl : k = n := by omega
      rw [List.take_of_length_le (by rw [Hl.out]; exact Nat.le_refl _)] at ho
      go_wp2
      go_ret
      exact ⟨_, rfl, ho, hbl⟩

set_option maxHeartbeats 400000 in
theorem Turn_any (f : Bool) (A : Option Addr) (n c : Nat) (l : List Bool) (w : World) (h : Rd w 1 A n (l.map Value.bool)) (hn : n ≤ 281474976710656) :
    Calls Try.prog 14 #[.bool f, .slice A n c] w fun e w' => ∃ v, e = .returned v ∧ Ow Value.bool w' w.heap.size 4 v (turnM f l) ∧ Below w.heap.size w w' := by
  have Hl := Lib.hid h.lenMap
  have hmk := run_make0 elBool rfl .i64 .i64 n (by omega) (by omega)
  have Ho0 := Lib.hid (Ow.room Value.bool false w 4 (base := w.heap.size) n (by unfold maxLen; omega) (Nat.le_refl _))
  go_enter Try.func14, Try.ntmps14
  go_wp2
  go_loopw [5, 6, 15] (fun v g i wr => ∃ (k : Nat) (acc : List Bool) (lv : Bool), k ≤ n ∧ i = .int .i64 k ∧ g = .bool lv ∧ v = .slice (some ⟨w.heap.size, 0, none⟩) k n ∧ acc ++ turnM lv (l.drop k) = turnM f l ∧ Ow Value.bool wr w.heap.size 4 (.slice (some ⟨w.heap.size, 0, none⟩) k n) acc ∧ Below w.heap.size w wr ∧ w.heap.size + 1 ≤ wr.heap.size) (fun _ _ i _ => n - (intOf i).toNat)
  case atStart => exact ⟨0, [], f, Nat.zero_le _, rfl, rfl, rfl, rfl, Ho0.out, (Below.refl _ _).alloc (Nat.le_refl _) _, by simp⟩
  case round =>
    obtain ⟨k, acc, lv, hk, rfl, rfl, rfl, hacc, ho, hbl, hsz⟩ := hrel
    have Hacc := Lib.hid hacc; clear hacc
    by_cases hlt : k < n
    · obtain ⟨ad, x, rfl, hx, hc⟩ := (h.below hbl).atMap hlt
      have Hx := Lib.hid (drop_cons hx); clear hx
      go_wp2_with (at_builtin; go_must (refine wpList_apR Value.bool _ elBool rfl rfl one_bool w.heap.size w.heap.size k n _ rfl (ho.alloc _) _ 1 1 [lv == x] rfl (Rd.litAt Value.bool _ _ rfl) (by omega) (by omega) ?_; intro w1 ho1 hg1))
      go_roundw
      case rel =>
        refine ⟨k + 1, acc ++ [lv == x], lv == x, by omega, by go_num, rfl, rfl, by rw [← Hacc.out, Hx.out, turnM, List.append_assoc]; rfl, ho1, below_grown (hbl.alloc (by omega) _) hg1 (Nat.le_refl _) (le_alloc (by omega)), ?_⟩
        have := hg1.size; simp at this; omega
      case measure => simp [intOf] <;> omega
    · obtain rfl : k = n := by omega
      have e := Hacc.out
      rw [List.drop_eq_nil_of_le (by rw [Hl.out]; exact Nat.le_refl _), turnM, List.append_nil] at e
      subst e
      go_wp2
      go_ret
      exact ⟨_, rfl, ho, hbl⟩

set_option maxHeartbeats 400000 in
theorem Unturn_any (f : Bool) (A : Option Addr) (n c : Nat) (l : List Bool) (w : World) (h : Rd w 1 A n (l.map Value.bool)) (hn : n ≤ 281474976710656) :
    Calls Try.prog 16 #[.bool f, .slice A n c] w fun e w' => ∃ v, e = .returned v ∧ Ow Value.bool w' w.heap.size 4 v (unturnM f l) ∧ Below w.heap.size w w' := by
  have Hl := Lib.hid h.lenMap
  have hmk := run_make0 elBool rfl .i64 .i64 n (by omega) (by omega)
  have Ho0 := Lib.hid (Ow.room Value.bool false w 4 (base := w.heap.size) n (by unfold maxLen; omega) (Nat.le_refl _))
  go_enter Try.func16, Try.ntmps16
  go_wp2
  go_loopw [5, 6, 15] (fun v g i wr => ∃ (k : Nat) (acc : List Bool) (lv : Bool), k ≤ n ∧ i = .int .i64 k ∧ g = .bool lv ∧ v = .slice (some ⟨w.heap.size, 0, none⟩) k n ∧ acc ++ unturnM lv (l.drop k) = unturnM f l ∧ Ow Value.bool wr w.heap.size 4 (.slice (some ⟨w.heap.size, 0, none⟩) k n) acc ∧ Below w.heap.size w wr ∧ w.heap.size + 1 ≤ wr.heap.size) (fun _ _ i _ => n - (intOf i).toNat)
  case atStart => exact ⟨0, [], f, Nat.zero_le _, rfl, rfl, rfl, rfl, Ho0.out, (Below.refl _ _).alloc (Nat.le_refl _) _, by simp⟩
  case round =>
    obtain ⟨k, acc, lv, hk, rfl, rfl, rfl, hacc, ho, hbl, hsz⟩ := hrel
    have Hacc := Lib.hid hacc; clear hacc
    by_cases hlt : k < n
    · obtain ⟨ad, x, rfl, hx, hc⟩ := (h.below hbl).atMap hlt
      have Hx := Lib.hid (drop_cons hx); clear hx
      go_wp2_with (at_builtin; go_must (refine wpList_apR Value.bool _ elBool rfl rfl one_bool w.heap.size w.heap.size k n _ rfl (ho.alloc _) _ 1 1 [x == lv] rfl (Rd.litAt Value.bool _ _ rfl) (by omega) (by omega) ?_; intro w1 ho1 hg1))
      go_roundw
      case rel =>
        refine ⟨k + 1, acc ++ [x == lv], x, by omega, by go_num, rfl, rfl, by rw [← Hacc.out, Hx.out, unturnM, List.append_assoc]; rfl, ho1, below_grown (hbl.alloc (by omega) _) hg1 (Nat.le_refl _) (le_alloc (by omega)), ?_⟩
        have := hg1.size; simp at this; omega
      case measure => simp [intOf] <;> omega
    · obtain rfl : k = n := by omega
      have e := Hacc.out
      rw [List.drop_eq_nil_of_le (by rw [Hl.out]; exact Nat.le_refl _), unturnM, List.append_nil] at e
      subst e
      go_wp2
      go_ret
      exact ⟨_, rfl, ho, hbl⟩

set_option maxHeartbeats 400000 in
theorem Balance_any (A : Option Addr) (n c : Nat) (l : List Bool) (w : World) (h : Rd w 1 A n (l.map Value.bool)) (hn : n ≤ 281474976710656) :
    Calls Try.prog 11 #[.slice A n c] w fun e w' => e = .returned (.tuple #[.int .i64 (balM l).1, .int .i64 (balM l).2]) ∧ w = w' := by
  have Hl := Lib.hid h.lenMap
  go_enter Try.func11, Try.ntmps11
  go_wp2
  go_loop [4, 5, 10] (fun s t i => ∃ (k : Nat) (p : Int × Int), k ≤ n ∧ i = .int .i64 k ∧ s = .int .i64 p.1 ∧ t = .int .i64 p.2 ∧ p = balM (l.take k)) (fun _ _ i => n - (intOf i).toNat)
  case atStart => exact ⟨0, (0, 0), Nat.zero_le _, rfl, rfl, rfl, rfl⟩
  case round =>
    obtain ⟨k, p, hk, rfl, rfl, rfl, hp⟩ := hrel
    have hle := balM_le (l.take k)
    rw [← hp] at hle
    have hlk : (l.take k).length ≤ k := by simp; omega
    have Hp := Lib.hid hp; clear hp
    by_cases hlt : k < n
    · obtain ⟨ad, x, rfl, hx, hc⟩ := h.atMap hlt
      have Hs : Hid (balM (l.take (k + 1)) = balStep p x) := by show _ = _; rw [take_snoc hx, balM_snoc, ← Hp.out]
      clear hx
      cases x
      · go_wp2
        go_round
        case rel => exact ⟨k + 1, balStep p false, by omega, by go_num, by go_num, int_eq (by simp only [balStep]; simp <;> omega), Hs.out.symm⟩
        case measure => simp [intOf] <;> omega
      · go_wp2
        go_round
        case rel => exact ⟨k + 1, balStep p true, by omega, by go_num, by go_num, int_eq (by simp only [balStep]; simp <;> omega), Hs.out.symm⟩
        case measure => simp [intOf] <;> omega
    · obtain rfl : k = n := by omega
      have e := Hp.out
      rw [List.take_of_length_le (by rw [Hl.out]; exact Nat.le_refl _)] at e
      subst e
      go_wp2
      go_ret2
      exact ⟨rfl, rfl⟩
end Go.Proofs.Ytfnkaccfhlkfdaa
