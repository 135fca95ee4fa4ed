/-
  Contracts of bitrow.Of and Bytes and of the reference's APut, AGet, AOf, ABytes; Put and Get for every argument.
-/
import Derived.Test.YtpcpbccolkhgfaaBitWalks
import Derived.BigQuiet
import Derived.Deep.QuietTactic
namespace Go.Proofs.Ytpcpbccolkhgfaa
open Go.RowKit
set_option linter.unusedVariables false

/-- Numbers that a byte holds. -/
def Byte8 (l : List Int) : Prop := ∀ x ∈ l, 0 ≤ x ∧ x < 256
theorem Byte8.at {l : List Int} {k : Nat} {x : Int} (h : Byte8 l) (hx : l[k]? = some x) : 0 ≤ x ∧ x < 256 := h x (List.mem_of_getElem? hx)


/-! The reference -/
set_option maxHeartbeats 400000 in
theorem APut_ok (width : Nat) (n : Int) (w : World) (hw : width ≤ 62) (h0 : 0 ≤ n) (h1 : n < 2 ^ width) :
    Calls Try.prog 20 #[.int .i64 width, .int .i64 n] w fun e w' => ∃ A c, e = .returned (.tuple #[.slice A width c, .int .i64 0]) ∧ Ow Value.bool w' w.heap.size 4 (.slice A width c) (bitsOf width n) ∧ Below w.heap.size w w' := by
  have hn0 : decide (n < 0) = false := by simp; omega
  have hw0 : decide ((width : Int) < 0) = false := by simp
  have hw1 : decide (62 < (width : Int)) = false := by simp; omega
  have hwr : decide (wrap64 (2 ^ width) ≤ n) = false := by
    have hp : (2 : Int) ^ width ≤ 2 ^ 62 := pow_le_pow hw
    have hp0 : (0 : Int) < 2 ^ width := Int.pow_pos (by omega)
    rw [IntWalk.wrap64_in _ ⟨by omega, by omega⟩]; simp; omega
  have H1 := Lib.hid h1; clear h1
  go_enter Try.func20, Try.ntmps20
  go_wp2
  go_loopw [1, 6, 24] (fun t v i wr => ∃ k : Nat, k ≤ width ∧ i = .int .i64 k ∧ t = .int .i64 (n / 2 ^ k) ∧ Ow Value.bool wr w.heap.size 4 v (bitsOf k n) ∧ Below w.heap.size w wr) (fun _ _ i _ => width - (intOf i).toNat)
  case atStart => exact ⟨0, Nat.zero_le _, rfl, by simp, Ow.nil _ _ _ _, Below.refl _ _⟩
  case round =>
    obtain ⟨k, hk, rfl, rfl, ho, hbl⟩ := hrel
    have hsz := hbl.size
    obtain ⟨A, c, hv, _⟩ := ho.form
    rw [bitsOf_length] at hv
    subst hv
    by_cases hlt : k < width
    · have ht0 : 0 ≤ n / 2 ^ k := Int.ediv_nonneg h0 (Int.le_of_lt (Int.pow_pos (by omega)))
      have ht : Hid (n / 2 ^ k / 2 = n / 2 ^ (k + 1)) := by
        show _ = _
        rw [Int.pow_succ, Int.ediv_ediv_of_nonneg (Int.le_of_lt (Int.pow_pos (by omega)))]
      have ht1 : n / 2 ^ k ≤ 4611686018427387904 := Int.le_trans (Int.ediv_le_self _ h0) (by have := H1.out; have : (2 : Int) ^ width ≤ 2 ^ 62 := pow_le_pow hw; omega)
      have hcon := Lib.hid (bitsOf_ref k n)
      generalize n / 2 ^ k = t at *
      go_wp2_with (at_builtin; go_must (refine wpList_apM Value.bool _ elBool rfl rfl one_bool w.heap.size _ [t % 2 == 1] rfl (Ow.one Value.bool _ _ _ hsz) A k c _ rfl (ho.rd.alloc _) (by simp; omega) (by simp; omega) (by omega) ?_; intro v' w1 ho1 hm1))
      go_roundw
      case rel => exact ⟨k + 1, by omega, by go_num, int_eq ht.out, by rw [← hcon.out]; exact ho1, hm1.below (hbl.alloc hsz _) (le_alloc (by omega)) (new_block hsz)⟩
      case measure => simp [intOf] <;> omega
    · have hnk : k = width := by omega
      subst hnk
      go_wp2
      go_ret2
      exact ⟨A, c, rfl, ho, hbl⟩

set_option maxHeartbeats 400000 in
theorem APut_bad (width n : Int) (w : World) (h : ¬ PutOk width n) :
    Calls Try.prog 20 #[.int .i64 width, .int .i64 n] w fun e w' => e = .returned (.tuple #[.slice none 0 0, .int .i64 2]) ∧ w = w' := by
  by_cases hw0 : width < 0
  · go_enter Try.func20, Try.ntmps20
    go_wp2
    go_ret2
    exact ⟨rfl, rfl⟩
  have hd0 : decide (width < 0) = false := by simpa using hw0
  by_cases hw1 : 62 < width
  · go_enter Try.func20, Try.ntmps20
    go_wp2
    go_ret2
    exact ⟨rfl, rfl⟩
  have hd1 : decide (62 < width) = false := by simpa using hw1
  by_cases hn : n < 0
  · clear hw0 hw1
    go_enter Try.func20, Try.ntmps20
    go_wp2
    go_ret2
    exact ⟨rfl, rfl⟩
  have hd2 : decide (n < 0) = false := by simpa using hn
  obtain ⟨k, rfl⟩ := Int.eq_ofNat_of_zero_le (Int.not_lt.1 hw0)
  have hwr : decide (wrap64 (2 ^ k) ≤ n) = true := by
    have hp : (2 : Int) ^ k ≤ 2 ^ 62 := pow_le_pow (by omega)
    have hp0 : (0 : Int) < 2 ^ k := Int.pow_pos (by omega)
    rw [IntWalk.wrap64_in _ ⟨by omega, by omega⟩]
    simp
    exact Int.not_lt.1 fun hlt => h ⟨by omega, by omega, by omega, by simpa using hlt⟩
  clear hn h hw0
  go_enter Try.func20, Try.ntmps20
  go_wp2
  go_ret2
  exact ⟨rfl, rfl⟩






theorem APut_any (width n : Int) (w : World) :
    Calls Try.prog 20 #[.int .i64 width, .int .i64 n] w fun e w' => ∃ A c, e = .returned (.tuple #[.slice A (putM width n).1.length c, .int .i64 (putM width n).2]) ∧ Ow Value.bool w' w.heap.size 4 (.slice A (putM width n).1.length c) (putM width n).1 ∧ Below w.heap.size w w' := by
  by_cases h : PutOk width n
  · rw [putM_ok h]
    obtain ⟨h0, h1, h2, h3⟩ := h
    obtain ⟨k, rfl⟩ := Int.eq_ofNat_of_zero_le h0
    rw [Int.toNat_natCast] at h3 ⊢
    simp only [bitsOf_length]
    exact APut_ok k n w (by omega) h2 h3
  · rw [putM_bad h]
    refine (APut_bad width n w h).mono ?_
    rintro e w' ⟨rfl, rfl⟩
    exact ⟨none, 0, rfl, Ow.nil _ _ _ _, Below.refl _ _⟩

end Go.Proofs.Ytpcpbccolkhgfaa
