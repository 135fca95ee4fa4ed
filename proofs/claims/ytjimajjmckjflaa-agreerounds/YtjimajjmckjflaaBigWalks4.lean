/-
  Contracts of the reference's whole numbers: Mul.
-/
import Derived.Test.YtjimajjmckjflaaBigWalks3
namespace Go.Proofs.Ytjimajjmckjflaa
open Go.RowKit
set_option linter.unusedVariables false

theorem prod_sign (x y : Int) : sgn (!(decide (x < 0) == decide (y < 0))) ((x.natAbs : Int) * y.natAbs) = x * y := by
  by_cases hx : x < 0 <;> by_cases hy : y < 0
  · rw [decide_eq_true hx, decide_eq_true hy]
    rw [Int.ofNat_natAbs_of_nonpos (by omega), Int.ofNat_natAbs_of_nonpos (by omega), Int.neg_mul_neg]
    simp [sgn]
  · rw [decide_eq_true hx, decide_eq_false hy]
    rw [Int.ofNat_natAbs_of_nonpos (by omega), Int.natAbs_of_nonneg (by omega)]
    simp [sgn, Int.neg_mul]
  · rw [decide_eq_false hx, decide_eq_true hy]
    rw [Int.natAbs_of_nonneg (by omega), Int.ofNat_natAbs_of_nonpos (by omega)]
    simp [sgn, Int.mul_neg]
  · rw [decide_eq_false hx, decide_eq_false hy]
    rw [Int.natAbs_of_nonneg (by omega), Int.natAbs_of_nonneg (by omega)]
    simp [sgn]

theorem digs_prod {a b : Int} (ha : IsDig a) (hb : IsDig b) : 0 ≤ a * b ∧ a * b ≤ 18446744065119617025 := by
  unfold IsDig at ha hb
  refine ⟨Int.mul_nonneg ha.1 hb.1, ?_⟩
  have := Int.mul_le_mul (show a ≤ 4294967295 by omega) (show b ≤ 4294967295 by omega) hb.1 (by omega)
  omega

/-- The row's digit at place k + j. -/
theorem mul_at {acc racc rest win : List Int} {k j : Nat} {o : Int} (hk : acc.length = k) (hj : racc.length = j) (ho : win[j]? = some o) : (acc ++ racc ++ win.drop j ++ rest)[k + j]? = some o := by
  have hl : (acc ++ racc).length = k + j := by simp; omega
  have hlt : j < win.length := (List.getElem?_eq_some_iff.1 ho).1
  rw [List.append_assoc (acc ++ racc), List.getElem?_append_right (by omega), hl, Nat.sub_self, drop_cons ho]; rfl
theorem mul_set {acc racc rest win : List Int} {k j : Nat} {o : Int} (v : Int) (hk : acc.length = k) (hj : racc.length = j) (ho : win[j]? = some o) :
    (acc ++ racc ++ win.drop j ++ rest).set (k + j) v = acc ++ (racc ++ [v]) ++ win.drop (j + 1) ++ rest := by
  have hl : (acc ++ racc).length = k + j := by simp; omega
  rw [List.append_assoc (acc ++ racc), List.set_append_right _ _ (by omega), hl, Nat.sub_self, drop_cons ho]
  simp
/-- The row's last carry. -/
theorem mul_last {acc racc : List Int} {k m t : Nat} (v : Int) (hk : acc.length = k) (hj : racc.length = m) :
    (acc ++ racc ++ List.replicate (t + 1) 0)[k + m]? = some 0 ∧ (acc ++ racc ++ List.replicate (t + 1) 0).set (k + m) v = acc ++ (racc ++ [v]) ++ List.replicate t 0 := by
  have hl : (acc ++ racc).length = k + m := by simp; omega
  constructor
  · rw [List.getElem?_append_right (by omega), hl, Nat.sub_self]; rfl
  · rw [List.set_append_right _ _ (by omega), hl, Nat.sub_self, List.replicate_succ, List.set_cons_zero]; simp

theorem RawAt.storedN {w1 : World} {b base : Nat} {s : Bool} {A : Option Addr} {n c : Nat} {l : List Int} (hz : IntBox w1 b) (ho : Ow (Value.int .u32) w1 base 63 (.slice A n c) l) (hd : Dig l) :
    RawAt ((w1.setCell ⟨b, 0, none⟩ (.bool s)).setCell ⟨b, 1, none⟩ (.slice A n c)) b s A n c l := by
  have hz' := hz
  obtain ⟨s0, A0, n0, c0, hb⟩ := hz
  exact ⟨hb.pair _ _, rd_grown ho.rd hz' (grownBy_pair _ _ _ _), ho.len.2.1, hd⟩

end Go.Proofs.Ytjimajjmckjflaa
