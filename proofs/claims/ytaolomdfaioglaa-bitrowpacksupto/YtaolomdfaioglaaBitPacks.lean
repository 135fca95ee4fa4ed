/-
  BitrowPacks' walk.
-/
import Derived.Test.YtaolomdfaioglaaBitWalks4
namespace Go.Proofs.Ytaolomdfaioglaa
open Go.RowKit
set_option linter.unusedVariables false

set_option maxHeartbeats 1000000 in
theorem BitrowPacks_walk (A0 : Option Addr) (n0 c0 : Nat) (l0 : List Int) (A1 : Option Addr) (n1 c1 : Nat) (l1 : List Int) (A2 : Option Addr) (n2 c2 : Nat) (l2 : List Bool) (w : World)
    (h0 : Rd w 1 A0 n0 (l0.map (Value.int .i64))) (w0 : ∀ x ∈ l0, (Lit.int .i64 x).wf = true) (k0 : n0 ≤ c0) (b0 : c0 ≤ 1048576)
    (h1 : Rd w 1 A1 n1 (l1.map (Value.int .i64))) (w1 : ∀ x ∈ l1, (Lit.int .i64 x).wf = true) (k1 : n1 ≤ c1) (b1 : c1 ≤ 1048576)
    (h2 : Rd w 1 A2 n2 (l2.map Value.bool)) (k2 : n2 ≤ c2) (b2 : c2 ≤ 1048576) :
    Calls Try.prog 4 #[.slice A0 n0 c0, .slice A1 n1 c1, .slice A2 n2 c2] w fun e w' => e = .returned (.bool true) ∧ Below w.heap.size w w' := by
  clear w0 w1
  go_enter Try.func4, Try.ntmps4
  go_wp2_with fail
  have hl0 := h0.lenMap
  have hl1 := h1.lenMap
  have hul := unpackM_len l0 l2
  by_cases hnn : n0 = n1
  subst hnn
  refine (Pack_any A0 A1 n0 c0 c1 l0 l1 _ h0 h1 (by omega)).mono ?_
  rintro e wa ⟨va, rfl, hoa, hba⟩
  obtain ⟨Aa, ca, rfl, _⟩ := hoa.form
  have hra := hoa.rd
  clear hoa
  rotate_left
  refine (Pack_len A0 A1 n0 c0 n1 c1 _ hnn).mono ?_
  rintro e wa ⟨rfl, rfl⟩
  have hba : Below w.heap.size w w := Below.refl _ _
  obtain ⟨wa, hwa⟩ : ∃ wa, wa = w := ⟨_, rfl⟩
  rw [show Below w.heap.size w w ↔ Below w.heap.size w wa by rw [hwa]] at hba
  rw [← hwa]
  have Hwa := Lib.hid hwa
  clear hwa
  all_goals
    go_wp2_with fail
    refine (Unpack_any A0 A2 n0 c0 n2 c2 l0 l2 _ (h0.below hba) (h2.below hba) k2 (by omega) (by omega)).mono ?_
    rintro e wb ⟨vb, rfl, hob, hbb⟩
    obtain ⟨Ab, cb, rfl, _⟩ := hob.form
    have hrb := hob.rd
    clear hob
    have hb := bthen hba hbb
    go_wp2_with fail
    refine (AUnpack_any A0 A2 n0 c0 n2 c2 l0 l2 _ (h0.below hb) (h2.below hb) k2 (by omega) (by omega)).mono ?_
    rintro e wc ⟨vc, rfl, hoc, hbc⟩
    obtain ⟨Ac, cc, rfl, _⟩ := hoc.form
    have hrc := hoc.rd
    clear hoc
    replace hrb := hrb.below hbc
    generalize (unpackM l0 l2).2 = er at *
    generalize (unpackM l0 l2).1 = ul at *
    go_wp2_with fail
    refine (EqualI_any Ab Ac _ cb _ cc ul ul _ hrb hrc (by omega)).mono ?_
    rintro e wd ⟨rfl, hq⟩
    rw [show decide (ul = ul) = true by simp]
    have hbcd := bthen hbc (below_draws hq)
    replace hb := bthen hb hbcd
    clear hrb hrc hq hbc
  · have hne : ((n0 : Int) != (n1 : Int)) = true := by rw [bne_iff_ne]; omega
    clear hnn
    go_wp2
    go_ret
    exact ⟨rfl, hb⟩
  · have hrd := (hra.below hbb).below hbcd
    clear hra hbb hbcd hba
    have Hl0 := Lib.hid hl0; clear hl0
    have Hl1 := Lib.hid hl1; clear hl1
    obtain ⟨pl, hpl⟩ : ∃ pl, pl = (packM l0 l1).1 := ⟨_, rfl⟩
    obtain ⟨pe, hpe⟩ : ∃ pe, pe = (packM l0 l1).2 := ⟨_, rfl⟩
    have Hp : Hid (packM l0 l1 = (pl, pe)) := Prod.ext hpl.symm hpe.symm
    have Hpe : Hid (pe ≠ 0 → pl = []) := by rw [hpl, hpe]; exact pack_err l0 l1
    rw [← hpl] at hrd
    rw [← hpl, ← hpe]
    clear hpl hpe
    go_wp2
    go_loopw [13, 59] (fun v i wr => ∃ (k : Nat) (acc : List Bool), k ≤ n0 ∧ i = .int .i64 k ∧ acc.length ≤ 62 * k ∧ fin acc (packM (l0.drop k) (l1.drop k)) = packM l0 l1 ∧ Ow Value.bool wr wd.heap.size 4 v acc ∧ Below wd.heap.size wd wr) (fun _ i _ => n0 - (intOf i).toNat)
    case atStart => exact ⟨0, [], Nat.zero_le _, rfl, by simp, fin_nil_pack _ _, Ow.nil _ _ _ _, Below.refl _ _⟩
    case round =>
      obtain ⟨k, acc, hk, rfl, hal, hacc, ho, hbl⟩ := hrel
      have Hacc := Lib.hid hacc; clear hacc
      have hsz := hbl.size
      have hbr := bthen hb hbl
      by_cases hlt : k < n0
      · obtain ⟨ad, x, rfl, hx, hc⟩ := (h0.below hbr).atMap hlt
        obtain ⟨ad', y, rfl, hy, hc'⟩ := (h1.below hbr).atMap hlt
        have Hx := Lib.hid (drop_cons hx); clear hx
        have Hy := Lib.hid (drop_cons hy); clear hy
        by_cases hok : PutOk x y
        · have hst := Lib.hid (fin_pack acc x y (l0.drop (k + 1)) (l1.drop (k + 1)) hok)
          obtain ⟨hx0, hx1, hy0, hy1⟩ := hok
          obtain ⟨wi, rfl⟩ := Int.eq_ofNat_of_zero_le hx0
          rw [Int.toNat_natCast] at hy1 hst
          have Hy1 := Lib.hid hy1; clear hy1
          go_wp2_with (first
            | (go_at_call 10; refine (APut_ok wi y _ (by omega) hy0 Hy1.out).mono ?_; rintro e w1 ⟨A1, c1, rfl, ho1, hb1⟩)
            | (at_builtin; go_must (refine wpList_apM Value.bool _ elBool rfl rfl one_bool wd.heap.size _ acc rfl (ho.below hb1) A1 wi c1 _ rfl ho1.rd (by have := hb1.size; omega) (by omega) (by omega) ?_; intro v' w2 ho2 hm2)))
          go_roundw
          case rel => exact ⟨k + 1, acc ++ bitsOf wi y, by omega, by go_num, by simp [bitsOf_length]; omega, by rw [← Hacc.out, Hx.out, Hy.out, hst.out], ho2, hm2.below (hbl.trans (hb1.mono hsz)) (by have := hb1.size; omega) ho.block⟩
          case measure => simp [intOf] <;> omega
        · have hst := Lib.hid (fin_pack_bad acc x y (l0.drop (k + 1)) (l1.drop (k + 1)) hok)
          have Hok := Lib.hid hok; clear hok
          have e : (pl, pe) = ([], 2) := by rw [← Hp.out, ← Hacc.out, Hx.out, Hy.out, hst.out]
          injection e with e1 e2
          subst e1 e2
          go_wp2_with (go_at_call 10; refine (APut_bad x y _ Hok.out).mono ?_; rintro e w1 ⟨rfl, rfl⟩)
          go_ret
          exact ⟨rfl, hbr⟩
      · have hnk : k = n0 := by omega
        subst hnk
        have e : (pl, pe) = (acc, 0) := by
          rw [← Hp.out, ← Hacc.out, List.drop_eq_nil_of_le (by rw [Hl0.out]; exact Nat.le_refl _)]
          simp [packM, fin]
        injection e with e1 e2
        subst e1 e2
        obtain ⟨A9, c9, hv9, _⟩ := ho.form
        subst hv9
        go_wp2_with (go_at_call 12; refine (EqualB_any Aa A9 _ ca _ c9 pl pl _ (hrd.below hbl) ho.rd (by omega)).mono ?_; rintro e w1 ⟨rfl, hq⟩)
        go_ret
        exact ⟨ret_bool (by simp), bthen hbr (below_draws hq)⟩
end Go.Proofs.Ytaolomdfaioglaa
