/-
  The walks of CrcBurst and CrcOdd.
-/
import Derived.Test.YtllloipjaeljlaaCrcLaws
namespace Go.Proofs.Ytllloipjaeljlaa
open Go.RowKit
set_option linter.unusedVariables false

/-- The bits of a burst, the least significant first. -/
def burstOf (m : Nat) : List Bool := (List.range 15).map (m.testBit ·)
theorem burstOf_length (m : Nat) : (burstOf m).length = 15 := by simp [burstOf]
theorem burstOf_at (m j : Nat) (h : j < 15) : (burstOf m)[j]? = some (m.testBit j) := by simp [burstOf, h]
theorem burstOf_ne (m : Nat) (h0 : m ≠ 0) (h : m < 32768) : burstOf m ≠ List.replicate 15 false := by
  intro e
  apply h0
  apply Nat.eq_of_testBit_eq
  intro i
  rw [Nat.zero_testBit]
  by_cases hi : i < 15
  · have := burstOf_at m i hi
    rw [e, List.getElem?_replicate, if_pos hi] at this
    exact (Option.some.inj this).symm
  · exact Nat.testBit_lt_two_pow (Nat.lt_of_lt_of_le h (Nat.pow_le_pow_right (n := 2) (by decide) (show 15 ≤ i by omega)))
theorem mix_shift (q : List Bool) (a : Nat) : ∀ X : List Bool, a ≤ X.length → mix (List.replicate a false ++ q) X = X.take a ++ mix q (X.drop a) := by
  induction a with
  | zero => intro X _; simp
  | succ a ih => intro X h; cases X with
    | nil => simp at h
    | cons x X => simp at h; simp [List.replicate_succ, mix, ih X h]
theorem set_same {α : Type} {l : List α} {k : Nat} {x : α} (h : l[k]? = some x) : l.set k x = l := by
  obtain ⟨hk, rfl⟩ := List.getElem?_eq_some_iff.1 h
  exact List.set_getElem_self hk
theorem u16_and_nat (a b : Nat) (ha : a < 65536) (hb : b < 65536) : bits .and .u16 (a : Int) (b : Int) = ((a &&& b : Nat) : Int) := by
  have hx : a &&& b < 2 ^ 16 := Nat.and_lt_two_pow _ (by omega)
  show IntKind.u16.wrap ((BitVec.ofInt 16 (a : Int) &&& BitVec.ofInt 16 (b : Int)).toNat : Int) = _
  rw [BitVec.toNat_and, BitVec.ofInt_natCast, BitVec.ofInt_natCast, BitVec.toNat_ofNat, BitVec.toNat_ofNat, Nat.mod_eq_of_lt (by omega), Nat.mod_eq_of_lt (by omega)]
  simp [IntKind.wrap, IntKind.signed, IntKind.bits]
  omega
theorem u16_mask (a : Nat) (ha : a < 65536) : bits .and .u16 (a : Int) 32767 = ((a % 32768 : Nat) : Int) := by
  refine (u16_and_nat a 32767 ha (by decide)).trans ?_
  rw [show (32767 : Nat) = 2 ^ 15 - 1 from rfl, Nat.and_two_pow_sub_one_eq_mod]
theorem u16_bit (m j : Nat) (h : m < 32768) : (bits .and .u16 ((m : Int) / 2 ^ j) 1 == 1) = m.testBit j := by
  have e : (m : Int) / 2 ^ j = ((m / 2 ^ j : Nat) : Int) := by simp
  have hle : m / 2 ^ j ≤ m := Nat.div_le_self _ _
  have e1 : bits .and .u16 ((m / 2 ^ j : Nat) : Int) 1 = ((m / 2 ^ j &&& 1 : Nat) : Int) := u16_and_nat (m / 2 ^ j) 1 (by omega) (by decide)
  rw [e, e1, Nat.and_one_is_mod, Nat.testBit_eq_decide_div_mod_eq]
  rcases Nat.mod_two_eq_zero_or_one (m / 2 ^ j) with h | h <;> rw [h] <;> rfl

set_option maxHeartbeats 1000000 in
theorem CrcBurst_walk (A0 : Option Addr) (n0 c0 : Nat) (l0 : List Bool) (a1 a2 : Int) (w : World) (h0 : Rd w 1 A0 n0 (l0.map Value.bool)) (k0 : n0 ≤ c0) (b0 : c0 * 1 ≤ 140737488351232) (w1 : (Lit.int .i64 a1).wf = true) (w2 : (Lit.int .u16 a2).wf = true) :
    Calls Try.prog 10 #[.slice A0 n0 c0, .int .i64 a1, .int .u16 a2] w fun e w' => e = .returned (.bool true) ∧ Below w.heap.size w w' := by
  have Hl := Lib.hid h0.lenMap
  have hsl := sealM_length l0
  rw [Hl.out] at hsl
  have hz := crc_sealM l0
  obtain ⟨h20, h21⟩ := wf_u16 w2
  obtain ⟨B, rfl⟩ := Int.eq_ofNat_of_zero_le h20
  obtain ⟨hlo, hhi⟩ := wf_i64 w1
  clear w1 w2 h20
  have hm := u16_mask B (by omega)
  have hmlt : B % 32768 < 32768 := by omega
  generalize B % 32768 = m at *
  clear h21
  go_enter Try.func10, Try.ntmps10
  go_wp2_with fail
  refine (alive3_any _).mono ?_
  rintro e wa ⟨rfl, hb⟩
  have hsz := hb.size
  go_wp2_with fail
  refine (Seal_any A0 n0 c0 l0 _ (h0.below hb) (by omega)).mono ?_
  rintro e w1 ⟨v1, rfl, ho1, hb1⟩
  obtain ⟨g, c1, hv, hg, hc1, hm1⟩ := ho1.head (by omega)
  rw [hsl] at hv hc1
  subst hv
  replace hm1 := max63 hm1
  replace hb := bthen hb hb1
  clear hb1
  generalize sealM l0 = X at *
  have hgw : w.heap.size ≤ g := by omega
  clear hg hsz
  by_cases hm0 : m = 0
  · have hm0' : ((m : Int) == 0) = true := by simp [hm0]
    clear hm0
    go_wp2
    go_ret
    exact ⟨rfl, hb⟩
  · have hm0' : ((m : Int) == 0) = false := by simp; omega
    have hne := Lib.hid (burstOf_ne m hm0 hmlt)
    clear hm0
    by_cases hneg : a1 < 0
    · go_wp2
      go_ret
      exact ⟨rfl, hb⟩
    · obtain ⟨a, rfl⟩ := Int.eq_ofNat_of_zero_le (show 0 ≤ a1 by omega)
      have hneg' : decide ((a : Int) < 0) = false := by simp
      clear hneg hlo
      by_cases hgt : n0 < a
      · have hgt' : (n0 : Int) < (a : Int) := by omega
        go_wp2
        go_ret
        exact ⟨rfl, hb⟩
      · have hgt' : decide ((n0 : Int) < (a : Int)) = false := by simp; omega
        have ha : a ≤ n0 := by omega
        clear hgt
        go_wp2
        go_loopw [30] (fun i wr => ∃ (j : Nat), j ≤ 15 ∧ i = .int .i64 j ∧ Ow Value.bool wr wa.heap.size 4 (.slice (some ⟨g, 0, none⟩) (n0 + 15) c1) (X.take a ++ mix ((burstOf m).take j) (X.drop a)) ∧ Below w.heap.size w wr) (fun i _ => 15 - (intOf i).toNat)
        case atStart => exact ⟨0, Nat.zero_le _, rfl, by simpa [mix] using ho1, hb⟩
        case round =>
          clear ho1 hb
          obtain ⟨j, hj, rfl, ho, hb⟩ := hrel
          by_cases hjl : j < 15
          · have hy : X[a + j]? = some (X[a + j]'(by rw [hsl]; omega)) := List.getElem?_eq_getElem _
            generalize X[a + j]'(by rw [hsl]; omega) = y at *
            obtain ⟨hat, hset⟩ := mix_take X _ a j _ y (burstOf_at m j hjl) hy
            have hbit := u16_bit m j hmlt
            have hidx : ((a : Int) + (j : Int)).toNat = a + j := by omega
            clear hy
            generalize m.testBit j = t at *
            cases t
            · rw [Bool.bne_false, set_same hat] at hset
              rw [hset] at ho
              clear hat hset
              go_wp2
              go_roundw
              case rel => exact ⟨j + 1, by omega, by go_num, ho, hb⟩
              case measure => simp [intOf] <;> omega
            · have hc := ho.cellAt hat
              have hf := ho.freeAt (a + j)
              have hp := ho.put (a + j) (!y)
              rw [Bool.bne_true] at hset
              rw [hset] at hp
              have hbp := hb.setCell (p := ⟨g, a + j, none⟩) hgw (.bool (!y))
              clear hat hset
              go_wp2
              go_roundw
              case rel => exact ⟨j + 1, by omega, by go_num, hp, hbp⟩
              case measure => simp [intOf] <;> omega
          · have hj15 : j = 15 := by omega
            subst hj15
            have hbu := crc_burst X (burstOf m) a (burstOf_length m) (by omega) hz hne.out
            rw [mix_shift _ _ _ (by omega)] at hbu
            rw [List.take_of_length_le (l := burstOf m) (by rw [burstOf_length]; exact Nat.le_refl _)] at ho
            have hlen := ho.len.1
            generalize X.take a ++ mix (burstOf m) (X.drop a) = Y at *
            have hop : openM Y = ([], 7) := by rw [openM, if_neg (by omega), if_pos hbu]
            clear hlen hbu
            go_wp2_with fail
            refine (Open_any (some ⟨g, 0, none⟩) (n0 + 15) c1 Y _ ho.rd hc1 hm1 (by omega)).mono ?_
            rintro e w3 ⟨v3, rfl, ho3, hb3⟩
            rw [hop] at ho3 ⊢
            simp only at ho3 ⊢
            obtain ⟨A3, c3, hv, _⟩ := ho3.form
            rw [List.length_nil] at hv
            subst hv
            have hb' := bthen hb hb3
            go_wp2
            go_ret
            exact ⟨rfl, hb'⟩

set_option maxHeartbeats 1000000 in
theorem CrcOdd_walk (A0 : Option Addr) (n0 c0 : Nat) (l0 : List Bool) (A1 : Option Addr) (n1 c1 : Nat) (l1 : List Int) (w : World) (h0 : Rd w 1 A0 n0 (l0.map Value.bool)) (k0 : n0 ≤ c0) (b0 : c0 * 1 ≤ 140737488351232) (h1 : Rd w 1 A1 n1 (l1.map (Value.int .i64))) (w1 : ∀ x ∈ l1, (Lit.int .i64 x).wf = true) (k1 : n1 ≤ c1) (b1 : c1 * 8 ≤ 140737488351232) :
    Calls Try.prog 11 #[.slice A0 n0 c0, .slice A1 n1 c1] w fun e w' => e = .returned (.bool true) ∧ Below w.heap.size w w' := by
  have Hl := Lib.hid h0.lenMap
  have hsl := sealM_length l0
  rw [Hl.out] at hsl
  have hz := crc_sealM l0
  go_enter Try.func11, Try.ntmps11
  go_wp2_with fail
  refine (alive3_any _).mono ?_
  rintro e wa ⟨rfl, hb⟩
  have hsz := hb.size
  go_wp2_with fail
  refine (Seal_any A0 n0 c0 l0 _ (h0.below hb) (by omega)).mono ?_
  rintro e w2 ⟨v2, rfl, ho2, hb2⟩
  obtain ⟨g, c2, hv, hg, hc2, hm2⟩ := ho2.head (by omega)
  rw [hsl] at hv hc2
  subst hv
  replace hm2 := max63 hm2
  replace hb := bthen hb hb2
  clear hb2
  generalize sealM l0 = X at *
  have hgw : w.heap.size ≤ g := by omega
  have hglt := ho2.blt
  clear hg hsz
  go_wp2_with fail
  refine (Clone_any (some ⟨g, 0, none⟩) (n0 + 15) c2 X _ ho2.rd (by omega)).mono ?_
  rintro e w3 ⟨v3, rfl, ho3, hb3⟩
  replace ho2 := ho2.below hb3
  replace hb := bthen hb hb3
  obtain ⟨A3, c3, hv, _⟩ := ho3.form
  rw [hsl] at hv
  subst hv
  clear hb3
  go_wp2
  go_loopw [21] (fun i wr => ∃ (j : Nat) (Y : List Bool), j ≤ n1 ∧ i = .int .i64 j ∧ Ow Value.bool wr wa.heap.size 4 (.slice (some ⟨g, 0, none⟩) (n0 + 15) c2) Y ∧ Ow Value.bool wr w2.heap.size 4 (.slice A3 (n0 + 15) c3) X ∧ Below w.heap.size w wr) (fun i _ => n1 - (intOf i).toNat)
  case atStart => exact ⟨0, X, Nat.zero_le _, rfl, ho2, ho3, hb⟩
  case round =>
    clear ho2 ho3 hb
    obtain ⟨j, Y, hj, rfl, ho2, ho3, hb⟩ := hrel
    have hYl := ho2.len.1
    by_cases hjl : j < n1
    · obtain ⟨ad, x, rfl, hx, hc⟩ := (h1.below hb).atMap hjl
      have hxw := wf_i64 (w1 x (List.mem_of_getElem? hx))
      clear hx
      by_cases hneg : x < 0
      · have hneg' : decide (0 ≤ x) = false := by simp; omega
        clear hneg
        go_wp2
        go_roundw
        case rel => exact ⟨j + 1, Y, by omega, by go_num, ho2, ho3, hb⟩
        case measure => simp [intOf] <;> omega
      · obtain ⟨k, rfl⟩ := Int.eq_ofNat_of_zero_le (show 0 ≤ x by omega)
        have hneg' : decide (0 ≤ (k : Int)) = true := by simp
        clear hneg
        by_cases hkl : k < n0 + 15
        · have hkl' : decide ((k : Int) < (n0 : Int) + 15) = true := by simp; omega
          have hy : Y[k]? = some (Y[k]'(by rw [← hYl]; omega)) := List.getElem?_eq_getElem _
          generalize Y[k]'(by rw [← hYl]; omega) = y at *
          have hcy := ho2.cellAt hy
          have hf := ho2.freeAt k
          have hp := ho2.put k (!y)
          have hq := ho3.grown (grownBy_setCell _ ⟨g, k, none⟩ (.bool (!y))) hglt
          have hbp := hb.setCell (p := ⟨g, k, none⟩) hgw (.bool (!y))
          clear hy
          go_wp2
          go_roundw
          case rel => exact ⟨j + 1, Y.set k (!y), by omega, by go_num, hp, hq, hbp⟩
          case measure => simp [intOf] <;> omega
        · have hkl' : decide ((k : Int) < (n0 : Int) + 15) = false := by simp; omega
          go_wp2
          go_roundw
          case rel => exact ⟨j + 1, Y, by omega, by go_num, ho2, ho3, hb⟩
          case measure => simp [intOf] <;> omega
    · have hjn : j = n1 := by omega
      subst hjn
      have hr2 := ho2.rd
      have hr3 := ho3.rd
      have Hy := Lib.hid hYl; clear hYl
      go_wp2
      go_loopw [9, 44] (fun t i wr' => ∃ (k : Nat), k ≤ n0 + 15 ∧ i = .int .i64 k ∧ t = .int .i64 (dif (Y.take k) (X.take k)) ∧ ∃ q, wr' = wr.drewN q) (fun _ i _ => n0 + 15 - (intOf i).toNat)
      case atStart => exact ⟨0, Nat.zero_le _, rfl, rfl, 0, rfl⟩
      case round =>
        obtain ⟨k, hk, rfl, rfl, q, rfl⟩ := hrel
        by_cases hkl : k < n0 + 15
        · have hx : Y[k]? = some (Y[k]'(by rw [← Hy.out]; omega)) := List.getElem?_eq_getElem _
          generalize Y[k]'(by rw [← Hy.out]; omega) = x at *
          have hc := ho2.cellAt hx
          obtain ⟨ad', x', rfl, hx', hc'⟩ := hr3.atMap hkl
          have Hd : Hid (dif (Y.take (k + 1)) (X.take (k + 1)) = dif (Y.take k) (X.take k) + if x != x' then 1 else 0) := by
            show _ = _
            rw [take_snoc hx, take_snoc hx', dif_snoc _ _ _ _ (by have := Hy.out; simp; omega)]
          have hdl := dif_le (Y.take k) (X.take k)
          simp only [List.length_take] at hdl
          clear hx hx'
          generalize dif (Y.take k) (X.take k) = d at *
          by_cases hxx : x = x'
          · subst hxx
            go_wp2
            go_quiet (fail)
            go_wp2
            go_roundw
            case rel => exact ⟨k + 1, by omega, by go_num, int_eq (by rw [Hd.out]; simp), _, rfl⟩
            case measure => simp [intOf] <;> omega
          · have hne : (x != x') = true := by simp [hxx]
            have hne2 : (x == x') = false := by simp [hxx]
            rw [hne] at Hd
            clear hxx
            go_wp2
            go_quiet (fail)
            go_wp2
            go_roundw
            case rel => exact ⟨k + 1, by omega, by go_num, int_eq (by rw [Hd.out]; simp), _, rfl⟩
            case measure => simp [intOf] <;> omega
        · have hkn : k = n0 + 15 := by omega
          subst hkn
          have hod := crc_odd X Y (by have := Hy.out; omega) hz
          rw [List.take_of_length_le (l := Y) (by have := Hy.out; omega), List.take_of_length_le (l := X) (by omega)]
          have hbq := bthen hb (below_draws ⟨q, rfl⟩)
          go_wp2_with fail
          refine (Open_any (some ⟨g, 0, none⟩) (n0 + 15) c2 Y _ (hr2.drewN q) hc2 hm2 (by omega)).mono ?_
          rintro e w5 ⟨v5, rfl, ho5, hb5⟩
          obtain ⟨A5, c5, rfl, _⟩ := ho5.form
          have hb' := bthen hbq hb5
          clear ho5 hb5
          by_cases hpar : dif Y X % 2 = 1
          · have hop : openM Y = ([], 7) := by rw [openM, if_neg (by have := Hy.out; omega), if_pos (hod hpar)]
            rw [hop]
            have hpar' : ((dif Y X : Int) % 2 == 0) = false := by simp; omega
            clear hod hpar hop
            generalize dif Y X = d at *
            go_wp2
            go_ret
            exact ⟨rfl, hb'⟩
          · have hpar' : ((dif Y X : Int) % 2 == 0) = true := by simp; omega
            clear hod hpar
            generalize dif Y X = d at *
            go_wp2
            go_ret
            exact ⟨rfl, hb'⟩
end Go.Proofs.Ytllloipjaeljlaa
