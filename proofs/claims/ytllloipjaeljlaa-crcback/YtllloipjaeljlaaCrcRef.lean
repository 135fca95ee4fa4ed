/-
  Contracts of the reference's CSum and COpen.
-/
import Derived.Test.YtllloipjaeljlaaCrcWalks
import Derived.Deep.RegionWith
namespace Go.Proofs.Ytllloipjaeljlaa
open Go.RowKit
set_option linter.unusedVariables false

theorem gen16 : bitsOf 16 50585 = true :: bitsOf 15 17817 := by decide
theorem mix_take (L p : List Bool) (k j : Nat) (x y : Bool) (hp : p[j]? = some x) (hL : L[k + j]? = some y) :
    (L.take k ++ mix (p.take j) (L.drop k))[k + j]? = some y ∧ (L.take k ++ mix (p.take j) (L.drop k)).set (k + j) (y != x) = L.take k ++ mix (p.take (j + 1)) (L.drop k) := by
  have hj : j < p.length := (List.getElem?_eq_some_iff.1 hp).1
  have hk : k + j < L.length := (List.getElem?_eq_some_iff.1 hL).1
  have hl : (L.take k).length = k := by simp; omega
  have hpj : (p.take j).length = j := by simp; omega
  have hd : (L.drop k)[(p.take j).length]? = some y := by rw [hpj, List.getElem?_drop]; exact hL
  constructor
  · rw [List.getElem?_append_right (by omega), hl, Nat.add_sub_cancel_left, mix_at _ _ _ (by omega), List.getElem?_drop]; exact hL
  · rw [List.set_append_right _ _ (by omega), hl, Nat.add_sub_cancel_left, take_snoc hp, mix_snoc _ _ _ _ hd, hpj]
theorem Ow.blt {α : Type} {f : α → Value} {w : World} {base g n c : Nat} {e : TypeId} {l : List α} (h : Ow f w base e (.slice (some ⟨g, 0, none⟩) n c) l) : g < w.heap.size := by
  have hn := h.len.1
  subst hn
  exact (World.ownsRow.lt h g rfl).2

set_option maxHeartbeats 1000000 in
theorem CSum_any (A : Option Addr) (n c : Nat) (l : List Bool) (w : World) (h : Rd w 1 A n (l.map Value.bool)) (hn : n ≤ 140737488351232) :
    Calls Try.prog 26 #[.slice A n c] w fun e w' => e = .returned (.int .i64 (crcM l)) ∧ Below w.heap.size w w' := by
  have Hl := Lib.hid h.lenMap
  go_enter Try.func26, Try.ntmps26
  go_wp2_with (at_builtin; first
    | (refine wpList_apZ Value.bool false _ elBool rfl rfl rfl rfl Try.underlying3 w.heap.size _ _ rfl ho1 15 rfl (by decide) (by have := hm1.1.size; simp at this; omega) (by simp [Hl.out]; omega) (by decide) ?_; intro v2 w2 ho2 hm2)
    | go_must (refine wpList_apM Value.bool _ elBool rfl rfl one_bool w.heap.size (.slice (some ⟨w.heap.size, 0, none⟩) 0 0) [] rfl (Ow.empty Value.bool _ _ (Nat.le_refl _)) _ _ _ l rfl (h.alloc _) (le_alloc (Nat.le_refl _)) (by simp <;> omega) (by omega) ?_; intro v1 w1 ho1 hm1))
  rw [List.nil_append] at ho1 ho2
  have hb1 : Below w.heap.size w w1 := hm1.below ((Below.refl _ _).alloc (Nat.le_refl _) _) (le_alloc (Nat.le_refl _)) (new_block (Nat.le_refl _))
  have hb2 : Below w.heap.size w w2 := hm2.below hb1 hb1.size ho1.block
  clear ho1 hm1 hm2 hb1
  refine (APut_ok 16 50585 _ (by decide) (by decide) (by decide)).mono ?_
  rintro e w3 ⟨A3, c3, rfl, ho3, hb3⟩
  obtain ⟨g, c2, hv, hg, hc2, hcm2⟩ := ho2.head (by simp)
  have hLl : (l ++ List.replicate 15 false).length = n + 15 := by simp [Hl.out]
  rw [hLl] at hv hc2
  subst hv
  have hglt := ho2.blt
  have ho := ho2.below hb3
  have hb := bthen hb2 hb3
  clear ho2 hb2 hb3 hLl
  go_wp2
  go_loopw [19] (fun i wr => ∃ (k : Nat) (L : List Bool), k ≤ n ∧ i = .int .i64 k ∧ divM (n - k) (L.drop k) = bitsOf 15 (crcM l) ∧ Ow Value.bool wr w.heap.size 4 (.slice (some ⟨g, 0, none⟩) (n + 15) c2) L ∧ Ow Value.bool wr w2.heap.size 4 (.slice A3 16 c3) (bitsOf 16 50585) ∧ Below w.heap.size w wr) (fun i _ => n - (intOf i).toNat)
  case atStart => exact ⟨0, _, Nat.zero_le _, rfl, by rw [Nat.sub_zero, List.drop_zero, ← Hl.out]; exact divM_sum l, ho, ho3, hb⟩
  case round =>
    clear ho ho3 hb
    obtain ⟨k, L, hk, rfl, hdiv, ho, ho3, hb⟩ := hrel
    have hLl := Lib.hid ho.len.1.symm
    have Hdiv := Lib.hid hdiv; clear hdiv
    by_cases hlt : k < n
    · have hx : L[k]? = some (L[k]'(by rw [hLl.out]; omega)) := List.getElem?_eq_getElem _
      generalize L[k]'(by rw [hLl.out]; omega) = x at *
      have hc := ho.cellAt hx
      have Hx := Lib.hid (drop_cons hx); clear hx
      cases x
      · go_wp2
        go_roundw
        case rel => exact ⟨k + 1, L, by omega, by go_num, by rw [← Hdiv.out, Hx.out, show n - k = (n - (k + 1)) + 1 by omega, divM_step]; rfl, ho, ho3, hb⟩
        case measure => simp [intOf] <;> omega
      · go_wp2
        go_loopw [28] (fun i wr => ∃ (j : Nat), j ≤ 16 ∧ i = .int .i64 j ∧ Ow Value.bool wr w.heap.size 4 (.slice (some ⟨g, 0, none⟩) (n + 15) c2) (L.take k ++ mix ((bitsOf 16 50585).take j) (L.drop k)) ∧ Ow Value.bool wr w2.heap.size 4 (.slice A3 16 c3) (bitsOf 16 50585) ∧ Below w.heap.size w wr) (fun i _ => 16 - (intOf i).toNat)
        case atStart => exact ⟨0, Nat.zero_le _, rfl, by simpa [mix] using ho, ho3, hb⟩
        case round =>
          clear ho ho3 hb hc
          obtain ⟨j, hj, rfl, ho, ho3, hb⟩ := hrel
          by_cases hjl : j < 16
          · obtain ⟨ad, xp, rfl, hxp, hcp⟩ := ho3.rd.atMap hjl
            have hy : L[k + j]? = some (L[k + j]'(by rw [hLl.out]; omega)) := List.getElem?_eq_getElem _
            generalize L[k + j]'(by rw [hLl.out]; omega) = y at *
            obtain ⟨hat, hset⟩ := mix_take L _ k j xp y hxp hy
            have hc := ho.cellAt hat
            have hf := ho.freeAt (k + j)
            have hp := ho.put (k + j) (y != xp)
            rw [hset] at hp
            have hq := ho3.grown (grownBy_setCell _ ⟨g, k + j, none⟩ (.bool (y != xp))) hglt
            have hbp := hb.setCell (p := ⟨g, k + j, none⟩) hg (.bool (y != xp))
            have hidx : ((k : Int) + (j : Int)).toNat = k + j := by omega
            clear hat hset hxp hy
            go_wp2
            go_roundw
            case rel => exact ⟨j + 1, by omega, by go_num, hp, hq, hbp⟩
            case measure => simp [intOf] <;> omega
          · have hj16 : j = 16 := by omega
            subst hj16
            have e : (bitsOf 16 50585).take 16 = true :: bitsOf 15 17817 := by decide
            rw [e, Hx.out, mix] at ho
            go_wp2
            go_roundw
            case rel =>
              refine ⟨k + 1, _, by omega, by go_num, ?_, ho, ho3, hb⟩
              rw [← Hdiv.out, Hx.out, show n - k = (n - (k + 1)) + 1 by omega, divM_step]
              have hl : (L.take k).length = k := by simp; have := hLl.out; omega
              rw [List.drop_append, hl, List.drop_eq_nil_of_le (by omega), show k + 1 - k = 1 by omega]
              rfl
            case measure => simp [intOf] <;> omega
    · have hnk : k = n := by omega
      subst hnk
      have hcut := ho.rd.cut (k := k) (cap := c2) (by omega) hc2
      have hcr : L.drop k = bitsOf 15 (crcM l) := by have e := Hdiv.out; rw [Nat.sub_self, divM_nil] at e; exact e
      have had : (⟨g, 0, none⟩ : Addr).add k = ⟨g, k, none⟩ := by unfold Addr.add; split <;> simp_all
      rw [Nat.mul_one, ← List.map_drop, if_neg (by omega), hcr, Option.map_some, had] at hcut
      replace hcut : Rd wr 1 (some ⟨g, k, none⟩) 15 _ := Rd.len_eq (by omega) hcut
      clear hcr had
      go_wp2_with fail
      refine (AGet_any (some ⟨g, k, none⟩) 15 (c2 - k) _ _ hcut (by decide)).mono ?_
      rintro e w5 ⟨rfl, rfl⟩
      have hlt' := crcM_lt l
      rw [num_bitsOf 15 _ (by omega) (by simp; omega)]
      go_wp2
      go_ret
      exact ⟨rfl, hb⟩

set_option maxHeartbeats 1000000 in
theorem COpen_any (A : Option Addr) (n c : Nat) (l : List Bool) (w : World) (h : Rd w 1 A n (l.map Value.bool)) (hnc : n ≤ c) (hc : c ≤ 9223372036854775807) (hn : n ≤ 140737488351232) :
    Calls Try.prog 24 #[.slice A n c] w fun e w' => ∃ A' c', e = .returned (.tuple #[.slice A' (openM l).1.length c', .int .i64 (openM l).2]) ∧ Rd w' 1 A' (openM l).1.length ((openM l).1.map Value.bool) ∧ Below w.heap.size w w' ∧ (openM l).1.length ≤ c' ∧ c' ≤ 9223372036854775807 := by
  have Hl := Lib.hid h.lenMap
  have hz := num_of_zero l
  unfold openM
  rw [Hl.out] at hz ⊢
  by_cases h15 : n < 15
  · rw [if_pos h15]
    have h15' : (n : Int) - 15 < 0 := by omega
    clear hz
    go_enter Try.func24, Try.ntmps24
    go_wp2
    go_ret2
    exact ⟨none, 0, rfl, Rd.nil _ _ _, Below.refl _ _, by simp, by decide⟩
  · rw [if_neg h15]
    obtain ⟨m, rfl⟩ : ∃ m, n = m + 15 := ⟨n - 15, by omega⟩
    obtain ⟨ad, hA, _⟩ := h.2 (by omega)
    subst hA
    specialize hz (by omega)
    rw [Nat.add_sub_cancel] at hz ⊢
    have hrk := h.take (k := m) (by omega)
    rw [Nat.mul_one, ← List.map_take] at hrk
    have hrd := h.cut (k := m) (cap := c) (by omega) hnc
    rw [Nat.mul_one, ← List.map_drop, if_neg (by omega), Option.map_some] at hrd
    replace hrd : Rd w 1 (some (ad.add m)) 15 _ := Rd.len_eq (by omega) hrd
    have hmc : m ≤ c := by omega
    have htl : (l.take m).length = m := by have := Hl.out; simp; omega
    clear h15
    have h15' : decide ((m : Int) < 0) = false := by simp
    by_cases he : crcM l = 0
    · rw [if_neg (by simpa using he)]
      have he' : ((crcM (l.take m) : Int) != num (l.drop m)) = false := by rw [hz.1 he]; simp
      simp only [htl]
      clear he hz
      go_enter Try.func24, Try.ntmps24
      go_wp2_with fail
      go_region_with (first
        | (go_at_call 26; refine (CSum_any _ _ _ (l.take m) _ ?_ ?_).mono ?_; exact hrk.drew; omega; rintro e w1 ⟨rfl, hb1⟩)
        | (go_at_call 32; refine (AGet_any _ _ _ (l.drop m) _ ?_ ?_).mono ?_; (first | exact hrd.drew.below hb1 | exact hrd.drew); omega; rintro e w2 ⟨rfl, rfl⟩))
      all_goals
        go_wp2
        go_ret2
        exact ⟨some ad, c, rfl, hrk.drew.below hb1, bthen (Below.refl _ w).drew hb1, hmc, hc⟩
    · rw [if_pos (by simpa using he)]
      have he' : ((crcM (l.take m) : Int) != num (l.drop m)) = true := by rw [bne_iff_ne]; exact fun e => he (hz.2 e)
      clear he hz
      go_enter Try.func24, Try.ntmps24
      go_wp2_with fail
      go_region_with (first
        | (go_at_call 26; refine (CSum_any _ _ _ (l.take m) _ ?_ ?_).mono ?_; exact hrk.drew; omega; rintro e w1 ⟨rfl, hb1⟩)
        | (go_at_call 32; refine (AGet_any _ _ _ (l.drop m) _ ?_ ?_).mono ?_; (first | exact hrd.drew.below hb1 | exact hrd.drew); omega; rintro e w2 ⟨rfl, rfl⟩))
      all_goals
        go_wp2
        go_ret2
        exact ⟨none, 0, rfl, Rd.nil _ _ _, bthen (Below.refl _ w).drew hb1, by simp, by decide⟩
end Go.Proofs.Ytllloipjaeljlaa
