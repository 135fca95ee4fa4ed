/-
  Contracts of the reference's HPack and HUnpack. No statement of the seat is here.
-/
import Derived.Test.YtmehdlnhllafaaaCobsWalks2
namespace Go.Proofs.Ytmehdlnhllafaaa
open Go.RowKit
set_option linter.unusedVariables false
set_option linter.unusedSimpArgs false

set_option maxHeartbeats 2000000 in
theorem HPack_any (A : Option Addr) (n c : Nat) (l : List Int) (w : World) (h : Rd w 1 A n (l.map (Value.int .u8))) (hb : Byte8 l) (hnc : n ≤ c) (hc : c ≤ 9223372036854775807) (hn : n ≤ 200000000000000) :
    Calls Try.prog 13 #[.slice A n c] w fun e w' => ∃ v, e = .returned v ∧ Ow (Value.int .u8) w' w.heap.size 5 v (packC l) ∧ Below w.heap.size w w' := by
  have hgr := pack_grows l
  rw [h.lenMap] at hgr
  have Hgr := Lib.hid hgr
  clear hgr
  obtain ⟨P, hP⟩ : ∃ P, P = packC l := ⟨_, rfl⟩
  rw [← hP] at Hgr ⊢
  have HP := Lib.hid hP; clear hP
  have hqn : n / 254 ≤ 1000000000000 := by omega
  generalize n / 254 = q at *
  go_enter Try.func13, Try.ntmps13
  go_wp2
  go_loopw [0, 3] (fun b v wr => ∃ (B : Option Addr) (m d : Nat) (l' acc : List Int), b = .slice B m d ∧ Rd w 1 B m (l'.map (Value.int .u8)) ∧ Byte8 l' ∧ m ≤ n ∧ m ≤ d ∧ d ≤ c ∧ Hid (acc ++ packC l' = P) ∧ Ow (Value.int .u8) wr w.heap.size 5 v acc ∧ Below w.heap.size w wr) (fun b _ _ => lenOf b)
  case atStart => exact ⟨A, n, c, l, [], rfl, h, hb, Nat.le_refl _, hnc, Nat.le_refl _, HP.out.symm, Ow.nil _ _ _ _, Below.refl _ _⟩
  case round =>
    obtain ⟨B, m, d, l', acc, rfl, hr, hb', hmn, hmd, hdc, Hp, ho, hbl⟩ := hrel
    have hsz := hbl.size
    have hle := runM_le l'
    have Hl := Lib.hid hr.lenMap
    have hsp : (0 : Int) ∉ l'.take (runM l') ∧ (runM l' = l'.length ∨ runM l' = 254 ∨ l'[runM l']? = some 0) := runF_spec 254 l'
    obtain ⟨k, hk⟩ : ∃ k, runM l' = k := ⟨_, rfl⟩
    rw [hk] at hle hsp
    rw [Hl.out] at hle hsp
    have Hk := Lib.hid hk; clear hk
    have Hsp := Lib.hid hsp; clear hsp
    obtain ⟨hkm, hk254⟩ := hle
    obtain ⟨hT, hrT⟩ := rd_to hr hkm hmd
    obtain ⟨AR, hC, hrC⟩ := rd_cut hr hkm hmd
    have hwr : IntKind.u8.wrap ((k : Int) + 1) = (k : Int) + 1 := by rw [IntKind.wrap_u8]; omega
    have Hlen : Hid (acc.length + (packC l').length ≤ n + q + 1) := by
      show _ ≤ _
      have := congrArg List.length Hp.out
      have h2 := Hgr.out
      simp only [List.length_append] at this
      omega
    go_wp2
    go_loop [4] (fun i => ∃ j : Nat, j ≤ k ∧ i = .int .i64 j) (fun i => k - (intOf i).toNat)
    case atStart => exact ⟨0, Nat.zero_le _, rfl⟩
    case round =>
      obtain ⟨j, hj, rfl⟩ := hrel
      by_cases hjk : j < k
      · obtain ⟨ad, x, rfl, hx, hcx⟩ := (hr.below hbl).atMap (k := j) (by omega)
        have hx0 : (x != 0) = true := by
          rw [bne_iff_ne]
          rintro rfl
          exact Hsp.out.1 (List.mem_of_getElem? (i := j) (by rw [List.getElem?_take_of_lt hjk]; exact hx))
        have j1 : decide ((j : Int) < (m : Int)) = true := by simp; omega
        have j2 : decide ((j : Int) < 254) = true := by simp; omega
        have hjm : j < m := by omega
        have hj254 := Lib.hid hk254
        clear hx hk254
        go_wp2
        go_round
        case rel => exact ⟨j + 1, by omega, by go_num⟩
        case measure => simp [intOf] <;> omega
      obtain rfl : j = k := by omega
      by_cases hend : j = m
      · subst hend
        have He : Hid (acc ++ [(j : Int) + 1] ++ l' = P) := by
          show _ = _
          rw [← Hp.out, pack_run1 Hk.out Hl.out.symm]; simp
        have hlen : acc.length + j + 1 ≤ n + q + 1 := by
          have := Hlen.out
          rw [pack_run1 Hk.out Hl.out.symm, List.length_cons, Hl.out] at this
          omega
        rw [List.take_of_length_le (by rw [Hl.out]; exact Nat.le_refl _)] at hrT
        go_wp2_with (first
          | (at_builtin; refine wpList_apW (Value.int .u8) _ elByte rfl rfl (one_int .u8) w.heap.size _ (acc ++ [(j : Int) + 1]) rfl ho2 B j d l' rfl (hrT.below hb2) hb2.size (by simp; omega) (by decide) ?_; intro v3 w3 ho3 hm3)
          | (at_builtin; refine wpList_apW (Value.int .u8) _ elByte rfl rfl (one_int .u8) w.heap.size _ acc rfl (ho.alloc _) _ 1 1 [(j : Int) + 1] rfl (Rd.oneM (Value.int .u8) _ _ _) (le_alloc hsz) (by simp; omega) (by decide) ?_; intro v2 w2 ho2 hm2; have hb2 : Below w.heap.size w w2 := hm2.below (hbl.alloc hsz _) (le_alloc hsz) ho.block))
        go_ret
        rw [← He.out]
        exact ⟨_, rfl, ho3, hm3.below hb2 hb2.size ho2.block⟩
      have hrest : acc.length + j + 1 ≤ n + q + 1 ∧ j < m := by
        refine ⟨?_, by omega⟩
        have := Hlen.out
        by_cases h254 : j < 254
        · rw [pack_run2 Hk.out (by rw [Hl.out]; exact hend) h254] at this
          simp only [List.length_cons, List.length_append, List.length_take, Hl.out] at this
          omega
        · rw [pack_run3 Hk.out (by rw [Hl.out]; exact hend) h254] at this
          simp only [List.length_cons, List.length_append, List.length_take, Hl.out] at this
          omega
      obtain ⟨hlen, hlt⟩ := hrest
      have hne : (((m - j : Nat) : Int) == 0) = false := by rw [beq_eq_false_iff_ne]; omega
      have hkm2 : ¬ j = l'.length := by rw [Hl.out]; exact hend
      by_cases h254 : j < 254
      · have hz : l'[j]? = some 0 := by
          rcases Hsp.out.2 with h | h | h
          · exact absurd h hend
          · omega
          · exact h
        obtain ⟨ad, x, rfl, hx, hcx⟩ := (hr.below hbl).atMap (k := j) (by omega)
        obtain rfl : x = 0 := by rw [hz] at hx; injection hx with hx; exact hx.symm
        have He : Hid (acc ++ [(j : Int) + 1] ++ l'.take j ++ packC (l'.drop (j + 1)) = P) := by
          show _ = _
          rw [← Hp.out, pack_run2 Hk.out hkm2 h254]; simp
        obtain ⟨AR2, hC2, hrC2⟩ := rd_tail (c := d - j) hrC (by omega) (by omega)
        rw [List.drop_drop] at hrC2
        have hbd : Byte8 (l'.drop (j + 1)) := fun x hx => hb' x (List.mem_of_mem_drop hx)
        generalize l'.take j = lt at *
        have j1 : decide ((j : Int) < (m : Int)) = true := by simp; omega
        have j2 : decide ((j : Int) < 254) = true := by simp; omega
        clear hrC Hp Hk Hlen hend hkm2 hz hx h254 hk254
        go_wp2_with (first
          | (at_builtin; refine wpList_apW (Value.int .u8) _ elByte rfl rfl (one_int .u8) w.heap.size _ (acc ++ [(j : Int) + 1]) rfl ho2 _ j d lt rfl (hrT.below hb2) hb2.size (by simp; omega) (by decide) ?_; intro v3 w3 ho3 hm3)
          | (at_builtin; refine wpList_apW (Value.int .u8) _ elByte rfl rfl (one_int .u8) w.heap.size _ acc rfl (ho.alloc _) _ 1 1 [(j : Int) + 1] rfl (Rd.oneM (Value.int .u8) _ _ _) (le_alloc hsz) (by simp; omega) (by decide) ?_; intro v2 w2 ho2 hm2; have hb2 : Below w.heap.size w w2 := hm2.below (hbl.alloc hsz _) (le_alloc hsz) ho.block))
        go_roundw
        case rel => exact ⟨AR2, m - j - 1, d - j - 1, l'.drop (j + 1), _, rfl, hrC2, hbd, by omega, by omega, by omega, He, ho3, hm3.below hb2 hb2.size ho2.block⟩
        case measure => simp [lenOf]; omega
      · have He : Hid (acc ++ [(j : Int) + 1] ++ l'.take j ++ packC (l'.drop j) = P) := by
          show _ = _
          rw [← Hp.out, pack_run3 Hk.out hkm2 h254]; simp
        have hbd : Byte8 (l'.drop j) := fun x hx => hb' x (List.mem_of_mem_drop hx)
        generalize l'.take j = lt at *
        have j1 : decide ((j : Int) < (m : Int)) = true := by simp; omega
        have j2 : decide ((j : Int) < 254) = false := by simp; omega
        have hj0 : 0 < j := by omega
        clear Hp Hk Hlen hend hkm2 h254 hk254
        go_wp2_with (first
          | (at_builtin; refine wpList_apW (Value.int .u8) _ elByte rfl rfl (one_int .u8) w.heap.size _ (acc ++ [(j : Int) + 1]) rfl ho2 B j d lt rfl (hrT.below hb2) hb2.size (by simp; omega) (by decide) ?_; intro v3 w3 ho3 hm3)
          | (at_builtin; refine wpList_apW (Value.int .u8) _ elByte rfl rfl (one_int .u8) w.heap.size _ acc rfl (ho.alloc _) _ 1 1 [(j : Int) + 1] rfl (Rd.oneM (Value.int .u8) _ _ _) (le_alloc hsz) (by simp; omega) (by decide) ?_; intro v2 w2 ho2 hm2; have hb2 : Below w.heap.size w w2 := hm2.below (hbl.alloc hsz _) (le_alloc hsz) ho.block))
        go_roundw
        case rel => exact ⟨AR, m - j, d - j, l'.drop j, _, rfl, hrC, hbd, by omega, by omega, by omega, He, ho3, hm3.below hb2 hb2.size ho2.block⟩
        case measure => simp [lenOf]; omega
theorem grp_zero (m : List Int) : grpM (0 :: m) = 1 := by simp [grpM]
theorem grp_short {x : Int} {m : List Int} (h0 : x ≠ 0) (h : (m.length : Int) + 1 < x) : grpM (x :: m) = 8 := by simp only [grpM]; rw [if_neg h0, if_pos h]
theorem grp_nought {x : Int} {m : List Int} (h0 : x ≠ 0) (h : x ≤ (m.length : Int) + 1) (hz : (0 : Int) ∈ m.take (x.toNat - 1)) : grpM (x :: m) = 1 := by simp only [grpM]; rw [if_neg h0, if_neg (by omega), if_pos hz]
theorem thenU_bad {acc : List Int} {x : Int} {m : List Int} {e : Int} (h : grpM (x :: m) = e) (he : e ≠ 0) : thenU acc (unG (x :: m)) = ([], e) := by
  rw [unG_bad (by rw [h]; exact he), h]; simp [thenU, he]
set_option maxHeartbeats 2000000 in
theorem HUnpack_any (A : Option Addr) (n c : Nat) (l : List Int) (w : World) (h : Rd w 1 A n (l.map (Value.int .u8))) (hb : Byte8 l) (hn : n ≤ 200000000000000) :
    Calls Try.prog 10 #[.slice A n c] w (GivesB8 w (unpackC l)) := by
  have hl := h.lenMap
  obtain ⟨R, hR⟩ : ∃ R, R = unpackC l := ⟨_, rfl⟩
  rw [← hR]
  by_cases h0 : n = 0
  · subst h0
    obtain rfl : l = [] := List.eq_nil_of_length_eq_zero hl
    obtain rfl : R = ([], 8) := hR
    clear h
    go_enter Try.func10, Try.ntmps10
    go_wp2
    go_ret2
    exact ⟨_, rfl, Ow.nil _ _ _ _, Below.refl _ _⟩
  have hne : l ≠ [] := by rintro rfl; simp at hl; omega
  have HR : Hid (thenU [] (unG l) = R) := by show _ = _; rw [thenU_nil, hR]; unfold unpackC; rw [if_neg hne]
  have hn0 : ((n : Int) == 0) = false := by rw [beq_eq_false_iff_ne]; omega
  have Hl := Lib.hid hl
  clear hR hl h0 hne
  go_enter Try.func10, Try.ntmps10
  go_wp2
  go_loopw [4, 5] (fun v i wr => ∃ (a : Nat) (acc : List Int), a ≤ n ∧ i = .int .i64 a ∧ acc.length ≤ a ∧ Hid (thenU acc (unG (l.drop a)) = R) ∧ Ow (Value.int .u8) wr w.heap.size 5 v acc ∧ Below w.heap.size w wr) (fun _ i _ => n - (intOf i).toNat)
  case atStart => exact ⟨0, [], Nat.zero_le _, rfl, Nat.le_refl _, HR, Ow.nil _ _ _ _, Below.refl _ _⟩
  case round =>
    obtain ⟨a, acc, ha, rfl, hal, Hp, ho, hbl⟩ := hrel
    have hsz := hbl.size
    by_cases hlt : a < n
    · obtain ⟨ad, x, rfl, hx, hcx⟩ := (h.below hbl).atMap (k := a) (by omega)
      have hxb := hb x (List.mem_of_getElem? hx)
      obtain ⟨xn, rfl⟩ : ∃ xn : Nat, x = (xn : Int) := ⟨x.toNat, by omega⟩
      have Hd := Lib.hid (drop_cons hx)
      have hx255 : xn ≤ 255 := by omega
      have hwr : IntKind.i64.wrap (xn : Int) = (xn : Int) := IntWalk.i64_in _ (by omega)
      have Hml : Hid ((l.drop (a + 1)).length = n - (a + 1)) := by show _ = _; rw [List.length_drop, Hl.out]
      have Hm : Hid (∀ j, (l.drop (a + 1))[j]? = l[a + 1 + j]?) := fun j => by rw [List.getElem?_drop]
      have Hdd : Hid (∀ j, (l.drop (a + 1)).drop j = l.drop (a + 1 + j)) := fun j => by rw [List.drop_drop]
      clear hx hxb
      rw [Hd.out] at Hp
      generalize l.drop (a + 1) = m at *
      by_cases hx0 : xn = 0
      · subst hx0
        have e : thenU acc (unG (0 :: m)) = R := Hp.out
        rw [thenU_bad (e := 1) (grp_zero m) (by decide)] at e
        clear Hp
        go_wp2
        go_ret2
        rw [← e]
        exact ⟨_, rfl, Ow.nil _ _ _ _, hbl⟩
      have hq0 : ((xn : Int) == 0) = false := by rw [beq_eq_false_iff_ne]; omega
      by_cases hs : n < a + xn
      · have e := Hp.out
        rw [thenU_bad (e := 8) (grp_short (by omega) (by rw [Hml.out]; omega)) (by decide)] at e
        clear Hp
        go_wp2
        go_ret2
        rw [← e]
        exact ⟨_, rfl, Ow.nil _ _ _ _, hbl⟩
      have hle : a + xn ≤ n := by omega
      have hq1 : decide ((n : Int) < (a : Int) + (xn : Int)) = false := by simp; omega
      go_wp2
      go_loopw [4, 7] (fun v i wr => ∃ (j : Nat) (ac2 : List Int), 1 ≤ j ∧ j ≤ xn ∧ i = .int .i64 j ∧ ac2.length < a + j ∧ Hid (ac2 = acc ++ m.take (j - 1)) ∧ Hid ((0 : Int) ∉ m.take (j - 1)) ∧ Ow (Value.int .u8) wr w.heap.size 5 v ac2 ∧ Below w.heap.size w wr) (fun _ i _ => xn - (intOf i).toNat)
      case atStart => exact ⟨1, acc, by omega, by omega, rfl, by omega, by show _ = _; simp, by show _ ∉ _; simp, ho, hbl⟩
      case round =>
        obtain ⟨j, ac2, hj1, hjx, rfl, hal2, Hac, Hnz, ho2, hbl2⟩ := hrel
        have hsz2 := hbl2.size
        by_cases hjl : j < xn
        · obtain ⟨ad', y, he, hy, hcy⟩ := (h.below hbl2).atMap (k := a + j) (by omega)
          injection he with he
          subst he
          have hmy : m[j - 1]? = some y := by rw [Hm.out, show a + 1 + (j - 1) = a + j by omega]; exact hy
          have t1 : ((a : Int) + (j : Int)).toNat = a + j := by omega
          have b1 : 0 ≤ (a : Int) + (j : Int) := by omega
          have b2 : (a : Int) + (j : Int) < n := by omega
          have hjx' : decide ((j : Int) < (xn : Int)) = true := by simp; omega
          by_cases hy0 : y = 0
          · subst hy0
            have e := Hp.out
            rw [thenU_bad (e := 1) (grp_nought (by omega) (by rw [Hml.out]; omega) (by
              rw [Int.toNat_natCast]
              exact List.mem_of_getElem? (i := j - 1) (by rw [List.getElem?_take_of_lt (by omega)]; exact hmy))) (by decide)] at e
            clear Hp hy hmy
            go_wp2
            go_ret2
            rw [← e]
            exact ⟨_, rfl, Ow.nil _ _ _ _, hbl2⟩
          · have hyq : (y == 0) = false := by simpa using hy0
            have Hac3 : Hid (ac2 ++ [y] = acc ++ m.take j) := by
              show _ = _
              rw [Hac.out, show j = j - 1 + 1 by omega, take_snoc hmy]
              simp
            have Hnz3 : Hid ((0 : Int) ∉ m.take j) := by
              show _ ∉ _
              rw [show j = j - 1 + 1 by omega, take_snoc hmy]
              intro hh
              rcases List.mem_append.1 hh with hh | hh
              · exact Hnz.out hh
              · exact hy0 (List.mem_singleton.1 hh).symm
            clear hy hmy hy0
            go_wp2_with (at_builtin; refine wpList_apW (Value.int .u8) _ elByte rfl rfl (one_int .u8) w.heap.size _ ac2 rfl (ho2.alloc _) _ 1 1 [y] rfl (Rd.oneM (Value.int .u8) _ _ _) (le_alloc hsz2) (by simp; omega) (by decide) ?_; intro v3 w3 ho3 hm3)
            go_roundw
            case rel => exact ⟨j + 1, _, by omega, by omega, by go_num, by simp; omega, Hac3, Hnz3, ho3, hm3.below (hbl2.alloc hsz2 _) (le_alloc hsz2) ho2.block⟩
            case measure => simp [intOf] <;> omega
        · obtain rfl : j = xn := by omega
          have e := Hp.out
          rw [thenU_step acc (grp_of (by omega) (by rw [Hml.out]; omega) (by rw [Int.toNat_natCast]; exact Hnz.out)), Int.toNat_natCast, ← List.append_assoc, ← Hac.out, Hdd.out, show a + 1 + (j - 1) = a + j by omega] at e
          have hdr : l.drop (a + j) ≠ [] ↔ a + j < n := by
            rw [← List.length_pos_iff, List.length_drop, Hl.out]; omega
          by_cases hz : a + j < n ∧ j < 255
          · rw [if_pos ⟨hdr.2 hz.1, by omega⟩] at e
            have He := Lib.hid e
            have z1 : ((j : Int) != 255) = true := by rw [bne_iff_ne]; omega
            have z2 : decide ((a : Int) + (j : Int) < (n : Int)) = true := by simp; omega
            clear e hdr hx255
            go_wp2_with (at_builtin; refine wpList_apW (Value.int .u8) _ elByte rfl rfl (one_int .u8) w.heap.size _ ac2 rfl (ho2.alloc _) _ 1 1 [0] rfl (Rd.oneM (Value.int .u8) _ _ _) (le_alloc hsz2) (by simp; omega) (by decide) ?_; intro v3 w3 ho3 hm3)
            go_roundw
            case rel => exact ⟨a + j, _, by omega, by go_num, by simp; omega, He, ho3, hm3.below (hbl2.alloc hsz2 _) (le_alloc hsz2) ho2.block⟩
            case measure => simp [intOf] <;> omega
          · rw [if_neg (fun hh => hz ⟨hdr.1 hh.1, by have := hh.2; omega⟩), List.append_nil] at e
            have He := Lib.hid e
            clear e hdr
            by_cases hj5 : j = 255
            · have z1 : ((j : Int) != 255) = false := by rw [bne_eq_false_iff_eq]; omega
              clear hj5 hz hx255
              go_wp2
              go_roundw
              case rel => exact ⟨a + j, _, by omega, by go_num, by omega, He, ho2, hbl2⟩
              case measure => simp [intOf] <;> omega
            · have z1 : ((j : Int) != 255) = true := by rw [bne_iff_ne]; omega
              have z2 : decide ((a : Int) + (j : Int) < (n : Int)) = false := by simp; omega
              clear hj5 hz hx255
              go_wp2
              go_roundw
              case rel => exact ⟨a + j, _, by omega, by go_num, by omega, He, ho2, hbl2⟩
              case measure => simp [intOf] <;> omega
    · obtain rfl : a = n := by omega
      have e := Hp.out
      rw [List.drop_eq_nil_of_le (by rw [Hl.out]; exact Nat.le_refl _), unG_nil] at e
      simp only [thenU, ne_eq, not_true_eq_false, if_false, List.append_nil] at e
      clear Hp
      go_wp2
      go_ret2
      rw [← e]
      exact ⟨_, rfl, ho, hbl⟩
end Go.Proofs.Ytmehdlnhllafaaa
