/-
  Contracts of bitrow.Of and Bytes and of the reference's APut, AGet, AOf, ABytes; Put and Get for every argument.
-/
import Derived.Test.YtldkmopkakdgnaaBitWalks
import Derived.BigQuiet
import Derived.Deep.QuietTactic
namespace Go.Proofs.Ytldkmopkakdgnaa
open Go.RowKit
set_option maxRecDepth 20000
set_option linter.unusedVariables false

/-- Numbers that a byte holds. -/
def Byte8 (l : List Int) : Prop := ∀ x ∈ l, 0 ≤ x ∧ x < 256
theorem Byte8.at {l : List Int} {k : Nat} {x : Int} (h : Byte8 l) (hx : l[k]? = some x) : 0 ≤ x ∧ x < 256 := h x (List.mem_of_getElem? hx)


/-! The reference -/
set_option maxHeartbeats 400000 in
theorem APut_ok (width : Nat) (n : Int) (w : World) (hw : width ≤ 62) (h0 : 0 ≤ n) (h1 : n < 2 ^ width) :
    Calls Try.prog 24 #[.int .i64 width, .int .i64 n] w fun e w' => ∃ A c, e = .returned (.tuple #[.slice A width c, .int .i64 0]) ∧ Ow Value.bool w' w.heap.size 4 (.slice A width c) (bitsOf width n) ∧ Below w.heap.size w w' := by
  have hn0 : decide (n < 0) = false := by simp; omega
  have hw0 : decide ((width : Int) < 0) = false := by simp
  have hw1 : decide (62 < (width : Int)) = false := by simp; omega
  have hwr : decide (wrap64 (2 ^ width) ≤ n) = false := by
    have hp : (2 : Int) ^ width ≤ 2 ^ 62 := pow_le_pow hw
    have hp0 : (0 : Int) < 2 ^ width := Int.pow_pos (by omega)
    rw [IntWalk.wrap64_in _ ⟨by omega, by omega⟩]; simp; omega
  have H1 := Lib.hid h1; clear h1
  go_enter Try.func24, Try.ntmps24
  go_wp2
  go_loopw [1, 6, 24] (fun t v i wr => ∃ k : Nat, k ≤ width ∧ i = .int .i64 k ∧ t = .int .i64 (n / 2 ^ k) ∧ Ow Value.bool wr w.heap.size 4 v (bitsOf k n) ∧ Below w.heap.size w wr) (fun _ _ i _ => width - (intOf i).toNat)
  case atStart => exact ⟨0, Nat.zero_le _, rfl, by simp, Ow.nil _ _ _ _, Below.refl _ _⟩
  case round =>
    obtain ⟨k, hk, rfl, rfl, ho, hbl⟩ := hrel
    have hsz := hbl.size
    obtain ⟨A, c, hv, _⟩ := ho.form
    rw [bitsOf_length] at hv
    subst hv
    by_cases hlt : k < width
    · have ht0 : 0 ≤ n / 2 ^ k := Int.ediv_nonneg h0 (Int.le_of_lt (Int.pow_pos (by omega)))
      have ht : Hid (n / 2 ^ k / 2 = n / 2 ^ (k + 1)) := by
        show _ = _
        rw [Int.pow_succ, Int.ediv_ediv_of_nonneg (Int.le_of_lt (Int.pow_pos (by omega)))]
      have ht1 : n / 2 ^ k ≤ 4611686018427387904 := Int.le_trans (Int.ediv_le_self _ h0) (by have := H1.out; have : (2 : Int) ^ width ≤ 2 ^ 62 := pow_le_pow hw; omega)
      have hcon := Lib.hid (bitsOf_ref k n)
      generalize n / 2 ^ k = t at *
      go_wp2_with (at_builtin; go_must (refine wpList_apM Value.bool _ elBool rfl rfl one_bool w.heap.size _ [t % 2 == 1] rfl (Ow.one Value.bool _ _ _ hsz) A k c _ rfl (ho.rd.alloc _) (by simp; omega) (by simp; omega) (by omega) ?_; intro v' w1 ho1 hm1))
      go_roundw
      case rel => exact ⟨k + 1, by omega, by go_num, int_eq ht.out, by rw [← hcon.out]; exact ho1, hm1.below (hbl.alloc hsz _) (le_alloc (by omega)) (new_block hsz)⟩
      case measure => simp [intOf] <;> omega
    · have hnk : k = width := by omega
      subst hnk
      go_wp2
      go_ret2
      exact ⟨A, c, rfl, ho, hbl⟩

set_option maxHeartbeats 400000 in
theorem APut_bad (width n : Int) (w : World) (h : ¬ PutOk width n) :
    Calls Try.prog 24 #[.int .i64 width, .int .i64 n] w fun e w' => e = .returned (.tuple #[.slice none 0 0, .int .i64 2]) ∧ w = w' := by
  by_cases hw0 : width < 0
  · go_enter Try.func24, Try.ntmps24
    go_wp2
    go_ret2
    exact ⟨rfl, rfl⟩
  have hd0 : decide (width < 0) = false := by simpa using hw0
  by_cases hw1 : 62 < width
  · go_enter Try.func24, Try.ntmps24
    go_wp2
    go_ret2
    exact ⟨rfl, rfl⟩
  have hd1 : decide (62 < width) = false := by simpa using hw1
  by_cases hn : n < 0
  · clear hw0 hw1
    go_enter Try.func24, Try.ntmps24
    go_wp2
    go_ret2
    exact ⟨rfl, rfl⟩
  have hd2 : decide (n < 0) = false := by simpa using hn
  obtain ⟨k, rfl⟩ := Int.eq_ofNat_of_zero_le (Int.not_lt.1 hw0)
  have hwr : decide (wrap64 (2 ^ k) ≤ n) = true := by
    have hp : (2 : Int) ^ k ≤ 2 ^ 62 := pow_le_pow (by omega)
    have hp0 : (0 : Int) < 2 ^ k := Int.pow_pos (by omega)
    rw [IntWalk.wrap64_in _ ⟨by omega, by omega⟩]
    simp
    exact Int.not_lt.1 fun hlt => h ⟨by omega, by omega, by omega, by simpa using hlt⟩
  clear hn h hw0
  go_enter Try.func24, Try.ntmps24
  go_wp2
  go_ret2
  exact ⟨rfl, rfl⟩

set_option maxHeartbeats 400000 in
theorem AGet_any (A : Option Addr) (n c : Nat) (bs : List Bool) (w : World) (h : Rd w 1 A n (bs.map Value.bool)) (hn : n ≤ 62) :
    Calls Try.prog 26 #[.slice A n c] w fun e w' => e = .returned (.int .i64 (num bs)) ∧ w = w' := by
  have hl := h.lenMap
  have Hl := Lib.hid hl; clear hl
  go_enter Try.func26, Try.ntmps26
  go_wp2
  go_loop [3, 8] (fun t i => ∃ k : Nat, k ≤ n ∧ i = .int .i64 k ∧ t = .int .i64 (num (bs.take k) * 2 ^ (n - k))) (fun _ i => n - (intOf i).toNat)
  case atStart => exact ⟨0, Nat.zero_le _, rfl, by simp [num]⟩
  case round =>
    obtain ⟨k, hk, rfl, rfl⟩ := hrel
    by_cases hlt : k < n
    · obtain ⟨ad, u, rfl, hu, hc⟩ := h.atMap hlt
      obtain ⟨h0, h1⟩ := num_hi_le bs n k hlt Hl.out hn
      have hs := Lib.hid (num_hi bs n k u hlt hu)
      clear hu
      generalize num (bs.take k) * 2 ^ (n - k) = t at *
      cases u
      · go_wp2
        go_round
        case rel => exact ⟨k + 1, by omega, by go_num, int_eq (by rw [hs.out]; simp)⟩
        case measure => simp [intOf] <;> omega
      · have hp : (0 : Int) < 2 ^ (n - 1 - k) := Int.pow_pos (by omega)
        have hw1 := Lib.hid (IntWalk.wrap64_in (2 ^ (n - 1 - k)) ⟨by omega, by omega⟩)
        have hw2 := Lib.hid (IntWalk.wrap64_in (t + 2 ^ (n - 1 - k)) ⟨by omega, by omega⟩)
        clear hp h1
        go_wp2
        go_round
        case rel => exact ⟨k + 1, by omega, by go_num, int_eq (by rw [hs.out, hw1.out, hw2.out]; simp)⟩
        case measure => simp [intOf] <;> omega
    · have hnk : k = n := by omega
      subst hnk
      go_wp2
      go_ret
      exact ⟨ret_int (by rw [List.take_of_length_le (by rw [Hl.out]; exact Nat.le_refl _)]), rfl⟩

set_option maxHeartbeats 400000 in
theorem AOf_any (A : Option Addr) (n c : Nat) (l : List Int) (w : World) (h : Rd w 1 A n (l.map (Value.int .u8))) (hb : Byte8 l) (hn : n ≤ 8796093022208) :
    Calls Try.prog 27 #[.slice A n c] w fun e w' => ∃ v, e = .returned v ∧ Ow Value.bool w' w.heap.size 4 v (ofBytes l) ∧ Below w.heap.size w w' := by
  have Hl := Lib.hid h.lenMap
  go_enter Try.func27, Try.ntmps27
  go_wp2
  go_loopw [3, 10] (fun v i wr => ∃ k : Nat, k ≤ n ∧ i = .int .i64 k ∧ Ow Value.bool wr w.heap.size 4 v (ofBytes (l.take k)) ∧ Below w.heap.size w wr) (fun _ i _ => n - (intOf i).toNat)
  case atStart => exact ⟨0, Nat.zero_le _, rfl, Ow.nil _ _ _ _, Below.refl _ _⟩
  case round =>
    obtain ⟨k, hk, rfl, ho, hbl⟩ := hrel
    by_cases hlt : k < n
    · obtain ⟨ad, x, rfl, hx, hc⟩ := (h.below hbl).atMap hlt
      obtain ⟨hx0, hx1⟩ := hb.at hx
      have Hx := Lib.hid hx; clear hx
      have hle : (ofBytes (l.take k)).length ≤ 70368744177664 := by rw [ofBytes_length]; simp; omega
      have hsz := hbl.size
      go_wp2_with (first
        | (go_at_call 24; refine (APut_ok 8 x _ (by omega) hx0 (by omega)).mono ?_; rintro e w1 ⟨A1, c1, rfl, ho1, hb1⟩)
        | (at_builtin; go_must (refine wpList_apM Value.bool _ elBool rfl rfl one_bool w.heap.size _ (ofBytes (l.take k)) rfl (ho.below hb1) A1 8 c1 _ rfl ho1.rd (by have := hb1.size; omega) (by omega) (by omega) ?_; intro v' w2 ho2 hm2)))
      go_roundw
      case rel => exact ⟨k + 1, by omega, by go_num, by rw [take_snoc Hx.out, ofBytes_snoc]; exact ho2, hm2.below (hbl.trans (hb1.mono hsz)) (by have := hb1.size; omega) ho.block⟩
      case measure => simp [intOf] <;> omega
    · have hnk : k = n := by omega
      subst hnk
      go_wp2
      go_ret
      exact ⟨_, rfl, by rw [List.take_of_length_le (by rw [Hl.out]; exact Nat.le_refl _)] at ho; exact ho, hbl⟩


set_option maxHeartbeats 1000000 in
theorem ABytes_any (A : Option Addr) (n c : Nat) (bs : List Bool) (w : World) (h : Rd w 1 A n (bs.map Value.bool)) (hnc : n ≤ c) (hn : n ≤ 70368744177664) (hcm : c ≤ 9223372036854775807) :
    Calls Try.prog 25 #[.slice A n c] w fun e w' => ∃ v, e = .returned v ∧ Ow (Value.int .u8) w' w.heap.size 5 v (bytesOf bs) ∧ Below w.heap.size w w' := by
  have Hl := Lib.hid h.lenMap
  go_enter Try.func25, Try.ntmps25
  go_wp2
  go_loopw [3, 4] (fun v i wr => ∃ (k : Nat) (acc : List Int), k ≤ n + 7 ∧ acc.length ≤ k ∧ i = .int .i64 k ∧ acc ++ bytesOf (bs.drop k) = bytesOf bs ∧ Ow (Value.int .u8) wr w.heap.size 5 v acc ∧ Below w.heap.size w wr) (fun _ i _ => n + 8 - (intOf i).toNat)
  case atStart => exact ⟨0, [], by omega, by simp, rfl, rfl, Ow.nil _ _ _ _, Below.refl _ _⟩
  case round =>
    obtain ⟨k, acc, hk, hlen, rfl, hacc, ho, hbl⟩ := hrel
    rename World => wo
    have hsz := hbl.size
    have Hacc := Lib.hid hacc; clear hacc
    by_cases hlt : k < n
    · obtain ⟨m, hm⟩ : ∃ m, m = min 8 (n - k) := ⟨_, rfl⟩
      have hm1 : m ≤ 8 := by omega
      have hm2 : m ≤ n - k := by omega
      have hcut := (h.cut (k := k) (cap := c) (by omega) hnc).take (k := m) hm2
      rw [Nat.mul_one, Nat.mul_one, ← List.map_drop, ← List.map_take, if_neg (by omega : ¬ c = k)] at hcut
      have hst := bytesOf_step (bs.drop k) (by rw [List.length_drop, Hl.out]; omega)
      have htk : (bs.drop k).take m = (bs.drop k).take 8 := by
        by_cases h8 : 8 ≤ n - k
        · rw [show m = 8 by omega]
        · rw [List.take_of_length_le (by simp [Hl.out]; omega), List.take_of_length_le (by simp [Hl.out]; omega)]
      have hcl := hcut.lenMap
      rw [← htk, hcl, List.drop_drop] at hst
      have Hst := Lib.hid hst
      have Hcl := Lib.hid hcl
      clear htk hst hcl
      generalize (bs.drop k).take m = ch at *
      have Hm := Lib.hid hm; clear hm
      by_cases h8 : k + 8 ≤ n
      all_goals
        go_wp2_with (at_builtin; go_must (refine wpList_apM Value.bool _ elBool rfl rfl one_bool wo.heap.size (.slice (some ⟨wo.heap.size, 0, none⟩) 0 0) [] rfl (Ow.empty Value.bool _ _ (Nat.le_refl _)) _ _ _ ch rfl (Rd.len_eq (by have := Hm.out; omega) ((hcut.below hbl).alloc _)) (by simp) (by simp <;> omega) (by omega) ?_; intro v1 w1 ho1 hm1))
        have hb1 := hm1.below ((Below.refl _ wo).alloc (Nat.le_refl _) _) (by simp) (new_block (Nat.le_refl _))
        rw [List.nil_append] at ho1
        clear hm1
        go_loopw [5] (fun v w2 => ∃ (A2 : Option Addr) (c2 L : Nat), m ≤ L ∧ L ≤ 8 ∧ v = .slice A2 L c2 ∧ Ow Value.bool w2 wo.heap.size 4 (.slice A2 L c2) (ch ++ List.replicate (L - m) false) ∧ Below wo.heap.size wo w2) (fun v _ => 8 - lenOf v)
        case atStart =>
          obtain ⟨A2, c2, hv, _⟩ := ho1.form
          rw [Hcl.out] at hv
          subst hv
          exact ⟨A2, c2, m, Nat.le_refl _, hm1, rfl, by simpa using ho1, hb1⟩
        case round =>
          obtain ⟨A2, c2, L, hmL, hL, rfl, ho2, hb2⟩ := hrel
          have hs2 := hb2.size
          by_cases hlt8 : L < 8
          · go_wp2_with (at_builtin; go_must (refine wpList_apM Value.bool _ elBool rfl rfl one_bool wo.heap.size (.slice A2 L c2) _ rfl (ho2.alloc _) _ 1 1 _ rfl (Rd.oneM Value.bool _ _ _) (le_alloc (by omega)) (by rw [← ho2.len.1]; omega) (by omega) ?_; intro v3 w3 ho3 hm3))
            obtain ⟨A3, c3, hv, _⟩ := ho3.form
            have hl3 : (ch ++ List.replicate (L - m) false ++ [false]).length = L + 1 := by simp [Hcl.out]; omega
            rw [hl3] at hv
            clear hl3
            rw [hv] at ho3 hm3
            rw [hv]
            go_wp2
            go_roundw
            case rel => exact ⟨A3, c3, L + 1, by omega, by omega, rfl, by rw [show L + 1 - m = L - m + 1 by omega, List.replicate_succ', ← List.append_assoc]; exact ho3, hm3.below (hb2.alloc hs2 _) (le_alloc (by omega)) ho2.block⟩
            case measure => simp [lenOf]; omega
          · obtain rfl : L = 8 := by omega
            have hn0 := num_nonneg (ch ++ List.replicate (8 - m) false)
            have hn1 : num (ch ++ List.replicate (8 - m) false) < 2 ^ 8 := num_lt_of_le _ _ (by simp [Hcl.out]; omega)
            simp only [Int.reducePow] at hn1
            go_wp2_with (first
              | (go_at_call 26; refine (AGet_any _ _ _ _ _ ho2.rd (by omega)).mono ?_; rintro e w4 ⟨rfl, rfl⟩)
              | (at_builtin; go_must (refine wpList_apM (Value.int .u8) _ elByte rfl rfl (one_int _) w.heap.size u3 acc rfl ((ho.below hb2).alloc _) _ 1 1 _ rfl (Rd.oneM (Value.int .u8) _ _ _) (le_alloc (by omega)) (by omega) (by omega) ?_; intro v4 w4 ho4 hm4)))
            go_roundw
            case rel =>
              have hl4 : (acc ++ [num (ch ++ List.replicate (8 - m) false)]).length ≤ k + 8 := by simp; omega
              have hb4 : Below w.heap.size w w4 := hm4.below ((hbl.trans (hb2.mono hsz)).alloc (by omega) _) (le_alloc (by omega)) ho.block
              exact ⟨k + 8, acc ++ [num (ch ++ List.replicate (8 - m) false)], by omega, hl4, by go_num, by rw [← Hacc.out, Hst.out, List.append_assoc]; rfl, ho4, hb4⟩
            case measure => simp [intOf] <;> omega
    · have hd : decide ((k : Int) < n) = false := by simp; omega
      go_wp2
      go_ret
      refine ⟨_, rfl, ?_, hbl⟩
      have hdr : bs.drop k = [] := List.drop_eq_nil_of_le (by rw [Hl.out]; omega)
      rw [← Hacc.out, hdr, bytesOf_nil, List.append_nil]
      exact ho


theorem APut_any (width n : Int) (w : World) :
    Calls Try.prog 24 #[.int .i64 width, .int .i64 n] w fun e w' => ∃ A c, e = .returned (.tuple #[.slice A (putM width n).1.length c, .int .i64 (putM width n).2]) ∧ Ow Value.bool w' w.heap.size 4 (.slice A (putM width n).1.length c) (putM width n).1 ∧ Below w.heap.size w w' := by
  by_cases h : PutOk width n
  · rw [putM_ok h]
    obtain ⟨h0, h1, h2, h3⟩ := h
    obtain ⟨k, rfl⟩ := Int.eq_ofNat_of_zero_le h0
    rw [Int.toNat_natCast] at h3 ⊢
    simp only [bitsOf_length]
    exact APut_ok k n w (by omega) h2 h3
  · rw [putM_bad h]
    refine (APut_bad width n w h).mono ?_
    rintro e w' ⟨rfl, rfl⟩
    exact ⟨none, 0, rfl, Ow.nil _ _ _ _, Below.refl _ _⟩

end Go.Proofs.Ytldkmopkakdgnaa
