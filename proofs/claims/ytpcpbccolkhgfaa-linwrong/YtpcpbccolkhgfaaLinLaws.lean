/-
  alive7 returns true; the walks of LinGuard and LinOrder.
-/
import Derived.Test.YtpcpbccolkhgfaaLinWalks2
import Derived.Test.YtpcpbccolkhgfaaGuarded
namespace Go.Proofs.Ytpcpbccolkhgfaa
open Go.RowKit
set_option linter.unusedVariables false

theorem guard60 : guardM 60 = 60 := by decide +kernel
theorem number60 : numberM 60 = (60, 0) := by decide +kernel
theorem sent1 : sentL 1 [200, 100] false = [guardM 1, 200, 100, 210] := by decide +kernel
theorem byte_200 : Byte8 [200, 100] := by intro x hx; simp at hx; omega

set_option maxHeartbeats 1000000 in
theorem alive7_any (w : World) : Calls Try.prog 18 #[] w fun e w' => e = .returned (.bool true) ∧ Below w.heap.size w w' := by
  go_enter Try.func18, Try.ntmps18
  go_wp2_with fail
  refine (Guard_ok 60 _ ⟨by decide, by decide⟩).mono ?_
  rintro e w1 ⟨rfl, rfl⟩
  rw [guard60]
  go_wp2_with fail
  refine (Number_any 60 _ (by decide) (by decide)).mono ?_
  rintro e w1 ⟨rfl, rfl⟩
  rw [number60]
  simp only
  go_wp2_with fail
  refine (WriteL_ok 1 (some ⟨w.heap.size, 0, none⟩) 2 2 [200, 100] false _ (Rd.litAt (Value.int .u8) _ _ rfl) byte_200 ⟨by decide, by decide⟩ ⟨by decide, by decide⟩).mono ?_
  rintro e w1 ⟨v1, rfl, ho1, hb1⟩
  replace hb1 := below_new hb1
  rw [sent1] at ho1
  generalize guardM 1 = g at *
  obtain ⟨g1, c1, hv, _⟩ := ho1.head (by simp)
  simp only [List.length_cons, List.length_nil, Nat.zero_add] at hv
  subst hv
  have x3 := ho1.cellAt (k := 3) rfl
  clear ho1
  go_wp2
  go_ret
  exact ⟨rfl, hb1⟩

set_option maxHeartbeats 1000000 in
theorem LinGuard_walk (a0 a1 : Int) (w : World) (w0 : (Lit.int .i64 a0).wf = true) (w1 : (Lit.int .i64 a1).wf = true) :
    Calls Try.prog 5 #[.int .i64 a0, .int .i64 a1] w fun e w' => e = .returned (.bool true) ∧ Below w.heap.size w w' := by
  have q1 := wf_i64 w1
  clear w0 w1
  go_enter Try.func5, Try.ntmps5
  go_wp2_with fail
  refine (alive7_any _).mono ?_
  rintro e w1 ⟨rfl, hb1⟩
  by_cases hi : IdOk a0
  · have hg := guard_range hi
    go_wp2_with fail
    refine (Guard_ok a0 _ hi).mono ?_
    rintro e w2 ⟨rfl, rfl⟩
    go_wp2_with fail
    refine (Number_any (guardM a0) _ hg.1 hg.2.1).mono ?_
    rintro e w2 ⟨rfl, rfl⟩
    rw [number_guard hi]
    simp only
    by_cases hbt : 0 ≤ a1 ∧ a1 ≤ 7
    · obtain ⟨j, rfl⟩ := Int.eq_ofNat_of_zero_le hbt.1
      have hj : j < 8 := by omega
      have hf := guard_flip hi j hj
      have Hi := Lib.hid hi
      have hp : (2 : Int) ^ j ≤ 2 ^ 7 := pow_le_pow (by omega)
      have hp0 : (0 : Int) < 2 ^ j := Int.pow_pos (by omega)
      have hw8 : IntKind.u8.wrap (2 ^ j) = 2 ^ j := by rw [IntKind.wrap_u8]; omega
      have t0 : decide ((j : Int) < 0) = false := by simp
      have t7 : decide (7 < (j : Int)) = false := by simp; omega
      clear hbt hi
      generalize guardM a0 = g at *
      have hxr : 0 ≤ bits .xor .u8 g (2 ^ j) ∧ bits .xor .u8 g (2 ^ j) < 256 := by
        have := u8_turned g (2 ^ j) hg.1 hg.2.1 (by omega) (by omega) (by omega)
        exact ⟨this.1, this.2.1⟩
      generalize hbx : bits .xor .u8 g (2 ^ j) = t at *
      go_wp2_with fail
      refine (Number_any t _ hxr.1 hxr.2).mono ?_
      rintro e w2 ⟨rfl, rfl⟩
      rw [hf]
      clear hf
      generalize (numberM t).1 = z at *
      go_wp2
      go_ret
      exact ⟨rfl, hb1⟩
    · by_cases hlo : a1 < 0
      · clear hbt hi
        generalize guardM a0 = g at *
        go_wp2
        go_ret
        exact ⟨rfl, hb1⟩
      · have t0 : decide (a1 < 0) = false := by simpa using hlo
        have t7 : decide (7 < a1) = true := by simp; omega
        clear hbt hi hlo
        generalize guardM a0 = g at *
        go_wp2
        go_ret
        exact ⟨rfl, hb1⟩
  · go_wp2_with fail
    refine (Guard_bad a0 _ hi).mono ?_
    rintro e w2 ⟨rfl, rfl⟩
    clear hi
    go_wp2
    go_ret
    exact ⟨rfl, hb1⟩

theorem set_back {n k : Nat} (h : k < n) (r : List Int) (x : Int) : (List.replicate (n - k) (0 : Int) ++ r).set (n - 1 - k) x = List.replicate (n - (k + 1)) 0 ++ (x :: r) := by
  have e : n - k = (n - (k + 1)) + 1 := by omega
  rw [e, List.replicate_succ', List.append_assoc, List.set_append_right _ _ (by rw [List.length_replicate]; omega), List.length_replicate, show n - 1 - k - (n - (k + 1)) = 0 by omega]
  rfl
set_option maxHeartbeats 1000000 in
theorem LinOrder_walk (A0 : Option Addr) (n0 c0 : Nat) (l0 : List Int) (w : World) (h0 : Rd w 1 A0 n0 (l0.map (Value.int .u8))) (v0 : ∀ x ∈ l0, (Lit.int .u8 x).wf = true) (k0 : n0 ≤ c0) (b0 : c0 * 1 ≤ 140737488351232) :
    Calls Try.prog 8 #[.slice A0 n0 c0] w fun e w' => e = .returned (.bool true) ∧ Below w.heap.size w w' := by
  have q0 : Byte8 l0 := fun x hx => by have := wf_u8 (v0 x hx); omega
  have Hl := Lib.hid h0.lenMap
  have hmk := run_mk elByte rfl .i64 .i64 n0 n0 (Nat.le_refl _) (by omega) (by omega)
  have Hq := Lib.hid q0
  have Hsum := Lib.hid (sumM_sealed q0)
  have Hrange := Lib.hid (sumM_range q0)
  clear v0 q0
  go_enter Try.func8, Try.ntmps8
  go_wp2_with fail
  refine (alive7_any _).mono ?_
  rintro e w1 ⟨rfl, hb1⟩
  have Ho0 := Lib.hid (Ow.make (Value.int .u8) 0 w1 5 (base := w1.heap.size) n0 (by unfold maxLen; omega) (Nat.le_refl _))
  have r1 := h0.below hb1
  go_wp2
  go_loopw [13] (fun i wr => ∃ k : Nat, k ≤ n0 ∧ i = .int .i64 k ∧ Ow (Value.int .u8) wr w1.heap.size 5 (.slice (some ⟨w1.heap.size, 0, none⟩) n0 n0) (List.replicate (n0 - k) 0 ++ (l0.take k).reverse) ∧ Below w1.heap.size w1 wr) (fun i _ => n0 - (intOf i).toNat)
  case atStart => exact ⟨0, Nat.zero_le _, rfl, by simpa using Ho0.out, (Below.refl _ _).alloc (Nat.le_refl _) _⟩
  case round =>
    obtain ⟨k, hk, rfl, ho, hbl⟩ := hrel
    by_cases hlt : k < n0
    · obtain ⟨ad, x, rfl, hx, hc⟩ := (r1.below hbl).atMap hlt
      have Hs := Lib.hid (show (List.replicate (n0 - k) (0 : Int) ++ (l0.take k).reverse).set (n0 - 1 - k) x = List.replicate (n0 - (k + 1)) 0 ++ (l0.take (k + 1)).reverse by rw [set_back hlt, take_snoc hx, List.reverse_append]; rfl)
      clear hx
      have hfr := ho.freeAt (n0 - 1 - k)
      have hput := ho.put (n0 - 1 - k) x
      obtain ⟨z, hz⟩ : ∃ z, (List.replicate (n0 - k) (0 : Int) ++ (l0.take k).reverse)[n0 - 1 - k]? = some z := ⟨_, List.getElem?_eq_getElem (by simp [Hl.out]; omega)⟩
      have hcz := ho.cellAt hz
      have Hput := Lib.hid hput; clear hput
      have v1 : IntKind.i64.wrap ((n0 : Int) - 1) = (n0 : Int) - 1 := IntWalk.i64_in _ (by omega)
      have v2 : IntKind.i64.wrap ((n0 : Int) - 1 - k) = (n0 : Int) - 1 - k := IntWalk.i64_in _ (by omega)
      have t1 : ((n0 : Int) - 1 - k).toNat = n0 - 1 - k := by omega
      have b1' : 0 ≤ (n0 : Int) - 1 - k := by omega
      have b2' : (n0 : Int) - 1 - k < n0 := by omega
      go_wp2
      go_roundw
      case rel => exact ⟨k + 1, by omega, by go_num, by rw [← Hs.out]; exact Hput.out, hbl.setCell (p := ⟨w1.heap.size, n0 - 1 - k, none⟩) (Nat.le_refl _) _⟩
      case measure => simp [intOf] <;> omega
    · obtain rfl : k = n0 := by omega
      rw [List.take_of_length_le (by rw [Hl.out]; exact Nat.le_refl _), Nat.sub_self, List.replicate_zero, List.nil_append] at ho
      have rb := ho.rd
      have hbr : Byte8 l0.reverse := fun x hx => Hq.out x (List.mem_reverse.1 hx)
      clear ho Ho0 hmk hlt
      replace hbl := bthen hb1 hbl
      clear r1 hb1
      go_wp2_with fail
      refine (Sum_any A0 k c0 l0 _ (h0.below hbl) Hq.out (by omega)).mono ?_
      rintro e w2 ⟨rfl, rfl⟩
      go_wp2_with fail
      refine (Sum_any _ k k l0.reverse _ rb hbr (by omega)).mono ?_
      rintro e w2 ⟨rfl, rfl⟩
      rw [sumM_reverse]
      have hSl := fun W (hW : Below wr.heap.size wr W) => Sum_any A0 k c0 l0 W ((h0.below hbl).below hW) Hq.out (by omega)
      have hsr := Hrange.out
      have hse := Hsum.out
      have hbs : Byte8 (l0 ++ [sumM l0]) := fun x hx => by
        rcases List.mem_append.1 hx with h | h
        · exact Hq.out x h
        · rw [List.mem_singleton.1 h]; exact hsr
      generalize sumM l0 = s at *
      clear rb hbr
      have hr := h0.below hbl
      go_wp2_with (at_builtin; go_must (refine wpList_apG (Value.int .u8) _ elByte rfl rfl (one_int .u8) wr.heap.size (.slice (some ⟨wr.heap.size, 0, none⟩) 0 0) [] rfl (Ow.empty (Value.int .u8) _ _ (Nat.le_refl _)) A0 k c0 l0 rfl (hr.alloc _) (le_alloc (Nat.le_refl _)) (by simp; omega) (by decide) ?_; intro v3 w3 ho3 hm3))
      have hb3 : Below wr.heap.size wr w3 := hm3.below ((Below.refl _ _).alloc (Nat.le_refl _) _) (le_alloc (Nat.le_refl _)) (new_block (Nat.le_refl _))
      rw [List.nil_append] at ho3
      refine (hSl w3 hb3).mono ?_
      rintro e w4 ⟨rfl, rfl⟩
      clear hSl hm3 hr
      go_wp2_with (at_builtin; go_must (refine wpList_apG (Value.int .u8) _ elByte rfl rfl (one_int .u8) wr.heap.size v3 l0 rfl (ho3.alloc _) _ 1 1 [s] rfl (Rd.litAt (Value.int .u8) _ _ rfl) (le_alloc hb3.size) (by rw [Hl.out]; omega) (by decide) ?_; intro v5 w5 ho5 hm5; obtain ⟨A5, c5, rfl, _, _, r5⟩ := ho5.formN (n := k + 1) (by simp [Hl.out])))
      have hb5 : Below wr.heap.size wr w5 := hm5.below (hb3.alloc hb3.size _) (le_alloc hb3.size) ho3.block
      refine (Sum_any A5 (k + 1) c5 (l0 ++ [s]) _ r5 hbs (by omega)).mono ?_
      rintro e w6 ⟨rfl, rfl⟩
      rw [hse]
      clear hm5 ho5 ho3
      go_wp2
      go_ret
      exact ⟨rfl, bthen hbl hb5⟩
end Go.Proofs.Ytpcpbccolkhgfaa
