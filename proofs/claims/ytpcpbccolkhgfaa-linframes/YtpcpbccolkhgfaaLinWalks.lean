/-
  Contracts of lin's functions odd, Guard, Number, Sum and checksum, for every input. No statement of the seat is here.
-/
import Derived.Test.YtpcpbccolkhgfaaLinMath
import Derived.Test.YtpcpbccolkhgfaaFrameV
import Derived.Lib.Strings
namespace Go.Proofs.Ytpcpbccolkhgfaa
open Go.RowKit
set_option linter.unusedVariables false

theorem OnesCount8_any (x : Int) (w : World) (h0 : 0 ≤ x) (h1 : x ≤ 255) :
    Calls Try.prog 24 #[.int .u8 x] w fun e w' => e = .returned (.int .i64 (Lib.onesCount x.toNat)) ∧ w = w' := by
  rw [← Lib.pop8_int x h0 h1]
  go_enter Try.func24, Try.ntmps24
  go_wp2
  go_ret
  exact ⟨ret_int (by unfold wrap64; rfl), rfl⟩

theorem odd_any (x : Int) (w : World) (h0 : 0 ≤ x) (h1 : x ≤ 255) :
    Calls Try.prog 19 #[.int .u8 x] w fun e w' => e = .returned (.bool (oddM x)) ∧ w = w' := by
  have hle : Lib.onesCount x.toNat ≤ 8 := Lib.onesCount_le8 ⟨x.toNat, by omega⟩
  rw [show oddM x = decide ((Lib.onesCount x.toNat : Int) % 2 = 1) from rfl]
  have hO := OnesCount8_any x w h0 h1
  generalize Lib.onesCount x.toNat = c at *
  have htm : Int.tmod (c : Int) 2 = (c : Int) % 2 := Int.tmod_eq_emod_of_nonneg (by omega)
  go_enter Try.func19, Try.ntmps19
  go_wp2_with fail
  refine hO.mono ?_
  rintro e w' ⟨rfl, rfl⟩
  go_wp2
  go_ret
  exact ⟨rfl, rfl⟩

set_option maxHeartbeats 400000 in
theorem Guard_ok (id : Int) (w : World) (h : IdOk id) :
    Calls Try.prog 9 #[.int .i64 id] w fun e w' => e = .returned (.tuple #[.int .u8 (guardM id), .int .i64 0]) ∧ w = w' := by
  obtain ⟨h0, h1⟩ := h
  obtain ⟨⟨a0, a1⟩, ⟨b0, b1⟩⟩ := guard_and ⟨h0, h1⟩
  have Hg := Lib.hid (show guardM id = if oddM (bits .and .u8 id 58) then (if oddM (bits .and .u8 id 23) then bits .or .u8 id 64 else id) else bits .or .u8 (if oddM (bits .and .u8 id 23) then bits .or .u8 id 64 else id) 128 from rfl)
  have hwr : IntKind.u8.wrap id = id := by rw [IntKind.wrap_u8]; omega
  generalize guardM id = g at *
  generalize ha : bits .and .u8 id 23 = a at *
  generalize hb : bits .and .u8 id 58 = b at *
  go_enter Try.func9, Try.ntmps9
  go_wp2_with fail
  refine (odd_any a _ a0 a1).mono ?_
  rintro e w' ⟨rfl, rfl⟩
  cases hoa : oddM a
  all_goals
    go_wp2_with fail
    refine (odd_any b _ b0 b1).mono ?_
    rintro e w' ⟨rfl, rfl⟩
    cases hob : oddM b
  all_goals
    go_wp2
    go_ret2
    rw [Hg.out, hoa, hob]
    exact ⟨rfl, rfl⟩
theorem Guard_bad (id : Int) (w : World) (h : ¬ IdOk id) :
    Calls Try.prog 9 #[.int .i64 id] w fun e w' => e = .returned (.tuple #[.int .u8 0, .int .i64 2]) ∧ w = w' := by
  unfold IdOk at h
  by_cases h0 : id < 0
  · go_enter Try.func9, Try.ntmps9
    go_wp2
    go_ret2
    exact ⟨rfl, rfl⟩
  · have h1 : 63 < id := by omega
    go_enter Try.func9, Try.ntmps9
    go_wp2
    go_ret2
    exact ⟨rfl, rfl⟩
theorem Guard_any (id : Int) (w : World) :
    Calls Try.prog 9 #[.int .i64 id] w fun e w' => e = .returned (.tuple #[.int .u8 (guardV id).1, .int .i64 (guardV id).2]) ∧ w = w' := by
  unfold guardV
  by_cases h : IdOk id
  · rw [if_pos h]; simp only; exact Guard_ok id w h
  · rw [if_neg h]; simp only; exact Guard_bad id w h

theorem Number_any (b : Int) (w : World) (h0 : 0 ≤ b) (h1 : b < 256) :
    Calls Try.prog 10 #[.int .u8 b] w fun e w' => e = .returned (.tuple #[.int .i64 (numberM b).1, .int .i64 (numberM b).2]) ∧ w = w' := by
  have hr := low_range h0 h1
  have hr2 := hr.2
  have hr1 := hr.1
  have Hn := Lib.hid (show numberM b = if b = guardM (lowM b) then (lowM b, 0) else (0, 7) from rfl)
  have hlow : bits .and .u8 b 63 = lowM b := rfl
  have hwr : IntKind.i64.wrap (lowM b) = lowM b := IntWalk.i64_in _ (by omega)
  generalize numberM b = R at *
  generalize lowM b = m at *
  go_enter Try.func10, Try.ntmps10
  go_wp2_with fail
  refine (Guard_ok m _ hr).mono ?_
  rintro e w' ⟨rfl, rfl⟩
  by_cases hb : b = guardM m
  · have e : R = (m, 0) := by rw [Hn.out, if_pos hb]
    have hq : (b != guardM m) = false := by simpa using hb
    subst e
    clear hb Hn hr
    generalize guardM m = g at *
    go_wp2
    go_ret2
    exact ⟨rfl, rfl⟩
  · have e : R = (0, 7) := by rw [Hn.out, if_neg hb]
    have hq : (b != guardM m) = true := by simpa using hb
    subst e
    clear hb Hn hr
    generalize guardM m = g at *
    go_wp2
    go_ret2
    exact ⟨rfl, rfl⟩

set_option maxHeartbeats 400000 in
theorem Sum_any (A : Option Addr) (n c : Nat) (l : List Int) (w : World) (h : Rd w 1 A n (l.map (Value.int .u8))) (hb : Byte8 l) (hn : n ≤ 140737488355328) :
    Calls Try.prog 12 #[.slice A n c] w fun e w' => e = .returned (.int .u8 (sumM l)) ∧ w = w' := by
  have Hl := Lib.hid h.lenMap
  have Hb := Lib.hid hb
  clear hb
  go_enter Try.func12, Try.ntmps12
  go_wp2
  go_loop [3, 8] (fun s i => ∃ (k : Nat) (p : Int), k ≤ n ∧ i = .int .i64 k ∧ s = .int .i64 p ∧ p = foldC (tot (l.take k)) ∧ 0 ≤ p ∧ p ≤ 255) (fun _ i => n - (intOf i).toNat)
  case atStart => exact ⟨0, 0, Nat.zero_le _, rfl, rfl, by simp [tot, foldC], by omega, by omega⟩
  case round =>
    obtain ⟨k, p, hk, rfl, rfl, hp, hp0, hp1⟩ := hrel
    have Hp := Lib.hid hp; clear hp
    by_cases hlt : k < n
    · obtain ⟨ad, x, rfl, hx, hc⟩ := h.atMap hlt
      have hxb := Hb.out x (List.mem_of_getElem? hx)
      have hx0 := hxb.1
      have hx1 := hxb.2
      have Hs : Hid (foldC (tot (l.take (k + 1))) = if 255 < p + x then p + x - 255 else p + x) := by
        show _ = _
        rw [take_snoc hx, tot_snoc, foldC_add _ _ (tot_range (fun z hz => Hb.out z (List.mem_of_mem_take hz))).1 hx0 (by omega), ← Hp.out]
      have hwr : IntKind.i64.wrap x = x := IntWalk.i64_in _ (by omega)
      clear hx hxb
      by_cases hbig : 255 < p + x
      · have e := Hs.out
        rw [if_pos hbig] at e
        have He := Lib.hid e; clear e Hs
        go_wp2
        go_round
        case rel => exact ⟨k + 1, p + x - 255, by omega, by go_num, by go_num, He.out.symm, by omega, by omega⟩
        case measure => simp [intOf] <;> omega
      · have e := Hs.out
        rw [if_neg hbig] at e
        have He := Lib.hid e; clear e Hs
        go_wp2
        go_round
        case rel => exact ⟨k + 1, p + x, by omega, by go_num, by go_num, He.out.symm, by omega, by omega⟩
        case measure => simp [intOf] <;> omega
    · obtain rfl : k = n := by omega
      have e := Hp.out
      rw [List.take_of_length_le (by rw [Hl.out]; exact Nat.le_refl _)] at e
      have He := Lib.hid e; clear e
      go_wp2
      go_ret
      refine ⟨ret_int ?_, rfl⟩
      unfold sumM
      rw [← He.out]

theorem checksum_any (A : Option Addr) (n c : Nat) (x : Int) (m : List Int) (newer : Bool) (w : World) (h : Rd w 1 A n ((x :: m).map (Value.int .u8))) (hb : Byte8 (x :: m)) (hnc : n ≤ c) (hn : n ≤ 140737488355328) :
    Calls Try.prog 22 #[.slice A n c, .bool newer] w fun e w' => e = .returned (.int .u8 (sumM (bodyM x m newer))) ∧ w = w' := by
  have hl := h.lenMap
  cases newer
  · rw [show bodyM x m false = m from rfl]
    have hD := h.cut (k := 1) (cap := c) (by simp at hl; omega) hnc
    rw [Nat.mul_one, ← List.map_drop, List.drop_one, List.tail_cons] at hD
    have hsr : (Instr.slice 22 (.slice A n c) (some (.int .i64 1)) none none).run Try.prog w = .ok (.slice (if c = 1 then A else A.map (·.add 1)) (n - 1) (c - 1)) w := by
      have := run_from elByte w A n c 1 (by simp at hl; omega)
      rw [Nat.mul_one] at this
      exact this
    generalize (if c = 1 then A else A.map (·.add 1)) = AD at hD hsr
    have hm : Byte8 m := fun y hy => hb y (by simp [hy])
    clear hl h
    go_enter Try.func22, Try.ntmps22
    go_wp2_with fail
    refine (Sum_any AD (n - 1) (c - 1) m _ hD hm (by omega)).mono ?_
    rintro e w' ⟨rfl, rfl⟩
    go_wp2
    go_ret
    exact ⟨rfl, rfl⟩
  · rw [show bodyM x m true = x :: m from rfl]
    clear hl
    go_enter Try.func22, Try.ntmps22
    go_wp2_with fail
    refine (Sum_any A n c (x :: m) _ h hb hn).mono ?_
    rintro e w' ⟨rfl, rfl⟩
    go_wp2
    go_ret
    exact ⟨rfl, rfl⟩
end Go.Proofs.Ytpcpbccolkhgfaa
