/-
  Contracts of the reference's functions for plan: JWrong, JRight. No statement of the seat is here.
-/
import Derived.Test.YtgkdjdckdomnmaaPlanWalks2
namespace Go.Proofs.Ytgkdjdckdomnmaa
open Go.RowKit
set_option linter.unusedVariables false

theorem rem_64 {p : Int} : (64 : Int).tmod p = 64 % p := Int.tmod_eq_emod_of_nonneg (by decide)

set_option maxHeartbeats 400000 in
theorem JWrong_any (A : Option Addr) (n c : Nat) (l : List Int) (w : World) (h : Rd w 1 A n (l.map (Value.int .i64))) (hL : in64s l) (hn : n ≤ 140737488355328) :
    Calls Try.prog 11 #[.slice A n c] w fun e w' => e = .returned (.int .i64 (jwrong l)) ∧ w = w' := by
  have Hl := Lib.hid h.lenMap
  by_cases h4 : 400 < n
  · have HR : Hid (jwrong l = 2) := by show _ = _; rw [jwrong, if_pos (by rw [Hl.out]; omega)]
    go_enter Try.func11, Try.ntmps11
    go_wp2
    go_ret
    exact ⟨ret_int HR.out.symm, rfl⟩
  · have HR : Hid (jwrong l = jwrongF l) := by show _ = _; rw [jwrong, if_neg (by rw [Hl.out]; omega)]
    go_enter Try.func11, Try.ntmps11
    go_wp2
    go_loop [10] (fun i => ∃ (k : Nat), k ≤ n ∧ i = .int .i64 k ∧ jwrongF (l.drop k) = jwrongF l) (fun i => n - (intOf i).toNat)
    case atStart => exact ⟨0, Nat.zero_le _, rfl, rfl⟩
    case round =>
      obtain ⟨k, hk, rfl, hacc⟩ := hrel
      have Hacc := Lib.hid hacc; clear hacc
      by_cases hlt : k < n
      · obtain ⟨ad, p, rfl, hx, hc⟩ := h.atMap hlt
        have Hx := Lib.hid (drop_cons hx)
        obtain ⟨p1, p2⟩ := hL _ (List.mem_of_getElem? hx)
        clear hx
        by_cases h1 : p < 1
        · have H : Hid (jwrong l = 2) := by show _ = _; rw [HR.out, ← Hacc.out, Hx.out, jwrongF_range (.inl h1)]
          go_wp2
          go_ret
          exact ⟨ret_int H.out.symm, rfl⟩
        · by_cases h2 : p > 64
          · have H : Hid (jwrong l = 2) := by show _ = _; rw [HR.out, ← Hacc.out, Hx.out, jwrongF_range (.inr h2)]
            go_wp2
            go_ret
            exact ⟨ret_int H.out.symm, rfl⟩
          · by_cases h3 : 64 % p = 0
            · have H : Hid (jwrongF (l.drop (k + 1)) = jwrongF l) := by show _ = _; rw [← Hacc.out, Hx.out, jwrongF_next (by omega) (by omega) h3]
              have hb : (64 : Int).tmod p = 0 := rem_64.trans h3
              clear h3
              go_wp2
              go_round
              case rel => exact ⟨k + 1, by omega, by go_num, H.out⟩
              case measure => simp [intOf] <;> omega
            · have H : Hid (jwrong l = 1) := by show _ = _; rw [HR.out, ← Hacc.out, Hx.out, jwrongF_form (by omega) (by omega) h3]
              have hb : ((64 : Int) % p != 0) = true := by rw [bne_iff_ne]; exact h3
              clear h3
              go_wp2
              go_ret
              exact ⟨ret_int H.out.symm, rfl⟩
      · obtain rfl : k = n := by omega
        have H : Hid (jwrong l = 0) := by show _ = _; rw [HR.out, ← Hacc.out, List.drop_eq_nil_of_le (by rw [Hl.out]; exact Nat.le_refl _)]; rfl
        go_wp2
        go_ret
        exact ⟨ret_int H.out.symm, rfl⟩

set_option maxHeartbeats 1600000 in
theorem JRight_any (A : Option Addr) (n c : Nat) (l : List Int) (B : Option Addr) (d : Nat) (F : List Int) (w : World) (h : Rd w 1 A n (l.map (Value.int .i64))) (hp : Pows l) (h4 : n ≤ 400)
    (h' : Rd w 1 B n (F.map (Value.int .i64))) (hF : in64s F) :
    Calls Try.prog 13 #[.slice A n c, .slice B n d] w fun e w' => e = .returned (.bool (rightF none0 l F)) ∧ Below w.heap.size w w' := by
  have Hl := Lib.hid h.lenMap
  have Hf := Lib.hid h'.lenMap
  have Hp := Lib.hid hp; clear hp
  go_enter Try.func13, Try.ntmps13
  go_wp2
  go_loopw [11] (fun i wr => ∃ (k : Nat) (U : Nat → Bool), k ≤ n ∧ i = .int .i64 k ∧ Cyc wr w.heap.size 37 U ∧ rightF U (l.drop k) (F.drop k) = rightF none0 l F ∧ Below w.heap.size w wr ∧ w.heap.size + 1 ≤ wr.heap.size) (fun i _ => n - (intOf i).toNat)
  case atStart => exact ⟨0, none0, Nat.zero_le _, rfl, Box.new w _ _, rfl, (Below.refl _ _).alloc (Nat.le_refl _) _, by simp⟩
  case round =>
    obtain ⟨k, U, hk, rfl, hcy, hacc, hbl, hsz⟩ := hrel
    have Hacc := Lib.hid hacc; clear hacc
    by_cases hlt : k < n
    · obtain ⟨ad, p, rfl, hx, hc⟩ := (h.below hbl).atMap hlt
      obtain ⟨ad', f, rfl, hx', hc'⟩ := (h'.below hbl).atMap hlt
      have Hx := Lib.hid (drop_cons hx)
      have Hx' := Lib.hid (drop_cons hx')
      obtain ⟨p1, p2⟩ := (Hp.out p (List.mem_of_getElem? hx)).range
      obtain ⟨f1, f2⟩ := hF f (List.mem_of_getElem? hx')
      clear hx hx'
      by_cases g0 : f < 0
      · have H : Hid (rightF none0 l F = false) := by show _ = _; rw [← Hacc.out, Hx.out, Hx'.out, rightF_out (by omega)]
        go_wp2
        go_ret
        exact ⟨ret_bool H.out.symm, hbl⟩
      · by_cases g1 : f < p
        · have H : Hid (rightF none0 l F = (freeM U f p && rightF (mark U f p) (l.drop (k + 1)) (F.drop (k + 1)))) := by show _ = _; rw [← Hacc.out, Hx.out, Hx'.out, rightF_cons (by omega) g1]
          obtain ⟨f, rfl⟩ := Int.eq_ofNat_of_zero_le (show 0 ≤ f by omega)
          obtain ⟨q, rfl⟩ := Int.eq_ofNat_of_zero_le (show 0 ≤ p by omega)
          clear Hx Hx' Hacc
          rename World => wo
          go_wp2
          go_loopw [8] (fun i wr => ∃ (a : Nat), a ≤ 128 ∧ i = .int .i64 a ∧ hits f (q : Int) a = true ∧ Cyc wr w.heap.size 37 (upTo U f (q : Int) a) ∧ freeTo U f (q : Int) a ∧ Below w.heap.size w wr ∧ w.heap.size + 1 ≤ wr.heap.size) (fun i _ => 128 - (intOf i).toNat)
          case atStart => exact ⟨f, by omega, rfl, hits_start f _, hcy.same (fun j _ => upTo_start j), freeTo_start, hbl, hsz⟩
          case round =>
            clear hcy hbl hsz
            obtain ⟨a, ha, rfl, hh, hcy, hft, hbl, hsz⟩ := hrel
            have Hh := Lib.hid hh; clear hh
            have Hft := Lib.hid hft; clear hft
            by_cases hla : a < 64
            · have hca := hcy.cell hla
              rw [upTo_at] at hca
              have hfz := Box.free hcy a
              cases hU : U a
              · rw [hU] at hca
                have HT := Lib.hid (freeTo_next (q := q) rfl Hh.out Hft.out hU)
                have HN : Hid (∀ W : World, Cyc W w.heap.size 37 (upTo U f (q : Int) a) → Cyc (W.setCell ⟨w.heap.size, a, none⟩ (.bool true)) w.heap.size 37 (upTo U f (q : Int) (a + q))) := by
                  show ∀ W : World, _
                  intro W hW
                  obtain ⟨e1, e2⟩ := upTo_next (U := U) (f := f) (p := (q : Int)) (a := a) (q := q) rfl Hh.out
                  exact hW.set (by rw [e1]; simp; omega) (fun j _ hj => e2 j hj)
                clear hU
                go_wp2
                go_roundw
                case rel => exact ⟨a + q, by omega, by go_num, hits_next Hh.out q rfl, HN.out _ hcy, HT.out, below_grown hbl (grownBy_setCell _ ⟨w.heap.size, a, none⟩ _) (Nat.le_refl _) (by omega), by simpa [World.setCell] using hsz⟩
                case measure => simp [intOf] <;> omega
              · rw [hU] at hca
                have HF : Hid (rightF none0 l F = false) := by show _ = _; rw [H.out, free_no hla Hh.out hU]; rfl
                clear hU
                go_wp2
                go_ret
                exact ⟨ret_bool HF.out.symm, hbl⟩
            · have HM : Hid (rightF (mark U f (q : Int)) (l.drop (k + 1)) (F.drop (k + 1)) = rightF none0 l F) := by show _ = _; rw [H.out, freeTo_end (by omega) Hft.out]; rfl
              have hcm := hcy.same (V := mark U f (q : Int)) (upTo_end (by omega))
              go_wp2
              go_roundw
              case rel => exact ⟨k + 1, _, by omega, by go_num, hcm, HM.out, hbl, hsz⟩
              case measure => simp [intOf] <;> omega
        · have H : Hid (rightF none0 l F = false) := by show _ = _; rw [← Hacc.out, Hx.out, Hx'.out, rightF_out (by omega)]
          go_wp2
          go_ret
          exact ⟨ret_bool H.out.symm, hbl⟩
    · obtain rfl : k = n := by omega
      have H : Hid (rightF none0 l F = true) := by show _ = _; rw [← Hacc.out, List.drop_eq_nil_of_le (by rw [Hl.out]; exact Nat.le_refl _)]; rfl
      go_wp2
      go_ret
      exact ⟨ret_bool H.out.symm, hbl⟩
end Go.Proofs.Ytgkdjdckdomnmaa
