/-
  Contracts of slots' functions Who, Next, Waits, for every input.
-/
import Derived.Test.YtgngpcailjocoaaSlotsWalks
import Derived.BigQuiet
namespace Go.Proofs.Ytgngpcailjocoaa
open Go.RowKit
set_option linter.unusedVariables false

theorem whoM_no {P t : Int} {L : List Slt} (h : checkM P L t ≠ 0) : whoM P L t = (0, checkM P L t) := by rw [whoM, if_neg h]
theorem whoM_yes {P t : Int} {L : List Slt} (h : checkM P L t = 0) : whoM P L t = whoR (t % P) L := by rw [whoM, if_pos h]
theorem whoR_some {a x : Int} {L : List Slt} (h : whoAt a L = some x) : whoR a L = (x, 0) := by rw [whoR, h]
theorem whoR_none {a : Int} {L : List Slt} (h : whoAt a L = none) : whoR a L = (0, 3) := by rw [whoR, h]
theorem rem_pos {t P : Int} (h : 0 ≤ t) : t.tmod P = t % P := Int.tmod_eq_emod_of_nonneg h

set_option maxHeartbeats 400000 in
theorem Who_any (P : Int) (hP : in64 P) (A : Option Addr) (n c : Nat) (L : List Slt) (t : Int) (ht : in64 t) (w : World) (h : RdS w A n L) (hL : ∀ s ∈ L, s.Ok) (hn : n ≤ 140737488355328) :
    Calls Try.prog 14 #[.int .i64 P, .slice A n c, .int .i64 t] w fun e w' => e = .returned (.tuple #[.int .i64 (whoM P L t).1, .int .i64 (whoM P L t).2]) ∧ Below w.heap.size w w' := by
  have Hl := Lib.hid h.lenS
  have Hc := Lib.hid (check_any P hP A n c L t ht w h hL hn)
  by_cases hz : checkM P L t = 0
  · obtain ⟨hR, t0, t1⟩ := checkM_zero hz
    rw [hz] at Hc
    rw [whoM_yes hz]
    obtain ⟨⟨hp1, hp2, hn4⟩, hr⟩ := rightM_true.1 hR
    have Hr := Lib.hid hr
    have Hlen := Lib.hid hn4
    have r0 := Int.emod_nonneg t (show P ≠ 0 by omega)
    have r1 := Int.emod_lt_of_pos t (show 0 < P by omega)
    have hrem := rem_pos (P := P) t0
    clear hR hr hn4 hz
    generalize t % P = r at r0 r1 hrem ⊢
    go_enter Try.func14, Try.ntmps14
    go_wp2_with fail
    refine Hc.out.mono ?_
    rintro e w1 ⟨rfl, hb⟩
    go_wp2
    go_loopw [24] (fun i wr => ∃ (k : Nat), k ≤ n ∧ i = .int .i64 k ∧ whoAt r L = whoAt r (L.drop k) ∧ Below w.heap.size w wr) (fun i _ => n - (intOf i).toNat)
    case atStart => exact ⟨0, Nat.zero_le _, rfl, rfl, hb⟩
    case round =>
      obtain ⟨k, hk, rfl, hacc, hbl⟩ := hrel
      have Hacc := Lib.hid hacc; clear hacc
      by_cases hlt : k < n
      · obtain ⟨ad, nd, fr, lg, rfl, hx, hc0, hc1, hc2⟩ := (h.below hbl).atS hlt
        have Hx := Lib.hid (drop_cell hx)
        obtain ⟨_, _, q3, q4, q5⟩ := right_mem Hr.out (List.mem_of_getElem? hx)
        simp only at q3 q4 q5
        clear hx
        by_cases h1 : fr ≤ r
        · by_cases h2 : r < fr + lg
          · have Hw : Hid (whoAt r L = some nd) := by show _ = _; rw [Hacc.out, Hx.out, whoAt, if_pos ⟨h1, h2⟩]
            go_wp2
            go_ret2
            exact ⟨by rw [whoR_some Hw.out]; rfl, hbl.alloc hbl.size _⟩
          · have Hw : Hid (whoAt r L = whoAt r (L.drop (k + 1))) := by show _ = _; rw [Hacc.out, Hx.out, whoAt, if_neg (by simp only; omega)]
            go_wp2
            go_roundw
            case rel => exact ⟨k + 1, by omega, by go_num, Hw.out, hbl.alloc hbl.size _⟩
            case measure => simp [intOf] <;> omega
        · have Hw : Hid (whoAt r L = whoAt r (L.drop (k + 1))) := by show _ = _; rw [Hacc.out, Hx.out, whoAt, if_neg (by simp only; omega)]
          go_wp2
          go_roundw
          case rel => exact ⟨k + 1, by omega, by go_num, Hw.out, hbl.alloc hbl.size _⟩
          case measure => simp [intOf] <;> omega
      · obtain rfl : k = n := by omega
        have Hw : Hid (whoAt r L = none) := by show _ = _; rw [Hacc.out, List.drop_eq_nil_of_le (by rw [Hl.out]; exact Nat.le_refl _)]; rfl
        go_wp2
        go_ret2
        exact ⟨by rw [whoR_none Hw.out]; rfl, hbl⟩
  · rw [whoM_no hz]
    generalize checkM P L t = x at Hc hz ⊢
    go_enter Try.func14, Try.ntmps14
    go_wp2_with fail
    refine Hc.out.mono ?_
    rintro e w1 ⟨rfl, hb⟩
    go_wp2
    go_ret2
    exact ⟨rfl, hb⟩

theorem nextM_no {P t : Int} {L : List Slt} (node : Int) (h : checkM P L t ≠ 0) : nextM P L node t = (0, checkM P L t) := by rw [nextM, if_neg h]
theorem nextM_none {P t node : Int} {L : List Slt} (h : checkM P L t = 0) (hs : startsM node L = []) : nextM P L node t = (0, 3) := by rw [nextM, if_pos h, if_pos hs]
theorem nextM_yes {P t node : Int} {L : List Slt} (h : checkM P L t = 0) (hs : startsM node L ≠ []) : nextM P L node t = (nextOf P (startsM node L) t, 0) := by rw [nextM, if_pos h, if_neg hs]
theorem nextOf_some {P t f : Int} {bs : List Int} (h : firstGe (t % P) bs = some f) : nextOf P bs t = t - t % P + f := by rw [nextOf, h]
theorem nextOf_none {P t : Int} {bs : List Int} (h : firstGe (t % P) bs = none) : nextOf P bs t = t - t % P + P + bs.headD 0 := by rw [nextOf, h]


theorem waitsM_no {P : Int} {L : List Slt} (node : Int) (h : rightM P L = false) : waitsM P L node = (0, 1) := by rw [waitsM, h]; rfl
theorem waitsM_none {P node : Int} {L : List Slt} (h : rightM P L = true) (hs : startsM node L = []) : waitsM P L node = (0, 3) := by rw [waitsM, if_pos h, if_pos hs]
theorem waitsM_yes {P node : Int} {L : List Slt} (h : rightM P L = true) (hs : startsM node L ≠ []) : waitsM P L node = (waitsOf P (startsM node L), 0) := by rw [waitsM, if_pos h, if_neg hs]

end Go.Proofs.Ytgngpcailjocoaa
