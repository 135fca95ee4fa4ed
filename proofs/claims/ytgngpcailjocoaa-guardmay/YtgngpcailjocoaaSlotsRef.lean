/-
  Contracts of the reference's functions IRight, IWho, INext.
-/
import Derived.Test.YtgngpcailjocoaaSlotsWalks2
namespace Go.Proofs.Ytgngpcailjocoaa
open Go.RowKit
set_option linter.unusedVariables false

theorem Box.three {w : World} {b : Nat} {t : TypeId} {u0 u1 u2 : Value} (h : Box w b t [u0, u1, u2]) (v0 v1 v2 : Value) : Box (((w.setCell ⟨b, 0, none⟩ v0).setCell ⟨b, 1, none⟩ v1).setCell ⟨b, 2, none⟩ v2) b t [v0, v1, v2] := by
  simpa using ((h.set 0 v0).set 1 v1).set 2 v2
theorem grownBy_three (w : World) (b : Nat) (v0 v1 v2 : Value) : w.grownBy (((w.setCell ⟨b, 0, none⟩ v0).setCell ⟨b, 1, none⟩ v1).setCell ⟨b, 2, none⟩ v2) (some b) :=
  grownBy_then (grownBy_then (grownBy_setCell w ⟨b, 0, none⟩ v0) (grownBy_setCell _ ⟨b, 1, none⟩ v1)) (grownBy_setCell _ ⟨b, 2, none⟩ v2)

set_option maxHeartbeats 800000 in
theorem IRight_any (P : Int) (hP : in64 P) (A : Option Addr) (n c : Nat) (L : List Slt) (w : World) (h : RdS w A n L) (hL : ∀ s ∈ L, s.Ok) (hn : n ≤ 140737488355328) :
    Calls Try.prog 20 #[.int .i64 P, .slice A n c] w fun e w' => e = .returned (.bool (rightM P L)) ∧ Below w.heap.size w w' := by
  have Hl := Lib.hid h.lenS
  by_cases hin : 1 ≤ P ∧ P ≤ 1048576 ∧ n ≤ 400
  · obtain ⟨hp1, hp2, hn4⟩ := hin
    have HR : Hid (rightM P L = rightFrom P 0 L) := by show _ = _; rw [rightM, Hl.out, decide_eq_true (by omega)]; rfl
    go_enter Try.func20, Try.ntmps20
    go_wp2
    go_loopw [22] (fun i wr => ∃ (k : Nat) (nd' fr' lg' : Int), k ≤ n ∧ i = .int .i64 k ∧ 0 ≤ fr' ∧ fr' ≤ P ∧ 0 ≤ lg' ∧ lg' ≤ P ∧ fr' + lg' ≤ P ∧ Box wr w.heap.size 45 [.int .i64 nd', .int .i64 fr', .int .i64 lg'] ∧ rightFrom P 0 L = rightFrom P (fr' + lg') (L.drop k) ∧ Below w.heap.size w wr) (fun i _ => n - (intOf i).toNat)
    case atStart => exact ⟨0, 0, 0, 0, Nat.zero_le _, rfl, Int.le_refl _, by omega, Int.le_refl _, by omega, by omega, Box.new _ _ _, rfl, (Below.refl _ _).alloc (Nat.le_refl _) _⟩
    case round =>
      obtain ⟨k, nd', fr', lg', hk, rfl, d1, d2, d3, d4, d5, hbox, hacc, hbl⟩ := hrel
      have Hacc := Lib.hid hacc; clear hacc
      by_cases hlt : k < n
      · obtain ⟨ad, nd, fr, lg, rfl, hx, hc0, hc1, hc2⟩ := (h.below hbl).atS hlt
        have Hx := Lib.hid (drop_cell hx)
        obtain ⟨⟨a1, a2⟩, ⟨b1, b2⟩, c1, c2⟩ := hL _ (List.mem_of_getElem? hx)
        clear hx
        simp only at a1 a2 b1 b2 c1 c2
        have hx0 := hbox.cell 0 rfl
        have hx1 := hbox.cell 1 rfl
        have hx2 := hbox.cell 2 rfl
        have hf0 := hbox.free 0
        have hf1 := hbox.free 1
        have hf2 := hbox.free 2
        have hlw := hbox.lt
        by_cases h1 : 0 ≤ nd ∧ nd < 16 ∧ 1 ≤ lg ∧ 0 ≤ fr ∧ fr ≤ P ∧ lg ≤ P ∧ fr + lg ≤ P
        · obtain ⟨g1, g2, g3, g4, g5, g6, g7⟩ := h1
          by_cases h2 : fr' + lg' ≤ fr
          · go_wp2
            go_roundw
            case rel =>
              refine ⟨k + 1, nd, fr, lg, by omega, by go_num, g4, g5, by omega, g6, g7, (hbox.three _ _ _).alloc _, ?_, (below_grown hbl (grownBy_three _ _ _ _ _) (Nat.le_refl _) hbl.size).alloc ?_ _⟩
              · rw [Hacc.out, Hx.out, rightFrom, decide_eq_true (by simp only; omega)]; rfl
              · have := (grownBy_three wr w.heap.size (.int .i64 nd) (.int .i64 fr) (.int .i64 lg)).size
                have := hbl.size
                omega
            case measure => simp [intOf] <;> omega
          · go_wp2
            go_ret
            exact ⟨ret_bool (by rw [HR.out, Hacc.out, Hx.out, rightFrom_false (by simp only; omega)]), hbl.alloc hbl.size _⟩
        · have Hf : Hid (rightFrom P 0 L = false) := by show _ = _; rw [Hacc.out, Hx.out, rightFrom_false (by simp only; omega)]
          have hfin : ∀ w', Below w.heap.size w w' → (Ending.returned (.bool false) = .returned (.bool (rightM P L)) ∧ Below w.heap.size w w') := fun w' hb => ⟨ret_bool (by rw [HR.out, Hf.out]), hb⟩
          by_cases g1 : 0 ≤ nd
          · by_cases g2 : nd < 16
            · by_cases g3 : 1 ≤ lg
              · by_cases g4 : 0 ≤ fr
                · by_cases g5 : fr ≤ P
                  · by_cases g6 : lg ≤ P
                    · have g7 : P < fr + lg := by omega
                      clear h1
                      go_wp2
                      go_ret
                      exact hfin _ (hbl.alloc hbl.size _)
                    · clear h1
                      go_wp2
                      go_ret
                      exact hfin _ (hbl.alloc hbl.size _)
                  · clear h1
                    go_wp2
                    go_ret
                    exact hfin _ (hbl.alloc hbl.size _)
                · clear h1
                  go_wp2
                  go_ret
                  exact hfin _ (hbl.alloc hbl.size _)
              · clear h1
                go_wp2
                go_ret
                exact hfin _ (hbl.alloc hbl.size _)
            · clear h1
              go_wp2
              go_ret
              exact hfin _ (hbl.alloc hbl.size _)
          · clear h1
            go_wp2
            go_ret
            exact hfin _ (hbl.alloc hbl.size _)
      · obtain rfl : k = n := by omega
        go_wp2
        go_ret
        refine ⟨ret_bool (by rw [HR.out, Hacc.out, List.drop_eq_nil_of_le (by rw [Hl.out]; exact Nat.le_refl _)]; rfl), hbl⟩
  · have HR : Hid (rightM P L = false) := by show _ = _; rw [rightM, Hl.out, decide_eq_false hin]; rfl
    have hfin : ∀ w', Below w.heap.size w w' → (Ending.returned (.bool false) = .returned (.bool (rightM P L)) ∧ Below w.heap.size w w') := fun w' hb => ⟨ret_bool HR.out.symm, hb⟩
    by_cases g1 : 1 ≤ P
    · by_cases g2 : P ≤ 1048576
      · have g3 : 400 < n := by omega
        clear hin
        go_enter Try.func20, Try.ntmps20
        go_wp2
        go_ret
        exact hfin _ (Below.refl _ _)
      · clear hin
        go_enter Try.func20, Try.ntmps20
        go_wp2
        go_ret
        exact hfin _ (Below.refl _ _)
    · clear hin
      go_enter Try.func20, Try.ntmps20
      go_wp2
      go_ret
      exact hfin _ (Below.refl _ _)
end Go.Proofs.Ytgngpcailjocoaa
