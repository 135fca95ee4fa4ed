/-
  slices.Repeat of one int, so many times, none among them. No statement of the seat is here.
-/
import Derived.Test.YtaliompoknnjgaaRepeatOne
namespace Go.Proofs.Ytaliompoknnjgaa
open Go.RowKit
set_option maxRecDepth 20000
set_option linter.unusedVariables false

set_option maxHeartbeats 1600000 in
theorem RepeatI_zero (A : Option Addr) (c : Nat) (v : Int) (w : World) (h : Rd w 1 A 1 [Value.int .i64 v]) :
    Calls Try.prog 13 #[.slice A 1 c, .int .i64 0] w fun e w' => e = .returned (.slice (some ⟨w.heap.size, 0, none⟩) 0 0) ∧ Ow (Value.int .i64) w' w.heap.size 3 (.slice (some ⟨w.heap.size, 0, none⟩) 0 0) [] ∧ Below w.heap.size w w' := by
  have C := Lib.hid (fun (W : World) => Mul_one 0 (by omega) W)
  have hmk : ∀ W : World, (Instr.makeSlice 22 (.int .i64 0) (.int .i64 0)).run Try.prog W = .ok (.slice (some ⟨W.heap.size, 0, none⟩) 0 0) (W.alloc (.cells (madeCells #[.int .i64 0] 0) 3)) := fun W => run_mk (P := Try.prog) elInt rfl .i64 .i64 0 0 (Nat.le_refl _) (by omega) (by omega) W
  have Ho := Lib.hid (Ow.make (Value.int .i64) 0 w 3 (base := w.heap.size) 0 (by unfold maxLen; omega) (Nat.le_refl _))
  obtain ⟨ad, rfl, hcell⟩ := h.2 (by omega)
  have hB0 := (Below.refl w.heap.size w).alloc (Nat.le_refl _) (.cells (madeCells #[Value.int .i64 0] 0) 3)
  go_enter Try.func13, Try.ntmps13
  go_wp2_with fail
  refine (C.out _).mono ?_
  rintro e w' ⟨rfl, hw⟩
  obtain rfl := hw.symm
  have hrow : (w.alloc (.cells (madeCells #[Value.int .i64 0] 0) 3)).heap[w.heap.size]? = some (.cells ([] : List Value).toArray 3 (0, 0)) := by
    have := heap_alloc_new w (.cells (madeCells #[Value.int .i64 0] 0) 3)
    rw [this, show madeCells #[Value.int .i64 0] 0 = #[] by simp [madeCells]]
  have Hrow := Lib.hid hrow
  clear hrow hcell
  go_wp2_with (with_reducible refine wpList_copy_splice rfl (.tmp 31) (.tmp 32) 22 22 rfl 3 Try.underlying22 (by kernel_rfl) _ _ 0 0 1 c rfl rfl w.heap.size 0 [] 3 Hrow.out [] ?_ ?_ ?_ ?_ w.heap.size w hB0 (Nat.le_refl _) ?_)
  case refine_1 => rfl
  case refine_3 => exact Nat.le_refl _
  case refine_4 => intro u hu; simp at hu
  case refine_5 =>
    intro w2 HG2 hB2
    have Ho2 : Hid (Ow (Value.int .i64) w2 w.heap.size 3 (.slice (some ⟨w.heap.size, 0, none⟩) 0 0) []) := by
      refine ⟨by simp, .inr ⟨w.heap.size, 0, _, by simp, Nat.le_refl _, HG2.out, by simp, by simp, by simp [splice], by simp⟩⟩
    clear HG2 Hrow hB0 hmk C Ho
    go_wp2
    go_loopw [8] (fun i wr => i = .int .i64 0 ∧ wr = w2) (fun i _ => 0)
    case atStart => exact ⟨rfl, rfl⟩
    case round =>
      obtain ⟨rfl, rfl⟩ := hrel
      go_wp2
      go_ret
      exact ⟨rfl, Ho2.out, hB2⟩
theorem RepeatI_any (A : Option Addr) (c n : Nat) (v : Int) (hn : n ≤ 400) (w : World) (h : Rd w 1 A 1 [Value.int .i64 v]) :
    Calls Try.prog 13 #[.slice A 1 c, .int .i64 (n : Int)] w fun e w' => ∃ g d, e = .returned (.slice (some ⟨g, 0, none⟩) n d) ∧ Ow (Value.int .i64) w' w.heap.size 3 (.slice (some ⟨g, 0, none⟩) n d) (List.replicate n v) ∧ g < w'.heap.size ∧ w.heap.size ≤ g ∧ Below w.heap.size w w' := by
  by_cases h0 : n = 0
  · subst h0
    refine (RepeatI_zero A c v w h).mono ?_
    rintro e w' ⟨rfl, ho, hb⟩
    exact ⟨_, _, rfl, ho, ho.inHeap _ rfl, Nat.le_refl _, hb⟩
  · refine (RepeatI_one A c n v (by omega) hn w h).mono ?_
    rintro e w' ⟨B, d, rfl, ho, hb⟩
    obtain ⟨g, c', hg, hbg, _, _⟩ := ho.head (by rw [List.length_replicate]; omega)
    injection hg with hB _ hd
    subst hB hd
    exact ⟨_, _, rfl, ho, ho.inHeap _ rfl, hbg, hb⟩
end Go.Proofs.Ytaliompoknnjgaa
