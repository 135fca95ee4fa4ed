/-
  What Use, Sure and Fit give, case by case; the walks of the laws' own first words (alive20) and of RmsSure, RmsFull, RmsBest: each returns true, at every argument.
-/
import Derived.Test.YtajfohnblmnjjaaRmsWalks3
import Derived.Test.YtajfohnblmnjjaaRmsSort
namespace Go.Proofs.Ytajfohnblmnjjaa
open Go.RowKit
set_option linter.unusedVariables false
set_option maxRecDepth 20000

section
variable {M : List Tk} {L : List Tsk} {w w' : World} {e : Ending}
theorem GivesUse.good (h : GivesUse (M.map Tk.asT) w e w') (hM : GoodK M) : ∃ a b x, e = .returned (.tuple #[.agg #[.int .i64 a, .int .i64 b], .int .i64 x]) ∧ Hid (UseIs M a b x) ∧ Below w.heap.size w w' := by
  obtain ⟨a, b, x, he, hh, hb⟩ := h
  rcases hh.out with ⟨hw, _⟩ | ⟨M', hM', _, hu⟩
  · rw [good_not hM] at hw; cases hw
  · obtain rfl := asT_inj hM'
    exact ⟨a, b, x, he, hu, hb⟩
theorem GivesUse.wrong (h : GivesUse L w e w') (hL : wrongK L = true) : e = .returned (.tuple #[.agg #[.int .i64 0, .int .i64 0], .int .i64 2]) ∧ Below w.heap.size w w' := by
  obtain ⟨a, b, x, he, hh, hb⟩ := h
  rcases hh.out with ⟨_, rfl, rfl, rfl⟩ | ⟨M', rfl, hg, _⟩
  · exact ⟨he, hb⟩
  · rw [good_not hg] at hL; cases hL
theorem GivesSure.good (h : GivesSure (M.map Tk.asT) w e w') (hM : GoodK M) : e = .returned (.tuple #[.bool (decide (prodA M ≤ 2 * useD M)), .int .i64 0]) ∧ Below w.heap.size w w' := by
  obtain ⟨b, x, he, hh, hb⟩ := h
  rcases hh.out with ⟨hw, _⟩ | ⟨M', hM', _, rfl, rfl⟩
  · rw [good_not hM] at hw; cases hw
  · obtain rfl := asT_inj hM'
    exact ⟨he, hb⟩
theorem GivesSure.wrong (h : GivesSure L w e w') (hL : wrongK L = true) : e = .returned (.tuple #[.bool false, .int .i64 2]) ∧ Below w.heap.size w w' := by
  obtain ⟨b, x, he, hh, hb⟩ := h
  rcases hh.out with ⟨_, rfl, rfl⟩ | ⟨M', rfl, hg, _⟩
  · exact ⟨he, hb⟩
  · rw [good_not hg] at hL; cases hL
theorem GivesFit.good (h : GivesFit (M.map Tk.asT) w e w') (hM : GoodK M) : ∃ b, e = .returned (.tuple #[.bool b, .int .i64 0]) ∧ Hid (b = true ↔ Feas M) ∧ Below w.heap.size w w' := by
  obtain ⟨b, x, he, hh, hb⟩ := h
  rcases hh.out with ⟨hw, _⟩ | ⟨M', hM', _, hf, rfl⟩
  · rw [good_not hM] at hw; cases hw
  · obtain rfl := asT_inj hM'
    exact ⟨b, he, hf, hb⟩
theorem GivesFit.yes (h : GivesFit (M.map Tk.asT) w e w') (hM : GoodK M) (hF : Feas M) : e = .returned (.tuple #[.bool true, .int .i64 0]) ∧ Below w.heap.size w w' := by
  obtain ⟨b, he, hh, hb⟩ := h.good hM
  rw [hh.out.2 hF] at he
  exact ⟨he, hb⟩
theorem GivesFit.wrong (h : GivesFit L w e w') (hL : wrongK L = true) : e = .returned (.tuple #[.bool false, .int .i64 2]) ∧ Below w.heap.size w w' := by
  obtain ⟨b, x, he, hh, hb⟩ := h
  rcases hh.out with ⟨_, rfl, rfl⟩ | ⟨M', rfl, hg, _⟩
  · exact ⟨he, hb⟩
  · rw [good_not hg] at hL; cases hL
theorem GivesFit.split (h : GivesFit L w e w') : ∃ b x, e = .returned (.tuple #[.bool b, .int .i64 x]) ∧ Below w.heap.size w w' := by
  obtain ⟨b, x, he, hh, hb⟩ := h
  exact ⟨b, x, he, hb⟩
end
def alive20A : List Tk := [⟨4, 1⟩, ⟨6, 2⟩]
def alive20B : List Tk := [⟨2, 1⟩, ⟨3, 1⟩]
def alive20C : List Tk := [⟨9, 3⟩, ⟨3, 2⟩]
theorem alive20A_good : GoodK alive20A := ⟨by decide, by decide⟩
theorem alive20B_good : GoodK alive20B := ⟨by decide, by decide⟩
theorem alive20C_good : GoodK alive20C := ⟨by decide, by decide⟩
theorem alive20A_use {a b x : Int} (h : UseIs alive20A a b x) : a = 7 ∧ b = 12 ∧ x = 0 := by
  have e1 : useNum alive20A = 7 := by decide +kernel
  have e2 : useDen alive20A = 12 := by decide +kernel
  have e3 : useBig alive20A = false := by decide +kernel
  rcases h with ⟨h, _⟩ | ⟨_, h1, h2, h3⟩
  · rw [e3] at h; cases h
  · rw [e1] at h1; rw [e2] at h2; exact ⟨h1, h2, h3⟩
theorem alive20C_fit : Feas alive20C := by
  intro x hx
  have hx2 : x = ⟨9, 3⟩ ∨ x = ⟨3, 2⟩ := by simpa [alive20C] using hx
  rcases hx2 with rfl | rfl
  · exact ⟨9, by decide, by decide, by decide⟩
  · exact ⟨2, by decide, by decide, by decide⟩
set_option maxHeartbeats 800000 in
theorem alive20_any (w : World) : Calls Try.prog 19 #[] w fun e w' => e = .returned (.bool true) ∧ Below w.heap.size w w' := by
  have C1 := Lib.hid (fun (W : World) (A : Option Addr) (h : RdG tskC 2 W A 2 (alive20A.map Tk.asT)) => (Use_any A 2 2 _ W h (by decide)).mono fun e w' hg => hg.good alive20A_good)
  have C2 := Lib.hid (fun (W : World) (A : Option Addr) (h : RdG tskC 2 W A 2 (alive20B.map Tk.asT)) => (Sure_any A 2 2 _ W h (by decide)).mono fun e w' hg => hg.good alive20B_good)
  have C3 := Lib.hid (fun (W : World) (A : Option Addr) (h : RdG tskC 2 W A 2 (alive20C.map Tk.asT)) => (Fit_any A 2 2 _ W h (by decide)).mono fun e w' hg => hg.yes alive20C_good alive20C_fit)
  rw [show decide (prodA alive20B ≤ 2 * useD alive20B) = true from by decide] at C2
  have l1 := Rd.litFlat tskK.len (w := w) (b := w.heap.size) (alive20A.map Tk.asT) 38 rfl
  have c1 := C1.out _ _ l1
  go_enter Try.func19, Try.ntmps19
  go_wp2_with fail
  refine c1.mono ?_
  rintro e w1 ⟨a, b, x, rfl, hu, hb1⟩
  obtain ⟨rfl, rfl, rfl⟩ := alive20A_use hu.out
  have hB1 := bthen (below_one (w := w) (.cells ((alive20A.map Tk.asT).flatMap tskC).toArray 38)) hb1
  clear c1 l1 C1 hb1 hu
  go_upto_region 2 with fail
  have hbx := Box.new w1 24 [.int .i64 7, .int .i64 12]
  have hB2 := bthen hB1 (below_one (w := w1) (.cells #[.int .i64 7, .int .i64 12] 24))
  replace hbx : Box (w1.alloc (.cells #[.int .i64 7, .int .i64 12] 24)) w1.heap.size 24 [.int .i64 7, .int .i64 12] := hbx
  clear hB1
  generalize w1.alloc (.cells #[.int .i64 7, .int .i64 12] 24) = w2 at *
  generalize w1.heap.size = bx at *
  have l2 := Rd.litFlat tskK.len (w := w2) (b := w2.heap.size) (alive20B.map Tk.asT) 38 rfl
  have c2 := C2.out _ _ l2
  go_wp2_with fail
  refine c2.mono ?_
  rintro e w3 ⟨rfl, hb3⟩
  have hb3' := bthen (below_one (w := w2) (.cells ((alive20B.map Tk.asT).flatMap tskC).toArray 38)) hb3
  have hB3 := bthen hB2 hb3'
  have hbx3 := hbx.below hb3' hbx.lt
  clear c2 l2 C2 hb3 hb3' hB2 hbx
  have l3 := Rd.litFlat tskK.len (w := w3) (b := w3.heap.size) (alive20C.map Tk.asT) 38 rfl
  have c3 := C3.out _ _ l3
  go_wp2_with fail
  refine c3.mono ?_
  rintro e w4 ⟨rfl, hb4⟩
  have hb4' := bthen (below_one (w := w3) (.cells ((alive20C.map Tk.asT).flatMap tskC).toArray 38)) hb4
  have hB4 := bthen hB3 hb4'
  have hbx4 := hbx3.below hb4' hbx3.lt
  clear c3 l3 C3 hb4 hb4' hB3 hbx3
  have q0 := hbx4.cell 0 rfl
  have q1 := hbx4.cell 1 rfl
  go_wp2
  go_ret
  exact ⟨by rfl, hB4⟩
end Go.Proofs.Ytajfohnblmnjjaa
