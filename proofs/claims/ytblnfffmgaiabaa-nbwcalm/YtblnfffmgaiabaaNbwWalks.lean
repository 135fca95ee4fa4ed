/-
  Contracts of package nbw: isWrong, the writer's and the reader's step.
-/
import Derived.Test.YtblnfffmgaiabaaNbwTypes
import Derived.Test.YtblnfffmgaiabaaSlicesF
import Derived.Deep.QuietTactic
import Derived.BigQuiet
import Derived.Deep.CutBlock
import Derived.Deep.DeepCutAuto
namespace Go.Proofs.Ytblnfffmgaiabaa
open Go.RowKit
set_option linter.unusedVariables false

def badQ (x : Int) : Bool := !kindB x
theorem isWrongQ_any (x : Int) (w : World) : Calls Try.prog 18 #[.int .i64 x] w fun e w' => e = .returned (.bool (badQ x)) ∧ w' = w := by
  by_cases h : x = 1
  · subst h
    go_enter Try.func18, Try.ntmps18
    go_wp2
    go_ret
    exact ⟨ret_bool (by simp [badQ, kindB]), rfl⟩
  · go_enter Try.func18, Try.ntmps18
    go_wp2
    go_ret
    exact ⟨ret_bool (by simp [badQ, kindB, bne]), rfl⟩
theorem enterWQ : ∀ args w, (callFunc 18 args).run Try.prog w = .ok (.enter 18 args) w := enters_of Try.func18 (by kernel_rfl) rfl
theorem ContainsQ_any (A : Option Addr) (n c : Nat) (l : List Int) (w : World) (h : Rd w 1 A n (l.map (Value.int .i64))) (hn : n ≤ 4611686018427387904) :
    Calls Try.prog 17 #[.slice A n c, .func (.func 18) #[] #[]] w fun e w' => e = .returned (.bool (l.any badQ)) ∧ Below w.heap.size w w' := by
  refine (ContainsFunc_any 18 #[] enterWQ badQ none A n c l w h (fun x _ W _ => ?_) hn).mono ?_
  · refine (isWrongQ_any x W).mono ?_
    rintro e w' ⟨rfl, rfl⟩
    exact ⟨rfl, 0, rfl⟩
  · rintro e w' ⟨rfl, hq⟩
    exact ⟨rfl, below_draws hq⟩
theorem memQ_count {d : Nat} (h : d % 4 = 0 ∨ d % 4 = 3) : memQ (d + 1) = (memQ d).set 0 (.int .i64 ((cntQ d : Int) + 1)) := by
  unfold memQ
  rw [cntQ_next, wd1_next, wd2_next, if_pos h, if_neg (by omega), if_neg (by omega)]
  simp
theorem memQ_first {d : Nat} (h : d % 4 = 1) : memQ (d + 1) = (memQ d).set 1 (.int .i64 ((d : Int) / 4 + 1)) := by
  have e : (d : Int) / 4 + 1 = ((wd1 d + 1 : Nat) : Int) := by unfold wd1; omega
  unfold memQ
  rw [cntQ_next, wd1_next, wd2_next, if_neg (by omega), if_pos h, if_neg (by omega), e]
  simp
theorem memQ_second {d : Nat} (h : d % 4 = 2) : memQ (d + 1) = (memQ d).set 2 (.int .i64 ((d : Int) / 4 + 1)) := by
  have e : (d : Int) / 4 + 1 = ((wd2 d + 1 : Nat) : Int) := by unfold wd2; omega
  unfold memQ
  rw [cntQ_next, wd1_next, wd2_next, if_neg (by omega), if_neg (by omega), if_pos h, e]
  simp
set_option maxHeartbeats 800000 in
theorem wStep_any (a b d : Nat) (hd : d ≤ 1000) (w : World) (ha : Box w a 42 [.int .i64 (d : Int)]) (hb : Box w b 40 (memQ d)) (hne : a ≠ b) :
    Calls Try.prog 19 #[.pointer (some ⟨a, 0, none⟩), .pointer (some ⟨b, 0, none⟩)] w fun e w' => e = .returned (.tuple #[]) ∧ Box w' a 42 [.int .i64 ((d + 1 : Nat) : Int)] ∧ Box w' b 40 (memQ (d + 1)) ∧ ∃ wm, w.grownBy wm (some b) ∧ wm.grownBy w' (some a) := by
  have hm : (d % 4 = 0 ∨ d % 4 = 3) ∨ d % 4 = 1 ∨ d % 4 = 2 := by omega
  have g0 := ha.cell 0 rfl
  have c0 := hb.cell 0 rfl
  have c1 := hb.cell 1 rfl
  have c2 := hb.cell 2 rfl
  have f0 := hb.free 0
  have f1 := hb.free 1
  have f2 := hb.free 2
  have k0 := ha.free 0
  have hla := ha.lt
  have hlb := hb.lt
  have hd' : (d : Int) ≤ 1000 := by omega
  have hcb' : (cntQ d : Int) ≤ 1000 := by unfold cntQ; omega
  have hne1 : some b ≠ some a := fun e => hne (by injection e with e; exact e.symm)
  have hne2 : some a ≠ some b := fun e => hne (by injection e)
  have H : ∀ (k : Nat) (u : Value), memQ (d + 1) = (memQ d).set k u → Hid (Box ((w.setCell ⟨b, k, none⟩ u).setCell ⟨a, 0, none⟩ (.int .i64 ((d : Int) + 1))) a 42 [.int .i64 ((d + 1 : Nat) : Int)] ∧ Box ((w.setCell ⟨b, k, none⟩ u).setCell ⟨a, 0, none⟩ (.int .i64 ((d : Int) + 1))) b 40 (memQ (d + 1)) ∧ ∃ wm, w.grownBy wm (some b) ∧ wm.grownBy ((w.setCell ⟨b, k, none⟩ u).setCell ⟨a, 0, none⟩ (.int .i64 ((d : Int) + 1))) (some a)) := fun k u e => by
    have g1 := grownBy_setCell w ⟨b, k, none⟩ u
    have g2 := grownBy_setCell (w.setCell ⟨b, k, none⟩ u) ⟨a, 0, none⟩ (.int .i64 ((d : Int) + 1))
    exact ⟨(ha.grown g1 hne2).set 0 _, by rw [e]; exact (hb.set k u).grown g2 hne1, _, g1, g2⟩
  rcases hm with m | m | m
  · have m' : (d : Int) % 4 = 0 ∨ (d : Int) % 4 = 3 := by omega
    have HH := H _ _ (memQ_count m)
    clear H ha hb m
    rcases m' with m | m
    all_goals
      go_enter Try.func19, Try.ntmps19
      go_wp2
      go_end0
      exact ⟨rfl, HH.out⟩
  · have m' : (d : Int) % 4 = 1 := by omega
    have HH := H _ _ (memQ_first m)
    clear H ha hb m
    go_enter Try.func19, Try.ntmps19
    go_wp2
    go_end0
    exact ⟨rfl, HH.out⟩
  · have m' : (d : Int) % 4 = 2 := by omega
    have HH := H _ _ (memQ_second m)
    clear H ha hb m
    go_enter Try.func19, Try.ntmps19
    go_wp2
    go_end0
    exact ⟨rfl, HH.out⟩
set_option maxHeartbeats 800000 in
theorem rStep_any (R : Nat) (r : RdQ) (hp : r.pos ≤ 3) (ht : r.tr ≤ 1000) (c f s : Nat) (w : World) (hr : Box w R 44 (rdC r)) :
    Calls Try.prog 20 #[.pointer (some ⟨R, 0, none⟩), .agg #[.int .i64 (c : Int), .int .i64 (f : Int), .int .i64 (s : Int)]] w fun e w' => e = .returned (.bool (codeB c r)) ∧ Box w' R 44 (rdC (codeR c f s r)) ∧ w.grownBy w' (some R) := by
  obtain ⟨pos, saw, tr, fi, se⟩ := r
  simp only at hp ht
  have hp : pos = 0 ∨ pos = 1 ∨ pos = 2 ∨ pos = 3 := by omega
  have hlr := hr.lt
  have ht' : (tr : Int) ≤ 1000 := by omega
  have z1 := hr.alloc (.cells #[.int .i64 (c : Int), .int .i64 (f : Int), .int .i64 (s : Int)] 40)
  have zm := Box.new w 40 [.int .i64 (c : Int), .int .i64 (f : Int), .int .i64 (s : Int)]
  have HR := Lib.hid z1
  have HG := Lib.hid (World.grownBy_alloc w (.cells #[.int .i64 (c : Int), .int .i64 (f : Int), .int .i64 (s : Int)] 40) (some R))
  have g0 := z1.cell 0 rfl
  have g1 := z1.cell 1 rfl
  have g2 := z1.cell 2 rfl
  have g3 := z1.cell 3 rfl
  have g4 := z1.cell 4 rfl
  have f0 := z1.free 0
  have f1 := z1.free 1
  have f2 := z1.free 2
  have f3 := z1.free 3
  have f4 := z1.free 4
  have m0 := zm.cell 0 rfl
  have m1 := zm.cell 1 rfl
  have m2 := zm.cell 2 rfl
  have hne : w.heap.size ≠ R := by omega
  have hne' : R ≠ w.heap.size := by omega
  have hl1 := z1.lt
  change (w.alloc (.cells #[.int .i64 (c : Int), .int .i64 (f : Int), .int .i64 (s : Int)] 40)).cell? _ = _ at m0 m1 m2
  simp only at g0 g1 g2 g3 g4
  clear hr z1 zm
  rcases hp with rfl | rfl | rfl | rfl
  · by_cases hc : c % 2 = 1
    · have hc' : (c : Int) % 2 = 1 := by omega
      rw [show codeR c f s ⟨0, saw, tr, fi, se⟩ = ⟨0, saw, tr + 1, fi, se⟩ by simp [codeR, hc]]
      go_enter Try.func20, Try.ntmps20
      go_upto_region 1 with fail
      generalize w.alloc (.cells #[.int .i64 (c : Int), .int .i64 (f : Int), .int .i64 (s : Int)] 40) = w1 at *
      go_wp2
      go_ret
      exact ⟨rfl, HR.out.set 4 _, grownBy_then HG.out (grownBy_setCell _ ⟨R, 4, none⟩ _)⟩
    · have hc' : (c : Int) % 2 = 0 := by omega
      rw [show codeR c f s ⟨0, saw, tr, fi, se⟩ = ⟨1, c, tr + 1, fi, se⟩ by simp [codeR, hc]]
      go_enter Try.func20, Try.ntmps20
      go_upto_region 1 with fail
      generalize w.alloc (.cells #[.int .i64 (c : Int), .int .i64 (f : Int), .int .i64 (s : Int)] 40) = w1 at *
      go_wp2
      go_ret
      exact ⟨rfl, ((HR.out.set 4 _).set 1 _).set 0 _, grownBy_then (grownBy_then (grownBy_then HG.out (grownBy_setCell _ ⟨R, 4, none⟩ _)) (grownBy_setCell _ ⟨R, 1, none⟩ _)) (grownBy_setCell _ ⟨R, 0, none⟩ _)⟩
  · rw [show codeR c f s ⟨1, saw, tr, fi, se⟩ = ⟨2, saw, tr, f, se⟩ by simp [codeR]]
    go_enter Try.func20, Try.ntmps20
    go_upto_region 1 with fail
    generalize w.alloc (.cells #[.int .i64 (c : Int), .int .i64 (f : Int), .int .i64 (s : Int)] 40) = w1 at *
    go_wp2
    go_ret
    exact ⟨rfl, (HR.out.set 2 _).set 0 _, grownBy_then (grownBy_then HG.out (grownBy_setCell _ ⟨R, 2, none⟩ _)) (grownBy_setCell _ ⟨R, 0, none⟩ _)⟩
  · rw [show codeR c f s ⟨2, saw, tr, fi, se⟩ = ⟨3, saw, tr, fi, s⟩ by simp [codeR]]
    go_enter Try.func20, Try.ntmps20
    go_upto_region 1 with fail
    generalize w.alloc (.cells #[.int .i64 (c : Int), .int .i64 (f : Int), .int .i64 (s : Int)] 40) = w1 at *
    go_wp2
    go_ret
    exact ⟨rfl, (HR.out.set 3 _).set 0 _, grownBy_then (grownBy_then HG.out (grownBy_setCell _ ⟨R, 3, none⟩ _)) (grownBy_setCell _ ⟨R, 0, none⟩ _)⟩
  · rw [show codeR c f s ⟨3, saw, tr, fi, se⟩ = ⟨0, saw, tr, fi, se⟩ by simp [codeR]]
    rw [show codeB c ⟨3, saw, tr, fi, se⟩ = decide (saw = c) by simp [codeB]]
    go_enter Try.func20, Try.ntmps20
    go_upto_region 1 with fail
    generalize w.alloc (.cells #[.int .i64 (c : Int), .int .i64 (f : Int), .int .i64 (s : Int)] 40) = w1 at *
    go_wp2
    have hs := HR.out.set 0 (.int .i64 0)
    have HS := Lib.hid hs
    have HG2 := Lib.hid (grownBy_then HG.out (grownBy_setCell w1 ⟨R, 0, none⟩ (.int .i64 0)))
    have k0 := hs.cell 0 rfl
    have k1 := hs.cell 1 rfl
    have e0 : (w1.setCell ⟨R, 0, none⟩ (.int .i64 0)).cell? ⟨w.heap.size, 0, none⟩ = some (.int .i64 (c : Int)) := by
      rw [(grownBy_setCell w1 ⟨R, 0, none⟩ (.int .i64 0)).cell_far _ (World.block_lt_of_cell? _ _ m0) (by simp; omega)]
      exact m0
    have heq : ((c : Int) == (saw : Int)) = decide (saw = c) := by
      rw [Bool.eq_iff_iff]; simp; omega
    simp only at k1
    clear g0 g1 g2 g3 g4 m0 m1 m2 HR HG hs
    generalize w1.setCell ⟨R, 0, none⟩ (.int .i64 0) = w2 at *
    go_quiet (fail)
    go_wp2
    go_ret
    exact ⟨rfl, HS.out, grownBy_then HG2.out (grownBy_drewN _ _ _)⟩
end Go.Proofs.Ytblnfffmgaiabaa
