/-
  Contracts of package age: tell, read, tick, perform, Lasts, for every input.
-/
import Derived.Test.YtdppfjiphfeapaaAgeTypes
import Derived.Deep.QuietTactic
import Derived.BigQuiet
import Derived.Deep.CutBlock
import Derived.Deep.DeepCutAuto
namespace Go.Proofs.Ytdppfjiphfeapaa
open Go.RowKit
set_option maxRecDepth 20000
set_option linter.unusedVariables false

set_option maxHeartbeats 800000 in
theorem ageTell_any (b : Nat) (s : AgS) (x : Int) (w : World) (h : Box w b 45 (varC s)) :
    Calls Try.prog 19 #[.pointer (some ⟨b, 0, none⟩), .int .i64 x] w fun e w' => e = .returned (.tuple #[]) ∧ Box w' b 45 (varC ⟨s.nw, true, x, s.nw⟩) ∧ w.grownBy w' (some b) := by
  have c0 := h.cell 0 rfl
  have c1 := h.cell 1 rfl
  have c2 := h.cell 2 rfl
  have c3 := h.cell 3 rfl
  have f1 := h.free 1
  have f2 := h.free 2
  have f3 := h.free 3
  have hl := h.lt
  have HH := Lib.hid (((h.set 1 (.bool true)).set 2 (.int .i64 x)).set 3 (.int .i64 s.nw))
  clear h
  go_enter Try.func19, Try.ntmps19
  go_wp2
  go_end0
  exact ⟨rfl, HH.out, grownBy_tri _ _ _ _ _ _ _ _⟩
set_option maxHeartbeats 800000 in
theorem ageTick_any (b : Nat) (s : AgS) (x : Int) (hs : AgOk s) (w : World) (h : Box w b 45 (varC s)) :
    Calls Try.prog 21 #[.pointer (some ⟨b, 0, none⟩), .int .i64 x] w fun e w' => e = .returned (.int .i64 (if 0 ≤ x ∧ x ≤ agMax then 0 else 2)) ∧ Box w' b 45 (varC (agS s ⟨3, x⟩)) ∧ w.grownBy w' (some b) := by
  have hM : agMax = 1099511627776 := rfl
  have h0 := hs.n0
  have h1 := hs.n1
  rw [hM] at h1
  have c0 := h.cell 0 rfl
  have f0 := h.free 0
  have hl := h.lt
  by_cases g : 0 ≤ x ∧ x ≤ agMax
  · rw [if_pos g]
    have e : agS s ⟨3, x⟩ = ⟨if agMax < s.nw + x then agMax else s.nw + x, s.any, s.va, s.at_⟩ := by
      unfold agS
      rw [if_neg (show ¬ (3 : Int) = 1 by decide), if_pos ⟨rfl, g⟩]
    rw [e]
    rw [hM] at g ⊢
    obtain ⟨g0, g1⟩ := g
    by_cases k : 1099511627776 < s.nw + x
    · rw [if_pos k]
      have HH := Lib.hid (h.set 0 (.int .i64 1099511627776))
      clear h e hM
      go_enter Try.func21, Try.ntmps21
      go_wp2
      go_ret
      exact ⟨rfl, HH.out, grownBy_setCell _ _ _⟩
    · rw [if_neg k]
      have HH := Lib.hid (h.set 0 (.int .i64 (s.nw + x)))
      clear h e hM
      go_enter Try.func21, Try.ntmps21
      go_wp2
      go_ret
      exact ⟨rfl, HH.out, grownBy_setCell _ _ _⟩
  · rw [if_neg g]
    have e : agS s ⟨3, x⟩ = s := by
      unfold agS
      rw [if_neg (show ¬ (3 : Int) = 1 by decide), if_neg (fun q => g q.2)]
    rw [e]
    rw [hM] at g
    have HH := Lib.hid h
    clear h e hM
    by_cases k : x < 0
    · go_enter Try.func21, Try.ntmps21
      go_wp2
      go_ret
      exact ⟨rfl, HH.out, .refl _ _⟩
    · have k2 : 1099511627776 < x := by omega
      go_enter Try.func21, Try.ntmps21
      go_wp2
      go_ret
      exact ⟨rfl, HH.out, .refl _ _⟩
set_option maxHeartbeats 800000 in
theorem ageRead_any (b : Nat) (s : AgS) (f x : Int) (hs : AgOk s) (hf : 0 ≤ f) (w : World) (h : Box w b 45 (varC s)) :
    Calls Try.prog 20 #[.pointer (some ⟨b, 0, none⟩), .int .i64 f] w fun e w' => e = .returned (agaV (agA f s ⟨2, x⟩)) ∧ Below w.heap.size w w' := by
  have hM : agMax = 1099511627776 := rfl
  obtain ⟨nw, any, va, at_⟩ := s
  obtain ⟨h1, h2, h3, h4⟩ := hs
  rw [hM] at h2
  simp only at h1 h2 h3 h4
  have A2 : agA f ⟨nw, any, va, at_⟩ ⟨2, x⟩ = if any = true then (if at_ + f < nw then ⟨0, 0, 1⟩ else ⟨va, nw - at_, 0⟩) else ⟨0, 0, 3⟩ := by
    unfold agA
    rw [if_neg (show ¬ (2 : Int) = 1 by decide), if_pos rfl]
  replace A2 := Lib.hid A2
  have hv := h.alloc (.cells #[.int .i64 0, .int .i64 0, .int .i64 0] 31)
  have z : Box (w.alloc (.cells #[.int .i64 0, .int .i64 0, .int .i64 0] 31)) w.heap.size 31 [.int .i64 0, .int .i64 0, .int .i64 0] := Box.new w _ _
  have HB := Lib.hid ((Below.refl w.heap.size w).alloc (Nat.le_refl _) (.cells #[.int .i64 0, .int .i64 0, .int .i64 0] 31))
  have c0 := hv.cell 0 rfl
  have c1 := hv.cell 1 rfl
  have c2 := hv.cell 2 rfl
  have c3 := hv.cell 3 rfl
  have hl := hv.lt
  simp only at c0 c1 c2 c3
  clear h hM
  go_enter Try.func20, Try.ntmps20
  go_upto_region 1 with fail
  generalize w.alloc (.cells #[.int .i64 0, .int .i64 0, .int .i64 0] 31) = w1 at *
  have f0 := z.free 0
  have f1 := z.free 1
  have f2 := z.free 2
  have k0 := z.cell 0 rfl
  have k1 := z.cell 1 rfl
  have k2 := z.cell 2 rfl
  have hz := z.lt
  have END : ∀ (W : World), (∃ q, W = w1.drewN q) → ∀ er v od : Int, Hid (Box (((W.setCell ⟨w.heap.size, 0, none⟩ (.int .i64 er)).setCell ⟨w.heap.size, 1, none⟩ (.int .i64 v)).setCell ⟨w.heap.size, 2, none⟩ (.int .i64 od)) w.heap.size 31 [.int .i64 er, .int .i64 v, .int .i64 od] ∧ Below w.heap.size w (((W.setCell ⟨w.heap.size, 0, none⟩ (.int .i64 er)).setCell ⟨w.heap.size, 1, none⟩ (.int .i64 v)).setCell ⟨w.heap.size, 2, none⟩ (.int .i64 od))) := by
    rintro W ⟨q, rfl⟩ er v od
    have zq : Box (w1.drewN q) w.heap.size 31 [.int .i64 0, .int .i64 0, .int .i64 0] := z
    exact ⟨((zq.set 0 (.int .i64 er)).set 1 (.int .i64 v)).set 2 (.int .i64 od), below_grown (HB.out.trans (below_draws ⟨q, rfl⟩ |>.mono (Nat.le_of_lt hz))) (grownBy_tri _ _ _ _ _ _ _ _) (Nat.le_refl _) (Nat.le_of_lt hz)⟩
  cases any with
  | false =>
    have E1 := Lib.hid (END w1 ⟨0, rfl⟩ 3 0 0)
    clear END HB
    go_wp2
    have r0 := E1.out.out.1.cell 0 rfl
    have r1 := E1.out.out.1.cell 1 rfl
    have r2 := E1.out.out.1.cell 2 rfl
    exact bodyPost_ret (v := agaV ⟨0, 0, 3⟩) (by simp [results, Try.results20, go_sem, r0, r1, r2]) rfl ⟨by rw [A2.out, if_neg (by decide)], E1.out.out.2⟩
  | true =>
    by_cases g : at_ + f < nw
    · have g' : f < nw - at_ := by omega
      have G := Lib.hid g
      clear g
      go_wp2
      go_quiet (fail)
      have E1 := Lib.hid (END _ ⟨nq, rfl⟩ 1 0 0)
      clear END HB
      go_wp2
      have r0 := E1.out.out.1.cell 0 rfl
      have r1 := E1.out.out.1.cell 1 rfl
      have r2 := E1.out.out.1.cell 2 rfl
      exact bodyPost_ret (v := agaV ⟨0, 0, 1⟩) (by simp [results, Try.results20, go_sem, r0, r1, r2]) rfl ⟨by rw [A2.out, if_pos trivial, if_pos G.out], E1.out.out.2⟩
    · have g' : nw - at_ ≤ f := by omega
      have G := Lib.hid g
      clear g
      go_wp2
      go_quiet (fail)
      have E1 := Lib.hid (END _ ⟨nq, rfl⟩ 0 va (nw - at_))
      clear END HB
      go_wp2
      have r0 := E1.out.out.1.cell 0 rfl
      have r1 := E1.out.out.1.cell 1 rfl
      have r2 := E1.out.out.1.cell 2 rfl
      exact bodyPost_ret (v := agaV ⟨va, nw - at_, 0⟩) (by simp [results, Try.results20, go_sem, r0, r1, r2]) rfl ⟨by rw [A2.out, if_pos trivial, if_neg (by have := G.out; omega)], E1.out.out.2⟩
def GivesAg (b : Nat) (f : Int) (s : AgS) (o : AgO) (w : World) (e : Ending) (w' : World) : Prop :=
  e = .returned (agaV (agA f s o)) ∧ Box w' b 45 (varC (agS s o)) ∧ Below b w w'
/-- The result stored whole. -/
theorem res_end {w W : World} {b r : Nat} {t tv : TypeId} {c : List Value} {u0 u1 u2 : Value} (z : Box W r t [u0, u1, u2]) (hv : Box W b tv c) (hbr : b < r) (hB : Below b w W) (er va od : Int) :
    Box (((W.setCell ⟨r, 0, none⟩ (.int .i64 er)).setCell ⟨r, 1, none⟩ (.int .i64 va)).setCell ⟨r, 2, none⟩ (.int .i64 od)) r t [.int .i64 er, .int .i64 va, .int .i64 od] ∧
      Box (((W.setCell ⟨r, 0, none⟩ (.int .i64 er)).setCell ⟨r, 1, none⟩ (.int .i64 va)).setCell ⟨r, 2, none⟩ (.int .i64 od)) b tv c ∧
      Below b w (((W.setCell ⟨r, 0, none⟩ (.int .i64 er)).setCell ⟨r, 1, none⟩ (.int .i64 va)).setCell ⟨r, 2, none⟩ (.int .i64 od)) := by
  have g := grownBy_tri W r 0 1 2 (.int .i64 er) (.int .i64 va) (.int .i64 od)
  exact ⟨((z.set 0 (.int .i64 er)).set 1 (.int .i64 va)).set 2 (.int .i64 od), hv.grown g (fun e => by injection e with e; omega), below_grown hB g (Nat.le_of_lt hbr) (by have := hv.lt; omega)⟩
set_option maxHeartbeats 1600000 in
theorem agePerform_any (b : Nat) (s : AgS) (o : AgO) (f : Int) (hs : AgOk s) (hf : 0 ≤ f) (w : World) (h : Box w b 45 (varC s)) :
    Calls Try.prog 17 #[.pointer (some ⟨b, 0, none⟩), agoV o, .int .i64 f] w (GivesAg b f s o w) := by
  obtain ⟨kd, x⟩ := o
  have hl := h.lt
  have hv := (h.alloc (.cells #[.int .i64 kd, .int .i64 x] 35)).alloc (.cells #[.int .i64 0, .int .i64 0, .int .i64 0] 31)
  have zo : Box ((w.alloc (.cells #[.int .i64 kd, .int .i64 x] 35)).alloc (.cells #[.int .i64 0, .int .i64 0, .int .i64 0] 31)) w.heap.size 35 [.int .i64 kd, .int .i64 x] := (Box.new w 35 [.int .i64 kd, .int .i64 x]).alloc (.cells #[.int .i64 0, .int .i64 0, .int .i64 0] 31)
  have zr : Box ((w.alloc (.cells #[.int .i64 kd, .int .i64 x] 35)).alloc (.cells #[.int .i64 0, .int .i64 0, .int .i64 0] 31)) (w.heap.size + 1) 31 [.int .i64 0, .int .i64 0, .int .i64 0] := by
    have := Box.new (w.alloc (.cells #[.int .i64 kd, .int .i64 x] 35)) 31 [.int .i64 0, .int .i64 0, .int .i64 0]
    simpa using this
  have HB := Lib.hid (((Below.refl b w).alloc (by omega) (.cells #[.int .i64 kd, .int .i64 x] 35)).alloc (by simp; omega) (.cells #[.int .i64 0, .int .i64 0, .int .i64 0] 31))
  clear h
  have hbr : b < w.heap.size + 1 := by omega
  by_cases k1 : kd = 1
  · subst k1
    have eA : Hid (agA f s ⟨1, x⟩ = ⟨0, 0, 0⟩ ∧ agS s ⟨1, x⟩ = ⟨s.nw, true, x, s.nw⟩) := ⟨by unfold agA; rw [if_pos rfl], by unfold agS; rw [if_pos rfl]⟩
    go_enter Try.func17, Try.ntmps17
    go_upto_region 1 with fail
    generalize (w.alloc (.cells #[.int .i64 1, .int .i64 x] 35)).alloc (.cells #[.int .i64 0, .int .i64 0, .int .i64 0] 31) = w2 at *
    have C := Lib.hid (ageTell_any b s x w2 hv)
    have o0 := zo.cell 0 rfl
    have o1 := zo.cell 1 rfl
    go_wp2_with fail
    refine C.out.mono ?_
    rintro e w3 ⟨rfl, hv3, hg3⟩
    have z3 := zr.grown hg3 (fun e => by injection e with e; omega)
    have hB3 := below_grown HB.out hg3 (Nat.le_refl _) (by have := hv.lt; omega)
    have f0 := z3.free 0
    have f1 := z3.free 1
    have f2 := z3.free 2
    have c0 := z3.cell 0 rfl
    have c1 := z3.cell 1 rfl
    have c2 := z3.cell 2 rfl
    have hz := z3.lt
    have E := Lib.hid (res_end z3 hv3 hbr hB3 0 0 0)
    clear C zo zr hv o0 o1 HB hv3 z3 hB3 hg3
    go_wp2
    have r0 := E.out.1.cell 0 rfl
    have r1 := E.out.1.cell 1 rfl
    have r2 := E.out.1.cell 2 rfl
    exact bodyPost_ret (v := agaV ⟨0, 0, 0⟩) (by simp [results, Try.results17, go_sem, r0, r1, r2]) rfl ⟨by rw [eA.out.1], by rw [eA.out.2]; exact E.out.2.1, E.out.2.2⟩
  by_cases k2 : kd = 2
  · subst k2
    have eS : Hid (agS s ⟨2, x⟩ = s) := by show _ = _; unfold agS; rw [if_neg (show ¬ (2 : Int) = 1 by decide), if_neg (fun q => absurd q.1 (show ¬ (2 : Int) = 3 by decide))]
    have eA : Hid (∃ a, agA f s ⟨2, x⟩ = a) := ⟨_, rfl⟩
    obtain ⟨⟨va, od, er⟩, eA⟩ := eA.out
    have EA := Lib.hid eA
    go_enter Try.func17, Try.ntmps17
    go_upto_region 1 with fail
    generalize (w.alloc (.cells #[.int .i64 2, .int .i64 x] 35)).alloc (.cells #[.int .i64 0, .int .i64 0, .int .i64 0] 31) = w2 at *
    have C := Lib.hid (ageRead_any b s f x hs hf w2 hv)
    rw [eA] at C
    have o0 := zo.cell 0 rfl
    have o1 := zo.cell 1 rfl
    clear eA
    go_wp2_with fail
    refine C.out.mono ?_
    rintro e w3 ⟨rfl, hb3⟩
    have z3 := zr.below hb3 zr.lt
    have hv3 := hv.below hb3 hv.lt
    have hB3 := HB.out.trans (hb3.mono (Nat.le_of_lt hv.lt))
    have f0 := z3.free 0
    have f1 := z3.free 1
    have f2 := z3.free 2
    have c0 := z3.cell 0 rfl
    have c1 := z3.cell 1 rfl
    have c2 := z3.cell 2 rfl
    have hz := z3.lt
    have E := Lib.hid (res_end z3 hv3 hbr hB3 er va od)
    clear C zo zr hv o0 o1 HB hv3 z3 hB3 hb3
    go_wp2
    have r0 := E.out.1.cell 0 rfl
    have r1 := E.out.1.cell 1 rfl
    have r2 := E.out.1.cell 2 rfl
    exact bodyPost_ret (v := agaV ⟨va, od, er⟩) (by simp [results, Try.results17, go_sem, r0, r1, r2]) rfl ⟨by rw [EA.out], by rw [eS.out]; exact E.out.2.1, E.out.2.2⟩
  by_cases k3 : kd = 3
  · subst k3
    have eA : Hid (agA f s ⟨3, x⟩ = ⟨0, 0, if 0 ≤ x ∧ x ≤ agMax then 0 else 2⟩) := by
      show _ = _
      unfold agA
      rw [if_neg (show ¬ (3 : Int) = 1 by decide), if_neg (show ¬ (3 : Int) = 2 by decide), if_pos rfl]
      split <;> rfl
    go_enter Try.func17, Try.ntmps17
    go_upto_region 1 with fail
    generalize (w.alloc (.cells #[.int .i64 3, .int .i64 x] 35)).alloc (.cells #[.int .i64 0, .int .i64 0, .int .i64 0] 31) = w2 at *
    have C := Lib.hid (ageTick_any b s x hs w2 hv)
    have o0 := zo.cell 0 rfl
    have o1 := zo.cell 1 rfl
    obtain ⟨er, her⟩ : ∃ er : Int, (if 0 ≤ x ∧ x ≤ agMax then 0 else 2) = er := ⟨_, rfl⟩
    rw [her] at C eA
    clear her
    go_wp2_with fail
    refine C.out.mono ?_
    rintro e w3 ⟨rfl, hv3, hg3⟩
    have z3 := zr.grown hg3 (fun e => by injection e with e; omega)
    have hB3 := below_grown HB.out hg3 (Nat.le_refl _) (by have := hv.lt; omega)
    have f0 := z3.free 0
    have f1 := z3.free 1
    have f2 := z3.free 2
    have c0 := z3.cell 0 rfl
    have c1 := z3.cell 1 rfl
    have c2 := z3.cell 2 rfl
    have hz := z3.lt
    have E := Lib.hid (res_end z3 hv3 hbr hB3 er 0 0)
    clear C zo zr hv o0 o1 HB hv3 z3 hB3 hg3
    go_wp2
    have r0 := E.out.1.cell 0 rfl
    have r1 := E.out.1.cell 1 rfl
    have r2 := E.out.1.cell 2 rfl
    exact bodyPost_ret (v := agaV ⟨0, 0, er⟩) (by simp [results, Try.results17, go_sem, r0, r1, r2]) rfl ⟨by rw [eA.out], E.out.2.1, E.out.2.2⟩
  have eA : Hid (agA f s ⟨kd, x⟩ = ⟨0, 0, 5⟩ ∧ agS s ⟨kd, x⟩ = s) := ⟨by unfold agA; rw [if_neg k1, if_neg k2, if_neg k3], by unfold agS; rw [if_neg k1, if_neg (fun q => k3 q.1)]⟩
  have e1 : (kd == 1) = false := by rw [beq_eq_false_iff_ne]; exact k1
  have e2 : (kd == 2) = false := by rw [beq_eq_false_iff_ne]; exact k2
  have e3 : (kd == 3) = false := by rw [beq_eq_false_iff_ne]; exact k3
  clear k1 k2 k3
  go_enter Try.func17, Try.ntmps17
  go_upto_region 1 with fail
  generalize (w.alloc (.cells #[.int .i64 kd, .int .i64 x] 35)).alloc (.cells #[.int .i64 0, .int .i64 0, .int .i64 0] 31) = w2 at *
  have o0 := zo.cell 0 rfl
  have f0 := zr.free 0
  have f1 := zr.free 1
  have f2 := zr.free 2
  have c0 := zr.cell 0 rfl
  have c1 := zr.cell 1 rfl
  have c2 := zr.cell 2 rfl
  have hz := zr.lt
  have E := Lib.hid (res_end zr hv hbr HB.out 5 0 0)
  clear zo zr hv HB
  go_wp2
  have r0 := E.out.1.cell 0 rfl
  have r1 := E.out.1.cell 1 rfl
  have r2 := E.out.1.cell 2 rfl
  exact bodyPost_ret (v := agaV ⟨0, 0, 5⟩) (by simp [results, Try.results17, go_sem, r0, r1, r2]) rfl ⟨by rw [eA.out.1], by rw [eA.out.2]; exact E.out.2.1, E.out.2.2⟩
set_option maxHeartbeats 800000 in
theorem Lasts_any (p l : Int) (w : World) : Calls Try.prog 10 #[.int .i64 p, .int .i64 l] w fun e w' => e = .returned (.tuple #[.int .i64 (lastsV p l), .int .i64 (lastsE p l)]) ∧ w' = w := by
  by_cases g : p < 1 ∨ 1048576 < p ∨ l < 0 ∨ 400 < l
  · rw [show lastsV p l = 0 from if_pos g, show lastsE p l = 2 from if_pos g]
    have hcs : p < 1 ∨ (1 ≤ p ∧ 1048576 < p) ∨ (1 ≤ p ∧ p ≤ 1048576 ∧ l < 0) ∨ (1 ≤ p ∧ p ≤ 1048576 ∧ 0 ≤ l ∧ 400 < l) := by omega
    clear g
    rcases hcs with q1 | ⟨q1, q2⟩ | ⟨q1, q2, q3⟩ | ⟨q1, q2, q3, q4⟩
    all_goals
      go_enter Try.func10, Try.ntmps10
      go_wp2
      go_ret2
      exact ⟨rfl, rfl⟩
  · rw [show lastsV p l = (l + 1) * p - 1 from if_neg g, show lastsE p l = 0 from if_neg g]
    have q1 : 1 ≤ p := by omega
    have q2 : p ≤ 1048576 := by omega
    have q3 : 0 ≤ l := by omega
    have q4 : l ≤ 400 := by omega
    clear g
    have b1 : 0 ≤ (l + 1) * p := Int.mul_nonneg (by omega) (by omega)
    have b2 : (l + 1) * p ≤ 401 * 1048576 := Int.mul_le_mul (by omega) q2 (by omega) (by omega)
    go_enter Try.func10, Try.ntmps10
    go_wp2
    go_ret2
    exact ⟨rfl, rfl⟩
end Go.Proofs.Ytdppfjiphfeapaa
