/-
  Contract of the reference's PStep: wrong states, wrong nodes, a node that is out, its own slot.
-/
import Derived.Test.YtnmoddknghcobaaMemberRef2
import Derived.Test.YtnmoddknghcobaaMemberWalks4
import Derived.Deep.CutBlock
import Derived.Deep.DeepCutAuto
namespace Go.Proofs.Ytnmoddknghcobaa
open Go.RowKit
set_option linter.unusedVariables false

set_option maxRecDepth 100000 in
set_option maxHeartbeats 1600000 in
theorem PStep_wrong (own : Int) (m : Mem) (h : Hrd) (h1 : m.vw < 65536) (h2 : h.hv < 65536) (w : World) (hw : rightB own m = false ∨ h.nd < 0 ∨ 15 < h.nd) :
    Calls Try.prog 11 #[.int .i64 own, memV m, hrdV h] w (GivesMem (stepHM own m h) (stepHE own m h) w) := by
  have CR := Lib.hid (fun (W : World) => PRight_any own m h1 W)
  obtain ⟨nd, cm, hv⟩ := h
  simp only at h2 hw
  unfold stepHM stepHE
  simp only
  cases hr : rightB own m with
  | false =>
    rw [hr] at CR
    rw [(step_form (right_false hr)).1, (step_form (right_false hr)).2]
    clear hr hw
    obtain ⟨vw, tk, ls, ou⟩ := m
    go_enter Try.func11, Try.ntmps11
    go_wp2_with fail
    refine (CR.out _).mono ?_
    rintro e w1 ⟨rfl, hb⟩
    obtain ⟨hc, hf⟩ := bcell hb
    have hB := below_new (below_new (below_new hb))
    clear CR
    go_wp2
    exact bodyPost_ret (v := .tuple #[memV zeroM, .int .i64 1]) (by simp [results, Try.results11, go_sem, hc, memV, zeroM]) rfl ⟨rfl, by repeat (first | (with_reducible exact Below.refl _ _) | (with_reducible assumption) | (with_reducible refine Below.setCell ?_ (by (try simp) <;> omega) _) | (with_reducible refine Below.alloc ?_ (by (try simp) <;> omega) _) | (with_reducible refine Below.drew ?_))⟩
  | true =>
    rw [hr] at CR
    have hV := right_true hr
    have hn : nd < 0 ∨ 15 < nd := by
      rcases hw with g | g
      · rw [hr] at g; cases g
      · exact g
    rw [(step_range hV hn).1, (step_range hV hn).2]
    clear hV hr hw
    obtain ⟨vw, tk, ls, ou⟩ := m
    have hn' : nd < 0 ∨ (0 ≤ nd ∧ 15 < nd) := by omega
    clear hn
    rcases hn' with g | ⟨g, g'⟩
    all_goals
      go_enter Try.func11, Try.ntmps11
      go_wp2_with fail
      refine (CR.out _).mono ?_
      rintro e w1 ⟨rfl, hb⟩
      obtain ⟨hc, hf⟩ := bcell hb
      have hB := below_new (below_new (below_new hb))
      clear CR
      go_wp2
      exact bodyPost_ret (v := .tuple #[memV zeroM, .int .i64 2]) (by simp [results, Try.results11, go_sem, hc, memV, zeroM]) rfl ⟨rfl, by repeat (first | (with_reducible exact Below.refl _ _) | (with_reducible assumption) | (with_reducible refine Below.setCell ?_ (by (try simp) <;> omega) _) | (with_reducible refine Below.alloc ?_ (by (try simp) <;> omega) _) | (with_reducible refine Below.drew ?_))⟩

/-- A step with no error. -/
theorem step_fine {o k : Nat} {m : Mem} {cm : Bool} {hv : Nat} (hr : rightB (o : Int) m = true) (hk : k < 16) (h : ¬ (400 < (stepG o m k cm hv).tk ∨ 400 < (stepG o m k cm hv).ls)) : stepHE (o : Int) m ⟨k, cm, hv⟩ = 0 ∧ stepHM (o : Int) m ⟨k, cm, hv⟩ = stepG o m k cm hv := by
  have := step_ok (own := (o : Int)) (m := m) (node := (k : Int)) (came := cm) (hv := hv) (right_true hr) (by omega)
  rw [Int.toNat_natCast, Int.toNat_natCast] at this
  exact this h
set_option maxRecDepth 100000 in
set_option maxHeartbeats 1600000 in
theorem PStep_out (o : Nat) (m : Mem) (k : Nat) (hk : k < 16) (cm : Bool) (hv : Nat) (h1 : m.vw < 65536) (h2 : hv < 65536) (hr : rightB (o : Int) m = true) (ho : m.ou = true) (w : World) :
    Calls Try.prog 11 #[.int .i64 (o : Int), memV m, hrdV ⟨k, cm, hv⟩] w (GivesMem (stepHM (o : Int) m ⟨k, cm, hv⟩) (stepHE (o : Int) m ⟨k, cm, hv⟩) w) := by
  have CR := Lib.hid (fun (W : World) => PRight_any (o : Int) m h1 W)
  rw [hr] at CR
  have hV := right_true hr
  have hg : stepG o m k cm hv = m := step_out ho
  have hs := step_fine (cm := cm) (hv := hv) hr hk (by rw [hg]; obtain ⟨_, _, _, g1, _, g2, _⟩ := hV; omega)
  rw [hs.1, hs.2, hg]
  obtain ⟨vw, tk, ls, ou⟩ := m
  simp only at ho
  subst ho
  have n1 : ¬ (k : Int) < 0 := by omega
  have n2 : ¬ 15 < (k : Int) := by omega
  clear hs hg hV hr
  go_enter Try.func11, Try.ntmps11
  go_wp2_with fail
  refine (CR.out _).mono ?_
  rintro e w1 ⟨rfl, hb⟩
  obtain ⟨hc, hf⟩ := bcell hb
  have hB := below_new (below_new (below_new hb))
  clear CR
  go_wp2
  exact bodyPost_ret (v := .tuple #[.agg #[.int .u16 (vw : Int), .int .i64 tk, .int .i64 ls, .bool true], .int .i64 0]) (by simp [results, Try.results11, go_sem, hc]) rfl ⟨rfl, by repeat (first | (with_reducible exact Below.refl _ _) | (with_reducible assumption) | (with_reducible refine Below.setCell ?_ (by (try simp) <;> omega) _) | (with_reducible refine Below.alloc ?_ (by (try simp) <;> omega) _) | (with_reducible refine Below.drew ?_))⟩
set_option maxRecDepth 100000 in
set_option maxHeartbeats 1600000 in
theorem PStep_own (o : Nat) (m : Mem) (cm : Bool) (hv : Nat) (h1 : m.vw < 65536) (h2 : hv < 65536) (hr : rightB (o : Int) m = true) (ho : m.ou = false) (w : World) :
    Calls Try.prog 11 #[.int .i64 (o : Int), memV m, hrdV ⟨o, cm, hv⟩] w (GivesMem (stepHM (o : Int) m ⟨o, cm, hv⟩) (stepHE (o : Int) m ⟨o, cm, hv⟩) w) := by
  have CR := Lib.hid (fun (W : World) => PRight_any (o : Int) m h1 W)
  rw [hr] at CR
  have hV := right_true hr
  have hk : o < 16 := by have := hV.2.1; omega
  have hg : stepG o m o cm hv = ownM o m := by rw [stepG_eq, if_neg (by simp [ho]), if_pos rfl]
  have hs := step_fine (cm := cm) (hv := hv) hr hk (by rw [hg]; unfold ownM; split <;> simp)
  rw [hs.1, hs.2, hg]
  have n1 : ¬ (o : Int) < 0 := by omega
  have n2 : ¬ 15 < (o : Int) := by omega
  have CF := Lib.hid (fun (W : World) (bT bM : Nat) (hT : W.cell? ⟨bT, 0, none⟩ = some fnHas) (hM : Box W bM 24 (memC m)) => PStepF2_any o hk false bT bM m h1 W hT hM)
  clear hs hg hV hr
  obtain ⟨vw, tk, ls, ou⟩ := m
  simp only at ho
  subst ho
  have x4 := ((Box.new w 24 (memC ⟨vw, tk, ls, false⟩)).alloc (.cells #[.int .i64 (o : Int), .bool cm, .int .u16 (hv : Int)] 26)).alloc (.cells #[.int .u16 0, .int .i64 0, .int .i64 0, .bool false] 24)
  by_cases hlt : tk < ls
  · rw [show ownM o ⟨vw, tk, ls, false⟩ = ⟨putB vw o false, 0, 0, true⟩ from if_pos hlt]
    generalize putB vw o false = v1 at *
    go_enter Try.func11, Try.ntmps11
    go_wp2_with fail
    refine (CR.out _).mono ?_
    rintro e w1 ⟨rfl, hb⟩
    obtain ⟨hc, hf⟩ := bcell hb
    have hB := below_new (below_new (below_new hb))
    have hz : w.heap.size + 1 + 1 < w1.heap.size := by have := hb.size; simp at this; omega
    have hz1 : w.heap.size + 1 < w1.heap.size := by omega
    have hz0 : w.heap.size < w1.heap.size := by omega
    have y4 := (x4.below hb x4.lt).alloc (.cells #[fnHas] 49)
    have y6 := (Box.below (Box.new ((w.alloc (.cells #[.int .u16 (vw : Int), .int .i64 tk, .int .i64 ls, .bool false] 24)).alloc (.cells #[.int .i64 (o : Int), .bool cm, .int .u16 (hv : Int)] 26)) 24 [.int .u16 0, .int .i64 0, .int .i64 0, .bool false]) hb (by simp)).alloc (.cells #[fnHas] 49)
    have CF' := Lib.hid (CF.out _ _ _ ((Box.new w1 49 [fnHas]).cell 0 rfl) y4)
    have Y6 := Lib.hid y6
    simp only [World.size_alloc] at Y6
    have hlw4 := y4.lt
    clear CR CF x4 y4 y6
    go_wp2_with fail
    refine (Calls.mono CF'.out ?_)
    rintro e w2 ⟨rfl, z4, hg⟩
    have z6 := Y6.out.grown hg (by simp; omega)
    clear hc hf CF' Y6
    have c0 := z4.cell 0 rfl
    have c1 := z4.cell 1 rfl
    have c2 := z4.cell 2 rfl
    have c3 := z4.cell 3 rfl
    have f0 := z4.free 0
    have f1 := z4.free 1
    have f2 := z4.free 2
    have f3 := z4.free 3
    have hl4 := z4.lt
    have q0 := z6.cell 0 rfl
    have q1 := z6.cell 1 rfl
    have q2 := z6.cell 2 rfl
    have q3 := z6.cell 3 rfl
    have r0 := z6.free 0
    have r1 := z6.free 1
    have r2 := z6.free 2
    have r3 := z6.free 3
    have hl6 := z6.lt
    have hB2 : Below w.heap.size w w2 := below_grown (hB.alloc hB.size _) hg (Nat.le_refl _) (by simp; omega)
    clear z4 z6 hg hB
    go_wp2
    exact bodyPost_ret (v := .tuple #[.agg #[.int .u16 (v1 : Int), .int .i64 0, .int .i64 0, .bool true], .int .i64 0]) (by simp [results, Try.results11, go_sem, q0, q1, q2, q3]) rfl ⟨rfl, by repeat (first | (with_reducible exact Below.refl _ _) | (with_reducible assumption) | (with_reducible refine Below.setCell ?_ (by (try simp) <;> omega) _) | (with_reducible refine Below.alloc ?_ (by (try simp) <;> omega) _) | (with_reducible refine Below.drew ?_))⟩
  · rw [show ownM o ⟨vw, tk, ls, false⟩ = ⟨vw, 0, 0, false⟩ from if_neg hlt]
    go_enter Try.func11, Try.ntmps11
    go_wp2_with fail
    refine (CR.out _).mono ?_
    rintro e w1 ⟨rfl, hb⟩
    obtain ⟨hc, hf⟩ := bcell hb
    have hB := below_new (below_new (below_new hb))
    have hz : w.heap.size + 1 + 1 < w1.heap.size := by have := hb.size; simp at this; omega
    have hz1 : w.heap.size + 1 < w1.heap.size := by omega
    have hz0 : w.heap.size < w1.heap.size := by omega
    have z4 := (x4.below hb x4.lt).alloc (.cells #[fnHas] 49)
    have z6 := (Box.below (Box.new ((w.alloc (.cells #[.int .u16 (vw : Int), .int .i64 tk, .int .i64 ls, .bool false] 24)).alloc (.cells #[.int .i64 (o : Int), .bool cm, .int .u16 (hv : Int)] 26)) 24 [.int .u16 0, .int .i64 0, .int .i64 0, .bool false]) hb (by simp)).alloc (.cells #[fnHas] 49)
    simp only [World.size_alloc] at z6
    have z5 := (Box.below ((Box.new (w.alloc (.cells #[.int .u16 (vw : Int), .int .i64 tk, .int .i64 ls, .bool false] 24)) 26 [.int .i64 (o : Int), .bool cm, .int .u16 (hv : Int)]).alloc (.cells #[.int .u16 0, .int .i64 0, .int .i64 0, .bool false] 24)) hb (by simp)).alloc (.cells #[fnHas] 49)
    simp only [World.size_alloc] at z5
    clear CR CF x4
    have hB2 := hB.alloc hB.size (.cells #[fnHas] 49)
    have c0 := z4.cell 0 rfl
    have c1 := z4.cell 1 rfl
    have c2 := z4.cell 2 rfl
    have c3 := z4.cell 3 rfl
    have f0 := z4.free 0
    have f1 := z4.free 1
    have f2 := z4.free 2
    have f3 := z4.free 3
    have hl4 := z4.lt
    have q0 := z6.cell 0 rfl
    have q1 := z6.cell 1 rfl
    have q2 := z6.cell 2 rfl
    have q3 := z6.cell 3 rfl
    have r0 := z6.free 0
    have r1 := z6.free 1
    have r2 := z6.free 2
    have r3 := z6.free 3
    have hl6 := z6.lt
    have d0 := z5.cell 0 rfl
    clear z4 z6 hB
    go_upto_region 9 with fail
    clear hc hf hb hz hz0 hz1
    generalize w1.alloc (.cells #[fnHas] 49) = w2 at *
    go_wp2
    exact bodyPost_ret (v := .tuple #[.agg #[.int .u16 (vw : Int), .int .i64 0, .int .i64 0, .bool false], .int .i64 0]) (by simp [results, Try.results11, go_sem, q0, q1, q2, q3]) rfl ⟨rfl, by repeat (first | (with_reducible exact Below.refl _ _) | (with_reducible assumption) | (with_reducible refine Below.setCell ?_ (by (try simp) <;> omega) _) | (with_reducible refine Below.alloc ?_ (by (try simp) <;> omega) _) | (with_reducible refine Below.drew ?_))⟩
end Go.Proofs.Ytnmoddknghcobaa
