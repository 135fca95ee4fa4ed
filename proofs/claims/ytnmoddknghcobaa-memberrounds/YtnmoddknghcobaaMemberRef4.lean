/-
  Contract of the reference's PStep: another's slot; all.
-/
import Derived.Test.YtnmoddknghcobaaMemberRef3
namespace Go.Proofs.Ytnmoddknghcobaa
open Go.RowKit
set_option linter.unusedVariables false

/-- Like in all bits below j but k. -/
def sameTo (v u k : Nat) : Nat → Bool
  | 0 => true
  | j + 1 => sameTo v u k j && (j == k || hasB v j == hasB u j)
theorem sameTo_iff (v u k : Nat) : ∀ j, sameTo v u k j = true ↔ ∀ i, i < j → i ≠ k → v.testBit i = u.testBit i
  | 0 => ⟨fun _ i hi => absurd hi (by omega), fun _ => rfl⟩
  | j + 1 => by
    rw [sameTo, Bool.and_eq_true, sameTo_iff v u k j]
    constructor
    · rintro ⟨h1, h2⟩ i hi hk
      by_cases e : i = j
      · subst e
        have : (hasB v i == hasB u i) = true := by simpa [hk] using h2
        exact beq_iff_eq.1 this
      · exact h1 i (by omega) hk
    · intro h
      refine ⟨fun i hi => h i (by omega), ?_⟩
      by_cases e : j = k
      · simp [e]
      · have : (hasB v j == hasB u j) = true := beq_iff_eq.2 (h j (by omega) e)
        simp [this]
theorem sameTo_all {v u k : Nat} (hv : v < 65536) (hu : u < 65536) : sameTo v u k 16 = likeB v u k := by
  rw [Bool.eq_iff_iff, sameTo_iff, like_iff]
  constructor
  · intro h i hi
    by_cases h16 : i < 16
    · exact h i h16 hi
    · rw [bit_high hv (by omega), bit_high hu (by omega)]
  · intro h i _ hk
    exact h i hk
theorem other_res {o k : Nat} {m : Mem} {cm : Bool} {hv : Nat} (hr : rightB (o : Int) m = true) (ho : m.ou = false) (hk : k < 16) (hne : ¬ k = o) :
    ((400 < (otherM k m cm hv).tk ∨ 400 < (otherM k m cm hv).ls) → stepHE (o : Int) m ⟨k, cm, hv⟩ = 4 ∧ stepHM (o : Int) m ⟨k, cm, hv⟩ = zeroM) ∧ (¬ (400 < (otherM k m cm hv).tk ∨ 400 < (otherM k m cm hv).ls) → stepHE (o : Int) m ⟨k, cm, hv⟩ = 0 ∧ stepHM (o : Int) m ⟨k, cm, hv⟩ = otherM k m cm hv) := by
  have hg : stepG o m k cm hv = otherM k m cm hv := by rw [stepG_eq, if_neg (by simp [ho]), if_neg hne]
  have hV := right_true hr
  refine ⟨fun h => ?_, fun h => ?_⟩
  · have := step_full (own := (o : Int)) (m := m) (node := (k : Int)) (came := cm) (hv := hv) hV (by omega)
    rw [Int.toNat_natCast, Int.toNat_natCast, hg] at this
    exact this h
  · have := step_fine (cm := cm) (hv := hv) hr hk (by rw [hg]; exact h)
    rw [hg] at this
    exact this

set_option maxRecDepth 100000 in
set_option maxHeartbeats 3200000 in
theorem PStep_other (o : Nat) (m : Mem) (k : Nat) (hk : k < 16) (hko : ¬ k = o) (cm : Bool) (hv : Nat) (h1 : m.vw < 65536) (h2 : hv < 65536) (hr : rightB (o : Int) m = true) (ho : m.ou = false) (w : World) :
    Calls Try.prog 11 #[.int .i64 (o : Int), memV m, hrdV ⟨k, cm, hv⟩] w (GivesMem (stepHM (o : Int) m ⟨k, cm, hv⟩) (stepHE (o : Int) m ⟨k, cm, hv⟩) w) := by
  have CR := Lib.hid (fun (W : World) => PRight_any (o : Int) m h1 W)
  rw [hr] at CR
  have hV := right_true hr
  have hres := Lib.hid (other_res (cm := cm) (hv := hv) hr ho hk hko)
  generalize stepHE (o : Int) m ⟨k, cm, hv⟩ = E at *
  generalize stepHM (o : Int) m ⟨k, cm, hv⟩ = M at *
  obtain ⟨vw, tk, ls, ou⟩ := m
  simp only at ho h1
  subst ho
  obtain ⟨_, _, b1, b2, b3, b4, _⟩ := hV
  simp only at b1 b2 b3 b4
  have n1 : ¬ (k : Int) < 0 := by omega
  have n2 : ¬ 15 < (k : Int) := by omega
  have hne : ((k : Int) == (o : Int)) = false := by simp; omega
  have CF := Lib.hid (fun (is : Bool) (W : World) (bT bM : Nat) (hT : W.cell? ⟨bT, 0, none⟩ = some fnHas) (hM : Box W bM 24 (memC ⟨vw, tk, ls, false⟩)) => PStepF2_any k hk is bT bM ⟨vw, tk, ls, false⟩ h1 W hT hM)
  have CH := Lib.hid (fun (v j : Nat) (hv : v < 65536) (hj : j < 16) (W : World) => PStepF1_any v j hv hj W)
  have Hall := Lib.hid (sameTo_all (k := k) h1 h2)
  have x4 := ((Box.new w 24 (memC ⟨vw, tk, ls, false⟩)).alloc (.cells #[.int .i64 (k : Int), .bool cm, .int .u16 (hv : Int)] 26)).alloc (.cells #[.int .u16 0, .int .i64 0, .int .i64 0, .bool false] 24)
  clear hr hko
  go_enter Try.func11, Try.ntmps11
  go_wp2_with fail
  refine (CR.out _).mono ?_
  rintro e w1 ⟨rfl, hb⟩
  obtain ⟨hc, hf⟩ := bcell hb
  have hB := below_new (below_new (below_new hb))
  have hz : w.heap.size + 1 + 1 < w1.heap.size := by have := hb.size; simp at this; omega
  have hz1 : w.heap.size + 1 < w1.heap.size := by omega
  have hz0 : w.heap.size < w1.heap.size := by omega
  have z4 := (x4.below hb x4.lt).alloc (.cells #[fnHas] 49)
  have z6 := (Box.below (Box.new ((w.alloc (.cells #[.int .u16 (vw : Int), .int .i64 tk, .int .i64 ls, .bool false] 24)).alloc (.cells #[.int .i64 (k : Int), .bool cm, .int .u16 (hv : Int)] 26)) 24 (memC zeroM)) hb (by simp)).alloc (.cells #[fnHas] 49)
  simp only [World.size_alloc] at z6
  have z5 := (Box.below ((Box.new (w.alloc (.cells #[.int .u16 (vw : Int), .int .i64 tk, .int .i64 ls, .bool false] 24)) 26 [.int .i64 (k : Int), .bool cm, .int .u16 (hv : Int)]).alloc (.cells #[.int .u16 0, .int .i64 0, .int .i64 0, .bool false] 24)) hb (by simp)).alloc (.cells #[fnHas] 49)
  simp only [World.size_alloc] at z5
  have zT := Box.new w1 49 [fnHas]
  clear CR x4
  have hB2 := hB.alloc hB.size (.cells #[fnHas] 49)
  have Z4 := Lib.hid z4
  have Z5 := Lib.hid z5
  have Z6 := Lib.hid z6
  have ZT := Lib.hid zT
  clear z4 z5 z6 zT hB
  go_upto_region 9 with fail
  clear hc hf hb
  have Z4' : Hid (Box (w1.alloc (.cells #[fnHas] 49)) w.heap.size 24 (memC ⟨vw, tk, ls, false⟩)) := Z4.out
  generalize w1.alloc (.cells #[fnHas] 49) = w2 at *
  have d0 := Z5.out.cell 0 rfl
  go_wp2
  go_loopw [10, 47] (fun s i wr => ∃ j : Nat, j ≤ 16 ∧ i = .int .i64 j ∧ s = .bool (sameTo vw hv k j) ∧ ∃ q, wr = w2.drewN q) (fun _ i _ => 16 - (intOf i).toNat)
  case atStart => exact ⟨0, by omega, rfl, rfl, 0, rfl⟩
  case round =>
    obtain ⟨j, hj, rfl, rfl, q, hwr⟩ := hrel
    have Hst : Hid (sameTo vw hv k (j + 1) = (sameTo vw hv k j && (j == k || hasB vw j == hasB hv j))) := rfl
    have Z4w : Hid (Box wr w.heap.size 24 (memC ⟨vw, tk, ls, false⟩)) := by show Box _ _ _ _; rw [hwr]; exact Z4.out
    have Z5w : Hid (Box wr (w.heap.size + 1) 26 [.int .i64 (k : Int), .bool cm, .int .u16 (hv : Int)]) := by show Box _ _ _ _; rw [hwr]; exact Z5.out
    have Z6w : Hid (Box wr (w.heap.size + 1 + 1) 24 (memC zeroM)) := by show Box _ _ _ _; rw [hwr]; exact Z6.out
    have ZTw : Hid (Box wr w1.heap.size 49 [fnHas]) := by show Box _ _ _ _; rw [hwr]; exact ZT.out
    have hBw : Below w.heap.size w wr := by rw [hwr]; exact bthen hB2 (below_draws ⟨_, rfl⟩)
    have Hwr := Lib.hid hwr
    clear hwr d0
    have c0 := Z4w.out.cell 0 rfl
    have d0 := Z5w.out.cell 0 rfl
    have d1 := Z5w.out.cell 1 rfl
    have d2 := Z5w.out.cell 2 rfl
    have t0 := ZTw.out.cell 0 rfl
    by_cases hlt : j < 16
    · have hlt' : (j : Int) < 16 := by omega
      cases hs : sameTo vw hv k j with
      | false =>
        rw [hs] at Hst
        clear hs
        go_wp2
        go_quiet (fail)
        go_wp2
        go_roundw
        case rel => exact ⟨j + 1, by omega, by go_num, by rw [Hst.out]; rfl, _, by rw [Hwr.out]; exact World.drewN_drewN _ _ _⟩
        case measure => simp [intOf] <;> omega
      | true =>
        rw [hs] at Hst
        clear hs
        by_cases hjk : j = k
        · subst hjk
          go_wp2
          go_quiet (fail)
          go_wp2
          go_roundw
          case rel => exact ⟨j + 1, by omega, by go_num, by rw [Hst.out]; simp, _, by rw [Hwr.out]; exact World.drewN_drewN _ _ _⟩
          case measure => simp [intOf] <;> omega
        · have hjk' : ((j : Int) == (k : Int)) = false := by simp; omega
          have hjk2 : (j == k) = false := by simp; omega
          rw [hjk2] at Hst
          have Ca := Lib.hid (fun (W : World) => CH.out vw j h1 hlt W)
          have Cb := Lib.hid (fun (W : World) => CH.out hv j h2 hlt W)
          generalize hasB vw j = ya at *
          generalize hasB hv j = yb at *
          clear hjk hjk2
          go_wp2
          go_quiet (first | (with_reducible refine Calls.quiet_of_same (Ca.out _)) | (with_reducible refine Calls.quiet_of_same (Cb.out _)))
          go_wp2
          go_roundw
          case rel => exact ⟨j + 1, by omega, by go_num, by rw [Hst.out]; rfl, _, by rw [Hwr.out]; exact World.drewN_drewN _ _ _⟩
          case measure => simp [intOf] <;> omega
    · obtain rfl : j = 16 := by omega
      rw [Hall.out]
      clear Hst Hwr Z4 Z5 Z6 ZT hB2 Z4' hj
      have c1 := Z4w.out.cell 1 rfl
      have c2 := Z4w.out.cell 2 rfl
      have c3 := Z4w.out.cell 3 rfl
      have hl4 := Z4w.out.lt
      cases cm with
      | true =>
        cases hl : likeB vw hv k with
        | true =>
          have ho : otherM k ⟨vw, tk, ls, false⟩ true hv = ⟨putB vw k true, tk + 1, ls, false⟩ := by exact if_pos ⟨rfl, hl⟩
          rw [ho] at hres
          simp only at hres
          by_cases hx : tk = 400
          · obtain ⟨rfl, rfl⟩ := hres.out.1 (by omega)
            subst hx
            clear hres ho
            go_wp2_with fail
            refine (Calls.mono (CF.out true _ _ _ t0 Z4w.out) ?_)
            rintro e w4 ⟨rfl, z4, hg⟩
            have z6 := Z6w.out.grown hg (by simp; omega)
            have hB4 : Below w.heap.size w w4 := below_grown hBw hg (Nat.le_refl _) hBw.size
            have c0 := z4.cell 0 rfl
            have c1 := z4.cell 1 rfl
            have c2 := z4.cell 2 rfl
            have c3 := z4.cell 3 rfl
            have f0 := z4.free 0
            have f1 := z4.free 1
            have f2 := z4.free 2
            have f3 := z4.free 3
            have hl4 := z4.lt
            have q0 := z6.cell 0 rfl
            have q1 := z6.cell 1 rfl
            have q2 := z6.cell 2 rfl
            have q3 := z6.cell 3 rfl
            have r0 := z6.free 0
            have r1 := z6.free 1
            have r2 := z6.free 2
            have r3 := z6.free 3
            have hl6 := z6.lt
            generalize putB vw k true = v1 at *
            clear z4 z6 hg CF CH Z4w Z5w Z6w ZTw hBw
            go_wp2
            exact bodyPost_ret (v := .tuple #[memV zeroM, .int .i64 4]) (by simp [results, Try.results11, go_sem, q0, q1, q2, q3, memV, zeroM]) rfl ⟨rfl, by repeat (first | (with_reducible exact Below.refl _ _) | (with_reducible assumption) | (with_reducible refine Below.setCell ?_ (by (try simp) <;> omega) _) | (with_reducible refine Below.alloc ?_ (by (try simp) <;> omega) _) | (with_reducible refine Below.drew ?_))⟩
          · obtain ⟨rfl, rfl⟩ := hres.out.2 (by omega)
            have hx' : tk < 400 := by omega
            clear hres ho hx
            go_wp2_with fail
            refine (Calls.mono (CF.out true _ _ _ t0 Z4w.out) ?_)
            rintro e w4 ⟨rfl, z4, hg⟩
            have z6 := Z6w.out.grown hg (by simp; omega)
            have hB4 : Below w.heap.size w w4 := below_grown hBw hg (Nat.le_refl _) hBw.size
            have c0 := z4.cell 0 rfl
            have c1 := z4.cell 1 rfl
            have c2 := z4.cell 2 rfl
            have c3 := z4.cell 3 rfl
            have f0 := z4.free 0
            have f1 := z4.free 1
            have f2 := z4.free 2
            have f3 := z4.free 3
            have hl4 := z4.lt
            have q0 := z6.cell 0 rfl
            have q1 := z6.cell 1 rfl
            have q2 := z6.cell 2 rfl
            have q3 := z6.cell 3 rfl
            have r0 := z6.free 0
            have r1 := z6.free 1
            have r2 := z6.free 2
            have r3 := z6.free 3
            have hl6 := z6.lt
            generalize putB vw k true = v1 at *
            clear z4 z6 hg CF CH Z4w Z5w Z6w ZTw hBw
            go_wp2
            exact bodyPost_ret (v := .tuple #[.agg #[.int .u16 (v1 : Int), .int .i64 (tk + 1), .int .i64 ls, .bool false], .int .i64 0]) (by simp [results, Try.results11, go_sem, q0, q1, q2, q3]) rfl ⟨rfl, by repeat (first | (with_reducible exact Below.refl _ _) | (with_reducible assumption) | (with_reducible refine Below.setCell ?_ (by (try simp) <;> omega) _) | (with_reducible refine Below.alloc ?_ (by (try simp) <;> omega) _) | (with_reducible refine Below.drew ?_))⟩
        | false =>
          have ho : otherM k ⟨vw, tk, ls, false⟩ true hv = ⟨putB vw k false, tk, ls + 1, false⟩ := by unfold otherM; rw [if_neg (fun g => by have := g.2; simp only at this; rw [hl] at this; cases this), if_neg (fun g => by cases g.1)]
          rw [ho] at hres
          simp only at hres
          by_cases hx : ls = 400
          · obtain ⟨rfl, rfl⟩ := hres.out.1 (by omega)
            subst hx
            clear hres ho
            go_wp2_with fail
            refine (Calls.mono (CF.out false _ _ _ t0 Z4w.out) ?_)
            rintro e w4 ⟨rfl, z4, hg⟩
            have z6 := Z6w.out.grown hg (by simp; omega)
            have hB4 : Below w.heap.size w w4 := below_grown hBw hg (Nat.le_refl _) hBw.size
            have c0 := z4.cell 0 rfl
            have c1 := z4.cell 1 rfl
            have c2 := z4.cell 2 rfl
            have c3 := z4.cell 3 rfl
            have f0 := z4.free 0
            have f1 := z4.free 1
            have f2 := z4.free 2
            have f3 := z4.free 3
            have hl4 := z4.lt
            have q0 := z6.cell 0 rfl
            have q1 := z6.cell 1 rfl
            have q2 := z6.cell 2 rfl
            have q3 := z6.cell 3 rfl
            have r0 := z6.free 0
            have r1 := z6.free 1
            have r2 := z6.free 2
            have r3 := z6.free 3
            have hl6 := z6.lt
            generalize putB vw k false = v1 at *
            clear z4 z6 hg CF CH Z4w Z5w Z6w ZTw hBw
            go_wp2
            exact bodyPost_ret (v := .tuple #[memV zeroM, .int .i64 4]) (by simp [results, Try.results11, go_sem, q0, q1, q2, q3, memV, zeroM]) rfl ⟨rfl, by repeat (first | (with_reducible exact Below.refl _ _) | (with_reducible assumption) | (with_reducible refine Below.setCell ?_ (by (try simp) <;> omega) _) | (with_reducible refine Below.alloc ?_ (by (try simp) <;> omega) _) | (with_reducible refine Below.drew ?_))⟩
          · obtain ⟨rfl, rfl⟩ := hres.out.2 (by omega)
            have hx' : ls < 400 := by omega
            clear hres ho hx
            go_wp2_with fail
            refine (Calls.mono (CF.out false _ _ _ t0 Z4w.out) ?_)
            rintro e w4 ⟨rfl, z4, hg⟩
            have z6 := Z6w.out.grown hg (by simp; omega)
            have hB4 : Below w.heap.size w w4 := below_grown hBw hg (Nat.le_refl _) hBw.size
            have c0 := z4.cell 0 rfl
            have c1 := z4.cell 1 rfl
            have c2 := z4.cell 2 rfl
            have c3 := z4.cell 3 rfl
            have f0 := z4.free 0
            have f1 := z4.free 1
            have f2 := z4.free 2
            have f3 := z4.free 3
            have hl4 := z4.lt
            have q0 := z6.cell 0 rfl
            have q1 := z6.cell 1 rfl
            have q2 := z6.cell 2 rfl
            have q3 := z6.cell 3 rfl
            have r0 := z6.free 0
            have r1 := z6.free 1
            have r2 := z6.free 2
            have r3 := z6.free 3
            have hl6 := z6.lt
            generalize putB vw k false = v1 at *
            clear z4 z6 hg CF CH Z4w Z5w Z6w ZTw hBw
            go_wp2
            exact bodyPost_ret (v := .tuple #[.agg #[.int .u16 (v1 : Int), .int .i64 tk, .int .i64 (ls + 1), .bool false], .int .i64 0]) (by simp [results, Try.results11, go_sem, q0, q1, q2, q3]) rfl ⟨rfl, by repeat (first | (with_reducible exact Below.refl _ _) | (with_reducible assumption) | (with_reducible refine Below.setCell ?_ (by (try simp) <;> omega) _) | (with_reducible refine Below.alloc ?_ (by (try simp) <;> omega) _) | (with_reducible refine Below.drew ?_))⟩
      | false =>
        have Ca := Lib.hid (fun (W : World) => CH.out vw k h1 hk W)
        cases hl : hasB vw k with
        | true =>
          rw [hl] at Ca
          generalize likeB vw hv k = sm at *
          have ho : otherM k ⟨vw, tk, ls, false⟩ false hv = ⟨putB vw k false, tk, ls + 1, false⟩ := by unfold otherM; rw [if_neg (fun g => by cases g.1), if_neg (fun g => by have := g.2; simp only at this; rw [hl] at this; cases this)]
          rw [ho] at hres
          simp only at hres
          by_cases hx : ls = 400
          · obtain ⟨rfl, rfl⟩ := hres.out.1 (by omega)
            subst hx
            clear hres ho
            go_wp2_with fail
            refine (Ca.out _).mono ?_
            rintro e w7 ⟨rfl, hw7⟩
            obtain rfl := hw7.symm
            go_wp2_with fail
            refine (Calls.mono (CF.out false _ _ _ t0 Z4w.out) ?_)
            rintro e w4 ⟨rfl, z4, hg⟩
            have z6 := Z6w.out.grown hg (by simp; omega)
            have hB4 : Below w.heap.size w w4 := below_grown hBw hg (Nat.le_refl _) hBw.size
            have c0 := z4.cell 0 rfl
            have c1 := z4.cell 1 rfl
            have c2 := z4.cell 2 rfl
            have c3 := z4.cell 3 rfl
            have f0 := z4.free 0
            have f1 := z4.free 1
            have f2 := z4.free 2
            have f3 := z4.free 3
            have hl4 := z4.lt
            have q0 := z6.cell 0 rfl
            have q1 := z6.cell 1 rfl
            have q2 := z6.cell 2 rfl
            have q3 := z6.cell 3 rfl
            have r0 := z6.free 0
            have r1 := z6.free 1
            have r2 := z6.free 2
            have r3 := z6.free 3
            have hl6 := z6.lt
            generalize putB vw k false = v1 at *
            clear z4 z6 hg CF CH Z4w Z5w Z6w ZTw hBw
            go_wp2
            exact bodyPost_ret (v := .tuple #[memV zeroM, .int .i64 4]) (by simp [results, Try.results11, go_sem, q0, q1, q2, q3, memV, zeroM]) rfl ⟨rfl, by repeat (first | (with_reducible exact Below.refl _ _) | (with_reducible assumption) | (with_reducible refine Below.setCell ?_ (by (try simp) <;> omega) _) | (with_reducible refine Below.alloc ?_ (by (try simp) <;> omega) _) | (with_reducible refine Below.drew ?_))⟩
          · obtain ⟨rfl, rfl⟩ := hres.out.2 (by omega)
            have hx' : ls < 400 := by omega
            clear hres ho hx
            go_wp2_with fail
            refine (Ca.out _).mono ?_
            rintro e w7 ⟨rfl, hw7⟩
            obtain rfl := hw7.symm
            go_wp2_with fail
            refine (Calls.mono (CF.out false _ _ _ t0 Z4w.out) ?_)
            rintro e w4 ⟨rfl, z4, hg⟩
            have z6 := Z6w.out.grown hg (by simp; omega)
            have hB4 : Below w.heap.size w w4 := below_grown hBw hg (Nat.le_refl _) hBw.size
            have c0 := z4.cell 0 rfl
            have c1 := z4.cell 1 rfl
            have c2 := z4.cell 2 rfl
            have c3 := z4.cell 3 rfl
            have f0 := z4.free 0
            have f1 := z4.free 1
            have f2 := z4.free 2
            have f3 := z4.free 3
            have hl4 := z4.lt
            have q0 := z6.cell 0 rfl
            have q1 := z6.cell 1 rfl
            have q2 := z6.cell 2 rfl
            have q3 := z6.cell 3 rfl
            have r0 := z6.free 0
            have r1 := z6.free 1
            have r2 := z6.free 2
            have r3 := z6.free 3
            have hl6 := z6.lt
            generalize putB vw k false = v1 at *
            clear z4 z6 hg CF CH Z4w Z5w Z6w ZTw hBw
            go_wp2
            exact bodyPost_ret (v := .tuple #[.agg #[.int .u16 (v1 : Int), .int .i64 tk, .int .i64 (ls + 1), .bool false], .int .i64 0]) (by simp [results, Try.results11, go_sem, q0, q1, q2, q3]) rfl ⟨rfl, by repeat (first | (with_reducible exact Below.refl _ _) | (with_reducible assumption) | (with_reducible refine Below.setCell ?_ (by (try simp) <;> omega) _) | (with_reducible refine Below.alloc ?_ (by (try simp) <;> omega) _) | (with_reducible refine Below.drew ?_))⟩
        | false =>
          rw [hl] at Ca
          have ho : otherM k ⟨vw, tk, ls, false⟩ false hv = ⟨vw, tk, ls, false⟩ := by unfold otherM; rw [if_neg (fun g => by cases g.1), if_pos ⟨rfl, hl⟩]
          rw [ho] at hres
          simp only at hres
          obtain ⟨rfl, rfl⟩ := hres.out.2 (by omega)
          generalize likeB vw hv k = sm at *
          have q0 := Z6w.out.cell 0 rfl
          have q1 := Z6w.out.cell 1 rfl
          have q2 := Z6w.out.cell 2 rfl
          have q3 := Z6w.out.cell 3 rfl
          have r0 := Z6w.out.free 0
          have r1 := Z6w.out.free 1
          have r2 := Z6w.out.free 2
          have r3 := Z6w.out.free 3
          have hl6 := Z6w.out.lt
          clear hres ho hl CF CH
          go_wp2_with fail
          refine (Ca.out _).mono ?_
          rintro e w7 ⟨rfl, hw7⟩
          obtain rfl := hw7.symm
          go_wp2
          exact bodyPost_ret (v := .tuple #[.agg #[.int .u16 (vw : Int), .int .i64 tk, .int .i64 ls, .bool false], .int .i64 0]) (by simp [results, Try.results11, go_sem, q0, q1, q2, q3]) rfl ⟨rfl, by repeat (first | (with_reducible exact Below.refl _ _) | (with_reducible assumption) | (with_reducible refine Below.setCell ?_ (by (try simp) <;> omega) _) | (with_reducible refine Below.alloc ?_ (by (try simp) <;> omega) _) | (with_reducible refine Below.drew ?_))⟩
end Go.Proofs.Ytnmoddknghcobaa
