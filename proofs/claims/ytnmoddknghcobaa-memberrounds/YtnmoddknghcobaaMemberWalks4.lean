/-
  Contracts of package member: Step, Play, for every input.
-/
import Derived.Test.YtnmoddknghcobaaMemberWalks3
namespace Go.Proofs.Ytnmoddknghcobaa
open Go.RowKit
set_option linter.unusedVariables false

theorem right_false {own : Int} {m : Mem} (h : rightB own m = false) : ¬ Valid own m := of_decide_eq_false h
theorem right_true {own : Int} {m : Mem} (h : rightB own m = true) : Valid own m := of_decide_eq_true h
theorem nodeB_no {x : Int} (h : x < 0 ∨ 15 < x) : nodeB x = false := decide_eq_false (by omega)
theorem nodeB_yes {x : Int} (h : ¬ (x < 0 ∨ 15 < x)) : nodeB x = true := decide_eq_true (by omega)
set_option maxHeartbeats 1600000 in
theorem Step_any (own : Int) (m : Mem) (h : Hrd) (h1 : m.vw < 65536) (h2 : h.hv < 65536) (w : World) :
    Calls Try.prog 10 #[.int .i64 own, memV m, hrdV h] w (GivesMem (stepHM own m h) (stepHE own m h) w) := by
  have CR := Lib.hid (fun (W : World) => Right_any own m h1 W)
  obtain ⟨nd, cm, hv⟩ := h
  simp only at h2
  unfold stepHM stepHE
  simp only
  have CN := Lib.hid (fun (W : World) => isNode_any nd W)
  cases hr : rightB own m with
  | false =>
    rw [hr] at CR
    rw [(step_form (right_false hr)).1, (step_form (right_false hr)).2]
    clear hr CN
    obtain ⟨vw, tk, ls, ou⟩ := m
    go_enter Try.func10, Try.ntmps10
    go_wp2_with fail
    refine (CR.out _).mono ?_
    rintro e w1 ⟨rfl, hb⟩
    obtain ⟨hc, hf⟩ := bcell hb
    have hB := below_new (below_new (below_new hb))
    clear CR
    go_wp2
    exact bodyPost_ret (v := .tuple #[memV zeroM, .int .i64 1]) (by simp [results, Try.results10, go_sem, hc, memV, zeroM]) rfl ⟨rfl, by repeat (first | exact Below.refl _ _ | assumption | refine Below.setCell ?_ (by (try simp) <;> omega) _ | refine Below.alloc ?_ (by (try simp) <;> omega) _ | refine Below.drew ?_)⟩
  | true =>
    rw [hr] at CR
    have hV := right_true hr
    clear hr
    by_cases hn : nd < 0 ∨ 15 < nd
    · rw [(step_range hV hn).1, (step_range hV hn).2]
      rw [nodeB_no hn] at CN
      clear hn hV
      obtain ⟨vw, tk, ls, ou⟩ := m
      go_enter Try.func10, Try.ntmps10
      go_wp2_with fail
      refine (CR.out _).mono ?_
      rintro e w1 ⟨rfl, hb⟩
      obtain ⟨hc, hf⟩ := bcell hb
      have hB := below_new (below_new (below_new hb))
      clear CR
      go_wp2_with fail
      refine (CN.out _).mono ?_
      rintro e w2 ⟨rfl, rfl⟩
      go_wp2
      exact bodyPost_ret (v := .tuple #[memV zeroM, .int .i64 2]) (by simp [results, Try.results10, go_sem, hc, memV, zeroM]) rfl ⟨rfl, by repeat (first | exact Below.refl _ _ | assumption | refine Below.setCell ?_ (by (try simp) <;> omega) _ | refine Below.alloc ?_ (by (try simp) <;> omega) _ | refine Below.drew ?_)⟩
    · rw [nodeB_yes hn] at CN
      obtain ⟨k, rfl⟩ : ∃ k : Nat, nd = k := ⟨nd.toNat, by omega⟩
      obtain ⟨o, rfl⟩ : ∃ o : Nat, own = o := ⟨own.toNat, by have := hV.1; omega⟩
      have hok := hV.2.1
      have CX := Lib.hid (fun (W : World) => next_any o (by omega) m k (by omega) cm hv h1 h2 hV.2.2.1 hV.2.2.2.1 hV.2.2.2.2.1 hV.2.2.2.2.2.1 W)
      have hcn := step_counts (own := o) (m := m) (node := k) (came := cm) (hv := hv) hV.2.2.1 hV.2.2.2.2.1
      have CC := Lib.hid (fun (x : Int) (W : World) => isCount_any x W)
      have Hfull : Hid (400 < (stepG o m k cm hv).tk ∨ 400 < (stepG o m k cm hv).ls → stepE (o : Int) m (k : Int) cm hv = 4 ∧ stepM (o : Int) m (k : Int) cm hv = zeroM) := fun g => step_full hV hn (by rw [Int.toNat_natCast, Int.toNat_natCast]; exact g)
      have Hok : Hid (¬ (400 < (stepG o m k cm hv).tk ∨ 400 < (stepG o m k cm hv).ls) → stepE (o : Int) m (k : Int) cm hv = 0 ∧ stepM (o : Int) m (k : Int) cm hv = stepG o m k cm hv) := fun g => by
        have := step_ok (own := (o : Int)) (m := m) (node := (k : Int)) (came := cm) (hv := hv) hV hn
        rw [Int.toNat_natCast, Int.toNat_natCast] at this
        exact this g
      obtain ⟨c1, c2, -⟩ := hcn
      clear hn hV
      generalize stepE (o : Int) m (k : Int) cm hv = E at *
      generalize stepM (o : Int) m (k : Int) cm hv = M at *
      generalize stepG o m k cm hv = r at *
      obtain ⟨vw, tk, ls, ou⟩ := m
      obtain ⟨rv, rt, rl, ro⟩ := r
      simp only at c1 c2 Hfull Hok
      have T1 := Lib.hid (fun (W : World) => isCount_any rt W)
      have T2 := Lib.hid (fun (W : World) => isCount_any rl W)
      by_cases hf1 : 400 < rt
      · obtain ⟨rfl, rfl⟩ := Hfull.out (.inl hf1)
        rw [show cntB rt = false from decide_eq_false (by omega)] at T1
        clear Hfull Hok hf1 c1 c2
        go_enter Try.func10, Try.ntmps10
        go_wp2_with fail
        refine (CR.out _).mono ?_
        rintro e w1 ⟨rfl, hb⟩
        obtain ⟨hc, hf⟩ := bcell hb
        have hB := below_new (below_new (below_new hb))
        have hz : w.heap.size + 1 + 1 < w1.heap.size := by have := hb.size; simp at this; omega
        clear CR
        go_wp2_with fail
        refine (CN.out _).mono ?_
        rintro e w2 ⟨rfl, rfl⟩
        go_wp2_with fail
        refine (CX.out _).mono ?_
        rintro e w3 ⟨rfl, hb3⟩
        obtain ⟨hc3, hf3⟩ := bcell hb3
        have hB3 := bthen hB hb3
        have hz3 : w.heap.size + 1 + 1 < w3.heap.size := by have := hb3.size; omega
        clear CX CN
        go_wp2_with fail
        refine (T1.out _).mono ?_
        rintro e w4 ⟨rfl, rfl⟩
        clear T1
        go_wp2
        exact bodyPost_ret (v := .tuple #[memV zeroM, .int .i64 4]) (by simp [results, Try.results10, go_sem, hc, hc3, hz, hz3, memV, zeroM]) rfl ⟨rfl, by repeat (first | exact Below.refl _ _ | assumption | refine Below.setCell ?_ (by (try simp) <;> omega) _ | refine Below.alloc ?_ (by (try simp) <;> omega) _ | refine Below.drew ?_)⟩
      · rw [show cntB rt = true from decide_eq_true (by omega)] at T1
        by_cases hf2 : 400 < rl
        · obtain ⟨rfl, rfl⟩ := Hfull.out (.inr hf2)
          rw [show cntB rl = false from decide_eq_false (by omega)] at T2
          clear Hfull Hok hf1 hf2 c1 c2
          go_enter Try.func10, Try.ntmps10
          go_wp2_with fail
          refine (CR.out _).mono ?_
          rintro e w1 ⟨rfl, hb⟩
          obtain ⟨hc, hf⟩ := bcell hb
          have hB := below_new (below_new (below_new hb))
          have hz : w.heap.size + 1 + 1 < w1.heap.size := by have := hb.size; simp at this; omega
          clear CR
          go_wp2_with fail
          refine (CN.out _).mono ?_
          rintro e w2 ⟨rfl, rfl⟩
          go_wp2_with fail
          refine (CX.out _).mono ?_
          rintro e w3 ⟨rfl, hb3⟩
          obtain ⟨hc3, hf3⟩ := bcell hb3
          have hB3 := bthen hB hb3
          have hz3 : w.heap.size + 1 + 1 < w3.heap.size := by have := hb3.size; omega
          clear CX CN
          go_wp2_with fail
          refine (T1.out _).mono ?_
          rintro e w4 ⟨rfl, rfl⟩
          clear T1
          go_wp2_with fail
          refine (T2.out _).mono ?_
          rintro e w5 ⟨rfl, rfl⟩
          clear T2
          go_wp2
          exact bodyPost_ret (v := .tuple #[memV zeroM, .int .i64 4]) (by simp [results, Try.results10, go_sem, hc, hc3, hz, hz3, memV, zeroM]) rfl ⟨rfl, by repeat (first | exact Below.refl _ _ | assumption | refine Below.setCell ?_ (by (try simp) <;> omega) _ | refine Below.alloc ?_ (by (try simp) <;> omega) _ | refine Below.drew ?_)⟩
        · obtain ⟨rfl, rfl⟩ := Hok.out (by omega)
          rw [show cntB rl = true from decide_eq_true (by omega)] at T2
          clear Hfull Hok hf1 hf2 c1 c2
          go_enter Try.func10, Try.ntmps10
          go_wp2_with fail
          refine (CR.out _).mono ?_
          rintro e w1 ⟨rfl, hb⟩
          obtain ⟨hc, hf⟩ := bcell hb
          have hB := below_new (below_new (below_new hb))
          have hz : w.heap.size + 1 + 1 < w1.heap.size := by have := hb.size; simp at this; omega
          clear CR
          go_wp2_with fail
          refine (CN.out _).mono ?_
          rintro e w2 ⟨rfl, rfl⟩
          go_wp2_with fail
          refine (CX.out _).mono ?_
          rintro e w3 ⟨rfl, hb3⟩
          obtain ⟨hc3, hf3⟩ := bcell hb3
          have hB3 := bthen hB hb3
          have hz3 : w.heap.size + 1 + 1 < w3.heap.size := by have := hb3.size; omega
          clear CX CN
          go_wp2_with fail
          refine (T1.out _).mono ?_
          rintro e w4 ⟨rfl, rfl⟩
          clear T1
          go_wp2_with fail
          refine (T2.out _).mono ?_
          rintro e w5 ⟨rfl, rfl⟩
          clear T2
          go_wp2
          exact bodyPost_ret (v := .tuple #[.agg #[.int .u16 (rv : Int), .int .i64 rt, .int .i64 rl, .bool ro], .int .i64 0]) (by simp [results, Try.results10, go_sem, hc, hc3, hz, hz3]) rfl ⟨rfl, by repeat (first | exact Below.refl _ _ | assumption | refine Below.setCell ?_ (by (try simp) <;> omega) _ | refine Below.alloc ?_ (by (try simp) <;> omega) _ | refine Below.drew ?_)⟩
end Go.Proofs.Ytnmoddknghcobaa
