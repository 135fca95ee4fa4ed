/-
  The walks of DriftNever, DriftWhen, DriftTrue: each returns true, at every argument.
-/
import Derived.Test.YtidlfbemamoflaaDriftWalks
namespace Go.Proofs.Ytidlfbemamoflaa
open Go.RowKit
set_option linter.unusedVariables false

theorem in64_of (a b : Int) (x : Int) (h1 : a ≤ x) (h2 : x ≤ b) (ha : -9223372036854775808 ≤ a) (hb : b ≤ 9223372036854775807) : in64 x := ⟨by omega, by omega⟩

set_option maxHeartbeats 800000 in
theorem alive11_any (w : World) : Calls Try.prog 15 #[] w fun e w' => e = .returned (.bool true) ∧ Below w.heap.size w w' := by
  have C1 := Lib.hid (fun (W : World) => Shows_any 100 5 20000 ⟨by decide, by decide⟩ ⟨by decide, by decide⟩ ⟨by decide, by decide⟩ W)
  have C2 := Lib.hid (fun (W : World) => When_any (-1000) 0 999 ⟨by decide, by decide⟩ ⟨by decide, by decide⟩ ⟨by decide, by decide⟩ W)
  have C3 := Lib.hid (fun (W : World) => Apart_any 10 0 (-10) 0 1000000 ⟨by decide, by decide⟩ ⟨by decide, by decide⟩ ⟨by decide, by decide⟩ ⟨by decide, by decide⟩ ⟨by decide, by decide⟩ W)
  rw [show showsR 100 5 20000 = 20007 by decide +kernel, show checkK 100 5 20000 = 0 by decide +kernel] at C1
  rw [show whenR (-1000) 0 999 = 1000 by decide +kernel, show checkK (-1000) 0 999 = 0 by decide +kernel] at C2
  rw [show apartR 10 0 (-10) 0 1000000 = 20 by decide +kernel, show apartE 10 0 (-10) 0 1000000 = 0 by decide +kernel] at C3
  go_enter Try.func15, Try.ntmps15
  go_wp2_with fail
  refine (C1.out _).mono ?_
  rintro e w1 ⟨rfl, hb1⟩
  go_wp2_with fail
  refine (C2.out _).mono ?_
  rintro e w2 ⟨rfl, hb2⟩
  go_wp2_with fail
  refine (C3.out _).mono ?_
  rintro e w3 ⟨rfl, hb3⟩
  go_wp2
  go_ret
  exact ⟨rfl, bthen hb1 (bthen hb2 hb3)⟩

theorem showsR_ok {r o t : Int} (h : checkK r o t = 0) : showsR r o t = showsV r o t := if_pos h
theorem showsR_no {r o t : Int} (h : ¬ checkK r o t = 0) : showsR r o t = 0 := if_neg h
theorem whenR_ok {r o t : Int} (h : checkK r o t = 0) : whenR r o t = whenV r o t := if_pos h
theorem whenR_no {r o t : Int} (h : ¬ checkK r o t = 0) : whenR r o t = 0 := if_neg h

set_option maxHeartbeats 800000 in
theorem DriftNever_walk (r o t m : Int) (w : World) (wr : (Lit.int .i64 r).wf = true) (wo : (Lit.int .i64 o).wf = true) (wt : (Lit.int .i64 t).wf = true) (wm : (Lit.int .i64 m).wf = true) :
    Calls Try.prog 4 #[clockV r o, .int .i64 t, .int .i64 m] w fun e w' => e = .returned (.bool true) ∧ Below w.heap.size w w' := by
  have hr := in64_wf wr
  have ho := in64_wf wo
  have ht := in64_wf wt
  have hm := in64_wf wm
  clear wr wo wt wm
  have C0 := Lib.hid (fun (W : World) => alive11_any W)
  have C1 := Lib.hid (fun (W : World) => Shows_any r o t hr ho ht W)
  obtain ⟨m0, m1⟩ := hm
  by_cases h : checkK r o t = 0
  · rw [showsR_ok h, h] at C1
    obtain ⟨hc, hi⟩ := checkK_zero h
    have hx := showsV_range hc hi
    clear h
    by_cases hmm : 0 ≤ m ∧ m ≤ 1099511627776
    · obtain ⟨hm0, hm1⟩ := hmm
      have hi' := hi
      obtain ⟨i0, i1⟩ := hi'
      have C2 := Lib.hid (fun (W : World) => Shows_any r o (t + m) hr ho ⟨by omega, by omega⟩ W)
      have hmore := shows_more (t := t) hc hm0
      by_cases h2 : checkK r o (t + m) = 0
      · rw [showsR_ok h2, h2] at C2
        have hy := showsV_range hc (checkK_zero h2).2
        clear h2 hc hi hr ho ht
        generalize showsV r o t = x at *
        generalize showsV r o (t + m) = y at *
        go_enter Try.func4, Try.ntmps4
        go_wp2_with fail
        refine (C0.out _).mono ?_
        rintro e w1 ⟨rfl, hb1⟩
        have hB1 := below_new hb1
        have c0 := (clock_box hb1).cell 0 rfl
        have c1 := (clock_box hb1).cell 1 rfl
        clear hb1
        go_wp2_with fail
        refine (C1.out _).mono ?_
        rintro e w2 ⟨rfl, hb2⟩
        have d0 := (hb2.cell (World.block_lt_of_cell? w1 _ c0)).trans c0
        have d1 := (hb2.cell (World.block_lt_of_cell? w1 _ c1)).trans c1
        go_wp2_with fail
        refine (C2.out _).mono ?_
        rintro e w3 ⟨rfl, hb3⟩
        go_wp2
        all_goals (go_ret; exact ⟨rfl, bthen hB1 (bthen hb2 hb3)⟩)
      · have e2 : checkK r o (t + m) = 2 := checkK_range hc (fun k => h2 (checkK_ok hc k))
        have hgt : 1099511627776 < t + m := by
          rcases Int.lt_or_le 1099511627776 (t + m) with k | k
          · exact k
          · exact absurd (checkK_ok hc ⟨by omega, k⟩) h2
        rw [showsR_no h2, e2] at C2
        clear h2 hc hi hr ho ht hmore e2
        generalize showsV r o t = x at *
        go_enter Try.func4, Try.ntmps4
        go_wp2_with fail
        refine (C0.out _).mono ?_
        rintro e w1 ⟨rfl, hb1⟩
        have hB1 := below_new hb1
        have c0 := (clock_box hb1).cell 0 rfl
        have c1 := (clock_box hb1).cell 1 rfl
        clear hb1
        go_wp2_with fail
        refine (C1.out _).mono ?_
        rintro e w2 ⟨rfl, hb2⟩
        have d0 := (hb2.cell (World.block_lt_of_cell? w1 _ c0)).trans c0
        have d1 := (hb2.cell (World.block_lt_of_cell? w1 _ c1)).trans c1
        go_wp2_with fail
        refine (C2.out _).mono ?_
        rintro e w3 ⟨rfl, hb3⟩
        go_wp2
        all_goals (go_ret; exact ⟨ret_bool (decide_eq_true (by omega)), bthen hB1 (bthen hb2 hb3)⟩)
    · generalize showsV r o t = x at *
      clear hc hi hr ho ht
      by_cases h0 : m < 0
      · clear hmm
        go_enter Try.func4, Try.ntmps4
        go_wp2_with fail
        refine (C0.out _).mono ?_
        rintro e w1 ⟨rfl, hb1⟩
        have hB1 := below_new hb1
        have c0 := (clock_box hb1).cell 0 rfl
        have c1 := (clock_box hb1).cell 1 rfl
        clear hb1
        go_wp2_with fail
        refine (C1.out _).mono ?_
        rintro e w2 ⟨rfl, hb2⟩
        go_wp2
        go_ret
        exact ⟨rfl, bthen hB1 hb2⟩
      · have h1 : 1099511627776 < m := by omega
        clear hmm
        go_enter Try.func4, Try.ntmps4
        go_wp2_with fail
        refine (C0.out _).mono ?_
        rintro e w1 ⟨rfl, hb1⟩
        have hB1 := below_new hb1
        have c0 := (clock_box hb1).cell 0 rfl
        have c1 := (clock_box hb1).cell 1 rfl
        clear hb1
        go_wp2_with fail
        refine (C1.out _).mono ?_
        rintro e w2 ⟨rfl, hb2⟩
        go_wp2
        go_ret
        exact ⟨rfl, bthen hB1 hb2⟩
  · rw [showsR_no h] at C1
    have hx : (checkK r o t != 0) = true := by simpa using h
    have hx' : (checkK r o t == 0) = false := by simpa using h
    clear h hr ho ht
    generalize checkK r o t = x at C1 hx hx'
    go_enter Try.func4, Try.ntmps4
    go_wp2_with fail
    refine (C0.out _).mono ?_
    rintro e w1 ⟨rfl, hb1⟩
    have hB1 := below_new hb1
    have c0 := (clock_box hb1).cell 0 rfl
    have c1 := (clock_box hb1).cell 1 rfl
    clear hb1
    go_wp2_with fail
    refine (C1.out _).mono ?_
    rintro e w2 ⟨rfl, hb2⟩
    go_wp2
    go_ret
    exact ⟨rfl, bthen hB1 hb2⟩

set_option maxHeartbeats 800000 in
theorem DriftWhen_walk (r o t : Int) (w : World) (wr : (Lit.int .i64 r).wf = true) (wo : (Lit.int .i64 o).wf = true) (wt : (Lit.int .i64 t).wf = true) :
    Calls Try.prog 5 #[clockV r o, .int .i64 t] w fun e w' => e = .returned (.bool true) ∧ Below w.heap.size w w' := by
  have hr := in64_wf wr
  have ho := in64_wf wo
  have ht := in64_wf wt
  clear wr wo wt
  have C0 := Lib.hid (fun (W : World) => alive11_any W)
  have C1 := Lib.hid (fun (W : World) => When_any r o t hr ho ht W)
  by_cases h : checkK r o t = 0
  · rw [whenR_ok h, h] at C1
    obtain ⟨hc, hi⟩ := checkK_zero h
    obtain ⟨q0, q1⟩ := when_range hc hi
    have C2 := Lib.hid (fun (W : World) => Shows_any r o (whenV r o t) hr ho ⟨by omega, by omega⟩ W)
    have C3 := Lib.hid (fun (W : World) => Shows_any r o (whenV r o t - 1) hr ho ⟨by omega, by omega⟩ W)
    clear h
    by_cases hz : whenV r o t = 0
    · have hto := when_zero hc hz
      have e1 : checkK r o 0 = 0 := checkK_ok hc ⟨by decide, by decide⟩
      have e2 : showsV r o 0 = o := by simp [showsV]
      rw [hz] at C1 C2
      rw [showsR_ok e1, e1, e2] at C2
      clear hr ho C3 hz e1 e2 hc
      go_enter Try.func5, Try.ntmps5
      go_wp2_with fail
      refine (C0.out _).mono ?_
      rintro e w1 ⟨rfl, hb1⟩
      have hB1 := below_new hb1
      have c0 := (clock_box hb1).cell 0 rfl
      have c1 := (clock_box hb1).cell 1 rfl
      clear hb1
      go_wp2_with fail
      refine (C1.out _).mono ?_
      rintro e w2 ⟨rfl, hb2⟩
      have d0 := (hb2.cell (World.block_lt_of_cell? w1 _ c0)).trans c0
      have d1 := (hb2.cell (World.block_lt_of_cell? w1 _ c1)).trans c1
      go_wp2_with fail
      refine (C2.out _).mono ?_
      rintro e w3 ⟨rfl, hb3⟩
      have f0 := (hb3.cell (World.block_lt_of_cell? w2 _ d0)).trans d0
      have f1 := (hb3.cell (World.block_lt_of_cell? w2 _ d1)).trans d1
      go_wp2
      go_ret
      exact ⟨rfl, bthen hB1 (bthen hb2 hb3)⟩
    · obtain ⟨s0, s1, s2⟩ := when_shows hc hz
      have hz' : (whenV r o t == 0) = false := by simpa using hz
      have e3 : checkK r o (whenV r o t - 1) = 0 ∨ ¬ checkK r o (whenV r o t - 1) = 0 := Classical.em _
      have hin1 : whenV r o t ≤ 1099511627776 → checkK r o (whenV r o t) = 0 := fun k => checkK_ok hc ⟨q0, k⟩
      have hin2 : ¬ whenV r o t ≤ 1099511627776 → ¬ checkK r o (whenV r o t) = 0 := fun k l => k (checkK_zero l).2.2
      have hin3 : whenV r o t - 1 ≤ 1099511627776 → checkK r o (whenV r o t - 1) = 0 := fun k => checkK_ok hc ⟨by omega, k⟩
      have hin4 : ¬ whenV r o t - 1 ≤ 1099511627776 → ¬ checkK r o (whenV r o t - 1) = 0 := fun k l => k (checkK_zero l).2.2
      by_cases k1 : checkK r o (whenV r o t) = 0
      · have k2 : checkK r o (whenV r o t - 1) = 0 := hin3 (by have := (checkK_zero k1).2.2; omega)
        rw [showsR_ok k1, k1] at C2
        rw [showsR_ok k2, k2] at C3
        clear hin1 hin2 hin3 hin4 k1 k2 hc hi hr ho ht hz e3
        generalize showsV r o (whenV r o t) = x at *
        generalize showsV r o (whenV r o t - 1) = y at *
        generalize whenV r o t = q at *
        go_enter Try.func5, Try.ntmps5
        go_wp2_with fail
        refine (C0.out _).mono ?_
        rintro e w1 ⟨rfl, hb1⟩
        have hB1 := below_new hb1
        have c0 := (clock_box hb1).cell 0 rfl
        have c1 := (clock_box hb1).cell 1 rfl
        clear hb1
        go_wp2_with fail
        refine (C1.out _).mono ?_
        rintro e w2 ⟨rfl, hb2⟩
        have d0 := (hb2.cell (World.block_lt_of_cell? w1 _ c0)).trans c0
        have d1 := (hb2.cell (World.block_lt_of_cell? w1 _ c1)).trans c1
        go_wp2_with fail
        refine (C2.out _).mono ?_
        rintro e w3 ⟨rfl, hb3⟩
        have f0 := (hb3.cell (World.block_lt_of_cell? w2 _ d0)).trans d0
        have f1 := (hb3.cell (World.block_lt_of_cell? w2 _ d1)).trans d1
        go_wp2_with fail
        refine (C3.out _).mono ?_
        rintro e w4 ⟨rfl, hb4⟩
        go_wp2
        go_ret
        exact ⟨rfl, bthen hB1 (bthen hb2 (bthen hb3 hb4))⟩
      · have hx : (checkK r o (whenV r o t) == 0) = false := by simpa using k1
        rw [showsR_no k1] at C2
        by_cases k2 : checkK r o (whenV r o t - 1) = 0
        · rw [showsR_ok k2, k2] at C3
          clear hin1 hin2 hin3 hin4 k1 k2 hc hi hr ho ht hz e3 s0
          generalize checkK r o (whenV r o t) = c at *
          generalize showsV r o (whenV r o t - 1) = y at *
          generalize whenV r o t = q at *
          go_enter Try.func5, Try.ntmps5
          go_wp2_with fail
          refine (C0.out _).mono ?_
          rintro e w1 ⟨rfl, hb1⟩
          have hB1 := below_new hb1
          have c0 := (clock_box hb1).cell 0 rfl
          have c1 := (clock_box hb1).cell 1 rfl
          clear hb1
          go_wp2_with fail
          refine (C1.out _).mono ?_
          rintro e w2 ⟨rfl, hb2⟩
          have d0 := (hb2.cell (World.block_lt_of_cell? w1 _ c0)).trans c0
          have d1 := (hb2.cell (World.block_lt_of_cell? w1 _ c1)).trans c1
          go_wp2_with fail
          refine (C2.out _).mono ?_
          rintro e w3 ⟨rfl, hb3⟩
          have f0 := (hb3.cell (World.block_lt_of_cell? w2 _ d0)).trans d0
          have f1 := (hb3.cell (World.block_lt_of_cell? w2 _ d1)).trans d1
          go_wp2_with fail
          refine (C3.out _).mono ?_
          rintro e w4 ⟨rfl, hb4⟩
          go_wp2
          go_ret
          exact ⟨rfl, bthen hB1 (bthen hb2 (bthen hb3 hb4))⟩
        · have hy : (checkK r o (whenV r o t - 1) != 0) = true := by simpa using k2
          rw [showsR_no k2] at C3
          clear hin1 hin2 hin3 hin4 k1 k2 hc hi hr ho ht hz e3 s0 s1
          generalize checkK r o (whenV r o t) = c at *
          generalize checkK r o (whenV r o t - 1) = c' at *
          generalize whenV r o t = q at *
          go_enter Try.func5, Try.ntmps5
          go_wp2_with fail
          refine (C0.out _).mono ?_
          rintro e w1 ⟨rfl, hb1⟩
          have hB1 := below_new hb1
          have c0 := (clock_box hb1).cell 0 rfl
          have c1 := (clock_box hb1).cell 1 rfl
          clear hb1
          go_wp2_with fail
          refine (C1.out _).mono ?_
          rintro e w2 ⟨rfl, hb2⟩
          have d0 := (hb2.cell (World.block_lt_of_cell? w1 _ c0)).trans c0
          have d1 := (hb2.cell (World.block_lt_of_cell? w1 _ c1)).trans c1
          go_wp2_with fail
          refine (C2.out _).mono ?_
          rintro e w3 ⟨rfl, hb3⟩
          have f0 := (hb3.cell (World.block_lt_of_cell? w2 _ d0)).trans d0
          have f1 := (hb3.cell (World.block_lt_of_cell? w2 _ d1)).trans d1
          go_wp2_with fail
          refine (C3.out _).mono ?_
          rintro e w4 ⟨rfl, hb4⟩
          go_wp2
          go_ret
          exact ⟨rfl, bthen hB1 (bthen hb2 (bthen hb3 hb4))⟩
  · rw [whenR_no h] at C1
    have hx : (checkK r o t != 0) = true := by simpa using h
    clear h hr ho ht
    generalize checkK r o t = x at C1 hx
    go_enter Try.func5, Try.ntmps5
    go_wp2_with fail
    refine (C0.out _).mono ?_
    rintro e w1 ⟨rfl, hb1⟩
    have hB1 := below_new hb1
    have c0 := (clock_box hb1).cell 0 rfl
    have c1 := (clock_box hb1).cell 1 rfl
    clear hb1
    go_wp2_with fail
    refine (C1.out _).mono ?_
    rintro e w2 ⟨rfl, hb2⟩
    have d0 := (hb2.cell (World.block_lt_of_cell? w1 _ c0)).trans c0
    have d1 := (hb2.cell (World.block_lt_of_cell? w1 _ c1)).trans c1
    go_wp2
    go_ret
    exact ⟨rfl, bthen hB1 hb2⟩

set_option maxHeartbeats 800000 in
theorem DriftTrue_walk (o t : Int) (w : World) (wo : (Lit.int .i64 o).wf = true) (wt : (Lit.int .i64 t).wf = true) :
    Calls Try.prog 7 #[.int .i64 o, .int .i64 t] w fun e w' => e = .returned (.bool true) ∧ Below w.heap.size w w' := by
  have ho := in64_wf wo
  have ht := in64_wf wt
  clear wo wt
  have C0 := Lib.hid (fun (W : World) => alive11_any W)
  have C1 := Lib.hid (fun (W : World) => Shows_any 0 o t ⟨by decide, by decide⟩ ho ht W)
  have C2 := Lib.hid (fun (W : World) => When_any 0 o t ⟨by decide, by decide⟩ ho ht W)
  obtain ⟨o0, o1⟩ := ho
  obtain ⟨t0, t1⟩ := ht
  by_cases h : checkK 0 o t = 0
  · rw [showsR_ok h, h, showsV_true] at C1
    rw [whenR_ok h, h, whenV_true] at C2
    obtain ⟨⟨_, _, p0, p1⟩, q0, q1⟩ := checkK_zero h
    clear h o0 o1 t0 t1
    go_enter Try.func7, Try.ntmps7
    go_wp2_with fail
    refine (C0.out _).mono ?_
    rintro e w1 ⟨rfl, hb1⟩
    go_wp2_with fail
    refine (C1.out _).mono ?_
    rintro e w2 ⟨rfl, hb2⟩
    go_wp2_with fail
    refine (C2.out _).mono ?_
    rintro e w3 ⟨rfl, hb3⟩
    generalize hm : max (t - o) 0 = m
    go_wp2
    all_goals (go_ret; exact ⟨ret_bool (by simp; omega), bthen hb1 (bthen hb2 hb3)⟩)
  · rw [showsR_no h] at C1
    rw [whenR_no h] at C2
    have hx : (checkK 0 o t != 0) = true := by simpa using h
    clear h
    generalize checkK 0 o t = c at C1 C2 hx
    go_enter Try.func7, Try.ntmps7
    go_wp2_with fail
    refine (C0.out _).mono ?_
    rintro e w1 ⟨rfl, hb1⟩
    go_wp2_with fail
    refine (C1.out _).mono ?_
    rintro e w2 ⟨rfl, hb2⟩
    go_wp2_with fail
    refine (C2.out _).mono ?_
    rintro e w3 ⟨rfl, hb3⟩
    go_wp2
    all_goals (go_ret; exact ⟨rfl, bthen hb1 (bthen hb2 hb3)⟩)
end Go.Proofs.Ytidlfbemamoflaa
