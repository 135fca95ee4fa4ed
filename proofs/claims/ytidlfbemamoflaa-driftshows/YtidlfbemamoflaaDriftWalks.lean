/-
  Contracts of drift's functions, for every input.
-/
import Derived.Test.YtidlfbemamoflaaDriftMath
import Derived.Test.YtidlfbemamoflaaProg
import Derived.Test.YtidlfbemamoflaaBox
namespace Go.Proofs.Ytidlfbemamoflaa
open Go.RowKit
set_option linter.unusedVariables false

/-- A clock as a value. -/
abbrev clockV (r o : Int) : Value := .agg #[.int .i64 r, .int .i64 o]

theorem inTime_any (v : Int) (hv : in64 v) (w : World) : Calls Try.prog 17 #[.int .i64 v] w fun e w' => e = .returned (.bool (decide (InTime v))) ∧ w = w' := by
  obtain ⟨v0, v1⟩ := hv
  by_cases h : InTime v
  · rw [decide_eq_true h]
    obtain ⟨h1, h2⟩ := h
    go_enter Try.func17, Try.ntmps17
    go_wp2
    go_ret
    exact ⟨rfl, rfl⟩
  · rw [decide_eq_false h]
    by_cases h1 : 0 ≤ v
    · have h2 : decide (v ≤ 1099511627776) = false := decide_eq_false (by unfold InTime at h; omega)
      clear h
      go_enter Try.func17, Try.ntmps17
      go_wp2
      go_ret
      exact ⟨rfl, rfl⟩
    · clear h
      go_enter Try.func17, Try.ntmps17
      go_wp2
      go_ret
      exact ⟨rfl, rfl⟩

/-- The clock's box behind a call. -/
theorem clock_box {w w1 : World} {r o : Int} {t : TypeId} (hb : Below (w.alloc (.cells #[.int .i64 r, .int .i64 o] t)).heap.size (w.alloc (.cells #[.int .i64 r, .int .i64 o] t)) w1) : Box w1 w.heap.size t [.int .i64 r, .int .i64 o] :=
  Box.below (Box.new w t [.int .i64 r, .int .i64 o]) hb (by simp)

theorem clockOk_iff (r o : Int) : ClockOk r o ↔ (-1000 ≤ r ∧ r ≤ 1000) ∧ InTime o := by unfold ClockOk InTime; omega

theorem DRight_any (r o : Int) (hr : in64 r) (ho : in64 o) (w : World) : Calls Try.prog 11 #[clockV r o] w fun e w' => e = .returned (.bool (decide (ClockOk r o))) ∧ Below w.heap.size w w' := by
  have C := Lib.hid (fun (W : World) => inTime_any o ho W)
  obtain ⟨r0, r1⟩ := hr
  clear ho
  by_cases h : -1000 ≤ r ∧ r ≤ 1000
  · have e : decide (ClockOk r o) = decide (InTime o) := by
      by_cases g : InTime o
      · rw [decide_eq_true g, decide_eq_true ((clockOk_iff r o).2 ⟨h, g⟩)]
      · rw [decide_eq_false g, decide_eq_false (fun k => g ((clockOk_iff r o).1 k).2)]
    rw [e]
    clear e
    generalize decide (InTime o) = b at *
    obtain ⟨h1, h2⟩ := h
    go_enter Try.func11, Try.ntmps11
    go_wp2_with fail
    refine (C.out _).mono ?_
    rintro e w1 ⟨rfl, hw⟩
    go_wp2
    go_ret
    exact ⟨rfl, by rw [← hw]; exact (Below.refl _ _).alloc (Nat.le_refl _) _⟩
  · rw [decide_eq_false (fun k => h ((clockOk_iff r o).1 k).1)]
    clear C
    by_cases h1 : -1000 ≤ r
    · have h2 : 1000 < r := by omega
      clear h
      go_enter Try.func11, Try.ntmps11
      go_wp2
      go_ret
      exact ⟨rfl, (Below.refl _ _).alloc (Nat.le_refl _) _⟩
    · clear h
      go_enter Try.func11, Try.ntmps11
      go_wp2
      go_ret
      exact ⟨rfl, (Below.refl _ _).alloc (Nat.le_refl _) _⟩

theorem checkD_any (r o t : Int) (hr : in64 r) (ho : in64 o) (ht : in64 t) (w : World) : Calls Try.prog 16 #[clockV r o, .int .i64 t] w fun e w' => e = .returned (.int .i64 (checkK r o t)) ∧ Below w.heap.size w w' := by
  have C := Lib.hid (fun (W : World) => DRight_any r o hr ho W)
  have C1 := Lib.hid (fun (W : World) => inTime_any t ht W)
  clear hr ho ht
  by_cases h : ClockOk r o
  · rw [decide_eq_true h] at C
    by_cases h1 : InTime t
    · rw [checkK_ok h h1]
      rw [decide_eq_true h1] at C1
      clear h h1
      go_enter Try.func16, Try.ntmps16
      go_wp2_with fail
      refine (C.out _).mono ?_
      rintro e w1 ⟨rfl, hb⟩
      go_wp2_with fail
      refine (C1.out _).mono ?_
      rintro e w2 ⟨rfl, rfl⟩
      go_wp2
      go_ret
      exact ⟨rfl, below_new hb⟩
    · rw [checkK_range h h1]
      rw [decide_eq_false h1] at C1
      clear h h1
      go_enter Try.func16, Try.ntmps16
      go_wp2_with fail
      refine (C.out _).mono ?_
      rintro e w1 ⟨rfl, hb⟩
      go_wp2_with fail
      refine (C1.out _).mono ?_
      rintro e w2 ⟨rfl, rfl⟩
      go_wp2
      go_ret
      exact ⟨rfl, below_new hb⟩
  · rw [checkK_form t h]
    rw [decide_eq_false h] at C
    clear h C1
    go_enter Try.func16, Try.ntmps16
    go_wp2_with fail
    refine (C.out _).mono ?_
    rintro e w1 ⟨rfl, hb⟩
    go_wp2
    go_ret
    exact ⟨rfl, below_new hb⟩

set_option maxHeartbeats 400000 in
theorem Shows_any (r o t : Int) (hr : in64 r) (ho : in64 o) (ht : in64 t) (w : World) : Calls Try.prog 8 #[clockV r o, .int .i64 t] w fun e w' => e = .returned (.tuple #[.int .i64 (showsR r o t), .int .i64 (checkK r o t)]) ∧ Below w.heap.size w w' := by
  have C := Lib.hid (fun (W : World) => checkD_any r o t hr ho ht W)
  clear hr ho ht
  by_cases h : checkK r o t = 0
  · rw [showsR, if_pos h]
    rw [h] at C ⊢
    obtain ⟨hc, hi⟩ := checkK_zero h
    have hrange := showsV_range hc hi
    obtain ⟨h1, h2, h3, h4⟩ := hc
    obtain ⟨h5, h6⟩ := hi
    have hp := prod_range h1 h2 h5 h6
    clear h
    go_enter Try.func8, Try.ntmps8
    go_wp2_with fail
    refine (C.out _).mono ?_
    rintro e w1 ⟨rfl, hb⟩
    have c0 := (clock_box hb).cell 0 rfl
    have c1 := (clock_box hb).cell 1 rfl
    go_wp2
    go_ret2
    exact ⟨rfl, below_new hb⟩
  · rw [showsR, if_neg h]
    have hx : (checkK r o t != 0) = true := by simpa using h
    clear h
    generalize checkK r o t = x at C hx ⊢
    go_enter Try.func8, Try.ntmps8
    go_wp2_with fail
    refine (C.out _).mono ?_
    rintro e w1 ⟨rfl, hb⟩
    go_wp2
    go_ret2
    exact ⟨rfl, below_new hb⟩

set_option maxHeartbeats 400000 in
theorem When_any (r o t : Int) (hr : in64 r) (ho : in64 o) (ht : in64 t) (w : World) : Calls Try.prog 9 #[clockV r o, .int .i64 t] w fun e w' => e = .returned (.tuple #[.int .i64 (whenR r o t), .int .i64 (checkK r o t)]) ∧ Below w.heap.size w w' := by
  have C := Lib.hid (fun (W : World) => checkD_any r o t hr ho ht W)
  clear hr ho ht
  by_cases h : checkK r o t = 0
  · rw [whenR, if_pos h]
    rw [h] at C ⊢
    obtain ⟨hc, hi⟩ := checkK_zero h
    have hrange := when_range hc hi
    obtain ⟨h1, h2, h3, h4⟩ := hc
    obtain ⟨h5, h6⟩ := hi
    clear h
    by_cases hd : t - o ≤ 0
    · rw [whenV, if_pos hd]
      clear hrange
      go_enter Try.func9, Try.ntmps9
      go_wp2_with fail
      refine (C.out _).mono ?_
      rintro e w1 ⟨rfl, hb⟩
      have c0 := (clock_box hb).cell 0 rfl
      have c1 := (clock_box hb).cell 1 rfl
      go_wp2
      go_ret2
      exact ⟨rfl, below_new hb⟩
    · rw [whenV, if_neg hd] at hrange ⊢
      go_enter Try.func9, Try.ntmps9
      go_wp2_with fail
      refine (C.out _).mono ?_
      rintro e w1 ⟨rfl, hb⟩
      have c0 := (clock_box hb).cell 0 rfl
      have c1 := (clock_box hb).cell 1 rfl
      go_wp2
      go_ret2
      exact ⟨rfl, below_new hb⟩
  · rw [whenR, if_neg h]
    have hx : (checkK r o t != 0) = true := by simpa using h
    clear h
    generalize checkK r o t = x at C hx ⊢
    go_enter Try.func9, Try.ntmps9
    go_wp2_with fail
    refine (C.out _).mono ?_
    rintro e w1 ⟨rfl, hb⟩
    go_wp2
    go_ret2
    exact ⟨rfl, below_new hb⟩

theorem ret_pair {a b : Int} {v : Value} (h : a = b) : Ending.returned (.tuple #[.int .i64 a, v]) = .returned (.tuple #[.int .i64 b, v]) := by rw [h]

set_option maxHeartbeats 400000 in
theorem Apart_any (r o r' o' t : Int) (hr : in64 r) (ho : in64 o) (hr' : in64 r') (ho' : in64 o') (ht : in64 t) (w : World) : Calls Try.prog 10 #[clockV r o, clockV r' o', .int .i64 t] w fun e w' => e = .returned (.tuple #[.int .i64 (apartR r o r' o' t), .int .i64 (apartE r o r' o' t)]) ∧ Below w.heap.size w w' := by
  have C := Lib.hid (fun (W : World) => Shows_any r o t hr ho ht W)
  have D := Lib.hid (fun (W : World) => Shows_any r' o' t hr' ho' ht W)
  clear hr ho hr' ho' ht
  by_cases h : checkK r o t = 0
  · have eE : apartE r o r' o' t = checkK r' o' t := by rw [apartE, if_pos h]
    rw [showsR, if_pos h] at C
    rw [apartR, eE]
    obtain ⟨x0, x1⟩ := showsV_range (checkK_zero h).1 (checkK_zero h).2
    rw [h] at C
    by_cases h' : checkK r' o' t = 0
    · rw [showsR, if_pos h'] at D
      rw [if_pos h']
      obtain ⟨y0, y1⟩ := showsV_range (checkK_zero h').1 (checkK_zero h').2
      rw [h'] at D ⊢
      unfold apartV
      clear h h' eE
      generalize showsV r o t = x at *
      generalize showsV r' o' t = y at *
      go_enter Try.func10, Try.ntmps10
      go_wp2_with fail
      refine (C.out _).mono ?_
      rintro e w1 ⟨rfl, hb⟩
      have hb1 := below_new (below_new hb)
      have d0 := (Box.below (Box.new (w.alloc _) _ [.int .i64 r', .int .i64 o']) hb (by simp)).cell 0 rfl
      have d1 := (Box.below (Box.new (w.alloc _) _ [.int .i64 r', .int .i64 o']) hb (by simp)).cell 1 rfl
      have hs1 : ∀ o : Obj, (w.alloc o).heap.size = w.heap.size + 1 := fun o => by simp
      rw [hs1] at d0 d1
      clear hb
      go_wp2_with fail
      refine (D.out _).mono ?_
      rintro e w2 ⟨rfl, hb⟩
      go_wp2
      all_goals (go_ret2; exact ⟨ret_pair (by omega), bthen hb1 hb⟩)
    · rw [showsR, if_neg h'] at D
      rw [if_neg h']
      have hx : (checkK r' o' t != 0) = true := by simpa using h'
      clear h' h eE
      generalize checkK r' o' t = y at D hx ⊢
      go_enter Try.func10, Try.ntmps10
      go_wp2_with fail
      refine (C.out _).mono ?_
      rintro e w1 ⟨rfl, hb⟩
      have hb1 := below_new (below_new hb)
      have d0 := (Box.below (Box.new (w.alloc _) _ [.int .i64 r', .int .i64 o']) hb (by simp)).cell 0 rfl
      have d1 := (Box.below (Box.new (w.alloc _) _ [.int .i64 r', .int .i64 o']) hb (by simp)).cell 1 rfl
      have hs1 : ∀ o : Obj, (w.alloc o).heap.size = w.heap.size + 1 := fun o => by simp
      rw [hs1] at d0 d1
      clear hb
      go_wp2_with fail
      refine (D.out _).mono ?_
      rintro e w2 ⟨rfl, hb⟩
      go_wp2
      go_ret2
      exact ⟨rfl, bthen hb1 hb⟩
  · have eE : apartE r o r' o' t = checkK r o t := by rw [apartE, if_neg h]
    rw [showsR, if_neg h] at C
    rw [apartR, eE, if_neg h]
    have hx : (checkK r o t != 0) = true := by simpa using h
    clear h eE D
    generalize checkK r o t = x at C hx ⊢
    go_enter Try.func10, Try.ntmps10
    go_wp2_with fail
    refine (C.out _).mono ?_
    rintro e w1 ⟨rfl, hb⟩
    go_wp2
    go_ret2
    exact ⟨rfl, below_new (below_new hb)⟩
end Go.Proofs.Ytidlfbemamoflaa
