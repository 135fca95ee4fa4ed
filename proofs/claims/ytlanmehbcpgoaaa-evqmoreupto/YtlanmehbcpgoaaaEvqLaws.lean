/-
  slices.Equal of errors; the law EvqPlays; alive18; handed.
-/
import Derived.Test.YtlanmehbcpgoaaaEvqRef
import Derived.Test.YtlanmehbcpgoaaaSlices
namespace Go.Proofs.Ytlanmehbcpgoaaa
open Go.RowKit
set_option linter.unusedVariables false

set_option maxHeartbeats 400000 in
/-- slices.Equal: EqualE_any: lists of Int, as Value.int .i64. -/
theorem EqualE_any (A B : Option Addr) (n c m d : Nat) (l l' : List Int) (w : World) (h : Rd w 1 A n (l.map (Value.int .i64))) (h' : Rd w 1 B m (l'.map (Value.int .i64))) (hn : n ≤ 4611686018427387904) :
    Calls Try.prog 11 #[.slice A n c, .slice B m d] w fun e w' => e = .returned (.bool (decide (l = l'))) ∧ ∃ q, w' = w.drewN q := by
  have hl := h.lenMap
  have hl' := h'.lenMap
  by_cases hnm : n = m
  · subst hnm
    have Hl := Lib.hid hl; clear hl
    have Hl' := Lib.hid hl'; clear hl'
    go_enter Try.func11, Try.ntmps11
    go_wp2
    go_loopw [13] (fun i wr => ∃ k : Nat, k ≤ n ∧ i = .int .i64 k ∧ l.take k = l'.take k ∧ ∃ q, wr = w.drewN q) (fun i _ => n - (intOf i).toNat)
    case atStart => exact ⟨0, Nat.zero_le _, rfl, rfl, 0, rfl⟩
    case round =>
      obtain ⟨k, hk, rfl, htk, q, rfl⟩ := hrel
      have Htk := Lib.hid htk; clear htk
      by_cases hlt : k < n
      · obtain ⟨ad, x, rfl, hx, hc⟩ := h.atMap hlt
        obtain ⟨ad', x', rfl, hx', hc'⟩ := h'.atMap hlt
        have Hx := Lib.hid hx; clear hx
        have Hx' := Lib.hid hx'; clear hx'
        by_cases hxx : x = x'
        · subst hxx
          go_wp2
          go_quiet (fail)
          go_wp2
          go_roundw
          case rel => exact ⟨k + 1, by omega, by go_num, by rw [take_snoc Hx.out, take_snoc Hx'.out, Htk.out], _, rfl⟩
          case measure => simp [intOf] <;> omega
        · have hne : (x != x') = true := by simp [hxx]
          have hne2 : (x == x') = false := by simp [hxx]
          have Hxx := Lib.hid hxx; clear hxx
          go_wp2
          go_quiet (fail)
          go_wp2
          go_ret
          refine ⟨ret_bool ?_, _, World.drewN_drewN _ _ _⟩
          rw [eq_comm, decide_eq_false_iff_not]
          intro e
          subst e
          exact Hxx.out (Option.some.inj (Hx.out.symm.trans Hx'.out))
      · have hnk : k = n := by omega
        subst hnk
        go_wp2
        go_ret
        refine ⟨ret_bool ?_, _, rfl⟩
        have e := Htk.out
        rw [List.take_of_length_le (by rw [Hl.out]; exact Nat.le_refl _), List.take_of_length_le (by rw [Hl'.out]; exact Nat.le_refl _)] at e
        simp [e]
  · have hne : ((n : Int) != (m : Int)) = true := by rw [bne_iff_ne]; omega
    have Hd : Hid (decide (l = l') = false) := by
      show _ = _
      rw [decide_eq_false_iff_not]
      intro e
      subst e
      exact hnm (hl.symm.trans hl')
    clear hl hl' hnm
    go_enter Try.func11, Try.ntmps11
    go_wp2
    go_ret
    exact ⟨ret_bool Hd.out.symm, 0, rfl⟩

theorem EqualE_any_same (A B : Option Addr) (n c m d : Nat) (l : List Int) (w : World) (h : Rd w 1 A n (l.map (Value.int .i64))) (h' : Rd w 1 B m (l.map (Value.int .i64))) (hn : n ≤ 4611686018427387904) :
    Calls Try.prog 11 #[.slice A n c, .slice B m d] w fun e w' => e = .returned (.bool true) ∧ Below w.heap.size w w' := by
  refine (EqualE_any A B n c m d l l w h h' hn).mono ?_
  rintro e w' ⟨rfl, hq⟩
  exact ⟨by simp, below_draws hq⟩
/-- == of two arrays of two ints. -/
theorem eq_pair (a b c d : Int) (w : World) : (Op.equalIn 10000 25 (.agg #[.int .i64 a, .int .i64 b]) (.agg #[.int .i64 c, .int .i64 d])).run Try.prog w = .ok (a == c && b == d) w := by
  have u3 := Try.underlying3
  have a3 := Try.isAgg3
  have z3 := Try.sizeOf3
  rw [show (10000 : Nat) = 9999 + 1 from rfl, Op.equalIn]
  simp only [Sem.run_bind, run_underlying Try.underlying25, Result.andThen_ok]
  simp only [Std.Legacy.Range.forIn_eq_forIn_range', Std.Legacy.Range.size, Nat.sub_zero, Nat.add_sub_cancel, Nat.div_one, List.range'_succ, List.range'_zero, List.forIn_cons, List.forIn_nil]
  go_simp
  by_cases h1 : a = c <;> by_cases h2 : b = d <;> simp [h1, h2]
theorem taken_small (l : List EvO) : (evTaken (evRun l)).length ≤ l.length := by
  rw [taken_len (ev_ok l)]
  have h := play_small l l.length
  rw [List.take_length] at h
  have := (ev_ok l).k3
  have := (ev_ok l).k4
  omega
theorem evRun_small (l : List EvO) : (evRun l).al.length ≤ l.length := by
  have h := play_small l l.length
  rwa [List.take_length] at h
set_option maxHeartbeats 1600000 in
theorem EvqPlays_walk (A0 : Option Addr) (n0 c0 : Nat) (l0 : List EvO) (w : World) (h0 : RdG opC 2 w A0 n0 l0) (q0 : ∀ s ∈ l0, in64 s.kd ∧ in64 s.n) (k0 : n0 ≤ c0) (b0 : c0 * 16 ≤ 140737488351232) :
    Calls Try.prog 3 #[.slice A0 n0 c0] w fun e w' => e = .returned (.bool true) ∧ Below w.heap.size w w' := by
  have hl0 := RdG.len opK h0
  have C1 := Lib.hid (Play_any A0 n0 c0 l0 w h0 (by omega))
  have C2 := Lib.hid (fun (W : World) (hW : RdG opC 2 W A0 n0 l0) => RPlay_any A0 n0 c0 l0 W hW (by omega))
  obtain ⟨m, hm⟩ : ∃ m, (evErrs l0).length = m := ⟨_, rfl⟩
  obtain ⟨k, hk⟩ : ∃ k, (evTaken (evRun l0)).length = k := ⟨_, rfl⟩
  have hmn : m ≤ 8796093022208 := by rw [← hm, evErrs_length]; omega
  have hkn : k ≤ 8796093022208 := by have := taken_small l0; omega
  unfold GivesPlay at C1 C2
  generalize evErrs l0 = E at *
  generalize evTaken (evRun l0) = T at *
  generalize ((evRun l0).al.length : Int) - ((evRun l0).kn : Int) = D at *
  generalize ((evRun l0).cm : Int) - ((evRun l0).tk : Int) = U at *
  clear q0 hl0
  go_enter Try.func3, Try.ntmps3
  go_wp2_with fail
  refine C1.out.mono ?_
  rintro e w2 ⟨u2, v2, rfl, he2, ht2, hb2⟩
  have h2 := Lib.hid (h0.below hb2)
  have He2 := Lib.hid he2
  have Ht2 := Lib.hid ht2
  clear he2 ht2 C1
  go_wp2_with fail
  have hx2 := Box.new w2 25 [.int .i64 D, .int .i64 U]
  refine (C2.out _ (h2.out.alloc _)).mono ?_
  rintro e w3 ⟨u3, v3, rfl, he3, ht3, hb3⟩
  have hx3 := hx2.below hb3 hx2.lt
  have hb3' := below_new hb3
  have he2 := He2.out.below hb3'
  have ht2 := Ht2.out.below hb3'
  obtain ⟨A2, c2, rfl, -, -, r2⟩ := he2.formN hm
  obtain ⟨A3, c3, rfl, -, -, r3⟩ := he3.formN hm
  obtain ⟨B2, d2, rfl, -, -, s2⟩ := ht2.formN hk
  obtain ⟨B3, d3, rfl, -, -, s3⟩ := ht3.formN hk
  have hB := bthen hb2 hb3'
  have R2 := Lib.hid (r2.alloc (.cells #[.int .i64 D, .int .i64 U] 25))
  have R3 := Lib.hid (r3.alloc (.cells #[.int .i64 D, .int .i64 U] 25))
  have S2 := Lib.hid (s2.alloc (.cells #[.int .i64 D, .int .i64 U] 25))
  have S3 := Lib.hid (s3.alloc (.cells #[.int .i64 D, .int .i64 U] 25))
  have X2 := Lib.hid (hx3.alloc (.cells #[.int .i64 D, .int .i64 U] 25))
  have X3 := Lib.hid (Box.new w3 25 [.int .i64 D, .int .i64 U])
  have HB := Lib.hid (hB.alloc hB.size (.cells #[.int .i64 D, .int .i64 U] 25))
  clear hx2 hx3 hb3 hb3' he2 ht2 he3 ht3 r2 r3 s2 s3 He2 Ht2 C2 h2 hB hb2 hm hk h0
  go_upto_region 3 with fail
  change Hid (Box (w3.alloc (.cells #[.int .i64 D, .int .i64 U] 25)) _ _ _) at X3
  generalize w3.alloc (.cells #[.int .i64 D, .int .i64 U] 25) = w4 at *
  have CE := Lib.hid (EqualE_any_same A2 A3 m c2 m c3 E w4 R2.out R3.out (by omega))
  have CI := Lib.hid (fun (W : World) (g : Rd W 1 B2 k (T.map (Value.int .i64))) (g' : Rd W 1 B3 k (T.map (Value.int .i64))) => EqualI_any_same B2 B3 k d2 k d3 T W g g' (by omega))
  go_wp2_with fail
  refine CE.out.mono ?_
  rintro e w5 ⟨rfl, hb5⟩
  have hB5 := bthen HB.out hb5
  have S2' := Lib.hid (S2.out.below hb5)
  have S3' := Lib.hid (S3.out.below hb5)
  have X2' := Lib.hid (X2.out.below hb5 X2.out.lt)
  have X3' := Lib.hid (X3.out.below hb5 X3.out.lt)
  clear CE R2 R3 S2 S3 X2 X3 HB hb5
  go_wp2_with fail
  refine (CI.out _ S2'.out S3'.out).mono ?_
  rintro e w6 ⟨rfl, hb6⟩
  have hB6 := bthen hB5 hb6
  have x2 := X2'.out.below hb6 X2'.out.lt
  have x3 := X3'.out.below hb6 X3'.out.lt
  have p0 := x2.cell 0 rfl
  have p1 := x2.cell 1 rfl
  have q0 := x3.cell 0 rfl
  have q1 := x3.cell 1 rfl
  have hq := fun (W : World) => eq_pair D U D U W
  clear CI S2' S3' X2' X3' hB5 hb6 x2 x3
  go_wp2
  go_ret
  exact ⟨rfl, hB6⟩
end Go.Proofs.Ytlanmehbcpgoaaa
