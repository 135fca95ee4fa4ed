/-
  The law FieldSets: for every input the call returns true, and each argument reads afterwards as it read before. The walk is FieldSets_walk; this text closes the row by it.
-/
import Derived.Test.YtldkmopkakdgnaaFieldLaws5
import Derived.Test.YtldkmopkakdgnaaOpen
namespace Go.Proofs.Ytldkmopkakdgnaa.fieldSets
open Go.ChangeShapes Go.WideShapes Go.ChangeAt Go.RowKit
open Go.ChangeMaps (open_string shut_string)
set_option linter.unusedVariables false

theorem own : ownKnob Try.prog.godebug = none := by kernel_rfl
theorem laidOut : laidOutB Try.prog = true := by kernel_rfl

set_option maxRecDepth 100000 in
theorem contract (H : Type) (enc : TypeId × Value → H) (W : World) (base : Nat) (args : Array Value) (ds gs : List (DataW H)) (before : List MemPlace)
    (hval : ∀ (j : Nat) t v, Try.f3.params[j]? = some t → args[j]? = some v → Value.okWide Try.prog W .any base t v)
    (hW : DataW.Whole enc Try.prog Try.f3.params.toList Rows.fieldSetsSpec.vars false W args.toList ds gs before) (hsz : (DataW.weightsEach Try.prog (Try.f3.params.toList ++ Rows.fieldSetsSpec.plain.varTypes Try.prog) (ds ++ gs)).all (· ≤ reachBytes) = true) :
    Calls Try.prog 3 args W fun e W' => ∃ v, e = .returned v ∧ Rows.fieldSetsSpec.post enc Try.prog Try.f3 false true false false W args v W' := by
  have hW' := hW
  obtain ⟨p, q, hA0, hV, rfl, hfz, hnd⟩ := hW
  have hA : DataW.TrodAll enc Try.prog W 0 (fun _ => true) true Try.f3.params.toList args.toList ds p := hA0
  rw [Try.params3] at hA hval
  obtain ⟨v0, vs0, d0, ds0, p0, q0, hargs, rfl, rfl, t0, r0⟩ := trodAll_cons hA
  obtain ⟨v1, vs1, d1, ds1, p1, q1, rfl, rfl, rfl, t1, r1⟩ := trodAll_cons r0
  obtain ⟨v2, vs2, d2, ds2, p2, q2, rfl, rfl, rfl, t2, r2⟩ := trodAll_cons r1
  obtain ⟨v3, vs3, d3, ds3, p3, q3, rfl, rfl, rfl, t3, r3⟩ := trodAll_cons r2
  obtain ⟨v4, vs4, d4, ds4, p4, q4, rfl, rfl, rfl, t4, r4⟩ := trodAll_cons r3
  obtain ⟨rfl, rfl, rfl⟩ := trodAll_nil r4
  obtain rfl : args = #[v0, v1, v2, v3, v4] := by cases args; simp_all
  obtain ⟨rfl, rfl⟩ := trodVars_none hV
  obtain ⟨hz0, rz0⟩ := reach_cons (show (DataW.weightsEach Try.prog (22 :: [24, 24, 3, 3]) (d0 :: [d1, d2, d3, d4])).all (· ≤ reachBytes) = true from hsz)
  obtain ⟨hz1, rz1⟩ := reach_cons (show (DataW.weightsEach Try.prog (24 :: [24, 3, 3]) (d1 :: [d2, d3, d4])).all (· ≤ reachBytes) = true from rz0)
  obtain ⟨hz2, rz2⟩ := reach_cons (show (DataW.weightsEach Try.prog (24 :: [3, 3]) (d2 :: [d3, d4])).all (· ≤ reachBytes) = true from rz1)
  obtain ⟨hz3, rz3⟩ := reach_cons (show (DataW.weightsEach Try.prog (3 :: [3]) (d3 :: [d4])).all (· ≤ reachBytes) = true from rz2)
  obtain ⟨hz4, rz4⟩ := reach_cons (show (DataW.weightsEach Try.prog (3 :: []) (d4 :: [])).all (· ≤ reachBytes) = true from rz3)
  have lt0 : ∀ x ∈ p0, x.block < W.heap.size := by obtain ⟨m, hm⟩ := t0; exact DataW.trod_lt m _ _ _ hm
  have k0 := t0
  obtain ⟨A0, n0, c0, rfl⟩ := okWide_slice Try.underlying22 (hval 0 22 v0 rfl rfl)
  obtain ⟨kk0, cm0, l0, h0, w0s, dd0⟩ := open_nums .u8 Try.underlying22 Try.underlying5 (by kernel_rfl) t0
  have b0 := reach_slice Try.underlying22 (show Try.prog.bytesOf 5 = 1 by kernel_rfl) hz0 dd0
  have lt1 : ∀ x ∈ p1, x.block < W.heap.size := by obtain ⟨m, hm⟩ := t1; exact DataW.trod_lt m _ _ _ hm
  have k1 := t1
  obtain ⟨f1a, f1b, f1c, y1a, y1b, y1c, m1, rfl, rfl, rfl, hy1a, hy1b, hy1c⟩ := Go.Joins.open_agg3 Try.underlying24 (by kernel_rfl) (by kernel_rfl) (hval 1 24 v1 rfl rfl) t1
  obtain ⟨a1_a, e1a, rfl, w1_a⟩ := DataW.trod_int Try.underlying3 hy1a
  simp at e1a
  subst e1a
  obtain ⟨a1_b, e1b, rfl, w1_b⟩ := DataW.trod_int Try.underlying3 hy1b
  simp at e1b
  subst e1b
  obtain ⟨a1_c, e1c, rfl⟩ := DataW.trod_bool Try.underlying4 hy1c
  simp at e1c
  subst e1c
  have lt2 : ∀ x ∈ p2, x.block < W.heap.size := by obtain ⟨m, hm⟩ := t2; exact DataW.trod_lt m _ _ _ hm
  have k2 := t2
  obtain ⟨f2a, f2b, f2c, y2a, y2b, y2c, m2, rfl, rfl, rfl, hy2a, hy2b, hy2c⟩ := Go.Joins.open_agg3 Try.underlying24 (by kernel_rfl) (by kernel_rfl) (hval 2 24 v2 rfl rfl) t2
  obtain ⟨a2_a, e2a, rfl, w2_a⟩ := DataW.trod_int Try.underlying3 hy2a
  simp at e2a
  subst e2a
  obtain ⟨a2_b, e2b, rfl, w2_b⟩ := DataW.trod_int Try.underlying3 hy2b
  simp at e2b
  subst e2b
  obtain ⟨a2_c, e2c, rfl⟩ := DataW.trod_bool Try.underlying4 hy2c
  simp at e2c
  subst e2c
  have lt3 : ∀ x ∈ p3, x.block < W.heap.size := by obtain ⟨m, hm⟩ := t3; exact DataW.trod_lt m _ _ _ hm
  have k3 := t3
  obtain ⟨a3, rfl, rfl, rfl, w3⟩ := open_int Try.underlying3 (hval 3 3 v3 rfl rfl) t3
  have lt4 : ∀ x ∈ p4, x.block < W.heap.size := by obtain ⟨m, hm⟩ := t4; exact DataW.trod_lt m _ _ _ hm
  have k4 := t4
  obtain ⟨a4, rfl, rfl, rfl, w4⟩ := open_int Try.underlying3 (hval 4 3 v4 rfl rfl) t4
  refine (FieldSets_walk A0 n0 c0 l0 a1_a a1_b a1_c a2_a a2_b a2_c a3 a4 W h0 w0s kk0 b0 w1_a w1_b w2_a w2_b w3 w4).mono fun e W' ⟨he, bel⟩ => ?_
  subst he
  exact ⟨_, rfl, _, _, _, [], _, [], hW', trodAll_mk1 (shut_bool Try.underlying4 _), (trodAll_cons_mk (Below.trod laidOut (by kernel_rfl) (of_decide_eq_true (by kernel_rfl)) k0 bel lt0) (trodAll_cons_mk (Below.trod laidOut (by kernel_rfl) (of_decide_eq_true (by kernel_rfl)) k1 bel lt1) (trodAll_cons_mk (Below.trod laidOut (by kernel_rfl) (of_decide_eq_true (by kernel_rfl)) k2 bel lt2) (trodAll_cons_mk (Below.trod laidOut (by kernel_rfl) (of_decide_eq_true (by kernel_rfl)) k3 bel lt3) (trodAll_cons_mk (Below.trod laidOut (by kernel_rfl) (of_decide_eq_true (by kernel_rfl)) k4 bel lt4) trodAll_mk0))))), rfl, bel.frame _, fun h => by cases h⟩

set_option maxRecDepth 100000 in
theorem lifted (os : Os) (started : os.Started) (H : Type) (enc : TypeId × Value → H) :
    ReturnsInHanded {} Try.checked os 3 .any (Rows.fieldSetsSpec.pre6 enc Try.prog Try.f3 Rows.fieldSetsRow.domain false) (Rows.fieldSetsSpec.post enc Try.prog Try.f3 false true false false) := by
  refine returnsInHanded_of_change_sized (C := Try.checked) own started (by kernel_rfl) Try.func3
    (ChangeSpec.witness6 (enc := enc) (C := Try.checked) false ⟨#[], #[.slice none 0 0, .agg #[.int .i64 0, .int .i64 0, .bool false], .agg #[.int .i64 0, .int .i64 0, .bool false], .int .i64 0, .int .i64 0], []⟩ 8 (by kernel_rfl) (by kernel_rfl) (by kernel_rfl) (by kernel_rfl)) ?_
  intro W base args ds gs before hval hW _ hsz _
  exact contract H enc W base args ds gs before hval hW hsz

theorem over : Rows.fieldSetsRow.holds Try.pinned (OpenSpec.ofChange Rows.fieldSetsSpec) :=
  OpenClaim.holds_of_wide 3 Try.f3 rfl rfl rfl rfl rfl rfl rfl ⟨rfl, rfl, rfl, rfl, rfl⟩ rfl rfl rfl rfl rfl (by kernel_rfl) Try.func3 (by kernel_rfl)
    (of_decide_eq_true (by kernel_rfl)) (by unfold Func.isWrapper; first | (rw [if_pos (by decide +kernel)]; kernel_rfl) | (rw [if_neg (by decide +kernel)]; exact ⟨rfl, rfl⟩))
    (fun os started H enc _ => lifted os started H enc)
end Go.Proofs.Ytldkmopkakdgnaa.fieldSets
namespace Go.Proofs.Ytldkmopkakdgnaa
theorem FieldSets_holds : Rows.FieldSetsSaid := fieldSets.over
#print axioms FieldSets_holds
end Go.Proofs.Ytldkmopkakdgnaa
