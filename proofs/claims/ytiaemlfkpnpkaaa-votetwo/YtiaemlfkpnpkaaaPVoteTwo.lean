/-
  The law VoteTwo: for every input the call returns true, and each argument reads afterwards as it read before. The walk is VoteTwo_walk; this text closes the row by it.
-/
import Derived.Test.YtiaemlfkpnpkaaaVoteLaws3
import Derived.Test.YtiaemlfkpnpkaaaOpen
namespace Go.Proofs.Ytiaemlfkpnpkaaa.voteTwo
open Go.ChangeShapes Go.WideShapes Go.ChangeAt Go.RowKit
open Go.ChangeMaps (open_string shut_string)
set_option linter.unusedVariables false

theorem own : ownKnob Try.prog.godebug = none := by kernel_rfl
theorem laidOut : laidOutB Try.prog = true := by kernel_rfl

set_option maxRecDepth 100000 in
theorem contract (H : Type) (enc : TypeId × Value → H) (W : World) (base : Nat) (args : Array Value) (ds gs : List (DataW H)) (before : List MemPlace)
    (hval : ∀ (j : Nat) t v, Try.f3.params[j]? = some t → args[j]? = some v → Value.okWide Try.prog W .any base t v)
    (hW : DataW.Whole enc Try.prog Try.f3.params.toList Rows.voteTwoSpec.vars false W args.toList ds gs before) (hsz : (DataW.weightsEach Try.prog (Try.f3.params.toList ++ Rows.voteTwoSpec.plain.varTypes Try.prog) (ds ++ gs)).all (· ≤ reachBytes) = true) :
    Calls Try.prog 3 args W fun e W' => ∃ v, e = .returned v ∧ Rows.voteTwoSpec.post enc Try.prog Try.f3 false true false false W args v W' := by
  have hW' := hW
  obtain ⟨p, q, hA0, hV, rfl, hfz, hnd⟩ := hW
  have hA : DataW.TrodAll enc Try.prog W 0 (fun _ => true) true Try.f3.params.toList args.toList ds p := hA0
  rw [Try.params3] at hA hval
  obtain ⟨v0, vs0, d0, ds0, p0, q0, hargs, rfl, rfl, t0, r0⟩ := trodAll_cons hA
  obtain ⟨v1, vs1, d1, ds1, p1, q1, rfl, rfl, rfl, t1, r1⟩ := trodAll_cons r0
  obtain ⟨v2, vs2, d2, ds2, p2, q2, rfl, rfl, rfl, t2, r2⟩ := trodAll_cons r1
  obtain ⟨rfl, rfl, rfl⟩ := trodAll_nil r2
  obtain rfl : args = #[v0, v1, v2] := by cases args; simp_all
  obtain ⟨rfl, rfl⟩ := trodVars_none hV
  obtain ⟨hz0, rz0⟩ := reach_cons (show (DataW.weightsEach Try.prog (23 :: [23, 24]) (d0 :: [d1, d2])).all (· ≤ reachBytes) = true from hsz)
  obtain ⟨hz1, rz1⟩ := reach_cons (show (DataW.weightsEach Try.prog (23 :: [24]) (d1 :: [d2])).all (· ≤ reachBytes) = true from rz0)
  obtain ⟨hz2, rz2⟩ := reach_cons (show (DataW.weightsEach Try.prog (24 :: []) (d2 :: [])).all (· ≤ reachBytes) = true from rz1)
  have lt0 : ∀ x ∈ p0, x.block < W.heap.size := by obtain ⟨m, hm⟩ := t0; exact DataW.trod_lt m _ _ _ hm
  have k0 := t0
  obtain ⟨f0a, f0b, y0a, y0b, m0, rfl, rfl, rfl, hy0a, hy0b⟩ := Go.Joins.open_agg2 Try.underlying23 (by kernel_rfl) (by kernel_rfl) (hval 0 23 v0 rfl rfl) t0
  obtain ⟨a0_a, e0a, rfl⟩ := DataW.trod_bool Try.underlying4 hy0a
  simp at e0a
  subst e0a
  obtain ⟨a0_b, e0b, rfl, w0_b⟩ := DataW.trod_int Try.underlying3 hy0b
  simp at e0b
  subst e0b
  have lt1 : ∀ x ∈ p1, x.block < W.heap.size := by obtain ⟨m, hm⟩ := t1; exact DataW.trod_lt m _ _ _ hm
  have k1 := t1
  obtain ⟨f1a, f1b, y1a, y1b, m1, rfl, rfl, rfl, hy1a, hy1b⟩ := Go.Joins.open_agg2 Try.underlying23 (by kernel_rfl) (by kernel_rfl) (hval 1 23 v1 rfl rfl) t1
  obtain ⟨a1_a, e1a, rfl⟩ := DataW.trod_bool Try.underlying4 hy1a
  simp at e1a
  subst e1a
  obtain ⟨a1_b, e1b, rfl, w1_b⟩ := DataW.trod_int Try.underlying3 hy1b
  simp at e1b
  subst e1b
  have lt2 : ∀ x ∈ p2, x.block < W.heap.size := by obtain ⟨m, hm⟩ := t2; exact DataW.trod_lt m _ _ _ hm
  have k2 := t2
  obtain ⟨A2, n2, c2, rfl⟩ := okWide_slice Try.underlying24 (hval 2 24 v2 rfl rfl)
  obtain ⟨kk2, cm2, l2, h2, w2s, dd2⟩ := open_nums .i64 Try.underlying24 Try.underlying3 (by kernel_rfl) t2
  have b2 := reach_slice Try.underlying24 (show Try.prog.bytesOf 3 = 8 by kernel_rfl) hz2 dd2
  refine (VoteTwo_walk a0_a a0_b a1_a a1_b A2 n2 c2 l2 W w0_b w1_b h2 w2s kk2 b2).mono fun e W' ⟨he, bel⟩ => ?_
  subst he
  exact ⟨_, rfl, _, _, _, [], _, [], hW', trodAll_mk1 (shut_bool Try.underlying4 _), (trodAll_cons_mk (Below.trod laidOut (by kernel_rfl) (of_decide_eq_true (by kernel_rfl)) k0 bel lt0) (trodAll_cons_mk (Below.trod laidOut (by kernel_rfl) (of_decide_eq_true (by kernel_rfl)) k1 bel lt1) (trodAll_cons_mk (Below.trod laidOut (by kernel_rfl) (of_decide_eq_true (by kernel_rfl)) k2 bel lt2) trodAll_mk0))), rfl, bel.frame _, fun h => by cases h⟩

set_option maxRecDepth 100000 in
theorem lifted (os : Os) (started : os.Started) (H : Type) (enc : TypeId × Value → H) :
    ReturnsInHanded {} Try.checked os 3 .any (Rows.voteTwoSpec.pre6 enc Try.prog Try.f3 Rows.voteTwoRow.domain false) (Rows.voteTwoSpec.post enc Try.prog Try.f3 false true false false) := by
  refine returnsInHanded_of_change_sized (C := Try.checked) own started (by kernel_rfl) Try.func3
    (ChangeSpec.witness6 (enc := enc) (C := Try.checked) false ⟨#[], #[.agg #[.bool false, .int .i64 0], .agg #[.bool false, .int .i64 0], .slice none 0 0], []⟩ 8 (by kernel_rfl) (by kernel_rfl) (by kernel_rfl) (by kernel_rfl)) ?_
  intro W base args ds gs before hval hW _ hsz _
  exact contract H enc W base args ds gs before hval hW hsz

theorem over : Rows.voteTwoRow.holds Try.pinned (OpenSpec.ofChange Rows.voteTwoSpec) :=
  OpenClaim.holds_of_wide 3 Try.f3 rfl rfl rfl rfl rfl rfl rfl ⟨rfl, rfl, rfl, rfl, rfl⟩ rfl rfl rfl rfl rfl (by kernel_rfl) Try.func3 (by kernel_rfl)
    (of_decide_eq_true (by kernel_rfl)) (by unfold Func.isWrapper; first | (rw [if_pos (by decide +kernel)]; kernel_rfl) | (rw [if_neg (by decide +kernel)]; exact ⟨rfl, rfl⟩))
    (fun os started H enc _ => lifted os started H enc)
end Go.Proofs.Ytiaemlfkpnpkaaa.voteTwo
namespace Go.Proofs.Ytiaemlfkpnpkaaa
theorem VoteTwo_holds : Rows.VoteTwoSaid := voteTwo.over
#print axioms VoteTwo_holds
end Go.Proofs.Ytiaemlfkpnpkaaa
