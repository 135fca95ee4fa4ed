/-
  The law EvqMore (bounded: what it makes is longer than what came in).
-/
import Derived.Test.YtlanmehbcpgoaaaEvqLaws4
namespace Go.Proofs.Ytlanmehbcpgoaaa
open Go.RowKit
set_option linter.unusedVariables false

/-- The state between rounds: both lists of operations. -/
structure MSt (w wr : World) (C R : List EvO) (u v : Value) : Prop where
  o5 : OwG opC 2 wr w.heap.size 36 u C
  o6 : OwG opC 2 wr w.heap.size 36 v R
  ap : Apart2 u v
  bel : Below w.heap.size w wr
section
variable {w wr w' : World} {C R l : List EvO} {u v x : Value}
theorem Apart2.movesG {w w' : World} {base : Nat} {e : TypeId} {u v v' : Value} {l : List EvO} (h : Apart2 u v) (hm : Moves w w' v v') (hu : OwG opC 2 w base e u l) : Apart2 u v' := by
  intro k h1 h2
  rcases hm.2 with e | e
  · exact h k h1 (by rw [← e]; exact h2)
  · have := e k h2
    have := (World.ownsRow.lt hu k h1).2
    omega
theorem MSt.alloc (h : MSt w wr C R u v) (o : Obj) : MSt w (wr.alloc o) C R u v := ⟨h.o5.alloc o, h.o6.alloc o, h.ap, h.bel.alloc h.bel.size o⟩
theorem MSt.put5 (h : MSt w wr C R u v) (ho : OwG opC 2 w' w.heap.size 36 x l) (hm : Moves wr w' u x) : MSt w w' l R x v :=
  ⟨ho, h.o6.moves hm (fun k h1 h2 => h.ap k h2 h1), (h.ap.symm.movesG hm h.o6).symm, hm.below h.bel h.bel.size h.o5.block⟩
theorem MSt.put6 (h : MSt w wr C R u v) (ho : OwG opC 2 w' w.heap.size 36 x l) (hm : Moves wr w' v x) : MSt w w' C l u x :=
  ⟨h.o5.moves hm (fun k h1 h2 => h.ap k h1 h2), ho, h.ap.movesG hm h.o5, hm.below h.bel h.bel.size h.o6.block⟩
end
theorem calmE_snoc : ∀ (l : List Int) (x : Int), calmE (l ++ [x]) = calmE l ++ [⟨1, x⟩, ⟨2, 0⟩, ⟨3, 0⟩]
  | [], x => rfl
  | y :: l, x => by
    show (⟨1, y⟩ : EvO) :: ⟨2, 0⟩ :: ⟨3, 0⟩ :: calmE (l ++ [x]) = ⟨1, y⟩ :: ⟨2, 0⟩ :: ⟨3, 0⟩ :: (calmE l ++ [⟨1, x⟩, ⟨2, 0⟩, ⟨3, 0⟩])
    rw [calmE_snoc l x]
theorem calmE_len : ∀ l : List Int, (calmE l).length = 3 * l.length
  | [] => rfl
  | y :: l => by
    show (calmE l).length + 1 + 1 + 1 = 3 * (l.length + 1)
    rw [calmE_len l]
    omega
def sendsIn (R : List EvO) : Nat := R.countP fun o => decide (o.kd = 1)
set_option maxHeartbeats 3200000 in
theorem EvqMore_walk (A0 : Option Addr) (n0 c0 : Nat) (l0 : List Int) (A1 : Option Addr) (n1 c1 : Nat) (l1 : List Int) (w : World) (h0 : Rd w 1 A0 n0 (l0.map (Value.int .i64))) (q0 : ∀ x ∈ l0, (Lit.int .i64 x).wf = true) (k0 : n0 ≤ c0) (b0 : c0 ≤ 1048576) (h1 : Rd w 1 A1 n1 (l1.map (Value.int .i64))) (q1 : ∀ x ∈ l1, (Lit.int .i64 x).wf = true) (k1 : n1 ≤ c1) (b1 : c1 ≤ 1048576) :
    Calls Try.prog 8 #[.slice A0 n0 c0, .slice A1 n1 c1] w fun e w' => e = .returned (.bool true) ∧ Below w.heap.size w w' := by
  have Hl0 := Lib.hid h0.lenMap
  have C0 := Lib.hid (alive18_any w)
  clear q0 q1
  go_enter Try.func8, Try.ntmps8
  go_wp2_with fail
  refine C0.out.mono ?_
  rintro e w1 ⟨rfl, hb1⟩
  clear C0
  go_wp2
  go_loopw [5, 6, 19] (fun u v i wr => ∃ (j : Nat) (R : List EvO), j ≤ n0 ∧ i = .int .i64 j ∧ MSt w wr (calmE (l0.take j)) R u v ∧ sendsIn R = j ∧ R.length ≤ 3 * j) (fun _ _ i _ => n0 - (intOf i).toNat)
  case atStart => exact ⟨0, [], Nat.zero_le _, rfl, ⟨OwG.nil _ _ _, OwG.nil _ _ _, Apart2.nil _ _, hb1⟩, rfl, Nat.le_refl _⟩
  case round =>
    obtain ⟨j, R, hj, rfl, hst, hsn, hrl⟩ := hrel
    clear hb1
    by_cases hlt : j < n0
    · obtain ⟨ad, x, rfl, hx, hc⟩ := (h0.below hst.bel).atMap hlt
      have Hs : Hid (calmE (l0.take (j + 1)) = calmE (l0.take j) ++ [⟨1, x⟩, ⟨2, 0⟩, ⟨3, 0⟩]) := by show _ = _; rw [take_snoc hx, calmE_snoc]
      have Hlen : Hid ((calmE (l0.take j)).length = 3 * j) := by show _ = _; rw [calmE_len, List.length_take, Hl0.out]; omega
      have H := Lib.hid hst
      have hbs := hst.bel.size
      have Hsn := Lib.hid hsn
      have Hrl := Lib.hid hrl
      have h1b := h1.below hst.bel
      clear hst hsn hrl hx
      generalize calmE (l0.take j) = C at *
      by_cases hk1 : j < n1
      · obtain ⟨ad1, y, rfl, hy, hcy⟩ := h1.atMap hk1
        have H1c : Hid (∀ W, Below w.heap.size w W → W.cell? (ad1.add j) = some (.int .i64 y)) := fun W hW => (hW.cell (World.block_lt_of_cell? _ _ hcy)).trans hcy
        clear hcy h1b hy
        go_wp2_with (first
          | (at_builtin; refine wpList_apG opK _ elOp rfl rfl w.heap.size u5 C rfl (H.out.o5.alloc _) _ 3 3 [(⟨1, x⟩ : EvO), ⟨2, 0⟩, ⟨3, 0⟩] rfl (Rd.litFlat opK.len [(⟨1, x⟩ : EvO), ⟨2, 0⟩, ⟨3, 0⟩] _ rfl) (by simp; omega) (by have := Hlen.out; omega) (by have := Hlen.out; omega) ?_; intro v7 w7 hh1 hh2; have HA := Lib.hid ((H.out.alloc _).put5 hh1 hh2); have HAs := HA.out.bel.size; clear hh1 hh2)
          | (at_builtin; refine wpList_apG opK _ elOp rfl rfl w.heap.size u6 R rfl (HA.out.o6.alloc _) _ 1 1 [(⟨1, x⟩ : EvO)] rfl (Rd.litFlat opK.len [(⟨1, x⟩ : EvO)] _ rfl) (by simp; omega) (by have := Hrl.out; omega) (by have := Hrl.out; omega) ?_; intro v8 w8 hh1 hh2; have HB := Lib.hid ((HA.out.alloc _).put6 hh1 hh2); have HBs := HB.out.bel.size; have hcy := H1c.out _ HB.out.bel; clear hh1 hh2)
          | (at_builtin; refine wpList_apG opK _ elOp rfl rfl w.heap.size v8 (R ++ [(⟨1, x⟩ : EvO)]) rfl (HB.out.o6.alloc _) _ 1 1 [(⟨2, y⟩ : EvO)] rfl (Rd.litFlat opK.len [(⟨2, y⟩ : EvO)] _ rfl) (by simp; omega) (by have := Hrl.out; rw [List.length_append, List.length_singleton]; omega) (by have := Hrl.out; rw [List.length_append, List.length_singleton]; omega) ?_; intro v9 w9 hh1 hh2; have HC := Lib.hid ((HB.out.alloc _).put6 hh1 hh2); have HCs := HC.out.bel.size; clear hh1 hh2)
          | (at_builtin; refine wpList_apG opK _ elOp rfl rfl w.heap.size v9 ((R ++ [(⟨1, x⟩ : EvO)]) ++ [(⟨2, y⟩ : EvO)]) rfl (HC.out.o6.alloc _) _ 1 1 [(⟨3, 0⟩ : EvO)] rfl (Rd.litFlat opK.len [(⟨3, 0⟩ : EvO)] _ rfl) (by simp; omega) (by have := Hrl.out; rw [List.length_append, List.length_append, List.length_singleton, List.length_singleton]; omega) (by have := Hrl.out; rw [List.length_append, List.length_append, List.length_singleton, List.length_singleton]; omega) ?_; intro v10 w10 hh1 hh2; have HD := Lib.hid ((HC.out.alloc _).put6 hh1 hh2); have HDs := HD.out.bel.size; clear hh1 hh2))
        go_roundw
        case rel => exact ⟨j + 1, _, by omega, by go_num, by rw [Hs.out]; exact HD.out, by have := Hsn.out; unfold sendsIn at this ⊢; rw [List.countP_append, List.countP_append, List.countP_append, this]; rfl, by have := Hrl.out; rw [List.length_append, List.length_append, List.length_append]; simp; omega⟩
        case measure => simp [intOf] <;> omega
      · have hk1' : ¬ (j : Int) < (n1 : Int) := by omega
        clear h1b
        go_wp2_with (first
          | (at_builtin; refine wpList_apG opK _ elOp rfl rfl w.heap.size u5 C rfl (H.out.o5.alloc _) _ 3 3 [(⟨1, x⟩ : EvO), ⟨2, 0⟩, ⟨3, 0⟩] rfl (Rd.litFlat opK.len [(⟨1, x⟩ : EvO), ⟨2, 0⟩, ⟨3, 0⟩] _ rfl) (by simp; omega) (by have := Hlen.out; omega) (by have := Hlen.out; omega) ?_; intro v7 w7 hh1 hh2; have HA := Lib.hid ((H.out.alloc _).put5 hh1 hh2); have HAs := HA.out.bel.size; clear hh1 hh2)
          | (at_builtin; refine wpList_apG opK _ elOp rfl rfl w.heap.size u6 R rfl (HA.out.o6.alloc _) _ 1 1 [(⟨1, x⟩ : EvO)] rfl (Rd.litFlat opK.len [(⟨1, x⟩ : EvO)] _ rfl) (by simp; omega) (by have := Hrl.out; omega) (by have := Hrl.out; omega) ?_; intro v8 w8 hh1 hh2; have HB := Lib.hid ((HA.out.alloc _).put6 hh1 hh2); have HBs := HB.out.bel.size; clear hh1 hh2)
          | (at_builtin; refine wpList_apG opK _ elOp rfl rfl w.heap.size v8 (R ++ [(⟨1, x⟩ : EvO)]) rfl (HB.out.o6.alloc _) _ 1 1 [(⟨3, 0⟩ : EvO)] rfl (Rd.litFlat opK.len [(⟨3, 0⟩ : EvO)] _ rfl) (by simp; omega) (by have := Hrl.out; rw [List.length_append, List.length_singleton]; omega) (by have := Hrl.out; rw [List.length_append, List.length_singleton]; omega) ?_; intro v10 w10 hh1 hh2; have HD := Lib.hid ((HB.out.alloc _).put6 hh1 hh2); have HDs := HD.out.bel.size; clear hh1 hh2))
        go_roundw
        case rel => exact ⟨j + 1, _, by omega, by go_num, by rw [Hs.out]; exact HD.out, by have := Hsn.out; unfold sendsIn at this ⊢; rw [List.countP_append, List.countP_append, this]; rfl, by have := Hrl.out; rw [List.length_append, List.length_append]; simp; omega⟩
        case measure => simp [intOf] <;> omega
    · obtain rfl : j = n0 := by omega
      rw [List.take_of_length_le (by rw [Hl0.out]; exact Nat.le_refl _)] at hst
      have hcl : (calmE l0).length = 3 * j := by rw [calmE_len, Hl0.out]
      obtain ⟨m, hm⟩ : ∃ m, R.length = m := ⟨_, rfl⟩
      obtain ⟨A5, c5, rfl, -, -, r5⟩ := hst.o5.formN hcl
      obtain ⟨A6, c6, rfl, -, -, r6⟩ := hst.o6.formN hm
      have C1 := Lib.hid (Play_any A5 (3 * j) c5 (calmE l0) wr r5 (by omega))
      have C2 := Lib.hid (fun (W : World) (hW : RdG opC 2 W A6 m R) => Play_any A6 m c6 R W hW (by omega))
      unfold GivesPlay at C1 C2
      rw [calm_taken] at C1
      have hfew := taken_few R
      rw [show (R.countP fun o => decide (o.kd = 1)) = j from hsn] at hfew
      generalize evErrs (calmE l0) = E at *
      generalize ((evRun (calmE l0)).cm : Int) - ((evRun (calmE l0)).tk : Int) = U at *
      generalize ((evRun (calmE l0)).al.length : Int) - ((evRun (calmE l0)).kn : Int) = D at *
      generalize evErrs R = E' at *
      generalize evTaken (evRun R) = T' at *
      generalize ((evRun R).cm : Int) - ((evRun R).tk : Int) = U' at *
      generalize ((evRun R).al.length : Int) - ((evRun R).kn : Int) = D' at *
      obtain ⟨k, hk⟩ : ∃ k, T'.length = k := ⟨_, rfl⟩
      rw [hk] at hfew
      have hkj : (k : Int) ≤ (j : Int) := by omega
      have HB := Lib.hid hst.bel
      have R6 := Lib.hid r6
      have H0 := Lib.hid (h0.below hst.bel)
      clear hst hsn hrl hcl hm r5 r6 h0 h1 hlt
      go_wp2_with fail
      refine C1.out.mono ?_
      rintro e w2 ⟨u2, v2, rfl, he2, ht2, hb2⟩
      have T2 := Lib.hid (ht2.alloc (.cells #[.int .i64 D, .int .i64 U] 25))
      have R2 := Lib.hid ((R6.out.below hb2).alloc (.cells #[.int .i64 D, .int .i64 U] 25))
      have H2 := Lib.hid ((H0.out.below hb2).alloc (.cells #[.int .i64 D, .int .i64 U] 25))
      have HB2 := Lib.hid ((bthen HB.out hb2).alloc (bthen HB.out hb2).size (.cells #[.int .i64 D, .int .i64 U] 25))
      clear C1 he2 ht2 hb2 HB R6 H0
      go_upto_region 14 with fail
      generalize w2.alloc (.cells #[.int .i64 D, .int .i64 U] 25) = w3 at *
      go_wp2_with fail
      refine (C2.out _ R2.out).mono ?_
      rintro e w4 ⟨u4, v4, rfl, he4, ht4, hb4⟩
      obtain ⟨B2, d2, rfl, -, -, s2⟩ := (T2.out.below hb4).formN Hl0.out
      obtain ⟨B4, d4, rfl, -, -, -⟩ := ht4.formN hk
      have h4 := H2.out.below hb4
      have hB4 := bthen HB2.out hb4
      have CI := Lib.hid (EqualI_any_same B2 A0 j d2 j c0 l0 (w4.alloc (.cells #[.int .i64 D', .int .i64 U'] 25)) (s2.alloc _) (h4.alloc _) (by omega))
      have HB4 := Lib.hid (hB4.alloc hB4.size (.cells #[.int .i64 D', .int .i64 U'] 25))
      clear C2 he4 ht4 hb4 T2 R2 H2 HB2 s2 h4 hB4
      go_upto_region 15 with fail
      generalize w4.alloc (.cells #[.int .i64 D', .int .i64 U'] 25) = w5 at *
      go_wp2_with fail
      refine CI.out.mono ?_
      rintro e w6 ⟨rfl, hb6⟩
      have hB6 := bthen HB4.out hb6
      clear CI hb6 HB4
      go_wp2
      go_ret
      exact ⟨rfl, hB6⟩
end Go.Proofs.Ytlanmehbcpgoaaa
