/-
  The walk of RmsLess: it returns true, at every argument.
-/
import Derived.Test.YtajfohnblmnjjaaRmsLaws3
import Derived.Test.YtajfohnblmnjjaaRegionP
namespace Go.Proofs.Ytajfohnblmnjjaa
open Go.RowKit
set_option linter.unusedVariables false
set_option maxRecDepth 20000

theorem parts_task {w : World} {A : Option Addr} {n c k : Nat} {M : List Tk} (h : RdG tkC 2 w A n M) (hk : k < n) (hc : n ≤ c) :
    (∀ W, (Instr.slice 22 (.slice A n c) none (some (.int .i64 (k : Int))) none).run Try.prog W = .ok (.slice A k c) W) ∧ RdG tkC 2 w A k (M.take k) ∧
    ∃ B, (∀ W, (Instr.slice 22 (.slice A n c) (some (.int .i64 ((k : Int) + 1))) none none).run Try.prog W = .ok (.slice B (n - (k + 1)) (c - (k + 1))) W) ∧ RdG tkC 2 w B (n - (k + 1)) (M.drop (k + 1)) :=
  ⟨fun W => run_to elTask W A n c k (by omega), RdG.takeTo tkK.len h (by omega), _, fun W => run_from elTask W A n c (k + 1) (by omega), RdG.cutFrom tkK.len h (by omega) hc⟩
theorem good_set {M : List Tk} (h : GoodK M) {k p t s : Nat} (hk : M[k]? = some ⟨p, t⟩) (hs : s < t) : GoodK (M.set k ⟨p, t - s⟩) := by
  refine ⟨by rw [List.length_set]; exact h.len, fun x hx => ?_⟩
  rcases List.mem_or_eq_of_mem_set hx with hx | rfl
  · exact h.ok x hx
  · have := h.at_ hk
    simp only at this
    exact ⟨by show 1 ≤ t - s; omega, by show t - s ≤ p; omega, this.2.2⟩
theorem good_cut {M : List Tk} (h : GoodK M) (k : Nat) : GoodK (M.take k ++ M.drop (k + 1)) := by
  refine ⟨?_, fun x hx => ?_⟩
  · have := h.len
    rw [List.length_append, List.length_take, List.length_drop]
    omega
  · rcases List.mem_append.1 hx with hx | hx
    · exact h.ok x (List.mem_of_mem_take hx)
    · exact h.ok x (List.mem_of_mem_drop hx)
theorem feas_cut {M : List Tk} {k : Nat} {t : Tk} (h : Feas M) (hk : M[k]? = some t) : Feas (M.take k ++ M.drop (k + 1)) := by
  refine Feas.drop (t := t) ?_
  rw [← drop_cons hk, List.take_append_drop]
  exact h
set_option maxHeartbeats 3200000 in
theorem RmsLess_walk (A0 : Option Addr) (n0 c0 : Nat) (l0 : List Tsk) (a1 a2 : Int) (w : World) (h0 : RdG tskC 2 w A0 n0 l0) (q0 : ∀ s ∈ l0, in64 s.p ∧ in64 s.c) (k0 : n0 ≤ c0) (b0 : c0 * 16 ≤ 140737488351232) (w1 : (Lit.int .i64 a1).wf = true) (w2 : (Lit.int .i64 a2).wf = true) :
    Calls Try.prog 8 #[.slice A0 n0 c0, .int .i64 a1, .int .i64 a2] w fun e w' => e = .returned (.bool true) ∧ Below w.heap.size w w' := by
  have C0 := Lib.hid (alive20_any w)
  have C1 := Lib.hid (fun (W : World) (h : RdG tskC 2 W A0 n0 l0) => Fit_any A0 n0 c0 l0 W h (by omega))
  clear q0 w1 w2
  cases hw : wrongK l0
  · obtain ⟨M, rfl, hM⟩ := good_of hw
    have hl : M.length = n0 := by have := RdG.len tskK h0; simpa using this
    have hn16 : n0 ≤ 16 := by have := hM.len; omega
    replace C1 := Lib.hid (fun (W : World) h => (C1.out W h).mono fun e w' hg => hg.good hM)
    have CF := Lib.hid (fun (W : World) (A : Option Addr) (n c : Nat) (L : List Tk) (h : RdG tkC 2 W A n L) (hL : GoodK L) (hF : Feas L) => (Fit_any A n c (L.map Tk.asT) W (rd_tk h) (by have := RdG.len tkK h; have := hL.len; omega)).mono fun e w' hg => hg.yes hL hF)
    have HM := Lib.hid hM
    clear hM hw
    go_enter Try.func8, Try.ntmps8
    go_wp2_with fail
    refine C0.out.mono ?_
    rintro e w1 ⟨rfl, hb1⟩
    go_wp2_with fail
    refine (C1.out _ (h0.below hb1)).mono ?_
    rintro e w2 ⟨b, rfl, hf, hb2⟩
    have hB2 := bthen hb1 hb2
    have h2 := tk_rd (h0.below hB2)
    clear C0 C1 h0 hb1 hb2
    cases b
    · go_wp2
      go_ret
      exact ⟨rfl, hB2⟩
    · have HF : Hid (Feas M) := hf.out.1 rfl
      clear hf
      by_cases hk : 0 ≤ a1 ∧ a1 < n0
      · obtain ⟨k, rfl⟩ : ∃ k : Nat, a1 = k := ⟨a1.toNat, by omega⟩
        have hkn : k < n0 := by omega
        obtain ⟨ad, p, t, rfl, hx, c0', c1'⟩ := tk_at h2 hkn
        have d1 : decide ((k : Int) < 0) = false := decide_eq_false (by omega)
        have d2 : decide (n0 ≤ k) = false := decide_eq_false (by omega)
        by_cases hs : 0 ≤ a2 ∧ a2 < t
        · obtain ⟨s, rfl⟩ : ∃ s : Nat, a2 = s := ⟨a2.toNat, by omega⟩
          have hst : s < t := by omega
          have d3 : decide ((s : Int) < 0) = false := decide_eq_false (by omega)
          have d4 : decide (t ≤ s) = false := decide_eq_false (by omega)
          have hok := HM.out.at_ hx
          simp only at hok
          have hwr : IntKind.i64.wrap ((t : Int) - (s : Int)) = ((t - s : Nat) : Int) := by rw [show (t : Int) - (s : Int) = ((t - s : Nat) : Int) by omega]; exact IntWalk.i64_in _ (by omega)
          have CC := Lib.hid (CloneK_any (some ad) n0 c0 (M.map Tk.asT) w2 (rd_tk h2) (by omega))
          obtain ⟨t1, t2, B1, t3, t4⟩ := parts_task h2 hkn k0
          have T2 := Lib.hid t2
          have T4 := Lib.hid t4
          have HX := Lib.hid hx
          have Hle : Hid (Feas (M.set k ⟨p, t - s⟩)) := HF.out.less hx rfl (by show t - s ≤ t; omega)
          have Hgd := Lib.hid (good_set HM.out hx hst)
          have Hcf := Lib.hid (feas_cut HF.out hx)
          have Hcg := Lib.hid (good_cut HM.out k)
          have Hl := Lib.hid hl
          have Hwk : Hid (IntKind.i64.wrap ((k : Int) + 1) = (k : Int) + 1) := IntWalk.i64_in _ (by omega)
          clear hk hs t2 t4 hx h2 hl
          go_wp2_with fail
          refine CC.out.mono ?_
          rintro e w3 ⟨v, rfl, ho3, hb3⟩
          have ho := own_tk ho3
          obtain ⟨g, cc, rfl, hg, hcc, _⟩ := ho.head (by rw [Hl.out]; omega)
          rw [Hl.out] at ho hcc ⊢
          have hB3 := bthen hB2 hb3
          have hgl := ho.inHeap g rfl
          have hw2 := hb3.size
          have z1 : w3.cell? ⟨g, k * 2 + 1, none⟩ = some (.int .i64 (t : Int)) := OwG.cellAt tkK ho (j := 1) HX.out rfl
          have f1 := ho.freeAt (k * 2 + 1)
          have ho4 := OwG.put tkK ho (j := 1) (y := ⟨p, t - s⟩) (u := .int .i64 ((t - s : Nat) : Int)) HX.out (by decide) rfl
          have hg2 : w.heap.size ≤ g := by have := hB2.size; omega
          have hB4 := hB3.setCell (p := ⟨g, k * 2 + 1, none⟩) hg2 (.int .i64 ((t - s : Nat) : Int))
          have hs4 : Below w2.heap.size w2 (w3.setCell ⟨g, k * 2 + 1, none⟩ (.int .i64 ((t - s : Nat) : Int))) := hb3.setCell hg _
          clear CC c0' c1' d1 d2 d3 d4 hb3 hB3 ho ho3
          go_upto_region 8 with fail
          clear z1 f1 hwr
          generalize w3.setCell ⟨g, k * 2 + 1, none⟩ (.int .i64 ((t - s : Nat) : Int)) = w4 at *
          have r4 := ho4.rd
          have CX := Lib.hid (CF.out w4 _ n0 cc _ r4 Hgd.out Hle.out)
          clear ho4 r4
          go_wp2_with fail
          refine CX.out.mono ?_
          rintro e w5 ⟨rfl, hb5⟩
          have hB5 := bthen hB4 hb5
          have hs5 := bthen hs4 hb5
          have T2' := Lib.hid (T2.out.below hs5)
          have T4' := Lib.hid (T4.out.below hs5)
          have hwk := Hwk.out
          clear CX hb5 hB4 hs4 T2 T4 hB2
          go_upto_region 9 with fail
          obtain ⟨m, hm⟩ : ∃ m, n0 = m + 1 := ⟨n0 - 1, by omega⟩
          have Hlm : Hid ((M.take k ++ M.drop (k + 1)).length = m) := by show _ = _; rw [List.length_append, List.length_take, List.length_drop, Hl.out]; omega
          have hcut : Hid (∀ A c W, RdG tkC 2 W A m (M.take k ++ M.drop (k + 1)) → Calls Try.prog 12 #[.slice A m c] W fun e w' => e = .returned (.tuple #[.bool true, .int .i64 0]) ∧ Below W.heap.size W w') := fun A c W hr => CF.out W A _ c _ hr Hcg.out Hcf.out
          have htk : (M.take k).length = k := by rw [List.length_take, Hl.out]; omega
          have Htk := Lib.hid htk
          clear htk CF hm
          refine wp_region_P (by kernel_rfl) ?_
          refine wpAnyP_take (i := 0) (oi := { dst := some 67, op := Op.move (Go.Operand.tmp 0), type := 22, pos := "rms.go:81", after := #[], guard := none }) (v := ?v1) rfl (by kernel_rfl) (by kernel_rfl) (by kernel_rfl) (fun _ _ _ h => h) (Or.inl ⟨by rfl, ?hy1⟩) ?rs1
          case hy1 => (intro W hW; go_simp; try with_reducible rfl)
          try simp only [Act.put, List.setIfInBounds_toArray, List.set_cons_zero, List.set_cons_succ]
          refine wpAnyP_take (i := 1) (oi := { dst := some 68, op := Op.move (Go.Operand.tmp 1), type := 3, pos := "rms.go:81", after := #[], guard := none }) (v := ?v2) rfl (by kernel_rfl) (by kernel_rfl) (by kernel_rfl) (fun _ _ _ h => h) (Or.inl ⟨by rfl, ?hy2⟩) ?rs2
          case hy2 => (intro W hW; go_simp; try with_reducible rfl)
          try simp only [Act.put, List.setIfInBounds_toArray, List.set_cons_zero, List.set_cons_succ]
          refine wpAnyP_take (i := 2) (oi := { dst := some 69, op := Op.slice 22 (Go.Operand.tmp 67) none (some (Go.Operand.tmp 68)) none, type := 22, pos := "rms.go:81", after := #[{ on := 0, ground := Ground.data }, { on := 1, ground := Ground.data }], guard := none }) (v := ?v3) rfl (by kernel_rfl) (by kernel_rfl) (by kernel_rfl) (fun _ _ _ h => h) (Or.inl ⟨by rfl, ?hy3⟩) ?rs3
          case hy3 => (intro W hW; go_simp; try with_reducible rfl)
          try simp only [Act.put, List.setIfInBounds_toArray, List.set_cons_zero, List.set_cons_succ]
          refine wpAnyP_take (i := 4) (oi := { dst := some 71, op := Op.move (Go.Operand.tmp 0), type := 22, pos := "rms.go:81", after := #[], guard := none }) (v := ?v4) rfl (by kernel_rfl) (by kernel_rfl) (by kernel_rfl) (fun _ _ _ h => h) (Or.inl ⟨by rfl, ?hy4⟩) ?rs4
          case hy4 => (intro W hW; go_simp; try with_reducible rfl)
          try simp only [Act.put, List.setIfInBounds_toArray, List.set_cons_zero, List.set_cons_succ]
          refine wpAnyP_take (i := 5) (oi := { dst := some 72, op := Op.move (Go.Operand.tmp 1), type := 3, pos := "rms.go:81", after := #[], guard := none }) (v := ?v5) rfl (by kernel_rfl) (by kernel_rfl) (by kernel_rfl) (fun _ _ _ h => h) (Or.inl ⟨by rfl, ?hy5⟩) ?rs5
          case hy5 => (intro W hW; go_simp; try with_reducible rfl)
          try simp only [Act.put, List.setIfInBounds_toArray, List.set_cons_zero, List.set_cons_succ]
          refine wpAnyP_take (i := 6) (oi := { dst := some 73, op := Op.binOp Go.BinOp.add 3 (Go.Operand.tmp 72) (Go.Operand.const (Go.Value.int Go.IntKind.i64 1)) 3, type := 3, pos := "rms.go:81", after := #[{ on := 5, ground := Ground.data }], guard := none }) (v := ?v6) rfl (by kernel_rfl) (by kernel_rfl) (by kernel_rfl) (fun _ _ _ h => h) (Or.inl ⟨by rfl, ?hy6⟩) ?rs6
          case hy6 => (intro W hW; go_simp; try with_reducible rfl)
          try simp only [Act.put, List.setIfInBounds_toArray, List.set_cons_zero, List.set_cons_succ]
          refine wpAnyP_take (i := 7) (oi := { dst := some 74, op := Op.slice 22 (Go.Operand.tmp 71) (some (Go.Operand.tmp 73)) none none, type := 22, pos := "rms.go:81", after := #[{ on := 4, ground := Ground.data }, { on := 6, ground := Ground.data }], guard := none }) (v := ?v7) rfl (by kernel_rfl) (by kernel_rfl) (by kernel_rfl) (fun _ _ _ h => h) (Or.inl ⟨by rfl, ?hy7⟩) ?rs7
          case hy7 => (intro W hW; go_simp; try with_reducible rfl)
          try simp only [Act.put, List.setIfInBounds_toArray, List.set_cons_zero, List.set_cons_succ]
          refine wpAnyP_one (i := 3) (o := { dst := some 70, op := Op.call { callee := Callee.value (Go.Operand.func 21), args := #[Go.Operand.tmp 69], argTypes := #[22] }, type := 22, pos := "rms.go:81", after := #[{ on := 2, ground := Ground.data }], guard := none }) (by kernel_rfl) rfl (fun K hK => ?_)
          go_simp
          refine (CloneK_any (some ad) k c0 ((M.take k).map Tk.asT) _ (rd_tk T2'.out.drew) (by omega)).mono ?_; rintro e w6 ⟨v6, rfl, ho6, hb6⟩; replace ho6 := own_tk ho6
          refine hK.out _ _ ?_
          clear hK K
          try simp only [Act.put, List.setIfInBounds_toArray, List.set_cons_zero, List.set_cons_succ]
          refine wpAnyP_one (i := 8) (o := { dst := some 75, op := Op.call { callee := Callee.builtin Builtin.append, args := #[Go.Operand.tmp 70, Go.Operand.tmp 74], argTypes := #[22, 22] }, type := 22, pos := "rms.go:81", after := #[{ on := 3, ground := Ground.data }, { on := 7, ground := Ground.data }, { on := 3, ground := Ground.chain }], guard := none }) (by kernel_rfl) rfl (fun K hK => ?_)
          rw [if_pos (by rfl)]
          refine wp_apG tkK _ elTask rfl w5.heap.size _ (M.take k) rfl ho6 B1 (n0 - (k + 1)) (c0 - (k + 1)) (M.drop (k + 1)) rfl (T4'.out.drew.below hb6) hb6.size (by rw [Htk.out]; omega) (by rw [Htk.out]; omega) ?_; intro v7 w7 ho7 hm7; have hb7 : Below w5.heap.size w5 w7 := hm7.below (bthen ((Below.refl _ w5).drew) hb6) hb6.size ho6.block; obtain ⟨A7, c7, rfl, _, _, r7⟩ := ho7.formN Hlm.out; clear ho6 ho7 hm7
          refine hK.out _ _ ?_
          clear hK K
          try simp only [Act.put, List.setIfInBounds_toArray, List.set_cons_zero, List.set_cons_succ]
          refine wpAnyP_one (i := 9) (o := { dst := some 76, op := Op.call { callee := Callee.value (Go.Operand.func 12), args := #[Go.Operand.tmp 75], argTypes := #[22] }, type := 28, pos := "rms.go:81", after := #[{ on := 8, ground := Ground.data }, { on := 8, ground := Ground.chain }], guard := none }) (by kernel_rfl) rfl (fun K hK => ?_)
          go_simp
          refine (hcut.out A7 c7 _ r7).mono ?_; rintro e w8 ⟨rfl, hb8⟩
          refine hK.out _ _ ?_
          clear hK K
          try simp only [Act.put, List.setIfInBounds_toArray, List.set_cons_zero, List.set_cons_succ]
          refine wpAnyP_take (i := 10) (oi := { dst := some 66, op := Op.move (Go.Operand.tmp 76), type := 28, pos := "rms.go:81", after := #[{ on := 9, ground := Ground.data }], guard := none }) (v := ?v8) rfl (by kernel_rfl) (by kernel_rfl) (by kernel_rfl) (fun _ _ _ h => h) (Or.inl ⟨by rfl, ?hy8⟩) ?rs8
          case hy8 => (intro W hW; go_simp; try with_reducible rfl)
          try simp only [Act.put, List.setIfInBounds_toArray, List.set_cons_zero, List.set_cons_succ]
          refine wpAnyP_take (i := 11) (oi := { dst := some 77, op := Op.extract (Go.Operand.tmp 66) 0, type := 4, pos := "rms.go:81", after := #[{ on := 10, ground := Ground.data }], guard := none }) (v := ?v9) rfl (by kernel_rfl) (by kernel_rfl) (by kernel_rfl) (fun _ _ _ h => h) (Or.inl ⟨by rfl, ?hy9⟩) ?rs9
          case hy9 => (intro W hW; go_simp; try with_reducible rfl)
          try simp only [Act.put, List.setIfInBounds_toArray, List.set_cons_zero, List.set_cons_succ]
          refine wpAnyP_take (i := 12) (oi := { dst := some 78, op := Op.extract (Go.Operand.tmp 66) 1, type := 25, pos := "rms.go:81", after := #[{ on := 10, ground := Ground.data }, { on := 13, ground := Ground.gcOnly Go.Departure.lateStores }], guard := none }) (v := ?v10) rfl (by kernel_rfl) (by kernel_rfl) (by kernel_rfl) (fun _ _ _ h => h) (Or.inl ⟨by rfl, ?hy10⟩) ?rs10
          case hy10 => (intro W hW; go_simp; try with_reducible rfl)
          try simp only [Act.put, List.setIfInBounds_toArray, List.set_cons_zero, List.set_cons_succ]
          refine wpAnyP_take (i := 13) (oi := { dst := some 12, op := Op.assign (Go.Operand.tmp 77), type := 4, pos := "rms.go:81", after := #[{ on := 11, ground := Ground.data }, { on := 9, ground := Ground.chain }, { on := 0, ground := Ground.phase }, { on := 1, ground := Ground.phase }, { on := 2, ground := Ground.phase }, { on := 3, ground := Ground.phase }, { on := 4, ground := Ground.phase }, { on := 5, ground := Ground.phase }, { on := 6, ground := Ground.phase }, { on := 7, ground := Ground.phase }, { on := 8, ground := Ground.phase }, { on := 9, ground := Ground.phase }, { on := 10, ground := Ground.phase }, { on := 11, ground := Ground.phase }, { on := 12, ground := Ground.textOnly Go.Departure.lateStores }], guard := none }) (v := ?v11) rfl (by kernel_rfl) (by kernel_rfl) (by kernel_rfl) (fun _ _ _ h => h) (Or.inl ⟨by rfl, ?hy11⟩) ?rs11
          case hy11 => (intro W hW; go_simp; try with_reducible rfl)
          try simp only [Act.put, List.setIfInBounds_toArray, List.set_cons_zero, List.set_cons_succ]
          refine wpAnyP_take (i := 14) (oi := { dst := some 13, op := Op.assign (Go.Operand.tmp 78), type := 25, pos := "rms.go:81", after := #[{ on := 12, ground := Ground.data }, { on := 13, ground := Ground.chain }, { on := 0, ground := Ground.phase }, { on := 1, ground := Ground.phase }, { on := 2, ground := Ground.phase }, { on := 3, ground := Ground.phase }, { on := 4, ground := Ground.phase }, { on := 5, ground := Ground.phase }, { on := 6, ground := Ground.phase }, { on := 7, ground := Ground.phase }, { on := 8, ground := Ground.phase }, { on := 9, ground := Ground.phase }, { on := 10, ground := Ground.phase }, { on := 11, ground := Ground.phase }, { on := 12, ground := Ground.phase }, { on := 13, ground := Ground.phase }], guard := none }) (v := ?v12) rfl (by kernel_rfl) (by kernel_rfl) (by kernel_rfl) (fun _ _ _ h => h) (Or.inl ⟨by rfl, ?hy12⟩) ?rs12
          case hy12 => (intro W hW; go_simp; try with_reducible rfl)
          try simp only [Act.put, List.setIfInBounds_toArray, List.set_cons_zero, List.set_cons_succ]
          refine wpAnyP_done (by kernel_rfl) ?_
          go_wp2
          go_ret
          exact ⟨rfl, bthen hB5 (bthen hb7 hb8)⟩
        · have hcase : a2 < 0 ∨ (¬ a2 < 0 ∧ (t : Int) ≤ a2) := by omega
          clear hk hs
          rcases hcase with h1 | ⟨h1, h2⟩
          · have d3 : decide (a2 < 0) = true := decide_eq_true h1
            go_wp2
            go_ret
            exact ⟨rfl, hB2⟩
          · have d3 : decide (a2 < 0) = false := decide_eq_false h1
            have d4 : decide ((t : Int) ≤ a2) = true := decide_eq_true h2
            go_wp2
            go_ret
            exact ⟨rfl, hB2⟩
      · have hcase : a1 < 0 ∨ (¬ a1 < 0 ∧ (n0 : Int) ≤ a1) := by omega
        clear hk
        rcases hcase with h1 | ⟨h1, h2⟩
        · have d1 : decide (a1 < 0) = true := decide_eq_true h1
          go_wp2
          go_ret
          exact ⟨rfl, hB2⟩
        · have d1 : decide (a1 < 0) = false := decide_eq_false h1
          have d2 : decide ((n0 : Int) ≤ a1) = true := decide_eq_true h2
          go_wp2
          go_ret
          exact ⟨rfl, hB2⟩
  · replace C1 := Lib.hid (fun (W : World) h => (C1.out W h).mono fun e w' hg => hg.wrong hw)
    go_enter Try.func8, Try.ntmps8
    go_wp2_with fail
    refine C0.out.mono ?_
    rintro e w1 ⟨rfl, hb1⟩
    go_wp2_with fail
    refine (C1.out _ (h0.below hb1)).mono ?_
    rintro e w2 ⟨rfl, hb2⟩
    go_wp2
    go_ret
    exact ⟨rfl, bthen hb1 hb2⟩
end Go.Proofs.Ytajfohnblmnjjaa
