/-
  Contract of rta.Ends, for every list of tasks.
-/
import Derived.Test.YtajfohnblmnjjaaRtaWalks
import Derived.Test.YtajfohnblmnjjaaFlatCut
import Derived.Test.YtajfohnblmnjjaaRegionF
import Derived.Deep.QuietTactic
import Derived.BigQuiet
import Derived.Deep.CutBlock
import Derived.Deep.DeepCutAuto
namespace Go.Proofs.Ytajfohnblmnjjaa
open Go.RowKit
set_option linter.unusedVariables false

def natL (R : List Nat) : List Int := R.map fun r : Nat => (r : Int)
theorem natL_len (R : List Nat) : (natL R).length = R.length := by simp [natL]
theorem natL_at {R : List Nat} {k r : Nat} (h : R[k]? = some r) : (natL R)[k]? = some (r : Int) := by simp [natL, h]
theorem natL_snoc (R : List Nat) (r : Nat) : natL (R ++ [r]) = natL R ++ [(r : Int)] := by simp [natL]
theorem natL_inj {R S : List Nat} (h : natL R = natL S) : R = S := by
  have := congrArg (List.map Int.toNat) h
  simpa [natL, List.map_map, Function.comp_def] using this
/-- What Ends gives. -/
def GivesEnds (L : List Tsk) (w : World) (e : Ending) (w' : World) : Prop :=
  ((wrongK L = true ∧ e = .returned (.tuple #[.slice none 0 0, .int .i64 2])) ∨
   (∃ M, L = M.map Tk.asT ∧ GoodK M ∧ ((NoEnds M ∧ e = .returned (.tuple #[.slice none 0 0, .int .i64 4])) ∨
     ∃ R A c, EndsAre M R ∧ e = .returned (.tuple #[.slice A M.length c, .int .i64 0]) ∧ Ow (Value.int .i64) w' w.heap.size 3 (.slice A M.length c) (natL R)))) ∧ Below w.heap.size w w'
/-- Before the end, the first k are told. -/
theorem fill_put {R : List Nat} {n k : Nat} {x : Int} (hl : R.length = k) (h : k < n) : (natL R ++ List.replicate (n - k) (0 : Int)).set k x = natL R ++ [x] ++ List.replicate (n - (k + 1)) 0 := by
  obtain ⟨m, rfl⟩ : ∃ m, n = k + 1 + m := ⟨n - (k + 1), by omega⟩
  rw [List.set_append_right _ _ (by rw [natL_len]; omega), natL_len, hl, Nat.sub_self, show k + 1 + m - k = m + 1 by omega, List.replicate_succ, List.set_cons_zero, show k + 1 + m - (k + 1) = m by omega, List.append_assoc]; rfl

set_option maxRecDepth 20000 in
set_option maxHeartbeats 1600000 in
theorem Ends_any (A : Option Addr) (n c : Nat) (L : List Tsk) (w : World) (h : RdG tskC 2 w A n L) (hc : n ≤ c) (hn : n ≤ 140737488355328) :
    Calls Try.prog 20 #[.slice A n c] w (GivesEnds L w) := by
  have Hl := Lib.hid (RdG.len tskK h)
  have HW := Lib.hid (WrongK_any A n c L w h (by omega))
  cases hw : wrongK L
  · rw [errK_zero hw] at HW
    obtain ⟨M, rfl, hM⟩ := good_of hw
    clear hw
    have hl : M.length = n := by have := Hl.out; simpa using this
    have hn16 : n ≤ 16 := by have := hM.len; omega
    have Hl := Lib.hid hl
    replace h := tk_rd h
    have hmk : ∀ W : World, (Instr.makeSlice 40 (.int .i64 n) (.int .i64 n)).run Try.prog W = .ok (.slice (some ⟨W.heap.size, 0, none⟩) n n) (W.alloc (.cells (madeCells #[.int .i64 0] n) 3)) := run_mk elInt rfl .i64 .i64 n n (Nat.le_refl _) (by omega) (by omega)
    have HM := Lib.hid hM
    clear hl hM
    go_enter Try.func20, Try.ntmps20
    go_wp2_with fail
    refine HW.out.mono ?_
    rintro e w1 ⟨rfl, hb1⟩
    clear HW
    have ho1 := Ow.make (Value.int .i64) 0 w1 3 (base := w.heap.size) n (by unfold maxLen; omega) hb1.size
    have hb2 : Below w.heap.size w (w1.alloc (.cells (madeCells #[.int .i64 0] n) 3)) := hb1.alloc hb1.size _
    go_upto_region 5 with fail
    have hgl : w.heap.size ≤ w1.heap.size := hb1.size
    have hgx : w1.heap.size < (w1.alloc (.cells (madeCells #[.int .i64 0] n) 3)).heap.size := by simp
    clear hb1 hmk
    generalize w1.alloc (.cells (madeCells #[.int .i64 0] n) 3) = w2 at *
    generalize w1.heap.size = g at *
    have C := Lib.hid (fun (k : Nat) (hk : k ≤ n) (p t : Nat) (ht : Tk.Ok ⟨p, t⟩) (W : World) (hW : RdG tkC 2 W A n M) => response_any p t ht A k c (M.take k) (HM.out.take k) W (RdG.takeTo tkK.len hW hk))
    go_wp2
    go_loopw [18] (fun i wr => ∃ (k : Nat) (R : List Nat), k ≤ n ∧ i = .int .i64 k ∧ R.length = k ∧ EndsAre (M.take k) R ∧ Ow (Value.int .i64) wr w.heap.size 3 (.slice (some ⟨g, 0, none⟩) n n) (natL R ++ List.replicate (n - k) 0) ∧ Below w.heap.size w wr ∧ g < wr.heap.size) (fun i _ => n - (intOf i).toNat)
    case atStart => exact ⟨0, [], Nat.zero_le _, rfl, rfl, by rw [List.take_zero]; exact EndsAre.nil, by simpa [natL] using ho1, hb2, hgx⟩
    case round =>
      obtain ⟨k, R, hk, rfl, hR, hE, ho, hbl, hgw⟩ := hrel
      have hr := h.below hbl
      clear ho1 hb2 hgx
      have HE := Lib.hid hE
      have HR := Lib.hid hR
      clear hE hR
      by_cases hlt : k < n
      · obtain ⟨ad, p, t, rfl, hx, hc0, hc1⟩ := tk_at hr hlt
        have hok := HM.out.at_ hx
        have Hx := Lib.hid hx
        have hto := fun W => run_to (P := Try.prog) elTask W (some ad) n c k (by omega)
        have C2 := Lib.hid (fun (W : World) (hW : Below wr.heap.size wr W) => C.out k hk p t hok W (hr.below hW))
        have hbx := Box.new wr 38 [.int .i64 (p : Int), .int .i64 (t : Int)]
        obtain ⟨h1, h2, h3⟩ := hok
        simp only at h1 h2 h3
        have H0 : Hid ((natL R ++ List.replicate (n - k) (0 : Int))[k]? = some 0) := by
          show _ = _
          rw [List.getElem?_append_right (by rw [natL_len, HR.out]; exact Nat.le_refl _), natL_len, HR.out, Nat.sub_self, List.getElem?_replicate, if_pos (by omega)]
        clear hx
        go_upto_region 8 with fail
        have hB0 : Below wr.heap.size wr (wr.alloc (.cells #[.int .i64 (p : Int), .int .i64 (t : Int)] 38)) := below_one _
        have hbl2 := hbl.alloc hbl.size (.cells #[.int .i64 (p : Int), .int .i64 (t : Int)] 38)
        replace ho := ho.alloc (.cells #[.int .i64 (p : Int), .int .i64 (t : Int)] 38)
        replace hr := hr.alloc (.cells #[.int .i64 (p : Int), .int .i64 (t : Int)] 38)
        have hbn : wr.heap.size < (wr.alloc (.cells #[.int .i64 (p : Int), .int .i64 (t : Int)] 38)).heap.size := by simp
        replace hbx : Box (wr.alloc (.cells #[.int .i64 (p : Int), .int .i64 (t : Int)] 38)) wr.heap.size 38 [.int .i64 (p : Int), .int .i64 (t : Int)] := hbx
        have hgX : g < (wr.alloc (.cells #[.int .i64 (p : Int), .int .i64 (t : Int)] 38)).heap.size := by simp; omega
        have C3 := Lib.hid (fun (W : World) (hW : Below (wr.alloc (.cells #[.int .i64 (p : Int), .int .i64 (t : Int)] 38)).heap.size (wr.alloc (.cells #[.int .i64 (p : Int), .int .i64 (t : Int)] 38)) W) => C2.out W (bthen hB0 hW))
        clear hB0 C2 hc0 hc1
        have hgb : g ≠ wr.heap.size := by omega
        generalize wr.alloc (.cells #[.int .i64 (p : Int), .int .i64 (t : Int)] 38) = X at *
        generalize wr.heap.size = b at *
        have hB : Below X.heap.size X X.drew := (Below.refl _ _).drew
        have hcl : Hid (∀ W, Below X.heap.size X W → Box W b 38 [.int .i64 (p : Int), .int .i64 (t : Int)]) := fun W hW => hbx.below hW hbx.lt
        refine wp_region_F 8 (X.heap.size) (by kernel_rfl) ?_
        refine wpAnyF_pure (i := 0) (oi := { dst := some 23, op := Op.move (Go.Operand.tmp 5), type := 40, pos := "rta.go:30", after := #[], guard := none }) (v := ?v1) rfl (by kernel_rfl) (by kernel_rfl) (by kernel_rfl) (fun _ _ _ h => h) (Or.inl ⟨by rfl, ?hy1⟩) ?rs1
        case hy1 => (intro W hW; go_simp; try with_reducible rfl)
        try simp only [Act.put, List.setIfInBounds_toArray, List.set_cons_zero, List.set_cons_succ]
        refine wpAnyF_pure (i := 1) (oi := { dst := some 24, op := Op.move (Go.Operand.tmp 6), type := 3, pos := "rta.go:30", after := #[], guard := none }) (v := ?v2) rfl (by kernel_rfl) (by kernel_rfl) (by kernel_rfl) (fun _ _ _ h => h) (Or.inl ⟨by rfl, ?hy2⟩) ?rs2
        case hy2 => (intro W hW; go_simp; try with_reducible rfl)
        try simp only [Act.put, List.setIfInBounds_toArray, List.set_cons_zero, List.set_cons_succ]
        refine wpAnyF_take (i := 2) (oi := { dst := some 25, op := Op.load 38 (Go.Operand.tmp 7), type := 38, pos := "rta.go:30", after := #[], guard := none }) (v := ?v3) rfl (by kernel_rfl) (by kernel_rfl) (by kernel_rfl) (by decide) (by kernel_rfl) (fun _ _ _ h => h) (Or.inl ⟨by rfl, ?hy3⟩) ?rs3
        case hy3 => (intro W hW; have hx := hcl.out W (hB.trans hW); have q0 := hx.cell 0 rfl; have q1 := hx.cell 1 rfl; go_simp; try with_reducible rfl)
        try simp only [Act.put, List.setIfInBounds_toArray, List.set_cons_zero, List.set_cons_succ]
        refine wpAnyF_pure (i := 3) (oi := { dst := some 26, op := Op.move (Go.Operand.tmp 0), type := 22, pos := "rta.go:30", after := #[], guard := none }) (v := ?v4) rfl (by kernel_rfl) (by kernel_rfl) (by kernel_rfl) (fun _ _ _ h => h) (Or.inl ⟨by rfl, ?hy4⟩) ?rs4
        case hy4 => (intro W hW; go_simp; try with_reducible rfl)
        try simp only [Act.put, List.setIfInBounds_toArray, List.set_cons_zero, List.set_cons_succ]
        refine wpAnyF_pure (i := 4) (oi := { dst := some 27, op := Op.move (Go.Operand.tmp 6), type := 3, pos := "rta.go:30", after := #[], guard := none }) (v := ?v5) rfl (by kernel_rfl) (by kernel_rfl) (by kernel_rfl) (fun _ _ _ h => h) (Or.inl ⟨by rfl, ?hy5⟩) ?rs5
        case hy5 => (intro W hW; go_simp; try with_reducible rfl)
        try simp only [Act.put, List.setIfInBounds_toArray, List.set_cons_zero, List.set_cons_succ]
        refine wpAnyF_pure (i := 5) (oi := { dst := some 28, op := Op.slice 22 (Go.Operand.tmp 26) none (some (Go.Operand.tmp 27)) none, type := 22, pos := "rta.go:30", after := #[{ on := 3, ground := Ground.data }, { on := 4, ground := Ground.data }], guard := none }) (v := ?v6) rfl (by kernel_rfl) (by kernel_rfl) (by kernel_rfl) (fun _ _ _ h => h) (Or.inl ⟨by rfl, ?hy6⟩) ?rs6
        case hy6 => (intro W hW; go_simp; try with_reducible rfl)
        try simp only [Act.put, List.setIfInBounds_toArray, List.set_cons_zero, List.set_cons_succ]
        refine wpAnyF_one (i := 6) (o := { dst := some 29, op := Op.call { callee := Callee.value (Go.Operand.func 45), args := #[Go.Operand.tmp 25, Go.Operand.tmp 28], argTypes := #[38, 22] }, type := 3, pos := "rta.go:30", after := #[{ on := 2, ground := Ground.data }, { on := 5, ground := Ground.data }], guard := none }) (by kernel_rfl) rfl (fun K hK => ?_)
        go_simp
        refine (C3.out _ hB).mono ?_; rintro e w7 ⟨r, rfl, hf, hb7⟩; have hbk := hb7.mono hB.size; replace hB := hB.trans hbk; replace ho := ho.below hB; have hfz := ho.freeAt k; have hck := ho.cellAt H0.out
        refine hK.out _ _ hbk ?_
        clear hK K
        try simp only [Act.put, List.setIfInBounds_toArray, List.set_cons_zero, List.set_cons_succ]
        refine wpAnyF_pure (i := 7) (oi := { dst := some 30, op := Op.indexAddr 40 (Go.Operand.tmp 23) (Go.Operand.tmp 24), type := 0, pos := "rta.go:30", after := #[{ on := 0, ground := Ground.data }, { on := 1, ground := Ground.data }, { on := 0, ground := Ground.phase }, { on := 1, ground := Ground.phase }, { on := 2, ground := Ground.phase }, { on := 3, ground := Ground.phase }, { on := 4, ground := Ground.phase }, { on := 5, ground := Ground.phase }, { on := 6, ground := Ground.phase }], guard := none }) (v := ?v7) rfl (by kernel_rfl) (by kernel_rfl) (by kernel_rfl) (fun _ _ _ h => h) (Or.inl ⟨by rfl, ?hy7⟩) ?rs7
        case hy7 => (intro W hW; go_simp; try with_reducible rfl)
        try simp only [Act.put, List.setIfInBounds_toArray, List.set_cons_zero, List.set_cons_succ]
        refine wpAnyF_last (i := 8) (o := { dst := none, op := Op.store 3 (Go.Operand.tmp 30) (Go.Operand.tmp 29), type := 0, pos := "rta.go:30", after := #[{ on := 7, ground := Ground.data }, { on := 6, ground := Ground.data }, { on := 6, ground := Ground.chain }, { on := 0, ground := Ground.phase }, { on := 1, ground := Ground.phase }, { on := 2, ground := Ground.phase }, { on := 3, ground := Ground.phase }, { on := 4, ground := Ground.phase }, { on := 5, ground := Ground.phase }, { on := 6, ground := Ground.phase }], guard := none }) (by kernel_rfl) rfl (by decide) (fun K hK => ?_)
        go_simp
        refine hK.out _ _ ?_
        clear hK K
        try simp only [Act.put, List.setIfInBounds_toArray, List.set_cons_zero, List.set_cons_succ]
        refine wpAnyF_done (by kernel_rfl) ?_
        have ho2 := ho.put k (r : Int)
        have hxx := (hcl.out _ hB).grown (grownBy_setCell w7 ⟨g, k, none⟩ (.int .i64 (r : Int))) (fun e => by injection e with e; exact hgb e.symm)
        have hbl3 := below_grown (hbl2.trans (hB.mono hbl2.size)) (grownBy_setCell w7 ⟨g, k, none⟩ (.int .i64 (r : Int))) hgl (by have := hB.size; have := hbl2.size; omega)
        have hg3 : g < (w7.setCell ⟨g, k, none⟩ (.int .i64 (r : Int))).heap.size := by have := hB.size; simp [World.setCell]; omega
        rw [fill_put HR.out hlt] at ho2
        have hcr : (w7.setCell ⟨g, k, none⟩ (.int .i64 (r : Int))).cell? ⟨g, k, none⟩ = some (.int .i64 (r : Int)) := ho2.cellAt (by rw [List.append_assoc, List.getElem?_append_right (by rw [natL_len, HR.out]; exact Nat.le_refl _), natL_len, HR.out, Nat.sub_self]; rfl)
        have hcp := hxx.cell 0 rfl
        clear ho hck hfz hbl hbl2 C3 hcl hbx H0 hto
        generalize w7.setCell ⟨g, k, none⟩ (.int .i64 (r : Int)) = w8 at *
        have Hf := Lib.hid hf
        have hr5 : r ≤ 500000 := by
          rcases hf with hf | ⟨_, _, hf⟩
          · have := hf.hi; simp only at this; omega
          · exact hf
        clear hf
        by_cases hle : r ≤ p
        · have HE2 : Hid (EndsAre (M.take (k + 1)) (R ++ [r])) := by
            refine HE.out.snoc Hx.out ?_
            rcases Hf.out with hf | ⟨_, hf, _⟩
            · exact hf
            · exfalso; simp only at hf; omega
          go_wp2
          go_quiet (fail)
          go_wp2
          go_roundw
          case rel => exact ⟨k + 1, R ++ [r], by omega, by go_num, by simp [HR.out], HE2.out, by rw [natL_snoc]; exact ho2, bthen hbl3 (below_draws ⟨_, rfl⟩), hg3⟩
          case measure => simp [intOf] <;> omega
        · have HN : Hid (NoEnds M) := by
            refine ⟨k, _, Hx.out, ?_⟩
            rcases Hf.out with hf | ⟨hf, _, _⟩
            · have := hf.hi; exfalso; simp only at this; omega
            · exact hf
          go_wp2
          go_quiet (fail)
          go_wp2
          go_ret2
          exact ⟨.inr ⟨M, rfl, HM.out, .inl ⟨HN.out, rfl⟩⟩, bthen hbl3 (below_draws ⟨_, rfl⟩)⟩
      · obtain rfl : k = n := by omega
        go_wp2
        go_ret2
        refine ⟨.inr ⟨M, rfl, HM.out, .inr ⟨R, some ⟨g, 0, none⟩, k, ?_, by rw [Hl.out]; rfl, ?_⟩⟩, hbl⟩
        · have := HE.out; rwa [List.take_of_length_le (by rw [Hl.out]; exact Nat.le_refl _)] at this
        · rw [Hl.out]; simpa using ho
  · rw [errK_two hw] at HW
    go_enter Try.func20, Try.ntmps20
    go_wp2_with fail
    refine HW.out.mono ?_
    rintro e w1 ⟨rfl, hb1⟩
    go_wp2
    go_ret2
    exact ⟨.inl ⟨hw, rfl⟩, hb1⟩
end Go.Proofs.Ytajfohnblmnjjaa
