/-
  slices.Repeat at a slice of one element, for elements of one cell: 16-bit numbers, ints; copy in a region. No statement of the seat is here.
-/
import Derived.Test.YtaliompoknnjgaaTypes
import Derived.Test.YtaliompoknnjgaaRoom
import Derived.Test.YtaliompoknnjgaaBox
import Derived.Test.YtaliompoknnjgaaRegionF
import Derived.IntWalk
import Derived.Laws.CopyOwn
namespace Go.Proofs.Ytaliompoknnjgaa
open Go.RowKit
set_option maxRecDepth 20000
set_option linter.unusedVariables false

theorem and32 {n : Nat} (h : n ≤ 400) : bits .and .u64 (n : Int) 4294967295 = n := by
  have : ∀ n < 401, bits .and .u64 ((n : Nat) : Int) 4294967295 = n := by decide +kernel
  exact this n (by omega)
theorem Mul64_one (n : Nat) (hn : n ≤ 400) (w : World) : Calls Try.prog 25 #[.int .u64 1, .int .u64 (n : Int)] w fun e w' => e = .returned (.tuple #[.int .u64 0, .int .u64 (n : Int)]) ∧ w' = w := by
  have h1 := and32 hn
  have h2 : bits .and .u64 1 4294967295 = 1 := by decide +kernel
  have h3 : bits .and .u64 0 4294967295 = 0 := by decide +kernel
  have h4 : (n : Int) / 4294967296 = 0 := by omega
  have hn' : (n : Int) ≤ 400 := by omega
  go_enter Try.func25, Try.ntmps25
  go_wp2
  go_ret2
  exact ⟨rfl, rfl⟩
theorem Mul_one (n : Nat) (hn : n ≤ 400) (w : World) : Calls Try.prog 21 #[.int .u64 1, .int .u64 (n : Int)] w fun e w' => e = .returned (.tuple #[.int .u64 0, .int .u64 (n : Int)]) ∧ w' = w := by
  have C := Lib.hid (fun (W : World) => Mul64_one n hn W)
  go_enter Try.func21, Try.ntmps21
  go_wp2_with fail
  refine (C.out _).mono ?_
  rintro e w' ⟨rfl, rfl⟩
  go_wp2
  go_ret2
  exact ⟨rfl, rfl⟩
/-- copy onto a row that is known whole, as one operation of a region. -/
theorem wp_copyR {P : Program} {ops : Array Oper} {o : Oper} {a : Act} {w : World} {K : Act → World → Prop} {Q : Exit → Act → World → Prop} (hgd : o.guard = none) (d s : Operand) (dT sT : TypeId)
    (ho : o.op = .call { callee := .builtin .copy, args := #[d, s], argTypes := #[dT, sT] }) (elem : TypeId) (hu : P.underlying dT = some (.slice elem)) (hsz : (P.info? elem).map (·.size) = some 1)
    (g off : Nat) (ad : Addr) (dLen dCap sLen sCap : Nat) (hd : a.eval d = .slice (some ⟨g, off, none⟩) dLen dCap) (hs : a.eval s = .slice (some ad) sLen sCap)
    (cur : List Value) (t : TypeId) (hg : w.heap[g]? = some (.cells cur.toArray t (0, 0))) (cs : List Value) (hn : cs.length = Nat.min sLen dLen)
    (hsrc : ∀ j v, cs[j]? = some v → w.cell? (ad.add j) = some v) (hfit : off + cs.length ≤ cur.length) (h1 : ∀ v ∈ cs, v.oneCell' = true) (B : Nat) (w0 : World) (hb : Below B w0 w) (hBg : B ≤ g)
    (h : ∀ w', Hid (w'.heap[g]? = some (.cells (splice cur off cs).toArray t (0, 0))) → Below B w0 w' → K (a.put o.dst (goInt cs.length)) w') : Oper.wp P o a w K Q := by
  have := step_copy_splice (P := P) (ops := ops) (Q := Q) (E := True) hgd d s dT sT ho elem hu hsz _ _ dLen dCap sLen sCap hd hs g off cur t hg cs hn (fun _ => ⟨rfl, ad, rfl, hsrc⟩) hfit h1 B w0 hb hBg h
  rwa [if_pos (by simp [Region.wanted, hgd])] at this
/-- A row whose first k numbers are v. -/
def rowK (v z : Value) (n k : Nat) : List Value := List.replicate k v ++ List.replicate (n - k) z
theorem rowK_len {v z : Value} {n k : Nat} (h : k ≤ n) : (rowK v z n k).length = n := by simp [rowK]; omega
theorem rowK_at {v z : Value} {n k j : Nat} (h : j < k) : (rowK v z n k)[j]? = some v := by
  unfold rowK
  rw [List.getElem?_append_left (by simpa using h), List.getElem?_replicate, if_pos h]
theorem rowK_splice {v z : Value} {n k m : Nat} (h : k + m ≤ n) : splice (rowK v z n k) k (List.replicate m v) = rowK v z n (k + m) := by
  unfold splice rowK
  rw [List.take_left' (by simp), List.drop_append]
  simp only [List.length_replicate, List.drop_replicate]
  rw [show k - (k + m) = 0 by omega, List.replicate_zero, List.nil_append, show n - k - (k + m - k) = n - (k + m) by omega, ← List.append_assoc, List.replicate_append_replicate]
theorem madeRow (v z : Value) (n : Nat) : (madeCells #[z] n).toList = rowK v z n 0 := by
  refine List.ext_getElem? fun j => ?_
  by_cases h : j < n
  · simp [madeCells, rowK, h, Nat.mod_one]
  · simp [madeCells, rowK, h]

set_option maxHeartbeats 1600000 in
theorem RepeatI_one (A : Option Addr) (c n : Nat) (v : Int) (h1 : 1 ≤ n) (hn : n ≤ 400) (w : World) (h : Rd w 1 A 1 [Value.int .i64 v]) :
    Calls Try.prog 13 #[.slice A 1 c, .int .i64 (n : Int)] w fun e w' => ∃ B d, e = .returned (.slice B n d) ∧ Ow (Value.int .i64) w' w.heap.size 3 (.slice B n d) (List.replicate n v) ∧ Below w.heap.size w w' := by
  have C := Lib.hid (fun (W : World) => Mul_one n hn W)
  have hmk := run_mk (P := Try.prog) elInt rfl .i64 .i64 n n (Nat.le_refl _) (by omega) (by omega)
  obtain ⟨ad, rfl, hcell⟩ := h.2 (by omega)
  have hc0 := hcell 0 _ rfl
  have hn' : (n : Int) ≤ 400 := by omega
  have hn1 : (1 : Int) ≤ n := by omega
  go_enter Try.func13, Try.ntmps13
  go_wp2_with fail
  refine (C.out _).mono ?_
  rintro e w' ⟨rfl, hw⟩
  obtain rfl := hw.symm
  have hrow : (w.alloc (.cells (madeCells #[Value.int .i64 0] n) 3)).heap[w.heap.size]? = some (.cells (rowK (Value.int .i64 v) (Value.int .i64 0) n 0).toArray 3 (0, 0)) := by
    have := heap_alloc_new w (.cells (madeCells #[Value.int .i64 0] n) 3)
    rw [this, show rowK (Value.int .i64 v) (Value.int .i64 0) n 0 = (madeCells #[Value.int .i64 0] n).toList from (madeRow (Value.int .i64 v) (Value.int .i64 0) n).symm]
  have hB0 := (Below.refl w.heap.size w).alloc (Nat.le_refl _) (.cells (madeCells #[Value.int .i64 0] n) 3)
  have hce : (w.alloc (.cells (madeCells #[Value.int .i64 0] n) 3)).cell? ad = some (Value.int .i64 v) := by
    have hc : w.cell? ad = some (Value.int .i64 v) := hc0
    exact (((Below.refl w.heap.size w).alloc (Nat.le_refl _) _).cell (World.block_lt_of_cell? _ _ hc)).trans hc
  have Hrow := Lib.hid hrow
  have Hce := Lib.hid hce
  clear hrow hce hcell hc0
  go_wp2_with (with_reducible refine wpList_copy_splice rfl (.tmp 31) (.tmp 32) 22 22 rfl 3 Try.underlying22 (by kernel_rfl) _ _ n n 1 c rfl rfl w.heap.size 0 (rowK (Value.int .i64 v) (Value.int .i64 0) n 0) 3 Hrow.out [Value.int .i64 v] ?_ ?_ ?_ ?_ w.heap.size w hB0 (Nat.le_refl _) ?_)
  case refine_1 => exact (Nat.min_eq_left h1).symm
  case refine_2 =>
    intro j u hu
    cases j with
    | zero =>
      simp at hu
      subst hu
      exact Hce.out
    | succ j => simp at hu
  case refine_3 => rw [rowK_len (Nat.zero_le _)]; exact h1
  case refine_4 =>
    intro u hu
    rw [List.mem_singleton.1 hu]
    rfl
  case refine_5 =>
    intro w2 HG2 hB2
    have HG2' : Hid (w2.heap[w.heap.size]? = some (.cells (rowK (Value.int .i64 v) (Value.int .i64 0) n 1).toArray 3 (0, 0))) := by
      show _ = _
      have := HG2.out
      rwa [show [Value.int .i64 v] = List.replicate 1 (Value.int .i64 v) from rfl, rowK_splice (by omega)] at this
    clear HG2 Hrow Hce hB0 hmk C
    go_wp2
    go_loopw [8] (fun i wr => ∃ k : Nat, 1 ≤ k ∧ k ≤ n ∧ i = .int .i64 k ∧ Hid (wr.heap[w.heap.size]? = some (.cells (rowK (Value.int .i64 v) (Value.int .i64 0) n k).toArray 3 (0, 0))) ∧ Below w.heap.size w wr) (fun i _ => n - (intOf i).toNat)
    case atStart => exact ⟨1, Nat.le_refl _, h1, rfl, HG2', hB2⟩
    case round =>
      obtain ⟨k, hk1, hk, rfl, HG, hbl⟩ := hrel
      clear HG2'
      by_cases hlt : k < n
      · have hto := fun W => run_to (P := Try.prog) elInt W (some ⟨w.heap.size, 0, none⟩) n n k (by omega)
        have hfr : ∀ W, (Instr.slice 22 (.slice (some ⟨w.heap.size, 0, none⟩) n n) (some (.int .i64 (k : Int))) none none).run Try.prog W = .ok (.slice (some ⟨w.heap.size, k, none⟩) (n - k) (n - k)) W := fun W => by
          have := run_from (P := Try.prog) elInt W (some ⟨w.heap.size, 0, none⟩) n n k (by omega)
          rw [if_neg (by omega)] at this
          simpa [Addr.add, show ¬ k = 0 by omega] using this
        obtain ⟨m, hm⟩ : ∃ m, m = Nat.min k (n - k) := ⟨_, rfl⟩
        have hm1 : k + m ≤ n := by have := Nat.min_le_right k (n - k); rw [← show m = min k (n - k) from hm] at this; omega
        have hmk : m ≤ k := by have := Nat.min_le_left k (n - k); rw [← show m = min k (n - k) from hm] at this; omega
        have hm0 : 0 < m := by rw [hm]; exact Nat.lt_min.2 ⟨by omega, by omega⟩
        have Hm := Lib.hid hm
        clear hm
        go_wp2
        have hsrc : ∀ j u, (List.replicate m (Value.int .i64 v))[j]? = some u → wr.drew.cell? ((⟨w.heap.size, 0, none⟩ : Addr).add j) = some u := fun j u hu => by
          rw [List.getElem?_replicate] at hu
          split at hu
          · rename_i hj
            injection hu with hu
            subst hu
            have e : (⟨w.heap.size, 0, none⟩ : Addr).add j = ⟨w.heap.size, j, none⟩ := by unfold Addr.add; split <;> simp_all
            rw [e]
            show wr.cell? _ = _
            rw [cell_of_row wr w.heap.size j _ _ _ HG.out]
            simpa using rowK_at (show j < k by omega)
          · cases hu
        have Hsrc := Lib.hid hsrc
        clear hsrc
        refine wp_region_F 7 (w.heap.size) (by kernel_rfl) ?_
        refine wpAnyF_pure (i := 0) (oi := { dst := some 38, op := Op.move (Go.Operand.tmp 8), type := 3, pos := "slices.go:528", after := #[], guard := none }) (v := ?v1) rfl (by kernel_rfl) (by kernel_rfl) (by kernel_rfl) (fun _ _ _ h => h) (Or.inl ⟨by rfl, ?hy1⟩) ?rs1
        case hy1 => (intro W hW; go_simp; try with_reducible rfl)
        try simp only [Act.put, List.setIfInBounds_toArray, List.set_cons_zero, List.set_cons_succ]
        refine wpAnyF_pure (i := 1) (oi := { dst := some 39, op := Op.move (Go.Operand.tmp 7), type := 22, pos := "slices.go:528", after := #[], guard := none }) (v := ?v2) rfl (by kernel_rfl) (by kernel_rfl) (by kernel_rfl) (fun _ _ _ h => h) (Or.inl ⟨by rfl, ?hy2⟩) ?rs2
        case hy2 => (intro W hW; go_simp; try with_reducible rfl)
        try simp only [Act.put, List.setIfInBounds_toArray, List.set_cons_zero, List.set_cons_succ]
        refine wpAnyF_pure (i := 2) (oi := { dst := some 40, op := Op.move (Go.Operand.tmp 8), type := 3, pos := "slices.go:528", after := #[], guard := none }) (v := ?v3) rfl (by kernel_rfl) (by kernel_rfl) (by kernel_rfl) (fun _ _ _ h => h) (Or.inl ⟨by rfl, ?hy3⟩) ?rs3
        case hy3 => (intro W hW; go_simp; try with_reducible rfl)
        try simp only [Act.put, List.setIfInBounds_toArray, List.set_cons_zero, List.set_cons_succ]
        refine wpAnyF_pure (i := 3) (oi := { dst := some 41, op := Op.slice 22 (Go.Operand.tmp 39) (some (Go.Operand.tmp 40)) none none, type := 22, pos := "slices.go:528", after := #[{ on := 1, ground := Ground.data }, { on := 2, ground := Ground.data }], guard := none }) (v := ?v4) rfl (by kernel_rfl) (by kernel_rfl) (by kernel_rfl) (fun _ _ _ h => h) (Or.inl ⟨by rfl, ?hy4⟩) ?rs4
        case hy4 => (intro W hW; go_simp; try with_reducible rfl)
        try simp only [Act.put, List.setIfInBounds_toArray, List.set_cons_zero, List.set_cons_succ]
        refine wpAnyF_pure (i := 4) (oi := { dst := some 42, op := Op.move (Go.Operand.tmp 7), type := 22, pos := "slices.go:528", after := #[], guard := none }) (v := ?v5) rfl (by kernel_rfl) (by kernel_rfl) (by kernel_rfl) (fun _ _ _ h => h) (Or.inl ⟨by rfl, ?hy5⟩) ?rs5
        case hy5 => (intro W hW; go_simp; try with_reducible rfl)
        try simp only [Act.put, List.setIfInBounds_toArray, List.set_cons_zero, List.set_cons_succ]
        refine wpAnyF_pure (i := 5) (oi := { dst := some 43, op := Op.move (Go.Operand.tmp 8), type := 3, pos := "slices.go:528", after := #[], guard := none }) (v := ?v6) rfl (by kernel_rfl) (by kernel_rfl) (by kernel_rfl) (fun _ _ _ h => h) (Or.inl ⟨by rfl, ?hy6⟩) ?rs6
        case hy6 => (intro W hW; go_simp; try with_reducible rfl)
        try simp only [Act.put, List.setIfInBounds_toArray, List.set_cons_zero, List.set_cons_succ]
        refine wpAnyF_pure (i := 6) (oi := { dst := some 44, op := Op.slice 22 (Go.Operand.tmp 42) none (some (Go.Operand.tmp 43)) none, type := 22, pos := "slices.go:528", after := #[{ on := 4, ground := Ground.data }, { on := 5, ground := Ground.data }], guard := none }) (v := ?v7) rfl (by kernel_rfl) (by kernel_rfl) (by kernel_rfl) (fun _ _ _ h => h) (Or.inl ⟨by rfl, ?hy7⟩) ?rs7
        case hy7 => (intro W hW; go_simp; try with_reducible rfl)
        try simp only [Act.put, List.setIfInBounds_toArray, List.set_cons_zero, List.set_cons_succ]
        refine wpAnyF_last (i := 7) (o := { dst := some 45, op := Op.call { callee := Callee.builtin Builtin.copy, args := #[Go.Operand.tmp 41, Go.Operand.tmp 44], argTypes := #[22, 22] }, type := 3, pos := "slices.go:528", after := #[{ on := 3, ground := Ground.data }, { on := 6, ground := Ground.data }], guard := none }) (by kernel_rfl) rfl (by decide) (fun K hK => ?_)
        rw [if_pos (by rfl)]
        refine wp_copyR (ops := #[]) rfl (.tmp 41) (.tmp 44) 22 22 rfl 3 Try.underlying22 (by kernel_rfl) w.heap.size k ⟨w.heap.size, 0, none⟩ (n - k) (n - k) k n rfl rfl (rowK (Value.int .i64 v) (Value.int .i64 0) n k) 3 HG.out (List.replicate m (Value.int .i64 v)) (by rw [List.length_replicate]; exact Hm.out) Hsrc.out (by rw [rowK_len hk, List.length_replicate]; exact hm1) (fun u hu => by rw [List.eq_of_mem_replicate hu]; rfl) w.heap.size w hbl.drew (Nat.le_refl _) ?_; intro w4 hg4 hb4
        refine hK.out _ _ ?_
        clear hK K
        try simp only [Act.put, List.setIfInBounds_toArray, List.set_cons_zero, List.set_cons_succ]
        refine wpAnyF_pure (i := 8) (oi := { dst := some 46, op := Op.binOp Go.BinOp.add 3 (Go.Operand.tmp 38) (Go.Operand.tmp 45) 3, type := 3, pos := "slices.go:528", after := #[{ on := 0, ground := Ground.data }, { on := 7, ground := Ground.data }], guard := none }) (v := ?v8) rfl (by kernel_rfl) (by kernel_rfl) (by kernel_rfl) (fun _ _ _ h => h) (Or.inl ⟨by rfl, ?hy8⟩) ?rs8
        case hy8 => (intro W hW; go_simp; try with_reducible rfl)
        try simp only [Act.put, List.setIfInBounds_toArray, List.set_cons_zero, List.set_cons_succ]
        refine wpAnyF_pure (i := 9) (oi := { dst := some 8, op := Op.assign (Go.Operand.tmp 46), type := 3, pos := "slices.go:528", after := #[{ on := 8, ground := Ground.data }, { on := 7, ground := Ground.chain }, { on := 0, ground := Ground.phase }, { on := 1, ground := Ground.phase }, { on := 2, ground := Ground.phase }, { on := 3, ground := Ground.phase }, { on := 4, ground := Ground.phase }, { on := 5, ground := Ground.phase }, { on := 6, ground := Ground.phase }, { on := 7, ground := Ground.phase }, { on := 8, ground := Ground.phase }], guard := none }) (v := ?v9) rfl (by kernel_rfl) (by kernel_rfl) (by kernel_rfl) (fun _ _ _ h => h) (Or.inl ⟨by rfl, ?hy9⟩) ?rs9
        case hy9 => (intro W hW; go_simp; try with_reducible rfl)
        try simp only [Act.put, List.setIfInBounds_toArray, List.set_cons_zero, List.set_cons_succ]
        refine wpAnyF_done (by kernel_rfl) ?_
        have HG4 : Hid (w4.heap[w.heap.size]? = some (.cells (rowK (Value.int .i64 v) (Value.int .i64 0) n (k + m)).toArray 3 (0, 0))) := by
          show _ = _
          have := hg4.out
          rwa [rowK_splice hm1] at this
        have hlen : (List.replicate m (Value.int .i64 v)).length = m := List.length_replicate
        clear hg4 HG Hsrc hto hfr
        have hwr : IntKind.i64.wrap ((k : Int) + (m : Int)) = (k : Int) + (m : Int) := IntWalk.i64_in _ (by omega)
        go_wp2
        go_roundw
        case rel => exact ⟨k + m, by omega, hm1, by go_num, HG4, hb4⟩
        case measure => simp [intOf] <;> omega
      · obtain rfl : k = n := by omega
        have hr := HG.out
        have Ho : Hid (Ow (Value.int .i64) wr w.heap.size 3 (.slice (some ⟨w.heap.size, 0, none⟩) k k) (List.replicate k v)) := by
          refine ⟨by simp, .inr ⟨w.heap.size, k, _, by simp, Nat.le_refl _, hr, by simp, by unfold maxLen; omega, by simp [rowK], by simp [rowK]⟩⟩
        clear hr HG
        go_wp2
        go_ret
        exact ⟨_, _, rfl, Ho.out, hbl⟩
end Go.Proofs.Ytaliompoknnjgaa
