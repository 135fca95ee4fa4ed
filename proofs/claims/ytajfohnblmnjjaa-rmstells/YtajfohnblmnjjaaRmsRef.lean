/-
  Contract of the reference's TSort. No statement of the seat is here.
-/
import Derived.Test.YtajfohnblmnjjaaRmsSort
import Derived.Test.YtajfohnblmnjjaaAppendFull
import Derived.Test.YtajfohnblmnjjaaRegionH
import Derived.Deep.CutBlock
import Derived.Deep.DeepCutAuto
namespace Go.Proofs.Ytajfohnblmnjjaa
open Go.RowKit
set_option linter.unusedVariables false
set_option maxRecDepth 20000

set_option maxHeartbeats 3200000 in
theorem TSort_any (A : Option Addr) (n c : Nat) (M : List Tk) (hM : GoodK M) (w : World) (h : RdG tkC 2 w A n M) :
    Calls Try.prog 15 #[.slice A n c] w fun e w' => ∃ v, e = .returned v ∧ OwG tkC 2 w' w.heap.size 38 v (sortT M) ∧ Below w.heap.size w w' := by
  have hl : M.length = n := RdG.len tkK h
  have hn16 : n ≤ 16 := by have := hM.len; omega
  go_enter Try.func15, Try.ntmps15
  go_upto_region 3 with fail
  go_loopw [9, 3] (fun i v wr => ∃ k : Nat, k ≤ n ∧ i = .int .i64 k ∧ OwG tkC 2 wr w.heap.size 38 v (sortT (M.take k)) ∧ Below w.heap.size w wr) (fun i _ _ => n - (intOf i).toNat)
  case atStart => exact ⟨0, Nat.zero_le _, rfl, OwG.nil _ _ _, Below.refl _ _⟩
  case round =>
    obtain ⟨k, hk, rfl, ho, hbl⟩ := hrel
    by_cases hlt : k < n
    · obtain ⟨ad, tp, tc, rfl, hx, hc0, hc1⟩ := tk_at (h.below hbl) hlt
      have hSt : Hid (sortT (M.take (k + 1)) = putT ⟨tp, tc⟩ (sortT (M.take k))) := by show _ = _; rw [take_snoc hx, sort_snoc]
      have hSl : (sortT (M.take k)).length = k := by rw [(sort_perm _).length_eq, List.length_take]; omega
      have hSs := Lib.hid (sort_sorted (M.take k))
      generalize sortT (M.take k) = S at *
      obtain ⟨A2, c2, rfl, hc2, _, hr⟩ := ho.formN hSl
      have HSl := Lib.hid hSl
      have hbx := Box.new wr 38 [.int .i64 (tp : Int), .int .i64 (tc : Int)]
      have hoX := ho.alloc (.cells #[.int .i64 (tp : Int), .int .i64 (tc : Int)] 38)
      have hrX := Rd.below hr (below_one (w := wr) (.cells #[.int .i64 (tp : Int), .int .i64 (tc : Int)] 38))
      have hblX := bthen hbl (below_one (w := wr) (.cells #[.int .i64 (tp : Int), .int .i64 (tc : Int)] 38))
      clear hx ho hr hSl
      go_upto_region 6 with fail
      generalize wr.alloc (.cells #[.int .i64 (tp : Int), .int .i64 (tc : Int)] 38) = X at *
      generalize wr.heap.size = bx at *
      clear hc0 hc1 hbl
      go_loopw [6] (fun i W => ∃ j : Nat, j ≤ k ∧ i = .int .i64 j ∧ Hid (∀ u ∈ S.drop j, tp < u.p) ∧ ∃ q, W = X.drewN q) (fun i _ => (intOf i).toNat)
      case atStart => exact ⟨k, Nat.le_refl _, rfl, (fun u hu => by rw [List.drop_of_length_le (by rw [HSl.out]; exact Nat.le_refl _)] at hu; cases hu), 0, rfl⟩
      case round =>
        obtain ⟨j, hj, rfl, hd, q, rfl⟩ := hrel
        have hoW := hoX.below (below_draws (w := X) ⟨q, rfl⟩)
        have hrW : RdG tkC 2 (X.drewN q) A2 k S := Rd.below hrX (below_draws (w := X) ⟨q, rfl⟩)
        have hblW := bthen hblX (below_draws (w := X) ⟨q, rfl⟩)
        have hbxW := hbx.below (below_draws (w := X) ⟨q, rfl⟩) hbx.lt
        have hqq : Hid (∀ p, ∃ r, (X.drewN q).drewN p = X.drewN r) := fun p => ⟨q + p, by rw [World.drewN_drewN]⟩
        clear hoX hrX hblX hbx
        generalize X.drewN q = Y at *
        have b0 := hbxW.cell 0 rfl
        have hcase : j = 0 ∨ (∃ m, j = m + 1 ∧ ∃ ad2 up uc, A2 = some ad2 ∧ S[m]? = some ⟨up, uc⟩ ∧ Y.cell? (ad2.add (m * 2)) = some (.int .i64 (up : Int)) ∧ tp < up) ∨ (∃ m, j = m + 1 ∧ ∃ ad2 up uc, A2 = some ad2 ∧ S[m]? = some ⟨up, uc⟩ ∧ Y.cell? (ad2.add (m * 2)) = some (.int .i64 (up : Int)) ∧ ¬ tp < up) := by
          rcases Nat.eq_zero_or_pos j with h0 | h0
          · exact .inl h0
          · obtain ⟨ad2, up, uc, hA2, hu, hc0, _⟩ := tk_at hrW (show j - 1 < k by omega)
            by_cases hlt2 : tp < up
            · exact .inr (.inl ⟨j - 1, by omega, ad2, up, uc, hA2, hu, hc0, hlt2⟩)
            · exact .inr (.inr ⟨j - 1, by omega, ad2, up, uc, hA2, hu, hc0, hlt2⟩)
        rcases hcase with hj00 | ⟨m, hjm, ad2, up, uc, rfl, hu, hcu, hlt2⟩ | ⟨m, hjm, ad2, up, uc, rfl, hu, hcu, hlt2⟩
        · have hle : Hid (∀ u ∈ S.take j, u.p ≤ tp) := fun u hu => by rw [hj00] at hu; cases hu
          have hd0 : decide (0 < j) = false := decide_eq_false (by omega)
          clear hj00
          go_wp2
          go_quiet (fail)
          have hB0 : Below Y.heap.size Y (Y.drewN nq) := below_draws ⟨nq, rfl⟩
          replace hrW : RdG tkC 2 (Y.drewN nq) A2 k S := Rd.below hrW hB0
          replace hblW := bthen hblW hB0
          replace hbxW := hbxW.below hB0 hbxW.lt
          clear hB0 hqq hoW b0
          generalize Y.drewN nq = W0 at *
          have hbl := hbxW.lt
          have hjk : j ≤ k := hj
          have T1 := Lib.hid (RdG.takeTo tkK.len hrW hjk)
          have T2 := Lib.hid (RdG.cutFrom tkK.len hrW hjk hc2)
          have t1 := fun W => run_full (P := Try.prog) elTask W A2 k c2 j (by omega)
          have t2 := fun W => run_from (P := Try.prog) elTask W A2 k c2 j hjk
          generalize (if c2 = j then A2 else (A2).map (·.add (j * 2))) = B at *
          have Hdl : Hid ((S.drop j).length = k - j) := by show _ = _; rw [List.length_drop, HSl.out]
          have Htl : Hid ((S.take j).length = j) := by show _ = _; rw [List.length_take, HSl.out]; omega
          clear hrW
          go_upto_region 8 with fail
          have hB : Below W0.heap.size W0 W0.drew := (Below.refl _ _).drew
          have hS0 : Kept bx (tp : Int) (tc : Int) W0 := ⟨(hbxW.cell 0 rfl), (hbxW.cell 1 rfl)⟩
          have hS : Kept bx (tp : Int) (tc : Int) W0.drew := ⟨(hbxW.cell 0 rfl), (hbxW.cell 1 rfl)⟩
          refine wp_region_S (Kept bx (tp : Int) (tc : Int)) (by kernel_rfl) hS ?_
          refine wpAnyS_take (i := 0) (oi := { dst := some 30, op := Op.move (Go.Operand.tmp 3), type := 22, pos := "rms.go:40", after := #[], guard := none }) (v := ?v1) rfl (by kernel_rfl) (by kernel_rfl) (by kernel_rfl) (fun _ _ _ h => h) (Or.inl ⟨by rfl, ?hy1⟩) hS ?rs1
          case hy1 => (intro W hW; go_simp; try with_reducible rfl)
          try simp only [Act.put, List.setIfInBounds_toArray, List.set_cons_zero, List.set_cons_succ]
          refine wpAnyS_take (i := 1) (oi := { dst := some 31, op := Op.move (Go.Operand.tmp 6), type := 3, pos := "rms.go:40", after := #[], guard := none }) (v := ?v2) rfl (by kernel_rfl) (by kernel_rfl) (by kernel_rfl) (fun _ _ _ h => h) (Or.inl ⟨by rfl, ?hy2⟩) hS ?rs2
          case hy2 => (intro W hW; go_simp; try with_reducible rfl)
          try simp only [Act.put, List.setIfInBounds_toArray, List.set_cons_zero, List.set_cons_succ]
          refine wpAnyS_take (i := 2) (oi := { dst := some 32, op := Op.move (Go.Operand.tmp 6), type := 3, pos := "rms.go:40", after := #[], guard := none }) (v := ?v3) rfl (by kernel_rfl) (by kernel_rfl) (by kernel_rfl) (fun _ _ _ h => h) (Or.inl ⟨by rfl, ?hy3⟩) hS ?rs3
          case hy3 => (intro W hW; go_simp; try with_reducible rfl)
          try simp only [Act.put, List.setIfInBounds_toArray, List.set_cons_zero, List.set_cons_succ]
          refine wpAnyS_take (i := 3) (oi := { dst := some 33, op := Op.slice 22 (Go.Operand.tmp 30) none (some (Go.Operand.tmp 31)) (some (Go.Operand.tmp 32)), type := 22, pos := "rms.go:40", after := #[{ on := 0, ground := Ground.data }, { on := 1, ground := Ground.data }, { on := 2, ground := Ground.data }], guard := none }) (v := ?v4) rfl (by kernel_rfl) (by kernel_rfl) (by kernel_rfl) (fun _ _ _ h => h) (Or.inl ⟨by rfl, ?hy4⟩) hS ?rs4
          case hy4 => (intro W hW; go_simp; try with_reducible rfl)
          try simp only [Act.put, List.setIfInBounds_toArray, List.set_cons_zero, List.set_cons_succ]
          refine wpAnyS_take (i := 4) (oi := { dst := some 34, op := Op.load 38 (Go.Operand.tmp 5), type := 38, pos := "rms.go:40", after := #[], guard := none }) (v := ?v5) rfl (by kernel_rfl) (by kernel_rfl) (by kernel_rfl) (fun _ _ _ h => h) (Or.inl ⟨by rfl, ?hy5⟩) hS ?rs5
          case hy5 => (intro W hW; obtain ⟨g0, g1⟩ := hW; go_simp; try with_reducible rfl)
          try simp only [Act.put, List.setIfInBounds_toArray, List.set_cons_zero, List.set_cons_succ]
          refine wpAnyS_take (i := 6) (oi := { dst := some 36, op := Op.move (Go.Operand.tmp 3), type := 22, pos := "rms.go:40", after := #[], guard := none }) (v := ?v6) rfl (by kernel_rfl) (by kernel_rfl) (by kernel_rfl) (fun _ _ _ h => h) (Or.inl ⟨by rfl, ?hy6⟩) hS ?rs6
          case hy6 => (intro W hW; go_simp; try with_reducible rfl)
          try simp only [Act.put, List.setIfInBounds_toArray, List.set_cons_zero, List.set_cons_succ]
          refine wpAnyS_take (i := 7) (oi := { dst := some 37, op := Op.move (Go.Operand.tmp 6), type := 3, pos := "rms.go:40", after := #[], guard := none }) (v := ?v7) rfl (by kernel_rfl) (by kernel_rfl) (by kernel_rfl) (fun _ _ _ h => h) (Or.inl ⟨by rfl, ?hy7⟩) hS ?rs7
          case hy7 => (intro W hW; go_simp; try with_reducible rfl)
          try simp only [Act.put, List.setIfInBounds_toArray, List.set_cons_zero, List.set_cons_succ]
          refine wpAnyS_take (i := 8) (oi := { dst := some 38, op := Op.slice 22 (Go.Operand.tmp 36) (some (Go.Operand.tmp 37)) none none, type := 22, pos := "rms.go:40", after := #[{ on := 6, ground := Ground.data }, { on := 7, ground := Ground.data }], guard := none }) (v := ?v8) rfl (by kernel_rfl) (by kernel_rfl) (by kernel_rfl) (fun _ _ _ h => h) (Or.inl ⟨by rfl, ?hy8⟩) hS ?rs8
          case hy8 => (intro W hW; go_simp; try with_reducible rfl)
          try simp only [Act.put, List.setIfInBounds_toArray, List.set_cons_zero, List.set_cons_succ]
          refine wpAnyS_one (i := 5) (o := { dst := some 35, op := Op.buildSlice 22 1 #[(0, Go.Operand.tmp 34)], type := 22, pos := "rms.go:40", after := #[{ on := 4, ground := Ground.data }], guard := none }) (by kernel_rfl) rfl (fun K hK => ?_)
          go_simp
          have hlit : OwG tkC 2 (W0.alloc (.cells #[.int .i64 (tp : Int), .int .i64 (tc : Int)] 38)).drew W0.heap.size 38 (.slice (some ⟨W0.heap.size, 0, none⟩) 1 1) [⟨tp, tc⟩] := OwG.below (OwG.lit tkK W0 38 [⟨tp, tc⟩] (Nat.le_refl _) rfl (by decide)) ((Below.refl _ _).drew); replace hB : Below W0.heap.size W0 (W0.alloc (.cells #[.int .i64 (tp : Int), .int .i64 (tc : Int)] 38)).drew := ((Below.refl W0.heap.size W0).alloc (Nat.le_refl _) _).drew; replace hS : Kept bx (tp : Int) (tc : Int) (W0.alloc (.cells #[.int .i64 (tp : Int), .int .i64 (tc : Int)] 38)).drew := hS0.below hB
          refine hK.out _ _ hS ?_
          clear hK K
          try simp only [Act.put, List.setIfInBounds_toArray, List.set_cons_zero, List.set_cons_succ]
          refine wpAnyS_one (i := 9) (o := { dst := some 39, op := Op.call { callee := Callee.builtin Builtin.append, args := #[Go.Operand.tmp 35, Go.Operand.tmp 38], argTypes := #[22, 22] }, type := 22, pos := "rms.go:40", after := #[{ on := 5, ground := Ground.data }, { on := 8, ground := Ground.data }], guard := none }) (by kernel_rfl) rfl (fun K hK => ?_)
          rw [if_pos (by rfl)]
          refine wp_apG tkK _ elTask rfl W0.heap.size (.slice (some ⟨W0.heap.size, 0, none⟩) 1 1) [⟨tp, tc⟩] rfl hlit B (k - j) (c2 - j) (S.drop j) rfl (T2.out.below hB) hB.size (by simp; omega) (by simp; omega) ?_; intro v9 w9 ho9 hm9; replace hS := hS.grown hm9.1 (fun e => by injection e with e; simp only at e; omega); replace hB := hm9.below hB hB.size hlit.block; have hs9 := hB.size; obtain ⟨A9, c9, rfl, _, _, r9⟩ := ho9.formN (n := k - j + 1) (by rw [List.length_append, Hdl.out, List.length_singleton]; omega)
          refine hK.out _ _ hS ?_
          clear hK K
          try simp only [Act.put, List.setIfInBounds_toArray, List.set_cons_zero, List.set_cons_succ]
          refine wpAnyS_one (i := 10) (o := { dst := some 40, op := Op.call { callee := Callee.builtin Builtin.append, args := #[Go.Operand.tmp 33, Go.Operand.tmp 39], argTypes := #[22, 22] }, type := 22, pos := "rms.go:40", after := #[{ on := 3, ground := Ground.data }, { on := 9, ground := Ground.data }, { on := 9, ground := Ground.chain }], guard := none }) (by kernel_rfl) rfl (fun K hK => ?_)
          rw [if_pos (by rfl)]
          refine wp_apFull tkK _ elTask rfl A2 j (S.take j) rfl (T1.out.below hB) A9 (k - j + 1) c9 _ rfl r9 (by omega) (by omega) (by omega) ?_; intro v10 w10 ho10 hb10; replace hS := hS.below hb10; replace hB := bthen hB hb10
          refine hK.out _ _ hS ?_
          clear hK K
          try simp only [Act.put, List.setIfInBounds_toArray, List.set_cons_zero, List.set_cons_succ]
          refine wpAnyS_take (i := 11) (oi := { dst := some 3, op := Op.assign (Go.Operand.tmp 40), type := 22, pos := "rms.go:40", after := #[{ on := 10, ground := Ground.data }, { on := 10, ground := Ground.chain }, { on := 0, ground := Ground.phase }, { on := 1, ground := Ground.phase }, { on := 2, ground := Ground.phase }, { on := 3, ground := Ground.phase }, { on := 4, ground := Ground.phase }, { on := 5, ground := Ground.phase }, { on := 6, ground := Ground.phase }, { on := 7, ground := Ground.phase }, { on := 8, ground := Ground.phase }, { on := 9, ground := Ground.phase }, { on := 10, ground := Ground.phase }], guard := none }) (v := ?v9) rfl (by kernel_rfl) (by kernel_rfl) (by kernel_rfl) (fun _ _ _ h => h) (Or.inl ⟨by rfl, ?hy9⟩) hS ?rs9
          case hy9 => (intro W hW; go_simp; try with_reducible rfl)
          try simp only [Act.put, List.setIfInBounds_toArray, List.set_cons_zero, List.set_cons_succ]
          refine wpAnyS_done (by kernel_rfl) ?_
          have hfin : Hid (S.take j ++ ([(⟨tp, tc⟩ : Tk)] ++ S.drop j) = sortT (M.take (k + 1))) := by
            show _ = _
            rw [hSt.out, putT_at (S := S) (j := j) (by rw [HSl.out]; omega) hle.out hd.out]; rfl
          rw [hfin.out] at ho10
          have hsz := hblW.size
          have hsz2 := hB.size
          have HOf := Lib.hid (OwG.mono ho10 (base' := w.heap.size) (by omega))
          have hBf := bthen hblW hB
          clear ho9 ho10 hm9 r9 T1 T2 t1 t2 hB hS
          go_wp2
          go_roundw
          case rel => exact ⟨k + 1, by omega, by go_num, HOf.out, hBf⟩
          case measure => simp [intOf] <;> omega
        · have hd2 : decide (tp < up) = true := decide_eq_true hlt2
          have hwj : IntKind.i64.wrap ((j : Int) - 1) = (m : Int) := by rw [hjm, show ((m + 1 : Nat) : Int) - 1 = (m : Int) by omega]; exact IntWalk.i64_in _ (by omega)
          have hd0 : decide (0 < j) = true := decide_eq_true (by omega)
          have hmk : m < k := by omega
          have Hjm := Lib.hid hjm
          have Hu := Lib.hid hu
          clear hjm hu
          have hdN : Hid (∀ u ∈ S.drop m, tp < u.p) := by
            intro u hx
            rw [drop_cons Hu.out, ← Hjm.out] at hx
            rcases List.mem_cons.1 hx with rfl | hx
            · exact hlt2
            · exact hd.out u hx
          go_wp2
          go_quiet (fail)
          go_wp2
          go_roundw
          case rel => exact ⟨m, by omega, rfl, hdN, hqq.out _⟩
          case measure => have := Hjm.out; simp [intOf] <;> omega
        · have hd2 : decide (tp < up) = false := decide_eq_false hlt2
          have hwj : IntKind.i64.wrap ((j : Int) - 1) = (m : Int) := by rw [hjm, show ((m + 1 : Nat) : Int) - 1 = (m : Int) by omega]; exact IntWalk.i64_in _ (by omega)
          have hd0 : decide (0 < j) = true := decide_eq_true (by omega)
          have hmk : m < k := by omega
          have Hjm := Lib.hid hjm
          have Hu := Lib.hid hu
          clear hjm hu
          have hle : Hid (∀ u ∈ S.take j, u.p ≤ tp) := by
            intro u hx
            have hsrt := hSs.out
            unfold SortedT at hsrt
            have e : S = S.take m ++ ⟨up, uc⟩ :: S.drop (m + 1) := by rw [← drop_cons Hu.out, List.take_append_drop]
            rw [Hjm.out, take_snoc Hu.out] at hx
            rcases List.mem_append.1 hx with hx | hx
            · rw [e] at hsrt
              have h3 := (List.pairwise_append.1 hsrt).2.2 u hx ⟨up, uc⟩ (by simp)
              simp only at h3
              omega
            · rw [List.mem_singleton.1 hx]
              show up ≤ tp
              omega
          go_wp2
          go_quiet (fail)
          have hB0 : Below Y.heap.size Y (Y.drewN nq) := below_draws ⟨nq, rfl⟩
          replace hrW : RdG tkC 2 (Y.drewN nq) (some ad2) k S := Rd.below hrW hB0
          replace hblW := bthen hblW hB0
          replace hbxW := hbxW.below hB0 hbxW.lt
          clear hB0 hqq hoW b0 hcu hd2 hd0 hwj
          generalize Y.drewN nq = W0 at *
          have hbl := hbxW.lt
          have hjk : j ≤ k := hj
          have T1 := Lib.hid (RdG.takeTo tkK.len hrW hjk)
          have T2 := Lib.hid (RdG.cutFrom tkK.len hrW hjk hc2)
          have t1 := fun W => run_full (P := Try.prog) elTask W (some ad2) k c2 j (by omega)
          have t2 := fun W => run_from (P := Try.prog) elTask W (some ad2) k c2 j hjk
          generalize (if c2 = j then (some ad2) else ((some ad2)).map (·.add (j * 2))) = B at *
          have Hdl : Hid ((S.drop j).length = k - j) := by show _ = _; rw [List.length_drop, HSl.out]
          have Htl : Hid ((S.take j).length = j) := by show _ = _; rw [List.length_take, HSl.out]; omega
          clear hrW
          go_upto_region 8 with fail
          have hB : Below W0.heap.size W0 W0.drew := (Below.refl _ _).drew
          have hS0 : Kept bx (tp : Int) (tc : Int) W0 := ⟨(hbxW.cell 0 rfl), (hbxW.cell 1 rfl)⟩
          have hS : Kept bx (tp : Int) (tc : Int) W0.drew := ⟨(hbxW.cell 0 rfl), (hbxW.cell 1 rfl)⟩
          refine wp_region_S (Kept bx (tp : Int) (tc : Int)) (by kernel_rfl) hS ?_
          refine wpAnyS_take (i := 0) (oi := { dst := some 30, op := Op.move (Go.Operand.tmp 3), type := 22, pos := "rms.go:40", after := #[], guard := none }) (v := ?v10) rfl (by kernel_rfl) (by kernel_rfl) (by kernel_rfl) (fun _ _ _ h => h) (Or.inl ⟨by rfl, ?hy10⟩) hS ?rs10
          case hy10 => (intro W hW; go_simp; try with_reducible rfl)
          try simp only [Act.put, List.setIfInBounds_toArray, List.set_cons_zero, List.set_cons_succ]
          refine wpAnyS_take (i := 1) (oi := { dst := some 31, op := Op.move (Go.Operand.tmp 6), type := 3, pos := "rms.go:40", after := #[], guard := none }) (v := ?v11) rfl (by kernel_rfl) (by kernel_rfl) (by kernel_rfl) (fun _ _ _ h => h) (Or.inl ⟨by rfl, ?hy11⟩) hS ?rs11
          case hy11 => (intro W hW; go_simp; try with_reducible rfl)
          try simp only [Act.put, List.setIfInBounds_toArray, List.set_cons_zero, List.set_cons_succ]
          refine wpAnyS_take (i := 2) (oi := { dst := some 32, op := Op.move (Go.Operand.tmp 6), type := 3, pos := "rms.go:40", after := #[], guard := none }) (v := ?v12) rfl (by kernel_rfl) (by kernel_rfl) (by kernel_rfl) (fun _ _ _ h => h) (Or.inl ⟨by rfl, ?hy12⟩) hS ?rs12
          case hy12 => (intro W hW; go_simp; try with_reducible rfl)
          try simp only [Act.put, List.setIfInBounds_toArray, List.set_cons_zero, List.set_cons_succ]
          refine wpAnyS_take (i := 3) (oi := { dst := some 33, op := Op.slice 22 (Go.Operand.tmp 30) none (some (Go.Operand.tmp 31)) (some (Go.Operand.tmp 32)), type := 22, pos := "rms.go:40", after := #[{ on := 0, ground := Ground.data }, { on := 1, ground := Ground.data }, { on := 2, ground := Ground.data }], guard := none }) (v := ?v13) rfl (by kernel_rfl) (by kernel_rfl) (by kernel_rfl) (fun _ _ _ h => h) (Or.inl ⟨by rfl, ?hy13⟩) hS ?rs13
          case hy13 => (intro W hW; go_simp; try with_reducible rfl)
          try simp only [Act.put, List.setIfInBounds_toArray, List.set_cons_zero, List.set_cons_succ]
          refine wpAnyS_take (i := 4) (oi := { dst := some 34, op := Op.load 38 (Go.Operand.tmp 5), type := 38, pos := "rms.go:40", after := #[], guard := none }) (v := ?v14) rfl (by kernel_rfl) (by kernel_rfl) (by kernel_rfl) (fun _ _ _ h => h) (Or.inl ⟨by rfl, ?hy14⟩) hS ?rs14
          case hy14 => (intro W hW; obtain ⟨g0, g1⟩ := hW; go_simp; try with_reducible rfl)
          try simp only [Act.put, List.setIfInBounds_toArray, List.set_cons_zero, List.set_cons_succ]
          refine wpAnyS_take (i := 6) (oi := { dst := some 36, op := Op.move (Go.Operand.tmp 3), type := 22, pos := "rms.go:40", after := #[], guard := none }) (v := ?v15) rfl (by kernel_rfl) (by kernel_rfl) (by kernel_rfl) (fun _ _ _ h => h) (Or.inl ⟨by rfl, ?hy15⟩) hS ?rs15
          case hy15 => (intro W hW; go_simp; try with_reducible rfl)
          try simp only [Act.put, List.setIfInBounds_toArray, List.set_cons_zero, List.set_cons_succ]
          refine wpAnyS_take (i := 7) (oi := { dst := some 37, op := Op.move (Go.Operand.tmp 6), type := 3, pos := "rms.go:40", after := #[], guard := none }) (v := ?v16) rfl (by kernel_rfl) (by kernel_rfl) (by kernel_rfl) (fun _ _ _ h => h) (Or.inl ⟨by rfl, ?hy16⟩) hS ?rs16
          case hy16 => (intro W hW; go_simp; try with_reducible rfl)
          try simp only [Act.put, List.setIfInBounds_toArray, List.set_cons_zero, List.set_cons_succ]
          refine wpAnyS_take (i := 8) (oi := { dst := some 38, op := Op.slice 22 (Go.Operand.tmp 36) (some (Go.Operand.tmp 37)) none none, type := 22, pos := "rms.go:40", after := #[{ on := 6, ground := Ground.data }, { on := 7, ground := Ground.data }], guard := none }) (v := ?v17) rfl (by kernel_rfl) (by kernel_rfl) (by kernel_rfl) (fun _ _ _ h => h) (Or.inl ⟨by rfl, ?hy17⟩) hS ?rs17
          case hy17 => (intro W hW; go_simp; try with_reducible rfl)
          try simp only [Act.put, List.setIfInBounds_toArray, List.set_cons_zero, List.set_cons_succ]
          refine wpAnyS_one (i := 5) (o := { dst := some 35, op := Op.buildSlice 22 1 #[(0, Go.Operand.tmp 34)], type := 22, pos := "rms.go:40", after := #[{ on := 4, ground := Ground.data }], guard := none }) (by kernel_rfl) rfl (fun K hK => ?_)
          go_simp
          have hlit : OwG tkC 2 (W0.alloc (.cells #[.int .i64 (tp : Int), .int .i64 (tc : Int)] 38)).drew W0.heap.size 38 (.slice (some ⟨W0.heap.size, 0, none⟩) 1 1) [⟨tp, tc⟩] := OwG.below (OwG.lit tkK W0 38 [⟨tp, tc⟩] (Nat.le_refl _) rfl (by decide)) ((Below.refl _ _).drew); replace hB : Below W0.heap.size W0 (W0.alloc (.cells #[.int .i64 (tp : Int), .int .i64 (tc : Int)] 38)).drew := ((Below.refl W0.heap.size W0).alloc (Nat.le_refl _) _).drew; replace hS : Kept bx (tp : Int) (tc : Int) (W0.alloc (.cells #[.int .i64 (tp : Int), .int .i64 (tc : Int)] 38)).drew := hS0.below hB
          refine hK.out _ _ hS ?_
          clear hK K
          try simp only [Act.put, List.setIfInBounds_toArray, List.set_cons_zero, List.set_cons_succ]
          refine wpAnyS_one (i := 9) (o := { dst := some 39, op := Op.call { callee := Callee.builtin Builtin.append, args := #[Go.Operand.tmp 35, Go.Operand.tmp 38], argTypes := #[22, 22] }, type := 22, pos := "rms.go:40", after := #[{ on := 5, ground := Ground.data }, { on := 8, ground := Ground.data }], guard := none }) (by kernel_rfl) rfl (fun K hK => ?_)
          rw [if_pos (by rfl)]
          refine wp_apG tkK _ elTask rfl W0.heap.size (.slice (some ⟨W0.heap.size, 0, none⟩) 1 1) [⟨tp, tc⟩] rfl hlit B (k - j) (c2 - j) (S.drop j) rfl (T2.out.below hB) hB.size (by simp; omega) (by simp; omega) ?_; intro v9 w9 ho9 hm9; replace hS := hS.grown hm9.1 (fun e => by injection e with e; simp only at e; omega); replace hB := hm9.below hB hB.size hlit.block; have hs9 := hB.size; obtain ⟨A9, c9, rfl, _, _, r9⟩ := ho9.formN (n := k - j + 1) (by rw [List.length_append, Hdl.out, List.length_singleton]; omega)
          refine hK.out _ _ hS ?_
          clear hK K
          try simp only [Act.put, List.setIfInBounds_toArray, List.set_cons_zero, List.set_cons_succ]
          refine wpAnyS_one (i := 10) (o := { dst := some 40, op := Op.call { callee := Callee.builtin Builtin.append, args := #[Go.Operand.tmp 33, Go.Operand.tmp 39], argTypes := #[22, 22] }, type := 22, pos := "rms.go:40", after := #[{ on := 3, ground := Ground.data }, { on := 9, ground := Ground.data }, { on := 9, ground := Ground.chain }], guard := none }) (by kernel_rfl) rfl (fun K hK => ?_)
          rw [if_pos (by rfl)]
          refine wp_apFull tkK _ elTask rfl (some ad2) j (S.take j) rfl (T1.out.below hB) A9 (k - j + 1) c9 _ rfl r9 (by omega) (by omega) (by omega) ?_; intro v10 w10 ho10 hb10; replace hS := hS.below hb10; replace hB := bthen hB hb10
          refine hK.out _ _ hS ?_
          clear hK K
          try simp only [Act.put, List.setIfInBounds_toArray, List.set_cons_zero, List.set_cons_succ]
          refine wpAnyS_take (i := 11) (oi := { dst := some 3, op := Op.assign (Go.Operand.tmp 40), type := 22, pos := "rms.go:40", after := #[{ on := 10, ground := Ground.data }, { on := 10, ground := Ground.chain }, { on := 0, ground := Ground.phase }, { on := 1, ground := Ground.phase }, { on := 2, ground := Ground.phase }, { on := 3, ground := Ground.phase }, { on := 4, ground := Ground.phase }, { on := 5, ground := Ground.phase }, { on := 6, ground := Ground.phase }, { on := 7, ground := Ground.phase }, { on := 8, ground := Ground.phase }, { on := 9, ground := Ground.phase }, { on := 10, ground := Ground.phase }], guard := none }) (v := ?v18) rfl (by kernel_rfl) (by kernel_rfl) (by kernel_rfl) (fun _ _ _ h => h) (Or.inl ⟨by rfl, ?hy18⟩) hS ?rs18
          case hy18 => (intro W hW; go_simp; try with_reducible rfl)
          try simp only [Act.put, List.setIfInBounds_toArray, List.set_cons_zero, List.set_cons_succ]
          refine wpAnyS_done (by kernel_rfl) ?_
          have hfin : Hid (S.take j ++ ([(⟨tp, tc⟩ : Tk)] ++ S.drop j) = sortT (M.take (k + 1))) := by
            show _ = _
            rw [hSt.out, putT_at (S := S) (j := j) (by rw [HSl.out]; omega) hle.out hd.out]; rfl
          rw [hfin.out] at ho10
          have hsz := hblW.size
          have hsz2 := hB.size
          have HOf := Lib.hid (OwG.mono ho10 (base' := w.heap.size) (by omega))
          have hBf := bthen hblW hB
          clear ho9 ho10 hm9 r9 T1 T2 t1 t2 hB hS
          go_wp2
          go_roundw
          case rel => exact ⟨k + 1, by omega, by go_num, HOf.out, hBf⟩
          case measure => simp [intOf] <;> omega
    · have hkn : k = n := by omega
      subst hkn
      rw [List.take_of_length_le (by omega)] at ho
      have HO := Lib.hid ho
      clear ho
      go_wp2
      go_ret
      exact ⟨_, rfl, HO.out, hbl⟩
end Go.Proofs.Ytajfohnblmnjjaa
