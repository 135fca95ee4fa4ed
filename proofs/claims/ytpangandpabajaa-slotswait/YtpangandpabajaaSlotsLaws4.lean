/-
  The walk of SlotsWait: it returns true, at every argument.
-/
import Derived.Test.YtpangandpabajaaSlotsLaws3
import Derived.Test.YtpangandpabajaaRegion
import Derived.Deep.CutBlock
import Derived.Deep.DeepCutAuto
namespace Go.Proofs.Ytpangandpabajaa
open Go.RowKit
set_option linter.unusedVariables false

set_option maxHeartbeats 1600000 in
theorem SlotsWait_walk (a0 : Int) (A1 : Option Addr) (n1 c1 : Nat) (l1 : List Slt) (a2 : Int) (w : World) (w0 : (Lit.int .i64 a0).wf = true) (h1 : RdS w A1 n1 l1) (q1 : ∀ s ∈ l1, s.Ok) (k1 : n1 ≤ c1) (b1 : c1 * 24 ≤ 140737488351232) (w2 : (Lit.int .i64 a2).wf = true) :
    Calls Try.prog 4 #[.int .i64 a0, .slice A1 n1 c1, .int .i64 a2] w fun e w' => e = .returned (.bool true) ∧ Below w.heap.size w w' := by
  have p0 := in64_wf w0
  have hn : n1 ≤ 140737488355328 := by omega
  clear w0 w2
  have Hl := Lib.hid h1.lenS
  have C1 := Lib.hid (fun (W : World) (h : RdS W A1 n1 l1) => Waits_any a0 p0 A1 n1 c1 l1 a2 W h q1 hn)
  have C2 := Lib.hid (fun (W : World) (h : RdS W A1 n1 l1) => IRight_any a0 p0 A1 n1 c1 l1 W h q1 hn)
  cases hR : rightM a0 l1
  · rw [waitsM_no a2 hR] at C1
    rw [hR] at C2
    clear hR
    go_enter Try.func4, Try.ntmps4
    go_wp2_with fail
    refine (C1.out w h1).mono ?_
    rintro e w1 ⟨rfl, hb1⟩
    go_wp2_with fail
    refine (C2.out w1 (h1.below hb1)).mono ?_
    rintro e w2 ⟨rfl, hb2⟩
    replace hb2 := bthen hb1 hb2
    go_wp2
    go_ret
    exact ⟨rfl, hb2⟩
  · have C3 := Lib.hid (fun (t : Int) (t0 : 0 ≤ t) (t1 : t ≤ 1099511627776) (W : World) (h : RdS W A1 n1 l1) => INext_any a0 A1 n1 c1 l1 a2 t t0 t1 hR W h)
    obtain ⟨⟨hp1, hp2, hn4⟩, hr⟩ := rightM_true.1 hR
    have hn5 : n1 ≤ 400 := by have := Hl.out; omega
    rw [hR] at C2
    by_cases hne : startsM a2 l1 = []
    · rw [waitsM_none hR hne] at C1
      have C4 := Lib.hid (C3.out 0 (by decide) (by decide))
      rw [inext_none hne] at C4
      clear hR hr hne hn4 C3
      go_enter Try.func4, Try.ntmps4
      go_wp2_with fail
      refine (C1.out w h1).mono ?_
      rintro e w1 ⟨rfl, hb1⟩
      go_wp2_with fail
      refine (C2.out w1 (h1.below hb1)).mono ?_
      rintro e w2 ⟨rfl, hb2⟩
      replace hb2 := bthen hb1 hb2
      go_wp2_with fail
      refine (C4.out w2 (h1.below hb2)).mono ?_
      rintro e w3 ⟨rfl, hb3⟩
      replace hb3 := bthen hb2 hb3
      go_wp2
      go_ret
      exact ⟨rfl, hb3⟩
    · rw [waitsM_yes hR hne] at C1
      have G := starts_good (node := a2) hR
      have C4 := Lib.hid (C3.out 0 (by decide) (by decide))
      rw [inext_some (by decide) hR hne] at C4
      have g0 := (next_range G hne 0).1
      have HG := Lib.hid G
      have Hup : Hid (∀ t, nextOf a0 (startsM a2 l1) t - t ≤ waitsOf a0 (startsM a2 l1)) := fun t => waits_upper G hne t
      have Hrg : Hid (∀ t, t ≤ nextOf a0 (startsM a2 l1) t ∧ nextOf a0 (startsM a2 l1) t < t + a0) := fun t => next_range G hne t
      have Hle : Hid (∀ M, 0 ≤ M → (∀ b ∈ startsM a2 l1, nextOf a0 (startsM a2 l1) (b + 1) - (b + 1) ≤ M) → waitsOf a0 (startsM a2 l1) ≤ M) := fun M h0 h => waits_le G hne h0 h
      have hwn := waits_nonneg (P := a0) (bs := startsM a2 l1)
      have hwl := waits_lt G hne
      have Hst : Hid (∀ f, f ∈ startsM a2 l1 ↔ ∃ s ∈ l1, s.nd = a2 ∧ s.fr = f) := fun f => starts_mem
      have Hr := Lib.hid hr
      have C5 : Hid (∀ (t : Int) (t0 : 0 ≤ t) (t1 : t ≤ 1099511627776) (W : World) (h : RdS W A1 n1 l1), Calls Try.prog 15 #[.int .i64 a0, .slice A1 n1 c1, .int .i64 a2, .int .i64 t] W fun e w' => e = .returned (.int .i64 (nextOf a0 (startsM a2 l1) t)) ∧ Below W.heap.size W w') := fun t t0 t1 W h => by
        have := C3.out t t0 t1 W h
        rw [inext_some t0 hR hne] at this
        exact this
      clear hR hr hne hn4 C3 G
      generalize startsM a2 l1 = bs at *
      generalize waitsOf a0 bs = M at *
      go_enter Try.func4, Try.ntmps4
      go_wp2_with fail
      refine (C1.out w h1).mono ?_
      rintro e w1 ⟨rfl, hb1⟩
      go_wp2_with fail
      refine (C2.out w1 (h1.below hb1)).mono ?_
      rintro e w2 ⟨rfl, hb2⟩
      replace hb2 := bthen hb1 hb2
      go_wp2_with fail
      refine (C4.out w2 (h1.below hb2)).mono ?_
      rintro e w3 ⟨rfl, hb3⟩
      replace hb3 := bthen hb2 hb3
      clear C1 C2 C4 hb1 hb2
      go_wp2
      go_loopw [9, 42] (fun v i wr => ∃ (k : Nat) (mx : Int), k ≤ n1 ∧ i = .int .i64 k ∧ v = .int .i64 mx ∧ 0 ≤ mx ∧ mx ≤ M ∧ (∀ s ∈ l1.take k, s.nd = a2 → nextOf a0 bs (s.fr + 1) - (s.fr + 1) ≤ mx) ∧ Below w.heap.size w wr) (fun _ i _ => n1 - (intOf i).toNat)
      case atStart => exact ⟨0, 0, Nat.zero_le _, rfl, rfl, Int.le_refl _, hwn, (fun s hs => by simp at hs), hb3⟩
      case round =>
        obtain ⟨k, mx, hk, rfl, rfl, m0, m1, hall, hbl⟩ := hrel
        have Hall := Lib.hid hall
        clear hall
        by_cases hlt : k < n1
        · obtain ⟨ad, nd, fr, lg, rfl, hx, hc0, hc1, hc2⟩ := (h1.below hbl).atS hlt
          obtain ⟨_, _, q3, q4, q5⟩ := right_mem Hr.out (List.mem_of_getElem? hx)
          simp only at q3 q4 q5
          have Htk : Hid (∀ mx', mx ≤ mx' → (nd = a2 → nextOf a0 bs (fr + 1) - (fr + 1) ≤ mx') → ∀ s ∈ l1.take (k + 1), s.nd = a2 → nextOf a0 bs (s.fr + 1) - (s.fr + 1) ≤ mx') := by
            intro mx' h2 h3 s hs hsa
            rw [take_snoc hx] at hs
            rcases List.mem_append.1 hs with hs | hs
            · have := Hall.out s hs hsa; omega
            · rw [List.mem_singleton.1 hs] at hsa ⊢
              exact h3 hsa
          clear hx
          by_cases hnode : nd = a2
          · subst hnode
            obtain ⟨r0, r1⟩ := Hrg.out (fr + 1)
            have r2 := Hup.out (fr + 1)
            have C6 := Lib.hid (C5.out (fr + 1) (by omega) (by omega))
            have Hfin := Lib.hid (Htk.out)
            generalize nextOf a0 bs (fr + 1) = N at r0 r1 r2 C6 Hfin
            have Hcell : Hid (∀ W, Below (wr.alloc (.cells #[.int .i64 nd, .int .i64 fr, .int .i64 lg] 29)).heap.size (wr.alloc (.cells #[.int .i64 nd, .int .i64 fr, .int .i64 lg] 29)) W → W.cell? ⟨wr.heap.size, 1, none⟩ = some (.int .i64 fr)) := by
              intro W hW
              have h5 : RdS (wr.alloc (.cells #[.int .i64 nd, .int .i64 fr, .int .i64 lg] 29)) (some ⟨wr.heap.size, 0, none⟩) 1 [⟨nd, fr, lg⟩] := Rd.litFlat slotC_len [(⟨nd, fr, lg⟩ : Slt)] _ rfl
              obtain ⟨ad', h6, h7⟩ := (h5.below hW).2 (by decide)
              injection h6 with h6
              subst h6
              exact h7 1 _ rfl
            go_upto_region 11 with fail
            have hB0 : Below w.heap.size w (wr.alloc (.cells #[.int .i64 nd, .int .i64 fr, .int .i64 lg] 29)) := hbl.alloc hbl.size _
            have hB : Below (wr.alloc (.cells #[.int .i64 nd, .int .i64 fr, .int .i64 lg] 29)).heap.size (wr.alloc (.cells #[.int .i64 nd, .int .i64 fr, .int .i64 lg] 29)) (wr.alloc (.cells #[.int .i64 nd, .int .i64 fr, .int .i64 lg] 29)).drew := (Below.refl _ _).drew
            have hv1 : IntKind.i64.wrap (fr + 1) = fr + 1 := IntWalk.i64_in _ (by omega)
            have hv2 : IntKind.i64.wrap (N - fr) = N - fr := IntWalk.i64_in _ (by omega)
            have hv3 : IntKind.i64.wrap (N - fr - 1) = N - fr - 1 := IntWalk.i64_in _ (by omega)
            refine wp_region_B (by kernel_rfl) ?_
            refine wpAnyB_take (i := 0) (oi := { dst := some 50, op := Op.move (Go.Operand.tmp 9), type := 3, pos := "slots.go:51", after := #[], guard := none }) (v := ?v1) rfl (by kernel_rfl) (by kernel_rfl) (by kernel_rfl) (fun _ _ _ h => h) (Or.inl ⟨by rfl, ?hy1⟩) ?rs1
            case hy1 => (intro W hW; go_simp; try with_reducible rfl)
            try simp only [Act.put, List.setIfInBounds_toArray, List.set_cons_zero, List.set_cons_succ]
            refine wpAnyB_take (i := 1) (oi := { dst := some 51, op := Op.move (Go.Operand.tmp 0), type := 3, pos := "slots.go:51", after := #[], guard := none }) (v := ?v2) rfl (by kernel_rfl) (by kernel_rfl) (by kernel_rfl) (fun _ _ _ h => h) (Or.inl ⟨by rfl, ?hy2⟩) ?rs2
            case hy2 => (intro W hW; go_simp; try with_reducible rfl)
            try simp only [Act.put, List.setIfInBounds_toArray, List.set_cons_zero, List.set_cons_succ]
            refine wpAnyB_take (i := 2) (oi := { dst := some 52, op := Op.move (Go.Operand.tmp 1), type := 22, pos := "slots.go:51", after := #[], guard := none }) (v := ?v3) rfl (by kernel_rfl) (by kernel_rfl) (by kernel_rfl) (fun _ _ _ h => h) (Or.inl ⟨by rfl, ?hy3⟩) ?rs3
            case hy3 => (intro W hW; go_simp; try with_reducible rfl)
            try simp only [Act.put, List.setIfInBounds_toArray, List.set_cons_zero, List.set_cons_succ]
            refine wpAnyB_take (i := 3) (oi := { dst := some 53, op := Op.move (Go.Operand.tmp 2), type := 3, pos := "slots.go:51", after := #[], guard := none }) (v := ?v4) rfl (by kernel_rfl) (by kernel_rfl) (by kernel_rfl) (fun _ _ _ h => h) (Or.inl ⟨by rfl, ?hy4⟩) ?rs4
            case hy4 => (intro W hW; go_simp; try with_reducible rfl)
            try simp only [Act.put, List.setIfInBounds_toArray, List.set_cons_zero, List.set_cons_succ]
            refine wpAnyB_take (i := 4) (oi := { dst := some 54, op := Op.fieldAddr 29 (Go.Operand.tmp 11) 1, type := 0, pos := "slots.go:51", after := #[], guard := none }) (v := ?v5) rfl (by kernel_rfl) (by kernel_rfl) (by kernel_rfl) (fun _ _ _ h => h) (Or.inl ⟨by rfl, ?hy5⟩) ?rs5
            case hy5 => (intro W hW; go_simp; try with_reducible rfl)
            try simp only [Act.put, List.setIfInBounds_toArray, List.set_cons_zero, List.set_cons_succ]
            refine wpAnyB_take (i := 5) (oi := { dst := some 55, op := Op.load 3 (Go.Operand.tmp 54), type := 3, pos := "slots.go:51", after := #[{ on := 4, ground := Ground.data }], guard := none }) (v := ?v6) rfl (by kernel_rfl) (by kernel_rfl) (by kernel_rfl) (fun _ _ _ h => h) (Or.inl ⟨by rfl, ?hy6⟩) ?rs6
            case hy6 => (intro W hW; have hcv := Hcell.out W (bthen hB hW); go_simp; try with_reducible rfl)
            try simp only [Act.put, List.setIfInBounds_toArray, List.set_cons_zero, List.set_cons_succ]
            refine wpAnyB_take (i := 6) (oi := { dst := some 56, op := Op.binOp Go.BinOp.add 3 (Go.Operand.tmp 55) (Go.Operand.const (Go.Value.int Go.IntKind.i64 1)) 3, type := 3, pos := "slots.go:51", after := #[{ on := 5, ground := Ground.data }], guard := none }) (v := ?v7) rfl (by kernel_rfl) (by kernel_rfl) (by kernel_rfl) (fun _ _ _ h => h) (Or.inl ⟨by rfl, ?hy7⟩) ?rs7
            case hy7 => (intro W hW; go_simp; try with_reducible rfl)
            try simp only [Act.put, List.setIfInBounds_toArray, List.set_cons_zero, List.set_cons_succ]
            refine wpAnyB_take (i := 8) (oi := { dst := some 58, op := Op.fieldAddr 29 (Go.Operand.tmp 11) 1, type := 0, pos := "slots.go:51", after := #[], guard := none }) (v := ?v8) rfl (by kernel_rfl) (by kernel_rfl) (by kernel_rfl) (fun _ _ _ h => h) (Or.inl ⟨by rfl, ?hy8⟩) ?rs8
            case hy8 => (intro W hW; go_simp; try with_reducible rfl)
            try simp only [Act.put, List.setIfInBounds_toArray, List.set_cons_zero, List.set_cons_succ]
            refine wpAnyB_take (i := 9) (oi := { dst := some 59, op := Op.load 3 (Go.Operand.tmp 58), type := 3, pos := "slots.go:51", after := #[{ on := 8, ground := Ground.data }], guard := none }) (v := ?v9) rfl (by kernel_rfl) (by kernel_rfl) (by kernel_rfl) (fun _ _ _ h => h) (Or.inl ⟨by rfl, ?hy9⟩) ?rs9
            case hy9 => (intro W hW; have hcv := Hcell.out W (bthen hB hW); go_simp; try with_reducible rfl)
            try simp only [Act.put, List.setIfInBounds_toArray, List.set_cons_zero, List.set_cons_succ]
            refine wpAnyB_one (i := 7) (o := { dst := some 57, op := Op.call { callee := Callee.value (Go.Operand.func 15), args := #[Go.Operand.tmp 51, Go.Operand.tmp 52, Go.Operand.tmp 53, Go.Operand.tmp 56], argTypes := #[3, 22, 3, 3] }, type := 3, pos := "slots.go:51", after := #[{ on := 1, ground := Ground.data }, { on := 2, ground := Ground.data }, { on := 3, ground := Ground.data }, { on := 6, ground := Ground.data }], guard := none }) (by kernel_rfl) rfl (fun K hK => ?_)
            go_simp
            refine (C6.out _ (h1.below (bthen hB0 hB))).mono ?_; rintro e w7 ⟨rfl, hbk⟩; replace hB := bthen hB hbk
            refine hK.out _ _ hbk ?_
            clear hK K
            try simp only [Act.put, List.setIfInBounds_toArray, List.set_cons_zero, List.set_cons_succ]
            refine wpAnyB_take (i := 10) (oi := { dst := some 60, op := Op.binOp Go.BinOp.sub 3 (Go.Operand.tmp 57) (Go.Operand.tmp 59) 3, type := 3, pos := "slots.go:51", after := #[{ on := 7, ground := Ground.data }, { on := 9, ground := Ground.data }], guard := none }) (v := ?v10) rfl (by kernel_rfl) (by kernel_rfl) (by kernel_rfl) (fun _ _ _ h => h) (Or.inl ⟨by rfl, ?hy10⟩) ?rs10
            case hy10 => (intro W hW; go_simp; try with_reducible rfl)
            try simp only [Act.put, List.setIfInBounds_toArray, List.set_cons_zero, List.set_cons_succ]
            refine wpAnyB_take (i := 11) (oi := { dst := some 61, op := Op.binOp Go.BinOp.sub 3 (Go.Operand.tmp 60) (Go.Operand.const (Go.Value.int Go.IntKind.i64 1)) 3, type := 3, pos := "slots.go:51", after := #[{ on := 10, ground := Ground.data }], guard := none }) (v := ?v11) rfl (by kernel_rfl) (by kernel_rfl) (by kernel_rfl) (fun _ _ _ h => h) (Or.inl ⟨by rfl, ?hy11⟩) ?rs11
            case hy11 => (intro W hW; go_simp; try with_reducible rfl)
            try simp only [Act.put, List.setIfInBounds_toArray, List.set_cons_zero, List.set_cons_succ]
            refine wpAnyB_take (i := 12) (oi := { dst := some 62, op := Op.call { callee := Callee.builtin Builtin.max, args := #[Go.Operand.tmp 50, Go.Operand.tmp 61], argTypes := #[3, 3] }, type := 3, pos := "slots.go:51", after := #[{ on := 0, ground := Ground.data }, { on := 11, ground := Ground.data }], guard := none }) (v := ?v12) rfl (by kernel_rfl) (by kernel_rfl) (by kernel_rfl) (fun _ _ _ h => h) (Or.inl ⟨by rfl, ?hy12⟩) ?rs12
            case hy12 => (intro W hW; go_simp; try with_reducible rfl)
            try simp only [Act.put, List.setIfInBounds_toArray, List.set_cons_zero, List.set_cons_succ]
            refine wpAnyB_take (i := 13) (oi := { dst := some 9, op := Op.assign (Go.Operand.tmp 62), type := 3, pos := "slots.go:51", after := #[{ on := 12, ground := Ground.data }, { on := 7, ground := Ground.chain }, { on := 0, ground := Ground.phase }, { on := 1, ground := Ground.phase }, { on := 2, ground := Ground.phase }, { on := 3, ground := Ground.phase }, { on := 4, ground := Ground.phase }, { on := 5, ground := Ground.phase }, { on := 6, ground := Ground.phase }, { on := 7, ground := Ground.phase }, { on := 8, ground := Ground.phase }, { on := 9, ground := Ground.phase }, { on := 10, ground := Ground.phase }, { on := 11, ground := Ground.phase }, { on := 12, ground := Ground.phase }], guard := none }) (v := ?v13) rfl (by kernel_rfl) (by kernel_rfl) (by kernel_rfl) (fun _ _ _ h => h) (Or.inl ⟨by rfl, ?hy13⟩) ?rs13
            case hy13 => (intro W hW; go_simp; try with_reducible rfl)
            try simp only [Act.put, List.setIfInBounds_toArray, List.set_cons_zero, List.set_cons_succ]
            refine wpAnyB_done (by kernel_rfl) ?_
            go_wp2
            go_roundw
            case rel => exact ⟨k + 1, max mx (N - fr - 1), by omega, by go_num, by go_num, by omega, by omega, Hfin.out _ (by omega) (fun _ => by omega), bthen hB0 hB⟩
            case measure => simp [intOf] <;> omega
          · go_wp2
            go_roundw
            case rel => exact ⟨k + 1, mx, by omega, by go_num, rfl, m0, m1, Htk.out _ (Int.le_refl _) (fun h => absurd h hnode), hbl.alloc hbl.size _⟩
            case measure => simp [intOf] <;> omega
        · obtain rfl : k = n1 := by omega
          have hmm : mx = M := by
            have h2 := Hle.out mx m0 (fun b hb => by
              obtain ⟨s, hs, h3, h4⟩ := (Hst.out b).1 hb
              rw [← h4]
              exact Hall.out s (by rw [List.take_of_length_le (by rw [Hl.out]; exact Nat.le_refl _)]; exact hs) h3)
            omega
          subst hmm
          go_wp2
          go_ret
          exact ⟨rfl, hbl⟩
end Go.Proofs.Ytpangandpabajaa
