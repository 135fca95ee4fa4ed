/-
  Contract of the reference's PRounds, for every input.
-/
import Derived.Test.YtnmoddknghcobaaMemberLaws
import Derived.Test.YtnmoddknghcobaaMemberGroup2
import Derived.Test.YtnmoddknghcobaaRegionF
namespace Go.Proofs.Ytnmoddknghcobaa
open Go.RowKit
set_option linter.unusedVariables false

set_option maxRecDepth 100000 in
set_option maxHeartbeats 3200000 in
theorem PRounds_any (H : Option Addr) (n c : Nat) (hs : List Nat) (rounds : Int) (w : World) (h : Rd w 1 H n (hs.map u16V)) (h16 : ∀ x ∈ hs, x < 65536) (hnb : n ≤ 4611686018427387904) :
    Calls Try.prog 17 #[.slice H n c, .int .i64 rounds] w (GivesMems (roundsL hs rounds) (roundsE n rounds) w) := by
  have hl := h.lenMap
  by_cases hno : n < 1 ∨ 16 < n ∨ rounds < 0 ∨ 20 < rounds
  · have e := roundsE_no hno
    rw [roundsL_no (by rw [hl]; exact e), e]
    have hcs : n < 1 ∨ (1 ≤ n ∧ 16 < n) ∨ (1 ≤ n ∧ n ≤ 16 ∧ rounds < 0) ∨ (1 ≤ n ∧ n ≤ 16 ∧ 0 ≤ rounds ∧ 20 < rounds) := by omega
    clear hno e hl
    rcases hcs with q1 | ⟨q1, q2⟩ | ⟨q1, q2, q3⟩ | ⟨q1, q2, q3, q4⟩
    all_goals
      have q1' : (n : Int) < 1 ∨ 1 ≤ (n : Int) := by omega
      go_enter Try.func17, Try.ntmps17
      go_wp2
      go_ret2
      exact ⟨_, rfl, OwG.nil _ _ _, Below.refl _ _⟩
  · have e := roundsE_ok hno
    rw [roundsL_ok (by rw [hl]; exact e), e]
    obtain ⟨r, rfl⟩ : ∃ r : Nat, rounds = r := ⟨rounds.toNat, by omega⟩
    rw [Int.toNat_natCast]
    have q1 : ¬ (n : Int) < 1 := by omega
    have q2 : ¬ 16 < (n : Int) := by omega
    have q3 : ¬ (r : Int) < 0 := by omega
    have q4 : ¬ 20 < (r : Int) := by omega
    have hn1 : 0 < n := by omega
    have hn16 : n ≤ 16 := by omega
    have hr20 : r ≤ 20 := by omega
    have H16 := Lib.hid h16
    have Hl := Lib.hid hl
    have Hgood : Hid (∀ s i m, (groupM hs s)[i]? = some m → GoodM (n + s : Nat) i m) := fun s i m hm => by rw [← hl]; exact group_good (by rw [hl]; exact hn16) s hm
    have Hnext : Hid (∀ s, slotM hs (s % n) (groupM hs s) = groupM hs (s + 1)) := fun s => by rw [groupM_succ, hl]
    have Hglen : Hid (∀ s, (groupM hs s).length = n) := fun s => by rw [groupM_length, hl]
    have H0 : Hid (groupM hs 0 = List.replicate n ⟨fullV n, n, 0, false⟩) := by show _ = _; unfold groupM slotsM; rw [hl]; rfl
    have Hfin : Hid (roundsR hs r = groupM hs (n * r)) := by show _ = _; unfold roundsR; rw [hl]
    have CS := Lib.hid (fun (own : Int) (m : Mem) (x : Hrd) (g1 : m.vw < 65536) (g2 : x.hv < 65536) (W : World) => PStep_any own m x g1 g2 W)
    have hNm : (n : Int) * (r : Int) = ((n * r : Nat) : Int) := by simp
    have hN320 : n * r ≤ 320 := Nat.mul_le_mul hn16 hr20
    have hfs := full_sub hn16
    rw [Hfin.out]
    clear hno e hl h16 Hfin
    generalize n * r = N at *
    generalize fullV n = fv at *
    go_enter Try.func17, Try.ntmps17
    go_wp2
    go_loopw [7, 33] (fun v i wr => ∃ j : Nat, j ≤ n ∧ i = .int .i64 j ∧ OwG memC 4 wr w.heap.size 24 v (List.replicate j ⟨fv, n, 0, false⟩) ∧ Below w.heap.size w wr) (fun _ i _ => n - (intOf i).toNat)
    case atStart => exact ⟨0, Nat.zero_le _, rfl, OwG.nil _ _ _, Below.refl _ _⟩
    case round =>
      obtain ⟨j, hj, rfl, ho, hbl⟩ := hrel
      have Ho := Lib.hid ho
      clear ho
      by_cases hlt : j < n
      · have Hrep : Hid (List.replicate j (⟨fv, n, 0, false⟩ : Mem) ++ [⟨fv, n, 0, false⟩] = List.replicate (j + 1) ⟨fv, n, 0, false⟩) := List.replicate_succ'.symm
        go_wp2_with (at_builtin; go_must (refine wpList_apG memK _ elMem rfl rfl w.heap.size _ (List.replicate j ⟨fv, n, 0, false⟩) rfl (Ho.out.alloc _) _ 1 1 [(⟨fv, n, 0, false⟩ : Mem)] rfl (Rd.litFlat memK.len [(⟨fv, n, 0, false⟩ : Mem)] _ (by simp)) (by have := hbl.size; simp; omega) (by rw [List.length_replicate]; omega) (by rw [List.length_replicate]; omega) ?_; intro v2 w2 ho2 hm2))
        have hb2 : Below w.heap.size w w2 := hm2.below (hbl.alloc hbl.size _) (by have := hbl.size; simp; omega) Ho.out.block
        have Ho2 := Lib.hid ho2
        clear ho2 hm2
        go_wp2
        go_roundw
        case rel => exact ⟨j + 1, by omega, by go_num, by rw [← Hrep.out]; exact Ho2.out, hb2⟩
        case measure => simp [intOf] <;> omega
      · obtain rfl : j = n := by omega
        have Ho2 := Ho
        rw [← H0.out] at Ho2
        clear Ho H0
        go_wp2
        go_loopw [7, 47] (fun v i wr => ∃ s : Nat, s ≤ N ∧ i = .int .i64 s ∧ OwG memC 4 wr w.heap.size 24 v (groupM hs s) ∧ Below w.heap.size w wr) (fun _ i _ => N - (intOf i).toNat)
        case atStart => exact ⟨0, Nat.zero_le _, rfl, Ho2.out, hbl⟩
        case round =>
          rename World => wo
          obtain ⟨s, hsN, rfl, ho, hbl'⟩ := hrel
          clear Ho2
          by_cases hlt2 : s < N
          · have hmod : (s : Int).tmod (j : Int) = ((s % j : Nat) : Int) := by rw [Int.tmod_eq_emod_of_nonneg (by omega)]; simp
            have hmod2 : (s : Int) % (j : Int) = ((s % j : Nat) : Int) := by simp
            have hq : s % j < j := Nat.mod_lt _ hn1
            have Hnx := Lib.hid (Hnext.out s)
            have Hgd := Lib.hid (Hgood.out s)
            obtain ⟨was, hwas⟩ : ∃ m, (groupM hs s)[s % j]? = some m := ⟨_, List.getElem?_eq_getElem (by rw [Hglen.out]; exact hq)⟩
            obtain ⟨A, c7, rfl, -, -, hr⟩ := ho.formN (Hglen.out s)
            have hgw := Hgd.out _ _ hwas
            have hwlt := hgw.2.1
            have hgdD : (groupM hs s).getD (s % j) zeroM = was := by rw [List.getD_eq_getElem?_getD, hwas]; rfl
            generalize s % j = q at *
            have Hslot : Hid (∀ i m, (groupM hs s)[i]? = some m → (groupM hs (s + 1))[i]? = some (stepG i m q (cameB hs q i was) was.vw)) := fun i m hi => by
              have := slotM_at (hs := hs) (who := q) hi
              rw [hgdD] at this
              rw [← Hnx.out]
              exact this
            have Hcur := Lib.hid ho
            have Hr := Lib.hid hr
            obtain ⟨S, HS⟩ : ∃ S, Hid (groupM hs (s + 1) = S) := ⟨_, rfl⟩
            have HSlen : Hid (S.length = j) := by show _ = _; rw [← HS.out]; exact Hglen.out _
            rw [HS.out] at Hslot
            obtain ⟨ad, x, rfl, hx, c0, c1, c2, c3⟩ := mem_at hr hq
            rw [hwas] at hx
            injection hx with hx
            subst hx
            have hqj : (q : Int) < (j : Int) := by omega
            have hj0 : ((j : Int) == 0) = false := by simp; omega
            clear ho hr hwas hgw hgdD Hnx
            obtain ⟨wv, wt, wl, wo2⟩ := was
            simp only at c0 c1 c2 c3 hwlt
            go_wp2
            have hWbox := Lib.hid (Box.new wo 24 [.int .u16 (wv : Int), .int .i64 wt, .int .i64 wl, .bool wo2])
            have hWh := Lib.hid ((h.below hbl').alloc (.cells #[.int .u16 (wv : Int), .int .i64 wt, .int .i64 wl, .bool wo2] 24))
            have hWr := Lib.hid (Hr.out.alloc (.cells #[.int .u16 (wv : Int), .int .i64 wt, .int .i64 wl, .bool wo2] 24))
            have hWB := hbl'.alloc hbl'.size (.cells #[.int .u16 (wv : Int), .int .i64 wt, .int .i64 wl, .bool wo2] 24)
            clear Hr Hcur hbl' c0 c1 c2 c3
            generalize wo.alloc (.cells #[.int .u16 (wv : Int), .int .i64 wt, .int .i64 wl, .bool wo2] 24) = W at *
            go_loopw [11, 59] (fun v i wr => ∃ i' : Nat, i' ≤ j ∧ i = .int .i64 i' ∧ OwG memC 4 wr W.heap.size 24 v (S.take i') ∧ Below W.heap.size W wr) (fun _ i _ => j - (intOf i).toNat)
            case atStart => exact ⟨0, Nat.zero_le _, rfl, OwG.nil _ _ _, Below.refl _ _⟩
            case round =>
              obtain ⟨i', hi, rfl, ho, hbl2⟩ := hrel
              by_cases hlt3 : i' < j
              · obtain ⟨ad2, m, he2, hm, m0, m1, m2, m3⟩ := mem_at (hWr.out.below hbl2) hlt3
                injection he2 with he2
                subst he2
                have hS := Hslot.out i' m hm
                have hgm := Hgd.out i' m hm
                obtain ⟨hgs1, hgs2⟩ := hgm.ok (by omega) (by omega) (by omega) (show q < 16 by omega) (cameB hs q i' ⟨wv, wt, wl, wo2⟩) wv
                have hmlt := hgm.2.1
                obtain ⟨adh, hv, rfl, hvx, hcv⟩ := (hWh.out.below hbl2).atMap hlt3
                have hvlt := H16.out hv (List.mem_of_getElem? hvx)
                have Hcame : Hid (cameB hs q i' ⟨wv, wt, wl, wo2⟩ = (!wo2 && (((hv &&& 1 <<< q : Nat) : Int) != 0))) := by show _ = _; rw [has_ne]; unfold cameB; rw [List.getD_eq_getElem?_getD, hvx]; rfl
                have C1 := Lib.hid (fun (X : World) => CS.out (i' : Int) m ⟨(q : Int), cameB hs q i' ⟨wv, wt, wl, wo2⟩, wv⟩ hmlt hwlt X)
                unfold stepHE stepHM at C1
                simp only at C1
                rw [hgs1, hgs2] at C1
                rw [Hcame.out] at C1 hS
                obtain ⟨rr, Hrr⟩ : ∃ r, Hid (stepG i' m q (!wo2 && (((hv &&& 1 <<< q : Nat) : Int) != 0)) wv = r) := ⟨_, rfl⟩
                rw [Hrr.out] at C1 hS
                have Htk := Lib.hid (take_snoc hS)
                have hsh := shl16 (show q < 16 by omega)
                have hsh' := hsh
                rw [Int.one_mul] at hsh'
                have hand := u16_and hvlt (one_lt16 (show q < 16 by omega))
                generalize hv &&& 1 <<< q = xx at *
                generalize 1 <<< q = bb at *
                obtain ⟨mv, mt, ml, mo⟩ := m
                simp only at m0 m1 m2 m3
                have Ho := Lib.hid (ho.alloc (.cells #[.int .u16 (mv : Int), .int .i64 mt, .int .i64 ml, .bool mo] 24))
                have H10 := Lib.hid ((hWbox.out.below hbl2 hWbox.out.lt).alloc (.cells #[.int .u16 (mv : Int), .int .i64 mt, .int .i64 ml, .bool mo] 24))
                have H13 := Lib.hid (Box.new wr 24 [.int .u16 (mv : Int), .int .i64 mt, .int .i64 ml, .bool mo])
                have Hcv := Lib.hid (((below_1 (.cells #[.int .u16 (mv : Int), .int .i64 mt, .int .i64 ml, .bool mo] 24)).cell (World.block_lt_of_cell? _ _ hcv)).trans hcv)
                have hblX := hbl2.alloc hbl2.size (.cells #[.int .u16 (mv : Int), .int .i64 mt, .int .i64 ml, .bool mo] 24)
                clear hS hgm hgs1 hgs2 hm Hcame hvx hcv hmlt Hrr hbl2 ho
                go_upto_region 18 with fail
                clear m0 m1 m2 m3
                generalize wr.alloc (.cells #[.int .u16 (mv : Int), .int .i64 mt, .int .i64 ml, .bool mo] 24) = X at *
                have F10 : Hid (∀ Y, Below X.heap.size X Y → Y.cell? ⟨wo.heap.size, 0, none⟩ = some (.int .u16 (wv : Int)) ∧ Y.cell? ⟨wo.heap.size, 3, none⟩ = some (.bool wo2)) := fun Y hY => by
                  have hx := H10.out.below hY H10.out.lt
                  exact ⟨hx.cell 0 rfl, hx.cell 3 rfl⟩
                have F13 : Hid (∀ Y, Below X.heap.size X Y → Y.cell? ⟨wr.heap.size, 0, none⟩ = some (.int .u16 (mv : Int)) ∧ Y.cell? ⟨wr.heap.size, 1, none⟩ = some (.int .i64 mt) ∧ Y.cell? ⟨wr.heap.size, 2, none⟩ = some (.int .i64 ml) ∧ Y.cell? ⟨wr.heap.size, 3, none⟩ = some (.bool mo)) := fun Y hY => by
                  have hx := H13.out.below hY H13.out.lt
                  exact ⟨hx.cell 0 rfl, hx.cell 1 rfl, hx.cell 2 rfl, hx.cell 3 rfl⟩
                have FH : Hid (∀ Y, Below X.heap.size X Y → Y.cell? (adh.add i') = some (.int .u16 (hv : Int))) := fun Y hY => (hY.cell (World.block_lt_of_cell? _ _ Hcv.out)).trans Hcv.out
                obtain ⟨rv, rt, rl, ro⟩ := rr
                go_cut [14, 15] (fun s14 s15 wx => ∃ b, s14 = .pointer (some ⟨b, 0, none⟩) ∧ s15 = .int .i64 0 ∧ Box wx b 24 [.int .u16 (rv : Int), .int .i64 rt, .int .i64 rl, .bool ro] ∧ Below X.heap.size X wx)
                case first =>
                  have hB1 : Below X.heap.size X X.drew := (Below.refl _ _).drew
                  cases wo2 with
                  | true =>
                    refine wp_region_F 24 (X.heap.size) (by kernel_rfl) ?_
                    refine wpAnyF_pure (i := 0) (oi := { dst := some 65, op := Op.move (Go.Operand.tmp 12), type := 3, pos := "member.go:74", after := #[], guard := none }) (v := ?v1) rfl (by kernel_rfl) (by kernel_rfl) (by kernel_rfl) (fun _ _ _ h => h) (Or.inl ⟨by rfl, ?hy1⟩) ?rs1
                    case hy1 => (intro W hW; go_simp; try with_reducible rfl)
                    try simp only [Act.put, List.setIfInBounds_toArray, List.set_cons_zero, List.set_cons_succ]
                    refine wpAnyF_take (i := 1) (oi := { dst := some 66, op := Op.load 24 (Go.Operand.tmp 13), type := 24, pos := "member.go:74", after := #[], guard := none }) (v := ?v2) rfl (by kernel_rfl) (by kernel_rfl) (by kernel_rfl) (by decide) (by kernel_rfl) (fun _ _ _ h => h) (Or.inl ⟨by rfl, ?hy2⟩) ?rs2
                    case hy2 => (intro W hW; obtain ⟨g0, g1, g2, g3⟩ := F13.out _ (hB1.trans hW); go_simp; try with_reducible rfl)
                    try simp only [Act.put, List.setIfInBounds_toArray, List.set_cons_zero, List.set_cons_succ]
                    refine wpAnyF_pure (i := 2) (oi := { dst := some 67, op := Op.move (Go.Operand.tmp 9), type := 3, pos := "member.go:74", after := #[], guard := none }) (v := ?v3) rfl (by kernel_rfl) (by kernel_rfl) (by kernel_rfl) (fun _ _ _ h => h) (Or.inl ⟨by rfl, ?hy3⟩) ?rs3
                    case hy3 => (intro W hW; go_simp; try with_reducible rfl)
                    try simp only [Act.put, List.setIfInBounds_toArray, List.set_cons_zero, List.set_cons_succ]
                    refine wpAnyF_pure (i := 3) (oi := { dst := some 68, op := Op.fieldAddr 24 (Go.Operand.tmp 10) 3, type := 0, pos := "member.go:74", after := #[], guard := none }) (v := ?v4) rfl (by kernel_rfl) (by kernel_rfl) (by kernel_rfl) (fun _ _ _ h => h) (Or.inl ⟨by rfl, ?hy4⟩) ?rs4
                    case hy4 => (intro W hW; go_simp; try with_reducible rfl)
                    try simp only [Act.put, List.setIfInBounds_toArray, List.set_cons_zero, List.set_cons_succ]
                    refine wpAnyF_take (i := 4) (oi := { dst := some 69, op := Op.load 4 (Go.Operand.tmp 68), type := 4, pos := "member.go:74", after := #[{ on := 3, ground := Ground.data }], guard := none }) (v := ?v5) rfl (by kernel_rfl) (by kernel_rfl) (by kernel_rfl) (by decide) (by kernel_rfl) (fun _ _ _ h => h) (Or.inl ⟨by rfl, ?hy5⟩) ?rs5
                    case hy5 => (intro W hW; obtain ⟨g0, g3⟩ := F10.out _ (hB1.trans hW); go_simp; try with_reducible rfl)
                    try simp only [Act.put, List.setIfInBounds_toArray, List.set_cons_zero, List.set_cons_succ]
                    refine wpAnyF_pure (i := 5) (oi := { dst := some 70, op := Op.unOp Go.UnOp.not 4 (Go.Operand.tmp 69), type := 4, pos := "member.go:74", after := #[{ on := 4, ground := Ground.data }], guard := none }) (v := ?v6) rfl (by kernel_rfl) (by kernel_rfl) (by kernel_rfl) (fun _ _ _ h => h) (Or.inl ⟨by rfl, ?hy6⟩) ?rs6
                    case hy6 => (intro W hW; go_simp; try with_reducible rfl)
                    try simp only [Act.put, List.setIfInBounds_toArray, List.set_cons_zero, List.set_cons_succ]
                    refine wpAnyF_pure (i := 6) (oi := { dst := some 71, op := Op.move (Go.Operand.tmp 70), type := 4, pos := "member.go:74", after := #[{ on := 5, ground := Ground.data }], guard := none }) (v := ?v7) rfl (by kernel_rfl) (by kernel_rfl) (by kernel_rfl) (fun _ _ _ h => h) (Or.inl ⟨by rfl, ?hy7⟩) ?rs7
                    case hy7 => (intro W hW; go_simp; try with_reducible rfl)
                    try simp only [Act.put, List.setIfInBounds_toArray, List.set_cons_zero, List.set_cons_succ]
                    refine wpAnyF_pure (i := 7) (oi := { dst := some 72, op := Op.move (Go.Operand.tmp 0), type := 35, pos := "member.go:74", after := #[{ on := 6, ground := Ground.guard }], guard := some (6, true) }) (v := undef) rfl (by kernel_rfl) (by kernel_rfl) (by kernel_rfl) (fun _ _ _ h => h) (Or.inr ⟨by rfl, rfl⟩) ?_
                    try simp only [Act.put, List.setIfInBounds_toArray, List.set_cons_zero, List.set_cons_succ]
                    refine wpAnyF_pure (i := 8) (oi := { dst := some 73, op := Op.move (Go.Operand.tmp 12), type := 3, pos := "member.go:74", after := #[{ on := 6, ground := Ground.guard }], guard := some (6, true) }) (v := undef) rfl (by kernel_rfl) (by kernel_rfl) (by kernel_rfl) (fun _ _ _ h => h) (Or.inr ⟨by rfl, rfl⟩) ?_
                    try simp only [Act.put, List.setIfInBounds_toArray, List.set_cons_zero, List.set_cons_succ]
                    refine wpAnyF_pure (i := 9) (oi := { dst := some 74, op := Op.indexAddr 35 (Go.Operand.tmp 72) (Go.Operand.tmp 73), type := 0, pos := "member.go:74", after := #[{ on := 7, ground := Ground.data }, { on := 8, ground := Ground.data }, { on := 6, ground := Ground.guard }], guard := some (6, true) }) (v := undef) rfl (by kernel_rfl) (by kernel_rfl) (by kernel_rfl) (fun _ _ _ h => h) (Or.inr ⟨by rfl, rfl⟩) ?_
                    try simp only [Act.put, List.setIfInBounds_toArray, List.set_cons_zero, List.set_cons_succ]
                    refine wpAnyF_pure (i := 10) (oi := { dst := some 75, op := Op.load 22 (Go.Operand.tmp 74), type := 22, pos := "member.go:74", after := #[{ on := 9, ground := Ground.data }, { on := 6, ground := Ground.guard }], guard := some (6, true) }) (v := undef) rfl (by kernel_rfl) (by kernel_rfl) (by kernel_rfl) (fun _ _ _ h => h) (Or.inr ⟨by rfl, rfl⟩) ?_
                    try simp only [Act.put, List.setIfInBounds_toArray, List.set_cons_zero, List.set_cons_succ]
                    refine wpAnyF_pure (i := 11) (oi := { dst := some 76, op := Op.move (Go.Operand.tmp 9), type := 3, pos := "member.go:74", after := #[{ on := 6, ground := Ground.guard }], guard := some (6, true) }) (v := undef) rfl (by kernel_rfl) (by kernel_rfl) (by kernel_rfl) (fun _ _ _ h => h) (Or.inr ⟨by rfl, rfl⟩) ?_
                    try simp only [Act.put, List.setIfInBounds_toArray, List.set_cons_zero, List.set_cons_succ]
                    refine wpAnyF_pure (i := 12) (oi := { dst := some 77, op := Op.binOp Go.BinOp.shl 22 (Go.Operand.const (Go.Value.int Go.IntKind.u16 1)) (Go.Operand.tmp 76) 3, type := 22, pos := "member.go:74", after := #[{ on := 11, ground := Ground.data }, { on := 6, ground := Ground.guard }], guard := some (6, true) }) (v := undef) rfl (by kernel_rfl) (by kernel_rfl) (by kernel_rfl) (fun _ _ _ h => h) (Or.inr ⟨by rfl, rfl⟩) ?_
                    try simp only [Act.put, List.setIfInBounds_toArray, List.set_cons_zero, List.set_cons_succ]
                    refine wpAnyF_pure (i := 13) (oi := { dst := some 78, op := Op.binOp Go.BinOp.and 22 (Go.Operand.tmp 75) (Go.Operand.tmp 77) 22, type := 22, pos := "member.go:74", after := #[{ on := 10, ground := Ground.data }, { on := 12, ground := Ground.data }, { on := 6, ground := Ground.guard }], guard := some (6, true) }) (v := undef) rfl (by kernel_rfl) (by kernel_rfl) (by kernel_rfl) (fun _ _ _ h => h) (Or.inr ⟨by rfl, rfl⟩) ?_
                    try simp only [Act.put, List.setIfInBounds_toArray, List.set_cons_zero, List.set_cons_succ]
                    refine wpAnyF_pure (i := 14) (oi := { dst := some 79, op := Op.binOp Go.BinOp.neq 22 (Go.Operand.tmp 78) (Go.Operand.const (Go.Value.int Go.IntKind.u16 0)) 22, type := 4, pos := "member.go:74", after := #[{ on := 13, ground := Ground.data }, { on := 6, ground := Ground.guard }], guard := some (6, true) }) (v := undef) rfl (by kernel_rfl) (by kernel_rfl) (by kernel_rfl) (fun _ _ _ h => h) (Or.inr ⟨by rfl, rfl⟩) ?_
                    try simp only [Act.put, List.setIfInBounds_toArray, List.set_cons_zero, List.set_cons_succ]
                    refine wpAnyF_pure (i := 15) (oi := { dst := some 80, op := Op.pick (Go.Operand.tmp 71) (Go.Operand.tmp 79) (Go.Operand.const (Go.Value.bool false)), type := 4, pos := "member.go:74", after := #[{ on := 6, ground := Ground.data }, { on := 14, ground := Ground.data }], guard := none }) (v := ?v16) rfl (by kernel_rfl) (by kernel_rfl) (by kernel_rfl) (fun _ _ _ h => h) (Or.inl ⟨by rfl, ?hy16⟩) ?rs16
                    case hy16 => (intro W hW; go_simp; try with_reducible rfl)
                    try simp only [Act.put, List.setIfInBounds_toArray, List.set_cons_zero, List.set_cons_succ]
                    refine wpAnyF_pure (i := 16) (oi := { dst := some 81, op := Op.fieldAddr 24 (Go.Operand.tmp 10) 0, type := 0, pos := "member.go:74", after := #[], guard := none }) (v := ?v17) rfl (by kernel_rfl) (by kernel_rfl) (by kernel_rfl) (fun _ _ _ h => h) (Or.inl ⟨by rfl, ?hy17⟩) ?rs17
                    case hy17 => (intro W hW; go_simp; try with_reducible rfl)
                    try simp only [Act.put, List.setIfInBounds_toArray, List.set_cons_zero, List.set_cons_succ]
                    refine wpAnyF_take (i := 17) (oi := { dst := some 82, op := Op.load 22 (Go.Operand.tmp 81), type := 22, pos := "member.go:74", after := #[{ on := 16, ground := Ground.data }], guard := none }) (v := ?v18) rfl (by kernel_rfl) (by kernel_rfl) (by kernel_rfl) (by decide) (by kernel_rfl) (fun _ _ _ h => h) (Or.inl ⟨by rfl, ?hy18⟩) ?rs18
                    case hy18 => (intro W hW; obtain ⟨g0, g3⟩ := F10.out _ (hB1.trans hW); go_simp; try with_reducible rfl)
                    try simp only [Act.put, List.setIfInBounds_toArray, List.set_cons_zero, List.set_cons_succ]
                    refine wpAnyF_pure (i := 18) (oi := { dst := some 83, op := Op.build 26 #[(0, Go.Operand.tmp 67), (1, Go.Operand.tmp 80), (2, Go.Operand.tmp 82)], type := 26, pos := "member.go:74", after := #[{ on := 2, ground := Ground.data }, { on := 15, ground := Ground.data }, { on := 17, ground := Ground.data }], guard := none }) (v := ?v19) rfl (by kernel_rfl) (by kernel_rfl) (by kernel_rfl) (fun _ _ _ h => h) (Or.inl ⟨by rfl, ?hy19⟩) ?rs19
                    case hy19 => (intro W hW; go_simp; try with_reducible rfl)
                    try simp only [Act.put, List.setIfInBounds_toArray, List.set_cons_zero, List.set_cons_succ]
                    refine wpAnyF_two (i := 19) (j := 23) (oi := { dst := some 84, op := Op.call { callee := Callee.value (Go.Operand.func 11), args := #[Go.Operand.tmp 65, Go.Operand.tmp 66, Go.Operand.tmp 83], argTypes := #[3, 24, 26] }, type := 29, pos := "member.go:74", after := #[{ on := 0, ground := Ground.data }, { on := 1, ground := Ground.data }, { on := 18, ground := Ground.data }, { on := 6, ground := Ground.chain }], guard := none }) (oj := { dst := some 14, op := Op.alloc 24, type := 0, pos := "member.go:74", after := #[], guard := none }) (by kernel_rfl) rfl rfl (fun K hK => ?_) (fun K hK => ?_)
                    go_simp
                    refine (C1.out _).mono ?_; rintro e w7 ⟨rfl, hb7⟩; have hbk := hb7.mono hB1.size; replace hB1 := hB1.trans hbk; (try replace hz := hz.below hb7 hz.lt)
                    refine hK.out _ _ hbk ?_
                    clear hK K
                    try simp only [Act.put, List.setIfInBounds_toArray, List.set_cons_zero, List.set_cons_succ]
                    refine wpAnyF_pure (i := 20) (oi := { dst := some 64, op := Op.move (Go.Operand.tmp 84), type := 29, pos := "member.go:74", after := #[{ on := 19, ground := Ground.data }], guard := none }) (v := ?v20) rfl (by kernel_rfl) (by kernel_rfl) (by kernel_rfl) (fun _ _ _ h => h) (Or.inl ⟨by rfl, ?hy20⟩) ?rs20
                    case hy20 => (intro W hW; go_simp; try with_reducible rfl)
                    try simp only [Act.put, List.setIfInBounds_toArray, List.set_cons_zero, List.set_cons_succ]
                    refine wpAnyF_pure (i := 21) (oi := { dst := some 85, op := Op.extract (Go.Operand.tmp 64) 0, type := 24, pos := "member.go:74", after := #[{ on := 20, ground := Ground.data }], guard := none }) (v := ?v21) rfl (by kernel_rfl) (by kernel_rfl) (by kernel_rfl) (fun _ _ _ h => h) (Or.inl ⟨by rfl, ?hy21⟩) ?rs21
                    case hy21 => (intro W hW; go_simp; try with_reducible rfl)
                    try simp only [Act.put, List.setIfInBounds_toArray, List.set_cons_zero, List.set_cons_succ]
                    refine wpAnyF_pure (i := 22) (oi := { dst := some 86, op := Op.extract (Go.Operand.tmp 64) 1, type := 28, pos := "member.go:74", after := #[{ on := 20, ground := Ground.data }, { on := 24, ground := Ground.gcOnly Go.Departure.lateStores }], guard := none }) (v := ?v22) rfl (by kernel_rfl) (by kernel_rfl) (by kernel_rfl) (fun _ _ _ h => h) (Or.inl ⟨by rfl, ?hy22⟩) ?rs22
                    case hy22 => (intro W hW; go_simp; try with_reducible rfl)
                    try simp only [Act.put, List.setIfInBounds_toArray, List.set_cons_zero, List.set_cons_succ]
                    refine wpAnyF_one (i := 23) (o := { dst := some 14, op := Op.alloc 24, type := 0, pos := "member.go:74", after := #[], guard := none }) (by kernel_rfl) rfl (fun K hK => ?_)
                    go_simp
                    have hge := hB1.size; have hBp := hB1; replace hB1 := hB1.alloc hB1.size (.cells #[.int .u16 0, .int .i64 0, .int .i64 0, .bool false] 24); (first | have hz := Box.new w7 24 [.int .u16 0, .int .i64 0, .int .i64 0, .bool false] | have hz : Box (X.drew.alloc (.cells #[.int .u16 0, .int .i64 0, .int .i64 0, .bool false] 24)) X.heap.size 24 [.int .u16 0, .int .i64 0, .int .i64 0, .bool false] := Box.new X.drew 24 [.int .u16 0, .int .i64 0, .int .i64 0, .bool false])
                    refine hK.out _ _ ((Below.refl _ _).alloc (by first | exact Nat.le_refl _ | omega | (simp; omega)) _) ?_
                    clear hK K
                    try simp only [Act.put, List.setIfInBounds_toArray, List.set_cons_zero, List.set_cons_succ]
                    refine wpAnyF_last (i := 24) (o := { dst := none, op := Op.store 24 (Go.Operand.tmp 14) (Go.Operand.tmp 85), type := 0, pos := "member.go:74", after := #[{ on := 23, ground := Ground.data }, { on := 21, ground := Ground.data }, { on := 19, ground := Ground.chain }, { on := 0, ground := Ground.phase }, { on := 1, ground := Ground.phase }, { on := 2, ground := Ground.phase }, { on := 3, ground := Ground.phase }, { on := 4, ground := Ground.phase }, { on := 5, ground := Ground.phase }, { on := 6, ground := Ground.phase }, { on := 7, ground := Ground.phase }, { on := 8, ground := Ground.phase }, { on := 9, ground := Ground.phase }, { on := 10, ground := Ground.phase }, { on := 11, ground := Ground.phase }, { on := 12, ground := Ground.phase }, { on := 13, ground := Ground.phase }, { on := 14, ground := Ground.phase }, { on := 15, ground := Ground.phase }, { on := 16, ground := Ground.phase }, { on := 17, ground := Ground.phase }, { on := 18, ground := Ground.phase }, { on := 19, ground := Ground.phase }, { on := 20, ground := Ground.phase }, { on := 21, ground := Ground.phase }, { on := 22, ground := Ground.textOnly Go.Departure.lateStores }, { on := 23, ground := Ground.phase }], guard := none }) (by kernel_rfl) rfl (by decide) (fun K hK => ?_)
                    have k0 := hz.cell 0 rfl; have k1 := hz.cell 1 rfl; have k2 := hz.cell 2 rfl; have k3 := hz.cell 3 rfl; have f0 := hz.free 0; have f1 := hz.free 1; have f2 := hz.free 2; have f3 := hz.free 3; have hlz := hz.lt
                    go_simp
                    refine hK.out _ _ ?_
                    clear hK K
                    try simp only [Act.put, List.setIfInBounds_toArray, List.set_cons_zero, List.set_cons_succ]
                    refine wpAnyF_pure (i := 25) (oi := { dst := some 15, op := Op.assign (Go.Operand.tmp 86), type := 28, pos := "member.go:74", after := #[{ on := 22, ground := Ground.data }, { on := 24, ground := Ground.chain }, { on := 0, ground := Ground.phase }, { on := 1, ground := Ground.phase }, { on := 2, ground := Ground.phase }, { on := 3, ground := Ground.phase }, { on := 4, ground := Ground.phase }, { on := 5, ground := Ground.phase }, { on := 6, ground := Ground.phase }, { on := 7, ground := Ground.phase }, { on := 8, ground := Ground.phase }, { on := 9, ground := Ground.phase }, { on := 10, ground := Ground.phase }, { on := 11, ground := Ground.phase }, { on := 12, ground := Ground.phase }, { on := 13, ground := Ground.phase }, { on := 14, ground := Ground.phase }, { on := 15, ground := Ground.phase }, { on := 16, ground := Ground.phase }, { on := 17, ground := Ground.phase }, { on := 18, ground := Ground.phase }, { on := 19, ground := Ground.phase }, { on := 20, ground := Ground.phase }, { on := 21, ground := Ground.phase }, { on := 22, ground := Ground.phase }, { on := 23, ground := Ground.phase }, { on := 24, ground := Ground.phase }], guard := none }) (v := ?v23) rfl (by kernel_rfl) (by kernel_rfl) (by kernel_rfl) (fun _ _ _ h => h) (Or.inl ⟨by rfl, ?hy23⟩) ?rs23
                    case hy23 => (intro W hW; go_simp; try with_reducible rfl)
                    try simp only [Act.put, List.setIfInBounds_toArray, List.set_cons_zero, List.set_cons_succ]
                    refine wpAnyF_done (by kernel_rfl) ?_
                    rotate_left
                    go_simp
                    have hge := hB1.size; have hBp := hB1; replace hB1 := hB1.alloc hB1.size (.cells #[.int .u16 0, .int .i64 0, .int .i64 0, .bool false] 24); (first | have hz := Box.new w7 24 [.int .u16 0, .int .i64 0, .int .i64 0, .bool false] | have hz : Box (X.drew.alloc (.cells #[.int .u16 0, .int .i64 0, .int .i64 0, .bool false] 24)) X.heap.size 24 [.int .u16 0, .int .i64 0, .int .i64 0, .bool false] := Box.new X.drew 24 [.int .u16 0, .int .i64 0, .int .i64 0, .bool false])
                    refine hK.out _ _ ((Below.refl _ _).alloc (by first | exact Nat.le_refl _ | omega | (simp; omega)) _) ?_
                    clear hK K
                    try simp only [Act.put, List.setIfInBounds_toArray, List.set_cons_zero, List.set_cons_succ]
                    refine wpAnyF_one (i := 19) (o := { dst := some 84, op := Op.call { callee := Callee.value (Go.Operand.func 11), args := #[Go.Operand.tmp 65, Go.Operand.tmp 66, Go.Operand.tmp 83], argTypes := #[3, 24, 26] }, type := 29, pos := "member.go:74", after := #[{ on := 0, ground := Ground.data }, { on := 1, ground := Ground.data }, { on := 18, ground := Ground.data }, { on := 6, ground := Ground.chain }], guard := none }) (by kernel_rfl) rfl (fun K hK => ?_)
                    go_simp
                    refine (C1.out _).mono ?_; rintro e w7 ⟨rfl, hb7⟩; have hbk := hb7.mono hB1.size; replace hB1 := hB1.trans hbk; (try replace hz := hz.below hb7 hz.lt)
                    refine hK.out _ _ hbk ?_
                    clear hK K
                    try simp only [Act.put, List.setIfInBounds_toArray, List.set_cons_zero, List.set_cons_succ]
                    refine wpAnyF_pure (i := 20) (oi := { dst := some 64, op := Op.move (Go.Operand.tmp 84), type := 29, pos := "member.go:74", after := #[{ on := 19, ground := Ground.data }], guard := none }) (v := ?v24) rfl (by kernel_rfl) (by kernel_rfl) (by kernel_rfl) (fun _ _ _ h => h) (Or.inl ⟨by rfl, ?hy24⟩) ?rs24
                    case hy24 => (intro W hW; go_simp; try with_reducible rfl)
                    try simp only [Act.put, List.setIfInBounds_toArray, List.set_cons_zero, List.set_cons_succ]
                    refine wpAnyF_pure (i := 21) (oi := { dst := some 85, op := Op.extract (Go.Operand.tmp 64) 0, type := 24, pos := "member.go:74", after := #[{ on := 20, ground := Ground.data }], guard := none }) (v := ?v25) rfl (by kernel_rfl) (by kernel_rfl) (by kernel_rfl) (fun _ _ _ h => h) (Or.inl ⟨by rfl, ?hy25⟩) ?rs25
                    case hy25 => (intro W hW; go_simp; try with_reducible rfl)
                    try simp only [Act.put, List.setIfInBounds_toArray, List.set_cons_zero, List.set_cons_succ]
                    refine wpAnyF_pure (i := 22) (oi := { dst := some 86, op := Op.extract (Go.Operand.tmp 64) 1, type := 28, pos := "member.go:74", after := #[{ on := 20, ground := Ground.data }, { on := 24, ground := Ground.gcOnly Go.Departure.lateStores }], guard := none }) (v := ?v26) rfl (by kernel_rfl) (by kernel_rfl) (by kernel_rfl) (fun _ _ _ h => h) (Or.inl ⟨by rfl, ?hy26⟩) ?rs26
                    case hy26 => (intro W hW; go_simp; try with_reducible rfl)
                    try simp only [Act.put, List.setIfInBounds_toArray, List.set_cons_zero, List.set_cons_succ]
                    refine wpAnyF_last (i := 24) (o := { dst := none, op := Op.store 24 (Go.Operand.tmp 14) (Go.Operand.tmp 85), type := 0, pos := "member.go:74", after := #[{ on := 23, ground := Ground.data }, { on := 21, ground := Ground.data }, { on := 19, ground := Ground.chain }, { on := 0, ground := Ground.phase }, { on := 1, ground := Ground.phase }, { on := 2, ground := Ground.phase }, { on := 3, ground := Ground.phase }, { on := 4, ground := Ground.phase }, { on := 5, ground := Ground.phase }, { on := 6, ground := Ground.phase }, { on := 7, ground := Ground.phase }, { on := 8, ground := Ground.phase }, { on := 9, ground := Ground.phase }, { on := 10, ground := Ground.phase }, { on := 11, ground := Ground.phase }, { on := 12, ground := Ground.phase }, { on := 13, ground := Ground.phase }, { on := 14, ground := Ground.phase }, { on := 15, ground := Ground.phase }, { on := 16, ground := Ground.phase }, { on := 17, ground := Ground.phase }, { on := 18, ground := Ground.phase }, { on := 19, ground := Ground.phase }, { on := 20, ground := Ground.phase }, { on := 21, ground := Ground.phase }, { on := 22, ground := Ground.textOnly Go.Departure.lateStores }, { on := 23, ground := Ground.phase }], guard := none }) (by kernel_rfl) rfl (by decide) (fun K hK => ?_)
                    have k0 := hz.cell 0 rfl; have k1 := hz.cell 1 rfl; have k2 := hz.cell 2 rfl; have k3 := hz.cell 3 rfl; have f0 := hz.free 0; have f1 := hz.free 1; have f2 := hz.free 2; have f3 := hz.free 3; have hlz := hz.lt
                    go_simp
                    refine hK.out _ _ ?_
                    clear hK K
                    try simp only [Act.put, List.setIfInBounds_toArray, List.set_cons_zero, List.set_cons_succ]
                    refine wpAnyF_pure (i := 25) (oi := { dst := some 15, op := Op.assign (Go.Operand.tmp 86), type := 28, pos := "member.go:74", after := #[{ on := 22, ground := Ground.data }, { on := 24, ground := Ground.chain }, { on := 0, ground := Ground.phase }, { on := 1, ground := Ground.phase }, { on := 2, ground := Ground.phase }, { on := 3, ground := Ground.phase }, { on := 4, ground := Ground.phase }, { on := 5, ground := Ground.phase }, { on := 6, ground := Ground.phase }, { on := 7, ground := Ground.phase }, { on := 8, ground := Ground.phase }, { on := 9, ground := Ground.phase }, { on := 10, ground := Ground.phase }, { on := 11, ground := Ground.phase }, { on := 12, ground := Ground.phase }, { on := 13, ground := Ground.phase }, { on := 14, ground := Ground.phase }, { on := 15, ground := Ground.phase }, { on := 16, ground := Ground.phase }, { on := 17, ground := Ground.phase }, { on := 18, ground := Ground.phase }, { on := 19, ground := Ground.phase }, { on := 20, ground := Ground.phase }, { on := 21, ground := Ground.phase }, { on := 22, ground := Ground.phase }, { on := 23, ground := Ground.phase }, { on := 24, ground := Ground.phase }], guard := none }) (v := ?v27) rfl (by kernel_rfl) (by kernel_rfl) (by kernel_rfl) (fun _ _ _ h => h) (Or.inl ⟨by rfl, ?hy27⟩) ?rs27
                    case hy27 => (intro W hW; go_simp; try with_reducible rfl)
                    try simp only [Act.put, List.setIfInBounds_toArray, List.set_cons_zero, List.set_cons_succ]
                    refine wpAnyF_done (by kernel_rfl) ?_
                    rotate_left
                    all_goals
                      go_wp2
                      go_meet
                      first
                      | exact ⟨_, rfl, rfl, Box.new w7 24 [.int .u16 (rv : Int), .int .i64 rt, .int .i64 rl, .bool ro], hBp.alloc hBp.size _⟩
                      | exact ⟨_, rfl, rfl, (((hz.set 0 (.int .u16 (rv : Int))).set 1 (.int .i64 rt)).set 2 (.int .i64 rl)).set 3 (.bool ro), (((hB1.setCell (p := ⟨X.heap.size, 0, none⟩) (Nat.le_refl _) _).setCell (p := ⟨X.heap.size, 1, none⟩) (Nat.le_refl _) _).setCell (p := ⟨X.heap.size, 2, none⟩) (Nat.le_refl _) _).setCell (p := ⟨X.heap.size, 3, none⟩) (Nat.le_refl _) _⟩
                  | false =>
                    refine wp_region_F 24 (X.heap.size) (by kernel_rfl) ?_
                    refine wpAnyF_pure (i := 0) (oi := { dst := some 65, op := Op.move (Go.Operand.tmp 12), type := 3, pos := "member.go:74", after := #[], guard := none }) (v := ?v28) rfl (by kernel_rfl) (by kernel_rfl) (by kernel_rfl) (fun _ _ _ h => h) (Or.inl ⟨by rfl, ?hy28⟩) ?rs28
                    case hy28 => (intro W hW; go_simp; try with_reducible rfl)
                    try simp only [Act.put, List.setIfInBounds_toArray, List.set_cons_zero, List.set_cons_succ]
                    refine wpAnyF_take (i := 1) (oi := { dst := some 66, op := Op.load 24 (Go.Operand.tmp 13), type := 24, pos := "member.go:74", after := #[], guard := none }) (v := ?v29) rfl (by kernel_rfl) (by kernel_rfl) (by kernel_rfl) (by decide) (by kernel_rfl) (fun _ _ _ h => h) (Or.inl ⟨by rfl, ?hy29⟩) ?rs29
                    case hy29 => (intro W hW; obtain ⟨g0, g1, g2, g3⟩ := F13.out _ (hB1.trans hW); go_simp; try with_reducible rfl)
                    try simp only [Act.put, List.setIfInBounds_toArray, List.set_cons_zero, List.set_cons_succ]
                    refine wpAnyF_pure (i := 2) (oi := { dst := some 67, op := Op.move (Go.Operand.tmp 9), type := 3, pos := "member.go:74", after := #[], guard := none }) (v := ?v30) rfl (by kernel_rfl) (by kernel_rfl) (by kernel_rfl) (fun _ _ _ h => h) (Or.inl ⟨by rfl, ?hy30⟩) ?rs30
                    case hy30 => (intro W hW; go_simp; try with_reducible rfl)
                    try simp only [Act.put, List.setIfInBounds_toArray, List.set_cons_zero, List.set_cons_succ]
                    refine wpAnyF_pure (i := 3) (oi := { dst := some 68, op := Op.fieldAddr 24 (Go.Operand.tmp 10) 3, type := 0, pos := "member.go:74", after := #[], guard := none }) (v := ?v31) rfl (by kernel_rfl) (by kernel_rfl) (by kernel_rfl) (fun _ _ _ h => h) (Or.inl ⟨by rfl, ?hy31⟩) ?rs31
                    case hy31 => (intro W hW; go_simp; try with_reducible rfl)
                    try simp only [Act.put, List.setIfInBounds_toArray, List.set_cons_zero, List.set_cons_succ]
                    refine wpAnyF_take (i := 4) (oi := { dst := some 69, op := Op.load 4 (Go.Operand.tmp 68), type := 4, pos := "member.go:74", after := #[{ on := 3, ground := Ground.data }], guard := none }) (v := ?v32) rfl (by kernel_rfl) (by kernel_rfl) (by kernel_rfl) (by decide) (by kernel_rfl) (fun _ _ _ h => h) (Or.inl ⟨by rfl, ?hy32⟩) ?rs32
                    case hy32 => (intro W hW; obtain ⟨g0, g3⟩ := F10.out _ (hB1.trans hW); go_simp; try with_reducible rfl)
                    try simp only [Act.put, List.setIfInBounds_toArray, List.set_cons_zero, List.set_cons_succ]
                    refine wpAnyF_pure (i := 5) (oi := { dst := some 70, op := Op.unOp Go.UnOp.not 4 (Go.Operand.tmp 69), type := 4, pos := "member.go:74", after := #[{ on := 4, ground := Ground.data }], guard := none }) (v := ?v33) rfl (by kernel_rfl) (by kernel_rfl) (by kernel_rfl) (fun _ _ _ h => h) (Or.inl ⟨by rfl, ?hy33⟩) ?rs33
                    case hy33 => (intro W hW; go_simp; try with_reducible rfl)
                    try simp only [Act.put, List.setIfInBounds_toArray, List.set_cons_zero, List.set_cons_succ]
                    refine wpAnyF_pure (i := 6) (oi := { dst := some 71, op := Op.move (Go.Operand.tmp 70), type := 4, pos := "member.go:74", after := #[{ on := 5, ground := Ground.data }], guard := none }) (v := ?v34) rfl (by kernel_rfl) (by kernel_rfl) (by kernel_rfl) (fun _ _ _ h => h) (Or.inl ⟨by rfl, ?hy34⟩) ?rs34
                    case hy34 => (intro W hW; go_simp; try with_reducible rfl)
                    try simp only [Act.put, List.setIfInBounds_toArray, List.set_cons_zero, List.set_cons_succ]
                    refine wpAnyF_pure (i := 7) (oi := { dst := some 72, op := Op.move (Go.Operand.tmp 0), type := 35, pos := "member.go:74", after := #[{ on := 6, ground := Ground.guard }], guard := some (6, true) }) (v := ?v35) rfl (by kernel_rfl) (by kernel_rfl) (by kernel_rfl) (fun _ _ _ h => h) (Or.inl ⟨by rfl, ?hy35⟩) ?rs35
                    case hy35 => (intro W hW; go_simp; try with_reducible rfl)
                    try simp only [Act.put, List.setIfInBounds_toArray, List.set_cons_zero, List.set_cons_succ]
                    refine wpAnyF_pure (i := 8) (oi := { dst := some 73, op := Op.move (Go.Operand.tmp 12), type := 3, pos := "member.go:74", after := #[{ on := 6, ground := Ground.guard }], guard := some (6, true) }) (v := ?v36) rfl (by kernel_rfl) (by kernel_rfl) (by kernel_rfl) (fun _ _ _ h => h) (Or.inl ⟨by rfl, ?hy36⟩) ?rs36
                    case hy36 => (intro W hW; go_simp; try with_reducible rfl)
                    try simp only [Act.put, List.setIfInBounds_toArray, List.set_cons_zero, List.set_cons_succ]
                    refine wpAnyF_pure (i := 9) (oi := { dst := some 74, op := Op.indexAddr 35 (Go.Operand.tmp 72) (Go.Operand.tmp 73), type := 0, pos := "member.go:74", after := #[{ on := 7, ground := Ground.data }, { on := 8, ground := Ground.data }, { on := 6, ground := Ground.guard }], guard := some (6, true) }) (v := ?v37) rfl (by kernel_rfl) (by kernel_rfl) (by kernel_rfl) (fun _ _ _ h => h) (Or.inl ⟨by rfl, ?hy37⟩) ?rs37
                    case hy37 => (intro W hW; go_simp; try with_reducible rfl)
                    try simp only [Act.put, List.setIfInBounds_toArray, List.set_cons_zero, List.set_cons_succ]
                    refine wpAnyF_take (i := 10) (oi := { dst := some 75, op := Op.load 22 (Go.Operand.tmp 74), type := 22, pos := "member.go:74", after := #[{ on := 9, ground := Ground.data }, { on := 6, ground := Ground.guard }], guard := some (6, true) }) (v := ?v38) rfl (by kernel_rfl) (by kernel_rfl) (by kernel_rfl) (by decide) (by kernel_rfl) (fun _ _ _ h => h) (Or.inl ⟨by rfl, ?hy38⟩) ?rs38
                    case hy38 => (intro W hW; have hc := FH.out _ (hB1.trans hW); go_simp; try with_reducible rfl)
                    try simp only [Act.put, List.setIfInBounds_toArray, List.set_cons_zero, List.set_cons_succ]
                    refine wpAnyF_pure (i := 11) (oi := { dst := some 76, op := Op.move (Go.Operand.tmp 9), type := 3, pos := "member.go:74", after := #[{ on := 6, ground := Ground.guard }], guard := some (6, true) }) (v := ?v39) rfl (by kernel_rfl) (by kernel_rfl) (by kernel_rfl) (fun _ _ _ h => h) (Or.inl ⟨by rfl, ?hy39⟩) ?rs39
                    case hy39 => (intro W hW; go_simp; try with_reducible rfl)
                    try simp only [Act.put, List.setIfInBounds_toArray, List.set_cons_zero, List.set_cons_succ]
                    refine wpAnyF_pure (i := 12) (oi := { dst := some 77, op := Op.binOp Go.BinOp.shl 22 (Go.Operand.const (Go.Value.int Go.IntKind.u16 1)) (Go.Operand.tmp 76) 3, type := 22, pos := "member.go:74", after := #[{ on := 11, ground := Ground.data }, { on := 6, ground := Ground.guard }], guard := some (6, true) }) (v := ?v40) rfl (by kernel_rfl) (by kernel_rfl) (by kernel_rfl) (fun _ _ _ h => h) (Or.inl ⟨by rfl, ?hy40⟩) ?rs40
                    case hy40 => (intro W hW; go_simp; try with_reducible rfl)
                    try simp only [Act.put, List.setIfInBounds_toArray, List.set_cons_zero, List.set_cons_succ]
                    refine wpAnyF_pure (i := 13) (oi := { dst := some 78, op := Op.binOp Go.BinOp.and 22 (Go.Operand.tmp 75) (Go.Operand.tmp 77) 22, type := 22, pos := "member.go:74", after := #[{ on := 10, ground := Ground.data }, { on := 12, ground := Ground.data }, { on := 6, ground := Ground.guard }], guard := some (6, true) }) (v := ?v41) rfl (by kernel_rfl) (by kernel_rfl) (by kernel_rfl) (fun _ _ _ h => h) (Or.inl ⟨by rfl, ?hy41⟩) ?rs41
                    case hy41 => (intro W hW; go_simp; try with_reducible rfl)
                    try simp only [Act.put, List.setIfInBounds_toArray, List.set_cons_zero, List.set_cons_succ]
                    refine wpAnyF_pure (i := 14) (oi := { dst := some 79, op := Op.binOp Go.BinOp.neq 22 (Go.Operand.tmp 78) (Go.Operand.const (Go.Value.int Go.IntKind.u16 0)) 22, type := 4, pos := "member.go:74", after := #[{ on := 13, ground := Ground.data }, { on := 6, ground := Ground.guard }], guard := some (6, true) }) (v := ?v42) rfl (by kernel_rfl) (by kernel_rfl) (by kernel_rfl) (fun _ _ _ h => h) (Or.inl ⟨by rfl, ?hy42⟩) ?rs42
                    case hy42 => (intro W hW; go_simp; try with_reducible rfl)
                    try simp only [Act.put, List.setIfInBounds_toArray, List.set_cons_zero, List.set_cons_succ]
                    refine wpAnyF_pure (i := 15) (oi := { dst := some 80, op := Op.pick (Go.Operand.tmp 71) (Go.Operand.tmp 79) (Go.Operand.const (Go.Value.bool false)), type := 4, pos := "member.go:74", after := #[{ on := 6, ground := Ground.data }, { on := 14, ground := Ground.data }], guard := none }) (v := ?v43) rfl (by kernel_rfl) (by kernel_rfl) (by kernel_rfl) (fun _ _ _ h => h) (Or.inl ⟨by rfl, ?hy43⟩) ?rs43
                    case hy43 => (intro W hW; go_simp; try with_reducible rfl)
                    try simp only [Act.put, List.setIfInBounds_toArray, List.set_cons_zero, List.set_cons_succ]
                    refine wpAnyF_pure (i := 16) (oi := { dst := some 81, op := Op.fieldAddr 24 (Go.Operand.tmp 10) 0, type := 0, pos := "member.go:74", after := #[], guard := none }) (v := ?v44) rfl (by kernel_rfl) (by kernel_rfl) (by kernel_rfl) (fun _ _ _ h => h) (Or.inl ⟨by rfl, ?hy44⟩) ?rs44
                    case hy44 => (intro W hW; go_simp; try with_reducible rfl)
                    try simp only [Act.put, List.setIfInBounds_toArray, List.set_cons_zero, List.set_cons_succ]
                    refine wpAnyF_take (i := 17) (oi := { dst := some 82, op := Op.load 22 (Go.Operand.tmp 81), type := 22, pos := "member.go:74", after := #[{ on := 16, ground := Ground.data }], guard := none }) (v := ?v45) rfl (by kernel_rfl) (by kernel_rfl) (by kernel_rfl) (by decide) (by kernel_rfl) (fun _ _ _ h => h) (Or.inl ⟨by rfl, ?hy45⟩) ?rs45
                    case hy45 => (intro W hW; obtain ⟨g0, g3⟩ := F10.out _ (hB1.trans hW); go_simp; try with_reducible rfl)
                    try simp only [Act.put, List.setIfInBounds_toArray, List.set_cons_zero, List.set_cons_succ]
                    refine wpAnyF_pure (i := 18) (oi := { dst := some 83, op := Op.build 26 #[(0, Go.Operand.tmp 67), (1, Go.Operand.tmp 80), (2, Go.Operand.tmp 82)], type := 26, pos := "member.go:74", after := #[{ on := 2, ground := Ground.data }, { on := 15, ground := Ground.data }, { on := 17, ground := Ground.data }], guard := none }) (v := ?v46) rfl (by kernel_rfl) (by kernel_rfl) (by kernel_rfl) (fun _ _ _ h => h) (Or.inl ⟨by rfl, ?hy46⟩) ?rs46
                    case hy46 => (intro W hW; go_simp; try with_reducible rfl)
                    try simp only [Act.put, List.setIfInBounds_toArray, List.set_cons_zero, List.set_cons_succ]
                    refine wpAnyF_two (i := 19) (j := 23) (oi := { dst := some 84, op := Op.call { callee := Callee.value (Go.Operand.func 11), args := #[Go.Operand.tmp 65, Go.Operand.tmp 66, Go.Operand.tmp 83], argTypes := #[3, 24, 26] }, type := 29, pos := "member.go:74", after := #[{ on := 0, ground := Ground.data }, { on := 1, ground := Ground.data }, { on := 18, ground := Ground.data }, { on := 6, ground := Ground.chain }], guard := none }) (oj := { dst := some 14, op := Op.alloc 24, type := 0, pos := "member.go:74", after := #[], guard := none }) (by kernel_rfl) rfl rfl (fun K hK => ?_) (fun K hK => ?_)
                    go_simp
                    refine (C1.out _).mono ?_; rintro e w7 ⟨rfl, hb7⟩; have hbk := hb7.mono hB1.size; replace hB1 := hB1.trans hbk; (try replace hz := hz.below hb7 hz.lt)
                    refine hK.out _ _ hbk ?_
                    clear hK K
                    try simp only [Act.put, List.setIfInBounds_toArray, List.set_cons_zero, List.set_cons_succ]
                    refine wpAnyF_pure (i := 20) (oi := { dst := some 64, op := Op.move (Go.Operand.tmp 84), type := 29, pos := "member.go:74", after := #[{ on := 19, ground := Ground.data }], guard := none }) (v := ?v47) rfl (by kernel_rfl) (by kernel_rfl) (by kernel_rfl) (fun _ _ _ h => h) (Or.inl ⟨by rfl, ?hy47⟩) ?rs47
                    case hy47 => (intro W hW; go_simp; try with_reducible rfl)
                    try simp only [Act.put, List.setIfInBounds_toArray, List.set_cons_zero, List.set_cons_succ]
                    refine wpAnyF_pure (i := 21) (oi := { dst := some 85, op := Op.extract (Go.Operand.tmp 64) 0, type := 24, pos := "member.go:74", after := #[{ on := 20, ground := Ground.data }], guard := none }) (v := ?v48) rfl (by kernel_rfl) (by kernel_rfl) (by kernel_rfl) (fun _ _ _ h => h) (Or.inl ⟨by rfl, ?hy48⟩) ?rs48
                    case hy48 => (intro W hW; go_simp; try with_reducible rfl)
                    try simp only [Act.put, List.setIfInBounds_toArray, List.set_cons_zero, List.set_cons_succ]
                    refine wpAnyF_pure (i := 22) (oi := { dst := some 86, op := Op.extract (Go.Operand.tmp 64) 1, type := 28, pos := "member.go:74", after := #[{ on := 20, ground := Ground.data }, { on := 24, ground := Ground.gcOnly Go.Departure.lateStores }], guard := none }) (v := ?v49) rfl (by kernel_rfl) (by kernel_rfl) (by kernel_rfl) (fun _ _ _ h => h) (Or.inl ⟨by rfl, ?hy49⟩) ?rs49
                    case hy49 => (intro W hW; go_simp; try with_reducible rfl)
                    try simp only [Act.put, List.setIfInBounds_toArray, List.set_cons_zero, List.set_cons_succ]
                    refine wpAnyF_one (i := 23) (o := { dst := some 14, op := Op.alloc 24, type := 0, pos := "member.go:74", after := #[], guard := none }) (by kernel_rfl) rfl (fun K hK => ?_)
                    go_simp
                    have hge := hB1.size; have hBp := hB1; replace hB1 := hB1.alloc hB1.size (.cells #[.int .u16 0, .int .i64 0, .int .i64 0, .bool false] 24); (first | have hz := Box.new w7 24 [.int .u16 0, .int .i64 0, .int .i64 0, .bool false] | have hz : Box (X.drew.alloc (.cells #[.int .u16 0, .int .i64 0, .int .i64 0, .bool false] 24)) X.heap.size 24 [.int .u16 0, .int .i64 0, .int .i64 0, .bool false] := Box.new X.drew 24 [.int .u16 0, .int .i64 0, .int .i64 0, .bool false])
                    refine hK.out _ _ ((Below.refl _ _).alloc (by first | exact Nat.le_refl _ | omega | (simp; omega)) _) ?_
                    clear hK K
                    try simp only [Act.put, List.setIfInBounds_toArray, List.set_cons_zero, List.set_cons_succ]
                    refine wpAnyF_last (i := 24) (o := { dst := none, op := Op.store 24 (Go.Operand.tmp 14) (Go.Operand.tmp 85), type := 0, pos := "member.go:74", after := #[{ on := 23, ground := Ground.data }, { on := 21, ground := Ground.data }, { on := 19, ground := Ground.chain }, { on := 0, ground := Ground.phase }, { on := 1, ground := Ground.phase }, { on := 2, ground := Ground.phase }, { on := 3, ground := Ground.phase }, { on := 4, ground := Ground.phase }, { on := 5, ground := Ground.phase }, { on := 6, ground := Ground.phase }, { on := 7, ground := Ground.phase }, { on := 8, ground := Ground.phase }, { on := 9, ground := Ground.phase }, { on := 10, ground := Ground.phase }, { on := 11, ground := Ground.phase }, { on := 12, ground := Ground.phase }, { on := 13, ground := Ground.phase }, { on := 14, ground := Ground.phase }, { on := 15, ground := Ground.phase }, { on := 16, ground := Ground.phase }, { on := 17, ground := Ground.phase }, { on := 18, ground := Ground.phase }, { on := 19, ground := Ground.phase }, { on := 20, ground := Ground.phase }, { on := 21, ground := Ground.phase }, { on := 22, ground := Ground.textOnly Go.Departure.lateStores }, { on := 23, ground := Ground.phase }], guard := none }) (by kernel_rfl) rfl (by decide) (fun K hK => ?_)
                    have k0 := hz.cell 0 rfl; have k1 := hz.cell 1 rfl; have k2 := hz.cell 2 rfl; have k3 := hz.cell 3 rfl; have f0 := hz.free 0; have f1 := hz.free 1; have f2 := hz.free 2; have f3 := hz.free 3; have hlz := hz.lt
                    go_simp
                    refine hK.out _ _ ?_
                    clear hK K
                    try simp only [Act.put, List.setIfInBounds_toArray, List.set_cons_zero, List.set_cons_succ]
                    refine wpAnyF_pure (i := 25) (oi := { dst := some 15, op := Op.assign (Go.Operand.tmp 86), type := 28, pos := "member.go:74", after := #[{ on := 22, ground := Ground.data }, { on := 24, ground := Ground.chain }, { on := 0, ground := Ground.phase }, { on := 1, ground := Ground.phase }, { on := 2, ground := Ground.phase }, { on := 3, ground := Ground.phase }, { on := 4, ground := Ground.phase }, { on := 5, ground := Ground.phase }, { on := 6, ground := Ground.phase }, { on := 7, ground := Ground.phase }, { on := 8, ground := Ground.phase }, { on := 9, ground := Ground.phase }, { on := 10, ground := Ground.phase }, { on := 11, ground := Ground.phase }, { on := 12, ground := Ground.phase }, { on := 13, ground := Ground.phase }, { on := 14, ground := Ground.phase }, { on := 15, ground := Ground.phase }, { on := 16, ground := Ground.phase }, { on := 17, ground := Ground.phase }, { on := 18, ground := Ground.phase }, { on := 19, ground := Ground.phase }, { on := 20, ground := Ground.phase }, { on := 21, ground := Ground.phase }, { on := 22, ground := Ground.phase }, { on := 23, ground := Ground.phase }, { on := 24, ground := Ground.phase }], guard := none }) (v := ?v50) rfl (by kernel_rfl) (by kernel_rfl) (by kernel_rfl) (fun _ _ _ h => h) (Or.inl ⟨by rfl, ?hy50⟩) ?rs50
                    case hy50 => (intro W hW; go_simp; try with_reducible rfl)
                    try simp only [Act.put, List.setIfInBounds_toArray, List.set_cons_zero, List.set_cons_succ]
                    refine wpAnyF_done (by kernel_rfl) ?_
                    rotate_left
                    go_simp
                    have hge := hB1.size; have hBp := hB1; replace hB1 := hB1.alloc hB1.size (.cells #[.int .u16 0, .int .i64 0, .int .i64 0, .bool false] 24); (first | have hz := Box.new w7 24 [.int .u16 0, .int .i64 0, .int .i64 0, .bool false] | have hz : Box (X.drew.alloc (.cells #[.int .u16 0, .int .i64 0, .int .i64 0, .bool false] 24)) X.heap.size 24 [.int .u16 0, .int .i64 0, .int .i64 0, .bool false] := Box.new X.drew 24 [.int .u16 0, .int .i64 0, .int .i64 0, .bool false])
                    refine hK.out _ _ ((Below.refl _ _).alloc (by first | exact Nat.le_refl _ | omega | (simp; omega)) _) ?_
                    clear hK K
                    try simp only [Act.put, List.setIfInBounds_toArray, List.set_cons_zero, List.set_cons_succ]
                    refine wpAnyF_one (i := 19) (o := { dst := some 84, op := Op.call { callee := Callee.value (Go.Operand.func 11), args := #[Go.Operand.tmp 65, Go.Operand.tmp 66, Go.Operand.tmp 83], argTypes := #[3, 24, 26] }, type := 29, pos := "member.go:74", after := #[{ on := 0, ground := Ground.data }, { on := 1, ground := Ground.data }, { on := 18, ground := Ground.data }, { on := 6, ground := Ground.chain }], guard := none }) (by kernel_rfl) rfl (fun K hK => ?_)
                    go_simp
                    refine (C1.out _).mono ?_; rintro e w7 ⟨rfl, hb7⟩; have hbk := hb7.mono hB1.size; replace hB1 := hB1.trans hbk; (try replace hz := hz.below hb7 hz.lt)
                    refine hK.out _ _ hbk ?_
                    clear hK K
                    try simp only [Act.put, List.setIfInBounds_toArray, List.set_cons_zero, List.set_cons_succ]
                    refine wpAnyF_pure (i := 20) (oi := { dst := some 64, op := Op.move (Go.Operand.tmp 84), type := 29, pos := "member.go:74", after := #[{ on := 19, ground := Ground.data }], guard := none }) (v := ?v51) rfl (by kernel_rfl) (by kernel_rfl) (by kernel_rfl) (fun _ _ _ h => h) (Or.inl ⟨by rfl, ?hy51⟩) ?rs51
                    case hy51 => (intro W hW; go_simp; try with_reducible rfl)
                    try simp only [Act.put, List.setIfInBounds_toArray, List.set_cons_zero, List.set_cons_succ]
                    refine wpAnyF_pure (i := 21) (oi := { dst := some 85, op := Op.extract (Go.Operand.tmp 64) 0, type := 24, pos := "member.go:74", after := #[{ on := 20, ground := Ground.data }], guard := none }) (v := ?v52) rfl (by kernel_rfl) (by kernel_rfl) (by kernel_rfl) (fun _ _ _ h => h) (Or.inl ⟨by rfl, ?hy52⟩) ?rs52
                    case hy52 => (intro W hW; go_simp; try with_reducible rfl)
                    try simp only [Act.put, List.setIfInBounds_toArray, List.set_cons_zero, List.set_cons_succ]
                    refine wpAnyF_pure (i := 22) (oi := { dst := some 86, op := Op.extract (Go.Operand.tmp 64) 1, type := 28, pos := "member.go:74", after := #[{ on := 20, ground := Ground.data }, { on := 24, ground := Ground.gcOnly Go.Departure.lateStores }], guard := none }) (v := ?v53) rfl (by kernel_rfl) (by kernel_rfl) (by kernel_rfl) (fun _ _ _ h => h) (Or.inl ⟨by rfl, ?hy53⟩) ?rs53
                    case hy53 => (intro W hW; go_simp; try with_reducible rfl)
                    try simp only [Act.put, List.setIfInBounds_toArray, List.set_cons_zero, List.set_cons_succ]
                    refine wpAnyF_last (i := 24) (o := { dst := none, op := Op.store 24 (Go.Operand.tmp 14) (Go.Operand.tmp 85), type := 0, pos := "member.go:74", after := #[{ on := 23, ground := Ground.data }, { on := 21, ground := Ground.data }, { on := 19, ground := Ground.chain }, { on := 0, ground := Ground.phase }, { on := 1, ground := Ground.phase }, { on := 2, ground := Ground.phase }, { on := 3, ground := Ground.phase }, { on := 4, ground := Ground.phase }, { on := 5, ground := Ground.phase }, { on := 6, ground := Ground.phase }, { on := 7, ground := Ground.phase }, { on := 8, ground := Ground.phase }, { on := 9, ground := Ground.phase }, { on := 10, ground := Ground.phase }, { on := 11, ground := Ground.phase }, { on := 12, ground := Ground.phase }, { on := 13, ground := Ground.phase }, { on := 14, ground := Ground.phase }, { on := 15, ground := Ground.phase }, { on := 16, ground := Ground.phase }, { on := 17, ground := Ground.phase }, { on := 18, ground := Ground.phase }, { on := 19, ground := Ground.phase }, { on := 20, ground := Ground.phase }, { on := 21, ground := Ground.phase }, { on := 22, ground := Ground.textOnly Go.Departure.lateStores }, { on := 23, ground := Ground.phase }], guard := none }) (by kernel_rfl) rfl (by decide) (fun K hK => ?_)
                    have k0 := hz.cell 0 rfl; have k1 := hz.cell 1 rfl; have k2 := hz.cell 2 rfl; have k3 := hz.cell 3 rfl; have f0 := hz.free 0; have f1 := hz.free 1; have f2 := hz.free 2; have f3 := hz.free 3; have hlz := hz.lt
                    go_simp
                    refine hK.out _ _ ?_
                    clear hK K
                    try simp only [Act.put, List.setIfInBounds_toArray, List.set_cons_zero, List.set_cons_succ]
                    refine wpAnyF_pure (i := 25) (oi := { dst := some 15, op := Op.assign (Go.Operand.tmp 86), type := 28, pos := "member.go:74", after := #[{ on := 22, ground := Ground.data }, { on := 24, ground := Ground.chain }, { on := 0, ground := Ground.phase }, { on := 1, ground := Ground.phase }, { on := 2, ground := Ground.phase }, { on := 3, ground := Ground.phase }, { on := 4, ground := Ground.phase }, { on := 5, ground := Ground.phase }, { on := 6, ground := Ground.phase }, { on := 7, ground := Ground.phase }, { on := 8, ground := Ground.phase }, { on := 9, ground := Ground.phase }, { on := 10, ground := Ground.phase }, { on := 11, ground := Ground.phase }, { on := 12, ground := Ground.phase }, { on := 13, ground := Ground.phase }, { on := 14, ground := Ground.phase }, { on := 15, ground := Ground.phase }, { on := 16, ground := Ground.phase }, { on := 17, ground := Ground.phase }, { on := 18, ground := Ground.phase }, { on := 19, ground := Ground.phase }, { on := 20, ground := Ground.phase }, { on := 21, ground := Ground.phase }, { on := 22, ground := Ground.phase }, { on := 23, ground := Ground.phase }, { on := 24, ground := Ground.phase }], guard := none }) (v := ?v54) rfl (by kernel_rfl) (by kernel_rfl) (by kernel_rfl) (fun _ _ _ h => h) (Or.inl ⟨by rfl, ?hy54⟩) ?rs54
                    case hy54 => (intro W hW; go_simp; try with_reducible rfl)
                    try simp only [Act.put, List.setIfInBounds_toArray, List.set_cons_zero, List.set_cons_succ]
                    refine wpAnyF_done (by kernel_rfl) ?_
                    rotate_left
                    all_goals
                      go_wp2
                      go_meet
                      first
                      | exact ⟨_, rfl, rfl, Box.new w7 24 [.int .u16 (rv : Int), .int .i64 rt, .int .i64 rl, .bool ro], hBp.alloc hBp.size _⟩
                      | exact ⟨_, rfl, rfl, (((hz.set 0 (.int .u16 (rv : Int))).set 1 (.int .i64 rt)).set 2 (.int .i64 rl)).set 3 (.bool ro), (((hB1.setCell (p := ⟨X.heap.size, 0, none⟩) (Nat.le_refl _) _).setCell (p := ⟨X.heap.size, 1, none⟩) (Nat.le_refl _) _).setCell (p := ⟨X.heap.size, 2, none⟩) (Nat.le_refl _) _).setCell (p := ⟨X.heap.size, 3, none⟩) (Nat.le_refl _) _⟩
                case rest =>
                  obtain ⟨b, rfl, rfl, hxb, hcb⟩ := hcut
                  have k0 := hxb.cell 0 rfl
                  have k1 := hxb.cell 1 rfl
                  have k2 := hxb.cell 2 rfl
                  have k3 := hxb.cell 3 rfl
                  have hlb := hxb.lt
                  have Hoc := Lib.hid (Ho.out.below hcb)
                  have hBc := bthen hblX hcb
                  have hszc := hBc.size
                  have hlS : (S.take i').length ≤ 16 := by rw [List.length_take]; omega
                  clear Ho hcb hblX hxb F10 F13 FH C1
                  go_wp2_with (at_builtin; go_must (refine wpList_apG memK _ elMem rfl rfl W.heap.size _ (S.take i') rfl (Hoc.out.alloc _) _ 1 1 [(⟨rv, rt, rl, ro⟩ : Mem)] rfl (Rd.litFlat memK.len [(⟨rv, rt, rl, ro⟩ : Mem)] _ (by simp)) (by simp; omega) (by omega) (by omega) ?_; intro v8 w8 ho8 hm8))
                  have hb8 : Below W.heap.size W w8 := hm8.below (hBc.alloc hBc.size _) (by simp; omega) Hoc.out.block
                  have Ho8 := Lib.hid ho8
                  clear ho8 hm8 Hoc hBc
                  go_wp2
                  go_roundw
                  case rel => exact ⟨i' + 1, by omega, by go_num, by rw [Htk.out]; exact Ho8.out, hb8⟩
                  case measure => simp [intOf] <;> omega
              · obtain rfl : i' = j := by omega
                rw [List.take_of_length_le (by rw [HSlen.out]; exact Nat.le_refl _), ← HS.out] at ho
                have Ho := Lib.hid (ho.mono hWB.size)
                have hB2 := hWB.trans (hbl2.mono hWB.size)
                clear ho
                go_wp2
                go_roundw
                case rel => exact ⟨s + 1, by omega, by go_num, Ho.out, hB2⟩
                case measure => simp [intOf] <;> omega
          · obtain rfl : s = N := by omega
            go_wp2
            go_ret2
            exact ⟨_, rfl, ho, hbl'⟩
end Go.Proofs.Ytnmoddknghcobaa
