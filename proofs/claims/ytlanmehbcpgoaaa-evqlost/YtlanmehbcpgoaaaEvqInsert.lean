/-
  Contract of slices.Insert of one operation into a slice of the call's own.
-/
import Derived.Test.YtlanmehbcpgoaaaEvqLaws4
import Derived.Test.YtlanmehbcpgoaaaCopyG
import Derived.Test.YtlanmehbcpgoaaaRegionF
import Derived.Lib.Overlaps
namespace Go.Proofs.Ytlanmehbcpgoaaa
open Go.RowKit
set_option linter.unusedVariables false

def GivesOps (B : Nat) (L : List EvO) (w : World) (e : Ending) (w' : World) : Prop :=
  ∃ v, e = .returned v ∧ OwG opC 2 w' B 36 v L ∧ Below B w w'
theorem from_ops (W : World) (g n c i : Nat) (hi : i ≤ n) (hc : c ≠ i) : (Instr.slice 22 (.slice (some ⟨g, 0, none⟩) n c) (some (.int .i64 (i : Int))) none none).run Try.prog W = .ok (.slice (some ⟨g, i * 2, none⟩) (n - i) (c - i)) W := by
  have := run_from elOp (P := Try.prog) W (some ⟨g, 0, none⟩) n c i hi
  rw [if_neg hc] at this
  rw [this]
  have e : (⟨g, 0, none⟩ : Addr).add (i * 2) = ⟨g, i * 2, none⟩ := by unfold Addr.add; split <;> simp_all
  simp [e]
theorem src_one {w : World} {ad : Addr} {x : EvO} (h : RdG opC 2 w (some ad) 1 [x]) : ∀ j u, (opC x)[j]? = some u → w.cell? (ad.add j) = some u := fun j u hu => by
  obtain ⟨ad', e, hc⟩ := h.2 (by omega)
  injection e with e
  subst e
  exact hc j u (by simpa using hu)
set_option maxHeartbeats 1600000 in
/-- At the end. -/
theorem insert_end (A : Option Addr) (n c : Nat) (L : List EvO) (x : EvO) (b B : Nat) (w : World) (ho : OwG opC 2 w B 36 (.slice A n c) L) (hB : B ≤ w.heap.size) (hx : RdG opC 2 w (some ⟨b, 0, none⟩) 1 [x]) (hn : n < 8796093022208) :
    Calls Try.prog 16 #[.slice A n c, .int .i64 (n : Int), .slice (some ⟨b, 0, none⟩) 1 1] w (GivesOps B (L ++ [x]) w) := by
  have hl := ho.lenN
  have hf := fun W => run_from elOp (P := Try.prog) W A n c n (Nat.le_refl _)
  have Ho := Lib.hid ho
  have Hl1 := Lib.hid hl.1
  have hB' := (Below.refl B w)
  have hbk := Lib.hid ho.block
  clear ho hl
  go_enter Try.func16, Try.ntmps16
  go_wp2_with (at_builtin; go_must (refine wpList_apG opK _ elOp rfl rfl B (.slice A n c) L rfl Ho.out _ 1 1 [x] rfl hx (by omega) (by have := Hl1.out; omega) (by have := Hl1.out; omega) ?_; intro v9 w9 ho9 hm9))
  all_goals
    go_ret
    exact ⟨_, rfl, ho9, hm9.below hB' hB hbk.out⟩
set_option maxHeartbeats 1600000 in
/-- In the middle, no room: a new row. -/
theorem insert_grow (g n : Nat) (L : List EvO) (x : EvO) (i b B : Nat) (w : World) (ho : OwG opC 2 w B 36 (.slice (some ⟨g, 0, none⟩) n n) L) (hB : B ≤ w.heap.size) (hi : i < n) (hx : RdG opC 2 w (some ⟨b, 0, none⟩) 1 [x]) (hn : n < 8796093022208) :
    Calls Try.prog 16 #[.slice (some ⟨g, 0, none⟩) n n, .int .i64 (i : Int), .slice (some ⟨b, 0, none⟩) 1 1] w (GivesOps B (L.take i ++ x :: L.drop i) w) := by
  have hl1 := ho.lenN.1
  have hrd := ho.rd
  have hf0 := fun W => from_ops W g n n i (by omega) (by omega)
  have hto := fun W => run_to elOp (P := Try.prog) W (some ⟨g, 0, none⟩) n n i (by omega)
  have hne : ((i : Int) == (n : Int)) = false := by rw [beq_eq_false_iff_ne]; omega
  have hne2 : ((n : Int) + 1 - (i : Int)) = ((n + 1 - i : Nat) : Int) := by omega
  have hFl : (L.flatMap opC).length = n * 2 := by rw [flat_len opK.len, hl1]
  have holds : (L.flatMap opC).take (i * 2) = (L.take i).flatMap opC := (flat_take opK.len L i).symm
  have Hsrc0 : Hid (∀ j u, ((L.flatMap opC).take (i * 2))[j]? = some u → w.cell? ((⟨g, 0, none⟩ : Addr).add j) = some u) := fun j u hu => by
    obtain ⟨ad, e, hc⟩ := hrd.2 (by omega)
    injection e with e
    subst e
    rw [List.getElem?_take] at hu
    split at hu
    · exact hc j u hu
    · cases hu
  have hol : ((L.flatMap opC).take (i * 2)).length = i * 2 := by rw [List.length_take, hFl]; omega
  have Hl1 := Lib.hid hl1
  have Hrd := Lib.hid hrd
  have Hho := Lib.hid ho
  clear hl1 hrd ho
  go_enter Try.func16, Try.ntmps16
  go_upto_region 9 with fail
  have hxl : Hid ((opC x).length = Nat.min 1 (n + 1 - i) * 2) := by show _ = _; rw [show Nat.min 1 (n + 1 - i) = 1 from Nat.min_eq_left (by omega)]; rfl
  have Hin := Lib.hid (Hho.out.inHeap g rfl)
  go_wp2_with (first
    | (at_builtin; refine wpList_apZnew (n := i) elOp Try.underlying3 rfl rfl ⟨g, 0, none⟩ n rfl _ hol Hsrc0.out (n + 1 - i) (n + 1) (by omega) rfl (by omega) (by omega) (by omega) (by omega) ?_
       intro w1 cur c2 hg1 hcl htk hcap hcm hB1
       have hs10 := fun W => from_ops W w.heap.size (n + 1) c2 i (by omega) (by omega)
       have Hg1 := Lib.hid hg1; have Hcl := Lib.hid hcl; have Htk := Lib.hid htk; have Hcm := Lib.hid hcm; have HB1 := Lib.hid hB1
       have Hx1 := Lib.hid (Rd.below hx hB1)
       clear hg1 hcl htk hcm hB1)
    | (refine wpList_copyG elOp rfl (d := .tmp 43) (s := .tmp 44) rfl w.heap.size (i * 2) ⟨b, 0, none⟩ (n + 1 - i) (c2 - i) 1 1 rfl rfl cur Hg1.out (opC x) hxl.out (src_one Hx1.out) (by rw [Hcl.out]; show i * 2 + 2 ≤ _; omega) (opK.one x) ?_; intro w2 hg2 hgr; have Hg2 := Lib.hid hg2; have HB2 := Lib.hid (HB1.out.trans (below_grown (Below.refl w.heap.size w1) hgr (Nat.le_refl _) HB1.out.size)); clear hg2 hgr))
  have hX : (opC x).length = 2 := rfl
  have hdr : ((L.flatMap opC).drop (i * 2)) = (L.drop i).flatMap opC := (flat_drop opK.len L i).symm
  have hdl : ((L.flatMap opC).drop (i * 2)).length = (n - i) * 2 := by rw [List.length_drop, hFl, Nat.sub_mul]
  have Hsrc : Hid (∀ j u, ((L.flatMap opC).drop (i * 2))[j]? = some u → w2.cell? ((⟨g, i * 2, none⟩ : Addr).add j) = some u) := fun j u hu => by
    obtain ⟨ad, e, hc⟩ := (Rd.below Hrd.out HB2.out).2 (by omega)
    injection e with e
    subst e
    have := hc (i * 2 + j) u (by rw [← hu, List.getElem?_drop])
    rw [show (⟨g, i * 2, none⟩ : Addr).add j = (⟨g, 0, none⟩ : Addr).add (i * 2 + j) by unfold Addr.add; split <;> split <;> simp_all <;> omega]
    exact this
  have hsl : Hid ((splice cur (i * 2) (opC x)).length = c2 * 2) := by show _ = _; rw [splice_len (by rw [Hcl.out, hX]; omega), Hcl.out]
  have hs11 := fun W => from_ops W w.heap.size (n + 1) c2 (i + 1) (by omega) (by omega)
  rw [show ((i + 1 : Nat) : Int) = (i : Int) + 1 from rfl] at hs11
  have hmn : Nat.min (n - i) (n - i) = n - i := Nat.min_eq_left (Nat.le_refl _)
  have Hend : Hid (((splice (splice cur (i * 2) (opC x)) ((i + 1) * 2) ((L.flatMap opC).drop (i * 2))).take ((n + 1) * 2)) = (L.take i ++ x :: L.drop i).flatMap opC) := by
    have := (splice_in (cur := cur) (F := L.flatMap opC) (k := i * 2) hX (by omega) hFl (by rw [Hcl.out]; omega) Htk.out).2
    show _ = _
    rw [show (i + 1) * 2 = i * 2 + 2 by omega, show (n + 1) * 2 = n * 2 + 2 by omega, this, List.flatMap_append, List.flatMap_cons, holds, hdr, List.append_assoc]
  have Hfin : Hid (∀ w3 : World, w3.heap[w.heap.size]? = some (.cells (splice (splice cur (i * 2) (opC x)) ((i + 1) * 2) ((L.flatMap opC).drop (i * 2))).toArray 36 (0, 0)) → OwG opC 2 w3 B 36 (.slice (some ⟨w.heap.size, 0, none⟩) (n + 1) c2) (L.take i ++ x :: L.drop i)) := fun w3 h3 =>
    OwG.ofRow (cap := c2) opK.len hB h3 (by rw [splice_len (by rw [hsl.out, hdl]; omega), hsl.out]) (by rw [List.length_append, List.length_cons, List.length_take, List.length_drop, ← Hl1.out]; omega) hcap Hcm.out Hend.out
  have hB2 := (HB2.out.mono (B' := B) hB)
  clear hs10 hto hdr holds hol Hsrc0 Hrd Hho Hg1 Htk HB1 Hx1 Hcl Hend hX hxl Hcm hFl HB2
  have hw1 : IntKind.i64.wrap ((i : Int) + 1) = (i : Int) + 1 := by rw [IntKind.wrap_i64]; omega
  have hb1 : (0 : Int) ≤ (i : Int) + 1 := by omega
  have htn : ((i : Int) + 1).toNat = i + 1 := by omega
  have hb2 : ¬ c2 = i + 1 := by omega
  have hb3 : (i : Int) ≤ (n : Int) := by omega
  have hb4 : ¬ n = i := by omega
  go_upto_region 11 with fail
  refine wp_region_F 8 (w.heap.size) (by kernel_rfl) ?_
  refine wpAnyF_pure (i := 0) (oi := { dst := some 46, op := Op.move (Go.Operand.tmp 9), type := 22, pos := "slices.go:154", after := #[], guard := none }) (v := ?v1) rfl (by kernel_rfl) (by kernel_rfl) (by kernel_rfl) (fun _ _ _ h => h) (Or.inl ⟨by rfl, ?hy1⟩) ?rs1
  case hy1 => (intro W hW; go_simp; try with_reducible rfl)
  try simp only [Act.put, List.setIfInBounds_toArray, List.set_cons_zero, List.set_cons_succ]
  refine wpAnyF_pure (i := 1) (oi := { dst := some 47, op := Op.move (Go.Operand.tmp 1), type := 3, pos := "slices.go:154", after := #[], guard := none }) (v := ?v2) rfl (by kernel_rfl) (by kernel_rfl) (by kernel_rfl) (fun _ _ _ h => h) (Or.inl ⟨by rfl, ?hy2⟩) ?rs2
  case hy2 => (intro W hW; go_simp; try with_reducible rfl)
  try simp only [Act.put, List.setIfInBounds_toArray, List.set_cons_zero, List.set_cons_succ]
  refine wpAnyF_pure (i := 2) (oi := { dst := some 48, op := Op.move (Go.Operand.tmp 7), type := 3, pos := "slices.go:154", after := #[], guard := none }) (v := ?v3) rfl (by kernel_rfl) (by kernel_rfl) (by kernel_rfl) (fun _ _ _ h => h) (Or.inl ⟨by rfl, ?hy3⟩) ?rs3
  case hy3 => (intro W hW; go_simp; try with_reducible rfl)
  try simp only [Act.put, List.setIfInBounds_toArray, List.set_cons_zero, List.set_cons_succ]
  refine wpAnyF_pure (i := 3) (oi := { dst := some 49, op := Op.binOp Go.BinOp.add 3 (Go.Operand.tmp 47) (Go.Operand.tmp 48) 3, type := 3, pos := "slices.go:154", after := #[{ on := 1, ground := Ground.data }, { on := 2, ground := Ground.data }], guard := none }) (v := ?v4) rfl (by kernel_rfl) (by kernel_rfl) (by kernel_rfl) (fun _ _ _ h => h) (Or.inl ⟨by rfl, ?hy4⟩) ?rs4
  case hy4 => (intro W hW; go_simp; try with_reducible rfl)
  try simp only [Act.put, List.setIfInBounds_toArray, List.set_cons_zero, List.set_cons_succ]
  refine wpAnyF_pure (i := 4) (oi := { dst := some 50, op := Op.slice 22 (Go.Operand.tmp 46) (some (Go.Operand.tmp 49)) none none, type := 22, pos := "slices.go:154", after := #[{ on := 0, ground := Ground.data }, { on := 3, ground := Ground.data }], guard := none }) (v := ?v5) rfl (by kernel_rfl) (by kernel_rfl) (by kernel_rfl) (fun _ _ _ h => h) (Or.inl ⟨by rfl, ?hy5⟩) ?rs5
  case hy5 => (intro W hW; have g1 := hs11 W; go_simp; try with_reducible rfl)
  try simp only [Act.put, List.setIfInBounds_toArray, List.set_cons_zero, List.set_cons_succ]
  refine wpAnyF_pure (i := 5) (oi := { dst := some 51, op := Op.move (Go.Operand.tmp 0), type := 22, pos := "slices.go:154", after := #[], guard := none }) (v := ?v6) rfl (by kernel_rfl) (by kernel_rfl) (by kernel_rfl) (fun _ _ _ h => h) (Or.inl ⟨by rfl, ?hy6⟩) ?rs6
  case hy6 => (intro W hW; go_simp; try with_reducible rfl)
  try simp only [Act.put, List.setIfInBounds_toArray, List.set_cons_zero, List.set_cons_succ]
  refine wpAnyF_pure (i := 6) (oi := { dst := some 52, op := Op.move (Go.Operand.tmp 1), type := 3, pos := "slices.go:154", after := #[], guard := none }) (v := ?v7) rfl (by kernel_rfl) (by kernel_rfl) (by kernel_rfl) (fun _ _ _ h => h) (Or.inl ⟨by rfl, ?hy7⟩) ?rs7
  case hy7 => (intro W hW; go_simp; try with_reducible rfl)
  try simp only [Act.put, List.setIfInBounds_toArray, List.set_cons_zero, List.set_cons_succ]
  refine wpAnyF_pure (i := 7) (oi := { dst := some 53, op := Op.slice 22 (Go.Operand.tmp 51) (some (Go.Operand.tmp 52)) none none, type := 22, pos := "slices.go:154", after := #[{ on := 5, ground := Ground.data }, { on := 6, ground := Ground.data }], guard := none }) (v := ?v8) rfl (by kernel_rfl) (by kernel_rfl) (by kernel_rfl) (fun _ _ _ h => h) (Or.inl ⟨by rfl, ?hy8⟩) ?rs8
  case hy8 => (intro W hW; have g1 := hf0 W; go_simp; try with_reducible rfl)
  try simp only [Act.put, List.setIfInBounds_toArray, List.set_cons_zero, List.set_cons_succ]
  refine wpAnyF_last (i := 8) (o := { dst := some 54, op := Op.call { callee := Callee.builtin Builtin.copy, args := #[Go.Operand.tmp 50, Go.Operand.tmp 53], argTypes := #[22, 22] }, type := 3, pos := "slices.go:154", after := #[{ on := 4, ground := Ground.data }, { on := 7, ground := Ground.data }], guard := none }) (by kernel_rfl) rfl (by decide) (fun K hK => ?_)
  rw [if_pos (by rfl)]
  refine wp_copyG elOp rfl w.heap.size ((i + 1) * 2) ⟨g, i * 2, none⟩ (n - i) (c2 - (i + 1)) (n - i) (n - i) rfl rfl (splice cur (i * 2) (opC x)) Hg2.out ((L.flatMap opC).drop (i * 2)) (by rw [hdl, hmn]) Hsrc.out (by rw [hsl.out, hdl]; omega) (fun u hu => one_flat opK L u (List.mem_of_mem_drop hu)) ?_; intro w3 hg3 hgr3; have HO := Lib.hid (Hfin.out w3 hg3); have hB3 := below_grown hB2.drew hgr3 hB (by simp; have := hB2.size; omega)
  refine hK.out _ _ ?_
  clear hK K
  try simp only [Act.put, List.setIfInBounds_toArray, List.set_cons_zero, List.set_cons_succ]
  refine wpAnyF_done (by kernel_rfl) ?_
  go_wp2
  go_ret
  exact ⟨_, rfl, HO.out, hB3⟩
set_option maxHeartbeats 1600000 in
/-- In the middle, with room: in place. -/
theorem insert_room (g n c : Nat) (L : List EvO) (x : EvO) (i b B : Nat) (w : World) (ho : OwG opC 2 w B 36 (.slice (some ⟨g, 0, none⟩) n c) L) (hB : B ≤ w.heap.size) (hi : i < n) (hroom : n < c) (hxb : Box w b 36 (opC x)) (hbg : b ≠ g) (hn : n < 8796093022208) :
    Calls Try.prog 16 #[.slice (some ⟨g, 0, none⟩) n c, .int .i64 (i : Int), .slice (some ⟨b, 0, none⟩) 1 1] w (GivesOps B (L.take i ++ x :: L.drop i) w) := by
  have hl1 := ho.lenN.1
  have hrd := ho.rd
  obtain ⟨cur, hBg, hg, hcl, _, hcm, htk⟩ := ho.row
  simp only [maxLen] at hcm
  have hf0 := fun W => from_ops W g n c i (by omega) (by omega)
  have hto := fun W => run_to elOp (P := Try.prog) W (some ⟨g, 0, none⟩) n c (n + 1) (by omega)
  rw [show ((n + 1 : Nat) : Int) = (n : Int) + 1 from rfl] at hto
  have hf1 := fun W => from_ops W g (n + 1) c (i + 1) (by omega) (by omega)
  rw [show ((i + 1 : Nat) : Int) = (i : Int) + 1 from rfl, show n + 1 - (i + 1) = n - i by omega] at hf1
  have hf2 := fun W => from_ops W g (n + 1) c i (by omega) (by omega)
  have hne : ((i : Int) == (n : Int)) = false := by rw [beq_eq_false_iff_ne]; omega
  have hFl : (L.flatMap opC).length = n * 2 := by rw [flat_len opK.len, hl1]
  have hov : ∀ lb cb, (callFunc 21 #[.slice (some ⟨b, 0, none⟩) 1 1, .slice (some ⟨g, (i + 1) * 2, none⟩) lb cb]).run Try.prog w = .ok (.value (.bool false)) w := fun lb cb => by
    rw [run_callFunc_extern Try.func21 (by kernel_rfl) (by kernel_rfl) (by kernel_rfl) (e := Extern.SlicesOverlaps.overlaps #[22, 22] #[4]) (by kernel_rfl),
      Lib.run_overlaps_apart w 22 4 36 Try.underlying22 2 Try.sizeOf36 ⟨b, 0, none⟩ ⟨g, (i + 1) * 2, none⟩ 1 1 lb cb hbg 36 36 2 (c * 2) (by unfold Box at hxb; simp [World.shape?, hxb, opC]) (by simp [World.shape?, hg, hcl]) (by omega) (hxb.free 0) (hxb.free 2)]
    rfl
  have hX : (opC x).length = 2 := rfl
  have hdr : ((L.flatMap opC).drop (i * 2)) = (L.drop i).flatMap opC := (flat_drop opK.len L i).symm
  have holds : (L.flatMap opC).take (i * 2) = (L.take i).flatMap opC := (flat_take opK.len L i).symm
  have hdl : ((L.flatMap opC).drop (i * 2)).length = (n - i) * 2 := by rw [List.length_drop, hFl, Nat.sub_mul]
  have Hsrc : Hid (∀ j u, ((L.flatMap opC).drop (i * 2))[j]? = some u → w.drew.cell? ((⟨g, i * 2, none⟩ : Addr).add j) = some u) := fun j u hu => by
    obtain ⟨ad, e, hc⟩ := hrd.2 (by omega)
    injection e with e
    subst e
    have := hc (i * 2 + j) u (by rw [← hu, List.getElem?_drop])
    rw [show (⟨g, i * 2, none⟩ : Addr).add j = (⟨g, 0, none⟩ : Addr).add (i * 2 + j) by unfold Addr.add; split <;> split <;> simp_all <;> omega]
    exact this
  have hik : (i + 1) * 2 = i * 2 + 2 := by omega
  have hmn : Nat.min (n + 1 - i) (n - i) = n - i := Nat.min_eq_right (by omega)
  have hmx : Nat.min 1 (n + 1 - i) = 1 := Nat.min_eq_left (by omega)
  have hft : cur.take (i * 2) = (L.flatMap opC).take (i * 2) := by rw [← htk, List.take_take, Nat.min_eq_left (by omega)]
  have hsl : (splice cur ((i + 1) * 2) ((L.flatMap opC).drop (i * 2))).length = c * 2 := by rw [splice_len (by rw [hcl, hdl]; omega), hcl]
  have Hend : Hid (((splice (splice cur ((i + 1) * 2) ((L.flatMap opC).drop (i * 2))) (i * 2) (opC x)).take ((n + 1) * 2)) = (L.take i ++ x :: L.drop i).flatMap opC) := by
    have := (splice_in (cur := cur) (F := L.flatMap opC) (k := i * 2) hX (by omega) hFl (by rw [hcl]; omega) hft).1
    show _ = _
    rw [hik, show (n + 1) * 2 = n * 2 + 2 by omega, this, List.flatMap_append, List.flatMap_cons, holds, hdr, List.append_assoc]
  have Hfin : Hid (∀ w3 : World, w3.heap[g]? = some (.cells (splice (splice cur ((i + 1) * 2) ((L.flatMap opC).drop (i * 2))) (i * 2) (opC x)).toArray 36 (0, 0)) → OwG opC 2 w3 B 36 (.slice (some ⟨g, 0, none⟩) (n + 1) c) (L.take i ++ x :: L.drop i)) := fun w3 h3 =>
    OwG.ofRow (cap := c) opK.len hBg h3 (by rw [splice_len (by rw [hsl, hX]; omega), hsl]) (by rw [List.length_append, List.length_cons, List.length_take, List.length_drop, ← hl1]; omega) hroom hcm Hend.out
  have Hg : Hid (w.drew.heap[g]? = some (.cells cur.toArray 36 (0, 0))) := hg
  have Hxb : Hid (Box w.drew b 36 (opC x)) := hxb
  have hB0 : Below B w w.drew := (Below.refl B w).drew
  have hcl' := Lib.hid hcl
  have hdl' := Lib.hid hdl
  have hsl' := Lib.hid hsl
  have hgl := Lib.hid (lt_of_block hg)
  have hmn' := Lib.hid hmn
  have hmx' := Lib.hid hmx
  clear hik hmn hmx hl1 hrd ho hg hcl hcm htk hFl hdr holds hft Hend hX hxb hdl hsl
  have hw1 : IntKind.i64.wrap ((i : Int) + 1) = (i : Int) + 1 := by rw [IntKind.wrap_i64]; omega
  have hb1 : (0 : Int) ≤ (i : Int) + 1 := by omega
  have htn : ((i : Int) + 1).toNat = i + 1 := by omega
  have hb2 : ¬ c = i + 1 := by omega
  have hb3 : (i : Int) ≤ (n : Int) := by omega
  have hb4 : ¬ c = i := by omega
  have hb5 : (i : Int) ≤ (n : Int) + 1 := by omega
  have hb6 : n + 1 - (i + 1) = n - i := by omega
  go_enter Try.func16, Try.ntmps16
  go_wp2_with (simp only [hov])
  refine wp_region_F 8 (w.heap.size) (by kernel_rfl) ?_
  refine wpAnyF_pure (i := 0) (oi := { dst := some 69, op := Op.move (Go.Operand.tmp 0), type := 22, pos := "slices.go:178", after := #[], guard := none }) (v := ?v9) rfl (by kernel_rfl) (by kernel_rfl) (by kernel_rfl) (fun _ _ _ h => h) (Or.inl ⟨by rfl, ?hy9⟩) ?rs9
  case hy9 => (intro W hW; go_simp; try with_reducible rfl)
  try simp only [Act.put, List.setIfInBounds_toArray, List.set_cons_zero, List.set_cons_succ]
  refine wpAnyF_pure (i := 1) (oi := { dst := some 70, op := Op.move (Go.Operand.tmp 1), type := 3, pos := "slices.go:178", after := #[], guard := none }) (v := ?v10) rfl (by kernel_rfl) (by kernel_rfl) (by kernel_rfl) (fun _ _ _ h => h) (Or.inl ⟨by rfl, ?hy10⟩) ?rs10
  case hy10 => (intro W hW; go_simp; try with_reducible rfl)
  try simp only [Act.put, List.setIfInBounds_toArray, List.set_cons_zero, List.set_cons_succ]
  refine wpAnyF_pure (i := 2) (oi := { dst := some 71, op := Op.move (Go.Operand.tmp 7), type := 3, pos := "slices.go:178", after := #[], guard := none }) (v := ?v11) rfl (by kernel_rfl) (by kernel_rfl) (by kernel_rfl) (fun _ _ _ h => h) (Or.inl ⟨by rfl, ?hy11⟩) ?rs11
  case hy11 => (intro W hW; go_simp; try with_reducible rfl)
  try simp only [Act.put, List.setIfInBounds_toArray, List.set_cons_zero, List.set_cons_succ]
  refine wpAnyF_pure (i := 3) (oi := { dst := some 72, op := Op.binOp Go.BinOp.add 3 (Go.Operand.tmp 70) (Go.Operand.tmp 71) 3, type := 3, pos := "slices.go:178", after := #[{ on := 1, ground := Ground.data }, { on := 2, ground := Ground.data }], guard := none }) (v := ?v12) rfl (by kernel_rfl) (by kernel_rfl) (by kernel_rfl) (fun _ _ _ h => h) (Or.inl ⟨by rfl, ?hy12⟩) ?rs12
  case hy12 => (intro W hW; go_simp; try with_reducible rfl)
  try simp only [Act.put, List.setIfInBounds_toArray, List.set_cons_zero, List.set_cons_succ]
  refine wpAnyF_pure (i := 4) (oi := { dst := some 73, op := Op.slice 22 (Go.Operand.tmp 69) (some (Go.Operand.tmp 72)) none none, type := 22, pos := "slices.go:178", after := #[{ on := 0, ground := Ground.data }, { on := 3, ground := Ground.data }], guard := none }) (v := ?v13) rfl (by kernel_rfl) (by kernel_rfl) (by kernel_rfl) (fun _ _ _ h => h) (Or.inl ⟨by rfl, ?hy13⟩) ?rs13
  case hy13 => (intro W hW; have g1 := hf1 W; go_simp; try with_reducible rfl)
  try simp only [Act.put, List.setIfInBounds_toArray, List.set_cons_zero, List.set_cons_succ]
  refine wpAnyF_pure (i := 5) (oi := { dst := some 74, op := Op.move (Go.Operand.tmp 0), type := 22, pos := "slices.go:178", after := #[], guard := none }) (v := ?v14) rfl (by kernel_rfl) (by kernel_rfl) (by kernel_rfl) (fun _ _ _ h => h) (Or.inl ⟨by rfl, ?hy14⟩) ?rs14
  case hy14 => (intro W hW; go_simp; try with_reducible rfl)
  try simp only [Act.put, List.setIfInBounds_toArray, List.set_cons_zero, List.set_cons_succ]
  refine wpAnyF_pure (i := 6) (oi := { dst := some 75, op := Op.move (Go.Operand.tmp 1), type := 3, pos := "slices.go:178", after := #[], guard := none }) (v := ?v15) rfl (by kernel_rfl) (by kernel_rfl) (by kernel_rfl) (fun _ _ _ h => h) (Or.inl ⟨by rfl, ?hy15⟩) ?rs15
  case hy15 => (intro W hW; go_simp; try with_reducible rfl)
  try simp only [Act.put, List.setIfInBounds_toArray, List.set_cons_zero, List.set_cons_succ]
  refine wpAnyF_pure (i := 7) (oi := { dst := some 76, op := Op.slice 22 (Go.Operand.tmp 74) (some (Go.Operand.tmp 75)) none none, type := 22, pos := "slices.go:178", after := #[{ on := 5, ground := Ground.data }, { on := 6, ground := Ground.data }], guard := none }) (v := ?v16) rfl (by kernel_rfl) (by kernel_rfl) (by kernel_rfl) (fun _ _ _ h => h) (Or.inl ⟨by rfl, ?hy16⟩) ?rs16
  case hy16 => (intro W hW; have g1 := hf2 W; go_simp; try with_reducible rfl)
  try simp only [Act.put, List.setIfInBounds_toArray, List.set_cons_zero, List.set_cons_succ]
  refine wpAnyF_last (i := 8) (o := { dst := some 77, op := Op.call { callee := Callee.builtin Builtin.copy, args := #[Go.Operand.tmp 73, Go.Operand.tmp 76], argTypes := #[22, 22] }, type := 3, pos := "slices.go:178", after := #[{ on := 4, ground := Ground.data }, { on := 7, ground := Ground.data }], guard := none }) (by kernel_rfl) rfl (by decide) (fun K hK => ?_)
  rw [if_pos (by rfl)]
  refine wp_copyG elOp rfl g ((i + 1) * 2) ⟨g, i * 2, none⟩ (n - i) (c - (i + 1)) (n + 1 - i) (c - i) rfl rfl cur Hg.out ((L.flatMap opC).drop (i * 2)) (by rw [hdl'.out, hmn'.out]) Hsrc.out (by rw [hdl'.out, hcl'.out]; omega) (fun u hu => one_flat opK L u (List.mem_of_mem_drop hu)) ?_; intro w3 hg3 hgr3; have Hg3 := Lib.hid hg3; have hB3 := below_grown hB0 hgr3 hBg (by simp; omega); have hl3 := hgr3.size; have Hx3 := Lib.hid (Hxb.out.grown hgr3 (fun e => hbg (by injection e))); clear hg3 hgr3
  refine hK.out _ _ ?_
  clear hK K
  try simp only [Act.put, List.setIfInBounds_toArray, List.set_cons_zero, List.set_cons_succ]
  refine wpAnyF_done (by kernel_rfl) ?_
  have Hsx : Hid (∀ j u, (opC x)[j]? = some u → w3.cell? ((⟨b, 0, none⟩ : Addr).add j) = some u) := fun j u hu => by
    have e : (⟨b, 0, none⟩ : Addr).add j = ⟨b, j, none⟩ := by unfold Addr.add; split <;> simp_all
    rw [e]
    exact Hx3.out.cell j hu
  go_wp2_with (refine wpList_copyG elOp rfl (d := .tmp 80) (s := .tmp 81) rfl g (i * 2) ⟨b, 0, none⟩ (n + 1 - i) (c - i) 1 1 rfl rfl _ Hg3.out (opC x) (by rw [hmx'.out]; rfl) Hsx.out (by rw [hsl'.out]; show i * 2 + 2 ≤ _; omega) (opK.one x) ?_; intro w4 hg4 hgr4; have HO := Lib.hid (Hfin.out w4 hg4); have hB4 := below_grown hB3 hgr4 hBg (by have := hgl.out; simp at hl3; omega); clear hg4 hgr4)
  go_ret
  exact ⟨_, rfl, HO.out, hB4⟩
/-- slices.Insert of one operation, wherever. -/
theorem InsertOp_any (v : Value) (L : List EvO) (x : EvO) (i b B : Nat) (w : World) (ho : OwG opC 2 w B 36 v L) (hB : B ≤ w.heap.size) (hi : i ≤ L.length) (hxb : Box w b 36 (opC x)) (hbv : ∀ k, v.ownBlock = some k → b ≠ k) (hn : L.length < 8796093022208) :
    Calls Try.prog 16 #[v, .int .i64 (i : Int), .slice (some ⟨b, 0, none⟩) 1 1] w (GivesOps B (L.take i ++ x :: L.drop i) w) := by
  have hx : RdG opC 2 w (some ⟨b, 0, none⟩) 1 [x] := ⟨rfl, fun _ => ⟨_, rfl, fun j u hu => by
    have e : (⟨b, 0, none⟩ : Addr).add j = ⟨b, j, none⟩ := by unfold Addr.add; split <;> simp_all
    rw [e]
    exact hxb.cell j (by simpa using hu)⟩⟩
  rcases Nat.lt_or_ge i L.length with h | h
  · obtain ⟨g, c, rfl, hbg, hc, hcm⟩ := ho.head (by omega)
    rcases Nat.lt_or_ge L.length c with h2 | h2
    · exact insert_room g L.length c L x i b B w ho hB h h2 hxb (hbv g rfl) hn
    · obtain rfl : c = L.length := by omega
      exact insert_grow g L.length L x i b B w ho hB h hx hn
  · obtain rfl : i = L.length := by omega
    rw [List.take_length, List.drop_length]
    obtain ⟨A, c, rfl, -, -, -⟩ := ho.formN (n := L.length) rfl
    exact insert_end A L.length c L x b B w ho hB hx hn
end Go.Proofs.Ytlanmehbcpgoaaa
