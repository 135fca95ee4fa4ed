/-
  The walk of GuardBabble: it returns true, at every argument.
-/
import Derived.Test.YtgngpcailjocoaaGuardLaws2
import Derived.Test.YtgngpcailjocoaaRegionH
import Derived.Test.YtgngpcailjocoaaRegionP
namespace Go.Proofs.Ytgngpcailjocoaa
open Go.RowKit
set_option linter.unusedVariables false

/-- The transmission of the round, in its own block, and the bool at its place. -/
def Seen (bx : Nat) (nd fr lg : Int) (ad : Addr) (k : Nat) (v : Bool) (W : World) : Prop :=
  W.cell? ⟨bx, 0, none⟩ = some (.int .i64 nd) ∧ W.cell? ⟨bx, 1, none⟩ = some (.int .i64 fr) ∧ W.cell? ⟨bx, 2, none⟩ = some (.int .i64 lg) ∧ W.cell? (ad.add k) = some (.bool v)
/-- Two slices of the call's own that grow in turn, apart from each other and from two blocks that are read. -/
structure Two (w2 w : World) (B : Nat) (b1 b2 : Nat) (vc vw : Value) (C : List Slt) (D : List Bool) : Prop where
  c : OwS w w2.heap.size 30 vc C
  d : Ow Value.bool w w2.heap.size 4 vw D
  ap : ∀ k, vc.ownBlock = some k → vw.ownBlock ≠ some k
  nc : ∀ k, vc.ownBlock = some k → k ≠ b1 ∧ k ≠ b2
  nd : ∀ k, vw.ownBlock = some k → k ≠ b1 ∧ k ≠ b2
  sz : B ≤ w.heap.size
  l1 : b1 < B
  l2 : b2 < B
  bl : Below w2.heap.size w2 w
section
variable {w2 w w' : World} {B b1 b2 : Nat} {vc vw v' : Value} {C C' : List Slt} {D D' : List Bool}
theorem Seen.alloc {bx : Nat} {nd fr lg : Int} {ad : Addr} {k : Nat} {v : Bool} (h : Seen bx nd fr lg ad k v w) (o : Obj) : Seen bx nd fr lg ad k v (w.alloc o) := by
  obtain ⟨h0, h1, h2, h3⟩ := h
  exact ⟨((below_one o).cell (World.block_lt_of_cell? _ _ h0)).trans h0, ((below_one o).cell (World.block_lt_of_cell? _ _ h1)).trans h1, ((below_one o).cell (World.block_lt_of_cell? _ _ h2)).trans h2, ((below_one o).cell (World.block_lt_of_cell? _ _ h3)).trans h3⟩
theorem Seen.grown {bx : Nat} {nd fr lg : Int} {ad : Addr} {k : Nat} {v : Bool} {row : Option Nat} (h : Seen bx nd fr lg ad k v w) (hg : w.grownBy w' row) (hne : ∀ j, row = some j → j ≠ bx ∧ j ≠ ad.block) : Seen bx nd fr lg ad k v w' := by
  obtain ⟨h0, h1, h2, h3⟩ := h
  have e1 : some bx ≠ row := fun e => (hne bx e.symm).1 rfl
  have e2 : some (ad.add k).block ≠ row := fun e => by rw [ad_block] at e; exact (hne _ e.symm).2 rfl
  exact ⟨(hg.cell_far _ (World.block_lt_of_cell? _ _ h0) e1).trans h0, (hg.cell_far _ (World.block_lt_of_cell? _ _ h1) e1).trans h1, (hg.cell_far _ (World.block_lt_of_cell? _ _ h2) e1).trans h2, (hg.cell_far _ (World.block_lt_of_cell? _ _ h3) e2).trans h3⟩
theorem Two.alloc (h : Two w2 w B b1 b2 vc vw C D) (o : Obj) : Two w2 (w.alloc o) B b1 b2 vc vw C D :=
  ⟨h.c.alloc o, h.d.alloc o, h.ap, h.nc, h.nd, le_alloc h.sz, h.l1, h.l2, h.bl.alloc h.bl.size o⟩
theorem Two.growC (h : Two w2 w B b1 b2 vc vw C D) (hc : OwS w' w2.heap.size 30 v' C') (hm : Moves w w' vc v') : Two w2 w' B b1 b2 v' vw C' D := by
  refine ⟨hc, h.d.moves hm (fun k hk e => h.ap k e hk), fun k hk hv => ?_, fun k hk => ?_, h.nd, Nat.le_trans h.sz hm.1.size, h.l1, h.l2, hm.below h.bl h.bl.size h.c.block⟩
  · rcases hm.2 with e | e
    · exact h.ap k (by rw [← e]; exact hk) hv
    · have := e k hk
      have := h.d.inHeap k hv
      omega
  · rcases hm.2 with e | e
    · exact h.nc k (by rw [← e]; exact hk)
    · have := e k hk
      have := h.sz
      have := h.l1
      have := h.l2
      exact ⟨by omega, by omega⟩
theorem Two.growD (h : Two w2 w B b1 b2 vc vw C D) (hd : Ow Value.bool w' w2.heap.size 4 v' D') (hm : Moves w w' vw v') : Two w2 w' B b1 b2 vc v' C D' := by
  refine ⟨h.c.moves hm (fun k hk e => h.ap k hk e), hd, fun k hk hv => ?_, h.nc, fun k hk => ?_, Nat.le_trans h.sz hm.1.size, h.l1, h.l2, hm.below h.bl h.bl.size h.d.block⟩
  · rcases hm.2 with e | e
    · exact h.ap k hk (by rw [← e]; exact hv)
    · have := e k hv
      have := h.c.inHeap k hk
      omega
  · rcases hm.2 with e | e
    · exact h.nd k (by rw [← e]; exact hk)
    · have := e k hk
      have := h.sz
      have := h.l1
      have := h.l2
      exact ⟨by omega, by omega⟩
/-- A literal that was laid since B stays where a slice that lay there before grows. -/
theorem Rd.litKept {sz n b : Nat} {xs : List Value} (h : Rd w sz (some ⟨b, 0, none⟩) n xs ∧ B ≤ b) {v : Value} (hm : Moves w w' v v') (hv : ∀ k, v.ownBlock = some k → k < B) : Rd w' sz (some ⟨b, 0, none⟩) n xs ∧ B ≤ b :=
  ⟨h.1.grown hm.1 (fun ad e he => by injection e with e; subst e; have := hv _ he.symm; have := h.2; simp only at *; omega), h.2⟩
theorem Two.litC (h : Two w2 w B b1 b2 vc vw C D) (nd fr lg : Int) : RdS (w.alloc (.cells #[.int .i64 nd, .int .i64 fr, .int .i64 lg] 30)) (some ⟨w.heap.size, 0, none⟩) 1 [⟨nd, fr, lg⟩] ∧ B ≤ w.heap.size := ⟨Rd.litFlat slotC_len [(⟨nd, fr, lg⟩ : Slt)] _ rfl, h.sz⟩
theorem Two.litD (h : Two w2 w B b1 b2 vc vw C D) (x : Bool) : Rd (w.alloc (.cells #[.bool x] 4)) 1 (some ⟨w.heap.size, 0, none⟩) 1 ([x].map Value.bool) ∧ B ≤ w.heap.size := ⟨Rd.litAt Value.bool [x] _ rfl, h.sz⟩
end
theorem Rd.addr {w : World} {sz n b b' : Nat} {xs : List Value} (e : b = b') (h : Rd w sz (some ⟨b, 0, none⟩) n xs) : Rd w sz (some ⟨b', 0, none⟩) n xs := e ▸ h
theorem calm_ok {P : Int} {L T : List Slt} (h : checkG P L T = 0) (p : Slt → Bool) : checkG P L (T.filter p) = 0 := by
  obtain ⟨h1, h2, h3⟩ := checkG_zero.1 h
  exact checkG_zero.2 ⟨h1, Nat.le_trans (List.length_filter_le _ _) h2, fun t ht => h3 t (List.mem_filter.1 ht).1⟩

set_option maxHeartbeats 3200000 in
theorem GuardBabble_walk (a0 : Int) (A1 : Option Addr) (n1 c1 : Nat) (l1 : List Slt) (A2 : Option Addr) (n2 c2 : Nat) (l2 : List Slt) (a3 : Int) (w : World) (w0 : (Lit.int .i64 a0).wf = true) (h1 : RdS w A1 n1 l1) (q1 : ∀ s ∈ l1, s.Ok) (k1 : n1 ≤ c1) (b1 : c1 * 24 ≤ 140737488351232)
    (h2 : RdS w A2 n2 l2) (q2 : ∀ s ∈ l2, s.Ok) (k2 : n2 ≤ c2) (b2 : c2 * 24 ≤ 140737488351232) (w3 : (Lit.int .i64 a3).wf = true) :
    Calls Try.prog 4 #[.int .i64 a0, .slice A1 n1 c1, .slice A2 n2 c2, .int .i64 a3] w fun e w' => e = .returned (.bool true) ∧ Below w.heap.size w w' := by
  have p0 := in64_wf w0
  have hn : n1 ≤ 140737488355328 := by omega
  have hm : n2 ≤ 140737488355328 := by omega
  clear w0 w3
  have C0 := Lib.hid (alive14_any w)
  have C1 := Lib.hid (fun (W : World) (hb : Below w.heap.size w W) => Heard_any a0 p0 A1 n1 c1 l1 A2 n2 c2 l2 W (h1.below hb) q1 hn (h2.below hb) hm)
  have Hl := Lib.hid h2.lenS
  rcases heard_cases a0 l1 l2 with ⟨x, hx, e1, e2⟩ | ⟨e1, e2⟩
  · rw [e1, e2] at C1
    have hxx : (x != 0) = true := by simpa using hx
    clear e1 e2
    go_enter Try.func4, Try.ntmps4
    go_wp2_with fail
    refine C0.out.mono ?_
    rintro e w1 ⟨rfl, hb1⟩
    go_wp2_with fail
    refine (C1.out w1 hb1).mono ?_
    rintro e w2 ⟨v2, rfl, ho2, hb2⟩
    obtain ⟨A9, c9, rfl, -, -, -⟩ := ho2.formN (n := 0) rfl
    go_wp2
    go_ret
    exact ⟨rfl, bthen hb1 hb2⟩
  · rw [e1, e2] at C1
    obtain ⟨hR, hlen, hok⟩ := checkG_zero.1 e1
    rw [Hl.out] at hlen
    obtain ⟨p, hp⟩ : ∃ p : Slt → Bool, p = fun t => t.nd != a3 := ⟨_, rfl⟩
    have Hp : Hid (∀ t, p t = (t.nd != a3)) := fun t => by rw [hp]
    have Hcalm : Hid (heardM a0 l1 (l2.filter p) = (l2.filter p).map (heardV a0 l1 l2)) := by show _ = _; rw [hp]; exact heard_calm hR hok a3
    have Hz := Lib.hid (calm_ok e1 p)
    have Hlen : Hid ((heardM a0 l1 l2).length = n2) := by show _ = _; rw [heard_len, Hl.out]
    have Hat : Hid (∀ (k : Nat) t, l2[k]? = some t → (heardM a0 l1 l2)[k]? = some (heardV a0 l1 l2 t)) := fun k t h => by rw [heardM, List.getElem?_map, h]; rfl
    obtain ⟨hv, Hhv⟩ : ∃ hv : Slt → Bool, Hid (hv = heardV a0 l1 l2) := ⟨_, rfl⟩
    rw [← Hhv.out] at Hcalm Hat
    have Hbnd : Hid (∀ k, ((l2.take k).filter p).length ≤ 400) := fun k => Nat.le_trans (List.length_filter_le _ _) (by rw [List.length_take, Hl.out]; omega)
    have C3 := Lib.hid (fun (W : World) (hb : Below w.heap.size w W) (A : Option Addr) (m c : Nat) (h : RdS W A m (l2.filter p)) (hm : m ≤ 400) => Heard_any a0 p0 A1 n1 c1 l1 A m c (l2.filter p) W (h1.below hb) q1 hn h (by omega))
    rw [heardR_ok Hz.out, Hz.out, Hcalm.out] at C3
    clear e1 e2 hR hok Hcalm Hz hp Hhv
    go_enter Try.func4, Try.ntmps4
    go_wp2_with fail
    refine C0.out.mono ?_
    rintro e w1 ⟨rfl, hb1⟩
    go_wp2_with fail
    refine (C1.out w1 hb1).mono ?_
    rintro e w2 ⟨v2, rfl, ho2, hb2⟩
    obtain ⟨A9, c9, rfl, -, -, hr9⟩ := ho2.formN Hlen.out
    have hB2 := bthen hb1 hb2
    clear ho2 hb1 hb2 C0 C1
    go_wp2
    go_loopw [11, 12, 44] (fun vc vw i wr => ∃ k : Nat, k ≤ n2 ∧ i = .int .i64 k ∧ OwS wr w2.heap.size 30 vc ((l2.take k).filter p) ∧ Ow Value.bool wr w2.heap.size 4 vw (((l2.take k).filter p).map hv) ∧ (∀ j, vc.ownBlock = some j → vw.ownBlock ≠ some j) ∧ Below w2.heap.size w2 wr) (fun _ _ i _ => n2 - (intOf i).toNat)
    case atStart => exact ⟨0, Nat.zero_le _, rfl, OwS.nil _ _ _, Ow.nil _ _ _ _, by simp [Value.ownBlock], Below.refl _ _⟩
    case round =>
      obtain ⟨k, hk, rfl, hoc, hod, hap, hbl⟩ := hrel
      by_cases hlt : k < n2
      · obtain ⟨ad, nd, fr, lg, rfl, hx, hc0, hc1, hc2⟩ := (h2.below (bthen hB2 hbl)).atS hlt
        by_cases hnd : nd = a3
        · have Hf : Hid ((l2.take (k + 1)).filter p = (l2.take k).filter p) := by show _ = _; rw [filter_snoc p hx, Hp.out]; simp [hnd]
          have hne : (nd != a3) = false := by simp [hnd]
          clear hx hnd
          go_wp2
          go_roundw
          case rel => exact ⟨k + 1, by omega, by go_num, by rw [Hf.out]; exact hoc.alloc _, by rw [Hf.out]; exact hod.alloc _, hap, hbl.alloc hbl.size _⟩
          case measure => simp [intOf] <;> omega
        · have Hf : Hid ((l2.take (k + 1)).filter p = (l2.take k).filter p ++ [⟨nd, fr, lg⟩]) := by show _ = _; rw [filter_snoc p hx, Hp.out]; simp [hnd]
          have hne : (nd != a3) = true := by simp [hnd]
          obtain ⟨ad9, va, rfl, hva, hca⟩ := (hr9.below hbl).atMap hlt
          have Hva : Hid (va = hv ⟨nd, fr, lg⟩) := by
            show _ = _
            rw [Hat.out k _ hx] at hva
            injection hva with hva; exact hva.symm
          have h9lt : ad9.block < w2.heap.size := by
            obtain ⟨ad', u, e', hu, hc'⟩ := hr9.atMap hlt
            injection e' with e'
            subst e'
            have := World.block_lt_of_cell? _ _ hc'
            rwa [ad_block] at this
          have hlc := Hbnd.out k
          have hld : (((l2.take k).filter p).map hv).length ≤ 400 := by rw [List.length_map]; exact hlc
          have Hf2 : Hid (((l2.take (k + 1)).filter p).map hv = ((l2.take k).filter p).map hv ++ [va]) := by show _ = _; rw [Hf.out, List.map_append, Hva.out]; rfl
          clear hx hnd hva Hva
          generalize ((l2.take k).filter p).map hv = Dk at *
          generalize (l2.take k).filter p = Ck at *
          have hst : Two w2 (wr.alloc (.cells #[.int .i64 nd, .int .i64 fr, .int .i64 lg] 30)).drew (wr.heap.size + 1) wr.heap.size ad9.block u11 u12 Ck Dk := by
            have hs9 := hbl.size
            refine ⟨hoc.alloc _, hod.alloc _, hap, fun j hj => ?_, fun j hj => ?_, by simp, by omega, by omega, (hbl.alloc hbl.size _).drew⟩
            · have := hoc.block j hj; have := hoc.inHeap j hj; exact ⟨by omega, by omega⟩
            · have := hod.block j hj; have := hod.inHeap j hj; exact ⟨by omega, by omega⟩
          have hS : Seen wr.heap.size nd fr lg ad9 k va (wr.alloc (.cells #[.int .i64 nd, .int .i64 fr, .int .i64 lg] 30)).drew := by
            have hx := Box.new wr 30 [.int .i64 nd, .int .i64 fr, .int .i64 lg]
            exact ⟨hx.cell 0 rfl, hx.cell 1 rfl, hx.cell 2 rfl, ((below_one _).cell (World.block_lt_of_cell? _ _ hca)).trans hca⟩
          have hcB : ∀ j, u11.ownBlock = some j → j < wr.heap.size + 1 := fun j hj => by have := hoc.inHeap j hj; omega
          have hdB : ∀ j, u12.ownBlock = some j → j < wr.heap.size + 1 := fun j hj => by have := hod.inHeap j hj; omega
          go_upto_region 12 with fail
          clear hc0 hc1 hc2 hca hoc hod hap
          refine wp_region_S (Seen wr.heap.size nd fr lg ad9 k va) (by kernel_rfl) hS ?_
          refine wpAnyS_take (i := 0) (oi := { dst := some 53, op := Op.move (Go.Operand.tmp 11), type := 23, pos := "guard.go:32", after := #[], guard := none }) (v := ?v1) rfl (by kernel_rfl) (by kernel_rfl) (by kernel_rfl) (fun _ _ _ h => h) (Or.inl ⟨by rfl, ?hy1⟩) hS ?rs1
          case hy1 => (intro W hW; go_simp; try with_reducible rfl)
          try simp only [Act.put, List.setIfInBounds_toArray, List.set_cons_zero, List.set_cons_succ]
          refine wpAnyS_take (i := 1) (oi := { dst := some 54, op := Op.load 30 (Go.Operand.tmp 14), type := 30, pos := "guard.go:32", after := #[], guard := none }) (v := ?v2) rfl (by kernel_rfl) (by kernel_rfl) (by kernel_rfl) (fun _ _ _ h => h) (Or.inl ⟨by rfl, ?hy2⟩) hS ?rs2
          case hy2 => (intro W hW; obtain ⟨g0, g1, g2, g3⟩ := hW; go_simp; try with_reducible rfl)
          try simp only [Act.put, List.setIfInBounds_toArray, List.set_cons_zero, List.set_cons_succ]
          refine wpAnyS_take (i := 4) (oi := { dst := some 57, op := Op.move (Go.Operand.tmp 12), type := 24, pos := "guard.go:32", after := #[], guard := none }) (v := ?v3) rfl (by kernel_rfl) (by kernel_rfl) (by kernel_rfl) (fun _ _ _ h => h) (Or.inl ⟨by rfl, ?hy3⟩) hS ?rs3
          case hy3 => (intro W hW; go_simp; try with_reducible rfl)
          try simp only [Act.put, List.setIfInBounds_toArray, List.set_cons_zero, List.set_cons_succ]
          refine wpAnyS_take (i := 5) (oi := { dst := some 58, op := Op.move (Go.Operand.tmp 9), type := 24, pos := "guard.go:32", after := #[], guard := none }) (v := ?v4) rfl (by kernel_rfl) (by kernel_rfl) (by kernel_rfl) (fun _ _ _ h => h) (Or.inl ⟨by rfl, ?hy4⟩) hS ?rs4
          case hy4 => (intro W hW; go_simp; try with_reducible rfl)
          try simp only [Act.put, List.setIfInBounds_toArray, List.set_cons_zero, List.set_cons_succ]
          refine wpAnyS_take (i := 6) (oi := { dst := some 59, op := Op.move (Go.Operand.tmp 13), type := 3, pos := "guard.go:32", after := #[], guard := none }) (v := ?v5) rfl (by kernel_rfl) (by kernel_rfl) (by kernel_rfl) (fun _ _ _ h => h) (Or.inl ⟨by rfl, ?hy5⟩) hS ?rs5
          case hy5 => (intro W hW; go_simp; try with_reducible rfl)
          try simp only [Act.put, List.setIfInBounds_toArray, List.set_cons_zero, List.set_cons_succ]
          refine wpAnyS_take (i := 7) (oi := { dst := some 60, op := Op.indexAddr 24 (Go.Operand.tmp 58) (Go.Operand.tmp 59), type := 0, pos := "guard.go:32", after := #[{ on := 5, ground := Ground.data }, { on := 6, ground := Ground.data }], guard := none }) (v := ?v6) rfl (by kernel_rfl) (by kernel_rfl) (by kernel_rfl) (fun _ _ _ h => h) (Or.inl ⟨by rfl, ?hy6⟩) hS ?rs6
          case hy6 => (intro W hW; go_simp; try with_reducible rfl)
          try simp only [Act.put, List.setIfInBounds_toArray, List.set_cons_zero, List.set_cons_succ]
          refine wpAnyS_take (i := 8) (oi := { dst := some 61, op := Op.load 4 (Go.Operand.tmp 60), type := 4, pos := "guard.go:32", after := #[{ on := 7, ground := Ground.data }], guard := none }) (v := ?v7) rfl (by kernel_rfl) (by kernel_rfl) (by kernel_rfl) (fun _ _ _ h => h) (Or.inl ⟨by rfl, ?hy7⟩) hS ?rs7
          case hy7 => (intro W hW; obtain ⟨g0, g1, g2, g3⟩ := hW; go_simp; try with_reducible rfl)
          try simp only [Act.put, List.setIfInBounds_toArray, List.set_cons_zero, List.set_cons_succ]
          refine wpAnyS_two (i := 2) (j := 9) (oi := { dst := some 55, op := Op.buildSlice 23 1 #[(0, Go.Operand.tmp 54)], type := 23, pos := "guard.go:32", after := #[{ on := 1, ground := Ground.data }], guard := none }) (oj := { dst := some 62, op := Op.buildSlice 24 1 #[(0, Go.Operand.tmp 61)], type := 24, pos := "guard.go:32", after := #[{ on := 8, ground := Ground.data }], guard := none }) (by kernel_rfl) rfl rfl (fun K hK => ?_) (fun K hK => ?_)
          go_simp
          have hl1 := hst.litC nd fr lg; replace hst := hst.alloc (.cells #[.int .i64 nd, .int .i64 fr, .int .i64 lg] 30); replace hS := hS.alloc (.cells #[.int .i64 nd, .int .i64 fr, .int .i64 lg] 30); (try replace hl2 := And.intro (hl2.1.alloc (.cells #[.int .i64 nd, .int .i64 fr, .int .i64 lg] 30)) hl2.2)
          refine hK.out _ _ hS ?_
          clear hK K
          try simp only [Act.put, List.setIfInBounds_toArray, List.set_cons_zero, List.set_cons_succ]
          refine wpAnyS_two (i := 3) (j := 9) (oi := { dst := some 56, op := Op.call { callee := Callee.builtin Builtin.append, args := #[Go.Operand.tmp 53, Go.Operand.tmp 55], argTypes := #[23, 23] }, type := 23, pos := "guard.go:32", after := #[{ on := 0, ground := Ground.data }, { on := 2, ground := Ground.data }], guard := none }) (oj := { dst := some 62, op := Op.buildSlice 24 1 #[(0, Go.Operand.tmp 61)], type := 24, pos := "guard.go:32", after := #[{ on := 8, ground := Ground.data }], guard := none }) (by kernel_rfl) rfl rfl (fun K hK => ?_) (fun K hK => ?_)
          rw [if_pos (by rfl)]
          refine wp_apS _ elTry rfl w2.heap.size u11 Ck rfl hst.c _ 1 1 [⟨nd, fr, lg⟩] rfl (Rd.addr (by first | (simp; done) | rfl) hl1.1) hst.bl.size (by omega) ?_; intro v1 w5 ho1 hm1; replace hS := hS.grown hm1.1 hst.nc; (try replace hl2 := Rd.litKept hl2 hm1 hcB); replace hst := hst.growC ho1 hm1
          refine hK.out _ _ hS ?_
          clear hK K
          try simp only [Act.put, List.setIfInBounds_toArray, List.set_cons_zero, List.set_cons_succ]
          refine wpAnyS_one (i := 9) (o := { dst := some 62, op := Op.buildSlice 24 1 #[(0, Go.Operand.tmp 61)], type := 24, pos := "guard.go:32", after := #[{ on := 8, ground := Ground.data }], guard := none }) (by kernel_rfl) rfl (fun K hK => ?_)
          go_simp
          have hl2 := hst.litD va; replace hst := hst.alloc (.cells #[.bool va] 4); replace hS := hS.alloc (.cells #[.bool va] 4); (try replace hl1 := And.intro (hl1.1.alloc (.cells #[.bool va] 4)) hl1.2)
          refine hK.out _ _ hS ?_
          clear hK K
          try simp only [Act.put, List.setIfInBounds_toArray, List.set_cons_zero, List.set_cons_succ]
          refine wpAnyS_one (i := 10) (o := { dst := some 63, op := Op.call { callee := Callee.builtin Builtin.append, args := #[Go.Operand.tmp 57, Go.Operand.tmp 62], argTypes := #[24, 24] }, type := 24, pos := "guard.go:32", after := #[{ on := 4, ground := Ground.data }, { on := 9, ground := Ground.data }, { on := 3, ground := Ground.chain }], guard := none }) (by kernel_rfl) rfl (fun K hK => ?_)
          rw [if_pos (by rfl)]
          refine wp_apW Value.bool _ elBool rfl one_bool w2.heap.size u12 Dk rfl hst.d _ 1 1 [va] rfl (Rd.addr (by first | (simp; done) | rfl) hl2.1) hst.bl.size (by omega) (by decide) ?_; intro v2 w6 ho2 hm2; replace hS := hS.grown hm2.1 hst.nd; (try replace hl1 := Rd.litKept hl1 hm2 hdB); replace hst := hst.growD ho2 hm2
          refine hK.out _ _ hS ?_
          clear hK K
          try simp only [Act.put, List.setIfInBounds_toArray, List.set_cons_zero, List.set_cons_succ]
          refine wpAnyS_take (i := 11) (oi := { dst := some 11, op := Op.assign (Go.Operand.tmp 56), type := 23, pos := "guard.go:32", after := #[{ on := 3, ground := Ground.data }, { on := 10, ground := Ground.chain }, { on := 0, ground := Ground.phase }, { on := 1, ground := Ground.phase }, { on := 2, ground := Ground.phase }, { on := 3, ground := Ground.phase }, { on := 4, ground := Ground.textOnly Go.Departure.lateStores }, { on := 5, ground := Ground.textOnly Go.Departure.lateStores }, { on := 6, ground := Ground.textOnly Go.Departure.lateStores }, { on := 7, ground := Ground.textOnly Go.Departure.lateStores }, { on := 8, ground := Ground.textOnly Go.Departure.lateStores }, { on := 9, ground := Ground.textOnly Go.Departure.lateStores }, { on := 10, ground := Ground.textOnly Go.Departure.lateStoresUnsure }], guard := none }) (v := ?v8) rfl (by kernel_rfl) (by kernel_rfl) (by kernel_rfl) (fun _ _ _ h => h) (Or.inl ⟨by rfl, ?hy8⟩) hS ?rs8
          case hy8 => (intro W hW; go_simp; try with_reducible rfl)
          try simp only [Act.put, List.setIfInBounds_toArray, List.set_cons_zero, List.set_cons_succ]
          refine wpAnyS_take (i := 12) (oi := { dst := some 12, op := Op.assign (Go.Operand.tmp 63), type := 24, pos := "guard.go:32", after := #[{ on := 10, ground := Ground.data }, { on := 11, ground := Ground.chain }, { on := 0, ground := Ground.phase }, { on := 1, ground := Ground.phase }, { on := 2, ground := Ground.phase }, { on := 3, ground := Ground.phase }, { on := 4, ground := Ground.phase }, { on := 5, ground := Ground.phase }, { on := 6, ground := Ground.phase }, { on := 7, ground := Ground.phase }, { on := 8, ground := Ground.phase }, { on := 9, ground := Ground.phase }, { on := 10, ground := Ground.phase }, { on := 11, ground := Ground.phase }], guard := none }) (v := ?v9) rfl (by kernel_rfl) (by kernel_rfl) (by kernel_rfl) (fun _ _ _ h => h) (Or.inl ⟨by rfl, ?hy9⟩) hS ?rs9
          case hy9 => (intro W hW; go_simp; try with_reducible rfl)
          try simp only [Act.put, List.setIfInBounds_toArray, List.set_cons_zero, List.set_cons_succ]
          refine wpAnyS_done (by kernel_rfl) ?_
          rotate_left
          go_simp
          have hl2 := hst.litD va; replace hst := hst.alloc (.cells #[.bool va] 4); replace hS := hS.alloc (.cells #[.bool va] 4); (try replace hl1 := And.intro (hl1.1.alloc (.cells #[.bool va] 4)) hl1.2)
          refine hK.out _ _ hS ?_
          clear hK K
          try simp only [Act.put, List.setIfInBounds_toArray, List.set_cons_zero, List.set_cons_succ]
          refine wpAnyS_one (i := 3) (o := { dst := some 56, op := Op.call { callee := Callee.builtin Builtin.append, args := #[Go.Operand.tmp 53, Go.Operand.tmp 55], argTypes := #[23, 23] }, type := 23, pos := "guard.go:32", after := #[{ on := 0, ground := Ground.data }, { on := 2, ground := Ground.data }], guard := none }) (by kernel_rfl) rfl (fun K hK => ?_)
          rw [if_pos (by rfl)]
          refine wp_apS _ elTry rfl w2.heap.size u11 Ck rfl hst.c _ 1 1 [⟨nd, fr, lg⟩] rfl (Rd.addr (by first | (simp; done) | rfl) hl1.1) hst.bl.size (by omega) ?_; intro v1 w5 ho1 hm1; replace hS := hS.grown hm1.1 hst.nc; (try replace hl2 := Rd.litKept hl2 hm1 hcB); replace hst := hst.growC ho1 hm1
          refine hK.out _ _ hS ?_
          clear hK K
          try simp only [Act.put, List.setIfInBounds_toArray, List.set_cons_zero, List.set_cons_succ]
          refine wpAnyS_one (i := 10) (o := { dst := some 63, op := Op.call { callee := Callee.builtin Builtin.append, args := #[Go.Operand.tmp 57, Go.Operand.tmp 62], argTypes := #[24, 24] }, type := 24, pos := "guard.go:32", after := #[{ on := 4, ground := Ground.data }, { on := 9, ground := Ground.data }, { on := 3, ground := Ground.chain }], guard := none }) (by kernel_rfl) rfl (fun K hK => ?_)
          rw [if_pos (by rfl)]
          refine wp_apW Value.bool _ elBool rfl one_bool w2.heap.size u12 Dk rfl hst.d _ 1 1 [va] rfl (Rd.addr (by first | (simp; done) | rfl) hl2.1) hst.bl.size (by omega) (by decide) ?_; intro v2 w6 ho2 hm2; replace hS := hS.grown hm2.1 hst.nd; (try replace hl1 := Rd.litKept hl1 hm2 hdB); replace hst := hst.growD ho2 hm2
          refine hK.out _ _ hS ?_
          clear hK K
          try simp only [Act.put, List.setIfInBounds_toArray, List.set_cons_zero, List.set_cons_succ]
          refine wpAnyS_take (i := 11) (oi := { dst := some 11, op := Op.assign (Go.Operand.tmp 56), type := 23, pos := "guard.go:32", after := #[{ on := 3, ground := Ground.data }, { on := 10, ground := Ground.chain }, { on := 0, ground := Ground.phase }, { on := 1, ground := Ground.phase }, { on := 2, ground := Ground.phase }, { on := 3, ground := Ground.phase }, { on := 4, ground := Ground.textOnly Go.Departure.lateStores }, { on := 5, ground := Ground.textOnly Go.Departure.lateStores }, { on := 6, ground := Ground.textOnly Go.Departure.lateStores }, { on := 7, ground := Ground.textOnly Go.Departure.lateStores }, { on := 8, ground := Ground.textOnly Go.Departure.lateStores }, { on := 9, ground := Ground.textOnly Go.Departure.lateStores }, { on := 10, ground := Ground.textOnly Go.Departure.lateStoresUnsure }], guard := none }) (v := ?v10) rfl (by kernel_rfl) (by kernel_rfl) (by kernel_rfl) (fun _ _ _ h => h) (Or.inl ⟨by rfl, ?hy10⟩) hS ?rs10
          case hy10 => (intro W hW; go_simp; try with_reducible rfl)
          try simp only [Act.put, List.setIfInBounds_toArray, List.set_cons_zero, List.set_cons_succ]
          refine wpAnyS_take (i := 12) (oi := { dst := some 12, op := Op.assign (Go.Operand.tmp 63), type := 24, pos := "guard.go:32", after := #[{ on := 10, ground := Ground.data }, { on := 11, ground := Ground.chain }, { on := 0, ground := Ground.phase }, { on := 1, ground := Ground.phase }, { on := 2, ground := Ground.phase }, { on := 3, ground := Ground.phase }, { on := 4, ground := Ground.phase }, { on := 5, ground := Ground.phase }, { on := 6, ground := Ground.phase }, { on := 7, ground := Ground.phase }, { on := 8, ground := Ground.phase }, { on := 9, ground := Ground.phase }, { on := 10, ground := Ground.phase }, { on := 11, ground := Ground.phase }], guard := none }) (v := ?v11) rfl (by kernel_rfl) (by kernel_rfl) (by kernel_rfl) (fun _ _ _ h => h) (Or.inl ⟨by rfl, ?hy11⟩) hS ?rs11
          case hy11 => (intro W hW; go_simp; try with_reducible rfl)
          try simp only [Act.put, List.setIfInBounds_toArray, List.set_cons_zero, List.set_cons_succ]
          refine wpAnyS_done (by kernel_rfl) ?_
          rotate_left
          go_simp
          have hl2 := hst.litD va; replace hst := hst.alloc (.cells #[.bool va] 4); replace hS := hS.alloc (.cells #[.bool va] 4); (try replace hl1 := And.intro (hl1.1.alloc (.cells #[.bool va] 4)) hl1.2)
          refine hK.out _ _ hS ?_
          clear hK K
          try simp only [Act.put, List.setIfInBounds_toArray, List.set_cons_zero, List.set_cons_succ]
          refine wpAnyS_one (i := 2) (o := { dst := some 55, op := Op.buildSlice 23 1 #[(0, Go.Operand.tmp 54)], type := 23, pos := "guard.go:32", after := #[{ on := 1, ground := Ground.data }], guard := none }) (by kernel_rfl) rfl (fun K hK => ?_)
          go_simp
          have hl1 := hst.litC nd fr lg; replace hst := hst.alloc (.cells #[.int .i64 nd, .int .i64 fr, .int .i64 lg] 30); replace hS := hS.alloc (.cells #[.int .i64 nd, .int .i64 fr, .int .i64 lg] 30); (try replace hl2 := And.intro (hl2.1.alloc (.cells #[.int .i64 nd, .int .i64 fr, .int .i64 lg] 30)) hl2.2)
          refine hK.out _ _ hS ?_
          clear hK K
          try simp only [Act.put, List.setIfInBounds_toArray, List.set_cons_zero, List.set_cons_succ]
          refine wpAnyS_one (i := 3) (o := { dst := some 56, op := Op.call { callee := Callee.builtin Builtin.append, args := #[Go.Operand.tmp 53, Go.Operand.tmp 55], argTypes := #[23, 23] }, type := 23, pos := "guard.go:32", after := #[{ on := 0, ground := Ground.data }, { on := 2, ground := Ground.data }], guard := none }) (by kernel_rfl) rfl (fun K hK => ?_)
          rw [if_pos (by rfl)]
          refine wp_apS _ elTry rfl w2.heap.size u11 Ck rfl hst.c _ 1 1 [⟨nd, fr, lg⟩] rfl (Rd.addr (by first | (simp; done) | rfl) hl1.1) hst.bl.size (by omega) ?_; intro v1 w5 ho1 hm1; replace hS := hS.grown hm1.1 hst.nc; (try replace hl2 := Rd.litKept hl2 hm1 hcB); replace hst := hst.growC ho1 hm1
          refine hK.out _ _ hS ?_
          clear hK K
          try simp only [Act.put, List.setIfInBounds_toArray, List.set_cons_zero, List.set_cons_succ]
          refine wpAnyS_one (i := 10) (o := { dst := some 63, op := Op.call { callee := Callee.builtin Builtin.append, args := #[Go.Operand.tmp 57, Go.Operand.tmp 62], argTypes := #[24, 24] }, type := 24, pos := "guard.go:32", after := #[{ on := 4, ground := Ground.data }, { on := 9, ground := Ground.data }, { on := 3, ground := Ground.chain }], guard := none }) (by kernel_rfl) rfl (fun K hK => ?_)
          rw [if_pos (by rfl)]
          refine wp_apW Value.bool _ elBool rfl one_bool w2.heap.size u12 Dk rfl hst.d _ 1 1 [va] rfl (Rd.addr (by first | (simp; done) | rfl) hl2.1) hst.bl.size (by omega) (by decide) ?_; intro v2 w6 ho2 hm2; replace hS := hS.grown hm2.1 hst.nd; (try replace hl1 := Rd.litKept hl1 hm2 hdB); replace hst := hst.growD ho2 hm2
          refine hK.out _ _ hS ?_
          clear hK K
          try simp only [Act.put, List.setIfInBounds_toArray, List.set_cons_zero, List.set_cons_succ]
          refine wpAnyS_take (i := 11) (oi := { dst := some 11, op := Op.assign (Go.Operand.tmp 56), type := 23, pos := "guard.go:32", after := #[{ on := 3, ground := Ground.data }, { on := 10, ground := Ground.chain }, { on := 0, ground := Ground.phase }, { on := 1, ground := Ground.phase }, { on := 2, ground := Ground.phase }, { on := 3, ground := Ground.phase }, { on := 4, ground := Ground.textOnly Go.Departure.lateStores }, { on := 5, ground := Ground.textOnly Go.Departure.lateStores }, { on := 6, ground := Ground.textOnly Go.Departure.lateStores }, { on := 7, ground := Ground.textOnly Go.Departure.lateStores }, { on := 8, ground := Ground.textOnly Go.Departure.lateStores }, { on := 9, ground := Ground.textOnly Go.Departure.lateStores }, { on := 10, ground := Ground.textOnly Go.Departure.lateStoresUnsure }], guard := none }) (v := ?v12) rfl (by kernel_rfl) (by kernel_rfl) (by kernel_rfl) (fun _ _ _ h => h) (Or.inl ⟨by rfl, ?hy12⟩) hS ?rs12
          case hy12 => (intro W hW; go_simp; try with_reducible rfl)
          try simp only [Act.put, List.setIfInBounds_toArray, List.set_cons_zero, List.set_cons_succ]
          refine wpAnyS_take (i := 12) (oi := { dst := some 12, op := Op.assign (Go.Operand.tmp 63), type := 24, pos := "guard.go:32", after := #[{ on := 10, ground := Ground.data }, { on := 11, ground := Ground.chain }, { on := 0, ground := Ground.phase }, { on := 1, ground := Ground.phase }, { on := 2, ground := Ground.phase }, { on := 3, ground := Ground.phase }, { on := 4, ground := Ground.phase }, { on := 5, ground := Ground.phase }, { on := 6, ground := Ground.phase }, { on := 7, ground := Ground.phase }, { on := 8, ground := Ground.phase }, { on := 9, ground := Ground.phase }, { on := 10, ground := Ground.phase }, { on := 11, ground := Ground.phase }], guard := none }) (v := ?v13) rfl (by kernel_rfl) (by kernel_rfl) (by kernel_rfl) (fun _ _ _ h => h) (Or.inl ⟨by rfl, ?hy13⟩) hS ?rs13
          case hy13 => (intro W hW; go_simp; try with_reducible rfl)
          try simp only [Act.put, List.setIfInBounds_toArray, List.set_cons_zero, List.set_cons_succ]
          refine wpAnyS_done (by kernel_rfl) ?_
          rotate_left
          all_goals
            go_wp2
            go_roundw
            case rel => exact ⟨k + 1, by omega, by go_num, by rw [Hf.out]; exact hst.c, by rw [Hf2.out]; exact hst.d, hst.ap, hst.bl⟩
            case measure => simp [intOf] <;> omega
      · obtain rfl : k = n2 := by omega
        have hall : l2.take k = l2 := List.take_of_length_le (by rw [Hl.out]; exact Nat.le_refl _)
        have hlc := Hbnd.out k
        rw [hall] at hoc hod hlc
        obtain ⟨A6, c6, rfl, -, -, hr6⟩ := hoc.formN rfl
        obtain ⟨A7, c7, rfl, -, -, hr7⟩ := hod.formN (n := (l2.filter p).length) (by rw [List.length_map])
        have hB4 := bthen hB2 hbl
        have Hml : Hid (((l2.filter p).map hv).length = (l2.filter p).length) := by show _ = _; rw [List.length_map]
        have C4 := Lib.hid (C3.out _ hB4 A6 _ c6 hr6 hlc)
        clear hoc hod hall C3 hap
        generalize (l2.filter p).map hv = Y at *
        generalize (l2.filter p).length = m at *
        go_wp2_with fail
        refine (Calls.mono C4.out ?_)
        rintro e w5 ⟨v5, rfl, ho5, hb5⟩
        obtain ⟨A5, c5, rfl, -, -, hr5⟩ := ho5.formN Hml.out
        have hB5 := bthen hB4 hb5
        clear ho5
        go_wp2_with fail
        refine (EqualB_any_same A5 A7 m c5 m c7 Y _ hr5 (hr7.below hb5) (by omega)).mono ?_
        rintro e w7 ⟨rfl, hb7⟩
        go_wp2
        go_ret
        exact ⟨rfl, bthen hB5 hb7⟩
end Go.Proofs.Ytgngpcailjocoaa
