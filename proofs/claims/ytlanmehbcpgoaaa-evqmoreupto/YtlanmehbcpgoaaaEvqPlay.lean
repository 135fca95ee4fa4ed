/-
  Contracts of package evq: perform; Play, for every list of operations.
-/
import Derived.Test.YtlanmehbcpgoaaaEvqWalks3
import Derived.Test.YtlanmehbcpgoaaaRoom
import Derived.Test.YtlanmehbcpgoaaaRegionF
namespace Go.Proofs.Ytlanmehbcpgoaaa
open Go.RowKit
set_option linter.unusedVariables false

theorem Gives.ahead {b : Nat} {s : EvS} {o : EvO} {w w1 : World} (hb : Below b w w1) {e : Ending} {w' : World} (h : Gives b s o w1 e w') : Gives b s o w e w' := ⟨h.1, h.2.1, hb.trans h.2.2⟩
set_option maxHeartbeats 800000 in
theorem perform_any (b : Nat) (s : EvS) (o : EvO) (hok : EvOk s) (hs : s.al.length < 17592186044416) (w : World) (h : Chan w b s) :
    Calls Try.prog 18 #[.pointer (some ⟨b, 0, none⟩), opV o] w (Gives b s o w) := by
  obtain ⟨kd, x⟩ := o
  have hlt := h.lt
  have z := Box.new w 36 [.int .i64 kd, .int .i64 x]
  have m0 := z.cell 0 rfl
  have m1 := z.cell 1 rfl
  change (w.alloc (.cells #[.int .i64 kd, .int .i64 x] 36)).cell? _ = _ at m0 m1
  have Hb := Lib.hid ((Below.refl b w).alloc (by omega) (.cells #[.int .i64 kd, .int .i64 x] 36))
  have Hc := Lib.hid (h.alloc (.cells #[.int .i64 kd, .int .i64 x] 36))
  clear z h hlt
  by_cases h1 : kd = 1
  · subst h1
    go_enter Try.func18, Try.ntmps18
    go_upto_region 1 with fail
    generalize w.alloc (.cells #[.int .i64 1, .int .i64 x] 36) = w1 at *
    have CS := Lib.hid (send_any b s x hok hs w1 Hc.out)
    clear hok
    go_wp2_with fail
    refine CS.out.mono ?_
    rintro e w2 ⟨rfl, h2, h3⟩
    go_wp2
    go_ret
    exact Gives.ahead Hb.out ⟨rfl, h2, h3⟩
  by_cases h2 : kd = 2
  · subst h2
    go_enter Try.func18, Try.ntmps18
    go_upto_region 1 with fail
    generalize w.alloc (.cells #[.int .i64 2, .int .i64 x] 36) = w1 at *
    have CS := Lib.hid (slot_any b s x hok (by omega) w1 Hc.out)
    clear hok
    go_wp2_with fail
    refine CS.out.mono ?_
    rintro e w2 ⟨rfl, h2, h3⟩
    go_wp2
    go_ret
    exact Gives.ahead Hb.out ⟨rfl, h2, h3⟩
  by_cases h3 : kd = 3
  · subst h3
    go_enter Try.func18, Try.ntmps18
    go_upto_region 1 with fail
    generalize w.alloc (.cells #[.int .i64 3, .int .i64 x] 36) = w1 at *
    have CS := Lib.hid (take_any b s x hok (by omega) w1 Hc.out)
    clear hok
    go_wp2_with fail
    refine CS.out.mono ?_
    rintro e w2 ⟨rfl, h2, h3⟩
    go_wp2
    go_ret
    exact Gives.ahead Hb.out ⟨rfl, h2, h3⟩
  have hE : evE s ⟨kd, x⟩ = 5 := by
    unfold evE
    rw [if_pos (by show kd < 1 ∨ 3 < kd; omega)]
  have e1 : (kd == 1) = false := by rw [beq_eq_false_iff_ne]; exact h1
  have e2 : (kd == 2) = false := by rw [beq_eq_false_iff_ne]; exact h2
  have e3 : (kd == 3) = false := by rw [beq_eq_false_iff_ne]; exact h3
  clear h1 h2 h3 hok
  go_enter Try.func18, Try.ntmps18
  go_upto_region 1 with fail
  generalize w.alloc (.cells #[.int .i64 kd, .int .i64 x] 36) = w1 at *
  go_wp2
  go_ret
  exact Gives.none hE (by decide) Hc.out Hb.out
def GivesPlay (l : List EvO) (w : World) (e : Ending) (w' : World) : Prop :=
  ∃ u v, e = .returned (.tuple #[u, v, .agg #[.int .i64 (((evRun l).al.length : Int) - ((evRun l).kn : Int)), .int .i64 (((evRun l).cm : Int) - ((evRun l).tk : Int))]]) ∧
    Ow (Value.int .i64) w' w.heap.size 29 u (evErrs l) ∧ Ow (Value.int .i64) w' w.heap.size 3 v (evTaken (evRun l)) ∧ Below w.heap.size w w'
/-- The state between rounds: the result's array, the errors, the channel. -/
structure PlaySt (w wr : World) (n : Nat) (l : List EvO) (j : Nat) : Prop where
  res : Box wr w.heap.size 25 [.int .i64 0, .int .i64 0]
  err : Ow (Value.int .i64) wr w.heap.size 29 (.slice (some ⟨w.heap.size + 1, 0, none⟩) n n) (evErrs (l.take j) ++ List.replicate (n - j) 0)
  chan : Chan wr (w.heap.size + 1 + 1) (evRun (l.take j))
  bel : Below w.heap.size w wr
theorem fill_err {n j : Nat} (h : j < n) {r : List Int} (hr : r.length = j) (x : Int) : (r ++ List.replicate (n - j) (0 : Int)).set j x = (r ++ [x]) ++ List.replicate (n - (j + 1)) 0 := by
  rw [List.set_append_right _ _ (by omega), hr, Nat.sub_self, show n - j = (n - (j + 1)) + 1 by omega, List.replicate_succ, List.set_cons_zero, List.append_assoc]
  rfl
theorem PlaySt.step {w wr w3 : World} {n j : Nat} {l : List EvO} {o : EvO} {c : Obj} (h : PlaySt w wr n l j) (hl : l.length = n) (hj : j < n) (ho : l[j]? = some o) (hc : Chan w3 (w.heap.size + 1 + 1) (evS (evRun (l.take j)) o)) (hb : Below (w.heap.size + 1 + 1) (wr.alloc c) w3) :
    (∃ z, w3.cell? ⟨w.heap.size + 1, j, none⟩ = some z) ∧ w3.frozen? ⟨w.heap.size + 1, j, none⟩ = false ∧ w.heap.size + 1 < w3.heap.size ∧
      PlaySt w (w3.setCell ⟨w.heap.size + 1, j, none⟩ (.int .i64 (evE (evRun (l.take j)) o))) n l (j + 1) := by
  have hch := h.chan.lt
  have e3 := (h.err.alloc c).belowAt hb (by omega)
  have r3 := (h.res.alloc c).below hb (by omega)
  have b3 := (h.bel.alloc (by omega) c).trans (hb.mono (by omega))
  have g := grownBy_setCell w3 ⟨w.heap.size + 1, j, none⟩ (.int .i64 (evE (evRun (l.take j)) o))
  have hlen : (evErrs (l.take j)).length = j := by rw [evErrs_length, List.length_take]; omega
  obtain ⟨z, hz⟩ : ∃ z, (evErrs (l.take j) ++ List.replicate (n - j) (0 : Int))[j]? = some z := ⟨_, List.getElem?_eq_getElem (by rw [List.length_append, List.length_replicate, hlen]; omega)⟩
  refine ⟨⟨_, e3.cellAt hz⟩, e3.freeAt j, by have := hc.lt; omega, r3.grown g (by simp), ?_, ?_, below_grown b3 g (by show w.heap.size ≤ w.heap.size + 1; omega) (by have := hc.lt; omega)⟩
  · rw [take_snoc ho, evErrs_snoc, ← fill_err hj hlen]
    exact e3.put j (evE (evRun (l.take j)) o)
  · rw [take_snoc ho, evRun_snoc]
    exact hc.grown g (by show w.heap.size + 1 < _; omega)
set_option maxHeartbeats 1600000 in
theorem Play_any (A : Option Addr) (n c : Nat) (l : List EvO) (w : World) (h : RdG opC 2 w A n l) (hn : n ≤ 8796093022208) :
    Calls Try.prog 9 #[.slice A n c] w (GivesPlay l w) := by
  have hl := RdG.len opK h
  have hmk := run_mk elErr rfl .i64 .i64 n n (Nat.le_refl _) (by omega) (by omega)
  have S0 : PlaySt w (((w.alloc (.cells #[.int .i64 0, .int .i64 0] 25)).alloc (.cells (madeCells #[.int .i64 0] n) 29)).alloc (.cells #[.slice none 0 0, .int .i64 0, .int .i64 0, .int .i64 0] 41)) n l 0 := by
    have hB : Below w.heap.size w (((w.alloc (.cells #[.int .i64 0, .int .i64 0] 25)).alloc (.cells (madeCells #[.int .i64 0] n) 29)).alloc (.cells #[.slice none 0 0, .int .i64 0, .int .i64 0, .int .i64 0] 41)) := (((Below.refl _ _).alloc (Nat.le_refl _) _).alloc (by simp) _).alloc (by simp; omega) _
    refine ⟨((Box.new w 25 [.int .i64 0, .int .i64 0]).alloc _).alloc _, ?_, ⟨.slice none 0 0, ?_, Ow.nil _ _ _ _⟩, hB⟩
    · have := (Ow.make (Value.int .i64) 0 (w.alloc (.cells #[.int .i64 0, .int .i64 0] 25)) 29 (base := w.heap.size) n (by unfold maxLen; omega) (by simp)).alloc (.cells #[.slice none 0 0, .int .i64 0, .int .i64 0, .int .i64 0] 41)
      simpa [evErrs, evErr] using this
    · have := Box.new ((w.alloc (.cells #[.int .i64 0, .int .i64 0] 25)).alloc (.cells (madeCells #[.int .i64 0] n) 29)) 41 [.slice none 0 0, .int .i64 0, .int .i64 0, .int .i64 0]
      simpa [evRun, ev0] using this
  have HS0 := Lib.hid S0
  have Hl := Lib.hid hl
  clear S0 hl
  go_enter Try.func9, Try.ntmps9
  go_wp2
  go_loopw [14] (fun i wr => ∃ j : Nat, j ≤ n ∧ i = .int .i64 j ∧ PlaySt w wr n l j) (fun i _ => n - (intOf i).toNat)
  case atStart => exact ⟨0, Nat.zero_le _, rfl, HS0.out⟩
  case round =>
    obtain ⟨j, hj, rfl, hst⟩ := hrel
    clear HS0 hmk
    have hbl := hst.bel
    by_cases hlt : j < n
    · obtain ⟨ad, ⟨kd, x⟩, rfl, hx, m0, m1⟩ := op_at (h.below hbl) hlt
      simp only at m0 m1
      have Hx := Lib.hid hx
      have hok := ev_ok (l.take j)
      have hal : (evRun (l.take j)).al.length < 17592186044416 := by
        have h1 := al_count (l.take j) ev0
        have h2 := List.countP_le_length (p := fun o : EvO => decide (o.kd = 1)) (l := l.take j)
        change (evRun (l.take j)).al.length ≤ 0 + _ at h1
        rw [List.length_take] at h2
        omega
      have CP := Lib.hid (perform_any (w.heap.size + 1 + 1) (evRun (l.take j)) ⟨kd, x⟩ hok hal (wr.alloc (.cells #[.int .i64 kd, .int .i64 x] 36)) (hst.chan.alloc _))
      have hsz := hbl.size
      have Hst := Lib.hid hst
      clear hx hok hal hst hbl
      go_wp2_with fail
      refine CP.out.mono ?_
      rintro e w3 ⟨rfl, hc3, hb3⟩
      obtain ⟨⟨z, hz⟩, hf, hl3, hs3⟩ := Hst.out.step Hl.out hlt Hx.out hc3 hb3
      have Hs3 := Lib.hid hs3
      generalize evE (evRun (l.take j)) ⟨kd, x⟩ = E at *
      clear CP hc3 hb3 hs3 Hst Hx
      go_wp2
      go_roundw
      case rel => exact ⟨j + 1, by omega, by go_num, Hs3.out⟩
      case measure => simp [intOf] <;> omega
    · obtain rfl : j = n := by omega
      have hres := hst.res
      have herr := hst.err
      have hchan := hst.chan
      rw [List.take_of_length_le (by rw [Hl.out]; exact Nat.le_refl _)] at herr hchan
      rw [Nat.sub_self, List.replicate_zero, List.append_nil] at herr
      have hok := ev_ok l
      have hal : (evRun l).al.length ≤ 17592186044416 := by
        have h1 := al_count l ev0
        have h2 := List.countP_le_length (p := fun o : EvO => decide (o.kd = 1)) (l := l)
        change (evRun l).al.length ≤ 0 + _ at h1
        have := Hl.out
        omega
      have Hres := Lib.hid hres
      have Herr := Lib.hid herr
      obtain ⟨v, hv⟩ := hchan
      have Hv := Lib.hid hv
      obtain ⟨m, hm⟩ : ∃ m, (evRun l).al.length = m := ⟨_, rfl⟩
      have htkm : (evRun l).tk ≤ m := by have := hok.k3; have := hok.k4; omega
      obtain ⟨A2, c2, rfl, hc2, hc2x, -⟩ := hv.own.formN hm
      have CU := Lib.hid (fun (W : World) (hW : ChanV W (w.heap.size + 1 + 1) (evRun l) (.slice A2 m c2)) => unack_any _ _ _ hok hal W hW)
      have CT := Lib.hid (fun (W : World) (hW : ChanV W (w.heap.size + 1 + 1) (evRun l) (.slice A2 m c2)) => untaken_any _ _ _ hok hal W hW)
      have hsl := run_to elInt (P := Try.prog) wr A2 m c2 (evRun l).tk (by omega)
      have Hsl := Lib.hid (fun (W : World) => run_to elInt (P := Try.prog) W A2 m c2 (evRun l).tk (by omega))
      have FX : Hid (∀ W, Below wr.heap.size wr W → W.cell? ⟨w.heap.size + 1 + 1, 0, none⟩ = some (.slice A2 m c2) ∧ W.cell? ⟨w.heap.size + 1 + 1, 3, none⟩ = some (.int .i64 ((evRun l).tk : Int))) := fun W hW => ⟨(hv.below hW).box.cell 0 rfl, (hv.below hW).box.cell 3 rfl⟩
      have Htk := Lib.hid (hv.own.cutTo htkm)
      have HB0 := Lib.hid hbl
      obtain ⟨D, hD⟩ : ∃ D, ((evRun l).al.length : Int) - ((evRun l).kn : Int) = D := ⟨_, rfl⟩
      obtain ⟨T, hT⟩ : ∃ T, ((evRun l).cm : Int) - ((evRun l).tk : Int) = T := ⟨_, rfl⟩
      obtain ⟨K, hK⟩ : ∃ K, (evRun l).tk = K := ⟨_, rfl⟩
      have HD := Lib.hid hD
      have HT := Lib.hid hT
      have HK := Lib.hid hK
      rw [hD] at CU
      rw [hT] at CT
      rw [hK] at htkm FX Hsl Htk
      clear hst hres herr hok hal hv hlt hsl hD hT hm hK
      go_upto_region 8 with fail
      have hB1 : Below wr.heap.size wr wr.drew := ⟨rfl, rfl, rfl, Nat.le_refl _, fun _ _ => rfl⟩
      refine wp_region_F 11 (wr.heap.size) (by kernel_rfl) ?_
      refine wpAnyF_pure (i := 0) (oi := { dst := some 25, op := Op.move (Go.Operand.tmp 5), type := 23, pos := "evq.go:27", after := #[], guard := none }) (v := ?v1) rfl (by kernel_rfl) (by kernel_rfl) (by kernel_rfl) (fun _ _ _ h => h) (Or.inl ⟨by rfl, ?hy1⟩) ?rs1
      case hy1 => (intro W hW; go_simp; try with_reducible rfl)
      try simp only [Act.put, List.setIfInBounds_toArray, List.set_cons_zero, List.set_cons_succ]
      refine wpAnyF_pure (i := 1) (oi := { dst := some 26, op := Op.fieldAddr 41 (Go.Operand.tmp 6) 0, type := 0, pos := "evq.go:27", after := #[], guard := none }) (v := ?v2) rfl (by kernel_rfl) (by kernel_rfl) (by kernel_rfl) (fun _ _ _ h => h) (Or.inl ⟨by rfl, ?hy2⟩) ?rs2
      case hy2 => (intro W hW; go_simp; try with_reducible rfl)
      try simp only [Act.put, List.setIfInBounds_toArray, List.set_cons_zero, List.set_cons_succ]
      refine wpAnyF_take (i := 2) (oi := { dst := some 27, op := Op.load 24 (Go.Operand.tmp 26), type := 24, pos := "evq.go:27", after := #[{ on := 1, ground := Ground.data }], guard := none }) (v := ?v3) rfl (by kernel_rfl) (by kernel_rfl) (by kernel_rfl) (by decide) (by kernel_rfl) (fun _ _ _ h => h) (Or.inl ⟨by rfl, ?hy3⟩) ?rs3
      case hy3 => (intro W hW; obtain ⟨g0, g3⟩ := FX.out _ (hB1.trans hW); go_simp; try with_reducible rfl)
      try simp only [Act.put, List.setIfInBounds_toArray, List.set_cons_zero, List.set_cons_succ]
      refine wpAnyF_pure (i := 3) (oi := { dst := some 28, op := Op.fieldAddr 41 (Go.Operand.tmp 6) 3, type := 0, pos := "evq.go:27", after := #[], guard := none }) (v := ?v4) rfl (by kernel_rfl) (by kernel_rfl) (by kernel_rfl) (fun _ _ _ h => h) (Or.inl ⟨by rfl, ?hy4⟩) ?rs4
      case hy4 => (intro W hW; go_simp; try with_reducible rfl)
      try simp only [Act.put, List.setIfInBounds_toArray, List.set_cons_zero, List.set_cons_succ]
      refine wpAnyF_take (i := 4) (oi := { dst := some 29, op := Op.load 3 (Go.Operand.tmp 28), type := 3, pos := "evq.go:27", after := #[{ on := 3, ground := Ground.data }], guard := none }) (v := ?v5) rfl (by kernel_rfl) (by kernel_rfl) (by kernel_rfl) (by decide) (by kernel_rfl) (fun _ _ _ h => h) (Or.inl ⟨by rfl, ?hy5⟩) ?rs5
      case hy5 => (intro W hW; obtain ⟨g0, g3⟩ := FX.out _ (hB1.trans hW); go_simp; try with_reducible rfl)
      try simp only [Act.put, List.setIfInBounds_toArray, List.set_cons_zero, List.set_cons_succ]
      refine wpAnyF_pure (i := 5) (oi := { dst := some 30, op := Op.slice 24 (Go.Operand.tmp 27) none (some (Go.Operand.tmp 29)) none, type := 24, pos := "evq.go:27", after := #[{ on := 2, ground := Ground.data }, { on := 4, ground := Ground.data }], guard := none }) (v := ?v6) rfl (by kernel_rfl) (by kernel_rfl) (by kernel_rfl) (fun _ _ _ h => h) (Or.inl ⟨by rfl, ?hy6⟩) ?rs6
      case hy6 => (intro W hW; have g5 := Hsl.out W; go_simp; try with_reducible rfl)
      try simp only [Act.put, List.setIfInBounds_toArray, List.set_cons_zero, List.set_cons_succ]
      refine wpAnyF_one (i := 6) (o := { dst := some 31, op := Op.call { callee := Callee.value (Go.Operand.func 19), args := #[Go.Operand.tmp 6], argTypes := #[41] }, type := 3, pos := "evq.go:27", after := #[], guard := none }) (by kernel_rfl) rfl (fun K hK => ?_)
      go_simp
      refine (CU.out _ (Hv.out.below hB1)).mono ?_; rintro e w7 ⟨rfl, hq7⟩; have hbk := (below_draws hq7).mono hB1.size; replace hB1 := hB1.trans hbk
      refine hK.out _ _ hbk ?_
      clear hK K
      try simp only [Act.put, List.setIfInBounds_toArray, List.set_cons_zero, List.set_cons_succ]
      refine wpAnyF_one (i := 7) (o := { dst := some 32, op := Op.call { callee := Callee.value (Go.Operand.func 20), args := #[Go.Operand.tmp 6], argTypes := #[41] }, type := 3, pos := "evq.go:27", after := #[{ on := 6, ground := Ground.chain }], guard := none }) (by kernel_rfl) rfl (fun K hK => ?_)
      go_simp
      refine (CT.out _ (Hv.out.below hB1)).mono ?_; rintro e w8 ⟨rfl, hq8⟩; have hbk := (below_draws hq8).mono hB1.size; replace hB1 := hB1.trans hbk
      refine hK.out _ _ hbk ?_
      clear hK K
      try simp only [Act.put, List.setIfInBounds_toArray, List.set_cons_zero, List.set_cons_succ]
      refine wpAnyF_pure (i := 8) (oi := { dst := some 33, op := Op.build 25 #[(0, Go.Operand.tmp 31), (1, Go.Operand.tmp 32)], type := 25, pos := "evq.go:27", after := #[{ on := 6, ground := Ground.data }, { on := 7, ground := Ground.data }, { on := 10, ground := Ground.gcOnly Go.Departure.lateStores }], guard := none }) (v := ?v7) rfl (by kernel_rfl) (by kernel_rfl) (by kernel_rfl) (fun _ _ _ h => h) (Or.inl ⟨by rfl, ?hy7⟩) ?rs7
      case hy7 => (intro W hW; go_simp; try with_reducible rfl)
      try simp only [Act.put, List.setIfInBounds_toArray, List.set_cons_zero, List.set_cons_succ]
      refine wpAnyF_pure (i := 9) (oi := { dst := some 2, op := Op.assign (Go.Operand.tmp 25), type := 23, pos := "evq.go:27", after := #[{ on := 0, ground := Ground.data }, { on := 7, ground := Ground.chain }, { on := 0, ground := Ground.phase }, { on := 1, ground := Ground.textOnly Go.Departure.lateStores }, { on := 2, ground := Ground.textOnly Go.Departure.lateStores }, { on := 3, ground := Ground.textOnly Go.Departure.lateStores }, { on := 4, ground := Ground.textOnly Go.Departure.lateStores }, { on := 5, ground := Ground.textOnly Go.Departure.lateStoresUnsure }, { on := 6, ground := Ground.textOnly Go.Departure.lateStoresUnsure }, { on := 7, ground := Ground.textOnly Go.Departure.lateStoresUnsure }, { on := 8, ground := Ground.textOnly Go.Departure.lateStores }], guard := none }) (v := ?v8) rfl (by kernel_rfl) (by kernel_rfl) (by kernel_rfl) (fun _ _ _ h => h) (Or.inl ⟨by rfl, ?hy8⟩) ?rs8
      case hy8 => (intro W hW; go_simp; try with_reducible rfl)
      try simp only [Act.put, List.setIfInBounds_toArray, List.set_cons_zero, List.set_cons_succ]
      refine wpAnyF_pure (i := 10) (oi := { dst := some 3, op := Op.assign (Go.Operand.tmp 30), type := 24, pos := "evq.go:27", after := #[{ on := 5, ground := Ground.data }, { on := 9, ground := Ground.chain }, { on := 0, ground := Ground.phase }, { on := 1, ground := Ground.phase }, { on := 2, ground := Ground.phase }, { on := 3, ground := Ground.phase }, { on := 4, ground := Ground.phase }, { on := 5, ground := Ground.phase }, { on := 6, ground := Ground.textOnly Go.Departure.lateStoresUnsure }, { on := 7, ground := Ground.textOnly Go.Departure.lateStoresUnsure }, { on := 8, ground := Ground.textOnly Go.Departure.lateStores }, { on := 9, ground := Ground.phase }], guard := none }) (v := ?v9) rfl (by kernel_rfl) (by kernel_rfl) (by kernel_rfl) (fun _ _ _ h => h) (Or.inl ⟨by rfl, ?hy9⟩) ?rs9
      case hy9 => (intro W hW; go_simp; try with_reducible rfl)
      try simp only [Act.put, List.setIfInBounds_toArray, List.set_cons_zero, List.set_cons_succ]
      refine wpAnyF_last (i := 11) (o := { dst := none, op := Op.store 25 (Go.Operand.tmp 4) (Go.Operand.tmp 33), type := 0, pos := "evq.go:27", after := #[{ on := 8, ground := Ground.data }, { on := 10, ground := Ground.chain }, { on := 0, ground := Ground.phase }, { on := 1, ground := Ground.phase }, { on := 2, ground := Ground.phase }, { on := 3, ground := Ground.phase }, { on := 4, ground := Ground.phase }, { on := 5, ground := Ground.phase }, { on := 6, ground := Ground.phase }, { on := 7, ground := Ground.phase }, { on := 8, ground := Ground.phase }, { on := 9, ground := Ground.phase }, { on := 10, ground := Ground.phase }], guard := none }) (by kernel_rfl) rfl (by decide) (fun K hK => ?_)
      have hz := Hres.out.below hB1 Hres.out.lt; have f0 := hz.free 0; have f1 := hz.free 1; have k0 := hz.cell 0 rfl; have k1 := hz.cell 1 rfl; have hlz := hz.lt
      go_simp
      refine hK.out _ _ ?_
      clear hK K
      try simp only [Act.put, List.setIfInBounds_toArray, List.set_cons_zero, List.set_cons_succ]
      refine wpAnyF_done (by kernel_rfl) ?_
      all_goals
        have hzz := hz.pair (.int .i64 D) (.int .i64 T)
        have r0 := hzz.cell 0 rfl
        have r1 := hzz.cell 1 rfl
        have hgr := grownBy_pair w8 w.heap.size (.int .i64 D) (.int .i64 T)
        have hE := (Herr.out.below hB1).keep hgr (fun k hk e => by injection e with e; simp [Value.ownBlock] at hk; omega)
        have hTk := (Htk.out.below hB1).keep hgr (fun k hk e => by injection e with e; have := Htk.out.block k hk; omega)
        have hB := below_grown (HB0.out.trans (hB1.mono HB0.out.size)) hgr (Nat.le_refl _) (by omega)
        clear Herr Htk HB0 CU CT Hv Hsl FX
        generalize (w8.setCell ⟨w.heap.size, 0, none⟩ (.int .i64 D)).setCell ⟨w.heap.size, 1, none⟩ (.int .i64 T) = w9 at *
        go_wp2
        refine bodyPost_ret (v := .tuple #[.slice (some ⟨w.heap.size + 1, 0, none⟩) j j, .slice A2 K c2, .agg #[.int .i64 D, .int .i64 T]]) (by simp [results, Try.results9, go_sem, r0, r1]) rfl ⟨_, .slice A2 K c2, ?_, hE, ?_, hB⟩
        · rw [HD.out, HT.out]
        · unfold evTaken
          rw [HK.out]
          exact hTk.mono (by omega)
end Go.Proofs.Ytlanmehbcpgoaaa
