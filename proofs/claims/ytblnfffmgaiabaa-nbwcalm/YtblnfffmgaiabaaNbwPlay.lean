/-
  Contract of nbw.Play, for every input.
-/
import Derived.Test.YtblnfffmgaiabaaNbwWalks
namespace Go.Proofs.Ytblnfffmgaiabaa
open Go.RowKit
set_option linter.unusedVariables false

def GivesGots (L : List GotQ) (N : Nat) (E : Int) (w : World) (e : Ending) (w' : World) : Prop :=
  ∃ v, e = .returned (.tuple #[v, .int .i64 (N : Int), .int .i64 E]) ∧ OwG gotC 3 w' w.heap.size 29 v L ∧ Below w.heap.size w w'
theorem any_bad (l : List Int) : l.any badQ = !l.all kindB := by
  rw [Bool.eq_iff_iff]
  simp [badQ]
/-- The state between rounds: three boxes from b on, what was read behind them. -/
structure PlaySt (w1 wr : World) (b : Nat) (c : RdQ) (s : StQ) (v : Value) : Prop where
  mem : Box wr b 40 (memQ s.d)
  wri : Box wr (b + 1) 42 [.int .i64 (s.d : Int)]
  rd : Box wr (b + 1 + 1) 44 (rdC c)
  out : OwG gotC 3 wr (b + 3) 29 v s.out
  sim : SimQ c s.r
  bel : Below b w1 wr
theorem PlaySt.kept {w1 wr w5 : World} {b : Nat} {c : RdQ} {s : StQ} {v : Value} (h : PlaySt w1 wr b c s v) {k : Nat} (hg : wr.grownBy w5 (some k)) (hk : b ≤ k) (hk3 : k < b + 3) :
    OwG gotC 3 w5 (b + 3) 29 v s.out ∧ Below b w1 w5 :=
  ⟨h.out.keep hg (fun j hj e => by injection e with e; have := h.out.block j hj; omega), below_grown h.bel hg hk (by have := h.mem.lt; omega)⟩
theorem PlaySt.wrote {w1 wr w5 : World} {b : Nat} {c : RdQ} {s : StQ} {v : Value} (h : PlaySt w1 wr b c s v) (hw : Box w5 (b + 1) 42 [.int .i64 ((s.d + 1 : Nat) : Int)]) (hm : Box w5 b 40 (memQ (s.d + 1))) (hg : ∃ wm, wr.grownBy wm (some b) ∧ wm.grownBy w5 (some (b + 1))) :
    PlaySt w1 w5 b c (stepQ s 1) v := by
  obtain ⟨wm, g1, g2⟩ := hg
  obtain ⟨o1, b1⟩ := h.kept g1 (Nat.le_refl _) (by omega)
  refine ⟨hm, hw, (h.rd.grown g1 (by simp; omega)).grown g2 (by simp), ?_, h.sim, ?_⟩
  · exact o1.keep g2 (fun j hj e => by injection e with e; have := h.out.block j hj; omega)
  · exact below_grown b1 g2 (by omega) (by have := h.mem.lt; have := g1.size; omega)
theorem step_two (s : StQ) : stepQ s 2 = ⟨s.d, readQ s.d s.r, s.out ++ giveQ s.d s.r⟩ := if_neg (by decide)
theorem PlaySt.failed {w1 wr w5 : World} {b : Nat} {c : RdQ} {s : StQ} {v : Value} (h : PlaySt w1 wr b c s v) (hr : Box w5 (b + 1 + 1) 44 (rdC (codeR (cntQ s.d) (wd1 s.d) (wd2 s.d) c))) (hg : wr.grownBy w5 (some (b + 1 + 1))) (hb : codeB (cntQ s.d) c = false) :
    PlaySt w1 w5 b (codeR (cntQ s.d) (wd1 s.d) (wd2 s.d) c) (stepQ s 2) v := by
  obtain ⟨o1, b1⟩ := h.kept hg (by omega) (by omega)
  obtain ⟨g1, g2⟩ := (sim_step h.sim s.d).2 hb
  rw [step_two, g1, List.append_nil]
  exact ⟨h.mem.grown hg (by simp; omega), h.wri.grown hg (by simp), hr, o1, g2, b1⟩
theorem PlaySt.gave {w1 wr w5 w7 : World} {b : Nat} {c : RdQ} {s : StQ} {v v7 : Value} {c' : RdQ} {o : Obj} {L : List GotQ} (h : PlaySt w1 wr b c s v) (hr : Box w5 (b + 1 + 1) 44 (rdC c')) (hg : wr.grownBy w5 (some (b + 1 + 1))) (hs : SimQ rd0 (readQ s.d s.r)) (ho : OwG gotC 3 w7 (b + 3) 29 v7 L) (hm : Moves (w5.alloc o) w7 v v7) :
    Box w7 (b + 1 + 1) 44 (rdC c') ∧ (∀ w8, Box w8 (b + 1 + 1) 44 (rdC rd0) → w7.grownBy w8 (some (b + 1 + 1)) → PlaySt w1 w8 b rd0 ⟨s.d, readQ s.d s.r, L⟩ v7) := by
  have hbk := h.out.block
  obtain ⟨o5, b5⟩ := h.kept hg (by omega) (by omega)
  have hl5 := hr.lt
  have m7 := ((h.mem.grown hg (by simp; omega)).alloc o).moves hm (fun k hk => by have := hbk k hk; omega)
  have r7 := ((h.wri.grown hg (by simp)).alloc o).moves hm (fun k hk => by have := hbk k hk; omega)
  have x7 := (hr.alloc o).moves hm (fun k hk => by have := hbk k hk; omega)
  have b7 := hm.below (b5.alloc (by omega) o) (by simp; omega) (fun k hk => by have := hbk k hk; omega)
  refine ⟨x7, fun w8 x8 g8 => ⟨m7.grown g8 (by simp; omega), r7.grown g8 (by simp), x8, ?_, hs, below_grown b7 g8 (by omega) (by have := x7.lt; omega)⟩⟩
  exact ho.keep g8 (fun j hj e => by injection e with e; have := ho.block j hj; omega)
theorem grownBy_five (w : World) (g : Nat) (v0 v1 v2 v3 v4 : Value) : w.grownBy (((((w.setCell ⟨g, 0, none⟩ v0).setCell ⟨g, 1, none⟩ v1).setCell ⟨g, 2, none⟩ v2).setCell ⟨g, 3, none⟩ v3).setCell ⟨g, 4, none⟩ v4) (some g) :=
  grownBy_then (grownBy_then (grownBy_then (grownBy_then (grownBy_setCell w ⟨g, 0, none⟩ v0) (grownBy_setCell _ ⟨g, 1, none⟩ v1)) (grownBy_setCell _ ⟨g, 2, none⟩ v2)) (grownBy_setCell _ ⟨g, 3, none⟩ v3)) (grownBy_setCell _ ⟨g, 4, none⟩ v4)
set_option maxHeartbeats 1600000 in
theorem Play_any (A : Option Addr) (n c : Nat) (l : List Int) (w : World) (h : Rd w 1 A n (l.map (Value.int .i64))) (hn : n ≤ 140737488355328) :
    Calls Try.prog 8 #[.slice A n c] w (GivesGots (playQL l) (playQN l) (playQE l) w) := by
  have hl := h.lenMap
  by_cases hbig : 400 < n
  · have hE : playQE l = 2 := playQE_big (by omega)
    rw [show playQL l = [] from if_neg (by rw [hE]; decide), show playQN l = 0 from if_neg (by rw [hE]; decide), hE]
    have hbig' : 400 < (n : Int) := by omega
    go_enter Try.func8, Try.ntmps8
    go_wp2
    exact bodyPost_ret (v := .tuple #[.slice none 0 0, .int .i64 0, .int .i64 2]) (by simp [results, Try.results8, go_sem]) rfl ⟨_, rfl, OwG.nil _ _ _, Below.refl _ _⟩
  · have C := Lib.hid (ContainsQ_any A n c l w h (by omega))
    cases hk : l.all kindB with
    | false =>
      have hE : playQE l = 5 := by unfold playQE; rw [if_neg (by omega), if_neg (by simp [hk])]
      rw [show playQL l = [] from if_neg (by rw [hE]; decide), show playQN l = 0 from if_neg (by rw [hE]; decide), hE]
      rw [any_bad, hk] at C
      go_enter Try.func8, Try.ntmps8
      go_wp2_with fail
      refine C.out.mono ?_
      rintro e w1 ⟨rfl, hb⟩
      go_wp2
      exact bodyPost_ret (v := .tuple #[.slice none 0 0, .int .i64 0, .int .i64 5]) (by simp [results, Try.results8, go_sem]) rfl ⟨_, rfl, OwG.nil _ _ _, hb⟩
    | true =>
      have hE : playQE l = 0 := by unfold playQE; rw [if_neg (by omega), if_pos hk]
      rw [(playQ_ok hE).1, (playQ_ok hE).2, hE]
      rw [any_bad, hk] at C
      have hkind : Hid (∀ x ∈ l, x = 1 ∨ x = 2) := (playQE_ok.1 hE).2
      clear hE hk
      go_enter Try.func8, Try.ntmps8
      go_wp2_with fail
      refine C.out.mono ?_
      rintro e w1 ⟨rfl, hb⟩
      have H1 := h.below hb
      have hz := hb.size
      have S0 : PlaySt w1 (((w1.alloc (.cells #[.int .i64 0, .int .i64 0, .int .i64 0] 40)).alloc (.cells #[.int .i64 0] 42)).alloc (.cells #[.int .i64 0, .int .i64 0, .int .i64 0, .int .i64 0, .int .i64 0] 44)) w1.heap.size rd0 (runQ (l.take 0)) (.slice none 0 0) := by
        rw [List.take_zero]
        refine ⟨((Box.new w1 40 (memQ 0)).alloc _).alloc _, ?_, ?_, OwG.nil _ _ _, sim_start, by repeat (first | (with_reducible exact Below.refl _ _) | (with_reducible assumption) | (with_reducible refine Below.setCell ?_ (by (try simp) <;> omega) _) | (with_reducible refine Below.alloc ?_ (by (try simp) <;> omega) _) | (with_reducible refine Below.drew ?_))⟩
        · have := (Box.new (w1.alloc (.cells #[.int .i64 0, .int .i64 0, .int .i64 0] 40)) 42 [.int .i64 0]).alloc (.cells #[.int .i64 0, .int .i64 0, .int .i64 0, .int .i64 0, .int .i64 0] 44)
          simpa [runQ_nil, st0] using this
        · have := Box.new ((w1.alloc (.cells #[.int .i64 0, .int .i64 0, .int .i64 0] 40)).alloc (.cells #[.int .i64 0] 42)) 44 [.int .i64 0, .int .i64 0, .int .i64 0, .int .i64 0, .int .i64 0]
          simpa [rdC, rd0] using this
      have HS0 := Lib.hid S0
      have Hstep : Hid (∀ k x, l[k]? = some x → runQ (l.take (k + 1)) = stepQ (runQ (l.take k)) x) := fun k x hx => by rw [take_snoc hx, runQ_snoc]
      have Hsm : Hid (∀ k, k ≤ n → (runQ (l.take k)).d ≤ 400 ∧ (runQ (l.take k)).out.length ≤ 400 ∧ (runQ (l.take k)).r.tr ≤ 400) := fun k hk => by
        have := run_small (l.take k)
        rw [List.length_take] at this
        omega
      have Hend : Hid (runQ (l.take n) = runQ l) := by show _ = _; rw [List.take_of_length_le (by omega)]
      clear S0 C hl
      go_wp2
      generalize ((w1.alloc (.cells #[.int .i64 0, .int .i64 0, .int .i64 0] 40)).alloc (.cells #[.int .i64 0] 42)).alloc (.cells #[.int .i64 0, .int .i64 0, .int .i64 0, .int .i64 0, .int .i64 0] 44) = w4 at *
      go_loopw [8, 18] (fun v i wr => ∃ j : Nat, j ≤ n ∧ i = .int .i64 j ∧ ∃ c, PlaySt w1 wr w1.heap.size c (runQ (l.take j)) v) (fun _ i _ => n - (intOf i).toNat)
      case atStart => exact ⟨0, Nat.zero_le _, rfl, _, HS0.out⟩
      case round =>
        obtain ⟨j, hj, rfl, cr, hst⟩ := hrel
        clear HS0
        have hbl := hst.bel
        obtain ⟨hd4, ho4, ht4⟩ := Hsm.out j hj
        by_cases hlt : j < n
        · obtain ⟨ad, x, rfl, hx, hc⟩ := (H1.below hbl).atMap hlt
          have hx2 := hkind.out x (List.mem_of_getElem? hx)
          have Hj := Lib.hid (Hstep.out j x hx)
          obtain ⟨S', HS'⟩ : ∃ S', Hid (runQ (l.take (j + 1)) = S') := ⟨_, rfl⟩
          rw [HS'.out] at Hj
          clear hx
          generalize runQ (l.take j) = s at *
          rcases hx2 with rfl | rfl
          · have CW := Lib.hid (wStep_any (w1.heap.size + 1) w1.heap.size s.d (by omega) wr hst.wri hst.mem (by omega))
            go_wp2_with fail
            refine CW.out.mono ?_
            rintro e w5 ⟨rfl, x1, x2, x3⟩
            have hst' := Lib.hid (hst.wrote x1 x2 x3)
            rw [← Hj.out] at hst'
            clear CW x1 x2 x3 hst Hj
            go_wp2
            go_roundw
            case rel => exact ⟨j + 1, by omega, by go_num, _, by rw [HS'.out]; exact hst'.out⟩
            case measure => simp [intOf] <;> omega
          · have CR := Lib.hid (rStep_any (w1.heap.size + 1 + 1) cr (by rw [hst.sim.pos]; exact hst.sim.le) (by rw [hst.sim.tr]; omega) (cntQ s.d) (wd1 s.d) (wd2 s.d) wr hst.rd)
            have c0 := hst.mem.cell 0 rfl
            have c1 := hst.mem.cell 1 rfl
            have c2 := hst.mem.cell 2 rfl
            cases hcb : codeB (cntQ s.d) cr with
            | false =>
              rw [hcb] at CR
              go_wp2_with fail
              refine CR.out.mono ?_
              rintro e w5 ⟨rfl, x1, x2⟩
              have hst' := Lib.hid (hst.failed x1 x2 hcb)
              rw [← Hj.out] at hst'
              clear CR x1 x2 hst Hj c0 c1 c2 hcb
              go_wp2
              go_roundw
              case rel => exact ⟨j + 1, by omega, by go_num, _, by rw [HS'.out]; exact hst'.out⟩
              case measure => simp [intOf] <;> omega
            | true =>
              rw [hcb] at CR
              obtain ⟨hgive, hsim⟩ := (sim_step hst.sim s.d).1 hcb
              have Hj2 : Hid (S' = ⟨s.d, readQ s.d s.r, s.out ++ [⟨(codeR (cntQ s.d) (wd1 s.d) (wd2 s.d) cr).fi, (codeR (cntQ s.d) (wd1 s.d) (wd2 s.d) cr).se, (codeR (cntQ s.d) (wd1 s.d) (wd2 s.d) cr).tr⟩]⟩) := by
                show _ = _
                rw [Hj.out, step_two, hgive]
              generalize codeR (cntQ s.d) (wd1 s.d) (wd2 s.d) cr = c' at *
              obtain ⟨cp, cs, ct, cf, ce⟩ := c'
              simp only at Hj2
              go_wp2_with fail
              refine CR.out.mono ?_
              rintro e w5 ⟨rfl, x1, x2⟩
              have o5 := Lib.hid (hst.kept x2 (by omega) (by omega)).1
              have q2 := x1.cell 2 rfl
              have q3 := x1.cell 3 rfl
              have q4 := x1.cell 4 rfl
              have hl5 := x1.lt
              have HM := Lib.hid (fun (v7 : Value) (w7 : World) (ho : OwG gotC 3 w7 (w1.heap.size + 3) 29 v7 (s.out ++ [(⟨cf, ce, ct⟩ : GotQ)])) (hm : Moves (w5.alloc (.cells #[.int .i64 (cf : Int), .int .i64 (ce : Int), .int .i64 (ct : Int)] 29)) w7 u8 v7) => hst.gave x1 x2 hsim ho hm)
              clear CR hst Hj c0 c1 c2 hcb hgive hsim x1 x2 hc hbl
              go_wp2_with (at_builtin; go_must (refine wpList_apG gotK _ elGot rfl rfl (w1.heap.size + 3) u8 s.out rfl (o5.out.alloc _) _ 1 1 [(⟨cf, ce, ct⟩ : GotQ)] rfl (Rd.litFlat gotK.len [(⟨cf, ce, ct⟩ : GotQ)] _ (by simp)) (by simp; omega) (by omega) (by omega) ?_; intro v7 w7 ho7 hm7; obtain ⟨x7, hfin⟩ := HM.out v7 w7 ho7 hm7; have y0 := x7.cell 0 rfl; have y1 := x7.cell 1 rfl; have y2 := x7.cell 2 rfl; have y3 := x7.cell 3 rfl; have y4 := x7.cell 4 rfl; have f0 := x7.free 0; have f1 := x7.free 1; have f2 := x7.free 2; have f3 := x7.free 3; have f4 := x7.free 4; have hl7 := x7.lt; have Hfin := Lib.hid (hfin _ (((((x7.set 0 (.int .i64 0)).set 1 (.int .i64 0)).set 2 (.int .i64 0)).set 3 (.int .i64 0)).set 4 (.int .i64 0)) (grownBy_five _ _ _ _ _ _ _)); clear hfin x7 ho7 hm7))
              go_roundw
              case rel => exact ⟨j + 1, by omega, by go_num, _, by rw [HS'.out, Hj2.out]; exact Hfin.out⟩
              case measure => simp [intOf] <;> omega
        · obtain rfl : j = n := by omega
          rw [Hend.out] at hst
          clear Hsm Hstep
          have hc0 := hst.mem.cell 0 rfl
          have hB := bthen hb hst.bel
          have Ho := Lib.hid (hst.out.mono (show w.heap.size ≤ w1.heap.size + 3 by omega))
          have hh := cntQ_half (runQ l).d
          rw [Hend.out] at hd4
          have hcs : cntQ (runQ l).d ≤ 1000 := by unfold cntQ; omega
          clear hst Hend
          generalize (runQ l).out = L at *
          generalize (runQ l).d / 4 = M at *
          generalize cntQ (runQ l).d = C at *
          have hh' : (C : Int) / 2 = (M : Int) := by omega
          have hM : (M : Int) ≤ 1000 := by omega
          clear hh hcs
          go_wp2
          go_quiet (fail)
          go_wp2
          exact bodyPost_ret (v := .tuple #[u8, .int .i64 (M : Int), .int .i64 0]) (by simp [results, Try.results8, go_sem]) rfl ⟨_, rfl, Ho.out, bthen hB (below_draws ⟨_, rfl⟩)⟩
end Go.Proofs.Ytblnfffmgaiabaa
