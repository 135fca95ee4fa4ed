/-
  The contract of start.Play, for every input. No statement of the seat is here.
-/
import Derived.Test.YtaliompoknnjgaaStartWalks2
import Derived.Test.YtaliompoknnjgaaRoom
import Derived.Deep.QuietTactic
import Derived.BigQuiet
namespace Go.Proofs.Ytaliompoknnjgaa
open Go.RowKit
set_option maxRecDepth 20000
set_option linter.unusedVariables false

theorem collide_n (w0 w : World) (Ao Aw As : Option Addr) (co cw cs n m q i : Nat) (f g : Nat → Nat) (hn : n = m + 1) (T : Nat) (hT : timS m q f g i = T) (G : GoodS m q f g) (hi : i ≤ 40) (hb : Below w0.heap.size w0 w)
    (ho : Rd w0 1 Ao n ((lst m f).map (Value.int .i64))) (hw : Rd w0 1 Aw n ((lst m g).map (Value.int .i64)))
    (hs : Ow (Value.int .i64) w w0.heap.size 3 (.slice As n cs) (schL m q f g i)) :
    Calls Try.prog 18 #[.slice As n cs, .slice Ao n co, .slice Aw n cw, .int .i64 (T : Nat), .int .i64 (q : Nat)] w fun e w' =>
      e = .returned (.tuple #[]) ∧ Ow (Value.int .i64) w' w0.heap.size 3 (.slice As n cs) (schL m q f g (i + 1)) ∧ Below w0.heap.size w0 w' := by
  subst hn hT
  exact collide_any w0 w Ao Aw As co cw cs m q i f g G hi hb ho hw hs

theorem who_index {m q : Nat} {f g : Nat → Nat} {i T : Nat} (hT : timS m q f g i = T) {r : Int} (h : (r = -1 ∧ ((T : Nat) : Int) ∉ schL m q f g i) ∨ ∃ k : Nat, r = k ∧ (schL m q f g i)[k]? = some ((T : Nat) : Int) ∧ ((T : Nat) : Int) ∉ (schL m q f g i).take k) : r = ((whoS m q f g i : Nat) : Int) := by
  subst hT
  exact lst_index h

theorem results_tmp3 {fn : Func} {t u v : Tmp} (h : fn.results = #[.tmp t, .tmp u, .tmp v]) (tmps : Array Value) (P : Program) (w : World) :
    (results fn tmps).run P w = .ok (.tuple #[tmps.getD t undef, tmps.getD u undef, tmps.getD v undef]) w := by
  simp [results, h]
theorem results_tmp4 {fn : Func} {t u v x : Tmp} (h : fn.results = #[.tmp t, .tmp u, .tmp v, .tmp x]) (tmps : Array Value) (P : Program) (w : World) :
    (results fn tmps).run P w = .ok (.tuple #[tmps.getD t undef, tmps.getD u undef, tmps.getD v undef, tmps.getD x undef]) w := by
  simp [results, h]

/-- What Play returns. -/
def startV (a t n E : Int) : Value := .tuple #[.int .i64 a, .int .i64 t, .int .i64 n, .int .i64 E]

set_option maxHeartbeats 1600000 in
theorem StartPlay_yes (A : Option Addr) (n c : Nat) (B : Option Addr) (c2 : Nat) (m q : Nat) (f g : Nat → Nat) (hn : n = m + 1) (G : GoodS m q f g) (w : World) (h : Rd w 1 A n ((lst m f).map (Value.int .i64))) (h2 : Rd w 1 B n ((lst m g).map (Value.int .i64))) :
    Calls Try.prog 8 #[.slice A n c, .slice B n c2, .int .i64 (q : Nat)] w fun e w' => ∃ k, Hid (EndsAt m q f g k) ∧ e = .returned (startV (whoS m q f g k : Nat) (timS m q f g k : Nat) k 0) ∧ Below w.heap.size w w' := by
  have hm := G.few
  have hq1 := G.q1
  have hq2 := G.q2
  have Hf := Lib.hid G.on
  have Hg := Lib.hid G.w2
  have Hn := Lib.hid hn
  have Hfew := Lib.hid (fun (i : Nat) (hi : ∀ j, j < i → Clash m q f g j) => G.few_ hi)
  have Htim := Lib.hid G.tim_le
  have hn17 : n ≤ 16 := by omega
  have hn0 : 0 < n := by omega
  have C0 := Lib.hid (StartWrong_any A n c (lst m f) B n c2 (lst m g) q w h h2 (by omega) (by omega))
  rw [good_iff.2 G] at C0
  have C1 := Lib.hid (fun (W : World) (As : Option Addr) (cs i : Nat) (hs : Ow (Value.int .i64) W w.heap.size 3 (.slice As n cs) (schL m q f g i)) => Min_any As n cs (schL m q f g i) W hs.rd hn0 (by omega))
  have C2 := Lib.hid (fun (W : World) (As : Option Addr) (cs i : Nat) (t : Int) (hs : Ow (Value.int .i64) W w.heap.size 3 (.slice As n cs) (schL m q f g i)) => isAlone_any As n cs (schL m q f g i) t W hs.rd (by omega))
  have C3 := Lib.hid (fun (W : World) (As : Option Addr) (cs i : Nat) (t : Int) (hs : Ow (Value.int .i64) W w.heap.size 3 (.slice As n cs) (schL m q f g i)) => IndexI_any As n cs (schL m q f g i) t W hs.rd (by omega))
  have C4 := Lib.hid (fun (W : World) (As : Option Addr) (cs i T : Nat) (hT : timS m q f g i = T) (hi : i ≤ 40) (hb : Below w.heap.size w W) (hs : Ow (Value.int .i64) W w.heap.size 3 (.slice As n cs) (schL m q f g i)) => collide_n w W A B As c c2 cs n m q i f g hn T hT G hi hb h h2 hs)
  have hmk : ∀ W : World, (Instr.makeSlice 22 (.int .i64 (n : Nat)) (.int .i64 (n : Nat))).run Try.prog W = .ok (.slice (some ⟨W.heap.size, 0, none⟩) n n) (W.alloc (.cells (madeCells #[.int .i64 0] n) 3)) := fun W => run_mk (P := Try.prog) elInt rfl .i64 .i64 n n (Nat.le_refl _) (by omega) (by omega) W
  clear hn G
  go_enter Try.func8, Try.ntmps8
  go_wp2_with fail
  refine C0.out.mono ?_
  rintro e w1 ⟨rfl, hb1⟩
  have ho0 := Ow.make (Value.int .i64) 0 w1 3 (base := w.heap.size) n (by unfold maxLen; omega) hb1.size
  have hbm := below_new (o := .cells (madeCells #[Value.int .i64 0] n) 3) (Below.refl (w1.alloc (.cells (madeCells #[Value.int .i64 0] n) 3)).heap.size _) 
  have hb2 := bthen hb1 hbm
  have hgb := hb1.size
  clear C0 hb1 hbm
  go_upto_region 5 with fail
  generalize w1.alloc (.cells (madeCells #[Value.int .i64 0] n) 3) = w2 at *
  generalize w1.heap.size = gb at *
  clear hmk
  go_wp2
  go_loopw [27] (fun i wr => ∃ k : Nat, k ≤ n ∧ i = .int .i64 k ∧ Ow (Value.int .i64) wr w.heap.size 3 (.slice (some ⟨gb, 0, none⟩) n n) (lst m fun j => if j < k then f j + g j else 0) ∧ Below w.heap.size w wr) (fun i _ => n - (intOf i).toNat)
  case atStart =>
    refine ⟨0, Nat.zero_le _, rfl, ?_, hb2⟩
    rw [lst_congr (g := fun _ => 0) fun k hk => by rw [if_neg (by omega)], ← lst_rep, ← Hn.out]
    exact ho0
  case round =>
    obtain ⟨k, hk, rfl, hown, hbl⟩ := hrel
    clear ho0 hb2
    by_cases hlt : k < n
    · have hkm : k ≤ m := by have := Hn.out; omega
      obtain ⟨ad, x, rfl, hx, hc⟩ := (h.below hbl).atMap hlt
      obtain ⟨aw, y, rfl, hy, hd⟩ := (h2.below hbl).atMap hlt
      rw [lst_at hkm] at hx hy
      injection hx with hx
      injection hy with hy
      subst hx hy
      have hfr := hown.freeAt k
      have hat := hown.cellAt (lst_at (f := fun j => if j < k then f j + g j else 0) hkm)
      have b1 := Hf.out k hkm
      have b2 := Hg.out k hkm
      have hp := hown.put k ((f k : Int) + g k)
      rw [lst_put (g := fun j => if j < k + 1 then f j + g j else 0) hkm (by rw [if_pos (by omega)]; omega) (fun j hj hne => by
        by_cases e : j < k
        · rw [if_pos e, if_pos (by omega)]
        · rw [if_neg e, if_neg (by omega)])] at hp
      have hbp := hbl.setCell (p := ⟨gb, k, none⟩) hgb (.int .i64 ((f k : Int) + g k))
      clear hown hbl C1 C2 C3 C4
      generalize f k = X at *
      generalize g k = Y at *
      go_wp2
      go_big_region
      go_wp2
      go_roundw
      case rel => exact ⟨k + 1, by omega, by go_num, hp, hbp.drew⟩
      case measure => simp [intOf] <;> omega
    · have hs0 : Ow (Value.int .i64) wr w.heap.size 3 (.slice (some ⟨gb, 0, none⟩) n n) (schL m q f g 0) := by
        rw [lst_congr (g := schS m q f g 0) fun j hj => by rw [if_pos (by have := Hn.out; omega)]; rfl] at hown
        exact hown
      clear hown h h2
      go_wp2
      go_loopw [13] (fun z wr => ∃ i : Nat, z = .int .i64 i ∧ Hid (∀ j, j < i → Clash m q f g j) ∧ Ow (Value.int .i64) wr w.heap.size 3 (.slice (some ⟨gb, 0, none⟩) n n) (schL m q f g i) ∧ Below w.heap.size w wr) (fun z _ => 100 - (intOf z).toNat)
      case atStart => exact ⟨0, rfl, fun j hj => absurd hj (Nat.not_lt_zero _), hs0, hbl⟩
      case round =>
        obtain ⟨i, rfl, Hc, hown, hbl2⟩ := hrel
        clear hs0 hbl
        have hi : i < 32 := by have := Hfew.out i Hc.out; omega
        have hT := Htim.out i
        have D1 := Lib.hid (C1.out _ _ _ i hown)
        rw [sch_least] at D1
        have HA := Lib.hid (alone_iff (m := m) (q := q) (f := f) (g := g) (i := i) hq1)
        obtain ⟨T, hTe⟩ : ∃ T, timS m q f g i = T := ⟨_, rfl⟩
        have D2 := Lib.hid (C2.out _ _ _ i (T + q) hown)
        have D3 := Lib.hid (C3.out _ _ _ i T hown)
        have D4 := Lib.hid (C4.out _ _ _ i T hTe (by omega) hbl2 hown)
        rw [hTe] at D1 HA hT
        have hT2 : T ≤ 50000000 := by omega
        clear hT
        by_cases hcl : Clash m q f g i
        · rw [decide_eq_false (fun h => HA.out.1 h hcl)] at D2
          have Hc2 : Hid (∀ j, j < i + 1 → Clash m q f g j) := fun j hj => by
            by_cases e : j = i
            · subst e; exact hcl
            · exact Hc.out j (by omega)
          clear HA hcl D3 hTe
          go_wp2_with fail
          refine D1.out.mono ?_
          rintro e w' ⟨rfl, rfl⟩
          go_wp2_with fail
          refine D2.out.mono ?_
          rintro e w' ⟨rfl, rfl⟩
          go_wp2_with fail
          refine D4.out.mono ?_
          rintro e w' ⟨rfl, hown2, hbl3⟩
          go_wp2
          go_roundw
          case rel => exact ⟨i + 1, by go_num, Hc2, hown2, hbl3⟩
          case measure => simp [intOf] <;> omega
        · rw [decide_eq_true (HA.out.2 hcl)] at D2
          have HE : Hid (EndsAt m q f g i) := ⟨Hc.out, hcl⟩
          have HTe := Lib.hid hTe
          clear HA hcl Hc D4 hTe
          go_wp2_with fail
          refine D1.out.mono ?_
          rintro e w' ⟨rfl, rfl⟩
          go_wp2_with fail
          refine D2.out.mono ?_
          rintro e w' ⟨rfl, rfl⟩
          go_wp2_with fail
          refine D3.out.mono ?_
          rintro e w' ⟨r, rfl, hr, rfl⟩
          have Hr : Hid (r = ((whoS m q f g i : Nat) : Int)) := who_index HTe.out hr
          clear hr
          go_wp2
          try simp only [Exit.inBlock, Exit.then]
          refine bodyPost_ret (results_tmp4 rfl _ _ _) rfl ⟨i, HE, ?_, hbl2⟩
          rw [startV, ← Hr.out, HTe.out]
          rfl

set_option maxHeartbeats 800000 in
theorem StartPlay_no (A : Option Addr) (n c : Nat) (on : List Int) (B : Option Addr) (n2 c2 : Nat) (waits : List Int) (late : Int) (w : World) (h : Rd w 1 A n (on.map (Value.int .i64))) (h2 : Rd w 1 B n2 (waits.map (Value.int .i64))) (hn : n ≤ 4611686018427387904) (hn2 : n2 ≤ 4611686018427387904) (hw : wrongS on waits late ≠ 0) :
    Calls Try.prog 8 #[.slice A n c, .slice B n2 c2, .int .i64 late] w fun e w' => e = .returned (startV 0 0 0 (wrongS on waits late)) ∧ Below w.heap.size w w' := by
  have C0 := Lib.hid (StartWrong_any A n c on B n2 c2 waits late w h h2 hn hn2)
  generalize wrongS on waits late = E at *
  have hne : (E != 0) = true := by simpa using hw
  clear h h2 hw
  go_enter Try.func8, Try.ntmps8
  go_wp2_with fail
  refine C0.out.mono ?_
  rintro e w1 ⟨rfl, hb1⟩
  go_wp2
  try simp only [Exit.inBlock, Exit.then]
  exact bodyPost_ret (results_tmp4 rfl _ _ _) rfl ⟨rfl, hb1⟩

theorem StartPlay_any (A : Option Addr) (n c : Nat) (on : List Int) (B : Option Addr) (n2 c2 : Nat) (waits : List Int) (late : Int) (w : World) (h : Rd w 1 A n (on.map (Value.int .i64))) (h2 : Rd w 1 B n2 (waits.map (Value.int .i64))) (hn : n ≤ 4611686018427387904) (hn2 : n2 ≤ 4611686018427387904) :
    Calls Try.prog 8 #[.slice A n c, .slice B n2 c2, .int .i64 late] w fun e w' => ∃ a t k, Hid (ToldS on waits late a t k (wrongS on waits late)) ∧ e = .returned (startV a t k (wrongS on waits late)) ∧ Below w.heap.size w w' := by
  by_cases hw : wrongS on waits late = 0
  · obtain ⟨m, q, f, g, rfl, rfl, rfl, G⟩ := wrongS_ok hw
    have hl := h.lenMap
    have hl2 := h2.lenMap
    rw [lst_len] at hl hl2
    obtain rfl : n2 = n := hl2.symm.trans hl
    refine (StartPlay_yes A n2 c B c2 m q f g hl.symm G w h h2).mono ?_
    rintro e w' ⟨k, hk, rfl, hb⟩
    rw [hw]
    exact ⟨_, _, _, ⟨fun h => absurd rfl h, fun _ => ⟨m, q, f, g, k, rfl, rfl, rfl, G, hk.out, rfl, rfl, rfl⟩⟩, rfl, hb⟩
  · refine (StartPlay_no A n c on B n2 c2 waits late w h h2 hn hn2 hw).mono ?_
    rintro e w' ⟨rfl, hb⟩
    exact ⟨_, _, _, ⟨fun _ => ⟨rfl, rfl, rfl⟩, fun h => absurd h hw⟩, rfl, hb⟩
end Go.Proofs.Ytaliompoknnjgaa
