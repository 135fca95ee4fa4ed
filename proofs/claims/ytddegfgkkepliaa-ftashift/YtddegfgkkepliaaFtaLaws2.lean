/-
  The walks of FtaShift and FtaRises: each returns true, at every argument.
-/
import Derived.Test.YtddegfgkkepliaaFtaLaws
namespace Go.Proofs.Ytddegfgkkepliaa
open Go.RowKit
set_option linter.unusedVariables false

/-- d more, as an int holds it. -/
def moreBy (d x : Int) : Int := IntKind.i64.wrap (x + d)
theorem shift_facts {l : List Int} {k d : Int} (h1 : -1000 ≤ d) (h2 : d ≤ 1000) (hw : wrongL l k = 0) (hw' : wrongL (l.reverse.map (moreBy d)) k = 0) :
    midR (l.reverse.map (moreBy d)) k = midR l k + d ∧ meanR (l.reverse.map (moreBy d)) k = meanR l k + d := by
  rw [midR_ok hw, midR_ok hw', meanR_ok hw, meanR_ok hw']
  obtain ⟨p1, p2, p3, p4⟩ := wrongL_ok.1 hw
  have e : l.reverse.map (moreBy d) = l.reverse.map (· + d) := by
    apply List.map_congr_left
    intro x hx
    have := p4 x (List.mem_reverse.1 hx)
    exact IntWalk.i64_in _ (by omega)
  have hp : (l.reverse.map (moreBy d)).Perm (l.map (· + d)) := by rw [e]; exact l.reverse_perm.map _
  exact ⟨mid_shift hp (by omega), mean_shift hp (by omega)⟩
theorem rises_facts {l : List Int} {k : Int} {i : Nat} {a b : Int} (ha : l[i]? = some a) (hab : a ≤ b) (hw : wrongL l k = 0) (hw' : wrongL (l.set i b) k = 0) :
    midR l k ≤ midR (l.set i b) k ∧ meanR l k ≤ meanR (l.set i b) k := by
  rw [midR_ok hw, midR_ok hw', meanR_ok hw, meanR_ok hw']
  obtain ⟨p1, p2, p3, p4⟩ := wrongL_ok.1 hw
  exact ⟨mid_rises ha hab (by omega), mean_rises ha hab (by omega)⟩

set_option maxHeartbeats 1600000 in
theorem FtaShift_walk (A0 : Option Addr) (n0 c0 : Nat) (l0 : List Int) (a1 a2 : Int) (w : World) (h0 : Rd w 1 A0 n0 (l0.map (Value.int .i64))) (q0 : ∀ x ∈ l0, (Lit.int .i64 x).wf = true) (k0 : n0 ≤ c0) (b0 : c0 * 8 ≤ 140737488351232) (w1 : (Lit.int .i64 a1).wf = true) (w2 : (Lit.int .i64 a2).wf = true) :
    Calls Try.prog 6 #[.slice A0 n0 c0, .int .i64 a1, .int .i64 a2] w fun e w' => e = .returned (.bool true) ∧ Below w.heap.size w w' := by
  have hl := h0.lenMap
  have C0 := Lib.hid (alive12_any w)
  clear q0 w1 w2
  by_cases d1 : a2 < -1000
  · go_enter Try.func6, Try.ntmps6
    go_wp2_with fail
    refine C0.out.mono ?_
    rintro e w1 ⟨rfl, hb1⟩
    go_wp2
    go_ret
    exact ⟨rfl, hb1⟩
  by_cases d2 : 1000 < a2
  · go_enter Try.func6, Try.ntmps6
    go_wp2_with fail
    refine C0.out.mono ?_
    rintro e w1 ⟨rfl, hb1⟩
    go_wp2
    go_ret
    exact ⟨rfl, hb1⟩
  have Hlr : Hid (l0.reverse.length = n0) := by show _ = _; rw [List.length_reverse]; exact hl
  have Hlm : Hid ((l0.reverse.map (moreBy a2)).length = n0) := by show _ = _; rw [List.length_map, List.length_reverse]; exact hl
  have Hf := Lib.hid (fun (hw : wrongL l0 a1 = 0) (hw' : wrongL (l0.reverse.map (moreBy a2)) a1 = 0) => shift_facts (d := a2) (by omega) (by omega) hw hw')
  have Hr1 := Lib.hid (midR_range l0 a1)
  have Hr2 := Lib.hid (meanR_range l0 a1)
  have C1 := Lib.hid (fun (W : World) (h : Rd W 1 A0 n0 (l0.map (Value.int .i64))) => Mid_any A0 n0 c0 l0 a1 W h (by omega))
  have C2 := Lib.hid (fun (W : World) (h : Rd W 1 A0 n0 (l0.map (Value.int .i64))) => Mean_any A0 n0 c0 l0 a1 W h (by omega))
  have C3 := Lib.hid (fun (W : World) (A : Option Addr) (c : Nat) (h : Rd W 1 A n0 ((l0.reverse.map (moreBy a2)).map (Value.int .i64))) => Mid_any A n0 c (l0.reverse.map (moreBy a2)) a1 W h (by omega))
  have C4 := Lib.hid (fun (W : World) (A : Option Addr) (c : Nat) (h : Rd W 1 A n0 ((l0.reverse.map (moreBy a2)).map (Value.int .i64))) => Mean_any A n0 c (l0.reverse.map (moreBy a2)) a1 W h (by omega))
  have Hl := Lib.hid hl
  clear hl
  go_enter Try.func6, Try.ntmps6
  go_wp2_with fail
  refine C0.out.mono ?_
  rintro e w1 ⟨rfl, hb1⟩
  replace h0 := h0.below hb1
  go_wp2_with fail
  refine (CloneI_any A0 n0 c0 l0 w1 h0 (by omega)).mono ?_
  rintro e w2 ⟨v2, rfl, ho2, hb2⟩
  go_wp2_with fail
  refine (Reverse_own ho2 (by rw [Hl.out]; omega)).mono ?_
  rintro e w3 ⟨rfl, ho3, hm3⟩
  have hb3 := hm3.below hb2 hb2.size ho2.block
  obtain ⟨Ax, cx, rfl, hcx, hcm, _⟩ := ho3.formN Hlr.out
  clear ho2 hb2 hm3
  go_wp2
  go_loopw [31] (fun i wr => ∃ j : Nat, j ≤ n0 ∧ i = .int .i64 j ∧ Ow (Value.int .i64) wr w1.heap.size 3 (.slice Ax n0 cx) ((l0.reverse.take j).map (moreBy a2) ++ l0.reverse.drop j) ∧ Below w1.heap.size w1 wr) (fun i _ => n0 - (intOf i).toNat)
  case atStart => exact ⟨0, Nat.zero_le _, rfl, by simpa using ho3, hb3⟩
  case round =>
    obtain ⟨j, hj, rfl, ho, hbl⟩ := hrel
    by_cases hlt : j < n0
    · have hx : l0.reverse[j]? = some (l0.reverse[j]'(by rw [Hlr.out]; exact hlt)) := List.getElem?_eq_getElem _
      have Hs := Lib.hid (set_take_drop hx (moreBy a2))
      have hat := at_take_drop hx (moreBy a2)
      obtain ⟨x, hxe⟩ : ∃ x, x = l0.reverse[j]'(by rw [Hlr.out]; exact hlt) := ⟨_, rfl⟩
      rw [← hxe] at hat Hs
      obtain ⟨g, c', hv, hg, -⟩ := ho.head (by have := ho.len.1; omega)
      injection hv with hA hN hC
      clear hN
      subst hA hC
      have hc := ho.cellAt hat
      have hf := ho.freeAt j
      have hwr : IntKind.i64.wrap (x + a2) = moreBy a2 x := rfl
      generalize moreBy a2 x = y at hwr Hs
      have hp := ho.put j y
      have hbp := hbl.setCell (p := ⟨g, j, none⟩) hg (.int .i64 y)
      clear hat hx hxe ho3
      go_wp2
      go_roundw
      case rel => exact ⟨j + 1, by omega, by go_num, by rw [← Hs.out]; exact hp, hbp⟩
      case measure => simp [intOf] <;> omega
    · have hnk : j = n0 := by omega
      subst hnk
      rw [List.take_of_length_le (by rw [Hlr.out]; exact Nat.le_refl _), List.drop_eq_nil_of_le (by rw [Hlr.out]; exact Nat.le_refl _), List.append_nil] at ho
      have hx := ho.rd
      replace h0 := h0.below hbl
      have hB := bthen hb1 hbl
      clear ho ho3 hb3 hbl hb1
      generalize l0.reverse.map (moreBy a2) = M at *
      go_wp2_with fail
      refine (C1.out _ h0).mono ?_
      rintro e w5 ⟨rfl, hb5⟩
      replace hx := hx.below hb5
      replace h0 := h0.below hb5
      replace hB := bthen hB hb5
      clear hb5
      go_wp2_with fail
      refine (C3.out _ _ _ hx).mono ?_
      rintro e w6 ⟨rfl, hb6⟩
      replace hx := hx.below hb6
      replace h0 := h0.below hb6
      replace hB := bthen hB hb6
      clear hb6
      go_wp2_with fail
      refine (C2.out _ h0).mono ?_
      rintro e w7 ⟨rfl, hb7⟩
      replace hx := hx.below hb7
      replace hB := bthen hB hb7
      clear hb7
      go_wp2_with fail
      refine (C4.out _ _ _ hx).mono ?_
      rintro e w8 ⟨rfl, hb8⟩
      replace hB := bthen hB hb8
      clear hb8 hx h0 C0 C1 C2 C3 C4
      by_cases hw : wrongL l0 a1 = 0
      · by_cases hw' : wrongL M a1 = 0
        · obtain ⟨f1, f2⟩ := Hf.out hw hw'
          obtain ⟨r1, r2⟩ := Hr1.out
          obtain ⟨r3, r4⟩ := Hr2.out
          rw [hw, hw', f1, f2]
          generalize midR l0 a1 = a at *
          generalize meanR l0 a1 = b at *
          clear Hf Hr1 Hr2 hw hw' f1 f2
          go_wp2
          go_ret
          exact ⟨rfl, hB⟩
        · have hne : (wrongL M a1 != 0) = true := by simpa using hw'
          rw [hw]
          clear Hf Hr1 Hr2 hw hw'
          go_wp2
          go_ret
          exact ⟨rfl, hB⟩
      · have hne : (wrongL l0 a1 != 0) = true := by simpa using hw
        clear Hf Hr1 Hr2 hw
        go_wp2
        go_ret
        exact ⟨rfl, hB⟩

set_option maxHeartbeats 1600000 in
theorem FtaRises_walk (A0 : Option Addr) (n0 c0 : Nat) (l0 : List Int) (a1 a2 a3 : Int) (w : World) (h0 : Rd w 1 A0 n0 (l0.map (Value.int .i64))) (q0 : ∀ x ∈ l0, (Lit.int .i64 x).wf = true) (k0 : n0 ≤ c0) (b0 : c0 * 8 ≤ 140737488351232) (w1 : (Lit.int .i64 a1).wf = true) (w2 : (Lit.int .i64 a2).wf = true) (w3 : (Lit.int .i64 a3).wf = true) :
    Calls Try.prog 7 #[.slice A0 n0 c0, .int .i64 a1, .int .i64 a2, .int .i64 a3] w fun e w' => e = .returned (.bool true) ∧ Below w.heap.size w w' := by
  have hl := h0.lenMap
  have hq := in64s_wf q0
  have C0 := Lib.hid (alive12_any w)
  clear q0 w1 w2 w3
  by_cases g1 : a2 < 0
  · go_enter Try.func7, Try.ntmps7
    go_wp2_with fail
    refine C0.out.mono ?_
    rintro e w1 ⟨rfl, hb1⟩
    go_wp2
    go_ret
    exact ⟨rfl, hb1⟩
  obtain ⟨i, rfl⟩ : ∃ i : Nat, a2 = i := ⟨a2.toNat, by omega⟩
  clear g1
  by_cases g2 : n0 ≤ i
  · go_enter Try.func7, Try.ntmps7
    go_wp2_with fail
    refine C0.out.mono ?_
    rintro e w1 ⟨rfl, hb1⟩
    go_wp2
    go_ret
    exact ⟨rfl, hb1⟩
  by_cases g3 : a3 < 0
  · go_enter Try.func7, Try.ntmps7
    go_wp2_with fail
    refine C0.out.mono ?_
    rintro e w1 ⟨rfl, hb1⟩
    go_wp2
    go_ret
    exact ⟨rfl, hb1⟩
  by_cases g4 : 1099511627776 < a3
  · go_enter Try.func7, Try.ntmps7
    go_wp2_with fail
    refine C0.out.mono ?_
    rintro e w1 ⟨rfl, hb1⟩
    go_wp2
    go_ret
    exact ⟨rfl, hb1⟩
  have g5 : i < n0 := by omega
  obtain ⟨ad, x, rfl, hx, _⟩ := h0.atMap g5
  have hx64 := hq x (List.mem_of_getElem? hx)
  unfold in64 at hx64
  obtain ⟨x1, x2⟩ := hx64
  by_cases g6 : 1099511627776 < x
  · go_enter Try.func7, Try.ntmps7
    go_wp2_with fail
    refine C0.out.mono ?_
    rintro e w1 ⟨rfl, hb1⟩
    replace h0 := h0.below hb1
    go_wp2_with fail
    refine (CloneI_any (some ad) n0 c0 l0 w1 h0 (by omega)).mono ?_
    rintro e w2 ⟨v2, rfl, ho2, hb2⟩
    obtain ⟨g, cx, rfl, hg, _, _⟩ := ho2.head (by omega)
    rw [hl] at ho2 ⊢
    have hc := ho2.cellAt hx
    have hB := bthen hb1 hb2
    clear hl hx
    go_wp2
    go_ret
    exact ⟨rfl, hB⟩
  have Hls : Hid ((l0.set i (x + a3)).length = n0) := by show _ = _; rw [List.length_set]; exact hl
  have Hf := Lib.hid (fun (hw : wrongL l0 a1 = 0) (hw' : wrongL (l0.set i (x + a3)) a1 = 0) => rises_facts hx (show x ≤ x + a3 by omega) hw hw')
  have C1 := Lib.hid (fun (W : World) (h : Rd W 1 (some ad) n0 (l0.map (Value.int .i64))) => Mid_any (some ad) n0 c0 l0 a1 W h (by omega))
  have C2 := Lib.hid (fun (W : World) (h : Rd W 1 (some ad) n0 (l0.map (Value.int .i64))) => Mean_any (some ad) n0 c0 l0 a1 W h (by omega))
  have C3 := Lib.hid (fun (W : World) (A : Option Addr) (c : Nat) (h : Rd W 1 A n0 ((l0.set i (x + a3)).map (Value.int .i64))) => Mid_any A n0 c (l0.set i (x + a3)) a1 W h (by omega))
  have C4 := Lib.hid (fun (W : World) (A : Option Addr) (c : Nat) (h : Rd W 1 A n0 ((l0.set i (x + a3)).map (Value.int .i64))) => Mean_any A n0 c (l0.set i (x + a3)) a1 W h (by omega))
  go_enter Try.func7, Try.ntmps7
  go_wp2_with fail
  refine C0.out.mono ?_
  rintro e w1 ⟨rfl, hb1⟩
  replace h0 := h0.below hb1
  go_wp2_with fail
  refine (CloneI_any (some ad) n0 c0 l0 w1 h0 (by omega)).mono ?_
  rintro e w2 ⟨v2, rfl, ho2, hb2⟩
  obtain ⟨g, cx, rfl, hg, _, _⟩ := ho2.head (by omega)
  rw [hl] at ho2 ⊢
  have hc := ho2.cellAt hx
  have hf := ho2.freeAt i
  have hp := (ho2.put i (x + a3)).rd
  have hbp := hb2.setCell (p := ⟨g, i, none⟩) hg (.int .i64 (x + a3))
  replace h0 := h0.below hbp
  have hB := bthen hb1 hbp
  clear hl hx ho2 hb2 hbp hb1
  generalize l0.set i (x + a3) = m at *
  go_wp2_with fail
  refine (C1.out _ h0).mono ?_
  rintro e w5 ⟨rfl, hb5⟩
  replace hp := hp.below hb5
  replace h0 := h0.below hb5
  replace hB := bthen hB hb5
  clear hb5 hc hf
  go_wp2_with fail
  refine (C3.out _ _ _ hp).mono ?_
  rintro e w6 ⟨rfl, hb6⟩
  replace hp := hp.below hb6
  replace h0 := h0.below hb6
  replace hB := bthen hB hb6
  clear hb6
  go_wp2_with fail
  refine (C2.out _ h0).mono ?_
  rintro e w7 ⟨rfl, hb7⟩
  replace hp := hp.below hb7
  replace hB := bthen hB hb7
  clear hb7
  go_wp2_with fail
  refine (C4.out _ _ _ hp).mono ?_
  rintro e w8 ⟨rfl, hb8⟩
  replace hB := bthen hB hb8
  clear hb8 hp h0 C0 C1 C2 C3 C4
  by_cases hw : wrongL l0 a1 = 0
  · by_cases hw' : wrongL m a1 = 0
    · obtain ⟨f1, f2⟩ := Hf.out hw hw'
      rw [hw, hw']
      clear Hf hw hw'
      go_wp2
      go_ret
      exact ⟨rfl, hB⟩
    · have hne : (wrongL m a1 != 0) = true := by simpa using hw'
      rw [hw]
      clear Hf hw hw'
      go_wp2
      go_ret
      exact ⟨rfl, hB⟩
  · have hne : (wrongL l0 a1 != 0) = true := by simpa using hw
    clear Hf hw
    go_wp2
    go_ret
    exact ⟨rfl, hB⟩
end Go.Proofs.Ytddegfgkkepliaa
