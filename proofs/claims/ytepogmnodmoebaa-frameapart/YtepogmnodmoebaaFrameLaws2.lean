/-
  The laws of chapter 4: the walks of FrameOne and FrameApart.
-/
import Derived.Test.YtepogmnodmoebaaFrameLaws
namespace Go.Proofs.Ytepogmnodmoebaa
open Go.RowKit
set_option linter.unusedVariables false
set_option linter.unusedSimpArgs false

set_option maxHeartbeats 1000000 in
theorem FrameOne_walk (a0 : Int) (A0 : Option Addr) (n0 c0 : Nat) (l0 : List Int) (a1 : Int) (w : World)
    (w0 : (Lit.int .i64 a0).wf = true) (h0 : Rd w 1 A0 n0 (l0.map (Value.int .u8))) (v0 : ∀ x ∈ l0, (Lit.int .u8 x).wf = true) (k0 : n0 ≤ c0) (b0 : c0 * 1 ≤ 140737488351232)
    (w1 : (Lit.int .i64 a1).wf = true) :
    Calls Try.prog 6 #[frameV a0 A0 n0 c0, .int .i64 a1] w fun e w' => e = .returned (.bool true) ∧ Below w.heap.size w w' := by
  have q0 : Byte8 l0 := fun x hx => by have := wf_u8 (v0 x hx); omega
  have hn : n0 ≤ 140737488351232 := by omega
  have hl0 := h0.lenMap
  have hr1 := wf_i64 w1
  clear w0 v0 w1
  go_enter Try.func6, Try.ntmps6
  go_wp2_with fail
  refine (alive4_any _).mono ?_
  rintro e w1 ⟨rfl, hb⟩
  have hbx : Box w1 w.heap.size 24 [.int .i64 a0, .slice A0 n0 c0] := (Box.new w _ _).below hb (by simp)
  replace hb := below_new hb
  have x0 := Box.cell hbx 0 rfl
  have x1 := Box.cell hbx 1 rfl
  by_cases hf : FrameOk a0 n0
  · have hrl := row_length a0 l0
    rw [hl0] at hrl
    have hcs := crc_sealM (rowM a0 l0)
    have hsl := sealM_length (rowM a0 l0)
    rw [hrl] at hsl
    have hse := sent_length a0 l0
    rw [hl0] at hse
    have hun : unstuffM (sentM a0 l0) = (sealM (rowM a0 l0), 0) := unstuff_stuff _
    have hn8 := hf.2.2
    go_wp2_with fail
    refine (Plain_ok a0 A0 n0 c0 l0 _ (h0.below hb) q0 hf).mono ?_
    intro e w2 hh
    obtain ⟨Ap, cp, rfl, hrp, hb2, _, _⟩ := gives_ok hh
    replace hbx := hbx.below hb2 hbx.lt
    replace hb := bthen hb hb2
    rw [hrl]
    clear hh x0 x1 hb2 hrp hl0
    have x0 := Box.cell hbx 0 rfl
    have x1 := Box.cell hbx 1 rfl
    have Hrl := Lib.hid hrl
    clear hrl
    generalize rowM a0 l0 = p at *
    by_cases ha : 0 ≤ a1 ∧ a1 < 19 + 8 * (n0 : Int)
    · obtain ⟨k, rfl⟩ := Int.eq_ofNat_of_zero_le ha.1
      have t0 : decide ((k : Int) < 0) = false := by simp
      have t1 : decide (19 + 8 * (n0 : Int) ≤ (k : Int)) = false := by simp; omega
      have hk : k < 19 + 8 * n0 := by omega
      clear ha hr1
      go_wp2_with fail
      refine (Write_ok a0 A0 n0 c0 l0 _ (h0.below hb) q0 hf).mono ?_
      intro e w3 hh
      obtain ⟨Ab, cb, rfl, hrb, hb3, _, _⟩ := gives_ok hh
      replace hb := bthen hb hb3
      clear hh x0 x1 hb3 hf hbx
      generalize sentM a0 l0 = x at *
      generalize x.length = xn at *
      go_wp2_with fail
      refine (Unstuff_any Ab xn cb x _ hrb (by omega)).mono ?_
      rw [hun]
      rintro e w4 ⟨v4, rfl, ho4, hb4⟩
      simp only at ho4 ⊢
      have hs3 := hb.size
      replace hb := bthen hb hb4
      obtain ⟨g4, c4, hv, hg4, hc4, hm4⟩ := ho4.head (by rw [hsl]; omega)
      rw [hsl] at hv hc4
      subst hv
      clear hun hrb hb4
      have Hsl := Lib.hid hsl
      generalize hX : sealM p = X at *
      clear hX
      have hxk : X[k]? = some (X[k]'(by rw [hsl]; omega)) := List.getElem?_eq_getElem _
      generalize X[k]'(by rw [hsl]; omega) = xk at *
      have hread := read_turned X k xk hxk hcs (by omega)
      have hc := ho4.cellAt hxk
      have hfz := ho4.freeAt k
      have hput := ho4.put k (!xk)
      have hbp := hb.setCell (p := ⟨g4, k, none⟩) (Nat.le_trans hs3 hg4) (.bool (!xk))
      have t2 : decide (19 + 8 * (n0 : Int) + 15 ≤ (k : Int)) = false := by simp; omega
      have hlen : (X.set k (!xk)).length = 19 + 8 * n0 + 15 := by simp [Hsl.out]
      have Hread := Lib.hid hread
      clear hread hsl hxk
      go_wp2_with fail
      refine (Stuff_any (some ⟨g4, 0, none⟩) (19 + 8 * n0 + 15) c4 _ _ hput.rd (by omega)).mono ?_
      intro e w5 hh
      obtain ⟨A5, c5, rfl, ho5, hb5⟩ := Ow.sl hh
      have hr5 := ho5.rd
      have hl5 := stuffM_len (X.set k (!xk))
      rw [hlen] at hl5
      replace hb := bthen hbp hb5
      clear hh ho5 hput hbp hc hfz hb5 hlen
      have Hr := Lib.hid Hread
      generalize stuffM (X.set k (!xk)) = y at *
      generalize y.length = yn at *
      go_wp2_with fail
      refine (Read_any A5 yn c5 y _ hr5 (by omega)).mono ?_
      rw [Hread.out]
      rintro e w6 ⟨A6, c6, rfl, ho6, hb6⟩
      simp only [List.length_nil] at ho6 ⊢
      replace hb := bthen hb hb6
      clear ho6 hb6
      go_wp2
      go_ret
      exact ⟨rfl, hb.alloc hb.size _⟩
    · by_cases h0' : a1 < 0
      · clear ha
        go_wp2
        go_ret
        exact ⟨rfl, hb⟩
      · have t0 : decide (a1 < 0) = false := by simpa using h0'
        have t1 : decide (19 + 8 * (n0 : Int) ≤ a1) = true := by simp; omega
        clear ha h0'
        go_wp2
        go_ret
        exact ⟨rfl, hb⟩
  · go_wp2_with fail
    refine (Plain_bad a0 A0 n0 c0 _ hf (by omega)).mono ?_
    rintro e w2 ⟨rfl, hb2⟩
    replace hb := bthen hb hb2
    clear x0 x1 hf hb2
    go_wp2
    go_ret
    exact ⟨rfl, hb⟩

set_option maxHeartbeats 2000000 in
theorem FrameApart_walk (a0 : Int) (A0 : Option Addr) (n0 c0 : Nat) (l0 : List Int) (a1 : Int) (A1 : Option Addr) (n1 c1 : Nat) (l1 : List Int) (w : World)
    (w0 : (Lit.int .i64 a0).wf = true) (h0 : Rd w 1 A0 n0 (l0.map (Value.int .u8))) (v0 : ∀ x ∈ l0, (Lit.int .u8 x).wf = true) (k0 : n0 ≤ c0) (b0 : c0 * 1 ≤ 140737488351232)
    (w1 : (Lit.int .i64 a1).wf = true) (h1 : Rd w 1 A1 n1 (l1.map (Value.int .u8))) (v1 : ∀ x ∈ l1, (Lit.int .u8 x).wf = true) (k1 : n1 ≤ c1) (b1 : c1 * 1 ≤ 140737488351232) :
    Calls Try.prog 7 #[frameV a0 A0 n0 c0, frameV a1 A1 n1 c1] w fun e w' => e = .returned (.bool true) ∧ Below w.heap.size w w' := by
  have q0 : Byte8 l0 := fun x hx => by have := wf_u8 (v0 x hx); omega
  have q1 : Byte8 l1 := fun x hx => by have := wf_u8 (v1 x hx); omega
  have hl0 := h0.lenMap
  have hl1 := h1.lenMap
  clear w0 v0 w1 v1
  go_enter Try.func7, Try.ntmps7
  go_wp2_with fail
  refine (alive4_any _).mono ?_
  rintro e w2 ⟨rfl, hb⟩
  have hbf : Box w2 w.heap.size 24 [.int .i64 a0, .slice A0 n0 c0] := ((Box.new w _ _).alloc _).below hb (by simp; omega)
  have hbg : Box w2 (w.heap.size + 1) 24 [.int .i64 a1, .slice A1 n1 c1] := by
    have := Box.new (w.alloc (.cells #[.int .i64 a0, .slice A0 n0 c0] 24)) 24 [.int .i64 a1, .slice A1 n1 c1]
    simp at this
    exact this.below hb (by simp)
  replace hb := below_new (below_new hb)
  have x0 := Box.cell hbf 0 rfl
  have x1 := Box.cell hbf 1 rfl
  have y0 := Box.cell hbg 0 rfl
  have y1 := Box.cell hbg 1 rfl
  by_cases hf : FrameOk a0 n0 ∧ FrameOk a1 n1
  · obtain ⟨hf, hg⟩ := hf
    have hinj := sent_inj a0 a1 l0 l1 (by rw [hl0]; exact hf) (by rw [hl1]; exact hg) q0 q1
    have hsx := sent_length a0 l0
    have hsy := sent_length a1 l1
    rw [hl0] at hsx
    rw [hl1] at hsy
    have hn8 := hf.2.2
    have hm8 := hg.2.2
    go_wp2_with fail
    refine (Write_ok a0 A0 n0 c0 l0 _ (h0.below hb) q0 hf).mono ?_
    intro e w3 hh
    obtain ⟨Ax, cx, rfl, hrx, hb3, _, _⟩ := gives_ok hh
    replace hbf := hbf.below hb3 hbf.lt
    replace hbg := hbg.below hb3 hbg.lt
    replace hb := bthen hb hb3
    clear x0 x1 y0 y1 hb3 hh
    have y0 := Box.cell hbg 0 rfl
    have y1 := Box.cell hbg 1 rfl
    go_wp2_with fail
    refine (Write_ok a1 A1 n1 c1 l1 _ (h1.below hb) q1 hg).mono ?_
    intro e w4 hh
    obtain ⟨Ay, cy, rfl, hry, hb4, _, _⟩ := gives_ok hh
    replace hbf := hbf.below hb4 hbf.lt
    replace hbg := hbg.below hb4 hbg.lt
    replace hb := bthen hb hb4
    replace hrx := hrx.below hb4
    clear y0 y1 hb4 hh hf hg hl0 hl1
    generalize sentM a0 l0 = x at *
    generalize sentM a1 l1 = y at *
    have Hinj := Lib.hid hinj
    clear hinj
    generalize hxl : x.length = xn at *
    generalize hyl : y.length = yn at *
    have Hxl := Lib.hid hxl
    have Hyl := Lib.hid hyl
    clear hxl hyl
    rcases Nat.lt_or_ge yn xn with hmin | hmin
    · go_wp2
      go_loopw [9, 39] (fun sv i wr => ∃ (k : Nat) (b : Bool), k ≤ yn ∧ i = .int .i64 k ∧ sv = .bool b ∧ (b = true ↔ xn = yn ∧ x.take k = y.take k) ∧ ∃ q, wr = w4.drewN q) (fun _ i _ => yn - (intOf i).toNat)
      case atStart => exact ⟨0, ((xn : Int) == (yn : Int)), Nat.zero_le _, rfl, rfl, by simp <;> omega, 0, rfl⟩
      case round =>
        obtain ⟨k, b, hk, rfl, rfl, hbk, q, rfl⟩ := hrel
        have Hbk := Lib.hid hbk
        clear hbk
        by_cases hlt : k < yn
        · obtain ⟨ax, bx, hax, hxk, hcx⟩ := hrx.atMap (k := k) (by omega)
          obtain ⟨ay, by_, hay, hyk, hcy⟩ := hry.atMap (k := k) (by omega)
          subst hax hay
          have Hxk := Lib.hid hxk
          have Hyk := Lib.hid hyk
          clear hxk hyk
          cases b
          · go_wp2
            go_quiet (fail)
            go_wp2
            go_roundw
            case rel =>
              refine ⟨k + 1, false, by omega, by go_num, rfl, ?_, _, rfl⟩
              have h1 := Hbk.out
              constructor
              · intro h; cases h
              · rintro ⟨e1, e2⟩
                refine h1.2 ⟨e1, ?_⟩
                rw [take_snoc Hxk.out, take_snoc Hyk.out] at e2
                exact (List.append_inj' e2 rfl).1
            case measure => simp [intOf] <;> omega
          · go_wp2
            go_quiet (fail)
            go_wp2
            go_roundw
            case rel =>
              refine ⟨k + 1, bx == by_, by omega, by go_num, rfl, ?_, _, rfl⟩
              have h1 := Hbk.out.1 (by trivial)
              rw [take_snoc Hxk.out, take_snoc Hyk.out, h1.2, beq_iff_eq]
              constructor
              · intro h; exact ⟨h1.1, by rw [h]⟩
              · rintro ⟨_, e2⟩
                have := (List.append_inj' e2 rfl).2
                simpa using this
            case measure => simp [intOf] <;> omega
        · have hkM : k = yn := by omega
          subst hkM
          have hb4 : Below w4.heap.size w4 (w4.drewN q) := below_draws ⟨_, rfl⟩
          have x0 := Box.cell (hbf.below hb4 hbf.lt) 0 rfl
          have x1 := Box.cell (hbf.below hb4 hbf.lt) 1 rfl
          have y0 := Box.cell (hbg.below hb4 hbg.lt) 0 rfl
          have y1 := Box.cell (hbg.below hb4 hbg.lt) 1 rfl
          have hbq := bthen hb hb4
          have Hb : Hid (b = decide (a0 = a1 ∧ l0 = l1)) := by
            show _ = _
            have h1 := Hbk.out
            rw [Bool.eq_iff_iff, h1, decide_eq_true_iff, ← Hinj.out]
            constructor
            · rintro ⟨e1, e2⟩
              rw [List.take_of_length_le (by rw [Hxl.out]; omega), List.take_of_length_le (by rw [Hyl.out]; omega)] at e2
              exact e2
            · intro e
              subst e
              exact ⟨Hxl.out.symm.trans Hyl.out, rfl⟩
          go_wp2_with fail
          refine (SameFrame_any a0 a1 A0 A1 n0 c0 n1 c1 l0 l1 _ (h0.below hbq) (h1.below hbq) q0 q1).mono ?_
          rintro e w5 ⟨rfl, hb5⟩
          go_wp2
          go_ret
          exact ⟨ret_bool (by rw [Hb.out]; simp), bthen hbq hb5⟩
    · have hmin' : ¬ yn < xn := by omega
      go_wp2
      go_loopw [9, 39] (fun sv i wr => ∃ (k : Nat) (b : Bool), k ≤ xn ∧ i = .int .i64 k ∧ sv = .bool b ∧ (b = true ↔ xn = yn ∧ x.take k = y.take k) ∧ ∃ q, wr = w4.drewN q) (fun _ i _ => xn - (intOf i).toNat)
      case atStart => exact ⟨0, ((xn : Int) == (yn : Int)), Nat.zero_le _, rfl, rfl, by simp <;> omega, 0, rfl⟩
      case round =>
        obtain ⟨k, b, hk, rfl, rfl, hbk, q, rfl⟩ := hrel
        have Hbk := Lib.hid hbk
        clear hbk
        by_cases hlt : k < xn
        · obtain ⟨ax, bx, hax, hxk, hcx⟩ := hrx.atMap (k := k) (by omega)
          obtain ⟨ay, by_, hay, hyk, hcy⟩ := hry.atMap (k := k) (by omega)
          subst hax hay
          have Hxk := Lib.hid hxk
          have Hyk := Lib.hid hyk
          clear hxk hyk
          cases b
          · go_wp2
            go_quiet (fail)
            go_wp2
            go_roundw
            case rel =>
              refine ⟨k + 1, false, by omega, by go_num, rfl, ?_, _, rfl⟩
              have h1 := Hbk.out
              constructor
              · intro h; cases h
              · rintro ⟨e1, e2⟩
                refine h1.2 ⟨e1, ?_⟩
                rw [take_snoc Hxk.out, take_snoc Hyk.out] at e2
                exact (List.append_inj' e2 rfl).1
            case measure => simp [intOf] <;> omega
          · go_wp2
            go_quiet (fail)
            go_wp2
            go_roundw
            case rel =>
              refine ⟨k + 1, bx == by_, by omega, by go_num, rfl, ?_, _, rfl⟩
              have h1 := Hbk.out.1 (by trivial)
              rw [take_snoc Hxk.out, take_snoc Hyk.out, h1.2, beq_iff_eq]
              constructor
              · intro h; exact ⟨h1.1, by rw [h]⟩
              · rintro ⟨_, e2⟩
                have := (List.append_inj' e2 rfl).2
                simpa using this
            case measure => simp [intOf] <;> omega
        · have hkM : k = xn := by omega
          subst hkM
          have hb4 : Below w4.heap.size w4 (w4.drewN q) := below_draws ⟨_, rfl⟩
          have x0 := Box.cell (hbf.below hb4 hbf.lt) 0 rfl
          have x1 := Box.cell (hbf.below hb4 hbf.lt) 1 rfl
          have y0 := Box.cell (hbg.below hb4 hbg.lt) 0 rfl
          have y1 := Box.cell (hbg.below hb4 hbg.lt) 1 rfl
          have hbq := bthen hb hb4
          have Hb : Hid (b = decide (a0 = a1 ∧ l0 = l1)) := by
            show _ = _
            have h1 := Hbk.out
            rw [Bool.eq_iff_iff, h1, decide_eq_true_iff, ← Hinj.out]
            constructor
            · rintro ⟨e1, e2⟩
              rw [List.take_of_length_le (by rw [Hxl.out]; omega), List.take_of_length_le (by rw [Hyl.out]; omega)] at e2
              exact e2
            · intro e
              subst e
              exact ⟨Hxl.out.symm.trans Hyl.out, rfl⟩
          go_wp2_with fail
          refine (SameFrame_any a0 a1 A0 A1 n0 c0 n1 c1 l0 l1 _ (h0.below hbq) (h1.below hbq) q0 q1).mono ?_
          rintro e w5 ⟨rfl, hb5⟩
          go_wp2
          go_ret
          exact ⟨ret_bool (by rw [Hb.out]; simp), bthen hbq hb5⟩
  · have hor : (wrongM a0 n0 != 0) = true ∨ (wrongM a0 n0 != 0) = false ∧ (wrongM a1 n1 != 0) = true := by
      unfold wrongM
      by_cases h1 : FrameOk a0 n0
      · have h2 : ¬ FrameOk a1 n1 := fun h => hf ⟨h1, h⟩
        simp [h1, h2]
      · simp [h1]
    clear hf
    go_wp2_with fail
    refine (Write_any a0 A0 n0 c0 l0 _ (h0.below hb) q0 (by omega)).mono ?_
    rintro e w3 ⟨Ax, cx, rfl, hrx, hb3, _, _⟩
    replace hbg := hbg.below hb3 hbg.lt
    replace hb := bthen hb hb3
    clear x0 x1 y0 y1 hb3 hrx
    have y0 := Box.cell hbg 0 rfl
    have y1 := Box.cell hbg 1 rfl
    generalize (writeM a0 l0).length = xn at *
    go_wp2_with fail
    refine (Write_any a1 A1 n1 c1 l1 _ (h1.below hb) q1 (by omega)).mono ?_
    rintro e w4 ⟨Ay, cy, rfl, hry, hb4, _, _⟩
    replace hb := bthen hb hb4
    clear y0 y1 hb4 hry
    generalize (writeM a1 l1).length = yn at *
    generalize wrongM a0 n0 = e0 at *
    generalize wrongM a1 n1 = e1 at *
    rcases hor with ht | ⟨ht, ht'⟩
    · go_wp2
      go_ret
      exact ⟨rfl, hb⟩
    · go_wp2
      go_ret
      exact ⟨rfl, hb⟩
end Go.Proofs.Ytepogmnodmoebaa
