/-
  slices.Equal of the same tasks; the walk of RmsTells: it returns true, at every argument.
-/
import Derived.Test.YtajfohnblmnjjaaRmsLaws
import Derived.Test.YtajfohnblmnjjaaRmsRef
import Derived.Test.YtajfohnblmnjjaaRmsRef3
import Derived.Test.YtajfohnblmnjjaaRtaRef
namespace Go.Proofs.Ytajfohnblmnjjaa
open Go.RowKit
set_option linter.unusedVariables false
set_option maxRecDepth 20000

set_option maxHeartbeats 400000 in
theorem EqualK_same (A B : Option Addr) (n c d : Nat) (L : List Tk) (w : World) (h : RdG tkC 2 w A n L) (h' : RdG tkC 2 w B n L) (hn : n ≤ 4611686018427387904) :
    Calls Try.prog 18 #[.slice A n c, .slice B n d] w fun e w' => e = .returned (.bool true) ∧ ∃ q, w' = w.drewN q := by
  go_enter Try.func18, Try.ntmps18
  go_wp2
  go_loopw [13] (fun i wr => ∃ k : Nat, k ≤ n ∧ i = .int .i64 k ∧ ∃ q, wr = w.drewN q) (fun i _ => n - (intOf i).toNat)
  case atStart => exact ⟨0, Nat.zero_le _, rfl, 0, rfl⟩
  case round =>
    obtain ⟨k, hk, rfl, q, rfl⟩ := hrel
    by_cases hlt : k < n
    · obtain ⟨ad, p, t, rfl, hx, m0, m1⟩ := tk_at h hlt
      obtain ⟨ad', p', t', rfl, hx', m0', m1'⟩ := tk_at h' hlt
      rw [hx] at hx'
      injection hx' with hx'
      injection hx' with e1 e2
      subst e1 e2
      clear hx
      go_wp2
      go_quiet (fail)
      go_wp2
      go_roundw
      case rel => exact ⟨k + 1, by omega, by go_num, _, rfl⟩
      case measure => simp [intOf] <;> omega
    · obtain rfl : k = n := by omega
      go_wp2
      go_ret
      exact ⟨rfl, _, rfl⟩
theorem GivesSort.good {M : List Tk} {w w' : World} {e : Ending} (h : GivesSort (M.map Tk.asT) w e w') (hM : GoodK M) : ∃ v, e = .returned (.tuple #[v, .int .i64 0]) ∧ OwG tkC 2 w' w.heap.size 38 v (sortT M) ∧ Below w.heap.size w w' := by
  rcases h with ⟨⟨hw, _⟩ | ⟨M', v, hL, _, he, ho⟩, hb⟩
  · rw [good_not hM] at hw; cases hw
  · obtain rfl := asT_inj hL
    exact ⟨v, he, ho, hb⟩
theorem GivesSort.wrong {L : List Tsk} {w w' : World} {e : Ending} (h : GivesSort L w e w') (hL : wrongK L = true) : e = .returned (.tuple #[.slice none 0 0, .int .i64 2]) ∧ Below w.heap.size w w' := by
  rcases h with ⟨⟨_, he⟩ | ⟨M', v, rfl, hg, _⟩, hb⟩
  · exact ⟨he, hb⟩
  · rw [good_not hg] at hL; cases hL
theorem end_num {pre : List Tk} {t : Tk} {x : Int} (ht : 1 ≤ t.c) (h : EndNum pre t x) : 0 < x ↔ ∃ R, EndIs pre t R := by
  rcases h with ⟨r, rfl, hr⟩ | ⟨rfl, hn⟩
  · have := hr.lo
    exact ⟨fun _ => ⟨r, hr⟩, fun _ => by omega⟩
  · refine ⟨fun h => by omega, fun ⟨R, hR⟩ => ?_⟩
    exact absurd hR.fix (hn R hR.lo hR.hi)
set_option maxHeartbeats 6400000 in
theorem RmsTells_walk (A0 : Option Addr) (n0 c0 : Nat) (l0 : List Tsk) (w : World) (h0 : RdG tskC 2 w A0 n0 l0) (q0 : ∀ s ∈ l0, in64 s.p ∧ in64 s.c) (k0 : n0 ≤ c0) (b0 : c0 * 16 ≤ 140737488351232) :
    Calls Try.prog 3 #[.slice A0 n0 c0] w fun e w' => e = .returned (.bool true) ∧ Below w.heap.size w w' := by
  have C1 := Lib.hid (fun (W : World) (h : RdG tskC 2 W A0 n0 l0) => Use_any A0 n0 c0 l0 W h (by omega))
  have C2 := Lib.hid (fun (W : World) (h : RdG tskC 2 W A0 n0 l0) => Sure_any A0 n0 c0 l0 W h (by omega))
  have C3 := Lib.hid (fun (W : World) (h : RdG tskC 2 W A0 n0 l0) => Sort_any A0 n0 c0 l0 W h (by omega))
  have C4 := Lib.hid (fun (W : World) (h : RdG tskC 2 W A0 n0 l0) => Fit_any A0 n0 c0 l0 W h (by omega))
  have C5 := Lib.hid (fun (W : World) (h : RdG tskC 2 W A0 n0 l0) => SWrong_any A0 n0 c0 l0 W h (by omega))
  clear q0
  cases hw : wrongK l0
  · rw [errK_zero hw] at C5
    obtain ⟨M, rfl, hM⟩ := good_of hw
    have hl : M.length = n0 := by have := RdG.len tskK h0; simpa using this
    subst hl
    have hn16 := hM.len
    replace C1 := Lib.hid (fun (W : World) h => (C1.out W h).mono fun e w' hg => hg.good hM)
    replace C2 := Lib.hid (fun (W : World) h => (C2.out W h).mono fun e w' hg => hg.good hM)
    replace C3 := Lib.hid (fun (W : World) h => (C3.out W h).mono fun e w' hg => hg.good hM)
    replace C4 := Lib.hid (fun (W : World) h => (C4.out W h).mono fun e w' hg => hg.good hM)
    have C6 := Lib.hid (fun (W : World) (h : RdG tkC 2 W A0 M.length M) => TUse_any A0 M.length c0 M hM W h)
    have C7 := Lib.hid (fun (W : World) (h : RdG tkC 2 W A0 M.length M) => TSort_any A0 M.length c0 M hM W h)
    have C8 := Lib.hid (fun (W : World) (h : RdG tkC 2 W A0 M.length M) => TSure_any A0 M.length c0 M hM W h)
    have HSG := Lib.hid (sort_good hM)
    have hSl : (sortT M).length = M.length := (sort_perm M).length_eq
    have HF := Lib.hid (fit_sorted hM.okL)
    have Hrk : Hid (∀ W, RdG tskC 2 W A0 M.length (M.map Tk.asT) → RdG tkC 2 W A0 M.length M) := fun W h => tk_rd h
    generalize hse : sortT M = S at *
    generalize hme : M.length = n at *
    have HSl := Lib.hid hSl
    clear hM hw hse hSl
    generalize decide (prodA M ≤ 2 * useD M) = sv at *
    go_enter Try.func3, Try.ntmps3
    go_wp2_with fail
    refine (C1.out _ h0).mono ?_
    rintro e w1 ⟨ua, ub, ux, rfl, hu, hb1⟩
    clear C1
    go_upto_region 2 with fail
    have hbU := Box.new w1 24 [.int .i64 ua, .int .i64 ub]
    have hB1 := bthen hb1 (below_one (w := w1) (.cells #[.int .i64 ua, .int .i64 ub] 24))
    replace hbU : Box (w1.alloc (.cells #[.int .i64 ua, .int .i64 ub] 24)) w1.heap.size 24 [.int .i64 ua, .int .i64 ub] := hbU
    clear hb1
    generalize w1.alloc (.cells #[.int .i64 ua, .int .i64 ub] 24) = w2 at *
    generalize w1.heap.size = bu at *
    go_wp2_with fail
    refine (C2.out _ (h0.below hB1)).mono ?_
    rintro e w3 ⟨rfl, hb3⟩
    have hB3 := bthen hB1 hb3
    have hU3 := hbU.below hb3 hbU.lt
    clear C2 hB1 hb3 hbU
    go_wp2_with fail
    refine (C3.out _ (h0.below hB3)).mono ?_
    rintro e w4 ⟨o, rfl, ho4, hb4⟩
    have hB4 := bthen hB3 hb4
    have hU4 := hU3.below hb4 hU3.lt
    obtain ⟨Ao, co, rfl, _, _, ro4⟩ := ho4.formN HSl.out
    clear C3 hB3 hb4 hU3 ho4
    go_wp2_with fail
    refine (C4.out _ (h0.below hB4)).mono ?_
    rintro e w5 ⟨fb, rfl, hf, hb5⟩
    have hB5 := bthen hB4 hb5
    have hU5 := hU4.below hb5 hU4.lt
    have ro5 := Rd.below ro4 hb5
    clear C4 hB4 hb5 hU4 ro4
    go_wp2_with fail
    refine (C5.out _ (h0.below hB5)).mono ?_
    rintro e w6 ⟨rfl, hb6⟩
    have hB6 := bthen hB5 hb6
    have hU6 := hU5.below hb6 hU5.lt
    have ro6 := Rd.below ro5 hb6
    clear C5 hB5 hb6 hU5 ro5
    go_wp2_with fail
    refine (C6.out _ (Hrk.out _ (h0.below hB6))).mono ?_
    rintro e w7 ⟨va, vb, vx, rfl, hv, hb7⟩
    have hB7 := bthen hB6 hb7
    have hU7 := hU6.below hb7 hU6.lt
    have ro7 := Rd.below ro6 hb7
    have hsame : ua = va ∧ ub = vb ∧ ux = vx := by
      rcases hu.out with ⟨x1, rfl, rfl, rfl⟩ | ⟨x1, rfl, rfl, rfl⟩
      · rcases hv.out with ⟨y1, rfl, rfl, rfl⟩ | ⟨y1, _⟩
        · exact ⟨rfl, rfl, rfl⟩
        · rw [x1] at y1; cases y1
      · rcases hv.out with ⟨y1, _⟩ | ⟨y1, rfl, rfl, rfl⟩
        · rw [x1] at y1; cases y1
        · exact ⟨rfl, rfl, rfl⟩
    obtain ⟨rfl, rfl, rfl⟩ := hsame
    clear C6 hB6 hb7 hU6 ro6 hu hv
    go_upto_region 9 with fail
    have hbV := Box.new w7 24 [.int .i64 ua, .int .i64 ub]
    have hB8 := bthen hB7 (below_one (w := w7) (.cells #[.int .i64 ua, .int .i64 ub] 24))
    have ro8 := Rd.below ro7 (below_one (w := w7) (.cells #[.int .i64 ua, .int .i64 ub] 24))
    have hU8 := hU7.alloc (.cells #[.int .i64 ua, .int .i64 ub] 24)
    replace hbV : Box (w7.alloc (.cells #[.int .i64 ua, .int .i64 ub] 24)) w7.heap.size 24 [.int .i64 ua, .int .i64 ub] := hbV
    clear hB7 hU7 ro7
    generalize w7.alloc (.cells #[.int .i64 ua, .int .i64 ub] 24) = w8 at *
    generalize w7.heap.size = bv at *
    go_wp2_with fail
    refine (C7.out _ (Hrk.out _ (h0.below hB8))).mono ?_
    rintro e w9 ⟨v, rfl, ho9, hb9⟩
    obtain ⟨Av, cv, rfl, hcv, _, rv9⟩ := ho9.formN HSl.out
    have hB9 := bthen hB8 hb9
    have hU9 := hU8.below hb9 hU8.lt
    have hV9 := hbV.below hb9 hbV.lt
    have ro9 := Rd.below ro8 hb9
    have CE := Lib.hid (fun (W : World) (hW : Below w9.heap.size w9 W) => EqualK_same Ao Av n co cv S W (Rd.below ro9 hW) (Rd.below rv9 hW) (by omega))
    have CN := Lib.hid (fun (W : World) (hW : Below w9.heap.size w9 W) (k p t : Nat) (hk : S[k]? = some ⟨p, t⟩) => SEnd_any Av n cv S HSG.out k p t hk W (Rd.below rv9 hW) hcv)
    have C8' := Lib.hid (fun (W : World) (hW : Below w9.heap.size w9 W) => C8.out W (Hrk.out _ (h0.below (bthen hB9 hW))))
    have hUV : Hid (∀ W, Below w9.heap.size w9 W → Box W bu 24 [.int .i64 ua, .int .i64 ub] ∧ Box W bv 24 [.int .i64 ua, .int .i64 ub]) := fun W hW => ⟨hU9.below hW hU9.lt, hV9.below hW hV9.lt⟩
    clear C7 C8 hB8 hb9 hU8 hbV ro8 ho9 ro9 rv9 hU9 hV9 h0 Hrk
    go_upto_region 12 with fail
    go_loopw [86, 15] (fun i f wr => ∃ (k : Nat) (g : Bool), k ≤ n ∧ i = .int .i64 k ∧ f = .bool g ∧ Hid (g = true ↔ ∀ j, j < k → ∀ t, S[j]? = some t → ∃ R, EndIs (S.take j) t R) ∧ Below w9.heap.size w9 wr) (fun i _ _ => n - (intOf i).toNat)
    case atStart => exact ⟨0, true, Nat.zero_le _, rfl, rfl, ⟨fun _ j hj => by omega, fun _ => rfl⟩, Below.refl _ _⟩
    case round =>
      obtain ⟨k, g, hk, rfl, rfl, hg, hbl⟩ := hrel
      by_cases hlt : k < n
      · obtain ⟨⟨p, t⟩, hx⟩ : ∃ x, S[k]? = some x := ⟨S[k]'(by rw [HSl.out]; exact hlt), List.getElem?_eq_getElem _⟩
        have hok := HSG.out.at_ hx
        simp only at hok
        cases g
        · have HN : Hid (false = true ↔ ∀ j, j < k + 1 → ∀ t, S[j]? = some t → ∃ R, EndIs (S.take j) t R) := by
            exact ⟨fun h => (by cases h), fun h => hg.out.2 fun j hj => h j (by omega)⟩
          clear hx hg
          go_wp2
          go_roundw
          case rel => exact ⟨k + 1, false, by omega, by go_num, rfl, HN, hbl⟩
          case measure => simp [intOf] <;> omega
        · have CK := Lib.hid (CN.out wr hbl k p t hx)
          have HX := Lib.hid hx
          clear hx
          go_wp2_with fail
          refine CK.out.mono ?_
          rintro e w10 ⟨x, rfl, hen, _, _, hb10⟩
          have HE := Lib.hid (end_num (t := ⟨p, t⟩) hok.1 hen.out)
          have HN : Hid (decide (0 < x) = true ↔ ∀ j, j < k + 1 → ∀ t, S[j]? = some t → ∃ R, EndIs (S.take j) t R) := by
            show _ ↔ _
            rw [decide_eq_true_iff, HE.out]
            constructor
            · intro h j hj u hu
              rcases Nat.lt_or_ge j k with hjk | hjk
              · exact hg.out.1 (by first | trivial | rfl) j hjk u hu
              · have : j = k := by omega
                subst this
                rw [HX.out] at hu
                injection hu with hu
                subst hu
                exact h
            · intro h
              exact h k (by omega) _ HX.out
          clear CK hen HE hg
          go_wp2
          go_roundw
          case rel => exact ⟨k + 1, decide (0 < x), by omega, by go_num, rfl, HN, bthen hbl hb10⟩
          case measure => simp [intOf] <;> omega
      · have hkn : k = n := by omega
        subst hkn
        have hgf : g = fb := by
          have h1 : g = true ↔ AllEnd S := by
            rw [hg.out]
            constructor
            · intro h j t hj
              exact h j (by have := (List.getElem?_eq_some_iff.1 hj).1; rw [HSl.out] at this; exact this) t hj
            · intro h j _ t hj
              exact h j t hj
          have h2 : g = true ↔ fb = true := h1.trans (HF.out.trans hf.out.symm)
          cases g <;> cases fb <;> simp_all
        subst hgf
        have CS := C8'.out wr hbl
        have hBr := bthen hB9 hbl
        have hUr := hUV.out wr hbl
        have u0 := hUr.1.cell 0 rfl
        have u1 := hUr.1.cell 1 rfl
        have v0 := hUr.2.cell 0 rfl
        have v1 := hUr.2.cell 1 rfl
        have HCS := Lib.hid CS
        clear hg hf HF CN C8' hUV CS hUr hlt HSG
        go_wp2_with fail
        refine HCS.out.mono ?_
        rintro e w11 ⟨rfl, hb11⟩
        have CQ := Lib.hid (CE.out w11 (bthen hbl hb11))
        clear HCS CE u0 u1 v0 v1
        go_wp2_with fail
        refine CQ.out.mono ?_
        rintro e w12 ⟨rfl, q, rfl⟩
        go_wp2
        go_ret
        exact ⟨ret_bool (by simp), bthen hBr (bthen hb11 (below_draws ⟨_, rfl⟩))⟩
  · rw [errK_two hw] at C5
    replace C1 := Lib.hid (fun (W : World) h => (C1.out W h).mono fun e w' hg => hg.wrong hw)
    replace C2 := Lib.hid (fun (W : World) h => (C2.out W h).mono fun e w' hg => hg.wrong hw)
    replace C3 := Lib.hid (fun (W : World) h => (C3.out W h).mono fun e w' hg => hg.wrong hw)
    replace C4 := Lib.hid (fun (W : World) h => (C4.out W h).mono fun e w' hg => hg.wrong hw)
    clear hw
    go_enter Try.func3, Try.ntmps3
    go_wp2_with fail
    refine (C1.out _ h0).mono ?_
    rintro e w1 ⟨rfl, hb1⟩
    clear C1
    go_upto_region 2 with fail
    have hbU := Box.new w1 24 [.int .i64 0, .int .i64 0]
    have hB1 := bthen hb1 (below_one (w := w1) (.cells #[.int .i64 0, .int .i64 0] 24))
    replace hbU : Box (w1.alloc (.cells #[.int .i64 0, .int .i64 0] 24)) w1.heap.size 24 [.int .i64 0, .int .i64 0] := hbU
    clear hb1
    generalize w1.alloc (.cells #[.int .i64 0, .int .i64 0] 24) = w2 at *
    generalize w1.heap.size = bu at *
    go_wp2_with fail
    refine (C2.out _ (h0.below hB1)).mono ?_
    rintro e w3 ⟨rfl, hb3⟩
    have hB3 := bthen hB1 hb3
    have hU3 := hbU.below hb3 hbU.lt
    clear C2 hB1 hb3 hbU
    go_wp2_with fail
    refine (C3.out _ (h0.below hB3)).mono ?_
    rintro e w4 ⟨rfl, hb4⟩
    have hB4 := bthen hB3 hb4
    have hU4 := hU3.below hb4 hU3.lt
    clear C3 hB3 hb4 hU3
    go_wp2_with fail
    refine (C4.out _ (h0.below hB4)).mono ?_
    rintro e w5 ⟨rfl, hb5⟩
    have hB5 := bthen hB4 hb5
    have hU5 := hU4.below hb5 hU4.lt
    clear C4 hB4 hb5 hU4
    go_wp2_with fail
    refine (C5.out _ (h0.below hB5)).mono ?_
    rintro e w6 ⟨rfl, hb6⟩
    have hB6 := bthen hB5 hb6
    have hU6 := hU5.below hb6 hU5.lt
    have u0 := hU6.cell 0 rfl
    have u1 := hU6.cell 1 rfl
    clear C5 hB5 hb6 hU5
    go_wp2
    go_ret
    exact ⟨rfl, hB6⟩
end Go.Proofs.Ytajfohnblmnjjaa
