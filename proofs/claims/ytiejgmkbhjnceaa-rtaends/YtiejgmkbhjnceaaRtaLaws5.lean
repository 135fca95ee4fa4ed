/-
  The walk of RtaEnds: it returns true, at every argument.
-/
import Derived.Test.YtiejgmkbhjnceaaRtaGives
import Derived.Test.YtiejgmkbhjnceaaRtaRef2
namespace Go.Proofs.Ytiejgmkbhjnceaa
open Go.RowKit
set_option linter.unusedVariables false

section
variable {M : List Tk} {n : Nat} {w w' : World} {e : Ending}
theorem GivesEnds.good (h : GivesEnds (M.map Tk.asT) w e w') (hM : Good M) (hn : M.length = n) : (∃ A m c x, e = .returned (.tuple #[.slice A m c, .int .i64 x]) ∧ m ≤ n ∧ Hid ((NoEnds M ∧ x = 4 ∧ m = 0) ∨ ∃ R, EndsAre M R ∧ x = 0 ∧ m = n ∧ Rd w' 1 A n ((natL R).map (Value.int .i64)))) ∧ Below w.heap.size w w' := by
  subst hn
  rcases ends_dec M with ⟨R, hR⟩ | hN
  · obtain ⟨A, c, e1, h1, h2, h3⟩ := h.ok hM hR
    exact ⟨⟨A, _, c, 0, e1, Nat.le_refl _, .inr ⟨R, hR, rfl, rfl, h1⟩⟩, h3⟩
  · obtain ⟨e1, h3⟩ := h.full hM hN
    exact ⟨⟨none, 0, 0, 4, e1, Nat.zero_le _, .inl ⟨hN, rfl, rfl⟩⟩, h3⟩
theorem GivesRun.good {long : Int} (h : GivesRun (M.map Tk.asT) long w e w') (hM : Good M) (hn : M.length = n) : (∃ A m c B m' d x, e = .returned (.tuple #[.slice A m c, .slice B m' d, .int .i64 x]) ∧ m ≤ n ∧ m' ≤ 400 ∧ Hid (((long < 0 ∨ 400 < long) ∧ x = 2 ∧ m = 0 ∧ m' = 0) ∨ (∃ N : Nat, long = N ∧ N ≤ 400 ∧ x = 0 ∧ m = n ∧ m' = N ∧ Rd w' 1 A n ((firstL M N).map (Value.int .i64)) ∧ Rd w' 1 B N ((ranL M N).map (Value.int .i64))))) ∧ Below w.heap.size w w' := by
  subst hn
  by_cases hb : long < 0 ∨ 400 < long
  · obtain ⟨e1, h3⟩ := h.wrong (.inr hb)
    exact ⟨⟨none, 0, 0, none, 0, 0, 2, e1, Nat.zero_le _, Nat.zero_le _, .inl ⟨hb, rfl, rfl, rfl⟩⟩, h3⟩
  · obtain ⟨N, rfl⟩ := Int.eq_ofNat_of_zero_le (show 0 ≤ long by omega)
    obtain ⟨A, B, c, d, e1, h1, h2, h3⟩ := h.ok hM (show N ≤ 400 by omega)
    exact ⟨⟨A, _, c, B, N, d, 0, e1, Nat.le_refl _, by omega, .inr ⟨N, rfl, by omega, rfl, rfl, rfl, h1, h2⟩⟩, h3⟩
end
/-- What the reference gathered for the first k. -/
structure Nums (M : List Tk) (k : Nat) (b : Bool) (W : List Int) : Prop where
  len : W.length = k
  at_ : ∀ i t x, i < k → M[i]? = some t → W[i]? = some x → EndNum (M.take i) t x
  any : b = W.any fun x => decide (x < 0)
theorem Nums.start (M : List Tk) : Nums M 0 false [] := ⟨rfl, fun i t x h => by omega, rfl⟩
theorem Nums.next {M : List Tk} {k : Nat} {b b' : Bool} {W : List Int} {t : Tk} {x : Int} (h : Nums M k b W) (hk : M[k]? = some t) (hx : EndNum (M.take k) t x) (hb : b' = (b || decide (x < 0))) : Nums M (k + 1) b' (W ++ [x]) := by
  refine ⟨by rw [List.length_append, h.len]; rfl, fun i u y hi hu hy => ?_, by rw [hb, h.any, List.any_append]; simp⟩
  by_cases e : i = k
  · subst e
    rw [hk] at hu
    cases hu
    rw [List.getElem?_append_right (by rw [h.len]; exact Nat.le_refl _), h.len, Nat.sub_self] at hy
    simp at hy
    subst hy
    exact hx
  · exact h.at_ i u y (by omega) hu (by rw [List.getElem?_append_left (by rw [h.len]; omega)] at hy; exact hy)
theorem Nums.ends {M : List Tk} {b : Bool} {W : List Int} {R : List Nat} (h : Nums M M.length b W) (hR : EndsAre M R) : b = false ∧ W = natL R := by
  have hW : W = natL R := by
    refine List.ext_getElem? fun i => ?_
    by_cases hi : i < M.length
    · have hx := List.getElem?_eq_getElem (show i < W.length by rw [h.len]; exact hi)
      obtain ⟨r, hr, he⟩ := hR.one (List.getElem?_eq_getElem hi)
      rw [hx, natL_at hr]
      rcases h.at_ i _ _ hi (List.getElem?_eq_getElem hi) hx with ⟨s, e1, e2⟩ | ⟨_, e2⟩
      · rw [e1, e2.unique he]
      · exact absurd e2 he.not_no
    · rw [List.getElem?_eq_none (by rw [h.len]; omega), List.getElem?_eq_none (by rw [natL_len, hR.len]; omega)]
  refine ⟨?_, hW⟩
  rw [h.any, hW, List.any_eq_false]
  intro x hx
  obtain ⟨r, _, rfl⟩ := List.mem_map.1 hx
  simp
theorem Nums.none {M : List Tk} {b : Bool} {W : List Int} (h : Nums M M.length b W) (hN : NoEnds M) : b = true := by
  obtain ⟨k, t, hk, hn⟩ := hN
  have hlt := (List.getElem?_eq_some_iff.1 hk).1
  have hx := List.getElem?_eq_getElem (show k < W.length by rw [h.len]; exact hlt)
  rw [h.any, List.any_eq_true]
  refine ⟨_, List.mem_of_getElem? hx, ?_⟩
  rcases h.at_ k t _ hlt hk hx with ⟨s, _, e2⟩ | ⟨e1, _⟩
  · exact absurd hn e2.not_no
  · rw [e1]; decide
set_option maxRecDepth 20000 in
set_option maxHeartbeats 1600000 in
theorem RtaEnds_walk (A0 : Option Addr) (n0 c0 : Nat) (l0 : List Tsk) (a1 : Int) (w : World) (h0 : RdG tskC 2 w A0 n0 l0) (q0 : ∀ s ∈ l0, in64 s.p ∧ in64 s.c) (k0 : n0 ≤ c0) (b0 : c0 * 16 ≤ 140737488351232) (w1 : (Lit.int .i64 a1).wf = true) :
    Calls Try.prog 3 #[.slice A0 n0 c0, .int .i64 a1] w fun e w' => e = .returned (.bool true) ∧ Below w.heap.size w w' := by
  have hl := RdG.len tskK h0
  have hn47 : n0 * 16 ≤ 140737488351232 := by omega
  obtain ⟨v1, v2⟩ := in64_wf w1
  have C1 := Lib.hid (fun (W : World) (h : RdG tskC 2 W A0 n0 l0) => Ends_any A0 n0 c0 l0 W h k0 (by omega))
  have C2 := Lib.hid (fun (W : World) (h : RdG tskC 2 W A0 n0 l0) => Run_any A0 n0 c0 l0 a1 W h k0 (by omega) ⟨v1, v2⟩)
  have C3 := Lib.hid (fun (W : World) (h : RdG tskC 2 W A0 n0 l0) => SWrong_any A0 n0 c0 l0 W h (by omega))
  have C4 := Lib.hid (fun (W : World) (h : RdG tskC 2 W A0 n0 l0) => WrongK_any A0 n0 c0 l0 W h (by omega))
  clear q0 w1
  cases hw : wrongK l0
  · rw [errK_zero hw] at C3 C4
    obtain ⟨M, rfl, hM⟩ := good_of hw
    rw [List.length_map] at hl
    replace C1 := Lib.hid (fun (W : World) h => (C1.out W h).mono fun e w' hg => hg.good hM hl)
    replace C2 := Lib.hid (fun (W : World) h => (C2.out W h).mono fun e w' hg => hg.good hM hl)
    have C5 := Lib.hid (fun (W : World) (h : RdG tkC 2 W A0 n0 M) (k p t : Nat) (hk : M[k]? = some ⟨p, t⟩) => SEnd_any A0 n0 c0 M hM k p t hk W h k0)
    have C6 := Lib.hid (fun (W : World) (h : RdG tkC 2 W A0 n0 M) (N : Nat) (hN : N ≤ 400) => SRun_any A0 n0 c0 M hM N hN W h k0)
    have hn16 : n0 ≤ 16 := by rw [← hl]; exact hM.len
    have Hl := Lib.hid hl
    clear hw hM hl
    go_enter Try.func3, Try.ntmps3
    go_wp2_with fail
    refine (C1.out _ h0).mono ?_
    rintro e w1 ⟨⟨A4, m4, c4, x4, rfl, hm4, HS4⟩, hb1⟩
    replace h0 := h0.below hb1
    go_wp2_with fail
    refine (C2.out _ h0).mono ?_
    rintro e w2 ⟨⟨A5, m5, c5, B5, m6, c6, x5, rfl, hm5, hm6, HS5⟩, hb2⟩
    replace h0 := h0.below hb2
    have hB2 := bthen hb1 hb2
    go_wp2_with fail
    refine (C3.out _ h0).mono ?_
    rintro e w3 ⟨rfl, hb3⟩
    replace h0 := h0.below hb3
    go_wp2_with fail
    refine (C4.out _ h0).mono ?_
    rintro e w4 ⟨rfl, hb4⟩
    replace h0 := h0.below hb4
    have hb34 := bthen hb3 hb4
    have hb234 := bthen hb2 hb34
    have hB4 := Lib.hid (bthen hB2 hb34)
    replace h0 := tk_rd h0
    have HP4 : Hid ((NoEnds M ∧ x4 = 4 ∧ m4 = 0) ∨ ∃ R, EndsAre M R ∧ x4 = 0 ∧ m4 = n0 ∧ Rd w4 1 A4 n0 ((natL R).map (Value.int .i64))) := by
      rcases HS4.out with h | ⟨R, a, b, c, d⟩
      · exact .inl h
      · exact .inr ⟨R, a, b, c, d.below hb234⟩
    have HP5 : Hid (((a1 < 0 ∨ 400 < a1) ∧ x5 = 2 ∧ m5 = 0 ∧ m6 = 0) ∨ (∃ N : Nat, a1 = N ∧ N ≤ 400 ∧ x5 = 0 ∧ m5 = n0 ∧ m6 = N ∧ Rd w4 1 A5 n0 ((firstL M N).map (Value.int .i64)) ∧ Rd w4 1 B5 N ((ranL M N).map (Value.int .i64)))) := by
      rcases HS5.out with h | ⟨N, a, b, c, d, e, f, g⟩
      · exact .inl h
      · exact .inr ⟨N, a, b, c, d, e, f.below hb34, g.below hb34⟩
    clear C1 C2 C3 C4 HS4 HS5 hb1 hb2 hb3 hb4 hb34 hb234 hB2
    go_wp2
    go_loopw [11, 12, 58] (fun v b i wr => ∃ (k : Nat) (bb : Bool) (W : List Int), k ≤ n0 ∧ i = .int .i64 k ∧ b = .bool bb ∧ Hid (Nums M k bb W) ∧ Ow (Value.int .i64) wr w4.heap.size 3 v W ∧ Below w4.heap.size w4 wr) (fun _ _ i _ => n0 - (intOf i).toNat)
    case atStart => exact ⟨0, false, [], Nat.zero_le _, rfl, rfl, Nums.start M, Ow.nil _ _ _ _, Below.refl _ _⟩
    case round =>
      obtain ⟨k, bb, W, hk, rfl, rfl, HN, ho, hbl⟩ := hrel
      by_cases hlt : k < n0
      · obtain ⟨⟨p, t⟩, ht⟩ : ∃ t, M[k]? = some t := ⟨_, List.getElem?_eq_getElem (by rw [Hl.out]; exact hlt)⟩
        have Ht := Lib.hid ht
        clear ht
        go_wp2_with fail
        refine (C5.out _ (h0.below hbl) k p t Ht.out).mono ?_
        rintro e w6 ⟨x, rfl, HX, hx1, hx2, hb6⟩
        replace ho := ho.below hb6
        have hbl2 := bthen hbl hb6
        have hs2 := hbl2.size
        have HN2 := Lib.hid (HN.out.next Ht.out HX.out rfl)
        have hWl := HN.out.len
        cases bb
        all_goals
          go_wp2_with (at_builtin; go_must (refine wpList_apM (Value.int .i64) _ elInt rfl rfl (one_int .i64) w4.heap.size u11 W rfl (ho.alloc (.cells #[.int .i64 x] 3)) _ 1 1 [x] rfl (Rd.oneM (Value.int .i64) w6 x 3) (by simp; omega) (by rw [hWl]; omega) (by decide) ?_; intro v' w' ho2 hm2; have hbl3 := hm2.below (hbl2.alloc hs2 (.cells #[.int .i64 x] 3)) (by simp; omega) ho.block; clear ho hm2))
          go_roundw
          case rel => exact ⟨k + 1, _, _, by omega, by go_num, rfl, HN2, ho2, hbl3⟩
          case measure => simp [intOf] <;> omega
      · obtain rfl : k = n0 := by omega
        have hHl := Hl.out
        have HN' : Hid (Nums M M.length bb W) := by show _; rw [hHl]; exact HN.out
        have hbl0 := Lib.hid hbl
        have hB7 := Lib.hid (hB4.out.trans (hbl.mono hB4.out.size))
        obtain ⟨A7, c7, rfl, hc7, -, r7⟩ := ho.formN (n := k) HN.out.len
        clear C5 ho
        rcases HP4.out with ⟨hno, rfl, rfl⟩ | ⟨R, hR, rfl, hm4', r4⟩
        · obtain rfl := HN'.out.none hno
          clear HN HN' hno HP4 hHl
          rcases HP5.out with ⟨hbad, rfl, h5, h6⟩ | ⟨N, rfl, hN, rfl, h5, h6, r5, r6⟩
          · obtain rfl := h5.symm
            obtain rfl := h6.symm
            clear HP5
            rcases hbad with hbad | hbad
            · go_wp2
              go_ret
              exact ⟨rfl, hB7.out⟩
            · go_wp2
              go_ret
              exact ⟨rfl, hB7.out⟩
          · obtain rfl := h5.symm
            obtain rfl := h6.symm
            have R5 := Lib.hid (r5.below hbl)
            have R6 := Lib.hid (r6.below hbl)
            clear HP5 r5 r6
            go_wp2_with fail
            refine (C6.out _ (h0.below hbl) N hN).mono ?_
            rintro e w8 ⟨B8, C8, d8, m8, rfl, s5, s6, hb8⟩
            have hrl := ran_length M N
            have r58 := R5.out.below hb8
            have r68 := Lib.hid (R6.out.below hb8)
            have s68 := Lib.hid s6
            have CE := Lib.hid (EqualI_any_same A5 B8 k c5 k d8 (firstL M N) w8 r58 s5 (by omega))
            clear R5 R6 r58 s5 s6 C6
            go_wp2_with fail
            refine CE.out.mono ?_
            rintro e w9 ⟨rfl, hb9⟩
            have CE2 := Lib.hid (EqualI_any_same B5 C8 N c6 N m8 (ranL M N) w9 (r68.out.below hb9) (s68.out.below hb9) (by omega))
            clear r68 s68 CE
            go_wp2_with fail
            refine CE2.out.mono ?_
            rintro e w10 ⟨rfl, hb10⟩
            go_wp2
            go_ret
            exact ⟨rfl, bthen (bthen hB7.out hb8) (bthen hb9 hb10)⟩
        · obtain ⟨rfl, rfl⟩ := HN'.out.ends hR
          obtain rfl := hm4'.symm
          have CA := Lib.hid (EqualI_any_same A4 A7 k c4 k c7 (natL R) wr (r4.below hbl) r7 (by omega))
          clear HN HN' HP4 hHl hR r4 r7
          go_wp2_with fail
          refine CA.out.mono ?_
          rintro e w11 ⟨rfl, hb11⟩
          have hB11 := bthen hB7.out hb11
          clear CA
          rcases HP5.out with ⟨hbad, rfl, h5, h6⟩ | ⟨N, rfl, hN, rfl, h5, h6, r5, r6⟩
          · obtain rfl := h5.symm
            obtain rfl := h6.symm
            clear HP5
            rcases hbad with hbad | hbad
            · go_wp2
              go_ret
              exact ⟨rfl, hB11⟩
            · go_wp2
              go_ret
              exact ⟨rfl, hB11⟩
          · obtain rfl := h5.symm
            obtain rfl := h6.symm
            have R5 := Lib.hid (r5.below hbl)
            have R6 := Lib.hid (r6.below hbl)
            clear HP5 r5 r6
            go_wp2_with fail
            refine (C6.out _ (h0.below (bthen hbl hb11)) N hN).mono ?_
            rintro e w8 ⟨B8, C8, d8, m8, rfl, s5, s6, hb8⟩
            have hrl := ran_length M N
            have r58 := R5.out.below (bthen hb11 hb8)
            have r68 := Lib.hid (R6.out.below (bthen hb11 hb8))
            have s68 := Lib.hid s6
            have CE := Lib.hid (EqualI_any_same A5 B8 k c5 k d8 (firstL M N) w8 r58 s5 (by omega))
            clear R5 R6 r58 s5 s6 C6
            go_wp2_with fail
            refine CE.out.mono ?_
            rintro e w9 ⟨rfl, hb9⟩
            have CE2 := Lib.hid (EqualI_any_same B5 C8 N c6 N m8 (ranL M N) w9 (r68.out.below hb9) (s68.out.below hb9) (by omega))
            clear r68 s68 CE
            go_wp2_with fail
            refine CE2.out.mono ?_
            rintro e w10 ⟨rfl, hb10⟩
            go_wp2
            go_ret
            exact ⟨rfl, bthen (bthen hB11 hb8) (bthen hb9 hb10)⟩
  · rw [errK_two hw] at C3 C4
    replace C1 := Lib.hid (fun (W : World) h => (C1.out W h).mono fun e w' hg => hg.wrong hw)
    replace C2 := Lib.hid (fun (W : World) h => (C2.out W h).mono fun e w' hg => hg.wrong (.inl hw))
    go_enter Try.func3, Try.ntmps3
    go_wp2_with fail
    refine (C1.out _ h0).mono ?_
    rintro e w1 ⟨rfl, hb1⟩
    replace h0 := h0.below hb1
    go_wp2_with fail
    refine (C2.out _ h0).mono ?_
    rintro e w2 ⟨rfl, hb2⟩
    replace h0 := h0.below hb2
    go_wp2_with fail
    refine (C3.out _ h0).mono ?_
    rintro e w3 ⟨rfl, hb3⟩
    replace h0 := h0.below hb3
    go_wp2_with fail
    refine (C4.out _ h0).mono ?_
    rintro e w4 ⟨rfl, hb4⟩
    go_wp2
    go_ret
    exact ⟨rfl, bthen (bthen hb1 hb2) (bthen hb3 hb4)⟩
end Go.Proofs.Ytiejgmkbhjnceaa
