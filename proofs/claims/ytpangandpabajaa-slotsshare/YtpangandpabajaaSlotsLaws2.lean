/-
  The walks of SlotsShare and SlotsLess: each returns true, at every argument.
-/
import Derived.Test.YtpangandpabajaaSlotsLaws
import Derived.Test.YtpangandpabajaaSlotsMath2
namespace Go.Proofs.Ytpangandpabajaa
open Go.RowKit
set_option linter.unusedVariables false

theorem mod_small {k P : Int} (h0 : 0 ≤ k) (h1 : k < P) : k % P = k := Int.emod_eq_of_lt h0 h1
set_option maxHeartbeats 800000 in
theorem SlotsShare_walk (a0 : Int) (A1 : Option Addr) (n1 c1 : Nat) (l1 : List Slt) (w : World) (w0 : (Lit.int .i64 a0).wf = true) (h1 : RdS w A1 n1 l1) (q1 : ∀ s ∈ l1, s.Ok) (k1 : n1 ≤ c1) (b1 : c1 * 24 ≤ 140737488351232) :
    Calls Try.prog 7 #[.int .i64 a0, .slice A1 n1 c1] w fun e w' => e = .returned (.bool true) ∧ Below w.heap.size w w' := by
  have p0 := in64_wf w0
  have hn : n1 ≤ 140737488355328 := by omega
  clear w0
  have C0 := Lib.hid (alive9_any w)
  have C1 := Lib.hid (fun (W : World) (h : RdS W A1 n1 l1) => Right_any a0 p0 A1 n1 c1 l1 W h q1 hn)
  cases hR : rightM a0 l1
  · rw [hR] at C1
    clear hR
    go_enter Try.func7, Try.ntmps7
    go_wp2_with fail
    refine C0.out.mono ?_
    rintro e w1 ⟨rfl, hb1⟩
    go_wp2_with fail
    refine (C1.out w1 (h1.below hb1)).mono ?_
    rintro e w2 ⟨rfl, hb2⟩
    go_wp2
    go_ret
    exact ⟨rfl, bthen hb1 hb2⟩
  · rw [hR] at C1
    obtain ⟨⟨hp1, hp2, hn4⟩, hr⟩ := rightM_true.1 hR
    by_cases hbig : a0 > 500
    · clear hR hr hn4
      go_enter Try.func7, Try.ntmps7
      go_wp2_with fail
      refine C0.out.mono ?_
      rintro e w1 ⟨rfl, hb1⟩
      go_wp2_with fail
      refine (C1.out w1 (h1.below hb1)).mono ?_
      rintro e w2 ⟨rfl, hb2⟩
      go_wp2
      go_ret
      exact ⟨rfl, bthen hb1 hb2⟩
    · have C2 := Lib.hid (fun (j : Int) (W : World) (h : RdS W A1 n1 l1) => Share_any a0 p0 A1 n1 c1 l1 j W h q1 hn)
      have HS : Hid (∀ j, shareM a0 l1 j = (shareS j l1, 0)) := fun j => shareM_yes j hR
      have C3 := Lib.hid (fun (t : Int) (ht : in64 t) (W : World) (h : RdS W A1 n1 l1) => Who_any a0 p0 A1 n1 c1 l1 t ht W h q1 hn)
      have HW : Hid (∀ t, 0 ≤ t → t < a0 → whoM a0 l1 t = whoR t l1) := fun t t0 t1 => by rw [whoM_yes (checkM_ok hR t0 (by omega)), mod_small t0 t1]
      have Hr := Lib.hid hr
      have Hb : Hid (¬ a0 > 500) := hbig
      have hdec : decide (a0 > 500) = false := decide_eq_false hbig
      clear hR hr hn4 hp2
      have hle : a0 ≤ 500 := by omega
      clear hbig
      go_enter Try.func7, Try.ntmps7
      go_wp2_with fail
      refine C0.out.mono ?_
      rintro e w1 ⟨rfl, hb1⟩
      go_wp2_with fail
      refine (C1.out w1 (h1.below hb1)).mono ?_
      rintro e w2 ⟨rfl, hb2⟩
      have hB2 := bthen hb1 hb2
      go_wp2
      go_loopw [5, 23] (fun v i wr => ∃ (j : Nat), j ≤ 16 ∧ i = .int .i64 j ∧ v = .int .i64 (belowS j l1) ∧ Below w.heap.size w wr) (fun _ i _ => 16 - (intOf i).toNat)
      case atStart => exact ⟨0, Nat.zero_le _, rfl, by rw [show ((0 : Nat) : Int) = 0 from rfl, belowS_zero Hr.out], hB2⟩
      case round =>
        obtain ⟨j, hj, rfl, rfl, hbl⟩ := hrel
        obtain ⟨s0, s1⟩ := belowS_range (j := j) Hr.out (by omega)
        have Hst : Hid (belowS ((j + 1 : Nat) : Int) l1 = belowS j l1 + shareS j l1) := by show _ = _; rw [← belowS_step]; rfl
        generalize belowS j l1 = S at s0 s1 Hst ⊢
        by_cases hlt : j < 16
        · have C2' := Lib.hid (C2.out j wr (h1.below hbl))
          rw [HS.out j] at C2'
          have hsh := Lib.hid (upTo_all (node := j) Hr.out)
          have Hz : Hid (upTo j 0 l1 = 0) := upTo_early Hr.out (Int.le_refl _)
          obtain ⟨s2, s3⟩ := upTo_range (node := j) (k := a0) Hr.out (by omega)
          rw [hsh.out] at s2 s3
          generalize shareS j l1 = V at C2' hsh Hst s2 s3
          go_wp2_with fail
          refine C2'.out.mono ?_
          rintro e w3 ⟨rfl, hb3⟩
          have hB3 := bthen hbl hb3
          rename_i wo _
          go_wp2
          go_loopw [9, 34] (fun v i wr => ∃ (k : Nat), (k : Int) ≤ a0 ∧ i = .int .i64 k ∧ v = .int .i64 (upTo j k l1) ∧ Below w.heap.size w wr) (fun _ i _ => a0.toNat - (intOf i).toNat)
          case atStart => exact ⟨0, by omega, rfl, by rw [show ((0 : Nat) : Int) = 0 from rfl, Hz.out], hB3⟩
          case round =>
            obtain ⟨k, hk, rfl, rfl, hbk⟩ := hrel
            obtain ⟨u0, u1⟩ := upTo_range (node := j) (k := k) Hr.out (by omega)
            have Hup : Hid (upTo j ((k + 1 : Nat) : Int) l1 = upTo j k l1 + (if whoAt k l1 = some (j : Int) then 1 else 0)) := by show _ = _; rw [← upTo_step Hr.out]; rfl
            by_cases hlk : (k : Int) < a0
            · generalize upTo j k l1 = U at u0 u1 Hup ⊢
              have C3' := Lib.hid (C3.out k ⟨by omega, by omega⟩ wr (h1.below hbk))
              rw [HW.out k (by omega) hlk] at C3'
              cases hwho : whoAt k l1 with
              | none =>
                rw [whoR_none hwho] at C3'
                rw [hwho, if_neg (by intro h; cases h), Int.add_zero] at Hup
                clear hwho
                go_wp2_with fail
                refine C3'.out.mono ?_
                rintro e w4 ⟨rfl, hb4⟩
                go_wp2
                go_roundw
                case rel => exact ⟨k + 1, by omega, by go_num, by rw [Hup.out], bthen hbk hb4⟩
                case measure => simp [intOf] <;> omega
              | some x =>
                rw [whoR_some hwho] at C3'
                by_cases hxj : x = (j : Int)
                · rw [hwho, if_pos (by rw [hxj])] at Hup
                  clear hwho
                  subst hxj
                  go_wp2_with fail
                  refine C3'.out.mono ?_
                  rintro e w4 ⟨rfl, hb4⟩
                  go_wp2
                  go_roundw
                  case rel => exact ⟨k + 1, by omega, by go_num, by rw [Hup.out], bthen hbk hb4⟩
                  case measure => simp [intOf] <;> omega
                · rw [hwho, if_neg (by intro h; injection h with h; exact hxj h), Int.add_zero] at Hup
                  clear hwho
                  go_wp2_with fail
                  refine C3'.out.mono ?_
                  rintro e w4 ⟨rfl, hb4⟩
                  go_wp2
                  go_roundw
                  case rel => exact ⟨k + 1, by omega, by go_num, by rw [Hup.out], bthen hbk hb4⟩
                  case measure => simp [intOf] <;> omega
            · have hka : (k : Int) = a0 := by omega
              have hV : upTo j k l1 = V := by rw [hka, hsh.out]
              rw [hV]
              clear Hup hV
              go_wp2
              go_roundw
              case rel => exact ⟨j + 1, by omega, by go_num, by rw [Hst.out], hbk⟩
              case measure => simp [intOf] <;> omega
        · obtain rfl : j = 16 := by omega
          have s4 : S ≤ a0 := by omega
          go_wp2
          go_ret
          exact ⟨rfl, hbl⟩

set_option maxHeartbeats 800000 in
theorem SlotsLess_walk (a0 : Int) (A1 : Option Addr) (n1 c1 : Nat) (l1 : List Slt) (a2 a3 : Int) (w : World) (w0 : (Lit.int .i64 a0).wf = true) (h1 : RdS w A1 n1 l1) (q1 : ∀ s ∈ l1, s.Ok) (k1 : n1 ≤ c1) (b1 : c1 * 24 ≤ 140737488351232) (w2 : (Lit.int .i64 a2).wf = true) (w3 : (Lit.int .i64 a3).wf = true) :
    Calls Try.prog 8 #[.int .i64 a0, .slice A1 n1 c1, .int .i64 a2, .int .i64 a3] w fun e w' => e = .returned (.bool true) ∧ Below w.heap.size w w' := by
  have p0 := in64_wf w0
  obtain ⟨p20, p21⟩ := in64_wf w2
  have hn : n1 ≤ 140737488355328 := by omega
  clear w0 w2 w3
  have Hl := Lib.hid h1.lenS
  have C0 := Lib.hid (alive9_any w)
  have C1 := Lib.hid (fun (W : World) (h : RdS W A1 n1 l1) => Right_any a0 p0 A1 n1 c1 l1 W h q1 hn)
  cases hR : rightM a0 l1
  · rw [hR] at C1
    clear hR
    go_enter Try.func8, Try.ntmps8
    go_wp2_with fail
    refine C0.out.mono ?_
    rintro e w1 ⟨rfl, hb1⟩
    go_wp2_with fail
    refine (C1.out w1 (h1.below hb1)).mono ?_
    rintro e w2 ⟨rfl, hb2⟩
    go_wp2
    go_ret
    exact ⟨rfl, bthen hb1 hb2⟩
  · rw [hR] at C1
    obtain ⟨⟨hp1, hp2, hn4⟩, hr⟩ := rightM_true.1 hR
    have hn5 : n1 ≤ 400 := by have := Hl.out; omega
    by_cases hin : 0 ≤ a2 ∧ a2 < n1
    · obtain ⟨i0, i1⟩ := hin
      obtain ⟨kk, ekk⟩ := Int.eq_ofNat_of_zero_le i0
      have ik : kk < n1 := by omega
      have Hkk := Lib.hid ekk
      clear ekk
      obtain ⟨s, hs⟩ : ∃ s, l1[kk]? = some s := ⟨_, List.getElem?_eq_getElem (by rw [Hl.out]; exact ik)⟩
      have HR := Lib.hid hR
      have HRe := Lib.hid (rightM_erase hR kk)
      have Hs := Lib.hid hs
      have C2 := Lib.hid (fun (W : World) (h : RdS W A1 n1 l1) => Waits_any a0 p0 A1 n1 c1 l1 a3 W h q1 hn)
      have C3 := Lib.hid (fun (A : Option Addr) (m c : Nat) (hm : m ≤ 140737488355328) (W : World) (h : RdS W A m (l1.eraseIdx kk)) => Waits_any a0 p0 A m c (l1.eraseIdx kk) a3 W h (fun s hs => q1 s (List.mem_of_mem_eraseIdx hs)) hm)
      clear hR hr hs
      go_enter Try.func8, Try.ntmps8
      go_wp2_with fail
      refine C0.out.mono ?_
      rintro e w1 ⟨rfl, hb1⟩
      go_wp2_with fail
      refine (C1.out w1 (h1.below hb1)).mono ?_
      rintro e w2 ⟨rfl, hb2⟩
      have hB2 := bthen hb1 hb2
      go_wp2
      go_loopw [9, 34] (fun v i wr => ∃ (j m : Nat), j ≤ n1 ∧ i = .int .i64 j ∧ m = ((l1.take j).eraseIdx kk).length ∧ wr.ownsRow w.heap.size 29 3 v m (((l1.take j).eraseIdx kk).flatMap slotC) ∧ Below w.heap.size w wr) (fun _ i _ => n1 - (intOf i).toNat)
      case atStart => exact ⟨0, 0, Nat.zero_le _, rfl, by simp, by simpa using World.ownsRow_nil w2 w.heap.size 29 3, hB2⟩
      case round =>
        obtain ⟨j, m, hj, rfl, hm, ho, hbl⟩ := hrel
        have Hm := Lib.hid hm
        have hm4 : m ≤ 400 := by
          have h2 := List.length_eraseIdx_le (l1.take j) kk
          rw [List.length_take] at h2
          omega
        clear hm
        by_cases hlt : j < n1
        · obtain ⟨ad, nd, fr, lg, rfl, hx, hc0, hc1, hc2⟩ := (h1.below hbl).atS hlt
          have Ht : Hid (l1.take (j + 1) = l1.take j ++ [⟨nd, fr, lg⟩]) := by show _ = _; exact take_snoc hx
          have Htl : Hid ((l1.take j).length = j) := by show _ = _; rw [List.length_take, Hl.out]; omega
          clear hx
          by_cases hjk : j = kk
          · have hja : ((j : Int) != a2) = false := by rw [Hkk.out, hjk]; simp
            have He : Hid ((l1.take (j + 1)).eraseIdx kk = (l1.take j).eraseIdx kk) := by show _ = _; rw [Ht.out, erase_snoc_eq (by rw [Htl.out, hjk])]
            clear hjk
            go_wp2
            go_roundw
            case rel => exact ⟨j + 1, m, by omega, by go_num, by rw [He.out, Hm.out], by rw [He.out]; exact World.ownsRow.alloc ho _, hbl.alloc hbl.size _⟩
            case measure => simp [intOf] <;> omega
          · have He : Hid ((l1.take (j + 1)).eraseIdx kk = (l1.take j).eraseIdx kk ++ [⟨nd, fr, lg⟩]) := by show _ = _; rw [Ht.out, erase_snoc_ne Htl.out hjk]
            have hja : (j : Int) ≠ a2 := by rw [Hkk.out]; omega
            clear hjk
            go_wp2_with (at_builtin; go_must (refine wpList_ap _ elSlot rfl rfl w.heap.size _ m _ rfl (World.ownsRow.alloc (World.ownsRow.alloc ho _) _) _ 1 1 (slotC ⟨nd, fr, lg⟩) rfl (Rd.litFlat slotC_len [(⟨nd, fr, lg⟩ : Slt)] 29 (by simp)) (by intro u hu; simp [slotC] at hu; rcases hu with rfl | rfl | rfl <;> rfl) (le_alloc (le_alloc hbl.size)) (by omega) (by omega) ?_; intro v1 w1 ho1 hm1))
            go_roundw
            case rel =>
              refine ⟨j + 1, m + 1, by omega, by go_num, by rw [He.out, List.length_append, ← Hm.out]; rfl, ?_, hm1.below ((hbl.alloc hbl.size _).alloc (le_alloc hbl.size) _) (le_alloc (le_alloc hbl.size)) (fun k hk => (World.ownsRow.lt ho k hk).1)⟩
              rw [He.out, List.flatMap_append]
              simpa using ho1
            case measure => simp [intOf] <;> omega
        · obtain rfl : j = n1 := by omega
          have Hall : Hid (l1.take j = l1) := by show _ = _; exact List.take_of_length_le (by rw [Hl.out]; exact Nat.le_refl _)
          rw [Hall.out] at ho
          obtain ⟨Am, cm, rfl, _, _⟩ := own_form ho
          have hrm : RdS wr Am m (l1.eraseIdx kk) := Rd.own ho
          have hm47 : m ≤ 140737488355328 := by omega
          clear ho
          go_wp2_with fail
          refine (C2.out wr (h1.below hbl)).mono ?_
          rintro e w3 ⟨rfl, hb3⟩
          have hB3 := bthen hbl hb3
          go_wp2_with fail
          refine (C3.out Am m cm hm47 w3 (hrm.below hb3)).mono ?_
          rintro e w4 ⟨rfl, hb4⟩
          have hB4 := bthen hB3 hb4
          obtain ⟨ad, nd, fr, lg, rfl, hx, hc0, hc1, hc2⟩ := (h1.below hB4).atS ik
          have hat : a2.toNat = kk := by rw [Hkk.out]; rfl
          have hsx : s = ⟨nd, fr, lg⟩ := by have := Hs.out; rw [hx] at this; injection this with this; exact this.symm
          by_cases hnd : nd = a3
          · have hne := starts_some hx hnd
            have e1 := waitsM_yes HR.out hne
            rw [e1]
            by_cases hne' : startsM a3 (l1.eraseIdx kk) = []
            · rw [waitsM_none HRe.out hne']
              generalize waitsOf a0 (startsM a3 l1) = M
              clear hne hne' e1 hx hsx
              go_wp2
              go_ret
              exact ⟨rfl, hB4⟩
            · have hw := waits_fewer (starts_good (node := a3) HR.out) (starts_good HRe.out) hne' (fun f hf => starts_erase_mem hf)
              rw [waitsM_yes HRe.out hne']
              generalize waitsOf a0 (startsM a3 l1) = M at *
              generalize waitsOf a0 (startsM a3 (l1.eraseIdx kk)) = M' at *
              clear hne hne' e1 hx hsx
              go_wp2
              go_ret
              exact ⟨rfl, hB4⟩
          · have e1 : waitsM a0 (l1.eraseIdx kk) a3 = waitsM a0 l1 a3 := by rw [waitsM, waitsM, HR.out, HRe.out, starts_erase_ne hx hnd]
            rw [e1]
            generalize waitsM a0 l1 a3 = pw
            clear e1 hx hsx
            go_wp2
            go_ret
            exact ⟨rfl, hB4⟩
    · clear hR hr hn4
      by_cases i0 : 0 ≤ a2
      · have i1 : (n1 : Int) ≤ a2 := by omega
        clear hin
        go_enter Try.func8, Try.ntmps8
        go_wp2_with fail
        refine C0.out.mono ?_
        rintro e w1 ⟨rfl, hb1⟩
        go_wp2_with fail
        refine (C1.out w1 (h1.below hb1)).mono ?_
        rintro e w2 ⟨rfl, hb2⟩
        go_wp2
        go_ret
        exact ⟨rfl, bthen hb1 hb2⟩
      · clear hin
        go_enter Try.func8, Try.ntmps8
        go_wp2_with fail
        refine C0.out.mono ?_
        rintro e w1 ⟨rfl, hb1⟩
        go_wp2_with fail
        refine (C1.out w1 (h1.below hb1)).mono ?_
        rintro e w2 ⟨rfl, hb2⟩
        go_wp2
        go_ret
        exact ⟨rfl, bthen hb1 hb2⟩
end Go.Proofs.Ytpangandpabajaa
