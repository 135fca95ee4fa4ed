/-
  The walks of SlotsNext and SlotsOne: each returns true, at every argument.
-/
import Derived.Test.YtpangandpabajaaSlotsWalks2
namespace Go.Proofs.Ytpangandpabajaa
open Go.RowKit
set_option linter.unusedVariables false

def aliveL : List Slt := [⟨1, 2, 3⟩, ⟨2, 5, 1⟩, ⟨1, 8, 2⟩]
theorem aliveL_ok : ∀ s ∈ aliveL, s.Ok := by
  intro s hs
  simp only [aliveL, List.mem_cons, List.not_mem_nil, or_false] at hs
  rcases hs with rfl | rfl | rfl <;> (refine ⟨⟨?_, ?_⟩, ⟨?_, ?_⟩, ?_, ?_⟩ <;> simp)

set_option maxHeartbeats 800000 in
theorem alive9_any (w : World) : Calls Try.prog 17 #[] w fun e w' => e = .returned (.bool true) ∧ Below w.heap.size w w' := by
  have hr : RdS (w.alloc (.cells #[.int .i64 1, .int .i64 2, .int .i64 3, .int .i64 2, .int .i64 5, .int .i64 1, .int .i64 1, .int .i64 8, .int .i64 2] 29)) (some ⟨w.heap.size, 0, none⟩) 3 aliveL := Rd.litFlat slotC_len aliveL _ rfl
  have h10 : in64 10 := ⟨by decide, by decide⟩
  have e1 : whoM 10 aliveL 14 = (1, 0) := by decide +kernel
  have e2 : nextM 10 aliveL 2 6 = (15, 0) := by decide +kernel
  have e3 : waitsM 10 aliveL 1 = (5, 0) := by decide +kernel
  have e4 : shareM 10 aliveL 1 = (5, 0) := by decide +kernel
  have C1 := Lib.hid (fun (W : World) (h : RdS W (some ⟨w.heap.size, 0, none⟩) 3 aliveL) => Who_any 10 h10 (some ⟨w.heap.size, 0, none⟩) 3 3 aliveL 14 ⟨by decide, by decide⟩ W h aliveL_ok (by decide))
  have C2 := Lib.hid (fun (W : World) (h : RdS W (some ⟨w.heap.size, 0, none⟩) 3 aliveL) => Next_any 10 h10 (some ⟨w.heap.size, 0, none⟩) 3 3 aliveL 2 6 ⟨by decide, by decide⟩ W h aliveL_ok (by decide))
  have C3 := Lib.hid (fun (W : World) (h : RdS W (some ⟨w.heap.size, 0, none⟩) 3 aliveL) => Waits_any 10 h10 (some ⟨w.heap.size, 0, none⟩) 3 3 aliveL 1 W h aliveL_ok (by decide))
  have C4 := Lib.hid (fun (W : World) (h : RdS W (some ⟨w.heap.size, 0, none⟩) 3 aliveL) => Share_any 10 h10 (some ⟨w.heap.size, 0, none⟩) 3 3 aliveL 1 W h aliveL_ok (by decide))
  rw [e1] at C1
  rw [e2] at C2
  rw [e3] at C3
  rw [e4] at C4
  clear e1 e2 e3 e4
  have Hr := Lib.hid hr; clear hr
  go_enter Try.func17, Try.ntmps17
  go_wp2_with fail
  refine (C1.out _ Hr.out).mono ?_
  rintro e w1 ⟨rfl, hb1⟩
  have hr1 := Lib.hid (Hr.out.below hb1)
  go_wp2_with fail
  refine (C2.out _ hr1.out).mono ?_
  rintro e w2 ⟨rfl, hb2⟩
  have hr2 := Lib.hid (hr1.out.below hb2)
  go_wp2_with fail
  refine (C3.out _ hr2.out).mono ?_
  rintro e w3 ⟨rfl, hb3⟩
  have hr3 := Lib.hid (hr2.out.below hb3)
  go_wp2_with fail
  refine (C4.out _ hr3.out).mono ?_
  rintro e w4 ⟨rfl, hb4⟩
  go_wp2
  go_ret
  exact ⟨rfl, below_new (bthen (bthen (bthen hb1 hb2) hb3) hb4)⟩

theorem in64_wf {x : Int} (h : (Lit.int .i64 x).wf = true) : in64 x := by
  exact wf_i64 h

theorem next_cases (P : Int) (L : List Slt) (node t : Int) : (∃ x, x ≠ 0 ∧ nextM P L node t = (0, x)) ∨ (checkM P L t = 0 ∧ startsM node L ≠ [] ∧ nextM P L node t = (nextOf P (startsM node L) t, 0)) := by
  by_cases hz : checkM P L t = 0
  · by_cases hne : startsM node L = []
    · exact .inl ⟨3, by decide, nextM_none hz hne⟩
    · exact .inr ⟨hz, hne, nextM_yes hz hne⟩
  · exact .inl ⟨_, hz, nextM_no node hz⟩

set_option maxHeartbeats 800000 in
theorem SlotsNext_walk (a0 : Int) (A1 : Option Addr) (n1 c1 : Nat) (l1 : List Slt) (a2 a3 : Int) (w : World) (w0 : (Lit.int .i64 a0).wf = true) (h1 : RdS w A1 n1 l1) (q1 : ∀ s ∈ l1, s.Ok) (k1 : n1 ≤ c1) (b1 : c1 * 24 ≤ 140737488351232) (w2 : (Lit.int .i64 a2).wf = true) (w3 : (Lit.int .i64 a3).wf = true) :
    Calls Try.prog 6 #[.int .i64 a0, .slice A1 n1 c1, .int .i64 a2, .int .i64 a3] w fun e w' => e = .returned (.bool true) ∧ Below w.heap.size w w' := by
  have p0 := in64_wf w0
  have p3 := in64_wf w3
  have hn : n1 ≤ 140737488355328 := by omega
  clear w0 w2 w3
  have C0 := Lib.hid (alive9_any w)
  have C1 := Lib.hid (fun (W : World) (h : RdS W A1 n1 l1) => Next_any a0 p0 A1 n1 c1 l1 a2 a3 p3 W h q1 hn)
  rcases next_cases a0 l1 a2 a3 with ⟨x, hx, e⟩ | ⟨hz, hne, e⟩
  · rw [e] at C1
    clear e
    have hx' : (x != 0) = true := by simpa using hx
    go_enter Try.func6, Try.ntmps6
    go_wp2_with fail
    refine C0.out.mono ?_
    rintro e w1 ⟨rfl, hb1⟩
    go_wp2_with fail
    refine (C1.out w1 (h1.below hb1)).mono ?_
    rintro e w2 ⟨rfl, hb2⟩
    go_wp2
    go_ret
    exact ⟨rfl, bthen hb1 hb2⟩
  · rw [e] at C1
    clear e
    obtain ⟨hR, t0, t1⟩ := checkM_zero hz
    obtain ⟨⟨hp1, hp2, hn4⟩, hr⟩ := rightM_true.1 hR
    have G := starts_good (node := a2) hR
    obtain ⟨d1, d2⟩ := next_range G hne a3
    have d3 := waits_upper G hne a3
    have d4 := waits_lt G hne
    have d5 := next_fix G hne a3
    have d6 := next_mod G hne a3
    obtain ⟨s, hs, es1, es2⟩ := starts_mem.1 d6
    have hlg := (right_mem hr hs).2.2.1
    have hwho := who_hit hr hs (a := nextOf a0 (startsM a2 l1) a3 % a0) (by omega) (by omega)
    rw [es1] at hwho
    have eW := waitsM_yes hR hne
    have hin : in64 (nextOf a0 (startsM a2 l1) a3) := by unfold in64; omega
    have C2 := Lib.hid (fun (W : World) (h : RdS W A1 n1 l1) => Waits_any a0 p0 A1 n1 c1 l1 a2 W h q1 hn)
    have C3 := Lib.hid (fun (W : World) (h : RdS W A1 n1 l1) => Who_any a0 p0 A1 n1 c1 l1 (nextOf a0 (startsM a2 l1) a3) hin W h q1 hn)
    have C4 := Lib.hid (fun (W : World) (h : RdS W A1 n1 l1) => Next_any a0 p0 A1 n1 c1 l1 a2 (nextOf a0 (startsM a2 l1) a3) hin W h q1 hn)
    rw [eW] at C2
    by_cases hbig : nextOf a0 (startsM a2 l1) a3 > 1099511627776
    · generalize whoM a0 l1 (nextOf a0 (startsM a2 l1) a3) = pw at C3
      generalize nextM a0 l1 a2 (nextOf a0 (startsM a2 l1) a3) = pn at C4
      clear hwho d5 d6 hs es1 es2 hlg eW hin hne hz hR hr G
      generalize nextOf a0 (startsM a2 l1) a3 = N at *
      generalize waitsOf a0 (startsM a2 l1) = M at *
      go_enter Try.func6, Try.ntmps6
      go_wp2_with fail
      refine C0.out.mono ?_
      rintro e w1 ⟨rfl, hb1⟩
      go_wp2_with fail
      refine (C1.out w1 (h1.below hb1)).mono ?_
      rintro e w2 ⟨rfl, hb2⟩
      have hB2 := bthen hb1 hb2
      go_wp2_with fail
      refine (C2.out w2 (h1.below hB2)).mono ?_
      rintro e w3 ⟨rfl, hb3⟩
      have hB3 := bthen hB2 hb3
      go_wp2_with fail
      refine (C3.out w3 (h1.below hB3)).mono ?_
      rintro e w4 ⟨rfl, hb4⟩
      have hB4 := bthen hB3 hb4
      go_wp2_with fail
      refine (C4.out w4 (h1.below hB4)).mono ?_
      rintro e w5 ⟨rfl, hb5⟩
      have hB5 := bthen hB4 hb5
      go_wp2
      go_ret
      exact ⟨rfl, hB5⟩
    · have hz' := checkM_ok (t := nextOf a0 (startsM a2 l1) a3) hR (by omega) (by omega)
      have eWho := (whoM_yes hz').trans (whoR_some hwho)
      have eNx := nextM_yes hz' hne
      rw [d5] at eNx
      rw [eWho] at C3
      rw [eNx] at C4
      clear hwho d5 d6 hs es1 es2 hlg eW hin hne hz hR hr G eWho eNx hz'
      generalize nextOf a0 (startsM a2 l1) a3 = N at *
      generalize waitsOf a0 (startsM a2 l1) = M at *
      go_enter Try.func6, Try.ntmps6
      go_wp2_with fail
      refine C0.out.mono ?_
      rintro e w1 ⟨rfl, hb1⟩
      go_wp2_with fail
      refine (C1.out w1 (h1.below hb1)).mono ?_
      rintro e w2 ⟨rfl, hb2⟩
      have hB2 := bthen hb1 hb2
      go_wp2_with fail
      refine (C2.out w2 (h1.below hB2)).mono ?_
      rintro e w3 ⟨rfl, hb3⟩
      have hB3 := bthen hB2 hb3
      go_wp2_with fail
      refine (C3.out w3 (h1.below hB3)).mono ?_
      rintro e w4 ⟨rfl, hb4⟩
      have hB4 := bthen hB3 hb4
      go_wp2_with fail
      refine (C4.out w4 (h1.below hB4)).mono ?_
      rintro e w5 ⟨rfl, hb5⟩
      have hB5 := bthen hB4 hb5
      go_wp2
      go_ret
      exact ⟨rfl, hB5⟩

theorem who_cases (P : Int) (L : List Slt) (t : Int) : (∃ x, x ≠ 0 ∧ whoM P L t = (0, x)) ∨ (checkM P L t = 0 ∧ ∃ x, whoAt (t % P) L = some x ∧ whoM P L t = (x, 0)) := by
  by_cases hz : checkM P L t = 0
  · cases hw : whoAt (t % P) L with
    | none => exact .inl ⟨3, by decide, by rw [whoM_yes hz, whoR_none hw]⟩
    | some x => exact .inr ⟨hz, x, rfl, by rw [whoM_yes hz, whoR_some hw]⟩
  · exact .inl ⟨_, hz, whoM_no hz⟩

set_option maxHeartbeats 800000 in
theorem SlotsOne_walk (a0 : Int) (A1 : Option Addr) (n1 c1 : Nat) (l1 : List Slt) (a2 : Int) (w : World) (w0 : (Lit.int .i64 a0).wf = true) (h1 : RdS w A1 n1 l1) (q1 : ∀ s ∈ l1, s.Ok) (k1 : n1 ≤ c1) (b1 : c1 * 24 ≤ 140737488351232) (w2 : (Lit.int .i64 a2).wf = true) :
    Calls Try.prog 5 #[.int .i64 a0, .slice A1 n1 c1, .int .i64 a2] w fun e w' => e = .returned (.bool true) ∧ Below w.heap.size w w' := by
  have p0 := in64_wf w0
  have p2 := in64_wf w2
  have hn : n1 ≤ 140737488355328 := by omega
  have Hl := Lib.hid h1.lenS
  clear w0 w2
  have C0 := Lib.hid (alive9_any w)
  have C1 := Lib.hid (fun (W : World) (h : RdS W A1 n1 l1) => Who_any a0 p0 A1 n1 c1 l1 a2 p2 W h q1 hn)
  rcases who_cases a0 l1 a2 with ⟨x, hx, e⟩ | ⟨hz, x, hw, e⟩
  · rw [e] at C1
    clear e
    have hx' : (x != 0) = true := by simpa using hx
    go_enter Try.func5, Try.ntmps5
    go_wp2_with fail
    refine C0.out.mono ?_
    rintro e w1 ⟨rfl, hb1⟩
    go_wp2_with fail
    refine (C1.out w1 (h1.below hb1)).mono ?_
    rintro e w2 ⟨rfl, hb2⟩
    go_wp2
    go_ret
    exact ⟨rfl, bthen hb1 hb2⟩
  · rw [e] at C1
    clear e
    obtain ⟨hR, t0, t1⟩ := checkM_zero hz
    obtain ⟨⟨hp1, hp2, hn4⟩, hr⟩ := rightM_true.1 hR
    have r0 := Int.emod_nonneg a2 (show a0 ≠ 0 by omega)
    have r1 := Int.emod_lt_of_pos a2 (show 0 < a0 by omega)
    have hrem := rem_pos (P := a0) t0
    have hone := who_one hr hw
    have hin : in64 (a2 % a0) := by unfold in64; omega
    have C2 := Lib.hid (fun (W : World) (h : RdS W A1 n1 l1) => Who_any a0 p0 A1 n1 c1 l1 (a2 % a0) hin W h q1 hn)
    rw [whoM_yes (checkM_ok hR r0 (by omega)), Int.emod_emod, whoR_some hw] at C2
    have hn5 : n1 ≤ 400 := by have := Hl.out; omega
    have Hr := Lib.hid hr
    have Hw := Lib.hid hw
    clear hR hr hn4 hz hin hw
    generalize a2 % a0 = r at *
    go_enter Try.func5, Try.ntmps5
    go_wp2_with fail
    refine C0.out.mono ?_
    rintro e w1 ⟨rfl, hb1⟩
    go_wp2_with fail
    refine (C1.out w1 (h1.below hb1)).mono ?_
    rintro e w2 ⟨rfl, hb2⟩
    have hB2 := bthen hb1 hb2
    go_wp2
    go_loopw [10, 33] (fun v i wr => ∃ (k m : Nat), k ≤ n1 ∧ i = .int .i64 k ∧ v = .int .i64 m ∧ m + cntAt r (l1.drop k) = 1 ∧ Below w.heap.size w wr) (fun _ i _ => n1 - (intOf i).toNat)
    case atStart => exact ⟨0, 0, Nat.zero_le _, rfl, rfl, by simpa using hone, hB2⟩
    case round =>
      obtain ⟨k, m, hk, rfl, rfl, hacc, hbl⟩ := hrel
      have hm1 : m ≤ 1 := by omega
      have Hacc := Lib.hid hacc; clear hacc
      by_cases hlt : k < n1
      · obtain ⟨ad, nd, fr, lg, rfl, hx, hc0, hc1, hc2⟩ := (h1.below hbl).atS hlt
        have Hx := Lib.hid (drop_cell hx)
        have hmem := List.mem_of_getElem? hx
        obtain ⟨_, _, q3, q4, q5⟩ := right_mem Hr.out hmem
        simp only at q3 q4 q5
        clear hx
        by_cases h2 : fr ≤ r
        · by_cases h3 : r < fr + lg
          · have hnd : nd = x := by
              have := who_hit Hr.out hmem h2 h3
              rw [Hw.out] at this
              injection this with this
              exact this.symm
            have Hs : Hid (m + 1 + cntAt r (l1.drop (k + 1)) = 1) := by
              show _ = _
              have := Hacc.out
              rw [Hx.out, cntAt, if_pos ⟨h2, h3⟩] at this
              omega
            clear hmem
            subst hnd
            go_wp2
            go_roundw
            case rel => exact ⟨k + 1, m + 1, by omega, by go_num, by go_num, Hs.out, hbl.alloc hbl.size _⟩
            case measure => simp [intOf] <;> omega
          · have Hs : Hid (m + cntAt r (l1.drop (k + 1)) = 1) := by
              show _ = _
              have := Hacc.out
              rw [Hx.out, cntAt, if_neg (by simp only; omega)] at this
              omega
            clear hmem
            go_wp2
            go_roundw
            case rel => exact ⟨k + 1, m, by omega, by go_num, by go_num, Hs.out, hbl.alloc hbl.size _⟩
            case measure => simp [intOf] <;> omega
        · have Hs : Hid (m + cntAt r (l1.drop (k + 1)) = 1) := by
            show _ = _
            have := Hacc.out
            rw [Hx.out, cntAt, if_neg (by simp only; omega)] at this
            omega
          clear hmem
          go_wp2
          go_roundw
          case rel => exact ⟨k + 1, m, by omega, by go_num, by go_num, Hs.out, hbl.alloc hbl.size _⟩
          case measure => simp [intOf] <;> omega
      · obtain rfl : k = n1 := by omega
        obtain rfl : m = 1 := by
          have := Hacc.out
          rw [List.drop_eq_nil_of_le (by rw [Hl.out]; exact Nat.le_refl _)] at this
          simpa [cntAt] using this
        go_wp2_with fail
        refine (C2.out wr (h1.below hbl)).mono ?_
        rintro e w3 ⟨rfl, hb3⟩
        go_wp2
        go_ret
        exact ⟨rfl, bthen hbl hb3⟩
end Go.Proofs.Ytpangandpabajaa
