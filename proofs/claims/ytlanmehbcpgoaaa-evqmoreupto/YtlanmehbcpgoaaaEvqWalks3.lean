/-
  Contract of package evq: slot, where an event waits to be acknowledged.
-/
import Derived.Test.YtlanmehbcpgoaaaEvqWalks2
namespace Go.Proofs.Ytlanmehbcpgoaaa
open Go.RowKit
set_option linter.unusedVariables false

set_option maxHeartbeats 1600000 in
theorem slot0R (b : Nat) (s : EvS) (hok : EvOk s) (hs : s.al.length ≤ 17592186044416) (h0 : s.kn < s.al.length) (h1 : s.kn < s.cm) (w : World) (h : Chan w b s) :
    Calls Try.prog 25 #[.pointer (some ⟨b, 0, none⟩), .int .i64 0] w (Gives b s ⟨2, 0⟩ w) := by
  obtain ⟨v, h⟩ := h
  have hlt := h.lt
  have hE : evE s ⟨2, 0⟩ = 0 := rfl
  have CU := Lib.hid (unack_any b s v hok hs w h)
  have hD : (((s.al.length : Int) - (s.kn : Int)) == 0) = false := by rw [beq_eq_false_iff_ne]; omega
  have CF := Lib.hid (fun (W : World) (hW : ChanV W b s v) => first_any b s v W hW)
  have k2 := hok.k2
  have k4 := hok.k4
  have hcm : s.cm ≤ 17592186044416 := by have := hok.k3; omega
  have hkn : s.kn ≤ 17592186044416 := by omega
  rw [decide_eq_true h1] at CF
  obtain ⟨D, hDe⟩ : ∃ D, (s.al.length : Int) - (s.kn : Int) = D := ⟨_, rfl⟩
  rw [hDe] at hD CU
  have hc : comeC s 0 = s.cm := if_neg (fun g => by have := g.2.1; omega)
  have hG : evG s ⟨2, 0⟩ = ⟨s.al, s.cm, s.cm, s.tk⟩ := slotG_ack hc (by decide)
  have HG := Lib.hid hG
  have he : ((s.kn + 1 : Nat) : Int) = ((s.cm : Nat) : Int) := by omega
  have hke : s.kn + 1 = s.cm := by omega
  have HK := Lib.hid hke
  clear hke he
  have Hh := Lib.hid h
  have hcc2 := h.box.cell 2 rfl
  have hff2 := h.box.free 2
  have hcc1 := h.box.cell 1 rfl
  have hff1 := h.box.free 1
  clear hok hs h hDe hc hG h0 h1 k2 k4
  go_enter Try.func25, Try.ntmps25
  go_wp2_with fail
  refine CU.out.mono ?_
  rintro e w1 ⟨rfl, q1, rfl⟩
  replace Hh := Lib.hid (Hh.out.drewN q1)
  have Hb := Lib.hid (drewN_below w b q1 (by omega))
  replace hcc2 : (w.drewN q1).cell? ⟨b, 2, none⟩ = some (.int .i64 (s.cm : Int)) := hcc2
  replace hcc1 : (w.drewN q1).cell? ⟨b, 1, none⟩ = some (.int .i64 (s.kn : Int)) := hcc1
  replace hff2 : (w.drewN q1).frozen? ⟨b, 2, none⟩ = false := hff2
  replace hff1 : (w.drewN q1).frozen? ⟨b, 1, none⟩ = false := hff1
  replace hlt : b < (w.drewN q1).heap.size := hlt
  clear CU
  generalize w.drewN q1 = w2 at *
  go_wp2_with fail
  refine (CF.out _ Hh.out).mono ?_
  rintro e w9 ⟨rfl, q2, rfl⟩
  replace Hh := Lib.hid (Hh.out.drewN q2)
  replace Hb := Lib.hid (Hb.out.trans (drewN_below w2 b q2 (by omega)))
  replace hcc2 : (w2.drewN q2).cell? ⟨b, 2, none⟩ = _ := hcc2
  replace hcc1 : (w2.drewN q2).cell? ⟨b, 1, none⟩ = _ := hcc1
  replace hff2 : (w2.drewN q2).frozen? ⟨b, 2, none⟩ = false := hff2
  replace hff1 : (w2.drewN q2).frozen? ⟨b, 1, none⟩ = false := hff1
  replace hlt : b < (w2.drewN q2).heap.size := hlt
  generalize w2.drewN q2 = w3 at *
  go_wp2_with fail
  refine (CF.out _ Hh.out).mono ?_
  rintro e w9 ⟨rfl, q5, rfl⟩
  replace Hh := Lib.hid (Hh.out.drewN q5)
  replace Hb := Lib.hid (Hb.out.trans (drewN_below w3 b q5 (by omega)))
  replace hcc2 : (w3.drewN q5).cell? ⟨b, 2, none⟩ = _ := hcc2
  replace hcc1 : (w3.drewN q5).cell? ⟨b, 1, none⟩ = _ := hcc1
  replace hff2 : (w3.drewN q5).frozen? ⟨b, 2, none⟩ = false := hff2
  replace hff1 : (w3.drewN q5).frozen? ⟨b, 1, none⟩ = false := hff1
  replace hlt : b < (w3.drewN q5).heap.size := hlt
  generalize w3.drewN q5 = w5 at *
  go_wp2
  go_ret
  refine Gives.some hE ⟨v, ?_⟩ (Hb.out.trans (put_below 1 _ hlt))
  rw [HG.out]
  exact Hh.out.put (k := 1) (x := s.kn + 1) (s' := ⟨s.al, s.cm, s.cm, s.tk⟩) rfl (by simp [← HK.out])
set_option maxHeartbeats 1600000 in
theorem slot0P (b : Nat) (s : EvS) (hok : EvOk s) (hs : s.al.length ≤ 17592186044416) (h0 : s.kn < s.al.length) (h1 : s.cm = s.kn) (h2 : s.cm - s.tk < 4) (w : World) (h : Chan w b s) :
    Calls Try.prog 25 #[.pointer (some ⟨b, 0, none⟩), .int .i64 0] w (Gives b s ⟨2, 0⟩ w) := by
  obtain ⟨v, h⟩ := h
  have hlt := h.lt
  have hE : evE s ⟨2, 0⟩ = 0 := rfl
  have CU := Lib.hid (unack_any b s v hok hs w h)
  have hD : (((s.al.length : Int) - (s.kn : Int)) == 0) = false := by rw [beq_eq_false_iff_ne]; omega
  have CF := Lib.hid (fun (W : World) (hW : ChanV W b s v) => first_any b s v W hW)
  have k2 := hok.k2
  have k4 := hok.k4
  have hcm : s.cm ≤ 17592186044416 := by have := hok.k3; omega
  have hkn : s.kn ≤ 17592186044416 := by omega
  rw [decide_eq_false (show ¬ s.kn < s.cm by omega)] at CF
  have CT := Lib.hid (fun (W : World) (hW : ChanV W b s v) => untaken_any b s v hok hs W hW)
  have hT : decide (((s.cm : Int) - (s.tk : Int)) < 4) = true := decide_eq_true (by omega)
  obtain ⟨T, hTe⟩ : ∃ T, (s.cm : Int) - (s.tk : Int) = T := ⟨_, rfl⟩
  rw [hTe] at hT CT
  obtain ⟨D, hDe⟩ : ∃ D, (s.al.length : Int) - (s.kn : Int) = D := ⟨_, rfl⟩
  rw [hDe] at hD CU
  have hc : comeC s 0 = s.cm + 1 := if_pos ⟨by decide, h1, h0, h2⟩
  have hG : evG s ⟨2, 0⟩ = ⟨s.al, s.cm + 1, s.cm + 1, s.tk⟩ := slotG_both hc (by decide)
  have HG := Lib.hid hG
  have CF2 := Lib.hid (fun (W : World) (hW : ChanV W b ⟨s.al, s.cm + 1, s.kn, s.tk⟩ v) => first_any b _ v W hW)
  rw [decide_eq_true (show s.kn < s.cm + 1 by omega)] at CF2
  have HK := Lib.hid h1
  have Hh := Lib.hid h
  have hcc2 := h.box.cell 2 rfl
  have hff2 := h.box.free 2
  have hcc1 := h.box.cell 1 rfl
  have hff1 := h.box.free 1
  clear hok hs h hDe hc hG h0 h1 k2 k4 hTe h2
  go_enter Try.func25, Try.ntmps25
  go_wp2_with fail
  refine CU.out.mono ?_
  rintro e w1 ⟨rfl, q1, rfl⟩
  replace Hh := Lib.hid (Hh.out.drewN q1)
  have Hb := Lib.hid (drewN_below w b q1 (by omega))
  replace hcc2 : (w.drewN q1).cell? ⟨b, 2, none⟩ = some (.int .i64 (s.cm : Int)) := hcc2
  replace hcc1 : (w.drewN q1).cell? ⟨b, 1, none⟩ = some (.int .i64 (s.kn : Int)) := hcc1
  replace hff2 : (w.drewN q1).frozen? ⟨b, 2, none⟩ = false := hff2
  replace hff1 : (w.drewN q1).frozen? ⟨b, 1, none⟩ = false := hff1
  replace hlt : b < (w.drewN q1).heap.size := hlt
  clear CU
  generalize w.drewN q1 = w2 at *
  go_wp2_with fail
  refine (CF.out _ Hh.out).mono ?_
  rintro e w9 ⟨rfl, q2, rfl⟩
  replace Hh := Lib.hid (Hh.out.drewN q2)
  replace Hb := Lib.hid (Hb.out.trans (drewN_below w2 b q2 (by omega)))
  replace hcc2 : (w2.drewN q2).cell? ⟨b, 2, none⟩ = _ := hcc2
  replace hcc1 : (w2.drewN q2).cell? ⟨b, 1, none⟩ = _ := hcc1
  replace hff2 : (w2.drewN q2).frozen? ⟨b, 2, none⟩ = false := hff2
  replace hff1 : (w2.drewN q2).frozen? ⟨b, 1, none⟩ = false := hff1
  replace hlt : b < (w2.drewN q2).heap.size := hlt
  generalize w2.drewN q2 = w3 at *
  go_wp2_with fail
  refine (CT.out _ Hh.out).mono ?_
  rintro e w9 ⟨rfl, q3, rfl⟩
  replace Hh := Lib.hid (Hh.out.drewN q3)
  replace Hb := Lib.hid (Hb.out.trans (drewN_below w3 b q3 (by omega)))
  replace hcc2 : (w3.drewN q3).cell? ⟨b, 2, none⟩ = _ := hcc2
  replace hcc1 : (w3.drewN q3).cell? ⟨b, 1, none⟩ = _ := hcc1
  replace hff2 : (w3.drewN q3).frozen? ⟨b, 2, none⟩ = false := hff2
  replace hff1 : (w3.drewN q3).frozen? ⟨b, 1, none⟩ = false := hff1
  replace hlt : b < (w3.drewN q3).heap.size := hlt
  generalize w3.drewN q3 = w4 at *
  replace Hh : Hid (ChanV (w4.setCell ⟨b, 2, none⟩ (.int .i64 ((s.cm : Int) + 1))) b ⟨s.al, s.cm + 1, s.kn, s.tk⟩ v) := Hh.out.put (k := 2) (x := s.cm + 1) (s' := ⟨s.al, s.cm + 1, s.kn, s.tk⟩) rfl rfl
  replace Hb := Lib.hid (Hb.out.trans (put_below 2 (.int .i64 ((s.cm : Int) + 1)) hlt))
  have Hcc2 := Lib.hid (Hh.out.box.cell 2 rfl)
  have Hcc1 := Lib.hid (Hh.out.box.cell 1 rfl)
  have Hff2 := Lib.hid (Hh.out.box.free 2)
  have Hff1 := Lib.hid (Hh.out.box.free 1)
  have Hlt := Lib.hid Hh.out.lt
  obtain ⟨w6, hw6⟩ : ∃ w6, w4.setCell ⟨b, 2, none⟩ (.int .i64 ((s.cm : Int) + 1)) = w6 := ⟨_, rfl⟩
  rw [hw6] at Hh Hb Hcc2 Hcc1 Hff2 Hff1 Hlt
  go_wp2_with fail
  replace hcc2 := Hcc2.out
  replace hcc1 := Hcc1.out
  replace hff2 := Hff2.out
  replace hff1 := Hff1.out
  replace hlt := Hlt.out
  clear hw6 Hcc2 Hcc1 Hff2 Hff1 Hlt
  refine (CF2.out _ Hh.out).mono ?_
  rintro e w9 ⟨rfl, q7, rfl⟩
  replace Hh := Lib.hid (Hh.out.drewN q7)
  replace Hb := Lib.hid (Hb.out.trans (drewN_below w6 b q7 (by omega)))
  replace hcc1 : (w6.drewN q7).cell? ⟨b, 1, none⟩ = some (.int .i64 (s.kn : Int)) := hcc1
  replace hff1 : (w6.drewN q7).frozen? ⟨b, 1, none⟩ = false := hff1
  replace hlt : b < (w6.drewN q7).heap.size := hlt
  clear hcc2 hff2
  generalize w6.drewN q7 = w7 at *
  go_wp2
  go_ret
  refine Gives.some hE ⟨v, ?_⟩ (Hb.out.trans (put_below 1 _ hlt))
  rw [HG.out]
  exact Hh.out.put (k := 1) (x := s.kn + 1) (s' := ⟨s.al, s.cm + 1, s.cm + 1, s.tk⟩) rfl (by simp [HK.out])
set_option maxHeartbeats 1600000 in
theorem slot0Q (b : Nat) (s : EvS) (hok : EvOk s) (hs : s.al.length ≤ 17592186044416) (h0 : s.kn < s.al.length) (h1 : s.cm = s.kn) (h2 : ¬ s.cm - s.tk < 4) (w : World) (h : Chan w b s) :
    Calls Try.prog 25 #[.pointer (some ⟨b, 0, none⟩), .int .i64 0] w (Gives b s ⟨2, 0⟩ w) := by
  obtain ⟨v, h⟩ := h
  have hlt := h.lt
  have hE : evE s ⟨2, 0⟩ = 0 := rfl
  have CU := Lib.hid (unack_any b s v hok hs w h)
  have hD : (((s.al.length : Int) - (s.kn : Int)) == 0) = false := by rw [beq_eq_false_iff_ne]; omega
  have CF := Lib.hid (fun (W : World) (hW : ChanV W b s v) => first_any b s v W hW)
  have k2 := hok.k2
  have k4 := hok.k4
  have hcm : s.cm ≤ 17592186044416 := by have := hok.k3; omega
  have hkn : s.kn ≤ 17592186044416 := by omega
  rw [decide_eq_false (show ¬ s.kn < s.cm by omega)] at CF
  have CT := Lib.hid (fun (W : World) (hW : ChanV W b s v) => untaken_any b s v hok hs W hW)
  have hT : decide (((s.cm : Int) - (s.tk : Int)) < 4) = false := decide_eq_false (by omega)
  obtain ⟨T, hTe⟩ : ∃ T, (s.cm : Int) - (s.tk : Int) = T := ⟨_, rfl⟩
  rw [hTe] at hT CT
  obtain ⟨D, hDe⟩ : ∃ D, (s.al.length : Int) - (s.kn : Int) = D := ⟨_, rfl⟩
  rw [hDe] at hD CU
  have hc : comeC s 0 = s.cm := if_neg (fun g => h2 g.2.2.2)
  have hG : evG s ⟨2, 0⟩ = s := slotG_same hc (fun _ => h1)
  have HG := Lib.hid hG
  have Hh := Lib.hid h
  have hcc2 := h.box.cell 2 rfl
  have hff2 := h.box.free 2
  have hcc1 := h.box.cell 1 rfl
  have hff1 := h.box.free 1
  clear hok hs h hDe hc hG h0 h1 k2 k4 hTe h2
  go_enter Try.func25, Try.ntmps25
  go_wp2_with fail
  refine CU.out.mono ?_
  rintro e w1 ⟨rfl, q1, rfl⟩
  replace Hh := Lib.hid (Hh.out.drewN q1)
  have Hb := Lib.hid (drewN_below w b q1 (by omega))
  replace hcc2 : (w.drewN q1).cell? ⟨b, 2, none⟩ = some (.int .i64 (s.cm : Int)) := hcc2
  replace hcc1 : (w.drewN q1).cell? ⟨b, 1, none⟩ = some (.int .i64 (s.kn : Int)) := hcc1
  replace hff2 : (w.drewN q1).frozen? ⟨b, 2, none⟩ = false := hff2
  replace hff1 : (w.drewN q1).frozen? ⟨b, 1, none⟩ = false := hff1
  replace hlt : b < (w.drewN q1).heap.size := hlt
  clear CU
  generalize w.drewN q1 = w2 at *
  go_wp2_with fail
  refine (CF.out _ Hh.out).mono ?_
  rintro e w9 ⟨rfl, q2, rfl⟩
  replace Hh := Lib.hid (Hh.out.drewN q2)
  replace Hb := Lib.hid (Hb.out.trans (drewN_below w2 b q2 (by omega)))
  replace hcc2 : (w2.drewN q2).cell? ⟨b, 2, none⟩ = _ := hcc2
  replace hcc1 : (w2.drewN q2).cell? ⟨b, 1, none⟩ = _ := hcc1
  replace hff2 : (w2.drewN q2).frozen? ⟨b, 2, none⟩ = false := hff2
  replace hff1 : (w2.drewN q2).frozen? ⟨b, 1, none⟩ = false := hff1
  replace hlt : b < (w2.drewN q2).heap.size := hlt
  generalize w2.drewN q2 = w3 at *
  go_wp2_with fail
  refine (CT.out _ Hh.out).mono ?_
  rintro e w9 ⟨rfl, q3, rfl⟩
  replace Hh := Lib.hid (Hh.out.drewN q3)
  replace Hb := Lib.hid (Hb.out.trans (drewN_below w3 b q3 (by omega)))
  replace hcc2 : (w3.drewN q3).cell? ⟨b, 2, none⟩ = _ := hcc2
  replace hcc1 : (w3.drewN q3).cell? ⟨b, 1, none⟩ = _ := hcc1
  replace hff2 : (w3.drewN q3).frozen? ⟨b, 2, none⟩ = false := hff2
  replace hff1 : (w3.drewN q3).frozen? ⟨b, 1, none⟩ = false := hff1
  replace hlt : b < (w3.drewN q3).heap.size := hlt
  generalize w3.drewN q3 = w4 at *
  go_wp2_with fail
  refine (CF.out _ Hh.out).mono ?_
  rintro e w9 ⟨rfl, q5, rfl⟩
  replace Hh := Lib.hid (Hh.out.drewN q5)
  replace Hb := Lib.hid (Hb.out.trans (drewN_below w4 b q5 (by omega)))
  replace hcc2 : (w4.drewN q5).cell? ⟨b, 2, none⟩ = _ := hcc2
  replace hcc1 : (w4.drewN q5).cell? ⟨b, 1, none⟩ = _ := hcc1
  replace hff2 : (w4.drewN q5).frozen? ⟨b, 2, none⟩ = false := hff2
  replace hff1 : (w4.drewN q5).frozen? ⟨b, 1, none⟩ = false := hff1
  replace hlt : b < (w4.drewN q5).heap.size := hlt
  generalize w4.drewN q5 = w5 at *
  go_wp2
  go_ret
  exact Gives.some hE ⟨v, by rw [HG.out]; exact Hh.out⟩ Hb.out
set_option maxHeartbeats 1600000 in
theorem slot1R (b : Nat) (s : EvS) (hok : EvOk s) (hs : s.al.length ≤ 17592186044416) (h0 : s.kn < s.al.length) (h1 : s.kn < s.cm) (w : World) (h : Chan w b s) :
    Calls Try.prog 25 #[.pointer (some ⟨b, 0, none⟩), .int .i64 1] w (Gives b s ⟨2, 1⟩ w) := by
  obtain ⟨v, h⟩ := h
  have hlt := h.lt
  have hE : evE s ⟨2, 1⟩ = 0 := rfl
  have CU := Lib.hid (unack_any b s v hok hs w h)
  have hD : (((s.al.length : Int) - (s.kn : Int)) == 0) = false := by rw [beq_eq_false_iff_ne]; omega
  have CF := Lib.hid (fun (W : World) (hW : ChanV W b s v) => first_any b s v W hW)
  have k2 := hok.k2
  have k4 := hok.k4
  have hcm : s.cm ≤ 17592186044416 := by have := hok.k3; omega
  have hkn : s.kn ≤ 17592186044416 := by omega
  rw [decide_eq_true h1] at CF
  obtain ⟨D, hDe⟩ : ∃ D, (s.al.length : Int) - (s.kn : Int) = D := ⟨_, rfl⟩
  rw [hDe] at hD CU
  have hc : comeC s 1 = s.cm := if_neg (fun g => by have := g.2.1; omega)
  have hG : evG s ⟨2, 1⟩ = ⟨s.al, s.cm, s.cm, s.tk⟩ := slotG_ack hc (by decide)
  have HG := Lib.hid hG
  have he : ((s.kn + 1 : Nat) : Int) = ((s.cm : Nat) : Int) := by omega
  have hke : s.kn + 1 = s.cm := by omega
  have HK := Lib.hid hke
  clear hke he
  have Hh := Lib.hid h
  have hcc2 := h.box.cell 2 rfl
  have hff2 := h.box.free 2
  have hcc1 := h.box.cell 1 rfl
  have hff1 := h.box.free 1
  clear hok hs h hDe hc hG h0 h1 k2 k4
  go_enter Try.func25, Try.ntmps25
  go_wp2_with fail
  refine CU.out.mono ?_
  rintro e w1 ⟨rfl, q1, rfl⟩
  replace Hh := Lib.hid (Hh.out.drewN q1)
  have Hb := Lib.hid (drewN_below w b q1 (by omega))
  replace hcc2 : (w.drewN q1).cell? ⟨b, 2, none⟩ = some (.int .i64 (s.cm : Int)) := hcc2
  replace hcc1 : (w.drewN q1).cell? ⟨b, 1, none⟩ = some (.int .i64 (s.kn : Int)) := hcc1
  replace hff2 : (w.drewN q1).frozen? ⟨b, 2, none⟩ = false := hff2
  replace hff1 : (w.drewN q1).frozen? ⟨b, 1, none⟩ = false := hff1
  replace hlt : b < (w.drewN q1).heap.size := hlt
  clear CU
  generalize w.drewN q1 = w2 at *
  go_wp2_with fail
  refine (CF.out _ Hh.out).mono ?_
  rintro e w9 ⟨rfl, q5, rfl⟩
  replace Hh := Lib.hid (Hh.out.drewN q5)
  replace Hb := Lib.hid (Hb.out.trans (drewN_below w2 b q5 (by omega)))
  replace hcc2 : (w2.drewN q5).cell? ⟨b, 2, none⟩ = _ := hcc2
  replace hcc1 : (w2.drewN q5).cell? ⟨b, 1, none⟩ = _ := hcc1
  replace hff2 : (w2.drewN q5).frozen? ⟨b, 2, none⟩ = false := hff2
  replace hff1 : (w2.drewN q5).frozen? ⟨b, 1, none⟩ = false := hff1
  replace hlt : b < (w2.drewN q5).heap.size := hlt
  generalize w2.drewN q5 = w5 at *
  go_wp2
  go_ret
  refine Gives.some hE ⟨v, ?_⟩ (Hb.out.trans (put_below 1 _ hlt))
  rw [HG.out]
  exact Hh.out.put (k := 1) (x := s.kn + 1) (s' := ⟨s.al, s.cm, s.cm, s.tk⟩) rfl (by simp [← HK.out])
set_option maxHeartbeats 1600000 in
theorem slot1P (b : Nat) (s : EvS) (hok : EvOk s) (hs : s.al.length ≤ 17592186044416) (h0 : s.kn < s.al.length) (h1 : s.cm = s.kn) (h2 : s.cm - s.tk < 4) (w : World) (h : Chan w b s) :
    Calls Try.prog 25 #[.pointer (some ⟨b, 0, none⟩), .int .i64 1] w (Gives b s ⟨2, 1⟩ w) := by
  obtain ⟨v, h⟩ := h
  have hlt := h.lt
  have hE : evE s ⟨2, 1⟩ = 0 := rfl
  have CU := Lib.hid (unack_any b s v hok hs w h)
  have hD : (((s.al.length : Int) - (s.kn : Int)) == 0) = false := by rw [beq_eq_false_iff_ne]; omega
  have CF := Lib.hid (fun (W : World) (hW : ChanV W b s v) => first_any b s v W hW)
  have k2 := hok.k2
  have k4 := hok.k4
  have hcm : s.cm ≤ 17592186044416 := by have := hok.k3; omega
  have hkn : s.kn ≤ 17592186044416 := by omega
  rw [decide_eq_false (show ¬ s.kn < s.cm by omega)] at CF
  have CT := Lib.hid (fun (W : World) (hW : ChanV W b s v) => untaken_any b s v hok hs W hW)
  have hT : decide (((s.cm : Int) - (s.tk : Int)) < 4) = true := decide_eq_true (by omega)
  obtain ⟨T, hTe⟩ : ∃ T, (s.cm : Int) - (s.tk : Int) = T := ⟨_, rfl⟩
  rw [hTe] at hT CT
  obtain ⟨D, hDe⟩ : ∃ D, (s.al.length : Int) - (s.kn : Int) = D := ⟨_, rfl⟩
  rw [hDe] at hD CU
  have hc : comeC s 1 = s.cm := if_neg (fun g => absurd g.1 (by decide))
  have hG : evG s ⟨2, 1⟩ = s := slotG_same hc (fun _ => h1)
  have HG := Lib.hid hG
  have Hh := Lib.hid h
  have hcc2 := h.box.cell 2 rfl
  have hff2 := h.box.free 2
  have hcc1 := h.box.cell 1 rfl
  have hff1 := h.box.free 1
  clear hok hs h hDe hc hG h0 h1 k2 k4 hTe h2
  go_enter Try.func25, Try.ntmps25
  go_wp2_with fail
  refine CU.out.mono ?_
  rintro e w1 ⟨rfl, q1, rfl⟩
  replace Hh := Lib.hid (Hh.out.drewN q1)
  have Hb := Lib.hid (drewN_below w b q1 (by omega))
  replace hcc2 : (w.drewN q1).cell? ⟨b, 2, none⟩ = some (.int .i64 (s.cm : Int)) := hcc2
  replace hcc1 : (w.drewN q1).cell? ⟨b, 1, none⟩ = some (.int .i64 (s.kn : Int)) := hcc1
  replace hff2 : (w.drewN q1).frozen? ⟨b, 2, none⟩ = false := hff2
  replace hff1 : (w.drewN q1).frozen? ⟨b, 1, none⟩ = false := hff1
  replace hlt : b < (w.drewN q1).heap.size := hlt
  clear CU
  generalize w.drewN q1 = w2 at *
  go_wp2_with fail
  refine (CF.out _ Hh.out).mono ?_
  rintro e w9 ⟨rfl, q5, rfl⟩
  replace Hh := Lib.hid (Hh.out.drewN q5)
  replace Hb := Lib.hid (Hb.out.trans (drewN_below w2 b q5 (by omega)))
  replace hcc2 : (w2.drewN q5).cell? ⟨b, 2, none⟩ = _ := hcc2
  replace hcc1 : (w2.drewN q5).cell? ⟨b, 1, none⟩ = _ := hcc1
  replace hff2 : (w2.drewN q5).frozen? ⟨b, 2, none⟩ = false := hff2
  replace hff1 : (w2.drewN q5).frozen? ⟨b, 1, none⟩ = false := hff1
  replace hlt : b < (w2.drewN q5).heap.size := hlt
  generalize w2.drewN q5 = w5 at *
  go_wp2
  go_ret
  exact Gives.some hE ⟨v, by rw [HG.out]; exact Hh.out⟩ Hb.out
set_option maxHeartbeats 1600000 in
theorem slot1Q (b : Nat) (s : EvS) (hok : EvOk s) (hs : s.al.length ≤ 17592186044416) (h0 : s.kn < s.al.length) (h1 : s.cm = s.kn) (h2 : ¬ s.cm - s.tk < 4) (w : World) (h : Chan w b s) :
    Calls Try.prog 25 #[.pointer (some ⟨b, 0, none⟩), .int .i64 1] w (Gives b s ⟨2, 1⟩ w) := by
  obtain ⟨v, h⟩ := h
  have hlt := h.lt
  have hE : evE s ⟨2, 1⟩ = 0 := rfl
  have CU := Lib.hid (unack_any b s v hok hs w h)
  have hD : (((s.al.length : Int) - (s.kn : Int)) == 0) = false := by rw [beq_eq_false_iff_ne]; omega
  have CF := Lib.hid (fun (W : World) (hW : ChanV W b s v) => first_any b s v W hW)
  have k2 := hok.k2
  have k4 := hok.k4
  have hcm : s.cm ≤ 17592186044416 := by have := hok.k3; omega
  have hkn : s.kn ≤ 17592186044416 := by omega
  rw [decide_eq_false (show ¬ s.kn < s.cm by omega)] at CF
  have CT := Lib.hid (fun (W : World) (hW : ChanV W b s v) => untaken_any b s v hok hs W hW)
  have hT : decide (((s.cm : Int) - (s.tk : Int)) < 4) = false := decide_eq_false (by omega)
  obtain ⟨T, hTe⟩ : ∃ T, (s.cm : Int) - (s.tk : Int) = T := ⟨_, rfl⟩
  rw [hTe] at hT CT
  obtain ⟨D, hDe⟩ : ∃ D, (s.al.length : Int) - (s.kn : Int) = D := ⟨_, rfl⟩
  rw [hDe] at hD CU
  have hc : comeC s 1 = s.cm := if_neg (fun g => h2 g.2.2.2)
  have hG : evG s ⟨2, 1⟩ = s := slotG_same hc (fun _ => h1)
  have HG := Lib.hid hG
  have Hh := Lib.hid h
  have hcc2 := h.box.cell 2 rfl
  have hff2 := h.box.free 2
  have hcc1 := h.box.cell 1 rfl
  have hff1 := h.box.free 1
  clear hok hs h hDe hc hG h0 h1 k2 k4 hTe h2
  go_enter Try.func25, Try.ntmps25
  go_wp2_with fail
  refine CU.out.mono ?_
  rintro e w1 ⟨rfl, q1, rfl⟩
  replace Hh := Lib.hid (Hh.out.drewN q1)
  have Hb := Lib.hid (drewN_below w b q1 (by omega))
  replace hcc2 : (w.drewN q1).cell? ⟨b, 2, none⟩ = some (.int .i64 (s.cm : Int)) := hcc2
  replace hcc1 : (w.drewN q1).cell? ⟨b, 1, none⟩ = some (.int .i64 (s.kn : Int)) := hcc1
  replace hff2 : (w.drewN q1).frozen? ⟨b, 2, none⟩ = false := hff2
  replace hff1 : (w.drewN q1).frozen? ⟨b, 1, none⟩ = false := hff1
  replace hlt : b < (w.drewN q1).heap.size := hlt
  clear CU
  generalize w.drewN q1 = w2 at *
  go_wp2_with fail
  refine (CF.out _ Hh.out).mono ?_
  rintro e w9 ⟨rfl, q5, rfl⟩
  replace Hh := Lib.hid (Hh.out.drewN q5)
  replace Hb := Lib.hid (Hb.out.trans (drewN_below w2 b q5 (by omega)))
  replace hcc2 : (w2.drewN q5).cell? ⟨b, 2, none⟩ = _ := hcc2
  replace hcc1 : (w2.drewN q5).cell? ⟨b, 1, none⟩ = _ := hcc1
  replace hff2 : (w2.drewN q5).frozen? ⟨b, 2, none⟩ = false := hff2
  replace hff1 : (w2.drewN q5).frozen? ⟨b, 1, none⟩ = false := hff1
  replace hlt : b < (w2.drewN q5).heap.size := hlt
  generalize w2.drewN q5 = w5 at *
  go_wp2
  go_ret
  exact Gives.some hE ⟨v, by rw [HG.out]; exact Hh.out⟩ Hb.out
set_option maxHeartbeats 1600000 in
theorem slot2R (b : Nat) (s : EvS) (hok : EvOk s) (hs : s.al.length ≤ 17592186044416) (h0 : s.kn < s.al.length) (h1 : s.kn < s.cm) (w : World) (h : Chan w b s) :
    Calls Try.prog 25 #[.pointer (some ⟨b, 0, none⟩), .int .i64 2] w (Gives b s ⟨2, 2⟩ w) := by
  obtain ⟨v, h⟩ := h
  have hlt := h.lt
  have hE : evE s ⟨2, 2⟩ = 0 := rfl
  have CU := Lib.hid (unack_any b s v hok hs w h)
  have hD : (((s.al.length : Int) - (s.kn : Int)) == 0) = false := by rw [beq_eq_false_iff_ne]; omega
  have CF := Lib.hid (fun (W : World) (hW : ChanV W b s v) => first_any b s v W hW)
  have k2 := hok.k2
  have k4 := hok.k4
  have hcm : s.cm ≤ 17592186044416 := by have := hok.k3; omega
  have hkn : s.kn ≤ 17592186044416 := by omega
  rw [decide_eq_true h1] at CF
  obtain ⟨D, hDe⟩ : ∃ D, (s.al.length : Int) - (s.kn : Int) = D := ⟨_, rfl⟩
  rw [hDe] at hD CU
  have hc : comeC s 2 = s.cm := if_neg (fun g => by have := g.2.1; omega)
  have hG : evG s ⟨2, 2⟩ = s := slotG_same hc (fun g => absurd g (by decide))
  have HG := Lib.hid hG
  have Hh := Lib.hid h
  have hcc2 := h.box.cell 2 rfl
  have hff2 := h.box.free 2
  have hcc1 := h.box.cell 1 rfl
  have hff1 := h.box.free 1
  clear hok hs h hDe hc hG h0 h1 k2 k4
  go_enter Try.func25, Try.ntmps25
  go_wp2_with fail
  refine CU.out.mono ?_
  rintro e w1 ⟨rfl, q1, rfl⟩
  replace Hh := Lib.hid (Hh.out.drewN q1)
  have Hb := Lib.hid (drewN_below w b q1 (by omega))
  replace hcc2 : (w.drewN q1).cell? ⟨b, 2, none⟩ = some (.int .i64 (s.cm : Int)) := hcc2
  replace hcc1 : (w.drewN q1).cell? ⟨b, 1, none⟩ = some (.int .i64 (s.kn : Int)) := hcc1
  replace hff2 : (w.drewN q1).frozen? ⟨b, 2, none⟩ = false := hff2
  replace hff1 : (w.drewN q1).frozen? ⟨b, 1, none⟩ = false := hff1
  replace hlt : b < (w.drewN q1).heap.size := hlt
  clear CU
  generalize w.drewN q1 = w2 at *
  go_wp2_with fail
  refine (CF.out _ Hh.out).mono ?_
  rintro e w9 ⟨rfl, q2, rfl⟩
  replace Hh := Lib.hid (Hh.out.drewN q2)
  replace Hb := Lib.hid (Hb.out.trans (drewN_below w2 b q2 (by omega)))
  replace hcc2 : (w2.drewN q2).cell? ⟨b, 2, none⟩ = _ := hcc2
  replace hcc1 : (w2.drewN q2).cell? ⟨b, 1, none⟩ = _ := hcc1
  replace hff2 : (w2.drewN q2).frozen? ⟨b, 2, none⟩ = false := hff2
  replace hff1 : (w2.drewN q2).frozen? ⟨b, 1, none⟩ = false := hff1
  replace hlt : b < (w2.drewN q2).heap.size := hlt
  generalize w2.drewN q2 = w3 at *
  go_wp2
  go_ret
  exact Gives.some hE ⟨v, by rw [HG.out]; exact Hh.out⟩ Hb.out
set_option maxHeartbeats 1600000 in
theorem slot2P (b : Nat) (s : EvS) (hok : EvOk s) (hs : s.al.length ≤ 17592186044416) (h0 : s.kn < s.al.length) (h1 : s.cm = s.kn) (h2 : s.cm - s.tk < 4) (w : World) (h : Chan w b s) :
    Calls Try.prog 25 #[.pointer (some ⟨b, 0, none⟩), .int .i64 2] w (Gives b s ⟨2, 2⟩ w) := by
  obtain ⟨v, h⟩ := h
  have hlt := h.lt
  have hE : evE s ⟨2, 2⟩ = 0 := rfl
  have CU := Lib.hid (unack_any b s v hok hs w h)
  have hD : (((s.al.length : Int) - (s.kn : Int)) == 0) = false := by rw [beq_eq_false_iff_ne]; omega
  have CF := Lib.hid (fun (W : World) (hW : ChanV W b s v) => first_any b s v W hW)
  have k2 := hok.k2
  have k4 := hok.k4
  have hcm : s.cm ≤ 17592186044416 := by have := hok.k3; omega
  have hkn : s.kn ≤ 17592186044416 := by omega
  rw [decide_eq_false (show ¬ s.kn < s.cm by omega)] at CF
  have CT := Lib.hid (fun (W : World) (hW : ChanV W b s v) => untaken_any b s v hok hs W hW)
  have hT : decide (((s.cm : Int) - (s.tk : Int)) < 4) = true := decide_eq_true (by omega)
  obtain ⟨T, hTe⟩ : ∃ T, (s.cm : Int) - (s.tk : Int) = T := ⟨_, rfl⟩
  rw [hTe] at hT CT
  obtain ⟨D, hDe⟩ : ∃ D, (s.al.length : Int) - (s.kn : Int) = D := ⟨_, rfl⟩
  rw [hDe] at hD CU
  have hc : comeC s 2 = s.cm + 1 := if_pos ⟨by decide, h1, h0, h2⟩
  have hG : evG s ⟨2, 2⟩ = ⟨s.al, s.cm + 1, s.kn, s.tk⟩ := slotG_got hc (by decide)
  have HG := Lib.hid hG
  have CF2 := Lib.hid (fun (W : World) (hW : ChanV W b ⟨s.al, s.cm + 1, s.kn, s.tk⟩ v) => first_any b _ v W hW)
  rw [decide_eq_true (show s.kn < s.cm + 1 by omega)] at CF2
  have HK := Lib.hid h1
  have Hh := Lib.hid h
  have hcc2 := h.box.cell 2 rfl
  have hff2 := h.box.free 2
  have hcc1 := h.box.cell 1 rfl
  have hff1 := h.box.free 1
  clear hok hs h hDe hc hG h0 h1 k2 k4 hTe h2
  go_enter Try.func25, Try.ntmps25
  go_wp2_with fail
  refine CU.out.mono ?_
  rintro e w1 ⟨rfl, q1, rfl⟩
  replace Hh := Lib.hid (Hh.out.drewN q1)
  have Hb := Lib.hid (drewN_below w b q1 (by omega))
  replace hcc2 : (w.drewN q1).cell? ⟨b, 2, none⟩ = some (.int .i64 (s.cm : Int)) := hcc2
  replace hcc1 : (w.drewN q1).cell? ⟨b, 1, none⟩ = some (.int .i64 (s.kn : Int)) := hcc1
  replace hff2 : (w.drewN q1).frozen? ⟨b, 2, none⟩ = false := hff2
  replace hff1 : (w.drewN q1).frozen? ⟨b, 1, none⟩ = false := hff1
  replace hlt : b < (w.drewN q1).heap.size := hlt
  clear CU
  generalize w.drewN q1 = w2 at *
  go_wp2_with fail
  refine (CF.out _ Hh.out).mono ?_
  rintro e w9 ⟨rfl, q2, rfl⟩
  replace Hh := Lib.hid (Hh.out.drewN q2)
  replace Hb := Lib.hid (Hb.out.trans (drewN_below w2 b q2 (by omega)))
  replace hcc2 : (w2.drewN q2).cell? ⟨b, 2, none⟩ = _ := hcc2
  replace hcc1 : (w2.drewN q2).cell? ⟨b, 1, none⟩ = _ := hcc1
  replace hff2 : (w2.drewN q2).frozen? ⟨b, 2, none⟩ = false := hff2
  replace hff1 : (w2.drewN q2).frozen? ⟨b, 1, none⟩ = false := hff1
  replace hlt : b < (w2.drewN q2).heap.size := hlt
  generalize w2.drewN q2 = w3 at *
  go_wp2_with fail
  refine (CT.out _ Hh.out).mono ?_
  rintro e w9 ⟨rfl, q3, rfl⟩
  replace Hh := Lib.hid (Hh.out.drewN q3)
  replace Hb := Lib.hid (Hb.out.trans (drewN_below w3 b q3 (by omega)))
  replace hcc2 : (w3.drewN q3).cell? ⟨b, 2, none⟩ = _ := hcc2
  replace hcc1 : (w3.drewN q3).cell? ⟨b, 1, none⟩ = _ := hcc1
  replace hff2 : (w3.drewN q3).frozen? ⟨b, 2, none⟩ = false := hff2
  replace hff1 : (w3.drewN q3).frozen? ⟨b, 1, none⟩ = false := hff1
  replace hlt : b < (w3.drewN q3).heap.size := hlt
  generalize w3.drewN q3 = w4 at *
  replace Hh : Hid (ChanV (w4.setCell ⟨b, 2, none⟩ (.int .i64 ((s.cm : Int) + 1))) b ⟨s.al, s.cm + 1, s.kn, s.tk⟩ v) := Hh.out.put (k := 2) (x := s.cm + 1) (s' := ⟨s.al, s.cm + 1, s.kn, s.tk⟩) rfl rfl
  replace Hb := Lib.hid (Hb.out.trans (put_below 2 (.int .i64 ((s.cm : Int) + 1)) hlt))
  have Hcc2 := Lib.hid (Hh.out.box.cell 2 rfl)
  have Hcc1 := Lib.hid (Hh.out.box.cell 1 rfl)
  have Hff2 := Lib.hid (Hh.out.box.free 2)
  have Hff1 := Lib.hid (Hh.out.box.free 1)
  have Hlt := Lib.hid Hh.out.lt
  obtain ⟨w6, hw6⟩ : ∃ w6, w4.setCell ⟨b, 2, none⟩ (.int .i64 ((s.cm : Int) + 1)) = w6 := ⟨_, rfl⟩
  rw [hw6] at Hh Hb Hcc2 Hcc1 Hff2 Hff1 Hlt
  go_wp2
  go_ret
  refine Gives.some hE ⟨v, ?_⟩ Hb.out
  rw [HG.out]
  exact Hh.out
set_option maxHeartbeats 1600000 in
theorem slot2Q (b : Nat) (s : EvS) (hok : EvOk s) (hs : s.al.length ≤ 17592186044416) (h0 : s.kn < s.al.length) (h1 : s.cm = s.kn) (h2 : ¬ s.cm - s.tk < 4) (w : World) (h : Chan w b s) :
    Calls Try.prog 25 #[.pointer (some ⟨b, 0, none⟩), .int .i64 2] w (Gives b s ⟨2, 2⟩ w) := by
  obtain ⟨v, h⟩ := h
  have hlt := h.lt
  have hE : evE s ⟨2, 2⟩ = 0 := rfl
  have CU := Lib.hid (unack_any b s v hok hs w h)
  have hD : (((s.al.length : Int) - (s.kn : Int)) == 0) = false := by rw [beq_eq_false_iff_ne]; omega
  have CF := Lib.hid (fun (W : World) (hW : ChanV W b s v) => first_any b s v W hW)
  have k2 := hok.k2
  have k4 := hok.k4
  have hcm : s.cm ≤ 17592186044416 := by have := hok.k3; omega
  have hkn : s.kn ≤ 17592186044416 := by omega
  rw [decide_eq_false (show ¬ s.kn < s.cm by omega)] at CF
  have CT := Lib.hid (fun (W : World) (hW : ChanV W b s v) => untaken_any b s v hok hs W hW)
  have hT : decide (((s.cm : Int) - (s.tk : Int)) < 4) = false := decide_eq_false (by omega)
  obtain ⟨T, hTe⟩ : ∃ T, (s.cm : Int) - (s.tk : Int) = T := ⟨_, rfl⟩
  rw [hTe] at hT CT
  obtain ⟨D, hDe⟩ : ∃ D, (s.al.length : Int) - (s.kn : Int) = D := ⟨_, rfl⟩
  rw [hDe] at hD CU
  have hc : comeC s 2 = s.cm := if_neg (fun g => h2 g.2.2.2)
  have hG : evG s ⟨2, 2⟩ = s := slotG_same hc (fun _ => h1)
  have HG := Lib.hid hG
  have Hh := Lib.hid h
  have hcc2 := h.box.cell 2 rfl
  have hff2 := h.box.free 2
  have hcc1 := h.box.cell 1 rfl
  have hff1 := h.box.free 1
  clear hok hs h hDe hc hG h0 h1 k2 k4 hTe h2
  go_enter Try.func25, Try.ntmps25
  go_wp2_with fail
  refine CU.out.mono ?_
  rintro e w1 ⟨rfl, q1, rfl⟩
  replace Hh := Lib.hid (Hh.out.drewN q1)
  have Hb := Lib.hid (drewN_below w b q1 (by omega))
  replace hcc2 : (w.drewN q1).cell? ⟨b, 2, none⟩ = some (.int .i64 (s.cm : Int)) := hcc2
  replace hcc1 : (w.drewN q1).cell? ⟨b, 1, none⟩ = some (.int .i64 (s.kn : Int)) := hcc1
  replace hff2 : (w.drewN q1).frozen? ⟨b, 2, none⟩ = false := hff2
  replace hff1 : (w.drewN q1).frozen? ⟨b, 1, none⟩ = false := hff1
  replace hlt : b < (w.drewN q1).heap.size := hlt
  clear CU
  generalize w.drewN q1 = w2 at *
  go_wp2_with fail
  refine (CF.out _ Hh.out).mono ?_
  rintro e w9 ⟨rfl, q2, rfl⟩
  replace Hh := Lib.hid (Hh.out.drewN q2)
  replace Hb := Lib.hid (Hb.out.trans (drewN_below w2 b q2 (by omega)))
  replace hcc2 : (w2.drewN q2).cell? ⟨b, 2, none⟩ = _ := hcc2
  replace hcc1 : (w2.drewN q2).cell? ⟨b, 1, none⟩ = _ := hcc1
  replace hff2 : (w2.drewN q2).frozen? ⟨b, 2, none⟩ = false := hff2
  replace hff1 : (w2.drewN q2).frozen? ⟨b, 1, none⟩ = false := hff1
  replace hlt : b < (w2.drewN q2).heap.size := hlt
  generalize w2.drewN q2 = w3 at *
  go_wp2_with fail
  refine (CT.out _ Hh.out).mono ?_
  rintro e w9 ⟨rfl, q3, rfl⟩
  replace Hh := Lib.hid (Hh.out.drewN q3)
  replace Hb := Lib.hid (Hb.out.trans (drewN_below w3 b q3 (by omega)))
  replace hcc2 : (w3.drewN q3).cell? ⟨b, 2, none⟩ = _ := hcc2
  replace hcc1 : (w3.drewN q3).cell? ⟨b, 1, none⟩ = _ := hcc1
  replace hff2 : (w3.drewN q3).frozen? ⟨b, 2, none⟩ = false := hff2
  replace hff1 : (w3.drewN q3).frozen? ⟨b, 1, none⟩ = false := hff1
  replace hlt : b < (w3.drewN q3).heap.size := hlt
  generalize w3.drewN q3 = w4 at *
  go_wp2
  go_ret
  exact Gives.some hE ⟨v, by rw [HG.out]; exact Hh.out⟩ Hb.out
set_option maxHeartbeats 1600000 in
theorem slot3R (b : Nat) (s : EvS) (hok : EvOk s) (hs : s.al.length ≤ 17592186044416) (h0 : s.kn < s.al.length) (h1 : s.kn < s.cm) (w : World) (h : Chan w b s) :
    Calls Try.prog 25 #[.pointer (some ⟨b, 0, none⟩), .int .i64 3] w (Gives b s ⟨2, 3⟩ w) := by
  obtain ⟨v, h⟩ := h
  have hlt := h.lt
  have hE : evE s ⟨2, 3⟩ = 0 := rfl
  have CU := Lib.hid (unack_any b s v hok hs w h)
  have hD : (((s.al.length : Int) - (s.kn : Int)) == 0) = false := by rw [beq_eq_false_iff_ne]; omega
  have CF := Lib.hid (fun (W : World) (hW : ChanV W b s v) => first_any b s v W hW)
  have k2 := hok.k2
  have k4 := hok.k4
  have hcm : s.cm ≤ 17592186044416 := by have := hok.k3; omega
  have hkn : s.kn ≤ 17592186044416 := by omega
  rw [decide_eq_true h1] at CF
  obtain ⟨D, hDe⟩ : ∃ D, (s.al.length : Int) - (s.kn : Int) = D := ⟨_, rfl⟩
  rw [hDe] at hD CU
  have hc : comeC s 3 = s.cm := if_neg (fun g => by have := g.2.1; omega)
  have hG : evG s ⟨2, 3⟩ = s := slotG_same hc (fun g => absurd g (by decide))
  have HG := Lib.hid hG
  have Hh := Lib.hid h
  have hcc2 := h.box.cell 2 rfl
  have hff2 := h.box.free 2
  have hcc1 := h.box.cell 1 rfl
  have hff1 := h.box.free 1
  clear hok hs h hDe hc hG h0 h1 k2 k4
  go_enter Try.func25, Try.ntmps25
  go_wp2_with fail
  refine CU.out.mono ?_
  rintro e w1 ⟨rfl, q1, rfl⟩
  replace Hh := Lib.hid (Hh.out.drewN q1)
  have Hb := Lib.hid (drewN_below w b q1 (by omega))
  replace hcc2 : (w.drewN q1).cell? ⟨b, 2, none⟩ = some (.int .i64 (s.cm : Int)) := hcc2
  replace hcc1 : (w.drewN q1).cell? ⟨b, 1, none⟩ = some (.int .i64 (s.kn : Int)) := hcc1
  replace hff2 : (w.drewN q1).frozen? ⟨b, 2, none⟩ = false := hff2
  replace hff1 : (w.drewN q1).frozen? ⟨b, 1, none⟩ = false := hff1
  replace hlt : b < (w.drewN q1).heap.size := hlt
  clear CU
  generalize w.drewN q1 = w2 at *
  go_wp2
  go_ret
  exact Gives.some hE ⟨v, by rw [HG.out]; exact Hh.out⟩ Hb.out
set_option maxHeartbeats 1600000 in
theorem slot3P (b : Nat) (s : EvS) (hok : EvOk s) (hs : s.al.length ≤ 17592186044416) (h0 : s.kn < s.al.length) (h1 : s.cm = s.kn) (h2 : s.cm - s.tk < 4) (w : World) (h : Chan w b s) :
    Calls Try.prog 25 #[.pointer (some ⟨b, 0, none⟩), .int .i64 3] w (Gives b s ⟨2, 3⟩ w) := by
  obtain ⟨v, h⟩ := h
  have hlt := h.lt
  have hE : evE s ⟨2, 3⟩ = 0 := rfl
  have CU := Lib.hid (unack_any b s v hok hs w h)
  have hD : (((s.al.length : Int) - (s.kn : Int)) == 0) = false := by rw [beq_eq_false_iff_ne]; omega
  have CF := Lib.hid (fun (W : World) (hW : ChanV W b s v) => first_any b s v W hW)
  have k2 := hok.k2
  have k4 := hok.k4
  have hcm : s.cm ≤ 17592186044416 := by have := hok.k3; omega
  have hkn : s.kn ≤ 17592186044416 := by omega
  rw [decide_eq_false (show ¬ s.kn < s.cm by omega)] at CF
  have CT := Lib.hid (fun (W : World) (hW : ChanV W b s v) => untaken_any b s v hok hs W hW)
  have hT : decide (((s.cm : Int) - (s.tk : Int)) < 4) = true := decide_eq_true (by omega)
  obtain ⟨T, hTe⟩ : ∃ T, (s.cm : Int) - (s.tk : Int) = T := ⟨_, rfl⟩
  rw [hTe] at hT CT
  obtain ⟨D, hDe⟩ : ∃ D, (s.al.length : Int) - (s.kn : Int) = D := ⟨_, rfl⟩
  rw [hDe] at hD CU
  have hc : comeC s 3 = s.cm := if_neg (fun g => absurd g.1 (by decide))
  have hG : evG s ⟨2, 3⟩ = s := slotG_same hc (fun _ => h1)
  have HG := Lib.hid hG
  have Hh := Lib.hid h
  have hcc2 := h.box.cell 2 rfl
  have hff2 := h.box.free 2
  have hcc1 := h.box.cell 1 rfl
  have hff1 := h.box.free 1
  clear hok hs h hDe hc hG h0 h1 k2 k4 hTe h2
  go_enter Try.func25, Try.ntmps25
  go_wp2_with fail
  refine CU.out.mono ?_
  rintro e w1 ⟨rfl, q1, rfl⟩
  replace Hh := Lib.hid (Hh.out.drewN q1)
  have Hb := Lib.hid (drewN_below w b q1 (by omega))
  replace hcc2 : (w.drewN q1).cell? ⟨b, 2, none⟩ = some (.int .i64 (s.cm : Int)) := hcc2
  replace hcc1 : (w.drewN q1).cell? ⟨b, 1, none⟩ = some (.int .i64 (s.kn : Int)) := hcc1
  replace hff2 : (w.drewN q1).frozen? ⟨b, 2, none⟩ = false := hff2
  replace hff1 : (w.drewN q1).frozen? ⟨b, 1, none⟩ = false := hff1
  replace hlt : b < (w.drewN q1).heap.size := hlt
  clear CU
  generalize w.drewN q1 = w2 at *
  go_wp2
  go_ret
  exact Gives.some hE ⟨v, by rw [HG.out]; exact Hh.out⟩ Hb.out
set_option maxHeartbeats 1600000 in
theorem slot3Q (b : Nat) (s : EvS) (hok : EvOk s) (hs : s.al.length ≤ 17592186044416) (h0 : s.kn < s.al.length) (h1 : s.cm = s.kn) (h2 : ¬ s.cm - s.tk < 4) (w : World) (h : Chan w b s) :
    Calls Try.prog 25 #[.pointer (some ⟨b, 0, none⟩), .int .i64 3] w (Gives b s ⟨2, 3⟩ w) := by
  obtain ⟨v, h⟩ := h
  have hlt := h.lt
  have hE : evE s ⟨2, 3⟩ = 0 := rfl
  have CU := Lib.hid (unack_any b s v hok hs w h)
  have hD : (((s.al.length : Int) - (s.kn : Int)) == 0) = false := by rw [beq_eq_false_iff_ne]; omega
  have CF := Lib.hid (fun (W : World) (hW : ChanV W b s v) => first_any b s v W hW)
  have k2 := hok.k2
  have k4 := hok.k4
  have hcm : s.cm ≤ 17592186044416 := by have := hok.k3; omega
  have hkn : s.kn ≤ 17592186044416 := by omega
  rw [decide_eq_false (show ¬ s.kn < s.cm by omega)] at CF
  have CT := Lib.hid (fun (W : World) (hW : ChanV W b s v) => untaken_any b s v hok hs W hW)
  have hT : decide (((s.cm : Int) - (s.tk : Int)) < 4) = false := decide_eq_false (by omega)
  obtain ⟨T, hTe⟩ : ∃ T, (s.cm : Int) - (s.tk : Int) = T := ⟨_, rfl⟩
  rw [hTe] at hT CT
  obtain ⟨D, hDe⟩ : ∃ D, (s.al.length : Int) - (s.kn : Int) = D := ⟨_, rfl⟩
  rw [hDe] at hD CU
  have hc : comeC s 3 = s.cm := if_neg (fun g => h2 g.2.2.2)
  have hG : evG s ⟨2, 3⟩ = s := slotG_same hc (fun _ => h1)
  have HG := Lib.hid hG
  have Hh := Lib.hid h
  have hcc2 := h.box.cell 2 rfl
  have hff2 := h.box.free 2
  have hcc1 := h.box.cell 1 rfl
  have hff1 := h.box.free 1
  clear hok hs h hDe hc hG h0 h1 k2 k4 hTe h2
  go_enter Try.func25, Try.ntmps25
  go_wp2_with fail
  refine CU.out.mono ?_
  rintro e w1 ⟨rfl, q1, rfl⟩
  replace Hh := Lib.hid (Hh.out.drewN q1)
  have Hb := Lib.hid (drewN_below w b q1 (by omega))
  replace hcc2 : (w.drewN q1).cell? ⟨b, 2, none⟩ = some (.int .i64 (s.cm : Int)) := hcc2
  replace hcc1 : (w.drewN q1).cell? ⟨b, 1, none⟩ = some (.int .i64 (s.kn : Int)) := hcc1
  replace hff2 : (w.drewN q1).frozen? ⟨b, 2, none⟩ = false := hff2
  replace hff1 : (w.drewN q1).frozen? ⟨b, 1, none⟩ = false := hff1
  replace hlt : b < (w.drewN q1).heap.size := hlt
  clear CU
  generalize w.drewN q1 = w2 at *
  go_wp2
  go_ret
  exact Gives.some hE ⟨v, by rw [HG.out]; exact Hh.out⟩ Hb.out
theorem slot_any (b : Nat) (s : EvS) (n : Int) (hok : EvOk s) (hs : s.al.length ≤ 17592186044416) (w : World) (h : Chan w b s) :
    Calls Try.prog 25 #[.pointer (some ⟨b, 0, none⟩), .int .i64 n] w (Gives b s ⟨2, n⟩ w) := by
  by_cases hn : n < 0 ∨ 3 < n
  · exact slot_range b s n hn w h
  by_cases h0 : s.kn = s.al.length
  · exact slot_none b s n (by omega) (by omega) hok hs h0 w h
  have h0 : s.kn < s.al.length := by have := hok.k1; have := hok.k3; omega
  have hn4 : n = 0 ∨ n = 1 ∨ n = 2 ∨ n = 3 := by omega
  by_cases h1 : s.kn < s.cm
  · rcases hn4 with rfl | rfl | rfl | rfl
    · exact slot0R b s hok hs h0 h1 w h
    · exact slot1R b s hok hs h0 h1 w h
    · exact slot2R b s hok hs h0 h1 w h
    · exact slot3R b s hok hs h0 h1 w h
  have h1 : s.cm = s.kn := by have := hok.k1; omega
  by_cases h2 : s.cm - s.tk < 4
  · rcases hn4 with rfl | rfl | rfl | rfl
    · exact slot0P b s hok hs h0 h1 h2 w h
    · exact slot1P b s hok hs h0 h1 h2 w h
    · exact slot2P b s hok hs h0 h1 h2 w h
    · exact slot3P b s hok hs h0 h1 h2 w h
  · rcases hn4 with rfl | rfl | rfl | rfl
    · exact slot0Q b s hok hs h0 h1 h2 w h
    · exact slot1Q b s hok hs h0 h1 h2 w h
    · exact slot2Q b s hok hs h0 h1 h2 w h
    · exact slot3Q b s hok hs h0 h1 h2 w h
end Go.Proofs.Ytlanmehbcpgoaaa
