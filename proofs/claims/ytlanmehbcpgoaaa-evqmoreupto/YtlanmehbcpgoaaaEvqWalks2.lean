/-
  Contracts of package evq: send, take, slot.
-/
import Derived.Test.YtlanmehbcpgoaaaEvqWalks
namespace Go.Proofs.Ytlanmehbcpgoaaa
open Go.RowKit
set_option linter.unusedVariables false

/-- What a method leaves behind: its error, the channel's next state; nothing ahead of the channel is written. -/
def Gives (b : Nat) (s : EvS) (o : EvO) (w : World) (e : Ending) (w' : World) : Prop :=
  e = .returned (.int .i64 (evE s o)) ∧ Chan w' b (evS s o) ∧ Below b w w'
theorem Gives.none {b : Nat} {s : EvS} {o : EvO} {w w' : World} {E : Int} (hE : evE s o = E) (h0 : E ≠ 0) (h : Chan w' b s) (hb : Below b w w') : Gives b s o w (.returned (.int .i64 E)) w' := by
  refine ⟨by rw [hE], ?_, hb⟩
  unfold evS
  rw [if_neg (by rw [hE]; exact h0)]
  exact h
theorem Gives.some {b : Nat} {s : EvS} {o : EvO} {w w' : World} (hE : evE s o = 0) (h : Chan w' b (evG s o)) (hb : Below b w w') : Gives b s o w (.returned (.int .i64 0)) w' := by
  refine ⟨by rw [hE], ?_, hb⟩
  unfold evS
  rw [if_pos hE]
  exact h
theorem drewN_below (w : World) (b q : Nat) (hb : b ≤ w.heap.size) : Below b w (w.drewN q) := (below_draws ⟨q, rfl⟩).mono hb
theorem put_below {w : World} {b : Nat} (k : Nat) (u : Value) (hb : b < w.heap.size) : Below b w (w.setCell ⟨b, k, none⟩ u) := below_grown (Below.refl b w) (grownBy_setCell w ⟨b, k, none⟩ u) (Nat.le_refl _) (by omega)

set_option maxHeartbeats 800000 in
theorem send_any (b : Nat) (s : EvS) (x : Int) (hok : EvOk s) (hs : s.al.length < 17592186044416) (w : World) (h : Chan w b s) :
    Calls Try.prog 24 #[.pointer (some ⟨b, 0, none⟩), .int .i64 x] w (Gives b s ⟨1, x⟩ w) := by
  obtain ⟨v, h⟩ := h
  have hlt := h.lt
  have CU := Lib.hid (unack_any b s v hok (by omega) w h)
  have hE : evE s ⟨1, x⟩ = if s.al.length - s.kn = 4 then 4 else 0 := rfl
  have hkm : s.kn ≤ s.al.length := by have := hok.k1; have := hok.k3; omega
  by_cases h4 : s.al.length - s.kn = 4
  · rw [if_pos h4] at hE
    have h4' : (s.al.length : Int) - (s.kn : Int) = 4 := by omega
    rw [h4'] at CU
    have Hc : Hid (Chan w b s) := ⟨v, h⟩
    clear hok hs h hkm h4 h4'
    go_enter Try.func24, Try.ntmps24
    go_wp2_with fail
    refine CU.out.mono ?_
    rintro e w2 ⟨rfl, q, rfl⟩
    go_wp2
    go_ret
    exact Gives.none hE (by decide) (Hc.out.drewN q) (drewN_below w b q (by omega))
  · rw [if_neg h4] at hE
    have h4' : (((s.al.length : Int) - (s.kn : Int)) == 4) = false := by rw [beq_eq_false_iff_ne]; omega
    have Hh := Lib.hid h
    have Hs := Lib.hid hs
    have hcc := h.box.cell 0 rfl
    have hff := h.box.free 0
    have Hok := Lib.hid hok
    obtain ⟨D, hD⟩ : ∃ D, (s.al.length : Int) - (s.kn : Int) = D := ⟨_, rfl⟩
    rw [hD] at CU h4'
    clear hok h hs hkm h4 hD
    go_enter Try.func24, Try.ntmps24
    go_wp2_with fail
    refine CU.out.mono ?_
    rintro e w2 ⟨rfl, q, rfl⟩
    have Hv := Lib.hid (Hh.out.drewN q)
    have Hb := Lib.hid (drewN_below w b q (by omega))
    have c2 : (w.drewN q).cell? ⟨b, 0, none⟩ = some v := hcc
    have f2 : (w.drewN q).frozen? ⟨b, 0, none⟩ = false := hff
    have hlt2 : b < (w.drewN q).heap.size := hlt
    clear CU Hh hcc hff hlt
    generalize w.drewN q = w2 at *
    go_wp2_with (at_builtin; go_must (refine wpList_apM (Value.int .i64) _ elInt rfl rfl (one_int .i64) (b + 1) v s.al rfl (Hv.out.own.alloc _) _ 1 1 [x] rfl (Rd.litAt (Value.int .i64) [x] _ rfl) (by simp; omega) (by have := Hs.out; simp; omega) (by omega) ?_; intro v7 w7 ho7 hm7; obtain ⟨A7, d7, rfl, -, -, -⟩ := ho7.formN (n := s.al.length + 1) (by simp); obtain ⟨x7, y7, z7⟩ := Hv.out.sent ho7 hm7; have f7 := x7.free 0; have c7 := x7.cell 0 rfl; have l7 := x7.lt; have Hy := Lib.hid y7; have Hz := Lib.hid z7; clear x7 y7 z7 ho7 hm7))
    go_ret
    exact Gives.some hE ⟨_, Hy.out⟩ (Hb.out.trans Hz.out)
set_option maxHeartbeats 800000 in
theorem take_any (b : Nat) (s : EvS) (x : Int) (hok : EvOk s) (hs : s.al.length ≤ 17592186044416) (w : World) (h : Chan w b s) :
    Calls Try.prog 26 #[.pointer (some ⟨b, 0, none⟩)] w (Gives b s ⟨3, x⟩ w) := by
  obtain ⟨v, h⟩ := h
  have hlt := h.lt
  have CU := Lib.hid (untaken_any b s v hok hs w h)
  have hE : evE s ⟨3, x⟩ = if s.cm = s.tk then 3 else 0 := rfl
  have hk4 := hok.k4
  have hcm : s.cm ≤ 17592186044416 := by have := hok.k3; omega
  by_cases h0 : s.cm = s.tk
  · rw [if_pos h0] at hE
    have h0' : (s.cm : Int) - (s.tk : Int) = 0 := by omega
    rw [h0'] at CU
    have Hc : Hid (Chan w b s) := ⟨v, h⟩
    clear hok hs h h0 h0'
    go_enter Try.func26, Try.ntmps26
    go_wp2_with fail
    refine CU.out.mono ?_
    rintro e w2 ⟨rfl, q, rfl⟩
    go_wp2
    go_ret
    exact Gives.none hE (by decide) (Hc.out.drewN q) (drewN_below w b q (by omega))
  · rw [if_neg h0] at hE
    have h0' : (((s.cm : Int) - (s.tk : Int)) == 0) = false := by rw [beq_eq_false_iff_ne]; omega
    have Hh := Lib.hid h
    have hcc := h.box.cell 3 rfl
    have hff := h.box.free 3
    obtain ⟨D, hD⟩ : ∃ D, (s.cm : Int) - (s.tk : Int) = D := ⟨_, rfl⟩
    rw [hD] at CU h0'
    clear hok h hs h0 hD
    go_enter Try.func26, Try.ntmps26
    go_wp2_with fail
    refine CU.out.mono ?_
    rintro e w2 ⟨rfl, q, rfl⟩
    have Hv := Lib.hid (Hh.out.drewN q)
    have Hb := Lib.hid (drewN_below w b q (by omega))
    have c2 : (w.drewN q).cell? ⟨b, 3, none⟩ = some (.int .i64 (s.tk : Int)) := hcc
    have f2 : (w.drewN q).frozen? ⟨b, 3, none⟩ = false := hff
    have hlt2 : b < (w.drewN q).heap.size := hlt
    clear CU Hh hcc hff hlt
    generalize w.drewN q = w2 at *
    go_wp2
    go_ret
    refine Gives.some hE ⟨v, ?_⟩ (Hb.out.trans (put_below 3 _ hlt2))
    exact Hv.out.put (x := s.tk + 1) (s' := evG s ⟨3, x⟩) rfl rfl
theorem put_cell {w : World} {b k : Nat} {t : TypeId} {vs : List Value} (h : Box w b t vs) (u : Value) : w.grownBy (w.setCell ⟨b, k, none⟩ u) (some b) := grownBy_setCell w ⟨b, k, none⟩ u
theorem slotG_same {s : EvS} {n : Int} (h : comeC s n = s.cm) (hk : n < 2 → s.cm = s.kn) : evG s ⟨2, n⟩ = s := by
  show (⟨s.al, comeC s n, if n < 2 then comeC s n else s.kn, s.tk⟩ : EvS) = s
  rw [h]
  split
  · rename_i g; rw [hk g]
    have := hk g
    cases s
    simp only at this
    subst this
    rfl
  · rfl
theorem slotG_ack {s : EvS} {n : Int} (h : comeC s n = s.cm) (hn : n < 2) : evG s ⟨2, n⟩ = ⟨s.al, s.cm, s.cm, s.tk⟩ := by
  show (⟨s.al, comeC s n, if n < 2 then comeC s n else s.kn, s.tk⟩ : EvS) = _
  rw [h, if_pos hn]
theorem slotG_got {s : EvS} {n : Int} (h : comeC s n = s.cm + 1) (hn : ¬ n < 2) : evG s ⟨2, n⟩ = ⟨s.al, s.cm + 1, s.kn, s.tk⟩ := by
  show (⟨s.al, comeC s n, if n < 2 then comeC s n else s.kn, s.tk⟩ : EvS) = _
  rw [h, if_neg hn]
theorem slotG_both {s : EvS} {n : Int} (h : comeC s n = s.cm + 1) (hn : n < 2) : evG s ⟨2, n⟩ = ⟨s.al, s.cm + 1, s.cm + 1, s.tk⟩ := by
  show (⟨s.al, comeC s n, if n < 2 then comeC s n else s.kn, s.tk⟩ : EvS) = _
  rw [h, if_pos hn]
theorem slot_range (b : Nat) (s : EvS) (n : Int) (hn : n < 0 ∨ 3 < n) (w : World) (h : Chan w b s) :
    Calls Try.prog 25 #[.pointer (some ⟨b, 0, none⟩), .int .i64 n] w (Gives b s ⟨2, n⟩ w) := by
  have hE : evE s ⟨2, n⟩ = 2 := if_pos hn
  have Hc := Lib.hid h
  clear h
  rcases hn with hn | hn
  · go_enter Try.func25, Try.ntmps25
    go_wp2
    go_ret
    exact Gives.none hE (by decide) Hc.out (Below.refl _ _)
  · go_enter Try.func25, Try.ntmps25
    go_wp2
    go_ret
    exact Gives.none hE (by decide) Hc.out (Below.refl _ _)
theorem slot_none (b : Nat) (s : EvS) (n : Int) (hn : 0 ≤ n) (hn3 : n ≤ 3) (hok : EvOk s) (hs : s.al.length ≤ 17592186044416) (h0 : s.kn = s.al.length) (w : World) (h : Chan w b s) :
    Calls Try.prog 25 #[.pointer (some ⟨b, 0, none⟩), .int .i64 n] w (Gives b s ⟨2, n⟩ w) := by
  obtain ⟨v, h⟩ := h
  have hlt := h.lt
  have hE : evE s ⟨2, n⟩ = 0 := show (if n < 0 ∨ 3 < n then (2 : Int) else 0) = 0 from if_neg (by omega)
  have CU := Lib.hid (unack_any b s v hok hs w h)
  have hD : (s.al.length : Int) - (s.kn : Int) = 0 := by omega
  rw [hD] at CU
  have hc : comeC s n = s.cm := if_neg (fun g => by have := g.2.2.1; omega)
  have Hc : Hid (Chan w b (evG s ⟨2, n⟩)) := by
    show Chan w b (evG s ⟨2, n⟩)
    rw [slotG_same hc (fun _ => by have := hok.k1; have := hok.k3; omega)]
    exact ⟨v, h⟩
  clear hok hs h hD hc h0
  go_enter Try.func25, Try.ntmps25
  go_wp2_with fail
  refine CU.out.mono ?_
  rintro e w2 ⟨rfl, q, rfl⟩
  go_wp2
  go_ret
  exact Gives.some hE (Hc.out.drewN q) (drewN_below w b q (by omega))
end Go.Proofs.Ytlanmehbcpgoaaa
