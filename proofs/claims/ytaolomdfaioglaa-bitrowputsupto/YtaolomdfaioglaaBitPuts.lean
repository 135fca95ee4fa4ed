/-
  BitrowPuts' walk.
-/
import Derived.Test.YtaolomdfaioglaaBitWalks4
import Derived.Deep.RegionWith
namespace Go.Proofs.Ytaolomdfaioglaa
open Go.RowKit
set_option linter.unusedVariables false

set_option maxHeartbeats 2000000 in
theorem BitrowPuts_walk (a0 a1 : Int) (A2 : Option Addr) (n2 c2 : Nat) (l2 : List Bool) (A3 : Option Addr) (n3 c3 : Nat) (l3 : List Int) (w : World)
    (w0 : (Lit.int .i64 a0).wf = true) (w1 : (Lit.int .i64 a1).wf = true)
    (h2 : Rd w 1 A2 n2 (l2.map Value.bool)) (k2 : n2 ≤ c2) (b2 : c2 ≤ 1048576)
    (h3 : Rd w 1 A3 n3 (l3.map (Value.int .u8))) (w3 : ∀ x ∈ l3, (Lit.int .u8 x).wf = true) (k3 : n3 ≤ c3) (b3 : c3 ≤ 1048576) :
    Calls Try.prog 3 #[.int .i64 a0, .int .i64 a1, .slice A2 n2 c2, .slice A3 n3 c3] w fun e w' => e = .returned (.bool true) ∧ Below w.heap.size w w' := by
  have q3 : Byte8 l3 := fun x hx => by have := wf_u8 (w3 x hx); omega
  clear w0 w1 w3
  have hbl := bytesOf_length l2
  have hol := ofBytes_length l3
  rw [h2.lenMap] at hbl
  rw [h3.lenMap] at hol
  replace hol : (ofBytes l3).length ≤ 8388608 := by omega
  go_enter Try.func3, Try.ntmps3
  go_wp2_with fail
  refine (Put_any a0 a1 _).mono ?_
  rintro e wx ⟨Ax, cx, rfl, hox, hbx⟩
  go_wp2_with fail
  refine (APut_any a0 a1 _).mono ?_
  rintro e wb ⟨Ay, cy, rfl, hoy, hby⟩
  have hrx := (hox.below hby).rd
  have hry := hoy.rd
  have hb := bthen hbx hby
  have hnx := putM_len a0 a1
  clear hox hoy hbx hby
  generalize (putM a0 a1).1 = xl at *
  generalize (putM a0 a1).2 = er at *
  go_wp2_with fail
  refine (Get_any A2 n2 c2 l2 _ (h2.below hb)).mono ?_
  rintro e w2 ⟨rfl, rfl⟩
  have hg : Hid (getM l2 = if n2 ≤ 62 then (num l2, 0) else (0, 2)) := by show _ = _; rw [← h2.lenMap]; rfl
  obtain ⟨gm, ge, hgm⟩ : ∃ gm ge, (gm, ge) = getM l2 := ⟨_, _, rfl⟩
  rw [← hgm] at hg ⊢
  simp only
  clear hgm
  go_wp2_with fail
  go_region_with (first
    | (go_at_call_of 12 (Value.slice Ax xl.length cx); refine (EqualB_any _ _ _ _ _ _ xl xl _ ?_ ?_ ?_).mono ?_; exact hrx; exact hry; omega; rintro e w3 ⟨rfl, hq⟩; have hb3 : Below w.heap.size w w3 := bthen hb.drew (below_draws hq); clear hq; rw [show decide (xl = xl) = true by simp])
    | (go_at_call 13; refine (Of_any _ _ _ l3 _ ?_ q3 ?_).mono ?_; exact h3.below hb3; omega; intro e w4 hh; obtain ⟨A4, c4, rfl, ho4, hb4⟩ := Ow.sl hh; clear hh; have hb4' := bthen hb3 hb4)
    | (go_at_call 14; refine (AOf_any _ _ _ l3 _ ?_ q3 ?_).mono ?_; exact h3.below hb4'; omega; intro e w5 hh; obtain ⟨A5, c5, rfl, ho5, hb5⟩ := Ow.sl hh; clear hh; have hb5' := bthen hb4' hb5)
    | (go_at_call 12; refine (EqualB_any _ _ _ _ _ _ (ofBytes l3) (ofBytes l3) _ ?_ ?_ ?_).mono ?_; exact (ho4.below hb5).rd; exact ho5.rd; omega; rintro e w6 ⟨rfl, hq⟩; have hb6' : Below w.heap.size w w6 := bthen hb5' (below_draws hq); clear hq; rw [show decide (ofBytes l3 = ofBytes l3) = true by simp])
    | (go_at_call 15; refine (Bytes_any _ _ _ l2 _ ?_ ?_ ?_ ?_).mono ?_; exact h2.below hb6'; omega; omega; omega; intro e w7 hh; obtain ⟨A7, c7, rfl, ho7, hb7⟩ := Ow.sl hh; clear hh; have hb7' := bthen hb6' hb7; have hcv7 := run_bytes Try.underlying23 Try.underlying5 Try.underlying9 c7 ho7.rd)
    | (go_at_call 16; refine (ABytes_any _ _ _ l2 _ ?_ ?_ ?_ ?_).mono ?_; exact h2.below hb7'; omega; omega; omega; intro e w8 hh; obtain ⟨A8, c8, rfl, ho8, hb8⟩ := Ow.sl hh; clear hh; have hb8' := bthen hb7' hb8; have hcv8 := run_bytes Try.underlying23 Try.underlying5 Try.underlying9 c8 ho8.rd; have hcv7' := run_bytes Try.underlying23 Try.underlying5 Try.underlying9 c7 (ho7.below hb8).rd))
  all_goals
    clear hcv7 hcv8 hcv7' ho7 ho8 hb8 hb7 ho4 ho5 hb4 hb5 hrx hry
    have hb9 : Below w.heap.size w w8 := hb8'
    clear hb8' hb7' hb6' hb5' hb4' hb3
    have hr9 := h2.below hb9
    by_cases hn : n2 ≤ 62
    · have e := hg.out
      rw [if_pos hn] at e
      injection e with e1 e2
      subst e1 e2
      have hd : decide (62 < (n2 : Int)) = false := by simp; omega
      go_wp2_with (go_at_call 17; refine (AGet_any A2 n2 c2 l2 _ hr9 hn).mono ?_; rintro e w2 ⟨rfl, rfl⟩)
      go_ret
      exact ⟨ret_bool (by simp), hb9⟩
    · have e := hg.out
      rw [if_neg hn] at e
      injection e with e1 e2
      subst e1 e2
      have hd : 62 < (n2 : Int) := by omega
      go_wp2
      go_ret
      exact ⟨ret_bool (by simp), hb9⟩
end Go.Proofs.Ytaolomdfaioglaa
