/-
  The walks of PlanFits and PlanMost: each returns true, at every argument.
-/
import Derived.Test.YtgkdjdckdomnmaaPlanWalks2
namespace Go.Proofs.Ytgkdjdckdomnmaa
open Go.RowKit
set_option linter.unusedVariables false

theorem in64_wf {x : Int} (h : (Lit.int .i64 x).wf = true) : in64 x := wf_i64 h
theorem in64s_wf {l : List Int} (h : ∀ x ∈ l, (Lit.int .i64 x).wf = true) : in64s l := fun x hx => wf_i64 (h x hx)
theorem right_in {U : Nat → Bool} {l F : List Int} (hp : Pows l) (hl : l.length = F.length) (h : rightF U l F = true) : ∀ f ∈ F, 0 ≤ f ∧ f < 64 := by
  induction l generalizing F U with
  | nil => cases F with
    | nil => intro f hf; cases hf
    | cons f fs => simp at hl
  | cons p r ih =>
    cases F with
    | nil => simp at hl
    | cons f fs =>
      have hr := (hp p (by simp)).range
      rw [rightF, Bool.and_eq_true, Bool.and_eq_true, decide_eq_true_eq] at h
      intro g hg
      rcases List.mem_cons.1 hg with rfl | hg
      · omega
      · exact ih (fun q hq => hp q (by simp [hq])) (by simpa using hl) h.2.2 g hg
theorem in64_small {F : List Int} (h : ∀ f ∈ F, 0 ≤ f ∧ f < 64) : in64s F := fun f hf => by have := h f hf; unfold in64; omega

def alP : List Int := [4, 2, 8]
theorem alP_ok : in64s alP := by
  intro x hx
  simp only [alP, List.mem_cons, List.not_mem_nil, or_false] at hx
  rcases hx with rfl | rfl | rfl <;> exact ⟨by decide, by decide⟩
def alF : List Int := [1, 0, 5]
theorem alF_ok : in64s alF := by
  intro x hx
  simp only [alF, List.mem_cons, List.not_mem_nil, or_false] at hx
  rcases hx with rfl | rfl | rfl <;> exact ⟨by decide, by decide⟩

set_option maxHeartbeats 800000 in
theorem alive10_any (w : World) : Calls Try.prog 16 #[] w fun e w' => e = .returned (.bool true) ∧ Below w.heap.size w w' := by
  have e1 : makeE alP = 0 := by decide +kernel
  have e2 : makeR alP = [1, 0, 3] := by decide +kernel
  have e3 : jwrong alP = 0 := by decide +kernel
  have e4 : loadS alP = 56 := by decide +kernel
  have e5 : rightR alP alF = false := by decide +kernel
  have e6 : rightE alP alF = 0 := by decide +kernel
  have C1 := Lib.hid (fun (W : World) (A : Option Addr) (h : Rd W 1 A 3 (alP.map (Value.int .i64))) => Make_any A 3 3 alP W h alP_ok (by decide))
  have C2 := Lib.hid (fun (W : World) (A : Option Addr) (h : Rd W 1 A 3 (alP.map (Value.int .i64))) => Load_any A 3 3 alP W h alP_ok (by decide))
  have C3 := Lib.hid (fun (W : World) (A B : Option Addr) (h : Rd W 1 A 3 (alP.map (Value.int .i64))) (h' : Rd W 1 B 3 (alF.map (Value.int .i64))) => Right_any A 3 3 alP B 3 3 alF W h alP_ok (by decide) h' alF_ok (by decide))
  rw [e1, e2] at C1
  rw [if_pos e3, e3, e4] at C2
  rw [e5, e6] at C3
  clear e1 e2 e3 e4 e5 e6
  go_enter Try.func16, Try.ntmps16
  go_wp2_with fail
  refine (C1.out _ _ (Rd.litAt (Value.int .i64) alP _ rfl)).mono ?_
  rintro e w1 ⟨v, rfl, ho, hb1⟩
  obtain ⟨A1, c1, rfl, _, _, hr1⟩ := ho.formN (n := 3) rfl
  have hB1 := below_new hb1
  clear ho hb1
  go_wp2_with fail
  refine (C2.out _ _ (Rd.litAt (Value.int .i64) alP _ rfl)).mono ?_
  rintro e w2 ⟨rfl, hw2⟩
  have hb2 : Below w1.heap.size w1 w2 := by rw [← hw2]; exact (Below.refl _ _).alloc (Nat.le_refl _) _
  clear hw2
  go_wp2_with fail
  refine (C3.out _ _ _ ((Rd.litAt (Value.int .i64) alP _ rfl).alloc _) (Rd.litAt (Value.int .i64) alF _ (by simp))).mono ?_
  rintro e w3 ⟨rfl, hb3⟩
  have hb3' := below_new (below_new hb3)
  have hr3 := hr1.below (bthen hb2 hb3')
  have hB3 := bthen (bthen hB1 hb2) hb3'
  clear hb3 hb2 hb3' hB1 hr1
  go_wp2_with fail
  refine (EqualI_any_same A1 _ 3 c1 3 3 [1, 0, 3] _ (hr3.alloc _) (Rd.litAt (Value.int .i64) [1, 0, 3] _ rfl) (by decide)).mono ?_
  rintro e w4 ⟨rfl, hb4⟩
  go_wp2
  go_ret
  exact ⟨rfl, bthen hB3 (below_new hb4)⟩

theorem makeR_yes {l : List Int} (h0 : jwrong l = 0) (h1 : loadS l ≤ 64) : makeR l = makeL l := by rw [makeR, if_pos ⟨h0, h1⟩]
theorem makeE_yes {l : List Int} (h0 : jwrong l = 0) (h1 : loadS l ≤ 64) : makeE l = 0 := by rw [makeE, if_pos h0, if_pos h1]
theorem makeR_full {l : List Int} (h1 : ¬ loadS l ≤ 64) : makeR l = [] := by rw [makeR, if_neg (fun e => h1 e.2)]
theorem makeE_full {l : List Int} (h0 : jwrong l = 0) (h1 : ¬ loadS l ≤ 64) : makeE l = 4 := by rw [makeE, if_pos h0, if_neg h1]
theorem makeR_no {l : List Int} (h0 : ¬ jwrong l = 0) : makeR l = [] := by rw [makeR, if_neg (fun e => h0 e.1)]
theorem makeE_no {l : List Int} (h0 : ¬ jwrong l = 0) : makeE l = jwrong l := by rw [makeE, if_neg h0]
theorem rightR_yes {l F : List Int} (h0 : jwrong l = 0) (h1 : l.length = F.length) : rightR l F = rightF none0 l F := by rw [rightR, if_pos ⟨h0, h1⟩]
theorem rightE_yes {l F : List Int} (h0 : jwrong l = 0) (h1 : l.length = F.length) : rightE l F = 0 := by rw [rightE, if_pos h0, if_pos h1]
theorem right_cases (l F : List Int) : (rightE l F ≠ 0 ∧ rightR l F = false) ∨ (rightE l F = 0 ∧ jwrong l = 0 ∧ l.length = F.length ∧ rightR l F = rightF none0 l F) := by
  by_cases h0 : jwrong l = 0
  · by_cases h1 : l.length = F.length
    · exact .inr ⟨rightE_yes h0 h1, h0, h1, rightR_yes h0 h1⟩
    · refine .inl ⟨?_, by rw [rightR, if_neg (fun e => h1 e.2)]⟩
      rw [rightE, if_pos h0, if_neg h1]; decide
  · exact .inl ⟨by rw [rightE, if_neg h0]; exact h0, by rw [rightR, if_neg (fun e => h0 e.1)]⟩

set_option maxHeartbeats 800000 in
theorem PlanFits_walk (A0 : Option Addr) (n0 c0 : Nat) (l0 : List Int) (w : World) (h0 : Rd w 1 A0 n0 (l0.map (Value.int .i64))) (q0 : ∀ x ∈ l0, (Lit.int .i64 x).wf = true) (k0 : n0 ≤ c0) (b0 : c0 * 8 ≤ 140737488351232) :
    Calls Try.prog 4 #[.slice A0 n0 c0] w fun e w' => e = .returned (.bool true) ∧ Below w.heap.size w w' := by
  have hL := in64s_wf q0
  have hn : n0 ≤ 140737488355328 := by omega
  have Hl := Lib.hid h0.lenMap
  have C0 := Lib.hid (alive10_any w)
  have C1 := Lib.hid (fun (W : World) (h : Rd W 1 A0 n0 (l0.map (Value.int .i64))) => Load_any A0 n0 c0 l0 W h hL hn)
  have C2 := Lib.hid (fun (W : World) (h : Rd W 1 A0 n0 (l0.map (Value.int .i64))) => Make_any A0 n0 c0 l0 W h hL hn)
  clear q0
  by_cases hz : jwrong l0 = 0
  · rw [if_pos hz, hz] at C1
    obtain ⟨_, hp⟩ := jwrong_zero.1 hz
    by_cases hload : loadS l0 ≤ 64
    · rw [makeR_yes hz hload, makeE_yes hz hload] at C2
      have hlen := make_len l0
      have hright := make_right hp hload
      have hin := in64_small (right_in hp hlen.symm hright)
      have C3 := Lib.hid (fun (W : World) (B : Option Addr) (d : Nat) (h : Rd W 1 A0 n0 (l0.map (Value.int .i64))) (h' : Rd W 1 B n0 ((makeL l0).map (Value.int .i64))) => Right_any A0 n0 c0 l0 B n0 d (makeL l0) W h hL hn h' hin hn)
      rw [rightR_yes hz hlen.symm, rightE_yes hz hlen.symm, hright] at C3
      have Hlen : Hid ((makeL l0).length = n0) := by show _ = _; rw [hlen, Hl.out]
      clear hz hp hlen hright hin
      generalize makeL l0 = M at C2 C3 Hlen
      generalize loadS l0 = S at C1 hload
      go_enter Try.func4, Try.ntmps4
      go_wp2_with fail
      refine C0.out.mono ?_
      rintro e w1 ⟨rfl, hb1⟩
      go_wp2_with fail
      refine (C1.out w1 (h0.below hb1)).mono ?_
      rintro e w1' ⟨rfl, rfl⟩
      go_wp2_with fail
      refine (C2.out w1 (h0.below hb1)).mono ?_
      rintro e w2 ⟨v, rfl, ho, hb2⟩
      obtain ⟨B, d, rfl, _, _, hr⟩ := ho.formN Hlen.out
      have hB2 := bthen hb1 hb2
      clear ho
      go_wp2_with fail
      refine (C3.out w2 B d (h0.below hB2) hr).mono ?_
      rintro e w3 ⟨rfl, hb3⟩
      go_wp2
      go_ret
      exact ⟨rfl, bthen hB2 hb3⟩
    · rw [makeR_full hload, makeE_full hz hload] at C2
      clear hz hp
      generalize loadS l0 = S at C1 hload
      go_enter Try.func4, Try.ntmps4
      go_wp2_with fail
      refine C0.out.mono ?_
      rintro e w1 ⟨rfl, hb1⟩
      go_wp2_with fail
      refine (C1.out w1 (h0.below hb1)).mono ?_
      rintro e w1' ⟨rfl, rfl⟩
      go_wp2_with fail
      refine (C2.out w1 (h0.below hb1)).mono ?_
      rintro e w2 ⟨v, rfl, ho, hb2⟩
      obtain ⟨B, d, rfl, _, _, hr⟩ := ho.formN (n := 0) rfl
      go_wp2
      go_ret
      exact ⟨rfl, bthen hb1 hb2⟩
  · rw [if_neg hz] at C1
    rw [makeR_no hz, makeE_no hz] at C2
    have hx : (jwrong l0 != 0) = true := by simpa using hz
    clear hz
    generalize jwrong l0 = x at C1 C2 hx
    go_enter Try.func4, Try.ntmps4
    go_wp2_with fail
    refine C0.out.mono ?_
    rintro e w1 ⟨rfl, hb1⟩
    go_wp2_with fail
    refine (C1.out w1 (h0.below hb1)).mono ?_
    rintro e w1' ⟨rfl, rfl⟩
    go_wp2_with fail
    refine (C2.out w1 (h0.below hb1)).mono ?_
    rintro e w2 ⟨v, rfl, ho, hb2⟩
    obtain ⟨B, d, rfl, _, _, hr⟩ := ho.formN (n := 0) rfl
    go_wp2
    go_ret
    exact ⟨rfl, bthen hb1 hb2⟩

set_option maxHeartbeats 800000 in
theorem PlanMost_walk (A0 : Option Addr) (n0 c0 : Nat) (l0 : List Int) (A1 : Option Addr) (n1 c1 : Nat) (l1 : List Int) (w : World) (h0 : Rd w 1 A0 n0 (l0.map (Value.int .i64))) (q0 : ∀ x ∈ l0, (Lit.int .i64 x).wf = true) (k0 : n0 ≤ c0) (b0 : c0 * 8 ≤ 140737488351232)
    (h1 : Rd w 1 A1 n1 (l1.map (Value.int .i64))) (q1 : ∀ x ∈ l1, (Lit.int .i64 x).wf = true) (k1 : n1 ≤ c1) (b1 : c1 * 8 ≤ 140737488351232) :
    Calls Try.prog 5 #[.slice A0 n0 c0, .slice A1 n1 c1] w fun e w' => e = .returned (.bool true) ∧ Below w.heap.size w w' := by
  have hL := in64s_wf q0
  have hF := in64s_wf q1
  have hn : n0 ≤ 140737488355328 := by omega
  have hm : n1 ≤ 140737488355328 := by omega
  have C0 := Lib.hid (alive10_any w)
  have C1 := Lib.hid (fun (W : World) (h : Rd W 1 A0 n0 (l0.map (Value.int .i64))) (h' : Rd W 1 A1 n1 (l1.map (Value.int .i64))) => Right_any A0 n0 c0 l0 A1 n1 c1 l1 W h hL hn h' hF hm)
  have C2 := Lib.hid (fun (W : World) (h : Rd W 1 A0 n0 (l0.map (Value.int .i64))) => Load_any A0 n0 c0 l0 W h hL hn)
  have C3 := Lib.hid (fun (W : World) (h : Rd W 1 A0 n0 (l0.map (Value.int .i64))) => Make_any A0 n0 c0 l0 W h hL hn)
  clear q0 q1
  rcases right_cases l0 l1 with ⟨hx, hr⟩ | ⟨he, hz, hlen, hr⟩
  · rw [hr] at C1
    have hx' : (rightE l0 l1 != 0) = true := by simpa using hx
    clear hx hr C2 C3
    generalize rightE l0 l1 = x at C1 hx'
    go_enter Try.func5, Try.ntmps5
    go_wp2_with fail
    refine C0.out.mono ?_
    rintro e w1 ⟨rfl, hb1⟩
    go_wp2_with fail
    refine (C1.out w1 (h0.below hb1) (h1.below hb1)).mono ?_
    rintro e w2 ⟨rfl, hb2⟩
    go_wp2
    go_ret
    exact ⟨rfl, bthen hb1 hb2⟩
  · rw [hr, he] at C1
    cases hR : rightF none0 l0 l1
    · rw [hR] at C1
      clear hr he hz hlen hR C2 C3
      go_enter Try.func5, Try.ntmps5
      go_wp2_with fail
      refine C0.out.mono ?_
      rintro e w1 ⟨rfl, hb1⟩
      go_wp2_with fail
      refine (C1.out w1 (h0.below hb1) (h1.below hb1)).mono ?_
      rintro e w2 ⟨rfl, hb2⟩
      go_wp2
      go_ret
      exact ⟨rfl, bthen hb1 hb2⟩
    · rw [hR] at C1
      have hp := (jwrong_zero.1 hz).2
      have hload : loadS l0 ≤ 64 := by have := right_load hp hlen none0 hR; rw [cnt_none] at this; omega
      have hl0 := (load_range hp).1
      rw [if_pos hz, hz] at C2
      rw [makeE_yes hz hload] at C3
      clear hr he hz hlen hR hp
      generalize loadS l0 = S at C2 hload hl0
      generalize makeR l0 = M at C3
      go_enter Try.func5, Try.ntmps5
      go_wp2_with fail
      refine C0.out.mono ?_
      rintro e w1 ⟨rfl, hb1⟩
      go_wp2_with fail
      refine (C1.out w1 (h0.below hb1) (h1.below hb1)).mono ?_
      rintro e w2 ⟨rfl, hb2⟩
      have hB2 := bthen hb1 hb2
      go_wp2_with fail
      refine (C2.out w2 (h0.below hB2)).mono ?_
      rintro e w2' ⟨rfl, rfl⟩
      go_wp2_with fail
      refine (C3.out w2 (h0.below hB2)).mono ?_
      rintro e w3 ⟨v, rfl, ho, hb3⟩
      go_wp2
      go_ret
      exact ⟨rfl, bthen hB2 hb3⟩
end Go.Proofs.Ytgkdjdckdomnmaa
