/-
  The walks of GuardShort and GuardOwn: each returns true, at every argument.
-/
import Derived.Test.YtgngpcailjocoaaGuardWalks2
namespace Go.Proofs.Ytgngpcailjocoaa
open Go.RowKit
set_option linter.unusedVariables false

def aliveS : List Slt := [⟨1, 0, 5⟩, ⟨2, 5, 5⟩]
def aliveT : List Slt := [⟨1, 10, 5⟩, ⟨2, 13, 4⟩, ⟨2, 15, 2⟩, ⟨2, 16, 1⟩]
theorem aliveS_ok : ∀ s ∈ aliveS, s.Ok := by
  intro s hs
  simp only [aliveS, List.mem_cons, List.not_mem_nil, or_false] at hs
  rcases hs with rfl | rfl <;> (refine ⟨⟨?_, ?_⟩, ⟨?_, ?_⟩, ?_, ?_⟩ <;> simp)

set_option maxHeartbeats 1600000 in
theorem alive14_any (w : World) : Calls Try.prog 12 #[] w fun e w' => e = .returned (.bool true) ∧ Below w.heap.size w w' := by
  have h10 : in64 10 := ⟨by decide, by decide⟩
  have e0 : checkG 10 aliveS aliveT = 0 := by decide +kernel
  have e1 : mayR 10 aliveS aliveT = [true, false, true, true] := by decide +kernel
  have e2 : heardR 10 aliveS aliveT = [true, false, false, false] := by decide +kernel
  have C1 := Lib.hid (fun (W : World) (A B : Option Addr) (h : RdS W A 2 aliveS) (h' : RdS W B 4 aliveT) => May_any 10 h10 A 2 2 aliveS B 4 4 aliveT W h aliveS_ok (by decide) h' (by decide))
  have C2 := Lib.hid (fun (W : World) (A B : Option Addr) (h : RdS W A 2 aliveS) (h' : RdS W B 4 aliveT) => Heard_any 10 h10 A 2 2 aliveS B 4 4 aliveT W h aliveS_ok (by decide) h' (by decide))
  rw [e0, e1] at C1
  rw [e0, e2] at C2
  clear e0 e1 e2
  have hs : RdS ((w.alloc (.cells #[.int .i64 1, .int .i64 0, .int .i64 5, .int .i64 2, .int .i64 5, .int .i64 5] 45)).alloc (.cells #[.int .i64 1, .int .i64 10, .int .i64 5, .int .i64 2, .int .i64 13, .int .i64 4, .int .i64 2, .int .i64 15, .int .i64 2, .int .i64 2, .int .i64 16, .int .i64 1] 30)) (some ⟨w.heap.size, 0, none⟩) 2 aliveS := Rd.alloc (Rd.litFlat slotC_len aliveS _ rfl) _
  have ht : RdS ((w.alloc (.cells #[.int .i64 1, .int .i64 0, .int .i64 5, .int .i64 2, .int .i64 5, .int .i64 5] 45)).alloc (.cells #[.int .i64 1, .int .i64 10, .int .i64 5, .int .i64 2, .int .i64 13, .int .i64 4, .int .i64 2, .int .i64 15, .int .i64 2, .int .i64 2, .int .i64 16, .int .i64 1] 30)) (some ⟨w.heap.size + 1, 0, none⟩) 4 aliveT := Rd.litFlat slotC_len aliveT _ (by simp)
  have Hs := Lib.hid hs
  have Ht := Lib.hid ht
  clear hs ht
  go_enter Try.func12, Try.ntmps12
  go_wp2_with fail
  refine (C1.out _ _ _ Hs.out Ht.out).mono ?_
  rintro e w1 ⟨v1, rfl, ho1, hb1⟩
  obtain ⟨A1, c1, rfl, -, -, hr1⟩ := ho1.formN (n := 4) rfl
  have Hs1 := Lib.hid (Hs.out.below hb1)
  have Ht1 := Lib.hid (Ht.out.below hb1)
  have hB1 := below_new (below_new hb1)
  clear ho1 hb1 C1 Hs Ht
  go_wp2_with fail
  refine (C2.out _ _ _ Hs1.out Ht1.out).mono ?_
  rintro e w2 ⟨v2, rfl, ho2, hb2⟩
  obtain ⟨A2, c2, rfl, -, -, hr2⟩ := ho2.formN (n := 4) rfl
  replace hr1 := hr1.below hb2
  have hB2 := bthen hB1 hb2
  clear ho2 hb2 C2 Hs1 Ht1 hB1
  go_wp2_with fail
  refine (EqualB_any_same A1 _ 4 c1 4 4 [true, false, true, true] _ (hr1.alloc _) (Rd.litAt Value.bool [true, false, true, true] _ rfl) (by decide)).mono ?_
  rintro e w3 ⟨rfl, hb3⟩
  replace hb3 := below_new hb3
  replace hr2 := hr2.below hb3
  have hB3 := bthen hB2 hb3
  clear hb3 hB2 hr1
  go_wp2_with fail
  refine (EqualB_any_same A2 _ 4 c2 4 4 [true, false, false, false] _ (hr2.alloc _) (Rd.litAt Value.bool [true, false, false, false] _ rfl) (by decide)).mono ?_
  rintro e w4 ⟨rfl, hb4⟩
  go_wp2
  go_ret
  exact ⟨rfl, bthen hB3 (below_new hb4)⟩

/-- What May answers of one transmission. -/
theorem may_one (P : Int) (L : List Slt) (t : Slt) : (∃ x, x ≠ 0 ∧ checkG P L [t] = x ∧ mayR P L [t] = []) ∨ (rightM P L = true ∧ OkT t ∧ checkG P L [t] = 0 ∧ mayR P L [t] = [fitsM P L t]) := by
  by_cases hz : checkG P L [t] = 0
  · obtain ⟨h1, _, h2⟩ := checkG_zero.1 hz
    exact .inr ⟨h1, h2 t (by simp), hz, by rw [mayR_ok hz]; rfl⟩
  · exact .inl ⟨_, hz, rfl, mayR_no hz⟩

set_option maxHeartbeats 1600000 in
theorem GuardShort_walk (a0 : Int) (A1 : Option Addr) (n1 c1 : Nat) (l1 : List Slt) (nd fr lg a3 a4 : Int) (w : World) (w0 : (Lit.int .i64 a0).wf = true) (h1 : RdS w A1 n1 l1) (q1 : ∀ s ∈ l1, s.Ok) (k1 : n1 ≤ c1) (b1 : c1 * 24 ≤ 140737488351232)
    (wn : (Lit.int .i64 nd).wf = true) (wf : (Lit.int .i64 fr).wf = true) (wl : (Lit.int .i64 lg).wf = true) (w3 : (Lit.int .i64 a3).wf = true) (w4 : (Lit.int .i64 a4).wf = true) :
    Calls Try.prog 6 #[.int .i64 a0, .slice A1 n1 c1, .agg #[.int .i64 nd, .int .i64 fr, .int .i64 lg], .int .i64 a3, .int .i64 a4] w fun e w' => e = .returned (.bool true) ∧ Below w.heap.size w w' := by
  have p0 := in64_wf w0
  have hn : n1 ≤ 140737488355328 := by omega
  obtain ⟨f0, f9⟩ := in64_wf wf
  obtain ⟨l0, l9⟩ := in64_wf wl
  obtain ⟨s0, s9⟩ := in64_wf w3
  obtain ⟨t0, t9⟩ := in64_wf w4
  clear w0 wn wf wl w3 w4
  have Hbx := Lib.hid (Box.new w 30 [.int .i64 nd, .int .i64 fr, .int .i64 lg])
  have C0 := Lib.hid (alive14_any (w.alloc (.cells #[.int .i64 nd, .int .i64 fr, .int .i64 lg] 30)))
  obtain ⟨S, hS⟩ : ∃ S, IntKind.i64.wrap (a3 + a4) = S := ⟨_, rfl⟩
  have HS : Hid (0 ≤ a3 → 0 ≤ a4 → a3 + a4 ≤ 9223372036854775807 → S = a3 + a4) := fun _ _ _ => by rw [← hS]; exact IntWalk.i64_in _ (by omega)
  by_cases hearly : a3 < 0 ∨ a4 < 0 ∨ lg < a3 ∨ lg < a4 ∨ lg ≤ S
  · have hq : a3 < 0 ∨ (0 ≤ a3 ∧ a4 < 0) ∨ (0 ≤ a3 ∧ 0 ≤ a4 ∧ lg < a3) ∨ (0 ≤ a3 ∧ 0 ≤ a4 ∧ a3 ≤ lg ∧ lg < a4) ∨ (0 ≤ a3 ∧ 0 ≤ a4 ∧ a3 ≤ lg ∧ a4 ≤ lg ∧ lg ≤ S) := by omega
    clear hearly HS
    rcases hq with g1 | ⟨g1, g2⟩ | ⟨g1, g2, g3⟩ | ⟨g1, g2, g3, g4⟩ | ⟨g1, g2, g3, g4, g5⟩
    all_goals
      go_enter Try.func6, Try.ntmps6
      go_wp2_with fail
      refine C0.out.mono ?_
      rintro e w1 ⟨rfl, hb1⟩
      have hx2 := (Hbx.out.below hb1 Hbx.out.lt).cell 2 rfl
      go_wp2
      go_ret
      exact ⟨rfl, below_new hb1⟩
  · obtain ⟨g1, g2, g3, g4, g5⟩ : 0 ≤ a3 ∧ 0 ≤ a4 ∧ a3 ≤ lg ∧ a4 ≤ lg ∧ S < lg := by omega
    clear hearly
    obtain ⟨X, hX⟩ : ∃ X, IntKind.i64.wrap (fr + a3) = X := ⟨_, rfl⟩
    have HX : Hid (0 ≤ fr → fr ≤ 1099511627776 → a3 ≤ 1048576 → X = fr + a3) := fun _ _ _ => by rw [← hX]; exact IntWalk.i64_in _ (by omega)
    have Hin : Hid (in64 X) := by
      show in64 X
      rw [← hX, IntKind.wrap_i64]
      constructor <;> omega
    have Hfin : Hid (rightM a0 l1 = true → OkT ⟨nd, fr, lg⟩ → fitsM a0 l1 ⟨nd, fr, lg⟩ = true → fitsM a0 l1 ⟨nd, X, lg - a3 - a4⟩ = true) := by
      intro hR hok hf
      have k1 := hok.a0
      have k2 := hok.a1
      have k3 := hok.l1
      simp only at k1 k2 k3
      rw [HX.out k1 k2 (by omega)]
      exact fits_short hR hf g1 g2 (by have := HS.out g1 g2 (by omega); simp only; omega)
    clear HS HX
    have C1 := Lib.hid (fun (W : World) (h : RdS W A1 n1 l1) (B : Option Addr) (t : Slt) (h' : RdS W B 1 [t]) => May_any a0 p0 A1 n1 c1 l1 B 1 1 [t] W h q1 hn h' (by decide))
    have Cx := Lib.hid (C1.out)
    have C1' := Lib.hid (fun (W : World) (h : RdS W A1 n1 l1) (B : Option Addr) (h' : RdS W B 1 [⟨nd, fr, lg⟩]) => C1.out W h B _ h')
    have C2' := Lib.hid (fun (W : World) (h : RdS W A1 n1 l1) (B : Option Addr) (h' : RdS W B 1 [⟨nd, X, lg - a3 - a4⟩]) => C1.out W h B _ h')
    clear C1 Cx
    rcases may_one a0 l1 ⟨nd, fr, lg⟩ with ⟨x, hx, e1, e2⟩ | ⟨hR, hok, e1, e2⟩
    · rw [e1, e2] at C1'
      clear e1 e2
      have hxx : (x != 0) = true := by simpa using hx
      generalize checkG a0 l1 [⟨nd, X, lg - a3 - a4⟩] = y at *
      generalize mayR a0 l1 [⟨nd, X, lg - a3 - a4⟩] = Y at *
      go_enter Try.func6, Try.ntmps6
      go_wp2_with fail
      refine C0.out.mono ?_
      rintro e w1 ⟨rfl, hb1⟩
      have hbx1 := Hbx.out.below hb1 Hbx.out.lt
      have hx0 := hbx1.cell 0 rfl
      have hx1 := hbx1.cell 1 rfl
      have hx2 := hbx1.cell 2 rfl
      have hB1 := below_new hb1
      clear hb1 C0 Hbx
      go_wp2_with fail
      refine (C1'.out _ ((h1.below hB1).alloc _) _ (Rd.litFlat slotC_len [(⟨nd, fr, lg⟩ : Slt)] _ rfl)).mono ?_
      rintro e w2 ⟨v2, rfl, ho2, hb2⟩
      obtain ⟨A2, c2, rfl, -, -, -⟩ := ho2.formN rfl
      replace hb2 := below_new hb2
      replace hbx1 := hbx1.below hb2 hbx1.lt
      replace hx0 := hbx1.cell 0 rfl
      replace hx1 := hbx1.cell 1 rfl
      replace hx2 := hbx1.cell 2 rfl
      have hB2 := bthen hB1 hb2
      clear hb2 hB1 ho2 C1'
      go_wp2_with fail
      refine (C2'.out _ ((h1.below hB2).alloc _) _ (Rd.litFlat slotC_len [(⟨nd, X, lg - a3 - a4⟩ : Slt)] _ rfl)).mono ?_
      rintro e w3 ⟨v3, rfl, ho3, hb3⟩
      obtain ⟨A3, c3, rfl, -, -, -⟩ := ho3.formN rfl
      replace hb3 := below_new hb3
      have hB3 := bthen hB2 hb3
      clear hb3 hB2 ho3 C2'
      go_wp2
      go_ret
      exact ⟨rfl, hB3⟩
    · rw [e1, e2] at C1'
      clear e1 e2
      have Hf2 := Lib.hid (Hfin.out hR hok)
      generalize fitsM a0 l1 ⟨nd, fr, lg⟩ = va at *
      clear Hfin hR hok
      rcases may_one a0 l1 ⟨nd, X, lg - a3 - a4⟩ with ⟨x, hx, e1, e2⟩ | ⟨-, -, e1, e2⟩
      · rw [e1, e2] at C2'
        clear e1 e2
        have hxx : (x != 0) = true := by simpa using hx
        go_enter Try.func6, Try.ntmps6
        go_wp2_with fail
        refine C0.out.mono ?_
        rintro e w1 ⟨rfl, hb1⟩
        have hbx1 := Hbx.out.below hb1 Hbx.out.lt
        have hx0 := hbx1.cell 0 rfl
        have hx1 := hbx1.cell 1 rfl
        have hx2 := hbx1.cell 2 rfl
        have hB1 := below_new hb1
        clear hb1 C0 Hbx
        go_wp2_with fail
        refine (C1'.out _ ((h1.below hB1).alloc _) _ (Rd.litFlat slotC_len [(⟨nd, fr, lg⟩ : Slt)] _ rfl)).mono ?_
        rintro e w2 ⟨v2, rfl, ho2, hb2⟩
        obtain ⟨A2, c2, rfl, -, -, -⟩ := ho2.formN (n := 1) rfl
        replace hb2 := below_new hb2
        replace hbx1 := hbx1.below hb2 hbx1.lt
        replace hx0 := hbx1.cell 0 rfl
        replace hx1 := hbx1.cell 1 rfl
        replace hx2 := hbx1.cell 2 rfl
        have hB2 := bthen hB1 hb2
        clear hb2 hB1 ho2 C1'
        go_wp2_with fail
        refine (C2'.out _ ((h1.below hB2).alloc _) _ (Rd.litFlat slotC_len [(⟨nd, X, lg - a3 - a4⟩ : Slt)] _ rfl)).mono ?_
        rintro e w3 ⟨v3, rfl, ho3, hb3⟩
        obtain ⟨A3, c3, rfl, -, -, -⟩ := ho3.formN rfl
        replace hb3 := below_new hb3
        have hB3 := bthen hB2 hb3
        clear hb3 hB2 ho3 C2'
        go_wp2
        go_ret
        exact ⟨rfl, hB3⟩
      · rw [e1, e2] at C2'
        clear e1 e2
        generalize fitsM a0 l1 ⟨nd, X, lg - a3 - a4⟩ = vb at *
        go_enter Try.func6, Try.ntmps6
        go_wp2_with fail
        refine C0.out.mono ?_
        rintro e w1 ⟨rfl, hb1⟩
        have hbx1 := Hbx.out.below hb1 Hbx.out.lt
        have hx0 := hbx1.cell 0 rfl
        have hx1 := hbx1.cell 1 rfl
        have hx2 := hbx1.cell 2 rfl
        have hB1 := below_new hb1
        clear hb1 C0 Hbx
        go_wp2_with fail
        refine (C1'.out _ ((h1.below hB1).alloc _) _ (Rd.litFlat slotC_len [(⟨nd, fr, lg⟩ : Slt)] _ rfl)).mono ?_
        rintro e w2 ⟨v2, rfl, ho2, hb2⟩
        obtain ⟨A2, c2, rfl, -, -, hr2⟩ := ho2.formN (n := 1) rfl
        replace hb2 := below_new hb2
        replace hbx1 := hbx1.below hb2 hbx1.lt
        replace hx0 := hbx1.cell 0 rfl
        replace hx1 := hbx1.cell 1 rfl
        replace hx2 := hbx1.cell 2 rfl
        have hB2 := bthen hB1 hb2
        clear hb2 hB1 ho2 C1'
        go_wp2_with fail
        refine (C2'.out _ ((h1.below hB2).alloc _) _ (Rd.litFlat slotC_len [(⟨nd, X, lg - a3 - a4⟩ : Slt)] _ rfl)).mono ?_
        rintro e w3 ⟨v3, rfl, ho3, hb3⟩
        obtain ⟨A3, c3, rfl, -, -, hr3⟩ := ho3.formN (n := 1) rfl
        replace hb3 := below_new hb3
        replace hr2 := hr2.below hb3
        have hB3 := bthen hB2 hb3
        clear hb3 hB2 ho3 C2' hbx1 hx0 hx1 hx2
        obtain ⟨ad2, ua, rfl, hua, hca⟩ := hr2.atMap (k := 0) (by decide)
        obtain ⟨ad3, ub, rfl, hub, hcb⟩ := hr3.atMap (k := 0) (by decide)
        obtain rfl : va = ua := by simpa using hua
        obtain rfl : vb = ub := by simpa using hub
        replace hca : w3.cell? ad2 = some (.bool va) := by simpa [go_sem] using hca
        replace hcb : w3.cell? ad3 = some (.bool vb) := by simpa [go_sem] using hcb
        clear hua hub
        cases va with
        | false =>
          go_wp2
          go_ret
          exact ⟨rfl, hB3⟩
        | true =>
          have e := Hf2.out rfl
          subst e
          go_wp2
          go_ret
          exact ⟨rfl, hB3⟩

set_option maxHeartbeats 3200000 in
theorem GuardOwn_walk (a0 : Int) (A1 : Option Addr) (n1 c1 : Nat) (l1 : List Slt) (A2 : Option Addr) (n2 c2 : Nat) (l2 : List Slt) (w : World) (w0 : (Lit.int .i64 a0).wf = true) (h1 : RdS w A1 n1 l1) (q1 : ∀ s ∈ l1, s.Ok) (k1 : n1 ≤ c1) (b1 : c1 * 24 ≤ 140737488351232)
    (h2 : RdS w A2 n2 l2) (q2 : ∀ s ∈ l2, s.Ok) (k2 : n2 ≤ c2) (b2 : c2 * 24 ≤ 140737488351232) :
    Calls Try.prog 5 #[.int .i64 a0, .slice A1 n1 c1, .slice A2 n2 c2] w fun e w' => e = .returned (.bool true) ∧ Below w.heap.size w w' := by
  have p0 := in64_wf w0
  have hn : n1 ≤ 140737488355328 := by omega
  have hm : n2 ≤ 140737488355328 := by omega
  clear w0
  have C0 := Lib.hid (alive14_any w)
  have C1 := Lib.hid (fun (W : World) (hb : Below w.heap.size w W) => May_any a0 p0 A1 n1 c1 l1 A2 n2 c2 l2 W (h1.below hb) q1 hn (h2.below hb) hm)
  by_cases hz : checkG a0 l1 l2 = 0
  · obtain ⟨hR, hlen, hok⟩ := checkG_zero.1 hz
    rw [mayR_ok hz, hz] at C1
    have Hl := Lib.hid h2.lenS
    rw [Hl.out] at hlen
    have Hml : Hid ((mayM a0 l1 l2).length = n2) := by show _ = _; rw [may_len, Hl.out]
    have HR := Lib.hid hR
    have Hok := Lib.hid hok
    have CW := Lib.hid (fun (W : World) (hb : Below w.heap.size w W) (x : Int) (hx : in64 x) => Who_any a0 p0 A1 n1 c1 l1 x hx W (h1.below hb) q1 hn)
    have HW : Hid (∀ t d, fitsM a0 l1 t = true → OkT t → 0 ≤ d → d < t.lg → t.fr + d ≤ 1099511627776 → whoM a0 l1 (t.fr + d) = (t.nd, 0)) := fun t d hf ht d0 d1 hle => by
      rw [whoM_yes (checkM_ok hR (by have := ht.a0; omega) hle), whoR_some (fits_who hR hf d0 d1)]
    clear hz hR hok hm
    go_enter Try.func5, Try.ntmps5
    go_wp2_with fail
    refine C0.out.mono ?_
    rintro e w1 ⟨rfl, hb1⟩
    go_wp2_with fail
    refine (C1.out w1 hb1).mono ?_
    rintro e w2 ⟨v2, rfl, ho2, hb2⟩
    obtain ⟨A7, c7, rfl, -, -, hr7⟩ := ho2.formN Hml.out
    have hB2 := bthen hb1 hb2
    clear ho2 hb1 hb2 C0 C1
    go_wp2
    go_loopw [37] (fun i wr => ∃ k : Nat, k ≤ n2 ∧ i = .int .i64 k ∧ Below w2.heap.size w2 wr) (fun i _ => n2 - (intOf i).toNat)
    case atStart => exact ⟨0, Nat.zero_le _, rfl, Below.refl _ _⟩
    case round =>
      obtain ⟨k, hk, rfl, hbl⟩ := hrel
      by_cases hlt : k < n2
      · obtain ⟨ad, nd, fr, lg, rfl, hx, hc0, hc1, hc2⟩ := (h2.below (bthen hB2 hbl)).atS hlt
        obtain ⟨ad7, va, rfl, hva, hca⟩ := (hr7.below hbl).atMap hlt
        have hokt := Hok.out _ (List.mem_of_getElem? hx)
        have Hva : Hid (va = fitsM a0 l1 ⟨nd, fr, lg⟩) := by
          show _ = _
          rw [mayM, List.getElem?_map, hx] at hva
          injection hva with hva; exact hva.symm
        have Hokt := Lib.hid hokt
        obtain ⟨o1, o2, o3, o4, o5, o6⟩ := hokt
        simp only at o1 o2 o3 o4 o5 o6
        replace hca : (wr.alloc (.cells #[.int .i64 nd, .int .i64 fr, .int .i64 lg] 30)).cell? (ad7.add k) = some (.bool va) := ((below_one _).cell (World.block_lt_of_cell? _ _ hca)).trans hca
        clear hx hva
        cases va with
        | false =>
          go_wp2
          go_roundw
          case rel => exact ⟨k + 1, by omega, by go_num, hbl.alloc hbl.size _⟩
          case measure => simp [intOf] <;> omega
        | true =>
          by_cases hlate : 1099511627776 - lg < fr
          · go_wp2
            go_roundw
            case rel => exact ⟨k + 1, by omega, by go_num, hbl.alloc hbl.size _⟩
            case measure => simp [intOf] <;> omega
          · have hle : fr ≤ 1099511627776 - lg := by omega
            clear hlate
            obtain ⟨hh, hdiv, d0, d1⟩ : ∃ hh, lg.tdiv 2 = hh ∧ 0 ≤ hh ∧ hh < lg := ⟨lg / 2, Int.tdiv_eq_ediv_of_nonneg (by omega), by omega, by omega⟩
            have Hall : Hid (∀ x ∈ [fr, fr + hh, fr + lg - 1], in64 x ∧ whoM a0 l1 x = (nd, 0)) := by
              intro x hx
              simp only [List.mem_cons, List.not_mem_nil, or_false] at hx
              rcases hx with hx | hx | hx <;> rw [hx]
              · have := HW.out ⟨nd, fr, lg⟩ 0 Hva.out.symm Hokt.out (by omega) (by simp only; omega) (by simp only; omega)
                simp only [Int.add_zero] at this
                exact ⟨⟨by omega, by omega⟩, this⟩
              · exact ⟨⟨by omega, by omega⟩, HW.out ⟨nd, fr, lg⟩ hh Hva.out.symm Hokt.out d0 d1 (by simp only; omega)⟩
              · have := HW.out ⟨nd, fr, lg⟩ (lg - 1) Hva.out.symm Hokt.out (by omega) (by simp only; omega) (by simp only; omega)
                simp only [← Int.add_sub_assoc] at this
                exact ⟨⟨by omega, by omega⟩, this⟩
            have Hbox := Lib.hid (Box.new wr 30 [.int .i64 nd, .int .i64 fr, .int .i64 lg])
            have Hlit := Lib.hid (Rd.litAt (Value.int .i64) (w := wr.alloc (.cells #[.int .i64 nd, .int .i64 fr, .int .i64 lg] 30)) (b := wr.heap.size + 1) [fr, fr + hh, fr + lg - 1] 3 (by simp))
            have HB3 := Lib.hid (bthen hbl (below_two (w := wr) (.cells #[.int .i64 nd, .int .i64 fr, .int .i64 lg] 30) (.cells ([fr, fr + hh, fr + lg - 1].map (Value.int .i64)).toArray 3)))
            go_wp2
            go_loopw [71] (fun i wx => ∃ j : Nat, j ≤ 3 ∧ i = .int .i64 j ∧ Box wx wr.heap.size 30 [.int .i64 nd, .int .i64 fr, .int .i64 lg] ∧ Rd wx 1 (some ⟨wr.heap.size + 1, 0, none⟩) 3 ([fr, fr + hh, fr + lg - 1].map (Value.int .i64)) ∧ Below w2.heap.size w2 wx) (fun i _ => 3 - (intOf i).toNat)
            case atStart => exact ⟨0, Nat.zero_le _, rfl, Hbox.out.alloc _, Hlit.out, HB3.out⟩
            case round =>
              obtain ⟨j, hj, rfl, hbx, hlit, hbl3⟩ := hrel
              clear Hbox Hlit HB3
              by_cases hlj : j < 3
              · obtain ⟨ad4, x, e4, hx4, hc4⟩ := hlit.atMap hlj
                injection e4 with e4
                subst e4
                rw [Addr.add_lit, Nat.zero_add] at hc4
                obtain ⟨hx64, hwx⟩ := Hall.out x (List.mem_of_getElem? hx4)
                rename_i wx _ _ _
                have C5 := Lib.hid (CW.out _ (bthen hB2 hbl3) x hx64)
                rw [hwx] at C5
                clear hx64 hwx hx4
                have Hlit := Lib.hid hlit
                have Hbx := Lib.hid hbx
                clear hlit hbx
                go_wp2_with fail
                refine C5.out.mono ?_
                rintro e w6 ⟨rfl, hb6⟩
                have hbx6 := Hbx.out.below hb6 Hbx.out.lt
                have hn6 := hbx6.cell 0 rfl
                have Hbx6 := Lib.hid hbx6
                clear hbx6
                go_wp2
                go_roundw
                case rel => exact ⟨j + 1, by omega, by go_num, Hbx6.out, Hlit.out.below hb6, bthen hbl3 hb6⟩
                case measure => simp [intOf] <;> omega
              · obtain rfl : j = 3 := by omega
                go_wp2
                go_roundw
                case rel => exact ⟨k + 1, by omega, by go_num, hbl3⟩
                case measure => simp [intOf] <;> omega
      · obtain rfl : k = n2 := by omega
        go_wp2
        go_ret
        exact ⟨rfl, bthen hB2 hbl⟩
  · rw [mayR_no hz] at C1
    generalize checkG a0 l1 l2 = x at *
    have hxx : (x != 0) = true := by simpa using hz
    go_enter Try.func5, Try.ntmps5
    go_wp2_with fail
    refine C0.out.mono ?_
    rintro e w1 ⟨rfl, hb1⟩
    go_wp2_with fail
    refine (C1.out w1 hb1).mono ?_
    rintro e w2 ⟨v2, rfl, ho2, hb2⟩
    obtain ⟨A7, c7, rfl, -, -, -⟩ := ho2.formN rfl
    go_wp2
    go_ret
    exact ⟨rfl, bthen hb1 hb2⟩
end Go.Proofs.Ytgngpcailjocoaa
