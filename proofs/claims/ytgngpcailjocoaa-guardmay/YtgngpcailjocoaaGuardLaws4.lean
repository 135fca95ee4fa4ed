/-
  The walk of GuardMay: it returns true, at every argument.
-/
import Derived.Test.YtgngpcailjocoaaGuardRef
import Derived.Test.YtgngpcailjocoaaGuardWalks2
namespace Go.Proofs.Ytgngpcailjocoaa
open Go.RowKit
set_option linter.unusedVariables false

set_option maxHeartbeats 3200000 in
set_option maxRecDepth 20000 in
theorem GuardMay_walk (a0 : Int) (A1 : Option Addr) (n1 c1 : Nat) (l1 : List Slt) (A2 : Option Addr) (n2 c2 : Nat) (l2 : List Slt) (w : World) (w0 : (Lit.int .i64 a0).wf = true) (h1 : RdS w A1 n1 l1) (q1 : ∀ s ∈ l1, s.Ok) (k1 : n1 ≤ c1) (b1 : c1 * 24 ≤ 140737488351232)
    (h2 : RdS w A2 n2 l2) (q2 : ∀ s ∈ l2, s.Ok) (k2 : n2 ≤ c2) (b2 : c2 * 24 ≤ 140737488351232) :
    Calls Try.prog 3 #[.int .i64 a0, .slice A1 n1 c1, .slice A2 n2 c2] w fun e w' => e = .returned (.bool true) ∧ Below w.heap.size w w' := by
  have p0 := in64_wf w0
  have hn : n1 ≤ 140737488355328 := by omega
  have hm : n2 ≤ 140737488355328 := by omega
  clear w0
  have C1 := Lib.hid (May_any a0 p0 A1 n1 c1 l1 A2 n2 c2 l2 w h1 q1 hn h2 hm)
  have C2 := Lib.hid (fun (W : World) (hb : Below w.heap.size w W) => Heard_any a0 p0 A1 n1 c1 l1 A2 n2 c2 l2 W (h1.below hb) q1 hn (h2.below hb) hm)
  have C3 := Lib.hid (fun (W : World) (hb : Below w.heap.size w W) => NWrong_any a0 p0 A1 n1 c1 l1 A2 n2 c2 l2 W (h1.below hb) q1 hn (h2.below hb) hm)
  by_cases hz : checkG a0 l1 l2 = 0
  · obtain ⟨hR, hlen, hok⟩ := checkG_zero.1 hz
    rw [mayR_ok hz, hz] at C1
    rw [heardR_ok hz, hz] at C2
    rw [hz] at C3
    have Hl := Lib.hid h2.lenS
    rw [Hl.out] at hlen
    have Hml : Hid ((mayM a0 l1 l2).length = n2) := by show _ = _; rw [may_len, Hl.out]
    have Hhl : Hid ((heardM a0 l1 l2).length = n2) := by show _ = _; rw [heard_len, Hl.out]
    have Hok := Lib.hid hok
    have C4 := Lib.hid (fun (W : World) (hb : Below w.heap.size w W) (nd fr lg : Int) (ht : OkT ⟨nd, fr, lg⟩) => NMay_any a0 A1 n1 c1 l1 nd fr lg W (h1.below hb) hR ht)
    clear hz hR hok hm
    go_enter Try.func3, Try.ntmps3
    go_wp2_with fail
    refine C1.out.mono ?_
    rintro e w1 ⟨v1, rfl, ho1, hb1⟩
    obtain ⟨A7, c7, rfl, -, -, hr7⟩ := ho1.formN Hml.out
    clear ho1 C1
    go_wp2_with fail
    refine (C2.out w1 hb1).mono ?_
    rintro e w2 ⟨v2, rfl, ho2, hb2⟩
    obtain ⟨A9, c9, rfl, -, -, hr9⟩ := ho2.formN Hhl.out
    have hB2 := bthen hb1 hb2
    replace hr7 := hr7.below hb2
    clear ho2 C2 hb1 hb2
    go_wp2_with fail
    refine (C3.out w2 hB2).mono ?_
    rintro e w3 ⟨rfl, hb3⟩
    have hB3 := bthen hB2 hb3
    replace hr7 := hr7.below hb3
    replace hr9 := hr9.below hb3
    clear C3 hb3 hB2
    go_wp2
    go_loopw [66] (fun i wr => ∃ k : Nat, k ≤ n2 ∧ i = .int .i64 k ∧ Below w3.heap.size w3 wr) (fun i _ => n2 - (intOf i).toNat)
    case atStart => exact ⟨0, Nat.zero_le _, rfl, Below.refl _ _⟩
    case round =>
      obtain ⟨k, hk, rfl, hbl⟩ := hrel
      by_cases hlt : k < n2
      · obtain ⟨ad, nd, fr, lg, rfl, hx, hc0, hc1, hc2⟩ := (h2.below (bthen hB3 hbl)).atS hlt
        have Hx := Lib.hid hx
        have Hokt := Lib.hid (Hok.out _ (List.mem_of_getElem? hx))
        clear hx
        have hB4 := bthen hB3 (hbl.alloc hbl.size (.cells #[.int .i64 nd, .int .i64 fr, .int .i64 lg] 30))
        have C5 := Lib.hid (C4.out _ hB4 nd fr lg Hokt.out)
        have Hst := Lib.hid (AloneTo.start a0 l1 l2 k ⟨nd, fr, lg⟩)
        have Hm7 : Hid ((mayM a0 l1 l2)[k]? = some (fitsM a0 l1 ⟨nd, fr, lg⟩)) := by show _ = _; rw [mayM, List.getElem?_map, Hx.out]; rfl
        have Hm9 : Hid ((heardM a0 l1 l2)[k]? = some (heardV a0 l1 l2 ⟨nd, fr, lg⟩)) := by show _ = _; rw [heardM, List.getElem?_map, Hx.out]; rfl
        generalize hvm : fitsM a0 l1 ⟨nd, fr, lg⟩ = vm at C5 Hst Hm7
        clear hvm
        have Hbx := Lib.hid (Box.new wr 30 [.int .i64 nd, .int .i64 fr, .int .i64 lg])
        go_wp2_with fail
        refine C5.out.mono ?_
        rintro e w5 ⟨rfl, hb5⟩
        have Hbx5 := Lib.hid (Hbx.out.below hb5 Hbx.out.lt)
        have hBl5 := bthen hbl (below_new hb5)
        clear C5 hb5 hB4 Hbx
        go_wp2
        go_loopw [15, 78] (fun v i wx => ∃ (j : Nat) (hv : Bool), j ≤ n2 ∧ i = .int .i64 j ∧ v = .bool hv ∧ AloneTo a0 l1 l2 k ⟨nd, fr, lg⟩ j hv ∧ Box wx wr.heap.size 30 [.int .i64 nd, .int .i64 fr, .int .i64 lg] ∧ Below w3.heap.size w3 wx) (fun _ i _ => n2 - (intOf i).toNat)
        case atStart => exact ⟨0, vm, Nat.zero_le _, rfl, rfl, Hst.out, Hbx5.out, hBl5⟩
        case round =>
          obtain ⟨j, hv, hj, rfl, rfl, hal, hbox, hblx⟩ := hrel
          have Hal := Lib.hid hal
          have Hbox := Lib.hid hbox
          clear hal hbox Hst Hbx5 hBl5
          rename_i wx _ _ _
          by_cases hlj : j < n2
          · obtain ⟨ad', nd', fr', lg', e', hx', hc0', hc1', hc2'⟩ := (h2.below (bthen hB3 hblx)).atS hlj
            injection e' with e'
            subst e'
            have Hx' := Lib.hid hx'
            have Hokt' := Lib.hid (Hok.out _ (List.mem_of_getElem? hx'))
            clear hx'
            by_cases hjk : j = k
            · have hne : ((j : Int) != (k : Int)) = false := by simp [hjk]
              have Hnx := Lib.hid (Hal.out.same Hx'.out (.inl hjk))
              clear hjk Hal
              go_wp2
              go_roundw
              case rel => exact ⟨j + 1, hv, by omega, by go_num, rfl, Hnx.out, Hbox.out.alloc _, hblx.alloc hblx.size _⟩
              case measure => simp [intOf] <;> omega
            · have hne : ((j : Int) != (k : Int)) = true := by simp; omega
              have Hjk := Lib.hid hjk
              clear hjk
              have C6 := Lib.hid (C4.out _ (bthen hB3 (hblx.alloc hblx.size (.cells #[.int .i64 nd', .int .i64 fr', .int .i64 lg'] 30))) nd' fr' lg' Hokt'.out)
              have Hcl : Hid (clash a0 l1 ⟨nd, fr, lg⟩ ⟨nd', fr', lg'⟩ = (fitsM a0 l1 ⟨nd', fr', lg'⟩ && overM ⟨nd, fr, lg⟩ ⟨nd', fr', lg'⟩)) := rfl
              generalize hvu : fitsM a0 l1 ⟨nd', fr', lg'⟩ = vu at C6 Hcl
              clear hvu
              cases vu with
              | false =>
                have Hnx := Lib.hid (Hal.out.same Hx'.out (.inr (by rw [Hcl.out]; rfl)))
                clear Hcl Hal
                go_wp2_with fail
                refine C6.out.mono ?_
                rintro e w6 ⟨rfl, hb6⟩
                have hb6' := below_new hb6
                go_wp2
                go_roundw
                case rel => exact ⟨j + 1, hv, by omega, by go_num, rfl, Hnx.out, Hbox.out.below hb6' Hbox.out.lt, bthen hblx hb6'⟩
                case measure => simp [intOf] <;> omega
              | true =>
                rw [Bool.true_and] at Hcl
                obtain ⟨-, -, o3, o4, o5, o6⟩ := Hokt.out
                obtain ⟨-, -, o3', o4', o5', o6'⟩ := Hokt'.out
                simp only at o3 o4 o5 o6 o3' o4' o5' o6'
                have HSame : Hid (¬ (fr < fr' + lg' ∧ fr' < fr + lg) → AloneTo a0 l1 l2 k ⟨nd, fr, lg⟩ (j + 1) hv) := fun h => Hal.out.same Hx'.out (.inr (by rw [Hcl.out, overM, decide_eq_false_iff_not]; exact h))
                have HNo : Hid (fr < fr' + lg' ∧ fr' < fr + lg → AloneTo a0 l1 l2 k ⟨nd, fr, lg⟩ (j + 1) false) := fun h => Hal.out.no Hx'.out Hjk.out (by rw [Hcl.out, overM, decide_eq_true_eq]; exact h)
                clear Hcl Hal
                go_wp2_with fail
                refine C6.out.mono ?_
                rintro e w6 ⟨rfl, hb6⟩
                have hb6' := below_new hb6
                have hbox6 := Hbox.out.below hb6' Hbox.out.lt
                have g1 := hbox6.cell 1 rfl
                have g2 := hbox6.cell 2 rfl
                have hbu6 := Box.below (Box.new _ 30 [.int .i64 nd', .int .i64 fr', .int .i64 lg']) hb6 (Box.lt (Box.new _ 30 [.int .i64 nd', .int .i64 fr', .int .i64 lg']))
                have g4 := hbu6.cell 1 rfl
                have g5 := hbu6.cell 2 rfl
                have Hbox6 := Lib.hid hbox6
                clear hbox6 hbu6
                go_wp2
                all_goals
                  go_roundw
                  case rel =>
                    first
                      | exact ⟨j + 1, hv, by omega, by go_num, rfl, HSame.out (by omega), Hbox6.out, bthen hblx hb6'⟩
                      | exact ⟨j + 1, false, by omega, by go_num, rfl, HNo.out (by omega), Hbox6.out, bthen hblx hb6'⟩
                  case measure => simp [intOf] <;> omega
          · obtain rfl : j = n2 := by omega
            have Hv : Hid (hv = heardV a0 l1 l2 ⟨nd, fr, lg⟩) := AloneTo.done (by rw [Hl.out]; exact Hal.out) Hx.out Hokt.out
            obtain ⟨ad7, x7, rfl, hx7, hc7⟩ := (hr7.below hblx).atMap hlt
            obtain ⟨ad9, x9, rfl, hx9, hc9⟩ := (hr9.below hblx).atMap hlt
            rw [Hm7.out] at hx7
            injection hx7 with hx7
            rw [Hm9.out, ← Hv.out] at hx9
            injection hx9 with hx9
            subst hx7 hx9
            clear Hv Hal
            go_wp2
            go_roundw
            case rel => exact ⟨k + 1, by omega, by go_num, hblx⟩
            case measure => simp [intOf] <;> omega
      · obtain rfl : k = n2 := by omega
        go_wp2
        go_ret
        exact ⟨rfl, bthen hB3 hbl⟩
  · rw [mayR_no hz] at C1
    rw [heardR_no hz] at C2
    generalize checkG a0 l1 l2 = x at *
    have hxx : (x != 0) = true := by simpa using hz
    go_enter Try.func3, Try.ntmps3
    go_wp2_with fail
    refine C1.out.mono ?_
    rintro e w1 ⟨v1, rfl, ho1, hb1⟩
    obtain ⟨A7, c7, rfl, -, -, -⟩ := ho1.formN (n := 0) rfl
    clear ho1 C1
    go_wp2_with fail
    refine (C2.out w1 hb1).mono ?_
    rintro e w2 ⟨v2, rfl, ho2, hb2⟩
    obtain ⟨A9, c9, rfl, -, -, -⟩ := ho2.formN (n := 0) rfl
    have hB2 := bthen hb1 hb2
    clear ho2 C2
    go_wp2_with fail
    refine (C3.out w2 hB2).mono ?_
    rintro e w3 ⟨rfl, hb3⟩
    have hB3 := bthen hB2 hb3
    go_wp2
    go_ret
    exact ⟨rfl, hB3⟩
end Go.Proofs.Ytgngpcailjocoaa
