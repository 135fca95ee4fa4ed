/-
  The law NbwCalm.
-/
import Derived.Test.YtblnfffmgaiabaaNbwLaws2
import Derived.Test.YtblnfffmgaiabaaConcatI
import Derived.Test.YtblnfffmgaiabaaRepeatOne
import Derived.Deep.CutBlock
import Derived.Deep.DeepCutAuto
namespace Go.Proofs.Ytblnfffmgaiabaa
open Go.RowKit
set_option linter.unusedVariables false

theorem ones_snoc (l : List Int) (x : Int) : onesQ (l ++ [x]) = onesQ l + if x = 1 then 1 else 0 := by
  unfold onesQ
  rw [List.countP_append]
  by_cases h : x = 1 <;> simp [h]
set_option maxRecDepth 100000 in
set_option maxHeartbeats 1600000 in
theorem NbwCalm_walk (A0 : Option Addr) (n0 c0 : Nat) (l0 : List Int) (a1 : Int) (w : World) (h0 : Rd w 1 A0 n0 (l0.map (Value.int .i64))) (q0 : ∀ x ∈ l0, (Lit.int .i64 x).wf = true) (k0 : n0 ≤ c0) (b0 : c0 * 8 ≤ 140737488351232) (w1 : (Lit.int .i64 a1).wf = true) :
    Calls Try.prog 6 #[.slice A0 n0 c0, .int .i64 a1] w fun e w' => e = .returned (.bool true) ∧ Below w.heap.size w w' := by
  have C0 := Lib.hid (alive17_any w)
  have hcase : (a1 < 1 ∨ (1 ≤ a1 ∧ 20 < a1) ∨ (1 ≤ a1 ∧ a1 ≤ 20 ∧ 200 < (n0 : Int))) ∨ ∃ k : Nat, a1 = k ∧ 1 ≤ k ∧ k ≤ 20 ∧ n0 ≤ 200 := by
    by_cases g : 1 ≤ a1 ∧ a1 ≤ 20 ∧ n0 ≤ 200
    · exact .inr ⟨a1.toNat, by omega, by omega, by omega, by omega⟩
    · exact .inl (by omega)
  rcases hcase with hcase | ⟨k, rfl, hk1, hk20, hn200⟩
  · clear q0
    rcases hcase with g | ⟨g, g2⟩ | ⟨g, g2, g3⟩
    all_goals
      go_enter Try.func6, Try.ntmps6
      go_wp2_with fail
      refine C0.out.mono ?_
      rintro e w1 ⟨rfl, hb1⟩
      go_wp2
      go_ret
      exact ⟨rfl, hb1⟩
  · have hl := h0.lenMap
    have C1 := Lib.hid (fun (W : World) (hW : Rd W 1 A0 n0 (l0.map (Value.int .i64))) => Play_any A0 n0 c0 l0 W hW (by omega))
    have C5 := Lib.hid (fun (A : Option Addr) (m c : Nat) (W : World) (hW : Rd W 1 A m ((l0 ++ List.replicate (4 * k + 3) 2).map (Value.int .i64))) (hm : m ≤ 140737488355328) => Play_any A m c (l0 ++ List.replicate (4 * k + 3) 2) W hW hm)
    have hcalm := Lib.hid (fun h hd => calm_facts (l := l0) (m := k) h (by omega) hk20 hd)
    have Hones : Hid (∀ j x, l0[j]? = some x → onesQ (l0.take (j + 1)) = onesQ (l0.take j) + if x = 1 then 1 else 0) := fun j x hx => by rw [take_snoc hx, ones_snoc]
    have Hend : Hid (onesQ (l0.take n0) = onesQ l0) := by show _ = _; rw [List.take_of_length_le (by omega)]
    have Hle : Hid (∀ j, onesQ (l0.take j) ≤ 200) := fun j => by
      have h1 : onesQ (l0.take j) ≤ (l0.take j).length := List.countP_le_length
      have h2 : (l0.take j).length ≤ l0.length := by rw [List.length_take]; omega
      show onesQ (l0.take j) ≤ 200
      omega
    have hsm1 := Lib.hid (playQL_len l0)
    have hsm2 := Lib.hid (playQL_len (l0 ++ List.replicate (4 * k + 3) 2))
    generalize playQL l0 = L at *
    generalize playQE l0 = E at *
    generalize playQN l0 = N at *
    generalize playQL (l0 ++ List.replicate (4 * k + 3) 2) = L2 at *
    generalize playQE (l0 ++ List.replicate (4 * k + 3) 2) = E2 at *
    generalize playQN (l0 ++ List.replicate (4 * k + 3) 2) = N2 at *
    have hk1' : ¬ (k : Int) < 1 := by omega
    have hk2' : (k : Int) ≤ 20 := by omega
    have hn2' : (n0 : Int) ≤ 200 := by omega
    have hkd : decide ((k : Int) < 1) = false := by simpa using hk1'
    have Hl := Lib.hid hl
    clear q0 hl
    go_enter Try.func6, Try.ntmps6
    go_wp2_with fail
    refine C0.out.mono ?_
    rintro e w1 ⟨rfl, hb1⟩
    have h1 := Lib.hid (h0.below hb1)
    clear C0 h0
    go_wp2_with fail
    refine (C1.out _ h1.out).mono ?_
    rintro e w2 ⟨v2, rfl, ho2, hb2⟩
    have h2 := h1.out.below hb2
    have hB := bthen hb1 hb2
    obtain ⟨A2, m, c2, hm, rfl, -, -⟩ := ownG_len ho2
    have hm4 : m ≤ 400 := by rw [← hm]; exact hsm1.out.1
    clear C1 hb1 h1 hb2 ho2
    by_cases hE : E = 0
    · subst hE
      have hcalm' := Lib.hid (fun hd => hcalm.out rfl hd)
      clear hcalm
      go_wp2
      go_loopw [8, 38] (fun s i wr => ∃ j : Nat, j ≤ n0 ∧ i = .int .i64 j ∧ s = .int .i64 (onesQ (l0.take j) : Int) ∧ wr = w2) (fun _ i _ => n0 - (intOf i).toNat)
      case atStart => exact ⟨0, Nat.zero_le _, rfl, rfl, rfl⟩
      case round =>
        obtain ⟨j, hj, rfl, rfl, hwr⟩ := hrel
        obtain rfl := hwr.symm
        have hle := Hle.out j
        have hle' : (onesQ (l0.take j) : Int) ≤ 200 := by omega
        by_cases hlt : j < n0
        · obtain ⟨ad, x, rfl, hx, hc⟩ := h2.atMap hlt
          have Hj := Lib.hid (Hones.out j x hx)
          obtain ⟨o', ho'⟩ : ∃ o', Hid (onesQ (l0.take (j + 1)) = o') := ⟨_, rfl⟩
          rw [ho'.out] at Hj
          clear hx
          generalize onesQ (l0.take j) = o at *
          by_cases hx1 : x = 1
          · subst hx1
            have hj' : ((o' : Nat) : Int) = (o : Int) + 1 := by have := Hj.out; simp at this; omega
            clear Hj
            go_wp2
            go_roundw
            case rel => exact ⟨j + 1, by omega, by go_num, by rw [ho'.out, hj'], by trivial⟩
            case measure => simp [intOf] <;> omega
          · have hj' : o' = o := by have := Hj.out; rw [if_neg hx1] at this; omega
            clear Hj
            go_wp2
            go_roundw
            case rel => exact ⟨j + 1, by omega, by go_num, by rw [ho'.out, hj'], by trivial⟩
            case measure => simp [intOf] <;> omega
        · obtain rfl : n0 = j := by omega
          rw [Hend.out] at hle hle' 
          rw [Hend.out]
          clear Hend Hones Hle
          generalize onesQ l0 = O at *
          by_cases hO : O % 4 = 0
          · obtain ⟨rfl, rfl, hN, o, hL, hko, hg⟩ := hcalm'.out hO
            have hO' : (O : Int) % 4 = 0 := by omega
            have hN' : (O : Int) / 4 = (N2 : Int) := by omega
            have Hm4 := Lib.hid hm4
            have HL := Lib.hid hL
            have Hko := Lib.hid hko
            have Hg := Lib.hid hg
            clear hL hko hg hN
            clear hcalm' hle hle' hm4 hn200 hn2' hj hlt
            have CR := Lib.hid (fun (W : World) => RepeatI_one (some ⟨W.heap.size, 0, none⟩) 1 (4 * k + 3) 2 (by omega) (by omega) (W.alloc (.cells #[.int .i64 2] 3)) (Rd.litAt (Value.int .i64) [2] _ rfl))
            rw [show ((4 * k + 3 : Nat) : Int) = 4 * (k : Int) + 3 by omega] at CR
            go_wp2_with fail
            refine (CR.out _).mono ?_
            rintro e w3 ⟨B, d, rfl, ho3, hb3⟩
            have hB3 := bthen hB (below_new hb3)
            have h3 := h2.below (below_new hb3)
            have r3 := ho3.rd
            clear CR hB hb3 ho3 h2
            go_wp2_with fail
            refine (ConcatI_any _ 2 2 [(A0, n0, c0, l0), (B, 4 * k + 3, d, List.replicate (4 * k + 3) 2)] _ (Rd.litAt ConcatI_any_val _ _ rfl) ?_ (by decide) (by rw [two_parts, List.length_append, List.length_replicate, Hl.out]; omega) (by rw [two_parts, List.length_append, List.length_replicate, Hl.out]; omega)).mono ?_
            · intro p hp
              rcases List.mem_cons.1 hp with rfl | hp
              · exact h3.alloc _
              · rw [List.mem_singleton.1 hp]; exact r3.alloc _
            rw [two_parts]
            rintro e w5 ⟨v5, rfl, ho5, hb5⟩
            have hB5 := bthen hB3 (below_new hb5)
            obtain ⟨A5, c5, rfl, -, -, r5⟩ := ho5.formN (n := n0 + (4 * k + 3)) (by rw [List.length_append, List.length_replicate, Hl.out])
            have C5' := Lib.hid (C5.out A5 (n0 + (4 * k + 3)) c5 w5 r5 (by omega))
            clear C5 ho5 hb5 hB3 h3 r3 r5
            go_wp2_with fail
            refine C5'.out.mono ?_
            rintro e w6 ⟨v6, rfl, ho6, hb6⟩
            have hB6 := bthen hB5 hb6
            obtain ⟨A6, m2, c6, hm2, rfl, r6, -⟩ := ownG_len ho6
            have hm24 : m2 ≤ 400 := by rw [← hm2]; exact hsm2.out.1
            have hmm : m + o.length = m2 := by rw [← hm2, HL.out, List.length_append, hm]
            have hmk : m + k ≤ m2 := by have := Hko.out; omega
            have hmk' : (m : Int) + k ≤ m2 := by omega
            have Hat : Hid (∀ j g, m + 1 ≤ j → L2[j]? = some g → g = ⟨N2, N2, 1⟩) := fun j g hj hgj => by
              rw [HL.out, List.getElem?_append_right (by omega), hm] at hgj
              exact Hg.out (j - m) g (by omega) hgj
            have hd1 : decide ((20 : Int) < (k : Int)) = false := by simp; omega
            have hw1 : IntKind.i64.wrap ((m : Int) + (k : Int)) = (m : Int) + (k : Int) := IntWalk.i64_in _ (by have := Hm4.out; omega)
            have hw2 : IntKind.i64.wrap ((m : Int) + 1) = (m : Int) + 1 := IntWalk.i64_in _ (by have := Hm4.out; omega)
            have hcmp : decide ((m2 : Int) < (m : Int) + (k : Int)) = false := decide_eq_false (by omega)
            have hNb : (N2 : Int) ≤ 9223372036854775807 := by have := hsm2.out.2; omega
            have Hm24 := Lib.hid hm24
            have Hmk := Lib.hid hmk
            clear C5' ho6 hb6 hB5 HL Hko Hg hmm hm hm2 hm24 hmk hmk'
            go_wp2
            go_loopw [14] (fun i wr => ∃ j : Nat, m + 1 ≤ j ∧ j ≤ m2 ∧ i = .int .i64 j ∧ wr = w6) (fun i _ => m2 - (intOf i).toNat)
            case atStart => exact ⟨m + 1, Nat.le_refl _, by have := Hmk.out; omega, by go_num, rfl⟩
            case round =>
              obtain ⟨j, hj1, hj, rfl, hwr⟩ := hrel
              obtain rfl := hwr.symm
              by_cases hlt : j < m2
              · obtain ⟨ad, g, rfl, hgj, g0, g1, g2⟩ := got_at r6 hlt
                have hge := Hat.out j g hj1 hgj
                subst hge
                simp only at g0 g1 g2
                have hj64 : (j : Int) ≤ 9223372036854775806 := by have := Hm24.out; omega
                clear hgj
                go_wp2
                go_roundw
                case rel => exact ⟨j + 1, by omega, by omega, by go_num, by trivial⟩
                case measure => simp [intOf] <;> omega
              · obtain rfl : m2 = j := by omega
                go_wp2
                go_ret
                exact ⟨rfl, hB6⟩
          · have hO' : ¬ (O : Int) % 4 = 0 := by omega
            clear hcalm'
            go_wp2
            go_ret
            exact ⟨rfl, hB⟩
    · clear hcalm
      go_wp2
      go_ret
      exact ⟨rfl, hB⟩
end Go.Proofs.Ytblnfffmgaiabaa
