/-
  arb's law: who fell silent had a bit set where one was heard that is not, and all ahead alike.
-/
import Derived.Test.YtolcfifbnmkfaaaArbLaws3
namespace Go.Proofs.Ytolcfifbnmkfaaa
open Go.RowKit
set_option linter.unusedVariables false

/-- A node that is not the least one stops where it has a 1 and the least one a 0, all ahead alike. -/
theorem falls {m x : Int} (hm0 : 0 ≤ m) (hm1 : m ≤ 2047) (hx0 : 0 ≤ x) (hx1 : x ≤ 2047) (hmx : m ≤ x) (hne : x ≠ m) : ∃ j : Nat, j < 11 ∧ saidS m x 11 = (j : Int) + 1 ∧ (B x).take j = (B m).take j ∧ (B x)[j]? = some true ∧ (B m)[j]? = some false := by
  obtain ⟨j, hj, ht, hd⟩ := lcp_exists m x 11 (Nat.le_refl _)
  have hj11 : j ≠ 11 := by
    intro e
    subst e
    rw [List.take_of_length_le (by rw [B_length]; exact Nat.le_refl _), List.take_of_length_le (by rw [B_length]; exact Nat.le_refl _)] at ht
    exact hne (B_inj hx0 hx1 hm0 hm1 ht)
  have hd' : (B x)[j]? ≠ (B m)[j]? := hd.resolve_left hj11
  have hjl : j < 11 := by omega
  have hs := saidS_of hj ht hd 11 (Nat.le_refl _)
  have hbx := B_get x hjl
  have hbm := B_get m hjl
  have hn : decide (x / 2 ^ (10 - j) % 2 = 1) ≠ decide (m / 2 ^ (10 - j) % 2 = 1) := fun e => hd' (by rw [hbx, hbm, e])
  obtain ⟨e1, e2⟩ := bit_up hm0 hm1 hx0 hx1 hmx ht hbx hbm hn
  exact ⟨j, hjl, by rw [hs]; omega, ht, by rw [hbx, e1], by rw [hbm, e2]⟩
theorem saidS_self (m : Int) : ∀ s, saidS m m s = s
  | 0 => rfl
  | s + 1 => by rw [saidS, saidS_self m s]; simp [agree]
set_option maxRecDepth 100000 in
set_option maxHeartbeats 3200000 in
theorem ArbFalls_walk (A : Option Addr) (n c : Nat) (l : List Int) (w : World) (h : Rd w 1 A n (l.map (Value.int .i64))) (hwf : ∀ x ∈ l, (Lit.int .i64 x).wf = true) (hk : n ≤ c) (hc : c * 8 ≤ 140737488351232) :
    Calls Try.prog 6 #[.slice A n c] w fun e w' => e = .returned (.bool true) ∧ Below w.heap.size w w' := by
  have hln := h.lenMap
  clear hwf hk hc
  by_cases he : playErr l = 0
  · obtain ⟨hf, hl⟩ := (playErr_zero l).1 he
    have hP := fun W h => Play_ok A n c l W h hf hl
    have hn4 : n ≤ 400 := by have := hf.1; omega
    have hSn := (playSent_length l).trans hln
    have hTn : (playBus l).length = 11 := B_length _
    have hone : l.count (leastI l) = 1 := by
      have h1 := List.count_pos_iff.2 (leastI_mem hl)
      have h2 := List.nodup_iff_count.1 hf.2.2 (leastI l)
      omega
    have hm := hf.2.1 _ (leastI_mem hl)
    have hS : ∀ (k : Nat) (x : Int), l[k]? = some x → (playSent l)[k]? = some (saidS (leastI l) x 11) := fun k x hx => by simp [playSent, hx]
    have hrange := fun (k : Nat) (x : Int) (hx : l[k]? = some x) => hf.2.1 x (List.mem_of_getElem? hx)
    have hle := fun (k : Nat) (x : Int) (hx : l[k]? = some x) => leastI_le (List.mem_of_getElem? hx)
    have hB : playBus l = B (leastI l) := rfl
    rw [hB] at hP hTn
    clear hB he hl hf
    generalize leastI l = m at *
    generalize playSent l = S at *
    have Hone := Lib.hid hone; clear hone
    have HS := Lib.hid hS; clear hS
    have Hrange := Lib.hid hrange; clear hrange
    have Hle := Lib.hid hle; clear hle
    have Hln := Lib.hid hln; clear hln
    go_enter Try.func6, Try.ntmps6
    go_wp2_with (first
      | (go_at_call 20; refine (alive5_any w).mono ?_; rintro e w1 ⟨rfl, hb1⟩)
      | (go_at_call 8; refine (hP w1 (h.below hb1)).mono ?_; clear hP; rintro e w2 ⟨v, b, rfl, h1, h2, hb2⟩; obtain ⟨A1, c1, rfl, hc1, _, r1⟩ := h1.formN hSn; obtain ⟨A2, c2, rfl, hc2, _, r2⟩ := h2.formN hTn))
    clear h1 h2
    go_loopw [6, 27] (fun a i wr => ∃ k : Nat, k ≤ n ∧ i = .int .i64 k ∧ a = .int .i64 ((l.take k).count m : Nat) ∧ Below w2.heap.size w2 wr) (fun _ i _ => n - (intOf i).toNat)
    case atStart => exact ⟨0, Nat.zero_le _, rfl, rfl, Below.refl _ _⟩
    case round =>
      obtain ⟨k, hk, rfl, rfl, hb3⟩ := hrel
      have hcnt : (l.take k).count m ≤ 400 := Nat.le_trans List.count_le_length (by rw [List.length_take]; omega)
      obtain ⟨W, hWr⟩ : ∃ W, W = wr := ⟨_, rfl⟩
      subst hWr
      by_cases hlt : k < n
      · obtain ⟨ad, x, rfl, hx, hcx⟩ := (((h.below hb1).below hb2).below hb3).atMap hlt
        have hxr := Hrange.out k x hx
        have hmx := Hle.out k x hx
        have hPut := fun W => Put_ok 11 x W (by omega) hxr.1 (by omega)
        rw [show bitsOf 11 x = B x from rfl] at hPut
        obtain ⟨ad1, N, rfl, hN, hcN⟩ := (r1.below hb3).atMap hlt
        have hNN : N = saidS m x 11 := Option.some.inj (hN.symm.trans (HS.out k x hx))
        have hkz : decide ((n : Int) ≤ (k : Int)) = false := by simp; omega
        have hkz2 : (k : Int) < (n : Int) := by omega
        have hcount : (l.take (k + 1)).count m = (l.take k).count m + (if x = m then 1 else 0) := by
          rw [take_snoc hx, List.count_append, List.count_singleton]
          by_cases e : x = m <;> simp [e]
        have Hcount := Lib.hid hcount; clear hcount
        clear hN
        generalize (l.take k).count m = C at *
        by_cases hxm : x = m
        · subst hxm
          rw [saidS_self] at hNN
          replace hNN : N = 11 := hNN
          simp only [if_true] at Hcount
          subst hNN
          go_wp2_with (first
            | (go_at_call 21; refine (hPut _).mono ?_; clear hPut; rintro e w5 ⟨A5, c5, rfl, h5, hb5⟩; have r5 := h5.rd; have hcN5 := ((r1.below hb3).below hb5); obtain ⟨ad5, N5, had5, hN5, hc5⟩ := hcN5.atMap hlt; cases had5; obtain rfl : N5 = 11 := Option.some.inj (hN5.symm.trans ((HS.out k _ hx).trans (by rw [saidS_self]; rfl))))
            | (go_at_call 16; refine (EqualB_any_same A5 A2 11 c5 11 c2 _ w5 r5 ((r2.below hb3).below hb5) (by omega)).mono ?_; rintro e w6 ⟨rfl, hb6⟩))
          go_roundw
          case rel => exact ⟨k + 1, by omega, by go_num, by rw [Hcount.out]; go_num, bthen (bthen hb3 hb5) hb6⟩
          case measure => simp [intOf] <;> omega
        · obtain ⟨j, hj, hsd, ht, hbx, hbm⟩ := falls hm.1 hm.2 hxr.1 hxr.2 hmx hxm
          rw [hsd] at hNN
          have hne : decide (B x = B m) = false := by
            rw [decide_eq_false_iff_not]
            exact fun e => hxm (B_inj hxr.1 hxr.2 hm.1 hm.2 e)
          have hN1 : decide (N < 1) = false := by simp; omega
          have hN2 : decide (11 < N) = false := by simp; omega
          have ea : (N - 1).toNat = j := by omega
          have pa : (0 : Int) ≤ N - 1 := by omega
          have ba : N - 1 < 11 := by omega
          have ra : IntKind.i64.wrap (N - 1) = N - 1 := by rw [IntKind.wrap_i64]; omega
          have hBl := B_length x
          simp only [if_neg hxm, Nat.add_zero] at Hcount
          have HNN := Lib.hid hNN; clear hNN
          have hxS := Lib.hid ((HS.out k x hx).trans (by rw [hsd])); clear hsd
          go_wp2_with (first
            | (go_at_call 21; refine (hPut _).mono ?_; clear hPut; rintro e w5 ⟨A5, c5, rfl, h5, hb5⟩; have hc5 := h5.len.2.1; have r5 := h5.rd; have hcN5 := ((r1.below hb3).below hb5); obtain ⟨ad5, N5, had5, hN5, hcc5⟩ := hcN5.atMap hlt; cases had5; obtain rfl : N = N5 := HNN.out.trans (Option.some.inj (hN5.symm.trans hxS.out)).symm; clear hN5)
            | (go_at_call 16; refine (EqualB_any A5 A2 11 c5 11 c2 (B x) (B m) w5 r5 ((r2.below hb3).below hb5) (by omega)).mono ?_; rw [hne]; rintro e w6 ⟨rfl, hq6⟩; have hb6 := below_draws hq6; have r56 := r5.below hb6; have r26 := (((r2.below hb3).below hb5).below hb6)))
          clear r5 h5 hq6
          obtain ⟨ada, ba', rfl, hba, hca⟩ := r56.atMap (k := j) (by omega)
          obtain ⟨adb, bb', rfl, hbb, hcb⟩ := r26.atMap (k := j) (by omega)
          obtain rfl : ba' = true := Option.some.inj (hba.symm.trans hbx)
          obtain rfl : bb' = false := Option.some.inj (hbb.symm.trans hbm)
          have hEq := fun (q : Nat) => EqualB_any (some ada) (some adb) j c5 j c2 ((B x).take j) ((B m).take j) (w6.drewN q) (by have := r56.take (k := j) (by omega); rwa [Nat.mul_one, ← List.map_take] at this) (by have := r26.take (k := j) (by omega); rwa [Nat.mul_one, ← List.map_take] at this) (by omega)
          rw [ht] at hEq
          simp only [decide_true] at hEq
          have hcut5 : ∀ W, (Instr.slice 23 (.slice (some ada) 11 c5) none (some (.int .i64 (N - 1))) none).run Try.prog W = .ok (.slice (some ada) j c5) W := fun W => by rw [show N - 1 = (j : Int) by omega]; exact run_to elBool W (some ada) 11 c5 j (by omega)
          have hcut2 : ∀ W, (Instr.slice 23 (.slice (some adb) 11 c2) none (some (.int .i64 (N - 1))) none).run Try.prog W = .ok (.slice (some adb) j c2) W := fun W => by rw [show N - 1 = (j : Int) by omega]; exact run_to elBool W (some adb) 11 c2 j (by omega)
          clear hba hbb ht hbx hbm
          go_quiet (first | (go_at_call 16; refine Calls.quiet_of (hEq _)))
          go_wp2
          go_roundw
          case rel => exact ⟨k + 1, by omega, by go_num, by rw [Hcount.out], bthen (bthen (bthen hb3 hb5) hb6) (below_draws ⟨_, rfl⟩)⟩
          case measure => simp [intOf] <;> omega
      · obtain rfl : k = n := by omega
        have hC : (l.take k).count m = 1 := by rw [List.take_of_length_le (by rw [Hln.out]; exact Nat.le_refl _)]; exact Hone.out
        rw [hC]
        go_wp2
        go_ret
        exact ⟨rfl, bthen (bthen hb1 hb2) hb3⟩
  · have hP := fun W h => Play_any A n c l W h
    have hne : (playErr l != 0) = true := by simpa using he
    have hS : (sentM l).length = 0 := by unfold sentM; rw [if_neg he]; rfl
    clear he
    generalize playErr l = R at *
    generalize sentM l = S at *
    generalize busM l = T at *
    go_enter Try.func6, Try.ntmps6
    go_wp2_with (first
      | (go_at_call 20; refine (alive5_any w).mono ?_; rintro e w1 ⟨rfl, hb1⟩)
      | (go_at_call 8; refine (hP w1 (h.below hb1)).mono ?_; clear hP; rintro e w2 ⟨v, b, rfl, h1, h2, hb2⟩; obtain ⟨A1, c1, rfl, _, _, r1⟩ := h1.formN hS))
    go_ret
    exact ⟨rfl, bthen hb1 hb2⟩
end Go.Proofs.Ytolcfifbnmkfaaa
