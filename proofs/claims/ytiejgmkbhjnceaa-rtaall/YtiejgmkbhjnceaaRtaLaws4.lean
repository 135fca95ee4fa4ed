/-
  The walk of RtaAll: it returns true, at every argument.
-/
import Derived.Test.YtiejgmkbhjnceaaRtaLaws2
namespace Go.Proofs.Ytiejgmkbhjnceaa
open Go.RowKit
set_option linter.unusedVariables false

/-- Either an error, or what was played. -/
theorem GivesRun.split {L : List Tsk} {long : Int} {w w' : World} {e : Ending} (h : GivesRun L long w e w') : (∃ A m c B m' d x, e = .returned (.tuple #[.slice A m c, .slice B m' d, .int .i64 x]) ∧ m ≤ L.length ∧ m' ≤ 400 ∧ Hid (x ≠ 0 ∨ (x = 0 ∧ m = L.length ∧ ∃ (M : List Tk), L = M.map Tk.asT ∧ Good M ∧ long = m' ∧ Rd w' 1 A L.length ((firstL M m').map (Value.int .i64)) ∧ Rd w' 1 B m' ((ranL M m').map (Value.int .i64))))) ∧ Below w.heap.size w w' := by
  rcases h.1 with ⟨_, h2⟩ | ⟨M, N, A, B, c, d, he, hM, hlo, hN, h2, h3, h4⟩
  · exact ⟨⟨none, 0, 0, none, 0, 0, 2, h2, Nat.zero_le _, Nat.zero_le _, .inl (by decide)⟩, h.2⟩
  · have hl : L.length = M.length := by rw [he, List.length_map]
    rw [← hl] at h2 h3
    exact ⟨⟨A, L.length, c, B, N, d, 0, h2, Nat.le_refl _, hN, .inr ⟨rfl, rfl, M, he, hM, hlo, h3, h4⟩⟩, h.2⟩
/-- What the law asks at one unit of time. -/
theorem unit_all {M : List Tk} (hM : Good M) {R : List Nat} (hR : EndsAre M R) {k p c r : Nat} (hk : M[k]? = some ⟨p, c⟩) (hr : R[k]? = some r) (now : Nat) :
    (now % p = 0 → didK M k now = now / p * c) ∧ (didK M k (now + 1) < now / p * c + c → now % p + 1 < r) ∧ now / p * c ≤ now := by
  obtain ⟨h1, h2, h3⟩ := hM.at_ hk
  simp only at h1 h2 h3
  have hE := hR.at_ k _ r hk hr
  have hdm := Nat.div_add_mod now p
  rw [Nat.mul_comm] at hdm
  refine ⟨fun hz => ?_, fun hlt => ?_, ?_⟩
  · have := done_at hM.pos hk (show 0 < (⟨p, c⟩ : Tk).c from h1) hE (now / p)
    simp only at this
    rw [hz, Nat.add_zero] at hdm
    rwa [hdm] at this
  · by_cases g : now % p + 1 < r
    · exact g
    · exfalso
      have h4 := in_time hM.pos hk (show 0 < (⟨p, c⟩ : Tk).c from h1) hE (now / p)
      simp only at h4
      have h5 := didK_mono (L := M) (k := k) (List.getElem?_eq_some_iff.1 hk).1 (show now / p * p + r ≤ now + 1 by omega)
      rw [Nat.succ_mul] at h4
      omega
  · have := Nat.mul_le_mul_left (now / p) h2
    omega
set_option maxRecDepth 20000 in
set_option maxHeartbeats 1600000 in
theorem RtaAll_walk (A0 : Option Addr) (n0 c0 : Nat) (l0 : List Tsk) (a1 : Int) (w : World) (h0 : RdG tskC 2 w A0 n0 l0) (q0 : ∀ s ∈ l0, in64 s.p ∧ in64 s.c) (k0 : n0 ≤ c0) (b0 : c0 * 16 ≤ 140737488351232) (w1 : (Lit.int .i64 a1).wf = true) :
    Calls Try.prog 5 #[.slice A0 n0 c0, .int .i64 a1] w fun e w' => e = .returned (.bool true) ∧ Below w.heap.size w w' := by
  have hl := RdG.len tskK h0
  have C0 := Lib.hid (alive19_any w)
  have hn47 : n0 * 16 ≤ 140737488351232 := by omega
  have C1 := Lib.hid (fun (W : World) (h : RdG tskC 2 W A0 n0 l0) => (Ends_any A0 n0 c0 l0 W h k0 (by omega)).mono fun e w' hg => hg.split)
  have C2 := Lib.hid (fun (W : World) (h : RdG tskC 2 W A0 n0 l0) => (Run_any A0 n0 c0 l0 a1 W h k0 (by omega) (in64_wf w1)).mono fun e w' hg => hg.split)
  have Hl := Lib.hid hl
  clear q0 hl w1
  go_enter Try.func5, Try.ntmps5
  go_wp2_with fail
  refine C0.out.mono ?_
  rintro e w1 ⟨rfl, hb1⟩
  replace h0 := h0.below hb1
  clear C0
  go_wp2_with fail
  refine (C1.out _ h0).mono ?_
  rintro e w4 ⟨⟨A4, m4, c4, x4, rfl, hm4, HS4⟩, hb4⟩
  replace h0 := h0.below hb4
  go_wp2_with fail
  refine (C2.out _ h0).mono ?_
  rintro e w5 ⟨⟨A5, m5, c5, B5, m6, c6, x5, rfl, hm5, hm6, HS5⟩, hb5⟩
  replace h0 := h0.below hb5
  have hB5 := Lib.hid (bthen hb1 (bthen hb4 hb5))
  rw [Hl.out] at hm4 hm5
  rcases HS4.out with hx | ⟨rfl, hm4', M, R, hM1, hM2, hR, r4, hc4⟩
  · have hne : (x4 != 0) = true := by simpa using hx
    clear hx
    go_wp2
    go_ret
    exact ⟨rfl, hB5.out⟩
  · rcases HS5.out with hx | ⟨rfl, hm5', M', hM1', -, -, -, r6⟩
    · have hne : (x5 != 0) = true := by simpa using hx
      clear hx
      go_wp2
      go_ret
      exact ⟨rfl, hB5.out⟩
    · rw [Hl.out] at hm4' hm5' r4 hc4
      obtain rfl : M = M' := asT_inj (hM1.symm.trans hM1')
      obtain rfl := hm4'.symm
      rw [hM1] at h0
      replace h0 := tk_rd h0
      have hn16 : n0 ≤ 16 := by rw [← Hl.out, hM1, List.length_map]; exact hM2.len
      replace r4 := r4.below hb5
      have HU := Lib.hid (fun (k p c r : Nat) (hk : M[k]? = some ⟨p, c⟩) (hr : R[k]? = some r) (now : Nat) => unit_all hM2 hR hk hr now)
      have HG := Lib.hid hM2
      have HR : Hid (∀ (k : Nat) (r : Int), (natL R)[k]? = some r → ∃ r' : Nat, r = (r' : Int) ∧ R[k]? = some r' ∧ r' ≤ 10000) := fun k r hr => by
        unfold natL at hr
        rw [List.getElem?_map] at hr
        obtain ⟨r', h1, h2⟩ := Option.map_eq_some_iff.1 hr
        obtain ⟨t, ht, he⟩ := hR.back h1
        exact ⟨r', h2.symm, h1, by have := he.hi; have := hM2.at_ ht; omega⟩
      clear hm5 hm5' hM1 hM1' hM2 hR HS4 HS5 C1 C2 hb1 hb4 hb5 hm4
      go_wp2
      go_loopw [45] (fun i wr => ∃ k : Nat, k ≤ n0 ∧ i = .int .i64 k ∧ Below w5.heap.size w5 wr) (fun i _ => n0 - (intOf i).toNat)
      case atStart => exact ⟨0, Nat.zero_le _, rfl, Below.refl _ _⟩
      case round =>
        obtain ⟨k, hk, rfl, hbl⟩ := hrel
        by_cases hlt : k < n0
        · obtain ⟨ad, p, t, rfl, hx, hc0, hc1⟩ := tk_at (h0.below hbl) hlt
          obtain ⟨ad4, r, rfl, hr, -⟩ := r4.atMap hlt
          obtain ⟨r', rfl, hr2, hr3⟩ := HR.out k r hr
          have HU2 := Lib.hid (fun now => HU.out k p t r' hx hr2 now)
          obtain ⟨h1, h2, h3⟩ := HG.out.at_ hx
          simp only at h1 h2 h3
          have hX := Lib.hid (Box.new wr 39 [.int .i64 (p : Int), .int .i64 (t : Int)])
          have hB0 := Lib.hid (bthen hbl (below_one (w := wr) (.cells #[.int .i64 (p : Int), .int .i64 (t : Int)] 39)))
          have HD := Lib.hid (fun now => didK_size HG.out hx now)
          clear hx
          go_upto_region 10 with fail
          replace hX : Hid (Box (wr.alloc (.cells #[.int .i64 (p : Int), .int .i64 (t : Int)] 39)) wr.heap.size 39 [.int .i64 (p : Int), .int .i64 (t : Int)]) := hX
          replace hB0 : Hid (Below w5.heap.size w5 (wr.alloc (.cells #[.int .i64 (p : Int), .int .i64 (t : Int)] 39))) := hB0
          generalize wr.alloc (.cells #[.int .i64 (p : Int), .int .i64 (t : Int)] 39) = X at *
          generalize wr.heap.size = b at *
          have q0 := hX.out.cell 0 rfl
          have q1 := hX.out.cell 1 rfl
          have r6X := r6.below hB0.out
          obtain ⟨ad', y, hA', hry, hcr⟩ := (r4.below hB0.out).atMap hlt
          cases hA'
          rw [hr] at hry
          cases hry
          clear hr hr2 hc0 hc1
          go_wp2
          go_loopw [12, 52] (fun v i wr => ∃ now : Nat, now ≤ m6 ∧ i = .int .i64 now ∧ v = .int .i64 (didK M k now : Int) ∧ ∃ q, wr = X.drewN q) (fun _ i _ => m6 - (intOf i).toNat)
          case atStart => exact ⟨0, Nat.zero_le _, rfl, by rw [didK_start]; rfl, 0, rfl⟩
          case round =>
            obtain ⟨now, hnow, rfl, rfl, q, rfl⟩ := hrel
            by_cases hlt2 : now < m6
            · obtain ⟨u1, u2, u3⟩ := HU2.out now
              have hd := did_who (M := M) k now
              obtain ⟨ad6, y, rfl, hy, hcy⟩ := r6X.atMap hlt2
              rw [ran_at hlt2] at hy
              injection hy with hy
              have hD1 := HD.out now
              have hmod : (now : Int) % (p : Int) = ((now % p : Nat) : Int) := (Int.natCast_emod _ _).symm
              have hdiv : (now : Int) / (p : Int) = ((now / p : Nat) : Int) := (Int.natCast_ediv _ _).symm
              have hmul : ((now / p : Nat) : Int) * (t : Int) = ((now / p * t : Nat) : Int) := (Int.natCast_mul _ _).symm
              have hdp := Nat.div_le_self now p
              have hzp := Nat.mod_lt now (show 0 < p by omega)
              have HN : Hid (didK M k (now + 1) = if y = (k : Int) then didK M k now + 1 else didK M k now) := by
                show _ = _
                rw [hd, hy]
                split <;> rfl
              clear hd hy
              generalize hD' : didK M k (now + 1) = D' at *
              generalize didK M k now = D at *
              generalize now / p * t = Y at *
              generalize now / p = m at *
              generalize now % p = z at *
              obtain ⟨Z1, hZ1⟩ : ∃ Z1 : Int, (z : Int) + 1 = Z1 := ⟨_, rfl⟩
              by_cases hyk : y = (k : Int)
              · have hb1 : (y == (k : Int)) = true := by simpa using hyk
                have HN2 := HN.out
                rw [if_pos hyk] at HN2
                clear hyk HN
                obtain ⟨X1, hX1⟩ : ∃ X1 : Int, (Y : Int) + (t : Int) - ((D : Int) + 1) = X1 := ⟨_, rfl⟩
                by_cases hz : z = 0
                · have hb0 : ((D : Int) != (Y : Int)) = false := by have := u1 hz; simp; omega
                  have hb4 : ((z : Int) == 0) = true := by simpa using hz
                  have Hz := Lib.hid hz
                  clear hz
                  by_cases hX0 : 0 < X1
                  · have hb2 : decide (0 < X1) = true := decide_eq_true hX0
                    have hb3 : decide ((r' : Int) ≤ Z1) = false := decide_eq_false (by have := u2 (by omega); omega)
                    clear u1 u2
                    have hrel2 : Hid ((didK M k (now + 1) : Int) = (D : Int) + 1) := by show _ = _; rw [hD']; omega
                    clear HN2 hD'
                    go_wp2
                    go_quiet (fail)
                    go_wp2
                    go_quiet (fail)
                    go_wp2
                    go_quiet (fail)
                    go_wp2
                    go_roundw
                    case rel => exact ⟨now + 1, by omega, by go_num, by rw [hrel2.out], _, rfl⟩
                    case measure => simp [intOf] <;> omega
                  · have hb2 : decide (0 < X1) = false := decide_eq_false hX0
                    clear u1 u2
                    have hrel2 : Hid ((didK M k (now + 1) : Int) = (D : Int) + 1) := by show _ = _; rw [hD']; omega
                    clear HN2 hD'
                    go_wp2
                    go_quiet (fail)
                    go_wp2
                    go_quiet (fail)
                    go_wp2
                    go_quiet (fail)
                    go_wp2
                    go_roundw
                    case rel => exact ⟨now + 1, by omega, by go_num, by rw [hrel2.out], _, rfl⟩
                    case measure => simp [intOf] <;> omega
                · have hb0 : ((z : Int) == 0) = false := by simpa using hz
                  by_cases hX0 : 0 < X1
                  · have hb2 : decide (0 < X1) = true := decide_eq_true hX0
                    have hb3 : decide ((r' : Int) ≤ Z1) = false := decide_eq_false (by have := u2 (by omega); omega)
                    clear u1 u2
                    have hrel2 : Hid ((didK M k (now + 1) : Int) = (D : Int) + 1) := by show _ = _; rw [hD']; omega
                    clear HN2 hD'
                    go_wp2
                    go_quiet (fail)
                    go_wp2
                    go_quiet (fail)
                    go_wp2
                    go_quiet (fail)
                    go_wp2
                    go_roundw
                    case rel => exact ⟨now + 1, by omega, by go_num, by rw [hrel2.out], _, rfl⟩
                    case measure => simp [intOf] <;> omega
                  · have hb2 : decide (0 < X1) = false := decide_eq_false hX0
                    clear u1 u2
                    have hrel2 : Hid ((didK M k (now + 1) : Int) = (D : Int) + 1) := by show _ = _; rw [hD']; omega
                    clear HN2 hD'
                    go_wp2
                    go_quiet (fail)
                    go_wp2
                    go_quiet (fail)
                    go_wp2
                    go_quiet (fail)
                    go_wp2
                    go_roundw
                    case rel => exact ⟨now + 1, by omega, by go_num, by rw [hrel2.out], _, rfl⟩
                    case measure => simp [intOf] <;> omega
              · have hb1 : (y == (k : Int)) = false := by simpa using hyk
                have HN2 := HN.out
                rw [if_neg hyk] at HN2
                clear hyk HN
                obtain ⟨X1, hX1⟩ : ∃ X1 : Int, (Y : Int) + (t : Int) - (D : Int) = X1 := ⟨_, rfl⟩
                by_cases hz : z = 0
                · have hb0 : ((D : Int) != (Y : Int)) = false := by have := u1 hz; simp; omega
                  have hb4 : ((z : Int) == 0) = true := by simpa using hz
                  have Hz := Lib.hid hz
                  clear hz
                  by_cases hX0 : 0 < X1
                  · have hb2 : decide (0 < X1) = true := decide_eq_true hX0
                    have hb3 : decide ((r' : Int) ≤ Z1) = false := decide_eq_false (by have := u2 (by omega); omega)
                    clear u1 u2
                    have hrel2 : Hid ((didK M k (now + 1) : Int) = (D : Int)) := by show _ = _; rw [hD']; omega
                    clear HN2 hD'
                    go_wp2
                    go_quiet (fail)
                    go_wp2
                    go_quiet (fail)
                    go_wp2
                    go_quiet (fail)
                    go_wp2
                    go_roundw
                    case rel => exact ⟨now + 1, by omega, by go_num, by rw [hrel2.out], _, rfl⟩
                    case measure => simp [intOf] <;> omega
                  · have hb2 : decide (0 < X1) = false := decide_eq_false hX0
                    clear u1 u2
                    have hrel2 : Hid ((didK M k (now + 1) : Int) = (D : Int)) := by show _ = _; rw [hD']; omega
                    clear HN2 hD'
                    go_wp2
                    go_quiet (fail)
                    go_wp2
                    go_quiet (fail)
                    go_wp2
                    go_quiet (fail)
                    go_wp2
                    go_roundw
                    case rel => exact ⟨now + 1, by omega, by go_num, by rw [hrel2.out], _, rfl⟩
                    case measure => simp [intOf] <;> omega
                · have hb0 : ((z : Int) == 0) = false := by simpa using hz
                  by_cases hX0 : 0 < X1
                  · have hb2 : decide (0 < X1) = true := decide_eq_true hX0
                    have hb3 : decide ((r' : Int) ≤ Z1) = false := decide_eq_false (by have := u2 (by omega); omega)
                    clear u1 u2
                    have hrel2 : Hid ((didK M k (now + 1) : Int) = (D : Int)) := by show _ = _; rw [hD']; omega
                    clear HN2 hD'
                    go_wp2
                    go_quiet (fail)
                    go_wp2
                    go_quiet (fail)
                    go_wp2
                    go_quiet (fail)
                    go_wp2
                    go_roundw
                    case rel => exact ⟨now + 1, by omega, by go_num, by rw [hrel2.out], _, rfl⟩
                    case measure => simp [intOf] <;> omega
                  · have hb2 : decide (0 < X1) = false := decide_eq_false hX0
                    clear u1 u2
                    have hrel2 : Hid ((didK M k (now + 1) : Int) = (D : Int)) := by show _ = _; rw [hD']; omega
                    clear HN2 hD'
                    go_wp2
                    go_quiet (fail)
                    go_wp2
                    go_quiet (fail)
                    go_wp2
                    go_quiet (fail)
                    go_wp2
                    go_roundw
                    case rel => exact ⟨now + 1, by omega, by go_num, by rw [hrel2.out], _, rfl⟩
                    case measure => simp [intOf] <;> omega
            · obtain rfl : now = m6 := by omega
              go_wp2
              go_roundw
              case rel => exact ⟨k + 1, by omega, by go_num, bthen hB0.out (below_draws ⟨_, rfl⟩)⟩
              case measure => simp [intOf] <;> omega
        · obtain rfl : k = n0 := by omega
          go_wp2
          go_ret
          exact ⟨rfl, hB5.out.trans (hbl.mono hB5.out.size)⟩
end Go.Proofs.Ytiejgmkbhjnceaa
