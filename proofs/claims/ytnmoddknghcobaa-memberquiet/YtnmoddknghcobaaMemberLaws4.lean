/-
  The law MemberQuiet.
-/
import Derived.Test.YtnmoddknghcobaaMemberLaws2
import Derived.Test.YtnmoddknghcobaaMemberRepeat
namespace Go.Proofs.Ytnmoddknghcobaa
open Go.RowKit
set_option linter.unusedVariables false

set_option maxRecDepth 100000 in
set_option maxHeartbeats 1600000 in
theorem MemberQuiet_walk (many rounds : Int) (w : World) (w0 : (Lit.int .i64 many).wf = true) (w1 : (Lit.int .i64 rounds).wf = true) :
    Calls Try.prog 6 #[.int .i64 many, .int .i64 rounds] w fun e w' => e = .returned (.bool true) ∧ Below w.heap.size w w' := by
  have CA := Lib.hid (fun (W : World) => alive16_any W)
  by_cases hno : many < 1 ∨ 16 < many ∨ rounds < 0 ∨ 20 < rounds
  · have hcs : many < 1 ∨ (1 ≤ many ∧ 16 < many) ∨ (1 ≤ many ∧ many ≤ 16 ∧ rounds < 0) ∨ (1 ≤ many ∧ many ≤ 16 ∧ 0 ≤ rounds ∧ 20 < rounds) := by omega
    clear hno
    rcases hcs with q1 | ⟨q1, q2⟩ | ⟨q1, q2, q3⟩ | ⟨q1, q2, q3, q4⟩
    all_goals
      go_enter Try.func6, Try.ntmps6
      go_wp2_with fail
      refine (CA.out _).mono ?_
      rintro e w2 ⟨rfl, hb2⟩
      go_wp2
      go_ret
      exact ⟨rfl, hb2⟩
  · obtain ⟨n, rfl⟩ : ∃ n : Nat, many = n := ⟨many.toNat, by omega⟩
    obtain ⟨r, rfl⟩ : ∃ r : Nat, rounds = r := ⟨rounds.toNat, by omega⟩
    have q1 : ¬ (n : Int) < 1 := by omega
    have q2 : ¬ 16 < (n : Int) := by omega
    have q3 : ¬ (r : Int) < 0 := by omega
    have q4 : ¬ 20 < (r : Int) := by omega
    have hn1 : 1 ≤ n := by omega
    have hn16 : n ≤ 16 := by omega
    have CR := Lib.hid (fun (B : Option Addr) (W : World) (hW : Rd W 1 B 1 [u16V 65535]) => Repeat_one B 1 65535 n (by decide) hn1 hn16 W hW)
    have CG := Lib.hid (fun (B : Option Addr) (d : Nat) (W : World) (hW : Rd W 1 B n ((List.replicate n 65535).map u16V)) => Rounds_any B n d (List.replicate n 65535) (r : Int) W hW (fun x hx => by rw [List.eq_of_mem_replicate hx]; decide) (by omega))
    have he : roundsE n (r : Int) = 0 := roundsE_ok (by omega)
    have hL : roundsL (List.replicate n 65535) (r : Int) = roundsR (quietL n) r := by
      rw [roundsL_ok (by rw [List.length_replicate]; exact he), Int.toNat_natCast]; rfl
    rw [he, hL] at CG
    have Hall : Hid (∀ m ∈ roundsR (quietL n) r, m.ou = false ∧ m.vw = fullV n) := fun m hm => by
      have := quiet_all (by omega) m hm
      simpa [quietP] using this
    have Hlen : Hid ((roundsR (quietL n) r).length = n) := by show _ = _; unfold roundsR; rw [groupM_length]; simp [quietL]
    have hfs := full_sub16 hn16
    clear hno he hL
    generalize roundsR (quietL n) r = L at *
    generalize fullV n = fv at *
    go_enter Try.func6, Try.ntmps6
    go_wp2_with fail
    refine (CA.out _).mono ?_
    rintro e w2 ⟨rfl, hb2⟩
    have CR' := Lib.hid (CR.out (some ⟨w2.heap.size, 0, none⟩) (w2.alloc (.cells #[.int .u16 65535] 22)) (Rd.one w2 (u16V 65535) 22))
    clear CR CA
    go_wp2_with fail
    refine (Calls.mono CR'.out ?_)
    rintro e w3 ⟨B, d, rfl, ho3, hb3⟩
    have hB3 := bthen hb2 (below_new hb3)
    have Hr3 := Lib.hid ho3.rd
    clear ho3 CR' hb3
    go_wp2_with fail
    refine (CG.out _ _ _ Hr3.out).mono ?_
    rintro e w4 ⟨v4, rfl, ho4, hb4⟩
    have hB4 := bthen hB3 hb4
    obtain ⟨A4, c4, rfl, -, -, hr4⟩ := ho4.formN Hlen.out
    clear ho4 CG Hr3 hb4 hB3
    go_wp2
    go_loopw [43] (fun i wr => ∃ j : Nat, j ≤ n ∧ i = .int .i64 j ∧ Below w4.heap.size w4 wr) (fun i _ => n - (intOf i).toNat)
    case atStart => exact ⟨0, Nat.zero_le _, rfl, Below.refl _ _⟩
    case round =>
      obtain ⟨j, hj, rfl, hbl⟩ := hrel
      by_cases hlt : j < n
      · obtain ⟨ad, m, rfl, hm, m0, m1, m2, m3⟩ := mem_at (hr4.below hbl) hlt
        obtain ⟨g1, g2⟩ := Hall.out m (List.mem_of_getElem? hm)
        obtain ⟨mv, mt, ml, mo⟩ := m
        simp only at g1 g2 m0 m1 m2 m3
        subst g1 g2
        have hbl2 := hbl.alloc hbl.size (.cells #[.int .u16 (mv : Int), .int .i64 mt, .int .i64 ml, .bool false] 24)
        clear hm
        go_wp2
        go_quiet (fail)
        go_wp2
        go_roundw
        case rel => exact ⟨j + 1, by omega, by go_num, bthen hbl2 (below_draws ⟨_, rfl⟩)⟩
        case measure => simp [intOf] <;> omega
      · obtain rfl : j = n := by omega
        go_wp2
        go_ret
        exact ⟨rfl, bthen hB4 hbl⟩
end Go.Proofs.Ytnmoddknghcobaa
