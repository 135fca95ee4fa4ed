/-
  The law MemberDead.
-/
import Derived.Test.YtnmoddknghcobaaMemberLaws2
import Derived.Test.YtnmoddknghcobaaMemberRepeat
import Derived.BigRegion
namespace Go.Proofs.Ytnmoddknghcobaa
open Go.RowKit
set_option linter.unusedVariables false

set_option maxRecDepth 100000 in
set_option maxHeartbeats 3200000 in
theorem MemberDead_walk (many dead rounds : Int) (w : World) (w0 : (Lit.int .i64 many).wf = true) (w1 : (Lit.int .i64 dead).wf = true) (w2 : (Lit.int .i64 rounds).wf = true) :
    Calls Try.prog 7 #[.int .i64 many, .int .i64 dead, .int .i64 rounds] w fun e w' => e = .returned (.bool true) ∧ Below w.heap.size w w' := by
  have CA := Lib.hid (fun (W : World) => alive16_any W)
  by_cases hno : many < 4 ∨ 16 < many ∨ dead < 0 ∨ many ≤ dead ∨ rounds < 2 ∨ 20 < rounds
  · have hcs : many < 4 ∨ (4 ≤ many ∧ 16 < many) ∨ (4 ≤ many ∧ many ≤ 16 ∧ dead < 0) ∨ (4 ≤ many ∧ many ≤ 16 ∧ 0 ≤ dead ∧ many ≤ dead) ∨ (4 ≤ many ∧ many ≤ 16 ∧ 0 ≤ dead ∧ dead < many ∧ rounds < 2) ∨ (4 ≤ many ∧ many ≤ 16 ∧ 0 ≤ dead ∧ dead < many ∧ 2 ≤ rounds ∧ 20 < rounds) := by omega
    clear hno
    rcases hcs with q1 | ⟨q1, q2⟩ | ⟨q1, q2, q3⟩ | ⟨q1, q2, q3, q4⟩ | ⟨q1, q2, q3, q4, q5⟩ | ⟨q1, q2, q3, q4, q5, q6⟩
    all_goals
      go_enter Try.func7, Try.ntmps7
      go_wp2_with fail
      refine (CA.out _).mono ?_
      rintro e w2 ⟨rfl, hb2⟩
      go_wp2
      go_ret
      exact ⟨rfl, hb2⟩
  · obtain ⟨n, rfl⟩ : ∃ n : Nat, many = n := ⟨many.toNat, by omega⟩
    obtain ⟨k, rfl⟩ : ∃ k : Nat, dead = k := ⟨dead.toNat, by omega⟩
    obtain ⟨r, rfl⟩ : ∃ r : Nat, rounds = r := ⟨rounds.toNat, by omega⟩
    have q1 : ¬ (n : Int) < 4 := by omega
    have q2 : ¬ 16 < (n : Int) := by omega
    have q3 : ¬ (k : Int) < 0 := by omega
    have q4 : ¬ (n : Int) ≤ (k : Int) := by omega
    have q5 : ¬ (r : Int) < 2 := by omega
    have q6 : ¬ 20 < (r : Int) := by omega
    have hn4 : 4 ≤ n := by omega
    have hn16 : n ≤ 16 := by omega
    have hkn : k < n := by omega
    have hr2 : 2 ≤ r := by omega
    obtain ⟨v0, Hv0⟩ : ∃ v0 : Nat, Hid (v0 = 65535) := ⟨_, rfl⟩
    have hv0 : v0 < 65536 := by rw [Hv0.out]; decide
    have hx : putB v0 k false < 65536 := put_lt hv0 (by omega)
    have CR := Lib.hid (fun (B : Option Addr) (W : World) (hW : Rd W 1 B 1 [u16V v0]) => Repeat_one B 1 v0 n hv0 (by omega) hn16 W hW)
    have CG := Lib.hid (fun (B : Option Addr) (d : Nat) (W : World) (hW : Rd W 1 B n ((List.replicate n (putB v0 k false)).map u16V)) => Rounds_any B n d (List.replicate n (putB v0 k false)) (r : Int) W hW (fun x hx' => by rw [List.eq_of_mem_replicate hx']; exact hx) (by omega))
    have he : roundsE n (r : Int) = 0 := roundsE_ok (by omega)
    have hL : roundsL (List.replicate n (putB v0 k false)) (r : Int) = roundsR (deadL n k) r := by
      rw [roundsL_ok (by rw [List.length_replicate]; exact he), Int.toNat_natCast, Hv0.out]; rfl
    rw [he, hL] at CG
    have Hall : Hid (∀ (j : Nat) (m : Mem), (roundsR (deadL n k) r)[j]? = some m → j = k ∨ (m.ou = false ∧ m.vw = putB (fullV n) k false)) := fun j m hm => by
      have := dead_all (by omega) hn4 hkn hr2 hm
      simpa [deadP] using this
    have Hlen : Hid ((roundsR (deadL n k) r).length = n) := by show _ = _; unfold roundsR; rw [groupM_length]; simp [deadL]
    have hfv : fullV n < 65536 := start_lt hn16
    have hfs := full_sub16 hn16
    have ha1 := u16_andNot hv0 (show k < 16 by omega)
    have ha2 := u16_andNot hfv (show k < 16 by omega)
    have hsh := shl16 (show k < 16 by omega)
    have hsh' := hsh
    rw [Int.one_mul] at hsh'
    clear hno he hL hfv hv0 hx
    generalize roundsR (deadL n k) r = L at *
    generalize fullV n = fv at *
    generalize putB fv k false = fv2 at *
    generalize putB v0 k false = x at *
    generalize 1 <<< k = b at *
    go_enter Try.func7, Try.ntmps7
    go_wp2_with fail
    refine (CA.out _).mono ?_
    rintro e w2 ⟨rfl, hb2⟩
    have hrd : Rd (w2.alloc (.cells #[.int .u16 65535] 22)) 1 (some ⟨w2.heap.size, 0, none⟩) 1 [u16V v0] := by rw [Hv0.out]; exact Rd.one w2 (u16V 65535) 22
    have CR' := Lib.hid (CR.out (some ⟨w2.heap.size, 0, none⟩) (w2.alloc (.cells #[.int .u16 65535] 22)) hrd)
    clear CR CA hrd
    go_wp2_with fail
    refine (Calls.mono CR'.out ?_)
    rintro e w3 ⟨B, d, rfl, ho3, hb3⟩
    have hB3 := bthen hb2 (below_new hb3)
    obtain ⟨g, d', hgd, hg, -, -⟩ := ho3.head (by simp; omega)
    simp only [List.length_replicate] at hgd
    injection hgd with hg1 _ hg3
    subst hg1 hg3
    have Ho3 := Lib.hid ho3
    have hgB : w.heap.size ≤ g := by have := hb2.size; simp at hg; omega
    have hmkA : Hid (∀ j : Nat, j < n → (List.replicate n x)[j]? = some x) := fun j hj => by rw [List.getElem?_replicate, if_pos hj]
    have hmkZ : Hid (∀ j : Nat, j < n → (List.replicate n v0)[j]? = some v0) := fun j hj => by rw [List.getElem?_replicate, if_pos hj]
    have HlenA : Hid ((List.replicate n x).length = n) := List.length_replicate
    have HlenZ : Hid ((List.replicate n v0).length = n) := List.length_replicate
    clear ho3 CR' hb3 hg Hv0
    generalize List.replicate n x = SA at *
    generalize List.replicate n v0 = SZ at *
    go_wp2
    go_loopw [43] (fun i wr => ∃ j : Nat, j ≤ n ∧ i = .int .i64 j ∧ Ow u16V wr (w2.alloc (.cells #[.int .u16 65535] 22)).heap.size 22 (.slice (some ⟨g, 0, none⟩) n d) (SA.take j ++ SZ.drop j) ∧ Below w.heap.size w wr) (fun i _ => n - (intOf i).toNat)
    case atStart => exact ⟨0, Nat.zero_le _, rfl, by simpa using Ho3.out, hB3⟩
    case round =>
      obtain ⟨j, hj, rfl, ho, hbl⟩ := hrel
      clear Ho3
      by_cases hlt : j < n
      · obtain ⟨hset, hcur⟩ := mid_set (hmkA.out j hlt) (hmkZ.out j hlt)
        have hc := ho.cellAt hcur
        have hf := ho.freeAt j
        have Hput := Lib.hid (ho.put j x)
        have Hset := Lib.hid hset
        clear hset hcur ho
        go_wp2
        go_big_region
        go_wp2
        go_roundw
        case rel => exact ⟨j + 1, by omega, by go_num, by rw [← Hset.out]; exact Hput.out, (hbl.setCell (p := ⟨g, j, none⟩) hgB _).drew⟩
        case measure => simp [intOf] <;> omega
      · obtain rfl : j = n := by omega
        have hrd : Rd wr 1 (some ⟨g, 0, none⟩) j (SA.map u16V) := by
          have := ho.rd
          rwa [List.take_of_length_le (by rw [HlenA.out]; exact Nat.le_refl _), List.drop_eq_nil_of_le (by rw [HlenZ.out]; exact Nat.le_refl _), List.append_nil] at this
        have Hrd := Lib.hid hrd
        clear ho hrd
        go_wp2_with fail
        refine (CG.out _ _ _ Hrd.out).mono ?_
        rintro e w4 ⟨v4, rfl, ho4, hb4⟩
        have hB4 := bthen hbl hb4
        obtain ⟨A4, c4, rfl, -, -, hr4⟩ := ho4.formN Hlen.out
        clear ho4 CG Hrd hb4 hB3 hbl
        go_wp2
        go_loopw [71] (fun i wr => ∃ q : Nat, q ≤ j ∧ i = .int .i64 q ∧ Below w4.heap.size w4 wr) (fun i _ => j - (intOf i).toNat)
        case atStart => exact ⟨0, Nat.zero_le _, rfl, Below.refl _ _⟩
        case round =>
          obtain ⟨q, hq, rfl, hbl⟩ := hrel
          by_cases hlt2 : q < j
          · obtain ⟨ad, m, rfl, hm, m0, m1, m2, m3⟩ := mem_at (hr4.below hbl) hlt2
            have hmm := Hall.out q m hm
            obtain ⟨mv, mt, ml, mo⟩ := m
            simp only at hmm m0 m1 m2 m3
            have hbl2 := hbl.alloc hbl.size (.cells #[.int .u16 (mv : Int), .int .i64 mt, .int .i64 ml, .bool mo] 24)
            clear hm
            by_cases hqk : q = k
            · subst hqk
              have hne : ((q : Int) != (q : Int)) = false := by simp
              clear hmm
              go_wp2
              go_quiet (fail)
              go_wp2
              go_roundw
              case rel => exact ⟨q + 1, by omega, by go_num, bthen hbl2 (below_draws ⟨_, rfl⟩)⟩
              case measure => simp [intOf] <;> omega
            · obtain ⟨g1, g2⟩ := hmm.resolve_left hqk
              subst g1 g2
              have hne : ((q : Int) != (k : Int)) = true := by simp; omega
              have hne2 : ((q : Int) == (k : Int)) = false := by simp; omega
              clear hqk hmm
              go_wp2
              go_quiet (fail)
              go_wp2
              go_roundw
              case rel => exact ⟨q + 1, by omega, by go_num, bthen hbl2 (below_draws ⟨_, rfl⟩)⟩
              case measure => simp [intOf] <;> omega
          · obtain rfl : q = j := by omega
            go_wp2
            go_ret
            exact ⟨rfl, bthen hB4 hbl⟩
end Go.Proofs.Ytnmoddknghcobaa
