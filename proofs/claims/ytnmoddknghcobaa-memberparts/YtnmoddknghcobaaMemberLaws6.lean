/-
  The law MemberParts.
-/
import Derived.Test.YtnmoddknghcobaaMemberLaws2
import Derived.Test.YtnmoddknghcobaaMemberRepeat
namespace Go.Proofs.Ytnmoddknghcobaa
open Go.RowKit
set_option linter.unusedVariables false

theorem parts_hi {n f : Nat} (h : f < n) (hn : n ≤ 16) : bits .andNot .u16 (fullV n : Int) (fullV f : Int) = ((2 ^ n - 2 ^ f : Nat) : Int) := by
  have : ∀ n < 17, ∀ f < n, bits .andNot .u16 (fullV n : Int) (fullV f : Int) = ((2 ^ n - 2 ^ f : Nat) : Int) := by decide +kernel
  exact this n (by omega) f h
theorem partsL_at {n f j : Nat} (h : j < n) : (partsL n f)[j]? = some (if j < f then fullV f else 2 ^ n - 2 ^ f) := by
  unfold partsL fullV
  rw [List.getElem?_map, List.getElem?_range h]
  rfl
theorem partsL_lt {n f : Nat} (h : f < n) (hn : n ≤ 16) : ∀ x ∈ partsL n f, x < 65536 := by
  intro x hx
  obtain ⟨j, _, rfl⟩ := List.mem_map.1 hx
  have h1 : 2 ^ n ≤ 2 ^ 16 := Nat.pow_le_pow_right (by decide) hn
  have h2 : 2 ^ f ≤ 2 ^ 16 := Nat.pow_le_pow_right (by decide) (by omega)
  have h3 : 0 < 2 ^ f := Nat.pow_pos (by decide)
  split <;> omega
set_option maxRecDepth 100000 in
set_option maxHeartbeats 3200000 in
theorem MemberParts_walk (many first : Int) (w : World) (w0 : (Lit.int .i64 many).wf = true) (w1 : (Lit.int .i64 first).wf = true) :
    Calls Try.prog 8 #[.int .i64 many, .int .i64 first] w fun e w' => e = .returned (.bool true) ∧ Below w.heap.size w w' := by
  have CA := Lib.hid (fun (W : World) => alive16_any W)
  by_cases hno : many < 4 ∨ 16 < many ∨ first < 1 ∨ many ≤ first ∨ many - 2 < 2 * first
  · have hcs : many < 4 ∨ (4 ≤ many ∧ 16 < many) ∨ (4 ≤ many ∧ many ≤ 16 ∧ first < 1) ∨ (4 ≤ many ∧ many ≤ 16 ∧ 1 ≤ first ∧ many ≤ first) ∨ (4 ≤ many ∧ many ≤ 16 ∧ 1 ≤ first ∧ first < many ∧ many - 2 < 2 * first) := by omega
    clear hno
    rcases hcs with q1 | ⟨q1, q2⟩ | ⟨q1, q2, q3⟩ | ⟨q1, q2, q3, q4⟩ | ⟨q1, q2, q3, q4, q5⟩
    all_goals
      go_enter Try.func8, Try.ntmps8
      go_wp2_with fail
      refine (CA.out _).mono ?_
      rintro e w2 ⟨rfl, hb2⟩
      go_wp2
      go_ret
      exact ⟨rfl, hb2⟩
  · obtain ⟨n, rfl⟩ : ∃ n : Nat, many = n := ⟨many.toNat, by omega⟩
    obtain ⟨f, rfl⟩ : ∃ f : Nat, first = f := ⟨first.toNat, by omega⟩
    have q1 : ¬ (n : Int) < 4 := by omega
    have q2 : ¬ 16 < (n : Int) := by omega
    have q3 : ¬ (f : Int) < 1 := by omega
    have q4 : ¬ (n : Int) ≤ (f : Int) := by omega
    have q5 : ¬ (n : Int) - 2 < 2 * (f : Int) := by omega
    have hn4 : 4 ≤ n := by omega
    have hn16 : n ≤ 16 := by omega
    have hfn : f < n := by omega
    have hf1 : 1 ≤ f := by omega
    have hf2 : 2 * f + 2 ≤ n := by omega
    have CG := Lib.hid (fun (B : Option Addr) (d : Nat) (W : World) (hW : Rd W 1 B n ((partsL n f).map u16V)) => Rounds_any B n d (partsL n f) 3 W hW (partsL_lt hfn hn16) (by omega))
    have he : roundsE n 3 = 0 := roundsE_ok (by omega)
    have hpl : (partsL n f).length = n := by simp [partsL]
    have hL : roundsL (partsL n f) 3 = roundsR (partsL n f) 3 := by
      rw [roundsL_ok (by rw [hpl]; exact he)]; rfl
    rw [he, hL] at CG
    have Hall : Hid (∀ (j : Nat) (m : Mem), (roundsR (partsL n f) 3)[j]? = some m → m.ou = decide (j < f) ∧ (j < f ∨ m.vw = 2 ^ n - 2 ^ f)) := fun j m hm => by
      have := parts_all (by omega) hn4 hf1 hfn hf2 hm
      simpa [partsP] using this
    have Hlen : Hid ((roundsR (partsL n f) 3).length = n) := by show _ = _; unfold roundsR; rw [groupM_length]; exact hpl
    have hfs1 := full_sub16 hn16
    have hfs2 := full_sub16 (show f ≤ 16 by omega)
    have hhi := parts_hi hfn hn16
    have Hat : Hid (∀ j : Nat, j < n → (partsL n f)[j]? = some (if j < f then fullV f else 2 ^ n - 2 ^ f)) := fun j hj => partsL_at hj
    have Hpl := Lib.hid hpl
    have hmk := run_mk (P := Try.prog) elU16 rfl .i64 .i64 n n (Nat.le_refl _) (by omega) (by omega)
    have hmkZ : Hid (∀ j : Nat, j < n → (List.replicate n 0)[j]? = some 0) := fun j hj => by rw [List.getElem?_replicate, if_pos hj]
    have HlenZ : Hid ((List.replicate n 0).length = n) := List.length_replicate
    have hmake := Lib.hid (fun (W : World) (hW : w.heap.size ≤ W.heap.size) => Ow.make u16V 0 W 22 (base := w.heap.size) n (by unfold maxLen; omega) hW)
    clear hno he hL hpl
    generalize roundsR (partsL n f) 3 = L at *
    generalize partsL n f = SA at *
    generalize List.replicate n 0 = SZ at *
    generalize fullV n = fv at *
    generalize fullV f = fl at *
    generalize 2 ^ n - 2 ^ f = hi at *
    have hwm : IntKind.i64.wrap (2 * (f : Int)) = 2 * (f : Int) := IntWalk.i64_in _ (by omega)
    go_enter Try.func8, Try.ntmps8
    go_wp2_with fail
    refine (CA.out _).mono ?_
    rintro e w2 ⟨rfl, hb2⟩
    have Hmake : Hid (Ow u16V (w2.alloc (.cells (madeCells #[.int .u16 0] n) 22)) w.heap.size 22 (.slice (some ⟨w2.heap.size, 0, none⟩) n n) SZ) := hmake.out w2 hb2.size
    have hB2 := hb2.alloc hb2.size (.cells (madeCells #[.int .u16 0] n) 22)
    have hgB := hb2.size
    clear hmake CA hb2
    go_wp2
    go_loopw [43] (fun i wr => ∃ j : Nat, j ≤ n ∧ i = .int .i64 j ∧ Ow u16V wr w.heap.size 22 (.slice (some ⟨w2.heap.size, 0, none⟩) n n) (SA.take j ++ SZ.drop j) ∧ Below w.heap.size w wr) (fun i _ => n - (intOf i).toNat)
    case atStart => exact ⟨0, Nat.zero_le _, rfl, by simpa using Hmake.out, hB2⟩
    case round =>
      obtain ⟨j, hj, rfl, ho, hbl⟩ := hrel
      clear Hmake hmk
      by_cases hlt : j < n
      · by_cases hjf : j < f
        · obtain ⟨hset, hcur⟩ := mid_set ((Hat.out j hlt).trans (by rw [if_pos hjf])) (hmkZ.out j hlt)
          have hc := ho.cellAt hcur
          have hf := ho.freeAt j
          have Hput := Lib.hid (ho.put j fl)
          have Hset := Lib.hid hset
          have hjf' : ¬ (f : Int) ≤ (j : Int) := by omega
          clear hset hcur ho
          go_wp2
          go_roundw
          case rel => exact ⟨j + 1, by omega, by go_num, by rw [← Hset.out]; exact Hput.out, hbl.setCell (p := ⟨w2.heap.size, j, none⟩) hgB _⟩
          case measure => simp [intOf] <;> omega
        · obtain ⟨hset, hcur⟩ := mid_set ((Hat.out j hlt).trans (by rw [if_neg hjf])) (hmkZ.out j hlt)
          have hc := ho.cellAt hcur
          have hf := ho.freeAt j
          have hput := (ho.put j fl).put j hi
          rw [List.set_set] at hput
          have Hput := Lib.hid hput
          have Hset := Lib.hid hset
          have hlg := ho.inHeap w2.heap.size rfl
          have hjf' : (f : Int) ≤ (j : Int) := by omega
          clear hset hcur ho hput
          go_wp2
          go_roundw
          case rel => exact ⟨j + 1, by omega, by go_num, by rw [← Hset.out]; exact Hput.out, (hbl.setCell (p := ⟨w2.heap.size, j, none⟩) hgB _).setCell (p := ⟨w2.heap.size, j, none⟩) hgB _⟩
          case measure => simp [intOf] <;> omega
      · obtain rfl : j = n := by omega
        have hrd : Rd wr 1 (some ⟨w2.heap.size, 0, none⟩) j (SA.map u16V) := by
          have := ho.rd
          rwa [List.take_of_length_le (by rw [Hpl.out]; exact Nat.le_refl _), List.drop_eq_nil_of_le (by rw [HlenZ.out]; exact Nat.le_refl _), List.append_nil] at this
        have Hrd := Lib.hid hrd
        clear ho hrd
        go_wp2_with fail
        refine (CG.out _ _ _ Hrd.out).mono ?_
        rintro e w4 ⟨v4, rfl, ho4, hb4⟩
        have hB4 := bthen hbl hb4
        obtain ⟨A4, c4, rfl, -, -, hr4⟩ := ho4.formN Hlen.out
        clear ho4 CG Hrd hb4 hB2 hbl
        go_wp2
        go_loopw [77] (fun i wr => ∃ q : Nat, q ≤ j ∧ i = .int .i64 q ∧ Below w4.heap.size w4 wr) (fun i _ => j - (intOf i).toNat)
        case atStart => exact ⟨0, Nat.zero_le _, rfl, Below.refl _ _⟩
        case round =>
          obtain ⟨q, hq, rfl, hbl⟩ := hrel
          by_cases hlt2 : q < j
          · obtain ⟨ad, m, rfl, hm, m0, m1, m2, m3⟩ := mem_at (hr4.below hbl) hlt2
            obtain ⟨g1, hmm⟩ := Hall.out q m hm
            obtain ⟨mv, mt, ml, mo⟩ := m
            simp only at g1 hmm m0 m1 m2 m3
            have hbl2 := hbl.alloc hbl.size (.cells #[.int .u16 (mv : Int), .int .i64 mt, .int .i64 ml, .bool mo] 24)
            clear hm
            by_cases hqf : q < f
            · rw [decide_eq_true hqf] at g1
              subst g1
              have hqf1 : (q : Int) < (f : Int) := by omega
              have hqf2 : decide ((f : Int) ≤ (q : Int)) = false := by simp; omega
              have hqf3 : decide (f ≤ q) = false := by simp; omega
              clear hmm
              go_wp2
              go_quiet (fail)
              go_wp2
              go_roundw
              case rel => exact ⟨q + 1, by omega, by go_num, bthen hbl2 (below_draws ⟨_, rfl⟩)⟩
              case measure => simp [intOf] <;> omega
            · rw [decide_eq_false hqf] at g1
              have g2 := hmm.resolve_left hqf
              subst g1 g2
              have hqf1 : decide ((q : Int) < (f : Int)) = false := by simp; omega
              have hqf4 : decide (q < f) = false := by simp; omega
              have hqf2 : (f : Int) ≤ (q : Int) := by omega
              have hqf3 : f ≤ q := by omega
              clear hmm
              go_wp2
              go_quiet (fail)
              go_wp2
              go_roundw
              case rel => exact ⟨q + 1, by omega, by go_num, bthen hbl2 (below_draws ⟨_, rfl⟩)⟩
              case measure => simp [intOf] <;> omega
          · obtain rfl : q = j := by omega
            go_wp2
            go_ret
            exact ⟨rfl, bthen hB4 hbl⟩
end Go.Proofs.Ytnmoddknghcobaa
