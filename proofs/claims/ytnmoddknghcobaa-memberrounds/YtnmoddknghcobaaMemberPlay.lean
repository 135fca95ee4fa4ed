/-
  Contract of member.Play, for every input.
-/
import Derived.Test.YtnmoddknghcobaaMemberWalks4
namespace Go.Proofs.Ytnmoddknghcobaa
open Go.RowKit
set_option linter.unusedVariables false

theorem stepM_lt {own : Int} {m : Mem} {node : Int} {came : Bool} {hv : Nat} (h : m.vw < 65536) : (stepM own m node came hv).vw < 65536 := by
  unfold stepM
  split
  · rename_i e
    obtain ⟨hV, hn, _⟩ := step_0.1 e
    have := hV.1
    have := hV.2.1
    exact step_lt h (by omega) (by omega)
  · decide
theorem start_lt {n : Nat} (h : n ≤ 16) : (startM n).vw < 65536 := by
  show 2 ^ n - 1 < 65536
  have : 2 ^ n ≤ 2 ^ 16 := Nat.pow_le_pow_right (by decide) h
  omega
theorem allM_lt (own many : Int) : (allM own many).vw < 65536 := by
  unfold allM
  split
  · rename_i e
    unfold allE at e
    split at e
    · cases e
    · exact start_lt (by omega)
  · decide
theorem playA_nil (own many : Int) : playAE own many [] = allE own many ∧ playAM own many [] = allM own many := by
  unfold playAE playAM allM
  by_cases h : allE own many = 0
  · rw [if_pos h, if_pos h, if_pos h]; exact ⟨h.symm, rfl⟩
  · rw [if_neg h, if_neg h, if_neg h]
    refine ⟨?_, rfl⟩
    unfold allE at h ⊢
    split
    · rfl
    · rename_i g; exact absurd (if_neg g) h
theorem playA_ok {own many : Int} {l : List Hrd} (h : playAE own many l = 0) : allE own many = 0 ∧ playE own (startM many.toNat) l = 0 ∧ playAM own many l = playM own (startM many.toNat) l := by
  unfold playAE at h
  split at h
  · rename_i e; exact ⟨e, h, if_pos e⟩
  · cases h
theorem playA_snoc {own many : Int} {l : List Hrd} (x : Hrd) (h : playAE own many l = 0) : playAE own many (l ++ [x]) = stepHE own (playAM own many l) x ∧ playAM own many (l ++ [x]) = stepHM own (playAM own many l) x := by
  obtain ⟨h1, h2, h3⟩ := playA_ok h
  obtain ⟨g1, g2, g3⟩ := play_snoc own x l (startM many.toNat) h2
  rw [h3]
  refine ⟨by unfold playAE; rw [if_pos h1]; exact g1, ?_⟩
  unfold playAM
  rw [if_pos h1]
  by_cases g : stepHE own (playM own (startM many.toNat) l) x = 0
  · exact g2 g
  · rw [g3 g]
    unfold stepHM stepM
    exact (if_neg g).symm
theorem playA_stop {own many : Int} {l : List Hrd} (t : List Hrd) (h : ¬ playAE own many l = 0) : playAE own many (l ++ t) = playAE own many l ∧ playAM own many (l ++ t) = playAM own many l := by
  unfold playAE playAM at *
  by_cases h1 : allE own many = 0
  · rw [if_pos h1] at h
    obtain ⟨g1, g2⟩ := play_stop own t l _ h
    rw [if_pos h1, if_pos h1, if_pos h1, if_pos h1, g1, g2, playM_no own l _ h]
    exact ⟨rfl, rfl⟩
  · rw [if_neg h1, if_neg h1, if_neg h1, if_neg h1]
    exact ⟨rfl, rfl⟩
theorem playA_lt (own many : Int) (l : List Hrd) : (playAM own many l).vw < 65536 := by
  induction l using snoc_rec with
  | nil => rw [(playA_nil own many).2]; exact allM_lt own many
  | snoc l x ih =>
    by_cases h : playAE own many l = 0
    · rw [(playA_snoc x h).2]; exact stepM_lt ih
    · rw [(playA_stop [x] h).2]; exact ih

set_option maxHeartbeats 1600000 in
theorem Play_any (own many : Int) (A : Option Addr) (n c : Nat) (l : List Hrd) (w : World) (h : RdG hrdC 3 w A n l) (hl : ∀ x ∈ l, x.Ok) (hn : n ≤ 140737488355328) :
    Calls Try.prog 13 #[.int .i64 own, .int .i64 many, .slice A n c] w (GivesMem (playAM own many l) (playAE own many l) w) := by
  have CA := Lib.hid (fun (W : World) => All_any own many W)
  have CS := Lib.hid (fun (m : Mem) (x : Hrd) (h1 : m.vw < 65536) (h2 : x.hv < 65536) (W : World) => Step_any own m x h1 h2 W)
  have H0 : Hid (allE own many = playAE own many (l.take 0) ∧ allM own many = playAM own many (l.take 0)) := by
    show _ ∧ _
    rw [List.take_zero]
    exact ⟨(playA_nil own many).1.symm, (playA_nil own many).2.symm⟩
  have Hs : Hid (∀ (k : Nat) (x : Hrd), l[k]? = some x → playAE own many (l.take k) = 0 → playAE own many (l.take (k + 1)) = stepHE own (playAM own many (l.take k)) x ∧ playAM own many (l.take (k + 1)) = stepHM own (playAM own many (l.take k)) x) := fun k x hx h0 => by rw [take_snoc hx]; exact playA_snoc x h0
  have Hstop : Hid (∀ k : Nat, ¬ playAE own many (l.take k) = 0 → playAE own many l = playAE own many (l.take k) ∧ playAM own many l = playAM own many (l.take k)) := fun k h0 => by
    have := playA_stop (l.drop k) h0
    rwa [List.take_append_drop] at this
  have Hlt : Hid (∀ k : Nat, (playAM own many (l.take k)).vw < 65536) := fun k => playA_lt own many _
  have Hend : Hid (playAE own many l = playAE own many (l.take n) ∧ playAM own many l = playAM own many (l.take n)) := by
    show _ ∧ _
    rw [List.take_of_length_le (by rw [RdG.len hrdK h]; exact Nat.le_refl _)]
    exact ⟨rfl, rfl⟩
  have Hl := Lib.hid hl
  clear hl
  generalize playAE own many l = RE at *
  generalize playAM own many l = RM at *
  obtain ⟨E, HE⟩ : ∃ E : Nat → Int, Hid (∀ k, E k = playAE own many (l.take k)) := ⟨_, fun _ => rfl⟩
  obtain ⟨M, HM⟩ : ∃ M : Nat → Mem, Hid (∀ k, M k = playAM own many (l.take k)) := ⟨_, fun _ => rfl⟩
  replace H0 : Hid (allE own many = E 0 ∧ allM own many = M 0) := by show _ ∧ _; rw [HE.out, HM.out]; exact H0.out
  replace Hs : Hid (∀ (k : Nat) (x : Hrd), l[k]? = some x → E k = 0 → E (k + 1) = stepHE own (M k) x ∧ M (k + 1) = stepHM own (M k) x) := fun k x hx h0 => by rw [HE.out, HM.out, HM.out]; exact Hs.out k x hx (by rw [← HE.out]; exact h0)
  replace Hstop : Hid (∀ k : Nat, ¬ E k = 0 → RE = E k ∧ RM = M k) := fun k h0 => by rw [HE.out, HM.out]; exact Hstop.out k (by rw [← HE.out]; exact h0)
  replace Hlt : Hid (∀ k : Nat, (M k).vw < 65536) := fun k => by rw [HM.out]; exact Hlt.out k
  replace Hend : Hid (RE = E n ∧ RM = M n) := by show _ ∧ _; rw [HE.out, HM.out]; exact Hend.out
  clear HE HM
  rw [H0.out.1, H0.out.2] at CA
  clear H0
  obtain ⟨m0, Hm0⟩ : ∃ m, Hid (M 0 = m) := ⟨_, rfl⟩
  rw [Hm0.out] at CA
  obtain ⟨v0, t0, l0, o0⟩ := m0
  go_enter Try.func13, Try.ntmps13
  go_wp2_with fail
  refine (CA.out _).mono ?_
  rintro e w1 ⟨rfl, hb1⟩
  have hB1 := below_new hb1
  have x6 := Box.below (Box.new w 24 [.int .u16 0, .int .i64 0, .int .i64 0, .bool false]) hb1 (by simp)
  have x8 := Box.new w1 24 [.int .u16 (v0 : Int), .int .i64 t0, .int .i64 l0, .bool o0]
  have Hat : Hid (Box (w1.alloc (.cells #[.int .u16 (v0 : Int), .int .i64 t0, .int .i64 l0, .bool o0] 24)) w1.heap.size 24 (memC (M 0)) ∧ Box (w1.alloc (.cells #[.int .u16 (v0 : Int), .int .i64 t0, .int .i64 l0, .bool o0] 24)) w.heap.size 24 (memC zeroM)) := by
    show _ ∧ _
    rw [Hm0.out]
    exact ⟨x8, x6.alloc _⟩
  have hb6 : w.heap.size < w1.heap.size := x6.lt
  clear CA hb1 x6 x8 Hm0
  go_wp2
  go_loopw [9, 20] (fun er i wr => ∃ j : Nat, j ≤ n ∧ i = .int .i64 j ∧ er = .int .i64 (E j) ∧ Box wr w1.heap.size 24 (memC (M j)) ∧ Box wr w.heap.size 24 (memC zeroM) ∧ Below w.heap.size w wr) (fun _ i _ => n - (intOf i).toNat)
  case atStart => exact ⟨0, Nat.zero_le _, rfl, rfl, Hat.out.1, Hat.out.2, hB1.alloc hB1.size _⟩
  case round =>
    obtain ⟨j, hj, rfl, rfl, y8, y6, hbl⟩ := hrel
    clear Hat
    have Y8 := Lib.hid y8
    have Y6 := Lib.hid y6
    clear y8 y6
    by_cases hlt : j < n
    · obtain ⟨ad, x, rfl, hx, hc0, hc1, hc2⟩ := heard_at (h.below hbl) hlt
      have Hj := Lib.hid (Hs.out j x hx)
      obtain ⟨m2, Hm2⟩ : ∃ m2, Hid (M (j + 1) = m2) := ⟨_, rfl⟩
      obtain ⟨er2, He2⟩ : ∃ e2, Hid (E (j + 1) = e2) := ⟨_, rfl⟩
      rw [Hm2.out, He2.out] at Hj
      have Hst := Lib.hid (Hstop.out j)
      have hxo := Hl.out x (List.mem_of_getElem? hx)
      have CS' := Lib.hid (fun (W : World) => CS.out (M j) x (Hlt.out j) hxo.2 W)
      clear hx
      generalize M j = m at *
      generalize E j = er at *
      obtain ⟨mv, mt, ml, mo⟩ := m
      have g0 := Y8.out.cell 0 rfl
      have g1 := Y8.out.cell 1 rfl
      have g2 := Y8.out.cell 2 rfl
      have g3 := Y8.out.cell 3 rfl
      have hlw := Y8.out.lt
      by_cases he : er = 0
      · subst he
        rw [← (Hj.out rfl).1, ← (Hj.out rfl).2] at CS'
        obtain ⟨nd, cm, hv⟩ := x
        simp only at hc0 hc1 hc2
        clear Hj Hst
        obtain ⟨rv, rt, rl, ro⟩ := m2
        go_wp2_with fail
        refine (CS'.out _).mono ?_
        rintro e w3 ⟨rfl, hb3⟩
        have hb3' := below_new hb3
        have z8 := Y8.out.below hb3' hlw
        have z6 := Y6.out.below hb3' Y6.out.lt
        have hB3 := bthen hbl hb3'
        have hb8 : w.heap.size ≤ w1.heap.size := by omega
        have k0 := z8.cell 0 rfl
        have k1 := z8.cell 1 rfl
        have k2 := z8.cell 2 rfl
        have k3 := z8.cell 3 rfl
        have f0 := z8.free 0
        have f1 := z8.free 1
        have f2 := z8.free 2
        have f3 := z8.free 3
        have Z8 := Lib.hid ((((z8.set 0 (.int .u16 (rv : Int))).set 1 (.int .i64 rt)).set 2 (.int .i64 rl)).set 3 (.bool ro))
        have Z6 := Lib.hid z6
        clear z8 z6 CS' g0 g1 g2 g3 hc0 hc1 hc2 Y8 Y6
        go_wp2
        go_roundw
        case rel => exact ⟨j + 1, by omega, by go_num, by rw [He2.out], by rw [Hm2.out]; exact Z8.out, (((Z6.out.grown (grownBy_setCell _ _ _) (by simp; omega)).grown (grownBy_setCell _ _ _) (by simp; omega)).grown (grownBy_setCell _ _ _) (by simp; omega)).grown (grownBy_setCell _ _ _) (by simp; omega), by repeat (first | (with_reducible exact Below.refl _ _) | (with_reducible assumption) | (with_reducible refine Below.setCell ?_ (by (try simp) <;> omega) _) | (with_reducible refine Below.alloc ?_ (by (try simp) <;> omega) _) | (with_reducible refine Below.drew ?_))⟩
        case measure => simp [intOf] <;> omega
      · obtain ⟨e1, e2⟩ := Hst.out he
        subst e1 e2
        have hne : (RE != 0) = true := by simpa using he
        have q0 := Y6.out.cell 0 rfl
        have q1 := Y6.out.cell 1 rfl
        have q2 := Y6.out.cell 2 rfl
        have q3 := Y6.out.cell 3 rfl
        have f0 := Y6.out.free 0
        have f1 := Y6.out.free 1
        have f2 := Y6.out.free 2
        have f3 := Y6.out.free 3
        have hl6 := Y6.out.lt
        clear Hst Hj CS' he
        go_wp2
        exact bodyPost_ret (v := .tuple #[.agg #[.int .u16 (mv : Int), .int .i64 mt, .int .i64 ml, .bool mo], .int .i64 RE]) (by simp [results, Try.results13, go_sem, q0, q1, q2, q3, hl6]) rfl ⟨rfl, by repeat (first | (with_reducible exact Below.refl _ _) | (with_reducible assumption) | (with_reducible refine Below.setCell ?_ (by (try simp) <;> omega) _) | (with_reducible refine Below.alloc ?_ (by (try simp) <;> omega) _) | (with_reducible refine Below.drew ?_))⟩
    · obtain rfl : j = n := by omega
      obtain ⟨e1, e2⟩ := Hend.out
      subst e1 e2
      clear Hend Hs Hstop Hlt
      generalize M j = m at *
      generalize E j = er at *
      obtain ⟨mv, mt, ml, mo⟩ := m
      have g0 := Y8.out.cell 0 rfl
      have g1 := Y8.out.cell 1 rfl
      have g2 := Y8.out.cell 2 rfl
      have g3 := Y8.out.cell 3 rfl
      have q0 := Y6.out.cell 0 rfl
      have q1 := Y6.out.cell 1 rfl
      have q2 := Y6.out.cell 2 rfl
      have q3 := Y6.out.cell 3 rfl
      have f0 := Y6.out.free 0
      have f1 := Y6.out.free 1
      have f2 := Y6.out.free 2
      have f3 := Y6.out.free 3
      have hl6 := Y6.out.lt
      go_wp2
      exact bodyPost_ret (v := .tuple #[.agg #[.int .u16 (mv : Int), .int .i64 mt, .int .i64 ml, .bool mo], .int .i64 er]) (by simp [results, Try.results13, go_sem, q0, q1, q2, q3]) rfl ⟨rfl, by repeat (first | (with_reducible exact Below.refl _ _) | (with_reducible assumption) | (with_reducible refine Below.setCell ?_ (by (try simp) <;> omega) _) | (with_reducible refine Below.alloc ?_ (by (try simp) <;> omega) _) | (with_reducible refine Below.drew ?_))⟩
end Go.Proofs.Ytnmoddknghcobaa
