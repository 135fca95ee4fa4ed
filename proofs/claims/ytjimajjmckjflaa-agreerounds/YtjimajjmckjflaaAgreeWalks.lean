/-
  Contracts of package agree: areTimes, Wrong, Wide.
-/
import Derived.Test.YtjimajjmckjflaaAgreeMath
import Derived.Test.YtjimajjmckjflaaOpenRows
import Derived.Test.YtjimajjmckjflaaSlicesI
import Derived.Test.YtjimajjmckjflaaRegion
import Derived.BigQuiet
import Derived.Deep.QuietTactic
namespace Go.Proofs.Ytjimajjmckjflaa
open Go.RowKit
set_option linter.unusedVariables false

/-- The rows of lies: each reads as its list. -/
def RdRows (w : World) (L : List (Option Addr × Nat × Nat × List Int)) : Prop := ∀ p ∈ L, Rd w 1 p.1 p.2.1 (p.2.2.2.map (Value.int .i64)) ∧ p.2.1 ≤ p.2.2.1 ∧ p.2.2.1 * 8 ≤ 140737488351232
def lists (L : List (Option Addr × Nat × Nat × List Int)) : List (List Int) := L.map (·.2.2.2)
theorem RdRows.below {w w' : World} {L : List (Option Addr × Nat × Nat × List Int)} (h : RdRows w L) (hb : Below w.heap.size w w') : RdRows w' L := fun p hp => ⟨(h p hp).1.below hb, (h p hp).2⟩
theorem RdRows.alloc {w : World} {L : List (Option Addr × Nat × Nat × List Int)} (h : RdRows w L) (o : Obj) : RdRows (w.alloc o) L := fun p hp => ⟨(h p hp).1.alloc o, (h p hp).2⟩

set_option maxHeartbeats 800000 in
theorem areTimes_any (A : Option Addr) (n c : Nat) (l : List Int) (w : World) (h : Rd w 1 A n (l.map (Value.int .i64))) (hn : n ≤ 4611686018427387904) :
    Calls Try.prog 23 #[.slice A n c] w fun e w' => e = .returned (.bool (!l.any outX)) ∧ w = w' := by
  have Hl := Lib.hid h.lenMap
  have Hy : Hid (∀ x ∈ l, outX x = true → (!l.any outX) = false) := fun x hx e => by rw [List.any_eq_true.2 ⟨x, hx, e⟩]; rfl
  have Hn : Hid (l.any outX = false → (!l.any outX) = true) := fun e => by rw [e]; rfl
  have Ht : Hid (∀ j, n ≤ j → (l.take j).any outX = false → l.any outX = false) := fun j hj e => by
    rwa [List.take_of_length_le (by rw [Hl.out]; exact hj)] at e
  generalize (!l.any outX) = R at *
  go_enter Try.func23, Try.ntmps23
  go_wp2
  go_loop [7] (fun i => ∃ j : Nat, j ≤ n ∧ i = .int .i64 j ∧ Hid ((l.take j).any outX = false)) (fun i => n - (intOf i).toNat)
  case atStart => exact ⟨0, Nat.zero_le _, rfl, by show _ = _; simp⟩
  case round =>
    obtain ⟨j, hj, rfl, Hni⟩ := hrel
    by_cases hlt : j < n
    · obtain ⟨ad, x, rfl, hx, hc⟩ := h.atMap hlt
      have Hx := Lib.hid hx; clear hx
      have Ho : Hid (outX x = true → R = false) := fun e => Hy.out x (List.mem_of_getElem? Hx.out) e
      by_cases x1 : x < -1099511627776
      · go_wp2
        go_ret
        exact ⟨ret_bool (Ho.out (by simp [outX, x1])).symm, rfl⟩
      by_cases x2 : 1099511627776 < x
      · go_wp2
        go_ret
        exact ⟨ret_bool (Ho.out (by simp [outX, x2])).symm, rfl⟩
      have Hin : Hid (outX x = false) := by show _ = _; simp [outX]; omega
      go_wp2
      go_round
      case rel => exact ⟨j + 1, by omega, by go_num, by show _ = _; rw [take_snoc Hx.out, List.any_append, Hni.out]; simp [Hin.out]⟩
      case measure => simp [intOf] <;> omega
    · go_wp2
      go_ret
      exact ⟨ret_bool (Hn.out (Ht.out j (by omega) Hni.out)).symm, rfl⟩

theorem rowsW_short {k z : Int} {r : List Int} {R : List (List Int)} (h : ¬ (r.length : Int) = k) : rowsW k (r :: R) z = 1 := if_pos h
theorem rowsW_out {k z : Int} {r : List Int} {R : List (List Int)} (h : (r.length : Int) = k) (ho : r.any outX = true) : rowsW k (r :: R) z = 2 := by
  rw [rowsW, if_neg (by omega), if_pos ho]
theorem rowsW_next {k z : Int} {r : List Int} {R : List (List Int)} (h : (r.length : Int) = k) (ho : r.any outX = false) : rowsW k (r :: R) z = rowsW k R z := by
  rw [rowsW, if_neg (by omega), if_neg (by rw [ho]; decide)]
theorem wrongA_2 {s : List Int} {k : Int} {L : List (List Int)} (h : s.length = 0 ∨ 16 < s.length ∨ k < 0 ∨ 16 < k) : wrongA s k L = 2 := if_pos h
theorem wrongA_8 {s : List Int} {k : Int} {L : List (List Int)} (h : ¬ (s.length = 0 ∨ 16 < s.length ∨ k < 0 ∨ 16 < k)) (h8 : (s.length : Int) ≤ 3 * k) : wrongA s k L = 8 := by
  rw [wrongA, if_neg h, if_pos h8]
theorem wrongA_1 {s : List Int} {k : Int} {L : List (List Int)} (h : ¬ (s.length = 0 ∨ 16 < s.length ∨ k < 0 ∨ 16 < k)) (h8 : ¬ (s.length : Int) ≤ 3 * k) (h1 : ¬ L.length = s.length) : wrongA s k L = 1 := by
  rw [wrongA, if_neg h, if_neg h8, if_pos h1]
theorem wrongA_rows {s : List Int} {k : Int} {L : List (List Int)} (h : ¬ (s.length = 0 ∨ 16 < s.length ∨ k < 0 ∨ 16 < k)) (h8 : ¬ (s.length : Int) ≤ 3 * k) (h1 : L.length = s.length) : wrongA s k L = rowsW k L (if s.any outX = true then 2 else 0) := by
  rw [wrongA, if_neg h, if_neg h8, if_neg (by omega)]

set_option maxHeartbeats 1600000 in
theorem AgreeWrong_any (A : Option Addr) (n c : Nat) (s : List Int) (k : Int) (B : Option Addr) (m d : Nat) (L : List (Option Addr × Nat × Nat × List Int)) (w : World) (h : Rd w 1 A n (s.map (Value.int .i64))) (hn : n ≤ 4611686018427387904)
    (hB : Rd w 1 B m (L.map rowV)) (hL : RdRows w L) (hm : m ≤ 4611686018427387904) :
    Calls Try.prog 12 #[.slice A n c, .int .i64 k, .slice B m d] w fun e w' => e = .returned (.int .i64 (wrongA s k (lists L))) ∧ w = w' := by
  have hl := h.lenMap
  have hlL : (lists L).length = m := by rw [lists, List.length_map, hB.lenMap]
  have H2 := Lib.hid (fun (g : n = 0 ∨ 16 < n ∨ k < 0 ∨ 16 < k) => wrongA_2 (s := s) (k := k) (L := lists L) (by rw [hl]; exact g))
  have H8 := Lib.hid (fun (g : ¬ (n = 0 ∨ 16 < n ∨ k < 0 ∨ 16 < k)) (g8 : (n : Int) ≤ 3 * k) => wrongA_8 (s := s) (k := k) (L := lists L) (by rw [hl]; exact g) (by rw [hl]; exact g8))
  have H1 := Lib.hid (fun (g : ¬ (n = 0 ∨ 16 < n ∨ k < 0 ∨ 16 < k)) (g8 : ¬ (n : Int) ≤ 3 * k) (g1 : ¬ m = n) => wrongA_1 (s := s) (k := k) (L := lists L) (by rw [hl]; exact g) (by rw [hl]; exact g8) (by rw [hl, hlL]; exact g1))
  have HR := Lib.hid (fun (g : ¬ (n = 0 ∨ 16 < n ∨ k < 0 ∨ 16 < k)) (g8 : ¬ (n : Int) ≤ 3 * k) (g1 : m = n) => wrongA_rows (s := s) (k := k) (L := lists L) (by rw [hl]; exact g) (by rw [hl]; exact g8) (by rw [hl, hlL]; exact g1))
  have Hs := Lib.hid (areTimes_any A n c s w h hn)
  have Hd : Hid (∀ j, m ≤ j → (lists L).drop j = []) := fun j hj => List.drop_eq_nil_of_le (by rw [hlL]; exact hj)
  have Hrow : Hid (∀ (j : Nat) p, L[j]? = some p → (lists L).drop j = p.2.2.2 :: (lists L).drop (j + 1)) := fun j p hp => drop_cons (by rw [lists, List.getElem?_map, hp]; rfl)
  have HL := Lib.hid hL
  clear hl hlL hL
  generalize wrongA s k (lists L) = R at *
  by_cases h1 : n = 0
  · have e := H2.out (.inl h1)
    subst e h1
    go_enter Try.func12, Try.ntmps12
    go_wp2
    go_ret
    exact ⟨rfl, rfl⟩
  have hne : ((n : Int) == 0) = false := by simpa using (show ¬ (n : Int) = 0 by omega)
  by_cases h2 : 16 < n
  · have e := H2.out (.inr (.inl h2))
    subst e
    go_enter Try.func12, Try.ntmps12
    go_wp2
    go_ret
    exact ⟨rfl, rfl⟩
  by_cases h3 : k < 0
  · have e := H2.out (.inr (.inr (.inl h3)))
    subst e
    go_enter Try.func12, Try.ntmps12
    go_wp2
    go_ret
    exact ⟨rfl, rfl⟩
  by_cases h4 : 16 < k
  · have e := H2.out (.inr (.inr (.inr h4)))
    subst e
    go_enter Try.func12, Try.ntmps12
    go_wp2
    go_ret
    exact ⟨rfl, rfl⟩
  by_cases h5 : (n : Int) ≤ 3 * k
  · have e := H8.out (by omega) h5
    subst e
    go_enter Try.func12, Try.ntmps12
    go_wp2
    go_ret
    exact ⟨rfl, rfl⟩
  by_cases h6 : ¬ m = n
  · have e := H1.out (by omega) h5 h6
    have hne2 : ((m : Int) != (n : Int)) = true := by simpa using (show ¬ (m : Int) = n by omega)
    subst e
    clear h6
    go_enter Try.func12, Try.ntmps12
    go_wp2
    go_ret
    exact ⟨rfl, rfl⟩
  have h6' : m = n := Classical.not_not.1 h6
  clear h6
  subst h6'
  have Hz := Lib.hid (HR.out (by omega) h5 rfl)
  clear H2 H8 H1 HR
  have Hz0 : Hid (s.any outX = false → (if s.any outX = true then (2 : Int) else 0) = 0) := fun e => by rw [e]; rfl
  have Hz2 : Hid (s.any outX = true → (if s.any outX = true then (2 : Int) else 0) = 2) := fun e => by rw [e]; rfl
  generalize (if s.any outX = true then (2 : Int) else 0) = z at *
  go_enter Try.func12, Try.ntmps12
  go_wp2
  go_loop [38] (fun i => ∃ j : Nat, j ≤ m ∧ i = .int .i64 j ∧ Hid (R = rowsW k ((lists L).drop j) z)) (fun i => m - (intOf i).toNat)
  case atStart => exact ⟨0, Nat.zero_le _, rfl, by show _ = _; rw [Hz.out, List.drop_zero]⟩
  case round =>
    clear Hz
    obtain ⟨j, hj, rfl, HRj⟩ := hrel
    by_cases hlt : j < m
    · obtain ⟨ad, ⟨Ar, nr, cr, r⟩, rfl, hp, hc⟩ := hB.atMap hlt
      change w.cell? (ad.add j) = some (.slice Ar nr cr) at hc
      obtain ⟨hr, hnr, hcr⟩ := HL.out _ (List.mem_of_getElem? hp)
      simp only at hr hnr hcr
      have hlr := hr.lenMap
      have Hp : Hid ((lists L).drop j = r :: (lists L).drop (j + 1)) := Hrow.out j _ hp
      have e := HRj.out
      rw [Hp.out] at e
      have Hr := Lib.hid (areTimes_any Ar nr cr r w hr (by omega))
      have Ha : Hid (¬ (nr : Int) = k → R = 1) := fun g => e.trans (rowsW_short (by rw [hlr]; exact g))
      have Hb : Hid ((nr : Int) = k → r.any outX = true → R = 2) := fun g g2 => e.trans (rowsW_out (by rw [hlr]; exact g) g2)
      have Hc : Hid ((nr : Int) = k → r.any outX = false → R = rowsW k ((lists L).drop (j + 1)) z) := fun g g2 => e.trans (rowsW_next (by rw [hlr]; exact g) g2)
      clear e hlr hr hp HRj Hp
      by_cases hk : ¬ (nr : Int) = k
      · have hne2 : ((nr : Int) != k) = true := by simpa using hk
        have e := Ha.out hk
        subst e
        clear hk
        go_wp2
        go_ret
        exact ⟨rfl, rfl⟩
      have hk' := Classical.not_not.1 hk
      clear hk
      subst hk'
      cases ho : r.any outX with
      | true =>
        rw [ho] at Hr
        have e := Hb.out rfl ho
        subst e
        clear ho Ha Hb Hc
        go_wp2_with fail
        refine Hr.out.mono ?_
        rintro e w1 ⟨rfl, rfl⟩
        go_wp2
        go_ret
        exact ⟨rfl, rfl⟩
      | false =>
        rw [ho] at Hr
        have HR1 := Lib.hid (Hc.out rfl ho)
        clear ho Ha Hb Hc
        go_wp2_with fail
        refine Hr.out.mono ?_
        rintro e w1 ⟨rfl, rfl⟩
        go_wp2
        go_round
        case rel => exact ⟨j + 1, by omega, by go_num, HR1.out⟩
        case measure => simp [intOf] <;> omega
    · have Hfin : Hid (R = z) := by
        have e := HRj.out
        rw [Hd.out j (by omega)] at e
        exact e
      clear HRj
      cases ho : s.any outX with
      | true =>
        rw [ho] at Hs
        have e := Hfin.out.trans (Hz2.out ho)
        subst e
        clear ho Hfin Hz0 Hz2
        go_wp2_with fail
        refine Hs.out.mono ?_
        rintro e w1 ⟨rfl, rfl⟩
        go_wp2
        go_ret
        exact ⟨rfl, rfl⟩
      | false =>
        rw [ho] at Hs
        have e := Hfin.out.trans (Hz0.out ho)
        subst e
        clear ho Hfin Hz0 Hz2
        go_wp2_with fail
        refine Hs.out.mono ?_
        rintro e w1 ⟨rfl, rfl⟩
        go_wp2
        go_ret
        exact ⟨rfl, rfl⟩

/-- s[:k] with its reading. -/
theorem ahead_int {w : World} {A : Option Addr} {n c k : Nat} {l : List Int} (h : Rd w 1 A n (l.map (Value.int .i64))) (hk : k ≤ n) (hc : n ≤ c) :
    (∀ W, (Instr.slice 22 (.slice A n c) none (some (.int .i64 (k : Int))) none).run Try.prog W = .ok (.slice A k c) W) ∧ Rd w 1 A k ((l.take k).map (Value.int .i64)) := by
  refine ⟨fun W => run_to elInt W A n c k (by omega), ?_⟩
  have := h.take (k := k) hk
  rwa [Nat.mul_one, ← List.map_take] at this
theorem wideE_yes {s : List Int} {k : Int} (h : k < 0 ∨ (s.length : Int) ≤ k ∨ 16 < s.length ∨ s.any outX = true) : wideE s k = 2 ∧ wideR s k = 0 := by
  have e : wideE s k = 2 := if_pos h
  exact ⟨e, wideR_no (by rw [e]; decide)⟩

set_option maxHeartbeats 1600000 in
theorem Wide_any (A : Option Addr) (n c : Nat) (s : List Int) (k : Int) (w : World) (h : Rd w 1 A n (s.map (Value.int .i64))) (hc : n ≤ c) (hn : n ≤ 4611686018427387904) :
    Calls Try.prog 10 #[.slice A n c, .int .i64 k] w fun e w' => e = .returned (.tuple #[.int .i64 (wideR s k), .int .i64 (wideE s k)]) ∧ w = w' := by
  have hl := h.lenMap
  have H2 := Lib.hid (fun (g : k < 0 ∨ (n : Int) ≤ k ∨ 16 < n ∨ s.any outX = true) => wideE_yes (s := s) (k := k) (by rw [hl]; exact g))
  by_cases h1 : k < 0
  · obtain ⟨e1, e2⟩ := H2.out (.inl h1)
    rw [e1, e2]
    clear H2 hl
    go_enter Try.func10, Try.ntmps10
    go_wp2
    go_ret2
    exact ⟨rfl, rfl⟩
  by_cases h2 : (n : Int) ≤ k
  · obtain ⟨e1, e2⟩ := H2.out (.inr (.inl h2))
    rw [e1, e2]
    clear H2 hl
    go_enter Try.func10, Try.ntmps10
    go_wp2
    go_ret2
    exact ⟨rfl, rfl⟩
  by_cases h3 : 16 < n
  · obtain ⟨e1, e2⟩ := H2.out (.inr (.inr (.inl h3)))
    rw [e1, e2]
    clear H2 hl
    go_enter Try.func10, Try.ntmps10
    go_wp2
    go_ret2
    exact ⟨rfl, rfl⟩
  have Hs := Lib.hid (areTimes_any A n c s w h hn)
  cases ho : s.any outX with
  | true =>
    obtain ⟨e1, e2⟩ := H2.out (.inr (.inr (.inr ho)))
    rw [e1, e2]
    rw [ho] at Hs
    clear H2 hl ho
    go_enter Try.func10, Try.ntmps10
    go_wp2_with fail
    refine Hs.out.mono ?_
    rintro e w1 ⟨rfl, rfl⟩
    go_wp2
    go_ret2
    exact ⟨rfl, rfl⟩
  | false =>
    rw [ho] at Hs
    have e0 : wideE s k = 0 := wideE_ok.2 ⟨by omega, by omega, by omega, any_out_no.1 ho⟩
    obtain ⟨b1, b2, b3, b4⟩ := wide_bounds e0
    rw [wideR_ok e0, e0]
    obtain ⟨q, rfl⟩ : ∃ q : Nat, k = q := ⟨k.toNat, by omega⟩
    rw [show ((q : Int)).toNat = q by omega] at *
    rw [hl] at b4
    obtain ⟨hs, hr⟩ := ahead_int (k := n - q) h (by omega) hc
    have eg : s.take (n - q) = goodL s q := by rw [goodL, hl]
    rw [eg] at hr
    rw [show ((n - q : Nat) : Int) = (n : Int) - q by omega] at hs
    have K4 := Lib.hid (Min_any A (n - q) c (goodL s q) w hr (by omega) (by omega))
    have K5 := Lib.hid (Max_any A (n - q) c (goodL s q) w hr (by omega) (by omega))
    have Hw : Hid (greatI (goodL s q) - leastI (goodL s q) = wd (goodL s q)) := rfl
    unfold inX at b1 b2
    obtain ⟨b5, b6⟩ := b1
    obtain ⟨b7, b8⟩ := b2
    clear H2 hl ho e0 eg hr b3 b4
    generalize greatI (goodL s q) = hi at *
    generalize leastI (goodL s q) = lo at *
    generalize wd (goodL s q) = R at *
    go_enter Try.func10, Try.ntmps10
    go_wp2_with fail
    refine Hs.out.mono ?_
    rintro e w1 ⟨rfl, rfl⟩
    go_wp2_with fail
    refine K5.out.mono ?_
    rintro e w2 ⟨rfl, rfl⟩
    go_wp2_with fail
    refine K4.out.mono ?_
    rintro e w3 ⟨rfl, rfl⟩
    go_wp2
    go_ret2
    exact ⟨by rw [Hw.out]; rfl, rfl⟩
end Go.Proofs.Ytjimajjmckjflaa
