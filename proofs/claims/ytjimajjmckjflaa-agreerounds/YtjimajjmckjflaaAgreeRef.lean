/-
  Contracts of the reference's MWrong and MRound.
-/
import Derived.Test.YtjimajjmckjflaaFtaRef
import Derived.Test.YtjimajjmckjflaaAgreeWalks2
import Derived.Test.YtjimajjmckjflaaSlicesF
namespace Go.Proofs.Ytjimajjmckjflaa
open Go.RowKit
set_option linter.unusedVariables false

theorem far_any (x : Int) (w : World) : Calls Try.prog 24 #[.int .i64 x] w fun e w' => e = .returned (.bool (outX x)) ∧ w = w' := by
  by_cases x1 : 1099511627776 < x
  · have Ho : Hid (outX x = true) := by show _ = _; simp [outX, x1]
    go_enter Try.func24, Try.ntmps24
    go_wp2
    go_ret
    exact ⟨ret_bool Ho.out.symm, rfl⟩
  · by_cases x2 : x < -1099511627776
    · have Ho : Hid (outX x = true) := by show _ = _; simp [outX, x2]
      go_enter Try.func24, Try.ntmps24
      go_wp2
      go_ret
      exact ⟨ret_bool (by rw [Ho.out]), rfl⟩
    · have Ho : Hid (outX x = false) := by show _ = _; simp [outX]; omega
      go_enter Try.func24, Try.ntmps24
      go_wp2
      go_ret
      exact ⟨ret_bool (by rw [Ho.out]), rfl⟩

set_option maxHeartbeats 1600000 in
theorem MWrong_any (A : Option Addr) (n c : Nat) (s : List Int) (k : Int) (B : Option Addr) (m d : Nat) (L : List (Option Addr × Nat × Nat × List Int)) (w : World) (h : Rd w 1 A n (s.map (Value.int .i64))) (hn : n ≤ 4611686018427387904)
    (hB : Rd w 1 B m (L.map rowV)) (hL : RdRows w L) (hm : m ≤ 4611686018427387904) :
    Calls Try.prog 11 #[.slice A n c, .int .i64 k, .slice B m d] w fun e w' => e = .returned (.int .i64 (wrongA s k (lists L))) ∧ w = w' := by
  have hl := h.lenMap
  have hlL : (lists L).length = m := by rw [lists, List.length_map, hB.lenMap]
  have H2 := Lib.hid (fun (g : n = 0 ∨ 16 < n ∨ k < 0 ∨ 16 < k) => wrongA_2 (s := s) (k := k) (L := lists L) (by rw [hl]; exact g))
  have H8 := Lib.hid (fun (g : ¬ (n = 0 ∨ 16 < n ∨ k < 0 ∨ 16 < k)) (g8 : (n : Int) ≤ 3 * k) => wrongA_8 (s := s) (k := k) (L := lists L) (by rw [hl]; exact g) (by rw [hl]; exact g8))
  have H1 := Lib.hid (fun (g : ¬ (n = 0 ∨ 16 < n ∨ k < 0 ∨ 16 < k)) (g8 : ¬ (n : Int) ≤ 3 * k) (g1 : ¬ m = n) => wrongA_1 (s := s) (k := k) (L := lists L) (by rw [hl]; exact g) (by rw [hl]; exact g8) (by rw [hl, hlL]; exact g1))
  have HR := Lib.hid (fun (g : ¬ (n = 0 ∨ 16 < n ∨ k < 0 ∨ 16 < k)) (g8 : ¬ (n : Int) ≤ 3 * k) (g1 : m = n) => wrongA_rows (s := s) (k := k) (L := lists L) (by rw [hl]; exact g) (by rw [hl]; exact g8) (by rw [hl, hlL]; exact g1))
  have Hd : Hid (∀ j, m ≤ j → (lists L).drop j = []) := fun j hj => List.drop_eq_nil_of_le (by rw [hlL]; exact hj)
  have Hrow : Hid (∀ (j : Nat) p, L[j]? = some p → (lists L).drop j = p.2.2.2 :: (lists L).drop (j + 1)) := fun j p hp => drop_cons (by rw [lists, List.getElem?_map, hp]; rfl)
  have HL := Lib.hid hL
  have Hl := Lib.hid hl
  clear hl hlL hL
  generalize wrongA s k (lists L) = R at *
  by_cases h1 : n = 0
  · have e := H2.out (.inl h1)
    subst e h1
    go_enter Try.func11, Try.ntmps11
    go_wp2
    go_ret
    exact ⟨rfl, rfl⟩
  have hne : ((n : Int) == 0) = false := by simpa using (show ¬ (n : Int) = 0 by omega)
  by_cases h2 : 16 < n
  · have e := H2.out (.inr (.inl h2))
    subst e
    go_enter Try.func11, Try.ntmps11
    go_wp2
    go_ret
    exact ⟨rfl, rfl⟩
  by_cases h3 : k < 0
  · have e := H2.out (.inr (.inr (.inl h3)))
    subst e
    go_enter Try.func11, Try.ntmps11
    go_wp2
    go_ret
    exact ⟨rfl, rfl⟩
  by_cases h4 : 16 < k
  · have e := H2.out (.inr (.inr (.inr h4)))
    subst e
    go_enter Try.func11, Try.ntmps11
    go_wp2
    go_ret
    exact ⟨rfl, rfl⟩
  by_cases h5 : (n : Int) ≤ 3 * k
  · have e := H8.out (by omega) h5
    subst e
    go_enter Try.func11, Try.ntmps11
    go_wp2
    go_ret
    exact ⟨rfl, rfl⟩
  by_cases h6 : ¬ m = n
  · have e := H1.out (by omega) h5 h6
    have hne2 : ((m : Int) != (n : Int)) = true := by simpa using (show ¬ (m : Int) = n by omega)
    subst e
    clear h6
    go_enter Try.func11, Try.ntmps11
    go_wp2
    go_ret
    exact ⟨rfl, rfl⟩
  have h6' : m = n := Classical.not_not.1 h6
  clear h6
  subst h6'
  have Hz := Lib.hid (HR.out (by omega) h5 rfl)
  clear H2 H8 H1 HR
  have Hz0 : Hid (s.any outX = false → (if s.any outX = true then (2 : Int) else 0) = 0) := fun e => by rw [e]; rfl
  have Hz2 : Hid (s.any outX = true → (if s.any outX = true then (2 : Int) else 0) = 2) := fun e => by rw [e]; rfl
  generalize (if s.any outX = true then (2 : Int) else 0) = z at *
  go_enter Try.func11, Try.ntmps11
  go_wp2
  go_loop [42] (fun i => ∃ j : Nat, j ≤ m ∧ i = .int .i64 j ∧ Hid (R = rowsW k ((lists L).drop j) z)) (fun i => m - (intOf i).toNat)
  case atStart => exact ⟨0, Nat.zero_le _, rfl, by show _ = _; rw [Hz.out, List.drop_zero]⟩
  case round =>
    clear Hz
    obtain ⟨j, hj, rfl, HRj⟩ := hrel
    by_cases hlt : j < m
    · obtain ⟨ad, ⟨Ar, nr, cr, r⟩, rfl, hp, hc⟩ := hB.atMap hlt
      change w.cell? (ad.add j) = some (.slice Ar nr cr) at hc
      obtain ⟨hr, hnr, hcr⟩ := HL.out _ (List.mem_of_getElem? hp)
      simp only at hr hnr hcr
      have hlr := hr.lenMap
      have Hp : Hid ((lists L).drop j = r :: (lists L).drop (j + 1)) := Hrow.out j _ hp
      have e := HRj.out
      rw [Hp.out] at e
      have Ha : Hid (¬ (nr : Int) = k → R = 1) := fun g => e.trans (rowsW_short (by rw [hlr]; exact g))
      have Hb : Hid ((nr : Int) = k → r.any outX = true → R = 2) := fun g g2 => e.trans (rowsW_out (by rw [hlr]; exact g) g2)
      have Hc : Hid ((nr : Int) = k → r.any outX = false → R = rowsW k ((lists L).drop (j + 1)) z) := fun g g2 => e.trans (rowsW_next (by rw [hlr]; exact g) g2)
      have Hlr := Lib.hid hlr
      clear e hlr hp HRj Hp
      by_cases hk : ¬ (nr : Int) = k
      · have hne2 : ((nr : Int) != k) = true := by simpa using hk
        have e := Ha.out hk
        subst e
        clear hk
        go_wp2
        go_ret
        exact ⟨rfl, rfl⟩
      have hk' := Classical.not_not.1 hk
      clear hk
      subst hk'
      replace Hb : Hid (r.any outX = true → R = 2) := Hb.out rfl
      replace Hc : Hid (r.any outX = false → R = rowsW nr ((lists L).drop (j + 1)) z) := Hc.out rfl
      clear Ha
      go_wp2
      go_loop [52] (fun i => ∃ a : Nat, a ≤ nr ∧ i = .int .i64 a ∧ Hid ((r.take a).any outX = false)) (fun i => nr - (intOf i).toNat)
      case atStart => exact ⟨0, Nat.zero_le _, rfl, by show _ = _; simp⟩
      case round =>
        obtain ⟨a, ha, rfl, Hni⟩ := hrel
        by_cases hlt2 : a < nr
        · obtain ⟨ad2, x, rfl, hx, hcx⟩ := hr.atMap hlt2
          have Hx := Lib.hid hx
          have HF := Lib.hid (far_any x w)
          clear hx
          cases ho : outX x with
          | true =>
            rw [ho] at HF
            have e := Hb.out (List.any_eq_true.2 ⟨x, List.mem_of_getElem? Hx.out, ho⟩)
            subst e
            clear ho
            go_wp2_with fail
            refine HF.out.mono ?_
            rintro e w1 ⟨rfl, rfl⟩
            go_wp2
            go_ret
            exact ⟨rfl, rfl⟩
          | false =>
            rw [ho] at HF
            have Hn1 : Hid ((r.take (a + 1)).any outX = false) := by show _ = _; rw [take_snoc Hx.out, List.any_append, Hni.out]; simp [ho]
            clear ho
            go_wp2_with fail
            refine HF.out.mono ?_
            rintro e w1 ⟨rfl, rfl⟩
            go_wp2
            go_round
            case rel => exact ⟨a + 1, by omega, by go_num, Hn1.out⟩
            case measure => simp [intOf] <;> omega
        · have HR1 := Lib.hid (Hc.out (by
            have e := Hni.out
            rwa [List.take_of_length_le (by rw [Hlr.out]; omega)] at e))
          go_wp2
          go_round
          case rel => exact ⟨j + 1, by omega, by go_num, HR1.out⟩
          case measure => simp [intOf] <;> omega
    · have Hfin : Hid (R = z) := by
        have e := HRj.out
        rw [Hd.out j (by omega)] at e
        exact e
      clear HRj
      go_wp2
      go_loop [63] (fun i => ∃ a : Nat, a ≤ m ∧ i = .int .i64 a ∧ Hid ((s.take a).any outX = false)) (fun i => m - (intOf i).toNat)
      case atStart => exact ⟨0, Nat.zero_le _, rfl, by show _ = _; simp⟩
      case round =>
        obtain ⟨a, ha, rfl, Hni⟩ := hrel
        by_cases hlt2 : a < m
        · obtain ⟨ad2, x, rfl, hx, hcx⟩ := h.atMap hlt2
          have Hx := Lib.hid hx
          have HF := Lib.hid (far_any x w)
          clear hx
          cases ho : outX x with
          | true =>
            rw [ho] at HF
            have e := Hfin.out.trans (Hz2.out (List.any_eq_true.2 ⟨x, List.mem_of_getElem? Hx.out, ho⟩))
            subst e
            clear ho
            go_wp2_with fail
            refine HF.out.mono ?_
            rintro e w1 ⟨rfl, rfl⟩
            go_wp2
            go_ret
            exact ⟨rfl, rfl⟩
          | false =>
            rw [ho] at HF
            have Hn1 : Hid ((s.take (a + 1)).any outX = false) := by show _ = _; rw [take_snoc Hx.out, List.any_append, Hni.out]; simp [ho]
            clear ho
            go_wp2_with fail
            refine HF.out.mono ?_
            rintro e w1 ⟨rfl, rfl⟩
            go_wp2
            go_round
            case rel => exact ⟨a + 1, by omega, by go_num, Hn1.out⟩
            case measure => simp [intOf] <;> omega
        · have e := Hfin.out.trans (Hz0.out (by
            have e := Hni.out
            rwa [List.take_of_length_le (by rw [Hl.out]; omega)] at e))
          subst e
          go_wp2
          go_ret
          exact ⟨rfl, rfl⟩
end Go.Proofs.Ytjimajjmckjflaa
