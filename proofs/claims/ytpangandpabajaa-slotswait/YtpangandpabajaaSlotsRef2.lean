/-
  Contracts of the reference's functions IWho, INext, at schedules that are right.
-/
import Derived.Test.YtpangandpabajaaSlotsWalks2
namespace Go.Proofs.Ytpangandpabajaa
open Go.RowKit
set_option linter.unusedVariables false

def iwhoM (a : Int) (L : List Slt) : Int := match whoAt a L with | some x => x | none => -1
theorem iwho_some {a x : Int} {L : List Slt} (h : whoAt a L = some x) : iwhoM a L = x := by rw [iwhoM, h]
theorem iwho_none {a : Int} {L : List Slt} (h : whoAt a L = none) : iwhoM a L = -1 := by rw [iwhoM, h]

set_option maxHeartbeats 800000 in
theorem IWho_any (P : Int) (A : Option Addr) (n c : Nat) (L : List Slt) (t : Int) (t0 : 0 ≤ t) (t1 : t ≤ 1099511627776) (hR : rightM P L = true) (w : World) (h : RdS w A n L) :
    Calls Try.prog 14 #[.int .i64 P, .slice A n c, .int .i64 t] w fun e w' => e = .returned (.int .i64 (iwhoM (t % P) L)) ∧ Below w.heap.size w w' := by
  have Hl := Lib.hid h.lenS
  obtain ⟨⟨hp1, hp2, hn4⟩, hr⟩ := rightM_true.1 hR
  have hn : n ≤ 400 := by have := Hl.out; omega
  have Hr := Lib.hid hr
  have r0 := Int.emod_nonneg t (show P ≠ 0 by omega)
  have r1 := Int.emod_lt_of_pos t (show 0 < P by omega)
  have hrem := rem_pos (P := P) t0
  clear hR hr hn4
  generalize t % P = r at r0 r1 hrem ⊢
  go_enter Try.func14, Try.ntmps14
  go_wp2
  go_loopw [12] (fun i wr => ∃ (k : Nat), k ≤ n ∧ i = .int .i64 k ∧ whoAt r L = whoAt r (L.drop k) ∧ Below w.heap.size w wr) (fun i _ => n - (intOf i).toNat)
  case atStart => exact ⟨0, Nat.zero_le _, rfl, rfl, Below.refl _ _⟩
  case round =>
    obtain ⟨k, hk, rfl, hacc, hbl⟩ := hrel
    have Hacc := Lib.hid hacc; clear hacc
    by_cases hlt : k < n
    · obtain ⟨ad, nd, fr, lg, rfl, hx, hc0, hc1, hc2⟩ := (h.below hbl).atS hlt
      have Hx := Lib.hid (drop_cell hx)
      obtain ⟨_, _, q3, q4, q5⟩ := right_mem Hr.out (List.mem_of_getElem? hx)
      simp only at q3 q4 q5
      clear hx
      by_cases h1 : fr ≤ r
      · by_cases h2 : r < fr + lg
        · have Hw : Hid (whoAt r L = some nd) := by show _ = _; rw [Hacc.out, Hx.out, whoAt, if_pos ⟨h1, h2⟩]
          go_wp2
          go_quiet (fail)
          go_wp2
          go_ret
          exact ⟨ret_int (iwho_some Hw.out).symm, bthen (hbl.alloc hbl.size _) (below_draws ⟨_, rfl⟩)⟩
        · have Hw : Hid (whoAt r L = whoAt r (L.drop (k + 1))) := by show _ = _; rw [Hacc.out, Hx.out, whoAt, if_neg (by simp only; omega)]
          go_wp2
          go_quiet (fail)
          go_wp2
          go_roundw
          case rel => exact ⟨k + 1, by omega, by go_num, Hw.out, bthen (hbl.alloc hbl.size _) (below_draws ⟨_, rfl⟩)⟩
          case measure => simp [intOf] <;> omega
      · have Hw : Hid (whoAt r L = whoAt r (L.drop (k + 1))) := by show _ = _; rw [Hacc.out, Hx.out, whoAt, if_neg (by simp only; omega)]
        go_wp2
        go_quiet (fail)
        go_wp2
        go_roundw
        case rel => exact ⟨k + 1, by omega, by go_num, Hw.out, bthen (hbl.alloc hbl.size _) (below_draws ⟨_, rfl⟩)⟩
        case measure => simp [intOf] <;> omega
    · obtain rfl : k = n := by omega
      have Hw : Hid (whoAt r L = none) := by show _ = _; rw [Hacc.out, List.drop_eq_nil_of_le (by rw [Hl.out]; exact Nat.le_refl _)]; rfl
      go_wp2
      go_ret
      exact ⟨ret_int (iwho_none Hw.out).symm, hbl⟩

def inextM (P node t : Int) (best : Int) : List Slt → Int
  | [] => best
  | s :: r => inextM P node t (if s.nd = node then (if best < 0 ∨ nx P t s.fr < best then nx P t s.fr else best) else best) r
theorem rem_both {P : Int} (d : Int) (hP : 1 ≤ P) : -P < d.tmod P ∧ d.tmod P < P ∧ (d.tmod P + P).tmod P = d % P := by
  have h1 : d.tmod P < P := Int.tmod_lt_of_pos d (by omega)
  have h2 : -P < d.tmod P := by
    have := Int.tmod_lt_of_pos (-d) (show 0 < P by omega)
    rw [Int.neg_tmod] at this
    omega
  refine ⟨h2, h1, ?_⟩
  rw [Int.tmod_eq_emod_of_nonneg (by omega), Int.add_emod_right]
  have h3 : d.tmod P = d + P * (-(d.tdiv P)) := by have := Int.tmod_add_mul_tdiv d P; rw [Int.mul_neg]; omega
  rw [h3, Int.add_mul_emod_self_left]

set_option maxHeartbeats 800000 in
theorem INext_any (P : Int) (A : Option Addr) (n c : Nat) (L : List Slt) (node t : Int) (t0 : 0 ≤ t) (t1 : t ≤ 1099511627776) (hR : rightM P L = true) (w : World) (h : RdS w A n L) :
    Calls Try.prog 15 #[.int .i64 P, .slice A n c, .int .i64 node, .int .i64 t] w fun e w' => e = .returned (.int .i64 (inextM P node t (-1) L)) ∧ Below w.heap.size w w' := by
  have Hl := Lib.hid h.lenS
  obtain ⟨⟨hp1, hp2, hn4⟩, hr⟩ := rightM_true.1 hR
  have hn : n ≤ 400 := by have := Hl.out; omega
  have Hr := Lib.hid hr
  clear hR hr hn4
  go_enter Try.func15, Try.ntmps15
  go_wp2
  go_loopw [9, 15] (fun v i wr => ∃ (k : Nat) (b : Int), k ≤ n ∧ i = .int .i64 k ∧ v = .int .i64 b ∧ -1 ≤ b ∧ b ≤ t + P ∧ inextM P node t (-1) L = inextM P node t b (L.drop k) ∧ Below w.heap.size w wr) (fun _ i _ => n - (intOf i).toNat)
  case atStart => exact ⟨0, -1, Nat.zero_le _, rfl, rfl, Int.le_refl _, by omega, rfl, Below.refl _ _⟩
  case round =>
    obtain ⟨k, b, hk, rfl, rfl, b0, b1, hacc, hbl⟩ := hrel
    have Hacc := Lib.hid hacc; clear hacc
    by_cases hlt : k < n
    · obtain ⟨ad, nd, fr, lg, rfl, hx, hc0, hc1, hc2⟩ := (h.below hbl).atS hlt
      have Hx := Lib.hid (drop_cell hx)
      obtain ⟨_, _, q3, q4, q5⟩ := right_mem Hr.out (List.mem_of_getElem? hx)
      simp only at q3 q4 q5
      clear hx
      by_cases h1 : nd = node
      · obtain ⟨m1, m2, m3⟩ := rem_both (fr - t) hp1
        obtain ⟨m4, m5⟩ := nx_range (f := fr) t hp1
        have Hy : Hid (inextM P node t (-1) L = inextM P node t (if b < 0 ∨ nx P t fr < b then nx P t fr else b) (L.drop (k + 1))) := by show _ = _; rw [Hacc.out, Hx.out, inextM, if_pos h1]
        have Hnx : Hid (nx P t fr = t + (fr - t) % P) := by show _ = _; rfl
        unfold nx at m4 m5
        generalize (fr - t) % P = q at m3 m4 m5 Hnx
        by_cases h2 : b < 0
        · go_wp2
          go_roundw
          case rel => exact ⟨k + 1, t + q, by omega, by go_num, by go_num, by omega, by omega, by rw [Hy.out, if_pos (.inl h2), Hnx.out], hbl.alloc hbl.size _⟩
          case measure => simp [intOf] <;> omega
        · by_cases h3 : t + q < b
          · go_wp2
            go_roundw
            case rel => exact ⟨k + 1, t + q, by omega, by go_num, by go_num, by omega, by omega, by rw [Hy.out, Hnx.out, if_pos (.inr h3)], hbl.alloc hbl.size _⟩
            case measure => simp [intOf] <;> omega
          · go_wp2
            go_roundw
            case rel => exact ⟨k + 1, b, by omega, by go_num, by go_num, by omega, by omega, by rw [Hy.out, Hnx.out, if_neg (by omega)], hbl.alloc hbl.size _⟩
            case measure => simp [intOf] <;> omega
      · have Hy : Hid (inextM P node t (-1) L = inextM P node t b (L.drop (k + 1))) := by show _ = _; rw [Hacc.out, Hx.out, inextM, if_neg h1]
        go_wp2
        go_roundw
        case rel => exact ⟨k + 1, b, by omega, by go_num, rfl, by omega, by omega, Hy.out, hbl.alloc hbl.size _⟩
        case measure => simp [intOf] <;> omega
    · obtain rfl : k = n := by omega
      have Hw : Hid (inextM P node t (-1) L = b) := by show _ = _; rw [Hacc.out, List.drop_eq_nil_of_le (by rw [Hl.out]; exact Nat.le_refl _)]; rfl
      go_wp2
      go_ret
      exact ⟨ret_int Hw.out.symm, hbl⟩
end Go.Proofs.Ytpangandpabajaa
