/-
  Contracts of the reference's SEnd and SRun.
-/
import Derived.Test.YtajfohnblmnjjaaJ4
namespace Go.Proofs.Ytajfohnblmnjjaa
open Go.RowKit
set_option linter.unusedVariables false

/-- The least end as a number; below 0: none. -/
def EndNum (pre : List Tk) (t : Tk) (x : Int) : Prop := (∃ r : Nat, x = r ∧ EndIs pre t r) ∨ (x = -1 ∧ NoEnd pre t)
theorem up_parts {r p : Nat} (hp : 0 < p) : up r p = r / p + if 0 < r % p then 1 else 0 := by
  have h := up_next (n := r) hp
  rw [up_succ hp] at h
  by_cases hz : r % p = 0
  · rw [if_pos hz] at h
    rw [if_neg (by omega)]
    omega
  · rw [if_neg hz] at h
    rw [if_pos (by omega)]
    omega
set_option maxRecDepth 20000 in
set_option maxHeartbeats 1600000 in
theorem SEnd_any (A : Option Addr) (n c : Nat) (M : List Tk) (hM : GoodK M) (k p t : Nat) (hk : M[k]? = some ⟨p, t⟩) (w : World) (h : RdG tkC 2 w A n M) (hc : n ≤ c) :
    Calls Try.prog 16 #[.slice A n c, .int .i64 (k : Int)] w fun e w' => ∃ x : Int, e = .returned (.int .i64 x) ∧ Hid (EndNum (M.take k) ⟨p, t⟩ x) ∧ -1 ≤ x ∧ x ≤ 10000 ∧ Below w.heap.size w w' := by
  have Hl := Lib.hid (RdG.len tkK h)
  have hkn : k < n := by have := (List.getElem?_eq_some_iff.1 hk).1; rw [Hl.out] at this; exact this
  obtain ⟨h1, h2, h3⟩ := hM.at_ hk
  simp only at h1 h2 h3
  have HM := Lib.hid hM
  have HK := Lib.hid hk
  have hn16 : n ≤ 16 := by have := hM.len; rw [Hl.out] at this; exact this
  have hto := fun W => run_to (P := Try.prog) elTask W A n c k (by omega)
  clear hM hk
  have HC : Hid (∀ W, Below w.heap.size w W → ∃ ad, A = some ad ∧ W.cell? (ad.add (k * 2)) = some (.int .i64 (p : Int)) ∧ W.cell? ⟨(ad.add (k * 2)).block, (ad.add (k * 2)).off + 1, none⟩ = some (.int .i64 (t : Int))) := fun W hW => by
    obtain ⟨ad, p', t', e, hx, a1, a2⟩ := tk_at (h.below hW) hkn
    rw [HK.out] at hx
    cases hx
    exact ⟨ad, e, a1, a2⟩
  obtain ⟨ad, rfl, hc0, hc1⟩ := HC.out w (Below.refl _ _)
  replace HC : Hid (∀ W, Below w.heap.size w W → W.cell? (ad.add (k * 2)) = some (.int .i64 (p : Int)) ∧ W.cell? ⟨(ad.add (k * 2)).block, (ad.add (k * 2)).off + 1, none⟩ = some (.int .i64 (t : Int))) := fun W hW => by
    obtain ⟨ad', e, a1, a2⟩ := HC.out W hW
    cases e
    exact ⟨a1, a2⟩
  go_enter Try.func16, Try.ntmps16
  go_wp2
  go_loopw [5] (fun v wr => ∃ r : Nat, v = .int .i64 r ∧ r ≤ 10001 ∧ Hid (Seek (M.take k) ⟨p, t⟩ r) ∧ Below w.heap.size w wr) (fun v _ => 10002 - (intOf v).toNat)
  case atStart => exact ⟨t, rfl, by omega, Seek.start _ _, Below.refl _ _⟩
  case round =>
    obtain ⟨r, rfl, hr, HS, hbl⟩ := hrel
    clear hc0 hc1
    obtain ⟨hc0, hc1⟩ := HC.out wr hbl
    by_cases hle : r ≤ p
    · go_wp2
      go_loopw [6, 33] (fun v i wi => ∃ (j s : Nat), j ≤ k ∧ i = .int .i64 j ∧ v = .int .i64 s ∧ s = t + need (M.take j) r ∧ Below wr.heap.size wr wi) (fun _ i _ => k - (intOf i).toNat)
      case atStart => exact ⟨0, t, Nat.zero_le _, rfl, rfl, by simp [need], Below.refl _ _⟩
      case round =>
        obtain ⟨j, s, hj, rfl, rfl, hacc, hbi⟩ := hrel
        have Hacc := Lib.hid hacc
        have hs : s ≤ 500000 := by have := (HM.out.take j).need (r := r) (by omega); omega
        clear hacc
        by_cases hlt : j < k
        · obtain ⟨ad', q, u, had, hx, d0, d1⟩ := tk_at (h.below (bthen hbl hbi)) (show j < n by omega)
          cases had
          obtain ⟨g1, g2, g3⟩ := HM.out.at_ hx
          simp only at g1 g2 g3
          have Hx : Hid (need (M.take (j + 1)) r = need (M.take j) r + up r q * u) := need_snoc hx r
          have hz := one_size (t := ⟨q, u⟩) ⟨g1, g2, g3⟩ r
          simp only at hz
          have hup := up_parts (r := r) (show 0 < q by omega)
          have hmod : (r : Int) % (q : Int) = ((r % q : Nat) : Int) := (Int.natCast_emod _ _).symm
          have hdiv : (r : Int) / (q : Int) = ((r / q : Nat) : Int) := (Int.natCast_ediv _ _).symm
          have hdl := Nat.div_le_self r q
          by_cases hpos : 0 < r % q
          · rw [if_pos hpos] at hup
            have hm : (((r / q : Nat) : Int) + 1) * (u : Int) = ((up r q * u : Nat) : Int) := by rw [hup]; simp
            clear hx hup
            generalize up r q * u = X at *
            generalize r / q = m at *
            generalize r % q = z at *
            have hd : decide (0 < z) = true := decide_eq_true hpos
            go_wp2
            go_roundw
            case rel => exact ⟨j + 1, s + X, by omega, by go_num, by go_num, by rw [Hx.out, Hacc.out]; omega, hbi.alloc hbi.size _⟩
            case measure => simp [intOf] <;> omega
          · rw [if_neg hpos] at hup
            have hm : ((r / q : Nat) : Int) * (u : Int) = ((up r q * u : Nat) : Int) := by rw [hup]; simp
            clear hx hup
            generalize up r q * u = X at *
            generalize r / q = m at *
            generalize r % q = z at *
            have hz0 : z = 0 := by omega
            subst hz0
            go_wp2
            go_roundw
            case rel => exact ⟨j + 1, s + X, by omega, by go_num, by go_num, by rw [Hx.out, Hacc.out]; omega, hbi.alloc hbi.size _⟩
            case measure => simp [intOf] <;> omega
        · obtain rfl : j = k := by omega
          by_cases he : s = r
          · have HE : Hid (EndIs (M.take j) ⟨p, t⟩ r) := HS.out.done (by simp only; rw [← Hacc.out]; exact he) hle
            subst he
            go_wp2
            go_ret
            exact ⟨_, rfl, .inl ⟨s, rfl, HE.out⟩, by omega, by omega, bthen hbl hbi⟩
          · have hne : ((s : Int) == (r : Int)) = false := by simp; omega
            have HN : Hid (Seek (M.take j) ⟨p, t⟩ (r + 1)) := HS.out.succ (by simp only; rw [← Hacc.out]; exact he)
            clear he
            go_wp2
            go_roundw
            case rel => exact ⟨r + 1, by go_num, by omega, HN, bthen hbl hbi⟩
            case measure => simp [intOf] <;> omega
    · go_wp2
      go_ret
      exact ⟨-1, rfl, .inr ⟨rfl, HS.out.none (by simp only; omega)⟩, by omega, by omega, hbl⟩
end Go.Proofs.Ytajfohnblmnjjaa
