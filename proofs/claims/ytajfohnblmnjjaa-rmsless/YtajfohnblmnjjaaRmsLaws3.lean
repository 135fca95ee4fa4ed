/-
  The walk of RmsHalf: it returns true, at every argument.
-/
import Derived.Test.YtajfohnblmnjjaaRmsLaws
namespace Go.Proofs.Ytajfohnblmnjjaa
open Go.RowKit
set_option linter.unusedVariables false
set_option maxRecDepth 20000

theorem rd_tk {w : World} {A : Option Addr} {n : Nat} {M : List Tk} (h : RdG tkC 2 w A n M) : RdG tskC 2 w A n (M.map Tk.asT) := by
  show Rd w 2 A n _
  rw [tk_flat]
  exact h
/-- The tasks so far: each period twice the one ahead. -/
structure HalfM (M : List Tk) : Prop where
  pw : ∀ j t, M[j]? = some t → t.p = 2 ^ (j + 1)
  ok : ∀ t ∈ M, t.Ok
theorem HalfM.nil : HalfM [] := ⟨fun j t h => by simp at h, fun t h => by cases h⟩
theorem HalfM.snoc {M : List Tk} {k p c : Nat} (h : HalfM M) (hk : M.length = k) (hp : p = 2 ^ (k + 1)) (c1 : 1 ≤ c) (c2 : c ≤ p) (p2 : p ≤ 10000) : HalfM (M ++ [⟨p, c⟩]) := by
  refine ⟨fun j t hj => ?_, fun t ht => ?_⟩
  · rcases Nat.lt_or_ge j M.length with hl | hl
    · rw [List.getElem?_append_left hl] at hj
      exact h.pw j t hj
    · rw [List.getElem?_append_right hl] at hj
      have hjk : j = M.length := by have := (List.getElem?_eq_some_iff.1 hj).1; simp at this; omega
      rw [hjk, Nat.sub_self] at hj
      injection hj with he
      rw [← he, hjk, hk]
      exact hp
  · rcases List.mem_append.1 ht with ht | ht
    · exact h.ok t ht
    · rw [List.mem_singleton.1 ht]
      exact ⟨c1, c2, p2⟩
theorem HalfM.harm {M : List Tk} (h : HalfM M) : ∀ x ∈ M, ∀ y ∈ M, y.p ≤ x.p → ∃ m, x.p = m * y.p := by
  intro x hx y hy hle
  obtain ⟨i, hi, rfl⟩ := List.getElem_of_mem hx
  obtain ⟨j, hj, rfl⟩ := List.getElem_of_mem hy
  have e1 := h.pw i _ (List.getElem?_eq_getElem hi)
  have e2 := h.pw j _ (List.getElem?_eq_getElem hj)
  rw [e1, e2] at hle ⊢
  have : j + 1 ≤ i + 1 := (Nat.pow_le_pow_iff_right (by decide)).1 hle
  exact ⟨2 ^ (i - j), by rw [← Nat.pow_add]; congr 1; omega⟩
theorem HalfM.good {M : List Tk} (h : HalfM M) (hl : M.length ≤ 16) : GoodK M := ⟨hl, h.ok⟩
/-- Just when it fits. -/
theorem HalfM.iff {M : List Tk} (h : HalfM M) (hl : M.length ≤ 16) : Feas M ↔ useNum M ≤ useDen M := by
  have hg := h.good hl
  rw [use_le_iff hg.pos]
  exact ⟨fun hF => use_of_feas hg.okL hF, fun hu => feas_harmonic hg.okL h.harm hu⟩
theorem pow_bound {k : Nat} (h : 2 ^ k ≤ 10000) : k ≤ 13 := by
  apply Nat.le_of_not_lt
  intro hk
  have : 2 ^ 14 ≤ 2 ^ k := Nat.pow_le_pow_right (by decide) hk
  omega
set_option maxHeartbeats 3200000 in
theorem RmsHalf_walk (A0 : Option Addr) (n0 c0 : Nat) (l0 : List Int) (w : World) (h0 : Rd w 1 A0 n0 (l0.map (Value.int .i64))) (q0 : ∀ x ∈ l0, (Lit.int .i64 x).wf = true) (k0 : n0 ≤ c0) (b0 : c0 * 8 ≤ 140737488351232) :
    Calls Try.prog 7 #[.slice A0 n0 c0] w fun e w' => e = .returned (.bool true) ∧ Below w.heap.size w w' := by
  have C0 := Lib.hid (alive20_any w)
  have C1 := Lib.hid (fun (W : World) (A : Option Addr) (m c : Nat) (M : List Tk) (h : RdG tkC 2 W A m M) (hM : HalfM M) (hl : M.length ≤ 16) => (Use_any A m c (M.map Tk.asT) W (rd_tk h) (by have := RdG.len tkK h; omega)).mono fun e w' hg => hg.good (hM.good hl))
  have C2 := Lib.hid (fun (W : World) (A : Option Addr) (m c : Nat) (M : List Tk) (h : RdG tkC 2 W A m M) (hM : HalfM M) (hl : M.length ≤ 16) => (Fit_any A m c (M.map Tk.asT) W (rd_tk h) (by have := RdG.len tkK h; omega)).mono fun e w' hg => hg.good (hM.good hl))
  have hl0 : l0.length = n0 := by have := h0.1; simpa using this
  clear q0
  go_enter Try.func7, Try.ntmps7
  go_wp2_with fail
  refine C0.out.mono ?_
  rintro e w1 ⟨rfl, hb1⟩
  clear C0
  go_upto_region 6 with fail
  go_loopw [3, 4, 15] (fun v p i wr => ∃ (k : Nat) (M : List Tk), k ≤ n0 ∧ i = .int .i64 k ∧ p = .int .i64 ((2 ^ k : Nat) : Int) ∧ 2 ^ k ≤ 10000 ∧ M.length = k ∧ HalfM M ∧ OwG tkC 2 wr w.heap.size 38 v M ∧ Below w.heap.size w wr) (fun _ _ i _ => n0 - (intOf i).toNat)
  case atStart => exact ⟨0, [], Nat.zero_le _, rfl, rfl, by decide, rfl, HalfM.nil, OwG.nil _ _ _, hb1⟩
  case round =>
    obtain ⟨k, M, hk, rfl, rfl, hpk, hMl, hM, ho, hbl⟩ := hrel
    have HM := Lib.hid hM
    have HL := Lib.hid hMl
    clear hM hMl hb1
    by_cases hlt : k < n0
    · obtain ⟨ad, c, rfl, hx, hc0⟩ := (h0.below hbl).atMap hlt
      have hpw : 2 ^ (k + 1) = 2 ^ k * 2 := Nat.pow_succ _ _
      have hwr : IntKind.i64.wrap (((2 ^ k : Nat) : Int) * 2) = ((2 ^ (k + 1) : Nat) : Int) := by
        rw [hpw, Int.natCast_mul]
        exact IntWalk.i64_in _ (by constructor <;> omega)
      have Hq : Hid (2 ^ (k + 1) = 2 ^ (k + 1)) := rfl
      generalize hqe : 2 ^ (k + 1) = q at *
      generalize 2 ^ k = p at *
      have Hqe := Lib.hid hqe
      clear hqe hx
      by_cases hstop : 10000 < q ∨ c < 1 ∨ (q : Int) < c
      · have hcase : 10000 < q ∨ (¬ 10000 < q ∧ c < 1) ∨ (¬ 10000 < q ∧ ¬ c < 1 ∧ (q : Int) < c) := by omega
        clear hstop
        rcases hcase with h1 | ⟨h1, h2⟩ | ⟨h1, h2, h3⟩
        · have d1 : decide (10000 < q) = true := decide_eq_true h1
          go_wp2
          go_ret
          exact ⟨rfl, hbl⟩
        · have d1 : decide (10000 < q) = false := decide_eq_false h1
          have d2 : decide (c < 1) = true := decide_eq_true h2
          go_wp2
          go_ret
          exact ⟨rfl, hbl⟩
        · have d1 : decide (10000 < q) = false := decide_eq_false h1
          have d2 : decide (c < 1) = false := decide_eq_false h2
          have d3 : decide ((q : Int) < c) = true := decide_eq_true h3
          go_wp2
          go_ret
          exact ⟨rfl, hbl⟩
      · obtain ⟨t, rfl⟩ : ∃ t : Nat, c = t := ⟨c.toNat, by omega⟩
        have h1 : ¬ 10000 < q := by omega
        have h2 : ¬ t < 1 := by omega
        have h3 : ¬ q < t := by omega
        have d1 : decide (10000 < q) = false := decide_eq_false h1
        have d2 : decide (t < 1) = false := decide_eq_false h2
        have d3 : decide (q < t) = false := decide_eq_false h3
        have HN : Hid (HalfM (M ++ [⟨q, t⟩])) := HM.out.snoc HL.out Hqe.out.symm (by omega) (by omega) (by omega)
        have hk13 := pow_bound (k := k + 1) (by rw [Hqe.out]; omega)
        have hsz := hbl.size
        clear hstop hpw
        go_wp2_with (at_builtin; go_must (refine wpList_apG tkK _ elTask rfl rfl w.heap.size _ M rfl (ho.alloc _) _ 1 1 [(⟨q, t⟩ : Tk)] rfl (Rd.litFlat tkK.len [(⟨q, t⟩ : Tk)] _ rfl) (by simp; omega) (by have := HL.out; omega) (by have := HL.out; omega) ?_; intro v9 w9 ho9 hm9; have HB := Lib.hid (hm9.below (hbl.alloc hsz _) (by simp; omega) (fun k hk => ho.block k hk))))
        go_roundw
        case rel => exact ⟨k + 1, M ++ [⟨q, t⟩], by omega, by go_num, by rw [Hqe.out], by rw [Hqe.out]; omega, by rw [List.length_append, HL.out]; rfl, HN.out, ho9, HB.out⟩
        case measure => simp [intOf] <;> omega
    · have hk13 := pow_bound hpk
      obtain ⟨A2, c2, rfl, hc2, _, hr⟩ := ho.formN (n := M.length) rfl
      have Hl16 : M.length ≤ 16 := by have := HL.out; omega
      have HI := Lib.hid (HM.out.iff Hl16)
      have X1 := Lib.hid (C1.out wr A2 M.length c2 M hr HM.out Hl16)
      have X2 := Lib.hid (fun (W : World) (hW : Below wr.heap.size wr W) => C2.out W A2 M.length c2 M (Rd.below hr hW) HM.out Hl16)
      clear C1 C2 ho hr
      go_wp2_with fail
      refine X1.out.mono ?_
      rintro e w2 ⟨a, b, x, rfl, hu, hb2⟩
      have hB2 := bthen hbl hb2
      have hs2 : Below wr.heap.size wr w2 := hb2
      clear X1
      go_upto_region 14 with fail
      have hbx := Box.new w2 24 [.int .i64 a, .int .i64 b]
      have hB3 := bthen hB2 (below_one (w := w2) (.cells #[.int .i64 a, .int .i64 b] 24))
      have hs3 := bthen hs2 (below_one (w := w2) (.cells #[.int .i64 a, .int .i64 b] 24))
      replace hbx : Box (w2.alloc (.cells #[.int .i64 a, .int .i64 b] 24)) w2.heap.size 24 [.int .i64 a, .int .i64 b] := hbx
      clear hB2 hs2 hb2
      generalize w2.alloc (.cells #[.int .i64 a, .int .i64 b] 24) = w3 at *
      generalize w2.heap.size = bx at *
      go_wp2_with fail
      refine (X2.out _ hs3).mono ?_
      rintro e w4 ⟨y, rfl, hf, hb4⟩
      have hbx4 := hbx.below hb4 hbx.lt
      have c0' := hbx4.cell 0 rfl
      have c1' := hbx4.cell 1 rfl
      have HY : Hid (y = true ↔ useNum M ≤ useDen M) := by
        have h1 := hf.out
        have h2 := HI.out
        exact ⟨fun h => h2.1 (h1.1 h), fun h => h1.2 (h2.2 h)⟩
      have HUs := Lib.hid hu.out
      clear X2 hf hu HI hbx hs3
      rcases HUs.out with ⟨_, rfl, rfl, rfl⟩ | ⟨_, rfl, rfl, rfl⟩
      · go_wp2
        go_ret
        exact ⟨rfl, bthen hB3 hb4⟩
      · have hdec : decide (useNum M ≤ useDen M) = y := by
          cases y
          · exact decide_eq_false (fun h => by have := HY.out.2 h; cases this)
          · exact decide_eq_true (HY.out.1 rfl)
        clear HUs HY
        go_wp2
        go_ret
        exact ⟨ret_bool (by simp), bthen hB3 hb4⟩
end Go.Proofs.Ytajfohnblmnjjaa
