/-
  Contracts of plan's functions: Wrong, Load, firstFree, take. No statement of the seat is here.
-/
import Derived.Test.YtgkdjdckdomnmaaPlanMath
import Derived.Test.YtgkdjdckdomnmaaTypes
import Derived.Test.YtgkdjdckdomnmaaSlices
import Derived.Test.YtgkdjdckdomnmaaBox
namespace Go.Proofs.Ytgkdjdckdomnmaa
open Go.RowKit
set_option linter.unusedVariables false

def in64 (x : Int) : Prop := -9223372036854775808 ≤ x ∧ x ≤ 9223372036854775807
def in64s (l : List Int) : Prop := ∀ x ∈ l, in64 x

theorem jwrongF_range {p : Int} {r : List Int} (h : p < 1 ∨ p > 64) : jwrongF (p :: r) = 2 := by rw [jwrongF, if_pos h]
theorem jwrongF_form {p : Int} {r : List Int} (h1 : 1 ≤ p) (h2 : p ≤ 64) (h : ¬ 64 % p = 0) : jwrongF (p :: r) = 1 := by rw [jwrongF, if_neg (by omega), if_neg h]
theorem jwrongF_next {p : Int} {r : List Int} (h1 : 1 ≤ p) (h2 : p ≤ 64) (h : 64 % p = 0) : jwrongF (p :: r) = jwrongF r := by rw [jwrongF, if_neg (by omega), if_pos h]

set_option maxHeartbeats 400000 in
theorem Wrong_any (A : Option Addr) (n c : Nat) (l : List Int) (w : World) (h : Rd w 1 A n (l.map (Value.int .i64))) (hL : in64s l) (hn : n ≤ 140737488355328) :
    Calls Try.prog 12 #[.slice A n c] w fun e w' => e = .returned (.int .i64 (jwrong l)) ∧ w = w' := by
  have Hl := Lib.hid h.lenMap
  by_cases h4 : 400 < n
  · have HR : Hid (jwrong l = 2) := by show _ = _; rw [jwrong, if_pos (by rw [Hl.out]; omega)]
    go_enter Try.func12, Try.ntmps12
    go_wp2
    go_ret
    exact ⟨ret_int HR.out.symm, rfl⟩
  · have HR : Hid (jwrong l = jwrongF l) := by show _ = _; rw [jwrong, if_neg (by rw [Hl.out]; omega)]
    go_enter Try.func12, Try.ntmps12
    go_wp2
    go_loop [10] (fun i => ∃ (k : Nat), k ≤ n ∧ i = .int .i64 k ∧ jwrongF (l.drop k) = jwrongF l) (fun i => n - (intOf i).toNat)
    case atStart => exact ⟨0, Nat.zero_le _, rfl, rfl⟩
    case round =>
      obtain ⟨k, hk, rfl, hacc⟩ := hrel
      have Hacc := Lib.hid hacc; clear hacc
      by_cases hlt : k < n
      · obtain ⟨ad, p, rfl, hx, hc⟩ := h.atMap hlt
        have Hx := Lib.hid (drop_cons hx)
        obtain ⟨p1, p2⟩ := hL _ (List.mem_of_getElem? hx)
        clear hx
        by_cases h1 : p < 1
        · have H : Hid (jwrong l = 2) := by show _ = _; rw [HR.out, ← Hacc.out, Hx.out, jwrongF_range (.inl h1)]
          go_wp2
          go_ret
          exact ⟨ret_int H.out.symm, rfl⟩
        · by_cases h2 : p > 64
          · have H : Hid (jwrong l = 2) := by show _ = _; rw [HR.out, ← Hacc.out, Hx.out, jwrongF_range (.inr h2)]
            go_wp2
            go_ret
            exact ⟨ret_int H.out.symm, rfl⟩
          · by_cases h3 : 64 % p = 0
            · have H : Hid (jwrongF (l.drop (k + 1)) = jwrongF l) := by show _ = _; rw [← Hacc.out, Hx.out, jwrongF_next (by omega) (by omega) h3]
              have hb := (and_mod (p := p) (by omega) (by omega)).2 h3
              clear h3
              go_wp2
              go_round
              case rel => exact ⟨k + 1, by omega, by go_num, H.out⟩
              case measure => simp [intOf] <;> omega
            · have H : Hid (jwrong l = 1) := by show _ = _; rw [HR.out, ← Hacc.out, Hx.out, jwrongF_form (by omega) (by omega) h3]
              have hb : (bits .and .i64 p (p - 1) != 0) = true := by
                rw [bne_iff_ne]; exact fun e => h3 ((and_mod (p := p) (by omega) (by omega)).1 e)
              clear h3
              go_wp2
              go_ret
              exact ⟨ret_int H.out.symm, rfl⟩
      · obtain rfl : k = n := by omega
        have H : Hid (jwrong l = 0) := by show _ = _; rw [HR.out, ← Hacc.out, List.drop_eq_nil_of_le (by rw [Hl.out]; exact Nat.le_refl _)]; rfl
        go_wp2
        go_ret
        exact ⟨ret_int H.out.symm, rfl⟩

/-- The slots in use lie in block b. -/
def Cyc (w : World) (b : Nat) (t : TypeId) (U : Nat → Bool) : Prop := Box w b t ((List.range 64).map fun k => Value.bool (U k))
theorem cyc_at (U : Nat → Bool) {k : Nat} (hk : k < 64) : ((List.range 64).map fun k => Value.bool (U k))[k]? = some (.bool (U k)) := by
  rw [List.getElem?_map, List.getElem?_range hk]; rfl
theorem Cyc.cell {w : World} {b : Nat} {t : TypeId} {U : Nat → Bool} (h : Cyc w b t U) {k : Nat} (hk : k < 64) : w.cell? ⟨b, k, none⟩ = some (.bool (U k)) := Box.cell h k (cyc_at U hk)
theorem Cyc.set {w : World} {b : Nat} {t : TypeId} {U V : Nat → Bool} (h : Cyc w b t U) {k : Nat} (hk : V k = true) (hV : ∀ j, j < 64 → j ≠ k → V j = U j) : Cyc (w.setCell ⟨b, k, none⟩ (.bool true)) b t V := by
  have e : ((List.range 64).map fun j => Value.bool (U j)).set k (.bool true) = (List.range 64).map fun j => Value.bool (V j) := by
    apply List.ext_getElem
    · simp
    · intro i h1 h2
      have hi : i < 64 := by simpa using h2
      rw [List.getElem_set]
      by_cases hik : k = i
      · subst hik; simp [hk]
      · simp [hik, hV i hi (Ne.symm hik)]
  have := Box.set h k (.bool true)
  rw [e] at this
  exact this
theorem Cyc.same {w : World} {b : Nat} {t : TypeId} {U V : Nat → Bool} (h : Cyc w b t U) (hV : ∀ j, j < 64 → V j = U j) : Cyc w b t V := by
  have e : ((List.range 64).map fun j => Value.bool (U j)) = (List.range 64).map fun j => Value.bool (V j) := by
    apply List.map_congr_left
    intro j hj
    rw [hV j (List.mem_range.1 hj)]
  unfold Cyc at h ⊢
  rw [← e]
  exact h

set_option maxHeartbeats 400000 in
theorem firstFree_any (b : Nat) (U : Nat → Bool) (w : World) (h : Cyc w b 38 U) :
    Calls Try.prog 18 #[.pointer (some ⟨b, 0, none⟩)] w fun e w' => e = .returned (.int .i64 (ff U)) ∧ w = w' := by
  go_enter Try.func18, Try.ntmps18
  go_wp2
  go_loop [3] (fun i => ∃ (k : Nat), k ≤ 64 ∧ i = .int .i64 k ∧ ∀ t, t < k → U t = true) (fun i => 64 - (intOf i).toNat)
  case atStart => exact ⟨0, Nat.zero_le _, rfl, fun t ht => absurd ht (Nat.not_lt_zero _)⟩
  case round =>
    obtain ⟨k, hk, rfl, hacc⟩ := hrel
    have Hacc := Lib.hid hacc; clear hacc
    by_cases hlt : k < 64
    · have hc := h.cell hlt
      cases hU : U k
      · rw [hU] at hc
        have H : Hid (ff U = k) := by show _ = _; exact ff_eq hk Hacc.out fun _ => hU
        clear hU
        go_wp2
        go_ret
        exact ⟨ret_int (by rw [H.out]), rfl⟩
      · rw [hU] at hc
        have H : Hid (∀ t, t < k + 1 → U t = true) := by
          show ∀ t, t < k + 1 → U t = true
          intro t ht
          by_cases e : t = k
          · rw [e, hU]
          · exact Hacc.out t (by omega)
        clear hU
        go_wp2
        go_round
        case rel => exact ⟨k + 1, by omega, by go_num, H.out⟩
        case measure => simp [intOf] <;> omega
    · obtain rfl : k = 64 := by omega
      have H : Hid (ff U = 64) := by show _ = _; exact ff_eq hk Hacc.out fun h => absurd h (by decide)
      go_wp2
      go_ret
      exact ⟨ret_int (by rw [H.out]; rfl), rfl⟩

/-- What of a message's slots is marked once all those before a are. -/
def upTo (U : Nat → Bool) (f p : Int) (a : Nat) : Nat → Bool := fun t => U t || (hits f p t && decide (t < a))
theorem upTo_at {U : Nat → Bool} {f p : Int} {a : Nat} : upTo U f p a a = U a := by unfold upTo; simp
theorem upTo_next {U : Nat → Bool} {f p : Int} {a q : Nat} (hq : (q : Int) = p) (hh : hits f p a = true) : upTo U f p (a + q) a = (decide (0 < q) || U a) ∧ ∀ j, j ≠ a → upTo U f p (a + q) j = upTo U f p a j := by
  constructor
  · unfold upTo
    rw [hh]
    by_cases h0 : 0 < q
    · have : a < a + q := by omega
      simp [h0, this]
    · have : ¬ a < a + q := by omega
      simp [h0, this]
  · intro j hj
    unfold upTo
    cases hb : hits f p j
    · rfl
    · by_cases h1 : j < a
      · have h2 : j < a + q := by omega
        simp [h1, h2]
      · have h2 : ¬ j < a + q := fun h2 => hj (hits_gap hh hb (by omega) (by omega))
        simp [h1, h2]
theorem upTo_start {U : Nat → Bool} {f : Nat} {p : Int} : ∀ j, upTo U f p f j = U j := by
  intro j
  unfold upTo
  by_cases h : j < f
  · rw [hits_low (by omega)]; simp
  · simp [h]
theorem upTo_end {U : Nat → Bool} {f p : Int} {a : Nat} (h : 64 ≤ a) : ∀ j, j < 64 → mark U f p j = upTo U f p a j := by
  intro j hj
  unfold upTo mark
  have : j < a := by omega
  simp [this]
/-- The message's slots before a are free. -/
def freeTo (U : Nat → Bool) (f p : Int) (a : Nat) : Prop := ∀ t, t < a → t < 64 → hits f p t = true → U t = false
theorem freeTo_start {U : Nat → Bool} {f : Nat} {p : Int} : freeTo U f p f := fun t ht _ hh => by rw [hits_low (by omega)] at hh; cases hh
theorem freeTo_next {U : Nat → Bool} {f p : Int} {a q : Nat} (hq : (q : Int) = p) (hh : hits f p a = true) (h : freeTo U f p a) (hU : U a = false) : freeTo U f p (a + q) := by
  intro t ht h64 hb
  by_cases h1 : t < a
  · exact h t h1 h64 hb
  · rw [hits_gap hh hb (by omega) (by omega)]; exact hU
theorem freeTo_end {U : Nat → Bool} {f p : Int} {a : Nat} (h : 64 ≤ a) (hf : freeTo U f p a) : freeM U f p = true := free_iff.2 fun t ht hh => hf t (by omega) ht hh
theorem free_no {U : Nat → Bool} {f p : Int} {a : Nat} (h : a < 64) (hh : hits f p a = true) (hU : U a = true) : freeM U f p = false := by
  cases hf : freeM U f p
  · rfl
  · rw [free_iff.1 hf a h hh] at hU; cases hU

set_option maxHeartbeats 400000 in
theorem take_any (b : Nat) (U : Nat → Bool) (f : Nat) (p : Int) (p1 : 1 ≤ p) (p2 : p ≤ 64) (hf : f ≤ 64) (w : World) (h : Cyc w b 38 U) :
    Calls Try.prog 19 #[.pointer (some ⟨b, 0, none⟩), .int .i64 f, .int .i64 p] w fun e w' => e = .returned (.bool (freeM U f p)) ∧ Cyc w' b 38 (mark U f p) ∧ w.grownBy w' (some b) := by
  obtain ⟨q, rfl⟩ := Int.eq_ofNat_of_zero_le (show 0 ≤ p by omega)
  go_enter Try.func19, Try.ntmps19
  go_wp2
  go_loopw [7, 8] (fun v i wr => ∃ (a : Nat) (x : Bool), a ≤ 128 ∧ i = .int .i64 a ∧ v = .bool x ∧ hits f (q : Int) a = true ∧ Cyc wr b 38 (upTo U f (q : Int) a) ∧ (x = true → freeTo U f (q : Int) a) ∧ (x = false → freeM U f (q : Int) = false) ∧ w.grownBy wr (some b)) (fun _ i _ => 128 - (intOf i).toNat)
  case atStart => exact ⟨f, true, by omega, rfl, rfl, hits_start f _, h.same (fun j _ => upTo_start j), fun _ => freeTo_start, fun e => (by cases e), World.grownBy.refl _ _⟩
  case round =>
    obtain ⟨a, x, ha, rfl, rfl, hh, hcy, ht, hx, hg⟩ := hrel
    have Hh := Lib.hid hh; clear hh
    have Ht := Lib.hid ht; clear ht
    have Hx := Lib.hid hx; clear hx
    by_cases hlt : a < 64
    · have hc := hcy.cell hlt
      rw [upTo_at] at hc
      have hfz := Box.free hcy a
      have HN : Hid (∀ W : World, Cyc W b 38 (upTo U f (q : Int) a) → Cyc (W.setCell ⟨b, a, none⟩ (.bool true)) b 38 (upTo U f (q : Int) (a + q))) := by
        show ∀ W : World, _
        intro W hW
        obtain ⟨e1, e2⟩ := upTo_next (U := U) (f := f) (p := (q : Int)) (a := a) (q := q) rfl Hh.out
        exact hW.set (by rw [e1]; simp; omega) (fun j _ hj => e2 j hj)
      cases hU : U a
      · rw [hU] at hc
        have HT : Hid (x = true → freeTo U f (q : Int) (a + q)) := by show x = true → _; exact fun e => freeTo_next rfl Hh.out (Ht.out e) hU
        clear hU
        cases x
        · go_wp2
          go_roundw
          case rel => exact ⟨a + q, false, by omega, by go_num, rfl, hits_next Hh.out q rfl, HN.out _ hcy, fun e => (by cases e), fun _ => Hx.out rfl, grownBy_then hg (grownBy_setCell _ _ _)⟩
          case measure => simp [intOf] <;> omega
        · go_wp2
          go_roundw
          case rel => exact ⟨a + q, true, by omega, by go_num, rfl, hits_next Hh.out q rfl, HN.out _ hcy, fun e => HT.out rfl, fun e => (by cases e), grownBy_then hg (grownBy_setCell _ _ _)⟩
          case measure => simp [intOf] <;> omega
      · rw [hU] at hc
        have HF : Hid (freeM U f (q : Int) = false) := by show _ = _; exact free_no hlt Hh.out hU
        clear hU
        cases x
        · go_wp2
          go_roundw
          case rel => exact ⟨a + q, false, by omega, by go_num, rfl, hits_next Hh.out q rfl, HN.out _ hcy, fun e => (by cases e), fun _ => HF.out, grownBy_then hg (grownBy_setCell _ _ _)⟩
          case measure => simp [intOf] <;> omega
        · go_wp2
          go_roundw
          case rel => exact ⟨a + q, false, by omega, by go_num, rfl, hits_next Hh.out q rfl, HN.out _ hcy, fun e => (by cases e), fun _ => HF.out, grownBy_then hg (grownBy_setCell _ _ _)⟩
          case measure => simp [intOf] <;> omega
    · have H : Hid (freeM U f (q : Int) = x) := by
        show _ = _
        cases x
        · exact Hx.out rfl
        · exact freeTo_end (by omega) (Ht.out rfl)
      go_wp2
      go_ret
      exact ⟨ret_bool H.out.symm, hcy.same (upTo_end (by omega)), hg⟩

set_option maxHeartbeats 400000 in
theorem Load_any (A : Option Addr) (n c : Nat) (l : List Int) (w : World) (h : Rd w 1 A n (l.map (Value.int .i64))) (hL : in64s l) (hn : n ≤ 140737488355328) :
    Calls Try.prog 8 #[.slice A n c] w fun e w' => e = .returned (.tuple #[.int .i64 (if jwrong l = 0 then loadS l else 0), .int .i64 (jwrong l)]) ∧ w = w' := by
  have Hl := Lib.hid h.lenMap
  have Hc := Lib.hid (Wrong_any A n c l w h hL hn)
  by_cases h0 : jwrong l = 0
  · rw [h0] at Hc
    obtain ⟨h4, hp⟩ := jwrong_zero.1 h0
    rw [if_pos h0, h0]
    rw [Hl.out] at h4
    clear h0
    have Hp := Lib.hid hp; clear hp
    go_enter Try.func8, Try.ntmps8
    go_wp2_with fail
    refine Hc.out.mono ?_
    rintro e w1 ⟨rfl, rfl⟩
    go_wp2
    go_loop [5, 15] (fun v i => ∃ (k : Nat), k ≤ n ∧ i = .int .i64 k ∧ v = .int .i64 (loadS (l.take k))) (fun _ i => n - (intOf i).toNat)
    case atStart => exact ⟨0, Nat.zero_le _, rfl, rfl⟩
    case round =>
      obtain ⟨k, hk, rfl, rfl⟩ := hrel
      by_cases hlt : k < n
      · obtain ⟨ad, p, rfl, hx, hc⟩ := h.atMap hlt
        have hpw := Hp.out p (List.mem_of_getElem? hx)
        obtain ⟨p1, p2⟩ := hpw.range
        have hq := hpw.quo
        obtain ⟨q1, q2⟩ := hpw.part
        obtain ⟨s1, s2⟩ := load_range (Hp.out.take k)
        have hs3 : loadS (l.take k) ≤ 25600 := by rw [List.length_take] at s2; omega
        clear s2
        have Ht : Hid (loadS (l.take (k + 1)) = loadS (l.take k) + 64 / p) := by show _ = _; rw [take_snoc hx, load_snoc]
        clear hx hpw
        generalize loadS (l.take k) = S at s1 hs3 Ht ⊢
        generalize (64 : Int) / p = Q at q1 q2 Ht hq
        go_wp2
        go_round
        case rel => exact ⟨k + 1, by omega, by go_num, by rw [Ht.out]⟩
        case measure => simp [intOf] <;> omega
      · obtain rfl : k = n := by omega
        rw [List.take_of_length_le (by rw [Hl.out]; exact Nat.le_refl _)]
        go_wp2
        go_ret2
        exact ⟨rfl, rfl⟩
  · rw [if_neg h0]
    have hx' : (jwrong l != 0) = true := by simpa using h0
    clear h0
    generalize jwrong l = x at Hc hx' ⊢
    go_enter Try.func8, Try.ntmps8
    go_wp2_with fail
    refine Hc.out.mono ?_
    rintro e w1 ⟨rfl, rfl⟩
    go_wp2
    go_ret2
    exact ⟨rfl, rfl⟩
end Go.Proofs.Ytgkdjdckdomnmaa
