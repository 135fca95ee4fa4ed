/-
  Contracts of the reference of package start: VWrong, VPlay. No statement of the seat is here.
-/
import Derived.Test.YtaliompoknnjgaaStartPlay
namespace Go.Proofs.Ytaliompoknnjgaa
open Go.RowKit
set_option maxRecDepth 20000
set_option linter.unusedVariables false

/-! VWrong -/
/-- Right as far as place k. -/
def OkV (on waits : List Int) (late : Int) (k : Nat) : Prop := (0 < on.length ∧ on.length ≤ 16 ∧ 1 ≤ late ∧ late ≤ 1000) ∧ (∀ x ∈ on.take k, inOn x) ∧ ∀ x ∈ waits.take k, inWait x
instance (on waits : List Int) (late : Int) (k : Nat) : Decidable (OkV on waits late k) := inferInstanceAs (Decidable (_ ∧ _))
section
variable {on waits : List Int} {late : Int}
theorem okV_next {k : Nat} {x y : Int} (hx : on[k]? = some x) (hy : waits[k]? = some y) : OkV on waits late (k + 1) ↔ OkV on waits late k ∧ inOn x ∧ inWait y := by
  unfold OkV
  rw [take_snoc hx, take_snoc hy]
  simp only [List.mem_append, List.mem_singleton]
  constructor
  · rintro ⟨h, h1, h2⟩
    exact ⟨⟨h, fun z hz => h1 z (.inl hz), fun z hz => h2 z (.inl hz)⟩, h1 x (.inr rfl), h2 y (.inr rfl)⟩
  · rintro ⟨⟨h, h1, h2⟩, h3, h4⟩
    exact ⟨h, fun z hz => hz.elim (h1 z) (fun e => e ▸ h3), fun z hz => hz.elim (h2 z) (fun e => e ▸ h4)⟩
theorem okV_zero (h0 : 0 < on.length) (h1 : on.length ≤ 16) (h2 : 1 ≤ late) (h3 : late ≤ 1000) : OkV on waits late 0 := ⟨⟨h0, h1, h2, h3⟩, by simp, by simp⟩
theorem okV_wrong {n : Nat} (hl : on.length = n) (hl2 : waits.length = n) (h : ¬ OkV on waits late n) : wrongS on waits late = 2 := by
  by_cases k : on.length = 0 ∨ 16 < on.length ∨ late < 1 ∨ 1000 < late
  · exact wrongS_many (by omega) k
  · refine wrongS_range (by omega) fun ⟨k1, k2⟩ => h ⟨by omega, fun x hx => k1 x (List.mem_of_mem_take hx), fun x hx => k2 x (List.mem_of_mem_take hx)⟩
theorem okV_all {n : Nat} (hl : on.length = n) (hl2 : waits.length = n) (h : OkV on waits late n) : (∀ x ∈ waits, inWait x) ∧ wrongS on waits late = if waits.Pairwise (farS late) then 0 else 6 := by
  obtain ⟨⟨h0, h1, h2, h3⟩, k1, k2⟩ := h
  rw [List.take_of_length_le (by omega)] at k1 k2
  exact ⟨k2, wrongS_far (by omega) h0 h1 h2 h3 k1 k2⟩
/-- Each of the first k, and k itself with the first l, far from the others. -/
def FarTo (waits : List Int) (late : Int) (k l : Nat) : Prop := ∀ (i j : Nat) (x y : Int), (i < k ∨ (i = k ∧ j < l)) → waits[i]? = some x → waits[j]? = some y → i ≠ j → x ≤ y → x + late ≤ y
theorem FarTo.next {k l : Nat} {x y : Int} (h : FarTo waits late k l) (hx : waits[k]? = some x) (hy : waits[l]? = some y) (hf : k = l ∨ y < x ∨ x + late ≤ y) : FarTo waits late k (l + 1) := by
  intro i j x' y' hij hx' hy' hne hle
  by_cases e : i = k ∧ j = l
  · obtain ⟨rfl, rfl⟩ := e
    rw [hx] at hx'
    rw [hy] at hy'
    injection hx' with hx'
    injection hy' with hy'
    omega
  · exact h i j x' y' (by omega) hx' hy' hne hle
theorem FarTo.row {k n : Nat} (hl : waits.length = n) (h : FarTo waits late k n) : FarTo waits late (k + 1) 0 := by
  intro i j x' y' hij hx' hy' hne hle
  have := (List.getElem?_eq_some_iff.1 hy').1
  exact h i j x' y' (by omega) hx' hy' hne hle
theorem FarTo.all {n : Nat} (hl : waits.length = n) (hq : 1 ≤ late) (h : FarTo waits late n 0) : waits.Pairwise (farS late) := by
  rw [far_each hq]
  intro i j x' y' hx' hy' hne hle
  have := (List.getElem?_eq_some_iff.1 hx').1
  exact h i j x' y' (by omega) hx' hy' hne hle
theorem far_found {k l : Nat} {x y : Int} (hq : 1 ≤ late) (hx : waits[k]? = some x) (hy : waits[l]? = some y) (hne : k ≠ l) (h1 : x ≤ y) (h2 : y < x + late) : ¬ waits.Pairwise (farS late) := by
  rw [far_each hq]
  intro h
  have := h k l x y hx hy hne h1
  omega
end

set_option maxHeartbeats 1600000 in
theorem VWrong_many (A : Option Addr) (n c : Nat) (B : Option Addr) (c2 : Nat) (late : Int) (w : World) (hn : n ≤ 4611686018427387904) (hk : n = 0 ∨ 16 < n ∨ late < 1 ∨ 1000 < late) :
    Calls Try.prog 9 #[.slice A n c, .slice B n c2, .int .i64 late] w fun e w' => e = .returned (.int .i64 2) ∧ w = w' := by
  by_cases k1 : n = 0
  · subst k1
    clear hk
    go_enter Try.func9, Try.ntmps9
    go_wp2
    go_loop [7, 36] (fun b i => i = .int .i64 0 ∧ b = .bool false) (fun _ _ => 0)
    case atStart => exact ⟨rfl, rfl⟩
    case round =>
      obtain ⟨rfl, rfl⟩ := hrel
      go_wp2
      go_ret
      exact ⟨rfl, rfl⟩
  by_cases k2 : 16 < n
  · clear hk
    go_enter Try.func9, Try.ntmps9
    go_wp2
    go_loop [7, 36] (fun b i => ∃ k : Nat, k ≤ n ∧ i = .int .i64 k ∧ b = .bool false) (fun _ i => n - (intOf i).toNat)
    case atStart => exact ⟨0, Nat.zero_le _, rfl, rfl⟩
    case round =>
      obtain ⟨j, hj, rfl, rfl⟩ := hrel
      by_cases hlt : j < n
      · go_wp2
        go_round
        case rel => exact ⟨j + 1, by omega, by go_num, rfl⟩
        case measure => simp [intOf] <;> omega
      · go_wp2
        go_ret
        exact ⟨rfl, rfl⟩
  have hn0 : 0 < n := by omega
  have hn1 : n ≤ 16 := by omega
  clear k1 k2
  by_cases k3 : late < 1
  · clear hk
    go_enter Try.func9, Try.ntmps9
    go_wp2
    go_loop [7, 36] (fun b i => ∃ k : Nat, k ≤ n ∧ i = .int .i64 k ∧ b = .bool false) (fun _ i => n - (intOf i).toNat)
    case atStart => exact ⟨0, Nat.zero_le _, rfl, rfl⟩
    case round =>
      obtain ⟨j, hj, rfl, rfl⟩ := hrel
      by_cases hlt : j < n
      · go_wp2
        go_round
        case rel => exact ⟨j + 1, by omega, by go_num, rfl⟩
        case measure => simp [intOf] <;> omega
      · go_wp2
        go_ret
        exact ⟨rfl, rfl⟩
  · have k4 : 1000 < late := by omega
    clear hk
    go_enter Try.func9, Try.ntmps9
    go_wp2
    go_loop [7, 36] (fun b i => ∃ k : Nat, k ≤ n ∧ i = .int .i64 k ∧ b = .bool false) (fun _ i => n - (intOf i).toNat)
    case atStart => exact ⟨0, Nat.zero_le _, rfl, congrArg Value.bool (decide_eq_false (by omega))⟩
    case round =>
      obtain ⟨j, hj, rfl, rfl⟩ := hrel
      by_cases hlt : j < n
      · go_wp2
        go_round
        case rel => exact ⟨j + 1, by omega, by go_num, rfl⟩
        case measure => simp [intOf] <;> omega
      · go_wp2
        go_ret
        exact ⟨rfl, rfl⟩

set_option maxHeartbeats 3200000 in
theorem VWrong_rest (A : Option Addr) (n c : Nat) (on : List Int) (B : Option Addr) (c2 : Nat) (waits : List Int) (late : Int) (w : World) (h : Rd w 1 A n (on.map (Value.int .i64))) (h2 : Rd w 1 B n (waits.map (Value.int .i64))) (hn0 : 0 < n) (hn : n ≤ 16) (hq1 : 1 ≤ late) (hq2 : late ≤ 1000) :
    Calls Try.prog 9 #[.slice A n c, .slice B n c2, .int .i64 late] w fun e w' => e = .returned (.int .i64 (wrongS on waits late)) ∧ w = w' := by
  have hl := h.lenMap
  have hl2 := h2.lenMap
  have H2 := Lib.hid (okV_wrong (late := late) hl hl2)
  have Hall := Lib.hid (okV_all (late := late) hl hl2)
  have Hz := Lib.hid (okV_zero (waits := waits) (by omega : 0 < on.length) (by omega) hq1 hq2)
  have Hl2 := Lib.hid hl2
  clear hl hl2
  go_enter Try.func9, Try.ntmps9
  go_wp2
  go_loop [7, 36] (fun b i => ∃ k : Nat, k ≤ n ∧ i = .int .i64 k ∧ b = .bool (decide (OkV on waits late k))) (fun _ i => n - (intOf i).toNat)
  case atStart => exact ⟨0, Nat.zero_le _, rfl, by rw [decide_eq_true Hz.out]⟩
  case round =>
    obtain ⟨k, hk, rfl, rfl⟩ := hrel
    by_cases hlt : k < n
    · obtain ⟨ad, x, rfl, hx, hc⟩ := h.atMap hlt
      obtain ⟨aw, y, rfl, hy, hd⟩ := h2.atMap hlt
      have Hn := Lib.hid (okV_next (late := late) hx hy)
      clear h h2 hx hy H2 Hall Hz
      by_cases hok : OkV on waits late k
      · rw [decide_eq_true hok]
        by_cases k1 : x < 0
        · have Hno : Hid (¬ OkV on waits late (k + 1)) := fun h => by have := (Hn.out.1 h).2.1; unfold inOn at this; omega
          clear Hn hok
          go_wp2
          go_round
          case rel => exact ⟨k + 1, by omega, by go_num, by rw [decide_eq_false Hno.out]⟩
          case measure => simp [intOf] <;> omega
        by_cases k2 : 1048576 < x
        · have Hno : Hid (¬ OkV on waits late (k + 1)) := fun h => by have := (Hn.out.1 h).2.1; unfold inOn at this; omega
          clear Hn hok
          go_wp2
          go_round
          case rel => exact ⟨k + 1, by omega, by go_num, by rw [decide_eq_false Hno.out]⟩
          case measure => simp [intOf] <;> omega
        by_cases k3 : y < 1
        · have Hno : Hid (¬ OkV on waits late (k + 1)) := fun h => by have := (Hn.out.1 h).2.2; unfold inWait at this; omega
          clear Hn hok
          go_wp2
          go_round
          case rel => exact ⟨k + 1, by omega, by go_num, by rw [decide_eq_false Hno.out]⟩
          case measure => simp [intOf] <;> omega
        by_cases k4 : 1048576 < y
        · have Hno : Hid (¬ OkV on waits late (k + 1)) := fun h => by have := (Hn.out.1 h).2.2; unfold inWait at this; omega
          clear Hn hok
          go_wp2
          go_round
          case rel => exact ⟨k + 1, by omega, by go_num, by rw [decide_eq_false Hno.out, decide_eq_false (by omega)]⟩
          case measure => simp [intOf] <;> omega
        · have Hyes : Hid (OkV on waits late (k + 1)) := Hn.out.2 ⟨hok, ⟨by omega, by omega⟩, ⟨by omega, by omega⟩⟩
          clear Hn hok
          go_wp2
          go_round
          case rel => exact ⟨k + 1, by omega, by go_num, by rw [decide_eq_true Hyes.out, decide_eq_true (by omega)]⟩
          case measure => simp [intOf] <;> omega
      · rw [decide_eq_false hok]
        have Hno : Hid (¬ OkV on waits late (k + 1)) := fun h => hok (Hn.out.1 h).1
        clear Hn hok hc hd
        go_wp2
        go_round
        case rel => exact ⟨k + 1, by omega, by go_num, by rw [decide_eq_false Hno.out]⟩
        case measure => simp [intOf] <;> omega
    · obtain rfl : k = n := by omega
      clear Hz h
      by_cases hok : OkV on waits late k
      · obtain ⟨hin, hw⟩ := Hall.out hok
        rw [decide_eq_true hok]
        have Hin := Lib.hid hin
        have Hw := Lib.hid hw
        clear H2 Hall hok hw hin
        have Hfn := Lib.hid (fun (a b : Nat) (x y : Int) => far_found (waits := waits) (k := a) (l := b) (x := x) (y := y) hq1)
        have Hfa := Lib.hid (FarTo.all Hl2.out hq1)
        go_wp2
        go_loop [73] (fun i => ∃ a : Nat, a ≤ k ∧ i = .int .i64 a ∧ Hid (FarTo waits late a 0)) (fun i => k - (intOf i).toNat)
        case atStart => exact ⟨0, Nat.zero_le _, rfl, fun i j x y hij => by omega⟩
        case round =>
          obtain ⟨a, ha, rfl, HF⟩ := hrel
          by_cases hla : a < k
          · obtain ⟨ax, x, rfl, hx, hc⟩ := h2.atMap hla
            have hxw := Hin.out x (List.mem_of_getElem? hx)
            unfold inWait at hxw
            obtain ⟨hx1, hx2⟩ := hxw
            have Hx := Lib.hid hx
            clear hx
            go_wp2
            go_loop [80] (fun i => ∃ b : Nat, b ≤ k ∧ i = .int .i64 b ∧ Hid (FarTo waits late a b)) (fun i => k - (intOf i).toNat)
            case atStart => exact ⟨0, Nat.zero_le _, rfl, HF⟩
            case round =>
              clear HF hc
              obtain ⟨b, hb, rfl, HF⟩ := hrel
              by_cases hlb : b < k
              · obtain ⟨ay, y, hay, hy, hd⟩ := h2.atMap hlb
                obtain rfl : ax = ay := by injection hay
                clear hay
                have Hnx := Lib.hid (HF.out.next Hx.out hy)
                have hyw := Hin.out y (List.mem_of_getElem? hy)
                unfold inWait at hyw
                obtain ⟨hy1, hy2⟩ := hyw
                have Hff := Lib.hid (Hfn.out a b x y Hx.out hy)
                clear h2 hy Hx HF Hfn Hfa Hin
                by_cases e : a = b
                · have Hg : Hid (FarTo waits late a (b + 1)) := Hnx.out (.inl e)
                  clear Hnx Hff
                  go_wp2
                  go_round
                  case rel => exact ⟨b + 1, by omega, by go_num, Hg⟩
                  case measure => simp [intOf] <;> omega
                by_cases e2 : y < x
                · have Hg : Hid (FarTo waits late a (b + 1)) := Hnx.out (.inr (.inl e2))
                  clear Hnx Hff
                  go_wp2
                  go_round
                  case rel => exact ⟨b + 1, by omega, by go_num, Hg⟩
                  case measure => simp [intOf] <;> omega
                by_cases e3 : x + late ≤ y
                · have Hg : Hid (FarTo waits late a (b + 1)) := Hnx.out (.inr (.inr e3))
                  clear Hnx Hff
                  go_wp2
                  go_round
                  case rel => exact ⟨b + 1, by omega, by go_num, Hg⟩
                  case measure => simp [intOf] <;> omega
                · have hno := Hff.out e (by omega) (by omega)
                  have hne : ((a : Int) != (b : Int)) = true := by rw [bne_iff_ne]; omega
                  have Hno : Hid (wrongS on waits late = 6) := by show _ = _; rw [Hw.out, if_neg hno]
                  clear Hnx Hff hno Hw
                  go_wp2
                  go_ret
                  exact ⟨by rw [Hno.out] <;> rfl, rfl⟩
              · obtain rfl : b = k := by omega
                have Hg : Hid (FarTo waits late (a + 1) 0) := HF.out.row Hl2.out
                clear HF h2 Hx Hfn Hfa Hin
                go_wp2
                go_round
                case rel => exact ⟨a + 1, by omega, by go_num, Hg⟩
                case measure => simp [intOf] <;> omega
          · obtain rfl : a = k := by omega
            have Hno : Hid (wrongS on waits late = 0) := by show _ = _; rw [Hw.out, if_pos (Hfa.out HF.out)]
            clear HF h2 Hfn Hfa Hin Hw
            go_wp2
            go_ret
            exact ⟨by rw [Hno.out] <;> rfl, rfl⟩
      · rw [decide_eq_false hok]
        have Hno : Hid (wrongS on waits late = 2) := H2.out hok
        clear H2 Hall hok h2
        go_wp2
        go_ret
        exact ⟨by rw [Hno.out] <;> rfl, rfl⟩

theorem VWrong_any (A : Option Addr) (n c : Nat) (on : List Int) (B : Option Addr) (n2 c2 : Nat) (waits : List Int) (late : Int) (w : World) (h : Rd w 1 A n (on.map (Value.int .i64))) (h2 : Rd w 1 B n2 (waits.map (Value.int .i64))) (hn : n ≤ 4611686018427387904) (hn2 : n2 ≤ 4611686018427387904) :
    Calls Try.prog 9 #[.slice A n c, .slice B n2 c2, .int .i64 late] w fun e w' => e = .returned (.int .i64 (wrongS on waits late)) ∧ w = w' := by
  have hl := h.lenMap
  have hl2 := h2.lenMap
  by_cases e : n = n2
  · subst e
    by_cases k : n = 0 ∨ 16 < n ∨ late < 1 ∨ 1000 < late
    · rw [wrongS_many (by omega) (by rw [hl]; exact k)]
      exact VWrong_many A n c B c2 late w hn k
    · exact VWrong_rest A n c on B c2 waits late w h h2 (by omega) (by omega) (by omega) (by omega)
  · rw [wrongS_form (by omega)]
    clear h h2 hl hl2
    go_enter Try.func9, Try.ntmps9
    go_wp2
    go_ret
    exact ⟨rfl, rfl⟩
end Go.Proofs.Ytaliompoknnjgaa
