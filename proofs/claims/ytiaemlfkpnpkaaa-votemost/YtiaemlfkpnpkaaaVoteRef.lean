/-
  Contracts of the reference's OCount, OMiddle, OMost, ONear, for every input.
-/
import Derived.Test.YtiaemlfkpnpkaaaVoteMath
import Derived.Test.YtiaemlfkpnpkaaaBase
import Derived.Test.YtiaemlfkpnpkaaaNums
namespace Go.Proofs.Ytiaemlfkpnpkaaa
open Go.RowKit
set_option linter.unusedVariables false

theorem cntL_snoc {l : List Int} {j : Nat} {y : Int} (x : Int) (h : l[j]? = some y) : cntL (l.take (j + 1)) x = cntL (l.take j) x + if y < x then 1 else 0 := by
  unfold cntL
  rw [take_snoc h, List.countP_append, List.countP_singleton]
  simp
theorem cntG_snoc {l : List Int} {j : Nat} {y : Int} (x : Int) (h : l[j]? = some y) : cntG (l.take (j + 1)) x = cntG (l.take j) x + if x < y then 1 else 0 := by
  unfold cntG
  rw [take_snoc h, List.countP_append, List.countP_singleton]
  simp
theorem cntE_snoc {l : List Int} {j : Nat} {y : Int} (x : Int) (h : l[j]? = some y) : cntE (l.take (j + 1)) x = cntE (l.take j) x + if y = x then 1 else 0 := by
  unfold cntE
  rw [take_snoc h, List.countP_append, List.countP_singleton]
  simp
theorem cntX_le (l : List Int) (j : Nat) (x : Int) : cntL (l.take j) x ≤ j ∧ cntG (l.take j) x ≤ j ∧ cntE (l.take j) x ≤ j := by
  have h := cnt_three (l.take j) x
  rw [List.length_take] at h
  omega
theorem cntM_snoc {l : List Int} {j : Nat} {x : Int} (v far : Int) (h : l[j]? = some x) : cntN (l.take (j + 1)) v far = cntN (l.take j) v far + if nearB v far x then 1 else 0 := by
  unfold cntN
  rw [take_snoc h, List.countP_append, List.countP_singleton]
theorem cntM_le (l : List Int) (j : Nat) (v far : Int) : cntN (l.take j) v far ≤ j := by
  unfold cntN
  have := List.countP_le_length (p := nearB v far) (l := l.take j)
  rw [List.length_take] at this
  omega

set_option maxHeartbeats 400000 in
theorem OCount_any (A : Option Addr) (n c : Nat) (l : List Int) (v far : Int) (w : World) (h : Rd w 1 A n (l.map (Value.int .i64))) (hn : n ≤ 4611686018427387904) (h1 : -9223372036854775808 ≤ v - far) (h2 : v - far ≤ 9223372036854775807) (h3 : -9223372036854775808 ≤ v + far) (h4 : v + far ≤ 9223372036854775807) :
    Calls Try.prog 29 #[.slice A n c, .int .i64 v, .int .i64 far] w fun e w' => e = .returned (.int .i64 (cntN l v far)) ∧ w = w' := by
  have Hl := Lib.hid h.lenMap
  have Hfin : Hid (cntN l v far = cntN (l.take n) v far) := by
    show _ = _
    rw [List.take_of_length_le (by rw [Hl.out]; exact Nat.le_refl _)]
  generalize cntN l v far = R at *
  go_enter Try.func29, Try.ntmps29
  go_wp2
  go_loop [7, 12] (fun m i => ∃ k : Nat, k ≤ n ∧ i = .int .i64 k ∧ m = .int .i64 (cntN (l.take k) v far)) (fun _ i => n - (intOf i).toNat)
  case atStart => exact ⟨0, Nat.zero_le _, rfl, rfl⟩
  case round =>
    obtain ⟨k, hk, rfl, rfl⟩ := hrel
    have hle := cntM_le l k v far
    by_cases hlt : k < n
    · obtain ⟨ad, x, rfl, hx, hc⟩ := h.atMap hlt
      have Hs := Lib.hid (cntM_snoc v far hx)
      clear hx Hfin
      generalize cntN (l.take k) v far = m at *
      by_cases g1 : v - far ≤ x
      · by_cases g2 : x ≤ v + far
        · have Hb : Hid (nearB v far x = true) := by show _ = _; simp [nearB]; omega
          go_wp2
          go_round
          case rel => exact ⟨k + 1, by omega, by go_num, int_eq (by rw [Hs.out, Hb.out]; simp)⟩
          case measure => simp [intOf] <;> omega
        · have Hb : Hid (nearB v far x = false) := by show _ = _; simp [nearB]; omega
          go_wp2
          go_round
          case rel => exact ⟨k + 1, by omega, by go_num, int_eq (by rw [Hs.out, Hb.out]; simp)⟩
          case measure => simp [intOf] <;> omega
      · have Hb : Hid (nearB v far x = false) := by show _ = _; simp [nearB]; omega
        go_wp2
        go_round
        case rel => exact ⟨k + 1, by omega, by go_num, int_eq (by rw [Hs.out, Hb.out]; simp)⟩
        case measure => simp [intOf] <;> omega
    · have hnk : k = n := by omega
      subst hnk
      go_wp2
      go_ret
      exact ⟨ret_int (by rw [Hfin.out]), rfl⟩
set_option maxHeartbeats 800000 in
theorem OMiddle_any (A : Option Addr) (n c : Nat) (l : List Int) (w : World) (h : Rd w 1 A n (l.map (Value.int .i64))) (hn : n ≤ 400) (ho : n % 2 = 1) :
    Calls Try.prog 13 #[.slice A n c] w fun e w' => e = .returned (.int .i64 (midO l)) ∧ w = w' := by
  have hl := h.lenMap
  have Hl := Lib.hid hl
  have Hs := Lib.hid (fun x => sides_mid (l := l) (x := x) (by rw [hl]; exact ho))
  rw [hl] at Hs
  have Hmem : Hid (midO l ∈ l) := midO_mem (by omega)
  generalize midO l = M at *
  have ed : (n : Int).tdiv 2 = ((n / 2 : Nat) : Int) := by
    rw [Int.tdiv_eq_ediv_of_nonneg (by omega)]; omega
  have hq2 : n / 2 ≤ 400 := by omega
  generalize n / 2 = q at *
  clear hl
  go_enter Try.func13, Try.ntmps13
  go_wp2
  go_loop [11] (fun i => ∃ k : Nat, k ≤ n ∧ i = .int .i64 k ∧ Hid (∀ y ∈ l.take k, y ≠ M)) (fun i => n - (intOf i).toNat)
  case atStart => exact ⟨0, Nat.zero_le _, rfl, by show ∀ y ∈ _, _; simp⟩
  case round =>
    obtain ⟨k, hk, rfl, Hni⟩ := hrel
    by_cases hlt : k < n
    · obtain ⟨ad, x, rfl, hx, hc⟩ := h.atMap hlt
      have Hx := Lib.hid hx; clear hx
      go_wp2
      go_loop [5, 6, 17] (fun a b i => ∃ m : Nat, m ≤ n ∧ i = .int .i64 m ∧ a = .int .i64 (cntL (l.take m) x) ∧ b = .int .i64 (cntG (l.take m) x)) (fun _ _ i => n - (intOf i).toNat)
      case atStart => exact ⟨0, Nat.zero_le _, rfl, rfl, rfl⟩
      case round =>
        obtain ⟨m, hm, rfl, rfl, rfl⟩ := hrel
        obtain ⟨hle1, hle2, _⟩ := cntX_le l m x
        by_cases hlt2 : m < n
        · obtain ⟨ad2, y, e2, hy, hc2⟩ := h.atMap hlt2
          cases e2
          have S1 := Lib.hid (cntL_snoc x hy)
          have S2 := Lib.hid (cntG_snoc x hy)
          clear hy
          generalize cntL (l.take m) x = a at *
          generalize cntG (l.take m) x = b at *
          rcases Int.lt_trichotomy y x with g | g | g
          · go_wp2
            go_round
            case rel => exact ⟨m + 1, by omega, by go_num, int_eq (by rw [S1.out, if_pos g]; omega), int_eq (by rw [S2.out, if_neg (by omega)]; omega)⟩
            case measure => simp [intOf] <;> omega
          · have g1 : ¬ y < x := by omega
            have g2 : ¬ x < y := by omega
            clear g
            go_wp2
            go_round
            case rel => exact ⟨m + 1, by omega, by go_num, int_eq (by rw [S1.out, if_neg g1]; omega), int_eq (by rw [S2.out, if_neg g2]; omega)⟩
            case measure => simp [intOf] <;> omega
          · have g1 : ¬ y < x := by omega
            go_wp2
            go_round
            case rel => exact ⟨m + 1, by omega, by go_num, int_eq (by rw [S1.out, if_neg g1]; omega), int_eq (by rw [S2.out, if_pos g]; omega)⟩
            case measure => simp [intOf] <;> omega
        · have hnm : m = n := by omega
          subst hnm
          have S := Hs.out x
          rw [show l.take m = l by rw [List.take_of_length_le (by rw [Hl.out]; exact Nat.le_refl _)]] at *
          generalize cntL l x = a at *
          generalize cntG l x = b at *
          by_cases hx : x = M
          · obtain ⟨g1, g2⟩ := S.2 hx
            have Hxm := Lib.hid hx
            clear S hx
            go_wp2
            go_ret
            exact ⟨ret_int Hxm.out, rfl⟩
          · have Hno : Hid (∀ y ∈ l.take (k + 1), y ≠ M) := by
              show ∀ y ∈ _, _
              intro y hy
              rw [take_snoc Hx.out, List.mem_append, List.mem_singleton] at hy
              rcases hy with hy | rfl
              · exact Hni.out y hy
              · exact hx
            by_cases g1 : a ≤ q
            · have g2 : ¬ b ≤ q := fun g2 => hx (S.1 ⟨g1, g2⟩)
              clear S hx
              go_wp2
              go_round
              case rel => exact ⟨k + 1, by omega, by go_num, Hno⟩
              case measure => simp [intOf] <;> omega
            · clear S hx
              go_wp2
              go_round
              case rel => exact ⟨k + 1, by omega, by go_num, Hno⟩
              case measure => simp [intOf] <;> omega
    · have hnk : k = n := by omega
      subst hnk
      have e := Hni.out
      rw [List.take_of_length_le (by rw [Hl.out]; exact Nat.le_refl _)] at e
      exact absurd rfl (e M Hmem.out)
set_option maxHeartbeats 800000 in
theorem OMost_any (A : Option Addr) (n c : Nat) (l : List Int) (w : World) (h : Rd w 1 A n (l.map (Value.int .i64))) (hn : n ≤ 4611686018427387904) :
    Calls Try.prog 15 #[.slice A n c] w fun e w' => e = .returned (.tuple #[.int .i64 (mostV l), .int .i64 (mostE l)]) ∧ w = w' := by
  have hl := h.lenMap
  by_cases h1 : 400 < n
  · rw [(most_big (l := l) (by omega)).1, (most_big (l := l) (by omega)).2]
    clear hl
    go_enter Try.func15, Try.ntmps15
    go_wp2
    go_ret2
    exact ⟨rfl, rfl⟩
  have Hl := Lib.hid hl
  have Hy := Lib.hid (fun (x : Int) (g : l.length / 2 < cntE l x) => most_is (l := l) (x := x) (by omega) g)
  have Hno := Lib.hid (fun (g : ∀ x ∈ l, ¬ l.length / 2 < cntE l x) => most_nobody (l := l) (by omega) g)
  rw [hl] at Hy Hno
  have ed : (n : Int).tdiv 2 = ((n / 2 : Nat) : Int) := by
    rw [Int.tdiv_eq_ediv_of_nonneg (by omega)]; omega
  have hq2 : n / 2 ≤ 400 := by omega
  generalize n / 2 = q at *
  generalize mostV l = V at *
  generalize mostE l = E at *
  clear hl
  go_enter Try.func15, Try.ntmps15
  go_wp2
  go_loop [14] (fun i => ∃ k : Nat, k ≤ n ∧ i = .int .i64 k ∧ Hid (∀ y ∈ l.take k, ¬ q < cntE l y)) (fun i => n - (intOf i).toNat)
  case atStart => exact ⟨0, Nat.zero_le _, rfl, by show ∀ y ∈ _, _; simp⟩
  case round =>
    obtain ⟨k, hk, rfl, Hni⟩ := hrel
    by_cases hlt : k < n
    · obtain ⟨ad, x, rfl, hx, hc⟩ := h.atMap hlt
      have Hx := Lib.hid hx; clear hx
      go_wp2
      go_loop [6, 20] (fun a i => ∃ m : Nat, m ≤ n ∧ i = .int .i64 m ∧ a = .int .i64 (cntE (l.take m) x)) (fun _ i => n - (intOf i).toNat)
      case atStart => exact ⟨0, Nat.zero_le _, rfl, rfl⟩
      case round =>
        obtain ⟨m, hm, rfl, rfl⟩ := hrel
        obtain ⟨_, _, hle1⟩ := cntX_le l m x
        by_cases hlt2 : m < n
        · obtain ⟨ad2, y, e2, hy, hc2⟩ := h.atMap hlt2
          cases e2
          have S1 := Lib.hid (cntE_snoc x hy)
          clear hy
          generalize cntE (l.take m) x = a at *
          by_cases g : x = y
          · have Hg := Lib.hid g
            have g' : (x == y) = true := by simpa using g
            clear g
            go_wp2
            go_round
            case rel => exact ⟨m + 1, by omega, by go_num, int_eq (by rw [S1.out, if_pos Hg.out.symm]; omega)⟩
            case measure => simp [intOf] <;> omega
          · have Hg := Lib.hid (fun (e : y = x) => g e.symm)
            have g' : (x == y) = false := by simpa using g
            clear g
            go_wp2
            go_round
            case rel => exact ⟨m + 1, by omega, by go_num, int_eq (by rw [S1.out, if_neg Hg.out]; omega)⟩
            case measure => simp [intOf] <;> omega
        · have hnm : m = n := by omega
          subst hnm
          have S := Lib.hid (Hy.out x)
          have eT : l.take m = l := by rw [List.take_of_length_le (by rw [Hl.out]; exact Nat.le_refl _)]
          rw [eT]
          have HnT : Hid (¬ q < cntE l x → ∀ y ∈ l.take (k + 1), ¬ q < cntE l y) := by
            intro g y hy
            rw [take_snoc Hx.out, List.mem_append, List.mem_singleton] at hy
            rcases hy with hy | rfl
            · exact Hni.out y hy
            · exact g
          have hle : cntE l x ≤ m := by rw [eT] at hle1; exact hle1
          clear eT hle1
          generalize cntE l x = a at *
          by_cases g : q < a
          · obtain ⟨e1, e2⟩ := S.out g
            subst e1 e2
            clear S HnT
            go_wp2
            go_ret2
            exact ⟨rfl, rfl⟩
          · go_wp2
            go_round
            case rel => exact ⟨k + 1, by omega, by go_num, HnT.out (by omega)⟩
            case measure => simp [intOf] <;> omega
    · have hnk : k = n := by omega
      subst hnk
      have e := Hni.out
      rw [List.take_of_length_le (by rw [Hl.out]; exact Nat.le_refl _)] at e
      obtain ⟨e1, e2⟩ := Hno.out e
      subst e1 e2
      clear e
      go_wp2
      go_ret2
      exact ⟨rfl, rfl⟩
/-- The least of those near to most, among the first k. -/
def LeastP (l : List Int) (far : Int) (k : Nat) : Option Int → Prop
  | none => ∀ x ∈ l.take k, nearP l far x = false
  | some v => v ∈ l ∧ nearP l far v = true ∧ ∀ x ∈ l.take k, nearP l far x = true → v ≤ x
theorem LeastP_next {l : List Int} {far x : Int} {k : Nat} (hx : l[k]? = some x) {s : Option Int} (h : LeastP l far k s) (hn : nearP l far x = true → ∃ v, s = some v ∧ v ≤ x) : LeastP l far (k + 1) s := by
  cases s with
  | none =>
    intro y hy
    rw [take_snoc hx, List.mem_append, List.mem_singleton] at hy
    rcases hy with hy | rfl
    · exact h y hy
    · cases e : nearP l far y with
      | false => rfl
      | true => obtain ⟨v, hv, _⟩ := hn e; cases hv
  | some v =>
    refine ⟨h.1, h.2.1, fun y hy hp => ?_⟩
    rw [take_snoc hx, List.mem_append, List.mem_singleton] at hy
    rcases hy with hy | rfl
    · exact h.2.2 y hy hp
    · obtain ⟨u, hu, hle⟩ := hn hp
      cases hu
      exact hle
theorem LeastP_new {l : List Int} {far x : Int} {k : Nat} (hx : l[k]? = some x) {s : Option Int} (h : LeastP l far k s) (hp : nearP l far x = true) (hn : ∀ v, s = some v → x ≤ v) : LeastP l far (k + 1) (some x) := by
  refine ⟨List.mem_of_getElem? hx, hp, fun y hy hq => ?_⟩
  rw [take_snoc hx, List.mem_append, List.mem_singleton] at hy
  rcases hy with hy | rfl
  · cases s with
    | none => have := h y hy; rw [hq] at this; cases this
    | some v => have h1 := hn v rfl; have h2 := h.2.2 y hy hq; omega
  · exact Int.le_refl _
theorem LeastP_end {l : List Int} {far : Int} {s : Option Int} (h : LeastP l far l.length s) : nearF l far = s := by
  cases s with
  | none => exact nearF_no (fun x hx => h x (by rwa [List.take_length]))
  | some v => exact nearF_is h.1 h.2.1 (fun x hx hp => h.2.2 x (by rwa [List.take_length]) hp)

set_option maxHeartbeats 1600000 in
theorem ONear_any (A : Option Addr) (n c : Nat) (l : List Int) (far : Int) (w : World) (h : Rd w 1 A n (l.map (Value.int .i64))) (hn : n ≤ 4611686018427387904) :
    Calls Try.prog 17 #[.slice A n c, .int .i64 far] w fun e w' => e = .returned (.tuple #[.int .i64 (nearV l far), .int .i64 (nearE l far)]) ∧ w = w' := by
  have hl := h.lenMap
  obtain ⟨B, hB⟩ : ∃ B : Bool, B = (decide (400 < n) || decide (far < 0) || decide (1099511627776 < far)) := ⟨_, rfl⟩
  have H2 : Hid ((B || l.any outX) = true → nearE l far = 2 ∧ nearV l far = 0) := fun g => near_wrong (by
    rw [hB] at g
    simp only [Bool.or_eq_true, decide_eq_true_eq] at g
    unfold wrongN
    rw [hl]
    rcases g with ((g | g) | g) | g
    · exact .inl g
    · exact .inr (.inl g)
    · exact .inr (.inr (.inl g))
    · exact .inr (.inr (.inr g)))
  have hB2 : B = false → n ≤ 400 ∧ 0 ≤ far ∧ far ≤ 1099511627776 := fun g => by
    rw [hB] at g
    simp only [Bool.or_eq_false_iff, decide_eq_false_iff_not] at g
    omega
  have hnw : n ≤ 400 → 0 ≤ far → far ≤ 1099511627776 → l.any outX = false → ¬ wrongN l far := fun g1 g2 g3 g4 => by
    unfold wrongN
    rw [g4, hl]
    simp
    omega
  have HS : Hid (∀ s, n ≤ 400 → 0 ≤ far → far ≤ 1099511627776 → l.any outX = false → LeastP l far n s → (s = none → nearE l far = 3 ∧ nearV l far = 0) ∧ ∀ v, s = some v → nearE l far = 0 ∧ nearV l far = v) := fun s g1 g2 g3 g4 g5 => by
    rw [← hl] at g5
    have e := LeastP_end g5
    refine ⟨fun hs => ?_, fun v hs => ?_⟩
    · subst hs; exact near_none (hnw g1 g2 g3 g4) e
    · subst hs; exact near_some (hnw g1 g2 g3 g4) e
  have HB2 := Lib.hid hB2
  have Hin : Hid (l.any outX = false → ∀ x ∈ l, -1099511627776 ≤ x ∧ x ≤ 1099511627776) := fun ho x hx => by
    have := List.any_eq_false.1 ho x hx
    simp [outX] at this
    omega
  have C3 := Lib.hid (fun (x : Int) (g : 0 ≤ far ∧ far ≤ 1099511627776) (hx : -1099511627776 ≤ x ∧ x ≤ 1099511627776) => OCount_any A n c l x far w h hn (by omega) (by omega) (by omega) (by omega))
  have HP : Hid (∀ x, nearP l far x = decide (n / 2 < cntN l x far)) := fun x => by rw [nearP, hl]
  have Hle : Hid (∀ x, cntN l x far ≤ n) := fun x => by unfold cntN; rw [← hl]; exact List.countP_le_length
  have ed : (n : Int).tdiv 2 = ((n / 2 : Nat) : Int) := by
    rw [Int.tdiv_eq_ediv_of_nonneg (by omega)]; omega
  have hq2 : n / 2 ≤ n := by omega
  have Hl := Lib.hid hl
  have HB := Lib.hid hB
  generalize n / 2 = q at *
  generalize nearV l far = V at *
  generalize nearE l far = E at *
  clear hl hB hB2 hnw
  go_enter Try.func17, Try.ntmps17
  go_wp2
  all_goals
    go_loop [6, 26] (fun b i => ∃ (j : Nat) (t : Bool), j ≤ n ∧ i = .int .i64 j ∧ b = .bool t ∧ Hid (t = (B || (l.take j).any outX))) (fun _ i => n - (intOf i).toNat)
    case atStart => exact ⟨0, _, Nat.zero_le _, rfl, rfl, by show _ = _; rw [HB.out, List.take_zero, List.any_nil, Bool.or_false]; first | rw [show decide (400 < (n : Int)) = decide (400 < n) from decide_eq_decide.2 (by omega)] | (simp <;> omega)⟩
    case round =>
      obtain ⟨j, t, hj, rfl, rfl, Ht⟩ := hrel
      by_cases hlt : j < n
      · obtain ⟨ad, x, rfl, hx, hc⟩ := h.atMap hlt
        have Hx : Hid ((B || (l.take (j + 1)).any outX) = (t || outX x)) := by
          show _ = _
          rw [take_snoc hx, List.any_append, ← Bool.or_assoc, ← Ht.out]
          simp
        clear hx
        cases t
        · by_cases x1 : 1099511627776 < x
          · have Ho : Hid (outX x = true) := by show _ = _; simp [outX, x1]
            go_wp2
            go_round
            case rel => exact ⟨j + 1, true, by omega, by go_num, by simp, by show _ = _; rw [Hx.out, Ho.out]; rfl⟩
            case measure => simp [intOf] <;> omega
          · by_cases x2 : x < -1099511627776
            · have Ho : Hid (outX x = true) := by show _ = _; simp [outX, x2]
              have Hd : Hid ((decide (1099511627776 < x) || decide (x < -1099511627776)) = true) := by show _ = _; simp [x2]
              go_wp2
              go_round
              case rel => exact ⟨j + 1, true, by omega, by go_num, by first | rfl | exact congrArg Value.bool Hd.out | simp, by show _ = _; rw [Hx.out, Ho.out]; rfl⟩
              case measure => simp [intOf] <;> omega
            · have Ho : Hid (outX x = false) := by show _ = _; simp [outX]; omega
              have Hd : Hid ((decide (1099511627776 < x) || decide (x < -1099511627776)) = false) := by show _ = _; simp; omega
              go_wp2
              go_round
              case rel => exact ⟨j + 1, false, by omega, by go_num, by first | rfl | exact congrArg Value.bool Hd.out | (simp; omega), by show _ = _; rw [Hx.out, Ho.out]; rfl⟩
              case measure => simp [intOf] <;> omega
        · go_wp2
          go_round
          case rel => exact ⟨j + 1, true, by omega, by go_num, rfl, by show _ = _; rw [Hx.out]; simp⟩
          case measure => simp [intOf] <;> omega
      · have hnk : j = n := by omega
        subst hnk
        have Ht2 : Hid (t = (B || l.any outX)) := by
          have e := Ht.out
          rwa [List.take_of_length_le (by rw [Hl.out]; exact Nat.le_refl _)] at e
        cases t
        · have e := Bool.or_eq_false_iff.1 Ht2.out.symm
          obtain ⟨q1, q2, q3⟩ := HB2.out e.1
          have He := Lib.hid e.2
          clear e Ht Ht2 H2 HB2 HB
          go_wp2
          go_loop [9, 10, 43] (fun v b i => ∃ (k : Nat) (s : Option Int), k ≤ j ∧ i = .int .i64 k ∧ v = .int .i64 (s.getD 0) ∧ b = .bool s.isSome ∧ Hid (LeastP l far k s)) (fun _ _ i => j - (intOf i).toNat)
          case atStart => exact ⟨0, none, Nat.zero_le _, rfl, rfl, rfl, by show LeastP _ _ _ _; intro x hx; simp at hx⟩
          case round =>
            obtain ⟨k, s, hk, rfl, rfl, rfl, HL⟩ := hrel
            by_cases hlt : k < j
            · obtain ⟨ad, x, rfl, hx, hc⟩ := h.atMap hlt
              have Hx := Lib.hid hx
              have hin := Hin.out He.out x (List.mem_of_getElem? hx)
              have hle := Hle.out x
              have Hpx := Lib.hid (HP.out x)
              have C := Lib.hid (C3.out x ⟨q2, q3⟩ hin)
              clear hx
              generalize cntN l x far = m at *
              by_cases hp : q < m
              · have Hp : Hid (nearP l far x = true) := by show _ = _; rw [Hpx.out]; exact decide_eq_true hp
                cases s with
                | none =>
                  simp only [Option.getD_none, Option.isSome_none]
                  go_wp2_with fail
                  refine C.out.mono ?_
                  rintro e w1 ⟨rfl, rfl⟩
                  go_wp2
                  go_round
                  case rel => exact ⟨k + 1, some x, by omega, by go_num, rfl, rfl, LeastP_new Hx.out HL.out Hp.out (fun v hv => by cases hv)⟩
                  case measure => simp [intOf] <;> omega
                | some v =>
                  simp only [Option.getD_some, Option.isSome_some]
                  by_cases hv : x < v
                  · go_wp2_with fail
                    refine C.out.mono ?_
                    rintro e w1 ⟨rfl, rfl⟩
                    go_wp2
                    go_round
                    case rel => exact ⟨k + 1, some x, by omega, by go_num, rfl, rfl, LeastP_new Hx.out HL.out Hp.out (fun u hu => by cases hu; omega)⟩
                    case measure => simp [intOf] <;> omega
                  · go_wp2_with fail
                    refine C.out.mono ?_
                    rintro e w1 ⟨rfl, rfl⟩
                    go_wp2
                    all_goals
                      go_round
                      case rel => exact ⟨k + 1, some v, by omega, by go_num, rfl, rfl, LeastP_next Hx.out HL.out (fun _ => ⟨v, rfl, by omega⟩)⟩
                      case measure => simp [intOf] <;> omega
              · have Hp : Hid (¬ nearP l far x = true) := by show ¬ _; rw [Hpx.out]; simpa using (show m ≤ q by omega)
                go_wp2_with fail
                refine C.out.mono ?_
                rintro e w1 ⟨rfl, rfl⟩
                go_wp2
                go_round
                case rel => exact ⟨k + 1, s, by omega, by go_num, rfl, rfl, LeastP_next Hx.out HL.out (fun g => absurd g Hp.out)⟩
                case measure => simp [intOf] <;> omega
            · have hnk : k = j := by omega
              subst hnk
              obtain ⟨f1, f2⟩ := HS.out s q1 q2 q3 He.out HL.out
              cases s with
              | none =>
                obtain ⟨rfl, rfl⟩ := f1 rfl
                simp only [Option.getD_none, Option.isSome_none]
                clear f1 f2
                go_wp2
                go_ret2
                exact ⟨rfl, rfl⟩
              | some v =>
                obtain ⟨rfl, rfl⟩ := f2 v rfl
                simp only [Option.getD_some, Option.isSome_some]
                clear f1 f2
                go_wp2
                go_ret2
                exact ⟨rfl, rfl⟩
        · obtain ⟨rfl, rfl⟩ := H2.out Ht2.out.symm
          go_wp2
          go_ret2
          exact ⟨rfl, rfl⟩
end Go.Proofs.Ytiaemlfkpnpkaaa
