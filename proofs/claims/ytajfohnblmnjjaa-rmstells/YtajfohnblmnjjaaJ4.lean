/-
  Contracts of rta.isWrong, Wrong, and of slices.IndexFunc and ContainsFunc at tasks; of the reference's SWrong. For every input.
-/
import Derived.Test.YtajfohnblmnjjaaJ3
import Derived.Shelf.Abstract
import Derived.Test.YtajfohnblmnjjaaRegion
import Derived.Test.YtajfohnblmnjjaaRegionF
import Derived.Deep.QuietTactic
import Derived.BigQuiet
import Derived.Deep.CutBlock
import Derived.Deep.DeepCutAuto
namespace Go.Proofs.Ytajfohnblmnjjaa
open Go.RowKit
set_option linter.unusedVariables false

set_option maxHeartbeats 800000 in
theorem isWrongK_any (p c : Int) (w : World) : Calls Try.prog 47 #[.agg #[.int .i64 p, .int .i64 c]] w fun e w' => e = .returned (.bool (badK ⟨p, c⟩)) ∧ Below w.heap.size w w' := by
  by_cases hok : 1 ≤ p ∧ p ≤ 10000 ∧ 1 ≤ c ∧ c ≤ p
  · obtain ⟨h1, h2, h3, h4⟩ := hok
    rw [badK_false (show Tsk.Fit ⟨p, c⟩ from ⟨h3, h4, h2⟩)]
    go_enter Try.func47, Try.ntmps47
    go_wp2
    go_ret
    exact ⟨ret_bool (by simp; omega), below_one _⟩
  · rw [badK_true (show ¬ Tsk.Fit ⟨p, c⟩ by unfold Tsk.Fit; simp only; omega)]
    have hc : p < 1 ∨ (1 ≤ p ∧ 10000 < p) ∨ (1 ≤ p ∧ p ≤ 10000 ∧ c < 1) ∨ (1 ≤ p ∧ p ≤ 10000 ∧ 1 ≤ c ∧ p < c) := by omega
    clear hok
    rcases hc with h1 | ⟨h1, h2⟩ | ⟨h1, h2, h3⟩ | ⟨h1, h2, h3, h4⟩
    all_goals
      go_enter Try.func47, Try.ntmps47
      go_wp2
      go_ret
      exact ⟨rfl, below_one _⟩
theorem enterWrongK : ∀ args w, (callFunc 47 args).run Try.prog w = .ok (.enter 47 args) w := enters_of Try.func47 (by kernel_rfl) rfl
/-- Called at each element of l, in whatever later world, the function gives p of it, and makes memory at most. -/
def PredK (g : Nat) (lb : Array Value) (p : Tsk → Bool) (l : List Tsk) (w : World) : Prop :=
  ∀ x ∈ l, ∀ W, Below w.heap.size w W → Calls Try.prog g (#[.agg #[.int .i64 x.p, .int .i64 x.c]] ++ lb) W fun e w' => e = .returned (.bool (p x)) ∧ Below W.heap.size W w'

set_option maxHeartbeats 800000 in
theorem IndexFuncK_any (g : Nat) (lb : Array Value) (eg : ∀ args w, (callFunc g args).run Try.prog w = .ok (.enter g args) w) (p : Tsk → Bool) (A : Option Addr) (n c : Nat) (l : List Tsk) (w : World) (h : RdG tskC 2 w A n l) (hp : PredK g lb p l w) (hn : n ≤ 4611686018427387904) :
    Calls Try.prog 68 #[.slice A n c, .func (.func g) #[] lb] w fun e w' => ∃ r : Int, e = .returned (.int .i64 r) ∧ ((r = -1 ∧ ∀ x ∈ l, p x = false) ∨ ∃ (k : Nat) (x : Tsk), r = k ∧ l[k]? = some x ∧ p x = true) ∧ Below w.heap.size w w' := by
  have Hl := Lib.hid (RdG.len tskK h)
  have Hp := Lib.hid hp; clear hp
  go_enter Try.func68, Try.ntmps68
  go_wp2
  go_loopw [8] (fun i wr => ∃ k : Nat, k ≤ n ∧ i = .int .i64 k ∧ (∀ x ∈ l.take k, p x = false) ∧ Below w.heap.size w wr) (fun i _ => n - (intOf i).toNat)
  case atStart => exact ⟨0, Nat.zero_le _, rfl, by simp, Below.refl _ _⟩
  case round =>
    obtain ⟨k, hk, rfl, hni, hbl⟩ := hrel
    have Hni := Lib.hid hni; clear hni
    by_cases hlt : k < n
    · obtain ⟨ad, ⟨tp, tc⟩, rfl, hx, hc0, hc1⟩ := tsk_at (h.below hbl) hlt
      have hcall := Hp.out _ (List.mem_of_getElem? hx) wr hbl
      have Hx := Lib.hid hx; clear hx
      simp only at hcall hc0 hc1
      cases hq : p ⟨tp, tc⟩ with
      | true =>
        rw [hq] at hcall
        have Hq := Lib.hid hq; clear hq
        go_wp2_with (go_at_fn g; refine hcall.mono ?_; rintro e w' ⟨rfl, hb'⟩)
        go_ret
        exact ⟨_, rfl, .inr ⟨k, _, rfl, Hx.out, Hq.out⟩, bthen hbl hb'⟩
      | false =>
        rw [hq] at hcall
        have Hq := Lib.hid hq; clear hq
        go_wp2_with (go_at_fn g; refine hcall.mono ?_; rintro e w' ⟨rfl, hb'⟩)
        go_roundw
        case rel =>
          refine ⟨k + 1, by omega, by go_num, ?_, bthen hbl hb'⟩
          rw [take_snoc Hx.out]
          intro y hy
          rcases List.mem_append.1 hy with h | h
          · exact Hni.out y h
          · rw [List.mem_singleton.1 h]; exact Hq.out
        case measure => simp [intOf] <;> omega
    · have hnk : k = n := by omega
      subst hnk
      go_wp2
      go_ret
      refine ⟨_, rfl, .inl ⟨rfl, ?_⟩, hbl⟩
      have e := Hni.out
      rwa [List.take_of_length_le (by rw [Hl.out]; exact Nat.le_refl _)] at e
theorem ContainsFuncK_any (g : Nat) (lb : Array Value) (eg : ∀ args w, (callFunc g args).run Try.prog w = .ok (.enter g args) w) (p : Tsk → Bool) (A : Option Addr) (n c : Nat) (l : List Tsk) (w : World) (h : RdG tskC 2 w A n l) (hp : PredK g lb p l w) (hn : n ≤ 4611686018427387904) :
    Calls Try.prog 46 #[.slice A n c, .func (.func g) #[] lb] w fun e w' => e = .returned (.bool (l.any p)) ∧ Below w.heap.size w w' := by
  have hI := IndexFuncK_any g lb eg p A n c l w h hp hn
  clear h hp
  go_enter Try.func46, Try.ntmps46
  go_wp2_with (go_at_call 68; refine hI.mono ?_; rintro e w' ⟨r, rfl, hr, hb⟩)
  go_ret
  refine ⟨ret_bool ?_, hb⟩
  rcases hr with ⟨rfl, hr⟩ | ⟨k, x, rfl, hx, hpx⟩
  · rw [List.any_eq_false.2 (fun x hx => by simp [hr x hx])]; rfl
  · rw [List.any_eq_true.2 ⟨x, List.mem_of_getElem? hx, hpx⟩]; simp

set_option maxHeartbeats 800000 in
theorem WrongK_any (A : Option Addr) (n c : Nat) (L : List Tsk) (w : World) (h : RdG tskC 2 w A n L) (hn : n ≤ 4611686018427387904) :
    Calls Try.prog 22 #[.slice A n c] w fun e w' => e = .returned (.int .i64 (errK L)) ∧ Below w.heap.size w w' := by
  have Hl := Lib.hid (RdG.len tskK h)
  by_cases h16 : 16 < n
  · have hd : decide ((n : Int) > 16) = true := decide_eq_true (by omega)
    rw [errK_two (L := L) (by unfold wrongK; rw [Hl.out, decide_eq_true h16]; rfl)]
    go_enter Try.func22, Try.ntmps22
    go_wp2
    go_ret
    exact ⟨rfl, Below.refl _ _⟩
  · have hd : decide ((n : Int) > 16) = false := decide_eq_false (by omega)
    have HC := Lib.hid (ContainsFuncK_any 47 #[] enterWrongK badK A n c L w h (fun x _ W' _ => isWrongK_any x.p x.c W') hn)
    have hw : wrongK L = L.any badK := by unfold wrongK; rw [Hl.out, decide_eq_false h16]; rfl
    cases ha : L.any badK
    · rw [ha] at HC hw
      rw [errK_zero hw]
      clear ha hw
      go_enter Try.func22, Try.ntmps22
      go_wp2_with fail
      refine HC.out.mono ?_
      rintro e w2 ⟨rfl, hb2⟩
      go_wp2
      go_ret
      exact ⟨rfl, hb2⟩
    · rw [ha] at HC hw
      rw [errK_two hw]
      clear ha hw
      go_enter Try.func22, Try.ntmps22
      go_wp2_with fail
      refine HC.out.mono ?_
      rintro e w2 ⟨rfl, hb2⟩
      go_wp2
      go_ret
      exact ⟨rfl, hb2⟩

set_option maxHeartbeats 800000 in
theorem SWrong_any (A : Option Addr) (n c : Nat) (L : List Tsk) (w : World) (h : RdG tskC 2 w A n L) (hn : n ≤ 4611686018427387904) :
    Calls Try.prog 13 #[.slice A n c] w fun e w' => e = .returned (.int .i64 (errK L)) ∧ Below w.heap.size w w' := by
  have Hl := Lib.hid (RdG.len tskK h)
  go_enter Try.func13, Try.ntmps13
  go_wp2
  go_loopw [3, 11] (fun v i wr => ∃ (k : Nat) (b : Bool), k ≤ n ∧ i = .int .i64 k ∧ v = .bool b ∧ b = (decide (L.length ≤ 16) && (L.take k).all fun t => !badK t) ∧ Below w.heap.size w wr) (fun _ i _ => n - (intOf i).toNat)
  case atStart =>
    refine ⟨0, _, Nat.zero_le _, rfl, rfl, ?_, Below.refl _ _⟩
    simp [Hl.out]; omega
  case round =>
    obtain ⟨k, b, hk, rfl, rfl, hacc, hbl⟩ := hrel
    have Hacc := Lib.hid hacc; clear hacc
    by_cases hlt : k < n
    · obtain ⟨ad, ⟨p, t⟩, rfl, hx, hc0, hc1⟩ := tsk_at (h.below hbl) hlt
      have Hx : Hid (((decide (L.length ≤ 16) && (L.take (k + 1)).all fun t => !badK t)) = (b && !badK ⟨p, t⟩)) := by
        show _ = _
        rw [take_snoc hx, List.all_append, ← Bool.and_assoc, ← Hacc.out]; simp
      clear hx
      simp only at hc0 hc1
      cases b
      · go_wp2
        go_roundw
        case rel => exact ⟨k + 1, false, by omega, by go_num, rfl, by rw [Hx.out]; rfl, hbl.alloc hbl.size _⟩
        case measure => simp [intOf] <;> omega
      · have hc : (1 ≤ p ∧ p ≤ 10000 ∧ 1 ≤ t ∧ t ≤ p) ∨ p < 1 ∨ (1 ≤ p ∧ 10000 < p) ∨ (1 ≤ p ∧ p ≤ 10000 ∧ t < 1) ∨ (1 ≤ p ∧ p ≤ 10000 ∧ 1 ≤ t ∧ p < t) := by omega
        rcases hc with ⟨h1, h2, h3, h4⟩ | hc
        · have Hf : Hid (badK ⟨p, t⟩ = false) := badK_false ⟨h3, h4, h2⟩
          go_wp2
          go_roundw
          case rel => exact ⟨k + 1, true, by omega, by go_num, by simp <;> omega, by rw [Hx.out, Hf.out]; rfl, hbl.alloc hbl.size _⟩
          case measure => simp [intOf] <;> omega
        · have Hf : Hid (badK ⟨p, t⟩ = true) := badK_true (by unfold Tsk.Fit; simp only; omega)
          rcases hc with h1 | ⟨h1, h2⟩ | ⟨h1, h2, h3⟩ | ⟨h1, h2, h3, h4⟩
          all_goals
            go_wp2
            go_roundw
            case rel => exact ⟨k + 1, false, by omega, by go_num, by (first | rfl | (simp; omega)), by rw [Hx.out, Hf.out]; rfl, hbl.alloc hbl.size _⟩
            case measure => simp [intOf] <;> omega
    · obtain rfl : k = n := by omega
      have HR : Hid (b = !wrongK L) := by
        show _ = _
        rw [Hacc.out, List.take_of_length_le (by rw [Hl.out]; exact Nat.le_refl _)]
        unfold wrongK
        rw [Bool.not_or, List.not_any_eq_all_not]
        congr 1
        by_cases g : L.length ≤ 16
        · rw [decide_eq_true g, decide_eq_false (by omega)]; rfl
        · rw [decide_eq_false g, decide_eq_true (by omega)]; rfl
      cases b
      · go_wp2
        go_ret
        exact ⟨ret_int (by rw [errK_two (by have := HR.out; revert this; cases wrongK L <;> simp)]), hbl⟩
      · go_wp2
        go_ret
        exact ⟨ret_int (by rw [errK_zero (by have := HR.out; revert this; cases wrongK L <;> simp)]), hbl⟩
end Go.Proofs.Ytajfohnblmnjjaa

/-
  Contracts of rta's functions work, response, Ends. No statement of the seat is here.
-/
namespace Go.Proofs.Ytajfohnblmnjjaa
open Go.RowKit
set_option linter.unusedVariables false

set_option maxHeartbeats 800000 in
theorem work_any (A : Option Addr) (n c : Nat) (M : List Tk) (hM : GoodK M) (r : Nat) (hr : r ≤ 20000) (w : World) (h : RdG tkC 2 w A n M) :
    Calls Try.prog 67 #[.slice A n c, .int .i64 (r : Int)] w fun e w' => e = .returned (.int .i64 (need M r : Int)) ∧ Below w.heap.size w w' := by
  have Hl := Lib.hid (RdG.len tkK h)
  have HM := Lib.hid hM; clear hM
  have hn16 : n ≤ 16 := by have := HM.out.len; rw [Hl.out] at this; exact this
  go_enter Try.func67, Try.ntmps67
  go_wp2
  go_loopw [5, 11] (fun v i wr => ∃ (k s : Nat), k ≤ n ∧ i = .int .i64 k ∧ v = .int .i64 s ∧ s = need (M.take k) r ∧ Below w.heap.size w wr) (fun _ i _ => n - (intOf i).toNat)
  case atStart => exact ⟨0, 0, Nat.zero_le _, rfl, rfl, by simp [need], Below.refl _ _⟩
  case round =>
    obtain ⟨k, s, hk, rfl, rfl, hacc, hbl⟩ := hrel
    have Hacc := Lib.hid hacc
    have hs : s ≤ 480000 := by rw [hacc]; exact (HM.out.take k).need hr
    clear hacc
    by_cases hlt : k < n
    · obtain ⟨ad, p, t, rfl, hx, hc0, hc1⟩ := tk_at (h.below hbl) hlt
      obtain ⟨h1, h2, h3⟩ := HM.out.at_ hx
      simp only at h1 h2 h3
      have Hx : Hid (need (M.take (k + 1)) r = need (M.take k) r + up r p * t) := need_snoc hx r
      have hz := one_size (t := ⟨p, t⟩) ⟨h1, h2, h3⟩ r
      simp only at hz
      have hu : ((r : Int) + (p : Int) - 1) / (p : Int) = ((up r p : Nat) : Int) := by
        unfold up
        rw [Int.natCast_ediv, Int.natCast_add, Int.natCast_sub (show 1 ≤ p by omega)]
        congr 1
        omega
      have hm : ((up r p : Nat) : Int) * (t : Int) = ((up r p * t : Nat) : Int) := (Int.natCast_mul _ _).symm
      have hu2 : up r p ≤ 30000 := by
        have := Nat.le_mul_of_pos_right (up r p) (show 0 < t by omega)
        omega
      clear hx
      generalize hU : up r p = U at *
      generalize hX : U * t = X at *
      clear hU hX
      go_wp2
      go_roundw
      case rel => exact ⟨k + 1, s + X, by omega, by go_num, by go_num, by rw [Hx.out, ← Hacc.out], hbl.alloc hbl.size _⟩
      case measure => simp [intOf] <;> omega
    · obtain rfl : k = n := by omega
      go_wp2
      go_ret
      refine ⟨ret_int ?_, hbl⟩
      rw [Hacc.out, List.take_of_length_le (by rw [Hl.out]; exact Nat.le_refl _)]

/-- The search ended: the least end, or none. -/
def Found (pre : List Tk) (t : Tk) (g : Nat) : Prop := EndIs pre t g ∨ (NoEnd pre t ∧ t.p < g ∧ g ≤ 500000)
set_option maxHeartbeats 800000 in
theorem response_any (p t : Nat) (ht : Tk.Ok ⟨p, t⟩) (A : Option Addr) (n c : Nat) (M : List Tk) (hM : GoodK M) (w : World) (h : RdG tkC 2 w A n M) :
    Calls Try.prog 45 #[.agg #[.int .i64 (p : Int), .int .i64 (t : Int)], .slice A n c] w fun e w' => ∃ g : Nat, e = .returned (.int .i64 (g : Int)) ∧ Found M ⟨p, t⟩ g ∧ Below w.heap.size w w' := by
  obtain ⟨h1, h2, h3⟩ := ht
  simp only at h1 h2 h3
  have HM := Lib.hid hM; clear hM
  have C := Lib.hid (fun (W : World) (r : Nat) (hr : r ≤ 20000) (hw : Below w.heap.size w W) => work_any A n c M HM.out r hr W (h.below hw))
  clear h
  go_enter Try.func45, Try.ntmps45
  go_wp2
  go_loopw [5] (fun v wr => ∃ g : Nat, v = .int .i64 g ∧ g ≤ 500000 ∧ Hid (Seek M ⟨p, t⟩ g) ∧ Box wr w.heap.size 38 [.int .i64 (p : Int), .int .i64 (t : Int)] ∧ Below w.heap.size w wr) (fun v _ => 10001 - (intOf v).toNat)
  case atStart => exact ⟨t, rfl, by omega, Seek.start _ _, Box.new _ _ _, below_one _⟩
  case round =>
    obtain ⟨g, rfl, hg, HS, hbx, hbl⟩ := hrel
    have hc0 := hbx.cell 0 rfl
    by_cases hle : g ≤ p
    · have hcl : Hid (∀ W, Below wr.heap.size wr W → Box W w.heap.size 38 [.int .i64 (p : Int), .int .i64 (t : Int)]) := fun W hW => hbx.below hW hbx.lt
      have hN : need M g ≤ 480000 := HM.out.need (by omega)
      have Hm := Lib.hid HS.out.more
      have C2 := Lib.hid (fun (W : World) (hw : Below wr.heap.size wr W) => C.out W g (by omega) (bthen hbl hw))
      generalize hU : need M g = U at *
      have HU := Lib.hid hU
      clear hU
      go_wp2
      have hB : Below wr.heap.size wr wr.drew := (Below.refl _ _).drew
      refine wp_region_B (by kernel_rfl) ?_
      refine wpAnyB_take (i := 0) (oi := { dst := some 13, op := Op.fieldAddr 38 (Go.Operand.tmp 2) 1, type := 0, pos := "rta.go:76", after := #[], guard := none }) (v := ?v1) rfl (by kernel_rfl) (by kernel_rfl) (by kernel_rfl) (fun _ _ _ h => h) (Or.inl ⟨by rfl, ?hy1⟩) ?rs1
      case hy1 => (intro W hW; go_simp; try with_reducible rfl)
      try simp only [Act.put, List.setIfInBounds_toArray, List.set_cons_zero, List.set_cons_succ]
      refine wpAnyB_take (i := 1) (oi := { dst := some 14, op := Op.load 3 (Go.Operand.tmp 13), type := 3, pos := "rta.go:76", after := #[{ on := 0, ground := Ground.data }], guard := none }) (v := ?v2) rfl (by kernel_rfl) (by kernel_rfl) (by kernel_rfl) (fun _ _ _ h => h) (Or.inl ⟨by rfl, ?hy2⟩) ?rs2
      case hy2 => (intro W hW; have hcv := (hcl.out W (bthen hB hW)).cell 1 rfl; go_simp; try with_reducible rfl)
      try simp only [Act.put, List.setIfInBounds_toArray, List.set_cons_zero, List.set_cons_succ]
      refine wpAnyB_take (i := 2) (oi := { dst := some 15, op := Op.move (Go.Operand.tmp 1), type := 22, pos := "rta.go:76", after := #[], guard := none }) (v := ?v3) rfl (by kernel_rfl) (by kernel_rfl) (by kernel_rfl) (fun _ _ _ h => h) (Or.inl ⟨by rfl, ?hy3⟩) ?rs3
      case hy3 => (intro W hW; go_simp; try with_reducible rfl)
      try simp only [Act.put, List.setIfInBounds_toArray, List.set_cons_zero, List.set_cons_succ]
      refine wpAnyB_take (i := 3) (oi := { dst := some 16, op := Op.move (Go.Operand.tmp 5), type := 3, pos := "rta.go:76", after := #[], guard := none }) (v := ?v4) rfl (by kernel_rfl) (by kernel_rfl) (by kernel_rfl) (fun _ _ _ h => h) (Or.inl ⟨by rfl, ?hy4⟩) ?rs4
      case hy4 => (intro W hW; go_simp; try with_reducible rfl)
      try simp only [Act.put, List.setIfInBounds_toArray, List.set_cons_zero, List.set_cons_succ]
      refine wpAnyB_one (i := 4) (o := { dst := some 17, op := Op.call { callee := Callee.value (Go.Operand.func 67), args := #[Go.Operand.tmp 15, Go.Operand.tmp 16], argTypes := #[22, 3] }, type := 3, pos := "rta.go:76", after := #[{ on := 2, ground := Ground.data }, { on := 3, ground := Ground.data }], guard := none }) (by kernel_rfl) rfl (fun K hK => ?_)
      go_simp
      refine (C2.out _ hB).mono ?_; rintro e w7 ⟨rfl, hbk⟩; replace hB := bthen hB hbk
      refine hK.out _ _ hbk ?_
      clear hK K
      try simp only [Act.put, List.setIfInBounds_toArray, List.set_cons_zero, List.set_cons_succ]
      refine wpAnyB_take (i := 5) (oi := { dst := some 18, op := Op.binOp Go.BinOp.add 3 (Go.Operand.tmp 14) (Go.Operand.tmp 17) 3, type := 3, pos := "rta.go:76", after := #[{ on := 1, ground := Ground.data }, { on := 4, ground := Ground.data }], guard := none }) (v := ?v5) rfl (by kernel_rfl) (by kernel_rfl) (by kernel_rfl) (fun _ _ _ h => h) (Or.inl ⟨by rfl, ?hy5⟩) ?rs5
      case hy5 => (intro W hW; go_simp; try with_reducible rfl)
      try simp only [Act.put, List.setIfInBounds_toArray, List.set_cons_zero, List.set_cons_succ]
      refine wpAnyB_take (i := 6) (oi := { dst := some 6, op := Op.assign (Go.Operand.tmp 18), type := 3, pos := "rta.go:76", after := #[{ on := 5, ground := Ground.data }, { on := 4, ground := Ground.chain }, { on := 0, ground := Ground.phase }, { on := 1, ground := Ground.phase }, { on := 2, ground := Ground.phase }, { on := 3, ground := Ground.phase }, { on := 4, ground := Ground.phase }, { on := 5, ground := Ground.phase }], guard := none }) (v := ?v6) rfl (by kernel_rfl) (by kernel_rfl) (by kernel_rfl) (fun _ _ _ h => h) (Or.inl ⟨by rfl, ?hy6⟩) ?rs6
      case hy6 => (intro W hW; go_simp; try with_reducible rfl)
      try simp only [Act.put, List.setIfInBounds_toArray, List.set_cons_zero, List.set_cons_succ]
      refine wpAnyB_done (by kernel_rfl) ?_
      have hbx7 := hcl.out _ hB
      have hc7 := hbx7.cell 0 rfl
      by_cases he : t + U = g
      · have hd : decide ((t : Int) + (U : Int) = (g : Int)) = true := decide_eq_true (by omega)
        have HF : Hid (EndIs M ⟨p, t⟩ g) := HS.out.done (by rw [HU.out]; exact he) hle
        have hwr : IntKind.i64.wrap ((t : Int) + (U : Int)) = (g : Int) := by rw [show (t : Int) + (U : Int) = (g : Int) by omega]; exact IntWalk.i64_in _ (by omega)
        clear HU
        go_wp2
        go_ret
        exact ⟨g, rfl, .inl HF.out, bthen hbl hB⟩
      · have hwr : IntKind.i64.wrap ((t : Int) + (U : Int)) = ((t + U : Nat) : Int) := by rw [← Int.natCast_add]; exact IntWalk.i64_in _ (by omega)
        have HN : Hid (Seek M ⟨p, t⟩ (t + U)) := by have := HS.out.next; rw [HU.out] at this; exact this
        have hgt : g < t + U := by have := Hm.out; (first | omega | (simp only at this; omega))
        have hV5 : t + U ≤ 500000 := by omega
        generalize t + U = V at *
        clear HU
        go_wp2
        go_roundw
        case rel => exact ⟨V, int_eq hwr, by omega, HN, hbx7, bthen hbl hB⟩
        case measure => simp [intOf] <;> omega
    · go_wp2
      go_ret
      exact ⟨g, rfl, .inr ⟨HS.out.none (by simp only; omega), by simp only; omega, hg⟩, hbl⟩
end Go.Proofs.Ytajfohnblmnjjaa

/-
  s[:k] and s[k:] of a slice whose elements have several cells. No statement of the seat is here.
-/
namespace Go.Proofs.Ytajfohnblmnjjaa
open Go.RowKit

section
variable {α : Type} {g : α → List Value} {m : Nat}
theorem flat_take (hg : ∀ x, (g x).length = m) : ∀ (L : List α) (k : Nat), (L.take k).flatMap g = (L.flatMap g).take (k * m)
  | [], k => by simp
  | x :: r, 0 => by simp
  | x :: r, k + 1 => by
    have e : (k + 1) * m - m = k * m := by rw [Nat.succ_mul]; omega
    have h1 : (g x).take ((k + 1) * m) = g x := List.take_of_length_le (by rw [hg, Nat.succ_mul]; omega)
    rw [List.take_succ_cons, List.flatMap_cons, List.flatMap_cons, flat_take hg r k, List.take_append, h1, hg, e]
theorem flat_drop (hg : ∀ x, (g x).length = m) : ∀ (L : List α) (k : Nat), (L.drop k).flatMap g = (L.flatMap g).drop (k * m)
  | [], k => by simp
  | x :: r, 0 => by simp
  | x :: r, k + 1 => by
    have e : (k + 1) * m - m = k * m := by rw [Nat.succ_mul]; omega
    have h1 : (g x).drop ((k + 1) * m) = [] := List.drop_eq_nil_of_le (by rw [hg, Nat.succ_mul]; omega)
    rw [List.drop_succ_cons, List.flatMap_cons, flat_drop hg r k, List.drop_append, h1, hg, e, List.nil_append]
theorem RdG.takeTo {w : World} {A : Option Addr} {n k : Nat} {L : List α} (hg : ∀ x, (g x).length = m) (h : RdG g m w A n L) (hk : k ≤ n) : RdG g m w A k (L.take k) := by
  have := Rd.take h hk
  rwa [← flat_take hg] at this
theorem RdG.cutFrom {w : World} {A : Option Addr} {n k cap : Nat} {L : List α} (hg : ∀ x, (g x).length = m) (h : RdG g m w A n L) (hk : k ≤ n) (hc : n ≤ cap) : RdG g m w (if cap = k then A else A.map (·.add (k * m))) (n - k) (L.drop k) := by
  have := Rd.cut h hk hc
  rwa [← flat_drop hg] at this
end
end Go.Proofs.Ytajfohnblmnjjaa

/-
  Contract of rta.Ends, for every list of tasks.
-/
namespace Go.Proofs.Ytajfohnblmnjjaa
open Go.RowKit
set_option linter.unusedVariables false

def natL (R : List Nat) : List Int := R.map fun r : Nat => (r : Int)
theorem natL_len (R : List Nat) : (natL R).length = R.length := by simp [natL]
theorem natL_at {R : List Nat} {k r : Nat} (h : R[k]? = some r) : (natL R)[k]? = some (r : Int) := by simp [natL, h]
theorem natL_snoc (R : List Nat) (r : Nat) : natL (R ++ [r]) = natL R ++ [(r : Int)] := by simp [natL]
theorem natL_inj {R S : List Nat} (h : natL R = natL S) : R = S := by
  have := congrArg (List.map Int.toNat) h
  simpa [natL, List.map_map, Function.comp_def] using this
/-- What Ends gives. -/
def GivesEnds (L : List Tsk) (w : World) (e : Ending) (w' : World) : Prop :=
  ((wrongK L = true ∧ e = .returned (.tuple #[.slice none 0 0, .int .i64 2])) ∨
   (∃ M, L = M.map Tk.asT ∧ GoodK M ∧ ((NoEnds M ∧ e = .returned (.tuple #[.slice none 0 0, .int .i64 4])) ∨
     ∃ R A c, EndsAre M R ∧ e = .returned (.tuple #[.slice A M.length c, .int .i64 0]) ∧ Ow (Value.int .i64) w' w.heap.size 3 (.slice A M.length c) (natL R)))) ∧ Below w.heap.size w w'
/-- Before the end, the first k are told. -/
theorem fill_put {R : List Nat} {n k : Nat} {x : Int} (hl : R.length = k) (h : k < n) : (natL R ++ List.replicate (n - k) (0 : Int)).set k x = natL R ++ [x] ++ List.replicate (n - (k + 1)) 0 := by
  obtain ⟨m, rfl⟩ : ∃ m, n = k + 1 + m := ⟨n - (k + 1), by omega⟩
  rw [List.set_append_right _ _ (by rw [natL_len]; omega), natL_len, hl, Nat.sub_self, show k + 1 + m - k = m + 1 by omega, List.replicate_succ, List.set_cons_zero, show k + 1 + m - (k + 1) = m by omega, List.append_assoc]; rfl

set_option maxRecDepth 20000 in
set_option maxHeartbeats 1600000 in
theorem Ends_any (A : Option Addr) (n c : Nat) (L : List Tsk) (w : World) (h : RdG tskC 2 w A n L) (hc : n ≤ c) (hn : n ≤ 140737488355328) :
    Calls Try.prog 20 #[.slice A n c] w (GivesEnds L w) := by
  have Hl := Lib.hid (RdG.len tskK h)
  have HW := Lib.hid (WrongK_any A n c L w h (by omega))
  cases hw : wrongK L
  · rw [errK_zero hw] at HW
    obtain ⟨M, rfl, hM⟩ := good_of hw
    clear hw
    have hl : M.length = n := by have := Hl.out; simpa using this
    have hn16 : n ≤ 16 := by have := hM.len; omega
    have Hl := Lib.hid hl
    replace h := tk_rd h
    have hmk : ∀ W : World, (Instr.makeSlice 40 (.int .i64 n) (.int .i64 n)).run Try.prog W = .ok (.slice (some ⟨W.heap.size, 0, none⟩) n n) (W.alloc (.cells (madeCells #[.int .i64 0] n) 3)) := run_mk elInt rfl .i64 .i64 n n (Nat.le_refl _) (by omega) (by omega)
    have HM := Lib.hid hM
    clear hl hM
    go_enter Try.func20, Try.ntmps20
    go_wp2_with fail
    refine HW.out.mono ?_
    rintro e w1 ⟨rfl, hb1⟩
    clear HW
    have ho1 := Ow.make (Value.int .i64) 0 w1 3 (base := w.heap.size) n (by unfold maxLen; omega) hb1.size
    have hb2 : Below w.heap.size w (w1.alloc (.cells (madeCells #[.int .i64 0] n) 3)) := hb1.alloc hb1.size _
    go_upto_region 5 with fail
    have hgl : w.heap.size ≤ w1.heap.size := hb1.size
    have hgx : w1.heap.size < (w1.alloc (.cells (madeCells #[.int .i64 0] n) 3)).heap.size := by simp
    clear hb1 hmk
    generalize w1.alloc (.cells (madeCells #[.int .i64 0] n) 3) = w2 at *
    generalize w1.heap.size = g at *
    have C := Lib.hid (fun (k : Nat) (hk : k ≤ n) (p t : Nat) (ht : Tk.Ok ⟨p, t⟩) (W : World) (hW : RdG tkC 2 W A n M) => response_any p t ht A k c (M.take k) (HM.out.take k) W (RdG.takeTo tkK.len hW hk))
    go_wp2
    go_loopw [18] (fun i wr => ∃ (k : Nat) (R : List Nat), k ≤ n ∧ i = .int .i64 k ∧ R.length = k ∧ EndsAre (M.take k) R ∧ Ow (Value.int .i64) wr w.heap.size 3 (.slice (some ⟨g, 0, none⟩) n n) (natL R ++ List.replicate (n - k) 0) ∧ Below w.heap.size w wr ∧ g < wr.heap.size) (fun i _ => n - (intOf i).toNat)
    case atStart => exact ⟨0, [], Nat.zero_le _, rfl, rfl, by rw [List.take_zero]; exact EndsAre.nil, by simpa [natL] using ho1, hb2, hgx⟩
    case round =>
      obtain ⟨k, R, hk, rfl, hR, hE, ho, hbl, hgw⟩ := hrel
      have hr := h.below hbl
      clear ho1 hb2 hgx
      have HE := Lib.hid hE
      have HR := Lib.hid hR
      clear hE hR
      by_cases hlt : k < n
      · obtain ⟨ad, p, t, rfl, hx, hc0, hc1⟩ := tk_at hr hlt
        have hok := HM.out.at_ hx
        have Hx := Lib.hid hx
        have hto := fun W => run_to (P := Try.prog) elTask W (some ad) n c k (by omega)
        have C2 := Lib.hid (fun (W : World) (hW : Below wr.heap.size wr W) => C.out k hk p t hok W (hr.below hW))
        have hbx := Box.new wr 38 [.int .i64 (p : Int), .int .i64 (t : Int)]
        obtain ⟨h1, h2, h3⟩ := hok
        simp only at h1 h2 h3
        have H0 : Hid ((natL R ++ List.replicate (n - k) (0 : Int))[k]? = some 0) := by
          show _ = _
          rw [List.getElem?_append_right (by rw [natL_len, HR.out]; exact Nat.le_refl _), natL_len, HR.out, Nat.sub_self, List.getElem?_replicate, if_pos (by omega)]
        clear hx
        go_upto_region 8 with fail
        have hB0 : Below wr.heap.size wr (wr.alloc (.cells #[.int .i64 (p : Int), .int .i64 (t : Int)] 38)) := below_one _
        have hbl2 := hbl.alloc hbl.size (.cells #[.int .i64 (p : Int), .int .i64 (t : Int)] 38)
        replace ho := ho.alloc (.cells #[.int .i64 (p : Int), .int .i64 (t : Int)] 38)
        replace hr := hr.alloc (.cells #[.int .i64 (p : Int), .int .i64 (t : Int)] 38)
        have hbn : wr.heap.size < (wr.alloc (.cells #[.int .i64 (p : Int), .int .i64 (t : Int)] 38)).heap.size := by simp
        replace hbx : Box (wr.alloc (.cells #[.int .i64 (p : Int), .int .i64 (t : Int)] 38)) wr.heap.size 38 [.int .i64 (p : Int), .int .i64 (t : Int)] := hbx
        have hgX : g < (wr.alloc (.cells #[.int .i64 (p : Int), .int .i64 (t : Int)] 38)).heap.size := by simp; omega
        have C3 := Lib.hid (fun (W : World) (hW : Below (wr.alloc (.cells #[.int .i64 (p : Int), .int .i64 (t : Int)] 38)).heap.size (wr.alloc (.cells #[.int .i64 (p : Int), .int .i64 (t : Int)] 38)) W) => C2.out W (bthen hB0 hW))
        clear hB0 C2 hc0 hc1
        have hgb : g ≠ wr.heap.size := by omega
        generalize wr.alloc (.cells #[.int .i64 (p : Int), .int .i64 (t : Int)] 38) = X at *
        generalize wr.heap.size = b at *
        have hB : Below X.heap.size X X.drew := (Below.refl _ _).drew
        have hcl : Hid (∀ W, Below X.heap.size X W → Box W b 38 [.int .i64 (p : Int), .int .i64 (t : Int)]) := fun W hW => hbx.below hW hbx.lt
        refine wp_region_F 8 (X.heap.size) (by kernel_rfl) ?_
        refine wpAnyF_pure (i := 0) (oi := { dst := some 23, op := Op.move (Go.Operand.tmp 5), type := 40, pos := "rta.go:30", after := #[], guard := none }) (v := ?v1) rfl (by kernel_rfl) (by kernel_rfl) (by kernel_rfl) (fun _ _ _ h => h) (Or.inl ⟨by rfl, ?hy1⟩) ?rs1
        case hy1 => (intro W hW; go_simp; try with_reducible rfl)
        try simp only [Act.put, List.setIfInBounds_toArray, List.set_cons_zero, List.set_cons_succ]
        refine wpAnyF_pure (i := 1) (oi := { dst := some 24, op := Op.move (Go.Operand.tmp 6), type := 3, pos := "rta.go:30", after := #[], guard := none }) (v := ?v2) rfl (by kernel_rfl) (by kernel_rfl) (by kernel_rfl) (fun _ _ _ h => h) (Or.inl ⟨by rfl, ?hy2⟩) ?rs2
        case hy2 => (intro W hW; go_simp; try with_reducible rfl)
        try simp only [Act.put, List.setIfInBounds_toArray, List.set_cons_zero, List.set_cons_succ]
        refine wpAnyF_take (i := 2) (oi := { dst := some 25, op := Op.load 38 (Go.Operand.tmp 7), type := 38, pos := "rta.go:30", after := #[], guard := none }) (v := ?v3) rfl (by kernel_rfl) (by kernel_rfl) (by kernel_rfl) (by decide) (by kernel_rfl) (fun _ _ _ h => h) (Or.inl ⟨by rfl, ?hy3⟩) ?rs3
        case hy3 => (intro W hW; have hx := hcl.out W (hB.trans hW); have q0 := hx.cell 0 rfl; have q1 := hx.cell 1 rfl; go_simp; try with_reducible rfl)
        try simp only [Act.put, List.setIfInBounds_toArray, List.set_cons_zero, List.set_cons_succ]
        refine wpAnyF_pure (i := 3) (oi := { dst := some 26, op := Op.move (Go.Operand.tmp 0), type := 22, pos := "rta.go:30", after := #[], guard := none }) (v := ?v4) rfl (by kernel_rfl) (by kernel_rfl) (by kernel_rfl) (fun _ _ _ h => h) (Or.inl ⟨by rfl, ?hy4⟩) ?rs4
        case hy4 => (intro W hW; go_simp; try with_reducible rfl)
        try simp only [Act.put, List.setIfInBounds_toArray, List.set_cons_zero, List.set_cons_succ]
        refine wpAnyF_pure (i := 4) (oi := { dst := some 27, op := Op.move (Go.Operand.tmp 6), type := 3, pos := "rta.go:30", after := #[], guard := none }) (v := ?v5) rfl (by kernel_rfl) (by kernel_rfl) (by kernel_rfl) (fun _ _ _ h => h) (Or.inl ⟨by rfl, ?hy5⟩) ?rs5
        case hy5 => (intro W hW; go_simp; try with_reducible rfl)
        try simp only [Act.put, List.setIfInBounds_toArray, List.set_cons_zero, List.set_cons_succ]
        refine wpAnyF_pure (i := 5) (oi := { dst := some 28, op := Op.slice 22 (Go.Operand.tmp 26) none (some (Go.Operand.tmp 27)) none, type := 22, pos := "rta.go:30", after := #[{ on := 3, ground := Ground.data }, { on := 4, ground := Ground.data }], guard := none }) (v := ?v6) rfl (by kernel_rfl) (by kernel_rfl) (by kernel_rfl) (fun _ _ _ h => h) (Or.inl ⟨by rfl, ?hy6⟩) ?rs6
        case hy6 => (intro W hW; go_simp; try with_reducible rfl)
        try simp only [Act.put, List.setIfInBounds_toArray, List.set_cons_zero, List.set_cons_succ]
        refine wpAnyF_one (i := 6) (o := { dst := some 29, op := Op.call { callee := Callee.value (Go.Operand.func 45), args := #[Go.Operand.tmp 25, Go.Operand.tmp 28], argTypes := #[38, 22] }, type := 3, pos := "rta.go:30", after := #[{ on := 2, ground := Ground.data }, { on := 5, ground := Ground.data }], guard := none }) (by kernel_rfl) rfl (fun K hK => ?_)
        go_simp
        refine (C3.out _ hB).mono ?_; rintro e w7 ⟨r, rfl, hf, hb7⟩; have hbk := hb7.mono hB.size; replace hB := hB.trans hbk; replace ho := ho.below hB; have hfz := ho.freeAt k; have hck := ho.cellAt H0.out
        refine hK.out _ _ hbk ?_
        clear hK K
        try simp only [Act.put, List.setIfInBounds_toArray, List.set_cons_zero, List.set_cons_succ]
        refine wpAnyF_pure (i := 7) (oi := { dst := some 30, op := Op.indexAddr 40 (Go.Operand.tmp 23) (Go.Operand.tmp 24), type := 0, pos := "rta.go:30", after := #[{ on := 0, ground := Ground.data }, { on := 1, ground := Ground.data }, { on := 0, ground := Ground.phase }, { on := 1, ground := Ground.phase }, { on := 2, ground := Ground.phase }, { on := 3, ground := Ground.phase }, { on := 4, ground := Ground.phase }, { on := 5, ground := Ground.phase }, { on := 6, ground := Ground.phase }], guard := none }) (v := ?v7) rfl (by kernel_rfl) (by kernel_rfl) (by kernel_rfl) (fun _ _ _ h => h) (Or.inl ⟨by rfl, ?hy7⟩) ?rs7
        case hy7 => (intro W hW; go_simp; try with_reducible rfl)
        try simp only [Act.put, List.setIfInBounds_toArray, List.set_cons_zero, List.set_cons_succ]
        refine wpAnyF_last (i := 8) (o := { dst := none, op := Op.store 3 (Go.Operand.tmp 30) (Go.Operand.tmp 29), type := 0, pos := "rta.go:30", after := #[{ on := 7, ground := Ground.data }, { on := 6, ground := Ground.data }, { on := 6, ground := Ground.chain }, { on := 0, ground := Ground.phase }, { on := 1, ground := Ground.phase }, { on := 2, ground := Ground.phase }, { on := 3, ground := Ground.phase }, { on := 4, ground := Ground.phase }, { on := 5, ground := Ground.phase }, { on := 6, ground := Ground.phase }], guard := none }) (by kernel_rfl) rfl (by decide) (fun K hK => ?_)
        go_simp
        refine hK.out _ _ ?_
        clear hK K
        try simp only [Act.put, List.setIfInBounds_toArray, List.set_cons_zero, List.set_cons_succ]
        refine wpAnyF_done (by kernel_rfl) ?_
        have ho2 := ho.put k (r : Int)
        have hxx := (hcl.out _ hB).grown (grownBy_setCell w7 ⟨g, k, none⟩ (.int .i64 (r : Int))) (fun e => by injection e with e; exact hgb e.symm)
        have hbl3 := below_grown (hbl2.trans (hB.mono hbl2.size)) (grownBy_setCell w7 ⟨g, k, none⟩ (.int .i64 (r : Int))) hgl (by have := hB.size; have := hbl2.size; omega)
        have hg3 : g < (w7.setCell ⟨g, k, none⟩ (.int .i64 (r : Int))).heap.size := by have := hB.size; simp [World.setCell]; omega
        rw [fill_put HR.out hlt] at ho2
        have hcr : (w7.setCell ⟨g, k, none⟩ (.int .i64 (r : Int))).cell? ⟨g, k, none⟩ = some (.int .i64 (r : Int)) := ho2.cellAt (by rw [List.append_assoc, List.getElem?_append_right (by rw [natL_len, HR.out]; exact Nat.le_refl _), natL_len, HR.out, Nat.sub_self]; rfl)
        have hcp := hxx.cell 0 rfl
        clear ho hck hfz hbl hbl2 C3 hcl hbx H0 hto
        generalize w7.setCell ⟨g, k, none⟩ (.int .i64 (r : Int)) = w8 at *
        have Hf := Lib.hid hf
        have hr5 : r ≤ 500000 := by
          rcases hf with hf | ⟨_, _, hf⟩
          · have := hf.hi; simp only at this; omega
          · exact hf
        clear hf
        by_cases hle : r ≤ p
        · have HE2 : Hid (EndsAre (M.take (k + 1)) (R ++ [r])) := by
            refine HE.out.snoc Hx.out ?_
            rcases Hf.out with hf | ⟨_, hf, _⟩
            · exact hf
            · exfalso; simp only at hf; omega
          go_wp2
          go_quiet (fail)
          go_wp2
          go_roundw
          case rel => exact ⟨k + 1, R ++ [r], by omega, by go_num, by simp [HR.out], HE2.out, by rw [natL_snoc]; exact ho2, bthen hbl3 (below_draws ⟨_, rfl⟩), hg3⟩
          case measure => simp [intOf] <;> omega
        · have HN : Hid (NoEnds M) := by
            refine ⟨k, _, Hx.out, ?_⟩
            rcases Hf.out with hf | ⟨hf, _, _⟩
            · have := hf.hi; exfalso; simp only at this; omega
            · exact hf
          go_wp2
          go_quiet (fail)
          go_wp2
          go_ret2
          exact ⟨.inr ⟨M, rfl, HM.out, .inl ⟨HN.out, rfl⟩⟩, bthen hbl3 (below_draws ⟨_, rfl⟩)⟩
      · obtain rfl : k = n := by omega
        go_wp2
        go_ret2
        refine ⟨.inr ⟨M, rfl, HM.out, .inr ⟨R, some ⟨g, 0, none⟩, k, ?_, by rw [Hl.out]; rfl, ?_⟩⟩, hbl⟩
        · have := HE.out; rwa [List.take_of_length_le (by rw [Hl.out]; exact Nat.le_refl _)] at this
        · rw [Hl.out]; simpa using ho
  · rw [errK_two hw] at HW
    go_enter Try.func20, Try.ntmps20
    go_wp2_with fail
    refine HW.out.mono ?_
    rintro e w1 ⟨rfl, hb1⟩
    go_wp2
    go_ret2
    exact ⟨.inl ⟨hw, rfl⟩, hb1⟩
end Go.Proofs.Ytajfohnblmnjjaa

/-
  What Ends gives, case by case, without Run; slices.Clone at tasks; a task in a block. No statement of the seat is here.
-/
namespace Go.Proofs.Ytajfohnblmnjjaa
open Go.RowKit
set_option linter.unusedVariables false

theorem asT_inj : ∀ {M M' : List Tk}, M.map Tk.asT = M'.map Tk.asT → M = M'
  | [], [], _ => rfl
  | [], t :: M', h => by simp at h
  | t :: M, [], h => by simp at h
  | t :: M, t' :: M', h => by
    obtain ⟨p, c⟩ := t
    obtain ⟨p', c'⟩ := t'
    simp only [List.map_cons, List.cons.injEq, Tk.asT, Tsk.mk.injEq] at h
    obtain ⟨⟨h1, h2⟩, h3⟩ := h
    rw [asT_inj h3, show p = p' by omega, show c = c' by omega]
theorem ends_dec (M : List Tk) : (∃ R, EndsAre M R) ∨ NoEnds M := by
  have h : ∀ k, k ≤ M.length → (∃ R, EndsAre (M.take k) R) ∨ NoEnds M := by
    intro k
    induction k with
    | zero => intro _; exact .inl ⟨[], by rw [List.take_zero]; exact EndsAre.nil⟩
    | succ k ih =>
      intro hk
      rcases ih (by omega) with ⟨R, hR⟩ | h
      · have ht := List.getElem?_eq_getElem (show k < M.length by omega)
        rcases end_dec (M.take k) M[k] with ⟨r, hr⟩ | hn
        · exact .inl ⟨R ++ [r], hR.snoc ht hr⟩
        · exact .inr ⟨k, _, ht, hn⟩
      · exact .inr h
  have := h M.length (Nat.le_refl _)
  rwa [List.take_of_length_le (Nat.le_refl _)] at this
section
variable {M : List Tk} {L : List Tsk} {w w' : World} {e : Ending}
theorem GivesEnds.wrong (h : GivesEnds L w e w') (hL : wrongK L = true) : e = .returned (.tuple #[.slice none 0 0, .int .i64 2]) ∧ Below w.heap.size w w' := by
  rcases h.1 with ⟨_, h1⟩ | ⟨M', rfl, hM', _⟩
  · exact ⟨h1, h.2⟩
  · rw [good_not hM'] at hL; cases hL
theorem GivesEnds.full (h : GivesEnds (M.map Tk.asT) w e w') (hM : GoodK M) (hN : NoEnds M) : e = .returned (.tuple #[.slice none 0 0, .int .i64 4]) ∧ Below w.heap.size w w' := by
  rcases h.1 with ⟨h1, _⟩ | ⟨M', he, hM', ⟨_, h2⟩ | ⟨R, A, c, hR, h2, _⟩⟩
  · rw [good_not hM] at h1; cases h1
  · exact ⟨h2, h.2⟩
  · rw [asT_inj he] at hN
    exact absurd hN hR.not_no
theorem GivesEnds.ok (h : GivesEnds (M.map Tk.asT) w e w') (hM : GoodK M) {R : List Nat} (hR : EndsAre M R) : ∃ A c, e = .returned (.tuple #[.slice A M.length c, .int .i64 0]) ∧ Rd w' 1 A M.length ((natL R).map (Value.int .i64)) ∧ M.length ≤ c ∧ Below w.heap.size w w' := by
  rcases h.1 with ⟨h1, _⟩ | ⟨M', he, hM', ⟨h1, h2⟩ | ⟨S, A, c, hS, h2, h3⟩⟩
  · rw [good_not hM] at h1; cases h1
  · rw [asT_inj he] at hR
    exact absurd h1 hR.not_no
  · obtain rfl := asT_inj he
    obtain rfl := hR.unique hS
    exact ⟨A, c, h2, h3.rd, h3.len.2.1, h.2⟩
end
/-- Either an error, or the ends. -/
theorem GivesEnds.split {L : List Tsk} {w w' : World} {e : Ending} (h : GivesEnds L w e w') : (∃ A m c x, e = .returned (.tuple #[.slice A m c, .int .i64 x]) ∧ m ≤ L.length ∧ Hid (x ≠ 0 ∨ (x = 0 ∧ m = L.length ∧ ∃ M R, L = M.map Tk.asT ∧ GoodK M ∧ EndsAre M R ∧ Rd w' 1 A L.length ((natL R).map (Value.int .i64)) ∧ L.length ≤ c))) ∧ Below w.heap.size w w' := by
  rcases h.1 with ⟨h1, h2⟩ | ⟨M, he, hM, ⟨h1, h2⟩ | ⟨R, A, c, hR, h2, h3⟩⟩
  · exact ⟨⟨none, 0, 0, 2, h2, Nat.zero_le _, .inl (by decide)⟩, h.2⟩
  · exact ⟨⟨none, 0, 0, 4, h2, Nat.zero_le _, .inl (by decide)⟩, h.2⟩
  · have hl : L.length = M.length := by rw [he, List.length_map]
    rw [← hl] at h2 h3
    exact ⟨⟨A, L.length, c, 0, h2, Nat.le_refl _, .inr ⟨rfl, rfl, M, R, he, hM, hR, h3.rd, h3.len.2.1⟩⟩, h.2⟩
theorem EndsAre.takeN {M : List Tk} {R : List Nat} (h : EndsAre M R) (k : Nat) : EndsAre (M.take k) (R.take k) := by
  refine ⟨by rw [List.length_take, List.length_take, h.len], fun j t r hj hr => ?_⟩
  rw [List.getElem?_take] at hj hr
  split at hj
  · rename_i hjk
    rw [if_pos hjk] at hr
    rw [List.take_take, show min j k = j by omega]
    exact h.at_ j t r hj hr
  · cases hj
/-- A task lies in block b. -/
structure Kept (b : Nat) (p c : Int) (w : World) : Prop where
  fst : w.cell? ⟨b, 0, none⟩ = some (.int .i64 p)
  snd : w.cell? ⟨b, 1, none⟩ = some (.int .i64 c)
theorem Kept.below {b : Nat} {p c : Int} {w w' : World} (h : Kept b p c w) (hb : Below w.heap.size w w') : Kept b p c w' :=
  ⟨(hb.cell (World.block_lt_of_cell? w _ h.fst)).trans h.fst, (hb.cell (World.block_lt_of_cell? w _ h.snd)).trans h.snd⟩
theorem Kept.grown {b : Nat} {p c : Int} {w w' : World} {row : Option Nat} (h : Kept b p c w) (hg : w.grownBy w' row) (hne : row ≠ some b) : Kept b p c w' :=
  ⟨(hg.cell_far _ (World.block_lt_of_cell? w _ h.fst) (fun e => hne e.symm)).trans h.fst, (hg.cell_far _ (World.block_lt_of_cell? w _ h.snd) (fun e => hne e.symm)).trans h.snd⟩
set_option maxHeartbeats 400000 in
theorem CloneK_any (A : Option Addr) (n c : Nat) (l : List Tsk) (w : World) (h : RdG tskC 2 w A n l) (hn : n ≤ 8796093022208) :
    Calls Try.prog 21 #[.slice A n c] w fun e w' => ∃ v, e = .returned v ∧ OwG tskC 2 w' w.heap.size 38 v l ∧ Below w.heap.size w w' := by
  have hq := fun (W : World) => Lib.run_eql_slice_nil (P := Try.prog) W 22 38 A n c 0 0 Try.underlying22
  go_enter Try.func21, Try.ntmps21
  cases A with
  | none =>
    go_wp2
    go_ret
    have hn0 : n = 0 := by
      rcases Nat.eq_zero_or_pos n with h0 | h0
      · exact h0
      · obtain ⟨ad, e, _⟩ := h.2 h0; cases e
    obtain rfl : l = [] := List.eq_nil_of_length_eq_zero ((RdG.len tskK h).trans hn0)
    exact ⟨_, rfl, OwG.nil _ _ _, Below.refl _ _⟩
  | some ad =>
    go_wp2_with (at_builtin; go_must (refine wpList_apG tskK _ elTask rfl rfl w.heap.size (.slice (some ⟨w.heap.size, 0, none⟩) 0 0) [] rfl (OwG.empty _ _ (Nat.le_refl _)) _ _ _ l rfl (h.alloc _) (le_alloc (Nat.le_refl _)) (by simp; omega) (by simp; omega) ?_; intro v1 w1 ho1 hm1))
    go_ret
    exact ⟨_, rfl, ho1, hm1.below ((Below.refl _ _).alloc (Nat.le_refl _) _) (le_alloc (Nat.le_refl _)) (new_block (Nat.le_refl _))⟩
end Go.Proofs.Ytajfohnblmnjjaa
