/-
  Contracts of rta's functions work, response, Ends. No statement of the seat is here.
-/
import Derived.Test.YtajfohnblmnjjaaRtaWrong
import Derived.Test.YtajfohnblmnjjaaRoom
import Derived.Test.YtajfohnblmnjjaaRegion
namespace Go.Proofs.Ytajfohnblmnjjaa
open Go.RowKit
set_option linter.unusedVariables false

set_option maxHeartbeats 800000 in
theorem work_any (A : Option Addr) (n c : Nat) (M : List Tk) (hM : GoodK M) (r : Nat) (hr : r ≤ 20000) (w : World) (h : RdG tkC 2 w A n M) :
    Calls Try.prog 67 #[.slice A n c, .int .i64 (r : Int)] w fun e w' => e = .returned (.int .i64 (need M r : Int)) ∧ Below w.heap.size w w' := by
  have Hl := Lib.hid (RdG.len tkK h)
  have HM := Lib.hid hM; clear hM
  have hn16 : n ≤ 16 := by have := HM.out.len; rw [Hl.out] at this; exact this
  go_enter Try.func67, Try.ntmps67
  go_wp2
  go_loopw [5, 11] (fun v i wr => ∃ (k s : Nat), k ≤ n ∧ i = .int .i64 k ∧ v = .int .i64 s ∧ s = need (M.take k) r ∧ Below w.heap.size w wr) (fun _ i _ => n - (intOf i).toNat)
  case atStart => exact ⟨0, 0, Nat.zero_le _, rfl, rfl, by simp [need], Below.refl _ _⟩
  case round =>
    obtain ⟨k, s, hk, rfl, rfl, hacc, hbl⟩ := hrel
    have Hacc := Lib.hid hacc
    have hs : s ≤ 480000 := by rw [hacc]; exact (HM.out.take k).need hr
    clear hacc
    by_cases hlt : k < n
    · obtain ⟨ad, p, t, rfl, hx, hc0, hc1⟩ := tk_at (h.below hbl) hlt
      obtain ⟨h1, h2, h3⟩ := HM.out.at_ hx
      simp only at h1 h2 h3
      have Hx : Hid (need (M.take (k + 1)) r = need (M.take k) r + up r p * t) := need_snoc hx r
      have hz := one_size (t := ⟨p, t⟩) ⟨h1, h2, h3⟩ r
      simp only at hz
      have hu : ((r : Int) + (p : Int) - 1) / (p : Int) = ((up r p : Nat) : Int) := by
        unfold up
        rw [Int.natCast_ediv, Int.natCast_add, Int.natCast_sub (show 1 ≤ p by omega)]
        congr 1
        omega
      have hm : ((up r p : Nat) : Int) * (t : Int) = ((up r p * t : Nat) : Int) := (Int.natCast_mul _ _).symm
      have hu2 : up r p ≤ 30000 := by
        have := Nat.le_mul_of_pos_right (up r p) (show 0 < t by omega)
        omega
      clear hx
      generalize hU : up r p = U at *
      generalize hX : U * t = X at *
      clear hU hX
      go_wp2
      go_roundw
      case rel => exact ⟨k + 1, s + X, by omega, by go_num, by go_num, by rw [Hx.out, ← Hacc.out], hbl.alloc hbl.size _⟩
      case measure => simp [intOf] <;> omega
    · obtain rfl : k = n := by omega
      go_wp2
      go_ret
      refine ⟨ret_int ?_, hbl⟩
      rw [Hacc.out, List.take_of_length_le (by rw [Hl.out]; exact Nat.le_refl _)]

/-- The search ended: the least end, or none. -/
def Found (pre : List Tk) (t : Tk) (g : Nat) : Prop := EndIs pre t g ∨ (NoEnd pre t ∧ t.p < g ∧ g ≤ 500000)
set_option maxHeartbeats 800000 in
theorem response_any (p t : Nat) (ht : Tk.Ok ⟨p, t⟩) (A : Option Addr) (n c : Nat) (M : List Tk) (hM : GoodK M) (w : World) (h : RdG tkC 2 w A n M) :
    Calls Try.prog 45 #[.agg #[.int .i64 (p : Int), .int .i64 (t : Int)], .slice A n c] w fun e w' => ∃ g : Nat, e = .returned (.int .i64 (g : Int)) ∧ Found M ⟨p, t⟩ g ∧ Below w.heap.size w w' := by
  obtain ⟨h1, h2, h3⟩ := ht
  simp only at h1 h2 h3
  have HM := Lib.hid hM; clear hM
  have C := Lib.hid (fun (W : World) (r : Nat) (hr : r ≤ 20000) (hw : Below w.heap.size w W) => work_any A n c M HM.out r hr W (h.below hw))
  clear h
  go_enter Try.func45, Try.ntmps45
  go_wp2
  go_loopw [5] (fun v wr => ∃ g : Nat, v = .int .i64 g ∧ g ≤ 500000 ∧ Hid (Seek M ⟨p, t⟩ g) ∧ Box wr w.heap.size 38 [.int .i64 (p : Int), .int .i64 (t : Int)] ∧ Below w.heap.size w wr) (fun v _ => 10001 - (intOf v).toNat)
  case atStart => exact ⟨t, rfl, by omega, Seek.start _ _, Box.new _ _ _, below_one _⟩
  case round =>
    obtain ⟨g, rfl, hg, HS, hbx, hbl⟩ := hrel
    have hc0 := hbx.cell 0 rfl
    by_cases hle : g ≤ p
    · have hcl : Hid (∀ W, Below wr.heap.size wr W → Box W w.heap.size 38 [.int .i64 (p : Int), .int .i64 (t : Int)]) := fun W hW => hbx.below hW hbx.lt
      have hN : need M g ≤ 480000 := HM.out.need (by omega)
      have Hm := Lib.hid HS.out.more
      have C2 := Lib.hid (fun (W : World) (hw : Below wr.heap.size wr W) => C.out W g (by omega) (bthen hbl hw))
      generalize hU : need M g = U at *
      have HU := Lib.hid hU
      clear hU
      go_wp2
      have hB : Below wr.heap.size wr wr.drew := (Below.refl _ _).drew
      refine wp_region_B (by kernel_rfl) ?_
      refine wpAnyB_take (i := 0) (oi := { dst := some 13, op := Op.fieldAddr 38 (Go.Operand.tmp 2) 1, type := 0, pos := "rta.go:76", after := #[], guard := none }) (v := ?v1) rfl (by kernel_rfl) (by kernel_rfl) (by kernel_rfl) (fun _ _ _ h => h) (Or.inl ⟨by rfl, ?hy1⟩) ?rs1
      case hy1 => (intro W hW; go_simp; try with_reducible rfl)
      try simp only [Act.put, List.setIfInBounds_toArray, List.set_cons_zero, List.set_cons_succ]
      refine wpAnyB_take (i := 1) (oi := { dst := some 14, op := Op.load 3 (Go.Operand.tmp 13), type := 3, pos := "rta.go:76", after := #[{ on := 0, ground := Ground.data }], guard := none }) (v := ?v2) rfl (by kernel_rfl) (by kernel_rfl) (by kernel_rfl) (fun _ _ _ h => h) (Or.inl ⟨by rfl, ?hy2⟩) ?rs2
      case hy2 => (intro W hW; have hcv := (hcl.out W (bthen hB hW)).cell 1 rfl; go_simp; try with_reducible rfl)
      try simp only [Act.put, List.setIfInBounds_toArray, List.set_cons_zero, List.set_cons_succ]
      refine wpAnyB_take (i := 2) (oi := { dst := some 15, op := Op.move (Go.Operand.tmp 1), type := 22, pos := "rta.go:76", after := #[], guard := none }) (v := ?v3) rfl (by kernel_rfl) (by kernel_rfl) (by kernel_rfl) (fun _ _ _ h => h) (Or.inl ⟨by rfl, ?hy3⟩) ?rs3
      case hy3 => (intro W hW; go_simp; try with_reducible rfl)
      try simp only [Act.put, List.setIfInBounds_toArray, List.set_cons_zero, List.set_cons_succ]
      refine wpAnyB_take (i := 3) (oi := { dst := some 16, op := Op.move (Go.Operand.tmp 5), type := 3, pos := "rta.go:76", after := #[], guard := none }) (v := ?v4) rfl (by kernel_rfl) (by kernel_rfl) (by kernel_rfl) (fun _ _ _ h => h) (Or.inl ⟨by rfl, ?hy4⟩) ?rs4
      case hy4 => (intro W hW; go_simp; try with_reducible rfl)
      try simp only [Act.put, List.setIfInBounds_toArray, List.set_cons_zero, List.set_cons_succ]
      refine wpAnyB_one (i := 4) (o := { dst := some 17, op := Op.call { callee := Callee.value (Go.Operand.func 67), args := #[Go.Operand.tmp 15, Go.Operand.tmp 16], argTypes := #[22, 3] }, type := 3, pos := "rta.go:76", after := #[{ on := 2, ground := Ground.data }, { on := 3, ground := Ground.data }], guard := none }) (by kernel_rfl) rfl (fun K hK => ?_)
      go_simp
      refine (C2.out _ hB).mono ?_; rintro e w7 ⟨rfl, hbk⟩; replace hB := bthen hB hbk
      refine hK.out _ _ hbk ?_
      clear hK K
      try simp only [Act.put, List.setIfInBounds_toArray, List.set_cons_zero, List.set_cons_succ]
      refine wpAnyB_take (i := 5) (oi := { dst := some 18, op := Op.binOp Go.BinOp.add 3 (Go.Operand.tmp 14) (Go.Operand.tmp 17) 3, type := 3, pos := "rta.go:76", after := #[{ on := 1, ground := Ground.data }, { on := 4, ground := Ground.data }], guard := none }) (v := ?v5) rfl (by kernel_rfl) (by kernel_rfl) (by kernel_rfl) (fun _ _ _ h => h) (Or.inl ⟨by rfl, ?hy5⟩) ?rs5
      case hy5 => (intro W hW; go_simp; try with_reducible rfl)
      try simp only [Act.put, List.setIfInBounds_toArray, List.set_cons_zero, List.set_cons_succ]
      refine wpAnyB_take (i := 6) (oi := { dst := some 6, op := Op.assign (Go.Operand.tmp 18), type := 3, pos := "rta.go:76", after := #[{ on := 5, ground := Ground.data }, { on := 4, ground := Ground.chain }, { on := 0, ground := Ground.phase }, { on := 1, ground := Ground.phase }, { on := 2, ground := Ground.phase }, { on := 3, ground := Ground.phase }, { on := 4, ground := Ground.phase }, { on := 5, ground := Ground.phase }], guard := none }) (v := ?v6) rfl (by kernel_rfl) (by kernel_rfl) (by kernel_rfl) (fun _ _ _ h => h) (Or.inl ⟨by rfl, ?hy6⟩) ?rs6
      case hy6 => (intro W hW; go_simp; try with_reducible rfl)
      try simp only [Act.put, List.setIfInBounds_toArray, List.set_cons_zero, List.set_cons_succ]
      refine wpAnyB_done (by kernel_rfl) ?_
      have hbx7 := hcl.out _ hB
      have hc7 := hbx7.cell 0 rfl
      by_cases he : t + U = g
      · have hd : decide ((t : Int) + (U : Int) = (g : Int)) = true := decide_eq_true (by omega)
        have HF : Hid (EndIs M ⟨p, t⟩ g) := HS.out.done (by rw [HU.out]; exact he) hle
        have hwr : IntKind.i64.wrap ((t : Int) + (U : Int)) = (g : Int) := by rw [show (t : Int) + (U : Int) = (g : Int) by omega]; exact IntWalk.i64_in _ (by omega)
        clear HU
        go_wp2
        go_ret
        exact ⟨g, rfl, .inl HF.out, bthen hbl hB⟩
      · have hwr : IntKind.i64.wrap ((t : Int) + (U : Int)) = ((t + U : Nat) : Int) := by rw [← Int.natCast_add]; exact IntWalk.i64_in _ (by omega)
        have HN : Hid (Seek M ⟨p, t⟩ (t + U)) := by have := HS.out.next; rw [HU.out] at this; exact this
        have hgt : g < t + U := by have := Hm.out; (first | omega | (simp only at this; omega))
        have hV5 : t + U ≤ 500000 := by omega
        generalize t + U = V at *
        clear HU
        go_wp2
        go_roundw
        case rel => exact ⟨V, int_eq hwr, by omega, HN, hbx7, bthen hbl hB⟩
        case measure => simp [intOf] <;> omega
    · go_wp2
      go_ret
      exact ⟨g, rfl, .inr ⟨HS.out.none (by simp only; omega), by simp only; omega, hg⟩, hbl⟩
end Go.Proofs.Ytajfohnblmnjjaa
