/-
  A whole number of many digits (type Int of the reference) as it lies in memory: a struct of a sign and a slice of digits. No operation of this type writes into digits that are there; so what a call writes is one struct (World.grownBy .. (some b)), and every other number stays. No statement of the seat is here.
-/
import Derived.Test.YtajfohnblmnjjaaBigMath
import Derived.Test.YtajfohnblmnjjaaTypes
import Derived.Test.YtajfohnblmnjjaaBox
import Derived.Test.YtajfohnblmnjjaaJ3
import Derived.Test.YtajfohnblmnjjaaRegionF
import Derived.BigQuiet
import Derived.Deep.QuietTactic
namespace Go.Proofs.Ytajfohnblmnjjaa
open Go.RowKit
set_option linter.unusedVariables false

/-- A pointer to block b. -/
abbrev ptr (b : Nat) : Value := .pointer (some ⟨b, 0, none⟩)

/-- There is an Int in block b, whatever it is. -/
def IntBox (w : World) (b : Nat) : Prop := ∃ s A n c, Box w b 67 [.bool s, .slice A n c]

/-- The Int in block b: its sign and its digits, as they stand. -/
structure RawAt (w : World) (b : Nat) (s : Bool) (A : Option Addr) (n c : Nat) (l : List Int) : Prop where
  box : Box w b 67 [.bool s, .slice A n c]
  rd : Rd w 1 A n (l.map (Value.int .u32))
  cap : n ≤ c
  dig : Dig l

/-- The Int in block b is the number z. -/
def BigAt (w : World) (b : Nat) (z : Int) : Prop := ∃ A n c l, RawAt w b (decide (z < 0)) A n c l ∧ Trim l ∧ mag l = z.natAbs

section
variable {w w' : World} {b g : Nat} {s : Bool} {A : Option Addr} {n c : Nat} {l : List Int} {z : Int}
theorem RawAt.int (h : RawAt w b s A n c l) : IntBox w b := ⟨_, _, _, _, h.box⟩
theorem BigAt.int (h : BigAt w b z) : IntBox w b := by obtain ⟨A, n, c, l, h, _⟩ := h; exact h.int
theorem IntBox.lt (h : IntBox w b) : b < w.heap.size := by obtain ⟨s, A, n, c, h⟩ := h; exact h.lt
theorem IntBox.free (h : IntBox w b) (k : Nat) : w.frozen? ⟨b, k, none⟩ = false := by obtain ⟨s, A, n, c, h⟩ := h; exact h.free k
theorem IntBox.below {B : Nat} (h : IntBox w b) (hb : Below B w w') (hB : b < B) : IntBox w' b := by
  obtain ⟨s, A, n, c, h⟩ := h; exact ⟨s, A, n, c, h.below hb hB⟩
theorem IntBox.grown (h : IntBox w b) (hg : w.grownBy w' (some g)) (hne : b ≠ g) : IntBox w' b := by
  obtain ⟨s, A, n, c, h⟩ := h; exact ⟨s, A, n, c, h.grown hg (by simpa using hne)⟩
theorem IntBox.new (w : World) : IntBox (w.alloc (.cells #[.bool false, .slice none 0 0] 67)) w.heap.size := ⟨false, none, 0, 0, Box.new w _ _⟩
theorem IntBox.alloc (h : IntBox w b) (o : Obj) : IntBox (w.alloc o) b := by obtain ⟨s, A, n, c, h⟩ := h; exact ⟨s, A, n, c, h.alloc o⟩

/-- Digits do not lie in an Int's block. -/
theorem rd_grown (h : Rd w 1 A n (l.map (Value.int .u32))) (hz : IntBox w g) (hg : w.grownBy w' (some g)) : Rd w' 1 A n (l.map (Value.int .u32)) := by
  refine ⟨h.1, fun hn => ?_⟩
  obtain ⟨ad, e, hc⟩ := h.2 hn
  refine ⟨ad, e, fun j u hu => hg.cell (hc j u hu) ?_⟩
  intro heq
  injection heq with heq
  have h1 := hc j u hu
  obtain ⟨s0, A0, n0, c0, hb⟩ := hz
  rw [List.getElem?_map] at hu
  cases hx : l[j]? with
  | none => rw [hx] at hu; cases hu
  | some x =>
    rw [hx] at hu
    simp at hu
    subst hu
    unfold World.cell? at h1
    rw [heq] at h1
    unfold Box at hb
    rw [hb] at h1
    simp only at h1
    split at h1
    · cases h1
    · rename_i hs
      generalize (ad.add j).off = k at h1
      match k with
      | 0 => simp at h1
      | 1 => simp at h1
      | k + 2 => simp at h1
theorem RawAt.grown (h : RawAt w b s A n c l) (hz : IntBox w g) (hg : w.grownBy w' (some g)) (hne : b ≠ g) : RawAt w' b s A n c l :=
  ⟨h.box.grown hg (by simpa using hne), rd_grown h.rd hz hg, h.cap, h.dig⟩
theorem BigAt.grown (h : BigAt w b z) (hz : IntBox w g) (hg : w.grownBy w' (some g)) (hne : b ≠ g) : BigAt w' b z := by
  obtain ⟨A, n, c, l, h, r⟩ := h; exact ⟨A, n, c, l, h.grown hz hg hne, r⟩
theorem RawAt.below (h : RawAt w b s A n c l) (hb : Below w.heap.size w w') : RawAt w' b s A n c l := ⟨h.box.below hb h.box.lt, h.rd.below hb, h.cap, h.dig⟩
theorem BigAt.below (h : BigAt w b z) (hb : Below w.heap.size w w') : BigAt w' b z := by
  obtain ⟨A, n, c, l, h, r⟩ := h; exact ⟨A, n, c, l, h.below hb, r⟩
theorem BigAt.alloc (h : BigAt w b z) (o : Obj) : BigAt (w.alloc o) b z := h.below ((Below.refl _ _).alloc (Nat.le_refl _) o)
/-- A new block first, and then one that is written. -/
theorem grownBy_new {o : Obj} (h : (w.alloc o).grownBy w' (some w.heap.size)) : Below w.heap.size w w' :=
  ((Below.refl _ _).alloc (Nat.le_refl _) o).grown h (by simp) (fun k e => by injection e with e; omega)
theorem grownBy_of_below {row : Option Nat} (h : Below w.heap.size w w') : w.grownBy w' row := ⟨h.os, h.tape, h.output, h.size, fun k hk _ => h.block k hk⟩
theorem below_of_grownBy {B : Nat} (h : w.grownBy w' (some g)) (hB : B ≤ g) (hs : B ≤ w.heap.size) : Below B w w' := (Below.refl _ _).grown h hs (fun k e => by injection e with e; omega)
end

/-- A magnitude with its sign. -/
def sgn (s : Bool) (m : Int) : Int := if s then -m else m
theorem sign_mag {s : Bool} {l : List Int} (hd : Dig l) : (sgn s (mag l)).natAbs = mag l := by
  have := mag_nonneg hd
  cases s <;> simp [sgn] <;> omega
theorem sgn_neg {s : Bool} {m : Int} (h : 0 < m) : decide (sgn s m < 0) = s := by cases s <;> simp [sgn] <;> omega

set_option maxHeartbeats 400000 in
theorem trim_any (b : Nat) (s : Bool) (A : Option Addr) (n c : Nat) (l : List Int) (w : World) (h : RawAt w b s A n c l) (hn : n ≤ 4611686018427387904) :
    Calls Try.prog 59 #[ptr b] w fun e w' => e = .returned (ptr b) ∧ BigAt w' b (sgn s (mag l)) ∧ w.grownBy w' (some b) := by
  have Hl := Lib.hid h.rd.lenMap
  have c0 := h.box.cell 0 rfl
  have c1 := h.box.cell 1 rfl
  have f0 := h.box.free 0
  have f1 := h.box.free 1
  have hcap := h.cap
  go_enter Try.func59, Try.ntmps59
  go_wp2
  go_loop [3] (fun i => ∃ k : Nat, k ≤ n ∧ i = .int .i64 k ∧ mag (l.take k) = mag l) (fun i => (intOf i).toNat)
  case atStart => exact ⟨n, Nat.le_refl _, rfl, by rw [List.take_of_length_le (by rw [Hl.out]; exact Nat.le_refl _)]⟩
  case round =>
    obtain ⟨k, hk, rfl, hm⟩ := hrel
    have Hm := Lib.hid hm; clear hm
    by_cases hk0 : 0 < k
    · obtain ⟨ad, x, rfl, hx, hc⟩ := h.rd.atMap (k := k - 1) (by omega)
      by_cases hx0 : x = 0
      · have hx' : (x == 0) = true := by simpa using hx0
        have Hx : Hid (mag (l.take (k - 1)) = mag l) := by
          show _ = _
          rw [← Hm.out, ← mag_take_zero (n := k - 1) (by rw [hx, hx0]), Nat.sub_add_cancel hk0]
        clear hx hx0
        go_wp2
        go_round
        case rel => exact ⟨k - 1, by omega, by go_num, Hx.out⟩
        case measure => simp [intOf] <;> omega
      · have hx' : (x == 0) = false := by simpa using hx0
        have hk' : ((k : Int) == 0) = false := by simp; omega
        have hsl := run_to elU32 w (some ad) n c k (by omega)
        have Ht : Hid (Trim (l.take k)) := by
          have := trim_take hx hx0
          rw [Nat.sub_add_cancel hk0] at this
          exact this
        clear hx hx0
        go_wp2
        go_ret
        refine ⟨rfl, ⟨some ad, k, c, l.take k, ⟨?_, ?_, by omega, h.dig.take k⟩, Ht.out, ?_⟩, grownBy_setCell _ _ _⟩
        · have hp : 0 < mag l := by rw [← Hm.out]; exact mag_pos (h.dig.take k) Ht.out (by rw [List.length_take, Hl.out]; omega)
          rw [sgn_neg hp]
          simpa using h.box.set 1 (.slice (some ad) k c)
        · have := h.rd.take (k := k) (by omega)
          rw [Nat.mul_one, ← List.map_take] at this
          exact rd_grown this h.int (grownBy_setCell w ⟨b, 1, none⟩ (.slice (some ad) k c))
        · rw [Hm.out, sign_mag h.dig]
    · obtain rfl : k = 0 := by omega
      have hz : mag l = 0 := by rw [← Hm.out]; rfl
      have Hz := Lib.hid hz; clear hz
      have hsl := run_to elU32 w A n c 0 (by omega)
      go_wp2
      go_ret
      refine ⟨rfl, ⟨A, 0, c, [], ⟨?_, Rd.nil _ _ _, by omega, Dig.nil⟩, trim_nil, ?_⟩, grownBy_then (grownBy_setCell _ _ _) (grownBy_setCell _ _ _)⟩
      · rw [Hz.out]
        have := (h.box.set 1 (.slice A 0 c)).set 0 (.bool false)
        rw [show sgn s 0 = 0 by cases s <;> rfl]
        simpa using this
      · rw [Hz.out]; cases s <;> rfl
end Go.Proofs.Ytajfohnblmnjjaa
