/-
  Contracts of package field: put and Set, for every input.
-/
import Derived.Test.YtldkmopkakdgnaaFieldWalks
import Derived.Test.YtldkmopkakdgnaaRegion
import Derived.Deep.QuietTactic
import Derived.BigQuiet
import Derived.Deep.CutBlock
import Derived.Deep.DeepCutAuto
namespace Go.Proofs.Ytldkmopkakdgnaa
open Go.RowKit
set_option maxRecDepth 20000
set_option linter.unusedVariables false

theorem pow_in8 {k : Nat} (h : k < 8) : (2 : Int) ^ k % 256 = 2 ^ k := by
  have : ∀ k : Fin 8, (2 : Int) ^ k.val % 256 = 2 ^ k.val := by decide
  exact this ⟨k, h⟩
theorem grownBy_belowF {w w' : World} {row : Option Nat} (h : Below w.heap.size w w') : w.grownBy w' row := ⟨h.os, h.tape, h.output, h.size, fun k hk _ => h.block k hk⟩
theorem put_any (f : Fld) (n : Int) (g m c base : Nat) (l : List Int) (w : World) (ho : Ow (Value.int .u8) w base 5 (.slice (some ⟨g, 0, none⟩) m c) l) (hg : g < w.heap.size) (hb : Byt l) (ok : f.Ok m) (h0 : 0 ≤ n) (h1 : n < 2 ^ f.wd) :
    Calls Try.prog 22 #[.slice (some ⟨g, 0, none⟩) m c, f.i.v, .int .i64 n] w fun e w' => e = .returned (.tuple #[]) ∧ Ow (Value.int .u8) w' base 5 (.slice (some ⟨g, 0, none⟩) m c) (setF l f n) ∧ w.grownBy w' (some g) := by
  have hl : m = l.length := ho.len.1
  have CP := Lib.hid (fun (e : Nat) (he : e < f.wd) (W : World) => place_any f e he ok.far W)
  have Hok := Lib.hid ok
  have h62 := ok.wide
  have Hl := Lib.hid hl
  show Calls Try.prog 22 #[.slice (some ⟨g, 0, none⟩) m c, .agg #[.int .i64 (f.fr : Int), .int .i64 (f.wd : Int), .bool f.bg], .int .i64 n] w _
  clear ok hl
  go_enter Try.func22, Try.ntmps22
  have hbx := Box.new w 24 [.int .i64 (f.fr : Int), .int .i64 (f.wd : Int), .bool f.bg]
  have ho1 := ho.alloc (.cells #[.int .i64 (f.fr : Int), .int .i64 (f.wd : Int), .bool f.bg] 24)
  have hg1 : w.grownBy (w.alloc (.cells #[.int .i64 (f.fr : Int), .int .i64 (f.wd : Int), .bool f.bg] 24)) (some g) := grownBy_belowF (fld_below _ _)
  go_wp2
  generalize w.alloc (.cells #[.int .i64 (f.fr : Int), .int .i64 (f.wd : Int), .bool f.bg] 24) = w1 at *
  generalize hbq : w.heap.size = b at *
  go_loopw [11] (fun i wr => ∃ (e : Nat) (cur : List Int), e ≤ f.wd ∧ i = .int .i64 e ∧ Part l f n e cur ∧ Ow (Value.int .u8) wr base 5 (.slice (some ⟨g, 0, none⟩) m c) cur ∧ w1.grownBy wr (some g)) (fun i _ => f.wd - (intOf i).toNat)
  case atStart => exact ⟨0, l, Nat.zero_le _, rfl, Part.start f n hb, ho1, World.grownBy.refl _ _⟩
  case round =>
    obtain ⟨e, cur, he, rfl, hP, ho2, hg2⟩ := hrel
    have hbx2 := hbx.grown hg2 (fun e => by injection e with e; omega)
    have hq0 := hbx2.cell 0 rfl
    have hq1 := hbx2.cell 1 rfl
    have hq2 := hbx2.cell 2 rfl
    by_cases hlt : e < f.wd
    · have hp : plc f e < 8 * m := plc_lt Hok.out.fits hlt
      obtain ⟨x, hx, _⟩ := place_at (m := cur) (p := plc f e) (by rw [hP.len, ← Hl.out]; exact hp)
      obtain ⟨x0, x1⟩ := hP.byt.at_ hx
      have HX := Lib.hid hx
      have CQ := Lib.hid (CP.out e hlt wr)
      have hf : f.fits l.length := by rw [← Hl.out]; exact Hok.out.fits
      have H1 := Lib.hid (fun h => hP.clear (x := x) hlt hf hx h)
      have H2 := Lib.hid (fun h => hP.put (x := x) hlt hf hx h)
      clear CP hx hP hf
      have h400 : m ≤ 400 := Hok.out.few
      generalize plc f e = p at *
      have hd : ((p : Int).tdiv 8) = ((p / 8 : Nat) : Int) := by rw [Int.tdiv_eq_ediv_of_nonneg (by omega)]; omega
      have hm : ((p : Int).tmod 8) = ((p % 8 : Nat) : Int) := by rw [Int.tmod_eq_emod_of_nonneg (by omega)]; omega
      have hne : 0 ≤ n / 2 ^ e ∧ n / 2 ^ e < 9223372036854775808 := by
        have hp0 : (0 : Int) < 2 ^ e := Int.pow_pos (by omega)
        have hpw : (2 : Int) ^ f.wd ≤ 2 ^ 62 := pow_le_pow (by omega)
        have := Int.ediv_le_self (2 ^ e) h0
        exact ⟨Int.ediv_nonneg h0 (by omega), by omega⟩
      by_cases hbit : n / 2 ^ e % 2 = 1
      · have hbt : (bits .and .i64 (n / 2 ^ e) 1 == 1) = true := by rw [i64_and_one _ hne.1 hne.2]; simpa using hbit
        go_wp2_with fail
        refine CQ.out.mono ?_
        rintro r w3 ⟨rfl, hb3⟩
        clear CQ
        replace ho2 := ho2.below hb3
        have hc := ho2.cellAt HX.out
        have hfz := ho2.freeAt (p / 8)
        go_upto_region 7 with fail
        have ho4 := ho2.put (p / 8) (bits .andNot .u8 x (2 ^ (p % 8) % 256))
        have hlc : p / 8 < cur.length := (List.getElem?_eq_some_iff.1 HX.out).1
        have hc4 := ho4.cellAt (k := p / 8) (List.getElem?_set_self hlc)
        have hfz4 := ho4.freeAt (p / 8)
        clear hc hfz
        go_wp2
        have hm8 : (2 : Int) ^ (p % 8) % 256 = 2 ^ (p % 8) := pow_in8 (Nat.mod_lt _ (by omega))
        go_roundw
        case rel =>
          refine ⟨e + 1, _, by omega, by go_num, H2.out hbit, ?_, grownBy_then (grownBy_then (grownBy_then hg2 (grownBy_belowF hb3)) (grownBy_setCell _ _ _)) (grownBy_setCell _ _ _)⟩
          have := ho4.put (p / 8) (bits .or .u8 (bits .andNot .u8 x (2 ^ (p % 8) % 256)) (2 ^ (p % 8) % 256))
          simp only [hm8] at this ⊢
          exact this
        case measure => simp [intOf] <;> omega
      · have hbt : (bits .and .i64 (n / 2 ^ e) 1 == 1) = false := by rw [i64_and_one _ hne.1 hne.2]; simpa using hbit
        go_wp2_with fail
        refine CQ.out.mono ?_
        rintro r w3 ⟨rfl, hb3⟩
        clear CQ
        replace ho2 := ho2.below hb3
        have hc := ho2.cellAt HX.out
        have hfz := ho2.freeAt (p / 8)
        go_wp2
        have hm8 : (2 : Int) ^ (p % 8) % 256 = 2 ^ (p % 8) := pow_in8 (Nat.mod_lt _ (by omega))
        go_roundw
        case rel =>
          refine ⟨e + 1, _, by omega, by go_num, H1.out hbit, ?_, grownBy_then (grownBy_then hg2 (grownBy_belowF hb3)) (grownBy_setCell _ _ _)⟩
          have := ho2.put (p / 8) (bits .andNot .u8 x (2 ^ (p % 8) % 256))
          simp only [hm8] at this ⊢
          exact this
        case measure => simp [intOf] <;> omega
    · obtain rfl : e = f.wd := by omega
      have hdn := hP.done Hok.out.one
      subst hdn
      go_wp2
      go_end0
      exact ⟨rfl, ho2, grownBy_then hg1 hg2⟩
theorem FSet_bad (A : Option Addr) (m c : Nat) (f : FI) (n : Int) (w : World) (hne : setW f (m : Int) n ≠ 0) :
    Calls Try.prog 10 #[.slice A m c, f.v, .int .i64 n] w fun e w' => e = .returned (.tuple #[.slice none 0 0, .int .i64 (setW f (m : Int) n)]) ∧ Below w.heap.size w w' := by
  have C := Lib.hid (fun (W : World) => wrongSet_any f (m : Int) n W)
  generalize setW f (m : Int) n = r at *
  obtain ⟨a, b, g⟩ := f
  show Calls Try.prog 10 #[.slice A m c, .agg #[.int .i64 a, .int .i64 b, .bool g], .int .i64 n] w _
  have hne' : (r != 0) = true := by simpa using hne
  go_enter Try.func10, Try.ntmps10
  go_wp2_with fail
  refine (C.out _).mono ?_
  rintro e w1 ⟨rfl, hb⟩
  clear C
  go_wp2
  go_ret2
  exact ⟨rfl, below_new hb⟩
/-- A slice of bytes and an error. -/
def GivesY (l : List Int) (k : Int) (w : World) (e : Ending) (w' : World) : Prop :=
  (∃ v, e = .returned (.tuple #[v, .int .i64 k]) ∧ Ow (Value.int .u8) w' w.heap.size 5 v l) ∧ Below w.heap.size w w'
theorem FSet_ok (A : Option Addr) (m c : Nat) (l : List Int) (f : Fld) (n : Int) (w : World) (h : Rd w 1 A m (l.map (Value.int .u8))) (hb : Byt l) (ok : f.Ok m) (h0 : 0 ≤ n) (h1 : n < 2 ^ f.wd) :
    Calls Try.prog 10 #[.slice A m c, f.i.v, .int .i64 n] w (GivesY (setF l f n) 0 w) := by
  have hl := h.lenMap
  have C := Lib.hid (fun (W : World) => wrongSet_any f.i (m : Int) n W)
  rw [setW_ok ok h0 h1] at C
  have hm : 0 < m := by
    have h2 := ok.fits
    have h3 := ok.one
    unfold Fld.fits at h2
    omega
  have hm4 := ok.few
  have CP := Lib.hid (fun (g c base : Nat) (W : World) (ho : Ow (Value.int .u8) W base 5 (.slice (some ⟨g, 0, none⟩) m c) l) (hg : g < W.heap.size) => put_any f n g m c base l W ho hg hb ok h0 h1)
  have CC := Lib.hid (fun (W : World) (hW : Below w.heap.size w W) => CloneY_any A m c l W (h.below hW) (by omega))
  show Calls Try.prog 10 #[.slice A m c, .agg #[.int .i64 (f.fr : Int), .int .i64 (f.wd : Int), .bool f.bg], .int .i64 n] w _
  have Hl := Lib.hid hl
  clear h hl h0 h1
  generalize setF l f n = R at *
  go_enter Try.func10, Try.ntmps10
  go_wp2_with fail
  refine (C.out _).mono ?_
  rintro e w1 ⟨rfl, hb1⟩
  clear C
  have hbx := (Box.new w 24 [.int .i64 (f.fr : Int), .int .i64 (f.wd : Int), .bool f.bg]).below hb1 (by simp)
  have hw1 := below_new hb1
  clear hb1
  go_wp2_with fail
  refine (CC.out _ hw1).mono ?_
  rintro e w2 ⟨v, rfl, ho, hb2⟩
  clear CC
  have hin := ho.inHeap
  have hhd := ho.head (by rw [Hl.out]; exact hm)
  rw [Hl.out] at hhd
  obtain ⟨g, c2, rfl, hg1, hc1, hc2⟩ := hhd
  have hgl : g < w2.heap.size := hin g rfl
  have CQ := Lib.hid (CP.out g c2 w1.heap.size w2 ho hgl)
  have hs1 : w.heap.size ≤ w1.heap.size := hw1.size
  have hw2 := bthen hw1 hb2
  have hbx2 := hbx.below hb2 hbx.lt
  have hq0 := hbx2.cell 0 rfl
  have hq1 := hbx2.cell 1 rfl
  have hq2 := hbx2.cell 2 rfl
  clear CP hin ho hbx hbx2
  go_wp2_with fail
  refine CQ.out.mono ?_
  rintro e w3 ⟨rfl, ho3, hg3⟩
  clear CQ
  go_wp2
  go_ret2
  exact ⟨⟨_, rfl, ho3.mono hs1⟩, below_grown hw2 hg3 (by omega) (by have := hw2.size; omega)⟩
theorem FSet_any (A : Option Addr) (m c : Nat) (l : List Int) (f : FI) (n : Int) (w : World) (h : Rd w 1 A m (l.map (Value.int .u8))) (hb : Byt l) :
    Calls Try.prog 10 #[.slice A m c, f.v, .int .i64 n] w (GivesY (setL l f n) (setW f (l.length : Int) n) w) := by
  have hl := h.lenMap
  by_cases hw : setW f (l.length : Int) n = 0
  · unfold setL
    rw [if_pos hw, hw]
    obtain ⟨F, k, e1, rfl, ok, h0, h1⟩ := setW_zero hw
    obtain rfl : m = k := by omega
    rw [i_fld]
    exact FSet_ok A m c l F n w h hb ok h0 h1
  · unfold setL
    rw [if_neg hw, hl]
    rw [hl] at hw
    refine (FSet_bad A m c f n w hw).mono ?_
    rintro e w' ⟨rfl, hb'⟩
    exact ⟨⟨_, rfl, Ow.nil _ _ _ _⟩, hb'⟩
end Go.Proofs.Ytldkmopkakdgnaa
