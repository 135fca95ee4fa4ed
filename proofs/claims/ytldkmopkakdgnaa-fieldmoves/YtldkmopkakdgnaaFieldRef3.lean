/-
  Contract of slotwrightref.WSet.
-/
import Derived.Test.YtldkmopkakdgnaaFieldRef2
import Derived.Test.YtldkmopkakdgnaaFrameV
namespace Go.Proofs.Ytldkmopkakdgnaa
open Go.RowKit
set_option maxRecDepth 20000
set_option linter.unusedVariables false

/-- Where bit i of the row goes. -/
def posF (f : Fld) (i : Nat) : Nat := if f.bg = true then f.fr + i else f.fr + f.wd - 1 - i
def stepRow (Q : List Bool) (f : Fld) (row : List Bool) : Nat → List Bool
  | 0 => Q
  | i + 1 => (stepRow Q f row i).set (posF f i) (row.getD i false)
theorem stepRow_length (Q : List Bool) (f : Fld) (row : List Bool) : ∀ i, (stepRow Q f row i).length = Q.length
  | 0 => rfl
  | i + 1 => by rw [stepRow, List.length_set, stepRow_length Q f row i]
theorem stepRow_getD {Q : List Bool} {f : Fld} {row : List Bool} {p : Nat} (hp : p < Q.length) : ∀ i, i ≤ f.wd → (stepRow Q f row i).getD p false = if (f.fr ≤ p ∧ p < f.fr + f.wd) ∧ (if f.bg = true then p - f.fr else f.fr + f.wd - 1 - p) < i then row.getD (if f.bg = true then p - f.fr else f.fr + f.wd - 1 - p) false else Q.getD p false
  | 0, _ => by rw [if_neg (fun e => Nat.not_lt_zero _ e.2)]; rfl
  | i + 1, hi => by
    have ih := stepRow_getD (f := f) (row := row) hp i (by omega)
    rw [stepRow, set_getD (by rw [stepRow_length]; exact hp), ih]
    unfold posF
    cases f.bg
    · simp only [Bool.false_eq_true, if_false]
      by_cases h : f.fr + f.wd - 1 - i = p
      · rw [if_pos h, if_pos (by omega)]
        congr 1; omega
      · rw [if_neg h]
        by_cases h2 : (f.fr ≤ p ∧ p < f.fr + f.wd) ∧ f.fr + f.wd - 1 - p < i
        · rw [if_pos h2, if_pos (by omega)]
        · rw [if_neg h2, if_neg (by omega)]
    · simp only [if_true]
      by_cases h : f.fr + i = p
      · rw [if_pos h, if_pos (by omega)]
        congr 1; omega
      · rw [if_neg h]
        by_cases h2 : (f.fr ≤ p ∧ p < f.fr + f.wd) ∧ p - f.fr < i
        · rw [if_pos h2, if_pos (by omega)]
        · rw [if_neg h2, if_neg (by omega)]
theorem stepRow_all {Q row : List Bool} {f : Fld} {k : Nat} (hQ : Q.length = 8 * k) (hf : f.fits k) (hr : row.length = f.wd) (h1 : 1 ≤ f.wd) : stepRow Q f row f.wd = refRow Q f row := by
  refine ext_getD (by rw [stepRow_length, refRow_length hQ hf hr, hQ]) fun i hi => ?_
  rw [stepRow_length] at hi
  rw [stepRow_getD hi f.wd (Nat.le_refl _), refRow_getD hQ hf hr (by rw [← hQ]; exact hi)]
  by_cases h : f.fr ≤ i ∧ i < f.fr + f.wd
  · rw [if_pos ⟨h, by split <;> omega⟩, if_pos h]
  · rw [if_neg (fun e => h e.1), if_neg h]
theorem posF_lt {f : Fld} {k i : Nat} (hf : f.fits k) (hi : i < f.wd) : posF f i < 8 * k := by
  unfold posF
  unfold Fld.fits at hf
  split <;> omega
set_option maxRecDepth 20000 in
set_option maxHeartbeats 1600000 in
theorem WSet_any (A : Option Addr) (n c : Nat) (l : List Int) (f : Fld) (m : Int) (w : World) (h : Rd w 1 A n (l.map (Value.int .u8))) (hb : Byt l) (ok : f.Ok n) (m0 : 0 ≤ m) (m1 : m < 2 ^ f.wd) :
    Calls Try.prog 14 #[.slice A n c, f.i.v, .int .i64 m] w fun e w' => ∃ v, e = .returned v ∧ Ow (Value.int .u8) w' w.heap.size 5 v (setF l f m) ∧ Below w.heap.size w w' := by
  have Hl := Lib.hid h.lenMap
  have hfits : f.fits l.length := by rw [Hl.out]; exact ok.fits
  have h400 := ok.few
  have hfar := ok.far
  have hone := ok.one
  have hwide := ok.wide
  have hfn : f.fr + f.wd ≤ 8 * n := ok.fits
  have hQ : (rowF f.bg l).length = 8 * n := by rw [rowF_length, Hl.out]
  have hrow := bitsOf_length f.wd m
  have HS := Lib.hid (refSet_is m hfits)
  have HA := Lib.hid (stepRow_all hQ ok.fits hrow hone)
  have HP := Lib.hid (fun (i : Nat) (hi : i < f.wd) => posF_lt ok.fits hi)
  have hQL : Hid (∀ i, (stepRow (rowF f.bg l) f (bitsOf f.wd m) i).length = 8 * n) := fun i => by rw [stepRow_length, hQ]
  have CB := Lib.hid (fun (W : World) (hW : Below w.heap.size w W) => WBits_any A n c l f.bg W (h.below hW) hb h400)
  have CP := Lib.hid (fun (W : World) => APut_ok f.wd m W hwide m0 m1)
  have HB2 : Hid (Byt (bytesOf (refRow (rowF f.bg l) f (bitsOf f.wd m))) ∧ (bytesOf (refRow (rowF f.bg l) f (bitsOf f.wd m))).length = n) := ⟨bytesOf_range _, bytes_len (refRow_length hQ ok.fits hrow)⟩
  have hst0 : Hid (stepRow (rowF f.bg l) f (bitsOf f.wd m) 0 = rowF f.bg l) := rfl
  have hstep : Hid (∀ i, stepRow (rowF f.bg l) f (bitsOf f.wd m) (i + 1) = (stepRow (rowF f.bg l) f (bitsOf f.wd m) i).set (posF f i) ((bitsOf f.wd m).getD i false)) := fun i => rfl
  have hpos : Hid (∀ i, posF f i = if f.bg = true then f.fr + i else f.fr + f.wd - 1 - i) := fun i => rfl
  have hN4 : 8 * n ≤ 3200 := by omega
  unfold refSet at HS
  show Calls Try.prog 14 #[.slice A n c, .agg #[.int .i64 (f.fr : Int), .int .i64 (f.wd : Int), .bool f.bg], .int .i64 m] w _
  clear ok hfits h hb m0 m1
  generalize setF l f m = R at *
  generalize refRow (rowF f.bg l) f (bitsOf f.wd m) = RR at *
  generalize stepRow (rowF f.bg l) f (bitsOf f.wd m) = ST at *
  generalize posF f = ps at *
  generalize rowF f.bg l = Q at *
  generalize bitsOf f.wd m = row at *
  obtain ⟨fr, wd, bg⟩ := f
  simp only at *
  generalize hN : 8 * n = N at *
  have HN := Lib.hid hN
  clear hN
  have hbx := Box.new w 24 [.int .i64 (fr : Int), .int .i64 (wd : Int), .bool bg]
  have hb1 : Below w.heap.size w (w.alloc (.cells #[.int .i64 (fr : Int), .int .i64 (wd : Int), .bool bg] 24)) := fld_below _ _
  have hbz : w.heap.size < (w.alloc (.cells #[.int .i64 (fr : Int), .int .i64 (wd : Int), .bool bg] 24)).heap.size := by simp
  go_enter Try.func14, Try.ntmps14
  go_wp2_with fail
  refine (CB.out _ hb1).mono ?_
  rintro e w2 ⟨v2, rfl, ho2, hb2⟩
  have hbx2 := hbx.below hb2 hbz
  replace hb1 := bthen hb1 hb2
  obtain ⟨ga, ca, hv, hga, hca, hcm⟩ := ho2.head (by have := hfar; rw [hQ]; omega)
  rw [hQ] at hv hca
  subst hv
  have hgl : ga < w2.heap.size := ho2.inHeap ga rfl
  have hgw : w.heap.size < ga := by simp at hga; omega
  replace ho2 := ho2.mono (base' := w.heap.size) (by simp)
  clear CB hb2 hbx hbz
  have q0 := hbx2.cell 0 rfl
  have q1 := hbx2.cell 1 rfl
  go_wp2_with fail
  refine (CP.out _).mono ?_
  rintro e w3 ⟨Ar, cr, rfl, hor, hb3⟩
  replace ho2 := ho2.below hb3
  replace hbx2 := hbx2.below hb3 hbx2.lt
  replace hb1 := bthen hb1 hb3
  have hgl3 : ga < w3.heap.size := Nat.lt_of_lt_of_le hgl hb3.size
  have hrb := hor.block
  clear CP hb3 q0 q1
  have hg0 : w3.grownBy w3 (some ga) := World.grownBy.refl _ _
  go_wp2
  go_loopw [26] (fun i wr => ∃ j : Nat, j ≤ wd ∧ i = .int .i64 j ∧ Ow Value.bool wr w.heap.size 4 (.slice (some ⟨ga, 0, none⟩) N ca) (ST j) ∧ w3.grownBy wr (some ga)) (fun i _ => wd - (intOf i).toNat)
  case atStart => exact ⟨0, Nat.zero_le _, rfl, by rw [hst0.out]; exact ho2, hg0⟩
  case round =>
    clear ho2 hg0
    obtain ⟨j, hj, rfl, ho, hg⟩ := hrel
    have hbx3 := hbx2.grown hg (fun e => by injection e with e; omega)
    have hor3 := hor.keep hg (fun q hq => fun e => by have := hrb q hq; injection e with e; omega)
    have q0 := hbx3.cell 0 rfl
    have q1 := hbx3.cell 1 rfl
    have q2 := hbx3.cell 2 rfl
    by_cases hlt : j < wd
    · obtain ⟨ad, x, rfl, hx, hc⟩ := hor3.rd.atMap hlt
      have hxg : row.getD j false = x := by rw [List.getD_eq_getElem?_getD, hx]; rfl
      have hstp := hstep.out j
      have hpj := hpos.out j
      have hpl := HP.out j hlt
      rw [hxg] at hstp
      have hfr := ho.freeAt (ps j)
      obtain ⟨z, hz⟩ : ∃ z, (ST j)[ps j]? = some z := ⟨_, List.getElem?_eq_getElem (by rw [hQL.out j]; exact hpl)⟩
      have hcz := ho.cellAt hz
      have Hput := Lib.hid (ho.put (ps j) x)
      have Hst := Lib.hid hstp
      clear hstp hx hxg hz
      cases bg
      · simp only [Bool.false_eq_true, if_false] at hpj
        have v1 : IntKind.i64.wrap ((fr : Int) + (wd : Int)) = (fr : Int) + (wd : Int) := IntWalk.i64_in _ (by omega)
        have v2 : IntKind.i64.wrap ((fr : Int) + (wd : Int) - 1) = (fr : Int) + (wd : Int) - 1 := IntWalk.i64_in _ (by omega)
        have v3 : IntKind.i64.wrap ((fr : Int) + (wd : Int) - 1 - (j : Int)) = ((ps j : Nat) : Int) := by rw [IntWalk.i64_in _ (by omega)]; omega
        clear hpj
        generalize ps j = p at *
        go_wp2
        go_roundw
        case rel => exact ⟨j + 1, by omega, by go_num, by rw [Hst.out]; exact Hput.out, grownBy_then hg (grownBy_setCell _ ⟨ga, p, none⟩ _)⟩
        case measure => simp [intOf] <;> omega
      · simp only [if_true] at hpj
        have v1 : IntKind.i64.wrap ((fr : Int) + (j : Int)) = ((ps j : Nat) : Int) := by rw [IntWalk.i64_in _ (by omega)]; omega
        clear hpj
        generalize ps j = p at *
        go_wp2
        go_roundw
        case rel => exact ⟨j + 1, by omega, by go_num, by rw [Hst.out]; exact Hput.out, grownBy_then hg (grownBy_setCell _ ⟨ga, p, none⟩ _)⟩
        case measure => simp [intOf] <;> omega
    · obtain rfl : j = wd := by omega
      have hA := HA.out
      rw [hA] at ho
      have hrd := ho.rd
      have hbl : Below w.heap.size w wr := below_grown hb1 hg (by omega) hb1.size
      have hle : ca ≤ 9223372036854775807 := le63 hcm
      have CY := Lib.hid (ABytes_any (some ⟨ga, 0, none⟩) N ca RR wr hrd hca (by omega) hle)
      have hbyt := HB2.out
      clear HA hA HP hQL hst0 hstep hpos hor hor3 ho
      go_wp2_with fail
      refine CY.out.mono ?_
      rintro e w5 ⟨v5, rfl, ho5, hb5⟩
      replace hbl := bthen hbl hb5
      have hbx5 := hbx3.below hb5 hbx3.lt
      have q5 := hbx5.cell 2 rfl
      clear CY q0 q1 q2 hb5
      have HS' := Lib.hid HS.out
      generalize bytesOf RR = X at *
      cases bg
      · simp only [Bool.false_eq_true, if_false] at HS'
        have hB := hbyt.1
        obtain ⟨A5, c5, rfl, k5, _, hr5⟩ := ho5.formN hbyt.2
        have CB2 := Lib.hid (WBits_any A5 n c5 X false w5 hr5 hB h400)
        have hlX : (rowF false X).length = N := by rw [rowF_length, hbyt.2, HN.out]
        generalize rowF false X = Y at *
        go_wp2_with fail
        refine CB2.out.mono ?_
        rintro e w6 ⟨v6, rfl, ho6, hb6⟩
        obtain ⟨A6, c6, rfl, k6, m6, hr6⟩ := ho6.formN hlX
        have CY2 := Lib.hid (ABytes_any A6 N c6 Y w6 hr6 k6 (by omega) (le63 m6))
        clear CB2
        go_wp2_with fail
        refine CY2.out.mono ?_
        rintro e w7 ⟨v7, rfl, ho7, hb7⟩
        clear CY2
        go_wp2
        go_ret
        have hs := bthen hbl hb6
        exact ⟨_, rfl, by rw [← HS'.out]; exact ho7.mono hs.size, bthen hs hb7⟩
      · simp only [if_true] at HS'
        go_wp2
        go_ret
        exact ⟨_, rfl, by rw [← HS'.out]; exact ho5.mono (by have := hb1.size; have := hg.size; omega), hbl⟩
end Go.Proofs.Ytldkmopkakdgnaa
