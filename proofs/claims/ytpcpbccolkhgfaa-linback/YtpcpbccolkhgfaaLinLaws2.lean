/-
  The walks of LinBack and LinWrong.
-/
import Derived.Test.YtpcpbccolkhgfaaLinLaws
namespace Go.Proofs.Ytpcpbccolkhgfaa
open Go.RowKit
set_option linter.unusedVariables false

theorem writeL_bad {id : Int} {l : List Int} (newer : Bool) (h : ¬ (IdOk id ∧ DataOk l.length)) : ∃ er, er ≠ 0 ∧ writeL id l newer = ([], er) := by
  unfold writeL
  by_cases hi : IdOk id
  · rw [if_pos hi, if_neg (fun hd => h ⟨hi, hd⟩)]; exact ⟨1, by decide, rfl⟩
  · rw [if_neg hi]; exact ⟨2, by decide, rfl⟩

set_option maxHeartbeats 1000000 in
theorem LinBack_walk (a0 : Int) (A0 : Option Addr) (n0 c0 : Nat) (l0 : List Int) (A1 : Option Addr) (n1 c1 : Nat) (l1 : List Int) (a2 : Bool) (w : World)
    (w0 : (Lit.int .i64 a0).wf = true) (h0 : Rd w 1 A0 n0 (l0.map (Value.int .u8))) (v0 : ∀ x ∈ l0, (Lit.int .u8 x).wf = true) (k0 : n0 ≤ c0) (b0 : c0 * 1 ≤ 140737488351232)
    (h1 : Rd w 1 A1 n1 (l1.map (Value.int .u8))) (v1 : ∀ x ∈ l1, (Lit.int .u8 x).wf = true) (k1 : n1 ≤ c1) (b1 : c1 * 1 ≤ 140737488351232) :
    Calls Try.prog 6 #[frameV a0 A0 n0 c0, .slice A1 n1 c1, .bool a2] w fun e w' => e = .returned (.bool true) ∧ Below w.heap.size w w' := by
  have q0 : Byte8 l0 := fun x hx => by have := wf_u8 (v0 x hx); omega
  have q1 : Byte8 l1 := fun x hx => by have := wf_u8 (v1 x hx); omega
  have Hl0 := Lib.hid h0.lenMap
  have Hl1 := Lib.hid h1.lenMap
  clear w0 v0 v1
  go_enter Try.func6, Try.ntmps6
  go_wp2_with fail
  refine (alive7_any _).mono ?_
  rintro e w1 ⟨rfl, hb⟩
  have hbx : Box w1 w.heap.size 32 [.int .i64 a0, .slice A0 n0 c0] := (Box.new w _ _).below hb (by simp)
  replace hb := below_new hb
  have x0 := Box.cell hbx 0 rfl
  have x1 := Box.cell hbx 1 rfl
  rcases Classical.em (IdOk a0 ∧ DataOk n0) with hf | hf
  · have hrw := read_sentL a2 hf.1 (l := l0) (by rw [Hl0.out]; exact hf.2)
    have hsb := sent_bytes a2 hf.1 q0
    have hsl : (sentL a0 l0 a2).length = n0 + 2 := by rw [sentL, rowL_length, Hl0.out]
    go_wp2_with fail
    refine (WriteL_ok a0 A0 n0 c0 l0 a2 _ (h0.below hb) q0 hf.1 hf.2).mono ?_
    rintro e w2 ⟨v2, rfl, ho2, hb2⟩
    obtain ⟨Ax, cx, rfl, hcx, hcm, hrx⟩ := ho2.formN hsl
    replace hbx := hbx.below hb2 hbx.lt
    replace hb := bthen hb hb2
    clear x0 x1 hb2 ho2 hsl
    generalize sentL a0 l0 a2 = x at *
    go_wp2_with fail
    refine (ReadL_any Ax (n0 + 2) cx x a2 _ hrx hsb hcx (le63 hcm)).mono ?_
    rw [hrw]
    rintro e w3 ⟨A3, c3, rfl, ho3, hb3⟩
    simp only [Hl0.out] at ho3 ⊢
    have hr3 := ho3.rd
    replace hbx := hbx.below hb3 hbx.lt
    replace hb := bthen hb hb3
    clear ho3 hrx hrw hcx hcm hb3 hsb
    have x0 := Box.cell hbx 0 rfl
    have x1 := Box.cell hbx 1 rfl
    have hlt := hbx.lt
    go_wp2_with fail
    refine (SameFrame_any a0 a0 A0 A3 n0 c0 n0 c3 l0 l0 _ ((h0.below hb).alloc _) (hr3.alloc _) q0 q0).mono ?_
    rintro e w4 ⟨rfl, hb4⟩
    rw [show decide (a0 = a0 ∧ l0 = l0) = true by simp]
    replace hb4 := below_new hb4
    replace hb := bthen hb hb4
    clear hb4 x0 x1 hlt hr3 hbx hf
    go_wp2_with fail
    refine (ReadL_any A1 n1 c1 l1 a2 _ (h1.below hb) q1 k1 (by omega)).mono ?_
    rintro e w5 ⟨A5, c5, rfl, ho5, hb5⟩
    have hr5 := ho5.rd
    replace hb := bthen hb hb5
    clear ho5 hb5
    by_cases he : (readL l1 a2).2 = 0
    · obtain ⟨g1, g2, g3⟩ := sent_readL q1 (id := (readL l1 a2).1.1) (l := (readL l1 a2).1.2) (newer := a2) (Prod.ext rfl he)
      have hby := (read_bytesL (newer := a2) q1).1
      rw [he]
      generalize (readL l1 a2).1.1 = ri at *
      generalize (readL l1 a2).1.2 = rl at *
      have Hg3 := Lib.hid g3
      clear he g3
      obtain ⟨rn, hrn⟩ : ∃ rn, rn = rl.length := ⟨_, rfl⟩
      rw [← hrn] at g2 hr5 ⊢
      clear hrn
      go_wp2_with fail
      refine (WriteL_ok ri A5 rn c5 rl a2 _ (hr5.alloc _) hby g1 g2).mono ?_
      rintro e w6 ⟨v6, rfl, ho6, hb6⟩
      rw [Hg3.out] at ho6
      obtain ⟨A6, c6, rfl, _, _, r6⟩ := ho6.formN Hl1.out
      replace hb := bthen hb (below_new hb6)
      have hcv := run_bytes (P := Try.prog) Try.underlying22 Try.underlying5 Try.underlying9 c6 r6
      have hcv1 := run_bytes (P := Try.prog) Try.underlying22 Try.underlying5 Try.underlying9 c1 (h1.below hb)
      clear hb6 ho6 r6 hr5
      go_wp2
      go_ret
      exact ⟨rfl, hb⟩
    · have hz := read_errL l1 a2 he
      have he' : ((readL l1 a2).2 != 0) = true := by simpa using he
      generalize (readL l1 a2).2 = er at *
      rw [hz] at hr5 ⊢
      simp only [List.length_nil] at hr5 ⊢
      clear he hz
      go_wp2_with fail
      refine (WriteL_data 0 A5 0 c5 a2 _ ⟨by decide, by decide⟩ (by unfold DataOk; omega)).mono ?_
      rintro e w6 ⟨rfl, hb6⟩
      have hbx6 : Box w6 w5.heap.size 32 [.int .i64 0, .slice A5 0 c5] := (Box.new w5 _ _).below hb6 (by simp)
      replace hb := bthen hb (below_new hb6)
      have x0 := Box.cell hbx6 0 rfl
      have x1 := Box.cell hbx6 1 rfl
      clear hb6 hr5
      go_wp2
      go_ret
      exact ⟨rfl, hb⟩
  · obtain ⟨er, her, hwr⟩ := writeL_bad (l := l0) a2 (by rw [Hl0.out]; exact hf)
    have her' : (er == 0) = false := by simpa using her
    go_wp2_with fail
    refine (WriteL_any a0 A0 n0 c0 l0 a2 _ (h0.below hb) q0).mono ?_
    rw [hwr]
    rintro e w2 ⟨v2, rfl, ho2, hb2⟩
    simp only at ho2 ⊢
    obtain ⟨Ax, cx, rfl, hcx, hcm, hrx⟩ := ho2.formN (n := 0) rfl
    replace hb := bthen hb hb2
    clear x0 x1 hb2 ho2 hwr her hf hbx
    go_wp2_with fail
    refine (ReadL_any Ax 0 cx [] a2 _ hrx (by intro x hx; simp at hx) hcx (le63 hcm)).mono ?_
    rw [readL_short [] a2 (by simp)]
    rintro e w3 ⟨A3, c3, rfl, ho3, hb3⟩
    simp only [List.length_nil] at ho3 ⊢
    replace hb := bthen hb (hb3.alloc hb3.size (.cells #[.int .i64 0, .slice A3 0 c3] 32))
    clear ho3 hrx hcx hcm hb3
    go_wp2_with fail
    refine (ReadL_any A1 n1 c1 l1 a2 _ (h1.below hb) q1 k1 (by omega)).mono ?_
    rintro e w5 ⟨A5, c5, rfl, ho5, hb5⟩
    have hr5 := ho5.rd
    replace hb := bthen hb hb5
    clear ho5 hb5
    by_cases he : (readL l1 a2).2 = 0
    · obtain ⟨g1, g2, g3⟩ := sent_readL q1 (id := (readL l1 a2).1.1) (l := (readL l1 a2).1.2) (newer := a2) (Prod.ext rfl he)
      have hby := (read_bytesL (newer := a2) q1).1
      rw [he]
      generalize (readL l1 a2).1.1 = ri at *
      generalize (readL l1 a2).1.2 = rl at *
      have Hg3 := Lib.hid g3
      clear he g3
      obtain ⟨rn, hrn⟩ : ∃ rn, rn = rl.length := ⟨_, rfl⟩
      rw [← hrn] at g2 hr5 ⊢
      clear hrn
      go_wp2_with fail
      refine (WriteL_ok ri A5 rn c5 rl a2 _ (hr5.alloc _) hby g1 g2).mono ?_
      rintro e w6 ⟨v6, rfl, ho6, hb6⟩
      rw [Hg3.out] at ho6
      obtain ⟨A6, c6, rfl, _, _, r6⟩ := ho6.formN Hl1.out
      replace hb := bthen hb (below_new hb6)
      have hcv := run_bytes (P := Try.prog) Try.underlying22 Try.underlying5 Try.underlying9 c6 r6
      have hcv1 := run_bytes (P := Try.prog) Try.underlying22 Try.underlying5 Try.underlying9 c1 (h1.below hb)
      clear hb6 ho6 r6 hr5
      go_wp2
      go_ret
      exact ⟨rfl, hb⟩
    · have hz := read_errL l1 a2 he
      have he' : ((readL l1 a2).2 != 0) = true := by simpa using he
      generalize (readL l1 a2).2 = er at *
      rw [hz] at hr5 ⊢
      simp only [List.length_nil] at hr5 ⊢
      clear he hz
      go_wp2_with fail
      refine (WriteL_data 0 A5 0 c5 a2 _ ⟨by decide, by decide⟩ (by unfold DataOk; omega)).mono ?_
      rintro e w6 ⟨rfl, hb6⟩
      have hbx6 : Box w6 w5.heap.size 32 [.int .i64 0, .slice A5 0 c5] := (Box.new w5 _ _).below hb6 (by simp)
      replace hb := bthen hb (below_new hb6)
      have x0 := Box.cell hbx6 0 rfl
      have x1 := Box.cell hbx6 1 rfl
      clear hb6 hr5
      go_wp2
      go_ret
      exact ⟨rfl, hb⟩

set_option maxHeartbeats 1000000 in
theorem LinWrong_walk (a0 : Int) (A0 : Option Addr) (n0 c0 : Nat) (l0 : List Int) (a1 : Bool) (a2 a3 : Int) (w : World)
    (w0 : (Lit.int .i64 a0).wf = true) (h0 : Rd w 1 A0 n0 (l0.map (Value.int .u8))) (v0 : ∀ x ∈ l0, (Lit.int .u8 x).wf = true) (k0 : n0 ≤ c0) (b0 : c0 * 1 ≤ 140737488351232)
    (w2 : (Lit.int .i64 a2).wf = true) (w3 : (Lit.int .u8 a3).wf = true) :
    Calls Try.prog 7 #[frameV a0 A0 n0 c0, .bool a1, .int .i64 a2, .int .u8 a3] w fun e w' => e = .returned (.bool true) ∧ Below w.heap.size w w' := by
  have q0 : Byte8 l0 := fun x hx => by have := wf_u8 (v0 x hx); omega
  have q3 := wf_u8 w3
  have Hl0 := Lib.hid h0.lenMap
  clear w0 v0 w2 w3
  go_enter Try.func7, Try.ntmps7
  go_wp2_with fail
  refine (alive7_any _).mono ?_
  rintro e w1 ⟨rfl, hb⟩
  have hbx : Box w1 w.heap.size 32 [.int .i64 a0, .slice A0 n0 c0] := (Box.new w _ _).below hb (by simp)
  replace hb := below_new hb
  have x0 := Box.cell hbx 0 rfl
  have x1 := Box.cell hbx 1 rfl
  rcases Classical.em (IdOk a0 ∧ DataOk n0) with hf | hf
  · have hsb := sent_bytes a1 hf.1 q0
    have hsl : (sentL a0 l0 a1).length = n0 + 2 := by rw [sentL, rowL_length, Hl0.out]
    have Hturn := Lib.hid (fun k x y => read_turnedL (newer := a1) (l := l0) hf.1 (by rw [Hl0.out]; exact hf.2) q0 (k := k) (x := x) (y := y))
    go_wp2_with fail
    refine (WriteL_ok a0 A0 n0 c0 l0 a1 _ (h0.below hb) q0 hf.1 hf.2).mono ?_
    rintro e w2 ⟨v2, rfl, ho2, hb2⟩
    obtain ⟨g, cx, hv, hgl, hcx, hcm⟩ := ho2.head (by omega)
    rw [hsl] at hv hcx
    subst hv
    have hs1 := hb.size
    replace hb := bthen hb hb2
    have hd8 := hf.2.2
    clear x0 x1 hb2 hf hbx
    generalize sentL a0 l0 a1 = x at *
    by_cases p1 : a2 < 1
    · have t1 : decide (a2 < 1) = true := by simpa using p1
      go_wp2
      go_ret
      exact ⟨rfl, hb⟩
    have t1 : decide (a2 < 1) = false := by simpa using p1
    by_cases p2 : (n0 : Int) + 2 ≤ a2
    · go_wp2
      go_ret
      exact ⟨rfl, hb⟩
    have t2 : decide ((n0 : Int) + 2 ≤ a2) = false := by simpa using p2
    by_cases p3 : a3 = 0
    · subst p3
      go_wp2
      go_ret
      exact ⟨rfl, hb⟩
    have t3 : (a3 == 0) = false := by simpa using p3
    obtain ⟨j, rfl⟩ := Int.eq_ofNat_of_zero_le (show 0 ≤ a2 by omega)
    obtain ⟨wa, hwa⟩ : ∃ wa, x[j]? = some wa := ⟨_, List.getElem?_eq_getElem (by omega)⟩
    have hwb := hsb wa (List.mem_of_getElem? hwa)
    obtain ⟨y0, y1, yne⟩ := u8_turned wa a3 hwb.1 hwb.2 q3.1 (by omega) p3
    have hT := fun h1 h2 => Hturn.out j wa (bits .xor .u8 wa a3) hwa (by omega) y0 y1 yne h1 h2
    have hjlt : (j : Int) < (n0 : Int) + 2 := by omega
    have hcj := ho2.cellAt hwa
    have hfj := ho2.freeAt j
    generalize hxy : bits .xor .u8 wa a3 = y at *
    have hop := ho2.put j y
    have hbp := hb.setCell (p := ⟨g, j, none⟩) (Nat.le_trans hs1 hgl) (.int .u8 y)
    have hsy : Byte8 (x.set j y) := fun z hz => by
      rcases List.mem_or_eq_of_mem_set hz with h | h
      · exact hsb z h
      · rw [h]; exact ⟨y0, y1⟩
    have hyj : (x.set j y)[j]? = some y := by rw [List.getElem?_set_self (by omega)]
    have hcy := hop.cellAt hyj
    have hrp := hop.rd
    have hgs := World.block_lt_of_cell? _ _ hcy
    have HT := Lib.hid hT
    clear ho2 hop Hturn hT hwa hyj p1 p2 p3
    generalize x.set j y = x' at *
    go_wp2_with fail
    refine (ReadL_any _ (n0 + 2) cx x' a1 _ hrp hsy hcx (le63 hcm)).mono ?_
    rintro e w4 ⟨A4, c4, rfl, ho4, hb4⟩
    have hcy4 := (hb4.cell hgs).trans hcy
    have hcyA : ∀ o, (w4.alloc o).cell? ⟨g, j, none⟩ = some (.int .u8 y) := fun o => by rw [← hcy4]; exact Below.cell ((Below.refl _ _).alloc (Nat.le_refl _) o) (World.block_lt_of_cell? w4 _ hcy4)
    replace hb := bthen hbp hb4
    clear ho4 hbp hcj hfj hcy hrp hb4
    generalize readL x' a1 = r at *
    obtain ⟨⟨ri, rl⟩, re⟩ := r
    simp only at HT ⊢
    generalize rl.length = rn at *
    by_cases e0 : wa = 0
    · subst e0
      by_cases e1 : y = 255
      · subst e1
        clear HT
        go_wp2
        go_ret
        exact ⟨rfl, hb.alloc hb.size _⟩
      · have hre := HT.out (fun h => e1 h.2) (by omega)
        have g1 : (y == 255) = false := by simpa using e1
        subst hre
        clear HT e1
        go_wp2
        go_ret
        exact ⟨rfl, hb.alloc hb.size _⟩
    · have g0 : (wa == 0) = false := by simpa using e0
      by_cases e2 : wa = 255
      · subst e2
        by_cases e3 : y = 0
        · subst e3
          clear HT e0
          go_wp2
          go_ret
          exact ⟨rfl, hb.alloc hb.size _⟩
        · have hre := HT.out (by omega) (fun h => e3 h.2)
          have g3 : (y == 0) = false := by simpa using e3
          subst hre
          clear HT e3 e0
          go_wp2
          go_ret
          exact ⟨rfl, hb.alloc hb.size _⟩
      · have hre := HT.out (fun h => e0 h.1) (fun h => e2 h.1)
        have g2 : (wa == 255) = false := by simpa using e2
        subst hre
        clear HT e2 e0
        go_wp2
        go_ret
        exact ⟨rfl, hb.alloc hb.size _⟩
  · obtain ⟨er, her, hwr⟩ := writeL_bad (l := l0) a1 (by rw [Hl0.out]; exact hf)
    have her' : (er != 0) = true := by simpa using her
    go_wp2_with fail
    refine (WriteL_any a0 A0 n0 c0 l0 a1 _ (h0.below hb) q0).mono ?_
    rw [hwr]
    rintro e w2 ⟨v2, rfl, ho2, hb2⟩
    replace hb := bthen hb hb2
    clear x0 x1 hb2 ho2 hwr her hf hbx
    go_wp2
    go_ret
    exact ⟨rfl, hb⟩
end Go.Proofs.Ytpcpbccolkhgfaa
