/-
  The laws of chapter 4: alive4, and the walks of FrameTells, FrameBack, FrameStill.
-/
import Derived.Test.YtepogmnodmoebaaFrameRef
import Derived.Lib.SlBytesConst
namespace Go.Proofs.Ytepogmnodmoebaa
open Go.RowKit
set_option linter.unusedVariables false
set_option linter.unusedSimpArgs false

theorem plain_len (id : Int) (l : List Int) : (plainM id l).length ≤ 83 := by
  unfold plainM
  split
  · rename_i h; rw [row_length]; have := h.2.2; omega
  · simp
theorem write_len (id : Int) (l : List Int) : (writeM id l).length ≤ 122 := by
  unfold writeM
  split
  · rename_i h; have h1 := sent_length id l; have h2 := h.2.2; omega
  · simp
/-- What Plain, Write and their twins promise: the bits of the model, and the error of Wrong. -/
def GivesBits (w : World) (p : List Bool) (er : Int) (e : Ending) (w' : World) : Prop :=
  ∃ A c, e = .returned (.tuple #[.slice A p.length c, .int .i64 er]) ∧ Rd w' 1 A p.length (p.map Value.bool) ∧ Below w.heap.size w w' ∧ p.length ≤ c ∧ c ≤ 9223372036854775807
theorem gives_ok {w : World} {p : List Bool} {e : Ending} {w' : World} (h : ∃ v, e = .returned (.tuple #[v, .int .i64 0]) ∧ Ow Value.bool w' w.heap.size 4 v p ∧ Below w.heap.size w w') : GivesBits w p 0 e w' := by
  obtain ⟨v, he, ho, hb⟩ := h
  obtain ⟨A, c, rfl, h1, h2⟩ := ho.form
  exact ⟨A, c, he, ho.rd, hb, h1, le63 h2⟩
theorem gives_bad {w : World} {e : Ending} {w' : World} (h : e = .returned (.tuple #[.slice none 0 0, .int .i64 2]) ∧ Below w.heap.size w w') : GivesBits w [] 2 e w' :=
  ⟨none, 0, h.1, Rd.nil _ _ _, h.2, by simp, by decide⟩
section
variable (id : Int) (A : Option Addr) (n c : Nat) (l : List Int) (w : World) (h : Rd w 1 A n (l.map (Value.int .u8))) (hb : Byte8 l) (hn : n ≤ 9223372036854775807)
include h hb hn
theorem Plain_any : Calls Try.prog 8 #[frameV id A n c] w (GivesBits w (plainM id l) (wrongM id n)) := by
  unfold plainM wrongM
  rw [h.lenMap]
  by_cases hf : FrameOk id n
  · rw [if_pos hf, if_pos hf]; exact (Plain_ok id A n c l w h hb hf).mono fun _ _ => gives_ok
  · rw [if_neg hf, if_neg hf]; exact (Plain_bad id A n c w hf hn).mono fun _ _ => gives_bad
theorem Write_any : Calls Try.prog 10 #[frameV id A n c] w (GivesBits w (writeM id l) (wrongM id n)) := by
  unfold writeM wrongM
  rw [h.lenMap]
  by_cases hf : FrameOk id n
  · rw [if_pos hf, if_pos hf]; exact (Write_ok id A n c l w h hb hf).mono fun _ _ => gives_ok
  · rw [if_neg hf, if_neg hf]; exact (Write_bad id A n c w hf hn).mono fun _ _ => gives_bad
theorem DPlain_any : Calls Try.prog 9 #[frameV id A n c] w (GivesBits w (plainM id l) (wrongM id n)) := by
  unfold plainM wrongM
  rw [h.lenMap]
  by_cases hf : FrameOk id n
  · rw [if_pos hf, if_pos hf]; exact (DPlain_ok id A n c l w h hb hf).mono fun _ _ => gives_ok
  · rw [if_neg hf, if_neg hf]; exact (DPlain_bad id A n c w hf hn).mono fun _ _ => gives_bad
theorem DWrite_any : Calls Try.prog 11 #[frameV id A n c] w (GivesBits w (writeM id l) (wrongM id n)) := by
  unfold writeM wrongM
  rw [h.lenMap]
  by_cases hf : FrameOk id n
  · rw [if_pos hf, if_pos hf]; exact (DWrite_ok id A n c l w h hb hf).mono fun _ _ => gives_ok
  · rw [if_neg hf, if_neg hf]; exact (DWrite_bad id A n c w hf hn).mono fun _ _ => gives_bad
end
theorem ok5 : FrameOk 5 2 := by unfold FrameOk; omega
theorem ok50 : FrameOk 5 0 := by unfold FrameOk; omega
theorem byte_ab : Byte8 [97, 98] := by intro x hx; simp at hx; omega

/-- A literal of bytes that was made of a constant string. -/
theorem Rd.litMark {α : Type} (f : α → Value) (w : World) (l : List α) (t : TypeId) (fr : Nat × Nat) : Rd (w.alloc (.cells (l.map f).toArray t fr)) 1 (some ⟨w.heap.size, 0, none⟩) l.length (l.map f) := by
  refine ⟨by simp, fun _ => ⟨_, rfl, fun j u hj => ?_⟩⟩
  have hadd : (⟨w.heap.size, 0, none⟩ : Addr).add j = ⟨w.heap.size, j, none⟩ := by unfold Addr.add; split <;> simp_all
  rw [hadd, World.cell?_alloc_mark]
  simpa using hj

set_option maxHeartbeats 1000000 in
theorem alive4_any (w : World) : Calls Try.prog 17 #[] w fun e w' => e = .returned (.bool true) ∧ Below w.heap.size w w' := by
  have hrw := read_write 5 [97, 98] ok5 byte_ab
  have hsl := sent_length 5 [97, 98]
  simp only [List.length_cons, List.length_nil] at hsl
  have hcv := Lib.run_convert_bytes_const (P := Try.prog) w 22 5 #[.int .u8 97, .int .u8 98] 2 2 Try.underlying22 Try.underlying5
  go_enter Try.func17, Try.ntmps17
  go_wp2_with fail
  refine (Write_ok 5 (some ⟨w.heap.size, 0, none⟩) 2 2 [97, 98] _ (Rd.litMark (Value.int .u8) w _ _ _) byte_ab ok5).mono ?_
  intro e w1 hh
  obtain ⟨A1, c1, rfl, hr1, hb1, hc1, _⟩ := gives_ok hh
  replace hb1 := below_new hb1
  generalize sentM 5 [97, 98] = x at *
  generalize x.length = xn at *
  clear hh
  go_wp2_with fail
  refine (Read_any A1 xn c1 x _ hr1 (by omega)).mono ?_
  rw [hrw]
  rintro e w2 ⟨A2, c2, rfl, ho2, hb2⟩
  simp only [List.length_cons, List.length_nil, Nat.zero_add] at ho2 ⊢
  have hr2 := ho2.rd
  have hb := bthen hb1 hb2
  clear ho2 hb1 hb2 hr1 hrw
  go_wp2_with fail
  refine (Plain_ok 5 none 0 0 [] _ (Rd.nil _ _ _) (by intro x hx; simp at hx) ok50).mono ?_
  intro e w3 hh
  obtain ⟨A3, c3, rfl, hr3, hb3, _, _⟩ := gives_ok hh
  rw [row_length]
  have hbx : Box w3 w2.heap.size 24 [.int .i64 5, .slice A2 2 c2] := (Box.new w2 _ _).below hb3 (by simp)
  have x0 := Box.cell hbx 0 rfl
  have x1 := Box.cell hbx 1 rfl
  replace hb3 := below_new hb3
  have hcv2 := run_bytes (P := Try.prog) Try.underlying22 Try.underlying5 Try.underlying9 c2 (hr2.below hb3)
  have hse : (strOfNums [97, 98]).toList = [97, 98] := by rw [ByteArray.toList_eq]; rfl
  replace hb := bthen hb hb3
  clear hh hr3 hb3 hr2 hcv
  go_wp2
  go_ret
  exact ⟨rfl, hb⟩

set_option maxHeartbeats 1000000 in
theorem FrameTells_walk (a0 : Int) (A0 : Option Addr) (n0 c0 : Nat) (l0 : List Int) (A1 : Option Addr) (n1 c1 : Nat) (l1 : List Bool) (w : World)
    (w0 : (Lit.int .i64 a0).wf = true) (h0 : Rd w 1 A0 n0 (l0.map (Value.int .u8))) (v0 : ∀ x ∈ l0, (Lit.int .u8 x).wf = true) (k0 : n0 ≤ c0) (b0 : c0 * 1 ≤ 140737488351232)
    (h1 : Rd w 1 A1 n1 (l1.map Value.bool)) (k1 : n1 ≤ c1) (b1 : c1 * 1 ≤ 140737488351232) :
    Calls Try.prog 3 #[frameV a0 A0 n0 c0, .slice A1 n1 c1] w fun e w' => e = .returned (.bool true) ∧ Below w.heap.size w w' := by
  have q0 : Byte8 l0 := fun x hx => by have := wf_u8 (v0 x hx); omega
  have hn : n0 ≤ 9223372036854775807 := by omega
  have hpl := plain_len a0 l0
  have hwl := write_len a0 l0
  have hrb : Byte8 (readM l1).1.2 := read_bytes l1
  clear w0 v0
  go_enter Try.func3, Try.ntmps3
  go_wp2_with fail
  refine (Plain_any a0 A0 n0 c0 l0 _ (h0.alloc _) q0 hn).mono ?_
  rintro e w1 ⟨Ap, cp, rfl, hrp, hb, _, _⟩
  have hbx : Box w1 w.heap.size 24 [.int .i64 a0, .slice A0 n0 c0] := (Box.new w _ _).below hb (by simp)
  replace hb := below_new hb
  have x0 := Box.cell hbx 0 rfl
  have x1 := Box.cell hbx 1 rfl
  go_wp2_with fail
  refine (DPlain_any a0 A0 n0 c0 l0 _ (h0.below hb) q0 hn).mono ?_
  rintro e w2 ⟨Aq, cq, rfl, hrq, hb2, _, _⟩
  replace hbx := hbx.below hb2 hbx.lt
  replace hb := bthen hb hb2
  replace hrp := hrp.below hb2
  clear x0 x1 hb2
  have x0 := Box.cell hbx 0 rfl
  have x1 := Box.cell hbx 1 rfl
  go_wp2_with fail
  refine (Write_any a0 A0 n0 c0 l0 _ (h0.below hb) q0 hn).mono ?_
  rintro e w3 ⟨Ax, cx, rfl, hrx, hb3, _, _⟩
  replace hbx := hbx.below hb3 hbx.lt
  replace hb := bthen hb hb3
  replace hrp := hrp.below hb3
  replace hrq := hrq.below hb3
  clear x0 x1 hb3
  have x0 := Box.cell hbx 0 rfl
  have x1 := Box.cell hbx 1 rfl
  go_wp2_with fail
  refine (DWrite_any a0 A0 n0 c0 l0 _ (h0.below hb) q0 hn).mono ?_
  rintro e w4 ⟨Ay, cy, rfl, hry, hb4, _, _⟩
  replace hbx := hbx.below hb4 hbx.lt
  replace hb := bthen hb hb4
  replace hrp := hrp.below hb4
  replace hrq := hrq.below hb4
  replace hrx := hrx.below hb4
  clear x0 x1 hb4
  generalize plainM a0 l0 = p at *
  generalize writeM a0 l0 = x at *
  generalize p.length = pn at *
  generalize x.length = xn at *
  go_wp2_with fail
  refine (Read_any A1 n1 c1 l1 _ (h1.below hb) (by omega)).mono ?_
  rintro e w5 ⟨Au, cu, rfl, hou, hb5⟩
  replace hbx := hbx.below hb5 hbx.lt
  replace hb := bthen hb hb5
  replace hrp := hrp.below hb5
  replace hrq := hrq.below hb5
  replace hrx := hrx.below hb5
  replace hry := hry.below hb5
  have hru := hou.rd
  clear hou hb5
  go_wp2_with fail
  refine (DRead_any A1 n1 c1 l1 _ ((h1.below hb).alloc _) k1 (by omega) (by omega)).mono ?_
  rintro e w6 ⟨Av, cv, rfl, hov, hb6⟩
  have hbu : Box w6 w5.heap.size 24 [.int .i64 (readM l1).1.1, .slice Au (readM l1).1.2.length cu] := (Box.new w5 _ _).below hb6 (by simp)
  replace hb6 := below_new hb6
  replace hbx := hbx.below hb6 hbx.lt
  replace hb := bthen hb hb6
  replace hrp := hrp.below hb6
  replace hrq := hrq.below hb6
  replace hrx := hrx.below hb6
  replace hry := hry.below hb6
  replace hru := hru.below hb6
  have hrv := hov.rd
  clear hov hb6
  generalize readM l1 = r at *
  obtain ⟨⟨ri, rl⟩, re⟩ := r
  simp only at hru hrv hbu hrb ⊢
  generalize rl.length = rn at *
  have x0 := Box.cell hbx 0 rfl
  have x1 := Box.cell hbx 1 rfl
  have hlt := hbx.lt
  go_wp2_with fail
  refine (Wrong_any a0 A0 n0 c0 _ hn).mono ?_
  rintro e w7 ⟨rfl, hb7⟩
  have hbv : Box w7 w6.heap.size 24 [.int .i64 ri, .slice Av rn cv] := (Box.new w6 _ _).below hb7 (by simp)
  replace hb7 := below_new hb7
  replace hbu := hbu.below hb7 hbu.lt
  replace hb := bthen hb hb7
  replace hrp := hrp.below hb7
  replace hrq := hrq.below hb7
  replace hrx := hrx.below hb7
  replace hry := hry.below hb7
  replace hru := hru.below hb7
  replace hrv := hrv.below hb7
  clear x0 x1 hb7 hbx hlt
  generalize wrongM a0 n0 = g at *
  go_wp2_with fail
  refine (EqualB_any_same Ap Aq pn cp pn cq p _ hrp hrq (by omega)).mono ?_
  rintro e w8 ⟨rfl, hb8⟩
  replace hbu := hbu.below hb8 hbu.lt
  replace hbv := hbv.below hb8 hbv.lt
  replace hb := bthen hb hb8
  replace hrx := hrx.below hb8
  replace hry := hry.below hb8
  replace hru := hru.below hb8
  replace hrv := hrv.below hb8
  clear hrp hrq hb8
  go_wp2_with fail
  refine (EqualB_any_same Ax Ay xn cx xn cy x _ hrx hry (by omega)).mono ?_
  rintro e w9 ⟨rfl, hb9⟩
  replace hbu := hbu.below hb9 hbu.lt
  replace hbv := hbv.below hb9 hbv.lt
  replace hb := bthen hb hb9
  replace hru := hru.below hb9
  replace hrv := hrv.below hb9
  clear hrx hry hb9
  have x0 := Box.cell hbu 0 rfl
  have x1 := Box.cell hbu 1 rfl
  have y0 := Box.cell hbv 0 rfl
  have y1 := Box.cell hbv 1 rfl
  go_wp2_with fail
  refine (SameFrame_any ri ri Au Av rn cu rn cv rl rl _ hru hrv hrb hrb).mono ?_
  rintro e w10 ⟨rfl, hb10⟩
  replace hb := bthen hb hb10
  rw [show decide (ri = ri ∧ rl = rl) = true by simp]
  go_wp2
  go_ret
  exact ⟨rfl, hb⟩

set_option maxHeartbeats 1000000 in
theorem FrameBack_walk (a0 : Int) (A0 : Option Addr) (n0 c0 : Nat) (l0 : List Int) (A1 : Option Addr) (n1 c1 : Nat) (l1 : List Bool) (w : World)
    (w0 : (Lit.int .i64 a0).wf = true) (h0 : Rd w 1 A0 n0 (l0.map (Value.int .u8))) (v0 : ∀ x ∈ l0, (Lit.int .u8 x).wf = true) (k0 : n0 ≤ c0) (b0 : c0 * 1 ≤ 140737488351232)
    (h1 : Rd w 1 A1 n1 (l1.map Value.bool)) (k1 : n1 ≤ c1) (b1 : c1 * 1 ≤ 140737488351232) :
    Calls Try.prog 4 #[frameV a0 A0 n0 c0, .slice A1 n1 c1] w fun e w' => e = .returned (.bool true) ∧ Below w.heap.size w w' := by
  have q0 : Byte8 l0 := fun x hx => by have := wf_u8 (v0 x hx); omega
  have hn : n0 ≤ 9223372036854775807 := by omega
  have hl0 := h0.lenMap
  have Hl1 := Lib.hid h1.lenMap
  clear w0 v0
  go_enter Try.func4, Try.ntmps4
  go_wp2_with fail
  refine (alive4_any _).mono ?_
  rintro e w1 ⟨rfl, hb⟩
  have hbx : Box w1 w.heap.size 24 [.int .i64 a0, .slice A0 n0 c0] := (Box.new w _ _).below hb (by simp)
  replace hb := below_new hb
  have x0 := Box.cell hbx 0 rfl
  have x1 := Box.cell hbx 1 rfl
  by_cases hf : FrameOk a0 n0
  · have hrw := read_write a0 l0 (by rw [hl0]; exact hf) q0
    have hsl := sent_length a0 l0
    rw [hl0] at hsl
    have hn8 := hf.2.2
    go_wp2_with fail
    refine (Write_ok a0 A0 n0 c0 l0 _ (h0.below hb) q0 hf).mono ?_
    intro e w2 hh
    obtain ⟨Ax, cx, rfl, hrx, hb2, hcx, _⟩ := gives_ok hh
    replace hbx := hbx.below hb2 hbx.lt
    replace hb := bthen hb hb2
    clear hh x0 x1 hb2
    generalize sentM a0 l0 = x at *
    generalize x.length = xn at *
    go_wp2_with fail
    refine (Read_any Ax xn cx x _ hrx (by omega)).mono ?_
    rw [hrw]
    rintro e w3 ⟨A3, c3, rfl, ho3, hb3⟩
    simp only [hl0] at ho3 ⊢
    have hr3 := ho3.rd
    replace hbx := hbx.below hb3 hbx.lt
    replace hb := bthen hb hb3
    clear ho3 hrx hrw hcx hsl hb3 hl0
    have x0 := Box.cell hbx 0 rfl
    have x1 := Box.cell hbx 1 rfl
    have hlt := hbx.lt
    go_wp2_with fail
    refine (SameFrame_any a0 a0 A0 A3 n0 c0 n0 c3 l0 l0 _ ((h0.below hb).alloc _) (hr3.alloc _) q0 q0).mono ?_
    rintro e w4 ⟨rfl, hb4⟩
    rw [show decide (a0 = a0 ∧ l0 = l0) = true by simp]
    replace hb4 := below_new hb4
    replace hb := bthen hb hb4
    clear hb4 x0 x1 hlt hr3 hbx
    go_wp2_with fail
    refine (Read_any A1 n1 c1 l1 _ (h1.below hb) (by omega)).mono ?_
    rintro e w5 ⟨A5, c5, rfl, ho5, hb5⟩
    have hr5 := ho5.rd
    replace hb := bthen hb hb5
    clear ho5 hb5
    by_cases he : (readM l1).2 = 0
    · obtain ⟨g1, g2, g3⟩ := write_read l1 (readM l1).1.1 (readM l1).1.2 (Prod.ext rfl he)
      have hlen := congrArg List.length g3
      rw [Hl1.out] at hlen
      rw [he]
      generalize (readM l1).1.1 = ri at *
      generalize (readM l1).1.2 = rl at *
      have Hg3 := Lib.hid g3
      clear he g3
      obtain ⟨rn, hrn⟩ : ∃ rn, rn = rl.length := ⟨_, rfl⟩
      rw [← hrn] at g1 hr5 ⊢
      have Hrn := Lib.hid hrn
      clear hrn
      go_wp2_with fail
      refine (Write_ok ri A5 rn c5 rl _ (hr5.alloc _) g2 g1).mono ?_
      intro e w6 hh
      obtain ⟨Ay, cy, rfl, hry, hb6, _, _⟩ := gives_ok hh
      replace hb := bthen hb (below_new hb6)
      rw [hlen]
      clear hh hry hb6
      go_wp2
      go_ret
      exact ⟨rfl, hb⟩
    · have hz := read_err l1 he
      have he' : ((readM l1).2 != 0) = true := by simpa using he
      generalize (readM l1).2 = er at *
      rw [hz] at hr5 ⊢
      simp only [List.length_nil] at hr5 ⊢
      clear he hz
      go_wp2_with fail
      refine (Write_ok 0 A5 0 c5 [] _ (Rd.nil _ _ _) (by intro x hx; simp at hx) (by unfold FrameOk; omega)).mono ?_
      intro e w6 hh
      obtain ⟨Ay, cy, rfl, hry, hb6, _, _⟩ := gives_ok hh
      have hbx6 : Box w6 w5.heap.size 24 [.int .i64 0, .slice A5 0 c5] := (Box.new w5 _ _).below hb6 (by simp)
      replace hb := bthen hb (below_new hb6)
      have x0 := Box.cell hbx6 0 rfl
      have x1 := Box.cell hbx6 1 rfl
      clear hh hry hb6
      generalize (sentM 0 []).length = zn at *
      go_wp2
      go_ret
      exact ⟨rfl, hb⟩
  · go_wp2_with fail
    refine (Write_bad a0 A0 n0 c0 _ hf hn).mono ?_
    rintro e w2 ⟨rfl, hb2⟩
    replace hb := bthen hb hb2
    clear hf hb2
    go_wp2_with fail
    refine (Read_any none 0 0 [] _ (Rd.nil _ _ _) (by decide)).mono ?_
    rintro e w3 ⟨A3, c3, rfl, ho3, hb3⟩
    replace hb := bthen hb hb3
    generalize readM [] = r at *
    obtain ⟨⟨ri, rl⟩, re⟩ := r
    simp only at ho3 ⊢
    clear ho3 hb3
    generalize rl.length = rn at *
    go_wp2
    go_ret
    exact ⟨rfl, hb.alloc hb.size _⟩

set_option maxHeartbeats 1000000 in
theorem FrameStill_walk (a0 : Int) (A0 : Option Addr) (n0 c0 : Nat) (l0 : List Int) (w : World)
    (w0 : (Lit.int .i64 a0).wf = true) (h0 : Rd w 1 A0 n0 (l0.map (Value.int .u8))) (v0 : ∀ x ∈ l0, (Lit.int .u8 x).wf = true) (k0 : n0 ≤ c0) (b0 : c0 * 1 ≤ 140737488351232) :
    Calls Try.prog 5 #[frameV a0 A0 n0 c0] w fun e w' => e = .returned (.bool true) ∧ Below w.heap.size w w' := by
  have q0 : Byte8 l0 := fun x hx => by have := wf_u8 (v0 x hx); omega
  have hn : n0 ≤ 140737488351232 := by omega
  have hl0 := h0.lenMap
  clear w0 v0
  go_enter Try.func5, Try.ntmps5
  go_wp2_with fail
  refine (alive4_any _).mono ?_
  rintro e w1 ⟨rfl, hb⟩
  have hbx : Box w1 w.heap.size 24 [.int .i64 a0, .slice A0 n0 c0] := (Box.new w _ _).below hb (by simp)
  replace hb := below_new hb
  have x0 := Box.cell hbx 0 rfl
  have x1 := Box.cell hbx 1 rfl
  by_cases hf : FrameOk a0 n0
  · have hsl := sent_length a0 l0
    have hlong : longM (sentM a0 l0) ≤ 5 := never_six _
    rw [hl0] at hsl
    have hn8 := hf.2.2
    go_wp2_with fail
    refine (Write_ok a0 A0 n0 c0 l0 _ (h0.below hb) q0 hf).mono ?_
    intro e w2 hh
    obtain ⟨Ax, cx, rfl, hrx, hb2, hcx, _⟩ := gives_ok hh
    replace hbx := hbx.below hb2 hbx.lt
    replace hb := bthen hb hb2
    clear hh x0 x1 hb2 hf hl0
    generalize sentM a0 l0 = x at *
    generalize x.length = xn at *
    have x0 := Box.cell hbx 0 rfl
    have x1 := Box.cell hbx 1 rfl
    go_wp2_with fail
    refine (Longest_any Ax xn cx x _ hrx (by omega)).mono ?_
    rintro e w3 ⟨rfl, hb3⟩
    replace hb := bthen hb hb3
    clear hb3 x0 x1 hbx
    generalize longM x = lg at *
    have t1 : decide ((lg : Int) ≤ 5) = true := by simp; omega
    have t2 : decide (34 + 8 * (n0 : Int) ≤ (xn : Int)) = true := by simp; omega
    go_wp2
    go_ret
    exact ⟨ret_bool (by simp; omega), hb⟩
  · go_wp2_with fail
    refine (Write_bad a0 A0 n0 c0 _ hf (by omega)).mono ?_
    rintro e w2 ⟨rfl, hb2⟩
    replace hbx := hbx.below hb2 hbx.lt
    replace hb := bthen hb hb2
    clear x0 x1 hf hb2
    have x0 := Box.cell hbx 0 rfl
    have x1 := Box.cell hbx 1 rfl
    go_wp2
    go_ret
    exact ⟨rfl, hb⟩
end Go.Proofs.Ytepogmnodmoebaa
