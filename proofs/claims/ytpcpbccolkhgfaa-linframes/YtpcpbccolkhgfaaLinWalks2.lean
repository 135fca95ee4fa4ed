/-
  Contracts of lin.Write and lin.Read, for every input. No statement of the seat is here.
-/
import Derived.Test.YtpcpbccolkhgfaaLinWalks
import Derived.Test.YtpcpbccolkhgfaaRoom
import Derived.Test.YtpcpbccolkhgfaaSlices
namespace Go.Proofs.Ytpcpbccolkhgfaa
open Go.RowKit
set_option linter.unusedVariables false
set_option linter.unusedSimpArgs false

set_option maxHeartbeats 1000000 in
theorem WriteL_ok (id : Int) (A : Option Addr) (n c : Nat) (l : List Int) (newer : Bool) (w : World) (h : Rd w 1 A n (l.map (Value.int .u8))) (hb : Byte8 l) (hi : IdOk id) (hd : DataOk n) :
    Calls Try.prog 15 #[frameV id A n c, .bool newer] w fun e w' => ∃ v, e = .returned (.tuple #[v, .int .i64 0]) ∧ Ow (Value.int .u8) w' w.heap.size 5 v (sentL id l newer) ∧ Below w.heap.size w w' := by
  have Hl := Lib.hid h.lenMap
  obtain ⟨hl1, hl8⟩ := hd
  have hG := Guard_ok id
  obtain ⟨hg0, hg1, _⟩ := guard_range hi
  have hmk : ∀ W, (Instr.makeSlice 22 (.int .i64 0) (.int .i64 ((n : Int) + 2))).run Try.prog W = .ok (.slice (some ⟨W.heap.size, 0, none⟩) 0 (n + 2)) (W.alloc (.cells (madeCells #[.int .u8 0] (n + 2)) 5)) := fun W => by
    have := run_make0 elByte rfl .i64 .i64 (n + 2) (by omega) (by omega) W
    simpa using this
  have Hs := Lib.hid (show sentL id l newer = (guardM id :: l) ++ [sumM (bodyM (guardM id) l newer)] from rfl)
  generalize sentL id l newer = X at *
  generalize guardM id = g at *
  have hbg : Byte8 (g :: l) := by intro x hx; exact (List.mem_cons.1 hx).elim (fun e => e ▸ ⟨hg0, hg1⟩) (hb x)
  go_enter Try.func15, Try.ntmps15
  go_wp2_with fail
  refine (hG _ hi).mono ?_
  rintro e w1 ⟨rfl, hw1⟩
  have hbx : Box w1 w.heap.size 32 [.int .i64 id, .slice A n c] := hw1 ▸ Box.new w _ _
  have hb1 : Below w.heap.size w w1 := hw1 ▸ (Below.refl _ _).alloc (Nat.le_refl _) _
  have hs1 : w.heap.size < w1.heap.size := hbx.lt
  clear hw1 hG
  have Ho0 := Lib.hid (Ow.room (Value.int .u8) 0 w1 5 (base := w1.heap.size) (n + 2) (by unfold maxLen; omega) (Nat.le_refl _))
  have c1 := Box.cell hbx 1 rfl
  have hn0 : ((n : Int) == 0) = false := by rw [beq_eq_false_iff_ne]; omega
  have hn8 : decide (8 < (n : Int)) = false := by simp; omega
  go_wp2_with (at_builtin; first
    | (refine wpList_apR (Value.int .u8) _ elByte rfl rfl (one_int .u8) w1.heap.size w1.heap.size 1 (n + 2) [g] rfl ho2 A n c l rfl (h.below hb2) (by omega) (by omega) ?_; intro w3 ho3 hg3)
    | (refine wpList_apR (Value.int .u8) _ elByte rfl rfl (one_int .u8) w1.heap.size w1.heap.size 0 (n + 2) [] rfl (Ho0.out.alloc _) _ 1 1 [g] rfl (Rd.litAt (Value.int .u8) _ _ (by simp)) (by omega) (by omega) ?_; intro w2 ho2 hg2; simp only [Nat.zero_add, List.nil_append] at ho2; have hb2 : Below w.heap.size w w2 := below_grown ((hb1.alloc hb1.size _).alloc (le_alloc hb1.size) _) hg2 hb1.size (le_alloc (le_alloc hb1.size)); have c2 := Box.cell (((hbx.alloc _).alloc _).grown hg2 (by intro e; injection e with e; omega)) 1 rfl))
  have hb3 : Below w.heap.size w w3 := below_grown hb2 hg3 hb1.size hb2.size
  have hs3 : w1.heap.size ≤ w3.heap.size := by have h2 := hg2.size; have h3 := hg3.size; simp at h2; omega
  clear hg2 hg3 ho2 c1 c2 Ho0 hmk hn0 hn8 hbx
  rw [List.singleton_append] at ho3
  refine (checksum_any _ _ _ g l newer _ ho3.rd hbg (by omega) (by omega)).mono ?_
  rintro e w4 ⟨rfl, rfl⟩
  generalize sumM (bodyM g l newer) = s at *
  go_wp2_with (at_builtin; go_must (refine wpList_apR (Value.int .u8) _ elByte rfl rfl (one_int .u8) w1.heap.size w1.heap.size (1 + n) (n + 2) (g :: l) rfl (ho3.alloc _) _ 1 1 [s] rfl (Rd.litAt (Value.int .u8) _ _ rfl) (by omega) (by omega) ?_; intro w5 ho5 hg5))
  go_ret2
  rw [Hs.out]
  exact ⟨_, rfl, ho5.mono hb1.size, below_grown (hb3.alloc hb3.size _) hg5 hb1.size (le_alloc hb3.size)⟩
theorem WriteL_id (id : Int) (A : Option Addr) (n c : Nat) (newer : Bool) (w : World) (hi : ¬ IdOk id) :
    Calls Try.prog 15 #[frameV id A n c, .bool newer] w fun e w' => e = .returned (.tuple #[.slice none 0 0, .int .i64 2]) ∧ Below w.heap.size w w' := by
  have hG := fun W => Guard_bad id W hi
  clear hi
  go_enter Try.func15, Try.ntmps15
  go_wp2_with fail
  refine (hG _).mono ?_
  rintro e w1 ⟨rfl, hw1⟩
  have hb1 : Below w.heap.size w w1 := hw1 ▸ (Below.refl _ _).alloc (Nat.le_refl _) _
  clear hw1
  go_wp2
  go_ret2
  exact ⟨rfl, hb1⟩
theorem WriteL_data (id : Int) (A : Option Addr) (n c : Nat) (newer : Bool) (w : World) (hi : IdOk id) (hd : ¬ DataOk n) :
    Calls Try.prog 15 #[frameV id A n c, .bool newer] w fun e w' => e = .returned (.tuple #[.slice none 0 0, .int .i64 1]) ∧ Below w.heap.size w w' := by
  have hG := fun W => Guard_ok id W hi
  clear hi
  generalize guardM id = g at *
  go_enter Try.func15, Try.ntmps15
  go_wp2_with fail
  refine (hG _).mono ?_
  rintro e w1 ⟨rfl, hw1⟩
  have hbx : Box w1 w.heap.size 32 [.int .i64 id, .slice A n c] := hw1 ▸ Box.new w _ _
  have hb1 : Below w.heap.size w w1 := hw1 ▸ (Below.refl _ _).alloc (Nat.le_refl _) _
  clear hw1 hG
  have c1 := Box.cell hbx 1 rfl
  unfold DataOk at hd
  by_cases h0 : n = 0
  · subst h0
    clear hd
    go_wp2
    go_ret2
    exact ⟨rfl, hb1⟩
  · have hn0 : ((n : Int) == 0) = false := by rw [beq_eq_false_iff_ne]; omega
    have hn8 : decide (8 < (n : Int)) = true := by simp; omega
    clear hd h0
    go_wp2
    go_ret2
    exact ⟨rfl, hb1⟩
/-- What Write promises: the bytes and the error of the model. -/
def GivesBytes (w : World) (p : List Int × Int) (e : Ending) (w' : World) : Prop :=
  ∃ v, e = .returned (.tuple #[v, .int .i64 p.2]) ∧ Ow (Value.int .u8) w' w.heap.size 5 v p.1 ∧ Below w.heap.size w w'
theorem WriteL_any (id : Int) (A : Option Addr) (n c : Nat) (l : List Int) (newer : Bool) (w : World) (h : Rd w 1 A n (l.map (Value.int .u8))) (hb : Byte8 l) :
    Calls Try.prog 15 #[frameV id A n c, .bool newer] w (GivesBytes w (writeL id l newer)) := by
  unfold writeL
  rw [h.lenMap]
  by_cases hi : IdOk id
  · rw [if_pos hi]
    by_cases hd : DataOk n
    · rw [if_pos hd]; exact WriteL_ok id A n c l newer w h hb hi hd
    · rw [if_neg hd]; exact (WriteL_data id A n c newer w hi hd).mono fun e w' hh => ⟨_, hh.1, Ow.nil _ _ _ _, hh.2⟩
  · rw [if_neg hi]; exact (WriteL_id id A n c newer w hi).mono fun e w' hh => ⟨_, hh.1, Ow.nil _ _ _ _, hh.2⟩

set_option maxHeartbeats 400000 in
theorem ReadL_short (A : Option Addr) (n c : Nat) (newer : Bool) (w : World) (hn : n ≤ 2) :
    Calls Try.prog 16 #[.slice A n c, .bool newer] w (GivesFrame w ((0, []), 8)) := by
  go_enter Try.func16, Try.ntmps16
  go_wp2
  exact bodyPost_ret (v := .tuple #[frameV 0 none 0 0, .int .i64 8]) (by simp [results, Try.results16, go_sem]) rfl ⟨none, 0, rfl, Ow.nil _ _ _ _, (Below.refl _ _).alloc (Nat.le_refl _) _⟩
set_option maxHeartbeats 400000 in
theorem ReadL_long (A : Option Addr) (n c : Nat) (newer : Bool) (w : World) (hn : 10 < n) :
    Calls Try.prog 16 #[.slice A n c, .bool newer] w (GivesFrame w ((0, []), 1)) := by
  go_enter Try.func16, Try.ntmps16
  go_wp2
  exact bodyPost_ret (v := .tuple #[frameV 0 none 0 0, .int .i64 1]) (by simp [results, Try.results16, go_sem]) rfl ⟨none, 0, rfl, Ow.nil _ _ _ _, (Below.refl _ _).alloc (Nat.le_refl _) _⟩

set_option maxHeartbeats 1000000 in
theorem ReadL_row (x y : Int) (m : List Int) (A : Option Addr) (n c : Nat) (newer : Bool) (w : World) (h : Rd w 1 A n ((rowL x m y).map (Value.int .u8))) (hb : Byte8 (rowL x m y)) (hd : DataOk m.length) (hnc : n ≤ c) (hc : c ≤ 9223372036854775807) (R : (Int × List Int) × Int) (HR : Hid (R = readR x m y newer)) :
    Calls Try.prog 16 #[.slice A n c, .bool newer] w (GivesFrame w R) := by
  have hlen := h.lenMap
  rw [rowL_length] at hlen
  obtain ⟨hd1, hd8⟩ := hd
  have hx : 0 ≤ x ∧ x < 256 := hb x (by simp [rowL])
  have hbm : Byte8 (x :: m) := fun z hz => hb z (by simp only [rowL, List.mem_cons, List.mem_append] at hz ⊢; exact hz.elim .inl (fun h => .inr (.inl h)))
  obtain ⟨ad, x', rfl, hx0, hc0⟩ := h.atMap (k := 0) (by omega)
  rw [rowL_first] at hx0
  injection hx0 with hx0
  subst hx0
  obtain ⟨ad', y', he, hy0, hcy⟩ := h.atMap (k := n - 1) (by omega)
  injection he with he
  subst he
  rw [show n - 1 = m.length + 1 by omega, rowL_last] at hy0
  injection hy0 with hy0
  subst hy0
  have hB := h.take (k := n - 1) (by omega)
  rw [Nat.mul_one, ← List.map_take, show n - 1 = m.length + 1 by omega, rowL_body, show m.length + 1 = n - 1 by omega] at hB
  have hD := hB.cut (k := 1) (cap := c) (by omega) (by omega)
  rw [Nat.mul_one, ← List.map_drop, List.drop_one, List.tail_cons] at hD
  have hsl : ∀ W, (Instr.slice 22 (.slice (some ad) n c) none (some (.int .i64 ((n : Int) - 1))) none).run Try.prog W = .ok (.slice (some ad) (n - 1) c) W := fun W => by
    have := run_to elByte W (some ad) n c (n - 1) (by omega)
    rwa [show ((n - 1 : Nat) : Int) = (n : Int) - 1 by omega] at this
  have hsr : ∀ W, (Instr.slice 22 (.slice (some ad) (n - 1) c) (some (.int .i64 1)) none none).run Try.prog W = .ok (.slice (if c = 1 then some ad else (some ad).map (·.add 1)) (n - 1 - 1) (c - 1)) W := fun W => by
    have := run_from elByte W (some ad) (n - 1) c 1 (by omega)
    rw [Nat.mul_one] at this
    exact this
  generalize (if c = 1 then some ad else (some ad).map (·.add 1)) = AD at hD hsr
  obtain ⟨k, hk⟩ : ∃ k, n - 1 - 1 = k := ⟨_, rfl⟩
  have hml : m.length = k := by omega
  rw [hk] at hD hsr
  have hm : Byte8 m := fun z hz => hbm z (by simp [hz])
  have e0 : ad.add 0 = ad := rfl
  have hc1 : ∀ o, (w.alloc o).cell? ad = some (.int .u8 x) := fun o => by rw [e0] at hc0; rw [← hc0]; exact Below.cell ((Below.refl _ _).alloc (Nat.le_refl _) o) (World.block_lt_of_cell? w _ hc0)
  have Hl := Lib.hid hlen
  have n2 : decide ((n : Int) ≤ 2) = false := by simp; omega
  have n10 : decide (10 < (n : Int)) = false := by simp; omega
  clear hlen
  go_enter Try.func16, Try.ntmps16
  go_wp2_with fail
  refine (Number_any x _ hx.1 hx.2).mono ?_
  rintro e w4 ⟨rfl, hw4⟩
  have hbx4 : Box w4 w.heap.size 32 [.int .i64 0, .slice none 0 0] := hw4 ▸ Box.new w _ _
  have hb4 : Below w.heap.size w w4 := hw4 ▸ (Below.refl _ _).alloc (Nat.le_refl _) _
  clear hw4 hc1
  have c0 := Box.cell hbx4 0 rfl
  have c1 := Box.cell hbx4 1 rfl
  have f0 := Box.free hbx4 0
  have f1 := Box.free hbx4 1
  have hR := HR.out
  unfold readR at hR
  have hne := number_err x
  generalize numberM x = nm at *
  obtain ⟨nid, ner⟩ := nm
  simp only at hR hne ⊢
  by_cases hn : ner ≠ 0
  · have e := hne hn
    injection e with e1 e2
    subst e1 e2
    rw [if_pos hn] at hR
    subst hR
    clear HR hne hn
    go_wp2
    exact bodyPost_ret (v := .tuple #[frameV 0 none 0 0, .int .i64 7]) (by have d0 := Box.cell (Box.pair hbx4 (.int .i64 0) (.slice none 0 0)) 0 rfl; have d1 := Box.cell (Box.pair hbx4 (.int .i64 0) (.slice none 0 0)) 1 rfl; simp [results, Try.results16, go_sem, d0, d1]) rfl ⟨none, 0, rfl, Ow.nil _ _ _ _, (hb4.setCell (p := ⟨w.heap.size, 0, none⟩) (Nat.le_refl _) _).setCell (p := ⟨w.heap.size, 1, none⟩) (Nat.le_refl _) _⟩
  have hn' : (ner != 0) = false := by simpa using hn
  rw [if_neg hn] at hR
  replace HR := Lib.hid hR
  clear hR hn hne
  have hcy4 : w4.cell? (ad.add (n - 1)) = some (.int .u8 y) := (hb4.cell (World.block_lt_of_cell? w _ hcy)).trans hcy
  have t1 : ((n : Int) - 1).toNat = n - 1 := by omega
  have v1 : IntKind.i64.wrap ((n : Int) - 1) = (n : Int) - 1 := IntWalk.i64_in _ (by omega)
  have b0 : 0 ≤ (n : Int) - 1 := by omega
  have b1 : (n : Int) - 1 < n := by omega
  go_wp2_with fail
  go_quiet (fail)
  have hb5 : Below w.heap.size w (w4.drewN nq) := bthen hb4 (below_draws ⟨_, rfl⟩)
  have hbx5 : Box (w4.drewN nq) w.heap.size 32 [.int .i64 0, .slice none 0 0] := hbx4
  generalize w4.drewN nq = w5 at *
  clear hb4 hbx4 c0 c1 f0 f1 hcy4 hcy hc0 hsl h
  have hb4 := hb5
  have hbx4 := hbx5
  clear hb5 hbx5
  have c0 := Box.cell hbx4 0 rfl
  have c1 := Box.cell hbx4 1 rfl
  have f0 := Box.free hbx4 0
  have f1 := Box.free hbx4 1
  go_wp2_with fail
  refine (checksum_any _ _ _ x m newer _ (hB.below hb4) hbm (by omega) (by omega)).mono ?_
  rintro e w6 ⟨rfl, rfl⟩
  by_cases hy : y ≠ sumM (bodyM x m newer)
  · have hR := HR.out
    rw [if_pos hy] at hR
    subst hR
    have hq : (y != sumM (bodyM x m newer)) = true := by simpa using hy
    clear HR hy
    generalize sumM (bodyM x m newer) = s at *
    go_wp2
    exact bodyPost_ret (v := .tuple #[frameV 0 none 0 0, .int .i64 7]) (by have d0 := Box.cell (Box.pair hbx4 (.int .i64 0) (.slice none 0 0)) 0 rfl; have d1 := Box.cell (Box.pair hbx4 (.int .i64 0) (.slice none 0 0)) 1 rfl; simp [results, Try.results16, go_sem, d0, d1]) rfl ⟨none, 0, rfl, Ow.nil _ _ _ _, (hb4.setCell (p := ⟨w.heap.size, 0, none⟩) (Nat.le_refl _) _).setCell (p := ⟨w.heap.size, 1, none⟩) (Nat.le_refl _) _⟩
  have hR := HR.out
  rw [if_neg hy] at hR
  subst hR
  have hq : (y != sumM (bodyM x m newer)) = false := by simpa using hy
  clear HR hy
  generalize sumM (bodyM x m newer) = s at *
  go_wp2_with fail
  refine (CloneY_any AD k (c - 1) m _ (hD.below hb4) (by omega)).mono ?_
  rintro e w7 ⟨v7, rfl, ho7, hb7⟩
  obtain ⟨A7, c7, rfl, _, _, _⟩ := ho7.formN hml
  have hs5 := hbx4.lt
  have hbx5 := hbx4.below hb7 hbx4.lt
  have hb5 := bthen hb4 hb7
  clear c0 c1 f0 f1 hbx4 hb4 hsr
  have c0 := Box.cell hbx5 0 rfl
  have c1 := Box.cell hbx5 1 rfl
  have f0 := Box.free hbx5 0
  have f1 := Box.free hbx5 1
  go_wp2
  have ho8 := (ho7.grown (grownBy_pair w7 w.heap.size (.int .i64 nid) (.slice A7 k c7)) hs5).mono (Nat.le_of_lt hs5)
  obtain rfl : k = m.length := hml.symm
  exact bodyPost_ret (v := .tuple #[frameV (nid) A7 m.length c7, .int .i64 0]) (by have d0 := Box.cell (Box.pair hbx5 (.int .i64 (nid)) (.slice A7 m.length c7)) 0 rfl; have d1 := Box.cell (Box.pair hbx5 (.int .i64 (nid)) (.slice A7 m.length c7)) 1 rfl; simp [results, Try.results16, go_sem, d0, d1]) rfl ⟨_, _, rfl, ho8, (hb5.setCell (p := ⟨w.heap.size, 0, none⟩) (Nat.le_refl _) _).setCell (p := ⟨w.heap.size, 1, none⟩) (Nat.le_refl _) _⟩
theorem ReadL_any (A : Option Addr) (n c : Nat) (l : List Int) (newer : Bool) (w : World) (h : Rd w 1 A n (l.map (Value.int .u8))) (hb : Byte8 l) (hnc : n ≤ c) (hc : c ≤ 9223372036854775807) :
    Calls Try.prog 16 #[.slice A n c, .bool newer] w (GivesFrame w (readL l newer)) := by
  have hl := h.lenMap
  by_cases h2 : n ≤ 2
  · rw [readL_short l newer (by omega)]; exact ReadL_short A n c newer w h2
  by_cases h10 : 10 < n
  · rw [readL_long l newer (by omega)]; exact ReadL_long A n c newer w h10
  obtain ⟨x, m, y, rfl⟩ := rowL_split l (by omega)
  rw [rowL_length] at hl
  have hd : DataOk m.length := ⟨by omega, by omega⟩
  rw [readL_row x m y newer hd]
  exact ReadL_row x y m A n c newer w h hb hd hnc hc _ (Lib.hid rfl)
end Go.Proofs.Ytpcpbccolkhgfaa
