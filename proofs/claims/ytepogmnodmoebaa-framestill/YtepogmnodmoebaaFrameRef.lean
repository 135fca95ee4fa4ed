/-
  Contracts of the reference's DPlain, DWrite, DRead and SameFrame.
-/
import Derived.Test.YtepogmnodmoebaaFrameWalks2
import Derived.Test.YtepogmnodmoebaaStuffRef
import Derived.Test.YtepogmnodmoebaaCrcRef
import Derived.Deep.RegionWith
namespace Go.Proofs.Ytepogmnodmoebaa
open Go.RowKit
set_option linter.unusedVariables false
set_option linter.unusedSimpArgs false

/-- s[lo:hi] as an equation, whatever the world. -/
theorem run_part {P : Program} {t e : TypeId} {z : Value} {sz bytes : Nat} (E : ElemT P t e z sz bytes) (W : World) (A : Option Addr) (n c lo hi : Nat) (h1 : lo ≤ hi) (h2 : hi ≤ c) :
    (Instr.slice t (.slice A n c) (some (.int .i64 (lo : Int))) (some (.int .i64 (hi : Int))) none).run P W = .ok (.slice (if c = lo then A else A.map (·.add (lo * sz))) (hi - lo) (c - lo)) W := by
  obtain ⟨i, hi', _, hs, _⟩ := info_parts E.info
  have he : P.elem t = e := by simp [Program.elem, E.under]
  have ht : P.underlying t = some (.slice (P.elem t)) := by rw [he]; exact E.under
  have := run_slice_lh (P := P) W t A n c ht .i64 .i64 (lo : Int) (hi : Int) (by omega) (by omega) (by omega)
  rw [this, he]
  simp [sizeOf, typeInfo, hi', hs, sliced]

set_option maxHeartbeats 1000000 in
theorem DPlain_ok (id : Int) (A : Option Addr) (n c : Nat) (l : List Int) (w : World) (h : Rd w 1 A n (l.map (Value.int .u8))) (hb : Byte8 l) (hf : FrameOk id n) :
    Calls Try.prog 9 #[frameV id A n c] w fun e w' => ∃ v, e = .returned (.tuple #[v, .int .i64 0]) ∧ Ow Value.bool w' w.heap.size 4 v (rowM id l) ∧ Below w.heap.size w w' := by
  have Hl := Lib.hid h.lenMap
  obtain ⟨h0, h1, h8⟩ := hf
  have t0 : decide (id < 0) = false := by simp; omega
  have t1 : decide (2047 < id) = false := by simp; omega
  have t2 : decide (8 < (n : Int)) = false := by simp; omega
  go_enter Try.func9, Try.ntmps9
  go_wp2_with fail
  refine (APut_ok 11 id _ (by decide) h0 (by simp; omega)).mono ?_
  rintro e w1 ⟨A1, c1, rfl, ho1, hb1⟩
  have hbx1 : Box w1 w.heap.size 24 [.int .i64 id, .slice A n c] := (Box.new w _ _).below hb1 (by simp)
  have x1 := Box.cell hbx1 1 rfl
  have hr1 := ho1.rd
  replace hb1 := below_new hb1
  clear ho1
  go_wp2_with fail
  refine (APut_ok 4 (n : Int) _ (by decide) (by omega) (by simp; omega)).mono ?_
  rintro e w2 ⟨A2, c2, rfl, ho2, hb2⟩
  have hbx2 := hbx1.below hb2 hbx1.lt
  have hr2 := ho2.rd
  replace hr1 := hr1.below hb2
  replace hb2 := bthen hb1 hb2
  have hs2 := hb2.size
  clear ho2 hbx1 x1 hb1
  have hB2 := Below.refl w2.heap.size w2
  go_wp2_with (at_builtin; first
    | (refine wpList_apM Value.bool _ elBool rfl rfl one_bool w2.heap.size _ _ rfl ho4 A2 4 c2 _ rfl (hr2.below hb24) hb24.size (by simp [bitsOf_length]) (by decide) ?_; intro v5 w5 ho5 hm5; have hb25 := hm5.below hb24 hb24.size ho4.block; have x5 := Box.cell (hbx2.below hb25 hbx2.lt) 1 rfl)
    | (refine wpList_apM Value.bool _ elBool rfl rfl one_bool w2.heap.size _ _ rfl (ho3.alloc _) _ 3 3 [false, false, false] rfl (Rd.litAt Value.bool _ _ rfl) (le_alloc hb23.size) (by simp [bitsOf_length]) (by decide) ?_; intro v4 w4 ho4 hm4; have hb24 := hm4.below (hb23.alloc hb23.size _) (le_alloc hb23.size) ho3.block)
    | go_must (refine wpList_apM Value.bool _ elBool rfl rfl one_bool w2.heap.size _ _ rfl (Ow.one Value.bool _ _ _ (Nat.le_refl _)) A1 11 c1 _ rfl (hr1.alloc _) (le_alloc (Nat.le_refl _)) (by simp) (by decide) ?_; intro v3 w3 ho3 hm3; have hb23 := hm3.below (hB2.alloc (Nat.le_refl _) _) (le_alloc (Nat.le_refl _)) (new_block (Nat.le_refl _))))
  clear hm3 hm4 hm5 ho3 ho4 hb23 hb24
  have hb5 := bthen hb2 hb25
  have hs5 := hb5.size
  refine (AOf_any A n c l _ (h.below hb5) hb (by omega)).mono ?_
  intro e w6 hh
  obtain ⟨A6, c6, rfl, ho6, hb6⟩ := Ow.sl hh
  have hs6 := hb6.size
  replace ho5 := (ho5.mono hs2).below hb6
  have hr6 := ho6.rd
  have hl6 := ofBytes_length l
  rw [Hl.out] at hl6
  rw [hl6] at hr6 ⊢
  clear hh ho6 x5
  go_wp2_with (at_builtin; go_must (refine wpList_apM Value.bool _ elBool rfl rfl one_bool w.heap.size _ _ rfl ho5 A6 _ c6 _ rfl hr6 (by omega) (by simp [bitsOf_length]; omega) (by decide) ?_; intro v7 w7 ho7 hm7))
  go_ret2
  have e : rowM id l = [false] ++ bitsOf 11 id ++ [false, false, false] ++ bitsOf 4 n ++ ofBytes l := by simp [rowM, Hl.out]
  rw [e]
  exact ⟨_, rfl, ho7, hm7.below (bthen hb5 hb6) (by omega) ho5.block⟩

set_option maxHeartbeats 400000 in
theorem DPlain_bad (id : Int) (A : Option Addr) (n c : Nat) (w : World) (hf : ¬ FrameOk id n) (hn : n ≤ 9223372036854775807) :
    Calls Try.prog 9 #[frameV id A n c] w fun e w' => e = .returned (.tuple #[.slice none 0 0, .int .i64 2]) ∧ Below w.heap.size w w' := by
  unfold FrameOk at hf
  by_cases h0 : id < 0
  · clear hf
    go_enter Try.func9, Try.ntmps9
    go_wp2
    go_ret2
    exact ⟨rfl, (Below.refl _ _).alloc (Nat.le_refl _) _⟩
  have t0 : decide (id < 0) = false := by simpa using h0
  by_cases h1 : 2047 < id
  · clear hf
    go_enter Try.func9, Try.ntmps9
    go_wp2
    go_ret2
    exact ⟨rfl, (Below.refl _ _).alloc (Nat.le_refl _) _⟩
  have t1 : decide (2047 < id) = false := by simpa using h1
  have t2 : decide (8 < (n : Int)) = true := by simp; omega
  clear hf h0 h1
  go_enter Try.func9, Try.ntmps9
  go_wp2
  go_ret2
  exact ⟨rfl, (Below.refl _ _).alloc (Nat.le_refl _) _⟩

set_option maxHeartbeats 400000 in
theorem DWrite_ok (id : Int) (A : Option Addr) (n c : Nat) (l : List Int) (w : World) (h : Rd w 1 A n (l.map (Value.int .u8))) (hb : Byte8 l) (hf : FrameOk id n) :
    Calls Try.prog 11 #[frameV id A n c] w fun e w' => ∃ v, e = .returned (.tuple #[v, .int .i64 0]) ∧ Ow Value.bool w' w.heap.size 4 v (sentM id l) ∧ Below w.heap.size w w' := by
  have hn8 := hf.2.2
  have hrl := row_length id l
  rw [h.lenMap] at hrl
  have hlt := crcM_lt (rowM id l)
  go_enter Try.func11, Try.ntmps11
  go_wp2_with fail
  refine (DPlain_ok id A n c l _ (h.alloc _) hb hf).mono ?_
  rintro e w1 ⟨v1, rfl, ho1, hb1⟩
  obtain ⟨A1, c1, hv, _⟩ := ho1.form
  rw [hrl] at hv
  subst hv
  have hr1 := ho1.rd
  have hs1 := hb1.size
  replace hb1 := below_new hb1
  replace ho1 := ho1.mono (base' := w.heap.size) (by simp)
  have Hrl := Lib.hid hrl
  clear hrl h
  go_wp2_with fail
  refine (CSum_any A1 (19 + 8 * n) c1 (rowM id l) _ hr1 (by omega)).mono ?_
  rintro e w2 ⟨rfl, hb2⟩
  have hb12 := bthen hb1 hb2
  replace ho1 := ho1.below hb2
  have Hse : Hid (sealM (rowM id l) = rowM id l ++ bitsOf 15 (crcM (rowM id l))) := rfl
  generalize crcM (rowM id l) = cr at *
  clear hb1 hb2 hr1
  go_wp2_with fail
  refine (APut_ok 15 cr _ (by decide) (by omega) (by simp; omega)).mono ?_
  rintro e w3 ⟨A3, c3, rfl, ho3, hb3⟩
  have hb13 := bthen hb12 hb3
  replace ho1 := ho1.below hb3
  have hr3 := ho3.rd
  clear hb12 hb3 ho3
  go_wp2_with (at_builtin; go_must (refine wpList_apM Value.bool _ elBool rfl rfl one_bool w.heap.size _ _ rfl ho1 A3 15 c3 _ rfl hr3 hb13.size (by rw [Hrl.out]; omega) (by decide) ?_; intro v4 w4 ho4 hm4))
  have hb14 := hm4.below hb13 hb13.size ho1.block
  clear hm4
  rw [← Hse.out] at ho4
  obtain ⟨A4, c4, hv, _⟩ := ho4.form
  rw [sealM_length, Hrl.out] at hv
  subst hv
  have hr4 := ho4.rd
  clear ho4 ho1
  refine (BStuff_any A4 (19 + 8 * n + 15) c4 _ _ hr4 (by omega)).mono ?_
  rintro e w5 ⟨v5, rfl, ho5, hb5⟩
  have hs4 := hb14.size
  go_wp2
  go_ret2
  exact ⟨_, rfl, ho5.mono hs4, bthen hb14 hb5⟩

set_option maxHeartbeats 400000 in
theorem DWrite_bad (id : Int) (A : Option Addr) (n c : Nat) (w : World) (hf : ¬ FrameOk id n) (hn : n ≤ 9223372036854775807) :
    Calls Try.prog 11 #[frameV id A n c] w fun e w' => e = .returned (.tuple #[.slice none 0 0, .int .i64 2]) ∧ Below w.heap.size w w' := by
  go_enter Try.func11, Try.ntmps11
  go_wp2_with fail
  refine (DPlain_bad id A n c _ hf hn).mono ?_
  rintro e w1 ⟨rfl, hb1⟩
  clear hf
  go_wp2
  go_ret2
  exact ⟨rfl, below_new hb1⟩

theorem str_inj {l l' : List Int} (h : Byte8 l) (h' : Byte8 l') (e1 : l.map (fun n => UInt8.ofNat n.toNat) = l'.map (fun n => UInt8.ofNat n.toNat)) : l = l' := by
  induction l generalizing l' with
  | nil => cases l' with
    | nil => rfl
    | cons y t => simp at e1
  | cons x r ih => cases l' with
    | nil => simp at e1
    | cons y t =>
      simp only [List.map_cons, List.cons.injEq] at e1
      have hx := h x (by simp)
      have hy := h' y (by simp)
      have e2 := congrArg UInt8.toNat e1.1
      simp only [UInt8.toNat_ofNat'] at e2
      have e3 : x = y := by omega
      rw [e3, ih (fun z hz => h z (by simp [hz])) (fun z hz => h' z (by simp [hz])) e1.2]
theorem str_eq {l l' : List Int} (h : Byte8 l) (h' : Byte8 l') : ((strOfNums l).toList == (strOfNums l').toList) = decide (l = l') := by
  rw [ByteArray.toList_eq, ByteArray.toList_eq, strOfNums_data, strOfNums_data]
  by_cases e : l = l'
  · subst e; simp
  · rw [decide_eq_false e, beq_eq_false_iff_ne]
    exact fun x => e (str_inj h h' x)

set_option maxHeartbeats 400000 in
theorem SameFrame_any (id id' : Int) (A A' : Option Addr) (n c n' c' : Nat) (l l' : List Int) (w : World) (h : Rd w 1 A n (l.map (Value.int .u8))) (h' : Rd w 1 A' n' (l'.map (Value.int .u8))) (hb : Byte8 l) (hb' : Byte8 l') :
    Calls Try.prog 16 #[frameV id A n c, frameV id' A' n' c'] w fun e w' => e = .returned (.bool (decide (id = id' ∧ l = l'))) ∧ Below w.heap.size w w' := by
  have hcv := fun (o o' : Obj) => run_bytes (P := Try.prog) Try.underlying22 Try.underlying5 Try.underlying9 c ((h.alloc o).alloc o')
  have hcv' := fun (o o' : Obj) => run_bytes (P := Try.prog) Try.underlying22 Try.underlying5 Try.underlying9 c' ((h'.alloc o).alloc o')
  have hse := str_eq hb hb'
  by_cases hid : id = id'
  · subst hid
    have e : decide (id = id ∧ l = l') = decide (l = l') := by simp
    rw [e, ← hse]
    clear e hse
    go_enter Try.func16, Try.ntmps16
    go_wp2
    go_ret
    exact ⟨rfl, ((Below.refl _ _).alloc (Nat.le_refl _) _).alloc (le_alloc (Nat.le_refl _)) _⟩
  · have e : decide (id = id' ∧ l = l') = false := by simp [hid]
    rw [e]
    have hid' : (id == id') = false := by simpa using hid
    clear e hse hid
    go_enter Try.func16, Try.ntmps16
    go_wp2
    go_ret
    exact ⟨rfl, ((Below.refl _ _).alloc (Nat.le_refl _) _).alloc (le_alloc (Nat.le_refl _)) _⟩

set_option maxHeartbeats 1000000 in
theorem DRead_any (A : Option Addr) (n c : Nat) (l : List Bool) (w : World) (h : Rd w 1 A n (l.map Value.bool)) (hnc : n ≤ c) (hc : c ≤ 9223372036854775807) (hn : n ≤ 140737488351232) :
    Calls Try.prog 13 #[.slice A n c] w (GivesFrame w (readM l)) := by
  have hul := unstuffM_len l
  rw [h.lenMap] at hul
  have hol := openM_length (unstuffM l).1
  obtain ⟨R, hR⟩ : ∃ R, R = readM l := ⟨_, rfl⟩
  rw [← hR]
  unfold readM at hR
  have HR := Lib.hid hR
  clear hR
  go_enter Try.func13, Try.ntmps13
  go_wp2_with fail
  refine (BUnstuff_any A n c l _ (h.alloc _) hnc hc (by omega)).mono ?_
  rintro e w4 ⟨v4, rfl, ho4, hb4⟩
  obtain ⟨A4, c4, rfl, hnc4, hc4⟩ := ho4.form
  have hr4 := ho4.rd
  have hbx4 : Box w4 w.heap.size 24 [.int .i64 0, .slice none 0 0] := (Box.new w _ _).below hb4 (by simp)
  replace hb4 := below_new hb4
  have c0 := Box.cell hbx4 0 rfl
  have c1 := Box.cell hbx4 1 rfl
  have f0 := Box.free hbx4 0
  have f1 := Box.free hbx4 1
  clear ho4 h hnc hc
  generalize (unstuffM l).1 = u at *
  generalize (unstuffM l).2 = er at *
  by_cases he : er ≠ 0
  · have he' : (er != 0) = true := by simpa using he
    have he2 : (er == 0) = false := by simpa using he
    have e : R = ((0, []), er) := by rw [HR.out, if_pos he]
    subst e
    clear HR he
    go_wp2
    exact bodyPost_ret (v := .tuple #[frameV 0 none 0 0, .int .i64 er]) (by have d0 := Box.cell (Box.pair hbx4 (.int .i64 0) (.slice none 0 0)) 0 rfl; have d1 := Box.cell (Box.pair hbx4 (.int .i64 0) (.slice none 0 0)) 1 rfl; simp [results, Try.results13, go_sem, d0, d1]) rfl ⟨none, 0, rfl, Ow.nil _ _ _ _, (hb4.setCell (p := ⟨w.heap.size, 0, none⟩) (Nat.le_refl _) _).setCell (p := ⟨w.heap.size, 1, none⟩) (Nat.le_refl _) _⟩
  have he' : (er == 0) = true := by simpa using he
  have hR := HR.out
  rw [if_neg he] at hR
  replace HR := Lib.hid hR
  clear hR he
  generalize u.length = un at *
  go_wp2_with fail
  refine (COpen_any A4 un c4 u _ hr4 hnc4 (le63 hc4) (by omega)).mono ?_
  rintro e w5 ⟨A5, c5, rfl, hr5, hb5, hnc5, hc5⟩
  have hbx5 := hbx4.below hb5 hbx4.lt
  replace hb5 := bthen hb4 hb5
  clear c0 c1 f0 f1 hbx4 hb4 hr4
  have hbx4 := hbx5
  have hb4 := hb5
  clear hbx5 hb5
  have c0 := Box.cell hbx4 0 rfl
  have c1 := Box.cell hbx4 1 rfl
  have f0 := Box.free hbx4 0
  have f1 := Box.free hbx4 1
  generalize (openM u).1 = p at *
  generalize (openM u).2 = eo at *
  by_cases he : eo ≠ 0
  · have he'' : (eo != 0) = true := by simpa using he
    have e : R = ((0, []), eo) := by rw [HR.out, if_pos he]
    subst e
    clear HR he
    go_wp2
    exact bodyPost_ret (v := .tuple #[frameV 0 none 0 0, .int .i64 eo]) (by have d0 := Box.cell (Box.pair hbx4 (.int .i64 0) (.slice none 0 0)) 0 rfl; have d1 := Box.cell (Box.pair hbx4 (.int .i64 0) (.slice none 0 0)) 1 rfl; simp [results, Try.results13, go_sem, d0, d1]) rfl ⟨none, 0, rfl, Ow.nil _ _ _ _, (hb4.setCell (p := ⟨w.heap.size, 0, none⟩) (Nat.le_refl _) _).setCell (p := ⟨w.heap.size, 1, none⟩) (Nat.le_refl _) _⟩
  have he'' : (eo != 0) = false := by simpa using he
  have hR := HR.out
  rw [if_neg he] at hR
  clear HR he
  by_cases h19 : p.length < 19
  · have e : R = ((0, []), 8) := by rw [hR]; unfold parseM; rw [if_pos h19]
    subst e
    clear hR
    generalize p.length = pn at *
    go_wp2
    exact bodyPost_ret (v := .tuple #[frameV 0 none 0 0, .int .i64 8]) (by have d0 := Box.cell (Box.pair hbx4 (.int .i64 0) (.slice none 0 0)) 0 rfl; have d1 := Box.cell (Box.pair hbx4 (.int .i64 0) (.slice none 0 0)) 1 rfl; simp [results, Try.results13, go_sem, d0, d1]) rfl ⟨none, 0, rfl, Ow.nil _ _ _ _, (hb4.setCell (p := ⟨w.heap.size, 0, none⟩) (Nat.le_refl _) _).setCell (p := ⟨w.heap.size, 1, none⟩) (Nat.le_refl _) _⟩
  obtain ⟨s, i, x, y, z, cb, d, hpe, hi, hcb⟩ := row_split p (by omega)
  replace hpe : p = rowOf s i x y z cb d := hpe
  subst hpe
  rw [rowOf_length hi hcb] at hr5 hnc5 hol ⊢
  rw [parse_rowOf hi hcb] at hR
  have HR := Lib.hid hR
  clear hR h19
  obtain ⟨ad, rfl, hcells⟩ := hr5.2 (by omega)
  have x0 := hcells 0 (.bool s) (by rw [List.getElem?_map, rowOf_0]; rfl)
  have x12 := hcells 12 (.bool x) (by rw [List.getElem?_map, rowOf_12 hi]; rfl)
  have x13 := hcells 13 (.bool y) (by rw [List.getElem?_map, rowOf_13 hi]; rfl)
  have x14 := hcells 14 (.bool z) (by rw [List.getElem?_map, rowOf_14 hi]; rfl)
  have hC := (hr5.cut (k := 15) (cap := c5) (by omega) hnc5).take (k := 4) (by omega)
  rw [Nat.mul_one, Nat.mul_one, ← List.map_drop, ← List.map_take, rowOf_c hi hcb, if_neg (by omega), Option.map_some] at hC
  have hI := (hr5.cut (k := 1) (cap := c5) (by omega) hnc5).take (k := 11) (by omega)
  rw [Nat.mul_one, Nat.mul_one, ← List.map_drop, ← List.map_take, rowOf_id hi, if_neg (by omega), Option.map_some] at hI
  have hD := hr5.cut (k := 19) (cap := c5) (by omega) hnc5
  rw [Nat.mul_one, ← List.map_drop, rowOf_19 hi hcb, Nat.add_sub_cancel_left] at hD
  have hs1 : ∀ W, (Instr.slice 25 (.slice (some ad) (19 + d.length) c5) (some (.int .i64 15)) (some (.int .i64 19)) none).run Try.prog W = .ok (.slice (some (ad.add 15)) 4 (c5 - 15)) W := fun W => by
    have := run_part elBool W (some ad) (19 + d.length) c5 15 19 (by omega) (by omega)
    rw [if_neg (by omega)] at this
    exact this
  have hs2 : ∀ W, (Instr.slice 25 (.slice (some ad) (19 + d.length) c5) (some (.int .i64 1)) (some (.int .i64 12)) none).run Try.prog W = .ok (.slice (some (ad.add 1)) 11 (c5 - 1)) W := fun W => by
    have := run_part elBool W (some ad) (19 + d.length) c5 1 12 (by omega) (by omega)
    rw [if_neg (by omega)] at this
    exact this
  have hs3 : ∀ W, (Instr.slice 25 (.slice (some ad) (19 + d.length) c5) (some (.int .i64 19)) none none).run Try.prog W = .ok (.slice (if c5 = 19 then some ad else (some ad).map (·.add 19)) d.length (c5 - 19)) W := fun W => by
    have := run_from elBool W (some ad) (19 + d.length) c5 19 (by omega)
    rw [Nat.mul_one, Nat.add_sub_cancel_left] at this
    exact this
  generalize (if c5 = 19 then some ad else (some ad).map (·.add 19)) = AD at hD hs3
  have hk0 := num_nonneg cb
  have hk1 := num_lt cb
  rw [hcb] at hk1
  simp only [Int.reducePow] at hk1
  have Hd := Lib.hid (rfl : d.length = d.length)
  clear hcells hr5
  generalize d.length = m at *
  have hlen : ¬ (((19 + m : Nat) : Int) < 19) := by omega
  go_wp2_with fail
  refine (AGet_any (some (ad.add 15)) 4 (c5 - 15) cb _ hC (by decide)).mono ?_
  rintro e w6 ⟨rfl, rfl⟩
  generalize num cb = k at *
  have y0 : w5.cell? ad = some (.bool s) := x0
  have y12 : w5.cell? ⟨ad.block, ad.off + 12, none⟩ = some (.bool x) := x12
  have y13 : w5.cell? ⟨ad.block, ad.off + 13, none⟩ = some (.bool y) := x13
  have y14 : w5.cell? ⟨ad.block, ad.off + 14, none⟩ = some (.bool z) := x14
  clear x0 x12 x13 x14 hs1 hC Hd
  by_cases hbad : s = true ∨ x = true ∨ y = true ∨ z = true ∨ 8 < k
  · have e : R = ((0, []), 1) := by rw [HR.out, if_pos hbad]
    subst e
    clear HR
    cases s
    case true =>
      clear hbad
      go_wp2
      exact bodyPost_ret (v := .tuple #[frameV 0 none 0 0, .int .i64 1]) (by have d0 := Box.cell (Box.pair hbx4 (.int .i64 0) (.slice none 0 0)) 0 rfl; have d1 := Box.cell (Box.pair hbx4 (.int .i64 0) (.slice none 0 0)) 1 rfl; simp [results, Try.results13, go_sem, d0, d1]) rfl ⟨none, 0, rfl, Ow.nil _ _ _ _, (hb4.setCell (p := ⟨w.heap.size, 0, none⟩) (Nat.le_refl _) _).setCell (p := ⟨w.heap.size, 1, none⟩) (Nat.le_refl _) _⟩
    cases x
    case true =>
      clear hbad
      go_wp2
      exact bodyPost_ret (v := .tuple #[frameV 0 none 0 0, .int .i64 1]) (by have d0 := Box.cell (Box.pair hbx4 (.int .i64 0) (.slice none 0 0)) 0 rfl; have d1 := Box.cell (Box.pair hbx4 (.int .i64 0) (.slice none 0 0)) 1 rfl; simp [results, Try.results13, go_sem, d0, d1]) rfl ⟨none, 0, rfl, Ow.nil _ _ _ _, (hb4.setCell (p := ⟨w.heap.size, 0, none⟩) (Nat.le_refl _) _).setCell (p := ⟨w.heap.size, 1, none⟩) (Nat.le_refl _) _⟩
    cases y
    case true =>
      clear hbad
      go_wp2
      exact bodyPost_ret (v := .tuple #[frameV 0 none 0 0, .int .i64 1]) (by have d0 := Box.cell (Box.pair hbx4 (.int .i64 0) (.slice none 0 0)) 0 rfl; have d1 := Box.cell (Box.pair hbx4 (.int .i64 0) (.slice none 0 0)) 1 rfl; simp [results, Try.results13, go_sem, d0, d1]) rfl ⟨none, 0, rfl, Ow.nil _ _ _ _, (hb4.setCell (p := ⟨w.heap.size, 0, none⟩) (Nat.le_refl _) _).setCell (p := ⟨w.heap.size, 1, none⟩) (Nat.le_refl _) _⟩
    cases z
    case true =>
      clear hbad
      go_wp2
      exact bodyPost_ret (v := .tuple #[frameV 0 none 0 0, .int .i64 1]) (by have d0 := Box.cell (Box.pair hbx4 (.int .i64 0) (.slice none 0 0)) 0 rfl; have d1 := Box.cell (Box.pair hbx4 (.int .i64 0) (.slice none 0 0)) 1 rfl; simp [results, Try.results13, go_sem, d0, d1]) rfl ⟨none, 0, rfl, Ow.nil _ _ _ _, (hb4.setCell (p := ⟨w.heap.size, 0, none⟩) (Nat.le_refl _) _).setCell (p := ⟨w.heap.size, 1, none⟩) (Nat.le_refl _) _⟩
    have hk8 : 8 < k := by simpa using hbad
    clear hbad
    go_wp2
    exact bodyPost_ret (v := .tuple #[frameV 0 none 0 0, .int .i64 1]) (by have d0 := Box.cell (Box.pair hbx4 (.int .i64 0) (.slice none 0 0)) 0 rfl; have d1 := Box.cell (Box.pair hbx4 (.int .i64 0) (.slice none 0 0)) 1 rfl; simp [results, Try.results13, go_sem, d0, d1]) rfl ⟨none, 0, rfl, Ow.nil _ _ _ _, (hb4.setCell (p := ⟨w.heap.size, 0, none⟩) (Nat.le_refl _) _).setCell (p := ⟨w.heap.size, 1, none⟩) (Nat.le_refl _) _⟩
  have hR := HR.out
  rw [if_neg hbad] at hR
  have hbad' : s = false ∧ x = false ∧ y = false ∧ z = false ∧ k ≤ 8 := by simpa using hbad
  obtain ⟨rfl, rfl, rfl, rfl, hk8⟩ := hbad'
  have hk8' : decide (8 < k) = false := by simp; omega
  clear HR hbad
  by_cases h1 : (m : Int) < 8 * k
  · have e : R = ((0, []), 8) := by rw [hR, if_pos h1]
    subst e
    clear hR
    have h2 : decide (8 * k < (m : Int)) = false := by simp; omega
    go_wp2
    exact bodyPost_ret (v := .tuple #[frameV 0 none 0 0, .int .i64 8]) (by have d0 := Box.cell (Box.pair hbx4 (.int .i64 0) (.slice none 0 0)) 0 rfl; have d1 := Box.cell (Box.pair hbx4 (.int .i64 0) (.slice none 0 0)) 1 rfl; simp [results, Try.results13, go_sem, d0, d1]) rfl ⟨none, 0, rfl, Ow.nil _ _ _ _, (hb4.setCell (p := ⟨w.heap.size, 0, none⟩) (Nat.le_refl _) _).setCell (p := ⟨w.heap.size, 1, none⟩) (Nat.le_refl _) _⟩
  rw [if_neg h1] at hR
  by_cases h2 : 8 * k < (m : Int)
  · have e : R = ((0, []), 1) := by rw [hR, if_pos h2]
    subst e
    clear hR
    go_wp2
    exact bodyPost_ret (v := .tuple #[frameV 0 none 0 0, .int .i64 1]) (by have d0 := Box.cell (Box.pair hbx4 (.int .i64 0) (.slice none 0 0)) 0 rfl; have d1 := Box.cell (Box.pair hbx4 (.int .i64 0) (.slice none 0 0)) 1 rfl; simp [results, Try.results13, go_sem, d0, d1]) rfl ⟨none, 0, rfl, Ow.nil _ _ _ _, (hb4.setCell (p := ⟨w.heap.size, 0, none⟩) (Nat.le_refl _) _).setCell (p := ⟨w.heap.size, 1, none⟩) (Nat.le_refl _) _⟩
  rw [if_neg h2] at hR
  subst hR
  have h1' : decide ((m : Int) < 8 * k) = false := by simpa using h1
  have h2' : decide (8 * k < (m : Int)) = false := by simpa using h2
  have hm64 : m ≤ 64 := by omega
  clear h1 h2
  go_wp2_with fail
  clear y0 y12 y13 y14 c0 c1 f0 f1
  go_region_with (first
    | (go_at_call 33; refine (AGet_any (some (ad.add 1)) 11 (c5 - 1) i _ ?_ (by decide)).mono ?_; exact hI.drew; rintro e w6 ⟨rfl, rfl⟩)
    | (go_at_call 34; refine (ABytes_any AD m (c5 - 19) d _ ?_ (by omega) (by omega) (by omega)).mono ?_; exact hD.drew; intro e w7 hh; obtain ⟨A7, c7, rfl, ho7, hb7⟩ := Ow.sl hh; have hbx7 : Box w7 w.heap.size 24 [.int .i64 0, .slice none 0 0] := hbx4.drew.below hb7 hbx4.lt; have c0 := Box.cell hbx7 0 rfl; have c1 := Box.cell hbx7 1 rfl; have f0 := Box.free hbx7 0; have f1 := Box.free hbx7 1))
  all_goals
    have hbx5 := hbx7
    have hb5 := bthen hb4.drew hb7
    have hs4 := hbx4.lt
    have ho6 := (ho7.grown (grownBy_pair w7 w.heap.size (.int .i64 (num i)) (.slice A7 (bytesOf d).length c7)) hs4).mono (Nat.le_of_lt hs4)
    go_wp2
    exact bodyPost_ret (v := .tuple #[frameV (num i) A7 (bytesOf d).length c7, .int .i64 0]) (by have d0 := Box.cell (Box.pair hbx5 (.int .i64 (num i)) (.slice A7 (bytesOf d).length c7)) 0 rfl; have d1 := Box.cell (Box.pair hbx5 (.int .i64 (num i)) (.slice A7 (bytesOf d).length c7)) 1 rfl; simp [results, Try.results13, go_sem, d0, d1]) rfl ⟨_, _, rfl, ho6, (hb5.setCell (p := ⟨w.heap.size, 0, none⟩) (Nat.le_refl _) _).setCell (p := ⟨w.heap.size, 1, none⟩) (Nat.le_refl _) _⟩
end Go.Proofs.Ytepogmnodmoebaa
