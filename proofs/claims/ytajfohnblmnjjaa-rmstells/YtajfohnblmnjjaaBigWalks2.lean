/-
  Contracts of the reference's whole numbers: Neg, CmpAbs, sumOf, lessOf.
-/
import Derived.Test.YtajfohnblmnjjaaBigWalks
namespace Go.Proofs.Ytajfohnblmnjjaa
open Go.RowKit
set_option linter.unusedVariables false

set_option maxHeartbeats 400000 in
theorem BigNeg_any (b x : Nat) (z : Int) (w : World) (hb : IntBox w b) (h : BigAt w x z) (hz : ((z.natAbs : Nat) : Int) < pow32 1000000) :
    Calls Try.prog 77 #[ptr b, ptr x] w fun e w' => e = .returned (ptr b) ∧ BigAt w' b (-z) ∧ w.grownBy w' (some b) := by
  have C := Lib.hid (BigSet_any b x z w hb h hz)
  clear h hb
  have fin : ∀ (w1 : World) (A : Option Addr) (n c : Nat) (l : List Int) (s : Bool), RawAt w1 b (decide (z < 0)) A n c l → Trim l → mag l = z.natAbs → s = decide (-z < 0) → BigAt (w1.setCell ⟨b, 0, none⟩ (.bool s)) b (-z) := by
    intro w1 A n c l s hr ht hm hs
    refine ⟨A, n, c, l, ⟨?_, rd_grown hr.rd hr.int (grownBy_setCell _ _ _), hr.cap, hr.dig⟩, ht, by omega⟩
    rw [← hs]
    simpa using hr.box.set 0 (.bool s)
  have Hf := Lib.hid fin; clear fin
  go_enter Try.func77, Try.ntmps77
  go_wp2_with fail
  refine C.out.mono ?_
  rintro e w1 ⟨rfl, ⟨A, n, c, l, hr, ht, hm⟩, hg⟩
  have c0 := hr.box.cell 0 rfl
  have c1 := hr.box.cell 1 rfl
  have f0 := hr.box.free 0
  have hl := hr.rd.lenMap
  by_cases hneg : z < 0
  · have Hf1 := Lib.hid (Hf.out w1 A n c l false hr ht hm (by rw [decide_eq_false]; omega))
    rw [decide_eq_true hneg] at c0
    clear hr ht hm Hf hl
    go_wp2
    go_ret
    exact ⟨rfl, Hf1.out, grownBy_then hg (grownBy_setCell _ _ _)⟩
  · have hiff : (0 < n) ↔ -z < 0 := by
      constructor
      · intro h0
        have := mag_pos hr.dig ht (by omega)
        omega
      · intro h0
        rcases Nat.eq_zero_or_pos n with h1 | h1
        · have : l = [] := List.eq_nil_of_length_eq_zero (by omega)
          rw [this] at hm
          simp [mag] at hm
          omega
        · exact h1
    by_cases hn0 : 0 < n
    · have Hf1 := Lib.hid (Hf.out w1 A n c l true hr ht hm (by rw [decide_eq_true]; exact hiff.1 hn0))
      rw [decide_eq_false hneg] at c0
      clear hr ht hm Hf hl hiff
      go_wp2
      go_ret
      exact ⟨rfl, Hf1.out, grownBy_then hg (grownBy_setCell _ _ _)⟩
    · have Hf1 := Lib.hid (Hf.out w1 A n c l false hr ht hm (by rw [decide_eq_false]; exact fun k => hn0 (hiff.2 k)))
      obtain rfl : n = 0 := by omega
      rw [decide_eq_false hneg] at c0
      clear hr ht hm Hf hl hiff
      go_wp2
      go_ret
      exact ⟨rfl, Hf1.out, grownBy_then hg (grownBy_setCell _ _ _)⟩

/-- -1, 0 or 1. -/
def cmpI (a b : Int) : Int := if a < b then -1 else if b < a then 1 else 0
theorem cmpI_lt {a b : Int} (h : a < b) : cmpI a b = -1 := if_pos h
theorem cmpI_gt {a b : Int} (h : b < a) : cmpI a b = 1 := by rw [cmpI, if_neg (by omega), if_pos h]
theorem cmpI_eq {a b : Int} (h : a = b) : cmpI a b = 0 := by rw [cmpI, if_neg (by omega), if_neg (by omega)]

set_option maxHeartbeats 800000 in
theorem CmpAbs_any (bx bY : Nat) (x y : Int) (w : World) (hx : BigAt w bx x) (hy : BigAt w bY y) (sx : ((x.natAbs : Nat) : Int) < pow32 1000000) (sy : ((y.natAbs : Nat) : Int) < pow32 1000000) :
    Calls Try.prog 57 #[ptr bx, ptr bY] w fun e w' => e = .returned (.int .i64 (cmpI x.natAbs y.natAbs)) ∧ ∃ q, w' = w.drewN q := by
  obtain ⟨A, n, c, l, hr, ht, hm⟩ := hx
  obtain ⟨B, m, d, r, hs, hu, hv⟩ := hy
  have Hl := Lib.hid hr.rd.lenMap
  have Hr := Lib.hid hs.rd.lenMap
  have hn : n ≤ 1000000 := by rw [← Hl.out]; exact len_le hr.dig ht (by rw [hm]; exact sx)
  have hn' : m ≤ 1000000 := by rw [← Hr.out]; exact len_le hs.dig hu (by rw [hv]; exact sy)
  have c1 := hr.box.cell 1 rfl
  have d1 := hs.box.cell 1 rfl
  rw [← hm, ← hv]
  clear hm hv sx sy
  by_cases hne : n = m
  · subst hne
    go_enter Try.func57, Try.ntmps57
    go_wp2
    go_quiet (fail)
    go_wp2
    go_loopw [5] (fun i wr => ∃ j : Nat, j ≤ n ∧ i = .int .i64 ((j : Int) - 1) ∧ l.drop j = r.drop j ∧ ∃ q, wr = w.drewN q) (fun i _ => (intOf i + 1).toNat)
    case atStart => exact ⟨n, Nat.le_refl _, rfl, by rw [List.drop_eq_nil_of_le (by rw [Hl.out]; exact Nat.le_refl _), List.drop_eq_nil_of_le (by rw [Hr.out]; exact Nat.le_refl _)], ⟨_, rfl⟩⟩
    case round =>
      obtain ⟨j, hj, rfl, he, q, hq⟩ := hrel
      have He := Lib.hid he; clear he
      by_cases hj0 : 0 < j
      · obtain ⟨ad, a, rfl, ha, hca⟩ := hr.rd.atMap (k := j - 1) (by omega)
        obtain ⟨bd, b, rfl, hb, hcb⟩ := hs.rd.atMap (k := j - 1) (by omega)
        have Hfin : Hid ((a < b → mag l < mag r) ∧ (b < a → mag r < mag l) ∧ (a = b → l.drop (j - 1) = r.drop (j - 1))) := by
          refine ⟨fun h => mag_cmp_at hr.dig hs.dig (by rw [Hl.out, Hr.out]) ha hb (by rw [Nat.sub_add_cancel hj0]; exact He.out) h, fun h => mag_cmp_at hs.dig hr.dig (by rw [Hl.out, Hr.out]) hb ha (by rw [Nat.sub_add_cancel hj0]; exact He.out.symm) h, fun h => ?_⟩
          rw [drop_cons ha, drop_cons hb, Nat.sub_add_cancel hj0, He.out, h]
        have c1' : wr.cell? ⟨bx, 1, none⟩ = some (.slice (some ad) n c) := by rw [hq]; exact c1
        have d1' : wr.cell? ⟨bY, 1, none⟩ = some (.slice (some bd) n d) := by rw [hq]; exact d1
        have hca' : wr.cell? (ad.add (j - 1)) = some (.int .u32 a) := by rw [hq]; exact hca
        have hcb' : wr.cell? (bd.add (j - 1)) = some (.int .u32 b) := by rw [hq]; exact hcb
        have Hq := Lib.hid hq
        have hj1 : (1 : Int) ≤ (j : Int) := by omega
        have hjn : (j : Int) - 1 < (n : Int) := by omega
        clear hq ha hb hca hcb c1 d1
        by_cases hab : a = b
        · have hab' : (a == b) = true := by simpa using hab
          have Hab := Lib.hid hab; clear hab
          go_wp2
          go_quiet (fail)
          go_wp2
          go_roundw
          case rel => exact ⟨j - 1, by omega, by go_num, Hfin.out.2.2 Hab.out, ⟨q + nq, by rw [Hq.out]; simp [World.drewN, Nat.add_assoc]⟩⟩
          case measure => simp [intOf] <;> omega
        · have hab' : (a == b) = false := by simpa using hab
          by_cases hlt : a < b
          · have Hlt := Lib.hid hlt
            clear hab
            go_wp2
            go_quiet (fail)
            go_wp2
            go_quiet (fail)
            go_wp2
            go_ret
            refine ⟨ret_int (cmpI_lt (Hfin.out.1 Hlt.out)).symm, ?_⟩
            rw [Hq.out]; simp only [World.drewN_drewN]; exact ⟨_, rfl⟩
          · have hge : b < a := by omega
            have Hlt := Lib.hid hge
            have hle : b ≤ a := by omega
            clear hab
            go_wp2
            go_quiet (fail)
            go_wp2
            go_quiet (fail)
            go_wp2
            go_ret
            refine ⟨ret_int (cmpI_gt (Hfin.out.2.1 Hlt.out)).symm, ?_⟩
            rw [Hq.out]; simp only [World.drewN_drewN]; exact ⟨_, rfl⟩
      · obtain rfl : j = 0 := by omega
        have Heq : Hid (mag l = mag r) := by
          show _ = _
          have := He.out
          simp only [List.drop_zero] at this
          rw [this]
        go_wp2
        go_ret
        exact ⟨ret_int (cmpI_eq Heq.out).symm, q, rfl⟩
  · have hne' : ((n : Int) == (m : Int)) = false := by simp; omega
    have Hfin : Hid ((n < m → mag l < mag r) ∧ (m < n → mag r < mag l)) :=
      ⟨fun h => mag_cmp_len hr.dig hs.dig hu (by rw [Hl.out, Hr.out]; exact h), fun h => mag_cmp_len hs.dig hr.dig ht (by rw [Hl.out, Hr.out]; exact h)⟩
    by_cases hlt : n < m
    · have Hlt := Lib.hid hlt
      go_enter Try.func57, Try.ntmps57
      go_wp2
      go_quiet (fail)
      go_wp2
      go_quiet (fail)
      go_wp2
      go_ret
      refine ⟨ret_int (cmpI_lt (Hfin.out.1 Hlt.out)).symm, ?_⟩
      try simp only [World.drewN_drewN]
      exact ⟨_, rfl⟩
    · have Hlt : Hid (m < n) := by show _ < _; omega
      go_enter Try.func57, Try.ntmps57
      go_wp2
      go_quiet (fail)
      go_wp2
      go_quiet (fail)
      go_wp2
      go_ret
      refine ⟨ret_int (cmpI_gt (Hfin.out.2 Hlt.out)).symm, ?_⟩
      try simp only [World.drewN_drewN]
      exact ⟨_, rfl⟩

/-- What make gave, as far as it is not yet filled. -/
theorem fill_set {acc : List Int} {n : Nat} (hlen : acc.length < n) (v : Int) : (acc ++ List.replicate (n - acc.length) 0).set acc.length v = (acc ++ [v]) ++ List.replicate (n - (acc ++ [v]).length) 0 := by
  obtain ⟨m, hm⟩ : ∃ m, n - acc.length = m + 1 := ⟨n - acc.length - 1, by omega⟩
  rw [hm, List.replicate_succ, List.set_append_right _ _ (Nat.le_refl _), Nat.sub_self, List.set_cons_zero, List.length_append, List.append_assoc]
  congr 2
  simp; omega

set_option maxHeartbeats 800000 in
theorem sumOf_any (A : Option Addr) (n c : Nat) (x : List Int) (B : Option Addr) (m d : Nat) (y : List Int) (w : World) (hx : Rd w 1 A n (x.map (Value.int .u32))) (hy : Rd w 1 B m (y.map (Value.int .u32))) (dx : Dig x) (dy : Dig y) (hn : n ≤ 1000000) (hm : m ≤ 1000000) :
    Calls Try.prog 56 #[.slice A n c, .slice B m d] w fun e w' => ∃ v l, e = .returned v ∧ Ow (Value.int .u32) w' w.heap.size 84 v l ∧ Dig l ∧ mag l = mag x + mag y ∧ l.length ≤ 1000001 ∧ Below w.heap.size w w' := by
  by_cases hlm : m ≤ n
  · have hlm' : ¬ n < m := by omega
    have Hl := Lib.hid hx.lenMap
    have Hr := Lib.hid hy.lenMap
    have hmk : ∀ W : World, (Instr.makeSlice 65 (.int .i64 ((n : Int) + 1)) (.int .i64 ((n : Int) + 1))).run Try.prog W = .ok (.slice (some ⟨W.heap.size, 0, none⟩) (n + 1) (n + 1)) (W.alloc (.cells (madeCells #[.int .u32 0] (n + 1)) 84)) := fun W => by
      have := run_mk elU32 rfl .i64 .i64 (n + 1) (n + 1) (Nat.le_refl _) (by omega) (by omega) W
      simpa using this
    have Ho0 := Lib.hid (Ow.make (Value.int .u32) 0 w 84 (base := w.heap.size) (n + 1) (by unfold maxLen; omega) (Nat.le_refl _))
    go_enter Try.func56, Try.ntmps56
    go_wp2
    go_loopw [6, 22] (fun cv i wr => ∃ (k : Nat) (cc : Int) (acc : List Int), k ≤ n ∧ i = .int .i64 k ∧ cv = .int .u64 cc ∧ 0 ≤ cc ∧ cc ≤ 1 ∧ acc.length = k ∧ acc ++ addL cc (x.drop k) (y.drop k) = addL 0 x y ∧ Ow (Value.int .u32) wr w.heap.size 84 (.slice (some ⟨w.heap.size, 0, none⟩) (n + 1) (n + 1)) (acc ++ List.replicate (n + 1 - acc.length) 0) ∧ Below w.heap.size w wr) (fun _ i _ => n - (intOf i).toNat)
    case atStart => exact ⟨0, 0, [], Nat.zero_le _, rfl, rfl, by omega, by omega, rfl, rfl, Ho0.out, (Below.refl _ _).alloc (Nat.le_refl _) _⟩
    case round =>
      obtain ⟨k, cc, acc, hk, rfl, rfl, hc0, hc1, hal, hacc, ho, hb⟩ := hrel
      have Hacc := Lib.hid hacc; clear hacc
      have Hal := Lib.hid hal
      by_cases hlt : k < n
      · obtain ⟨ad, a, rfl, ha, hca⟩ := (hx.below hb).atMap (k := k) hlt
        obtain ⟨a0, a1⟩ := dx.at ha
        have Ha := Lib.hid (drop_cons ha); clear ha
        have hcell := ho.cellAt (k := k) (x := 0) (by rw [List.getElem?_append_right (by omega), hal, Nat.sub_self, List.getElem?_replicate, if_pos (by omega)])
        have hfree := ho.freeAt k
        have hput := Lib.hid (fun v : Int => ho.put k v)
        have Hfs := Lib.hid (fun v : Int => fill_set (acc := acc) (n := n + 1) (by omega) v)
        rw [hal] at Hfs
        clear ho hal
        by_cases hlm : k < m
        · obtain ⟨bd, b, rfl, hbb, hcb⟩ := (hy.below hb).atMap (k := k) hlm
          obtain ⟨b0, b1⟩ := dy.at hbb
          have Hb := Lib.hid (drop_cons hbb); clear hbb
          go_wp2
          go_roundw
          case rel =>
            refine ⟨k + 1, (cc + a + b) / 4294967296, acc ++ [(cc + a + b) % 4294967296], by omega, by go_num, rfl, by omega, by omega, by simp [Hal.out], ?_, ?_, below_grown hb (grownBy_setCell _ ⟨w.heap.size, k, none⟩ _) (Nat.le_refl _) hb.size⟩
            · rw [← Hacc.out, Ha.out, Hb.out, addL, List.append_assoc]; rfl
            · have := hput.out ((cc + a + b) % 4294967296)
              rw [← Hal.out] at this ⊢
              rw [fill_set (by have := Hal.out; omega)] at this
              exact this
          case measure => simp [intOf] <;> omega
        · have Hb : Hid (y.drop k = [] ∧ y.drop (k + 1) = []) := ⟨List.drop_eq_nil_of_le (by rw [Hr.out]; omega), List.drop_eq_nil_of_le (by rw [Hr.out]; omega)⟩
          go_wp2
          go_roundw
          case rel =>
            refine ⟨k + 1, (cc + a) / 4294967296, acc ++ [(cc + a) % 4294967296], by omega, by go_num, rfl, by omega, by omega, by simp [Hal.out], ?_, ?_, below_grown hb (grownBy_setCell _ ⟨w.heap.size, k, none⟩ _) (Nat.le_refl _) hb.size⟩
            · rw [← Hacc.out, Ha.out, Hb.out.1, Hb.out.2, addL, List.append_assoc]; simp
            · have := hput.out ((cc + a) % 4294967296)
              rw [← Hal.out] at this ⊢
              rw [fill_set (by have := Hal.out; omega)] at this
              exact this
          case measure => simp [intOf] <;> omega
      · obtain rfl : k = n := by omega
        have hcell := ho.cellAt (k := k) (x := 0) (by rw [List.getElem?_append_right (by omega), hal, Nat.sub_self, List.getElem?_replicate, if_pos (by omega)])
        have hfree := ho.freeAt k
        have hput := Lib.hid (fun v : Int => ho.put k v)
        clear ho
        have Hend : Hid (acc ++ [cc] = addL 0 x y) := by
          show _ = _
          rw [← Hacc.out, List.drop_eq_nil_of_le (by rw [Hl.out]; exact Nat.le_refl _)]; rfl
        go_wp2
        go_ret
        refine ⟨_, addL 0 x y, rfl, ?_, addL_dig _ _ _ dx dy (by omega) (by omega), ?_, by rw [addL_len, Hl.out]; omega, below_grown hb (grownBy_setCell _ ⟨w.heap.size, _, none⟩ _) (Nat.le_refl _) hb.size⟩
        · have := hput.out cc
          rw [← Hal.out] at this
          rw [fill_set (by have := Hal.out; omega), Hend.out] at this
          rw [← Hal.out]
          have hz : acc.length + 1 - (addL 0 x y).length = 0 := by rw [addL_len, Hl.out, Hal.out]; omega
          rw [hz] at this
          simpa using this
        · rw [addL_mag _ _ _ (by rw [Hl.out, Hr.out]; omega)]; omega
  · have hlm' : n < m := by omega
    rw [Int.add_comm]
    have Hl := Lib.hid hy.lenMap
    have Hr := Lib.hid hx.lenMap
    have hmk : ∀ W : World, (Instr.makeSlice 65 (.int .i64 ((m : Int) + 1)) (.int .i64 ((m : Int) + 1))).run Try.prog W = .ok (.slice (some ⟨W.heap.size, 0, none⟩) (m + 1) (m + 1)) (W.alloc (.cells (madeCells #[.int .u32 0] (m + 1)) 84)) := fun W => by
      have := run_mk elU32 rfl .i64 .i64 (m + 1) (m + 1) (Nat.le_refl _) (by omega) (by omega) W
      simpa using this
    have Ho0 := Lib.hid (Ow.make (Value.int .u32) 0 w 84 (base := w.heap.size) (m + 1) (by unfold maxLen; omega) (Nat.le_refl _))
    go_enter Try.func56, Try.ntmps56
    go_wp2
    go_loopw [6, 22] (fun cv i wr => ∃ (k : Nat) (cc : Int) (acc : List Int), k ≤ m ∧ i = .int .i64 k ∧ cv = .int .u64 cc ∧ 0 ≤ cc ∧ cc ≤ 1 ∧ acc.length = k ∧ acc ++ addL cc (y.drop k) (x.drop k) = addL 0 y x ∧ Ow (Value.int .u32) wr w.heap.size 84 (.slice (some ⟨w.heap.size, 0, none⟩) (m + 1) (m + 1)) (acc ++ List.replicate (m + 1 - acc.length) 0) ∧ Below w.heap.size w wr) (fun _ i _ => m - (intOf i).toNat)
    case atStart => exact ⟨0, 0, [], Nat.zero_le _, rfl, rfl, by omega, by omega, rfl, rfl, Ho0.out, (Below.refl _ _).alloc (Nat.le_refl _) _⟩
    case round =>
      obtain ⟨k, cc, acc, hk, rfl, rfl, hc0, hc1, hal, hacc, ho, hb⟩ := hrel
      have Hacc := Lib.hid hacc; clear hacc
      have Hal := Lib.hid hal
      by_cases hlt : k < m
      · obtain ⟨ad, a, rfl, ha, hca⟩ := (hy.below hb).atMap (k := k) hlt
        obtain ⟨a0, a1⟩ := dy.at ha
        have Ha := Lib.hid (drop_cons ha); clear ha
        have hcell := ho.cellAt (k := k) (x := 0) (by rw [List.getElem?_append_right (by omega), hal, Nat.sub_self, List.getElem?_replicate, if_pos (by omega)])
        have hfree := ho.freeAt k
        have hput := Lib.hid (fun v : Int => ho.put k v)
        have Hfs := Lib.hid (fun v : Int => fill_set (acc := acc) (n := m + 1) (by omega) v)
        rw [hal] at Hfs
        clear ho hal
        by_cases hlm : k < n
        · obtain ⟨bd, b, rfl, hbb, hcb⟩ := (hx.below hb).atMap (k := k) hlm
          obtain ⟨b0, b1⟩ := dx.at hbb
          have Hb := Lib.hid (drop_cons hbb); clear hbb
          go_wp2
          go_roundw
          case rel =>
            refine ⟨k + 1, (cc + a + b) / 4294967296, acc ++ [(cc + a + b) % 4294967296], by omega, by go_num, rfl, by omega, by omega, by simp [Hal.out], ?_, ?_, below_grown hb (grownBy_setCell _ ⟨w.heap.size, k, none⟩ _) (Nat.le_refl _) hb.size⟩
            · rw [← Hacc.out, Ha.out, Hb.out, addL, List.append_assoc]; rfl
            · have := hput.out ((cc + a + b) % 4294967296)
              rw [← Hal.out] at this ⊢
              rw [fill_set (by have := Hal.out; omega)] at this
              exact this
          case measure => simp [intOf] <;> omega
        · have Hb : Hid (x.drop k = [] ∧ x.drop (k + 1) = []) := ⟨List.drop_eq_nil_of_le (by rw [Hr.out]; omega), List.drop_eq_nil_of_le (by rw [Hr.out]; omega)⟩
          go_wp2
          go_roundw
          case rel =>
            refine ⟨k + 1, (cc + a) / 4294967296, acc ++ [(cc + a) % 4294967296], by omega, by go_num, rfl, by omega, by omega, by simp [Hal.out], ?_, ?_, below_grown hb (grownBy_setCell _ ⟨w.heap.size, k, none⟩ _) (Nat.le_refl _) hb.size⟩
            · rw [← Hacc.out, Ha.out, Hb.out.1, Hb.out.2, addL, List.append_assoc]; simp
            · have := hput.out ((cc + a) % 4294967296)
              rw [← Hal.out] at this ⊢
              rw [fill_set (by have := Hal.out; omega)] at this
              exact this
          case measure => simp [intOf] <;> omega
      · obtain rfl : k = m := by omega
        have hcell := ho.cellAt (k := k) (x := 0) (by rw [List.getElem?_append_right (by omega), hal, Nat.sub_self, List.getElem?_replicate, if_pos (by omega)])
        have hfree := ho.freeAt k
        have hput := Lib.hid (fun v : Int => ho.put k v)
        clear ho
        have Hend : Hid (acc ++ [cc] = addL 0 y x) := by
          show _ = _
          rw [← Hacc.out, List.drop_eq_nil_of_le (by rw [Hl.out]; exact Nat.le_refl _)]; rfl
        go_wp2
        go_ret
        refine ⟨_, addL 0 y x, rfl, ?_, addL_dig _ _ _ dy dx (by omega) (by omega), ?_, by rw [addL_len, Hl.out]; omega, below_grown hb (grownBy_setCell _ ⟨w.heap.size, _, none⟩ _) (Nat.le_refl _) hb.size⟩
        · have := hput.out cc
          rw [← Hal.out] at this
          rw [fill_set (by have := Hal.out; omega), Hend.out] at this
          rw [← Hal.out]
          have hz : acc.length + 1 - (addL 0 y x).length = 0 := by rw [addL_len, Hl.out, Hal.out]; omega
          rw [hz] at this
          simpa using this
        · rw [addL_mag _ _ _ (by rw [Hl.out, Hr.out]; omega)]; omega

/-- A difference in u64, its lower half and its highest bit. -/
theorem borrow {a c b : Int} (a0 : 0 ≤ a) (a1 : a < 4294967296) (b0 : 0 ≤ b) (b1 : b < 4294967296) (c0 : 0 ≤ c) (c1 : c ≤ 1) :
    ∃ v1 v2 : Int, IntKind.u64.wrap (a - c) = v1 ∧ IntKind.u64.wrap (v1 - b) = v2 ∧ 0 ≤ v2 ∧ v2 ≤ 18446744073709551615 ∧ v2 % 4294967296 = (a - c - b) % 4294967296 ∧ v2 / 9223372036854775808 = (if a - c - b < 0 then 1 else 0) := by
  refine ⟨_, _, rfl, rfl, ?_⟩
  rw [IntKind.wrap_u64, IntKind.wrap_u64]
  split <;> omega

set_option maxHeartbeats 800000 in
theorem lessOf_any (A : Option Addr) (n c : Nat) (x : List Int) (B : Option Addr) (m d : Nat) (y : List Int) (w : World) (hx : Rd w 1 A n (x.map (Value.int .u32))) (hy : Rd w 1 B m (y.map (Value.int .u32))) (dx : Dig x) (dy : Dig y) (hn : n ≤ 1000000) (hm : m ≤ n) (hle : mag y ≤ mag x) :
    Calls Try.prog 58 #[.slice A n c, .slice B m d] w fun e w' => ∃ v l, e = .returned v ∧ Ow (Value.int .u32) w' w.heap.size 84 v l ∧ Dig l ∧ mag l = mag x - mag y ∧ l.length ≤ 1000001 ∧ Below w.heap.size w w' := by
  have Hl := Lib.hid hx.lenMap
  have Hr := Lib.hid hy.lenMap
  have Hle := Lib.hid hle; clear hle
  have hmk := run_mk elU32 rfl .i64 .i64 n n (Nat.le_refl _) (by omega) (by omega)
  have Ho0 := Lib.hid (Ow.make (Value.int .u32) 0 w 84 (base := w.heap.size) n (by unfold maxLen; omega) (Nat.le_refl _))
  go_enter Try.func58, Try.ntmps58
  go_wp2
  go_loopw [6, 15] (fun cv i wr => ∃ (k : Nat) (cc : Int) (acc : List Int), k ≤ n ∧ i = .int .i64 k ∧ cv = .int .u64 cc ∧ 0 ≤ cc ∧ cc ≤ 1 ∧ acc.length = k ∧ acc ++ subL cc (x.drop k) (y.drop k) = subL 0 x y ∧ Ow (Value.int .u32) wr w.heap.size 84 (.slice (some ⟨w.heap.size, 0, none⟩) n n) (acc ++ List.replicate (n - acc.length) 0) ∧ Below w.heap.size w wr) (fun _ i _ => n - (intOf i).toNat)
  case atStart => exact ⟨0, 0, [], Nat.zero_le _, rfl, rfl, by omega, by omega, rfl, rfl, Ho0.out, (Below.refl _ _).alloc (Nat.le_refl _) _⟩
  case round =>
    obtain ⟨k, cc, acc, hk, rfl, rfl, hc0, hc1, hal, hacc, ho, hb⟩ := hrel
    have Hacc := Lib.hid hacc; clear hacc
    have Hal := Lib.hid hal
    by_cases hlt : k < n
    · obtain ⟨ad, a, rfl, ha, hca⟩ := (hx.below hb).atMap (k := k) hlt
      obtain ⟨a0, a1⟩ := dx.at ha
      have Ha := Lib.hid (drop_cons ha); clear ha
      have hcell := ho.cellAt (k := k) (x := 0) (by rw [List.getElem?_append_right (by omega), hal, Nat.sub_self, List.getElem?_replicate, if_pos (by omega)])
      have hfree := ho.freeAt k
      have hput := Lib.hid (fun v : Int => ho.put k v)
      clear ho hal
      by_cases hlm : k < m
      · obtain ⟨bd, b, rfl, hbb, hcb⟩ := (hy.below hb).atMap (k := k) hlm
        obtain ⟨b0, b1⟩ := dy.at hbb
        have Hb := Lib.hid (drop_cons hbb); clear hbb
        obtain ⟨v1, v2, hv1, hv2, hv3, hv4, hv5, hv6⟩ := borrow a0 a1 b0 b1 hc0 hc1
        have Hv5 := Lib.hid hv5; have Hv6 := Lib.hid hv6; clear hv5 hv6
        go_wp2
        go_roundw
        case rel =>
          refine ⟨k + 1, v2 / 9223372036854775808, acc ++ [v2 % 4294967296], by omega, by go_num, rfl, by omega, by omega, by simp [Hal.out], ?_, ?_, below_grown hb (grownBy_setCell _ ⟨w.heap.size, k, none⟩ _) (Nat.le_refl _) hb.size⟩
          · rw [← Hacc.out, Ha.out, Hb.out, subL, List.append_assoc, Hv5.out, Hv6.out]; rfl
          · have := hput.out (v2 % 4294967296)
            rw [← Hal.out] at this ⊢
            rw [fill_set (by have := Hal.out; omega)] at this
            exact this
        case measure => simp [intOf] <;> omega
      · have Hb : Hid (y.drop k = [] ∧ y.drop (k + 1) = []) := ⟨List.drop_eq_nil_of_le (by rw [Hr.out]; omega), List.drop_eq_nil_of_le (by rw [Hr.out]; omega)⟩
        obtain ⟨v1, v2, hv1, hv2, hv3, hv4, hv5, hv6⟩ := borrow a0 a1 (Int.le_refl 0) (by decide) hc0 hc1
        have hv21 : v2 = v1 := by rw [← hv2, Int.sub_zero, IntKind.wrap_u64, ← hv1, IntKind.wrap_u64]; omega
        subst hv21
        have Hv5 := Lib.hid hv5; have Hv6 := Lib.hid hv6; clear hv5 hv6 hv2
        go_wp2
        go_roundw
        case rel =>
          refine ⟨k + 1, v2 / 9223372036854775808, acc ++ [v2 % 4294967296], by omega, by go_num, rfl, by omega, by omega, by simp [Hal.out], ?_, ?_, below_grown hb (grownBy_setCell _ ⟨w.heap.size, k, none⟩ _) (Nat.le_refl _) hb.size⟩
          · rw [← Hacc.out, Ha.out, Hb.out.1, Hb.out.2, subL, List.append_assoc, Hv5.out, Hv6.out]; rfl
          · have := hput.out (v2 % 4294967296)
            rw [← Hal.out] at this ⊢
            rw [fill_set (by have := Hal.out; omega)] at this
            exact this
        case measure => simp [intOf] <;> omega
    · obtain rfl : k = n := by omega
      have Hend : Hid (acc = subL 0 x y) := by
        show _ = _
        rw [← Hacc.out, List.drop_eq_nil_of_le (by rw [Hl.out]; exact Nat.le_refl _), subL, List.append_nil]
      have Ho := Lib.hid ho; clear ho
      go_wp2
      go_ret
      refine ⟨_, subL 0 x y, rfl, ?_, subL_dig _ _ _, ?_, by rw [subL_len, Hl.out]; omega, hb⟩
      · have := Ho.out
        rw [hal, Nat.sub_self, List.replicate_zero, List.append_nil, Hend.out] at this
        exact this
      · rw [subL_mag _ _ _ (by rw [Hl.out, Hr.out]; omega) dx dy (by omega) (by omega) (by have := Hle.out; omega)]; omega
end Go.Proofs.Ytajfohnblmnjjaa
