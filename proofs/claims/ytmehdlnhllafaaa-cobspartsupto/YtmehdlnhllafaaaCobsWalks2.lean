/-
  Contracts of cobs.checkGroup and Unpack, for every input. No statement of the seat is here.
-/
import Derived.Test.YtmehdlnhllafaaaCobsWalks
namespace Go.Proofs.Ytmehdlnhllafaaa
open Go.RowKit
set_option linter.unusedVariables false
set_option linter.unusedSimpArgs false

theorem thenU_thenU (a b : List Int) (r : List Int × Int) : thenU a (thenU b r) = thenU (a ++ b) r := by
  unfold thenU
  by_cases h : r.2 ≠ 0
  · simp [h]
  · simp [h]
/-- The bytes of the first group, which k bytes follow the length byte, and the rest. -/
theorem rd_group {w : World} {A : Option Addr} {n c k : Nat} {x : Int} {l : List Int} (h : Rd w 1 A n ((x :: l).map (Value.int .u8))) (hk : k + 1 ≤ n) (hnc : n ≤ c) :
    ∃ AP, (∀ W : World, (Instr.slice 22 (.slice A n c) (some (.int .i64 1)) (some (.int .i64 ((k : Int) + 1))) none).run Try.prog W = .ok (.slice AP k (c - 1)) W) ∧ Rd w 1 AP k ((l.take k).map (Value.int .u8)) := by
  have hT := (h.cut (k := 1) (cap := c) (by omega) hnc).take (k := k) (by omega)
  rw [Nat.mul_one, Nat.mul_one, ← List.map_drop, List.drop_one, List.tail_cons, ← List.map_take] at hT
  refine ⟨_, fun W => ?_, hT⟩
  have := run_part elByte W A n c 1 (k + 1) (by omega) (by omega)
  rwa [Nat.mul_one, Nat.add_sub_cancel] at this

theorem checkGroup_any (A : Option Addr) (n c : Nat) (x : Int) (l : List Int) (w : World) (h : Rd w 1 A n ((x :: l).map (Value.int .u8))) (hb : Byte8 (x :: l)) (hnc : n ≤ c) (hn : n ≤ 4611686018427387904) :
    Calls Try.prog 19 #[.slice A n c] w fun e w' => e = .returned (.int .i64 (grpM (x :: l))) ∧ w = w' := by
  have hl := h.lenMap
  rw [List.length_cons] at hl
  obtain ⟨hx0, hx1⟩ := hb x (by simp)
  obtain ⟨ad, x', rfl, hx', hc0⟩ := h.atMap (k := 0) (by omega)
  obtain rfl : x = x' := by simpa using hx'
  have hc1 : w.cell? ad = some (.int .u8 x) := by simpa [go_sem] using hc0
  have hwr : IntKind.i64.wrap x = x := IntWalk.i64_in _ (by omega)
  have hn1 : 0 < n := by omega
  clear hx' hc0
  by_cases h0 : x = 0
  · have He : Hid (grpM (x :: l) = 1) := by show _ = _; simp only [grpM]; rw [if_pos h0]
    subst h0
    clear h
    go_enter Try.func19, Try.ntmps19
    go_wp2
    go_ret
    rw [He.out]
    exact ⟨rfl, rfl⟩
  have hq0 : (x == 0) = false := by simpa using h0
  by_cases hs : (n : Int) < x
  · have He : Hid (grpM (x :: l) = 8) := by show _ = _; simp only [grpM]; rw [if_neg h0, if_pos (by omega)]
    clear h
    go_enter Try.func19, Try.ntmps19
    go_wp2
    go_ret
    rw [He.out]
    exact ⟨rfl, rfl⟩
  obtain ⟨k, rfl⟩ : ∃ k : Nat, x = (k : Int) + 1 := ⟨x.toNat - 1, by omega⟩
  obtain ⟨AP, hP, hrP⟩ := rd_group (k := k) h (by omega) hnc
  have hI := IndexByte_any AP k (c - 1) (l.take k) w hrP (fun y hy => hb y (by simp [List.mem_of_mem_take hy]))
  have He : Hid (grpM (((k : Int) + 1) :: l) = if (0 : Int) ∈ l.take k then 1 else 0) := by
    show _ = _
    simp only [grpM]
    rw [if_neg h0, if_neg (by omega), show ((k : Int) + 1).toNat - 1 = k by omega]
  clear h hl
  go_enter Try.func19, Try.ntmps19
  go_wp2_with fail
  refine hI.mono ?_
  rintro e w' ⟨r, rfl, hr, rfl⟩
  rcases hr with ⟨rfl, hr⟩ | ⟨j, rfl, h1, h2⟩
  · have He2 := Lib.hid (He.out.trans (if_neg hr))
    clear hr He hI hP hrP
    go_wp2
    go_ret
    rw [He2.out]
    exact ⟨rfl, rfl⟩
  · have He2 := Lib.hid (He.out.trans (if_pos (List.mem_of_getElem? h1)))
    clear h1 h2 He hI hP hrP
    go_wp2
    go_ret
    rw [He2.out]
    exact ⟨rfl, rfl⟩

/-- What a function that returns bytes and an error promises. -/
def GivesB8 (w : World) (p : List Int × Int) (e : Ending) (w' : World) : Prop :=
  ∃ v, e = .returned (.tuple #[v, .int .i64 p.2]) ∧ Ow (Value.int .u8) w' w.heap.size 5 v p.1 ∧ Below w.heap.size w w'

set_option maxHeartbeats 1000000 in
theorem Unpack_any (A : Option Addr) (n c : Nat) (l : List Int) (w : World) (h : Rd w 1 A n (l.map (Value.int .u8))) (hb : Byte8 l) (hnc : n ≤ c) (hc : c ≤ 9223372036854775807) (hn : n ≤ 200000000000000) :
    Calls Try.prog 9 #[.slice A n c] w (GivesB8 w (unpackC l)) := by
  have hl := h.lenMap
  obtain ⟨R, hR⟩ : ∃ R, R = unpackC l := ⟨_, rfl⟩
  rw [← hR]
  by_cases h0 : n = 0
  · subst h0
    obtain rfl : l = [] := List.eq_nil_of_length_eq_zero hl
    obtain rfl : R = ([], 8) := hR
    clear h
    go_enter Try.func9, Try.ntmps9
    go_wp2
    go_ret2
    exact ⟨_, rfl, Ow.nil _ _ _ _, Below.refl _ _⟩
  have hne : l ≠ [] := by rintro rfl; simp at hl; omega
  have HR : Hid (thenU [] (unG l) = R) := by show _ = _; rw [thenU_nil, hR]; unfold unpackC; rw [if_neg hne]
  have hn0 : ((n : Int) == 0) = false := by rw [beq_eq_false_iff_ne]; omega
  obtain ⟨cap, hcap⟩ : ∃ cap : Nat, cap = n - 1 := ⟨_, rfl⟩
  have hmk : ∀ W, (Instr.makeSlice 22 (.int .i64 0) (.int .i64 ((n : Int) - 1))).run Try.prog W = .ok (.slice (some ⟨W.heap.size, 0, none⟩) 0 cap) (W.alloc (.cells (madeCells #[.int .u8 0] cap) 5)) := fun W => by
    have := run_make0 elByte rfl .i64 .i64 cap (by omega) (by omega) W
    rwa [show ((cap : Nat) : Int) = (n : Int) - 1 by omega] at this
  have Ho0 := Lib.hid (Ow.room (Value.int .u8) 0 w 5 (base := w.heap.size) cap (by unfold maxLen; omega) (Nat.le_refl _))
  have hn1 : 1 ≤ n := by omega
  clear hR hl hcap h0 hne
  go_enter Try.func9, Try.ntmps9
  go_wp2
  go_loopw [0, 4] (fun b v wr => ∃ (B : Option Addr) (m d : Nat) (l' acc : List Int), b = .slice B m d ∧ Rd w 1 B m (l'.map (Value.int .u8)) ∧ Byte8 l' ∧ acc.length + m ≤ n ∧ m ≤ d ∧ d ≤ c ∧ Hid (thenU acc (unG l') = R) ∧ Ow (Value.int .u8) wr w.heap.size 5 v acc ∧ Below w.heap.size w wr) (fun b _ _ => lenOf b)
  case atStart => exact ⟨A, n, c, l, [], rfl, h, hb, by simp, hnc, Nat.le_refl _, HR, Ho0.out, (Below.refl _ _).alloc (Nat.le_refl _) _⟩
  case round =>
    obtain ⟨B, m, d, l', acc, rfl, hr, hb', hmn, hmd, hdc, Hp, ho, hbl⟩ := hrel
    have hsz := hbl.size
    have hl := hr.lenMap
    by_cases hm0 : m = 0
    · subst hm0
      obtain rfl : l' = [] := List.eq_nil_of_length_eq_zero hl
      have e := Hp.out
      rw [unG_nil] at e
      simp only [thenU, ne_eq, not_true_eq_false, if_false, List.append_nil] at e
      clear hr hmk
      go_wp2
      go_ret2
      rw [← e]
      exact ⟨_, rfl, ho, hbl⟩
    obtain ⟨x, l'', rfl⟩ : ∃ x l'', l' = x :: l'' := by cases l' with | nil => simp at hl; omega | cons x t => exact ⟨x, t, rfl⟩
    have hm1 : 0 < (m : Int) := by omega
    have hG := checkGroup_any B m d x l'' wr (hr.below hbl) hb' hmd (by omega)
    by_cases hg : grpM (x :: l'') = 0
    · obtain ⟨D, r, he, hD0, hD⟩ := unG_split hb' (by simp) hg
      injection he with he1 he2
      subst he1 he2
      rw [hg] at hG
      have e := Hp.out
      rw [unG_group hD0, thenU_thenU] at e
      simp only [List.length_cons, List.length_append] at hl
      obtain ⟨k, hk⟩ : ∃ k, D.length = k := ⟨_, rfl⟩
      rw [hk] at e hr hl hD hb'
      obtain ⟨ad, x', rfl, hx', hc0⟩ := (hr.below hbl).atMap (k := 0) (by omega)
      obtain rfl : (k : Int) + 1 = x' := by simpa using hx'
      have hc1 : wr.cell? ad = some (.int .u8 ((k : Int) + 1)) := by simpa [go_sem] using hc0
      have hwr : IntKind.i64.wrap ((k : Int) + 1) = (k : Int) + 1 := IntWalk.i64_in _ (by omega)
      obtain ⟨AP, hP, hrP⟩ := rd_group (k := k) hr (by omega) hmd
      obtain ⟨AR, hC, hrC⟩ := rd_cut (k := k + 1) hr (by omega) hmd
      rw [List.take_left' hk] at hrP
      rw [List.drop_succ_cons, List.drop_left' hk] at hrC
      have hbr : Byte8 r := fun y hy => hb' y (by simp [hy])
      have hC' : ∀ W : World, (Instr.slice 22 (.slice (some ad) m d) (some (.int .i64 ((k : Int) + 1))) none none).run Try.prog W = .ok (.slice AR (m - (k + 1)) (d - (k + 1))) W := hC
      obtain ⟨p, hp⟩ : ∃ p, m - (k + 1) = p := ⟨_, rfl⟩
      rw [hp] at hC' hrC
      have hrl : r.length = p := by omega
      have hpm : p + k + 1 ≤ m := by omega
      obtain ⟨x, hx⟩ : ∃ x : Int, x = (k : Int) + 1 := ⟨_, rfl⟩
      rw [← hx] at hc1 hP hC' hwr
      have hx1 : 1 ≤ x ∧ x ≤ 255 := by omega
      obtain ⟨hx1, hx2⟩ := hx1
      have Hx := Lib.hid hx
      have Hrl := Lib.hid hrl
      have Hkd := Lib.hid hk
      clear hx' hc0 hr hC Hp hg hb' hD0 hl hp hk hx
      by_cases hz : p ≠ 0 ∧ k < 254
      · have hre : r ≠ [] := by rintro rfl; simp at hrl; omega
        clear hrl
        rw [if_pos ⟨hre, hz.2⟩] at e
        have He : Hid (thenU (acc ++ D ++ [0]) (unG r) = R) := by show _ = _; rw [← e]; simp
        have hp1 : 0 < (p : Int) := by omega
        have hk4 : decide (x < 255) = true := by have := Hx.out; simp; omega
        clear e hre
        go_wp2_with (first
          | (go_at_call 19; refine hG.mono ?_; rintro e w1 ⟨rfl, rfl⟩)
          | (at_builtin; refine wpList_apW (Value.int .u8) _ elByte rfl rfl (one_int .u8) w.heap.size _ (acc ++ D) rfl (ho2.alloc _) _ 1 1 [0] rfl (Rd.oneM (Value.int .u8) _ _ _) (le_alloc hb2.size) (by have := Hkd.out; simp; omega) (by decide) ?_; intro v3 w3 ho3 hm3)
          | (at_builtin; refine wpList_apW (Value.int .u8) _ elByte rfl rfl (one_int .u8) w.heap.size _ acc rfl ho AP k (d - 1) D rfl (hrP.below hbl) hsz (by omega) (by decide) ?_; intro v2 w2 ho2 hm2; have hb2 : Below w.heap.size w w2 := hm2.below hbl hsz ho.block))
        go_roundw
        case rel => exact ⟨AR, p, d - (k + 1), r, _, rfl, hrC, hbr, by have := Hkd.out; simp; omega, by omega, by omega, He, ho3, hm3.below (hb2.alloc hb2.size _) (le_alloc hb2.size) ho2.block⟩
        case measure => simp [lenOf]; omega
      · have hnz : ¬ (r ≠ [] ∧ k < 254) := fun hh => hz ⟨fun h0 => hh.1 (List.eq_nil_of_length_eq_zero (by omega)), hh.2⟩
        rw [if_neg hnz, List.append_nil] at e
        have He : Hid (thenU (acc ++ D) (unG r) = R) := e
        clear e hnz hrl
        by_cases hp0 : p = 0
        · subst hp0
          go_wp2_with (first
            | (go_at_call 19; refine hG.mono ?_; rintro e w1 ⟨rfl, rfl⟩)
            | (at_builtin; refine wpList_apW (Value.int .u8) _ elByte rfl rfl (one_int .u8) w.heap.size _ acc rfl ho AP k (d - 1) D rfl (hrP.below hbl) hsz (by omega) (by decide) ?_; intro v2 w2 ho2 hm2; have hb2 : Below w.heap.size w w2 := hm2.below hbl hsz ho.block))
          go_roundw
          case rel => exact ⟨AR, _, d - (k + 1), r, _, rfl, hrC, hbr, by have := Hkd.out; simp; omega, by omega, by omega, He, ho2, hb2⟩
          case measure => simp [lenOf]; omega
        · have hp1 : 0 < (p : Int) := by omega
          have hk4 : decide (x < 255) = false := by have := Hx.out; simp; omega
          go_wp2_with (first
            | (go_at_call 19; refine hG.mono ?_; rintro e w1 ⟨rfl, rfl⟩)
            | (at_builtin; refine wpList_apW (Value.int .u8) _ elByte rfl rfl (one_int .u8) w.heap.size _ acc rfl ho AP k (d - 1) D rfl (hrP.below hbl) hsz (by omega) (by decide) ?_; intro v2 w2 ho2 hm2; have hb2 : Below w.heap.size w w2 := hm2.below hbl hsz ho.block))
          go_roundw
          case rel => exact ⟨AR, _, d - (k + 1), r, _, rfl, hrC, hbr, by have := Hkd.out; simp; omega, by omega, by omega, He, ho2, hb2⟩
          case measure => simp [lenOf]; omega
    · have e := Hp.out
      rw [unG_bad hg] at e
      simp only [thenU] at e
      rw [if_pos hg] at e
      have hgb : (grpM (x :: l'') != 0) = true := by simpa using hg
      clear hr hmk Hp hg
      generalize grpM (x :: l'') = er at *
      go_wp2_with (go_at_call 19; refine hG.mono ?_; rintro e w1 ⟨rfl, rfl⟩)
      go_ret2
      rw [← e]
      exact ⟨_, rfl, Ow.nil _ _ _ _, hbl⟩
end Go.Proofs.Ytmehdlnhllafaaa
