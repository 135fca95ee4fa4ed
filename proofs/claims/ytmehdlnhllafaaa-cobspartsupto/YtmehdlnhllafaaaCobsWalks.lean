/-
  Contracts of cobs.run, Pack, checkGroup and Unpack, for every input. No statement of the seat is here.
-/
import Derived.Test.YtmehdlnhllafaaaCobsMath
import Derived.Test.YtmehdlnhllafaaaBytesY
import Derived.Test.YtmehdlnhllafaaaRoom
namespace Go.Proofs.Ytmehdlnhllafaaa
open Go.RowKit
set_option linter.unusedVariables false
set_option linter.unusedSimpArgs false

theorem run_idx_none {l : List Int} {m : Nat} (hm : m ≤ l.length) (h254 : m ≤ 254) (h : (0 : Int) ∉ l.take m) (he : m = l.length ∨ m = 254) : runM l = m :=
  runF_eq 254 l m hm h254 h (he.elim .inl fun h => .inr (.inl h))
theorem run_idx_some {l : List Int} {m k : Nat} (hm : m ≤ l.length) (h254 : m ≤ 254) (h1 : (l.take m)[k]? = some 0) (h2 : (0 : Int) ∉ (l.take m).take k) : runM l = k := by
  have hk : k < m := by have := (List.getElem?_eq_some_iff.1 h1).1; simp at this; omega
  rw [List.getElem?_take_of_lt hk] at h1
  rw [List.take_take, Nat.min_eq_left (by omega)] at h2
  exact runF_eq 254 l k (by omega) (by omega) h2 (.inr (.inr h1))

set_option maxHeartbeats 400000 in
theorem run_any (A : Option Addr) (n c : Nat) (l : List Int) (w : World) (h : Rd w 1 A n (l.map (Value.int .u8))) (hb : Byte8 l) (hnc : n ≤ c) (hn : n ≤ 4611686018427387904) :
    Calls Try.prog 22 #[.slice A n c] w fun e w' => e = .returned (.int .i64 (runM l : Nat)) ∧ w = w' := by
  have hl := h.lenMap
  obtain ⟨m, hm⟩ : ∃ m, m = min n 254 := ⟨_, rfl⟩
  have hmI : min (n : Int) 254 = (m : Int) := by omega
  have hT := h.take (k := m) (by omega)
  rw [Nat.mul_one, ← List.map_take] at hT
  have hsl : (Instr.slice 22 (.slice A n c) none (some (.int .i64 m)) none).run Try.prog w = .ok (.slice A m c) w := run_to elByte w A n c m (by omega)
  have hI := IndexByte_any A m c (l.take m) w hT (fun x hx => hb x (List.mem_of_mem_take hx))
  have hz := fun h => run_idx_none (l := l) (m := m) (by omega) (by omega) h (by omega)
  have hs := fun k => run_idx_some (l := l) (m := m) (k := k) (by omega) (by omega)
  clear h hT
  by_cases h254 : n ≤ 254
  · obtain rfl : m = n := by omega
    clear hm hl
    go_enter Try.func22, Try.ntmps22
    go_wp2_with fail
    refine hI.mono ?_
    rintro e w' ⟨r, rfl, hr, rfl⟩
    rcases hr with ⟨rfl, hr⟩ | ⟨k, rfl, h1, h2⟩
    · have He := Lib.hid (hz hr)
      clear hz hs hr hI
      go_wp2
      go_ret
      rw [He.out]
      exact ⟨rfl, rfl⟩
    · have He := Lib.hid (hs k h1 h2)
      clear hz hs h1 h2 hI
      go_wp2
      go_ret
      rw [He.out]
      exact ⟨rfl, rfl⟩
  · obtain rfl : m = 254 := by omega
    clear hm hl
    go_enter Try.func22, Try.ntmps22
    go_wp2_with fail
    refine hI.mono ?_
    rintro e w' ⟨r, rfl, hr, rfl⟩
    rcases hr with ⟨rfl, hr⟩ | ⟨k, rfl, h1, h2⟩
    · have He := Lib.hid (hz hr)
      clear hz hs hr hI
      go_wp2
      go_ret
      rw [He.out]
      exact ⟨rfl, rfl⟩
    · have He := Lib.hid (hs k h1 h2)
      clear hz hs h1 h2 hI
      go_wp2
      go_ret
      rw [He.out]
      exact ⟨rfl, rfl⟩

theorem rd_cut {w : World} {A : Option Addr} {n c k : Nat} {l : List Int} (h : Rd w 1 A n (l.map (Value.int .u8))) (hk : k ≤ n) (hnc : n ≤ c) :
    ∃ AR, (∀ W : World, (Instr.slice 22 (.slice A n c) (some (.int .i64 k)) none none).run Try.prog W = .ok (.slice AR (n - k) (c - k)) W) ∧ Rd w 1 AR (n - k) ((l.drop k).map (Value.int .u8)) := by
  have hD := h.cut (k := k) (cap := c) hk hnc
  rw [Nat.mul_one, ← List.map_drop] at hD
  refine ⟨_, fun W => ?_, hD⟩
  have := run_from elByte W A n c k hk
  rwa [Nat.mul_one] at this
theorem rd_to {w : World} {A : Option Addr} {n c k : Nat} {l : List Int} (h : Rd w 1 A n (l.map (Value.int .u8))) (hk : k ≤ n) (hnc : n ≤ c) :
    (∀ W : World, (Instr.slice 22 (.slice A n c) none (some (.int .i64 k)) none).run Try.prog W = .ok (.slice A k c) W) ∧ Rd w 1 A k ((l.take k).map (Value.int .u8)) := by
  have hD := h.take (k := k) hk
  rw [Nat.mul_one, ← List.map_take] at hD
  exact ⟨fun W => run_to elByte W A n c k (by omega), hD⟩
theorem rd_tail {w : World} {A : Option Addr} {n c : Nat} {l : List Int} (h : Rd w 1 A n (l.map (Value.int .u8))) (hk : 1 ≤ n) (hnc : n ≤ c) :
    ∃ AR, (∀ W : World, (Instr.slice 22 (.slice A n c) (some (.int .i64 1)) none none).run Try.prog W = .ok (.slice AR (n - 1) (c - 1)) W) ∧ Rd w 1 AR (n - 1) ((l.drop 1).map (Value.int .u8)) := rd_cut (k := 1) h hk hnc
theorem pack_run1 {l : List Int} {k : Nat} (h : runM l = k) (he : k = l.length) : packC l = ((k : Int) + 1) :: l := by rw [packC, dif_pos (by omega), h]
theorem pack_run2 {l : List Int} {k : Nat} (h : runM l = k) (he : k ≠ l.length) (h2 : k < 254) : packC l = ((k : Int) + 1) :: (l.take k ++ packC (l.drop (k + 1))) := by rw [packC, dif_neg (by omega), dif_pos (by omega), h]
theorem pack_run3 {l : List Int} {k : Nat} (h : runM l = k) (he : k ≠ l.length) (h2 : ¬ k < 254) : packC l = ((k : Int) + 1) :: (l.take k ++ packC (l.drop k)) := by rw [packC, dif_neg (by omega), dif_neg (by omega), h]

set_option maxHeartbeats 1000000 in
theorem Pack_any (A : Option Addr) (n c : Nat) (l : List Int) (w : World) (h : Rd w 1 A n (l.map (Value.int .u8))) (hb : Byte8 l) (hnc : n ≤ c) (hc : c ≤ 9223372036854775807) (hn : n ≤ 200000000000000) :
    Calls Try.prog 12 #[.slice A n c] w fun e w' => ∃ v, e = .returned v ∧ Ow (Value.int .u8) w' w.heap.size 5 v (packC l) ∧ Below w.heap.size w w' := by
  have hgr := pack_grows l
  rw [h.lenMap] at hgr
  have Hgr := Lib.hid hgr
  clear hgr
  obtain ⟨P, hP⟩ : ∃ P, P = packC l := ⟨_, rfl⟩
  rw [← hP] at Hgr ⊢
  have HP := Lib.hid hP; clear hP
  obtain ⟨cap, hcap⟩ : ∃ cap : Nat, cap = n + n / 254 + 1 := ⟨_, rfl⟩
  have htd : Int.tdiv (n : Int) 254 = ((n / 254 : Nat) : Int) := by rw [Int.tdiv_eq_ediv_of_nonneg (by omega)]; omega
  have hmk : ∀ W, (Instr.makeSlice 22 (.int .i64 0) (.int .i64 ((n : Int) + ((n / 254 : Nat) : Int) + 1))).run Try.prog W = .ok (.slice (some ⟨W.heap.size, 0, none⟩) 0 cap) (W.alloc (.cells (madeCells #[.int .u8 0] cap) 5)) := fun W => by
    have := run_make0 elByte rfl .i64 .i64 cap (by omega) (by omega) W
    rwa [show ((cap : Nat) : Int) = (n : Int) + ((n / 254 : Nat) : Int) + 1 by omega] at this
  have Ho0 := Lib.hid (Ow.room (Value.int .u8) 0 w 5 (base := w.heap.size) cap (by unfold maxLen; omega) (Nat.le_refl _))
  have hqn : n / 254 ≤ 1000000000000 := by omega
  generalize n / 254 = q at *
  have Hcap := Lib.hid hcap; clear hcap
  go_enter Try.func12, Try.ntmps12
  go_wp2
  go_loopw [0, 3] (fun b v wr => ∃ (B : Option Addr) (m d : Nat) (l' acc : List Int), b = .slice B m d ∧ Rd w 1 B m (l'.map (Value.int .u8)) ∧ Byte8 l' ∧ m ≤ n ∧ m ≤ d ∧ d ≤ c ∧ Hid (acc ++ packC l' = P) ∧ Ow (Value.int .u8) wr w.heap.size 5 v acc ∧ Below w.heap.size w wr) (fun b _ _ => lenOf b)
  case atStart => exact ⟨A, n, c, l, [], rfl, h, hb, Nat.le_refl _, hnc, Nat.le_refl _, HP.out.symm, Ho0.out, (Below.refl _ _).alloc (Nat.le_refl _) _⟩
  case round =>
    obtain ⟨B, m, d, l', acc, rfl, hr, hb', hmn, hmd, hdc, Hp, ho, hbl⟩ := hrel
    have hsz := hbl.size
    have hle := runM_le l'
    have Hl := Lib.hid hr.lenMap
    have hR := run_any B m d l' wr (hr.below hbl) hb' hmd (by omega)
    obtain ⟨k, hk⟩ : ∃ k, runM l' = k := ⟨_, rfl⟩
    rw [hk] at hle hR
    rw [Hl.out] at hle
    have Hk := Lib.hid hk; clear hk
    obtain ⟨hkm, hk254⟩ := hle
    obtain ⟨hT, hrT⟩ := rd_to hr hkm hmd
    obtain ⟨AR, hC, hrC⟩ := rd_cut hr hkm hmd
    have hwr : IntKind.u8.wrap ((k : Int) + 1) = (k : Int) + 1 := by rw [IntKind.wrap_u8]; omega
    have Hlen : Hid (acc.length + (packC l').length ≤ n + q + 1) := by
      show _ ≤ _
      have := congrArg List.length Hp.out
      have h2 := Hgr.out
      simp only [List.length_append] at this
      omega
    clear hr
    by_cases hend : k = m
    · subst hend
      have He : Hid (acc ++ [(k : Int) + 1] ++ l' = P) := by
        show _ = _
        rw [← Hp.out, pack_run1 Hk.out Hl.out.symm]; simp
      have hlen : acc.length + k + 1 ≤ n + q + 1 := by
        have := Hlen.out
        rw [pack_run1 Hk.out Hl.out.symm, List.length_cons, Hl.out] at this
        omega
      rw [List.take_of_length_le (by rw [Hl.out]; exact Nat.le_refl _)] at hrT
      go_wp2_with (first
        | (go_at_call 22; refine hR.mono ?_; rintro e w1 ⟨rfl, rfl⟩)
        | (at_builtin; refine wpList_apW (Value.int .u8) _ elByte rfl rfl (one_int .u8) w.heap.size _ (acc ++ [(k : Int) + 1]) rfl ho2 B k d l' rfl (hrT.below hb2) hb2.size (by simp; omega) (by decide) ?_; intro v3 w3 ho3 hm3)
        | (at_builtin; refine wpList_apW (Value.int .u8) _ elByte rfl rfl (one_int .u8) w.heap.size _ acc rfl (ho.alloc _) _ 1 1 [(k : Int) + 1] rfl (Rd.oneM (Value.int .u8) _ _ _) (le_alloc hsz) (by simp; omega) (by decide) ?_; intro v2 w2 ho2 hm2; have hb2 : Below w.heap.size w w2 := hm2.below (hbl.alloc hsz _) (le_alloc hsz) ho.block))
      go_ret
      rw [← He.out]
      exact ⟨_, rfl, ho3, hm3.below hb2 hb2.size ho2.block⟩
    have hrest : acc.length + k + 1 ≤ n + q + 1 ∧ k < m := by
      refine ⟨?_, by omega⟩
      have := Hlen.out
      by_cases h254 : k < 254
      · rw [pack_run2 Hk.out (by rw [Hl.out]; exact hend) h254] at this
        simp only [List.length_cons, List.length_append, List.length_take, Hl.out] at this
        omega
      · rw [pack_run3 Hk.out (by rw [Hl.out]; exact hend) h254] at this
        simp only [List.length_cons, List.length_append, List.length_take, Hl.out] at this
        omega
    obtain ⟨hlen, hlt⟩ := hrest
    have hne : (((m - k : Nat) : Int) == 0) = false := by rw [beq_eq_false_iff_ne]; omega
    have hkm2 : ¬ k = l'.length := by rw [Hl.out]; exact hend
    by_cases h254 : k < 254
    · have He : Hid (acc ++ [(k : Int) + 1] ++ l'.take k ++ packC (l'.drop (k + 1)) = P) := by
        show _ = _
        rw [← Hp.out, pack_run2 Hk.out hkm2 h254]; simp
      obtain ⟨AR2, hC2, hrC2⟩ := rd_tail (c := d - k) hrC (by omega) (by omega)
      rw [List.drop_drop] at hrC2
      have hk4 : decide ((k : Int) < 254) = true := by simp; omega
      have hbd : Byte8 (l'.drop (k + 1)) := fun x hx => hb' x (List.mem_of_mem_drop hx)
      have h1 : m - k - 1 < m := by omega
      generalize l'.take k = lt at *
      clear hrC Hp Hk Hlen hend hkm2
      go_wp2_with (first
        | (go_at_call 22; refine hR.mono ?_; rintro e w1 ⟨rfl, rfl⟩)
        | (at_builtin; refine wpList_apW (Value.int .u8) _ elByte rfl rfl (one_int .u8) w.heap.size _ (acc ++ [(k : Int) + 1]) rfl ho2 B k d lt rfl (hrT.below hb2) hb2.size (by simp; omega) (by decide) ?_; intro v3 w3 ho3 hm3)
        | (at_builtin; refine wpList_apW (Value.int .u8) _ elByte rfl rfl (one_int .u8) w.heap.size _ acc rfl (ho.alloc _) _ 1 1 [(k : Int) + 1] rfl (Rd.oneM (Value.int .u8) _ _ _) (le_alloc hsz) (by simp; omega) (by decide) ?_; intro v2 w2 ho2 hm2; have hb2 : Below w.heap.size w w2 := hm2.below (hbl.alloc hsz _) (le_alloc hsz) ho.block))
      go_roundw
      case rel => exact ⟨AR2, m - k - 1, d - k - 1, l'.drop (k + 1), _, rfl, hrC2, hbd, by omega, by omega, by omega, He, ho3, hm3.below hb2 hb2.size ho2.block⟩
      case measure => simp [lenOf]; omega
    · have He : Hid (acc ++ [(k : Int) + 1] ++ l'.take k ++ packC (l'.drop k) = P) := by
        show _ = _
        rw [← Hp.out, pack_run3 Hk.out hkm2 h254]; simp
      have hk4 : decide ((k : Int) < 254) = false := by simp; omega
      have hbd : Byte8 (l'.drop k) := fun x hx => hb' x (List.mem_of_mem_drop hx)
      have h1 : m - k < m := by omega
      generalize l'.take k = lt at *
      clear Hp Hk Hlen hend hkm2
      go_wp2_with (first
        | (go_at_call 22; refine hR.mono ?_; rintro e w1 ⟨rfl, rfl⟩)
        | (at_builtin; refine wpList_apW (Value.int .u8) _ elByte rfl rfl (one_int .u8) w.heap.size _ (acc ++ [(k : Int) + 1]) rfl ho2 B k d lt rfl (hrT.below hb2) hb2.size (by simp; omega) (by decide) ?_; intro v3 w3 ho3 hm3)
        | (at_builtin; refine wpList_apW (Value.int .u8) _ elByte rfl rfl (one_int .u8) w.heap.size _ acc rfl (ho.alloc _) _ 1 1 [(k : Int) + 1] rfl (Rd.oneM (Value.int .u8) _ _ _) (le_alloc hsz) (by simp; omega) (by decide) ?_; intro v2 w2 ho2 hm2; have hb2 : Below w.heap.size w w2 := hm2.below (hbl.alloc hsz _) (le_alloc hsz) ho.block))
      go_roundw
      case rel => exact ⟨AR, m - k, d - k, l'.drop k, _, rfl, hrC, hbd, by omega, by omega, by omega, He, ho3, hm3.below hb2 hb2.size ho2.block⟩
      case measure => simp [lenOf]; omega
end Go.Proofs.Ytmehdlnhllafaaa
