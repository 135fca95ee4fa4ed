/-
  Contract of cobs.Parts. No statement of the seat is here.
-/
import Derived.Test.YtmehdlnhllafaaaCobsWalks2
namespace Go.Proofs.Ytmehdlnhllafaaa
open Go.RowKit
set_option linter.unusedVariables false
set_option linter.unusedSimpArgs false

/-- A slice as an element of a slice of slices. -/
def slV (p : Option Addr × Nat × Nat) : Value := .slice p.1 p.2.1 p.2.2
theorem one_slV (p : Option Addr × Nat × Nat) : (slV p).oneCell' = true := rfl
def okB (r : List Int × Int) : Bool := r.2 == 0

/-- What Parts promises: k slices and k bools, of the model R. -/
def GivesParts (w : World) (R : List (List Int × Int)) (e : Ending) (w' : World) : Prop :=
  ∃ (k : Nat) (A1 A2 : Option Addr) (c1 c2 : Nat) (ps : List (Option Addr × Nat × Nat)), k = R.length ∧ e = .returned (.tuple #[.slice A1 k c1, .slice A2 k c2]) ∧ Rd w' 1 A1 k (ps.map slV) ∧ Rd w' 1 A2 k ((R.map okB).map Value.bool) ∧
    (∀ (i : Nat) p r, ps[i]? = some p → R[i]? = some r → Rd w' 1 p.1 p.2.1 (r.1.map (Value.int .u8)) ∧ p.2.1 ≤ p.2.2 ∧ p.2.2 ≤ maxLen) ∧ Below w.heap.size w w'

/-- Between two rounds: done is what has been told, l' the rest. -/
structure PSt (w wr : World) (n c cnt g1 g2 base : Nat) (P : List (List Int × Int)) (b v1 v2 i : Value) (k : Nat) (B : Option Addr) (m d : Nat) (l' : List Int) (ps : List (Option Addr × Nat × Nat)) (done : List (List Int × Int)) : Prop where
  hk : k ≤ cnt
  hi : i = .int .i64 k
  hb : b = .slice B m d
  hv1 : v1 = .slice (some ⟨g1, 0, none⟩) k cnt
  hv2 : v2 = .slice (some ⟨g2, 0, none⟩) k cnt
  hr : Rd w 1 B m (l'.map (Value.int .u8))
  by8 : Byte8 l'
  hmn : m ≤ n
  hmd : m ≤ d
  hdc : d ≤ c
  o1 : Ow slV wr w.heap.size 22 (.slice (some ⟨g1, 0, none⟩) k cnt) ps
  o2 : Ow Value.bool wr w.heap.size 4 (.slice (some ⟨g2, 0, none⟩) k cnt) (done.map okB)
  parts : ∀ (i : Nat) p r, ps[i]? = some p → done[i]? = some r → Ow (Value.int .u8) wr base 5 (slV p) r.1
  tot : done ++ partsM l' = P
  left : l'.count 0 + k = cnt
  bel : Below w.heap.size w wr
  size : base ≤ wr.heap.size

theorem parts_step (a r : List Int) (h : (0 : Int) ∉ a) : partsM (a ++ 0 :: r) = unpackC a :: partsM r := by unfold partsM; rw [segs_zero a r h, List.map_cons]

set_option maxHeartbeats 2000000 in
theorem Parts_any (A : Option Addr) (n c : Nat) (l : List Int) (w : World) (h : Rd w 1 A n (l.map (Value.int .u8))) (hb : Byte8 l) (hnc : n ≤ c) (hc : c ≤ 9223372036854775807) (hn : n ≤ 11728124029610) :
    Calls Try.prog 11 #[.slice A n c] w (GivesParts w (partsM l)) := by
  obtain ⟨P, hP⟩ : ∃ P, P = partsM l := ⟨_, rfl⟩
  rw [← hP]
  have HP := Lib.hid hP; clear hP
  obtain ⟨cnt, hcnt⟩ : ∃ cnt, cnt = l.count 0 := ⟨_, rfl⟩
  have hcn : cnt ≤ n := by rw [hcnt, ← h.lenMap]; exact List.count_le_length
  have hmk1 : ∀ W, (Instr.makeSlice 26 (.int .i64 0) (.int .i64 cnt)).run Try.prog W = .ok (.slice (some ⟨W.heap.size, 0, none⟩) 0 cnt) (W.alloc (.cells (madeCells #[.slice none 0 0] cnt) 22)) := fun W =>
    run_make0 elRow rfl .i64 .i64 cnt (by omega) (by omega) W
  have hmk2 : ∀ W, (Instr.makeSlice 27 (.int .i64 0) (.int .i64 cnt)).run Try.prog W = .ok (.slice (some ⟨W.heap.size, 0, none⟩) 0 cnt) (W.alloc (.cells (madeCells #[.bool false] cnt) 4)) := fun W =>
    run_make0 elBool rfl .i64 .i64 cnt (by omega) (by omega) W
  have hCnt := Count_any A n c l (some ⟨w.heap.size, 0, none⟩) _ (h.alloc (.cells #[.int .u8 0] 5)) hb (Rd.oneM (Value.int .u8) w 0 5)
  rw [← hcnt] at hCnt
  go_enter Try.func11, Try.ntmps11
  go_wp2_with fail
  refine hCnt.mono ?_
  rintro e w1 ⟨rfl, hw1⟩
  have hb1 : Below w.heap.size w w1 := hw1 ▸ (Below.refl _ _).alloc (Nat.le_refl _) _
  have hs1 := hb1.size
  clear hw1 hCnt
  have hcm : cnt ≤ maxLen := by unfold maxLen; omega
  have h1 := Ow.room slV (none, 0, 0) w1 22 (base := w.heap.size) cnt hcm hs1
  have h2 := fun o => Ow.room Value.bool false (w1.alloc o) 4 (base := w.heap.size) cnt hcm (le_alloc hs1)
  have H1 := Lib.hid h1
  have H2 := Lib.hid h2
  have Hcnt := Lib.hid hcnt
  clear hcnt h1 h2
  go_wp2
  go_loopw [0, 5, 6, 18] (fun b v1 v2 i wr => ∃ k B m d l' ps done, PSt w wr n c cnt w1.heap.size (w1.heap.size + 1) (w1.heap.size + 2) P b v1 v2 i k B m d l' ps done) (fun _ _ _ i _ => cnt - (intOf i).toNat)
  case atStart =>
    exact ⟨0, A, n, c, l, [], [], ⟨Nat.zero_le _, rfl, rfl, rfl, by simp, h, hb, Nat.le_refl _, hnc, Nat.le_refl _, H1.out.alloc _, by simpa using H2.out _, by simp, HP.out.symm, Hcnt.out.symm, (hb1.alloc hs1 _).alloc (le_alloc hs1) _, by simp⟩⟩
  case round =>
    obtain ⟨k, B, m, d, l', ps, done, hst⟩ := hrel
    obtain ⟨hk, rfl, rfl, rfl, rfl, hr, hb8, hmn, hmd, hdc, o1, o2, hparts, htot, hleft, hbel, hsize⟩ := hst
    have hl1 := o1.len.1
    have hl2 := o2.len.1
    rw [List.length_map] at hl2
    have hsz := hbel.size
    by_cases hlt : k < cnt
    · have hz : (0 : Int) ∈ l' := List.count_pos_iff.1 (by omega)
      have hI := IndexByte_any B m d l' wr (hr.below hbel) hb8
      have Htot := Lib.hid htot
      have Hleft := Lib.hid hleft
      have Hl1 := Lib.hid hl1
      have Hl2 := Lib.hid hl2
      have Hl := Lib.hid hr.lenMap
      clear htot hleft hl1 hl2
      go_wp2_with fail
      refine hI.mono ?_
      rintro e w2 ⟨j0, rfl, hj, rfl⟩
      obtain ⟨j, rfl, hj0, hjn⟩ : ∃ j : Nat, j0 = j ∧ l'[j]? = some 0 ∧ (0 : Int) ∉ l'.take j := by
        rcases hj with ⟨_, h⟩ | h
        · exact absurd hz h
        · exact h
      have hjm : j < m := by have := (List.getElem?_eq_some_iff.1 hj0).1; rw [Hl.out] at this; exact this
      obtain ⟨hT, hrT⟩ := rd_to (c := d) hr (k := j) (by omega) hmd
      obtain ⟨AR, hC, hrC⟩ := rd_cut (c := d) (k := j + 1) hr (by omega) hmd
      have hC' : ∀ W : World, (Instr.slice 22 (.slice B m d) (some (.int .i64 ((j : Int) + 1))) none none).run Try.prog W = .ok (.slice AR (m - (j + 1)) (d - (j + 1))) W := hC
      have hspl : l' = l'.take j ++ 0 :: l'.drop (j + 1) := by rw [← drop_cons hj0, List.take_append_drop]
      have Hst : Hid (partsM l' = unpackC (l'.take j) :: partsM (l'.drop (j + 1))) := by
        show _ = _
        conv => lhs; rw [hspl]
        exact parts_step _ _ hjn
      have Hct : Hid ((l'.drop (j + 1)).count 0 + 1 = l'.count 0) := by
        show _ = _
        conv => rhs; rw [hspl]
        rw [List.count_append, List.count_cons_self, List.count_eq_zero.2 hjn]
        omega
      have hbd : Byte8 (l'.drop (j + 1)) := fun x hx => hb8 x (List.mem_of_mem_drop hx)
      have hbt : Byte8 (l'.take j) := fun x hx => hb8 x (List.mem_of_mem_take hx)
      clear hj hj0 hjn hspl hC hI hr hz
      go_wp2_with fail
      refine (Unpack_any B j d (l'.take j) wr (hrT.below hbel) hbt (by omega) (by omega) (by omega)).mono ?_
      rintro e w2 ⟨v2, rfl, ho2, hb2⟩
      obtain ⟨np, hnp⟩ : ∃ np, (unpackC (l'.take j)).1.length = np := ⟨_, rfl⟩
      obtain ⟨Ap, cp, rfl, _, _, _⟩ := ho2.formN hnp
      replace o1 := o1.below hb2
      replace o2 := o2.below hb2
      replace hparts := fun i p r h1 h2 => (hparts i p r h1 h2).below hb2
      have hsz2 := hb2.size
      replace hbel := bthen hbel hb2
      generalize hU : unpackC (l'.take j) = U at *
      obtain ⟨u1, er⟩ := U
      simp only at ho2 ⊢
      have HU := Lib.hid hU
      clear hU hb2 hnp hrT hT hbt
      go_wp2_with (at_builtin; first
        | (refine wpList_apR Value.bool _ elBool rfl rfl one_bool w.heap.size (w1.heap.size + 1) k cnt (done.map okB) rfl (o2'.alloc _) _ 1 1 [er == 0] rfl (Rd.oneM Value.bool _ _ _) (by omega) (by omega) ?_; intro w4 ho4 hg4)
        | (refine wpList_apR slV _ elRow rfl rfl one_slV w.heap.size w1.heap.size k cnt ps rfl (o1.alloc _) _ 1 1 [(Ap, np, cp)] rfl (Rd.oneM slV _ _ _) (by omega) (by omega) ?_; intro w3 ho3 hg3; have o2' := (o2.alloc _).keep hg3 (by intro k hk hh; simp [Value.ownBlock] at hk; injection hh with hh; omega)))
      go_roundw
      case rel =>
        have hp2 := hparts
        have hb3 : Below w.heap.size w w3 := below_grown (hbel.alloc (by omega) _) hg3 (by omega) (le_alloc (by omega))
        have hb4 : Below w.heap.size w w4 := below_grown (hb3.alloc hb3.size _) hg4 (by omega) (le_alloc hb3.size)
        have hs3 : w2.heap.size ≤ w3.heap.size := by have := hg3.size; simp at this; omega
        have hs4 : w3.heap.size ≤ w4.heap.size := by have := hg4.size; simp at this; omega
        refine ⟨k + 1, AR, m - (j + 1), d - (j + 1), l'.drop (j + 1), ps ++ [(Ap, np, cp)], done ++ [(u1, er)], ⟨by omega, by go_num, rfl, rfl, rfl, hrC, hbd, by omega, by omega, by omega, (ho3.alloc _).keep hg4 (by intro k hk hh; simp [Value.ownBlock] at hk; injection hh with hh; omega), by rw [List.map_append]; exact ho4, ?_, ?_, ?_, hb4, by omega⟩⟩
        · intro i p r h1 h2
          by_cases hi : i < k
          · rw [List.getElem?_append_left (by rw [← Hl1.out]; exact hi)] at h1
            rw [List.getElem?_append_left (by rw [← Hl2.out]; exact hi)] at h2
            exact ((((hparts i p r h1 h2).alloc _).grown hg3 (by omega)).alloc _).grown hg4 (by omega)
          · have hik : i = k := by
              have := (List.getElem?_eq_some_iff.1 h1).1
              rw [List.length_append, List.length_singleton, ← Hl1.out] at this
              omega
            subst hik
            rw [List.getElem?_append_right (by rw [← Hl1.out]; exact Nat.le_refl _), ← Hl1.out, Nat.sub_self] at h1
            rw [List.getElem?_append_right (by rw [← Hl2.out]; exact Nat.le_refl _), ← Hl2.out, Nat.sub_self] at h2
            simp at h1 h2
            subst h1 h2
            exact ((((ho2.mono hsize).alloc _).grown hg3 (by omega)).alloc _).grown hg4 (by omega)
        · rw [← Htot.out, Hst.out]; simp
        · have := Hct.out; have := Hleft.out; omega
      case measure => simp [intOf] <;> omega
    · obtain rfl : k = cnt := by omega
      have hdone : done = P := by
        have h0 : (partsM l').length = 0 := by rw [parts_len]; omega
        rw [← htot, List.eq_nil_of_length_eq_zero h0, List.append_nil]
      subst hdone
      clear htot hleft
      go_wp2
      go_ret2
      refine ⟨k, _, _, _, _, ps, hl2, rfl, o1.rd, o2.rd, fun i p r h1 h2 => ?_, hbel⟩
      have hp := hparts i p r h1 h2
      exact ⟨hp.rd, hp.len.2.1, hp.len.2.2⟩
end Go.Proofs.Ytmehdlnhllafaaa
