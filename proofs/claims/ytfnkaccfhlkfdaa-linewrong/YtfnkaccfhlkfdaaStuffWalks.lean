/-
  Contracts of stuff's functions: add, Stuff, Unstuff, Longest.
-/
import Derived.Test.YtfnkaccfhlkfdaaSlices
import Derived.Test.YtfnkaccfhlkfdaaBox
import Derived.Test.YtfnkaccfhlkfdaaStuffMath2
import Derived.Test.YtfnkaccfhlkfdaaWide
namespace Go.Proofs.Ytfnkaccfhlkfdaa
open Go.RowKit
set_option linter.unusedVariables false

/-- The run lies in block b. -/
def RunAt (w : World) (b : Nat) (r : Bool × Nat) : Prop := Box w b 37 [.bool r.1, .int .i64 r.2]

theorem add_any (b : Nat) (r : Bool × Nat) (x : Bool) (w : World) (h : RunAt w b r) (hn : r.2 < 4611686018427387904) :
    Calls Try.prog 22 #[.pointer (some ⟨b, 0, none⟩), .bool x] w fun e w' => e = .returned (.tuple #[]) ∧ RunAt w' b (addRun r x) ∧ w.grownBy w' (some b) := by
  obtain ⟨b0, n⟩ := r
  simp only at hn
  have c0 := Box.cell h 0 rfl
  have c1 := Box.cell h 1 rfl
  have f0 := Box.free h 0
  have f1 := Box.free h 1
  simp only at c0 c1
  by_cases hx : x = b0
  · subst hx
    go_enter Try.func22, Try.ntmps22
    go_wp2
    refine bodyPost_ret (results_none rfl _ _ _) rfl ?_
    exact ⟨rfl, by simpa [RunAt, addRun] using Box.set h 1 _, grownBy_setCell _ _ _⟩
  · have hx' : (x == b0) = false := by simp [hx]
    have Hx := Lib.hid hx; clear hx
    go_enter Try.func22, Try.ntmps22
    go_wp2
    go_end0
    exact ⟨rfl, by simpa [RunAt, addRun, Hx.out] using (Box.set h 0 _).set 1 _, grownBy_then (grownBy_setCell _ _ _) (grownBy_setCell _ _ _)⟩

set_option maxHeartbeats 400000 in
theorem Stuff_any (A : Option Addr) (n c : Nat) (l : List Bool) (w : World) (h : Rd w 1 A n (l.map Value.bool)) (hn : n ≤ 140737488351232) :
    Calls Try.prog 20 #[.slice A n c] w fun e w' => ∃ v, e = .returned v ∧ Ow Value.bool w' w.heap.size 4 v (stuffM l) ∧ Below w.heap.size w w' := by
  have Hl := Lib.hid h.lenMap
  go_enter Try.func20, Try.ntmps20
  go_wp2
  go_loopw [3, 9] (fun v i wr => ∃ (k : Nat) (acc : List Bool), k ≤ n ∧ i = .int .i64 k ∧ acc = stuffM (l.take k) ∧ Ow Value.bool wr (w.heap.size + 1) 4 v acc ∧ RunAt wr w.heap.size (runOf acc) ∧ Below w.heap.size w wr ∧ w.heap.size + 1 ≤ wr.heap.size) (fun _ i _ => n - (intOf i).toNat)
  case atStart => exact ⟨0, [], Nat.zero_le _, rfl, rfl, Ow.nil _ _ _ _, Box.new w _ _, (Below.refl _ _).alloc (Nat.le_refl _) _, by simp⟩
  case round =>
    obtain ⟨k, acc, hk, rfl, hacc, ho, hr, hbl, hsz⟩ := hrel
    have hal : 4 * acc.length ≤ 5 * k := by have := stuffM_len4 (l.take k); rw [← hacc] at this; simp at this; omega
    have Hacc := Lib.hid hacc; clear hacc
    by_cases hlt : k < n
    · obtain ⟨ad, x, rfl, hx, hc⟩ := (h.below hbl).atMap hlt
      have Hs : Hid (stuffM (l.take (k + 1)) = stuffStep acc x) := by show _ = _; rw [take_snoc hx, stuffM_snoc, ← Hacc.out]
      clear hx
      have hrl := runOf_le acc
      have hrs := Lib.hid (runOf_snoc acc x)
      have hrs := Lib.hid (runOf_snoc acc x)
      go_wp2_with (at_builtin; go_must (refine wpList_apW Value.bool _ elBool rfl rfl one_bool (w.heap.size + 1) _ acc rfl (ho.alloc _) _ 1 1 _ rfl (Rd.oneM Value.bool _ _ _) (le_alloc hsz) (by omega) (by omega) ?_; intro v1 w1 ho1 hm1))
      have hr1 : RunAt w1 w.heap.size (runOf acc) := (Box.alloc hr _).moves hm1 (fun k hk => ho.block k hk)
      have hb1 : Below w.heap.size w w1 := hm1.below (hbl.alloc (by omega) _) (le_alloc (by omega)) (fun k hk => by have := ho.block k hk; omega)
      have hs1 : w.heap.size + 1 ≤ w1.heap.size := by have := hm1.1.size; simp at this; omega
      clear hm1
      refine (add_any w.heap.size (runOf acc) x _ hr1 (by omega)).mono ?_
      rintro e w2 ⟨rfl, hr2, hg2⟩
      have ho2 := ho1.grown hg2 (by omega)
      have hb2 := below_grown hb1 hg2 (Nat.le_refl _) (by omega)
      have hs2 := Nat.le_trans hs1 hg2.size
      clear ho1 hg2 hr1 hb1
      have Hru := Lib.hid (runOf_snoc acc x)
      obtain ⟨r2, hrr⟩ : ∃ r2, r2 = addRun (runOf acc) x := ⟨_, rfl⟩
      rw [← hrr] at hr2 Hru
      have hle : r2.2 ≤ acc.length + 1 := by rw [hrr]; have := addRun_le (runOf acc) x; omega
      clear hrr
      have c1 := Box.cell hr2 1 rfl
      by_cases h5 : r2.2 = 5
      · have h5' : ((r2.2 : Int) == 5) = true := by rw [h5]; rfl
        have H5 := Lib.hid h5; clear h5
        go_wp2_with (at_builtin; go_must (refine wpList_apW Value.bool _ elBool rfl rfl one_bool (w.heap.size + 1) _ _ rfl (ho2.alloc _) _ 1 1 _ rfl (Rd.oneM Value.bool _ _ _) (le_alloc hs2) (by simp; omega) (by omega) ?_; intro v3 w3 ho3 hm3))
        have hr3 : RunAt w3 w.heap.size r2 := (Box.alloc hr2 _).moves hm3 (fun k hk => ho2.block k hk)
        have hb3 : Below w.heap.size w w3 := hm3.below (hb2.alloc (by omega) _) (le_alloc (by omega)) (fun k hk => by have := ho2.block k hk; omega)
        have hs3 : w.heap.size + 1 ≤ w3.heap.size := by have := hm3.1.size; simp at this; omega
        clear hm3
        refine (add_any w.heap.size r2 (!x) _ hr3 (by omega)).mono ?_
        rintro e w4 ⟨rfl, hr4, hg4⟩
        have ho4 := ho3.grown hg4 (by omega)
        have hb4 := below_grown hb3 hg4 (Nat.le_refl _) (by omega)
        have hs4 := Nat.le_trans hs3 hg4.size
        clear ho3 hg4 hr3 hb3
        go_wp2
        go_roundw
        case rel =>
          refine ⟨k + 1, acc ++ [x] ++ [!x], by omega, by go_num, ?_, ho4, ?_, hb4, hs4⟩
          · rw [Hs.out, stuffStep, Hru.out, if_pos H5.out]
          · rw [runOf_snoc, Hru.out]; exact hr4
        case measure => simp [intOf] <;> omega
      · have h5' : ((r2.2 : Int) == 5) = false := by simp; omega
        have H5 := Lib.hid h5; clear h5
        go_wp2
        go_roundw
        case rel =>
          refine ⟨k + 1, acc ++ [x], by omega, by go_num, ?_, ho2, ?_, hb2, hs2⟩
          · rw [Hs.out, stuffStep, Hru.out, if_neg H5.out]
          · rw [Hru.out]; exact hr2
        case measure => simp [intOf] <;> omega
    · have hnk : k = n := by omega
      subst hnk
      go_wp2
      go_ret
      have e := Hacc.out
      rw [List.take_of_length_le (by rw [Hl.out]; exact Nat.le_refl _)] at e
      exact ⟨_, rfl, by rw [← e]; exact ho.mono (by omega), hbl⟩

set_option maxHeartbeats 400000 in
theorem Unstuff_any (A : Option Addr) (n c : Nat) (l : List Bool) (w : World) (h : Rd w 1 A n (l.map Value.bool)) (hn : n ≤ 175921860444160) :
    Calls Try.prog 21 #[.slice A n c] w fun e w' => ∃ v, e = .returned (.tuple #[v, .int .i64 (unstuffM l).2]) ∧ Ow Value.bool w' w.heap.size 4 v (unstuffM l).1 ∧ Below w.heap.size w w' := by
  have Hl := Lib.hid h.lenMap
  go_enter Try.func21, Try.ntmps21
  go_wp2
  go_loopw [4, 11] (fun v i wr => ∃ (k : Nat) (acc : List Bool) (r : Bool × Nat), k ≤ n ∧ i = .int .i64 k ∧ acc.length ≤ k ∧ r.2 ≤ k ∧ finU acc (unFrom r (l.drop k)) = unstuffM l ∧ Ow Value.bool wr (w.heap.size + 1) 4 v acc ∧ RunAt wr w.heap.size r ∧ Below w.heap.size w wr ∧ w.heap.size + 1 ≤ wr.heap.size) (fun _ i _ => n - (intOf i).toNat)
  case atStart => exact ⟨0, [], (false, 0), Nat.zero_le _, rfl, by simp, by simp, finU_nil _ _, Ow.nil _ _ _ _, Box.new w _ _, (Below.refl _ _).alloc (Nat.le_refl _) _, by simp⟩
  case round =>
    obtain ⟨k, acc, r, hk, rfl, hal, hrk, hacc, ho, hr, hbl, hsz⟩ := hrel
    have Hacc := Lib.hid hacc; clear hacc
    have c0 := Box.cell hr 0 rfl
    have c1 := Box.cell hr 1 rfl
    by_cases hlt : k < n
    · obtain ⟨ad, x, rfl, hx, hc⟩ := (h.below hbl).atMap hlt
      have Hx := Lib.hid (drop_cons hx); clear hx
      have hle := addRun_le r x
      by_cases h5 : r.2 = 5
      · have h5' : ((r.2 : Int) == 5) = true := by rw [h5]; rfl
        have H5 := Lib.hid h5; clear h5
        by_cases hxr : x = r.1
        · have hxr' : (x == r.1) = true := by simp [hxr]
          have Hxr := Lib.hid hxr; clear hxr
          go_wp2
          go_ret2
          have e : unstuffM l = ([], 1) := by rw [← Hacc.out, Hx.out, finU_bad _ _ _ _ H5.out Hxr.out]
          rw [e]
          exact ⟨_, rfl, Ow.nil _ _ _ _, hbl⟩
        · have hxr' : (x == r.1) = false := by simp [hxr]
          have Hxr := Lib.hid hxr; clear hxr
          go_wp2_with fail
          refine (add_any w.heap.size r x _ hr (by omega)).mono ?_
          rintro e w2 ⟨rfl, hr2, hg2⟩
          have ho2 := ho.grown hg2 (by omega)
          have hb2 := below_grown hbl hg2 (Nat.le_refl _) (by omega)
          have hs2 := Nat.le_trans hsz hg2.size
          go_wp2
          go_roundw
          case rel => exact ⟨k + 1, acc, addRun r x, by omega, by go_num, by omega, by omega, by rw [← Hacc.out, Hx.out, finU_drop _ _ _ _ H5.out Hxr.out], ho2, hr2, hb2, hs2⟩
          case measure => simp [intOf] <;> omega
      · have h5' : ((r.2 : Int) == 5) = false := by simp; omega
        have H5 := Lib.hid h5; clear h5
        go_wp2_with (at_builtin; go_must (refine wpList_apW Value.bool _ elBool rfl rfl one_bool (w.heap.size + 1) _ acc rfl (ho.alloc _) _ 1 1 _ rfl (Rd.oneM Value.bool _ _ _) (le_alloc hsz) (by omega) (by omega) ?_; intro v1 w1 ho1 hm1))
        have hr1 : RunAt w1 w.heap.size r := (Box.alloc hr _).moves hm1 (fun k hk => ho.block k hk)
        have hb1 : Below w.heap.size w w1 := hm1.below (hbl.alloc (by omega) _) (le_alloc (by omega)) (fun k hk => by have := ho.block k hk; omega)
        have hs1 : w.heap.size + 1 ≤ w1.heap.size := by have := hm1.1.size; simp at this; omega
        clear hm1
        refine (add_any w.heap.size r x _ hr1 (by omega)).mono ?_
        rintro e w2 ⟨rfl, hr2, hg2⟩
        have ho2 := ho1.grown hg2 (by omega)
        have hb2 := below_grown hb1 hg2 (Nat.le_refl _) (by omega)
        have hs2 := Nat.le_trans hs1 hg2.size
        go_wp2
        go_roundw
        case rel => exact ⟨k + 1, acc ++ [x], addRun r x, by omega, by go_num, by simp; omega, by omega, by rw [← Hacc.out, Hx.out, finU_take _ _ _ _ H5.out], ho2, hr2, hb2, hs2⟩
        case measure => simp [intOf] <;> omega
    · have hnk : k = n := by omega
      subst hnk
      have hdn : finU acc (unFrom r []) = unstuffM l := by rw [← Hacc.out, List.drop_eq_nil_of_le (by rw [Hl.out]; exact Nat.le_refl _)]
      rw [finU_end] at hdn
      have Hdn := Lib.hid hdn; clear hdn
      by_cases h5 : r.2 = 5
      · have h5' : ((r.2 : Int) == 5) = true := by rw [h5]; rfl
        have H5 := Lib.hid h5; clear h5
        go_wp2
        go_ret2
        have e := Hdn.out
        rw [if_pos H5.out] at e
        rw [← e]
        exact ⟨_, rfl, Ow.nil _ _ _ _, hbl⟩
      · have h5' : ((r.2 : Int) == 5) = false := by simp; omega
        have H5 := Lib.hid h5; clear h5
        go_wp2
        go_ret2
        have e := Hdn.out
        rw [if_neg H5.out] at e
        rw [← e]
        exact ⟨_, rfl, ho.mono (by omega), hbl⟩

set_option maxHeartbeats 400000 in
theorem Longest_any (A : Option Addr) (n c : Nat) (l : List Bool) (w : World) (h : Rd w 1 A n (l.map Value.bool)) (hn : n ≤ 281474976710656) :
    Calls Try.prog 18 #[.slice A n c] w fun e w' => e = .returned (.int .i64 (longM l)) ∧ Below w.heap.size w w' := by
  have Hl := Lib.hid h.lenMap
  go_enter Try.func18, Try.ntmps18
  go_wp2
  go_loopw [3, 9] (fun t i wr => ∃ (k m : Nat) (r : Bool × Nat), k ≤ n ∧ i = .int .i64 k ∧ t = .int .i64 m ∧ m ≤ k ∧ r.2 ≤ k ∧ longFrom r m (l.drop k) = longM l ∧ RunAt wr w.heap.size r ∧ Below w.heap.size w wr ∧ w.heap.size + 1 ≤ wr.heap.size) (fun _ i _ => n - (intOf i).toNat)
  case atStart => exact ⟨0, 0, (false, 0), Nat.zero_le _, rfl, rfl, by simp, by simp, rfl, Box.new w _ _, (Below.refl _ _).alloc (Nat.le_refl _) _, by simp⟩
  case round =>
    obtain ⟨k, m, r, hk, rfl, rfl, hmk, hrk, hacc, hr, hbl, hsz⟩ := hrel
    have Hacc := Lib.hid hacc; clear hacc
    by_cases hlt : k < n
    · obtain ⟨ad, x, rfl, hx, hc⟩ := (h.below hbl).atMap hlt
      have Hx := Lib.hid (drop_cons hx); clear hx
      have hle := addRun_le r x
      go_wp2_with fail
      refine (add_any w.heap.size r x _ hr (by omega)).mono ?_
      rintro e w2 ⟨rfl, hr2, hg2⟩
      have hb2 := below_grown hbl hg2 (Nat.le_refl _) (by omega)
      have hs2 := Nat.le_trans hsz hg2.size
      have c1 := Box.cell hr2 1 rfl
      clear hg2
      go_wp2
      go_roundw
      case rel =>
        refine ⟨k + 1, max m (addRun r x).2, addRun r x, by omega, by go_num, ?_, by omega, by omega, by rw [← Hacc.out, Hx.out]; rfl, hr2, hb2, hs2⟩
        exact int_eq (by split <;> omega)
      case measure => simp [intOf] <;> omega
    · have hnk : k = n := by omega
      subst hnk
      go_wp2
      go_ret
      have e := Hacc.out
      rw [List.drop_eq_nil_of_le (by rw [Hl.out]; exact Nat.le_refl _)] at e
      exact ⟨ret_int (by rw [← e]; rfl), hbl⟩
end Go.Proofs.Ytfnkaccfhlkfdaa
