/-
  Contracts of line.Unboth and of the reference's functions of chapter 6, for every input.
-/
import Derived.Test.YtfnkaccfhlkfdaaLineWalks
namespace Go.Proofs.Ytfnkaccfhlkfdaa
open Go.RowKit
set_option linter.unusedVariables false

theorem Ow.drawn {α : Type} {f : α → Value} {w : World} {base : Nat} {e : TypeId} {v : Value} {l : List α} (h : Ow f w base e v l) (q : Nat) : Ow f (w.drewN q) base e v l := h
theorem below_drawn {B : Nat} {w w' : World} (h : Below B w w') (q : Nat) : Below B w (w'.drewN q) := ⟨h.os, h.tape, h.output, h.size, h.block⟩

set_option maxHeartbeats 400000 in
theorem Unboth_any (A : Option Addr) (n c : Nat) (l : List Bool) (w : World) (h : Rd w 1 A n (l.map Value.bool)) (hn : n ≤ 281474976710656) :
    Calls Try.prog 8 #[.slice A n c] w fun e w' => ∃ v, e = .returned (.tuple #[v, .int .i64 (unbothM l).2]) ∧ Ow Value.bool w' w.heap.size 4 v (unbothM l).1 ∧ Below w.heap.size w w' := by
  have Hl := Lib.hid h.lenMap
  have hmk : ∀ W : World, (Instr.makeSlice 22 (.int .i64 0) (.int .i64 ((n : Int) / 2))).run Try.prog W = .ok (.slice (some ⟨W.heap.size, 0, none⟩) 0 (n / 2)) (W.alloc (.cells (madeCells #[.bool false] (n / 2)) 4)) := fun W => by
    have := run_make0 elBool rfl .i64 .i64 (n / 2) (by omega) (by omega) W
    simpa using this
  have htd : Int.tdiv (n : Int) 2 = (n : Int) / 2 := Int.tdiv_eq_ediv_of_nonneg (by omega)
  have htm : Int.tmod (n : Int) 2 = (n : Int) % 2 := Int.tmod_eq_emod_of_nonneg (by omega)
  have Ho0 := Lib.hid (Ow.room Value.bool false w 4 (base := w.heap.size) (n / 2) (by unfold maxLen; omega) (Nat.le_refl _))
  go_enter Try.func8, Try.ntmps8
  go_wp2
  go_loopw [5, 15] (fun v i wr => ∃ (k : Nat) (acc : List Bool), 2 * k ≤ n ∧ i = .int .i64 k ∧ v = .slice (some ⟨w.heap.size, 0, none⟩) k (n / 2) ∧ acc ++ sndM (l.drop (2 * k)) = sndM l ∧ badM (l.drop (2 * k)) = badM l ∧ Ow Value.bool wr w.heap.size 4 (.slice (some ⟨w.heap.size, 0, none⟩) k (n / 2)) acc ∧ Below w.heap.size w wr ∧ w.heap.size + 1 ≤ wr.heap.size) (fun _ i _ => n - (intOf i).toNat)
  case atStart => exact ⟨0, [], Nat.zero_le _, rfl, rfl, rfl, rfl, Ho0.out, (Below.refl _ _).alloc (Nat.le_refl _) _, by simp⟩
  case round =>
    obtain ⟨k, acc, hk, rfl, rfl, hacc, hbad, ho, hbl, hsz⟩ := hrel
    obtain ⟨W, hW⟩ : ∃ W, W = wr := ⟨_, rfl⟩
    subst hW
    have Hacc := Lib.hid hacc; clear hacc
    have Hbad := Lib.hid hbad; clear hbad
    by_cases hlt : 2 * k + 1 < n
    · obtain ⟨ad, x, rfl, hx, hc⟩ := (h.below hbl).atMap (k := 2 * k) (by omega)
      obtain ⟨ad', y, he, hy, hc'⟩ := (h.below hbl).atMap (k := 2 * k + 1) hlt
      injection he with he
      subst he
      have hc2 : W.cell? ⟨ad.block, ad.off + (2 * k + 1), none⟩ = some (.bool y) := by simpa [Addr.add] using hc'
      have Hx := Lib.hid ((drop_cons hx).trans (congrArg _ (drop_cons hy))); clear hx hy
      have t0 : (2 * (k : Int)).toNat = 2 * k := by omega
      have t1 : (2 * (k : Int) + 1).toNat = 2 * k + 1 := by omega
      have b0 : 0 ≤ 2 * (k : Int) := by omega
      have b1 : 2 * (k : Int) < n := by omega
      have b2 : 0 ≤ 2 * (k : Int) + 1 := by omega
      have b3 : 2 * (k : Int) + 1 < n := by omega
      have v0 : IntKind.i64.wrap (2 * (k : Int)) = 2 * k := IntWalk.i64_in _ (by omega)
      have v1 : IntKind.i64.wrap (2 * (k : Int) + 1) = 2 * k + 1 := IntWalk.i64_in _ (by omega)
      by_cases hxy : x = y
      · have hq : (x == y) = true := by simp [hxy]
        have e : unbothM l = ([], 1) := by
          apply unboth_bad
          rw [← Hbad.out, Hx.out, badM, hq]; rfl
        have He := Lib.hid e
        clear hxy e
        go_wp2
        go_quiet (fail)
        go_wp2
        go_ret2
        rw [He.out]
        exact ⟨_, rfl, Ow.nil _ _ _ _, below_drawn hbl _⟩
      · have hq : (x == y) = false := by simp [hxy]
        clear hxy
        go_wp2
        go_quiet (fail)
        go_wp2_with (at_builtin; go_must (refine wpList_apR Value.bool _ elBool rfl rfl one_bool w.heap.size w.heap.size k (n / 2) _ rfl ((ho.drawn _).alloc _) _ 1 1 [y] rfl (Rd.litAt Value.bool _ _ rfl) (by omega) (by omega) ?_; intro w1 ho1 hg1))
        go_roundw
        case rel =>
          refine ⟨k + 1, acc ++ [y], by omega, by go_num, rfl, ?_, ?_, ho1, below_grown ((below_drawn hbl _).alloc (by simp; omega) _) hg1 (Nat.le_refl _) (le_alloc (by simp; omega)), ?_⟩
          · rw [← Hacc.out, Hx.out, sndM, List.append_assoc]; rfl
          · rw [← Hbad.out, Hx.out, badM, hq]; rfl
          · have := hg1.size; simp at this; omega
        case measure => simp [intOf] <;> omega
    · have hlast : (l.drop (2 * k)).length < 2 := by rw [List.length_drop, Hl.out]; omega
      have es := short_end hlast
      have hkn : k = n / 2 := by omega
      have ebad : badM l = false := by rw [← Hbad.out, es.1]
      have esnd : sndM l = acc := by rw [← Hacc.out, es.2, List.append_nil]
      have eu : unbothM l = if n % 2 = 0 then (acc, 0) else ([], 8) := by
        unfold unbothM
        rw [ebad, esnd, Hl.out]; rfl
      have Hlt : ¬ ((k : Int) < (n : Int) / 2) := by omega
      clear es ebad esnd hlast hlt
      by_cases hev : n % 2 = 0
      · rw [if_pos hev] at eu
        have He := Lib.hid eu
        have hev' : ((n : Int) % 2) = 0 := by omega
        clear hev eu
        go_wp2
        go_ret2
        rw [He.out]
        exact ⟨_, rfl, by rw [hkn] at ho; exact ho, hbl⟩
      · rw [if_neg hev] at eu
        have He := Lib.hid eu
        have hev' : ((n : Int) % 2) = 1 := by omega
        clear hev eu
        go_wp2
        go_ret2
        rw [He.out]
        exact ⟨_, rfl, Ow.nil _ _ _ _, hbl⟩
end Go.Proofs.Ytfnkaccfhlkfdaa
