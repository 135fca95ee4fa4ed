/-
  slices.Concat of errors.
-/
import Derived.Test.YtlanmehbcpgoaaaEvqInsert
import Derived.Test.YtlanmehbcpgoaaaConcatI
namespace Go.Proofs.Ytlanmehbcpgoaaa
open Go.RowKit
set_option linter.unusedVariables false

/-- slices.Grow of nil: ConcatE_any. -/
theorem ConcatE_any_grow (n : Nat) (w : World) (hn : n * 8 ≤ 281474976710656) (hn2 : n ≤ 281474976710656) :
    Calls Try.prog 23 #[.slice none 0 0, .int .i64 n] w fun e w' => ∃ v, e = .returned v ∧ Ow (Value.int .i64) w' w.heap.size 29 v [] ∧ (v = .slice none 0 0 ∧ n = 0 ∨ ∃ g c, v = .slice (some ⟨g, 0, none⟩) 0 c ∧ n ≤ c) ∧ Below w.heap.size w w' := by
  rcases Nat.eq_zero_or_pos n with hz | hz
  · subst hz
    go_enter Try.func23, Try.ntmps23
    go_wp2
    go_ret
    exact ⟨_, rfl, Ow.nil _ _ _ _, .inl (by simp), Below.refl _ _⟩
  · go_enter Try.func23, Try.ntmps23
    go_wp2_with (at_builtin; go_must (refine wpList_apZ0 (Value.int .i64) (0) _ elErr rfl rfl rfl Try.underlying3 w.heap.size rfl n rfl hz (Nat.le_refl _) hn hn2 ?_; intro g1 c1 w1 ho1 hb1 hc1; have hcut : ∀ W : World, (Instr.slice 23 (.slice (some ⟨g1, 0, none⟩) n c1) none (some (.int .i64 0)) none).run Try.prog W = .ok (.slice (some ⟨g1, 0, none⟩) 0 c1) W := fun W => run_to elErr W (some ⟨g1, 0, none⟩) n c1 0 (Nat.zero_le _)))
    go_ret
    exact ⟨_, rfl, by simpa using ho1.cutTo (k := 0) (Nat.zero_le _), .inr ⟨_, _, rfl, hc1⟩, hb1⟩

/-- The value of a part, and what it holds. -/
def ConcatE_any_val (p : Option Addr × Nat × Nat × List Int) : Value := .slice p.1 p.2.1 p.2.2.1
theorem ConcatE_any_le {ps : List (Option Addr × Nat × Nat × List Int)} {k : Nat} {p : Option Addr × Nat × Nat × List Int} (hp : ps[k]? = some p) : ((ps.take k).flatMap (·.2.2.2)).length + p.2.2.2.length ≤ (ps.flatMap (·.2.2.2)).length := by
  have e : ps = ps.take k ++ p :: ps.drop (k + 1) := by rw [← drop_cons hp, List.take_append_drop]
  conv => rhs; rw [e]
  simp only [List.flatMap_append, List.flatMap_cons, List.length_append]
  omega
set_option maxHeartbeats 800000 in
theorem ConcatE_any (A : Option Addr) (n c : Nat) (ps : List (Option Addr × Nat × Nat × List Int)) (w : World) (h : Rd w 1 A n (ps.map ConcatE_any_val)) (h' : ∀ p ∈ ps, Rd w 1 p.1 p.2.1 (p.2.2.2.map (Value.int .i64))) (hn : n ≤ 1099511627776) (ht : (ps.flatMap (·.2.2.2)).length * 8 ≤ 281474976710656) (ht2 : (ps.flatMap (·.2.2.2)).length ≤ 281474976710656) :
    Calls Try.prog 17 #[.slice A n c] w fun e w' => ∃ v, e = .returned v ∧ Ow (Value.int .i64) w' w.heap.size 29 v (ps.flatMap (·.2.2.2)) ∧ Below w.heap.size w w' := by
  have Hl := Lib.hid h.lenMap
  go_enter Try.func17, Try.ntmps17
  go_wp2
  go_loop [3, 11] (fun t i => ∃ k m : Nat, k ≤ n ∧ i = .int .i64 k ∧ t = .int .i64 m ∧ m = ((ps.take k).flatMap (·.2.2.2)).length) (fun _ i => n - (intOf i).toNat)
  case atStart => exact ⟨0, 0, Nat.zero_le _, rfl, rfl, by simp⟩
  case round =>
    obtain ⟨k, m, hk, rfl, rfl, hm⟩ := hrel
    by_cases hlt : k < n
    · obtain ⟨ad, p, rfl, hp, hc⟩ := h.atMap hlt
      obtain ⟨B, pn, pc, pl⟩ := p
      have hpl : pl.length = pn := (h' _ (List.mem_of_getElem? hp)).lenMap
      have hle := ConcatE_any_le hp
      simp only at hle
      rw [← hm, hpl] at hle
      have Hm : Hid (((ps.take (k + 1)).flatMap (·.2.2.2)).length = m + pn) := by
        show _ = _
        rw [take_snoc hp, List.flatMap_append, List.length_append, ← hm]
        simp [hpl]
      unfold ConcatE_any_val at hc
      simp only at hc
      clear hm hp
      have h0 : ¬ ((m : Int) + (pn : Int) < 0) := by omega
      go_wp2
      go_round
      case rel => exact ⟨k + 1, m + pn, by omega, by go_num, by go_num, Hm.out.symm⟩
      case measure => simp [intOf] <;> omega
    · have hnk : k = n := by omega
      subst hnk
      have hm' : m = (ps.flatMap (·.2.2.2)).length := by
        rw [List.take_of_length_le (by rw [Hl.out]; exact Nat.le_refl _)] at hm
        exact hm
      have Hm := Lib.hid hm'
      clear hm hm'
      go_wp2_with fail
      refine (ConcatE_any_grow m w (by rw [Hm.out]; exact ht) (by rw [Hm.out]; exact ht2)).mono ?_
      rintro e w1 ⟨v1, rfl, ho1, hv1, hb1⟩
      rcases hv1 with ⟨rfl, hm0⟩ | ⟨g, cap, rfl, hcap⟩
      · go_wp2
        go_loopw [6, 27] (fun v i wr => ∃ (j : Nat) (acc : List Int), j ≤ k ∧ i = .int .i64 j ∧ acc = (ps.take j).flatMap (·.2.2.2) ∧ Ow (Value.int .i64) wr w.heap.size 29 v acc ∧ Below w.heap.size w wr) (fun _ i _ => k - (intOf i).toNat)
        case atStart => exact ⟨0, [], Nat.zero_le _, rfl, by simp, ho1, hb1⟩
        case round =>
          obtain ⟨j, acc, hj, rfl, hacc, ho, hbl⟩ := hrel
          have hsz := hbl.size
          by_cases hlt : j < k
          · obtain ⟨ad, p, rfl, hp, hc⟩ := (h.below hbl).atMap hlt
            obtain ⟨B, pn, pc, pl⟩ := p
            have hr := (h' _ (List.mem_of_getElem? hp)).below hbl
            have hpl : pl.length = pn := hr.lenMap
            have hle := ConcatE_any_le hp
            simp only at hle
            rw [← hacc, hpl, ← Hm.out] at hle
            have Hacc : Hid (acc ++ pl = (ps.take (j + 1)).flatMap (·.2.2.2)) := by
              show _ = _
              rw [take_snoc hp, List.flatMap_append, ← hacc]
              simp
            unfold ConcatE_any_val at hc
            simp only at hc hr
            clear hacc hp
            go_wp2_with (at_builtin; go_must (refine wpList_apM (Value.int .i64) _ elErr rfl rfl (one_int .i64) w.heap.size _ acc rfl ho _ _ _ pl rfl hr hsz (by omega) (by decide) ?_; intro v2 w2 ho2 hm2))
            go_roundw
            case rel => exact ⟨j + 1, acc ++ pl, by omega, by go_num, Hacc.out, ho2, hm2.below hbl hsz ho.block⟩
            case measure => simp [intOf] <;> omega
          · have hnk : j = k := by omega
            subst hnk
            go_wp2
            go_ret
            refine ⟨_, rfl, ?_, hbl⟩
            rw [List.take_of_length_le (by rw [Hl.out]; exact Nat.le_refl _)] at hacc
            rw [← hacc]
            exact ho
      · have hgb := ho1.block g rfl
        go_wp2
        go_loopw [6, 27] (fun v i wr => ∃ (j a : Nat) (acc : List Int), j ≤ k ∧ i = .int .i64 j ∧ acc = (ps.take j).flatMap (·.2.2.2) ∧ v = .slice (some ⟨g, 0, none⟩) a cap ∧ Ow (Value.int .i64) wr w.heap.size 29 v acc ∧ Below w.heap.size w wr) (fun _ i _ => k - (intOf i).toNat)
        case atStart => exact ⟨0, 0, [], Nat.zero_le _, rfl, by simp, rfl, ho1, hb1⟩
        case round =>
          obtain ⟨j, a, acc, hj, rfl, hacc, rfl, ho, hbl⟩ := hrel
          have hsz := hbl.size
          by_cases hlt : j < k
          · obtain ⟨ad, p, rfl, hp, hc⟩ := (h.below hbl).atMap hlt
            obtain ⟨B, pn, pc, pl⟩ := p
            have hr := (h' _ (List.mem_of_getElem? hp)).below hbl
            have hpl : pl.length = pn := hr.lenMap
            have hle := ConcatE_any_le hp
            simp only at hle
            rw [← hacc, hpl, ← Hm.out] at hle
            have hal : a = acc.length := ho.len.1
            have hroom : a + pn ≤ cap := by omega
            have Hacc : Hid (acc ++ pl = (ps.take (j + 1)).flatMap (·.2.2.2)) := by
              show _ = _
              rw [take_snoc hp, List.flatMap_append, ← hacc]
              simp
            unfold ConcatE_any_val at hc
            simp only at hc hr
            clear hacc hp hal hle
            go_wp2_with (at_builtin; go_must (refine wpList_apR0 (Value.int .i64) _ elErr rfl rfl (one_int .i64) w.heap.size _ _ _ acc rfl ho _ _ _ pl rfl hr hroom ?_; intro w2 ho2 hg2))
            go_roundw
            case rel => exact ⟨j + 1, a + pn, acc ++ pl, by omega, by go_num, Hacc.out, by go_num, by simpa using ho2, below_grown hbl hg2 hgb hsz⟩
            case measure => simp [intOf] <;> omega
          · have hnk : j = k := by omega
            subst hnk
            go_wp2
            go_ret
            refine ⟨_, rfl, ?_, hbl⟩
            rw [List.take_of_length_le (by rw [Hl.out]; exact Nat.le_refl _)] at hacc
            rw [← hacc]
            exact ho
end Go.Proofs.Ytlanmehbcpgoaaa
