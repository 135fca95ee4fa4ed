/-
  Contracts of slices.Concat and of slices.Grow of nil at ints, with growslice's own bound (2^48 bytes in all). No statement of the seat is here.
-/
import Derived.Test.YtblnfffmgaiabaaTypes
import Derived.Test.YtblnfffmgaiabaaRoom
namespace Go.Proofs.Ytblnfffmgaiabaa
open Go.RowKit
set_option linter.unusedVariables false

/-- append(nil, make([]T, k)...): nothing but the 2^48 bytes bounds it. -/
theorem wpList_apZ0 {α : Type} (f : α → Value) (z0 : α) {P : Program} (w : World) {ops : Array Oper} {rest : List Oper} {o : Oper} {a : Act} {Q : Exit → Act → World → Prop} {t tn e : TypeId} {bytes : Nat} (E : ElemT P t e (f z0) 1 bytes)
    (hgd : o.guard = none) {s x : Operand} (ho : o.op = .call { callee := .builtin .append, args := #[s, x], argTypes := #[t, tn] })
    (hz1 : (f z0).cells = #[f z0]) {kn : IntKind} (htn : P.underlying tn = some (.int kn)) (base : Nat) (hs : a.eval s = .slice none 0 0)
    {kq : IntKind} (k : Nat) (hx : a.eval x = .int kq k) (h0 : 0 < k)
    (hbase : base ≤ w.heap.size) (hbytes : k * bytes ≤ 281474976710656) (h48 : k ≤ 281474976710656)
    (h : ∀ g c w', Ow f w' base e (.slice (some ⟨g, 0, none⟩) k c) (List.replicate k z0) → Below w.heap.size w w' → k ≤ c → wpList P ops Q rest (a.put o.dst (.slice (some ⟨g, 0, none⟩) k c)) w') :
    wpList P ops Q (o :: rest) a w := by
  refine wpList_plain hgd fun K hK => ?_
  obtain ⟨i, hi, hz, hsz, hb⟩ := info_parts E.info
  have hlen : k ≤ maxLen := by simp only [maxLen]; omega
  have hr := Lib.run_append_nil_zeros (P := P) w t tn o.type e i (f z0) kq kn E.under htn hi hz k h0 (by rw [hsz]; decide) (by omega) (by rw [hb]; exact hbytes)
  unfold Oper.wp execOp
  simp only [ho, resolve, invoke, builtin, Sem.run_bind, Sem.run_pure, Result.andThen_ok, List.map_toArray, List.map_cons, List.map_nil, hs, hx, hr]
  have hge := grownCap_ge w k 0 e
  have hcm : grownCap w k 0 e ≤ maxLen := grownCap_le_maxLen w k 0 e hlen
  refine hK _ _ (h _ _ _ ?_ ⟨rfl, rfl, rfl, by simp, fun j hj => Below.heap_alloc w.drew _ j hj⟩ hge)
  refine ⟨by simp, .inr ⟨w.heap.size, _, _, by rw [List.length_replicate], hbase, heap_alloc_new w.drew _, by rw [List.length_replicate]; exact hge, hcm, ?_, ?_⟩⟩
  · simp only [Array.size_append, size_zeroCells, E.cells]
    omega
  · rw [zeroCells_list hz1, Array.toList_append]
    simp
/-- An append where the room suffices, also of nothing. -/
theorem wpList_apR0 {α : Type} (f : α → Value) {P : Program} (w : World) {ops : Array Oper} {rest : List Oper} {o : Oper} {a : Act} {Q : Exit → Act → World → Prop} {t e : TypeId} {z : Value} {bytes : Nat} (E : ElemT P t e z 1 bytes)
    (hgd : o.guard = none) {s x : Operand} (ho : o.op = .call { callee := .builtin .append, args := #[s, x], argTypes := #[t, t] })
    (hf : ∀ y, (f y).oneCell' = true) (base g n cap : Nat) (l : List α) (hs : a.eval s = .slice (some ⟨g, 0, none⟩) n cap) (hown : Ow f w base e (.slice (some ⟨g, 0, none⟩) n cap) l)
    (A : Option Addr) (m c : Nat) (news : List α) (hx : a.eval x = .slice A m c) (hr : Rd w 1 A m (news.map f)) (hroom : n + m ≤ cap)
    (h : ∀ w', Ow f w' base e (.slice (some ⟨g, 0, none⟩) (n + m) cap) (l ++ news) → w.grownBy w' (some g) → wpList P ops Q rest (a.put o.dst (.slice (some ⟨g, 0, none⟩) (n + m) cap)) w') :
    wpList P ops Q (o :: rest) a w := by
  rcases Nat.eq_zero_or_pos m with hm | hm
  · subst hm
    obtain rfl : news = [] := List.eq_nil_of_length_eq_zero hr.lenMap
    refine wpList_plain hgd fun K hK => ?_
    obtain ⟨i, hi, hz, hsz, hb⟩ := info_parts E.info
    have ht := E.under
    have hrun : (Builtin.append_ #[t, t] o.type #[.slice (some ⟨g, 0, none⟩) n cap, .slice A 0 c]).run P w = .ok (.slice (some ⟨g, 0, none⟩) (n + 0) cap) w := by
      have hnc : n ≤ cap := by omega
      cases A <;> simp [Builtin.append_, run_underlying ht, sizeOf, typeInfo, hi, Builtin.lenOf, Builtin.firstCells, hnc, storeCells, loadCells, loadCellsFrom]
    unfold Oper.wp execOp
    simp only [ho, resolve, invoke, builtin, Sem.run_bind, Sem.run_pure, Result.andThen_ok, List.map_toArray, List.map_cons, List.map_nil, hs, hx, hrun]
    exact hK _ _ (h w (by simpa using hown) (World.grownBy.refl _ _))
  · exact wpList_apR f w E hgd ho hf base g n cap l hs hown A m c news hx hr hroom hm h
/-- slices.Grow of nil: ConcatI_any. -/
theorem ConcatI_any_grow (n : Nat) (w : World) (hn : n * 8 ≤ 281474976710656) (hn2 : n ≤ 281474976710656) :
    Calls Try.prog 24 #[.slice none 0 0, .int .i64 n] w fun e w' => ∃ v, e = .returned v ∧ Ow (Value.int .i64) w' w.heap.size 3 v [] ∧ (v = .slice none 0 0 ∧ n = 0 ∨ ∃ g c, v = .slice (some ⟨g, 0, none⟩) 0 c ∧ n ≤ c) ∧ Below w.heap.size w w' := by
  rcases Nat.eq_zero_or_pos n with hz | hz
  · subst hz
    go_enter Try.func24, Try.ntmps24
    go_wp2
    go_ret
    exact ⟨_, rfl, Ow.nil _ _ _ _, .inl (by simp), Below.refl _ _⟩
  · go_enter Try.func24, Try.ntmps24
    go_wp2_with (at_builtin; go_must (refine wpList_apZ0 (Value.int .i64) (0) _ elInt rfl rfl rfl Try.underlying3 w.heap.size rfl n rfl hz (Nat.le_refl _) hn hn2 ?_; intro g1 c1 w1 ho1 hb1 hc1; have hcut : ∀ W : World, (Instr.slice 22 (.slice (some ⟨g1, 0, none⟩) n c1) none (some (.int .i64 0)) none).run Try.prog W = .ok (.slice (some ⟨g1, 0, none⟩) 0 c1) W := fun W => run_to elInt W (some ⟨g1, 0, none⟩) n c1 0 (Nat.zero_le _)))
    go_ret
    exact ⟨_, rfl, by simpa using ho1.cutTo (k := 0) (Nat.zero_le _), .inr ⟨_, _, rfl, hc1⟩, hb1⟩

/-- The value of a part, and what it holds. -/
def ConcatI_any_val (p : Option Addr × Nat × Nat × List Int) : Value := .slice p.1 p.2.1 p.2.2.1
theorem ConcatI_any_le {ps : List (Option Addr × Nat × Nat × List Int)} {k : Nat} {p : Option Addr × Nat × Nat × List Int} (hp : ps[k]? = some p) : ((ps.take k).flatMap (·.2.2.2)).length + p.2.2.2.length ≤ (ps.flatMap (·.2.2.2)).length := by
  have e : ps = ps.take k ++ p :: ps.drop (k + 1) := by rw [← drop_cons hp, List.take_append_drop]
  conv => rhs; rw [e]
  simp only [List.flatMap_append, List.flatMap_cons, List.length_append]
  omega
set_option maxHeartbeats 800000 in
theorem ConcatI_any (A : Option Addr) (n c : Nat) (ps : List (Option Addr × Nat × Nat × List Int)) (w : World) (h : Rd w 1 A n (ps.map ConcatI_any_val)) (h' : ∀ p ∈ ps, Rd w 1 p.1 p.2.1 (p.2.2.2.map (Value.int .i64))) (hn : n ≤ 1099511627776) (ht : (ps.flatMap (·.2.2.2)).length * 8 ≤ 281474976710656) (ht2 : (ps.flatMap (·.2.2.2)).length ≤ 281474976710656) :
    Calls Try.prog 12 #[.slice A n c] w fun e w' => ∃ v, e = .returned v ∧ Ow (Value.int .i64) w' w.heap.size 3 v (ps.flatMap (·.2.2.2)) ∧ Below w.heap.size w w' := by
  have Hl := Lib.hid h.lenMap
  go_enter Try.func12, Try.ntmps12
  go_wp2
  go_loop [3, 11] (fun t i => ∃ k m : Nat, k ≤ n ∧ i = .int .i64 k ∧ t = .int .i64 m ∧ m = ((ps.take k).flatMap (·.2.2.2)).length) (fun _ i => n - (intOf i).toNat)
  case atStart => exact ⟨0, 0, Nat.zero_le _, rfl, rfl, by simp⟩
  case round =>
    obtain ⟨k, m, hk, rfl, rfl, hm⟩ := hrel
    by_cases hlt : k < n
    · obtain ⟨ad, p, rfl, hp, hc⟩ := h.atMap hlt
      obtain ⟨B, pn, pc, pl⟩ := p
      have hpl : pl.length = pn := (h' _ (List.mem_of_getElem? hp)).lenMap
      have hle := ConcatI_any_le hp
      simp only at hle
      rw [← hm, hpl] at hle
      have Hm : Hid (((ps.take (k + 1)).flatMap (·.2.2.2)).length = m + pn) := by
        show _ = _
        rw [take_snoc hp, List.flatMap_append, List.length_append, ← hm]
        simp [hpl]
      unfold ConcatI_any_val at hc
      simp only at hc
      clear hm hp
      have h0 : ¬ ((m : Int) + (pn : Int) < 0) := by omega
      go_wp2
      go_round
      case rel => exact ⟨k + 1, m + pn, by omega, by go_num, by go_num, Hm.out.symm⟩
      case measure => simp [intOf] <;> omega
    · have hnk : k = n := by omega
      subst hnk
      have hm' : m = (ps.flatMap (·.2.2.2)).length := by
        rw [List.take_of_length_le (by rw [Hl.out]; exact Nat.le_refl _)] at hm
        exact hm
      have Hm := Lib.hid hm'
      clear hm hm'
      go_wp2_with fail
      refine (ConcatI_any_grow m w (by rw [Hm.out]; exact ht) (by rw [Hm.out]; exact ht2)).mono ?_
      rintro e w1 ⟨v1, rfl, ho1, hv1, hb1⟩
      rcases hv1 with ⟨rfl, hm0⟩ | ⟨g, cap, rfl, hcap⟩
      · go_wp2
        go_loopw [6, 27] (fun v i wr => ∃ (j : Nat) (acc : List Int), j ≤ k ∧ i = .int .i64 j ∧ acc = (ps.take j).flatMap (·.2.2.2) ∧ Ow (Value.int .i64) wr w.heap.size 3 v acc ∧ Below w.heap.size w wr) (fun _ i _ => k - (intOf i).toNat)
        case atStart => exact ⟨0, [], Nat.zero_le _, rfl, by simp, ho1, hb1⟩
        case round =>
          obtain ⟨j, acc, hj, rfl, hacc, ho, hbl⟩ := hrel
          have hsz := hbl.size
          by_cases hlt : j < k
          · obtain ⟨ad, p, rfl, hp, hc⟩ := (h.below hbl).atMap hlt
            obtain ⟨B, pn, pc, pl⟩ := p
            have hr := (h' _ (List.mem_of_getElem? hp)).below hbl
            have hpl : pl.length = pn := hr.lenMap
            have hle := ConcatI_any_le hp
            simp only at hle
            rw [← hacc, hpl, ← Hm.out] at hle
            have Hacc : Hid (acc ++ pl = (ps.take (j + 1)).flatMap (·.2.2.2)) := by
              show _ = _
              rw [take_snoc hp, List.flatMap_append, ← hacc]
              simp
            unfold ConcatI_any_val at hc
            simp only at hc hr
            clear hacc hp
            go_wp2_with (at_builtin; go_must (refine wpList_apM (Value.int .i64) _ elInt rfl rfl (one_int .i64) w.heap.size _ acc rfl ho _ _ _ pl rfl hr hsz (by omega) (by decide) ?_; intro v2 w2 ho2 hm2))
            go_roundw
            case rel => exact ⟨j + 1, acc ++ pl, by omega, by go_num, Hacc.out, ho2, hm2.below hbl hsz ho.block⟩
            case measure => simp [intOf] <;> omega
          · have hnk : j = k := by omega
            subst hnk
            go_wp2
            go_ret
            refine ⟨_, rfl, ?_, hbl⟩
            rw [List.take_of_length_le (by rw [Hl.out]; exact Nat.le_refl _)] at hacc
            rw [← hacc]
            exact ho
      · have hgb := ho1.block g rfl
        go_wp2
        go_loopw [6, 27] (fun v i wr => ∃ (j a : Nat) (acc : List Int), j ≤ k ∧ i = .int .i64 j ∧ acc = (ps.take j).flatMap (·.2.2.2) ∧ v = .slice (some ⟨g, 0, none⟩) a cap ∧ Ow (Value.int .i64) wr w.heap.size 3 v acc ∧ Below w.heap.size w wr) (fun _ i _ => k - (intOf i).toNat)
        case atStart => exact ⟨0, 0, [], Nat.zero_le _, rfl, by simp, rfl, ho1, hb1⟩
        case round =>
          obtain ⟨j, a, acc, hj, rfl, hacc, rfl, ho, hbl⟩ := hrel
          have hsz := hbl.size
          by_cases hlt : j < k
          · obtain ⟨ad, p, rfl, hp, hc⟩ := (h.below hbl).atMap hlt
            obtain ⟨B, pn, pc, pl⟩ := p
            have hr := (h' _ (List.mem_of_getElem? hp)).below hbl
            have hpl : pl.length = pn := hr.lenMap
            have hle := ConcatI_any_le hp
            simp only at hle
            rw [← hacc, hpl, ← Hm.out] at hle
            have hal : a = acc.length := ho.len.1
            have hroom : a + pn ≤ cap := by omega
            have Hacc : Hid (acc ++ pl = (ps.take (j + 1)).flatMap (·.2.2.2)) := by
              show _ = _
              rw [take_snoc hp, List.flatMap_append, ← hacc]
              simp
            unfold ConcatI_any_val at hc
            simp only at hc hr
            clear hacc hp hal hle
            go_wp2_with (at_builtin; go_must (refine wpList_apR0 (Value.int .i64) _ elInt rfl rfl (one_int .i64) w.heap.size _ _ _ acc rfl ho _ _ _ pl rfl hr hroom ?_; intro w2 ho2 hg2))
            go_roundw
            case rel => exact ⟨j + 1, a + pn, acc ++ pl, by omega, by go_num, Hacc.out, by go_num, by simpa using ho2, below_grown hbl hg2 hgb hsz⟩
            case measure => simp [intOf] <;> omega
          · have hnk : j = k := by omega
            subst hnk
            go_wp2
            go_ret
            refine ⟨_, rfl, ?_, hbl⟩
            rw [List.take_of_length_le (by rw [Hl.out]; exact Nat.le_refl _)] at hacc
            rw [← hacc]
            exact ho
theorem two_parts {α : Type} (A B : Option Addr) (n m c d : Nat) (l l' : List α) : List.flatMap (fun x : Option Addr × Nat × Nat × List α => x.2.2.2) [(A, n, c, l), (B, m, d, l')] = l ++ l' := by simp
end Go.Proofs.Ytblnfffmgaiabaa
