/-
  Contracts of slices.Concat and of slices.Grow of nil at ints, with growslice's own bound (2^48 bytes in all). No statement of the seat is here.
-/
import Derived.Test.YtlanmehbcpgoaaaTypes
import Derived.Test.YtlanmehbcpgoaaaRoom
namespace Go.Proofs.Ytlanmehbcpgoaaa
open Go.RowKit
set_option linter.unusedVariables false

/-- append(nil, make([]T, k)...): nothing but the 2^48 bytes bounds it. -/
theorem wpList_apZ0 {α : Type} (f : α → Value) (z0 : α) {P : Program} (w : World) {ops : Array Oper} {rest : List Oper} {o : Oper} {a : Act} {Q : Exit → Act → World → Prop} {t tn e : TypeId} {bytes : Nat} (E : ElemT P t e (f z0) 1 bytes)
    (hgd : o.guard = none) {s x : Operand} (ho : o.op = .call { callee := .builtin .append, args := #[s, x], argTypes := #[t, tn] })
    (hz1 : (f z0).cells = #[f z0]) {kn : IntKind} (htn : P.underlying tn = some (.int kn)) (base : Nat) (hs : a.eval s = .slice none 0 0)
    {kq : IntKind} (k : Nat) (hx : a.eval x = .int kq k) (h0 : 0 < k)
    (hbase : base ≤ w.heap.size) (hbytes : k * bytes ≤ 281474976710656) (h48 : k ≤ 281474976710656)
    (h : ∀ g c w', Ow f w' base e (.slice (some ⟨g, 0, none⟩) k c) (List.replicate k z0) → Below w.heap.size w w' → k ≤ c → wpList P ops Q rest (a.put o.dst (.slice (some ⟨g, 0, none⟩) k c)) w') :
    wpList P ops Q (o :: rest) a w := by
  refine wpList_plain hgd fun K hK => ?_
  obtain ⟨i, hi, hz, hsz, hb⟩ := info_parts E.info
  have hlen : k ≤ maxLen := by simp only [maxLen]; omega
  have hr := Lib.run_append_nil_zeros (P := P) w t tn o.type e i (f z0) kq kn E.under htn hi hz k h0 (by rw [hsz]; decide) (by omega) (by rw [hb]; exact hbytes)
  unfold Oper.wp execOp
  simp only [ho, resolve, invoke, builtin, Sem.run_bind, Sem.run_pure, Result.andThen_ok, List.map_toArray, List.map_cons, List.map_nil, hs, hx, hr]
  have hge := grownCap_ge w k 0 e
  have hcm : grownCap w k 0 e ≤ maxLen := grownCap_le_maxLen w k 0 e hlen
  refine hK _ _ (h _ _ _ ?_ ⟨rfl, rfl, rfl, by simp, fun j hj => Below.heap_alloc w.drew _ j hj⟩ hge)
  refine ⟨by simp, .inr ⟨w.heap.size, _, _, by rw [List.length_replicate], hbase, heap_alloc_new w.drew _, by rw [List.length_replicate]; exact hge, hcm, ?_, ?_⟩⟩
  · simp only [Array.size_append, size_zeroCells, E.cells]
    omega
  · rw [zeroCells_list hz1, Array.toList_append]
    simp
/-- An append where the room suffices, also of nothing. -/
theorem wpList_apR0 {α : Type} (f : α → Value) {P : Program} (w : World) {ops : Array Oper} {rest : List Oper} {o : Oper} {a : Act} {Q : Exit → Act → World → Prop} {t e : TypeId} {z : Value} {bytes : Nat} (E : ElemT P t e z 1 bytes)
    (hgd : o.guard = none) {s x : Operand} (ho : o.op = .call { callee := .builtin .append, args := #[s, x], argTypes := #[t, t] })
    (hf : ∀ y, (f y).oneCell' = true) (base g n cap : Nat) (l : List α) (hs : a.eval s = .slice (some ⟨g, 0, none⟩) n cap) (hown : Ow f w base e (.slice (some ⟨g, 0, none⟩) n cap) l)
    (A : Option Addr) (m c : Nat) (news : List α) (hx : a.eval x = .slice A m c) (hr : Rd w 1 A m (news.map f)) (hroom : n + m ≤ cap)
    (h : ∀ w', Ow f w' base e (.slice (some ⟨g, 0, none⟩) (n + m) cap) (l ++ news) → w.grownBy w' (some g) → wpList P ops Q rest (a.put o.dst (.slice (some ⟨g, 0, none⟩) (n + m) cap)) w') :
    wpList P ops Q (o :: rest) a w := by
  rcases Nat.eq_zero_or_pos m with hm | hm
  · subst hm
    obtain rfl : news = [] := List.eq_nil_of_length_eq_zero hr.lenMap
    refine wpList_plain hgd fun K hK => ?_
    obtain ⟨i, hi, hz, hsz, hb⟩ := info_parts E.info
    have ht := E.under
    have hrun : (Builtin.append_ #[t, t] o.type #[.slice (some ⟨g, 0, none⟩) n cap, .slice A 0 c]).run P w = .ok (.slice (some ⟨g, 0, none⟩) (n + 0) cap) w := by
      have hnc : n ≤ cap := by omega
      cases A <;> simp [Builtin.append_, run_underlying ht, sizeOf, typeInfo, hi, Builtin.lenOf, Builtin.firstCells, hnc, storeCells, loadCells, loadCellsFrom]
    unfold Oper.wp execOp
    simp only [ho, resolve, invoke, builtin, Sem.run_bind, Sem.run_pure, Result.andThen_ok, List.map_toArray, List.map_cons, List.map_nil, hs, hx, hrun]
    exact hK _ _ (h w (by simpa using hown) (World.grownBy.refl _ _))
  · exact wpList_apR f w E hgd ho hf base g n cap l hs hown A m c news hx hr hroom hm h
theorem two_parts {α : Type} (A B : Option Addr) (n m c d : Nat) (l l' : List α) : List.flatMap (fun x : Option Addr × Nat × Nat × List α => x.2.2.2) [(A, n, c, l), (B, m, d, l')] = l ++ l' := by simp
end Go.Proofs.Ytlanmehbcpgoaaa
