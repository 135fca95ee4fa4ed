/-
  append onto a slice of the call's own, with the bound of growslice's own test: up to 1.6 times 2^47 bytes. No statement of the seat is here.
-/
import Derived.Test.YtldkmopkakdgnaaBase
import Derived.Deep.DeepAppendWide
namespace Go.Proofs.Ytldkmopkakdgnaa
open Go.RowKit
set_option maxRecDepth 20000

section
variable {P : Program} (w : World)
theorem run_apW {t e : TypeId} {z : Value} {sz bytes : Nat} (E : ElemT P t e z sz bytes) (ty : TypeId) (base : Nat)
    (v : Value) (n : Nat) (xs : List Value) (hown : w.ownsRow base e sz v n xs)
    (A : Option Addr) (m c : Nat) (news : List Value) (hr : Rd w sz A m news) (h1 : ∀ u ∈ news, u.oneCell' = true)
    (hbase : base ≤ w.heap.size) (h63 : n + m ≤ maxLen) (hbytes : ((n + m) + (n + m) / 4 + 192) * bytes ≤ 281474976710656) :
    ∃ v' w', (Builtin.append_ #[t, t] ty #[v, .slice A m c]).run P w = .ok v' w' ∧ w'.ownsRow base e sz v' (n + m) (xs ++ news) ∧ Moves w w' v v' := by
  obtain ⟨i, hi, hz, hs, hb⟩ := info_parts E.info
  subst hs hb
  have hsmall : n + m ≤ 9223372036854775807 := by simp only [maxLen] at h63; omega
  cases A with
  | none =>
    have hm : m = 0 := by
      rcases Nat.eq_zero_or_pos m with h0 | h0
      · exact h0
      · obtain ⟨ad, h, _⟩ := hr.2 h0; cases h
    subst hm
    obtain rfl : news = [] := List.eq_nil_of_length_eq_zero (by simpa using hr.1)
    refine ⟨v, w, ?_, by simpa using hown, Moves.refl _ _⟩
    have ht := E.under
    rcases hown.2 with ⟨rfl, rfl⟩ | ⟨g, cap, cur, rfl, _, _, hnc, _⟩
    · simp [Builtin.append_, run_underlying ht, sizeOf, typeInfo, hi, Builtin.lenOf, Builtin.firstCells]
    · simp [Builtin.append_, run_underlying ht, sizeOf, typeInfo, hi, Builtin.lenOf, Builtin.firstCells, hnc, storeCells]
  | some ad =>
    have hcells : ∀ j u, news[j]? = some u → w.cell? (ad.add j) = some u := by
      intro j u hu
      rcases Nat.eq_zero_or_pos m with h0 | h0
      · subst h0
        obtain rfl : news = [] := List.eq_nil_of_length_eq_zero (by simpa using hr.1)
        simp at hu
      · obtain ⟨ad', h, hc⟩ := hr.2 h0
        injection h with h
        subst h
        exact hc j u hu
    obtain ⟨v', w', hrun, h2, h3, _⟩ := run_append_own_wide (P := P) w base t ty e i z i.size i.bytes E.under hi hz rfl rfl E.cells E.pos v n xs hown ad m c news hr.1 hcells h1 h63 hbytes hbase
    refine ⟨v', w', hrun, h2, h3, ?_⟩
    rcases hown.2 with ⟨rfl, rfl⟩ | ⟨g, cap, cur, rfl, hbg, hg, hnc, hcm, hcs, htake⟩
    · obtain rfl : xs = [] := List.eq_nil_of_length_eq_zero (by simpa using hown.1)
      obtain ⟨v1, w1, hrun1, h21, _⟩ := run_append_own_wide (P := P) w w.heap.size t ty e i z i.size i.bytes E.under hi hz rfl rfl E.cells E.pos (.slice none 0 0) 0 [] (World.ownsRow_nil w w.heap.size e i.size) ad m c news hr.1 hcells h1 h63 hbytes (Nat.le_refl _)
      obtain ⟨rfl, rfl⟩ : v' = v1 ∧ w' = w1 := by have := hrun.symm.trans hrun1; injection this with e1 e2; exact ⟨e1, e2⟩
      exact .inr fun k hk => (h21.lt k hk).1
    · by_cases hroom : n + m ≤ cap
      · have hfit : n * i.size + news.length ≤ cur.size := by rw [hr.1, hcs, ← Nat.add_mul]; exact Nat.mul_le_mul_right _ hroom
        have hr2 := run_append_room (P := P) w t ty e i E.under hi g n cap cur hg ad m c news hr.1 hcells h1 hroom hfit
        have := hrun.symm.trans hr2
        injection this with e1 _
        subst e1
        exact .inl rfl
      · have hr2 := run_append_grow (P := P) w t ty e i z E.under hi hz ⟨g, 0, none⟩ n cap xs hown.1 (hown.cells (g := g) rfl) ad m c news hr.1 hcells (by omega) (by omega) (growslice_fits_wide (by omega) hbytes)
        have := hrun.symm.trans hr2
        injection this with e1 _
        subst e1
        exact .inr fun k hk => by simp [Value.ownBlock] at hk; omega

end

theorem wpList_apW {α : Type} (f : α → Value) {P : Program} (w : World) {ops : Array Oper} {rest : List Oper} {o : Oper} {a : Act} {Q : Exit → Act → World → Prop} {t e : TypeId} {z : Value} {bytes : Nat} (E : ElemT P t e z 1 bytes)
    (hgd : o.guard = none) {s x : Operand} (ho : o.op = .call { callee := .builtin .append, args := #[s, x], argTypes := #[t, t] })
    (hf : ∀ y, (f y).oneCell' = true) (base : Nat) (v : Value) (l : List α) (hs : a.eval s = v) (hown : Ow f w base e v l)
    (A : Option Addr) (m c : Nat) (news : List α) (hx : a.eval x = .slice A m c) (hr : Rd w 1 A m (news.map f))
    (hbase : base ≤ w.heap.size) (hbytes : ((l.length + m) + (l.length + m) / 4 + 192) * bytes ≤ 281474976710656) (hpos : 0 < bytes)
    (h : ∀ v' w', Ow f w' base e v' (l ++ news) → Moves w w' v v' → wpList P ops Q rest (a.put o.dst v') w') :
    wpList P ops Q (o :: rest) a w := by
  refine wpList_plain hgd fun K hK => ?_
  have hlen := hr.lenMap
  subst hlen
  have h63 : l.length + news.length ≤ maxLen := by
    have := Nat.le_mul_of_pos_right ((l.length + news.length) + (l.length + news.length) / 4 + 192) hpos
    simp only [maxLen]
    omega
  obtain ⟨v', w', hrun, h2, h3⟩ := run_apW (P := P) w E o.type base v l.length (l.map f) hown A news.length c (news.map f) hr (fun u hu => by obtain ⟨y, _, rfl⟩ := List.mem_map.1 hu; exact hf y) hbase h63 hbytes
  unfold Oper.wp execOp
  simp only [ho, resolve, invoke, builtin, Sem.run_bind, Sem.run_pure, Result.andThen_ok, List.map_toArray, List.map_cons, List.map_nil, hs, hx, hrun]
  refine hK _ _ (h v' w' ?_ h3)
  unfold Ow
  rw [List.map_append, List.length_append]
  exact h2
end Go.Proofs.Ytldkmopkakdgnaa
