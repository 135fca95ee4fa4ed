/-
  Slices of the call's own whose elements are structs of three integers; appends onto them; slices.Clone of them. No statement of the seat is here.
-/
import Derived.Test.YtgngpcailjocoaaSlotsTypes
import Derived.Test.YtgngpcailjocoaaWide
import Derived.Deep.AppendLies
namespace Go.Proofs.Ytgngpcailjocoaa
open Go.RowKit
set_option linter.unusedVariables false

def OwS (w : World) (base : Nat) (e : TypeId) (v : Value) (L : List Slt) : Prop := w.ownsRow base e 3 v L.length (L.flatMap slotC)
section
variable {w w' : World} {base : Nat} {e : TypeId} {v : Value} {L : List Slt}
theorem OwS.nil (w : World) (base : Nat) (e : TypeId) : OwS w base e (.slice none 0 0) [] := World.ownsRow_nil w base e 3
theorem OwS.alloc (h : OwS w base e v L) (o : Obj) : OwS (w.alloc o) base e v L := World.ownsRow.alloc h o
theorem OwS.below (h : OwS w base e v L) (hb : Below w.heap.size w w') : OwS w' base e v L := own_below h hb
theorem OwS.block (h : OwS w base e v L) : ∀ k, v.ownBlock = some k → base ≤ k := fun k hk => (World.ownsRow.lt h k hk).1
theorem OwS.inHeap (h : OwS w base e v L) : ∀ k, v.ownBlock = some k → k < w.heap.size := fun k hk => (World.ownsRow.lt h k hk).2
theorem OwS.moves {x x' : Value} (h : OwS w base e v L) (hm : Moves w w' x x') (hne : ∀ k, v.ownBlock = some k → x.ownBlock ≠ some k) : OwS w' base e v L :=
  World.ownsRow.kept h hm.1 (by
    cases hv : v.ownBlock with
    | none => exact .inl rfl
    | some k => exact .inr fun h2 => hne k hv h2.symm)
theorem OwS.formN (h : OwS w base e v L) {n : Nat} (hn : L.length = n) : ∃ A c, v = .slice A n c ∧ n ≤ c ∧ c ≤ maxLen ∧ RdS w A n L := by
  subst hn
  obtain ⟨A, c, rfl, h1, h2⟩ := own_form h
  exact ⟨A, c, rfl, h1, h2, Rd.own h⟩
theorem OwS.head (h : OwS w base e v L) (hl : 0 < L.length) : ∃ g c, v = .slice (some ⟨g, 0, none⟩) L.length c ∧ base ≤ g ∧ L.length ≤ c ∧ c ≤ maxLen := by
  rcases h.2 with ⟨_, h0⟩ | ⟨g, cap, cur, hv, hb, _, h1, h2, _⟩
  · omega
  · exact ⟨g, cap, hv, hb, h1, h2⟩
theorem OwS.empty (w : World) (e : TypeId) {base : Nat} (hb : base ≤ w.heap.size) : OwS (w.alloc (.cells #[] e)) base e (.slice (some ⟨w.heap.size, 0, none⟩) 0 0) [] :=
  ⟨rfl, .inr ⟨w.heap.size, 0, #[], rfl, hb, heap_alloc_new w _, Nat.le_refl _, by simp, rfl, rfl⟩⟩
end
theorem flat_set_fr : ∀ {L : List Slt} {k : Nat} {s : Slt} (x : Int), L[k]? = some s → (L.flatMap slotC).set (k * 3 + 1) (.int .i64 x) = (L.set k ⟨s.nd, x, s.lg⟩).flatMap slotC
  | [], k, s, x, h => by cases h
  | y :: r, 0, s, x, h => by
    simp at h
    subst h
    rfl
  | y :: r, k + 1, s, x, h => by
    have ih := flat_set_fr (L := r) (k := k) (s := s) x (by simpa using h)
    rw [List.flatMap_cons, List.set_cons_succ, List.flatMap_cons, ← ih, List.set_append_right _ _ (by rw [slotC_len]; omega), slotC_len]
    congr 2
    omega
section
variable {w : World} {base g n c : Nat} {e : TypeId} {L : List Slt}
theorem OwS.cellAt (h : OwS w base e (.slice (some ⟨g, 0, none⟩) n c) L) {k j : Nat} {s : Slt} {u : Value} (hk : L[k]? = some s) (hj : (slotC s)[j]? = some u) : w.cell? ⟨g, k * 3 + j, none⟩ = some u := by
  obtain ⟨A, c', hv, _⟩ := own_form h
  injection hv with _ hn _
  subst hn
  have hlt := (List.getElem?_eq_some_iff.1 hk).1
  have hjl := (List.getElem?_eq_some_iff.1 hj).1
  rw [slotC_len] at hjl
  rw [World.ownsRow.cellAt h (k * 3 + j) (by omega)]
  exact flat_at slotC_len hk hj
theorem OwS.freeAt (h : OwS w base e (.slice (some ⟨g, 0, none⟩) n c) L) (j : Nat) : w.frozen? ⟨g, j, none⟩ = false := by
  obtain ⟨A, c', hv, _⟩ := own_form h
  injection hv with _ hn _
  subst hn
  exact World.ownsRow.frozenAt h j
/-- The middle number of an element stored. -/
theorem OwS.putFr (h : OwS w base e (.slice (some ⟨g, 0, none⟩) n c) L) {k : Nat} {s : Slt} (hk : L[k]? = some s) (x : Int) : OwS (w.setCell ⟨g, k * 3 + 1, none⟩ (.int .i64 x)) base e (.slice (some ⟨g, 0, none⟩) n c) (L.set k ⟨s.nd, x, s.lg⟩) := by
  obtain ⟨A, c', hv, _⟩ := own_form h
  injection hv with _ hn _
  subst hn
  have := (World.ownsRow.stored h (k * 3 + 1) (.int .i64 x)).1
  unfold OwS
  rw [List.length_set, ← flat_set_fr x hk]
  exact this
end
theorem one_slot (L : List Slt) : ∀ u ∈ L.flatMap slotC, u.oneCell' = true := by
  intro u hu
  obtain ⟨s, _, hs⟩ := List.mem_flatMap.1 hu
  simp [slotC] at hs
  rcases hs with rfl | rfl | rfl <;> rfl
theorem elTry : ElemT Try.prog 23 30 (.agg #[.int .i64 0, .int .i64 0, .int .i64 0]) 3 24 := ⟨Try.underlying23, by kernel_rfl, rfl, by decide⟩
/-- An append onto such a slice. -/
theorem wpList_apS {P : Program} (w : World) {ops : Array Oper} {rest : List Oper} {o : Oper} {a : Act} {Q : Exit → Act → World → Prop} {t e : TypeId} {z : Value} (E : ElemT P t e z 3 24)
    (hgd : o.guard = none) {s x : Operand} (ho : o.op = .call { callee := .builtin .append, args := #[s, x], argTypes := #[t, t] })
    (base : Nat) (v : Value) (L : List Slt) (hs : a.eval s = v) (hown : OwS w base e v L)
    (A : Option Addr) (m c : Nat) (news : List Slt) (hx : a.eval x = .slice A m c) (hr : RdS w A m news)
    (hbase : base ≤ w.heap.size) (hbytes : (L.length + m) * 24 ≤ 140737488355328)
    (h : ∀ v' w', OwS w' base e v' (L ++ news) → Moves w w' v v' → wpList P ops Q rest (a.put o.dst v') w') :
    wpList P ops Q (o :: rest) a w := by
  have hlen := hr.lenS
  subst hlen
  refine wpList_ap w E hgd ho base v L.length _ hs hown A news.length c _ hx hr (one_slot news) hbase (by omega) hbytes fun v' w' h1 h2 => h v' w' ?_ h2
  unfold OwS
  rw [List.flatMap_append, List.length_append]
  exact h1
/-- The same, as one operation of a region. -/
theorem wp_apS {P : Program} (w : World) {o : Oper} {a : Act} {K : Act → World → Prop} {Q : Exit → Act → World → Prop} {t e : TypeId} {z : Value} (E : ElemT P t e z 3 24)
    {s x : Operand} (ho : o.op = .call { callee := .builtin .append, args := #[s, x], argTypes := #[t, t] })
    (base : Nat) (v : Value) (L : List Slt) (hs : a.eval s = v) (hown : OwS w base e v L)
    (A : Option Addr) (m c : Nat) (news : List Slt) (hx : a.eval x = .slice A m c) (hr : RdS w A m news)
    (hbase : base ≤ w.heap.size) (hbytes : (L.length + m) * 24 ≤ 140737488355328)
    (h : ∀ v' w', OwS w' base e v' (L ++ news) → Moves w w' v v' → K (a.put o.dst v') w') : Oper.wp P o a w K Q := by
  have hlen := hr.lenS
  subst hlen
  obtain ⟨v', w', hrun, h2, h3⟩ := run_ap (P := P) w E o.type base v L.length _ hown A news.length c _ hr (one_slot news) hbase (by omega) hbytes
  unfold Oper.wp execOp
  simp only [ho, resolve, invoke, builtin, Sem.run_bind, Sem.run_pure, Result.andThen_ok, List.map_toArray, List.map_cons, List.map_nil, hs, hx, hrun]
  refine h v' w' ?_ h3
  unfold OwS
  rw [List.flatMap_append, List.length_append]
  exact h2
theorem Rd.grown {w w' : World} {sz n : Nat} {A : Option Addr} {xs : List Value} {row : Option Nat} (h : Rd w sz A n xs) (hg : w.grownBy w' row) (hne : ∀ ad, A = some ad → some ad.block ≠ row) : Rd w' sz A n xs := by
  refine ⟨h.1, fun hn => ?_⟩
  obtain ⟨ad, e, hc⟩ := h.2 hn
  refine ⟨ad, e, fun j u hu => ?_⟩
  rw [hg.cell_far _ (World.block_lt_of_cell? w _ (hc j u hu)) (by rw [ad_block]; exact hne ad e)]
  exact hc j u hu
set_option maxHeartbeats 400000 in
theorem CloneT_any (A : Option Addr) (n c : Nat) (L : List Slt) (w : World) (h : RdS w A n L) (hn : n * 24 ≤ 140737488355328) :
    Calls Try.prog 15 #[.slice A n c] w fun e w' => ∃ v, e = .returned v ∧ OwS w' w.heap.size 30 v L ∧ Below w.heap.size w w' := by
  have hq := fun (W : World) => Lib.run_eql_slice_nil (P := Try.prog) W 23 30 A n c 0 0 Try.underlying23
  go_enter Try.func15, Try.ntmps15
  cases A with
  | none =>
    go_wp2
    go_ret
    have hn0 : n = 0 := by
      rcases Nat.eq_zero_or_pos n with h0 | h0
      · exact h0
      · obtain ⟨ad, e, _⟩ := h.2 h0; cases e
    obtain rfl : L = [] := List.eq_nil_of_length_eq_zero (h.lenS.trans hn0)
    exact ⟨_, rfl, OwS.nil _ _ _, Below.refl _ _⟩
  | some ad =>
    go_wp2_with (at_builtin; go_must (refine wpList_apS _ elTry rfl rfl w.heap.size (.slice (some ⟨w.heap.size, 0, none⟩) 0 0) [] rfl (OwS.empty _ _ (Nat.le_refl _)) _ _ _ L rfl (h.alloc _) (le_alloc (Nat.le_refl _)) (by simp <;> omega) ?_; intro v1 w1 ho1 hm1))
    go_ret
    exact ⟨_, rfl, ho1, hm1.below ((Below.refl _ _).alloc (Nat.le_refl _) _) (le_alloc (Nat.le_refl _)) (new_block (Nat.le_refl _))⟩
end Go.Proofs.Ytgngpcailjocoaa
