/-
  Slices of the call's own whose elements are structs of any kind (C x: the cells of x, sz of them); appends onto them, stores into them. No statement of the seat is here.
-/
import Derived.Test.YtldkmopkakdgnaaTypes
import Derived.Test.YtldkmopkakdgnaaStructs
import Derived.Test.YtldkmopkakdgnaaBox
import Derived.Test.YtldkmopkakdgnaaRoom
import Derived.Deep.AppendLies
namespace Go.Proofs.Ytldkmopkakdgnaa
open Go.RowKit
set_option maxRecDepth 20000
set_option linter.unusedVariables false

/-- What is asked of the cells of an element. -/
structure CellsG {α : Type} (C : α → List Value) (sz : Nat) : Prop where
  len : ∀ x, (C x).length = sz
  pos : 0 < sz
  one : ∀ x, ∀ u ∈ C x, u.oneCell' = true
abbrev RdG {α : Type} (C : α → List Value) (sz : Nat) (w : World) (A : Option Addr) (n : Nat) (L : List α) : Prop := Rd w sz A n (L.flatMap C)
def OwG {α : Type} (C : α → List Value) (sz : Nat) (w : World) (base : Nat) (e : TypeId) (v : Value) (L : List α) : Prop := w.ownsRow base e sz v L.length (L.flatMap C)

section
variable {α : Type} {C : α → List Value} {sz : Nat}
theorem RdG.len (K : CellsG C sz) {w : World} {A : Option Addr} {n : Nat} {L : List α} (h : RdG C sz w A n L) : L.length = n := Rd.lenFlat K.len K.pos h
theorem RdG.at_ (K : CellsG C sz) {w : World} {A : Option Addr} {n k : Nat} {L : List α} (h : RdG C sz w A n L) (hk : k < n) :
    ∃ ad x, A = some ad ∧ L[k]? = some x ∧ ∀ j u, (C x)[j]? = some u → w.cell? (ad.add (k * sz + j)) = some u := Rd.atFlat K.len K.pos h hk
/-- The cells in the walk's own spelling. -/
theorem RdG.cells (K : CellsG C sz) {w : World} {A : Option Addr} {n k : Nat} {L : List α} (h : RdG C sz w A n L) (hk : k < n) :
    ∃ ad x, A = some ad ∧ L[k]? = some x ∧ (∀ u, (C x)[0]? = some u → w.cell? (ad.add (k * sz)) = some u) ∧ ∀ j u, (C x)[j + 1]? = some u → w.cell? ⟨(ad.add (k * sz)).block, (ad.add (k * sz)).off + (j + 1), none⟩ = some u := by
  obtain ⟨ad, x, e, hx, hc⟩ := RdG.at_ K h hk
  refine ⟨ad, x, e, hx, fun u hu => hc 0 u hu, fun j u hu => ?_⟩
  have := hc (j + 1) u hu
  rw [← ad_add] at this
  have e2 : ∀ b : Addr, b.add (j + 1) = ⟨b.block, b.off + (j + 1), none⟩ := fun b => by
    unfold Addr.add
    rw [if_neg (by omega)]
  rwa [e2] at this
theorem one_flat (K : CellsG C sz) (L : List α) : ∀ u ∈ L.flatMap C, u.oneCell' = true := by
  intro u hu
  obtain ⟨s, _, hs⟩ := List.mem_flatMap.1 hu
  exact K.one s u hs
section
variable {w w' : World} {base : Nat} {e : TypeId} {v : Value} {L : List α}
theorem OwG.nil (w : World) (base : Nat) (e : TypeId) : OwG C sz w base e (.slice none 0 0) [] := World.ownsRow_nil w base e sz
theorem OwG.alloc (h : OwG C sz w base e v L) (o : Obj) : OwG C sz (w.alloc o) base e v L := World.ownsRow.alloc h o
theorem OwG.below (h : OwG C sz w base e v L) (hb : Below w.heap.size w w') : OwG C sz w' base e v L := own_below h hb
theorem OwG.mono {base' : Nat} (h : OwG C sz w base e v L) (hb : base' ≤ base) : OwG C sz w base' e v L := own_mono h hb
theorem OwG.block (h : OwG C sz w base e v L) : ∀ k, v.ownBlock = some k → base ≤ k := fun k hk => (World.ownsRow.lt h k hk).1
theorem OwG.inHeap (h : OwG C sz w base e v L) : ∀ k, v.ownBlock = some k → k < w.heap.size := fun k hk => (World.ownsRow.lt h k hk).2
theorem OwG.moves {x x' : Value} (h : OwG C sz w base e v L) (hm : Moves w w' x x') (hne : ∀ k, v.ownBlock = some k → x.ownBlock ≠ some k) : OwG C sz w' base e v L :=
  World.ownsRow.kept h hm.1 (by
    cases hv : v.ownBlock with
    | none => exact .inl rfl
    | some k => exact .inr fun h2 => hne k hv h2.symm)
theorem OwG.keep {row : Option Nat} (h : OwG C sz w base e v L) (hg : w.grownBy w' row) (hne : ∀ k, v.ownBlock = some k → some k ≠ row) : OwG C sz w' base e v L :=
  World.ownsRow.kept h hg (by
    cases hv : v.ownBlock with
    | none => exact .inl rfl
    | some k => exact .inr fun h2 => hne k hv h2)
theorem OwG.formN (h : OwG C sz w base e v L) {n : Nat} (hn : L.length = n) : ∃ A c, v = .slice A n c ∧ n ≤ c ∧ c ≤ maxLen ∧ RdG C sz w A n L := by
  subst hn
  obtain ⟨A, c, rfl, h1, h2⟩ := own_form h
  exact ⟨A, c, rfl, h1, h2, Rd.own h⟩
theorem OwG.rd {A : Option Addr} {n c : Nat} (h : OwG C sz w base e (.slice A n c) L) : RdG C sz w A n L := by
  obtain ⟨A', c', hv, _⟩ := own_form h
  injection hv with _ hn _
  subst hn
  exact Rd.own h
theorem OwG.lenN {A : Option Addr} {n c : Nat} (h : OwG C sz w base e (.slice A n c) L) : n = L.length ∧ n ≤ c ∧ c ≤ maxLen := by
  obtain ⟨A', c', hv, h1, h2⟩ := own_form h
  injection hv with _ hn hc
  subst hn hc
  exact ⟨rfl, h1, h2⟩
theorem OwG.head (h : OwG C sz w base e v L) (hl : 0 < L.length) : ∃ g c, v = .slice (some ⟨g, 0, none⟩) L.length c ∧ base ≤ g ∧ L.length ≤ c ∧ c ≤ maxLen := by
  rcases h.2 with ⟨_, h0⟩ | ⟨g, cap, cur, hv, hb, _, h1, h2, _⟩
  · omega
  · exact ⟨g, cap, hv, hb, h1, h2⟩
theorem OwG.empty (w : World) (e : TypeId) {base : Nat} (hb : base ≤ w.heap.size) : OwG C sz (w.alloc (.cells #[] e)) base e (.slice (some ⟨w.heap.size, 0, none⟩) 0 0) [] :=
  ⟨by simp, .inr ⟨w.heap.size, 0, #[], rfl, hb, heap_alloc_new w _, Nat.le_refl _, by simp, by simp, by simp⟩⟩
end
/-- Element k rewritten, one cell of it. -/
theorem flat_put (hl : ∀ x, (C x).length = sz) : ∀ {L : List α} {k j : Nat} {x y : α} {u : Value}, L[k]? = some x → j < sz → C y = (C x).set j u → (L.flatMap C).set (k * sz + j) u = (L.set k y).flatMap C
  | [], k, j, x, y, u, h, _, _ => by cases h
  | z :: r, 0, j, x, y, u, h, hj, hy => by
    simp at h
    subst h
    rw [List.flatMap_cons, List.set_cons_zero, List.flatMap_cons, Nat.zero_mul, Nat.zero_add, List.set_append_left _ _ (by rw [hl]; exact hj), hy]
  | z :: r, k + 1, j, x, y, u, h, hj, hy => by
    have ih := flat_put hl (L := r) (k := k) (j := j) (x := x) (y := y) (u := u) (by simpa using h) hj hy
    rw [List.flatMap_cons, List.set_cons_succ, List.flatMap_cons, ← ih, List.set_append_right _ _ (by rw [hl, Nat.succ_mul]; omega), hl]
    congr 2
    rw [Nat.succ_mul]; omega
section
variable {w : World} {base g n c : Nat} {e : TypeId} {L : List α}
theorem OwG.cellAt (K : CellsG C sz) (h : OwG C sz w base e (.slice (some ⟨g, 0, none⟩) n c) L) {k j : Nat} {s : α} {u : Value} (hk : L[k]? = some s) (hj : (C s)[j]? = some u) : w.cell? ⟨g, k * sz + j, none⟩ = some u := by
  obtain ⟨A, c', hv, _⟩ := own_form h
  injection hv with _ hn _
  subst hn
  have hlt := (List.getElem?_eq_some_iff.1 hk).1
  have hjl := (List.getElem?_eq_some_iff.1 hj).1
  rw [K.len] at hjl
  have : k * sz + j < L.length * sz := by
    have : (k + 1) * sz ≤ L.length * sz := Nat.mul_le_mul_right _ hlt
    rw [Nat.succ_mul] at this
    omega
  rw [World.ownsRow.cellAt h (k * sz + j) this]
  exact flat_at K.len hk hj
theorem OwG.freeAt (h : OwG C sz w base e (.slice (some ⟨g, 0, none⟩) n c) L) (j : Nat) : w.frozen? ⟨g, j, none⟩ = false := by
  obtain ⟨A, c', hv, _⟩ := own_form h
  injection hv with _ hn _
  subst hn
  exact World.ownsRow.frozenAt h j
/-- One cell of an element stored. -/
theorem OwG.put (K : CellsG C sz) (h : OwG C sz w base e (.slice (some ⟨g, 0, none⟩) n c) L) {k j : Nat} {x y : α} {u : Value} (hk : L[k]? = some x) (hj : j < sz) (hy : C y = (C x).set j u) : OwG C sz (w.setCell ⟨g, k * sz + j, none⟩ u) base e (.slice (some ⟨g, 0, none⟩) n c) (L.set k y) := by
  obtain ⟨A, c', hv, _⟩ := own_form h
  injection hv with _ hn _
  subst hn
  have := (World.ownsRow.stored h (k * sz + j) u).1
  unfold OwG
  rw [List.length_set, ← flat_put K.len hk hj hy]
  exact this
end
/-- An append onto such a slice. -/
theorem wpList_apG (K : CellsG C sz) {P : Program} (w : World) {ops : Array Oper} {rest : List Oper} {o : Oper} {a : Act} {Q : Exit → Act → World → Prop} {t e : TypeId} {z : Value} {bytes : Nat} (E : ElemT P t e z sz bytes)
    (hgd : o.guard = none) {s x : Operand} (ho : o.op = .call { callee := .builtin .append, args := #[s, x], argTypes := #[t, t] })
    (base : Nat) (v : Value) (L : List α) (hs : a.eval s = v) (hown : OwG C sz w base e v L)
    (A : Option Addr) (m c : Nat) (news : List α) (hx : a.eval x = .slice A m c) (hr : RdG C sz w A m news)
    (hbase : base ≤ w.heap.size) (h63 : L.length + m ≤ 140737488355328) (hbytes : (L.length + m) * bytes ≤ 140737488355328)
    (h : ∀ v' w', OwG C sz w' base e v' (L ++ news) → Moves w w' v v' → wpList P ops Q rest (a.put o.dst v') w') :
    wpList P ops Q (o :: rest) a w := by
  have hlen := RdG.len K hr
  subst hlen
  refine wpList_ap w E hgd ho base v L.length _ hs hown A news.length c _ hx hr (one_flat K news) hbase h63 hbytes fun v' w' h1 h2 => h v' w' ?_ h2
  unfold OwG
  rw [List.flatMap_append, List.length_append]
  exact h1
/-- The same, as one operation of a region. -/
theorem wp_apG (K : CellsG C sz) {P : Program} (w : World) {o : Oper} {a : Act} {T : Act → World → Prop} {Q : Exit → Act → World → Prop} {t e : TypeId} {z : Value} {bytes : Nat} (E : ElemT P t e z sz bytes)
    {s x : Operand} (ho : o.op = .call { callee := .builtin .append, args := #[s, x], argTypes := #[t, t] })
    (base : Nat) (v : Value) (L : List α) (hs : a.eval s = v) (hown : OwG C sz w base e v L)
    (A : Option Addr) (m c : Nat) (news : List α) (hx : a.eval x = .slice A m c) (hr : RdG C sz w A m news)
    (hbase : base ≤ w.heap.size) (h63 : L.length + m ≤ 140737488355328) (hbytes : (L.length + m) * bytes ≤ 140737488355328)
    (h : ∀ v' w', OwG C sz w' base e v' (L ++ news) → Moves w w' v v' → T (a.put o.dst v') w') : Oper.wp P o a w T Q := by
  have hlen := RdG.len K hr
  subst hlen
  obtain ⟨v', w', hrun, h2, h3⟩ := run_ap (P := P) w E o.type base v L.length _ hown A news.length c _ hr (one_flat K news) hbase h63 hbytes
  unfold Oper.wp execOp
  simp only [ho, resolve, invoke, builtin, Sem.run_bind, Sem.run_pure, Result.andThen_ok, List.map_toArray, List.map_cons, List.map_nil, hs, hx, hrun]
  refine h v' w' ?_ h3
  unfold OwG
  rw [List.flatMap_append, List.length_append]
  exact h2
/-- make([]T, n, c) of structs. -/
theorem run_mkG {P : Program} {t e : TypeId} {z : Value} {bytes : Nat} (E : ElemT P t e z sz bytes) (kl kc : IntKind) (n c : Nat) (hnc : n ≤ c) (hb : bytes * c ≤ 281474976710656) (hc : c ≤ 9223372036854775807) (w : World) :
    (Instr.makeSlice t (.int kl n) (.int kc c)).run P w = .ok (.slice (some ⟨w.heap.size, 0, none⟩) n c) (w.alloc (.cells (madeCells z.cells (c * sz)) e)) := by
  obtain ⟨i0, hi, hz0, hz1', hz2⟩ := info_parts E.info
  have hb' : ((i0.bytes : Int)) * (c : Int) ≤ 281474976710656 := by
    rw [hz2]
    have h : ((bytes * c : Nat) : Int) ≤ 281474976710656 := by omega
    rwa [Int.natCast_mul] at h
  have := run_make (P := P) w t e i0 z E.under hi hz0 kl kc n c (by omega) (by omega) hb' (by omega)
  simpa [hz1'] using this
theorem made_flat (K : CellsG C sz) {z : Value} {z0 : α} (hz : C z0 = z.cells.toList) (n : Nat) : (madeCells z.cells (n * sz)).toList = (List.replicate n z0).flatMap C := by
  have hs : z.cells.size = sz := by rw [← Array.length_toList, ← hz, K.len]
  refine List.ext_getElem? fun j => ?_
  by_cases hj : j < n * sz
  · have hm : j % sz < sz := Nat.mod_lt _ K.pos
    have hd : j / sz < n := Nat.div_lt_of_lt_mul (by rw [Nat.mul_comm]; exact hj)
    have hu : (C z0)[j % sz]? = some z.cells[j % sz]! := by
      rw [hz, Array.getElem?_toList, Array.getElem?_eq_getElem (by omega)]
      simp [getElem!_pos, hs, hm]
    have h1 := flat_at K.len (show (List.replicate n z0)[j / sz]? = some z0 by rw [List.getElem?_replicate, if_pos hd]) hu
    rw [show j / sz * sz + j % sz = j by rw [Nat.mul_comm]; exact Nat.div_add_mod j sz] at h1
    rw [h1]
    simp [madeCells, hj, hs]
  · rw [List.getElem?_eq_none (by simp [madeCells]; omega), List.getElem?_eq_none (by rw [flat_len K.len, List.length_replicate]; omega)]
/-- A slice of the call's own whose room was made: make([]T, n). -/
theorem OwG.make (K : CellsG C sz) {z : Value} {z0 : α} (hz : C z0 = z.cells.toList) (w : World) (e : TypeId) {base : Nat} (n : Nat) (hn : n ≤ maxLen) (hb : base ≤ w.heap.size) : OwG C sz (w.alloc (.cells (madeCells z.cells (n * sz)) e)) base e (.slice (some ⟨w.heap.size, 0, none⟩) n n) (List.replicate n z0) := by
  have h := World.ownsRow_lit (base := base) (e := e) (size := sz) (cs := madeCells z.cells (n * sz)) w n hb hn (by rw [size_madeCells])
  unfold OwG
  rw [List.length_replicate, ← made_flat K hz]
  exact h
end
/-- A reading kept where another block grows. -/
theorem Rd.grownG {w w' : World} {sz n : Nat} {A : Option Addr} {xs : List Value} {row : Option Nat} (h : Rd w sz A n xs) (hg : w.grownBy w' row) (hne : ∀ ad, A = some ad → some ad.block ≠ row) : Rd w' sz A n xs := by
  refine ⟨h.1, fun hn => ?_⟩
  obtain ⟨ad, e, hc⟩ := h.2 hn
  refine ⟨ad, e, fun j u hu => ?_⟩
  rw [hg.cell_far _ (World.block_lt_of_cell? w _ (hc j u hu)) (by rw [ad_block]; exact hne ad e)]
  exact hc j u hu
end Go.Proofs.Ytldkmopkakdgnaa
