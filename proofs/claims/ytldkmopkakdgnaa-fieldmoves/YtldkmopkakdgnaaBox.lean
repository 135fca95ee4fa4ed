/-
  A block of the call's own that is no slice: a struct whose address is taken, a captured variable. No statement of the seat is here.
-/
import Derived.Test.YtldkmopkakdgnaaBase
import Derived.OneCell
namespace Go.Proofs.Ytldkmopkakdgnaa
open Go.RowKit
set_option maxRecDepth 20000

/-- Block b holds just the cells vs. -/
def Box (w : World) (b : Nat) (t : TypeId) (vs : List Value) : Prop := w.heap[b]? = some (.cells vs.toArray t (0, 0))

section
variable {w w' : World} {b : Nat} {t : TypeId} {vs : List Value}
theorem Box.lt (h : Box w b t vs) : b < w.heap.size := lt_of_block h
theorem Box.cell (h : Box w b t vs) (k : Nat) {v : Value} (hk : vs[k]? = some v) : w.cell? ⟨b, k, none⟩ = some v := by
  unfold Box at h
  rw [cell_of_row w b k vs.toArray t (0, 0) h]
  simpa using hk
theorem Box.free (h : Box w b t vs) (k : Nat) : w.frozen? ⟨b, k, none⟩ = false := by unfold Box at h; simp [World.frozen?, h]
theorem Box.set (h : Box w b t vs) (k : Nat) (u : Value) : Box (w.setCell ⟨b, k, none⟩ u) b t (vs.set k u) := by
  have hlt := h.lt
  unfold Box at h ⊢
  have h' : w.heap[b] = .cells vs.toArray t (0, 0) := by simpa [Array.getElem?_eq_getElem hlt] using h
  show (w.heap.modify b _)[b]? = _
  rw [Array.getElem?_eq_getElem (by simpa using hlt), Array.getElem_modify_self, h']
  simp
theorem Box.new (w : World) (t : TypeId) (vs : List Value) : Box (w.alloc (.cells vs.toArray t)) w.heap.size t vs := heap_alloc_new w _
theorem Box.alloc (h : Box w b t vs) (o : Obj) : Box (w.alloc o) b t vs := (Below.heap_alloc w o b h.lt).trans h
theorem Box.below {B : Nat} (h : Box w b t vs) (hb : Below B w w') (hB : b < B) : Box w' b t vs := (hb.block b hB).trans h
theorem Box.grown {row : Option Nat} (h : Box w b t vs) (hg : w.grownBy w' row) (hne : some b ≠ row) : Box w' b t vs := (hg.block b h.lt hne).trans h
theorem Box.moves {v v' : Value} (h : Box w b t vs) (hm : Moves w w' v v') (hne : ∀ k, v.ownBlock = some k → b < k) : Box w' b t vs :=
  h.grown hm.1 (fun e => by have := hne b e.symm; omega)
theorem Box.drew (h : Box w b t vs) : Box w.drew b t vs := h
end
theorem grownBy_setCell (w : World) (p : Addr) (u : Value) : w.grownBy (w.setCell p u) (some p.block) :=
  ⟨rfl, rfl, rfl, by simp [World.setCell], fun k _ hne => Below.heap_setCell _ _ _ _ (fun e => hne (by rw [e]))⟩
theorem grownBy_then {a b c : World} {row : Option Nat} (h : a.grownBy b row) (k : b.grownBy c row) : a.grownBy c row :=
  ⟨k.os.trans h.os, k.tape.trans h.tape, k.output.trans h.output, Nat.le_trans h.size k.size, fun i hi hne => (k.block i (Nat.lt_of_lt_of_le hi h.size) hne).trans (h.block i hi hne)⟩
/-- What the call owns in other blocks stays. -/
theorem Ow.grown {α : Type} {f : α → Value} {w w' : World} {base b : Nat} {e : TypeId} {v : Value} {l : List α} (h : Ow f w base e v l) (hg : w.grownBy w' (some b)) (hb : b < base) : Ow f w' base e v l :=
  World.ownsRow.kept h hg (by
    cases hv : v.ownBlock with
    | none => exact .inl rfl
    | some k => exact .inr fun h2 => by have := h.block k hv; injection h2 with h2; omega)
theorem below_grown {w w1 w2 : World} {B b : Nat} (h : Below B w w1) (hg : w1.grownBy w2 (some b)) (hB : B ≤ b) (hs : B ≤ w1.heap.size) : Below B w w2 :=
  h.grown hg hs (fun k e => by injection e with e; omega)

/-- Both fields of a struct of two stored. -/
theorem Box.pair {w : World} {b : Nat} {t : TypeId} {u0 u1 : Value} (h : Box w b t [u0, u1]) (v0 v1 : Value) : Box ((w.setCell ⟨b, 0, none⟩ v0).setCell ⟨b, 1, none⟩ v1) b t [v0, v1] := by
  simpa using (h.set 0 v0).set 1 v1
theorem grownBy_pair (w : World) (b : Nat) (v0 v1 : Value) : w.grownBy ((w.setCell ⟨b, 0, none⟩ v0).setCell ⟨b, 1, none⟩ v1) (some b) := grownBy_then (grownBy_setCell w ⟨b, 0, none⟩ v0) (grownBy_setCell _ ⟨b, 1, none⟩ v1)

/-! A store into a slice of the call's own -/
section
variable {α : Type} {f : α → Value} {w : World} {base g n c : Nat} {e : TypeId} {l : List α}
theorem Ow.head {v : Value} (h : Ow f w base e v l) (hl : 0 < l.length) : ∃ g c, v = .slice (some ⟨g, 0, none⟩) l.length c ∧ base ≤ g ∧ l.length ≤ c ∧ c ≤ maxLen := by
  rcases h.2 with ⟨_, h0⟩ | ⟨g, cap, cur, hv, hb, _, h1, h2, _⟩
  · omega
  · exact ⟨g, cap, hv, hb, h1, h2⟩
theorem Ow.cellAt (h : Ow f w base e (.slice (some ⟨g, 0, none⟩) n c) l) {k : Nat} {x : α} (hx : l[k]? = some x) : w.cell? ⟨g, k, none⟩ = some (f x) := by
  have hn := h.len.1
  subst hn
  have hk : k < l.length := (List.getElem?_eq_some_iff.1 hx).1
  rw [World.ownsRow.cellAt h k (by omega), List.getElem?_map, hx]; rfl
theorem Ow.freeAt (h : Ow f w base e (.slice (some ⟨g, 0, none⟩) n c) l) (k : Nat) : w.frozen? ⟨g, k, none⟩ = false := by
  have hn := h.len.1
  subst hn
  exact World.ownsRow.frozenAt h k
theorem Ow.put (h : Ow f w base e (.slice (some ⟨g, 0, none⟩) n c) l) (k : Nat) (x : α) : Ow f (w.setCell ⟨g, k, none⟩ (f x)) base e (.slice (some ⟨g, 0, none⟩) n c) (l.set k x) := by
  have hn := h.len.1
  subst hn
  have := (World.ownsRow.stored h k (f x)).1
  unfold Ow
  rw [List.length_set, List.map_set]
  exact this
theorem Moves.put (w : World) (g k : Nat) (u : Value) (n c : Nat) : Moves w (w.setCell ⟨g, k, none⟩ u) (.slice (some ⟨g, 0, none⟩) n c) (.slice (some ⟨g, 0, none⟩) n c) :=
  ⟨grownBy_setCell _ _ _, .inl rfl⟩
end
theorem set_take_drop {α : Type} {l : List α} {k : Nat} {x : α} (h : l[k]? = some x) (g : α → α) :
    ((l.take k).map g ++ l.drop k).set k (g x) = (l.take (k + 1)).map g ++ l.drop (k + 1) := by
  have hk : k < l.length := (List.getElem?_eq_some_iff.1 h).1
  have hl : ((l.take k).map g).length = k := by simp; omega
  rw [List.set_append_right _ _ (by omega), hl, Nat.sub_self, drop_cons h, List.set_cons_zero, take_snoc h]; simp
theorem at_take_drop {α : Type} {l : List α} {k : Nat} {x : α} (h : l[k]? = some x) (g : α → α) : ((l.take k).map g ++ l.drop k)[k]? = some x := by
  have hk : k < l.length := (List.getElem?_eq_some_iff.1 h).1
  have hl : ((l.take k).map g).length = k := by simp; omega
  rw [List.getElem?_append_right (by omega), hl, Nat.sub_self, drop_cons h]; rfl
theorem Ow.keep {α : Type} {f : α → Value} {w w' : World} {base : Nat} {e : TypeId} {v : Value} {l : List α} {row : Option Nat} (h : Ow f w base e v l) (hg : w.grownBy w' row) (hne : ∀ k, v.ownBlock = some k → some k ≠ row) : Ow f w' base e v l := by
  refine ⟨h.1, ?_⟩
  rcases h.2 with ⟨hv, h0⟩ | ⟨g, cap, cur, hv, hb, hblk, h1, h2, h3, h4⟩
  · exact .inl ⟨hv, h0⟩
  · exact .inr ⟨g, cap, cur, hv, hb, (hg.block g (lt_of_block hblk) (hne g (by rw [hv]; rfl))).trans hblk, h1, h2, h3, h4⟩
theorem Ow.inHeap {α : Type} {f : α → Value} {w : World} {base : Nat} {e : TypeId} {v : Value} {l : List α} (h : Ow f w base e v l) : ∀ k, v.ownBlock = some k → k < w.heap.size := by
  intro k hk
  rcases h.2 with ⟨hv, h0⟩ | ⟨g, cap, cur, hv, hb, hblk, _⟩
  · subst hv; cases hk
  · subst hv
    have : g = k := by simpa [Value.ownBlock] using hk
    subst this
    exact lt_of_block hblk
theorem Ow.formN {α : Type} {f : α → Value} {w : World} {base : Nat} {e : TypeId} {v : Value} {l : List α} (h : Ow f w base e v l) {n : Nat} (hn : l.length = n) : ∃ A c, v = .slice A n c ∧ n ≤ c ∧ c ≤ maxLen ∧ Rd w 1 A n (l.map f) := by
  subst hn
  obtain ⟨A, c, rfl, h1, h2⟩ := h.form
  exact ⟨A, c, rfl, h1, h2, h.rd⟩
end Go.Proofs.Ytldkmopkakdgnaa
