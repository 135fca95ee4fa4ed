/-
  Words of our own for slices: what a slice reads as (Rd), a slice that the call itself made (ownsRow, of the library), an append onto it (wpList_ap); small laws on i64's bit operations. No statement of the seat is here.
-/
import Derived.WalkKit
import Derived.WalkSpells
import Derived.WalkLawsBesides
import Derived.ProofKit
import Derived.Lib.Hide
import Derived.Deep.Draws
import Derived.Maps.AppendAt
namespace Go.Proofs.Ytldkmopkakdgnaa
open Go.RowKit
set_option maxRecDepth 20000

theorem ad_block (a : Addr) (n : Nat) : (a.add n).block = a.block := by unfold Addr.add; split <;> rfl
theorem ad_add (a : Addr) (i j : Nat) : (a.add i).add j = a.add (i + j) := by
  unfold Addr.add
  by_cases hi : i = 0 <;> by_cases hj : j = 0 <;> simp [hi, hj, Nat.add_assoc]

/-- A slice of n elements (sz cells each) at address A reads as the cells xs. -/
def Rd (w : World) (sz : Nat) (A : Option Addr) (n : Nat) (xs : List Value) : Prop :=
  xs.length = n * sz ∧ (0 < n → ∃ ad, A = some ad ∧ ∀ j u, xs[j]? = some u → w.cell? (ad.add j) = some u)

section
variable {w w' : World} {sz n : Nat} {A : Option Addr} {xs : List Value}
theorem Rd.nil (w : World) (sz : Nat) (A : Option Addr) : Rd w sz A 0 [] := ⟨by simp, fun h => absurd h (by omega)⟩
theorem Rd.at_ {k : Nat} (h : Rd w 1 A n xs) (hk : k < n) : ∃ ad u, A = some ad ∧ xs[k]? = some u ∧ w.cell? (ad.add k) = some u := by
  obtain ⟨ad, e, hc⟩ := h.2 (by omega)
  have hl : k < xs.length := by have := h.1; omega
  exact ⟨ad, xs[k], e, List.getElem?_eq_getElem hl, hc k _ (List.getElem?_eq_getElem hl)⟩
theorem Rd.below (h : Rd w sz A n xs) (hb : Below w.heap.size w w') : Rd w' sz A n xs :=
  ⟨h.1, fun hn => by
    obtain ⟨ad, e, hc⟩ := h.2 hn
    exact ⟨ad, e, fun j u hu => (hb.cell (World.block_lt_of_cell? w _ (hc j u hu))).trans (hc j u hu)⟩⟩
theorem Rd.alloc (h : Rd w sz A n xs) (o : Obj) : Rd (w.alloc o) sz A n xs := h.below ((Below.refl _ _).alloc (Nat.le_refl _) o)
theorem Rd.drew (h : Rd w sz A n xs) : Rd w.drew sz A n xs := h
theorem Rd.drewN (h : Rd w sz A n xs) (k : Nat) : Rd (w.drewN k) sz A n xs := h
theorem Rd.cut (h : Rd w sz A n xs) {k cap : Nat} (hk : k ≤ n) (hc : n ≤ cap) :
    Rd w sz (if cap = k then A else A.map (·.add (k * sz))) (n - k) (xs.drop (k * sz)) := by
  refine ⟨by rw [List.length_drop, h.1, Nat.sub_mul], fun hn => ?_⟩
  obtain ⟨ad, rfl, hcell⟩ := h.2 (by omega)
  rw [if_neg (by omega)]
  exact ⟨ad.add (k * sz), rfl, fun j u hu => by rw [ad_add]; exact hcell _ u (by rw [← hu, List.getElem?_drop])⟩
theorem Rd.take (h : Rd w sz A n xs) {k : Nat} (hk : k ≤ n) : Rd w sz A k (xs.take (k * sz)) := by
  have hle : k * sz ≤ n * sz := Nat.mul_le_mul_right _ hk
  refine ⟨by rw [List.length_take, h.1]; omega, fun hn => ?_⟩
  obtain ⟨ad, rfl, hcell⟩ := h.2 (by omega)
  refine ⟨ad, rfl, fun j u hu => hcell j u ?_⟩
  rw [List.getElem?_take] at hu
  split at hu
  · exact hu
  · cases hu
theorem Rd.len_eq {m : Nat} (e : n = m) (h : Rd w sz A n xs) : Rd w sz A m xs := e ▸ h
theorem Rd.one (w : World) (x : Value) (t : TypeId) : Rd (w.alloc (.cells #[x] t)) 1 (some ⟨w.heap.size, 0, none⟩) 1 [x] :=
  ⟨rfl, fun _ => ⟨_, rfl, cell_one_new w x t⟩⟩
theorem Rd.own {base : Nat} {e : TypeId} {c : Nat} (h : w.ownsRow base e sz (.slice A n c) n xs) : Rd w sz A n xs := by
  refine ⟨h.1, fun hn => ?_⟩
  rcases h.2 with ⟨hv, h0⟩ | ⟨g, cap, cur, hv, _⟩
  · omega
  · injection hv with hA
    subst hA
    exact ⟨_, rfl, h.cells (g := g) rfl⟩
end

section
variable {w w' : World} {base sz n : Nat} {e : TypeId} {v : Value} {xs : List Value}
theorem own_form (h : w.ownsRow base e sz v n xs) : ∃ A c, v = .slice A n c ∧ n ≤ c ∧ c ≤ maxLen := by
  rcases h.2 with ⟨rfl, rfl⟩ | ⟨g, cap, cur, rfl, _, _, h1, h2, _⟩
  · exact ⟨none, 0, rfl, Nat.le_refl _, Nat.zero_le _⟩
  · exact ⟨_, cap, rfl, h1, h2⟩
theorem own_below (h : w.ownsRow base e sz v n xs) (hb : Below w.heap.size w w') : w'.ownsRow base e sz v n xs :=
  h.kept (row := none) ⟨hb.os, hb.tape, hb.output, hb.size, fun k hk _ => hb.block k hk⟩ (by cases v.ownBlock <;> simp)
theorem own_mono {base' : Nat} (h : w.ownsRow base e sz v n xs) (hb : base' ≤ base) : w.ownsRow base' e sz v n xs := by
  refine ⟨h.1, ?_⟩
  rcases h.2 with h0 | ⟨g, cap, cur, hv, hg, r⟩
  · exact .inl h0
  · exact .inr ⟨g, cap, cur, hv, by omega, r⟩
end

/-- v (in w) has become v' (in w'): of the old blocks at most v's own has been written; v' lies where v did, or in a new block. -/
def Moves (w w' : World) (v v' : Value) : Prop :=
  w.grownBy w' v.ownBlock ∧ (v'.ownBlock = v.ownBlock ∨ ∀ k, v'.ownBlock = some k → w.heap.size ≤ k)

section
variable {w w1 w2 : World} {v v1 v2 : Value}
theorem Moves.refl (w : World) (v : Value) : Moves w w v v := ⟨World.grownBy.refl _ _, .inl rfl⟩
theorem Moves.trans (h : Moves w w1 v v1) (k : Moves w1 w2 v1 v2) : Moves w w2 v v2 := by
  obtain ⟨hg, hv⟩ := h
  obtain ⟨kg, kv⟩ := k
  refine ⟨⟨kg.os.trans hg.os, kg.tape.trans hg.tape, kg.output.trans hg.output, Nat.le_trans hg.size kg.size, fun i hi hne => ?_⟩, ?_⟩
  · refine (kg.block i (Nat.lt_of_lt_of_le hi hg.size) ?_).trans (hg.block i hi hne)
    rcases hv with e | e
    · rw [e]; exact hne
    · intro h2; have := e i h2.symm; omega
  · rcases kv with e | e
    · rw [e]; exact hv
    · exact .inr fun k hk => Nat.le_trans hg.size (e k hk)
theorem Moves.belowL (hb : Below w.heap.size w w1) (v : Value) : Moves w w1 v v := ⟨⟨hb.os, hb.tape, hb.output, hb.size, fun k hk _ => hb.block k hk⟩, .inl rfl⟩
theorem Moves.alloc (h : Moves w w1 v v1) (o : Obj) : Moves w (w1.alloc o) v v1 := h.trans (Moves.belowL ((Below.refl _ _).alloc (Nat.le_refl _) o) v1)
theorem Moves.thenBelow (h : Moves w w1 v v1) (hb : Below w1.heap.size w1 w2) : Moves w w2 v v1 := h.trans (Moves.belowL hb v1)
theorem Moves.below {B : Nat} {a : World} (h : Moves w w1 v v1) (hb : Below B a w) (hB : B ≤ w.heap.size) (hv : ∀ k, v.ownBlock = some k → B ≤ k) : Below B a w1 := hb.grown h.1 hB hv
theorem Moves.nil {A : Nat} (h : Moves w w1 (.slice none 0 A) v1) : Below w.heap.size w w1 :=
  ⟨h.1.os, h.1.tape, h.1.output, h.1.size, fun k hk => h.1.block k hk (by simp [Value.ownBlock])⟩
end

/-- What the append law wants of a slice type t with elements e. -/
structure ElemT (P : Program) (t e : TypeId) (z : Value) (sz bytes : Nat) : Prop where
  under : P.underlying t = some (.slice e)
  info : (P.info? e).map (fun i => (i.zero, i.size, i.bytes)) = some (some z, sz, bytes)
  cells : z.cells.size = sz
  pos : 0 < sz

section
variable {P : Program} (w : World)
theorem run_ap {t e : TypeId} {z : Value} {sz bytes : Nat} (E : ElemT P t e z sz bytes) (ty : TypeId) (base : Nat)
    (v : Value) (n : Nat) (xs : List Value) (hown : w.ownsRow base e sz v n xs)
    (A : Option Addr) (m c : Nat) (news : List Value) (hr : Rd w sz A m news) (h1 : ∀ u ∈ news, u.oneCell' = true)
    (hbase : base ≤ w.heap.size) (h63 : n + m ≤ 140737488355328) (hbytes : (n + m) * bytes ≤ 140737488355328) :
    ∃ v' w', (Builtin.append_ #[t, t] ty #[v, .slice A m c]).run P w = .ok v' w' ∧ w'.ownsRow base e sz v' (n + m) (xs ++ news) ∧ Moves w w' v v' := by
  obtain ⟨i, hi, hz, hs, hb⟩ := info_parts E.info
  have hlen : n + m ≤ maxLen := by simp only [maxLen]; omega
  cases A with
  | none =>
    have hm : m = 0 := by
      rcases Nat.eq_zero_or_pos m with h0 | h0
      · exact h0
      · obtain ⟨ad, h, _⟩ := hr.2 h0; cases h
    subst hm
    obtain rfl : news = [] := List.eq_nil_of_length_eq_zero (by simpa using hr.1)
    refine ⟨v, w, ?_, by simpa using hown, Moves.refl _ _⟩
    have ht := E.under
    rcases hown.2 with ⟨rfl, rfl⟩ | ⟨g, cap, cur, rfl, _, _, hnc, _⟩
    · simp [Builtin.append_, run_underlying ht, sizeOf, typeInfo, hi, Builtin.lenOf, Builtin.firstCells]
    · simp [Builtin.append_, run_underlying ht, sizeOf, typeInfo, hi, Builtin.lenOf, Builtin.firstCells, hnc, storeCells]
  | some ad =>
    have hcells : ∀ j u, news[j]? = some u → w.cell? (ad.add j) = some u := by
      intro j u hu
      rcases Nat.eq_zero_or_pos m with h0 | h0
      · subst h0
        obtain rfl : news = [] := List.eq_nil_of_length_eq_zero (by simpa using hr.1)
        simp at hu
      · obtain ⟨ad', h, hc⟩ := hr.2 h0
        injection h with h
        subst h
        exact hc j u hu
    obtain ⟨v', w', hrun, h2, h3, _, h5⟩ := run_append_own_at (P := P) w base t ty e i z sz bytes E.under hi hz hs hb E.cells E.pos v n xs hown ad m c news hr.1 hcells h1 hlen hbytes hbase
    refine ⟨v', w', hrun, h2, h3, ?_⟩
    rcases h5 with h5 | h5
    · exact .inl h5
    · exact .inr fun k hk => by rw [h5] at hk; injection hk with hk; omega

theorem wpList_ap {ops : Array Oper} {rest : List Oper} {o : Oper} {a : Act} {Q : Exit → Act → World → Prop} {t e : TypeId} {z : Value} {sz bytes : Nat} (E : ElemT P t e z sz bytes)
    (hgd : o.guard = none) {s x : Operand} (ho : o.op = .call { callee := .builtin .append, args := #[s, x], argTypes := #[t, t] })
    (base : Nat) (v : Value) (n : Nat) (xs : List Value) (hs : a.eval s = v) (hown : w.ownsRow base e sz v n xs)
    (A : Option Addr) (m c : Nat) (news : List Value) (hx : a.eval x = .slice A m c) (hr : Rd w sz A m news) (h1 : ∀ u ∈ news, u.oneCell' = true)
    (hbase : base ≤ w.heap.size) (h63 : n + m ≤ 140737488355328) (hbytes : (n + m) * bytes ≤ 140737488355328)
    (h : ∀ v' w', w'.ownsRow base e sz v' (n + m) (xs ++ news) → Moves w w' v v' → wpList P ops Q rest (a.put o.dst v') w') :
    wpList P ops Q (o :: rest) a w := by
  refine wpList_plain hgd fun K hK => ?_
  obtain ⟨v', w', hr, h2, h3⟩ := run_ap (P := P) w E o.type base v n xs hown A m c news hr h1 hbase h63 hbytes
  unfold Oper.wp execOp
  simp only [ho, resolve, invoke, builtin, Sem.run_bind, Sem.run_pure, Result.andThen_ok, List.map_toArray, List.map_cons, List.map_nil, hs, hx, hr]
  exact hK _ _ (h v' w' h2 h3)
end

theorem Rd.atMap {α : Type} {f : α → Value} {w : World} {A : Option Addr} {n k : Nat} {l : List α} (h : Rd w 1 A n (l.map f)) (hk : k < n) :
    ∃ ad b, A = some ad ∧ l[k]? = some b ∧ w.cell? (ad.add k) = some (f b) := by
  obtain ⟨ad, u, e, hu, hc⟩ := h.at_ hk
  rw [List.getElem?_map] at hu
  cases hb : l[k]? with
  | none => rw [hb] at hu; cases hu
  | some b => rw [hb] at hu; simp at hu; subst hu; exact ⟨ad, b, e, rfl, hc⟩
theorem Rd.lenMap {α : Type} {f : α → Value} {w : World} {A : Option Addr} {n : Nat} {l : List α} (h : Rd w 1 A n (l.map f)) : l.length = n := by
  have := h.1; simpa using this

/-- A slice that the call itself made (in a block from 'base' on), of one-cell elements: it holds the list l. -/
def Ow {α : Type} (f : α → Value) (w : World) (base : Nat) (e : TypeId) (v : Value) (l : List α) : Prop := w.ownsRow base e 1 v l.length (l.map f)

section
variable {α : Type} {f : α → Value} {w w' : World} {base : Nat} {e : TypeId} {v : Value} {l : List α}
theorem Ow.nil (f : α → Value) (w : World) (base : Nat) (e : TypeId) : Ow f w base e (.slice none 0 0) [] := World.ownsRow_nil w base e 1
theorem Ow.form (h : Ow f w base e v l) : ∃ A c, v = .slice A l.length c ∧ l.length ≤ c ∧ c ≤ maxLen := own_form h
theorem Ow.below (h : Ow f w base e v l) (hb : Below w.heap.size w w') : Ow f w' base e v l := own_below h hb
theorem Ow.alloc (h : Ow f w base e v l) (o : Obj) : Ow f (w.alloc o) base e v l := World.ownsRow.alloc h o
theorem Ow.mono {base' : Nat} (h : Ow f w base e v l) (hb : base' ≤ base) : Ow f w base' e v l := own_mono h hb
theorem Ow.rd {A : Option Addr} {n c : Nat} (h : Ow f w base e (.slice A n c) l) : Rd w 1 A n (l.map f) := by
  obtain ⟨A', c', hv, _⟩ := h.form
  injection hv with h1 h2 h3
  subst h1 h2 h3
  exact Rd.own h
theorem Ow.len {A : Option Addr} {n c : Nat} (h : Ow f w base e (.slice A n c) l) : n = l.length ∧ n ≤ c ∧ c ≤ maxLen := by
  obtain ⟨A', c', hv, h1, h2⟩ := h.form
  injection hv with _ h3 h4
  subst h4
  exact ⟨h3, h3 ▸ h1, h2⟩
theorem Ow.block (h : Ow f w base e v l) : ∀ k, v.ownBlock = some k → base ≤ k := fun k hk => (World.ownsRow.lt h k hk).1
/-- Another slice, whose block is not the one that was written, is kept. -/
theorem Ow.moves {x x' : Value} (h : Ow f w base e v l) (hm : Moves w w' x x') (hne : ∀ k, v.ownBlock = some k → x.ownBlock ≠ some k) : Ow f w' base e v l :=
  World.ownsRow.kept h hm.1 (by
    cases hv : v.ownBlock with
    | none => exact .inl rfl
    | some k => exact .inr fun h2 => hne k hv h2.symm)
theorem Ow.sl {e' : Ending} {R : Prop} (h : ∃ v, e' = .returned v ∧ Ow f w base e v l ∧ R) : ∃ A c, e' = .returned (.slice A l.length c) ∧ Ow f w base e (.slice A l.length c) l ∧ R := by
  obtain ⟨v, he, ho, hr⟩ := h
  obtain ⟨A, c, rfl, _⟩ := ho.form
  exact ⟨A, c, he, ho, hr⟩
end
theorem Rd.lit (w : World) (xs : List Value) (t : TypeId) : Rd (w.alloc (.cells xs.toArray t)) 1 (some ⟨w.heap.size, 0, none⟩) xs.length xs := by
  refine ⟨by simp, fun _ => ⟨_, rfl, fun j u hj => ?_⟩⟩
  have hadd : (⟨w.heap.size, 0, none⟩ : Addr).add j = ⟨w.heap.size, j, none⟩ := by unfold Addr.add; split <;> simp_all
  rw [hadd, cell_of_row _ w.heap.size j xs.toArray t (0, 0) (heap_alloc_new w _)]
  simpa using hj
theorem Rd.litAt {α : Type} (f : α → Value) {w : World} {b : Nat} (l : List α) (t : TypeId) (hb : b = w.heap.size) : Rd (w.alloc (.cells (l.map f).toArray t)) 1 (some ⟨b, 0, none⟩) l.length (l.map f) := by
  subst hb
  exact Rd.len_eq (by simp) (Rd.lit w (l.map f) t)
/-- []byte to string. -/
theorem run_bytes {P : Program} {src dst e : TypeId} (hs : P.underlying src = some (.slice e)) (he : P.underlying e = some (.int .u8)) (hd : P.underlying dst = some .string)
    {w : World} {A : Option Addr} {n : Nat} (c : Nat) {l : List Int} (h : Rd w 1 A n (l.map (Value.int .u8))) : (convert src dst (.slice A n c)).run P w = .ok (.string (strOfNums l)) w := by
  have hl := h.lenMap
  subst hl
  rw [run_convert_bytes_string w src dst e _ _ c hs he hd]
  cases A with
  | none =>
    have hl : l = [] := by
      rcases Nat.eq_zero_or_pos l.length with h0 | h0
      · exact List.eq_nil_of_length_eq_zero h0
      · obtain ⟨ad, e, _⟩ := h.2 h0; cases e
    subst hl
    simp [Conv.bytesToString]
    rfl
  | some ad =>
    have hld : (loadCells ad l.length).run P w = .ok (l.map (Value.int .u8)).toArray w := by
      have := run_loadCells_list (P := P) w ad (l.map (Value.int .u8)) (fun j v hj => by
        have hjl : j < l.length := by
          have := (List.getElem?_eq_some_iff.1 hj).1
          simpa using this
        obtain ⟨ad', e, hc⟩ := h.2 (by omega)
        injection e with e
        subst e
        exact hc j v hj)
      simpa using this
    rw [run_bytesToString w _ _ c l hld, foldl_push_bytes]
    simp [strOfNums, ByteArray.empty, ByteArray.emptyWithCapacity]
    rfl
/-- s[:k] as an equation, whatever the world. -/
theorem run_to {P : Program} {t e : TypeId} {z : Value} {sz bytes : Nat} (E : ElemT P t e z sz bytes) (W : World) (A : Option Addr) (n c k : Nat) (hk : k ≤ c) :
    (Instr.slice t (.slice A n c) none (some (.int .i64 (k : Int))) none).run P W = .ok (.slice A k c) W := by
  obtain ⟨i, hi, _, hs, _⟩ := info_parts E.info
  have he : P.elem t = e := by simp [Program.elem, E.under]
  have ht : P.underlying t = some (.slice (P.elem t)) := by rw [he]; exact E.under
  have := run_slice_h (P := P) W t A n c ht .i64 (k : Int) (by omega) (by omega)
  rw [this, he]
  cases A <;> simp [sizeOf, typeInfo, hi, hs, sliced, Addr.add]
/-- s[k:] as an equation, whatever the world. -/
theorem run_from {P : Program} {t e : TypeId} {z : Value} {sz bytes : Nat} (E : ElemT P t e z sz bytes) (W : World) (A : Option Addr) (n c k : Nat) (hk : k ≤ n) :
    (Instr.slice t (.slice A n c) (some (.int .i64 (k : Int))) none none).run P W = .ok (.slice (if c = k then A else A.map (·.add (k * sz))) (n - k) (c - k)) W := by
  obtain ⟨i, hi, _, hs, _⟩ := info_parts E.info
  have he : P.elem t = e := by simp [Program.elem, E.under]
  have ht : P.underlying t = some (.slice (P.elem t)) := by rw [he]; exact E.under
  have := run_slice_l (P := P) W t A n c ht .i64 (k : Int) (by omega) (by omega)
  rw [this, he]
  simp [sizeOf, typeInfo, hi, hs, sliced]
/-- s[lo:hi] as an equation, whatever the world. -/
theorem run_part {P : Program} {t e : TypeId} {z : Value} {sz bytes : Nat} (E : ElemT P t e z sz bytes) (W : World) (A : Option Addr) (n c lo hi : Nat) (h1 : lo ≤ hi) (h2 : hi ≤ c) :
    (Instr.slice t (.slice A n c) (some (.int .i64 (lo : Int))) (some (.int .i64 (hi : Int))) none).run P W = .ok (.slice (if c = lo then A else A.map (·.add (lo * sz))) (hi - lo) (c - lo)) W := by
  obtain ⟨i, hi', _, hs, _⟩ := info_parts E.info
  have he : P.elem t = e := by simp [Program.elem, E.under]
  have ht : P.underlying t = some (.slice (P.elem t)) := by rw [he]; exact E.under
  have := run_slice_lh (P := P) W t A n c ht .i64 .i64 (lo : Int) (hi : Int) (by omega) (by omega) (by omega)
  rw [this, he]
  simp [sizeOf, typeInfo, hi', hs, sliced]
theorem below_draws {w w' : World} (h : ∃ q, w' = w.drewN q) : Below w.heap.size w w' := by
  obtain ⟨q, rfl⟩ := h
  exact ⟨rfl, rfl, rfl, Nat.le_refl _, fun _ _ => rfl⟩
/-- Behind one new block. -/
theorem below_new {w w' : World} {o : Obj} (h : Below (w.alloc o).heap.size (w.alloc o) w') : Below w.heap.size w w' :=
  ((Below.refl _ _).alloc (Nat.le_refl _) o).trans (h.mono (by simp))
/-- Below upon Below, each from its own world's size on. -/
theorem bthen {w w1 w2 : World} (h : Below w.heap.size w w1) (k : Below w1.heap.size w1 w2) : Below w.heap.size w w2 := h.trans (k.mono h.size)
theorem Rd.oneM {α : Type} (f : α → Value) (w : World) (x : α) (t : TypeId) : Rd (w.alloc (.cells #[f x] t)) 1 (some ⟨w.heap.size, 0, none⟩) 1 ([x].map f) := Rd.one w (f x) t

theorem Ow.one {α : Type} (f : α → Value) (w : World) (x : α) (e : TypeId) {base : Nat} (hb : base ≤ w.heap.size) : Ow f (w.alloc (.cells #[f x] e)) base e (.slice (some ⟨w.heap.size, 0, none⟩) 1 1) [x] :=
  ⟨rfl, .inr ⟨w.heap.size, 1, #[f x], rfl, hb, heap_alloc_new w _, Nat.le_refl _, by simp [maxLen], rfl, rfl⟩⟩

theorem Ow.empty {α : Type} (f : α → Value) (w : World) (e : TypeId) {base : Nat} (hb : base ≤ w.heap.size) : Ow f (w.alloc (.cells #[] e)) base e (.slice (some ⟨w.heap.size, 0, none⟩) 0 0) ([] : List α) :=
  ⟨rfl, .inr ⟨w.heap.size, 0, #[], rfl, hb, heap_alloc_new w _, Nat.le_refl _, by simp, rfl, rfl⟩⟩
theorem le_alloc {B : Nat} {w : World} {o : Obj} (h : B ≤ w.heap.size) : B ≤ (w.alloc o).heap.size := by simp; omega
theorem new_block {B b n c : Nat} (h : B ≤ b) : ∀ k, (Value.slice (some ⟨b, 0, none⟩) n c).ownBlock = some k → B ≤ k := by intro k hk; simp [Value.ownBlock] at hk; omega

theorem wpList_apM {α : Type} (f : α → Value) {P : Program} (w : World) {ops : Array Oper} {rest : List Oper} {o : Oper} {a : Act} {Q : Exit → Act → World → Prop} {t e : TypeId} {z : Value} {bytes : Nat} (E : ElemT P t e z 1 bytes)
    (hgd : o.guard = none) {s x : Operand} (ho : o.op = .call { callee := .builtin .append, args := #[s, x], argTypes := #[t, t] })
    (hf : ∀ y, (f y).oneCell' = true) (base : Nat) (v : Value) (l : List α) (hs : a.eval s = v) (hown : Ow f w base e v l)
    (A : Option Addr) (m c : Nat) (news : List α) (hx : a.eval x = .slice A m c) (hr : Rd w 1 A m (news.map f))
    (hbase : base ≤ w.heap.size) (hbytes : (l.length + m) * bytes ≤ 140737488355328) (hpos : 0 < bytes)
    (h : ∀ v' w', Ow f w' base e v' (l ++ news) → Moves w w' v v' → wpList P ops Q rest (a.put o.dst v') w') :
    wpList P ops Q (o :: rest) a w := by
  have hlen := hr.lenMap
  subst hlen
  have h63 : l.length + news.length ≤ 140737488355328 := Nat.le_trans (Nat.le_mul_of_pos_right _ hpos) hbytes
  refine wpList_ap w E hgd ho base v l.length (l.map f) hs hown A news.length c (news.map f) hx hr (fun u hu => ?_) hbase h63 hbytes fun v' w' h1 h2 => h v' w' ?_ h2
  · obtain ⟨y, _, rfl⟩ := List.mem_map.1 hu; exact hf y
  · unfold Ow; rw [List.map_append, List.length_append]; exact h1
theorem one_bool (b : Bool) : (Value.bool b).oneCell' = true := rfl
theorem one_int (k : IntKind) (n : Int) : (Value.int k n).oneCell' = true := rfl

/-- A slice's length, for a measure. -/
def lenOf : Value → Nat | .slice _ n _ => n | _ => 0
theorem ret_eq {a b : Value} (h : a = b) : Ending.returned a = .returned b := by rw [h]
theorem int_eq {k : IntKind} {a b : Int} (h : a = b) : Value.int k a = .int k b := by rw [h]
theorem ret_int {k : IntKind} {a b : Int} (h : a = b) : Ending.returned (.int k a) = .returned (.int k b) := by rw [h]
theorem ret_bool {a b : Bool} (h : a = b) : Ending.returned (.bool a) = .returned (.bool b) := by rw [h]

/-! i64's bit operations on numbers that are not negative -/
theorem ofInt_i64 (a : Nat) (ha : a < 9223372036854775808) : (BitVec.ofInt 64 (a : Int)).toNat = a := by
  rw [BitVec.ofInt_natCast, BitVec.toNat_ofNat]; exact Nat.mod_eq_of_lt (by omega)
theorem wrap_i64_nat (a : Nat) (ha : a < 9223372036854775808) : IntKind.i64.wrap (a : Int) = (a : Int) := IntWalk.i64_in _ (by omega)
theorem i64_and_nat (a b : Nat) (ha : a < 9223372036854775808) (hb : b < 9223372036854775808) : bits .and .i64 (a : Int) (b : Int) = ((a &&& b : Nat) : Int) := by
  have hx : a &&& b < 2 ^ 63 := Nat.and_lt_two_pow _ (by omega)
  show IntKind.i64.wrap ((BitVec.ofInt 64 (a : Int) &&& BitVec.ofInt 64 (b : Int)).toNat : Int) = _
  rw [BitVec.toNat_and, ofInt_i64 a ha, ofInt_i64 b hb]
  exact wrap_i64_nat _ (by omega)
theorem i64_or_nat (a b : Nat) (ha : a < 9223372036854775808) (hb : b < 9223372036854775808) : bits .or .i64 (a : Int) (b : Int) = ((a ||| b : Nat) : Int) := by
  have hx : a ||| b < 2 ^ 63 := Nat.or_lt_two_pow (by omega) (by omega)
  show IntKind.i64.wrap ((BitVec.ofInt 64 (a : Int) ||| BitVec.ofInt 64 (b : Int)).toNat : Int) = _
  rw [BitVec.toNat_or, ofInt_i64 a ha, ofInt_i64 b hb]
  exact wrap_i64_nat _ (by omega)
theorem i64_xor_nat (a b : Nat) (ha : a < 9223372036854775808) (hb : b < 9223372036854775808) : bits .xor .i64 (a : Int) (b : Int) = ((a ^^^ b : Nat) : Int) := by
  have hx : a ^^^ b < 2 ^ 63 := Nat.xor_lt_two_pow (by omega) (by omega)
  show IntKind.i64.wrap ((BitVec.ofInt 64 (a : Int) ^^^ BitVec.ofInt 64 (b : Int)).toNat : Int) = _
  rw [BitVec.toNat_xor, ofInt_i64 a ha, ofInt_i64 b hb]
  exact wrap_i64_nat _ (by omega)
theorem i64_or_one (t : Int) (h0 : 0 ≤ t) (h1 : t < 4611686018427387904) : bits .or .i64 (t * 2) 1 = t * 2 + 1 := by
  obtain ⟨a, rfl⟩ := Int.eq_ofNat_of_zero_le h0
  have := i64_or_nat (a * 2) 1 (by omega) (by omega)
  simp only [Int.natCast_mul] at this
  refine this.trans ?_
  have h2 : a * 2 ||| 1 = a * 2 + 1 := by
    have := Nat.two_pow_add_eq_or_of_lt (b := 1) (i := 1) (by decide) a
    rw [Nat.mul_comm a 2]; simpa using this.symm
  omega
theorem i64_and_one (t : Int) (h0 : 0 ≤ t) (h1 : t < 9223372036854775808) : bits .and .i64 t 1 = t % 2 := by
  obtain ⟨a, rfl⟩ := Int.eq_ofNat_of_zero_le h0
  refine (i64_and_nat a 1 (by omega) (by omega)).trans ?_
  rw [Nat.and_one_is_mod]; omega

theorem wf_i64 {a : Int} (h : (Lit.int .i64 a).wf = true) : -9223372036854775808 ≤ a ∧ a ≤ 9223372036854775807 := by
  simpa [Lit.wf, IntKind.min, IntKind.max, IntKind.signed, IntKind.bits] using h
theorem wf_u8 {a : Int} (h : (Lit.int .u8 a).wf = true) : 0 ≤ a ∧ a ≤ 255 := by
  simpa [Lit.wf, IntKind.min, IntKind.max, IntKind.signed, IntKind.bits] using h
theorem wf_u16 {a : Int} (h : (Lit.int .u16 a).wf = true) : 0 ≤ a ∧ a ≤ 65535 := by
  simpa [Lit.wf, IntKind.min, IntKind.max, IntKind.signed, IntKind.bits] using h

/-- Lists from behind. -/
theorem snoc_rec {α : Type} {p : List α → Prop} (nil : p []) (snoc : ∀ l x, p l → p (l ++ [x])) (l : List α) : p l := by
  rw [← List.reverse_reverse l]
  induction l.reverse with
  | nil => exact nil
  | cons x r ih => rw [List.reverse_cons]; exact snoc _ _ ih
theorem take_snoc {α : Type} {l : List α} {k : Nat} {x : α} (h : l[k]? = some x) : l.take (k + 1) = l.take k ++ [x] := by
  rw [List.take_add_one, h]; rfl
theorem drop_cons {α : Type} {l : List α} {k : Nat} {x : α} (h : l[k]? = some x) : l.drop k = x :: l.drop (k + 1) := by
  obtain ⟨hk, rfl⟩ := List.getElem?_eq_some_iff.1 h
  exact List.drop_eq_getElem_cons hk
end Go.Proofs.Ytldkmopkakdgnaa
