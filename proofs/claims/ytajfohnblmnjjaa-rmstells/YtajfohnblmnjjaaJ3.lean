/-
  Slices whose elements have several cells (structs by value): what they read as. No statement of the seat is here.
-/
import Derived.Test.YtajfohnblmnjjaaBase
import Derived.Test.YtajfohnblmnjjaaBox
import Derived.Lib.AppendZerosOnto
import Derived.Test.YtajfohnblmnjjaaTypes
import Derived.Deep.AppendLies
import Derived.Test.YtajfohnblmnjjaaJ2
import Derived.Deep.DeepAppendWide
import Derived.BigQuiet
import Derived.Deep.QuietTactic
namespace Go.Proofs.Ytajfohnblmnjjaa
open Go.RowKit

section
variable {α : Type} {g : α → List Value} {m : Nat}
theorem flat_len (hg : ∀ x, (g x).length = m) (L : List α) : (L.flatMap g).length = L.length * m := by
  induction L with
  | nil => simp
  | cons x r ih => rw [List.flatMap_cons, List.length_append, hg, ih, List.length_cons, Nat.succ_mul]; omega
theorem flat_at (hg : ∀ x, (g x).length = m) {L : List α} {k j : Nat} {x : α} {u : Value} (hk : L[k]? = some x) (hj : (g x)[j]? = some u) : (L.flatMap g)[k * m + j]? = some u := by
  induction L generalizing k with
  | nil => cases hk
  | cons y r ih =>
    have hlt : j < (g x).length := (List.getElem?_eq_some_iff.1 hj).1
    rw [List.flatMap_cons]
    cases k with
    | zero =>
      simp at hk
      subst hk
      rw [Nat.zero_mul, Nat.zero_add, List.getElem?_append_left hlt]
      exact hj
    | succ k =>
      simp at hk
      rw [List.getElem?_append_right (by rw [hg, Nat.succ_mul]; omega), hg]
      have e : (k + 1) * m + j - m = k * m + j := by rw [Nat.succ_mul]; omega
      rw [e]
      exact ih hk
theorem Rd.lenFlat {w : World} {A : Option Addr} {n : Nat} {L : List α} (hg : ∀ x, (g x).length = m) (hm : 0 < m) (h : Rd w m A n (L.flatMap g)) : L.length = n := by
  have := h.1
  rw [flat_len hg] at this
  exact Nat.eq_of_mul_eq_mul_right hm this
theorem Rd.atFlat {w : World} {A : Option Addr} {n k : Nat} {L : List α} (hg : ∀ x, (g x).length = m) (hm : 0 < m) (h : Rd w m A n (L.flatMap g)) (hk : k < n) :
    ∃ ad x, A = some ad ∧ L[k]? = some x ∧ ∀ j u, (g x)[j]? = some u → w.cell? (ad.add (k * m + j)) = some u := by
  obtain ⟨ad, e, hc⟩ := h.2 (by omega)
  have hl := h.lenFlat hg hm
  have hx : L[k]? = some L[k] := List.getElem?_eq_getElem (by omega)
  exact ⟨ad, _, e, hx, fun j u hj => hc _ _ (flat_at hg hx hj)⟩
theorem Rd.litFlat (hg : ∀ x, (g x).length = m) {w : World} {b : Nat} (L : List α) (t : TypeId) (hb : b = w.heap.size) : Rd (w.alloc (.cells (L.flatMap g).toArray t)) m (some ⟨b, 0, none⟩) L.length (L.flatMap g) := by
  subst hb
  have h := Rd.lit w (L.flatMap g) t
  refine ⟨flat_len hg L, fun hn => ?_⟩
  rcases Nat.eq_zero_or_pos (L.flatMap g).length with h0 | h0
  · exact ⟨_, rfl, fun j u hu => by have := (List.getElem?_eq_some_iff.1 hu).1; omega⟩
  · exact h.2 h0
end
end Go.Proofs.Ytajfohnblmnjjaa

/-
  append(s, make([]T, k)...) onto a slice of the call's own, and a slice of the call's own cut short. No statement of the seat is here.
-/
namespace Go.Proofs.Ytajfohnblmnjjaa
open Go.RowKit

theorem zeroCells_list {z : Value} (hz : z.cells = #[z]) (n : Nat) : Builtin.zeroCells z.cells n = (List.replicate n z).toArray := by
  rw [hz]
  simp [Builtin.zeroCells]
  apply Array.ext
  · simp
  · intro i h1 h2
    simp [Nat.mod_one]

theorem run_apZ {P : Program} (w : World) {t tn e : TypeId} {z : Value} {bytes : Nat} (E : ElemT P t e z 1 bytes) (hz1 : z.cells = #[z]) (h1 : z.oneCell' = true) {kn : IntKind} (htn : P.underlying tn = some (.int kn)) (ty : TypeId) (kq : IntKind) (base : Nat)
    (v : Value) (n : Nat) (xs : List Value) (hown : w.ownsRow base e 1 v n xs) (k : Nat) (h0 : 0 < k)
    (hbase : base ≤ w.heap.size) (h63 : n + k ≤ 140737488355328) (hbytes : (n + k) * bytes ≤ 140737488355328) :
    ∃ v' w', (Builtin.append_ #[t, tn] ty #[v, .int kq k]).run P w = .ok v' w' ∧ w'.ownsRow base e 1 v' (n + k) (xs ++ List.replicate k z) ∧ Moves w w' v v' := by
  obtain ⟨i, hi, hz, hs, hb⟩ := info_parts E.info
  have hlen : n + k ≤ maxLen := by simp only [maxLen]; omega
  have hbk : k * i.bytes ≤ 281474976710656 := by
    have : k * bytes ≤ (n + k) * bytes := Nat.mul_le_mul_right _ (by omega)
    rw [hb]; omega
  have hxl : (xs ++ List.replicate k z).length = (n + k) * 1 := by rw [List.length_append, hown.1]; simp
  have grown : ∀ (old : Nat) (row : Option Nat),
      (w.drew.alloc (.cells (xs.toArray ++ Builtin.zeroCells z.cells k ++ Builtin.zeroCells z.cells (grownCap w (n + k) old e - (n + k))) e)).ownsRow base e 1
        (.slice (some ⟨w.heap.size, 0, none⟩) (n + k) (grownCap w (n + k) old e)) (n + k) (xs ++ List.replicate k z) ∧
      w.grownBy (w.drew.alloc (.cells (xs.toArray ++ Builtin.zeroCells z.cells k ++ Builtin.zeroCells z.cells (grownCap w (n + k) old e - (n + k))) e)) row := by
    intro old row
    have hge := grownCap_ge w (n + k) old e
    have hcm : grownCap w (n + k) old e ≤ maxLen := grownCap_le_maxLen w (n + k) old e hlen
    refine ⟨⟨hxl, .inr ⟨w.heap.size, _, _, rfl, hbase, heap_alloc_new w.drew _, hge, hcm, ?_, ?_⟩⟩, ⟨rfl, rfl, rfl, by simp, fun j hj _ => Below.heap_alloc w.drew _ j hj⟩⟩
    · simp only [Array.size_append, List.size_toArray, size_zeroCells, E.cells, hown.1]
      omega
    · rw [zeroCells_list hz1, Array.toList_append, Array.toList_append, ← hxl]
      exact List.take_left
  rcases hown.2 with ⟨rfl, rfl⟩ | ⟨g, cap, cur, rfl, hbg, hg, hnc, hcm, hcs, htake⟩
  · have hx : xs = [] := List.eq_nil_of_length_eq_zero (by simpa using hown.1)
    subst hx
    have hr := Lib.run_append_nil_zeros (P := P) w t tn ty e i z kq kn E.under htn hi hz k h0 (by rw [hs]; decide) (by omega) hbk
    have hgr := grown 0 (Value.ownBlock (.slice none 0 0))
    simp only [Nat.zero_add, List.nil_append, Array.empty_append] at hgr ⊢
    refine ⟨_, _, hr, hgr.1, hgr.2, .inr fun j hj => ?_⟩
    simp [Value.ownBlock] at hj
    omega
  · by_cases hroom : n + k ≤ cap
    · have hw : IntKind.i64.wrap (k : Int) = k := by rw [IntKind.wrap_i64]; omega
      have hneg : ¬ ((k : Int) < 0) := by omega
      have h48i : ¬ (281474976710656 < (k : Int) * (i.bytes : Int)) := by rw [← Int.natCast_mul]; omega
      have hk : k ≠ 0 := by omega
      have hst := run_storeCells_at P g n e (List.replicate k z) 0 cur w hg (by simp; omega) (by intro u hu; rw [List.eq_of_mem_replicate hu]; exact h1)
      simp only [Nat.add_zero] at hst
      have hrun : (Builtin.append_ #[t, tn] ty #[.slice (some ⟨g, 0, none⟩) n cap, .int kq k]).run P w = .ok (.slice (some ⟨g, 0, none⟩) (n + k) cap) (w.setRow g (cur.toList.take n ++ List.replicate k z ++ cur.toList.drop (n + (List.replicate k z).length)).toArray) := by
        simp [Builtin.append_, run_underlying E.under, run_underlying htn, sizeOf, typeInfo, zeroValue, hi, hz, hs, asInt, asIntOf, hw, hneg, h48i, hk, hroom, zeroCells_list hz1, Addr.add_lit, hst]
      refine ⟨.slice (some ⟨g, 0, none⟩) (n + k) cap, _, hrun, ⟨hxl, .inr ⟨g, cap, _, rfl, hbg, setRow_heap w g cur _ e _ hg, hroom, hcm, ?_, ?_⟩⟩, ⟨rfl, rfl, rfl, by simp, fun j _ hj => setRow_other w g j _ (fun e => hj (by simp [Value.ownBlock, e]))⟩, .inl rfl⟩
      · simp only [List.size_toArray, List.length_append, List.length_take, List.length_drop, Array.length_toList, List.length_replicate]
        omega
      · rw [← hxl]
        have : cur.toList.take n = xs := by simpa using htake
        rw [this]
        exact List.take_left
    · have holds : ∀ j u, xs[j]? = some u → w.drew.cell? ((⟨g, 0, none⟩ : Addr).add j) = some u := hown.cells (g := g) rfl
      have hold := run_firstCells_some (P := P) w.drew i.size n ⟨g, 0, none⟩ n cap xs (by rw [hs]; exact hown.1) holds
      have hr := Lib.run_append_grow_zeros (P := P) w t tn ty e i z kq kn E.under htn hi hz (some ⟨g, 0, none⟩) n cap xs hold k h0 (by rw [hs]; decide) (by omega) (by omega) hbk (by rw [hb]; exact growslice_fits (by omega) hbytes)
      have hgr := grown cap (Value.ownBlock (.slice (some ⟨g, 0, none⟩) n cap))
      refine ⟨_, _, hr, hgr.1, hgr.2, .inr fun j hj => ?_⟩
      simp [Value.ownBlock] at hj
      omega

theorem wpList_apZ {α : Type} (f : α → Value) (z0 : α) {P : Program} (w : World) {ops : Array Oper} {rest : List Oper} {o : Oper} {a : Act} {Q : Exit → Act → World → Prop} {t tn e : TypeId} {bytes : Nat} (E : ElemT P t e (f z0) 1 bytes)
    (hgd : o.guard = none) {s x : Operand} (ho : o.op = .call { callee := .builtin .append, args := #[s, x], argTypes := #[t, tn] })
    (hz1 : (f z0).cells = #[f z0]) (h1 : (f z0).oneCell' = true) {kn : IntKind} (htn : P.underlying tn = some (.int kn)) (base : Nat) (v : Value) (l : List α) (hs : a.eval s = v) (hown : Ow f w base e v l)
    {kq : IntKind} (k : Nat) (hx : a.eval x = .int kq k) (h0 : 0 < k)
    (hbase : base ≤ w.heap.size) (hbytes : (l.length + k) * bytes ≤ 140737488355328) (hpos : 0 < bytes)
    (h : ∀ v' w', Ow f w' base e v' (l ++ List.replicate k z0) → Moves w w' v v' → wpList P ops Q rest (a.put o.dst v') w') :
    wpList P ops Q (o :: rest) a w := by
  refine wpList_plain hgd fun K hK => ?_
  have h63 : l.length + k ≤ 140737488355328 := Nat.le_trans (Nat.le_mul_of_pos_right _ hpos) hbytes
  obtain ⟨v', w', hr, h2, h3⟩ := run_apZ (P := P) w E hz1 h1 htn o.type kq base v l.length (l.map f) hown k h0 hbase h63 hbytes
  unfold Oper.wp execOp
  simp only [ho, resolve, invoke, builtin, Sem.run_bind, Sem.run_pure, Result.andThen_ok, List.map_toArray, List.map_cons, List.map_nil, hs, hx, hr]
  refine hK _ _ (h v' w' ?_ h3)
  unfold Ow
  rw [List.map_append, List.length_append, List.map_replicate, List.length_replicate]
  exact h2

/-- s[:k] of a slice of the call's own. -/
theorem Ow.cutTo {α : Type} {f : α → Value} {w : World} {base : Nat} {e : TypeId} {A : Option Addr} {n c : Nat} {l : List α} (h : Ow f w base e (.slice A n c) l) {k : Nat} (hk : k ≤ n) : Ow f w base e (.slice A k c) (l.take k) := by
  have hn := h.len.1
  subst hn
  have hlk : (l.take k).length = k := by simp; omega
  refine ⟨by simp, ?_⟩
  rw [hlk]
  rcases h.2 with ⟨hv, h0⟩ | ⟨g, cap, cur, hv, hb, hg, h1, h2, h3, h4⟩
  · injection hv with hA _ hc
    subst hA hc
    exact .inl ⟨by rw [show k = 0 by omega], by omega⟩
  · injection hv with hA _ hc
    subst hA hc
    refine .inr ⟨g, c, cur, rfl, hb, hg, by omega, h2, h3, ?_⟩
    rw [List.map_take, ← h4, List.take_take]
    congr 1
    omega
/-- A slice of the call's own whose room was made: make([]T, n). -/
theorem Ow.make {α : Type} (f : α → Value) (z0 : α) (w : World) (e : TypeId) {base : Nat} (n : Nat) (hn : n ≤ maxLen) (hb : base ≤ w.heap.size) : Ow f (w.alloc (.cells (madeCells #[f z0] n) e)) base e (.slice (some ⟨w.heap.size, 0, none⟩) n n) (List.replicate n z0) := by
  have h := World.ownsRow_lit (base := base) (e := e) (size := 1) (cs := madeCells #[f z0] n) w n hb hn (by rw [size_madeCells]; simp)
  unfold Ow
  rw [List.length_replicate, List.map_replicate, ← toList_madeCells_one]
  exact h
end Go.Proofs.Ytajfohnblmnjjaa

/-
  make([]T, 0, c), and append where the room suffices: the slice stays where it is, whatever its size. No statement of the seat is here.
-/
namespace Go.Proofs.Ytajfohnblmnjjaa
open Go.RowKit

theorem run_make0 {P : Program} {t e : TypeId} {z : Value} {bytes : Nat} (E : ElemT P t e z 1 bytes) (hz1 : z.cells = #[z]) (kl kc : IntKind) (c : Nat) (hb : bytes * c ≤ 281474976710656) (hc : c ≤ 9223372036854775807) (w : World) :
    (Instr.makeSlice t (.int kl 0) (.int kc c)).run P w = .ok (.slice (some ⟨w.heap.size, 0, none⟩) 0 c) (w.alloc (.cells (madeCells #[z] c) e)) := by
  obtain ⟨i0, hi, hz0, hz1', hz2⟩ := info_parts E.info
  have hb' : ((i0.bytes : Int)) * (c : Int) ≤ 281474976710656 := by
    rw [hz2]
    have h : ((bytes * c : Nat) : Int) ≤ 281474976710656 := by omega
    rwa [Int.natCast_mul] at h
  have := run_make (P := P) w t e i0 z E.under hi hz0 kl kc 0 c (by omega) (by omega) hb' (by omega)
  simpa [hz1, hz1'] using this

theorem run_mk {P : Program} {t e : TypeId} {z : Value} {bytes : Nat} (E : ElemT P t e z 1 bytes) (hz1 : z.cells = #[z]) (kl kc : IntKind) (n c : Nat) (hnc : n ≤ c) (hb : bytes * c ≤ 281474976710656) (hc : c ≤ 9223372036854775807) (w : World) :
    (Instr.makeSlice t (.int kl n) (.int kc c)).run P w = .ok (.slice (some ⟨w.heap.size, 0, none⟩) n c) (w.alloc (.cells (madeCells #[z] c) e)) := by
  obtain ⟨i0, hi, hz0, hz1', hz2⟩ := info_parts E.info
  have hb' : ((i0.bytes : Int)) * (c : Int) ≤ 281474976710656 := by
    rw [hz2]
    have h : ((bytes * c : Nat) : Int) ≤ 281474976710656 := by omega
    rwa [Int.natCast_mul] at h
  have := run_make (P := P) w t e i0 z E.under hi hz0 kl kc n c (by omega) (by omega) hb' (by omega)
  simpa [hz1, hz1'] using this

theorem Ow.room {α : Type} (f : α → Value) (z0 : α) (w : World) (e : TypeId) {base : Nat} (c : Nat) (hc : c ≤ maxLen) (hb : base ≤ w.heap.size) : Ow f (w.alloc (.cells (madeCells #[f z0] c) e)) base e (.slice (some ⟨w.heap.size, 0, none⟩) 0 c) [] := by
  have := (Ow.make f z0 w e c hc hb).cutTo (k := 0) (Nat.zero_le _)
  simpa using this

theorem wpList_apR {α : Type} (f : α → Value) {P : Program} (w : World) {ops : Array Oper} {rest : List Oper} {o : Oper} {a : Act} {Q : Exit → Act → World → Prop} {t e : TypeId} {z : Value} {bytes : Nat} (E : ElemT P t e z 1 bytes)
    (hgd : o.guard = none) {s x : Operand} (ho : o.op = .call { callee := .builtin .append, args := #[s, x], argTypes := #[t, t] })
    (hf : ∀ y, (f y).oneCell' = true) (base g n cap : Nat) (l : List α) (hs : a.eval s = .slice (some ⟨g, 0, none⟩) n cap) (hown : Ow f w base e (.slice (some ⟨g, 0, none⟩) n cap) l)
    (A : Option Addr) (m c : Nat) (news : List α) (hx : a.eval x = .slice A m c) (hr : Rd w 1 A m (news.map f)) (hroom : n + m ≤ cap) (hm : 0 < m)
    (h : ∀ w', Ow f w' base e (.slice (some ⟨g, 0, none⟩) (n + m) cap) (l ++ news) → w.grownBy w' (some g) → wpList P ops Q rest (a.put o.dst (.slice (some ⟨g, 0, none⟩) (n + m) cap)) w') :
    wpList P ops Q (o :: rest) a w := by
  refine wpList_plain hgd fun K hK => ?_
  obtain ⟨i, hi, hz, hsz, hb⟩ := info_parts E.info
  have hlen := hr.lenMap
  subst hlen
  obtain ⟨ad, rfl, hcells⟩ := hr.2 hm
  have hn := hown.len.1
  subst hn
  rcases hown.2 with ⟨hv, _⟩ | ⟨g', cap', cur, hv, hbg, hg, hnc, hcm, hcs, htake⟩
  · cases hv
  · injection hv with h1 _ h3
    injection h1 with h1
    injection h1 with h1
    subst h1 h3
    have hrun := run_append_room (P := P) w t o.type e i E.under hi g l.length cap cur hg ad news.length c (news.map f) (by simp [hsz]) hcells (fun u hu => by obtain ⟨y, _, rfl⟩ := List.mem_map.1 hu; exact hf y) hroom (by rw [hsz, hcs]; simp; omega)
    rw [hsz] at hrun
    unfold Oper.wp execOp
    simp only [ho, resolve, invoke, builtin, Sem.run_bind, Sem.run_pure, Result.andThen_ok, List.map_toArray, List.map_cons, List.map_nil, hs, hx, hrun]
    refine hK _ _ (h _ ?_ ⟨rfl, rfl, rfl, by simp, fun j _ hj => setRow_other w g j _ (fun e => hj (by rw [e]))⟩)
    have hxl : (l ++ news).length = l.length + news.length := List.length_append
    refine ⟨by simp, .inr ⟨g, cap, _, by rw [hxl], hbg, setRow_heap w g cur _ e _ hg, by omega, hcm, ?_, ?_⟩⟩
    · simp only [List.size_toArray, List.length_append, List.length_take, List.length_drop, Array.length_toList, List.length_map]
      omega
    · rw [htake, List.map_append]
      have : (l.map f ++ news.map f).length = (l ++ news).length * 1 := by simp
      rw [← this]
      exact List.take_left
end Go.Proofs.Ytajfohnblmnjjaa

/-
  Slices of the call's own whose elements are structs of any kind (C x: the cells of x, sz of them); appends onto them, stores into them. No statement of the seat is here.
-/
namespace Go.Proofs.Ytajfohnblmnjjaa
open Go.RowKit
set_option linter.unusedVariables false

/-- What is asked of the cells of an element. -/
structure CellsG {α : Type} (C : α → List Value) (sz : Nat) : Prop where
  len : ∀ x, (C x).length = sz
  pos : 0 < sz
  one : ∀ x, ∀ u ∈ C x, u.oneCell' = true
abbrev RdG {α : Type} (C : α → List Value) (sz : Nat) (w : World) (A : Option Addr) (n : Nat) (L : List α) : Prop := Rd w sz A n (L.flatMap C)
def OwG {α : Type} (C : α → List Value) (sz : Nat) (w : World) (base : Nat) (e : TypeId) (v : Value) (L : List α) : Prop := w.ownsRow base e sz v L.length (L.flatMap C)

section
variable {α : Type} {C : α → List Value} {sz : Nat}
theorem RdG.len (K : CellsG C sz) {w : World} {A : Option Addr} {n : Nat} {L : List α} (h : RdG C sz w A n L) : L.length = n := Rd.lenFlat K.len K.pos h
theorem RdG.at_ (K : CellsG C sz) {w : World} {A : Option Addr} {n k : Nat} {L : List α} (h : RdG C sz w A n L) (hk : k < n) :
    ∃ ad x, A = some ad ∧ L[k]? = some x ∧ ∀ j u, (C x)[j]? = some u → w.cell? (ad.add (k * sz + j)) = some u := Rd.atFlat K.len K.pos h hk
/-- The cells in the walk's own spelling. -/
theorem RdG.cells (K : CellsG C sz) {w : World} {A : Option Addr} {n k : Nat} {L : List α} (h : RdG C sz w A n L) (hk : k < n) :
    ∃ ad x, A = some ad ∧ L[k]? = some x ∧ (∀ u, (C x)[0]? = some u → w.cell? (ad.add (k * sz)) = some u) ∧ ∀ j u, (C x)[j + 1]? = some u → w.cell? ⟨(ad.add (k * sz)).block, (ad.add (k * sz)).off + (j + 1), none⟩ = some u := by
  obtain ⟨ad, x, e, hx, hc⟩ := RdG.at_ K h hk
  refine ⟨ad, x, e, hx, fun u hu => hc 0 u hu, fun j u hu => ?_⟩
  have := hc (j + 1) u hu
  rw [← ad_add] at this
  have e2 : ∀ b : Addr, b.add (j + 1) = ⟨b.block, b.off + (j + 1), none⟩ := fun b => by
    unfold Addr.add
    rw [if_neg (by omega)]
  rwa [e2] at this
theorem one_flat (K : CellsG C sz) (L : List α) : ∀ u ∈ L.flatMap C, u.oneCell' = true := by
  intro u hu
  obtain ⟨s, _, hs⟩ := List.mem_flatMap.1 hu
  exact K.one s u hs
section
variable {w w' : World} {base : Nat} {e : TypeId} {v : Value} {L : List α}
theorem OwG.nil (w : World) (base : Nat) (e : TypeId) : OwG C sz w base e (.slice none 0 0) [] := World.ownsRow_nil w base e sz
theorem OwG.alloc (h : OwG C sz w base e v L) (o : Obj) : OwG C sz (w.alloc o) base e v L := World.ownsRow.alloc h o
theorem OwG.below (h : OwG C sz w base e v L) (hb : Below w.heap.size w w') : OwG C sz w' base e v L := own_below h hb
theorem OwG.mono {base' : Nat} (h : OwG C sz w base e v L) (hb : base' ≤ base) : OwG C sz w base' e v L := own_mono h hb
theorem OwG.block (h : OwG C sz w base e v L) : ∀ k, v.ownBlock = some k → base ≤ k := fun k hk => (World.ownsRow.lt h k hk).1
theorem OwG.inHeap (h : OwG C sz w base e v L) : ∀ k, v.ownBlock = some k → k < w.heap.size := fun k hk => (World.ownsRow.lt h k hk).2
theorem OwG.moves {x x' : Value} (h : OwG C sz w base e v L) (hm : Moves w w' x x') (hne : ∀ k, v.ownBlock = some k → x.ownBlock ≠ some k) : OwG C sz w' base e v L :=
  World.ownsRow.kept h hm.1 (by
    cases hv : v.ownBlock with
    | none => exact .inl rfl
    | some k => exact .inr fun h2 => hne k hv h2.symm)
theorem OwG.keep {row : Option Nat} (h : OwG C sz w base e v L) (hg : w.grownBy w' row) (hne : ∀ k, v.ownBlock = some k → some k ≠ row) : OwG C sz w' base e v L :=
  World.ownsRow.kept h hg (by
    cases hv : v.ownBlock with
    | none => exact .inl rfl
    | some k => exact .inr fun h2 => hne k hv h2)
theorem OwG.formN (h : OwG C sz w base e v L) {n : Nat} (hn : L.length = n) : ∃ A c, v = .slice A n c ∧ n ≤ c ∧ c ≤ maxLen ∧ RdG C sz w A n L := by
  subst hn
  obtain ⟨A, c, rfl, h1, h2⟩ := own_form h
  exact ⟨A, c, rfl, h1, h2, Rd.own h⟩
theorem OwG.rd {A : Option Addr} {n c : Nat} (h : OwG C sz w base e (.slice A n c) L) : RdG C sz w A n L := by
  obtain ⟨A', c', hv, _⟩ := own_form h
  injection hv with _ hn _
  subst hn
  exact Rd.own h
theorem OwG.lenN {A : Option Addr} {n c : Nat} (h : OwG C sz w base e (.slice A n c) L) : n = L.length ∧ n ≤ c ∧ c ≤ maxLen := by
  obtain ⟨A', c', hv, h1, h2⟩ := own_form h
  injection hv with _ hn hc
  subst hn hc
  exact ⟨rfl, h1, h2⟩
theorem OwG.head (h : OwG C sz w base e v L) (hl : 0 < L.length) : ∃ g c, v = .slice (some ⟨g, 0, none⟩) L.length c ∧ base ≤ g ∧ L.length ≤ c ∧ c ≤ maxLen := by
  rcases h.2 with ⟨_, h0⟩ | ⟨g, cap, cur, hv, hb, _, h1, h2, _⟩
  · omega
  · exact ⟨g, cap, hv, hb, h1, h2⟩
theorem OwG.empty (w : World) (e : TypeId) {base : Nat} (hb : base ≤ w.heap.size) : OwG C sz (w.alloc (.cells #[] e)) base e (.slice (some ⟨w.heap.size, 0, none⟩) 0 0) [] :=
  ⟨by simp, .inr ⟨w.heap.size, 0, #[], rfl, hb, heap_alloc_new w _, Nat.le_refl _, by simp, by simp, by simp⟩⟩
end
/-- Element k rewritten, one cell of it. -/
theorem flat_put (hl : ∀ x, (C x).length = sz) : ∀ {L : List α} {k j : Nat} {x y : α} {u : Value}, L[k]? = some x → j < sz → C y = (C x).set j u → (L.flatMap C).set (k * sz + j) u = (L.set k y).flatMap C
  | [], k, j, x, y, u, h, _, _ => by cases h
  | z :: r, 0, j, x, y, u, h, hj, hy => by
    simp at h
    subst h
    rw [List.flatMap_cons, List.set_cons_zero, List.flatMap_cons, Nat.zero_mul, Nat.zero_add, List.set_append_left _ _ (by rw [hl]; exact hj), hy]
  | z :: r, k + 1, j, x, y, u, h, hj, hy => by
    have ih := flat_put hl (L := r) (k := k) (j := j) (x := x) (y := y) (u := u) (by simpa using h) hj hy
    rw [List.flatMap_cons, List.set_cons_succ, List.flatMap_cons, ← ih, List.set_append_right _ _ (by rw [hl, Nat.succ_mul]; omega), hl]
    congr 2
    rw [Nat.succ_mul]; omega
section
variable {w : World} {base g n c : Nat} {e : TypeId} {L : List α}
theorem OwG.cellAt (K : CellsG C sz) (h : OwG C sz w base e (.slice (some ⟨g, 0, none⟩) n c) L) {k j : Nat} {s : α} {u : Value} (hk : L[k]? = some s) (hj : (C s)[j]? = some u) : w.cell? ⟨g, k * sz + j, none⟩ = some u := by
  obtain ⟨A, c', hv, _⟩ := own_form h
  injection hv with _ hn _
  subst hn
  have hlt := (List.getElem?_eq_some_iff.1 hk).1
  have hjl := (List.getElem?_eq_some_iff.1 hj).1
  rw [K.len] at hjl
  have : k * sz + j < L.length * sz := by
    have : (k + 1) * sz ≤ L.length * sz := Nat.mul_le_mul_right _ hlt
    rw [Nat.succ_mul] at this
    omega
  rw [World.ownsRow.cellAt h (k * sz + j) this]
  exact flat_at K.len hk hj
theorem OwG.freeAt (h : OwG C sz w base e (.slice (some ⟨g, 0, none⟩) n c) L) (j : Nat) : w.frozen? ⟨g, j, none⟩ = false := by
  obtain ⟨A, c', hv, _⟩ := own_form h
  injection hv with _ hn _
  subst hn
  exact World.ownsRow.frozenAt h j
/-- One cell of an element stored. -/
theorem OwG.put (K : CellsG C sz) (h : OwG C sz w base e (.slice (some ⟨g, 0, none⟩) n c) L) {k j : Nat} {x y : α} {u : Value} (hk : L[k]? = some x) (hj : j < sz) (hy : C y = (C x).set j u) : OwG C sz (w.setCell ⟨g, k * sz + j, none⟩ u) base e (.slice (some ⟨g, 0, none⟩) n c) (L.set k y) := by
  obtain ⟨A, c', hv, _⟩ := own_form h
  injection hv with _ hn _
  subst hn
  have := (World.ownsRow.stored h (k * sz + j) u).1
  unfold OwG
  rw [List.length_set, ← flat_put K.len hk hj hy]
  exact this
end
/-- An append onto such a slice. -/
theorem wpList_apG (K : CellsG C sz) {P : Program} (w : World) {ops : Array Oper} {rest : List Oper} {o : Oper} {a : Act} {Q : Exit → Act → World → Prop} {t e : TypeId} {z : Value} {bytes : Nat} (E : ElemT P t e z sz bytes)
    (hgd : o.guard = none) {s x : Operand} (ho : o.op = .call { callee := .builtin .append, args := #[s, x], argTypes := #[t, t] })
    (base : Nat) (v : Value) (L : List α) (hs : a.eval s = v) (hown : OwG C sz w base e v L)
    (A : Option Addr) (m c : Nat) (news : List α) (hx : a.eval x = .slice A m c) (hr : RdG C sz w A m news)
    (hbase : base ≤ w.heap.size) (h63 : L.length + m ≤ 140737488355328) (hbytes : (L.length + m) * bytes ≤ 140737488355328)
    (h : ∀ v' w', OwG C sz w' base e v' (L ++ news) → Moves w w' v v' → wpList P ops Q rest (a.put o.dst v') w') :
    wpList P ops Q (o :: rest) a w := by
  have hlen := RdG.len K hr
  subst hlen
  refine wpList_ap w E hgd ho base v L.length _ hs hown A news.length c _ hx hr (one_flat K news) hbase h63 hbytes fun v' w' h1 h2 => h v' w' ?_ h2
  unfold OwG
  rw [List.flatMap_append, List.length_append]
  exact h1
/-- The same, as one operation of a region. -/
theorem wp_apG (K : CellsG C sz) {P : Program} (w : World) {o : Oper} {a : Act} {T : Act → World → Prop} {Q : Exit → Act → World → Prop} {t e : TypeId} {z : Value} {bytes : Nat} (E : ElemT P t e z sz bytes)
    {s x : Operand} (ho : o.op = .call { callee := .builtin .append, args := #[s, x], argTypes := #[t, t] })
    (base : Nat) (v : Value) (L : List α) (hs : a.eval s = v) (hown : OwG C sz w base e v L)
    (A : Option Addr) (m c : Nat) (news : List α) (hx : a.eval x = .slice A m c) (hr : RdG C sz w A m news)
    (hbase : base ≤ w.heap.size) (h63 : L.length + m ≤ 140737488355328) (hbytes : (L.length + m) * bytes ≤ 140737488355328)
    (h : ∀ v' w', OwG C sz w' base e v' (L ++ news) → Moves w w' v v' → T (a.put o.dst v') w') : Oper.wp P o a w T Q := by
  have hlen := RdG.len K hr
  subst hlen
  obtain ⟨v', w', hrun, h2, h3⟩ := run_ap (P := P) w E o.type base v L.length _ hown A news.length c _ hr (one_flat K news) hbase h63 hbytes
  unfold Oper.wp execOp
  simp only [ho, resolve, invoke, builtin, Sem.run_bind, Sem.run_pure, Result.andThen_ok, List.map_toArray, List.map_cons, List.map_nil, hs, hx, hrun]
  refine h v' w' ?_ h3
  unfold OwG
  rw [List.flatMap_append, List.length_append]
  exact h2
/-- make([]T, n, c) of structs. -/
theorem run_mkG {P : Program} {t e : TypeId} {z : Value} {bytes : Nat} (E : ElemT P t e z sz bytes) (kl kc : IntKind) (n c : Nat) (hnc : n ≤ c) (hb : bytes * c ≤ 281474976710656) (hc : c ≤ 9223372036854775807) (w : World) :
    (Instr.makeSlice t (.int kl n) (.int kc c)).run P w = .ok (.slice (some ⟨w.heap.size, 0, none⟩) n c) (w.alloc (.cells (madeCells z.cells (c * sz)) e)) := by
  obtain ⟨i0, hi, hz0, hz1', hz2⟩ := info_parts E.info
  have hb' : ((i0.bytes : Int)) * (c : Int) ≤ 281474976710656 := by
    rw [hz2]
    have h : ((bytes * c : Nat) : Int) ≤ 281474976710656 := by omega
    rwa [Int.natCast_mul] at h
  have := run_make (P := P) w t e i0 z E.under hi hz0 kl kc n c (by omega) (by omega) hb' (by omega)
  simpa [hz1'] using this
theorem made_flat (K : CellsG C sz) {z : Value} {z0 : α} (hz : C z0 = z.cells.toList) (n : Nat) : (madeCells z.cells (n * sz)).toList = (List.replicate n z0).flatMap C := by
  have hs : z.cells.size = sz := by rw [← Array.length_toList, ← hz, K.len]
  refine List.ext_getElem? fun j => ?_
  by_cases hj : j < n * sz
  · have hm : j % sz < sz := Nat.mod_lt _ K.pos
    have hd : j / sz < n := Nat.div_lt_of_lt_mul (by rw [Nat.mul_comm]; exact hj)
    have hu : (C z0)[j % sz]? = some z.cells[j % sz]! := by
      rw [hz, Array.getElem?_toList, Array.getElem?_eq_getElem (by omega)]
      simp [getElem!_pos, hs, hm]
    have h1 := flat_at K.len (show (List.replicate n z0)[j / sz]? = some z0 by rw [List.getElem?_replicate, if_pos hd]) hu
    rw [show j / sz * sz + j % sz = j by rw [Nat.mul_comm]; exact Nat.div_add_mod j sz] at h1
    rw [h1]
    simp [madeCells, hj, hs]
  · rw [List.getElem?_eq_none (by simp [madeCells]; omega), List.getElem?_eq_none (by rw [flat_len K.len, List.length_replicate]; omega)]
/-- A slice of the call's own whose room was made: make([]T, n). -/
theorem OwG.make (K : CellsG C sz) {z : Value} {z0 : α} (hz : C z0 = z.cells.toList) (w : World) (e : TypeId) {base : Nat} (n : Nat) (hn : n ≤ maxLen) (hb : base ≤ w.heap.size) : OwG C sz (w.alloc (.cells (madeCells z.cells (n * sz)) e)) base e (.slice (some ⟨w.heap.size, 0, none⟩) n n) (List.replicate n z0) := by
  have h := World.ownsRow_lit (base := base) (e := e) (size := sz) (cs := madeCells z.cells (n * sz)) w n hb hn (by rw [size_madeCells])
  unfold OwG
  rw [List.length_replicate, ← made_flat K hz]
  exact h
end
/-- A reading kept where another block grows. -/
theorem Rd.grownG {w w' : World} {sz n : Nat} {A : Option Addr} {xs : List Value} {row : Option Nat} (h : Rd w sz A n xs) (hg : w.grownBy w' row) (hne : ∀ ad, A = some ad → some ad.block ≠ row) : Rd w' sz A n xs := by
  refine ⟨h.1, fun hn => ?_⟩
  obtain ⟨ad, e, hc⟩ := h.2 hn
  refine ⟨ad, e, fun j u hu => ?_⟩
  rw [hg.cell_far _ (World.block_lt_of_cell? w _ (hc j u hu)) (by rw [ad_block]; exact hne ad e)]
  exact hc j u hu
end Go.Proofs.Ytajfohnblmnjjaa

/-
  Tasks as values and cells. No statement of the seat is here.
-/
namespace Go.Proofs.Ytajfohnblmnjjaa
open Go.RowKit
set_option linter.unusedVariables false

abbrev tskV (t : Tsk) : Value := .agg #[.int .i64 t.p, .int .i64 t.c]
theorem tskK : CellsG tskC 2 := ⟨fun _ => rfl, by decide, fun m u hu => by
  simp [tskC] at hu
  rcases hu with rfl | rfl <;> rfl⟩
theorem tkK : CellsG tkC 2 := ⟨fun _ => rfl, by decide, fun m u hu => by
  simp [tkC] at hu
  rcases hu with rfl | rfl <;> rfl⟩
theorem elTask : ElemT Try.prog 22 38 (.agg #[.int .i64 0, .int .i64 0]) 2 16 := ⟨Try.underlying22, by kernel_rfl, rfl, by decide⟩
/-- The cells of a task in the walk's own spelling. -/
theorem tsk_at {w : World} {A : Option Addr} {n k : Nat} {L : List Tsk} (h : RdG tskC 2 w A n L) (hk : k < n) :
    ∃ ad x, A = some ad ∧ L[k]? = some x ∧ w.cell? (ad.add (k * 2)) = some (.int .i64 x.p) ∧ w.cell? ⟨(ad.add (k * 2)).block, (ad.add (k * 2)).off + 1, none⟩ = some (.int .i64 x.c) := by
  obtain ⟨ad, x, e, hx, h0, h1⟩ := RdG.cells tskK h hk
  exact ⟨ad, x, e, hx, h0 _ rfl, h1 0 _ rfl⟩
theorem tk_at {w : World} {A : Option Addr} {n k : Nat} {M : List Tk} (h : RdG tkC 2 w A n M) (hk : k < n) :
    ∃ ad p c, A = some ad ∧ M[k]? = some ⟨p, c⟩ ∧ w.cell? (ad.add (k * 2)) = some (.int .i64 (p : Int)) ∧ w.cell? ⟨(ad.add (k * 2)).block, (ad.add (k * 2)).off + 1, none⟩ = some (.int .i64 (c : Int)) := by
  obtain ⟨ad, x, e, hx, h0, h1⟩ := RdG.cells tkK h hk
  exact ⟨ad, x.p, x.c, e, hx, h0 _ rfl, h1 0 _ rfl⟩
theorem tk_rd {w : World} {A : Option Addr} {n : Nat} {M : List Tk} (h : RdG tskC 2 w A n (M.map Tk.asT)) : RdG tkC 2 w A n M := by
  show Rd w 2 A n (M.flatMap tkC)
  rw [← tk_flat]
  exact h
theorem below_one {w : World} (o : Obj) : Below w.heap.size w (w.alloc o) := (Below.refl _ _).alloc (Nat.le_refl _) o
end Go.Proofs.Ytajfohnblmnjjaa

/-
  append onto a slice of the call's own, with the bound of growslice's own test: up to 1.6 times 2^47 bytes. No statement of the seat is here.
-/
namespace Go.Proofs.Ytajfohnblmnjjaa
open Go.RowKit

section
variable {P : Program} (w : World)
theorem run_apW {t e : TypeId} {z : Value} {sz bytes : Nat} (E : ElemT P t e z sz bytes) (ty : TypeId) (base : Nat)
    (v : Value) (n : Nat) (xs : List Value) (hown : w.ownsRow base e sz v n xs)
    (A : Option Addr) (m c : Nat) (news : List Value) (hr : Rd w sz A m news) (h1 : ∀ u ∈ news, u.oneCell' = true)
    (hbase : base ≤ w.heap.size) (h63 : n + m ≤ maxLen) (hbytes : ((n + m) + (n + m) / 4 + 192) * bytes ≤ 281474976710656) :
    ∃ v' w', (Builtin.append_ #[t, t] ty #[v, .slice A m c]).run P w = .ok v' w' ∧ w'.ownsRow base e sz v' (n + m) (xs ++ news) ∧ Moves w w' v v' := by
  obtain ⟨i, hi, hz, hs, hb⟩ := info_parts E.info
  subst hs hb
  have hsmall : n + m ≤ 9223372036854775807 := by simp only [maxLen] at h63; omega
  cases A with
  | none =>
    have hm : m = 0 := by
      rcases Nat.eq_zero_or_pos m with h0 | h0
      · exact h0
      · obtain ⟨ad, h, _⟩ := hr.2 h0; cases h
    subst hm
    obtain rfl : news = [] := List.eq_nil_of_length_eq_zero (by simpa using hr.1)
    refine ⟨v, w, ?_, by simpa using hown, Moves.refl _ _⟩
    have ht := E.under
    rcases hown.2 with ⟨rfl, rfl⟩ | ⟨g, cap, cur, rfl, _, _, hnc, _⟩
    · simp [Builtin.append_, run_underlying ht, sizeOf, typeInfo, hi, Builtin.lenOf, Builtin.firstCells]
    · simp [Builtin.append_, run_underlying ht, sizeOf, typeInfo, hi, Builtin.lenOf, Builtin.firstCells, hnc, storeCells]
  | some ad =>
    have hcells : ∀ j u, news[j]? = some u → w.cell? (ad.add j) = some u := by
      intro j u hu
      rcases Nat.eq_zero_or_pos m with h0 | h0
      · subst h0
        obtain rfl : news = [] := List.eq_nil_of_length_eq_zero (by simpa using hr.1)
        simp at hu
      · obtain ⟨ad', h, hc⟩ := hr.2 h0
        injection h with h
        subst h
        exact hc j u hu
    obtain ⟨v', w', hrun, h2, h3, _⟩ := run_append_own_wide (P := P) w base t ty e i z i.size i.bytes E.under hi hz rfl rfl E.cells E.pos v n xs hown ad m c news hr.1 hcells h1 h63 hbytes hbase
    refine ⟨v', w', hrun, h2, h3, ?_⟩
    rcases hown.2 with ⟨rfl, rfl⟩ | ⟨g, cap, cur, rfl, hbg, hg, hnc, hcm, hcs, htake⟩
    · obtain rfl : xs = [] := List.eq_nil_of_length_eq_zero (by simpa using hown.1)
      obtain ⟨v1, w1, hrun1, h21, _⟩ := run_append_own_wide (P := P) w w.heap.size t ty e i z i.size i.bytes E.under hi hz rfl rfl E.cells E.pos (.slice none 0 0) 0 [] (World.ownsRow_nil w w.heap.size e i.size) ad m c news hr.1 hcells h1 h63 hbytes (Nat.le_refl _)
      obtain ⟨rfl, rfl⟩ : v' = v1 ∧ w' = w1 := by have := hrun.symm.trans hrun1; injection this with e1 e2; exact ⟨e1, e2⟩
      exact .inr fun k hk => (h21.lt k hk).1
    · by_cases hroom : n + m ≤ cap
      · have hfit : n * i.size + news.length ≤ cur.size := by rw [hr.1, hcs, ← Nat.add_mul]; exact Nat.mul_le_mul_right _ hroom
        have hr2 := run_append_room (P := P) w t ty e i E.under hi g n cap cur hg ad m c news hr.1 hcells h1 hroom hfit
        have := hrun.symm.trans hr2
        injection this with e1 _
        subst e1
        exact .inl rfl
      · have hr2 := run_append_grow (P := P) w t ty e i z E.under hi hz ⟨g, 0, none⟩ n cap xs hown.1 (hown.cells (g := g) rfl) ad m c news hr.1 hcells (by omega) (by omega) (growslice_fits_wide (by omega) hbytes)
        have := hrun.symm.trans hr2
        injection this with e1 _
        subst e1
        exact .inr fun k hk => by simp [Value.ownBlock] at hk; omega

end

theorem wpList_apW {α : Type} (f : α → Value) {P : Program} (w : World) {ops : Array Oper} {rest : List Oper} {o : Oper} {a : Act} {Q : Exit → Act → World → Prop} {t e : TypeId} {z : Value} {bytes : Nat} (E : ElemT P t e z 1 bytes)
    (hgd : o.guard = none) {s x : Operand} (ho : o.op = .call { callee := .builtin .append, args := #[s, x], argTypes := #[t, t] })
    (hf : ∀ y, (f y).oneCell' = true) (base : Nat) (v : Value) (l : List α) (hs : a.eval s = v) (hown : Ow f w base e v l)
    (A : Option Addr) (m c : Nat) (news : List α) (hx : a.eval x = .slice A m c) (hr : Rd w 1 A m (news.map f))
    (hbase : base ≤ w.heap.size) (hbytes : ((l.length + m) + (l.length + m) / 4 + 192) * bytes ≤ 281474976710656) (hpos : 0 < bytes)
    (h : ∀ v' w', Ow f w' base e v' (l ++ news) → Moves w w' v v' → wpList P ops Q rest (a.put o.dst v') w') :
    wpList P ops Q (o :: rest) a w := by
  refine wpList_plain hgd fun K hK => ?_
  have hlen := hr.lenMap
  subst hlen
  have h63 : l.length + news.length ≤ maxLen := by
    have := Nat.le_mul_of_pos_right ((l.length + news.length) + (l.length + news.length) / 4 + 192) hpos
    simp only [maxLen]
    omega
  obtain ⟨v', w', hrun, h2, h3⟩ := run_apW (P := P) w E o.type base v l.length (l.map f) hown A news.length c (news.map f) hr (fun u hu => by obtain ⟨y, _, rfl⟩ := List.mem_map.1 hu; exact hf y) hbase h63 hbytes
  unfold Oper.wp execOp
  simp only [ho, resolve, invoke, builtin, Sem.run_bind, Sem.run_pure, Result.andThen_ok, List.map_toArray, List.map_cons, List.map_nil, hs, hx, hrun]
  refine hK _ _ (h v' w' ?_ h3)
  unfold Ow
  rw [List.map_append, List.length_append]
  exact h2
end Go.Proofs.Ytajfohnblmnjjaa

/-
  Contracts of functions of package slices at the types that the laws use. No statement of the seat is here.
-/
namespace Go.Proofs.Ytajfohnblmnjjaa
open Go.RowKit
set_option linter.unusedVariables false

end Go.Proofs.Ytajfohnblmnjjaa
