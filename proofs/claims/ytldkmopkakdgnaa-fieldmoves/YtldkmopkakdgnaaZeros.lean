/-
  append(s, make([]T, k)...) onto a slice of the call's own, and a slice of the call's own cut short. No statement of the seat is here.
-/
import Derived.Test.YtldkmopkakdgnaaBox
import Derived.Lib.AppendZerosOnto
namespace Go.Proofs.Ytldkmopkakdgnaa
open Go.RowKit
set_option maxRecDepth 20000

theorem zeroCells_list {z : Value} (hz : z.cells = #[z]) (n : Nat) : Builtin.zeroCells z.cells n = (List.replicate n z).toArray := by
  rw [hz]
  simp [Builtin.zeroCells]
  apply Array.ext
  · simp
  · intro i h1 h2
    simp [Nat.mod_one]

theorem run_apZ {P : Program} (w : World) {t tn e : TypeId} {z : Value} {bytes : Nat} (E : ElemT P t e z 1 bytes) (hz1 : z.cells = #[z]) (h1 : z.oneCell' = true) {kn : IntKind} (htn : P.underlying tn = some (.int kn)) (ty : TypeId) (kq : IntKind) (base : Nat)
    (v : Value) (n : Nat) (xs : List Value) (hown : w.ownsRow base e 1 v n xs) (k : Nat) (h0 : 0 < k)
    (hbase : base ≤ w.heap.size) (h63 : n + k ≤ 140737488355328) (hbytes : (n + k) * bytes ≤ 140737488355328) :
    ∃ v' w', (Builtin.append_ #[t, tn] ty #[v, .int kq k]).run P w = .ok v' w' ∧ w'.ownsRow base e 1 v' (n + k) (xs ++ List.replicate k z) ∧ Moves w w' v v' := by
  obtain ⟨i, hi, hz, hs, hb⟩ := info_parts E.info
  have hlen : n + k ≤ maxLen := by simp only [maxLen]; omega
  have hbk : k * i.bytes ≤ 281474976710656 := by
    have : k * bytes ≤ (n + k) * bytes := Nat.mul_le_mul_right _ (by omega)
    rw [hb]; omega
  have hxl : (xs ++ List.replicate k z).length = (n + k) * 1 := by rw [List.length_append, hown.1]; simp
  have grown : ∀ (old : Nat) (row : Option Nat),
      (w.drew.alloc (.cells (xs.toArray ++ Builtin.zeroCells z.cells k ++ Builtin.zeroCells z.cells (grownCap w (n + k) old e - (n + k))) e)).ownsRow base e 1
        (.slice (some ⟨w.heap.size, 0, none⟩) (n + k) (grownCap w (n + k) old e)) (n + k) (xs ++ List.replicate k z) ∧
      w.grownBy (w.drew.alloc (.cells (xs.toArray ++ Builtin.zeroCells z.cells k ++ Builtin.zeroCells z.cells (grownCap w (n + k) old e - (n + k))) e)) row := by
    intro old row
    have hge := grownCap_ge w (n + k) old e
    have hcm : grownCap w (n + k) old e ≤ maxLen := grownCap_le_maxLen w (n + k) old e hlen
    refine ⟨⟨hxl, .inr ⟨w.heap.size, _, _, rfl, hbase, heap_alloc_new w.drew _, hge, hcm, ?_, ?_⟩⟩, ⟨rfl, rfl, rfl, by simp, fun j hj _ => Below.heap_alloc w.drew _ j hj⟩⟩
    · simp only [Array.size_append, List.size_toArray, size_zeroCells, E.cells, hown.1]
      omega
    · rw [zeroCells_list hz1, Array.toList_append, Array.toList_append, ← hxl]
      exact List.take_left
  rcases hown.2 with ⟨rfl, rfl⟩ | ⟨g, cap, cur, rfl, hbg, hg, hnc, hcm, hcs, htake⟩
  · have hx : xs = [] := List.eq_nil_of_length_eq_zero (by simpa using hown.1)
    subst hx
    have hr := Lib.run_append_nil_zeros (P := P) w t tn ty e i z kq kn E.under htn hi hz k h0 (by rw [hs]; decide) (by omega) hbk
    have hgr := grown 0 (Value.ownBlock (.slice none 0 0))
    simp only [Nat.zero_add, List.nil_append, Array.empty_append] at hgr ⊢
    refine ⟨_, _, hr, hgr.1, hgr.2, .inr fun j hj => ?_⟩
    simp [Value.ownBlock] at hj
    omega
  · by_cases hroom : n + k ≤ cap
    · have hw : IntKind.i64.wrap (k : Int) = k := by rw [IntKind.wrap_i64]; omega
      have hneg : ¬ ((k : Int) < 0) := by omega
      have h48i : ¬ (281474976710656 < (k : Int) * (i.bytes : Int)) := by rw [← Int.natCast_mul]; omega
      have hk : k ≠ 0 := by omega
      have hst := run_storeCells_at P g n e (List.replicate k z) 0 cur w hg (by simp; omega) (by intro u hu; rw [List.eq_of_mem_replicate hu]; exact h1)
      simp only [Nat.add_zero] at hst
      have hrun : (Builtin.append_ #[t, tn] ty #[.slice (some ⟨g, 0, none⟩) n cap, .int kq k]).run P w = .ok (.slice (some ⟨g, 0, none⟩) (n + k) cap) (w.setRow g (cur.toList.take n ++ List.replicate k z ++ cur.toList.drop (n + (List.replicate k z).length)).toArray) := by
        simp [Builtin.append_, run_underlying E.under, run_underlying htn, sizeOf, typeInfo, zeroValue, hi, hz, hs, asInt, asIntOf, hw, hneg, h48i, hk, hroom, zeroCells_list hz1, Addr.add_lit, hst]
      refine ⟨.slice (some ⟨g, 0, none⟩) (n + k) cap, _, hrun, ⟨hxl, .inr ⟨g, cap, _, rfl, hbg, setRow_heap w g cur _ e _ hg, hroom, hcm, ?_, ?_⟩⟩, ⟨rfl, rfl, rfl, by simp, fun j _ hj => setRow_other w g j _ (fun e => hj (by simp [Value.ownBlock, e]))⟩, .inl rfl⟩
      · simp only [List.size_toArray, List.length_append, List.length_take, List.length_drop, Array.length_toList, List.length_replicate]
        omega
      · rw [← hxl]
        have : cur.toList.take n = xs := by simpa using htake
        rw [this]
        exact List.take_left
    · have holds : ∀ j u, xs[j]? = some u → w.drew.cell? ((⟨g, 0, none⟩ : Addr).add j) = some u := hown.cells (g := g) rfl
      have hold := run_firstCells_some (P := P) w.drew i.size n ⟨g, 0, none⟩ n cap xs (by rw [hs]; exact hown.1) holds
      have hr := Lib.run_append_grow_zeros (P := P) w t tn ty e i z kq kn E.under htn hi hz (some ⟨g, 0, none⟩) n cap xs hold k h0 (by rw [hs]; decide) (by omega) (by omega) hbk (by rw [hb]; exact growslice_fits (by omega) hbytes)
      have hgr := grown cap (Value.ownBlock (.slice (some ⟨g, 0, none⟩) n cap))
      refine ⟨_, _, hr, hgr.1, hgr.2, .inr fun j hj => ?_⟩
      simp [Value.ownBlock] at hj
      omega

theorem wpList_apZ {α : Type} (f : α → Value) (z0 : α) {P : Program} (w : World) {ops : Array Oper} {rest : List Oper} {o : Oper} {a : Act} {Q : Exit → Act → World → Prop} {t tn e : TypeId} {bytes : Nat} (E : ElemT P t e (f z0) 1 bytes)
    (hgd : o.guard = none) {s x : Operand} (ho : o.op = .call { callee := .builtin .append, args := #[s, x], argTypes := #[t, tn] })
    (hz1 : (f z0).cells = #[f z0]) (h1 : (f z0).oneCell' = true) {kn : IntKind} (htn : P.underlying tn = some (.int kn)) (base : Nat) (v : Value) (l : List α) (hs : a.eval s = v) (hown : Ow f w base e v l)
    {kq : IntKind} (k : Nat) (hx : a.eval x = .int kq k) (h0 : 0 < k)
    (hbase : base ≤ w.heap.size) (hbytes : (l.length + k) * bytes ≤ 140737488355328) (hpos : 0 < bytes)
    (h : ∀ v' w', Ow f w' base e v' (l ++ List.replicate k z0) → Moves w w' v v' → wpList P ops Q rest (a.put o.dst v') w') :
    wpList P ops Q (o :: rest) a w := by
  refine wpList_plain hgd fun K hK => ?_
  have h63 : l.length + k ≤ 140737488355328 := Nat.le_trans (Nat.le_mul_of_pos_right _ hpos) hbytes
  obtain ⟨v', w', hr, h2, h3⟩ := run_apZ (P := P) w E hz1 h1 htn o.type kq base v l.length (l.map f) hown k h0 hbase h63 hbytes
  unfold Oper.wp execOp
  simp only [ho, resolve, invoke, builtin, Sem.run_bind, Sem.run_pure, Result.andThen_ok, List.map_toArray, List.map_cons, List.map_nil, hs, hx, hr]
  refine hK _ _ (h v' w' ?_ h3)
  unfold Ow
  rw [List.map_append, List.length_append, List.map_replicate, List.length_replicate]
  exact h2

/-- s[:k] of a slice of the call's own. -/
theorem Ow.cutTo {α : Type} {f : α → Value} {w : World} {base : Nat} {e : TypeId} {A : Option Addr} {n c : Nat} {l : List α} (h : Ow f w base e (.slice A n c) l) {k : Nat} (hk : k ≤ n) : Ow f w base e (.slice A k c) (l.take k) := by
  have hn := h.len.1
  subst hn
  have hlk : (l.take k).length = k := by simp; omega
  refine ⟨by simp, ?_⟩
  rw [hlk]
  rcases h.2 with ⟨hv, h0⟩ | ⟨g, cap, cur, hv, hb, hg, h1, h2, h3, h4⟩
  · injection hv with hA _ hc
    subst hA hc
    exact .inl ⟨by rw [show k = 0 by omega], by omega⟩
  · injection hv with hA _ hc
    subst hA hc
    refine .inr ⟨g, c, cur, rfl, hb, hg, by omega, h2, h3, ?_⟩
    rw [List.map_take, ← h4, List.take_take]
    congr 1
    omega
/-- A slice of the call's own whose room was made: make([]T, n). -/
theorem Ow.make {α : Type} (f : α → Value) (z0 : α) (w : World) (e : TypeId) {base : Nat} (n : Nat) (hn : n ≤ maxLen) (hb : base ≤ w.heap.size) : Ow f (w.alloc (.cells (madeCells #[f z0] n) e)) base e (.slice (some ⟨w.heap.size, 0, none⟩) n n) (List.replicate n z0) := by
  have h := World.ownsRow_lit (base := base) (e := e) (size := 1) (cs := madeCells #[f z0] n) w n hb hn (by rw [size_madeCells]; simp)
  unfold Ow
  rw [List.length_replicate, List.map_replicate, ← toList_madeCells_one]
  exact h
end Go.Proofs.Ytldkmopkakdgnaa
