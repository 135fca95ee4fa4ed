/-
  copy between rows of elements of several cells; append of made zero values where there is no room; a row that is known whole as a slice of the call's own. No statement of the seat is here.
-/
import Derived.Test.YtlanmehbcpgoaaaFlatCut
import Derived.Laws.CopyOwn
import Derived.Lib.AppendZerosOnto
namespace Go.Proofs.Ytlanmehbcpgoaaa
open Go.RowKit
set_option linter.unusedVariables false

section
variable {P : Program} {t te : TypeId} {z : Value} {sz bytes : Nat}
theorem run_copyG (E : ElemT P t te z sz bytes) (ty : TypeId) (w : World) (g off : Nat) (ad : Addr) (dLen dCap sLen sCap : Nat) (cur : List Value) (hg : w.heap[g]? = some (.cells cur.toArray te (0, 0)))
    (cs : List Value) (hn : cs.length = Nat.min sLen dLen * sz) (hsrc : ∀ j u, cs[j]? = some u → w.cell? (ad.add j) = some u) (hfit : off + cs.length ≤ cur.length) (h1 : ∀ u ∈ cs, u.oneCell' = true) :
    (Builtin.copy_ #[t, t] ty #[.slice (some ⟨g, off, none⟩) dLen dCap, .slice (some ad) sLen sCap]).run P w = .ok (goInt (Nat.min sLen dLen)) (w.setRow g (splice cur off cs).toArray) := by
  obtain ⟨i, hi, hz, hs, hb⟩ := info_parts E.info
  have hl := run_loadCells_list (P := P) w ad cs hsrc
  rw [hn] at hl
  have hst := run_storeCells_at P g off te cs 0 cur.toArray w hg (by simpa using hfit) h1
  have e : (List.take (off + 0) cur.toArray.toList ++ cs ++ List.drop (off + 0 + cs.length) cur.toArray.toList).toArray = (splice cur off cs).toArray := by
    simp [splice, List.append_assoc]
  rw [e] at hst
  simp [Builtin.copy_, run_underlying E.under, Builtin.lenOf, Builtin.firstCells, sizeOf, typeInfo, hi, hs, hl, hst]
theorem wp_copyG (E : ElemT P t te z sz bytes) {o : Oper} {a : Act} {w : World} {K : Act → World → Prop} {Q : Exit → Act → World → Prop} {d s : Operand}
    (ho : o.op = .call { callee := .builtin .copy, args := #[d, s], argTypes := #[t, t] }) (g off : Nat) (ad : Addr) (dLen dCap sLen sCap : Nat)
    (hd : a.eval d = .slice (some ⟨g, off, none⟩) dLen dCap) (hs : a.eval s = .slice (some ad) sLen sCap) (cur : List Value) (hg : w.heap[g]? = some (.cells cur.toArray te (0, 0)))
    (cs : List Value) (hn : cs.length = Nat.min sLen dLen * sz) (hsrc : ∀ j u, cs[j]? = some u → w.cell? (ad.add j) = some u) (hfit : off + cs.length ≤ cur.length) (h1 : ∀ u ∈ cs, u.oneCell' = true)
    (h : ∀ w', w'.heap[g]? = some (.cells (splice cur off cs).toArray te (0, 0)) → w.grownBy w' (some g) → K (a.put o.dst (goInt (Nat.min sLen dLen))) w') : Oper.wp P o a w K Q := by
  have hr := run_copyG E o.type w g off ad dLen dCap sLen sCap cur hg cs hn hsrc hfit h1
  unfold Oper.wp execOp
  simp only [ho, resolve, invoke, builtin, Sem.run_bind, Sem.run_pure, Result.andThen_ok, List.map_toArray, List.map_cons, List.map_nil, hd, hs, hr]
  exact h _ (setRow_heap w g _ _ te _ hg) ⟨rfl, rfl, rfl, by simp, fun j _ hj => setRow_other w g j _ (fun e => hj (by rw [e]))⟩
theorem wpList_copyG (E : ElemT P t te z sz bytes) {ops : Array Oper} {rest : List Oper} {o : Oper} {a : Act} {w : World} {Q : Exit → Act → World → Prop} (hgd : o.guard = none) {d s : Operand}
    (ho : o.op = .call { callee := .builtin .copy, args := #[d, s], argTypes := #[t, t] }) (g off : Nat) (ad : Addr) (dLen dCap sLen sCap : Nat)
    (hd : a.eval d = .slice (some ⟨g, off, none⟩) dLen dCap) (hs : a.eval s = .slice (some ad) sLen sCap) (cur : List Value) (hg : w.heap[g]? = some (.cells cur.toArray te (0, 0)))
    (cs : List Value) (hn : cs.length = Nat.min sLen dLen * sz) (hsrc : ∀ j u, cs[j]? = some u → w.cell? (ad.add j) = some u) (hfit : off + cs.length ≤ cur.length) (h1 : ∀ u ∈ cs, u.oneCell' = true)
    (h : ∀ w', w'.heap[g]? = some (.cells (splice cur off cs).toArray te (0, 0)) → w.grownBy w' (some g) → wpList P ops Q rest (a.put o.dst (goInt (Nat.min sLen dLen))) w') : wpList P ops Q (o :: rest) a w :=
  wpList_plain hgd fun K hK => wp_copyG E ho g off ad dLen dCap sLen sCap hd hs cur hg cs hn hsrc hfit h1 fun w' h2 h3 => hK _ _ (h w' h2 h3)
/-- append(s[:i], make([]T, k)...) where there is no room: a new row, its first elements those of s. -/
theorem wpList_apZnew (E : ElemT P t te z sz bytes) {tn : TypeId} {kn : IntKind} (htn : P.underlying tn = some (.int kn)) {ops : Array Oper} {rest : List Oper} {o : Oper} {a : Act} {w : World} {Q : Exit → Act → World → Prop} (hgd : o.guard = none) {s x : Operand}
    (ho : o.op = .call { callee := .builtin .append, args := #[s, x], argTypes := #[t, tn] }) (ad : Addr) (n cap : Nat) (hs : a.eval s = .slice (some ad) n cap) (olds : List Value) (hol : olds.length = n * sz) (hold : ∀ j u, olds[j]? = some u → w.cell? (ad.add j) = some u)
    {kq : IntKind} (k N : Nat) (hN : n + k = N) (hx : a.eval x = .int kq (k : Int)) (h0 : 0 < k) (hgrow : cap < n + k) (h63 : n + k ≤ 140737488355328) (hbytes : (n + k) * bytes ≤ 140737488355328)
    (h : ∀ (w' : World) (cur : List Value) (c : Nat), w'.heap[w.heap.size]? = some (.cells cur.toArray te (0, 0)) → cur.length = c * sz → cur.take (n * sz) = olds → N ≤ c → c ≤ maxLen → Below w.heap.size w w' → wpList P ops Q rest (a.put o.dst (.slice (some ⟨w.heap.size, 0, none⟩) N c)) w') :
    wpList P ops Q (o :: rest) a w := by
  subst hN
  refine wpList_plain hgd fun K hK => ?_
  obtain ⟨i, hi, hz, hsz, hb⟩ := info_parts E.info
  have hpos : 0 < i.size := by rw [hsz]; exact E.pos
  have hlen : n + k ≤ maxLen := by simp only [maxLen]; omega
  have hbk : k * i.bytes ≤ 281474976710656 := by
    have : k * bytes ≤ (n + k) * bytes := Nat.mul_le_mul_right _ (by omega)
    rw [hb]; omega
  have hf := run_firstCells_some (P := P) w.drew i.size n ad n cap olds (by rw [hsz]; exact hol) hold
  have hr := Lib.run_append_grow_zeros (P := P) w t tn o.type te i z kq kn E.under htn hi hz (some ad) n cap olds hf k h0 hpos hgrow (by omega) hbk (by rw [hb]; exact growslice_fits (by omega) hbytes)
  have hge := grownCap_ge w (n + k) cap te
  have hcm : grownCap w (n + k) cap te ≤ maxLen := grownCap_le_maxLen w (n + k) cap te hlen
  unfold Oper.wp execOp
  simp only [ho, resolve, invoke, builtin, Sem.run_bind, Sem.run_pure, Result.andThen_ok, List.map_toArray, List.map_cons, List.map_nil, hs, hx, hr]
  refine hK _ _ (h _ (olds.toArray ++ Builtin.zeroCells z.cells k ++ Builtin.zeroCells z.cells (grownCap w (n + k) cap te - (n + k))).toList (grownCap w (n + k) cap te) ?_ ?_ ?_ hge hcm ?_)
  · rw [Array.toArray_toList]
    exact heap_alloc_new w.drew _
  · simp only [Array.length_toList, Array.size_append, List.size_toArray, size_zeroCells, E.cells, hol]
    rw [← Nat.add_mul, ← Nat.add_mul]
    congr 1
    omega
  · rw [Array.toList_append, Array.toList_append, List.append_assoc, ← hol]
    exact List.take_left
  · exact ⟨rfl, rfl, rfl, by simp, fun j hj => Below.heap_alloc w.drew _ j hj⟩
end
section
variable {α : Type} {C : α → List Value} {sz : Nat}
/-- A row that is known whole as a slice of the call's own. -/
theorem OwG.ofRow {w : World} {base g cap n : Nat} {e : TypeId} {cur : List Value} {L : List α} (hlen : ∀ x, (C x).length = sz) (hb : base ≤ g) (hg : w.heap[g]? = some (.cells cur.toArray e (0, 0))) (hc : cur.length = cap * sz) (hn : L.length = n) (hcap : n ≤ cap) (hm : cap ≤ maxLen) (ht : cur.take (n * sz) = L.flatMap C) :
    OwG C sz w base e (.slice (some ⟨g, 0, none⟩) n cap) L := by
  subst hn
  exact ⟨flat_len hlen L, .inr ⟨g, cap, cur.toArray, rfl, hb, hg, hcap, hm, by simpa using hc, by simpa using ht⟩⟩
/-- And back: the row behind it. -/
theorem OwG.row {w : World} {base g cap n : Nat} {e : TypeId} {L : List α} (h : OwG C sz w base e (.slice (some ⟨g, 0, none⟩) n cap) L) : ∃ cur : List Value, base ≤ g ∧ w.heap[g]? = some (.cells cur.toArray e (0, 0)) ∧ cur.length = cap * sz ∧ n ≤ cap ∧ cap ≤ maxLen ∧ cur.take (n * sz) = L.flatMap C := by
  have hn := h.lenN
  rcases h.2 with ⟨hv, _⟩ | ⟨g', cap', cur, hv, hb, hg, h1, h2, h3, h4⟩
  · cases hv
  · injection hv with e1 e2 e3
    injection e1 with e1
    injection e1 with e1
    subst e1 e3
    refine ⟨cur.toList, hb, by simpa using hg, by simpa using h3, hn.2.1, h2, ?_⟩
    rw [hn.1]
    exact h4
end
/-- What stood from i on moved by one element, and the new one laid at i: in whichever order. -/
theorem splice_in {cur F X : List Value} {k m r : Nat} (hX : X.length = m) (hk : k ≤ F.length) (hF : F.length = r) (hc : r + m ≤ cur.length) (ht : cur.take k = F.take k) :
    (splice (splice cur (k + m) (F.drop k)) k X).take (r + m) = F.take k ++ X ++ F.drop k ∧ (splice (splice cur k X) (k + m) (F.drop k)).take (r + m) = F.take k ++ X ++ F.drop k := by
  subst hX hF
  have e0 : (cur.take k).length = k := by rw [List.length_take]; omega
  have e1 : cur.take (k + X.length) = F.take k ++ (cur.drop k).take X.length := by rw [List.take_add, ht]
  constructor
  · unfold splice
    have a1 : (cur.take (k + X.length)).length = k + X.length := by rw [List.length_take]; omega
    have t1 : (cur.take (k + X.length) ++ (F.drop k ++ cur.drop (k + X.length + (F.drop k).length))).take k = F.take k := by
      rw [List.take_append_of_le_length (by omega), List.take_take, Nat.min_eq_left (by omega), ht]
    have t2 : (cur.take (k + X.length) ++ (F.drop k ++ cur.drop (k + X.length + (F.drop k).length))).drop (k + X.length) = F.drop k ++ cur.drop (k + X.length + (F.drop k).length) := by
      have := List.drop_left' (l₂ := F.drop k ++ cur.drop (k + X.length + (F.drop k).length)) a1
      exact this
    rw [t1, t2, ← List.append_assoc, ← List.append_assoc]
    refine List.take_left' ?_
    simp
    omega
  · unfold splice
    have a1 : (cur.take k ++ X).length = k + X.length := by rw [List.length_append, e0]
    have t1 : (cur.take k ++ (X ++ cur.drop (k + X.length))).take (k + X.length) = F.take k ++ X := by
      rw [← List.append_assoc, List.take_left' a1, ht]
    rw [t1, ← List.append_assoc]
    refine List.take_left' ?_
    simp
    omega
theorem splice_len {cur : List Value} {off : Nat} {cs : List Value} (h : off + cs.length ≤ cur.length) : (splice cur off cs).length = cur.length := length_splice cur off cs h
end Go.Proofs.Ytlanmehbcpgoaaa
