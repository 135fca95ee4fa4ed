/-
  append onto a slice without room, whosever it is (append(s[:k:k], ..)): what comes is of the call's own. No statement of the seat is here.
-/
import Derived.Test.YtajfohnblmnjjaaJ3
import Derived.ArgAppend
namespace Go.Proofs.Ytajfohnblmnjjaa
open Go.RowKit
set_option linter.unusedVariables false

/-- s[:k:k] as an equation, whatever the world. -/
theorem run_full {P : Program} {t e : TypeId} {z : Value} {sz bytes : Nat} (E : ElemT P t e z sz bytes) (W : World) (A : Option Addr) (n c k : Nat) (hk : k ≤ c) :
    (Instr.slice t (.slice A n c) none (some (.int .i64 (k : Int))) (some (.int .i64 (k : Int)))).run P W = .ok (.slice A k k) W := by
  obtain ⟨i, hi, _, hs, _⟩ := info_parts E.info
  have he : P.elem t = e := by simp [Program.elem, E.under]
  have ht : P.underlying t = some (.slice (P.elem t)) := by rw [he]; exact E.under
  have := run_slice_hm (P := P) W t A n c ht .i64 .i64 (k : Int) (k : Int) (by omega) (by omega) (by omega)
  rw [this, he]
  cases A <;> simp [sizeOf, typeInfo, hi, hs, sliced, Addr.add]
section
variable {α : Type} {C : α → List Value} {sz : Nat}
/-- A slice written out, as the call's own. -/
theorem OwG.lit (K : CellsG C sz) (W : World) (e : TypeId) (L : List α) {base n : Nat} (hb : base ≤ W.heap.size) (hn : L.length = n) (hm : n ≤ maxLen) :
    OwG C sz (W.alloc (.cells (L.flatMap C).toArray e)) base e (.slice (some ⟨W.heap.size, 0, none⟩) n n) L := by
  subst hn
  have hl : (L.flatMap C).length = L.length * sz := flat_len K.len L
  exact ⟨hl, .inr ⟨W.heap.size, L.length, _, rfl, hb, heap_alloc_new W _, Nat.le_refl _, hm, by simpa using hl, by show (L.flatMap C).take _ = _; exact List.take_of_length_le (by omega)⟩⟩
/-- An append that finds no room, as one operation of a region. -/
theorem wp_apFull (K : CellsG C sz) {P : Program} (w : World) {o : Oper} {a : Act} {T : Act → World → Prop} {Q : Exit → Act → World → Prop} {t e : TypeId} {z : Value} {bytes : Nat} (E : ElemT P t e z sz bytes)
    {s x : Operand} (ho : o.op = .call { callee := .builtin .append, args := #[s, x], argTypes := #[t, t] })
    (A : Option Addr) (k : Nat) (L : List α) (hs : a.eval s = .slice A k k) (hrL : RdG C sz w A k L)
    (B : Option Addr) (m c : Nat) (news : List α) (hx : a.eval x = .slice B m c) (hr : RdG C sz w B m news) (hm : 0 < m)
    (h63 : k + m ≤ 140737488355328) (hbytes : (k + m) * bytes ≤ 140737488355328)
    (h : ∀ v' w', OwG C sz w' w.heap.size e v' (L ++ news) → Below w.heap.size w w' → T (a.put o.dst v') w') : Oper.wp P o a w T Q := by
  have hlL := RdG.len K hrL
  have hln := RdG.len K hr
  subst hlL hln
  cases A with
  | none =>
    have hk0 : L.length = 0 := by
      rcases Nat.eq_zero_or_pos L.length with h0 | h0
      · exact h0
      · obtain ⟨ad, e', _⟩ := hrL.2 h0; cases e'
    obtain rfl := List.eq_nil_of_length_eq_zero hk0
    refine wp_apG K w E ho w.heap.size (.slice none 0 0) [] hs (OwG.nil w _ _) B news.length c news hx hr (Nat.le_refl _) (by simpa using h63) (by simpa using hbytes) fun v' w' h1 h2 => h v' w' h1 (h2.below (Below.refl _ _) (Nat.le_refl _) (fun k hk => by cases hk))
  | some b =>
    obtain ⟨i, hi, hz, hsz, hby⟩ := info_parts E.info
    obtain ⟨ad, hB, hcells⟩ := hr.2 hm
    subst hB
    have holds : ∀ j u, (L.flatMap C)[j]? = some u → w.cell? (b.add j) = some u := by
      intro j u hu
      rcases Nat.eq_zero_or_pos L.length with h0 | h0
      · obtain rfl := List.eq_nil_of_length_eq_zero h0
        simp at hu
      · obtain ⟨b', e', hc⟩ := hrL.2 h0
        injection e' with e'
        subst e'
        exact hc j u hu
    obtain ⟨v', w', hrun, h2, h3⟩ := run_append_arg_grows (P := P) w t o.type e i z sz bytes E.under hi hz hsz hby E.cells E.pos b L.length L.length (L.flatMap C) (flat_len K.len L) holds ad news.length c (news.flatMap C) (flat_len K.len news) hcells (by omega) (by unfold maxLen; omega) hbytes
    unfold Oper.wp execOp
    simp only [ho, resolve, invoke, builtin, Sem.run_bind, Sem.run_pure, Result.andThen_ok, List.map_toArray, List.map_cons, List.map_nil, hs, hx, hrun]
    refine h v' w' ?_ ⟨h3.os, h3.tape, h3.output, h3.size, fun k hk => h3.block k hk (by simp)⟩
    unfold OwG
    rw [List.flatMap_append, List.length_append]
    exact h2
end
end Go.Proofs.Ytajfohnblmnjjaa
