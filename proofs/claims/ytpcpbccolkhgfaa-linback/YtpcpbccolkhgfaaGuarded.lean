/-
  append behind a guard ('&&', '||'): the append law where the guard says yes. No statement of the seat is here.
-/
import Derived.Test.YtpcpbccolkhgfaaBase
namespace Go.Proofs.Ytpcpbccolkhgfaa
open Go.RowKit

theorem wpList_apG {α : Type} (f : α → Value) {P : Program} (w : World) {ops : Array Oper} {rest : List Oper} {o : Oper} {a : Act} {Q : Exit → Act → World → Prop} {t e : TypeId} {z : Value} {bytes : Nat} (E : ElemT P t e z 1 bytes)
    (hgd : Region.wanted o (yielded ops a.tmps) = true) {s x : Operand} (ho : o.op = .call { callee := .builtin .append, args := #[s, x], argTypes := #[t, t] })
    (hf : ∀ y, (f y).oneCell' = true) (base : Nat) (v : Value) (l : List α) (hs : a.eval s = v) (hown : Ow f w base e v l)
    (A : Option Addr) (m c : Nat) (news : List α) (hx : a.eval x = .slice A m c) (hr : Rd w 1 A m (news.map f))
    (hbase : base ≤ w.heap.size) (hbytes : (l.length + m) * bytes ≤ 140737488355328) (hpos : 0 < bytes)
    (h : ∀ v' w', Ow f w' base e v' (l ++ news) → Moves w w' v v' → wpList P ops Q rest (a.put o.dst v') w') :
    wpList P ops Q (o :: rest) a w := by
  refine BigFrame.wpList_want hgd fun K hK => ?_
  have hlen := hr.lenMap
  subst hlen
  have h63 : l.length + news.length ≤ 140737488355328 := Nat.le_trans (Nat.le_mul_of_pos_right _ hpos) hbytes
  obtain ⟨v', w', hrun, h2, h3⟩ := run_ap (P := P) w E o.type base v l.length (l.map f) hown A news.length c (news.map f) hr (fun u hu => by obtain ⟨y, _, rfl⟩ := List.mem_map.1 hu; exact hf y) hbase h63 hbytes
  unfold Oper.wp execOp
  simp only [ho, resolve, invoke, builtin, Sem.run_bind, Sem.run_pure, Result.andThen_ok, List.map_toArray, List.map_cons, List.map_nil, hs, hx, hrun]
  refine hK _ _ (h v' w' ?_ h3)
  unfold Ow
  rw [List.map_append, List.length_append]
  exact h2
end Go.Proofs.Ytpcpbccolkhgfaa
