/-
  A region whose order of evaluation is open, and whose operations besides calls look at no memory at all: each of these may be taken first, whatever the calls write. And an append as one operation of a region. No statement of the seat is here.
-/
import Derived.Test.YtldkmopkakdgnaaRegion
import Derived.Test.YtldkmopkakdgnaaWide
namespace Go.Proofs.Ytldkmopkakdgnaa
open Go.RowKit
set_option maxRecDepth 20000

abbrev Anyw : World → Prop := fun _ => True
section
variable {P : Program} {ops : Array Oper} {Q : Exit → Act → World → Prop} {md : Region.Mode}
theorem wpAnyP_take {i : Nat} {oi : Oper} {v : Value} {fuel : Nat} {listed : Array Bool} {a : Act} {w : World} (hi : ops[i]? = some oi)
    (hs : Region.noSelect ops = true) (hf : Region.free md ops listed i = true) (hr : (Region.ready md ops listed).contains i = true)
    (hQ : ∀ c a w, Q (.panic c) (a.put oi.dst v) w → Q (.panic c) a w) (hy : YieldsIf P ops Anyw oi v a)
    (h : wpAnyH P md ops Q Anyw fuel (listed.setIfInBounds i true) (a.put oi.dst v) w) : wpAnyH P md ops Q Anyw (fuel + 1) listed a w :=
  wpAnyH_take hi hs hf hr hQ hy trivial h
theorem wpAnyP_one {i : Nat} {o : Oper} {fuel : Nat} {listed : Array Bool} {a : Act} {w : World} (hr : Region.ready md ops listed = [i]) (ho : ops[i]? = some o)
    (h : ∀ K' : Act → World → Prop, Shut (∀ a' w', wpAnyH P md ops Q Anyw fuel (listed.setIfInBounds i true) a' w' → K' a' w') →
      if Region.wanted o (yielded ops a.tmps) = true then Oper.wp P o a w K' Q else K' (a.put o.dst undef) w) : wpAnyH P md ops Q Anyw (fuel + 1) listed a w := by
  refine ⟨fun e => (by rw [hr] at e; cases e), fun j hj => ?_⟩
  rw [hr] at hj
  obtain rfl : j = i := List.mem_singleton.1 hj
  have hk := h (fun a' w' => True ∧ wpAnyH P md ops Q Anyw fuel (listed.setIfInBounds j true) a' w') (fun a' w' h2 => ⟨trivial, h2⟩)
  unfold wpOp
  simp only [ho]
  split
  · rename_i hw
    rw [if_pos hw] at hk
    exact .inl hk
  · rename_i hw
    rw [if_neg hw] at hk
    exact hk
theorem wpAnyP_done {fuel : Nat} {listed : Array Bool} {a : Act} {w : World} (hr : Region.ready md ops listed = []) (h : Q .normal a w) : wpAnyH P md ops Q Anyw fuel listed a w := wpAnyH_done hr h fuel
theorem wp_region_P {id : Nat} {a : Act} {w : World} (hm : P.follows .mixedOrders = true)
    (h : wpAnyH P .any ops Q Anyw ops.size (Array.replicate ops.size false) a w.drew) : (Code.region id ops true).wp P Q a w :=
  wp_region_held_drew hm trivial (fun _ => h)
end

/-- An append onto a slice of the call's own, as one operation. -/
theorem wp_apW {α : Type} (f : α → Value) {P : Program} (w : World) {o : Oper} {a : Act} {K : Act → World → Prop} {Q : Exit → Act → World → Prop} {t e : TypeId} {z : Value} {bytes : Nat} (E : ElemT P t e z 1 bytes)
    {s x : Operand} (ho : o.op = .call { callee := .builtin .append, args := #[s, x], argTypes := #[t, t] })
    (hf : ∀ y, (f y).oneCell' = true) (base : Nat) (v : Value) (l : List α) (hs : a.eval s = v) (hown : Ow f w base e v l)
    (A : Option Addr) (m c : Nat) (news : List α) (hx : a.eval x = .slice A m c) (hr : Rd w 1 A m (news.map f))
    (hbase : base ≤ w.heap.size) (hbytes : ((l.length + m) + (l.length + m) / 4 + 192) * bytes ≤ 281474976710656) (hpos : 0 < bytes)
    (h : ∀ v' w', Ow f w' base e v' (l ++ news) → Moves w w' v v' → K (a.put o.dst v') w') : Oper.wp P o a w K Q := by
  have hlen := hr.lenMap
  subst hlen
  have h63 : l.length + news.length ≤ maxLen := by
    have := Nat.le_mul_of_pos_right ((l.length + news.length) + (l.length + news.length) / 4 + 192) hpos
    simp only [maxLen]
    omega
  obtain ⟨v', w', hrun, h2, h3⟩ := run_apW (P := P) w E o.type base v l.length (l.map f) hown A news.length c (news.map f) hr (fun u hu => by obtain ⟨y, _, rfl⟩ := List.mem_map.1 hu; exact hf y) hbase h63 hbytes
  unfold Oper.wp execOp
  simp only [ho, resolve, invoke, builtin, Sem.run_bind, Sem.run_pure, Result.andThen_ok, List.map_toArray, List.map_cons, List.map_nil, hs, hx, hrun]
  refine h v' w' ?_ h3
  unfold Ow
  rw [List.map_append, List.length_append]
  exact h2
end Go.Proofs.Ytldkmopkakdgnaa
