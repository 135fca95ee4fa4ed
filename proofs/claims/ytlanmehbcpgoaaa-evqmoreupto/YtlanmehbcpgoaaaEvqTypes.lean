/-
  Operations of a channel as values and cells; the channel's own block. No statement of the seat is here.
-/
import Derived.Test.YtlanmehbcpgoaaaEvqMath
import Derived.Test.YtlanmehbcpgoaaaStructG
import Derived.Test.YtlanmehbcpgoaaaNums
namespace Go.Proofs.Ytlanmehbcpgoaaa
open Go.RowKit
set_option linter.unusedVariables false

abbrev opV (o : EvO) : Value := .agg #[.int .i64 o.kd, .int .i64 o.n]
def opC (o : EvO) : List Value := [.int .i64 o.kd, .int .i64 o.n]
theorem opK : CellsG opC 2 := ⟨fun _ => rfl, by decide, fun m u hu => by
  simp [opC] at hu
  rcases hu with rfl | rfl <;> rfl⟩
theorem elOp : ElemT Try.prog 22 36 (.agg #[.int .i64 0, .int .i64 0]) 2 16 := ⟨Try.underlying22, by kernel_rfl, rfl, by decide⟩
theorem elErr : ElemT Try.prog 23 29 (.int .i64 0) 1 8 := ⟨Try.underlying23, by kernel_rfl, rfl, by decide⟩
/-- The cells of an operation in the walk's own spelling. -/
theorem op_at {w : World} {A : Option Addr} {n k : Nat} {L : List EvO} (h : RdG opC 2 w A n L) (hk : k < n) :
    ∃ ad x, A = some ad ∧ L[k]? = some x ∧ w.cell? (ad.add (k * 2)) = some (.int .i64 x.kd) ∧ w.cell? ⟨(ad.add (k * 2)).block, (ad.add (k * 2)).off + 1, none⟩ = some (.int .i64 x.n) := by
  obtain ⟨ad, x, e, hx, h0, h1⟩ := RdG.cells opK h hk
  exact ⟨ad, x, e, hx, h0 _ rfl, h1 0 _ rfl⟩

/-- Block b holds a channel in the state s; the events sent lie in a block behind it. -/
structure ChanV (w : World) (b : Nat) (s : EvS) (v : Value) : Prop where
  box : Box w b 41 [v, .int .i64 (s.kn : Int), .int .i64 (s.cm : Int), .int .i64 (s.tk : Int)]
  own : Ow (Value.int .i64) w (b + 1) 3 v s.al
def Chan (w : World) (b : Nat) (s : EvS) : Prop := ∃ v, ChanV w b s v
section
variable {w w' : World} {b : Nat} {s : EvS} {v : Value}
theorem ChanV.lt (h : ChanV w b s v) : b < w.heap.size := h.box.lt
theorem ChanV.alloc (h : ChanV w b s v) (o : Obj) : ChanV (w.alloc o) b s v := ⟨h.box.alloc o, h.own.alloc o⟩
theorem ChanV.drewN (h : ChanV w b s v) (q : Nat) : ChanV (w.drewN q) b s v := ⟨h.box, h.own⟩
theorem Chan.drewN (h : Chan w b s) (q : Nat) : Chan (w.drewN q) b s := by
  obtain ⟨v, h⟩ := h
  exact ⟨v, h.drewN q⟩
theorem Chan.alloc (h : Chan w b s) (o : Obj) : Chan (w.alloc o) b s := by
  obtain ⟨v, h⟩ := h
  exact ⟨v, h.alloc o⟩
theorem Chan.lt (h : Chan w b s) : b < w.heap.size := by
  obtain ⟨v, h⟩ := h
  exact h.lt
theorem ChanV.below (h : ChanV w b s v) (hb : Below w.heap.size w w') : ChanV w' b s v := ⟨h.box.below hb h.lt, h.own.below hb⟩
/-- A store elsewhere. -/
theorem ChanV.grown {k : Nat} (h : ChanV w b s v) (hg : w.grownBy w' (some k)) (hk : k < b) : ChanV w' b s v :=
  ⟨h.box.grown hg (fun e => by injection e with e; omega), h.own.grown hg (by omega)⟩
theorem Chan.grown {k : Nat} (h : Chan w b s) (hg : w.grownBy w' (some k)) (hk : k < b) : Chan w' b s := by
  obtain ⟨v, h⟩ := h
  exact ⟨v, h.grown hg hk⟩
/-- One of the counts stored. -/
theorem ChanV.put {s' : EvS} {k x : Nat} (h : ChanV w b s v) (ha : s'.al = s.al) (hc : [v, Value.int .i64 (s'.kn : Int), .int .i64 (s'.cm : Int), .int .i64 (s'.tk : Int)] = [v, Value.int .i64 (s.kn : Int), .int .i64 (s.cm : Int), .int .i64 (s.tk : Int)].set k (.int .i64 (x : Int))) :
    ChanV (w.setCell ⟨b, k, none⟩ (.int .i64 (x : Int))) b s' v := by
  refine ⟨by rw [hc]; exact h.box.set k _, ?_⟩
  rw [ha]
  exact h.own.grown (grownBy_setCell w ⟨b, k, none⟩ _) (by show b < b + 1; omega)
/-- What was sent grows. -/
theorem ChanV.sent {o : Obj} {x : Int} {v' : Value} (h : ChanV w b s v) (ho : Ow (Value.int .i64) w' (b + 1) 3 v' (s.al ++ [x])) (hm : Moves (w.alloc o) w' v v') :
    Box w' b 41 [v, .int .i64 (s.kn : Int), .int .i64 (s.cm : Int), .int .i64 (s.tk : Int)] ∧ ChanV (w'.setCell ⟨b, 0, none⟩ v') b ⟨s.al ++ [x], s.cm, s.kn, s.tk⟩ v' ∧ Below b w (w'.setCell ⟨b, 0, none⟩ v') := by
  have hbk := h.own.block
  have hlt := h.lt
  have hx := (h.box.alloc o).moves hm (fun k hk => by have := hbk k hk; omega)
  have hb := hm.below ((Below.refl b w).alloc (by omega) o) (by simp; omega) (fun k hk => by have := hbk k hk; omega)
  refine ⟨hx, ⟨hx.set 0 v', ho.grown (grownBy_setCell w' ⟨b, 0, none⟩ v') (by show b < b + 1; omega)⟩, ?_⟩
  exact below_grown hb (grownBy_setCell w' ⟨b, 0, none⟩ v') (Nat.le_refl _) (by have := hx.lt; omega)
end
/-- A slice at a known block stays where nothing ahead of b is written. -/
theorem Ow.belowAt {α : Type} {f : α → Value} {w w' : World} {base g n c b : Nat} {e : TypeId} {l : List α} (h : Ow f w base e (.slice (some ⟨g, 0, none⟩) n c) l) (hb : Below b w w') (hg : g < b) : Ow f w' base e (.slice (some ⟨g, 0, none⟩) n c) l := by
  refine ⟨h.1, ?_⟩
  rcases h.2 with ⟨hv, h0⟩ | ⟨g', cap, cur, hv, hbs, hblk, h1, h2, h3, h4⟩
  · exact .inl ⟨hv, h0⟩
  · have hg' : g = g' := by
      injection hv with hA _ _
      injection hA with hA
      injection hA with hA
    subst hg'
    exact .inr ⟨g, cap, cur, hv, hbs, (hb.block g hg).trans hblk, h1, h2, h3, h4⟩
end Go.Proofs.Ytlanmehbcpgoaaa
