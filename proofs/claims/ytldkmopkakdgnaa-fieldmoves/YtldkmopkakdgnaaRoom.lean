/-
  make([]T, 0, c), and append where the room suffices: the slice stays where it is, whatever its size. No statement of the seat is here.
-/
import Derived.Test.YtldkmopkakdgnaaZeros
namespace Go.Proofs.Ytldkmopkakdgnaa
open Go.RowKit
set_option maxRecDepth 20000

theorem run_make0 {P : Program} {t e : TypeId} {z : Value} {bytes : Nat} (E : ElemT P t e z 1 bytes) (hz1 : z.cells = #[z]) (kl kc : IntKind) (c : Nat) (hb : bytes * c ≤ 281474976710656) (hc : c ≤ 9223372036854775807) (w : World) :
    (Instr.makeSlice t (.int kl 0) (.int kc c)).run P w = .ok (.slice (some ⟨w.heap.size, 0, none⟩) 0 c) (w.alloc (.cells (madeCells #[z] c) e)) := by
  obtain ⟨i0, hi, hz0, hz1', hz2⟩ := info_parts E.info
  have hb' : ((i0.bytes : Int)) * (c : Int) ≤ 281474976710656 := by
    rw [hz2]
    have h : ((bytes * c : Nat) : Int) ≤ 281474976710656 := by omega
    rwa [Int.natCast_mul] at h
  have := run_make (P := P) w t e i0 z E.under hi hz0 kl kc 0 c (by omega) (by omega) hb' (by omega)
  simpa [hz1, hz1'] using this

theorem run_mk {P : Program} {t e : TypeId} {z : Value} {bytes : Nat} (E : ElemT P t e z 1 bytes) (hz1 : z.cells = #[z]) (kl kc : IntKind) (n c : Nat) (hnc : n ≤ c) (hb : bytes * c ≤ 281474976710656) (hc : c ≤ 9223372036854775807) (w : World) :
    (Instr.makeSlice t (.int kl n) (.int kc c)).run P w = .ok (.slice (some ⟨w.heap.size, 0, none⟩) n c) (w.alloc (.cells (madeCells #[z] c) e)) := by
  obtain ⟨i0, hi, hz0, hz1', hz2⟩ := info_parts E.info
  have hb' : ((i0.bytes : Int)) * (c : Int) ≤ 281474976710656 := by
    rw [hz2]
    have h : ((bytes * c : Nat) : Int) ≤ 281474976710656 := by omega
    rwa [Int.natCast_mul] at h
  have := run_make (P := P) w t e i0 z E.under hi hz0 kl kc n c (by omega) (by omega) hb' (by omega)
  simpa [hz1, hz1'] using this

theorem Ow.room {α : Type} (f : α → Value) (z0 : α) (w : World) (e : TypeId) {base : Nat} (c : Nat) (hc : c ≤ maxLen) (hb : base ≤ w.heap.size) : Ow f (w.alloc (.cells (madeCells #[f z0] c) e)) base e (.slice (some ⟨w.heap.size, 0, none⟩) 0 c) [] := by
  have := (Ow.make f z0 w e c hc hb).cutTo (k := 0) (Nat.zero_le _)
  simpa using this

theorem wpList_apR {α : Type} (f : α → Value) {P : Program} (w : World) {ops : Array Oper} {rest : List Oper} {o : Oper} {a : Act} {Q : Exit → Act → World → Prop} {t e : TypeId} {z : Value} {bytes : Nat} (E : ElemT P t e z 1 bytes)
    (hgd : o.guard = none) {s x : Operand} (ho : o.op = .call { callee := .builtin .append, args := #[s, x], argTypes := #[t, t] })
    (hf : ∀ y, (f y).oneCell' = true) (base g n cap : Nat) (l : List α) (hs : a.eval s = .slice (some ⟨g, 0, none⟩) n cap) (hown : Ow f w base e (.slice (some ⟨g, 0, none⟩) n cap) l)
    (A : Option Addr) (m c : Nat) (news : List α) (hx : a.eval x = .slice A m c) (hr : Rd w 1 A m (news.map f)) (hroom : n + m ≤ cap) (hm : 0 < m)
    (h : ∀ w', Ow f w' base e (.slice (some ⟨g, 0, none⟩) (n + m) cap) (l ++ news) → w.grownBy w' (some g) → wpList P ops Q rest (a.put o.dst (.slice (some ⟨g, 0, none⟩) (n + m) cap)) w') :
    wpList P ops Q (o :: rest) a w := by
  refine wpList_plain hgd fun K hK => ?_
  obtain ⟨i, hi, hz, hsz, hb⟩ := info_parts E.info
  have hlen := hr.lenMap
  subst hlen
  obtain ⟨ad, rfl, hcells⟩ := hr.2 hm
  have hn := hown.len.1
  subst hn
  rcases hown.2 with ⟨hv, _⟩ | ⟨g', cap', cur, hv, hbg, hg, hnc, hcm, hcs, htake⟩
  · cases hv
  · injection hv with h1 _ h3
    injection h1 with h1
    injection h1 with h1
    subst h1 h3
    have hrun := run_append_room (P := P) w t o.type e i E.under hi g l.length cap cur hg ad news.length c (news.map f) (by simp [hsz]) hcells (fun u hu => by obtain ⟨y, _, rfl⟩ := List.mem_map.1 hu; exact hf y) hroom (by rw [hsz, hcs]; simp; omega)
    rw [hsz] at hrun
    unfold Oper.wp execOp
    simp only [ho, resolve, invoke, builtin, Sem.run_bind, Sem.run_pure, Result.andThen_ok, List.map_toArray, List.map_cons, List.map_nil, hs, hx, hrun]
    refine hK _ _ (h _ ?_ ⟨rfl, rfl, rfl, by simp, fun j _ hj => setRow_other w g j _ (fun e => hj (by rw [e]))⟩)
    have hxl : (l ++ news).length = l.length + news.length := List.length_append
    refine ⟨by simp, .inr ⟨g, cap, _, by rw [hxl], hbg, setRow_heap w g cur _ e _ hg, by omega, hcm, ?_, ?_⟩⟩
    · simp only [List.size_toArray, List.length_append, List.length_take, List.length_drop, Array.length_toList, List.length_map]
      omega
    · rw [htake, List.map_append]
      have : (l.map f ++ news.map f).length = (l ++ news).length * 1 := by simp
      rw [← this]
      exact List.take_left
end Go.Proofs.Ytldkmopkakdgnaa
