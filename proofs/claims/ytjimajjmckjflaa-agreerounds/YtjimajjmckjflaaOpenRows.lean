/-
  An argument that is a slice of slices of integers, opened to a list of rows. No statement of the seat is proved here.
-/
import Derived.Test.YtjimajjmckjflaaOpen
namespace Go.Proofs.Ytjimajjmckjflaa
open Go.ChangeShapes Go.WideShapes Go.ChangeAt Go.RowKit Go.Deep
set_option linter.unusedVariables false

/-- A row as a value: address, length, capacity; and what it holds. -/
def rowV (p : Option Addr × Nat × Nat × List Int) : Value := .slice p.1 p.2.1 p.2.2.1

section
variable {H : Type} {enc : TypeId × Value → H} {P : Program} {w : World} {base : Nat} {held : Bool}
/-- What is known of a row whose reading is d. -/
def RowOk (k : IntKind) (w : World) (p : Option Addr × Nat × Nat × List Int) (d : DataW H) : Prop :=
  Rd w 1 p.1 p.2.1 (p.2.2.2.map (Value.int k)) ∧ p.2.1 ≤ p.2.2.1 ∧ (∀ x ∈ p.2.2.2, (Lit.int k x).wf = true) ∧ p.2.2.1 ≤ Rows.uptoBulk d ∧ p.2.2.2.length + 1 ≤ Rows.uptoBulk d
theorem open_row (k : IntKind) {t e : TypeId} (ht : P.underlying t = some (.slice e)) (he : P.underlying e = some (.int k)) (hC : P.cellsOf e = 1) {n : Nat} {v : Value} {y : DataW H × List MemPlace}
    (hy : DataW.trod enc P w base (fun _ => true) held n t [v] = some y) : ∃ p, v = rowV p ∧ RowOk k w p y.1 := by
  obtain ⟨A, len, cap, rfl⟩ : ∃ A len cap, v = .slice A len cap := by
    rcases open_slice1 ht hC hy with ⟨hcs, _⟩ | ⟨a, len', cap', m, n, V, D, Pl, hcs, _⟩
    · simp at hcs; exact ⟨_, _, _, hcs⟩
    · simp at hcs; exact ⟨_, _, _, hcs⟩
  obtain ⟨h1, h2, l, hr, hw, hd⟩ := open_nums k ht he hC (d := y.1) (p := y.2) ⟨n, hy⟩
  refine ⟨(A, len, cap, l), rfl, hr, h1, hw, bulk_cap hd, ?_⟩
  rcases hd with ⟨_, _, rfl, hd⟩ | ⟨sp, hd, hl⟩
  · exact bulk_pos _
  · rw [hd]
    have := bulk_slice (H := H) (l.map fun b => .lit (.int k b)) sp
    rw [List.length_map] at this
    simp only
    omega
theorem bulk_rows {l : List ((Option Addr × Nat × Nat × List Int) × DataW H)} (h : ∀ x ∈ l, x.1.2.2.2.length + 1 ≤ Rows.uptoBulk x.2) : ((l.map (·.1)).map fun p => p.2.2.2.length + 1).sum ≤ Rows.uptoBulkAll (l.map (·.2)) := by
  induction l with
  | nil => simp [Rows.uptoBulkAll]
  | cons x r ih =>
    have h1 := h x (by simp)
    have h2 := ih (fun y hy => h y (by simp [hy]))
    simp only [List.map_cons, List.sum_cons, Rows.uptoBulkAll]
    omega
theorem bulk_mem {l : List (DataW H)} {d : DataW H} (h : d ∈ l) : Rows.uptoBulk d ≤ Rows.uptoBulkAll l := by
  induction l with
  | nil => cases h
  | cons x r ih =>
    simp only [Rows.uptoBulkAll]
    rcases List.mem_cons.1 h with rfl | h
    · omega
    · have := ih h; omega
theorem open_rows_upto (k : IntKind) {t e ee : TypeId} (ht : P.underlying t = some (.slice e)) (hC : P.cellsOf e = 1) (hte : P.underlying e = some (.slice ee)) (hee : P.underlying ee = some (.int k)) (hCe : P.cellsOf ee = 1)
    {A : Option Addr} {len cap : Nat} {d : DataW H} {p : List MemPlace} (h : DataW.Trod enc P w base (fun _ => true) held t (.slice A len cap) d p) (hbk : Rows.uptoBulk d ≤ 1048576) :
    ∃ L : List (Option Addr × Nat × Nat × List Int), Rd w 1 A len (L.map rowV) ∧ (∀ p ∈ L, Rd w 1 p.1 p.2.1 (p.2.2.2.map (Value.int k)) ∧ p.2.1 ≤ p.2.2.1 ∧ p.2.2.1 ≤ 1048576 ∧ ∀ x ∈ p.2.2.2, (Lit.int k x).wf = true) ∧ len ≤ cap ∧ cap ≤ 1048576 ∧ (L.map fun p => p.2.2.2.length + 1).sum ≤ 1048576 := by
  obtain ⟨h1, h2, l, hr, hq, hd⟩ := open_list1 (fun x : (Option Addr × Nat × Nat × List Int) × DataW H => rowV x.1) (fun x => x.2) (fun x => RowOk k w x.1 x.2) ht hC (fun n v y hy => by
    obtain ⟨p, hv, hok⟩ := open_row k hte hee hCe hy
    exact ⟨(p, y.1), hv, rfl, hok⟩) h
  have hcap := bulk_cap hd
  have hsum : ((l.map (·.1)).map fun p => p.2.2.2.length + 1).sum ≤ Rows.uptoBulk d ∧ ∀ x ∈ l, Rows.uptoBulk x.2 ≤ Rows.uptoBulk d := by
    rcases hd with ⟨_, _, rfl, hd⟩ | ⟨sp, rfl, hl⟩
    · simp
    · have := bulk_rows (l := l) (fun x hx => (hq x hx).2.2.2.2)
      refine ⟨by simp only [Rows.uptoBulk]; omega, fun x hx => ?_⟩
      have := bulk_mem (List.mem_map_of_mem (f := (·.2)) hx)
      simp only [Rows.uptoBulk]
      omega
  refine ⟨l.map (·.1), by rw [List.map_map]; exact hr, ?_, h1, by omega, by have := hsum.1; omega⟩
  intro p hp
  obtain ⟨x, hx, rfl⟩ := List.mem_map.1 hp
  obtain ⟨g1, g2, g3, g4, _⟩ := hq x hx
  exact ⟨g1, g2, by have := hsum.2 x hx; omega, g3⟩

/-! The same within the form's own reach -/
theorem weights_mem {e : TypeId} {d : DataW H} {N : Nat} : ∀ {l : List (DataW H)}, d ∈ l → (DataW.weightsAll P e l).all (· ≤ N) = true → (d.weights P e).all (· ≤ N) = true
  | x :: r, h, g => by
    rw [DataW.weightsAll, List.all_append, Bool.and_eq_true] at g
    rcases List.mem_cons.1 h with rfl | h
    · exact g.1
    · exact weights_mem h g.2
def RowOkR (k : IntKind) (w : World) (p : Option Addr × Nat × Nat × List Int) (d : DataW H) : Prop :=
  Rd w 1 p.1 p.2.1 (p.2.2.2.map (Value.int k)) ∧ p.2.1 ≤ p.2.2.1 ∧ (∀ x ∈ p.2.2.2, (Lit.int k x).wf = true) ∧
    ((p.1 = none ∧ p.2.2.1 = 0 ∧ p.2.2.2 = [] ∧ d = .nil) ∨ ∃ sp : List (DataW H), d = .slice (p.2.2.2.map fun b => .lit (.int k b)) sp ∧ p.2.2.2.length + sp.length = p.2.2.1)
theorem open_rowR (k : IntKind) {t e : TypeId} (ht : P.underlying t = some (.slice e)) (he : P.underlying e = some (.int k)) (hC : P.cellsOf e = 1) {n : Nat} {v : Value} {y : DataW H × List MemPlace}
    (hy : DataW.trod enc P w base (fun _ => true) held n t [v] = some y) : ∃ p, v = rowV p ∧ RowOkR k w p y.1 := by
  obtain ⟨A, len, cap, rfl⟩ : ∃ A len cap, v = .slice A len cap := by
    rcases open_slice1 ht hC hy with ⟨hcs, _⟩ | ⟨a, len', cap', m, n, V, D, Pl, hcs, _⟩
    · simp at hcs; exact ⟨_, _, _, hcs⟩
    · simp at hcs; exact ⟨_, _, _, hcs⟩
  obtain ⟨h1, h2, l, hr, hw, hd⟩ := open_nums k ht he hC (d := y.1) (p := y.2) ⟨n, hy⟩
  exact ⟨(A, len, cap, l), rfl, hr, h1, hw, hd⟩
theorem open_rows_reach (k : IntKind) {t e ee : TypeId} {bytes bytes2 : Nat} (ht : P.underlying t = some (.slice e)) (hC : P.cellsOf e = 1) (hb1 : P.bytesOf e = bytes) (hte : P.underlying e = some (.slice ee)) (hee : P.underlying ee = some (.int k)) (hCe : P.cellsOf ee = 1) (hb2 : P.bytesOf ee = bytes2)
    {A : Option Addr} {len cap : Nat} {d : DataW H} {p : List MemPlace} (h : DataW.Trod enc P w base (fun _ => true) held t (.slice A len cap) d p) (hz : (d.weights P t).all (· ≤ reachBytes) = true) :
    ∃ L : List (Option Addr × Nat × Nat × List Int), Rd w 1 A len (L.map rowV) ∧ (∀ p ∈ L, Rd w 1 p.1 p.2.1 (p.2.2.2.map (Value.int k)) ∧ p.2.1 ≤ p.2.2.1 ∧ p.2.2.1 * bytes2 ≤ 140737488351232 ∧ ∀ x ∈ p.2.2.2, (Lit.int k x).wf = true) ∧ len ≤ cap ∧ cap * bytes ≤ 140737488351232 := by
  obtain ⟨h1, h2, l, hr, hq, hd⟩ := open_list1 (fun x : (Option Addr × Nat × Nat × List Int) × DataW H => rowV x.1) (fun x => x.2) (fun x => RowOkR k w x.1 x.2) ht hC (fun n v y hy => by
    obtain ⟨p, hv, hok⟩ := open_rowR k hte hee hCe hy
    exact ⟨(p, y.1), hv, rfl, hok⟩) h
  have hcap := reach_slice ht hb1 hz hd
  refine ⟨l.map (·.1), by rw [List.map_map]; exact hr, ?_, h1, hcap⟩
  intro p hp
  obtain ⟨x, hx, rfl⟩ := List.mem_map.1 hp
  obtain ⟨g1, g2, g3, g4⟩ := hq x hx
  have hzx : (x.2.weights P e).all (· ≤ reachBytes) = true := by
    rcases hd with ⟨_, _, rfl, hd⟩ | ⟨sp, rfl, hl⟩
    · cases hx
    · simp only [DataW.weights, ht, List.all_cons, List.all_append, Bool.and_eq_true] at hz
      exact weights_mem (List.mem_map_of_mem (f := (·.2)) hx) hz.2.1
  exact ⟨g1, g2, reach_slice hte hb2 hzx g4, g3⟩
end
end Go.Proofs.Ytjimajjmckjflaa
