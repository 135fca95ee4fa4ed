/-
  Arguments opened to lists; what the bound on the arguments' bulk gives. No statement of the seat is proved here.
-/
import Derived.Test.YtldkmopkakdgnaaRows
import Derived.Test.YtldkmopkakdgnaaBase
import Derived.OpenShut
import Derived.ShutString
import Derived.JoinedCond
import Derived.Deep.Slices
import Derived.SizedLaws
import Derived.Lib.SmallJoins
namespace Go.Proofs.Ytldkmopkakdgnaa
open Go.ChangeShapes Go.WideShapes Go.ChangeAt Go.RowKit Go.Deep
set_option maxRecDepth 20000

section
variable {H : Type} {enc : TypeId × Value → H} {P : Program} {w : World} {base : Nat} {held : Bool}
theorem open_list1 {α : Type} (f : α → Value) (encd : α → DataW H) (Q : α → Prop) {t e : TypeId} (ht : P.underlying t = some (.slice e)) (hC : P.cellsOf e = 1)
    (hdec : ∀ n v y, DataW.trod enc P w base (fun _ => true) held n e [v] = some y → ∃ x, v = f x ∧ y.1 = encd x ∧ Q x)
    {A : Option Addr} {len cap : Nat} {d : DataW H} {p : List MemPlace} (h : DataW.Trod enc P w base (fun _ => true) held t (.slice A len cap) d p) :
    len ≤ cap ∧ cap ≤ maxLen ∧ ∃ l : List α, Rd w 1 A len (l.map f) ∧ (∀ x ∈ l, Q x) ∧ ((A = none ∧ cap = 0 ∧ l = [] ∧ d = .nil) ∨ ∃ sp : List (DataW H), d = .slice (l.map encd) sp ∧ l.length + sp.length = cap) := by
  obtain ⟨fuel, hf⟩ := h
  rcases open_slice1 ht hC hf with ⟨hcs, hx⟩ | ⟨a, len', cap', m, n, V, D, Pl, hcs, _, hl, hm, hmm, hx, hi⟩
  · simp [Value.cells] at hcs
    obtain ⟨rfl, rfl, rfl⟩ := hcs
    injection hx with hx _
    exact ⟨Nat.le_refl _, by simp, [], ⟨rfl, fun h => absurd h (by omega)⟩, by simp, .inl ⟨rfl, rfl, rfl, hx⟩⟩
  · simp [Value.cells] at hcs
    obtain ⟨rfl, rfl, rfl⟩ := hcs
    simp only [if_true] at hmm
    subst hmm
    have hk : ∀ k, k ≤ len → ∃ l : List α, l.length = k ∧ (∀ x ∈ l, Q x) ∧ ∀ i, i < k → ∃ x, l[i]? = some x ∧ V i = f x ∧ D i = encd x := by
      intro k
      induction k with
      | zero => intro _; exact ⟨[], rfl, by simp, fun i hi => absurd hi (by omega)⟩
      | succ k ih =>
        intro hk
        obtain ⟨l, h1, h2, h3⟩ := ih (by omega)
        obtain ⟨x, hv, hd, hq⟩ := hdec n (V k) (D k, Pl k) (hi k (by omega)).2
        refine ⟨l ++ [x], by simp [h1], ?_, fun i hik => ?_⟩
        · intro y hy
          rcases List.mem_append.1 hy with h | h
          · exact h2 y h
          · rw [List.mem_singleton.1 h]; exact hq
        · by_cases hlt : i < k
          · obtain ⟨y, g1, g2⟩ := h3 i hlt
            exact ⟨y, by rw [List.getElem?_append_left (by omega)]; exact g1, g2⟩
          · obtain rfl : i = k := by omega
            exact ⟨x, by rw [List.getElem?_append_right (by omega), h1]; simp, hv, hd⟩
    obtain ⟨l, h1, h2, h3⟩ := hk len (Nat.le_refl _)
    injection hx with hx _
    have hel : (List.range len).map D = l.map encd := by
      refine List.ext_getElem? fun i => ?_
      rw [List.getElem?_map, List.getElem?_map]
      by_cases hj : i < len
      · obtain ⟨x, g1, _, g3⟩ := h3 i hj
        simp [g1, g3, hj]
      · rw [List.getElem?_eq_none (by simp; omega), List.getElem?_eq_none (by omega)]; rfl
    refine ⟨hl, hm, l, ⟨by simp [h1], fun _ => ⟨a, rfl, fun j u hu => ?_⟩⟩, h2, .inr ⟨_, by rw [hx, hel], ?_⟩⟩
    · have hj : j < len := by have := (List.getElem?_eq_some_iff.1 hu).1; simp [h1] at this; exact this
      obtain ⟨x, g1, g2, _⟩ := h3 j hj
      rw [List.getElem?_map, g1] at hu
      simp at hu
      rw [(hi j (by omega)).1, g2, hu]
    · simp [h1]; omega
theorem open_bools {t e : TypeId} (ht : P.underlying t = some (.slice e)) (he : P.underlying e = some .bool) (hC : P.cellsOf e = 1) {A : Option Addr} {len cap : Nat} {d : DataW H} {p : List MemPlace}
    (h : DataW.Trod enc P w base (fun _ => true) held t (.slice A len cap) d p) :
    len ≤ cap ∧ cap ≤ maxLen ∧ ∃ l : List Bool, Rd w 1 A len (l.map Value.bool) ∧ (∀ x ∈ l, True) ∧ ((A = none ∧ cap = 0 ∧ l = [] ∧ d = .nil) ∨ ∃ sp : List (DataW H), d = .slice (l.map fun b => .lit (.bool b)) sp ∧ l.length + sp.length = cap) :=
  open_list1 Value.bool _ _ ht hC (fun n v y hy => by
    obtain ⟨b, hv, hx⟩ := DataW.trod_bool he hy
    simp at hv
    exact ⟨b, hv, by rw [hx], trivial⟩) h
theorem open_nums (k : IntKind) {t e : TypeId} (ht : P.underlying t = some (.slice e)) (he : P.underlying e = some (.int k)) (hC : P.cellsOf e = 1) {A : Option Addr} {len cap : Nat} {d : DataW H} {p : List MemPlace}
    (h : DataW.Trod enc P w base (fun _ => true) held t (.slice A len cap) d p) :
    len ≤ cap ∧ cap ≤ maxLen ∧ ∃ l : List Int, Rd w 1 A len (l.map (Value.int k)) ∧ (∀ x ∈ l, (Lit.int k x).wf = true) ∧ ((A = none ∧ cap = 0 ∧ l = [] ∧ d = .nil) ∨ ∃ sp : List (DataW H), d = .slice (l.map fun b => .lit (.int k b)) sp ∧ l.length + sp.length = cap) :=
  open_list1 (Value.int k) _ _ ht hC (fun n v y hy => by
    obtain ⟨b, hv, hx, hw⟩ := DataW.trod_int he hy
    simp at hv
    exact ⟨b, hv, by rw [hx], hw⟩) h
end

/-! The bound -/
theorem bulk_pos {H : Type} (d : DataW H) : 1 ≤ Rows.uptoBulk d := by
  cases d with
  | lit l => cases l <;> simp [Rows.uptoBulk]
  | _ => simp [Rows.uptoBulk]
theorem bulk_len {H : Type} (l : List (DataW H)) : l.length ≤ Rows.uptoBulkAll l := by
  induction l with
  | nil => simp [Rows.uptoBulkAll]
  | cons x r ih => have := bulk_pos x; simp only [Rows.uptoBulkAll, List.length_cons]; omega
theorem bulk_slice {H : Type} (l sp : List (DataW H)) : l.length + sp.length + 1 ≤ Rows.uptoBulk (.slice l sp) := by
  have h1 := bulk_len l
  have h2 := bulk_len sp
  simp only [Rows.uptoBulk]
  omega
theorem bulk_bound {H : Type} {l : List (DataW H)} (hk : Rows.uptoSmall H l = true) : Rows.uptoBulkAll l ≤ 1048576 := of_decide_eq_true hk
/-- A slice's capacity is no more than its bulk. -/
theorem bulk_cap {H : Type} {A : Option Addr} {cap : Nat} {α : Type} {l : List α} {encd : α → DataW H} {d : DataW H}
    (h : (A = none ∧ cap = 0 ∧ l = [] ∧ d = .nil) ∨ ∃ sp : List (DataW H), d = .slice (l.map encd) sp ∧ l.length + sp.length = cap) : cap ≤ Rows.uptoBulk d := by
  rcases h with ⟨_, rfl, _⟩ | ⟨sp, rfl, hl⟩
  · exact Nat.zero_le _
  · have := bulk_slice (l.map encd) sp
    simp at this
    omega

/-! The form's own reach -/
section
variable {H : Type} {P : Program}
theorem reach_cons {t : TypeId} {ts : List TypeId} {d : DataW H} {ds : List (DataW H)} (h : (DataW.weightsEach P (t :: ts) (d :: ds)).all (· ≤ reachBytes) = true) :
    (d.weights P t).all (· ≤ reachBytes) = true ∧ (DataW.weightsEach P ts ds).all (· ≤ reachBytes) = true := by
  rw [DataW.weightsEach, List.all_append, Bool.and_eq_true] at h
  exact h
theorem reach_agg {t : TypeId} {fs : Array Field} {parts : List (DataW H)} (ht : P.underlying t = some (.struct fs)) (h : (DataW.weights P t (.agg parts)).all (· ≤ reachBytes) = true) :
    (DataW.weightsEach P (fs.toList.map (·.type)) parts).all (· ≤ reachBytes) = true := by
  rw [DataW.weights, ht] at h
  exact h
theorem reach_slice {t e : TypeId} {A : Option Addr} {cap bytes : Nat} {α : Type} {l : List α} {encd : α → DataW H} {d : DataW H} (ht : P.underlying t = some (.slice e)) (he : P.bytesOf e = bytes) (h : (d.weights P t).all (· ≤ reachBytes) = true)
    (hd : (A = none ∧ cap = 0 ∧ l = [] ∧ d = .nil) ∨ ∃ sp : List (DataW H), d = .slice (l.map encd) sp ∧ l.length + sp.length = cap) : cap * bytes ≤ 140737488351232 := by
  rcases hd with ⟨_, rfl, _⟩ | ⟨sp, rfl, hl⟩
  · simp
  · have := List.all_eq_true.1 h ((l.map encd).length + sp.length |> (· * P.bytesOf e)) (by simp [DataW.weights, ht])
    rw [he] at this
    simp only [List.length_map, hl, reachBytes, decide_eq_true_eq] at this
    exact this
end
end Go.Proofs.Ytldkmopkakdgnaa
