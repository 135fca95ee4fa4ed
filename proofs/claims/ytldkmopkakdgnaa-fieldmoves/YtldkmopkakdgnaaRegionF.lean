/-
  A region whose order of evaluation is open, which reads, may make memory, and then writes: the operations from number F on (the stores at its end) may write anything, and each of them waits for every read. So a read may be taken first as long as nothing from F on has come up; an operation that looks at no memory may be taken first at any time. No statement of the seat is here.
-/
import Derived.Test.YtldkmopkakdgnaaRegion
namespace Go.Proofs.Ytldkmopkakdgnaa
open Go.RowKit
set_option maxRecDepth 20000

/-- Whatever order is picked from here on; no operation before number F writes a block below B. -/
def wpAnyF (F B : Nat) (P : Program) (md : Region.Mode) (ops : Array Oper) (Q : Exit → Act → World → Prop) : Nat → Array Bool → Act → World → Prop
  | 0, listed, a, w => Region.ready md ops listed = [] ∧ Q .normal a w
  | fuel + 1, listed, a, w =>
    (Region.ready md ops listed = [] → Q .normal a w) ∧
    ∀ i ∈ Region.ready md ops listed, wpOp P ops Q i (fun a' w' => (i < F → Below B w w') ∧ wpAnyF F B P md ops Q fuel (listed.setIfInBounds i true) a' w') a w

/-- Every operation from F on waits for number i. -/
def fenced (F : Nat) (md : Region.Mode) (ops : Array Oper) (i : Nat) : Bool :=
  (List.range ops.size).all fun j => decide (j < F) || (match ops[j]? with | some o => o.after.any fun e => Region.binds md e && e.on == i | none => true)
theorem fenced_spec {F : Nat} {md : Region.Mode} {ops : Array Oper} {i j : Nat} {oj : Oper} (h : fenced F md ops i = true) (hj : ops[j]? = some oj) (hF : F ≤ j) : ∃ e ∈ oj.after, Region.binds md e = true ∧ e.on = i := by
  unfold fenced at h
  rw [List.all_eq_true] at h
  have hlt : j < ops.size := by
    rcases Nat.lt_or_ge j ops.size with k | k
    · exact k
    · rw [Array.getElem?_eq_none k] at hj; cases hj
  have h1 := h j (List.mem_range.2 hlt)
  rw [hj, decide_eq_false (by omega), Bool.false_or] at h1
  simp only [Array.any_eq_true, Bool.and_eq_true, beq_iff_eq] at h1
  obtain ⟨k, hk, h2, h3⟩ := h1
  exact ⟨_, Array.getElem_mem hk, h2, h3⟩

section
variable {P : Program} {ops : Array Oper} {Q : Exit → Act → World → Prop} {md : Region.Mode} {F B : Nat}

theorem wpAny_of_F : ∀ (fuel : Nat) (listed : Array Bool) (a : Act) (w : World), wpAnyF F B P md ops Q fuel listed a w → wpAny P md ops Q fuel listed a w
  | 0, _, _, _, h => h
  | fuel + 1, _, _, _, h => ⟨h.1, fun i hi => wpOp_mono (fun a' w' h' => wpAny_of_F fuel _ a' w' h'.2) (h.2 i hi)⟩

/-- The worlds in which a read is looked at: all later ones, or (an operation that looks at no memory) all. -/
def Seen (B : Nat) (pure : Bool) (w : World) : World → Prop := fun W => pure = true ∨ Below B w W

theorem wpAnyF_first {pure : Bool} {i : Nat} {oi : Oper} {v : Value} (hi : ops[i]? = some oi) (hsel : ∀ (j : Nat) (o : Oper) cs b, ops[j]? = some o → o.op ≠ .select cs b)
    (hiF : pure = true ∨ (i < F ∧ fenced F md ops i = true))
    (hQ : ∀ c a w, Q (.panic c) (a.put oi.dst v) w → Q (.panic c) a w) :
    ∀ (fuel : Nat) (listed : Array Bool) (a : Act) (w : World),
      (∀ j oj, ops[j]? = some oj → j ≠ i → listed.getD j true = false → (∀ e ∈ oj.after, Region.binds md e = true → e.on ≠ i) → oi.apart ops oj = true) →
      i ∈ Region.ready md ops listed → YieldsIf P ops (Seen B pure w) oi v a →
      wpAnyF F B P md ops Q fuel (listed.setIfInBounds i true) (a.put oi.dst v) w → wpAnyF F B P md ops Q (fuel + 1) listed a w := by
  intro fuel
  induction fuel with
  | zero =>
    intro listed a w _ hr hy H
    refine ⟨fun h => (by rw [h] at hr; cases hr), fun j hj => ?_⟩
    by_cases hji : j = i
    · subst hji; exact hy.wpOp hi (.inr (Below.refl _ _)) ⟨fun _ => Below.refl _ _, H⟩
    · have := ready_mono hj hji
      rw [H.1] at this
      cases this
  | succ fuel ih =>
    intro listed a w hfree hr hy H
    refine ⟨fun h => (by rw [h] at hr; cases hr), fun j hj => ?_⟩
    by_cases hji : j = i
    · subst hji; exact hy.wpOp hi (.inr (Below.refl _ _)) ⟨fun _ => Below.refl _ _, H⟩
    · have h1 := H.2 j (ready_mono hj hji)
      obtain ⟨hjun, oj, hoj, hall⟩ := mem_ready.1 hj
      have hnot : ∀ e ∈ oj.after, Region.binds md e = true → e.on ≠ i := fun e he hb heq => by
        have h1 := hall e he hb
        have h0 := (mem_ready.1 hr).1
        rw [heq] at h1
        rcases Nat.lt_or_ge i listed.size with h' | h'
        · simp [h'] at h0 h1; rw [h0] at h1; cases h1
        · simp [Array.getElem?_eq_none h'] at h1
      have hjF : pure = true ∨ j < F := by
        rcases hiF with h | ⟨_, h⟩
        · exact .inl h
        · rcases Nat.lt_or_ge j F with hlt | hge
          · exact .inr hlt
          · obtain ⟨e, he, hb, heq⟩ := fenced_spec h hoj hge
            exact absurd heq (hnot e he hb)
      have h2 := wpOp_putIf hoj (hfree j oj hoj hji hjun hnot) (fun cs b => hsel i oi cs b hi) (fun cs b => hsel j oj cs b hoj) hQ hy h1
      have hfree' : ∀ k ok, ops[k]? = some ok → k ≠ i → (listed.setIfInBounds j true).getD k true = false →
          (∀ e ∈ ok.after, Region.binds md e = true → e.on ≠ i) → oi.apart ops ok = true := fun k ok hk hki hun hno => by
        refine hfree k ok hk hki ?_ hno
        by_cases hjk : j = k
        · subst hjk; exact hjun
        · rw [getD_set_ne true hjk] at hun; exact hun
      refine wpOp_mono (fun a' w' h3 => ⟨h3.2.1, ih (listed.setIfInBounds j true) a' w' hfree' (ready_mono hr (Ne.symm hji)) (yieldsIf_imp h3.1 fun W hW => ?_) ?_⟩) h2
      · rcases hjF with hp | hlt
        · exact .inl hp
        · rcases hW with hp | hW
          · exact .inl hp
          · exact .inr ((h3.2.1 hlt).trans hW)
      · rw [Array.setIfInBounds_comm _ _ hji]
        exact h3.2.2

/-- Take the read number i first. -/
theorem wpAnyF_take {i : Nat} {oi : Oper} {v : Value} {fuel : Nat} {listed : Array Bool} {a : Act} {w : World} (hi : ops[i]? = some oi)
    (hs : Region.noSelect ops = true) (hf : Region.free md ops listed i = true) (hr : (Region.ready md ops listed).contains i = true) (hiF : i < F) (hfe : fenced F md ops i = true)
    (hQ : ∀ c a w, Q (.panic c) (a.put oi.dst v) w → Q (.panic c) a w) (hy : YieldsIf P ops (fun W => Below B w W) oi v a)
    (h : wpAnyF F B P md ops Q fuel (listed.setIfInBounds i true) (a.put oi.dst v) w) : wpAnyF F B P md ops Q (fuel + 1) listed a w :=
  wpAnyF_first (pure := false) hi (Region.noSelect_spec hs) (.inr ⟨hiF, hfe⟩) hQ fuel listed a w (Region.free_spec hi hf) (by simpa using hr) (yieldsIf_imp hy fun W hW => hW.resolve_left (by simp)) h
/-- Take number i, which looks at no memory, first. -/
theorem wpAnyF_pure {i : Nat} {oi : Oper} {v : Value} {fuel : Nat} {listed : Array Bool} {a : Act} {w : World} (hi : ops[i]? = some oi)
    (hs : Region.noSelect ops = true) (hf : Region.free md ops listed i = true) (hr : (Region.ready md ops listed).contains i = true)
    (hQ : ∀ c a w, Q (.panic c) (a.put oi.dst v) w → Q (.panic c) a w) (hy : YieldsIf P ops (fun _ => True) oi v a)
    (h : wpAnyF F B P md ops Q fuel (listed.setIfInBounds i true) (a.put oi.dst v) w) : wpAnyF F B P md ops Q (fuel + 1) listed a w :=
  wpAnyF_first (pure := true) hi (Region.noSelect_spec hs) (.inl rfl) hQ fuel listed a w (Region.free_spec hi hf) (by simpa using hr) (yieldsIf_imp hy fun W _ => trivial) h

/-- Only number i, before F, may come up: it is carried out. -/
theorem wpAnyF_one {i : Nat} {o : Oper} {fuel : Nat} {listed : Array Bool} {a : Act} {w : World} (hr : Region.ready md ops listed = [i]) (ho : ops[i]? = some o)
    (h : ∀ K' : Act → World → Prop, Shut (∀ a' w', Below B w w' → wpAnyF F B P md ops Q fuel (listed.setIfInBounds i true) a' w' → K' a' w') →
      if Region.wanted o (yielded ops a.tmps) = true then Oper.wp P o a w K' Q else K' (a.put o.dst undef) w) : wpAnyF F B P md ops Q (fuel + 1) listed a w := by
  refine ⟨fun e => (by rw [hr] at e; cases e), fun j hj => ?_⟩
  rw [hr] at hj
  obtain rfl : j = i := List.mem_singleton.1 hj
  have hk := h (fun a' w' => (j < F → Below B w w') ∧ wpAnyF F B P md ops Q fuel (listed.setIfInBounds j true) a' w') (fun a' w' h1 h2 => ⟨fun _ => h1, h2⟩)
  unfold wpOp
  simp only [ho]
  split
  · rename_i hw
    rw [if_pos hw] at hk
    exact .inl hk
  · rename_i hw
    rw [if_neg hw] at hk
    exact hk
/-- Only number i, from F on, may come up: it is carried out. -/
theorem wpAnyF_last {i : Nat} {o : Oper} {fuel : Nat} {listed : Array Bool} {a : Act} {w : World} (hr : Region.ready md ops listed = [i]) (ho : ops[i]? = some o) (hF : F ≤ i)
    (h : ∀ K' : Act → World → Prop, Shut (∀ a' w', wpAnyF F B P md ops Q fuel (listed.setIfInBounds i true) a' w' → K' a' w') →
      if Region.wanted o (yielded ops a.tmps) = true then Oper.wp P o a w K' Q else K' (a.put o.dst undef) w) : wpAnyF F B P md ops Q (fuel + 1) listed a w := by
  refine ⟨fun e => (by rw [hr] at e; cases e), fun j hj => ?_⟩
  rw [hr] at hj
  obtain rfl : j = i := List.mem_singleton.1 hj
  have hk := h (fun a' w' => (j < F → Below B w w') ∧ wpAnyF F B P md ops Q fuel (listed.setIfInBounds j true) a' w') (fun a' w' h2 => ⟨fun hlt => absurd hF (by omega), h2⟩)
  unfold wpOp
  simp only [ho]
  split
  · rename_i hw
    rw [if_pos hw] at hk
    exact .inl hk
  · rename_i hw
    rw [if_neg hw] at hk
    exact hk

/-- Either number i or number j, both before F, comes up: both ways. -/
theorem wpAnyF_two {i j : Nat} {oi oj : Oper} {fuel : Nat} {listed : Array Bool} {a : Act} {w : World} (hr : Region.ready md ops listed = [i, j]) (hoi : ops[i]? = some oi) (hoj : ops[j]? = some oj)
    (hi : ∀ K' : Act → World → Prop, Shut (∀ a' w', Below B w w' → wpAnyF F B P md ops Q fuel (listed.setIfInBounds i true) a' w' → K' a' w') →
      if Region.wanted oi (yielded ops a.tmps) = true then Oper.wp P oi a w K' Q else K' (a.put oi.dst undef) w)
    (hj : ∀ K' : Act → World → Prop, Shut (∀ a' w', Below B w w' → wpAnyF F B P md ops Q fuel (listed.setIfInBounds j true) a' w' → K' a' w') →
      if Region.wanted oj (yielded ops a.tmps) = true then Oper.wp P oj a w K' Q else K' (a.put oj.dst undef) w) : wpAnyF F B P md ops Q (fuel + 1) listed a w := by
  refine ⟨fun e => (by rw [hr] at e; cases e), fun k hk => ?_⟩
  rw [hr] at hk
  have hk' : k = i ∨ k = j := by simpa using hk
  rcases hk' with rfl | rfl
  · have h := hi (fun a' w' => (k < F → Below B w w') ∧ wpAnyF F B P md ops Q fuel (listed.setIfInBounds k true) a' w') (fun a' w' h1 h2 => ⟨fun _ => h1, h2⟩)
    unfold wpOp
    simp only [hoi]
    split
    · rename_i hw; rw [if_pos hw] at h; exact .inl h
    · rename_i hw; rw [if_neg hw] at h; exact h
  · have h := hj (fun a' w' => (k < F → Below B w w') ∧ wpAnyF F B P md ops Q fuel (listed.setIfInBounds k true) a' w') (fun a' w' h1 h2 => ⟨fun _ => h1, h2⟩)
    unfold wpOp
    simp only [hoj]
    split
    · rename_i hw; rw [if_pos hw] at h; exact .inl h
    · rename_i hw; rw [if_neg hw] at h; exact h

theorem wpAnyF_done {fuel : Nat} {listed : Array Bool} {a : Act} {w : World} (hr : Region.ready md ops listed = []) (h : Q .normal a w) : wpAnyF F B P md ops Q fuel listed a w := by
  cases fuel with
  | zero => exact ⟨hr, h⟩
  | succ fuel => exact ⟨fun _ => h, fun i hi => by rw [hr] at hi; cases hi⟩

theorem wp_region_F (F B : Nat) {id : Nat} {a : Act} {w : World} (hm : P.follows .mixedOrders = true)
    (h : wpAnyF F B P .any ops Q ops.size (Array.replicate ops.size false) a w.drew) : (Code.region id ops true).wp P Q a w :=
  wp_region_any hm (wpAny_of_F _ _ _ _ h)
end
end Go.Proofs.Ytldkmopkakdgnaa
