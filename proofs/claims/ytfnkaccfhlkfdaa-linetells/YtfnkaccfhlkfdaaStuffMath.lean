/-
  Bit stuffing on lists: the run at the end, stuffing, unstuffing, the longest run. No program here.
-/
import Derived.Test.YtfnkaccfhlkfdaaBase
namespace Go.Proofs.Ytfnkaccfhlkfdaa

/-- The row of equal bits at the end; one bit more. -/
def addRun (r : Bool × Nat) (x : Bool) : Bool × Nat := if x = r.1 then (r.1, r.2 + 1) else (x, 1)
def runFrom (r : Bool × Nat) (l : List Bool) : Bool × Nat := l.foldl addRun r
def runOf (l : List Bool) : Bool × Nat := runFrom (false, 0) l
theorem runOf_snoc (l : List Bool) (x : Bool) : runOf (l ++ [x]) = addRun (runOf l) x := by simp [runOf, runFrom]
theorem addRun_le (r : Bool × Nat) (x : Bool) : (addRun r x).2 ≤ r.2 + 1 := by unfold addRun; split <;> simp
theorem runOf_le (l : List Bool) : (runOf l).2 ≤ l.length :=
  snoc_rec (p := fun l => (runOf l).2 ≤ l.length) (by simp [runOf, runFrom]) (fun l x ih => by rw [runOf_snoc]; have := addRun_le (runOf l) x; simp; omega) l

/-- One bit more of the input, behind what is out already. -/
def stuffStep (acc : List Bool) (x : Bool) : List Bool := if (runOf (acc ++ [x])).2 = 5 then acc ++ [x] ++ [!x] else acc ++ [x]
def stuffM (l : List Bool) : List Bool := l.foldl stuffStep []
theorem stuffM_snoc (l : List Bool) (x : Bool) : stuffM (l ++ [x]) = stuffStep (stuffM l) x := by simp [stuffM]
theorem stuffM_len (l : List Bool) : (stuffM l).length ≤ 2 * l.length :=
  snoc_rec (p := fun l => (stuffM l).length ≤ 2 * l.length) (by simp [stuffM]) (fun l x ih => by rw [stuffM_snoc]; unfold stuffStep; split <;> simp <;> omega) l

/-- Unstuffing from a run on: what comes out, and the error. -/
def unFrom (r : Bool × Nat) : List Bool → List Bool × Int
  | [] => ([], if r.2 = 5 then 8 else 0)
  | x :: t => if r.2 = 5 then (if x = r.1 then ([], 1) else unFrom (addRun r x) t)
      else if (unFrom (addRun r x) t).2 = 0 then (x :: (unFrom (addRun r x) t).1, 0) else ([], (unFrom (addRun r x) t).2)
def unstuffM (l : List Bool) : List Bool × Int := unFrom (false, 0) l
def finU (acc : List Bool) (r : List Bool × Int) : List Bool × Int := if r.2 = 0 then (acc ++ r.1, 0) else ([], r.2)

theorem unFrom_err : ∀ (l : List Bool) (r : Bool × Nat), (unFrom r l).2 ≠ 0 → (unFrom r l).1 = []
  | [], r, _ => rfl
  | x :: t, r, h => by
    have ih := unFrom_err t (addRun r x)
    unfold unFrom at h ⊢
    split
    · rename_i h5
      rw [if_pos h5] at h
      split
      · rfl
      · rename_i hx
        rw [if_neg hx] at h
        exact ih h
    · rename_i h5
      rw [if_neg h5] at h
      split
      · rename_i h0; rw [if_pos h0] at h; simp at h
      · rfl
theorem finU_nil (r : Bool × Nat) (l : List Bool) : finU [] (unFrom r l) = unFrom r l := by
  unfold finU
  split
  · rename_i h; rw [List.nil_append, ← h]
  · rename_i h; rw [← unFrom_err l r h]
theorem finU_bad (acc : List Bool) (r : Bool × Nat) (x : Bool) (t : List Bool) (h5 : r.2 = 5) (hx : x = r.1) : finU acc (unFrom r (x :: t)) = ([], 1) := by
  simp [unFrom, finU, h5, hx]
theorem finU_drop (acc : List Bool) (r : Bool × Nat) (x : Bool) (t : List Bool) (h5 : r.2 = 5) (hx : x ≠ r.1) : finU acc (unFrom r (x :: t)) = finU acc (unFrom (addRun r x) t) := by
  simp [unFrom, h5, hx]
theorem finU_take (acc : List Bool) (r : Bool × Nat) (x : Bool) (t : List Bool) (h5 : r.2 ≠ 5) : finU acc (unFrom r (x :: t)) = finU (acc ++ [x]) (unFrom (addRun r x) t) := by
  by_cases h : (unFrom (addRun r x) t).2 = 0 <;> simp [unFrom, finU, h5, h]
theorem finU_end (acc : List Bool) (r : Bool × Nat) : finU acc (unFrom r []) = if r.2 = 5 then ([], 8) else (acc, 0) := by
  by_cases h : r.2 = 5 <;> simp [unFrom, finU, h]
theorem unFrom_len : ∀ (l : List Bool) (r : Bool × Nat), (unFrom r l).1.length ≤ l.length
  | [], r => by simp [unFrom]
  | x :: t, r => by
    have ih := unFrom_len t (addRun r x)
    unfold unFrom
    split
    · split
      · simp
      · simp; omega
    · split <;> simp; omega

theorem runOf_fst (l : List Bool) (x : Bool) : (runOf (l ++ [x])).1 = x := by
  rw [runOf_snoc]; unfold addRun; split <;> simp_all
/-- The run as one sees it by looking back. -/
theorem runOf_back (p : List Bool) (x : Bool) (c : Nat) (hc : 0 < c) (hp : ∀ q y, p = q ++ [y] → y ≠ x) : runOf (p ++ List.replicate c x) = (x, c) := by
  induction c with
  | zero => omega
  | succ c ih =>
    rw [List.replicate_succ', ← List.append_assoc, runOf_snoc]
    rcases Nat.eq_zero_or_pos c with h0 | h0
    · subst h0
      rw [List.replicate_zero, List.append_nil]
      rcases List.eq_nil_or_concat p with rfl | ⟨q, y, rfl⟩
      · cases x <;> rfl
      · rw [List.concat_eq_append] at hp ⊢
        have h1 := runOf_fst q y
        have h2 := hp q y rfl
        unfold addRun
        rw [h1, if_neg (fun e => h2 e.symm)]
    · rw [ih h0]; simp [addRun]
theorem back_end (l : List Bool) (n c : Nat) (x : Bool) (hn : l.length = n) (hc : 0 < c) (hcn : c ≤ n) (hd : l.drop (n - c) = List.replicate c x)
    (hx : c = n ∨ ∃ y, l[n - 1 - c]? = some y ∧ y ≠ x) : (runOf l).2 = c := by
  have e : l = l.take (n - c) ++ List.replicate c x := by rw [← hd, List.take_append_drop]
  have := runOf_back (l.take (n - c)) x c hc (fun q y hq => by
    rcases hx with rfl | ⟨z, hz, hne⟩
    · simp at hq
    · have hl : q.length = n - 1 - c := by have := congrArg List.length hq; simp at this; omega
      have h1 : (l.take (n - c))[n - 1 - c]? = some y := by rw [hq, ← hl]; simp
      rw [List.getElem?_take] at h1
      split at h1
      · rw [hz] at h1; injection h1 with h1; exact h1 ▸ hne
      · cases h1)
  rw [← e] at this
  rw [this]

/-- The longest run. -/
def longFrom (r : Bool × Nat) (m : Nat) : List Bool → Nat
  | [] => m
  | x :: t => longFrom (addRun r x) (max m (addRun r x).2) t
def longM (l : List Bool) : Nat := longFrom (false, 0) 0 l
end Go.Proofs.Ytfnkaccfhlkfdaa
