/-
  Plain lists for chapter 6: both levels, by turns, the running sum. No statement of the seat is here.
-/
import Derived.Test.YtfnkaccfhlkfdaaStuffMath2
namespace Go.Proofs.Ytfnkaccfhlkfdaa

/-! Manchester code -/
def bothM : List Bool → List Bool
  | [] => []
  | b :: r => (!b) :: b :: bothM r
theorem bothM_append : ∀ (p q : List Bool), bothM (p ++ q) = bothM p ++ bothM q
  | [], q => rfl
  | b :: r, q => by simp [bothM, bothM_append r q]
theorem bothM_snoc (p : List Bool) (x : Bool) : bothM (p ++ [x]) = bothM p ++ [!x, x] := bothM_append p [x]
theorem bothM_len : ∀ l : List Bool, (bothM l).length = 2 * l.length
  | [] => rfl
  | b :: r => by simp [bothM, bothM_len r]; omega
theorem bothM_at : ∀ (l : List Bool) (k : Nat) (x : Bool), l[k]? = some x → (bothM l)[2 * k]? = some (!x) ∧ (bothM l)[2 * k + 1]? = some x
  | [], k, x, h => by simp at h
  | b :: r, 0, x, h => by simp at h; subst h; exact ⟨rfl, rfl⟩
  | b :: r, k + 1, x, h => by
    have := bothM_at r k x (by simpa using h)
    rw [show 2 * (k + 1) = 2 * k + 1 + 1 by omega]
    simpa [bothM] using this

/-- Two levels of a bit are equal. -/
def badM : List Bool → Bool
  | a :: b :: r => (a == b) || badM r
  | _ => false
/-- The second levels. -/
def sndM : List Bool → List Bool
  | _ :: b :: r => b :: sndM r
  | _ => []
def unbothM (l : List Bool) : List Bool × Int := if badM l then ([], 1) else if l.length % 2 = 0 then (sndM l, 0) else ([], 8)
theorem sndM_len : ∀ l : List Bool, (sndM l).length = l.length / 2
  | [] => rfl
  | [_] => by simp [sndM]
  | _ :: b :: r => by simp [sndM, sndM_len r]; omega
theorem badM_both : ∀ l : List Bool, badM (bothM l) = false
  | [] => rfl
  | b :: r => by simp [bothM, badM, badM_both r]
theorem sndM_both : ∀ l : List Bool, sndM (bothM l) = l
  | [] => rfl
  | b :: r => by simp [bothM, sndM, sndM_both r]
theorem unboth_both (l : List Bool) : unbothM (bothM l) = (l, 0) := by
  unfold unbothM
  rw [badM_both, sndM_both, bothM_len, if_neg (by simp), if_pos (by omega)]
theorem badM_turned : ∀ (l : List Bool) (k : Nat) (x : Bool), (bothM l)[k]? = some x → badM ((bothM l).set k (!x)) = true
  | [], k, x, h => by simp [bothM] at h
  | b :: r, 0, x, h => by simp [bothM] at h; subst h; simp [bothM, badM]
  | b :: r, 1, x, h => by simp [bothM] at h; subst h; simp [bothM, badM]
  | b :: r, k + 2, x, h => by
    have := badM_turned r k x (by simpa [bothM] using h)
    simp [bothM, badM, this]
theorem unboth_bad {l : List Bool} (h : badM l = true) : unbothM l = ([], 1) := by unfold unbothM; rw [if_pos h]
theorem unboth_len (l : List Bool) : (unbothM l).1.length ≤ l.length := by
  unfold unbothM
  split
  · simp
  · split
    · simp [sndM_len]; omega
    · simp
theorem short_end {l : List Bool} (h : l.length < 2) : badM l = false ∧ sndM l = [] := by
  match l, h with
  | [], _ => exact ⟨rfl, rfl⟩
  | [_], _ => exact ⟨rfl, rfl⟩
  | _ :: _ :: _, h => simp at h; omega

/-! By halves -/
/-- Every second one, the first among them or not. -/
def halfM : Bool → List Bool → List Bool
  | _, [] => []
  | true, x :: r => x :: halfM false r
  | false, _ :: r => halfM true r
def bad2 : List Bool → List Bool → Bool
  | a :: x, b :: y => (a == b) || bad2 x y
  | _, _ => false
theorem halfM_snd : ∀ l : List Bool, halfM false l = sndM l
  | [] => rfl
  | [_] => rfl
  | _ :: b :: r => by simp [halfM, sndM, halfM_snd r]
theorem halfM_bad : ∀ l : List Bool, bad2 (halfM true l) (halfM false l) = badM l
  | [] => rfl
  | [_] => rfl
  | a :: b :: r => by simp [halfM, bad2, badM, halfM_bad r]
theorem halfM_len : ∀ l : List Bool, (halfM true l).length = (l.length + 1) / 2 ∧ (halfM false l).length = l.length / 2
  | [] => ⟨rfl, rfl⟩
  | x :: r => by
    have := halfM_len r
    simp [halfM]
    omega
theorem bad2_nil (x : List Bool) : bad2 x [] = false := by cases x <;> rfl

/-! Differential code -/
def turnM (f : Bool) : List Bool → List Bool
  | [] => []
  | x :: r => (f == x) :: turnM (f == x) r
def unturnM (f : Bool) : List Bool → List Bool
  | [] => []
  | x :: r => (x == f) :: unturnM x r
theorem turnM_len : ∀ (l : List Bool) (f : Bool), (turnM f l).length = l.length
  | [], _ => rfl
  | x :: r, f => by simp [turnM, turnM_len r]
theorem unturnM_len : ∀ (l : List Bool) (f : Bool), (unturnM f l).length = l.length
  | [], _ => rfl
  | x :: r, f => by simp [unturnM, unturnM_len r]
theorem unturn_turn : ∀ (l : List Bool) (f : Bool), unturnM f (turnM f l) = l
  | [], _ => rfl
  | x :: r, f => by simp only [turnM, unturnM, unturn_turn r]; cases f <;> cases x <;> rfl
theorem turn_unturn : ∀ (l : List Bool) (f : Bool), turnM f (unturnM f l) = l
  | [], _ => rfl
  | x :: r, f => by
    have e : (f == (x == f)) = x := by cases f <;> cases x <;> rfl
    simp only [turnM, unturnM, e, turn_unturn r]
theorem turn_not : ∀ (l : List Bool) (f : Bool), turnM (!f) l = (turnM f l).map (!·)
  | [], _ => rfl
  | x :: r, f => by
    have e : ((!f) == x) = !(f == x) := by cases f <;> cases x <;> rfl
    simp only [turnM, e, turn_not r, List.map_cons]
/-- By how many were not set so far. -/
theorem turn_count (f x : Bool) (m : Nat) : (f == ((if x then m else m + 1) % 2 == 0)) = ((f == (m % 2 == 0)) == x) := by
  rcases Nat.mod_two_eq_zero_or_one m with h | h
  · have h2 : (m + 1) % 2 = 1 := by omega
    cases f <;> cases x <;> simp [h, h2]
  · have h2 : (m + 1) % 2 = 0 := by omega
    cases f <;> cases x <;> simp [h, h2]

/-- In how many places two rows differ. -/
def diffM : List Bool → List Bool → Nat
  | a :: x, b :: y => (if a = b then 0 else 1) + diffM x y
  | _, _ => 0
theorem diffM_same : ∀ l : List Bool, diffM l l = 0
  | [] => rfl
  | x :: r => by simp [diffM, diffM_same r]
theorem diffM_nil (x : List Bool) : diffM x [] = 0 := by cases x <;> rfl
theorem diffM_le : ∀ (x y : List Bool), diffM x y ≤ y.length
  | [], _ => by simp [diffM]
  | _ :: _, [] => by simp [diffM]
  | a :: x, b :: y => by have := diffM_le x y; simp only [diffM, List.length_cons]; split <;> omega
theorem diff_turned : ∀ (l : List Bool) (f : Bool) (k : Nat) (x : Bool), (turnM f l)[k]? = some x → diffM (unturnM f ((turnM f l).set k (!x))) l = min 2 (l.length - k)
  | [], f, k, x, h => by simp [turnM] at h
  | b :: r, f, 0, x, h => by
    simp [turnM] at h
    have e0 : ((!x) == f) ≠ b := by subst h; cases f <;> cases b <;> decide
    cases r with
    | nil => simp [turnM, unturnM, diffM, e0]
    | cons d r =>
      have e1 : ((x == d) == (!x)) ≠ d := by cases x <;> cases d <;> decide
      simp only [turnM, h, List.set_cons_zero, unturnM, diffM, if_neg e0, if_neg e1, unturn_turn, diffM_same, List.length_cons]
      omega
  | b :: r, f, k + 1, x, h => by
    have e0 : ((f == b) == f) = b := by cases f <;> cases b <;> rfl
    have := diff_turned r (f == b) k x (by simpa [turnM] using h)
    simp only [turnM, List.set_cons_succ, unturnM, diffM, e0, if_true, this, List.length_cons]
    omega

/-! The running sum -/
def balStep (p : Int × Int) (x : Bool) : Int × Int := ((if x then p.1 + 1 else p.1 - 1), max (max p.2 (if x then p.1 + 1 else p.1 - 1)) (-(if x then p.1 + 1 else p.1 - 1)))
def balM (l : List Bool) : Int × Int := l.foldl balStep (0, 0)
theorem balM_snoc (l : List Bool) (x : Bool) : balM (l ++ [x]) = balStep (balM l) x := by simp [balM]
theorem balM_le (l : List Bool) : -(l.length : Int) ≤ (balM l).1 ∧ (balM l).1 ≤ l.length ∧ 0 ≤ (balM l).2 ∧ (balM l).2 ≤ l.length ∧ (balM l).1 ≤ (balM l).2 ∧ -(balM l).1 ≤ (balM l).2 := by
  refine snoc_rec (p := fun l => -(l.length : Int) ≤ (balM l).1 ∧ (balM l).1 ≤ l.length ∧ 0 ≤ (balM l).2 ∧ (balM l).2 ≤ l.length ∧ (balM l).1 ≤ (balM l).2 ∧ -(balM l).1 ≤ (balM l).2) (by simp [balM]) (fun l x h => ?_) l
  rw [balM_snoc]
  simp only [balStep, List.length_append, List.length_cons, List.length_nil]
  cases x <;> simp <;> omega
theorem balM_count (l : List Bool) : (balM l).1 = 2 * (l.count true : Int) - l.length := by
  refine snoc_rec (p := fun l => (balM l).1 = 2 * (l.count true : Int) - l.length) (by simp [balM]) (fun l x h => ?_) l
  rw [balM_snoc]
  simp only [balStep, List.length_append, List.length_cons, List.length_nil, List.count_append]
  cases x <;> simp <;> omega
theorem bal_both : ∀ (l : List Bool) (f : Int), 0 ≤ f → f ≤ 1 → ((bothM l).foldl balStep (0, f)).1 = 0 ∧ ((bothM l).foldl balStep (0, f)).2 ≤ 1
  | [], f, h0, h1 => ⟨rfl, h1⟩
  | b :: r, f, h0, h1 => by
    simp only [bothM, List.foldl_cons]
    cases b
    · have e : balStep (balStep (0, f) (!false)) false = (0, 1) := by simp [balStep] <;> omega
      rw [e]; exact bal_both r 1 (by omega) (by omega)
    · have e : balStep (balStep (0, f) (!true)) true = (0, 1) := by simp [balStep] <;> omega
      rw [e]; exact bal_both r 1 (by omega) (by omega)

/-! Runs -/
theorem addRun_zero (y : Bool) : addRun (false, 0) y = (y, 1) := by cases y <;> rfl
theorem long_both : ∀ (l : List Bool) (r : Bool × Nat) (m : Nat), r.2 ≤ 1 → m ≤ 2 → longFrom r m (bothM l) ≤ 2
  | [], r, m, h1, h2 => h2
  | b :: t, r, m, h1, h2 => by
    have a1 := addRun_le r (!b)
    have a2 : (addRun (addRun r (!b)) b).2 = 1 := by
      have := addRun_not' r (!b)
      simpa using this
    simp only [bothM, longFrom]
    exact long_both t _ _ (by omega) (by omega)
/-- The run of levels is at most one longer than the run of ones that made it. -/
theorem long_turn : ∀ (s : List Bool) (r : Bool × Nat) (c m m' : Nat) (lv : Bool), m ≤ 6 → (if r.1 then c ≤ r.2 + 1 else c ≤ 1) → longFrom r m' s ≤ 5 → longFrom (lv, c) m (turnM lv s) ≤ 6
  | [], r, c, m, m', lv, hm, hc, h => hm
  | x :: t, r, c, m, m', lv, hm, hc, h => by
    simp only [longFrom] at h
    have hle : ∀ (q : List Bool) (r : Bool × Nat) (m : Nat), m ≤ longFrom r m q := by
      intro q
      induction q with
      | nil => intro r m; exact Nat.le_refl _
      | cons y q ih => intro r m; simp only [longFrom]; exact Nat.le_trans (Nat.le_max_left _ _) (ih _ _)
    have h5 : (addRun r x).2 ≤ 5 := by have := hle t (addRun r x) (max m' (addRun r x).2); omega
    obtain ⟨rb, rn⟩ := r
    have hnew : (addRun (lv, c) (lv == x)) = (lv == x, (addRun (lv, c) (lv == x)).2) := by
      exact Prod.ext (addRun_fst (lv, c) (lv == x)) rfl
    have hb : (if (addRun (rb, rn) x).1 then (addRun (lv, c) (lv == x)).2 ≤ (addRun (rb, rn) x).2 + 1 else (addRun (lv, c) (lv == x)).2 ≤ 1) := by
      cases x <;> cases rb <;> cases lv <;> simp [addRun] at hc ⊢ <;> omega
    have h6 : (addRun (lv, c) (lv == x)).2 ≤ 6 := by
      split at hb <;> omega
    simp only [turnM, longFrom]
    rw [hnew]
    exact long_turn t (addRun (rb, rn) x) _ _ _ _ (by simp only; omega) hb h
theorem long_turn_stuff (l : List Bool) (f : Bool) : longM (turnM f (stuffM l)) ≤ 6 := by
  have h := never_six l
  unfold longM at h ⊢
  cases hs : stuffM l with
  | nil => simp [turnM, longFrom]
  | cons x t =>
    rw [hs] at h
    simp only [turnM, longFrom, addRun_zero] at h ⊢
    exact long_turn t (x, 1) 1 _ _ _ (by omega) (by simp) h
end Go.Proofs.Ytfnkaccfhlkfdaa
