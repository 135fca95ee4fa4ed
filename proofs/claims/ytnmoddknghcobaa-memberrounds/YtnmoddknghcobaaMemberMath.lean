/-
  The mathematics of package member: a member as numbers, one step, a slot of a whole group, rounds; who stays and who leaves. No statement of the seat is here.
-/
import Derived.Test.YtnmoddknghcobaaBase
namespace Go.Proofs.Ytnmoddknghcobaa
open Go.RowKit
set_option linter.unusedVariables false

structure Mem where
  vw : Nat
  tk : Int
  ls : Int
  ou : Bool
  deriving DecidableEq

/-- Bit k of v. -/
def hasB (v k : Nat) : Bool := v.testBit k
/-- Bit k of v put to b. -/
def putB (v k : Nat) (b : Bool) : Nat := if v.testBit k = b then v else v ^^^ (1 <<< k)
/-- Like in all bits but k. -/
def likeB (v u k : Nat) : Bool := (v ||| (1 <<< k)) == (u ||| (1 <<< k))

def Valid (own : Int) (m : Mem) : Prop := 0 ≤ own ∧ own < 16 ∧ 0 ≤ m.tk ∧ m.tk ≤ 400 ∧ 0 ≤ m.ls ∧ m.ls ≤ 400 ∧ hasB m.vw own.toNat = !m.ou
instance (own : Int) (m : Mem) : Decidable (Valid own m) := by unfold Valid; infer_instance

/-- A step, of a valid state and a node that there is, without a look at the counts. -/
def stepG (own : Nat) (m : Mem) (node : Nat) (came : Bool) (hv : Nat) : Mem :=
  if m.ou then m
  else if node = own then
    if m.tk < m.ls then ⟨putB m.vw own false, 0, 0, true⟩ else ⟨m.vw, 0, 0, false⟩
  else if came = false ∧ hasB m.vw node = false then m
  else if came = true ∧ likeB m.vw hv node = true then ⟨putB m.vw node true, m.tk + 1, m.ls, false⟩
  else ⟨putB m.vw node false, m.tk, m.ls + 1, false⟩
def zeroM : Mem := ⟨0, 0, 0, false⟩
def stepE (own : Int) (m : Mem) (node : Int) (came : Bool) (hv : Nat) : Int :=
  if ¬ Valid own m then 1 else if node < 0 ∨ 15 < node then 2
  else if 400 < (stepG own.toNat m node.toNat came hv).tk ∨ 400 < (stepG own.toNat m node.toNat came hv).ls then 4 else 0
def stepM (own : Int) (m : Mem) (node : Int) (came : Bool) (hv : Nat) : Mem :=
  if stepE own m node came hv = 0 then stepG own.toNat m node.toNat came hv else zeroM

theorem step_form {own : Int} {m : Mem} {node : Int} {came : Bool} {hv : Nat} (h : ¬ Valid own m) : stepE own m node came hv = 1 ∧ stepM own m node came hv = zeroM := by
  have e : stepE own m node came hv = 1 := if_pos h
  exact ⟨e, by rw [stepM, e]; rfl⟩
theorem step_range {own : Int} {m : Mem} {node : Int} {came : Bool} {hv : Nat} (h : Valid own m) (h2 : node < 0 ∨ 15 < node) : stepE own m node came hv = 2 ∧ stepM own m node came hv = zeroM := by
  have e : stepE own m node came hv = 2 := by rw [stepE, if_neg (by simpa using h), if_pos h2]
  exact ⟨e, by rw [stepM, e]; rfl⟩
theorem step_full {own : Int} {m : Mem} {node : Int} {came : Bool} {hv : Nat} (h : Valid own m) (h2 : ¬ (node < 0 ∨ 15 < node)) (h3 : 400 < (stepG own.toNat m node.toNat came hv).tk ∨ 400 < (stepG own.toNat m node.toNat came hv).ls) : stepE own m node came hv = 4 ∧ stepM own m node came hv = zeroM := by
  have e : stepE own m node came hv = 4 := by rw [stepE, if_neg (by simpa using h), if_neg h2, if_pos h3]
  exact ⟨e, by rw [stepM, e]; rfl⟩
theorem step_ok {own : Int} {m : Mem} {node : Int} {came : Bool} {hv : Nat} (h : Valid own m) (h2 : ¬ (node < 0 ∨ 15 < node)) (h3 : ¬ (400 < (stepG own.toNat m node.toNat came hv).tk ∨ 400 < (stepG own.toNat m node.toNat came hv).ls)) : stepE own m node came hv = 0 ∧ stepM own m node came hv = stepG own.toNat m node.toNat came hv := by
  have e : stepE own m node came hv = 0 := by rw [stepE, if_neg (by simpa using h), if_neg h2, if_neg h3]
  exact ⟨e, by rw [stepM, e]; rfl⟩
theorem step_0 {own : Int} {m : Mem} {node : Int} {came : Bool} {hv : Nat} : stepE own m node came hv = 0 ↔ Valid own m ∧ ¬ (node < 0 ∨ 15 < node) ∧ ¬ (400 < (stepG own.toNat m node.toNat came hv).tk ∨ 400 < (stepG own.toNat m node.toNat came hv).ls) := by
  constructor
  · intro h
    by_cases h1 : Valid own m
    · by_cases h2 : node < 0 ∨ 15 < node
      · rw [(step_range h1 h2).1] at h; exact absurd h (by decide)
      · by_cases h3 : 400 < (stepG own.toNat m node.toNat came hv).tk ∨ 400 < (stepG own.toNat m node.toNat came hv).ls
        · rw [(step_full h1 h2 h3).1] at h; exact absurd h (by decide)
        · exact ⟨h1, h2, h3⟩
    · rw [(step_form h1).1] at h; exact absurd h (by decide)
  · rintro ⟨h1, h2, h3⟩
    exact (step_ok h1 h2 h3).1

/-! bits -/
theorem testBit_one_shift (k i : Nat) : (1 <<< k).testBit i = decide (k = i) := by
  rw [Nat.one_shiftLeft, Nat.testBit_two_pow]
theorem put_bit (v k i : Nat) (b : Bool) : (putB v k b).testBit i = if k = i then b else v.testBit i := by
  unfold putB
  by_cases h : v.testBit k = b
  · rw [if_pos h]
    by_cases e : k = i
    · subst e; rw [if_pos rfl, h]
    · rw [if_neg e]
  · rw [if_neg h, Nat.testBit_xor, testBit_one_shift]
    by_cases e : k = i
    · subst e
      rw [if_pos rfl, decide_eq_true rfl]
      cases hb : v.testBit k <;> cases b <;> simp_all
    · rw [if_neg e, decide_eq_false e, Bool.xor_false]
theorem put_lt {v k : Nat} {b : Bool} (hv : v < 65536) (hk : k < 16) : putB v k b < 65536 := by
  unfold putB
  split
  · exact hv
  · refine Nat.xor_lt_two_pow (n := 16) hv ?_
    rw [Nat.one_shiftLeft]
    exact Nat.pow_lt_pow_right (by decide) hk
theorem put_true (v k : Nat) : v ||| (1 <<< k) = putB v k true := by
  refine Nat.eq_of_testBit_eq (fun i => ?_)
  rw [put_bit, Nat.testBit_or, testBit_one_shift]
  by_cases e : k = i
  · subst e; simp
  · simp [e]
theorem put_same {v k : Nat} {b : Bool} (h : v.testBit k = b) : putB v k b = v := if_pos h
theorem like_iff (v u k : Nat) : likeB v u k = true ↔ ∀ i, i ≠ k → v.testBit i = u.testBit i := by
  unfold likeB
  rw [beq_iff_eq]
  constructor
  · intro h i hi
    have := congrArg (fun x => Nat.testBit x i) h
    simp only [Nat.testBit_or, testBit_one_shift] at this
    simpa [Ne.symm hi] using this
  · intro h
    refine Nat.eq_of_testBit_eq (fun i => ?_)
    rw [Nat.testBit_or, Nat.testBit_or, testBit_one_shift]
    by_cases e : k = i
    · subst e; simp
    · simp [e, h i (fun c => e c.symm)]
theorem bit_high {v i : Nat} (h : v < 65536) (hi : 16 ≤ i) : v.testBit i = false := Nat.testBit_lt_two_pow (Nat.lt_of_lt_of_le h (Nat.pow_le_pow_right (n := 2) (by decide) hi : 2 ^ 16 ≤ 2 ^ i))

/-! one step keeps a state valid -/
theorem step_valid {own : Nat} {m : Mem} {node : Nat} {came : Bool} {hv : Nat} (h : hasB m.vw own = !m.ou) : hasB (stepG own m node came hv).vw own = !(stepG own m node came hv).ou := by
  unfold stepG
  by_cases h1 : m.ou = true
  · rw [if_pos h1]; exact h
  · have h1' : m.ou = false := by simpa using h1
    rw [if_neg h1]
    rw [h1'] at h
    by_cases h2 : node = own
    · rw [if_pos h2]
      split
      · simp [hasB, put_bit]
      · exact h
    · rw [if_neg h2]
      by_cases h3 : came = false ∧ hasB m.vw node = false
      · rw [if_pos h3, h1']; exact h
      · rw [if_neg h3]
        split
        · simp only [hasB, put_bit]; rw [if_neg h2]; exact h
        · simp only [hasB, put_bit]; rw [if_neg h2]; exact h
theorem step_lt {own : Nat} {m : Mem} {node : Nat} {came : Bool} {hv : Nat} (h : m.vw < 65536) (ho : own < 16) (hn : node < 16) : (stepG own m node came hv).vw < 65536 := by
  unfold stepG
  split
  · exact h
  · split
    · split
      · exact put_lt h ho
      · exact h
    · split
      · exact h
      · split
        · exact put_lt h hn
        · exact put_lt h hn
theorem step_counts {own : Nat} {m : Mem} {node : Nat} {came : Bool} {hv : Nat} (h1 : 0 ≤ m.tk) (h2 : 0 ≤ m.ls) :
    0 ≤ (stepG own m node came hv).tk ∧ 0 ≤ (stepG own m node came hv).ls ∧ ((stepG own m node came hv) = m ∨ (node = own ∧ (stepG own m node came hv).tk = 0 ∧ (stepG own m node came hv).ls = 0) ∨ (node ≠ own ∧ (stepG own m node came hv).tk + (stepG own m node came hv).ls = m.tk + m.ls + 1)) := by
  unfold stepG
  by_cases g1 : m.ou = true
  · rw [if_pos g1]; exact ⟨h1, h2, .inl rfl⟩
  · rw [if_neg g1]
    by_cases g2 : node = own
    · rw [if_pos g2]
      split <;> exact ⟨Int.le_refl _, Int.le_refl _, .inr (.inl ⟨g2, rfl, rfl⟩)⟩
    · rw [if_neg g2]
      split
      · exact ⟨h1, h2, .inl rfl⟩
      · split
        · exact ⟨by show 0 ≤ m.tk + 1; omega, h2, .inr (.inr ⟨g2, by show m.tk + 1 + m.ls = _; omega⟩)⟩
        · exact ⟨h1, by show 0 ≤ m.ls + 1; omega, .inr (.inr ⟨g2, by show m.tk + (m.ls + 1) = _; omega⟩)⟩
theorem step_out {own : Nat} {m : Mem} {node : Nat} {came : Bool} {hv : Nat} (h : m.ou = true) : stepG own m node came hv = m := if_pos h

/-! a whole group: nodes 0 .. n - 1; hears as a list of numbers -/
def fullV (n : Nat) : Nat := 2 ^ n - 1
def startM (n : Nat) : Mem := ⟨fullV n, n, 0, false⟩
def cameB (hs : List Nat) (who k : Nat) (was : Mem) : Bool := !was.ou && hasB (hs.getD k 0) who
/-- The slot of who, from node k on. -/
def slotA (hs : List Nat) (who : Nat) (was : Mem) : Nat → List Mem → List Mem
  | _, [] => []
  | k, m :: r => stepG k m who (cameB hs who k was) was.vw :: slotA hs who was (k + 1) r
def slotM (hs : List Nat) (who : Nat) (st : List Mem) : List Mem := slotA hs who (st.getD who zeroM) 0 st
/-- The slots from first on, s of them. -/
def slotsM (hs : List Nat) : Nat → List Mem → List Mem
  | 0, st => st
  | s + 1, st => slotM hs (s % hs.length) (slotsM hs s st)
def groupM (hs : List Nat) (s : Nat) : List Mem := slotsM hs s (List.replicate hs.length (startM hs.length))
def roundsR (hs : List Nat) (r : Nat) : List Mem := groupM hs (hs.length * r)
theorem groupM_succ (hs : List Nat) (s : Nat) : groupM hs (s + 1) = slotM hs (s % hs.length) (groupM hs s) := rfl
theorem slotA_length (hs : List Nat) (who : Nat) (was : Mem) : ∀ (st : List Mem) (k : Nat), (slotA hs who was k st).length = st.length
  | [], _ => rfl
  | m :: r, k => by rw [slotA, List.length_cons, List.length_cons, slotA_length hs who was r (k + 1)]
theorem slotA_at {hs : List Nat} {who : Nat} {was : Mem} : ∀ {st : List Mem} {a k : Nat} {m : Mem}, st[k]? = some m → (slotA hs who was a st)[k]? = some (stepG (a + k) m who (cameB hs who (a + k) was) was.vw)
  | [], a, k, m, h => by cases h
  | x :: r, a, 0, m, h => by
    simp at h
    subst h
    rfl
  | x :: r, a, k + 1, m, h => by
    have := slotA_at (hs := hs) (who := who) (was := was) (a := a + 1) (show r[k]? = some m by simpa using h)
    rw [slotA, List.getElem?_cons_succ, this, show a + 1 + k = a + (k + 1) by omega]
theorem slotM_length (hs : List Nat) (who : Nat) (st : List Mem) : (slotM hs who st).length = st.length := slotA_length hs who _ st 0
theorem slotM_at {hs : List Nat} {who k : Nat} {st : List Mem} {m : Mem} (h : st[k]? = some m) : (slotM hs who st)[k]? = some (stepG k m who (cameB hs who k (st.getD who zeroM)) (st.getD who zeroM).vw) := by
  have := slotA_at (hs := hs) (who := who) (was := st.getD who zeroM) (a := 0) h
  rwa [Nat.zero_add] at this
theorem groupM_length (hs : List Nat) : ∀ s, (groupM hs s).length = hs.length
  | 0 => by simp [groupM, slotsM]
  | s + 1 => by rw [groupM_succ, slotM_length, groupM_length hs s]

/-! no count grows too great -/
def GoodM (b : Int) (k : Nat) (m : Mem) : Prop := hasB m.vw k = !m.ou ∧ m.vw < 65536 ∧ 0 ≤ m.tk ∧ 0 ≤ m.ls ∧ m.tk + m.ls ≤ b
theorem GoodM.valid {b : Int} {k : Nat} {m : Mem} (h : GoodM b k m) (hb : b ≤ 400) (hk : k < 16) : Valid k m := by
  obtain ⟨h1, h2, h3, h4, h5⟩ := h
  exact ⟨by omega, by omega, h3, by omega, h4, by omega, by rw [Int.toNat_natCast]; exact h1⟩
theorem GoodM.step {b : Int} {k : Nat} {m : Mem} (h : GoodM b k m) (hb : 0 ≤ b) (hk : k < 16) {who : Nat} (hw : who < 16) (came : Bool) (hv : Nat) : GoodM (b + 1) k (stepG k m who came hv) := by
  obtain ⟨h1, h2, h3, h4, h5⟩ := h
  obtain ⟨c1, c2, c3⟩ := step_counts (own := k) (m := m) (node := who) (came := came) (hv := hv) h3 h4
  refine ⟨step_valid h1, step_lt h2 hk hw, c1, c2, ?_⟩
  rcases c3 with c | ⟨_, c4, c5⟩ | ⟨_, c⟩
  · rw [c]; omega
  · rw [c4, c5]; omega
  · rw [c]; omega
theorem GoodM.ok {b : Int} {k : Nat} {m : Mem} (h : GoodM b k m) (hb0 : 0 ≤ b) (hb : b < 400) (hk : k < 16) {who : Nat} (hw : who < 16) (came : Bool) (hv : Nat) : stepE k m who came hv = 0 ∧ stepM k m who came hv = stepG k m who came hv := by
  have g := h.step hb0 hk hw came hv
  obtain ⟨_, _, g3, g4, g5⟩ := g
  have := step_ok (own := (k : Int)) (m := m) (node := (who : Int)) (came := came) (hv := hv) (h.valid (by omega) hk) (by omega)
  rw [Int.toNat_natCast, Int.toNat_natCast] at this
  exact this (by omega)
theorem start_good {n k : Nat} (hn : n ≤ 16) (hk : k < n) : GoodM n k (startM n) := by
  refine ⟨?_, ?_, by show (0 : Int) ≤ n; omega, Int.le_refl _, by show (n : Int) + 0 ≤ n; omega⟩
  · show (2 ^ n - 1).testBit k = true
    rw [Nat.testBit_two_pow_sub_one]
    exact decide_eq_true hk
  · show 2 ^ n - 1 < 65536
    have : 2 ^ n ≤ 2 ^ 16 := Nat.pow_le_pow_right (by decide) hn
    omega
theorem group_good {hs : List Nat} (hn : hs.length ≤ 16) : ∀ (s : Nat) {k : Nat} {m : Mem}, (groupM hs s)[k]? = some m → GoodM (hs.length + s : Nat) k m
  | 0, k, m, h => by
    simp only [groupM, slotsM, List.getElem?_replicate] at h
    split at h
    · cases h; exact start_good hn (by assumption)
    · cases h
  | s + 1, k, m, h => by
    have hlt := (List.getElem?_eq_some_iff.1 h).1
    rw [groupM_length] at hlt
    have hx : (groupM hs s)[k]? = some ((groupM hs s)[k]'(by rw [groupM_length]; exact hlt)) := List.getElem?_eq_getElem _
    have ih := group_good hn s hx
    rw [groupM_succ, slotM_at hx] at h
    cases h
    have hw : s % hs.length < 16 := by have := Nat.mod_lt s (show hs.length > 0 by omega); omega
    have := ih.step (by omega) (by omega) hw (cameB hs (s % hs.length) k ((groupM hs s).getD (s % hs.length) zeroM)) ((groupM hs s).getD (s % hs.length) zeroM).vw
    have e : ((hs.length + s : Nat) : Int) + 1 = ((hs.length + (s + 1) : Nat) : Int) := by omega
    rwa [e] at this

/-! rounds -/
def runM (hs : List Nat) : Nat → List Mem → List Mem
  | 0, st => st
  | j + 1, st => slotM hs j (runM hs j st)
theorem group_run (hs : List Nat) (r : Nat) : ∀ j, j ≤ hs.length → groupM hs (hs.length * r + j) = runM hs j (groupM hs (hs.length * r))
  | 0, _ => rfl
  | j + 1, h => by
    rw [← Nat.add_assoc, groupM_succ, group_run hs r j (by omega), Nat.mul_add_mod, Nat.mod_eq_of_lt (by omega)]
    rfl
theorem rounds_succ (hs : List Nat) (r : Nat) : roundsR hs (r + 1) = runM hs hs.length (roundsR hs r) := by
  unfold roundsR
  rw [Nat.mul_succ, group_run hs r hs.length (Nat.le_refl _)]
theorem rounds_fix {hs : List Nat} {a : Nat} (h : roundsR hs (a + 1) = roundsR hs a) : ∀ d, roundsR hs (a + d) = roundsR hs a
  | 0 => rfl
  | d + 1 => by rw [← Nat.add_assoc, rounds_succ, rounds_fix h d, ← rounds_succ, h]

/-! where all hear all -/
def quietL (n : Nat) : List Nat := List.replicate n 65535
def quietP (n : Nat) (m : Mem) : Bool := !m.ou && m.vw == fullV n
def quietC (n : Nat) : Bool := (roundsR (quietL n) 0).all (quietP n) && (roundsR (quietL n) 1).all (quietP n) && decide (roundsR (quietL n) 2 = roundsR (quietL n) 1)
theorem quiet_check : ∀ n < 17, quietC n = true := by decide +kernel
theorem quiet_all {n r : Nat} (hn : n < 17) : ∀ m ∈ roundsR (quietL n) r, quietP n m = true := by
  have h := quiet_check n hn
  simp only [quietC, Bool.and_eq_true, decide_eq_true_eq] at h
  obtain ⟨⟨h0, h1⟩, h2⟩ := h
  cases r with
  | zero => exact List.all_eq_true.1 h0
  | succ r => rw [Nat.add_comm, rounds_fix h2 r]; exact List.all_eq_true.1 h1

/-! one whom nobody hears -/
def deadL (n dead : Nat) : List Nat := List.replicate n (putB 65535 dead false)
def deadP (n dead k : Nat) (m : Mem) : Bool := k == dead || (!m.ou && m.vw == putB (fullV n) dead false)
def allK (p : Nat → Mem → Bool) : Nat → List Mem → Bool
  | _, [] => true
  | k, m :: r => p k m && allK p (k + 1) r
theorem allK_at {p : Nat → Mem → Bool} : ∀ {st : List Mem} {a k : Nat} {m : Mem}, allK p a st = true → st[k]? = some m → p (a + k) m = true
  | [], a, k, m, _, h => by cases h
  | x :: r, a, 0, m, g, h => by
    simp at h
    subst h
    rw [allK, Bool.and_eq_true] at g
    exact g.1
  | x :: r, a, k + 1, m, g, h => by
    rw [allK, Bool.and_eq_true] at g
    have := allK_at g.2 (show r[k]? = some m by simpa using h)
    rwa [show a + 1 + k = a + (k + 1) by omega] at this
def deadC (n dead : Nat) : Bool := allK (deadP n dead) 0 (roundsR (deadL n dead) 2) && decide (roundsR (deadL n dead) 3 = roundsR (deadL n dead) 2)
theorem dead_check : ∀ n < 17, n < 4 ∨ ∀ dead < n, deadC n dead = true := by decide +kernel
theorem dead_all {n dead r : Nat} (hn : n < 17) (h4 : 4 ≤ n) (hd : dead < n) (hr : 2 ≤ r) {k : Nat} {m : Mem} (h : (roundsR (deadL n dead) r)[k]? = some m) : deadP n dead k m = true := by
  have g := (dead_check n hn).resolve_left (by omega) dead hd
  simp only [deadC, Bool.and_eq_true, decide_eq_true_eq] at g
  obtain ⟨d, rfl⟩ : ∃ d, r = 2 + d := ⟨r - 2, by omega⟩
  rw [rounds_fix g.2 d] at h
  have := allK_at g.1 h
  rwa [Nat.zero_add] at this

/-! two parts -/
def partsL (n first : Nat) : List Nat := (List.range n).map fun k => if k < first then 2 ^ first - 1 else 2 ^ n - 2 ^ first
def partsP (n first k : Nat) (m : Mem) : Bool := (m.ou == decide (k < first)) && (decide (k < first) || m.vw == 2 ^ n - 2 ^ first)
def partsC (n first : Nat) : Bool := allK (partsP n first) 0 (roundsR (partsL n first) 3)
theorem parts_check : ∀ n < 17, n < 4 ∨ ∀ first < n, first < 1 ∨ n < 2 * first + 2 ∨ partsC n first = true := by decide +kernel
theorem parts_all {n first : Nat} (hn : n < 17) (h4 : 4 ≤ n) (h1 : 1 ≤ first) (h2 : first < n) (h3 : 2 * first + 2 ≤ n) {k : Nat} {m : Mem} (h : (roundsR (partsL n first) 3)[k]? = some m) : partsP n first k m = true := by
  have g := (((parts_check n hn).resolve_left (by omega) first h2).resolve_left (by omega)).resolve_left (by omega)
  have := allK_at g h
  rwa [Nat.zero_add] at this
end Go.Proofs.Ytnmoddknghcobaa
