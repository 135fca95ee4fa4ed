/-
  The encodings of chapter 8 (consistent overhead byte stuffing): the plain mathematics, without a program.
-/
import Derived.Test.YtmehdlnhllafaaaBitWalks2
namespace Go.Proofs.Ytmehdlnhllafaaa
set_option linter.unusedVariables false

theorem len_rec {α : Type} {p : List α → Prop} (h : ∀ l, (∀ m : List α, m.length < l.length → p m) → p l) : ∀ l, p l := by
  have : ∀ n (l : List α), l.length ≤ n → p l := by
    intro n
    induction n with
    | zero => intro l hl; exact h l fun m hm => absurd hm (by omega)
    | succ n ih => intro l hl; exact h l fun m hm => ih m (by omega)
  exact fun l => this l.length l (Nat.le_refl _)

/-- How many of the first k bytes stand ahead of the first zero byte. -/
def runF : Nat → List Int → Nat
  | 0, _ => 0
  | _ + 1, [] => 0
  | k + 1, x :: l => if x = 0 then 0 else runF k l + 1
theorem runF_le (k : Nat) (l : List Int) : runF k l ≤ l.length ∧ runF k l ≤ k := by
  induction k generalizing l with
  | zero => simp [runF]
  | succ k ih =>
    cases l with
    | nil => simp [runF]
    | cons x l =>
      have := ih l
      unfold runF
      split <;> simp <;> omega
theorem runF_eq (k : Nat) (l : List Int) (n : Nat) (h1 : n ≤ l.length) (h2 : n ≤ k) (h3 : (0 : Int) ∉ l.take n) (h4 : n = l.length ∨ n = k ∨ l[n]? = some 0) : runF k l = n := by
  induction k generalizing l n with
  | zero => simp [runF]; omega
  | succ k ih =>
    cases l with
    | nil => simp at h1; simp [runF, h1]
    | cons x l =>
      cases n with
      | zero =>
        simp at h4
        simp [runF, h4]
      | succ n =>
        simp at h1 h2 h3 h4
        unfold runF
        rw [if_neg (fun e => h3.1 e.symm), ih l n h1 h2 h3.2 h4]
theorem runF_spec (k : Nat) (l : List Int) : (0 : Int) ∉ l.take (runF k l) ∧ (runF k l = l.length ∨ runF k l = k ∨ l[runF k l]? = some 0) := by
  induction k generalizing l with
  | zero => simp [runF]
  | succ k ih =>
    cases l with
    | nil => simp [runF]
    | cons x l =>
      unfold runF
      split
      · rename_i e; simp [e]
      · rename_i e
        have := ih l
        refine ⟨?_, ?_⟩
        · simp; exact ⟨fun h => e h.symm, this.1⟩
        · simp; exact this.2
def runM (l : List Int) : Nat := runF 254 l
theorem runM_le (l : List Int) : runM l ≤ l.length ∧ runM l ≤ 254 := runF_le 254 l

/-- The encoding of l. -/
def packC (l : List Int) : List Int :=
  if h : runM l = l.length then ((runM l : Int) + 1) :: l
  else if h2 : runM l < 254 then ((runM l : Int) + 1) :: (l.take (runM l) ++ packC (l.drop (runM l + 1)))
  else ((runM l : Int) + 1) :: (l.take (runM l) ++ packC (l.drop (runM l)))
termination_by l.length
decreasing_by
  · have := runM_le l; simp; omega
  · have := runM_le l; simp; omega

theorem pack_last {d : List Int} (h0 : (0 : Int) ∉ d) (hd : d.length ≤ 254) : packC d = ((d.length : Int) + 1) :: d := by
  have e : runM d = d.length := runF_eq 254 d d.length (Nat.le_refl _) hd (by simpa using h0) (.inl rfl)
  rw [packC, dif_pos e, e]
theorem pack_zero {d m : List Int} (h0 : (0 : Int) ∉ d) (hd : d.length < 254) : packC (d ++ 0 :: m) = ((d.length : Int) + 1) :: (d ++ packC m) := by
  have e : runM (d ++ 0 :: m) = d.length := runF_eq 254 _ d.length (by simp) (by omega) (by simpa using h0) (.inr (.inr (by simp)))
  rw [packC, e, dif_neg (by simp), dif_pos hd]
  simp
theorem pack_full {d m : List Int} (h0 : (0 : Int) ∉ d) (hd : d.length = 254) (hm : m ≠ []) : packC (d ++ m) = 255 :: (d ++ packC m) := by
  have hl : 0 < m.length := List.length_pos_iff.2 hm
  have e : runM (d ++ m) = 254 := runF_eq 254 _ 254 (by simp; omega) (by omega) (by rw [← hd]; simpa using h0) (.inr (.inl rfl))
  rw [packC, e, dif_neg (by simp; omega), dif_neg (by omega), ← hd]
  simp
  omega
theorem pack_cases (l : List Int) : ((0 : Int) ∉ l ∧ l.length ≤ 254) ∨ (∃ d m, l = d ++ 0 :: m ∧ (0 : Int) ∉ d ∧ d.length < 254) ∨ (∃ d m, l = d ++ m ∧ (0 : Int) ∉ d ∧ d.length = 254 ∧ m ≠ []) := by
  have hs := runF_spec 254 l
  have hle := runF_le 254 l
  generalize runF 254 l = n at *
  by_cases hn : n = l.length
  · subst hn
    exact .inl ⟨by simpa using hs.1, hle.2⟩
  · have e : l = l.take n ++ l.drop n := (List.take_append_drop n l).symm
    have hl : (l.take n).length = n := by simp; omega
    by_cases h254 : n = 254
    · exact .inr (.inr ⟨l.take n, l.drop n, e, hs.1, by omega, by intro h; have := congrArg List.length h; simp at this; omega⟩)
    · have hz : l[n]? = some 0 := by rcases hs.2 with h | h | h <;> first | exact absurd h hn | exact absurd h h254 | exact h
      exact .inr (.inl ⟨l.take n, l.drop (n + 1), by rw [← drop_cons hz]; exact e, hs.1, by omega⟩)

theorem pack_ne (l : List Int) : packC l ≠ [] := by
  rw [packC]; split
  · simp
  · split <;> simp
theorem pack_bytes {l : List Int} (h : Byte8 l) : Byte8 (packC l) ∧ (0 : Int) ∉ packC l := by
  revert h
  refine len_rec (p := fun l => Byte8 l → Byte8 (packC l) ∧ (0 : Int) ∉ packC l) (fun l ih h => ?_) l
  rcases pack_cases l with ⟨h0, hd⟩ | ⟨d, m, rfl, h0, hd⟩ | ⟨d, m, rfl, h0, hd, hm⟩
  · rw [pack_last h0 hd]
    refine ⟨fun x hx => (List.mem_cons.1 hx).elim (fun e => by omega) (h x), fun hx => (List.mem_cons.1 hx).elim (fun e => by omega) h0⟩
  · rw [pack_zero h0 hd]
    have := ih m (by simp; omega) (fun x hx => h x (by simp [hx]))
    refine ⟨fun x hx => ?_, fun hx => ?_⟩
    · simp only [List.mem_cons, List.mem_append] at hx
      rcases hx with hx | hx | hx
      · omega
      · exact h x (by simp [hx])
      · exact this.1 x hx
    · simp only [List.mem_cons, List.mem_append] at hx
      rcases hx with hx | hx | hx
      · omega
      · exact h0 hx
      · exact this.2 hx
  · rw [pack_full h0 hd hm]
    have := ih m (by simp; omega) (fun x hx => h x (by simp [hx]))
    refine ⟨fun x hx => ?_, fun hx => ?_⟩
    · simp only [List.mem_cons, List.mem_append] at hx
      rcases hx with hx | hx | hx
      · omega
      · exact h x (by simp [hx])
      · exact this.1 x hx
    · simp only [List.mem_cons, List.mem_append] at hx
      rcases hx with hx | hx | hx
      · omega
      · exact h0 hx
      · exact this.2 hx
/-- It grows by one byte, and by one for each 254, at most. -/
theorem pack_grows (l : List Int) : l.length < (packC l).length ∧ (packC l).length ≤ l.length + 1 + l.length / 254 := by
  refine len_rec (p := fun l => l.length < (packC l).length ∧ (packC l).length ≤ l.length + 1 + l.length / 254) (fun l ih => ?_) l
  rcases pack_cases l with ⟨h0, hd⟩ | ⟨d, m, rfl, h0, hd⟩ | ⟨d, m, rfl, h0, hd, hm⟩
  · rw [pack_last h0 hd]; simp
  · rw [pack_zero h0 hd]
    have := ih m (by simp; omega)
    simp only [List.length_cons, List.length_append]
    omega
  · rw [pack_full h0 hd hm]
    have := ih m (by simp; omega)
    simp only [List.length_cons, List.length_append]
    omega

/-- What is wrong with the first group. -/
def grpM : List Int → Int
  | [] => 0
  | x :: m => if x = 0 then 1 else if (m.length : Int) + 1 < x then 8 else if (0 : Int) ∈ m.take (x.toNat - 1) then 1 else 0
/-- What the groups of a row stand for, and what is wrong. -/
def unG : List Int → List Int × Int
  | [] => ([], 0)
  | x :: m =>
    if grpM (x :: m) ≠ 0 then ([], grpM (x :: m))
    else if (unG (m.drop (x.toNat - 1))).2 ≠ 0 then ([], (unG (m.drop (x.toNat - 1))).2)
    else (m.take (x.toNat - 1) ++ ((if m.drop (x.toNat - 1) ≠ [] ∧ x < 255 then [0] else []) ++ (unG (m.drop (x.toNat - 1))).1), 0)
termination_by l => l.length
decreasing_by
  all_goals simp; omega
def unpackC (l : List Int) : List Int × Int := if l = [] then ([], 8) else unG l

/-- A row that stands behind bytes already told. -/
def thenU (acc : List Int) (r : List Int × Int) : List Int × Int := if r.2 ≠ 0 then ([], r.2) else (acc ++ r.1, 0)
theorem unG_nil : unG [] = ([], 0) := by rw [unG]
theorem unG_bad {x : Int} {m : List Int} (h : grpM (x :: m) ≠ 0) : unG (x :: m) = ([], grpM (x :: m)) := by rw [unG, if_pos h]
theorem unG_err (l : List Int) : (unG l).2 ≠ 0 → (unG l).1 = [] := by
  cases l with
  | nil => simp [unG]
  | cons x m =>
    rw [unG]
    split
    · simp
    · split
      · simp
      · simp
theorem thenU_nil (l : List Int) : thenU [] (unG l) = unG l := by
  unfold thenU
  by_cases h : (unG l).2 ≠ 0
  · rw [if_pos h]; have := unG_err l h; exact Prod.ext this.symm rfl
  · rw [if_neg h]; simp at h; exact Prod.ext (by simp) h.symm
/-- One good group told. -/
theorem thenU_step (acc : List Int) {x : Int} {m : List Int} (h : grpM (x :: m) = 0) :
    thenU acc (unG (x :: m)) = thenU (acc ++ (m.take (x.toNat - 1) ++ (if m.drop (x.toNat - 1) ≠ [] ∧ x < 255 then [0] else []))) (unG (m.drop (x.toNat - 1))) := by
  rw [unG, if_neg (by simp [h])]
  by_cases h2 : (unG (m.drop (x.toNat - 1))).2 ≠ 0
  · rw [if_pos h2]; unfold thenU; simp only [if_pos h2]
  · rw [if_neg h2]; unfold thenU; simp only [if_neg h2]; simp
theorem grp_good {x : Int} {m : List Int} (h : grpM (x :: m) = 0) : x ≠ 0 ∧ x ≤ (m.length : Int) + 1 ∧ (0 : Int) ∉ m.take (x.toNat - 1) := by
  simp only [grpM] at h
  split at h
  · cases h
  · rename_i hx
    split at h
    · cases h
    · rename_i hl
      split at h
      · cases h
      · rename_i hz; exact ⟨hx, by omega, hz⟩
theorem grp_of {x : Int} {m : List Int} (h1 : x ≠ 0) (h2 : x ≤ (m.length : Int) + 1) (h3 : (0 : Int) ∉ m.take (x.toNat - 1)) : grpM (x :: m) = 0 := by
  simp only [grpM]
  rw [if_neg h1, if_neg (by omega), if_neg h3]
/-- A group taken from the front: d are its bytes, r what follows. -/
theorem unG_group {d r : List Int} (h0 : (0 : Int) ∉ d) : unG (((d.length : Int) + 1) :: (d ++ r)) = thenU (d ++ (if r ≠ [] ∧ d.length < 254 then [0] else [])) (unG r) := by
  have hg : grpM (((d.length : Int) + 1) :: (d ++ r)) = 0 := grp_of (by omega) (by simp; omega) (by rw [show ((d.length : Int) + 1).toNat - 1 = d.length by omega]; simpa using h0)
  have := thenU_step [] hg
  rw [thenU_nil, show ((d.length : Int) + 1).toNat - 1 = d.length by omega] at this
  rw [this]
  simp only [List.take_left, List.drop_left, List.nil_append]
  congr 2
  by_cases hr : r = []
  · simp [hr]
  · by_cases hd : d.length < 254
    · rw [if_pos ⟨hr, by omega⟩, if_pos ⟨hr, hd⟩]
    · rw [if_neg (fun h => by have := h.2; omega), if_neg (fun h => hd h.2)]
theorem unG_split {l : List Int} (hb : Byte8 l) (hl : l ≠ []) (hg : grpM l = 0) : ∃ d r, l = ((d.length : Int) + 1) :: (d ++ r) ∧ (0 : Int) ∉ d ∧ d.length ≤ 254 := by
  cases l with
  | nil => exact absurd rfl hl
  | cons x m =>
    obtain ⟨h1, h2, h3⟩ := grp_good hg
    have hx := hb x (by simp)
    refine ⟨m.take (x.toNat - 1), m.drop (x.toNat - 1), ?_, h3, by simp; omega⟩
    rw [List.take_append_drop, List.length_take]
    congr 1
    omega

theorem un_pack (l : List Int) : unG (packC l) = (l, 0) := by
  refine len_rec (p := fun l => unG (packC l) = (l, 0)) (fun l ih => ?_) l
  rcases pack_cases l with ⟨h0, hd⟩ | ⟨d, m, rfl, h0, hd⟩ | ⟨d, m, rfl, h0, hd, hm⟩
  · rw [pack_last h0 hd]
    have := unG_group (r := []) h0
    rw [List.append_nil] at this
    rw [this, unG_nil]
    simp [thenU]
  · rw [pack_zero h0 hd, unG_group h0, ih m (by simp; omega), if_pos ⟨pack_ne m, hd⟩]
    simp [thenU]
  · have := unG_group (d := d) (r := packC m) h0
    rw [hd] at this
    rw [pack_full h0 hd hm]
    refine this.trans ?_
    rw [ih m (by simp; omega), if_neg (fun h => by omega)]
    simp [thenU]
theorem unpack_pack (l : List Int) : unpackC (packC l) = (l, 0) := by
  unfold unpackC; rw [if_neg (pack_ne l), un_pack]
theorem thenU_ok {acc : List Int} {r : List Int × Int} {y : List Int} (h : thenU acc r = (y, 0)) : r.2 = 0 ∧ y = acc ++ r.1 := by
  unfold thenU at h
  split at h
  · rename_i hr; injection h with _ h; exact absurd h hr
  · rename_i hr; injection h with h _; exact ⟨by simpa using hr, h.symm⟩
/-- No row that stands for y is shorter than the one of packC. -/
theorem un_short {b : List Int} (hb : Byte8 b) (hne : b ≠ []) {y : List Int} (h : unG b = (y, 0)) : (packC y).length ≤ b.length := by
  revert hb hne y h
  refine len_rec (p := fun b => Byte8 b → b ≠ [] → ∀ {y : List Int}, unG b = (y, 0) → (packC y).length ≤ b.length) (fun b ih hb hne y h => ?_) b
  have hg : grpM b = 0 := by
    cases b with
    | nil => rfl
    | cons x m =>
      by_cases hg : grpM (x :: m) = 0
      · exact hg
      · rw [unG_bad hg] at h; injection h with _ h
  obtain ⟨d, r, rfl, h0, hd⟩ := unG_split hb hne hg
  rw [unG_group h0] at h
  obtain ⟨hr, rfl⟩ := thenU_ok h
  by_cases hre : r = []
  · subst hre
    simp only [ne_eq, not_true_eq_false, false_and, if_false, List.append_nil, unG_nil]
    rw [pack_last h0 hd]
    simp
  · have hbr : Byte8 r := fun x hx => hb x (by simp [hx])
    have hi := ih r (by simp; omega) hbr hre (y := (unG r).1) (Prod.ext rfl hr)
    by_cases h254 : d.length < 254
    · rw [if_pos ⟨hre, h254⟩]
      rw [List.append_assoc, List.singleton_append, pack_zero h0 h254]
      simp only [List.length_cons, List.length_append]
      omega
    · rw [if_neg (fun h => h254 h.2), List.append_nil]
      by_cases hy : (unG r).1 = []
      · rw [hy, List.append_nil, pack_last h0 hd]
        simp
      · rw [pack_full h0 (by omega) hy]
        simp only [List.length_cons, List.length_append]
        omega
theorem un_bytes {b : List Int} (hb : Byte8 b) : Byte8 (unG b).1 := by
  revert hb
  refine len_rec (p := fun b => Byte8 b → Byte8 (unG b).1) (fun b ih hb => ?_) b
  by_cases hne : b = []
  · subst hne; rw [unG_nil]; intro x hx; cases hx
  by_cases hg : grpM b = 0
  · obtain ⟨d, r, rfl, h0, hd⟩ := unG_split hb hne hg
    rw [unG_group h0]
    unfold thenU
    split
    · intro x hx; cases hx
    · intro x hx
      have hi := ih r (by simp; omega) (fun x hx => hb x (by simp [hx]))
      simp only [List.mem_append] at hx
      rcases hx with (hx | hx) | hx
      · exact hb x (by simp [hx])
      · split at hx
        · rw [List.mem_singleton.1 hx]; omega
        · cases hx
      · exact hi x hx
  · cases b with
    | nil => exact absurd rfl hne
    | cons x m => rw [unG_bad hg]; intro x hx; cases hx
theorem unpack_bytes {b : List Int} (hb : Byte8 b) : Byte8 (unpackC b).1 := by
  unfold unpackC
  split
  · intro x hx; cases hx
  · exact un_bytes hb
theorem unpack_err (l : List Int) : (unpackC l).2 ≠ 0 → (unpackC l).1 = [] := by
  unfold unpackC
  split
  · simp
  · exact unG_err l
theorem unpack_short {b : List Int} (hb : Byte8 b) (h : (unpackC b).2 = 0) : (packC (unpackC b).1).length ≤ b.length := by
  unfold unpackC at *
  split at h
  · cases h
  · rename_i hne; rw [if_neg hne]; exact un_short hb hne (Prod.ext rfl h)
theorem un_len (b : List Int) : (unG b).1.length ≤ b.length := by
  refine len_rec (p := fun b => (unG b).1.length ≤ b.length) (fun b ih => ?_) b
  cases b with
  | nil => rw [unG_nil]; simp
  | cons x m =>
    rw [unG]
    split
    · simp
    · split
      · simp
      · have hi := ih (m.drop (x.toNat - 1)) (by simp; omega)
        simp only [List.length_append, List.length_cons, List.length_take]
        simp only [List.length_drop] at hi
        split
        · rename_i h
          have : 0 < (m.drop (x.toNat - 1)).length := List.length_pos_iff.2 h.1
          simp only [List.length_drop] at this
          simp
          omega
        · simp; omega
theorem unpack_len (b : List Int) : (unpackC b).1.length ≤ b.length := by
  unfold unpackC
  split
  · simp
  · exact un_len b

/-- The rows that zero bytes end. -/
def segsA : List Int → List Int → List (List Int)
  | _, [] => []
  | acc, x :: l => if x = 0 then acc :: segsA [] l else segsA (acc ++ [x]) l
def segsM (l : List Int) : List (List Int) := segsA [] l
theorem segsA_zero (acc a l : List Int) (h : (0 : Int) ∉ a) : segsA acc (a ++ 0 :: l) = (acc ++ a) :: segsM l := by
  induction a generalizing acc with
  | nil => simp [segsA, segsM]
  | cons x a ih =>
    simp only [List.mem_cons, not_or] at h
    rw [List.cons_append, segsA, if_neg (fun e => h.1 e.symm), ih _ h.2]
    simp
theorem segs_zero (a l : List Int) (h : (0 : Int) ∉ a) : segsM (a ++ 0 :: l) = a :: segsM l := by
  have := segsA_zero [] a l h
  simpa [segsM] using this
theorem segsA_count (acc l : List Int) : (segsA acc l).length = l.count 0 := by
  induction l generalizing acc with
  | nil => simp [segsA]
  | cons x l ih =>
    unfold segsA
    split
    · rename_i e; subst e; simp [ih]
    · rename_i e; rw [ih, List.count_cons_of_ne e]
theorem segs_count (l : List Int) : (segsM l).length = l.count 0 := segsA_count [] l
theorem segsA_append (acc a l : List Int) : segsA acc (a ++ 0 :: l) = segsA acc (a ++ [0]) ++ segsM l := by
  induction a generalizing acc with
  | nil => simp [segsA, segsM]
  | cons x a ih =>
    rw [List.cons_append, List.cons_append, segsA, segsA]
    split
    · rw [ih]; rfl
    · rw [ih]
theorem segs_append (a l : List Int) : segsM (a ++ 0 :: l) = segsM (a ++ [0]) ++ segsM l := segsA_append [] a l
theorem segs_at {l : List Int} (h : 0 < l.count 0) : ∃ a r, l = a ++ 0 :: r ∧ (0 : Int) ∉ a := by
  induction l with
  | nil => simp at h
  | cons x l ih =>
    by_cases e : x = 0
    · exact ⟨[], l, by rw [e]; rfl, by simp⟩
    · obtain ⟨a, r, rfl, ha⟩ := ih (by rwa [List.count_cons_of_ne e] at h)
      exact ⟨x :: a, r, rfl, by simp; exact ⟨fun h => e h.symm, ha⟩⟩
def partsM (l : List Int) : List (List Int × Int) := (segsM l).map unpackC
/-- Packed rows with zero bytes behind them. -/
def streamM (rows : List (List Int)) : List Int := rows.flatMap fun b => packC b ++ [0]
theorem parts_stream (rows : List (List Int)) (hb : ∀ b ∈ rows, Byte8 b) : partsM (streamM rows) = rows.map fun b => (b, 0) := by
  unfold partsM
  induction rows with
  | nil => rfl
  | cons b rows ih =>
    have e : streamM (b :: rows) = packC b ++ 0 :: streamM rows := by simp [streamM]
    rw [e, segs_zero _ _ (pack_bytes (hb b (by simp))).2, List.map_cons, ih (fun x hx => hb x (by simp [hx])), unpack_pack]
    rfl
theorem parts_again (a b : List Int) (hb : Byte8 b) : ∃ ps, partsM (a ++ ([0] ++ (packC b ++ [0]))) = ps ++ [(b, 0)] ∧ 0 < ps.length := by
  refine ⟨(segsM (a ++ [0])).map unpackC, ?_, ?_⟩
  · unfold partsM
    rw [show a ++ ([0] ++ (packC b ++ [0])) = a ++ 0 :: (packC b ++ 0 :: []) by simp, segs_append, segs_zero _ _ (pack_bytes hb).2, List.map_append]
    simp [unpack_pack, segsM, segsA]
  · rw [List.length_map, segs_count]; simp
theorem parts_len (l : List Int) : (partsM l).length = l.count 0 := by rw [partsM, List.length_map, segs_count]
end Go.Proofs.Ytmehdlnhllafaaa
