/-
  A read as a value and as cells; the code's own reader against the model's. No statement of the seat is here.
-/
import Derived.Test.YtblnfffmgaiabaaNbwMath
import Derived.Test.YtblnfffmgaiabaaStructG
import Derived.Test.YtblnfffmgaiabaaNums
namespace Go.Proofs.Ytblnfffmgaiabaa
open Go.RowKit
set_option linter.unusedVariables false

abbrev gotV (g : GotQ) : Value := .agg #[.int .i64 (g.fi : Int), .int .i64 (g.se : Int), .int .i64 (g.tr : Int)]
def gotC (g : GotQ) : List Value := [.int .i64 (g.fi : Int), .int .i64 (g.se : Int), .int .i64 (g.tr : Int)]
theorem gotK : CellsG gotC 3 := ⟨fun _ => rfl, by decide, fun m u hu => by
  simp [gotC] at hu
  rcases hu with rfl | rfl | rfl <;> rfl⟩
theorem elGot : ElemT Try.prog 23 29 (.agg #[.int .i64 0, .int .i64 0, .int .i64 0]) 3 24 := ⟨Try.underlying23, by kernel_rfl, rfl, by decide⟩
/-- The cells of an element in the walk's own spelling. -/
theorem got_at {w : World} {A : Option Addr} {n k : Nat} {L : List GotQ} (h : RdG gotC 3 w A n L) (hk : k < n) :
    ∃ ad x, A = some ad ∧ L[k]? = some x ∧ w.cell? (ad.add (k * 3)) = some (.int .i64 (x.fi : Int)) ∧ w.cell? ⟨(ad.add (k * 3)).block, (ad.add (k * 3)).off + 1, none⟩ = some (.int .i64 (x.se : Int)) ∧ w.cell? ⟨(ad.add (k * 3)).block, (ad.add (k * 3)).off + 2, none⟩ = some (.int .i64 (x.tr : Int)) := by
  obtain ⟨ad, x, e, hx, h0, h1⟩ := RdG.cells gotK h hk
  exact ⟨ad, x, e, hx, h0 _ rfl, h1 0 _ rfl, h1 1 _ rfl⟩
/-- The cells of the memory, of the reader. -/
def memQ (d : Nat) : List Value := [.int .i64 (cntQ d : Int), .int .i64 (wd1 d : Int), .int .i64 (wd2 d : Int)]
def rdC (r : RdQ) : List Value := [.int .i64 (r.pos : Int), .int .i64 (r.saw : Int), .int .i64 (r.fi : Int), .int .i64 (r.se : Int), .int .i64 (r.tr : Int)]
/-- A step of the code's reader, and whether a read has succeeded with it. -/
def codeR (c f s : Nat) (r : RdQ) : RdQ :=
  if r.pos = 0 then (if c % 2 = 1 then ⟨0, r.saw, r.tr + 1, r.fi, r.se⟩ else ⟨1, c, r.tr + 1, r.fi, r.se⟩)
  else if r.pos = 1 then ⟨2, r.saw, r.tr, f, r.se⟩
  else if r.pos = 2 then ⟨3, r.saw, r.tr, r.fi, s⟩
  else ⟨0, r.saw, r.tr, r.fi, r.se⟩
def codeB (c : Nat) (r : RdQ) : Bool := decide (r.pos = 3 ∧ r.saw = c)
structure SimQ (c r : RdQ) : Prop where
  pos : c.pos = r.pos
  tr : c.tr = r.tr
  le : r.pos ≤ 3
  saw : 1 ≤ r.pos → c.saw = r.saw
  fi : 2 ≤ r.pos → c.fi = r.fi
  se : 3 ≤ r.pos → c.se = r.se
theorem sim_start : SimQ rd0 rd0 := ⟨rfl, rfl, by decide, fun _ => rfl, fun _ => rfl, fun _ => rfl⟩
theorem sim0 (a t f s a' f' s' : Nat) : SimQ ⟨0, a, t, f, s⟩ ⟨0, a', t, f', s'⟩ := ⟨rfl, rfl, Nat.zero_le _, fun h => absurd h (by simp), fun h => absurd h (by simp), fun h => absurd h (by simp)⟩
theorem sim1 (a t f s f' s' : Nat) : SimQ ⟨1, a, t, f, s⟩ ⟨1, a, t, f', s'⟩ := ⟨rfl, rfl, by simp, fun _ => rfl, fun h => absurd h (by simp), fun h => absurd h (by simp)⟩
theorem sim2 (a t f s s' : Nat) : SimQ ⟨2, a, t, f, s⟩ ⟨2, a, t, f, s'⟩ := ⟨rfl, rfl, by simp, fun _ => rfl, fun _ => rfl, fun h => absurd h (by simp)⟩
theorem sim3 (a t f s : Nat) : SimQ ⟨3, a, t, f, s⟩ ⟨3, a, t, f, s⟩ := ⟨rfl, rfl, by simp, fun _ => rfl, fun _ => rfl, fun _ => rfl⟩
theorem sim_step {c r : RdQ} (h : SimQ c r) (d : Nat) :
    (codeB (cntQ d) c = true → giveQ d r = [⟨(codeR (cntQ d) (wd1 d) (wd2 d) c).fi, (codeR (cntQ d) (wd1 d) (wd2 d) c).se, (codeR (cntQ d) (wd1 d) (wd2 d) c).tr⟩] ∧ SimQ rd0 (readQ d r)) ∧
    (codeB (cntQ d) c = false → giveQ d r = [] ∧ SimQ (codeR (cntQ d) (wd1 d) (wd2 d) c) (readQ d r)) := by
  obtain ⟨cp, cs, ct, cf, ce⟩ := c
  obtain ⟨rp, rs, rt, rf, re⟩ := r
  obtain ⟨h1, h2, h3, h4, h5, h6⟩ := h
  simp only at h1 h2 h3 h4 h5 h6
  subst h1 h2
  have hp : cp = 0 ∨ cp = 1 ∨ cp = 2 ∨ cp = 3 := by omega
  unfold codeB codeR giveQ readQ
  generalize cntQ d = C
  rcases hp with rfl | rfl | rfl | rfl
  · refine ⟨fun h => by simp at h, fun _ => ⟨by simp, ?_⟩⟩
    by_cases g : C % 2 = 1
    · simp only [g, if_true]
      exact sim0 _ _ _ _ _ _ _
    · simp only [g, if_true, if_false]
      exact sim1 _ _ _ _ _ _
  · obtain rfl := h4 (by decide)
    exact ⟨fun h => by simp at h, fun _ => ⟨by simp, sim2 _ _ _ _ _⟩⟩
  · obtain rfl := h4 (by decide)
    obtain rfl := h5 (by decide)
    exact ⟨fun h => by simp at h, fun _ => ⟨by simp, sim3 _ _ _ _⟩⟩
  · obtain rfl := h4 (by decide)
    obtain rfl := h5 (by decide)
    obtain rfl := h6 (by decide)
    by_cases g : cs = C
    · refine ⟨fun _ => ⟨by simp [g], ?_⟩, fun h => by simp [g] at h⟩
      simp only [g, if_true]
      exact sim0 _ _ _ _ _ _ _
    · refine ⟨fun h => by simp [g] at h, fun _ => ⟨by simp [g], ?_⟩⟩
      simp only [g, if_false]
      exact sim0 _ _ _ _ _ _ _
/-- What the numbers are bounded by. -/
theorem run_small (l : List Int) : (runQ l).d ≤ l.length ∧ (runQ l).out.length ≤ l.length ∧ (runQ l).r.tr ≤ l.length := by
  induction l using snoc_rec with
  | nil => exact ⟨by decide, by decide, by decide⟩
  | snoc l x ih =>
    rw [runQ_snoc, List.length_append]
    obtain ⟨h1, h2, h3⟩ := ih
    generalize runQ l = s at *
    unfold stepQ
    split
    · exact ⟨by show s.d + 1 ≤ _; simp; omega, by show s.out.length ≤ _; omega, by show s.r.tr ≤ _; omega⟩
    · refine ⟨by show s.d ≤ _; omega, ?_, ?_⟩
      · show (s.out ++ giveQ s.d s.r).length ≤ _
        unfold giveQ
        split <;> simp <;> omega
      · show (readQ s.d s.r).tr ≤ _
        unfold readQ
        simp only [List.length_singleton]
        repeat (first | split | (simp only; omega))
end Go.Proofs.Ytblnfffmgaiabaa
