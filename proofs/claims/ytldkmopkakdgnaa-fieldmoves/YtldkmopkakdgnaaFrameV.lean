/-
  Frames as values: what a function that returns a frame promises; two frames compared. No statement of the seat is here.
-/
import Derived.Test.YtldkmopkakdgnaaBitWalks2
import Derived.Test.YtldkmopkakdgnaaBox
namespace Go.Proofs.Ytldkmopkakdgnaa
open Go.RowKit
set_option maxRecDepth 20000
set_option linter.unusedVariables false
set_option linter.unusedSimpArgs false

/-- A frame as a value. -/
abbrev frameV (id : Int) (A : Option Addr) (n c : Nat) : Value := .agg #[.int .i64 id, .slice A n c]

/-- What a function that returns a frame and an error promises: the frame and the error of the model r. -/
def GivesFrame (w : World) (r : (Int × List Int) × Int) (e : Ending) (w' : World) : Prop :=
  ∃ A c, e = .returned (.tuple #[frameV r.1.1 A r.1.2.length c, .int .i64 r.2]) ∧ Ow (Value.int .u8) w' w.heap.size 5 (.slice A r.1.2.length c) r.1.2 ∧ Below w.heap.size w w'

theorem le63 {c : Nat} (h : c ≤ maxLen) : c ≤ 9223372036854775807 := by unfold maxLen at h; omega

theorem str_inj {l l' : List Int} (h : Byte8 l) (h' : Byte8 l') (e1 : l.map (fun n => UInt8.ofNat n.toNat) = l'.map (fun n => UInt8.ofNat n.toNat)) : l = l' := by
  induction l generalizing l' with
  | nil => cases l' with
    | nil => rfl
    | cons y t => simp at e1
  | cons x r ih => cases l' with
    | nil => simp at e1
    | cons y t =>
      simp only [List.map_cons, List.cons.injEq] at e1
      have hx := h x (by simp)
      have hy := h' y (by simp)
      have e2 := congrArg UInt8.toNat e1.1
      simp only [UInt8.toNat_ofNat'] at e2
      have e3 : x = y := by omega
      rw [e3, ih (fun z hz => h z (by simp [hz])) (fun z hz => h' z (by simp [hz])) e1.2]
theorem str_eq {l l' : List Int} (h : Byte8 l) (h' : Byte8 l') : ((strOfNums l).toList == (strOfNums l').toList) = decide (l = l') := by
  rw [ByteArray.toList_eq, ByteArray.toList_eq, strOfNums_data, strOfNums_data]
  by_cases e : l = l'
  · subst e; simp
  · rw [decide_eq_false e, beq_eq_false_iff_ne]
    exact fun x => e (str_inj h h' x)

end Go.Proofs.Ytldkmopkakdgnaa
