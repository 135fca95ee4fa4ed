/-
  Contracts of bytes.IndexByte and bytes.Count at the zero byte, and of bytes.Equal. No statement of the seat is here.
-/
import Derived.Test.YtmehdlnhllafaaaSlices
import Derived.Test.YtmehdlnhllafaaaFrameV
import Derived.Shelf.Bytes.SlIndexAt
import Derived.Shelf.Bytes.SlCountOne
namespace Go.Proofs.Ytmehdlnhllafaaa
open Go.RowKit
set_option linter.unusedVariables false

/-- r is where the first zero byte of l stands, or -1. -/
def IdxZ (l : List Int) (r : Int) : Prop := (r = -1 ∧ (0 : Int) ∉ l) ∨ ∃ k : Nat, r = k ∧ l[k]? = some 0 ∧ (0 : Int) ∉ l.take k
theorem byte_zero {x : Int} (h0 : 0 ≤ x) (h1 : x < 256) : (UInt8.ofNat x.toNat = 0) ↔ x = 0 := by
  constructor
  · intro h
    have := congrArg UInt8.toNat h
    simp at this
    omega
  · rintro rfl; rfl
theorem idxZ_index {l : List Int} (hb : Byte8 l) : IdxZ l (Lib.indexByte (Lib.bytesOf l) 0) := by
  induction l with
  | nil => exact .inl ⟨rfl, by simp⟩
  | cons x l ih =>
    have hx := hb x (by simp)
    have ih := ih (fun y hy => hb y (by simp [hy]))
    have e : Lib.bytesOf (x :: l) = UInt8.ofNat x.toNat :: Lib.bytesOf l := rfl
    rw [e, Lib.indexByte]
    by_cases hz : x = 0
    · subst hz
      exact .inr ⟨0, by simp, by simp, by simp⟩
    · have hne : ¬ UInt8.ofNat x.toNat = 0 := fun h => hz ((byte_zero hx.1 hx.2).1 h)
      rcases ih with ⟨h1, h2⟩ | ⟨k, h1, h2, h3⟩
      · refine .inl ⟨by simp [hne, h1], by simp; exact ⟨fun h => hz h.symm, h2⟩⟩
      · refine .inr ⟨k + 1, ?_, by simpa using h2, by simp; exact ⟨fun h => hz h.symm, h3⟩⟩
        have : ¬ ((k : Int) = -1) := by omega
        simp [hne, h1, this]
        try omega
theorem count_zero {l : List Int} (hb : Byte8 l) : Lib.countByte (Lib.bytesOf l) 0 = l.count 0 := by
  unfold Lib.countByte
  induction l with
  | nil => rfl
  | cons x l ih =>
    have hx := hb x (by simp)
    have ih := ih (fun y hy => hb y (by simp [hy]))
    have e : Lib.bytesOf (x :: l) = UInt8.ofNat x.toNat :: Lib.bytesOf l := rfl
    rw [e]
    by_cases hz : x = 0
    · subst hz; show List.count 0 ((0 : UInt8) :: Lib.bytesOf l) = _; rw [List.count_cons_self, List.count_cons_self, ih]
    · have hne : UInt8.ofNat x.toNat ≠ 0 := fun h => hz ((byte_zero hx.1 hx.2).1 h)
      rw [List.count_cons_of_ne hne, List.count_cons_of_ne hz, ih]
theorem rd_getD {w : World} {ad : Addr} {n : Nat} {l : List Int} (h : Rd w 1 (some ad) n (l.map (Value.int .u8))) : ∀ i, i < n → w.cell? (ad.add i) = some (.int .u8 (l.getD i 0)) := fun i hi => by
  obtain ⟨ad', x, e, hx, hc⟩ := h.atMap hi
  injection e with e
  subst e
  rw [hc, List.getD_eq_getElem?_getD, hx]; rfl
theorem rd_none {w : World} {n : Nat} {l : List Int} (h : Rd w 1 none n (l.map (Value.int .u8))) : n = 0 ∧ l = [] := by
  have hn0 : n = 0 := by
    rcases Nat.eq_zero_or_pos n with h0 | h0
    · exact h0
    · obtain ⟨ad, e, _⟩ := h.2 h0; cases e
  exact ⟨hn0, List.eq_nil_of_length_eq_zero (h.lenMap.trans hn0)⟩

theorem IndexByte_any (A : Option Addr) (n c : Nat) (l : List Int) (w : World) (h : Rd w 1 A n (l.map (Value.int .u8))) (hb : Byte8 l) :
    Calls Try.prog 21 #[.slice A n c, .int .u8 0] w fun e w' => ∃ r : Int, e = .returned (.int .i64 r) ∧ IdxZ l r ∧ w = w' := by
  cases A with
  | none =>
    obtain ⟨rfl, rfl⟩ := rd_none h
    go_enter Try.func21, Try.ntmps21
    go_wp2
    rw [run_callFunc_extern Try.func30 (by kernel_rfl) (by kernel_rfl) (by kernel_rfl) (e := Extern.BytealgIndexByte.indexByte) (by kernel_rfl), Lib.run_indexByteNil w 0 c 0]
    simp only [Result.andThen]
    rw [Oper.upon_value]
    go_wp2
    go_ret
    exact ⟨_, rfl, .inl ⟨rfl, by simp⟩, rfl⟩
  | some ad =>
    have hz := idxZ_index hb
    go_enter Try.func21, Try.ntmps21
    go_wp2
    rw [run_callFunc_extern Try.func30 (by kernel_rfl) (by kernel_rfl) (by kernel_rfl) (e := Extern.BytealgIndexByte.indexByte) (by kernel_rfl), Lib.run_indexByteAt w ad n c l h.lenMap (rd_getD h) 0]
    simp only [Result.andThen]
    rw [Oper.upon_value]
    go_wp2
    go_ret
    exact ⟨_, rfl, hz, rfl⟩
theorem Count_any (A : Option Addr) (n c : Nat) (l : List Int) (B : Option Addr) (w : World) (h : Rd w 1 A n (l.map (Value.int .u8))) (hb : Byte8 l) (h2 : Rd w 1 B 1 ([0].map (Value.int .u8))) :
    Calls Try.prog 20 #[.slice A n c, .slice B 1 1] w fun e w' => e = .returned (.int .i64 (l.count 0 : Nat)) ∧ w = w' := by
  obtain ⟨ad2, x, rfl, hx, hc2⟩ := h2.atMap (k := 0) (by omega)
  obtain rfl : x = 0 := by simpa using hx.symm
  have hc3 : w.cell? ad2 = some (.int .u8 0) := by simpa [go_sem] using hc2
  clear hx hc2
  cases A with
  | none =>
    obtain ⟨rfl, rfl⟩ := rd_none h
    go_enter Try.func20, Try.ntmps20
    go_wp2
    rw [run_callFunc_extern Try.func28 (by kernel_rfl) (by kernel_rfl) (by kernel_rfl) (e := Extern.BytealgCount.count) (by kernel_rfl), Lib.run_countNil w 0 c 0]
    simp only [Result.andThen]
    rw [Oper.upon_value]
    go_wp2
    go_ret
    exact ⟨rfl, rfl⟩
  | some ad =>
    rw [← count_zero hb]
    have hl := h.lenMap
    have hg := rd_getD h
    clear h h2
    go_enter Try.func20, Try.ntmps20
    go_wp2
    rw [run_callFunc_extern Try.func28 (by kernel_rfl) (by kernel_rfl) (by kernel_rfl) (e := Extern.BytealgCount.count) (by kernel_rfl), Lib.run_countAt w ad n c l hl hg 0]
    simp only [Result.andThen]
    rw [Oper.upon_value]
    go_wp2
    go_ret
    exact ⟨rfl, rfl⟩
theorem EqualY_any (A A' : Option Addr) (n c n' c' : Nat) (l l' : List Int) (w : World) (h : Rd w 1 A n (l.map (Value.int .u8))) (h' : Rd w 1 A' n' (l'.map (Value.int .u8))) (hb : Byte8 l) (hb' : Byte8 l') :
    Calls Try.prog 15 #[.slice A n c, .slice A' n' c'] w fun e w' => e = .returned (.bool (decide (l = l'))) ∧ w = w' := by
  have hcv := run_bytes (P := Try.prog) Try.underlying22 Try.underlying5 Try.underlying9 c h
  have hcv' := run_bytes (P := Try.prog) Try.underlying22 Try.underlying5 Try.underlying9 c' h'
  rw [← str_eq hb hb']
  go_enter Try.func15, Try.ntmps15
  go_wp2
  go_ret
  exact ⟨rfl, rfl⟩
theorem EqualY_same (A A' : Option Addr) (n c n' c' : Nat) (l : List Int) (w : World) (h : Rd w 1 A n (l.map (Value.int .u8))) (h' : Rd w 1 A' n' (l.map (Value.int .u8))) (hb : Byte8 l) :
    Calls Try.prog 15 #[.slice A n c, .slice A' n' c'] w fun e w' => e = .returned (.bool true) ∧ w = w' :=
  (EqualY_any A A' n c n' c' l l w h h' hb hb).mono fun e w' hh => ⟨by rw [hh.1]; simp, hh.2⟩
end Go.Proofs.Ytmehdlnhllafaaa
