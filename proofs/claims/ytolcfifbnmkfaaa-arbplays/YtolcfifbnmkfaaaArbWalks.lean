/-
  Contracts of arb's functions: Wrong, everyNode. No statement of the seat is here.
-/
import Derived.Test.YtolcfifbnmkfaaaArbMath
import Derived.Test.YtolcfifbnmkfaaaMapB
import Derived.Test.YtolcfifbnmkfaaaSlicesF
import Derived.Test.YtolcfifbnmkfaaaSlices
import Derived.Test.YtolcfifbnmkfaaaBitWalks2
namespace Go.Proofs.Ytolcfifbnmkfaaa
open Go.RowKit
set_option linter.unusedVariables false

theorem intKeyed : Maps.Keyed Try.prog 3 := Maps.int_keyed Try.underlying3
set_option maxHeartbeats 1600000 in
theorem Wrong_any (A : Option Addr) (n c : Nat) (l : List Int) (w : World) (h : Rd w 1 A n (l.map (Value.int .i64))) :
    Calls Try.prog 12 #[.slice A n c] w fun e w' => e = .returned (.int .i64 (wrongM l)) ∧ Below w.heap.size w w' := by
  have hl := h.lenMap
  by_cases hn : 400 < n
  · have hw : wrongM l = 2 := by unfold wrongM; rw [if_pos (by omega)]
    rw [hw]
    clear hw
    go_enter Try.func12, Try.ntmps12
    go_wp2
    go_ret
    exact ⟨rfl, Below.refl _ _⟩
  · have hw : wrongM l = wrongFrom (l.take 0) (l.drop 0) := by unfold wrongM; rw [if_neg (by omega)]; rfl
    rw [hw]
    generalize hR : wrongFrom (l.take 0) (l.drop 0) = R
    have HR := Lib.hid hR; clear hR hw
    have Hl := Lib.hid hl; clear hl
    have hmm := @run_makeMap Try.prog
    go_enter Try.func12, Try.ntmps12
    go_wp2
    go_loopw [12] (fun i wr => ∃ (k : Nat) (D : DataW Unit), k ≤ n ∧ i = .int .i64 k ∧ wr.ownsMap Try.prog 3 (plainElem Try.prog 4) w.heap.size k D ∧ SetOf D (l.take k) ∧ wrongFrom (l.take k) (l.drop k) = R ∧ Below w.heap.size w wr) (fun i _ => n - (intOf i).toNat)
    case atStart => exact ⟨0, .map [], Nat.zero_le _, rfl, World.ownsMap_made _ _ _ _, SetOf.nil, HR.out, (Below.refl _ _).alloc (Nat.le_refl _) _⟩
    case round =>
      obtain ⟨k, D, hk, rfl, hown, hset, hR, hbl⟩ := hrel
      have HR := Lib.hid hR; clear hR
      by_cases hlt : k < n
      · obtain ⟨ad, x, rfl, hx, hc⟩ := (h.below hbl).atMap hlt
        have Hx := Lib.hid hx; clear hx
        by_cases h0 : x < 0
        · have H : Hid (R = 2) := HR.out.symm.trans (wrongFrom_range Hx.out (.inl h0))
          go_wp2
          go_ret
          exact ⟨ret_int H.out.symm, hbl⟩
        · by_cases h1 : 2047 < x
          · have H : Hid (R = 2) := HR.out.symm.trans (wrongFrom_range Hx.out (.inr h1))
            have hf : decide (x < 0) = false := by simpa using h0
            have h2 : (2048 : Int) ≤ x := by omega
            go_wp2
            go_ret
            exact ⟨ret_int H.out.symm, hbl⟩
          · have hf : decide (x < 0) = false := by simpa using h0
            have hf2 : decide ((2048 : Int) ≤ x) = false := by simp; omega
            have hkey : keyOf Try.prog 3 (.int .i64 x) = some (.int .i64 x) := Maps.keyOf_int_mk Try.underlying3 (by simp [Lit.wf, IntKind.min, IntKind.max, IntKind.signed, IntKind.bits] <;> omega)
            by_cases hs : x ∈ l.take k
            · have H : Hid (R = 6) := HR.out.symm.trans (wrongFrom_held Hx.out (by omega) (by omega) hs)
              have hd : decide (x ∈ l.take k) = true := by simpa using hs
              clear hs
              go_wp2_with (at_lookup; refine wpList_lookup_own_bool _ rfl _ _ 52 rfl 3 4 intKeyed Try.underlying52 Try.underlying4 (Try.zeroValue4 _) w.heap.size k _ rfl hown _ hset x true hd rfl hkey ?_)
              go_ret
              exact ⟨ret_int H.out.symm, hbl⟩
            · have H : Hid (_ = R) := (wrongFrom_next Hx.out (by omega) (by omega) hs).symm.trans HR.out
              have hd : decide (x ∈ l.take k) = false := by simpa using hs
              clear hs
              go_wp2_with (first
                | (at_lookup; refine wpList_lookup_own_bool _ rfl _ _ 52 rfl 3 4 intKeyed Try.underlying52 Try.underlying4 (Try.zeroValue4 _) w.heap.size k _ rfl hown _ hset x false hd rfl hkey ?_)
                | (at_mapUpdate; refine wpList_mapUpdate_own _ rfl _ _ _ 52 rfl 3 4 intKeyed Try.underlying52 _ w.heap.size k _ rfl hown (by unfold maxLen; omega) _ _ _ rfl rfl hkey _ [] (plainElem_bool Try.underlying4 _) ?_; intro w1 hown1 hgrow1))
              go_roundw
              case rel =>
                refine ⟨k + 1, _, by omega, by go_num, hown1, ?_, H.out, hbl.grown hgrow1 hbl.size (fun k e => by cases e; exact Nat.le_refl _)⟩
                rw [take_snoc Hx.out]
                exact hset.put x
              case measure => simp [intOf] <;> omega
      · obtain rfl : k = n := by omega
        have H : Hid (R = 0) := HR.out.symm.trans (wrongFrom_end (by rw [Hl.out]; exact Nat.le_refl _))
        go_wp2
        go_ret
        exact ⟨ret_int H.out.symm, hbl⟩
end Go.Proofs.Ytolcfifbnmkfaaa
