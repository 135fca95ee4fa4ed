/-
  Contract of arb.everyNode. No statement of the seat is here.
-/
import Derived.Test.YtolcfifbnmkfaaaArbWalks2
namespace Go.Proofs.Ytolcfifbnmkfaaa
open Go.RowKit
set_option linter.unusedVariables false

theorem run_mk {P : Program} {t e : TypeId} {z : Value} {bytes : Nat} (E : ElemT P t e z 1 bytes) (hz1 : z.cells = #[z]) (kl kc : IntKind) (n c : Nat) (hnc : n ≤ c) (hb : bytes * c ≤ 281474976710656) (hc : c ≤ 9223372036854775807) (w : World) :
    (Instr.makeSlice t (.int kl n) (.int kc c)).run P w = .ok (.slice (some ⟨w.heap.size, 0, none⟩) n c) (w.alloc (.cells (madeCells #[z] c) e)) := by
  obtain ⟨i0, hi, hz0, hz1', hz2⟩ := info_parts E.info
  have hb' : ((i0.bytes : Int)) * (c : Int) ≤ 281474976710656 := by
    rw [hz2]
    have h : ((bytes * c : Nat) : Int) ≤ 281474976710656 := by omega
    rwa [Int.natCast_mul] at h
  have := run_make (P := P) w t e i0 z E.under hi hz0 kl kc n c (by omega) (by omega) hb' (by omega)
  simpa [hz1, hz1'] using this
/-- The numbers from 0 on. -/
def iota (n : Nat) : List Int := (List.range n).map Int.ofNat
theorem iota_length (n : Nat) : (iota n).length = n := by simp [iota]
theorem iota_succ (n : Nat) : iota (n + 1) = iota n ++ [(n : Int)] := by simp [iota, List.range_succ]
theorem iota_mem {n : Nat} {i : Int} (h : i ∈ iota n) : ∃ k : Nat, i = k ∧ k < n := by
  obtain ⟨k, hk, rfl⟩ := List.mem_map.1 h
  exact ⟨k, rfl, by simpa using hk⟩
theorem iota_set (n k : Nat) (h : k < n) : (iota k ++ List.replicate (n - k) (0 : Int)).set k k = iota (k + 1) ++ List.replicate (n - (k + 1)) 0 := by
  have e : n - k = n - (k + 1) + 1 := by omega
  rw [e, List.replicate_succ, iota_succ, List.set_append_right _ _ (by rw [iota_length]; exact Nat.le_refl _), iota_length, Nat.sub_self, List.set_cons_zero, List.append_assoc]
  rfl
set_option maxHeartbeats 800000 in
theorem everyNode_any (n : Nat) (w : World) (hn : n ≤ 400) :
    Calls Try.prog 27 #[.int .i64 n] w fun e w' => ∃ v, e = .returned v ∧ Ow (Value.int .i64) w' w.heap.size 3 v (iota n) ∧ Below w.heap.size w w' := by
  have ho0 := Ow.make (Value.int .i64) 0 w 3 (base := w.heap.size) n (by unfold maxLen; omega) (Nat.le_refl _)
  have Ho0 := Lib.hid ho0; clear ho0
  have hmk := run_mk elInt rfl .i64 .i64 n n (Nat.le_refl _) (by omega) (by omega)
  go_enter Try.func27, Try.ntmps27
  go_wp2
  go_loopw [9] (fun i wr => ∃ k : Nat, k ≤ n ∧ i = .int .i64 k ∧ Ow (Value.int .i64) wr w.heap.size 3 (.slice (some ⟨w.heap.size, 0, none⟩) n n) (iota k ++ List.replicate (n - k) 0) ∧ Below w.heap.size w wr) (fun i _ => n - (intOf i).toNat)
  case atStart => exact ⟨0, Nat.zero_le _, rfl, by simpa [iota] using Ho0.out, (Below.refl _ _).alloc (Nat.le_refl _) _⟩
  case round =>
    obtain ⟨k, hk, rfl, ho, hb⟩ := hrel
    by_cases hlt : k < n
    · have hc := ho.cellAt (k := k) (x := 0) (by rw [List.getElem?_append_right (by rw [iota_length]; exact Nat.le_refl _), iota_length, List.getElem?_replicate, if_pos (by omega)])
      have hf := ho.freeAt k
      have hput := Lib.hid (ho.put k k)
      rw [iota_set n k hlt] at hput
      have Ho := Lib.hid ho; clear ho
      go_wp2
      go_roundw
      case rel => exact ⟨k + 1, by omega, by go_num, hput.out, below_grown hb (grownBy_setCell _ ⟨w.heap.size, k, none⟩ _) (Nat.le_refl _) hb.size⟩
      case measure => simp [intOf] <;> omega
    · obtain rfl : k = n := by omega
      go_wp2
      go_ret
      exact ⟨_, rfl, by simpa using ho, hb⟩
end Go.Proofs.Ytolcfifbnmkfaaa
