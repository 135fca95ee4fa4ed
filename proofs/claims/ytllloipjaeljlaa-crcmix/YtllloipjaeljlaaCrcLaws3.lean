/-
  The walk of CrcMix.
-/
import Derived.Test.YtllloipjaeljlaaCrcLaws
import Derived.Test.YtllloipjaeljlaaRegion
import Derived.Deep.OwnRows
namespace Go.Proofs.Ytllloipjaeljlaa
open Go.RowKit
set_option linter.unusedVariables false
set_option linter.unusedSimpArgs false

theorem crc_mix (a b : List Bool) (n : Nat) (ha : n ≤ a.length) (hb : n ≤ b.length) : crcM (mix (b.take n) (a.take n)) = crcM (a.take n) ^^^ crcM (b.take n) := by
  have h1 : (a.take n).length = n := by simp; omega
  have h2 : (b.take n).length = n := by simp; omega
  rw [crcM_mix _ _ (by omega), h1, h2]
  simp
theorem crc_lead (l : List Bool) (k : Nat) : crcM (List.replicate k false ++ l) = crcM l := by
  rw [crcM, crcFrom_append, crcFrom_zeros]; rfl
theorem mix_get (p : List Bool) : ∀ (l : List Bool) (k : Nat) (x y : Bool), l[k]? = some x → p[k]? = some y → (mix p l)[k]? = some (x != y) := by
  induction p with
  | nil => intro l k x y _ h; simp at h
  | cons z p ih => intro l k x y hx hy; cases l with
    | nil => simp at hx
    | cons u l => cases k with
      | zero => simp at hx hy; subst hx hy; rfl
      | succ k => simp at hx hy; simp [mix, ih l k x y hx hy]
theorem fill_step {α : Type} {Z : List α} {n k : Nat} {z d : α} (hn : Z.length = n) (hz : Z[k]? = some z) :
    (Z.take k ++ List.replicate (n - k) d)[k]? = some d ∧ (Z.take k ++ List.replicate (n - k) d).set k z = Z.take (k + 1) ++ List.replicate (n - (k + 1)) d := by
  have hk : k < n := by rw [← hn]; exact (List.getElem?_eq_some_iff.1 hz).1
  have hl : (Z.take k).length = k := by simp; omega
  obtain ⟨r, hr⟩ : ∃ r, n - k = r + 1 := ⟨n - k - 1, by omega⟩
  rw [hr, List.replicate_succ, show n - (k + 1) = r by omega, take_snoc hz]
  constructor
  · rw [List.getElem?_append_right (by omega), hl, Nat.sub_self]; rfl
  · rw [List.set_append_right _ _ (by omega), hl, Nat.sub_self, List.set_cons_zero]; simp

set_option maxHeartbeats 4000000 in
theorem CrcMix_a (n m c0 c1 : Nat) (A0 A1 : Option Addr) (l0 l1 : List Bool) (w : World) (h0 : Rd w 1 A0 n (l0.map Value.bool)) (k0 : n ≤ c0) (b0 : c0 * 1 ≤ 140737488351232) (h1 : Rd w 1 A1 m (l1.map Value.bool)) (k1 : m ≤ c1) (b1 : c1 * 1 ≤ 140737488351232) (hge : ¬ m < n) (hnm : n ≤ m) :
    Calls Try.prog 12 #[.slice A0 n c0, .slice A1 m c1] w fun e w' => e = .returned (.bool true) ∧ Below w.heap.size w w' := by
  have hn0 : n ≤ n := by omega
  have hn1 : n ≤ m := by omega
  have Hl0 := Lib.hid h0.lenMap
  have Hl1 := Lib.hid h1.lenMap
  have hmk : ∀ W : World, (Instr.makeSlice 22 (.int .i64 n) (.int .i64 n)).run Try.prog W = .ok (.slice (some ⟨W.heap.size, 0, none⟩) n n) (W.alloc (.cells (madeCells #[.bool false] n) 4)) := fun W => run_make_row' 22 4 (.bool false) 1 Try.underlying22 elBool.info rfl .i64 .i64 n (by omega) (by omega) W
  obtain ⟨Z, hZ⟩ : ∃ Z, Z = mix (l1.take n) (l0.take n) := ⟨_, rfl⟩
  have HZ := Lib.hid (crc_mix l0 l1 n (by rw [Hl0.out]; exact hn0) (by rw [Hl1.out]; exact hn1))
  rw [← hZ] at HZ
  have Hzl : Hid (Z.length = n) := by show _ = _; rw [hZ, mix_length, List.length_take, Hl0.out]; omega
  have Hz : Hid (∀ (k : Nat) (x y : Bool), k < n → l0[k]? = some x → l1[k]? = some y → Z[k]? = some (x != y)) := by
    intro k x y hk hx hy
    rw [hZ]
    exact mix_get _ _ _ _ _ (by rw [List.getElem?_take_of_lt hk]; exact hx) (by rw [List.getElem?_take_of_lt hk]; exact hy)
  clear hZ
  have htk0 := h0.take (k := n) hn0
  have htk1 := h1.take (k := n) hn1
  rw [Nat.mul_one, ← List.map_take] at htk0 htk1
  go_enter Try.func12, Try.ntmps12
  go_wp2_with fail
  refine (alive3_any _).mono ?_
  rintro e wa ⟨rfl, hb⟩
  have hsz := hb.size
  have hom := Ow.make Value.bool false wa 4 (base := wa.heap.size) n (by unfold maxLen; omega) (Nat.le_refl _)
  have hbm := hb.alloc hsz (.cells (madeCells #[.bool false] n) 4)
  go_wp2
  go_loopw [19] (fun i wr => ∃ k : Nat, k ≤ n ∧ i = .int .i64 k ∧ Ow Value.bool wr wa.heap.size 4 (.slice (some ⟨wa.heap.size, 0, none⟩) n n) (Z.take k ++ List.replicate (n - k) false) ∧ Below w.heap.size w wr) (fun i _ => n - (intOf i).toNat)
  case atStart => exact ⟨0, Nat.zero_le _, rfl, by simpa using hom, hbm⟩
  case round =>
    clear hom hbm
    obtain ⟨k, hk, rfl, ho, hbl⟩ := hrel
    by_cases hlt : k < n
    · obtain ⟨ad, x, rfl, hx, hc⟩ := (h0.below hbl).atMap (k := k) (by omega)
      obtain ⟨ad', x', rfl, hx', hc'⟩ := (h1.below hbl).atMap (k := k) (by omega)
      obtain ⟨hat, hset⟩ := fill_step (d := false) Hzl.out (Hz.out k x x' hlt hx hx')
      have hcm := ho.cellAt hat
      have hf := ho.freeAt k
      have hod : Ow Value.bool wr.drew wa.heap.size 4 (.slice (some ⟨wa.heap.size, 0, none⟩) n n) (Z.take k ++ List.replicate (n - k) false) := ho
      have hp := hod.put k (x != x')
      rw [hset] at hp
      have hbp := hbl.drew.setCell (p := ⟨wa.heap.size, k, none⟩) hsz (.bool (x != x'))
      clear hat hset hx hx' hod
      go_wp2
      go_region
      all_goals
        go_wp2
        go_roundw
        case rel => exact ⟨k + 1, by omega, by go_num, hp, hbp⟩
        case measure => simp [intOf] <;> omega
    · obtain rfl : n = k := by omega
      rw [List.take_of_length_le (by rw [Hzl.out]; exact Nat.le_refl _), Nat.sub_self, List.replicate_zero, List.append_nil] at ho
      have hrZ := ho.rd
      have hbd := hbl.drew
      have hs0 := fun W => run_to elBool W A0 n c0 n (by omega)
      have hs1 := fun W => run_to elBool W A1 m c1 n (by omega)
      have hxo := i64_xor_nat (crcM (l0.take n)) (crcM (l1.take n)) (by have := crcM_lt (l0.take n); omega) (by have := crcM_lt (l1.take n); omega)
      rw [← HZ.out] at hxo
      have hm9 : ∀ W : World, (Instr.makeSlice 22 (.int .i64 9) (.int .i64 9)).run Try.prog W = .ok (.slice (some ⟨W.heap.size, 0, none⟩) 9 9) (W.alloc (.cells ((List.replicate 9 false).map Value.bool).toArray 4)) := fun _ => by kernel_rfl
      clear hmk ho
      go_wp2_with fail
      refine wp_region_B (by kernel_rfl) ?_
      refine wpAnyB_take (i := 0) (oi := { dst := some 35, op := Op.move (Go.Operand.tmp 6), type := 22, pos := "crc.go:76", after := #[], guard := none }) (v := ?v1) rfl (by kernel_rfl) (by kernel_rfl) (by kernel_rfl) (fun _ _ _ h => h) (Or.inl ⟨by rfl, ?hy1⟩) ?rs1
      case hy1 => (intro W hW; go_simp; try with_reducible rfl)
      try simp only [Act.put, List.setIfInBounds_toArray, List.set_cons_zero, List.set_cons_succ]
      refine wpAnyB_take (i := 2) (oi := { dst := some 37, op := Op.move (Go.Operand.tmp 0), type := 22, pos := "crc.go:76", after := #[], guard := none }) (v := ?v2) rfl (by kernel_rfl) (by kernel_rfl) (by kernel_rfl) (fun _ _ _ h => h) (Or.inl ⟨by rfl, ?hy2⟩) ?rs2
      case hy2 => (intro W hW; go_simp; try with_reducible rfl)
      try simp only [Act.put, List.setIfInBounds_toArray, List.set_cons_zero, List.set_cons_succ]
      refine wpAnyB_take (i := 3) (oi := { dst := some 38, op := Op.move (Go.Operand.tmp 5), type := 3, pos := "crc.go:76", after := #[], guard := none }) (v := ?v3) rfl (by kernel_rfl) (by kernel_rfl) (by kernel_rfl) (fun _ _ _ h => h) (Or.inl ⟨by rfl, ?hy3⟩) ?rs3
      case hy3 => (intro W hW; go_simp; try with_reducible rfl)
      try simp only [Act.put, List.setIfInBounds_toArray, List.set_cons_zero, List.set_cons_succ]
      refine wpAnyB_take (i := 4) (oi := { dst := some 39, op := Op.slice 22 (Go.Operand.tmp 37) none (some (Go.Operand.tmp 38)) none, type := 22, pos := "crc.go:76", after := #[{ on := 2, ground := Ground.data }, { on := 3, ground := Ground.data }], guard := none }) (v := ?v4) rfl (by kernel_rfl) (by kernel_rfl) (by kernel_rfl) (fun _ _ _ h => h) (Or.inl ⟨by rfl, ?hy4⟩) ?rs4
      case hy4 => (intro W hW; go_simp; try with_reducible rfl)
      try simp only [Act.put, List.setIfInBounds_toArray, List.set_cons_zero, List.set_cons_succ]
      refine wpAnyB_take (i := 6) (oi := { dst := some 41, op := Op.move (Go.Operand.tmp 1), type := 22, pos := "crc.go:76", after := #[], guard := none }) (v := ?v5) rfl (by kernel_rfl) (by kernel_rfl) (by kernel_rfl) (fun _ _ _ h => h) (Or.inl ⟨by rfl, ?hy5⟩) ?rs5
      case hy5 => (intro W hW; go_simp; try with_reducible rfl)
      try simp only [Act.put, List.setIfInBounds_toArray, List.set_cons_zero, List.set_cons_succ]
      refine wpAnyB_take (i := 7) (oi := { dst := some 42, op := Op.move (Go.Operand.tmp 5), type := 3, pos := "crc.go:76", after := #[], guard := none }) (v := ?v6) rfl (by kernel_rfl) (by kernel_rfl) (by kernel_rfl) (fun _ _ _ h => h) (Or.inl ⟨by rfl, ?hy6⟩) ?rs6
      case hy6 => (intro W hW; go_simp; try with_reducible rfl)
      try simp only [Act.put, List.setIfInBounds_toArray, List.set_cons_zero, List.set_cons_succ]
      refine wpAnyB_take (i := 8) (oi := { dst := some 43, op := Op.slice 22 (Go.Operand.tmp 41) none (some (Go.Operand.tmp 42)) none, type := 22, pos := "crc.go:76", after := #[{ on := 6, ground := Ground.data }, { on := 7, ground := Ground.data }], guard := none }) (v := ?v7) rfl (by kernel_rfl) (by kernel_rfl) (by kernel_rfl) (fun _ _ _ h => h) (Or.inl ⟨by rfl, ?hy7⟩) ?rs7
      case hy7 => (intro W hW; go_simp; try with_reducible rfl)
      try simp only [Act.put, List.setIfInBounds_toArray, List.set_cons_zero, List.set_cons_succ]
      refine wpAnyB_one (i := 1) (o := { dst := some 36, op := Op.call { callee := Callee.value (Go.Operand.func 27), args := #[Go.Operand.tmp 35], argTypes := #[22] }, type := 3, pos := "crc.go:76", after := #[{ on := 0, ground := Ground.data }], guard := none }) (by kernel_rfl) rfl (fun K hK => ?_)
      go_simp
      refine (Sum_any _ _ _ Z _ hrZ.drew (by omega)).mono ?_; rintro e w4 ⟨rfl, rfl⟩; have hbk := Below.refl wr.drew.heap.size wr.drew
      refine hK.out _ _ hbk ?_
      clear hK K
      try simp only [Act.put, List.setIfInBounds_toArray, List.set_cons_zero, List.set_cons_succ]
      refine wpAnyB_one (i := 5) (o := { dst := some 40, op := Op.call { callee := Callee.value (Go.Operand.func 27), args := #[Go.Operand.tmp 39], argTypes := #[22] }, type := 3, pos := "crc.go:76", after := #[{ on := 4, ground := Ground.data }, { on := 1, ground := Ground.chain }], guard := none }) (by kernel_rfl) rfl (fun K hK => ?_)
      go_simp
      refine (Sum_any _ _ _ (l0.take n) _ (htk0.below hbd) (by omega)).mono ?_; rintro e w4 ⟨rfl, rfl⟩; have hbk := Below.refl wr.drew.heap.size wr.drew
      refine hK.out _ _ hbk ?_
      clear hK K
      try simp only [Act.put, List.setIfInBounds_toArray, List.set_cons_zero, List.set_cons_succ]
      refine wpAnyB_one (i := 9) (o := { dst := some 44, op := Op.call { callee := Callee.value (Go.Operand.func 27), args := #[Go.Operand.tmp 43], argTypes := #[22] }, type := 3, pos := "crc.go:76", after := #[{ on := 8, ground := Ground.data }, { on := 5, ground := Ground.chain }], guard := none }) (by kernel_rfl) rfl (fun K hK => ?_)
      go_simp
      refine (Sum_any _ _ _ (l1.take n) _ (htk1.below hbd) (by omega)).mono ?_; rintro e w4 ⟨rfl, rfl⟩; have hbk := Below.refl wr.drew.heap.size wr.drew
      refine hK.out _ _ hbk ?_
      clear hK K
      try simp only [Act.put, List.setIfInBounds_toArray, List.set_cons_zero, List.set_cons_succ]
      refine wpAnyB_take (i := 10) (oi := { dst := some 45, op := Op.binOp Go.BinOp.xor 3 (Go.Operand.tmp 40) (Go.Operand.tmp 44) 3, type := 3, pos := "crc.go:76", after := #[{ on := 5, ground := Ground.data }, { on := 9, ground := Ground.data }], guard := none }) (v := ?v8) rfl (by kernel_rfl) (by kernel_rfl) (by kernel_rfl) (fun _ _ _ h => h) (Or.inl ⟨by rfl, ?hy8⟩) ?rs8
      case hy8 => (intro W hW; go_simp; try with_reducible rfl)
      try simp only [Act.put, List.setIfInBounds_toArray, List.set_cons_zero, List.set_cons_succ]
      refine wpAnyB_take (i := 11) (oi := { dst := some 46, op := Op.binOp Go.BinOp.eql 3 (Go.Operand.tmp 36) (Go.Operand.tmp 45) 3, type := 4, pos := "crc.go:76", after := #[{ on := 1, ground := Ground.data }, { on := 10, ground := Ground.data }], guard := none }) (v := ?v9) rfl (by kernel_rfl) (by kernel_rfl) (by kernel_rfl) (fun _ _ _ h => h) (Or.inl ⟨by rfl, ?hy9⟩) ?rs9
      case hy9 => (intro W hW; go_simp; try with_reducible rfl)
      try simp only [Act.put, List.setIfInBounds_toArray, List.set_cons_zero, List.set_cons_succ]
      refine wpAnyB_take (i := 12) (oi := { dst := some 47, op := Op.move (Go.Operand.tmp 46), type := 4, pos := "crc.go:76", after := #[{ on := 11, ground := Ground.data }, { on := 9, ground := Ground.chain }], guard := none }) (v := ?v10) rfl (by kernel_rfl) (by kernel_rfl) (by kernel_rfl) (fun _ _ _ h => h) (Or.inl ⟨by rfl, ?hy10⟩) ?rs10
      case hy10 => (intro W hW; go_simp; try with_reducible rfl)
      try simp only [Act.put, List.setIfInBounds_toArray, List.set_cons_zero, List.set_cons_succ]
      refine wpAnyB_take (i := 14) (oi := { dst := some 49, op := Op.move (Go.Operand.tmp 0), type := 22, pos := "crc.go:76", after := #[{ on := 12, ground := Ground.guard }], guard := some (12, true) }) (v := ?v11) rfl (by kernel_rfl) (by kernel_rfl) (by kernel_rfl) (fun _ _ _ h => h) (Or.inl ⟨by rfl, ?hy11⟩) ?rs11
      case hy11 => (intro W hW; go_simp; try with_reducible rfl)
      try simp only [Act.put, List.setIfInBounds_toArray, List.set_cons_zero, List.set_cons_succ]
      refine wpAnyB_take (i := 18) (oi := { dst := some 53, op := Op.move (Go.Operand.tmp 0), type := 22, pos := "crc.go:76", after := #[{ on := 12, ground := Ground.guard }], guard := some (12, true) }) (v := ?v12) rfl (by kernel_rfl) (by kernel_rfl) (by kernel_rfl) (fun _ _ _ h => h) (Or.inl ⟨by rfl, ?hy12⟩) ?rs12
      case hy12 => (intro W hW; go_simp; try with_reducible rfl)
      try simp only [Act.put, List.setIfInBounds_toArray, List.set_cons_zero, List.set_cons_succ]
      refine wpAnyB_one (i := 13) (o := { dst := some 48, op := Op.makeSlice 22 (Go.Operand.const (Go.Value.int Go.IntKind.i64 9)) (Go.Operand.const (Go.Value.int Go.IntKind.i64 9)), type := 22, pos := "crc.go:76", after := #[{ on := 12, ground := Ground.guard }], guard := some (12, true) }) (by kernel_rfl) rfl (fun K hK => ?_)
      go_simp
      have hbk : Below wr.drew.heap.size wr.drew (wr.alloc (.cells #[.bool false, .bool false, .bool false, .bool false, .bool false, .bool false, .bool false, .bool false, .bool false] 4)).drew := (Below.refl _ wr.drew).alloc (Nat.le_refl _) _; have hr9 : Rd (wr.alloc (.cells #[.bool false, .bool false, .bool false, .bool false, .bool false, .bool false, .bool false, .bool false, .bool false] 4)).drew 1 (some ⟨wr.heap.size, 0, none⟩) 9 ((List.replicate 9 false).map Value.bool) := Rd.litAt Value.bool (List.replicate 9 false) 4 rfl; have hb9 := bthen hbd hbk; generalize (wr.alloc (.cells #[.bool false, .bool false, .bool false, .bool false, .bool false, .bool false, .bool false, .bool false, .bool false] 4)).drew = w9 at *
      refine hK.out _ _ hbk ?_
      clear hK K
      try simp only [Act.put, List.setIfInBounds_toArray, List.set_cons_zero, List.set_cons_succ]
      refine wpAnyB_one (i := 15) (o := { dst := some 50, op := Op.buildSlice 42 2 #[(0, Go.Operand.tmp 48), (1, Go.Operand.tmp 49)], type := 42, pos := "crc.go:76", after := #[{ on := 13, ground := Ground.data }, { on := 14, ground := Ground.data }, { on := 12, ground := Ground.guard }], guard := some (12, true) }) (by kernel_rfl) rfl (fun K hK => ?_)
      go_simp
      have hbk : Below w9.heap.size w9 (w9.alloc (.cells #[.slice (some ⟨wr.heap.size, 0, none⟩) 9 9, .slice A0 n c0] 22)) := (Below.refl _ w9).alloc (Nat.le_refl _) _
      refine hK.out _ _ hbk ?_
      clear hK K
      try simp only [Act.put, List.setIfInBounds_toArray, List.set_cons_zero, List.set_cons_succ]
      refine wpAnyB_one (i := 16) (o := { dst := some 51, op := Op.call { callee := Callee.value (Go.Operand.func 29), args := #[Go.Operand.tmp 50], argTypes := #[42] }, type := 22, pos := "crc.go:76", after := #[{ on := 15, ground := Ground.data }, { on := 12, ground := Ground.chain }, { on := 12, ground := Ground.guard }], guard := some (12, true) }) (by kernel_rfl) rfl (fun K hK => ?_)
      go_simp
      refine (ConcatB_any _ 2 2 [(some ⟨wr.heap.size, 0, none⟩, 9, 9, List.replicate 9 false), (A0, n, c0, l0)] _ (Rd.litAt ConcatB_any_val _ _ rfl) (by intro p hp; simp only [List.mem_cons, List.not_mem_nil, or_false] at hp; rcases hp with rfl | rfl; exact hr9.alloc _; exact (h0.below hb9).alloc _) (by decide) (by have := Hl0.out; simp; omega)).mono ?_; rintro e w10 ⟨v10, rfl, ho10, hbk⟩; rw [show [(some (⟨wr.heap.size, 0, none⟩ : Addr), 9, 9, List.replicate 9 false), (A0, n, c0, l0)].flatMap (·.2.2.2) = List.replicate 9 false ++ l0 by simp] at ho10; obtain ⟨A10, c10, rfl, _⟩ := ho10.form; have hb10 := bthen hb9 (below_new hbk); have hl10 : (List.replicate 9 false ++ l0).length ≤ 140737488355328 := (by have := Hl0.out; simp; omega)
      refine hK.out _ _ hbk ?_
      clear hK K
      try simp only [Act.put, List.setIfInBounds_toArray, List.set_cons_zero, List.set_cons_succ]
      refine wpAnyB_one (i := 17) (o := { dst := some 52, op := Op.call { callee := Callee.value (Go.Operand.func 27), args := #[Go.Operand.tmp 51], argTypes := #[22] }, type := 3, pos := "crc.go:76", after := #[{ on := 16, ground := Ground.data }, { on := 16, ground := Ground.chain }, { on := 12, ground := Ground.guard }], guard := some (12, true) }) (by kernel_rfl) rfl (fun K hK => ?_)
      go_simp
      refine (Sum_any _ _ _ (List.replicate 9 false ++ l0) _ ho10.rd (by omega)).mono ?_; rintro e w11 ⟨rfl, rfl⟩; rw [crc_lead]; have hbk := Below.refl w10.heap.size w10
      refine hK.out _ _ hbk ?_
      clear hK K
      try simp only [Act.put, List.setIfInBounds_toArray, List.set_cons_zero, List.set_cons_succ]
      refine wpAnyB_one (i := 19) (o := { dst := some 54, op := Op.call { callee := Callee.value (Go.Operand.func 27), args := #[Go.Operand.tmp 53], argTypes := #[22] }, type := 3, pos := "crc.go:76", after := #[{ on := 18, ground := Ground.data }, { on := 17, ground := Ground.chain }, { on := 12, ground := Ground.guard }], guard := some (12, true) }) (by kernel_rfl) rfl (fun K hK => ?_)
      go_simp
      refine (Sum_any _ _ _ l0 _ (h0.below hb10) (by omega)).mono ?_; rintro e w11 ⟨rfl, rfl⟩; have hbk := Below.refl w10.heap.size w10
      refine hK.out _ _ hbk ?_
      clear hK K
      try simp only [Act.put, List.setIfInBounds_toArray, List.set_cons_zero, List.set_cons_succ]
      refine wpAnyB_take (i := 20) (oi := { dst := some 55, op := Op.binOp Go.BinOp.eql 3 (Go.Operand.tmp 52) (Go.Operand.tmp 54) 3, type := 4, pos := "crc.go:76", after := #[{ on := 17, ground := Ground.data }, { on := 19, ground := Ground.data }, { on := 12, ground := Ground.guard }], guard := some (12, true) }) (v := ?v13) rfl (by kernel_rfl) (by kernel_rfl) (by kernel_rfl) (fun _ _ _ h => h) (Or.inl ⟨by rfl, ?hy13⟩) ?rs13
      case hy13 => (intro W hW; go_simp; try with_reducible rfl)
      try simp only [Act.put, List.setIfInBounds_toArray, List.set_cons_zero, List.set_cons_succ]
      refine wpAnyB_take (i := 21) (oi := { dst := some 56, op := Op.pick (Go.Operand.tmp 47) (Go.Operand.tmp 55) (Go.Operand.const (Go.Value.bool false)), type := 4, pos := "crc.go:76", after := #[{ on := 12, ground := Ground.data }, { on := 20, ground := Ground.data }], guard := none }) (v := ?v14) rfl (by kernel_rfl) (by kernel_rfl) (by kernel_rfl) (fun _ _ _ h => h) (Or.inl ⟨by rfl, ?hy14⟩) ?rs14
      case hy14 => (intro W hW; go_simp; try with_reducible rfl)
      try simp only [Act.put, List.setIfInBounds_toArray, List.set_cons_zero, List.set_cons_succ]
      refine wpAnyB_take (i := 22) (oi := { dst := some 4, op := Op.assign (Go.Operand.tmp 56), type := 4, pos := "crc.go:76", after := #[{ on := 21, ground := Ground.data }, { on := 19, ground := Ground.chain }, { on := 0, ground := Ground.phase }, { on := 1, ground := Ground.phase }, { on := 2, ground := Ground.phase }, { on := 3, ground := Ground.phase }, { on := 4, ground := Ground.phase }, { on := 5, ground := Ground.phase }, { on := 6, ground := Ground.phase }, { on := 7, ground := Ground.phase }, { on := 8, ground := Ground.phase }, { on := 9, ground := Ground.phase }, { on := 10, ground := Ground.phase }, { on := 11, ground := Ground.phase }, { on := 12, ground := Ground.phase }, { on := 13, ground := Ground.phase }, { on := 14, ground := Ground.phase }, { on := 15, ground := Ground.phase }, { on := 16, ground := Ground.phase }, { on := 17, ground := Ground.phase }, { on := 18, ground := Ground.phase }, { on := 19, ground := Ground.phase }, { on := 20, ground := Ground.phase }, { on := 21, ground := Ground.phase }], guard := none }) (v := ?v15) rfl (by kernel_rfl) (by kernel_rfl) (by kernel_rfl) (fun _ _ _ h => h) (Or.inl ⟨by rfl, ?hy15⟩) ?rs15
      case hy15 => (intro W hW; go_simp; try with_reducible rfl)
      try simp only [Act.put, List.setIfInBounds_toArray, List.set_cons_zero, List.set_cons_succ]
      refine wpAnyB_done (by kernel_rfl) ?_
      go_wp2
      go_ret
      exact ⟨rfl, hb10⟩
set_option maxHeartbeats 4000000 in
theorem CrcMix_b (n m c0 c1 : Nat) (A0 A1 : Option Addr) (l0 l1 : List Bool) (w : World) (h0 : Rd w 1 A0 m (l0.map Value.bool)) (k0 : m ≤ c0) (b0 : c0 * 1 ≤ 140737488351232) (h1 : Rd w 1 A1 n (l1.map Value.bool)) (k1 : n ≤ c1) (b1 : c1 * 1 ≤ 140737488351232) (hge : n < m) (hnm : n ≤ m) :
    Calls Try.prog 12 #[.slice A0 m c0, .slice A1 n c1] w fun e w' => e = .returned (.bool true) ∧ Below w.heap.size w w' := by
  have hn0 : n ≤ m := by omega
  have hn1 : n ≤ n := by omega
  have Hl0 := Lib.hid h0.lenMap
  have Hl1 := Lib.hid h1.lenMap
  have hmk : ∀ W : World, (Instr.makeSlice 22 (.int .i64 n) (.int .i64 n)).run Try.prog W = .ok (.slice (some ⟨W.heap.size, 0, none⟩) n n) (W.alloc (.cells (madeCells #[.bool false] n) 4)) := fun W => run_make_row' 22 4 (.bool false) 1 Try.underlying22 elBool.info rfl .i64 .i64 n (by omega) (by omega) W
  obtain ⟨Z, hZ⟩ : ∃ Z, Z = mix (l1.take n) (l0.take n) := ⟨_, rfl⟩
  have HZ := Lib.hid (crc_mix l0 l1 n (by rw [Hl0.out]; exact hn0) (by rw [Hl1.out]; exact hn1))
  rw [← hZ] at HZ
  have Hzl : Hid (Z.length = n) := by show _ = _; rw [hZ, mix_length, List.length_take, Hl0.out]; omega
  have Hz : Hid (∀ (k : Nat) (x y : Bool), k < n → l0[k]? = some x → l1[k]? = some y → Z[k]? = some (x != y)) := by
    intro k x y hk hx hy
    rw [hZ]
    exact mix_get _ _ _ _ _ (by rw [List.getElem?_take_of_lt hk]; exact hx) (by rw [List.getElem?_take_of_lt hk]; exact hy)
  clear hZ
  have htk0 := h0.take (k := n) hn0
  have htk1 := h1.take (k := n) hn1
  rw [Nat.mul_one, ← List.map_take] at htk0 htk1
  go_enter Try.func12, Try.ntmps12
  go_wp2_with fail
  refine (alive3_any _).mono ?_
  rintro e wa ⟨rfl, hb⟩
  have hsz := hb.size
  have hom := Ow.make Value.bool false wa 4 (base := wa.heap.size) n (by unfold maxLen; omega) (Nat.le_refl _)
  have hbm := hb.alloc hsz (.cells (madeCells #[.bool false] n) 4)
  go_wp2
  go_loopw [19] (fun i wr => ∃ k : Nat, k ≤ n ∧ i = .int .i64 k ∧ Ow Value.bool wr wa.heap.size 4 (.slice (some ⟨wa.heap.size, 0, none⟩) n n) (Z.take k ++ List.replicate (n - k) false) ∧ Below w.heap.size w wr) (fun i _ => n - (intOf i).toNat)
  case atStart => exact ⟨0, Nat.zero_le _, rfl, by simpa using hom, hbm⟩
  case round =>
    clear hom hbm
    obtain ⟨k, hk, rfl, ho, hbl⟩ := hrel
    by_cases hlt : k < n
    · obtain ⟨ad, x, rfl, hx, hc⟩ := (h0.below hbl).atMap (k := k) (by omega)
      obtain ⟨ad', x', rfl, hx', hc'⟩ := (h1.below hbl).atMap (k := k) (by omega)
      obtain ⟨hat, hset⟩ := fill_step (d := false) Hzl.out (Hz.out k x x' hlt hx hx')
      have hcm := ho.cellAt hat
      have hf := ho.freeAt k
      have hod : Ow Value.bool wr.drew wa.heap.size 4 (.slice (some ⟨wa.heap.size, 0, none⟩) n n) (Z.take k ++ List.replicate (n - k) false) := ho
      have hp := hod.put k (x != x')
      rw [hset] at hp
      have hbp := hbl.drew.setCell (p := ⟨wa.heap.size, k, none⟩) hsz (.bool (x != x'))
      clear hat hset hx hx' hod
      go_wp2
      go_region
      all_goals
        go_wp2
        go_roundw
        case rel => exact ⟨k + 1, by omega, by go_num, hp, hbp⟩
        case measure => simp [intOf] <;> omega
    · obtain rfl : n = k := by omega
      rw [List.take_of_length_le (by rw [Hzl.out]; exact Nat.le_refl _), Nat.sub_self, List.replicate_zero, List.append_nil] at ho
      have hrZ := ho.rd
      have hbd := hbl.drew
      have hs0 := fun W => run_to elBool W A0 m c0 n (by omega)
      have hs1 := fun W => run_to elBool W A1 n c1 n (by omega)
      have hxo := i64_xor_nat (crcM (l0.take n)) (crcM (l1.take n)) (by have := crcM_lt (l0.take n); omega) (by have := crcM_lt (l1.take n); omega)
      rw [← HZ.out] at hxo
      have hm9 : ∀ W : World, (Instr.makeSlice 22 (.int .i64 9) (.int .i64 9)).run Try.prog W = .ok (.slice (some ⟨W.heap.size, 0, none⟩) 9 9) (W.alloc (.cells ((List.replicate 9 false).map Value.bool).toArray 4)) := fun _ => by kernel_rfl
      clear hmk ho
      go_wp2_with fail
      refine wp_region_B (by kernel_rfl) ?_
      refine wpAnyB_take (i := 0) (oi := { dst := some 35, op := Op.move (Go.Operand.tmp 6), type := 22, pos := "crc.go:76", after := #[], guard := none }) (v := ?v16) rfl (by kernel_rfl) (by kernel_rfl) (by kernel_rfl) (fun _ _ _ h => h) (Or.inl ⟨by rfl, ?hy16⟩) ?rs16
      case hy16 => (intro W hW; go_simp; try with_reducible rfl)
      try simp only [Act.put, List.setIfInBounds_toArray, List.set_cons_zero, List.set_cons_succ]
      refine wpAnyB_take (i := 2) (oi := { dst := some 37, op := Op.move (Go.Operand.tmp 0), type := 22, pos := "crc.go:76", after := #[], guard := none }) (v := ?v17) rfl (by kernel_rfl) (by kernel_rfl) (by kernel_rfl) (fun _ _ _ h => h) (Or.inl ⟨by rfl, ?hy17⟩) ?rs17
      case hy17 => (intro W hW; go_simp; try with_reducible rfl)
      try simp only [Act.put, List.setIfInBounds_toArray, List.set_cons_zero, List.set_cons_succ]
      refine wpAnyB_take (i := 3) (oi := { dst := some 38, op := Op.move (Go.Operand.tmp 5), type := 3, pos := "crc.go:76", after := #[], guard := none }) (v := ?v18) rfl (by kernel_rfl) (by kernel_rfl) (by kernel_rfl) (fun _ _ _ h => h) (Or.inl ⟨by rfl, ?hy18⟩) ?rs18
      case hy18 => (intro W hW; go_simp; try with_reducible rfl)
      try simp only [Act.put, List.setIfInBounds_toArray, List.set_cons_zero, List.set_cons_succ]
      refine wpAnyB_take (i := 4) (oi := { dst := some 39, op := Op.slice 22 (Go.Operand.tmp 37) none (some (Go.Operand.tmp 38)) none, type := 22, pos := "crc.go:76", after := #[{ on := 2, ground := Ground.data }, { on := 3, ground := Ground.data }], guard := none }) (v := ?v19) rfl (by kernel_rfl) (by kernel_rfl) (by kernel_rfl) (fun _ _ _ h => h) (Or.inl ⟨by rfl, ?hy19⟩) ?rs19
      case hy19 => (intro W hW; go_simp; try with_reducible rfl)
      try simp only [Act.put, List.setIfInBounds_toArray, List.set_cons_zero, List.set_cons_succ]
      refine wpAnyB_take (i := 6) (oi := { dst := some 41, op := Op.move (Go.Operand.tmp 1), type := 22, pos := "crc.go:76", after := #[], guard := none }) (v := ?v20) rfl (by kernel_rfl) (by kernel_rfl) (by kernel_rfl) (fun _ _ _ h => h) (Or.inl ⟨by rfl, ?hy20⟩) ?rs20
      case hy20 => (intro W hW; go_simp; try with_reducible rfl)
      try simp only [Act.put, List.setIfInBounds_toArray, List.set_cons_zero, List.set_cons_succ]
      refine wpAnyB_take (i := 7) (oi := { dst := some 42, op := Op.move (Go.Operand.tmp 5), type := 3, pos := "crc.go:76", after := #[], guard := none }) (v := ?v21) rfl (by kernel_rfl) (by kernel_rfl) (by kernel_rfl) (fun _ _ _ h => h) (Or.inl ⟨by rfl, ?hy21⟩) ?rs21
      case hy21 => (intro W hW; go_simp; try with_reducible rfl)
      try simp only [Act.put, List.setIfInBounds_toArray, List.set_cons_zero, List.set_cons_succ]
      refine wpAnyB_take (i := 8) (oi := { dst := some 43, op := Op.slice 22 (Go.Operand.tmp 41) none (some (Go.Operand.tmp 42)) none, type := 22, pos := "crc.go:76", after := #[{ on := 6, ground := Ground.data }, { on := 7, ground := Ground.data }], guard := none }) (v := ?v22) rfl (by kernel_rfl) (by kernel_rfl) (by kernel_rfl) (fun _ _ _ h => h) (Or.inl ⟨by rfl, ?hy22⟩) ?rs22
      case hy22 => (intro W hW; go_simp; try with_reducible rfl)
      try simp only [Act.put, List.setIfInBounds_toArray, List.set_cons_zero, List.set_cons_succ]
      refine wpAnyB_one (i := 1) (o := { dst := some 36, op := Op.call { callee := Callee.value (Go.Operand.func 27), args := #[Go.Operand.tmp 35], argTypes := #[22] }, type := 3, pos := "crc.go:76", after := #[{ on := 0, ground := Ground.data }], guard := none }) (by kernel_rfl) rfl (fun K hK => ?_)
      go_simp
      refine (Sum_any _ _ _ Z _ hrZ.drew (by omega)).mono ?_; rintro e w4 ⟨rfl, rfl⟩; have hbk := Below.refl wr.drew.heap.size wr.drew
      refine hK.out _ _ hbk ?_
      clear hK K
      try simp only [Act.put, List.setIfInBounds_toArray, List.set_cons_zero, List.set_cons_succ]
      refine wpAnyB_one (i := 5) (o := { dst := some 40, op := Op.call { callee := Callee.value (Go.Operand.func 27), args := #[Go.Operand.tmp 39], argTypes := #[22] }, type := 3, pos := "crc.go:76", after := #[{ on := 4, ground := Ground.data }, { on := 1, ground := Ground.chain }], guard := none }) (by kernel_rfl) rfl (fun K hK => ?_)
      go_simp
      refine (Sum_any _ _ _ (l0.take n) _ (htk0.below hbd) (by omega)).mono ?_; rintro e w4 ⟨rfl, rfl⟩; have hbk := Below.refl wr.drew.heap.size wr.drew
      refine hK.out _ _ hbk ?_
      clear hK K
      try simp only [Act.put, List.setIfInBounds_toArray, List.set_cons_zero, List.set_cons_succ]
      refine wpAnyB_one (i := 9) (o := { dst := some 44, op := Op.call { callee := Callee.value (Go.Operand.func 27), args := #[Go.Operand.tmp 43], argTypes := #[22] }, type := 3, pos := "crc.go:76", after := #[{ on := 8, ground := Ground.data }, { on := 5, ground := Ground.chain }], guard := none }) (by kernel_rfl) rfl (fun K hK => ?_)
      go_simp
      refine (Sum_any _ _ _ (l1.take n) _ (htk1.below hbd) (by omega)).mono ?_; rintro e w4 ⟨rfl, rfl⟩; have hbk := Below.refl wr.drew.heap.size wr.drew
      refine hK.out _ _ hbk ?_
      clear hK K
      try simp only [Act.put, List.setIfInBounds_toArray, List.set_cons_zero, List.set_cons_succ]
      refine wpAnyB_take (i := 10) (oi := { dst := some 45, op := Op.binOp Go.BinOp.xor 3 (Go.Operand.tmp 40) (Go.Operand.tmp 44) 3, type := 3, pos := "crc.go:76", after := #[{ on := 5, ground := Ground.data }, { on := 9, ground := Ground.data }], guard := none }) (v := ?v23) rfl (by kernel_rfl) (by kernel_rfl) (by kernel_rfl) (fun _ _ _ h => h) (Or.inl ⟨by rfl, ?hy23⟩) ?rs23
      case hy23 => (intro W hW; go_simp; try with_reducible rfl)
      try simp only [Act.put, List.setIfInBounds_toArray, List.set_cons_zero, List.set_cons_succ]
      refine wpAnyB_take (i := 11) (oi := { dst := some 46, op := Op.binOp Go.BinOp.eql 3 (Go.Operand.tmp 36) (Go.Operand.tmp 45) 3, type := 4, pos := "crc.go:76", after := #[{ on := 1, ground := Ground.data }, { on := 10, ground := Ground.data }], guard := none }) (v := ?v24) rfl (by kernel_rfl) (by kernel_rfl) (by kernel_rfl) (fun _ _ _ h => h) (Or.inl ⟨by rfl, ?hy24⟩) ?rs24
      case hy24 => (intro W hW; go_simp; try with_reducible rfl)
      try simp only [Act.put, List.setIfInBounds_toArray, List.set_cons_zero, List.set_cons_succ]
      refine wpAnyB_take (i := 12) (oi := { dst := some 47, op := Op.move (Go.Operand.tmp 46), type := 4, pos := "crc.go:76", after := #[{ on := 11, ground := Ground.data }, { on := 9, ground := Ground.chain }], guard := none }) (v := ?v25) rfl (by kernel_rfl) (by kernel_rfl) (by kernel_rfl) (fun _ _ _ h => h) (Or.inl ⟨by rfl, ?hy25⟩) ?rs25
      case hy25 => (intro W hW; go_simp; try with_reducible rfl)
      try simp only [Act.put, List.setIfInBounds_toArray, List.set_cons_zero, List.set_cons_succ]
      refine wpAnyB_take (i := 14) (oi := { dst := some 49, op := Op.move (Go.Operand.tmp 0), type := 22, pos := "crc.go:76", after := #[{ on := 12, ground := Ground.guard }], guard := some (12, true) }) (v := ?v26) rfl (by kernel_rfl) (by kernel_rfl) (by kernel_rfl) (fun _ _ _ h => h) (Or.inl ⟨by rfl, ?hy26⟩) ?rs26
      case hy26 => (intro W hW; go_simp; try with_reducible rfl)
      try simp only [Act.put, List.setIfInBounds_toArray, List.set_cons_zero, List.set_cons_succ]
      refine wpAnyB_take (i := 18) (oi := { dst := some 53, op := Op.move (Go.Operand.tmp 0), type := 22, pos := "crc.go:76", after := #[{ on := 12, ground := Ground.guard }], guard := some (12, true) }) (v := ?v27) rfl (by kernel_rfl) (by kernel_rfl) (by kernel_rfl) (fun _ _ _ h => h) (Or.inl ⟨by rfl, ?hy27⟩) ?rs27
      case hy27 => (intro W hW; go_simp; try with_reducible rfl)
      try simp only [Act.put, List.setIfInBounds_toArray, List.set_cons_zero, List.set_cons_succ]
      refine wpAnyB_one (i := 13) (o := { dst := some 48, op := Op.makeSlice 22 (Go.Operand.const (Go.Value.int Go.IntKind.i64 9)) (Go.Operand.const (Go.Value.int Go.IntKind.i64 9)), type := 22, pos := "crc.go:76", after := #[{ on := 12, ground := Ground.guard }], guard := some (12, true) }) (by kernel_rfl) rfl (fun K hK => ?_)
      go_simp
      have hbk : Below wr.drew.heap.size wr.drew (wr.alloc (.cells #[.bool false, .bool false, .bool false, .bool false, .bool false, .bool false, .bool false, .bool false, .bool false] 4)).drew := (Below.refl _ wr.drew).alloc (Nat.le_refl _) _; have hr9 : Rd (wr.alloc (.cells #[.bool false, .bool false, .bool false, .bool false, .bool false, .bool false, .bool false, .bool false, .bool false] 4)).drew 1 (some ⟨wr.heap.size, 0, none⟩) 9 ((List.replicate 9 false).map Value.bool) := Rd.litAt Value.bool (List.replicate 9 false) 4 rfl; have hb9 := bthen hbd hbk; generalize (wr.alloc (.cells #[.bool false, .bool false, .bool false, .bool false, .bool false, .bool false, .bool false, .bool false, .bool false] 4)).drew = w9 at *
      refine hK.out _ _ hbk ?_
      clear hK K
      try simp only [Act.put, List.setIfInBounds_toArray, List.set_cons_zero, List.set_cons_succ]
      refine wpAnyB_one (i := 15) (o := { dst := some 50, op := Op.buildSlice 42 2 #[(0, Go.Operand.tmp 48), (1, Go.Operand.tmp 49)], type := 42, pos := "crc.go:76", after := #[{ on := 13, ground := Ground.data }, { on := 14, ground := Ground.data }, { on := 12, ground := Ground.guard }], guard := some (12, true) }) (by kernel_rfl) rfl (fun K hK => ?_)
      go_simp
      have hbk : Below w9.heap.size w9 (w9.alloc (.cells #[.slice (some ⟨wr.heap.size, 0, none⟩) 9 9, .slice A0 m c0] 22)) := (Below.refl _ w9).alloc (Nat.le_refl _) _
      refine hK.out _ _ hbk ?_
      clear hK K
      try simp only [Act.put, List.setIfInBounds_toArray, List.set_cons_zero, List.set_cons_succ]
      refine wpAnyB_one (i := 16) (o := { dst := some 51, op := Op.call { callee := Callee.value (Go.Operand.func 29), args := #[Go.Operand.tmp 50], argTypes := #[42] }, type := 22, pos := "crc.go:76", after := #[{ on := 15, ground := Ground.data }, { on := 12, ground := Ground.chain }, { on := 12, ground := Ground.guard }], guard := some (12, true) }) (by kernel_rfl) rfl (fun K hK => ?_)
      go_simp
      refine (ConcatB_any _ 2 2 [(some ⟨wr.heap.size, 0, none⟩, 9, 9, List.replicate 9 false), (A0, m, c0, l0)] _ (Rd.litAt ConcatB_any_val _ _ rfl) (by intro p hp; simp only [List.mem_cons, List.not_mem_nil, or_false] at hp; rcases hp with rfl | rfl; exact hr9.alloc _; exact (h0.below hb9).alloc _) (by decide) (by have := Hl0.out; simp; omega)).mono ?_; rintro e w10 ⟨v10, rfl, ho10, hbk⟩; rw [show [(some (⟨wr.heap.size, 0, none⟩ : Addr), 9, 9, List.replicate 9 false), (A0, m, c0, l0)].flatMap (·.2.2.2) = List.replicate 9 false ++ l0 by simp] at ho10; obtain ⟨A10, c10, rfl, _⟩ := ho10.form; have hb10 := bthen hb9 (below_new hbk); have hl10 : (List.replicate 9 false ++ l0).length ≤ 140737488355328 := (by have := Hl0.out; simp; omega)
      refine hK.out _ _ hbk ?_
      clear hK K
      try simp only [Act.put, List.setIfInBounds_toArray, List.set_cons_zero, List.set_cons_succ]
      refine wpAnyB_one (i := 17) (o := { dst := some 52, op := Op.call { callee := Callee.value (Go.Operand.func 27), args := #[Go.Operand.tmp 51], argTypes := #[22] }, type := 3, pos := "crc.go:76", after := #[{ on := 16, ground := Ground.data }, { on := 16, ground := Ground.chain }, { on := 12, ground := Ground.guard }], guard := some (12, true) }) (by kernel_rfl) rfl (fun K hK => ?_)
      go_simp
      refine (Sum_any _ _ _ (List.replicate 9 false ++ l0) _ ho10.rd (by omega)).mono ?_; rintro e w11 ⟨rfl, rfl⟩; rw [crc_lead]; have hbk := Below.refl w10.heap.size w10
      refine hK.out _ _ hbk ?_
      clear hK K
      try simp only [Act.put, List.setIfInBounds_toArray, List.set_cons_zero, List.set_cons_succ]
      refine wpAnyB_one (i := 19) (o := { dst := some 54, op := Op.call { callee := Callee.value (Go.Operand.func 27), args := #[Go.Operand.tmp 53], argTypes := #[22] }, type := 3, pos := "crc.go:76", after := #[{ on := 18, ground := Ground.data }, { on := 17, ground := Ground.chain }, { on := 12, ground := Ground.guard }], guard := some (12, true) }) (by kernel_rfl) rfl (fun K hK => ?_)
      go_simp
      refine (Sum_any _ _ _ l0 _ (h0.below hb10) (by omega)).mono ?_; rintro e w11 ⟨rfl, rfl⟩; have hbk := Below.refl w10.heap.size w10
      refine hK.out _ _ hbk ?_
      clear hK K
      try simp only [Act.put, List.setIfInBounds_toArray, List.set_cons_zero, List.set_cons_succ]
      refine wpAnyB_take (i := 20) (oi := { dst := some 55, op := Op.binOp Go.BinOp.eql 3 (Go.Operand.tmp 52) (Go.Operand.tmp 54) 3, type := 4, pos := "crc.go:76", after := #[{ on := 17, ground := Ground.data }, { on := 19, ground := Ground.data }, { on := 12, ground := Ground.guard }], guard := some (12, true) }) (v := ?v28) rfl (by kernel_rfl) (by kernel_rfl) (by kernel_rfl) (fun _ _ _ h => h) (Or.inl ⟨by rfl, ?hy28⟩) ?rs28
      case hy28 => (intro W hW; go_simp; try with_reducible rfl)
      try simp only [Act.put, List.setIfInBounds_toArray, List.set_cons_zero, List.set_cons_succ]
      refine wpAnyB_take (i := 21) (oi := { dst := some 56, op := Op.pick (Go.Operand.tmp 47) (Go.Operand.tmp 55) (Go.Operand.const (Go.Value.bool false)), type := 4, pos := "crc.go:76", after := #[{ on := 12, ground := Ground.data }, { on := 20, ground := Ground.data }], guard := none }) (v := ?v29) rfl (by kernel_rfl) (by kernel_rfl) (by kernel_rfl) (fun _ _ _ h => h) (Or.inl ⟨by rfl, ?hy29⟩) ?rs29
      case hy29 => (intro W hW; go_simp; try with_reducible rfl)
      try simp only [Act.put, List.setIfInBounds_toArray, List.set_cons_zero, List.set_cons_succ]
      refine wpAnyB_take (i := 22) (oi := { dst := some 4, op := Op.assign (Go.Operand.tmp 56), type := 4, pos := "crc.go:76", after := #[{ on := 21, ground := Ground.data }, { on := 19, ground := Ground.chain }, { on := 0, ground := Ground.phase }, { on := 1, ground := Ground.phase }, { on := 2, ground := Ground.phase }, { on := 3, ground := Ground.phase }, { on := 4, ground := Ground.phase }, { on := 5, ground := Ground.phase }, { on := 6, ground := Ground.phase }, { on := 7, ground := Ground.phase }, { on := 8, ground := Ground.phase }, { on := 9, ground := Ground.phase }, { on := 10, ground := Ground.phase }, { on := 11, ground := Ground.phase }, { on := 12, ground := Ground.phase }, { on := 13, ground := Ground.phase }, { on := 14, ground := Ground.phase }, { on := 15, ground := Ground.phase }, { on := 16, ground := Ground.phase }, { on := 17, ground := Ground.phase }, { on := 18, ground := Ground.phase }, { on := 19, ground := Ground.phase }, { on := 20, ground := Ground.phase }, { on := 21, ground := Ground.phase }], guard := none }) (v := ?v30) rfl (by kernel_rfl) (by kernel_rfl) (by kernel_rfl) (fun _ _ _ h => h) (Or.inl ⟨by rfl, ?hy30⟩) ?rs30
      case hy30 => (intro W hW; go_simp; try with_reducible rfl)
      try simp only [Act.put, List.setIfInBounds_toArray, List.set_cons_zero, List.set_cons_succ]
      refine wpAnyB_done (by kernel_rfl) ?_
      go_wp2
      go_ret
      exact ⟨rfl, hb10⟩
theorem CrcMix_walk (A0 : Option Addr) (n0 c0 : Nat) (l0 : List Bool) (A1 : Option Addr) (n1 c1 : Nat) (l1 : List Bool) (w : World) (h0 : Rd w 1 A0 n0 (l0.map Value.bool)) (k0 : n0 ≤ c0) (b0 : c0 * 1 ≤ 140737488351232) (h1 : Rd w 1 A1 n1 (l1.map Value.bool)) (k1 : n1 ≤ c1) (b1 : c1 * 1 ≤ 140737488351232) :
    Calls Try.prog 12 #[.slice A0 n0 c0, .slice A1 n1 c1] w fun e w' => e = .returned (.bool true) ∧ Below w.heap.size w w' := by
  by_cases h : n1 < n0
  · exact CrcMix_b n1 n0 c0 c1 A0 A1 l0 l1 w h0 k0 b0 h1 k1 b1 h (by omega)
  · exact CrcMix_a n0 n1 c0 c1 A0 A1 l0 l1 w h0 k0 b0 h1 k1 b1 h (by omega)
end Go.Proofs.Ytllloipjaeljlaa
