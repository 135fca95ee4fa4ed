/-
  Contracts of frame's functions parse and Read.
-/
import Derived.Test.YtepogmnodmoebaaFrameWalks
namespace Go.Proofs.Ytepogmnodmoebaa
open Go.RowKit
set_option linter.unusedVariables false
set_option linter.unusedSimpArgs false

/-- What parse and Read promise: the frame and the error of the model r. -/
def GivesFrame (w : World) (r : (Int × List Int) × Int) (e : Ending) (w' : World) : Prop :=
  ∃ A c, e = .returned (.tuple #[frameV r.1.1 A r.1.2.length c, .int .i64 r.2]) ∧ Ow (Value.int .u8) w' w.heap.size 5 (.slice A r.1.2.length c) r.1.2 ∧ Below w.heap.size w w'

set_option maxHeartbeats 400000 in
theorem parse_short (A : Option Addr) (n c : Nat) (w : World) (hn : n < 19) :
    Calls Try.prog 30 #[.slice A n c] w (GivesFrame w ((0, []), 8)) := by
  go_enter Try.func30, Try.ntmps30
  go_wp2
  exact bodyPost_ret (v := .tuple #[frameV 0 none 0 0, .int .i64 8]) (by simp [results, Try.results30, go_sem]) rfl ⟨none, 0, rfl, Ow.nil _ _ _ _, (Below.refl _ _).alloc (Nat.le_refl _) _⟩

set_option maxHeartbeats 1000000 in
theorem parse_row_any (s x y z : Bool) (i cb d : List Bool) (hi : i.length = 11) (hcb : cb.length = 4) (A : Option Addr) (m c : Nat) (w : World) (h : Rd w 1 A (19 + m) ((rowOf s i x y z cb d).map Value.bool)) (hm : d.length = m) (hnc : 19 + m ≤ c) (hc : c ≤ 9223372036854775807) (hn : m ≤ 140737488351232) (R : (Int × List Int) × Int)
    (HR : Hid (R = if s = true ∨ x = true ∨ y = true ∨ z = true ∨ 8 < num cb then ((0, []), 1) else if (m : Int) < 8 * num cb then ((0, []), 8) else if 8 * num cb < (m : Int) then ((0, []), 1) else ((num i, bytesOf d), 0))) :
    Calls Try.prog 30 #[.slice A (19 + m) c] w (GivesFrame w R) := by
  have hT := h.take (k := 19) (by omega)
  rw [Nat.mul_one, ← List.map_take, rowOf_header hi hcb] at hT
  have hD := h.cut (k := 19) (cap := c) (by omega) hnc
  rw [Nat.mul_one, ← List.map_drop, rowOf_19 hi hcb, Nat.add_sub_cancel_left] at hD
  have hup := unpack_row (s := s) (x := x) (y := y) (z := z) hi hcb
  have Hup := Lib.hid hup
  have H3 := Lib.hid (num3 x y z)
  have hk0 := num_nonneg cb
  have hk1 := num_lt cb
  rw [hcb] at hk1
  simp only [Int.reducePow] at hk1
  have hsl : ∀ W, (Instr.slice 25 (.slice A (19 + m) c) none (some (.int .i64 19)) none).run Try.prog W = .ok (.slice A 19 c) W := fun W => run_to elBool W A (19 + m) c 19 (by omega)
  have hsr : ∀ W, (Instr.slice 25 (.slice A (19 + m) c) (some (.int .i64 19)) none none).run Try.prog W = .ok (.slice (if c = 19 then A else A.map (·.add 19)) m (c - 19)) W := fun W => by
    have := run_from elBool W A (19 + m) c 19 (by omega)
    rw [Nat.mul_one, Nat.add_sub_cancel_left] at this
    exact this
  generalize (if c = 19 then A else A.map (·.add 19)) = AD at hD hsr
  have hlen : ¬ (((19 + m : Nat) : Int) < 19) := by omega
  clear h hup
  go_enter Try.func30, Try.ntmps30
  go_wp2_with fail
  refine wp_region_B (by kernel_rfl) ?_
  refine wpAnyB_take (i := 1) (oi := { dst := some 17, op := Op.move (Go.Operand.tmp 0), type := 25, pos := "frame.go:65", after := #[], guard := none }) (v := ?v1) rfl (by kernel_rfl) (by kernel_rfl) (by kernel_rfl) (fun _ _ _ h => h) (Or.inl ⟨by rfl, ?hy1⟩) ?rs1
  case hy1 => (intro W hW; go_simp; try with_reducible rfl)
  try simp only [Act.put, List.setIfInBounds_toArray, List.set_cons_zero, List.set_cons_succ]
  refine wpAnyB_take (i := 2) (oi := { dst := some 18, op := Op.slice 25 (Go.Operand.tmp 17) none (some (Go.Operand.const (Go.Value.int Go.IntKind.i64 19))) none, type := 25, pos := "frame.go:65", after := #[{ on := 1, ground := Ground.data }], guard := none }) (v := ?v2) rfl (by kernel_rfl) (by kernel_rfl) (by kernel_rfl) (fun _ _ _ h => h) (Or.inl ⟨by rfl, ?hy2⟩) ?rs2
  case hy2 => (intro W hW; have hsl' := hsl W; go_simp; try with_reducible rfl)
  try simp only [Act.put, List.setIfInBounds_toArray, List.set_cons_zero, List.set_cons_succ]
  refine wpAnyB_one (i := 0) (o := { dst := some 16, op := Op.call { callee := Callee.value (Go.Operand.func 22), args := #[], argTypes := #[] }, type := 42, pos := "frame.go:65", after := #[], guard := none }) (by kernel_rfl) rfl (fun K hK => ?_)
  go_simp
  refine (headerWidths_any _).mono ?_; rintro e w2 ⟨rfl, rfl⟩
  refine hK.out _ _ ((Below.refl _ _).alloc (Nat.le_refl _) _) ?_
  clear hK K
  try simp only [Act.put, List.setIfInBounds_toArray, List.set_cons_zero, List.set_cons_succ]
  refine wpAnyB_one (i := 3) (o := { dst := some 19, op := Op.call { callee := Callee.value (Go.Operand.func 41), args := #[Go.Operand.tmp 16, Go.Operand.tmp 18], argTypes := #[42, 25] }, type := 51, pos := "frame.go:65", after := #[{ on := 0, ground := Ground.data }, { on := 2, ground := Ground.data }, { on := 0, ground := Ground.chain }], guard := none }) (by kernel_rfl) rfl (fun K hK => ?_)
  go_simp
  refine (Unpack_any _ _ 4 4 19 c [1, 11, 3, 4] (rowOf s i x y z cb []) _ ?_ ((hT.alloc _).alloc _).drew (by omega) (by decide) hc).mono ?_; exact Rd.litAt _ _ _ (by simp); rw [Hup.out]; rintro e w3 ⟨v3, rfl, ho3, hbk⟩; have hb3 := below_new (bthen (Below.refl _ _).drew hbk)
  refine hK.out _ _ hbk ?_
  clear hK K
  try simp only [Act.put, List.setIfInBounds_toArray, List.set_cons_zero, List.set_cons_succ]
  refine wpAnyB_take (i := 4) (oi := { dst := some 15, op := Op.move (Go.Operand.tmp 19), type := 51, pos := "frame.go:65", after := #[{ on := 3, ground := Ground.data }], guard := none }) (v := ?v3) rfl (by kernel_rfl) (by kernel_rfl) (by kernel_rfl) (fun _ _ _ h => h) (Or.inl ⟨by rfl, ?hy3⟩) ?rs3
  case hy3 => (intro W hW; go_simp; try with_reducible rfl)
  try simp only [Act.put, List.setIfInBounds_toArray, List.set_cons_zero, List.set_cons_succ]
  refine wpAnyB_take (i := 5) (oi := { dst := some 20, op := Op.extract (Go.Operand.tmp 15) 0, type := 42, pos := "frame.go:65", after := #[{ on := 4, ground := Ground.data }], guard := none }) (v := ?v4) rfl (by kernel_rfl) (by kernel_rfl) (by kernel_rfl) (fun _ _ _ h => h) (Or.inl ⟨by rfl, ?hy4⟩) ?rs4
  case hy4 => (intro W hW; go_simp; try with_reducible rfl)
  try simp only [Act.put, List.setIfInBounds_toArray, List.set_cons_zero, List.set_cons_succ]
  refine wpAnyB_take (i := 6) (oi := { dst := some 21, op := Op.extract (Go.Operand.tmp 15) 1, type := 26, pos := "frame.go:65", after := #[{ on := 4, ground := Ground.data }, { on := 7, ground := Ground.gcOnly Go.Departure.lateStores }], guard := none }) (v := ?v5) rfl (by kernel_rfl) (by kernel_rfl) (by kernel_rfl) (fun _ _ _ h => h) (Or.inl ⟨by rfl, ?hy5⟩) ?rs5
  case hy5 => (intro W hW; go_simp; try with_reducible rfl)
  try simp only [Act.put, List.setIfInBounds_toArray, List.set_cons_zero, List.set_cons_succ]
  refine wpAnyB_take (i := 7) (oi := { dst := some 4, op := Op.assign (Go.Operand.tmp 20), type := 42, pos := "frame.go:65", after := #[{ on := 5, ground := Ground.data }, { on := 3, ground := Ground.chain }, { on := 0, ground := Ground.phase }, { on := 1, ground := Ground.phase }, { on := 2, ground := Ground.phase }, { on := 3, ground := Ground.phase }, { on := 4, ground := Ground.phase }, { on := 5, ground := Ground.phase }, { on := 6, ground := Ground.textOnly Go.Departure.lateStores }], guard := none }) (v := ?v6) rfl (by kernel_rfl) (by kernel_rfl) (by kernel_rfl) (fun _ _ _ h => h) (Or.inl ⟨by rfl, ?hy6⟩) ?rs6
  case hy6 => (intro W hW; go_simp; try with_reducible rfl)
  try simp only [Act.put, List.setIfInBounds_toArray, List.set_cons_zero, List.set_cons_succ]
  refine wpAnyB_take (i := 8) (oi := { dst := some 5, op := Op.assign (Go.Operand.tmp 21), type := 26, pos := "frame.go:65", after := #[{ on := 6, ground := Ground.data }, { on := 7, ground := Ground.chain }, { on := 0, ground := Ground.phase }, { on := 1, ground := Ground.phase }, { on := 2, ground := Ground.phase }, { on := 3, ground := Ground.phase }, { on := 4, ground := Ground.phase }, { on := 5, ground := Ground.phase }, { on := 6, ground := Ground.phase }, { on := 7, ground := Ground.phase }], guard := none }) (v := ?v7) rfl (by kernel_rfl) (by kernel_rfl) (by kernel_rfl) (fun _ _ _ h => h) (Or.inl ⟨by rfl, ?hy7⟩) ?rs7
  case hy7 => (intro W hW; go_simp; try with_reducible rfl)
  try simp only [Act.put, List.setIfInBounds_toArray, List.set_cons_zero, List.set_cons_succ]
  refine wpAnyB_done (by kernel_rfl) ?_
  have hbx : Box w3 w.heap.size 24 [.int .i64 0, .slice none 0 0] := (Box.new w _ _).below hb3 (by simp)
  obtain ⟨g3, c3, hv, _⟩ := ho3.head (by simp)
  simp only [List.length_cons, List.length_nil, Nat.zero_add] at hv
  subst hv
  simp only at ho3
  have x0 := ho3.cellAt (k := 0) rfl
  have x1 := ho3.cellAt (k := 1) rfl
  have x2 := ho3.cellAt (k := 2) rfl
  have x3 := ho3.cellAt (k := 3) rfl
  clear hbk ho3 hT hsl
  replace hb3 := below_new hb3
  generalize num [x, y, z] = r at *
  generalize num cb = k at *
  have e0 : num [s] = if s then 1 else 0 := num1 s
  generalize num [s] = t at *
  have E0 := Lib.hid e0; clear e0
  go_wp2_with fail
  go_quiet (fail)
  have hb4 : Below w.heap.size w (w3.drewN nq) := bthen hb3 (below_draws ⟨_, rfl⟩)
  have hbx4 : Box (w3.drewN nq) w.heap.size 24 [.int .i64 0, .slice none 0 0] := hbx
  generalize w3.drewN nq = w4 at *
  clear hb3 hbx x0 x1 x2 x3 Hup
  have c0 := Box.cell hbx4 0 rfl
  have c1 := Box.cell hbx4 1 rfl
  have f0 := Box.free hbx4 0
  have f1 := Box.free hbx4 1
  by_cases hs : s = true
  · have ht : (t != 0) = true := by rw [E0.out, if_pos hs]; rfl
    have Hs := Lib.hid hs; clear hs
    go_wp2
    have e : R = ((0, []), 1) := by rw [HR.out, if_pos (.inl Hs.out)]
    subst e
    exact bodyPost_ret (v := .tuple #[frameV 0 none 0 0, .int .i64 1]) (by have d0 := Box.cell (Box.pair hbx4 (.int .i64 0) (.slice none 0 0)) 0 rfl; have d1 := Box.cell (Box.pair hbx4 (.int .i64 0) (.slice none 0 0)) 1 rfl; simp [results, Try.results30, go_sem, d0, d1]) rfl ⟨none, 0, rfl, Ow.nil _ _ _ _, (hb4.setCell (p := ⟨w.heap.size, 0, none⟩) (Nat.le_refl _) _).setCell (p := ⟨w.heap.size, 1, none⟩) (Nat.le_refl _) _⟩
  have ht : (t != 0) = false := by rw [E0.out, if_neg hs]; rfl
  have Hs := Lib.hid hs; clear hs
  by_cases hr : r ≠ 0
  · have hr' : (r != 0) = true := by simpa using hr
    have e : R = ((0, []), 1) := by rw [HR.out, if_pos (.inr (by rcases H3.out.1 hr with h | h | h <;> simp [h]))]
    subst e
    clear HR hr
    go_wp2
    exact bodyPost_ret (v := .tuple #[frameV 0 none 0 0, .int .i64 1]) (by have d0 := Box.cell (Box.pair hbx4 (.int .i64 0) (.slice none 0 0)) 0 rfl; have d1 := Box.cell (Box.pair hbx4 (.int .i64 0) (.slice none 0 0)) 1 rfl; simp [results, Try.results30, go_sem, d0, d1]) rfl ⟨none, 0, rfl, Ow.nil _ _ _ _, (hb4.setCell (p := ⟨w.heap.size, 0, none⟩) (Nat.le_refl _) _).setCell (p := ⟨w.heap.size, 1, none⟩) (Nat.le_refl _) _⟩
  have hr' : (r != 0) = false := by simpa using hr
  have Hr := Lib.hid hr; clear hr
  by_cases hk8 : 8 < k
  · have e : R = ((0, []), 1) := by rw [HR.out, if_pos (.inr (.inr (.inr (.inr hk8))))]
    subst e
    clear HR
    go_wp2
    exact bodyPost_ret (v := .tuple #[frameV 0 none 0 0, .int .i64 1]) (by have d0 := Box.cell (Box.pair hbx4 (.int .i64 0) (.slice none 0 0)) 0 rfl; have d1 := Box.cell (Box.pair hbx4 (.int .i64 0) (.slice none 0 0)) 1 rfl; simp [results, Try.results30, go_sem, d0, d1]) rfl ⟨none, 0, rfl, Ow.nil _ _ _ _, (hb4.setCell (p := ⟨w.heap.size, 0, none⟩) (Nat.le_refl _) _).setCell (p := ⟨w.heap.size, 1, none⟩) (Nat.le_refl _) _⟩
  have hn8 : decide (8 < k) = false := by simpa using hk8
  have hnot : ¬ (s = true ∨ x = true ∨ y = true ∨ z = true ∨ 8 < k) := by
    rintro (h | h | h | h | h)
    · exact Hs.out h
    · exact Hr.out (H3.out.2 (.inl h))
    · exact Hr.out (H3.out.2 (.inr (.inl h)))
    · exact Hr.out (H3.out.2 (.inr (.inr h)))
    · exact hk8 h
  have HR2 := HR.out
  rw [if_neg hnot] at HR2
  clear HR H3 hnot
  have hmul : IntKind.i64.wrap (k * 8) = k * 8 := IntWalk.i64_in _ (by omega)
  by_cases h1 : (m : Int) < k * 8
  · have e : R = ((0, []), 8) := by rw [HR2, if_pos (by omega)]
    subst e
    clear HR2
    go_wp2
    exact bodyPost_ret (v := .tuple #[frameV 0 none 0 0, .int .i64 8]) (by have d0 := Box.cell (Box.pair hbx4 (.int .i64 0) (.slice none 0 0)) 0 rfl; have d1 := Box.cell (Box.pair hbx4 (.int .i64 0) (.slice none 0 0)) 1 rfl; simp [results, Try.results30, go_sem, d0, d1]) rfl ⟨none, 0, rfl, Ow.nil _ _ _ _, (hb4.setCell (p := ⟨w.heap.size, 0, none⟩) (Nat.le_refl _) _).setCell (p := ⟨w.heap.size, 1, none⟩) (Nat.le_refl _) _⟩
  have h1' : decide ((m : Int) < k * 8) = false := by simpa using h1
  rw [if_neg (by omega)] at HR2
  by_cases h2 : k * 8 < (m : Int)
  · have e : R = ((0, []), 1) := by rw [HR2, if_pos (by omega)]
    subst e
    clear HR2
    go_wp2
    exact bodyPost_ret (v := .tuple #[frameV 0 none 0 0, .int .i64 1]) (by have d0 := Box.cell (Box.pair hbx4 (.int .i64 0) (.slice none 0 0)) 0 rfl; have d1 := Box.cell (Box.pair hbx4 (.int .i64 0) (.slice none 0 0)) 1 rfl; simp [results, Try.results30, go_sem, d0, d1]) rfl ⟨none, 0, rfl, Ow.nil _ _ _ _, (hb4.setCell (p := ⟨w.heap.size, 0, none⟩) (Nat.le_refl _) _).setCell (p := ⟨w.heap.size, 1, none⟩) (Nat.le_refl _) _⟩
  have h2' : decide (k * 8 < (m : Int)) = false := by simpa using h2
  rw [if_neg (by omega)] at HR2
  subst HR2
  have hm64 : m ≤ 64 := by omega
  clear h1 h2
  go_wp2_with fail
  refine (Bytes_any AD m (c - 19) d _ (hD.below hb4) (by omega) (by omega) (by omega)).mono ?_
  intro e w5 hh
  obtain ⟨A5, c5, rfl, ho5, hb45⟩ := Ow.sl hh
  have hbx5 := hbx4.below hb45 hbx4.lt
  have hb5 := bthen hb4 hb45
  have hs4 := hbx4.lt
  clear c0 c1 f0 f1 hh
  have c0 := Box.cell hbx5 0 rfl
  have c1 := Box.cell hbx5 1 rfl
  have f0 := Box.free hbx5 0
  have f1 := Box.free hbx5 1
  go_wp2
  have ho6 := (ho5.grown (grownBy_pair w5 w.heap.size (.int .i64 (num i)) (.slice A5 (bytesOf d).length c5)) hs4).mono (Nat.le_of_lt hs4)
  exact bodyPost_ret (v := .tuple #[frameV (num i) A5 (bytesOf d).length c5, .int .i64 0]) (by have d0 := Box.cell (Box.pair hbx5 (.int .i64 (num i)) (.slice A5 (bytesOf d).length c5)) 0 rfl; have d1 := Box.cell (Box.pair hbx5 (.int .i64 (num i)) (.slice A5 (bytesOf d).length c5)) 1 rfl; simp [results, Try.results30, go_sem, d0, d1]) rfl ⟨_, _, rfl, ho6, (hb5.setCell (p := ⟨w.heap.size, 0, none⟩) (Nat.le_refl _) _).setCell (p := ⟨w.heap.size, 1, none⟩) (Nat.le_refl _) _⟩

theorem parse_any (A : Option Addr) (n c : Nat) (p : List Bool) (w : World) (h : Rd w 1 A n (p.map Value.bool)) (hnc : n ≤ c) (hc : c ≤ 9223372036854775807) (hn : n ≤ 140737488351232) :
    Calls Try.prog 30 #[.slice A n c] w (GivesFrame w (parseM p)) := by
  have hl := h.lenMap
  by_cases h19 : n < 19
  · have e : parseM p = ((0, []), 8) := by unfold parseM; rw [if_pos (by omega)]
    rw [e]
    exact parse_short A n c w h19
  · obtain ⟨s, i, x, y, z, cb, d, rfl, hi, hcb⟩ := row_split p (by omega)
    have hlen := rowOf_length (s := s) (x := x) (y := y) (z := z) (d := d) hi hcb
    obtain rfl : n = 19 + d.length := hl.symm.trans hlen
    exact parse_row_any s x y z i cb d hi hcb A d.length c w h rfl hnc hc (by omega) _ (Lib.hid (parse_rowOf hi hcb))

theorem le63 {c : Nat} (h : c ≤ maxLen) : c ≤ 9223372036854775807 := by unfold maxLen at h; omega

set_option maxHeartbeats 1000000 in
theorem Read_any (A : Option Addr) (n c : Nat) (l : List Bool) (w : World) (h : Rd w 1 A n (l.map Value.bool)) (hn : n ≤ 140737488351232) :
    Calls Try.prog 12 #[.slice A n c] w (GivesFrame w (readM l)) := by
  have hul := unstuffM_len l
  rw [h.lenMap] at hul
  have hol := openM_length (unstuffM l).1
  obtain ⟨R, hR⟩ : ∃ R, R = readM l := ⟨_, rfl⟩
  rw [← hR]
  unfold readM at hR
  have HR := Lib.hid hR
  clear hR
  go_enter Try.func12, Try.ntmps12
  go_wp2_with fail
  refine (Unstuff_any A n c l _ (h.alloc _) (by omega)).mono ?_
  rintro e w4 ⟨v4, rfl, ho4, hb4⟩
  obtain ⟨A4, c4, rfl, hnc4, hc4⟩ := ho4.form
  have hr4 := ho4.rd
  have hbx4 : Box w4 w.heap.size 24 [.int .i64 0, .slice none 0 0] := (Box.new w _ _).below hb4 (by simp)
  replace hb4 := below_new hb4
  have c0 := Box.cell hbx4 0 rfl
  have c1 := Box.cell hbx4 1 rfl
  have f0 := Box.free hbx4 0
  have f1 := Box.free hbx4 1
  clear ho4 h
  generalize (unstuffM l).1 = u at *
  generalize (unstuffM l).2 = er at *
  by_cases he : er ≠ 0
  · have he' : (er != 0) = true := by simpa using he
    have e : R = ((0, []), er) := by rw [HR.out, if_pos he]
    subst e
    clear HR he
    go_wp2
    exact bodyPost_ret (v := .tuple #[frameV 0 none 0 0, .int .i64 er]) (by have d0 := Box.cell (Box.pair hbx4 (.int .i64 0) (.slice none 0 0)) 0 rfl; have d1 := Box.cell (Box.pair hbx4 (.int .i64 0) (.slice none 0 0)) 1 rfl; simp [results, Try.results12, go_sem, d0, d1]) rfl ⟨none, 0, rfl, Ow.nil _ _ _ _, (hb4.setCell (p := ⟨w.heap.size, 0, none⟩) (Nat.le_refl _) _).setCell (p := ⟨w.heap.size, 1, none⟩) (Nat.le_refl _) _⟩
  have he' : (er != 0) = false := by simpa using he
  have hR := HR.out
  rw [if_neg he] at hR
  replace HR := Lib.hid hR
  clear hR he
  generalize u.length = un at *
  go_wp2_with fail
  refine (Open_any A4 un c4 u _ hr4 hnc4 (le63 hc4) (by omega)).mono ?_
  rintro e w5 ⟨v5, rfl, ho5, hb5⟩
  obtain ⟨A5, c5, rfl, hnc5, hc5⟩ := ho5.form
  have hr5 := ho5.rd
  have hbx5 := hbx4.below hb5 hbx4.lt
  replace hb5 := bthen hb4 hb5
  clear c0 c1 f0 f1 hbx4 hb4 ho5 hr4
  have hbx4 := hbx5
  have hb4 := hb5
  clear hbx5 hb5
  have c0 := Box.cell hbx4 0 rfl
  have c1 := Box.cell hbx4 1 rfl
  have f0 := Box.free hbx4 0
  have f1 := Box.free hbx4 1
  generalize (openM u).1 = p at *
  generalize (openM u).2 = eo at *
  by_cases he : eo ≠ 0
  · have he'' : (eo != 0) = true := by simpa using he
    have e : R = ((0, []), eo) := by rw [HR.out, if_pos he]
    subst e
    clear HR he
    go_wp2
    exact bodyPost_ret (v := .tuple #[frameV 0 none 0 0, .int .i64 eo]) (by have d0 := Box.cell (Box.pair hbx4 (.int .i64 0) (.slice none 0 0)) 0 rfl; have d1 := Box.cell (Box.pair hbx4 (.int .i64 0) (.slice none 0 0)) 1 rfl; simp [results, Try.results12, go_sem, d0, d1]) rfl ⟨none, 0, rfl, Ow.nil _ _ _ _, (hb4.setCell (p := ⟨w.heap.size, 0, none⟩) (Nat.le_refl _) _).setCell (p := ⟨w.heap.size, 1, none⟩) (Nat.le_refl _) _⟩
  have he'' : (eo != 0) = false := by simpa using he
  have hR := HR.out
  rw [if_neg he] at hR
  subst hR
  clear HR he
  generalize p.length = pn at *
  go_wp2_with fail
  refine (parse_any A5 pn c5 p _ hr5 hnc5 (le63 hc5) (by omega)).mono ?_
  rintro e w6 ⟨A6, c6, rfl, ho6, hb6⟩
  have hs5 := hbx4.lt
  have hbx5 := hbx4.below hb6 hbx4.lt
  have hb5 := bthen hb4 hb6
  clear c0 c1 f0 f1 hbx4 hb4
  have c0 := Box.cell hbx5 0 rfl
  have c1 := Box.cell hbx5 1 rfl
  have f0 := Box.free hbx5 0
  have f1 := Box.free hbx5 1
  generalize parseM p = r at *
  obtain ⟨⟨id, dl⟩, er'⟩ := r
  simp only at ho6 ⊢
  have ho7 := (ho6.grown (grownBy_pair w6 w.heap.size (.int .i64 id) (.slice A6 dl.length c6)) hs5).mono (Nat.le_of_lt hs5)
  go_wp2
  exact bodyPost_ret (v := .tuple #[frameV id A6 dl.length c6, .int .i64 er']) (by have d0 := Box.cell (Box.pair hbx5 (.int .i64 id) (.slice A6 dl.length c6)) 0 rfl; have d1 := Box.cell (Box.pair hbx5 (.int .i64 id) (.slice A6 dl.length c6)) 1 rfl; simp [results, Try.results12, go_sem, d0, d1]) rfl ⟨A6, c6, rfl, ho7, (hb5.setCell (p := ⟨w.heap.size, 0, none⟩) (Nat.le_refl _) _).setCell (p := ⟨w.heap.size, 1, none⟩) (Nat.le_refl _) _⟩
end Go.Proofs.Ytepogmnodmoebaa
