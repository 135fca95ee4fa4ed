/-
  Contracts of guard.May and guard.Heard, for every input.
-/
import Derived.Test.YtgngpcailjocoaaGuardWalks
import Derived.Test.YtgngpcailjocoaaRegion
import Derived.Deep.CutBlock
import Derived.Deep.DeepCutAuto
namespace Go.Proofs.Ytgngpcailjocoaa
open Go.RowKit
set_option linter.unusedVariables false

/-- What May and Heard return: a row of bools and the error. -/
def GivesBools (l : List Bool) (err : Int) (w : World) (e : Ending) (w' : World) : Prop :=
  ∃ v, e = .returned (.tuple #[v, .int .i64 err]) ∧ Ow Value.bool w' w.heap.size 4 v l ∧ Below w.heap.size w w'
theorem fill_bools {n j : Nat} (h : j < n) {r : List Bool} (hr : r.length = j) (x : Bool) : (r ++ List.replicate (n - j) false).set j x = (r ++ [x]) ++ List.replicate (n - (j + 1)) false := by
  rw [List.set_append_right _ _ (by omega), hr, Nat.sub_self, show n - j = (n - (j + 1)) + 1 by omega, List.replicate_succ, List.set_cons_zero, List.append_assoc]
  rfl

set_option maxHeartbeats 1600000 in
theorem May_any (P : Int) (hP : in64 P) (A : Option Addr) (n c : Nat) (L : List Slt) (B : Option Addr) (m d : Nat) (T : List Slt) (w : World) (h : RdS w A n L) (hL : ∀ s ∈ L, s.Ok) (hn : n ≤ 140737488355328) (hT : RdS w B m T) (hm : m ≤ 140737488355328) :
    Calls Try.prog 8 #[.int .i64 P, .slice A n c, .slice B m d] w (GivesBools (mayR P L T) (checkG P L T) w) := by
  have C1 := Lib.hid (checkG_any P hP A n c L B m d T w h hL hn hT hm)
  by_cases hz : checkG P L T = 0
  · obtain ⟨hR, hlen, hok⟩ := checkG_zero.1 hz
    rw [mayR_ok hz]
    rw [hz] at C1 ⊢
    have Hl := Lib.hid hT.lenS
    rw [Hl.out] at hlen
    have HR := Lib.hid hR
    have Hok := Lib.hid hok
    have hmk := run_mk elBool rfl .i64 .i64 m m (Nat.le_refl _) (by omega) (by omega)
    clear hz hR hok
    go_enter Try.func8, Try.ntmps8
    go_wp2_with fail
    refine C1.out.mono ?_
    rintro e w1 ⟨rfl, hb1⟩
    have Ho0 := Lib.hid (Ow.make Value.bool false w1 4 (base := w.heap.size) m (by unfold maxLen; omega) hb1.size)
    go_wp2
    go_loopw [24] (fun i wr => ∃ j : Nat, j ≤ m ∧ i = .int .i64 j ∧ Ow Value.bool wr w.heap.size 4 (.slice (some ⟨w1.heap.size, 0, none⟩) m m) (((mayM P L T).take j) ++ List.replicate (m - j) false) ∧ Below w.heap.size w wr) (fun i _ => m - (intOf i).toNat)
    case atStart => exact ⟨0, Nat.zero_le _, rfl, by simpa using Ho0.out, hb1.alloc hb1.size _⟩
    case round =>
      obtain ⟨j, hj, rfl, ho, hbl⟩ := hrel
      clear hmk Ho0 C1
      by_cases hlt : j < m
      · obtain ⟨ad, nd, fr, lg, rfl, hx, hc0, hc1, hc2⟩ := (hT.below hbl).atS hlt
        have C2 := Lib.hid (fits_any P A n c L nd fr lg _ ((h.below hbl).alloc (.cells #[.int .i64 nd, .int .i64 fr, .int .i64 lg] 30)) HR.out (Hok.out _ (List.mem_of_getElem? hx)))
        have Hset : Hid (((mayM P L T).take j ++ List.replicate (m - j) false).set j (fitsM P L ⟨nd, fr, lg⟩) = (mayM P L T).take (j + 1) ++ List.replicate (m - (j + 1)) false) := by
          show _ = _
          rw [fill_bools hlt (by rw [List.length_take, may_len, Hl.out]; omega), take_snoc (x := fitsM P L ⟨nd, fr, lg⟩) (by rw [mayM, List.getElem?_map, hx]; rfl)]
        clear hx
        generalize fitsM P L ⟨nd, fr, lg⟩ = x at *
        have Ho := Lib.hid ho
        clear ho
        go_wp2_with fail
        refine C2.out.mono ?_
        rintro e w3 ⟨rfl, hb3⟩
        have hb3' := below_new hb3
        have ho := Ho.out.below hb3'
        have hB3 := bthen hbl hb3'
        clear Ho C2 hb3 hb3'
        have hfr := ho.freeAt j
        have Hput := Lib.hid (ho.put j x)
        obtain ⟨z, hzz⟩ : ∃ z, ((mayM P L T).take j ++ List.replicate (m - j) false)[j]? = some z := ⟨_, List.getElem?_eq_getElem (by simp [may_len, Hl.out]; omega)⟩
        have hcz := ho.cellAt hzz
        have hbg := ho.block _ rfl
        clear hzz ho
        go_wp2
        go_roundw
        case rel => exact ⟨j + 1, by omega, by go_num, by rw [← Hset.out]; exact Hput.out, hB3.setCell (p := ⟨w1.heap.size, j, none⟩) hbg _⟩
        case measure => simp [intOf] <;> omega
      · obtain rfl : j = m := by omega
        rw [List.take_of_length_le (by rw [may_len, Hl.out]; exact Nat.le_refl _), Nat.sub_self, List.replicate_zero, List.append_nil] at ho
        go_wp2
        go_ret2
        exact ⟨_, rfl, ho, hbl⟩
  · rw [mayR_no hz]
    generalize checkG P L T = x at *
    go_enter Try.func8, Try.ntmps8
    go_wp2_with fail
    refine C1.out.mono ?_
    rintro e w1 ⟨rfl, hb1⟩
    go_wp2
    go_ret2
    exact ⟨_, rfl, Ow.nil _ _ _ _, hb1⟩

set_option maxHeartbeats 3200000 in
theorem Heard_any (P : Int) (hP : in64 P) (A : Option Addr) (n c : Nat) (L : List Slt) (B : Option Addr) (m d : Nat) (T : List Slt) (w : World) (h : RdS w A n L) (hL : ∀ s ∈ L, s.Ok) (hn : n ≤ 140737488355328) (hT : RdS w B m T) (hm : m ≤ 140737488355328) :
    Calls Try.prog 9 #[.int .i64 P, .slice A n c, .slice B m d] w (GivesBools (heardR P L T) (checkG P L T) w) := by
  have C1 := Lib.hid (May_any P hP A n c L B m d T w h hL hn hT hm)
  by_cases hz : checkG P L T = 0
  · obtain ⟨hR, hlen, hok⟩ := checkG_zero.1 hz
    rw [heardR_ok hz]
    rw [mayR_ok hz] at C1
    rw [hz] at C1 ⊢
    have Hl := Lib.hid hT.lenS
    rw [Hl.out] at hlen
    have Hok := Lib.hid hok
    have Hml : Hid ((mayM P L T).length = m) := by show _ = _; rw [may_len, Hl.out]
    clear hz hR hok hm
    go_enter Try.func9, Try.ntmps9
    go_wp2_with fail
    refine C1.out.mono ?_
    rintro e w1 ⟨v1, rfl, ho1, hb1⟩
    clear C1
    obtain ⟨A8, c8, rfl, -, -, hr8⟩ := ho1.formN Hml.out
    clear ho1
    have C2 := Lib.hid (Clone_any A8 m c8 (mayM P L T) w1 hr8 (by omega))
    go_wp2_with fail
    refine C2.out.mono ?_
    rintro e w2 ⟨v2, rfl, ho2, hb2⟩
    clear C2
    obtain ⟨A10, c10, rfl, -, -, -⟩ := ho2.formN Hml.out
    have Ho2 := Lib.hid ho2
    clear ho2
    go_wp2
    go_loopw [27] (fun i wr => ∃ (a : Nat) (l : List Bool), a ≤ m ∧ i = .int .i64 a ∧ HeardTo P L T a 0 l ∧ Ow Value.bool wr w1.heap.size 4 (.slice A10 m c10) l ∧ Below w1.heap.size w1 wr) (fun i _ => m - (intOf i).toNat)
    case atStart => exact ⟨0, _, Nat.zero_le _, rfl, HeardTo.start _ _ _, Ho2.out, hb2⟩
    case round =>
      obtain ⟨a, l, ha, rfl, hto, ho, hbl⟩ := hrel
      clear Ho2
      have Hto := Lib.hid hto
      have Ho := Lib.hid ho
      clear hto ho
      by_cases hlt : a < m
      · go_wp2
        go_loopw [31] (fun i wr => ∃ (b : Nat) (l : List Bool), b ≤ a ∧ i = .int .i64 b ∧ HeardTo P L T a b l ∧ Ow Value.bool wr w1.heap.size 4 (.slice A10 m c10) l ∧ Below w1.heap.size w1 wr) (fun i _ => a - (intOf i).toNat)
        case atStart => exact ⟨0, l, Nat.zero_le _, rfl, Hto.out, Ho.out, hbl⟩
        case round =>
          rename_i wo _
          obtain ⟨b, l', hb, rfl, hto', ho', hbl'⟩ := hrel
          clear Hto Ho
          have Hto := Lib.hid hto'
          have Ho := Lib.hid ho'
          clear hto' ho'
          by_cases hlb : b < a
          · obtain ⟨ad, na, fa, la, rfl, hxa, -, -, -⟩ := (hT.below (bthen hb1 hbl')).atS hlt
            obtain ⟨ad', nb, fb, lb, e', hxb, -, -, -⟩ := (hT.below (bthen hb1 hbl')).atS (show b < m by omega)
            injection e' with e'
            subst e'
            obtain ⟨ad8, va, rfl, hva, hca⟩ := (hr8.below hbl').atMap hlt
            obtain ⟨ad8', vb, e', hvb, hcb⟩ := (hr8.below hbl').atMap (show b < m by omega)
            injection e' with e'
            subst e'
            have Hva : Hid (va = fitsM P L ⟨na, fa, la⟩) := by
              show _ = _
              rw [mayM, List.getElem?_map, hxa] at hva
              injection hva with hva; exact hva.symm
            have Hvb : Hid (vb = fitsM P L ⟨nb, fb, lb⟩) := by
              show _ = _
              rw [mayM, List.getElem?_map, hxb] at hvb
              injection hvb with hvb; exact hvb.symm
            clear hva hvb
            have Hxa := Lib.hid hxa
            have Hxb := Lib.hid hxb
            have hlbm : (b : Int) < (m : Int) := by omega
            have Hmiss : Hid (hit P L ⟨na, fa, la⟩ ⟨nb, fb, lb⟩ = false → HeardTo P L T a (b + 1) l') := fun hm => Hto.out.miss Hxa.out Hxb.out hm
            cases va with
            | false =>
              have Hh : Hid (hit P L ⟨na, fa, la⟩ ⟨nb, fb, lb⟩ = false) := by show _ = _; rw [hit, ← Hva.out]; rfl
              clear hxa hxb
              go_wp2
              go_quiet (fail)
              go_wp2
              go_roundw
              case rel => exact ⟨b + 1, l', by omega, by go_num, Hmiss.out Hh.out, Ho.out, bthen hbl' (below_draws ⟨_, rfl⟩)⟩
              case measure => simp [intOf] <;> omega
            | true =>
              cases vb with
              | false =>
                have Hh : Hid (hit P L ⟨na, fa, la⟩ ⟨nb, fb, lb⟩ = false) := by show _ = _; rw [hit, ← Hva.out, ← Hvb.out]; rfl
                clear hxa hxb
                go_wp2
                go_quiet (fail)
                go_wp2
                go_roundw
                case rel => exact ⟨b + 1, l', by omega, by go_num, Hmiss.out Hh.out, Ho.out, bthen hbl' (below_draws ⟨_, rfl⟩)⟩
                case measure => simp [intOf] <;> omega
              | true =>
                have C3 := Lib.hid (fun (W : World) => overlap_any ⟨na, fa, la⟩ ⟨nb, fb, lb⟩ (Hok.out _ (List.mem_of_getElem? hxa)) (Hok.out _ (List.mem_of_getElem? hxb)) W)
                have Hh : Hid (hit P L ⟨na, fa, la⟩ ⟨nb, fb, lb⟩ = overM ⟨na, fa, la⟩ ⟨nb, fb, lb⟩) := by show _ = _; rw [hit, ← Hva.out, ← Hvb.out]; rfl
                clear hxa hxb
                have Hca : Hid (∀ W, Below wr.heap.size wr W → W.cell? (ad8.add a) = some (.bool true)) := fun W hW => (hW.cell (World.block_lt_of_cell? _ _ hca)).trans hca
                have Hcb : Hid (∀ W, Below wr.heap.size wr W → W.cell? (ad8.add b) = some (.bool true)) := fun W hW => (hW.cell (World.block_lt_of_cell? _ _ hcb)).trans hcb
                have Hta : Hid (∀ W, Below wr.heap.size wr W → W.cell? (ad.add (a * 3)) = some (.int .i64 na) ∧ W.cell? ⟨(ad.add (a * 3)).block, (ad.add (a * 3)).off + 1, none⟩ = some (.int .i64 fa) ∧ W.cell? ⟨(ad.add (a * 3)).block, (ad.add (a * 3)).off + 2, none⟩ = some (.int .i64 la)) := fun W hW => by
                  obtain ⟨ad', x, y, z, e', hx', g0, g1, g2⟩ := (hT.below (bthen hb1 (bthen hbl' hW))).atS hlt
                  injection e' with e'
                  subst e'
                  rw [Hxa.out] at hx'
                  injection hx' with hx'
                  injection hx' with e1 e2 e3
                  subst e1 e2 e3
                  exact ⟨g0, g1, g2⟩
                have Htb : Hid (∀ W, Below wr.heap.size wr W → W.cell? (ad.add (b * 3)) = some (.int .i64 nb) ∧ W.cell? ⟨(ad.add (b * 3)).block, (ad.add (b * 3)).off + 1, none⟩ = some (.int .i64 fb) ∧ W.cell? ⟨(ad.add (b * 3)).block, (ad.add (b * 3)).off + 2, none⟩ = some (.int .i64 lb)) := fun W hW => by
                  obtain ⟨ad', x, y, z, e', hx', g0, g1, g2⟩ := (hT.below (bthen hb1 (bthen hbl' hW))).atS (show b < m by omega)
                  injection e' with e'
                  subst e'
                  rw [Hxb.out] at hx'
                  injection hx' with hx'
                  injection hx' with e1 e2 e3
                  subst e1 e2 e3
                  exact ⟨g0, g1, g2⟩
                clear hca hcb
                go_upto_region 11 with fail
                have hB : Below wr.heap.size wr wr.drew := (Below.refl _ _).drew
                refine wp_region_B (by kernel_rfl) ?_
                refine wpAnyB_take (i := 0) (oi := { dst := some 34, op := Op.move (Go.Operand.tmp 8), type := 24, pos := "guard.go:35", after := #[], guard := none }) (v := ?v1) rfl (by kernel_rfl) (by kernel_rfl) (by kernel_rfl) (fun _ _ _ h => h) (Or.inl ⟨by rfl, ?hy1⟩) ?rs1
                case hy1 => (intro W hW; go_simp; try with_reducible rfl)
                try simp only [Act.put, List.setIfInBounds_toArray, List.set_cons_zero, List.set_cons_succ]
                refine wpAnyB_take (i := 1) (oi := { dst := some 35, op := Op.move (Go.Operand.tmp 11), type := 3, pos := "guard.go:35", after := #[], guard := none }) (v := ?v2) rfl (by kernel_rfl) (by kernel_rfl) (by kernel_rfl) (fun _ _ _ h => h) (Or.inl ⟨by rfl, ?hy2⟩) ?rs2
                case hy2 => (intro W hW; go_simp; try with_reducible rfl)
                try simp only [Act.put, List.setIfInBounds_toArray, List.set_cons_zero, List.set_cons_succ]
                refine wpAnyB_take (i := 2) (oi := { dst := some 36, op := Op.indexAddr 24 (Go.Operand.tmp 34) (Go.Operand.tmp 35), type := 0, pos := "guard.go:35", after := #[{ on := 0, ground := Ground.data }, { on := 1, ground := Ground.data }], guard := none }) (v := ?v3) rfl (by kernel_rfl) (by kernel_rfl) (by kernel_rfl) (fun _ _ _ h => h) (Or.inl ⟨by rfl, ?hy3⟩) ?rs3
                case hy3 => (intro W hW; go_simp; try with_reducible rfl)
                try simp only [Act.put, List.setIfInBounds_toArray, List.set_cons_zero, List.set_cons_succ]
                refine wpAnyB_take (i := 3) (oi := { dst := some 37, op := Op.load 4 (Go.Operand.tmp 36), type := 4, pos := "guard.go:35", after := #[{ on := 2, ground := Ground.data }], guard := none }) (v := ?v4) rfl (by kernel_rfl) (by kernel_rfl) (by kernel_rfl) (fun _ _ _ h => h) (Or.inl ⟨by rfl, ?hy4⟩) ?rs4
                case hy4 => (intro W hW; have hcv := Hca.out W (bthen hB hW); go_simp; try with_reducible rfl)
                try simp only [Act.put, List.setIfInBounds_toArray, List.set_cons_zero, List.set_cons_succ]
                refine wpAnyB_take (i := 4) (oi := { dst := some 38, op := Op.move (Go.Operand.tmp 37), type := 4, pos := "guard.go:35", after := #[{ on := 3, ground := Ground.data }], guard := none }) (v := ?v5) rfl (by kernel_rfl) (by kernel_rfl) (by kernel_rfl) (fun _ _ _ h => h) (Or.inl ⟨by rfl, ?hy5⟩) ?rs5
                case hy5 => (intro W hW; go_simp; try with_reducible rfl)
                try simp only [Act.put, List.setIfInBounds_toArray, List.set_cons_zero, List.set_cons_succ]
                refine wpAnyB_take (i := 5) (oi := { dst := some 39, op := Op.move (Go.Operand.tmp 8), type := 24, pos := "guard.go:35", after := #[{ on := 4, ground := Ground.guard }], guard := some (4, true) }) (v := ?v6) rfl (by kernel_rfl) (by kernel_rfl) (by kernel_rfl) (fun _ _ _ h => h) (Or.inl ⟨by rfl, ?hy6⟩) ?rs6
                case hy6 => (intro W hW; go_simp; try with_reducible rfl)
                try simp only [Act.put, List.setIfInBounds_toArray, List.set_cons_zero, List.set_cons_succ]
                refine wpAnyB_take (i := 6) (oi := { dst := some 40, op := Op.move (Go.Operand.tmp 12), type := 3, pos := "guard.go:35", after := #[{ on := 4, ground := Ground.guard }], guard := some (4, true) }) (v := ?v7) rfl (by kernel_rfl) (by kernel_rfl) (by kernel_rfl) (fun _ _ _ h => h) (Or.inl ⟨by rfl, ?hy7⟩) ?rs7
                case hy7 => (intro W hW; go_simp; try with_reducible rfl)
                try simp only [Act.put, List.setIfInBounds_toArray, List.set_cons_zero, List.set_cons_succ]
                refine wpAnyB_take (i := 7) (oi := { dst := some 41, op := Op.indexAddr 24 (Go.Operand.tmp 39) (Go.Operand.tmp 40), type := 0, pos := "guard.go:35", after := #[{ on := 5, ground := Ground.data }, { on := 6, ground := Ground.data }, { on := 4, ground := Ground.guard }], guard := some (4, true) }) (v := ?v8) rfl (by kernel_rfl) (by kernel_rfl) (by kernel_rfl) (fun _ _ _ h => h) (Or.inl ⟨by rfl, ?hy8⟩) ?rs8
                case hy8 => (intro W hW; go_simp; try with_reducible rfl)
                try simp only [Act.put, List.setIfInBounds_toArray, List.set_cons_zero, List.set_cons_succ]
                refine wpAnyB_take (i := 8) (oi := { dst := some 42, op := Op.load 4 (Go.Operand.tmp 41), type := 4, pos := "guard.go:35", after := #[{ on := 7, ground := Ground.data }, { on := 4, ground := Ground.guard }], guard := some (4, true) }) (v := ?v9) rfl (by kernel_rfl) (by kernel_rfl) (by kernel_rfl) (fun _ _ _ h => h) (Or.inl ⟨by rfl, ?hy9⟩) ?rs9
                case hy9 => (intro W hW; have hcv := Hcb.out W (bthen hB hW); go_simp; try with_reducible rfl)
                try simp only [Act.put, List.setIfInBounds_toArray, List.set_cons_zero, List.set_cons_succ]
                refine wpAnyB_take (i := 9) (oi := { dst := some 43, op := Op.pick (Go.Operand.tmp 38) (Go.Operand.tmp 42) (Go.Operand.const (Go.Value.bool false)), type := 4, pos := "guard.go:35", after := #[{ on := 4, ground := Ground.data }, { on := 8, ground := Ground.data }], guard := none }) (v := ?v10) rfl (by kernel_rfl) (by kernel_rfl) (by kernel_rfl) (fun _ _ _ h => h) (Or.inl ⟨by rfl, ?hy10⟩) ?rs10
                case hy10 => (intro W hW; go_simp; try with_reducible rfl)
                try simp only [Act.put, List.setIfInBounds_toArray, List.set_cons_zero, List.set_cons_succ]
                refine wpAnyB_take (i := 10) (oi := { dst := some 44, op := Op.move (Go.Operand.tmp 43), type := 4, pos := "guard.go:35", after := #[{ on := 9, ground := Ground.data }, { on := 4, ground := Ground.chain }], guard := none }) (v := ?v11) rfl (by kernel_rfl) (by kernel_rfl) (by kernel_rfl) (fun _ _ _ h => h) (Or.inl ⟨by rfl, ?hy11⟩) ?rs11
                case hy11 => (intro W hW; go_simp; try with_reducible rfl)
                try simp only [Act.put, List.setIfInBounds_toArray, List.set_cons_zero, List.set_cons_succ]
                refine wpAnyB_take (i := 11) (oi := { dst := some 45, op := Op.move (Go.Operand.tmp 2), type := 23, pos := "guard.go:35", after := #[{ on := 10, ground := Ground.guard }], guard := some (10, true) }) (v := ?v12) rfl (by kernel_rfl) (by kernel_rfl) (by kernel_rfl) (fun _ _ _ h => h) (Or.inl ⟨by rfl, ?hy12⟩) ?rs12
                case hy12 => (intro W hW; go_simp; try with_reducible rfl)
                try simp only [Act.put, List.setIfInBounds_toArray, List.set_cons_zero, List.set_cons_succ]
                refine wpAnyB_take (i := 12) (oi := { dst := some 46, op := Op.move (Go.Operand.tmp 11), type := 3, pos := "guard.go:35", after := #[{ on := 10, ground := Ground.guard }], guard := some (10, true) }) (v := ?v13) rfl (by kernel_rfl) (by kernel_rfl) (by kernel_rfl) (fun _ _ _ h => h) (Or.inl ⟨by rfl, ?hy13⟩) ?rs13
                case hy13 => (intro W hW; go_simp; try with_reducible rfl)
                try simp only [Act.put, List.setIfInBounds_toArray, List.set_cons_zero, List.set_cons_succ]
                refine wpAnyB_take (i := 13) (oi := { dst := some 47, op := Op.indexAddr 23 (Go.Operand.tmp 45) (Go.Operand.tmp 46), type := 0, pos := "guard.go:35", after := #[{ on := 11, ground := Ground.data }, { on := 12, ground := Ground.data }, { on := 10, ground := Ground.guard }], guard := some (10, true) }) (v := ?v14) rfl (by kernel_rfl) (by kernel_rfl) (by kernel_rfl) (fun _ _ _ h => h) (Or.inl ⟨by rfl, ?hy14⟩) ?rs14
                case hy14 => (intro W hW; go_simp; try with_reducible rfl)
                try simp only [Act.put, List.setIfInBounds_toArray, List.set_cons_zero, List.set_cons_succ]
                refine wpAnyB_take (i := 14) (oi := { dst := some 48, op := Op.load 30 (Go.Operand.tmp 47), type := 30, pos := "guard.go:35", after := #[{ on := 13, ground := Ground.data }, { on := 10, ground := Ground.guard }], guard := some (10, true) }) (v := ?v15) rfl (by kernel_rfl) (by kernel_rfl) (by kernel_rfl) (fun _ _ _ h => h) (Or.inl ⟨by rfl, ?hy15⟩) ?rs15
                case hy15 => (intro W hW; obtain ⟨g0, g1, g2⟩ := Hta.out W (bthen hB hW); go_simp; try with_reducible rfl)
                try simp only [Act.put, List.setIfInBounds_toArray, List.set_cons_zero, List.set_cons_succ]
                refine wpAnyB_take (i := 15) (oi := { dst := some 49, op := Op.move (Go.Operand.tmp 2), type := 23, pos := "guard.go:35", after := #[{ on := 10, ground := Ground.guard }], guard := some (10, true) }) (v := ?v16) rfl (by kernel_rfl) (by kernel_rfl) (by kernel_rfl) (fun _ _ _ h => h) (Or.inl ⟨by rfl, ?hy16⟩) ?rs16
                case hy16 => (intro W hW; go_simp; try with_reducible rfl)
                try simp only [Act.put, List.setIfInBounds_toArray, List.set_cons_zero, List.set_cons_succ]
                refine wpAnyB_take (i := 16) (oi := { dst := some 50, op := Op.move (Go.Operand.tmp 12), type := 3, pos := "guard.go:35", after := #[{ on := 10, ground := Ground.guard }], guard := some (10, true) }) (v := ?v17) rfl (by kernel_rfl) (by kernel_rfl) (by kernel_rfl) (fun _ _ _ h => h) (Or.inl ⟨by rfl, ?hy17⟩) ?rs17
                case hy17 => (intro W hW; go_simp; try with_reducible rfl)
                try simp only [Act.put, List.setIfInBounds_toArray, List.set_cons_zero, List.set_cons_succ]
                refine wpAnyB_take (i := 17) (oi := { dst := some 51, op := Op.indexAddr 23 (Go.Operand.tmp 49) (Go.Operand.tmp 50), type := 0, pos := "guard.go:35", after := #[{ on := 15, ground := Ground.data }, { on := 16, ground := Ground.data }, { on := 10, ground := Ground.guard }], guard := some (10, true) }) (v := ?v18) rfl (by kernel_rfl) (by kernel_rfl) (by kernel_rfl) (fun _ _ _ h => h) (Or.inl ⟨by rfl, ?hy18⟩) ?rs18
                case hy18 => (intro W hW; go_simp; try with_reducible rfl)
                try simp only [Act.put, List.setIfInBounds_toArray, List.set_cons_zero, List.set_cons_succ]
                refine wpAnyB_take (i := 18) (oi := { dst := some 52, op := Op.load 30 (Go.Operand.tmp 51), type := 30, pos := "guard.go:35", after := #[{ on := 17, ground := Ground.data }, { on := 10, ground := Ground.guard }], guard := some (10, true) }) (v := ?v19) rfl (by kernel_rfl) (by kernel_rfl) (by kernel_rfl) (fun _ _ _ h => h) (Or.inl ⟨by rfl, ?hy19⟩) ?rs19
                case hy19 => (intro W hW; obtain ⟨g0, g1, g2⟩ := Htb.out W (bthen hB hW); go_simp; try with_reducible rfl)
                try simp only [Act.put, List.setIfInBounds_toArray, List.set_cons_zero, List.set_cons_succ]
                refine wpAnyB_one (i := 19) (o := { dst := some 53, op := Op.call { callee := Callee.value (Go.Operand.func 19), args := #[Go.Operand.tmp 48, Go.Operand.tmp 52], argTypes := #[30, 30] }, type := 4, pos := "guard.go:35", after := #[{ on := 14, ground := Ground.data }, { on := 18, ground := Ground.data }, { on := 10, ground := Ground.chain }, { on := 10, ground := Ground.guard }], guard := some (10, true) }) (by kernel_rfl) rfl (fun K hK => ?_)
                go_simp
                refine (C3.out _).mono ?_; rintro e w7 ⟨rfl, hbk⟩; replace hB := bthen hB hbk
                refine hK.out _ _ hbk ?_
                clear hK K
                try simp only [Act.put, List.setIfInBounds_toArray, List.set_cons_zero, List.set_cons_succ]
                refine wpAnyB_take (i := 20) (oi := { dst := some 54, op := Op.pick (Go.Operand.tmp 44) (Go.Operand.tmp 53) (Go.Operand.const (Go.Value.bool false)), type := 4, pos := "guard.go:35", after := #[{ on := 10, ground := Ground.data }, { on := 19, ground := Ground.data }], guard := none }) (v := ?v20) rfl (by kernel_rfl) (by kernel_rfl) (by kernel_rfl) (fun _ _ _ h => h) (Or.inl ⟨by rfl, ?hy20⟩) ?rs20
                case hy20 => (intro W hW; go_simp; try with_reducible rfl)
                try simp only [Act.put, List.setIfInBounds_toArray, List.set_cons_zero, List.set_cons_succ]
                refine wpAnyB_done (by kernel_rfl) ?_
                clear Hca Hcb Hta Htb C3
                cases hov : overM ⟨na, fa, la⟩ ⟨nb, fb, lb⟩ with
                | false =>
                  rw [hov] at Hh
                  clear hov
                  go_wp2
                  go_roundw
                  case rel => exact ⟨b + 1, l', by omega, by go_num, Hmiss.out Hh.out, Ho.out.below hB, bthen hbl' hB⟩
                  case measure => simp [intOf] <;> omega
                | true =>
                  rw [hov] at Hh
                  clear hov
                  have Hhits := Lib.hid (Hto.out.hits hlb Hxa.out Hxb.out Hh.out)
                  have hll : l'.length = m := by rw [Hto.out.1, Hl.out]
                  have ho := Ho.out.below hB
                  obtain ⟨g, cg, eg, hbg, -, -⟩ := ho.head (by omega)
                  rw [hll] at eg
                  injection eg with eA _ ec
                  subst eA ec
                  obtain ⟨z, hz⟩ : ∃ z, l'[a]? = some z := ⟨_, List.getElem?_eq_getElem (by omega)⟩
                  obtain ⟨z', hz'⟩ : ∃ z, l'[b]? = some z := ⟨_, List.getElem?_eq_getElem (by omega)⟩
                  have k1 := ho.cellAt hz
                  have k2 := ho.cellAt hz'
                  have k3 := ho.freeAt a
                  have k4 := ho.freeAt b
                  have Hput := Lib.hid ((ho.put a false).put b false)
                  have hBB := bthen hbl' hB
                  clear hz hz' hll ho Ho Hto Hmiss
                  go_wp2
                  go_roundw
                  case rel => exact ⟨b + 1, _, by omega, by go_num, Hhits.out, Hput.out, (hBB.setCell (p := ⟨g, a, none⟩) hbg _).setCell (p := ⟨g, b, none⟩) hbg _⟩
                  case measure => simp [intOf] <;> omega
          · obtain rfl : b = a := by omega
            go_wp2
            go_roundw
            case rel => exact ⟨b + 1, l', by omega, by go_num, Hto.out.next, Ho.out, hbl'⟩
            case measure => simp [intOf] <;> omega
      · obtain rfl : a = m := by omega
        have Hd : Hid (l = heardM P L T) := HeardTo.done (by rw [Hl.out]; exact Hto.out) Hok.out
        have ho := Ho.out
        rw [Hd.out] at ho
        have Hoo := Lib.hid ho
        clear ho Ho Hto
        go_wp2
        go_ret2
        exact ⟨_, rfl, Hoo.out.mono hb1.size, bthen hb1 hbl⟩
  · rw [heardR_no hz]
    rw [mayR_no hz] at C1
    generalize checkG P L T = x at *
    go_enter Try.func9, Try.ntmps9
    go_wp2_with fail
    refine C1.out.mono ?_
    rintro e w1 ⟨v1, rfl, ho1, hb1⟩
    obtain ⟨A8, c8, rfl, -, -, -⟩ := ho1.formN rfl
    go_wp2
    go_ret2
    exact ⟨_, rfl, Ow.nil _ _ _ _, hb1⟩
end Go.Proofs.Ytgngpcailjocoaa
