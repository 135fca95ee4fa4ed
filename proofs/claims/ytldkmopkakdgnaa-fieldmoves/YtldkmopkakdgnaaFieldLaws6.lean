/-
  The walk of FieldMoves.
-/
import Derived.Test.YtldkmopkakdgnaaFieldRef3
import Derived.Test.YtldkmopkakdgnaaFieldMove
import Derived.Test.YtldkmopkakdgnaaFieldLaws3
namespace Go.Proofs.Ytldkmopkakdgnaa
open Go.RowKit
set_option maxRecDepth 20000
set_option linter.unusedVariables false

theorem moves_bad1 {l cur : List Int} {a b : List FI} {k : Nat} {f g : FI} {n m : Nat} {R : List Int × Int} (hn : l.length = n) (hm : cur.length = m) (ha : a[k]? = some f) (hb : b[k]? = some g) (hR : moveG l (a.drop k) (b.drop k) cur = R) (h : wrongW f (n : Int) ≠ 0) : R = ([], wrongW f (n : Int)) := by
  subst hn
  rw [← hR, moveG_get ha hb h]
theorem moves_bad2 {l cur : List Int} {a b : List FI} {k : Nat} {f g : FI} {n m : Nat} {R : List Int × Int} (hn : l.length = n) (hm : cur.length = m) (ha : a[k]? = some f) (hb : b[k]? = some g) (hR : moveG l (a.drop k) (b.drop k) cur = R) (h : wrongW f (n : Int) = 0) (h2 : wrongW g (m : Int) ≠ 0) : R = ([], wrongW g (m : Int)) := by
  subst hn hm
  have e : setW g (cur.length : Int) (getF l f.fld) = wrongW g (cur.length : Int) := by unfold setW; rw [if_pos h2]
  rw [← hR, moveG_set ha hb h (by rw [e]; exact h2), e]
theorem moves_bad3 {l cur : List Int} {a b : List FI} {k : Nat} {f : FI} {G : Fld} {n m : Nat} {R : List Int × Int} (hn : l.length = n) (hm : cur.length = m) (ha : a[k]? = some f) (hb : b[k]? = some G.i) (hR : moveG l (a.drop k) (b.drop k) cur = R) (h : wrongW f (n : Int) = 0) (h2 : wrongW G.i (m : Int) = 0) (h3 : 2 ^ G.wd ≤ getF l f.fld) : R = ([], 2) := by
  subst hn hm
  have e : setW G.i (cur.length : Int) (getF l f.fld) = 2 := by
    unfold setW
    rw [if_neg (by omega), if_pos (by rw [show G.i.wd.toNat = G.wd by simp [Fld.i]]; exact .inr h3)]
  rw [← hR, moveG_set ha hb h (by rw [e]; decide), e]
theorem moves_good {l cur : List Int} {a b : List FI} {k : Nat} {f : FI} {G : Fld} {n m : Nat} {R : List Int × Int} (hn : l.length = n) (hm : cur.length = m) (ha : a[k]? = some f) (hb : b[k]? = some G.i) (hR : moveG l (a.drop k) (b.drop k) cur = R) (h : wrongW f (n : Int) = 0) (ok : G.Ok m) (h3 : getF l f.fld < 2 ^ G.wd) : moveG l (a.drop (k + 1)) (b.drop (k + 1)) (setF cur G (getF l f.fld)) = R := by
  subst hn hm
  rw [← hR, moveG_next ha hb h (setW_ok ok (getF_nonneg _ _) h3), i_fld]
set_option maxRecDepth 20000 in
set_option maxHeartbeats 1600000 in
theorem FieldMoves_walk (A0 : Option Addr) (n0 c0 : Nat) (l0 : List Int) (A1 : Option Addr) (n1 c1 : Nat) (l1 : List FI) (A2 : Option Addr) (n2 c2 : Nat) (l2 : List Int) (A3 : Option Addr) (n3 c3 : Nat) (l3 : List FI) (w : World)
    (h0 : Rd w 1 A0 n0 (l0.map (Value.int .u8))) (v0 : ∀ x ∈ l0, (Lit.int .u8 x).wf = true) (k0 : n0 ≤ c0) (b0 : c0 * 1 ≤ 140737488351232)
    (h1 : RdG FI.cells 3 w A1 n1 l1) (v1 : ∀ s ∈ l1, s.Ok) (k1 : n1 ≤ c1) (b1 : c1 * 24 ≤ 140737488351232)
    (h2 : Rd w 1 A2 n2 (l2.map (Value.int .u8))) (v2 : ∀ x ∈ l2, (Lit.int .u8 x).wf = true) (k2 : n2 ≤ c2) (b2 : c2 * 1 ≤ 140737488351232)
    (h3 : RdG FI.cells 3 w A3 n3 l3) (v3 : ∀ s ∈ l3, s.Ok) (k3 : n3 ≤ c3) (b3 : c3 * 24 ≤ 140737488351232) :
    Calls Try.prog 4 #[.slice A0 n0 c0, .slice A1 n1 c1, .slice A2 n2 c2, .slice A3 n3 c3] w fun e w' => e = .returned (.bool true) ∧ Below w.heap.size w w' := by
  have q0 : Byt l0 := fun x hx => by have := wf_u8 (v0 x hx); omega
  have q2 : Byt l2 := fun x hx => by have := wf_u8 (v2 x hx); omega
  have L0 := Lib.hid h0.lenMap
  have L2 := Lib.hid h2.lenMap
  have L1 := Lib.hid (RdG.len fldK h1)
  have L3 := Lib.hid (RdG.len fldK h3)
  clear v0 v1 v2 v3
  have CM := Lib.hid (Move_any A0 A1 A2 A3 n0 c0 n1 c1 n2 c2 n3 c3 l0 l1 l2 l3 w h0 q0 h1 h2 q2 (by omega) (by omega) h3)
  by_cases hn : n1 = n3
  · subst hn
    have hE : moveE l0 l1 l2 l3 = moveG l0 (l1.drop 0) (l3.drop 0) l2 := by unfold moveE; rw [if_neg (by rw [L1.out, L3.out]; simp)]; rfl
    have hRb : Byt (moveE l0 l1 l2 l3).1 := moveE_byt l0 l1 l3 q2
    generalize moveE l0 l1 l2 l3 = R at *
    obtain ⟨X, eX⟩ := R
    simp only at CM hRb
    have HR := Lib.hid hE.symm
    clear hE
    go_enter Try.func4, Try.ntmps4
    go_wp2_with fail
    refine CM.out.mono ?_
    intro e w1 hG
    obtain ⟨A, c, rfl, hr, hXc, hXm, hw⟩ := hG.open_
    clear CM hG
    generalize hXn : X.length = xn at *
    have HXn := Lib.hid hXn
    clear hXn
    go_wp2_with (at_builtin; go_must (refine wpList_apW (Value.int .u8) _ elByte rfl rfl (one_int .u8) w.heap.size (.slice (some ⟨w1.heap.size, 0, none⟩) 0 0) [] rfl (Ow.empty (Value.int .u8) _ _ hw.size) _ _ _ l2 rfl ((h2.below hw).alloc _) (le_alloc hw.size) (by simp <;> omega) (by omega) ?_; intro v5 w5 ho5 hm5))
    rw [List.nil_append] at ho5
    have hb5 : Below w1.heap.size w1 w5 := hm5.below (fld_below _ _) (le_alloc (Nat.le_refl _)) (new_block (Nat.le_refl _))
    replace hr := hr.below hb5
    replace hw := bthen hw hb5
    clear hb5 hm5
    go_loopw [11, 39] (fun v i wr => ∃ (k : Nat) (cur : List Int), k ≤ n1 ∧ i = .int .i64 k ∧ moveG l0 (l1.drop k) (l3.drop k) cur = (X, eX) ∧ Byt cur ∧ cur.length = n2 ∧ Ow (Value.int .u8) wr w.heap.size 5 v cur ∧ Rd wr 1 A xn (X.map (Value.int .u8)) ∧ Below w.heap.size w wr) (fun _ i _ => n1 - (intOf i).toNat)
    case atStart => exact ⟨0, l2, Nat.zero_le _, rfl, HR.out, q2, L2.out, ho5, hr, hw⟩
    case round =>
      clear ho5 hr hw
      obtain ⟨k, cur, hk, rfl, hR, hbc, hlc, ho, hr, hw⟩ := hrel
      have HR := Lib.hid hR
      have HC := Lib.hid hlc
      clear hR hlc
      obtain ⟨Ac, cc, rfl, hcc, hcm, hrc⟩ := ho.formN HC.out
      by_cases hlt : k < n1
      · obtain ⟨ad, ⟨fr, wd, bg⟩, rfl, hx, p0, p1, p2⟩ := fld_at (Rd.below h1 hw) hlt
        obtain ⟨ad3, ⟨fr3, wd3, bg3⟩, rfl, hx3, p3, p4, p5⟩ := fld_at (Rd.below h3 hw) hlt
        simp only at p0 p1 p2 p3 p4 p5
        have HX := Lib.hid hx
        have HX3 := Lib.hid hx3
        clear hx hx3
        have C1 := Lib.hid (fun (W : World) => WWrong_any ⟨fr, wd, bg⟩ (n0 : Int) W)
        have C2 := Lib.hid (fun (W : World) => WWrong_any ⟨fr3, wd3, bg3⟩ (n2 : Int) W)
        by_cases hz : wrongW ⟨fr, wd, bg⟩ (n0 : Int) = 0
        · by_cases hz2 : wrongW ⟨fr3, wd3, bg3⟩ (n2 : Int) = 0
          · rw [hz] at C1
            rw [hz2] at C2
            have HZ := Lib.hid hz
            obtain ⟨F, n0', e1, e2, ok⟩ := wrongW_zero hz
            obtain ⟨G, n2', e3, e4, ok3⟩ := wrongW_zero hz2
            obtain rfl : n0 = n0' := by omega
            obtain rfl : n2 = n2' := by omega
            have Hz2 := Lib.hid hz2
            clear hz hz2 e1 e3
            rw [e2] at HX HZ
            rw [e4] at HX3 Hz2
            unfold Fld.i at e2 e4
            injection e2 with y1 y2 y3
            injection e4 with y4 y5 y6
            subst y1 y2 y3 y4 y5 y6
            go_wp2_with fail
            refine (C1.out _).mono ?_
            rintro e w6 ⟨rfl, hb6⟩
            clear C1
            replace p3 := bcellF hb6 p3
            replace p4 := bcellF hb6 p4
            replace p5 := bcellF hb6 p5
            replace hr := hr.below hb6
            replace ho := ho.below hb6
            replace hw := bthen hw hb6
            clear p0 p1 p2 hb6 hrc
            go_wp2_with fail
            refine (C2.out _).mono ?_
            rintro e w7 ⟨rfl, hb7⟩
            clear C2 p3 p4 p5
            replace hr := hr.below hb7
            replace ho := ho.below hb7
            replace hw := bthen hw hb7
            clear hb7
            have CG := Lib.hid (fun (W : World) (hW : Below w.heap.size w W) => WGet_any A0 n0 c0 l0 F W (h0.below hW) q0 ok)
            have hwide := ok3.wide
            have hp62 : (2 : Int) ^ G.wd ≤ 2 ^ 62 := pow_le_pow hwide
            have hp0 : (0 : Int) < 2 ^ G.wd := Int.pow_pos (by omega)
            have x1 : IntKind.i64.wrap (2 ^ G.wd) = 2 ^ G.wd := IntWalk.i64_in _ (by omega)
            have hcl : Hid (∀ W, Below w.heap.size w W → (W.cell? (ad.add (k * 3)) = some (.int .i64 (F.fr : Int)) ∧ W.cell? ⟨(ad.add (k * 3)).block, (ad.add (k * 3)).off + 1, none⟩ = some (.int .i64 (F.wd : Int)) ∧ W.cell? ⟨(ad.add (k * 3)).block, (ad.add (k * 3)).off + 2, none⟩ = some (.bool F.bg)) ∧ (W.cell? (ad3.add (k * 3)) = some (.int .i64 (G.fr : Int)) ∧ W.cell? ⟨(ad3.add (k * 3)).block, (ad3.add (k * 3)).off + 1, none⟩ = some (.int .i64 (G.wd : Int)) ∧ W.cell? ⟨(ad3.add (k * 3)).block, (ad3.add (k * 3)).off + 2, none⟩ = some (.bool G.bg))) := fun W hW => by
              obtain ⟨d1, f1, e1, g1, u0, u1, u2⟩ := fld_at (Rd.below h1 hW) hlt
              obtain ⟨d2, f2, e2, g2, u3, u4, u5⟩ := fld_at (Rd.below h3 hW) hlt
              injection e1 with e1
              injection e2 with e2
              subst e1 e2
              rw [HX.out] at g1
              rw [HX3.out] at g2
              injection g1 with g1
              injection g2 with g2
              subst g1 g2
              exact ⟨⟨u0, u1, u2⟩, u3, u4, u5⟩
            have b4 : (k : Int) < (n1 : Int) := by omega
            have b5 : k < n1 := hlt
            have hgz : getF l0 (Fld.i F).fld = getF l0 F := by rw [i_fld]
            go_upto_region 11 with fail
            go_cut [74] (fun s74 wx => s74 = .bool (decide (2 ^ G.wd ≤ getF l0 F)) ∧ Below w7.heap.size w7 wx)
            case first =>
              clear HR HX HX3 HZ Hz2 ok ok3
              generalize getF l0 F = z at *
              have hB : Below w7.heap.size w7 w7.drew := (Below.refl _ _).drew
              refine wp_region_B (by kernel_rfl) ?_
              refine wpAnyB_take (i := 0) (oi := { dst := some 58, op := Op.move (Go.Operand.tmp 13), type := 25, pos := "field.go:56", after := #[], guard := none }) (v := ?v1) rfl (by kernel_rfl) (by kernel_rfl) (by kernel_rfl) (fun _ _ _ h => h) (Or.inl ⟨by rfl, ?hy1⟩) ?rs1
              case hy1 => (intro W hW; go_simp; try with_reducible rfl)
              try simp only [Act.put, List.setIfInBounds_toArray, List.set_cons_zero, List.set_cons_succ]
              refine wpAnyB_take (i := 1) (oi := { dst := some 59, op := Op.binOp Go.BinOp.eql 25 (Go.Operand.tmp 58) (Go.Operand.const (Go.Value.int Go.IntKind.i64 0)) 25, type := 4, pos := "field.go:56", after := #[{ on := 0, ground := Ground.data }], guard := none }) (v := ?v2) rfl (by kernel_rfl) (by kernel_rfl) (by kernel_rfl) (fun _ _ _ h => h) (Or.inl ⟨by rfl, ?hy2⟩) ?rs2
              case hy2 => (intro W hW; go_simp; try with_reducible rfl)
              try simp only [Act.put, List.setIfInBounds_toArray, List.set_cons_zero, List.set_cons_succ]
              refine wpAnyB_take (i := 2) (oi := { dst := some 60, op := Op.move (Go.Operand.tmp 59), type := 4, pos := "field.go:56", after := #[{ on := 1, ground := Ground.data }], guard := none }) (v := ?v3) rfl (by kernel_rfl) (by kernel_rfl) (by kernel_rfl) (fun _ _ _ h => h) (Or.inl ⟨by rfl, ?hy3⟩) ?rs3
              case hy3 => (intro W hW; go_simp; try with_reducible rfl)
              try simp only [Act.put, List.setIfInBounds_toArray, List.set_cons_zero, List.set_cons_succ]
              refine wpAnyB_take (i := 3) (oi := { dst := some 61, op := Op.move (Go.Operand.tmp 0), type := 22, pos := "field.go:56", after := #[{ on := 2, ground := Ground.guard }], guard := some (2, true) }) (v := ?v4) rfl (by kernel_rfl) (by kernel_rfl) (by kernel_rfl) (fun _ _ _ h => h) (Or.inl ⟨by rfl, ?hy4⟩) ?rs4
              case hy4 => (intro W hW; go_simp; try with_reducible rfl)
              try simp only [Act.put, List.setIfInBounds_toArray, List.set_cons_zero, List.set_cons_succ]
              refine wpAnyB_take (i := 4) (oi := { dst := some 62, op := Op.move (Go.Operand.tmp 1), type := 36, pos := "field.go:56", after := #[{ on := 2, ground := Ground.guard }], guard := some (2, true) }) (v := ?v5) rfl (by kernel_rfl) (by kernel_rfl) (by kernel_rfl) (fun _ _ _ h => h) (Or.inl ⟨by rfl, ?hy5⟩) ?rs5
              case hy5 => (intro W hW; go_simp; try with_reducible rfl)
              try simp only [Act.put, List.setIfInBounds_toArray, List.set_cons_zero, List.set_cons_succ]
              refine wpAnyB_take (i := 5) (oi := { dst := some 63, op := Op.move (Go.Operand.tmp 12), type := 3, pos := "field.go:56", after := #[{ on := 2, ground := Ground.guard }], guard := some (2, true) }) (v := ?v6) rfl (by kernel_rfl) (by kernel_rfl) (by kernel_rfl) (fun _ _ _ h => h) (Or.inl ⟨by rfl, ?hy6⟩) ?rs6
              case hy6 => (intro W hW; go_simp; try with_reducible rfl)
              try simp only [Act.put, List.setIfInBounds_toArray, List.set_cons_zero, List.set_cons_succ]
              refine wpAnyB_take (i := 6) (oi := { dst := some 64, op := Op.indexAddr 36 (Go.Operand.tmp 62) (Go.Operand.tmp 63), type := 0, pos := "field.go:56", after := #[{ on := 4, ground := Ground.data }, { on := 5, ground := Ground.data }, { on := 2, ground := Ground.guard }], guard := some (2, true) }) (v := ?v7) rfl (by kernel_rfl) (by kernel_rfl) (by kernel_rfl) (fun _ _ _ h => h) (Or.inl ⟨by rfl, ?hy7⟩) ?rs7
              case hy7 => (intro W hW; go_simp; try with_reducible rfl)
              try simp only [Act.put, List.setIfInBounds_toArray, List.set_cons_zero, List.set_cons_succ]
              refine wpAnyB_take (i := 7) (oi := { dst := some 65, op := Op.load 24 (Go.Operand.tmp 64), type := 24, pos := "field.go:56", after := #[{ on := 6, ground := Ground.data }, { on := 2, ground := Ground.guard }], guard := some (2, true) }) (v := ?v8) rfl (by kernel_rfl) (by kernel_rfl) (by kernel_rfl) (fun _ _ _ h => h) (Or.inl ⟨by rfl, ?hy8⟩) ?rs8
              case hy8 => (intro W hW; obtain ⟨⟨m0, m1, m2⟩, m3, m4, m5⟩ := hcl.out W (bthen hw (bthen hB hW)); go_simp; try with_reducible rfl)
              try simp only [Act.put, List.setIfInBounds_toArray, List.set_cons_zero, List.set_cons_succ]
              refine wpAnyB_take (i := 9) (oi := { dst := some 67, op := Op.move (Go.Operand.tmp 3), type := 36, pos := "field.go:56", after := #[{ on := 2, ground := Ground.guard }], guard := some (2, true) }) (v := ?v9) rfl (by kernel_rfl) (by kernel_rfl) (by kernel_rfl) (fun _ _ _ h => h) (Or.inl ⟨by rfl, ?hy9⟩) ?rs9
              case hy9 => (intro W hW; go_simp; try with_reducible rfl)
              try simp only [Act.put, List.setIfInBounds_toArray, List.set_cons_zero, List.set_cons_succ]
              refine wpAnyB_take (i := 10) (oi := { dst := some 68, op := Op.move (Go.Operand.tmp 12), type := 3, pos := "field.go:56", after := #[{ on := 2, ground := Ground.guard }], guard := some (2, true) }) (v := ?v10) rfl (by kernel_rfl) (by kernel_rfl) (by kernel_rfl) (fun _ _ _ h => h) (Or.inl ⟨by rfl, ?hy10⟩) ?rs10
              case hy10 => (intro W hW; go_simp; try with_reducible rfl)
              try simp only [Act.put, List.setIfInBounds_toArray, List.set_cons_zero, List.set_cons_succ]
              refine wpAnyB_take (i := 11) (oi := { dst := some 69, op := Op.indexAddr 36 (Go.Operand.tmp 67) (Go.Operand.tmp 68), type := 0, pos := "field.go:56", after := #[{ on := 9, ground := Ground.data }, { on := 10, ground := Ground.data }, { on := 2, ground := Ground.guard }], guard := some (2, true) }) (v := ?v11) rfl (by kernel_rfl) (by kernel_rfl) (by kernel_rfl) (fun _ _ _ h => h) (Or.inl ⟨by rfl, ?hy11⟩) ?rs11
              case hy11 => (intro W hW; go_simp; try with_reducible rfl)
              try simp only [Act.put, List.setIfInBounds_toArray, List.set_cons_zero, List.set_cons_succ]
              refine wpAnyB_take (i := 12) (oi := { dst := some 70, op := Op.fieldAddr 24 (Go.Operand.tmp 69) 1, type := 0, pos := "field.go:56", after := #[{ on := 11, ground := Ground.data }, { on := 2, ground := Ground.guard }], guard := some (2, true) }) (v := ?v12) rfl (by kernel_rfl) (by kernel_rfl) (by kernel_rfl) (fun _ _ _ h => h) (Or.inl ⟨by rfl, ?hy12⟩) ?rs12
              case hy12 => (intro W hW; go_simp; try with_reducible rfl)
              try simp only [Act.put, List.setIfInBounds_toArray, List.set_cons_zero, List.set_cons_succ]
              refine wpAnyB_take (i := 13) (oi := { dst := some 71, op := Op.load 3 (Go.Operand.tmp 70), type := 3, pos := "field.go:56", after := #[{ on := 12, ground := Ground.data }, { on := 2, ground := Ground.guard }], guard := some (2, true) }) (v := ?v13) rfl (by kernel_rfl) (by kernel_rfl) (by kernel_rfl) (fun _ _ _ h => h) (Or.inl ⟨by rfl, ?hy13⟩) ?rs13
              case hy13 => (intro W hW; obtain ⟨⟨m0, m1, m2⟩, m3, m4, m5⟩ := hcl.out W (bthen hw (bthen hB hW)); go_simp; try with_reducible rfl)
              try simp only [Act.put, List.setIfInBounds_toArray, List.set_cons_zero, List.set_cons_succ]
              refine wpAnyB_take (i := 14) (oi := { dst := some 72, op := Op.binOp Go.BinOp.shl 3 (Go.Operand.const (Go.Value.int Go.IntKind.i64 1)) (Go.Operand.tmp 71) 3, type := 3, pos := "field.go:56", after := #[{ on := 13, ground := Ground.data }, { on := 2, ground := Ground.guard }], guard := some (2, true) }) (v := ?v14) rfl (by kernel_rfl) (by kernel_rfl) (by kernel_rfl) (fun _ _ _ h => h) (Or.inl ⟨by rfl, ?hy14⟩) ?rs14
              case hy14 => (intro W hW; go_simp; try with_reducible rfl)
              try simp only [Act.put, List.setIfInBounds_toArray, List.set_cons_zero, List.set_cons_succ]
              refine wpAnyB_one (i := 8) (o := { dst := some 66, op := Op.call { callee := Callee.value (Go.Operand.func 15), args := #[Go.Operand.tmp 61, Go.Operand.tmp 65], argTypes := #[22, 24] }, type := 3, pos := "field.go:56", after := #[{ on := 3, ground := Ground.data }, { on := 7, ground := Ground.data }, { on := 2, ground := Ground.chain }, { on := 2, ground := Ground.guard }], guard := some (2, true) }) (by kernel_rfl) rfl (fun K hK => ?_)
              go_simp
              refine (CG.out _ (bthen hw hB)).mono ?_; rintro e wy ⟨rfl, hbk⟩; replace hB := bthen hB hbk
              refine hK.out _ _ hbk ?_
              clear hK K
              try simp only [Act.put, List.setIfInBounds_toArray, List.set_cons_zero, List.set_cons_succ]
              refine wpAnyB_take (i := 15) (oi := { dst := some 73, op := Op.binOp Go.BinOp.geq 3 (Go.Operand.tmp 66) (Go.Operand.tmp 72) 3, type := 4, pos := "field.go:56", after := #[{ on := 8, ground := Ground.data }, { on := 14, ground := Ground.data }, { on := 2, ground := Ground.guard }], guard := some (2, true) }) (v := ?v15) rfl (by kernel_rfl) (by kernel_rfl) (by kernel_rfl) (fun _ _ _ h => h) (Or.inl ⟨by rfl, ?hy15⟩) ?rs15
              case hy15 => (intro W hW; go_simp; try with_reducible rfl)
              try simp only [Act.put, List.setIfInBounds_toArray, List.set_cons_zero, List.set_cons_succ]
              refine wpAnyB_take (i := 16) (oi := { dst := some 74, op := Op.pick (Go.Operand.tmp 60) (Go.Operand.tmp 73) (Go.Operand.const (Go.Value.bool false)), type := 4, pos := "field.go:56", after := #[{ on := 2, ground := Ground.data }, { on := 15, ground := Ground.data }], guard := none }) (v := ?v16) rfl (by kernel_rfl) (by kernel_rfl) (by kernel_rfl) (fun _ _ _ h => h) (Or.inl ⟨by rfl, ?hy16⟩) ?rs16
              case hy16 => (intro W hW; go_simp; try with_reducible rfl)
              try simp only [Act.put, List.setIfInBounds_toArray, List.set_cons_zero, List.set_cons_succ]
              refine wpAnyB_done (by kernel_rfl) ?_
              go_wp2
              go_meet
              exact ⟨rfl, hB⟩
            case rest =>
              obtain ⟨hs, hc⟩ := hcut
              rename World => w8
              replace hr := hr.below hc
              replace ho := ho.below hc
              replace hw := bthen hw hc
              clear hc
              by_cases hge : 2 ^ G.wd ≤ getF l0 F
              · have hd : decide (2 ^ G.wd ≤ getF l0 F) = true := decide_eq_true hge
                rw [hd] at hs
                subst hs
                clear hd
                have e := moves_bad3 L0.out HC.out HX.out HX3.out HR.out HZ.out Hz2.out (by rw [hgz]; exact hge)
                injection e with e1 e2
                subst e1 e2
                obtain rfl : xn = 0 := HXn.out.symm
                clear hge
                go_wp2
                go_ret
                exact ⟨rfl, hw⟩
              · have hd : decide (2 ^ G.wd ≤ getF l0 F) = false := decide_eq_false hge
                rw [hd] at hs
                subst hs
                clear hd
                have HN := Lib.hid (moves_good L0.out HC.out HX.out HX3.out HR.out HZ.out ok3 (by rw [hgz]; omega))
                rw [hgz] at HN
                have hz0 := getF_nonneg l0 F
                have CW := Lib.hid (fun (W : World) (hW : Rd W 1 Ac n2 (cur.map (Value.int .u8))) => WSet_any Ac n2 cc cur G (getF l0 F) W hW hbc ok3 hz0 (by omega))
                have HB := Lib.hid (setF_byt cur G (getF l0 F))
                have HL : Hid ((setF cur G (getF l0 F)).length = n2) := by show _ = _; rw [setF_length, HC.out]
                generalize setF cur G (getF l0 F) = nxt at *
                generalize getF l0 F = z at *
                clear HR HX HX3 HZ Hz2 ok ok3 hge hgz
                have hro := ho.rd
                go_upto_region 15 with fail
                have hB : Below w8.heap.size w8 w8.drew := (Below.refl _ _).drew
                refine wp_region_B (by kernel_rfl) ?_
                refine wpAnyB_take (i := 0) (oi := { dst := some 85, op := Op.move (Go.Operand.tmp 11), type := 22, pos := "field.go:62", after := #[], guard := none }) (v := ?v17) rfl (by kernel_rfl) (by kernel_rfl) (by kernel_rfl) (fun _ _ _ h => h) (Or.inl ⟨by rfl, ?hy17⟩) ?rs17
                case hy17 => (intro W hW; go_simp; try with_reducible rfl)
                try simp only [Act.put, List.setIfInBounds_toArray, List.set_cons_zero, List.set_cons_succ]
                refine wpAnyB_take (i := 1) (oi := { dst := some 86, op := Op.move (Go.Operand.tmp 3), type := 36, pos := "field.go:62", after := #[], guard := none }) (v := ?v18) rfl (by kernel_rfl) (by kernel_rfl) (by kernel_rfl) (fun _ _ _ h => h) (Or.inl ⟨by rfl, ?hy18⟩) ?rs18
                case hy18 => (intro W hW; go_simp; try with_reducible rfl)
                try simp only [Act.put, List.setIfInBounds_toArray, List.set_cons_zero, List.set_cons_succ]
                refine wpAnyB_take (i := 2) (oi := { dst := some 87, op := Op.move (Go.Operand.tmp 12), type := 3, pos := "field.go:62", after := #[], guard := none }) (v := ?v19) rfl (by kernel_rfl) (by kernel_rfl) (by kernel_rfl) (fun _ _ _ h => h) (Or.inl ⟨by rfl, ?hy19⟩) ?rs19
                case hy19 => (intro W hW; go_simp; try with_reducible rfl)
                try simp only [Act.put, List.setIfInBounds_toArray, List.set_cons_zero, List.set_cons_succ]
                refine wpAnyB_take (i := 3) (oi := { dst := some 88, op := Op.indexAddr 36 (Go.Operand.tmp 86) (Go.Operand.tmp 87), type := 0, pos := "field.go:62", after := #[{ on := 1, ground := Ground.data }, { on := 2, ground := Ground.data }], guard := none }) (v := ?v20) rfl (by kernel_rfl) (by kernel_rfl) (by kernel_rfl) (fun _ _ _ h => h) (Or.inl ⟨by rfl, ?hy20⟩) ?rs20
                case hy20 => (intro W hW; go_simp; try with_reducible rfl)
                try simp only [Act.put, List.setIfInBounds_toArray, List.set_cons_zero, List.set_cons_succ]
                refine wpAnyB_take (i := 4) (oi := { dst := some 89, op := Op.load 24 (Go.Operand.tmp 88), type := 24, pos := "field.go:62", after := #[{ on := 3, ground := Ground.data }], guard := none }) (v := ?v21) rfl (by kernel_rfl) (by kernel_rfl) (by kernel_rfl) (fun _ _ _ h => h) (Or.inl ⟨by rfl, ?hy21⟩) ?rs21
                case hy21 => (intro W hW; obtain ⟨⟨m0, m1, m2⟩, m3, m4, m5⟩ := hcl.out W (bthen hw (bthen hB hW)); go_simp; try with_reducible rfl)
                try simp only [Act.put, List.setIfInBounds_toArray, List.set_cons_zero, List.set_cons_succ]
                refine wpAnyB_take (i := 5) (oi := { dst := some 90, op := Op.move (Go.Operand.tmp 0), type := 22, pos := "field.go:62", after := #[], guard := none }) (v := ?v22) rfl (by kernel_rfl) (by kernel_rfl) (by kernel_rfl) (fun _ _ _ h => h) (Or.inl ⟨by rfl, ?hy22⟩) ?rs22
                case hy22 => (intro W hW; go_simp; try with_reducible rfl)
                try simp only [Act.put, List.setIfInBounds_toArray, List.set_cons_zero, List.set_cons_succ]
                refine wpAnyB_take (i := 6) (oi := { dst := some 91, op := Op.move (Go.Operand.tmp 1), type := 36, pos := "field.go:62", after := #[], guard := none }) (v := ?v23) rfl (by kernel_rfl) (by kernel_rfl) (by kernel_rfl) (fun _ _ _ h => h) (Or.inl ⟨by rfl, ?hy23⟩) ?rs23
                case hy23 => (intro W hW; go_simp; try with_reducible rfl)
                try simp only [Act.put, List.setIfInBounds_toArray, List.set_cons_zero, List.set_cons_succ]
                refine wpAnyB_take (i := 7) (oi := { dst := some 92, op := Op.move (Go.Operand.tmp 12), type := 3, pos := "field.go:62", after := #[], guard := none }) (v := ?v24) rfl (by kernel_rfl) (by kernel_rfl) (by kernel_rfl) (fun _ _ _ h => h) (Or.inl ⟨by rfl, ?hy24⟩) ?rs24
                case hy24 => (intro W hW; go_simp; try with_reducible rfl)
                try simp only [Act.put, List.setIfInBounds_toArray, List.set_cons_zero, List.set_cons_succ]
                refine wpAnyB_take (i := 8) (oi := { dst := some 93, op := Op.indexAddr 36 (Go.Operand.tmp 91) (Go.Operand.tmp 92), type := 0, pos := "field.go:62", after := #[{ on := 6, ground := Ground.data }, { on := 7, ground := Ground.data }], guard := none }) (v := ?v25) rfl (by kernel_rfl) (by kernel_rfl) (by kernel_rfl) (fun _ _ _ h => h) (Or.inl ⟨by rfl, ?hy25⟩) ?rs25
                case hy25 => (intro W hW; go_simp; try with_reducible rfl)
                try simp only [Act.put, List.setIfInBounds_toArray, List.set_cons_zero, List.set_cons_succ]
                refine wpAnyB_take (i := 9) (oi := { dst := some 94, op := Op.load 24 (Go.Operand.tmp 93), type := 24, pos := "field.go:62", after := #[{ on := 8, ground := Ground.data }], guard := none }) (v := ?v26) rfl (by kernel_rfl) (by kernel_rfl) (by kernel_rfl) (fun _ _ _ h => h) (Or.inl ⟨by rfl, ?hy26⟩) ?rs26
                case hy26 => (intro W hW; obtain ⟨⟨m0, m1, m2⟩, m3, m4, m5⟩ := hcl.out W (bthen hw (bthen hB hW)); go_simp; try with_reducible rfl)
                try simp only [Act.put, List.setIfInBounds_toArray, List.set_cons_zero, List.set_cons_succ]
                refine wpAnyB_one (i := 10) (o := { dst := some 95, op := Op.call { callee := Callee.value (Go.Operand.func 15), args := #[Go.Operand.tmp 90, Go.Operand.tmp 94], argTypes := #[22, 24] }, type := 3, pos := "field.go:62", after := #[{ on := 5, ground := Ground.data }, { on := 9, ground := Ground.data }], guard := none }) (by kernel_rfl) rfl (fun K hK => ?_)
                go_simp
                refine (CG.out _ (bthen hw hB)).mono ?_; rintro e wy ⟨rfl, hbk⟩; replace hB := bthen hB hbk
                refine hK.out _ _ hbk ?_
                clear hK K
                try simp only [Act.put, List.setIfInBounds_toArray, List.set_cons_zero, List.set_cons_succ]
                refine wpAnyB_one (i := 11) (o := { dst := some 96, op := Op.call { callee := Callee.value (Go.Operand.func 14), args := #[Go.Operand.tmp 85, Go.Operand.tmp 89, Go.Operand.tmp 95], argTypes := #[22, 24, 3] }, type := 22, pos := "field.go:62", after := #[{ on := 0, ground := Ground.data }, { on := 4, ground := Ground.data }, { on := 10, ground := Ground.data }, { on := 10, ground := Ground.chain }], guard := none }) (by kernel_rfl) rfl (fun K hK => ?_)
                go_simp
                refine (CW.out _ (hro.below hB)).mono ?_; rintro e wz ⟨vz, rfl, hoz, hbk⟩; replace hoz := hoz.mono (base' := w.heap.size) (Nat.le_trans hw.size hB.size); replace hB := bthen hB hbk
                refine hK.out _ _ hbk ?_
                clear hK K
                try simp only [Act.put, List.setIfInBounds_toArray, List.set_cons_zero, List.set_cons_succ]
                refine wpAnyB_take (i := 12) (oi := { dst := some 11, op := Op.assign (Go.Operand.tmp 96), type := 22, pos := "field.go:62", after := #[{ on := 11, ground := Ground.data }, { on := 11, ground := Ground.chain }, { on := 0, ground := Ground.phase }, { on := 1, ground := Ground.phase }, { on := 2, ground := Ground.phase }, { on := 3, ground := Ground.phase }, { on := 4, ground := Ground.phase }, { on := 5, ground := Ground.phase }, { on := 6, ground := Ground.phase }, { on := 7, ground := Ground.phase }, { on := 8, ground := Ground.phase }, { on := 9, ground := Ground.phase }, { on := 10, ground := Ground.phase }, { on := 11, ground := Ground.phase }], guard := none }) (v := ?v27) rfl (by kernel_rfl) (by kernel_rfl) (by kernel_rfl) (fun _ _ _ h => h) (Or.inl ⟨by rfl, ?hy27⟩) ?rs27
                case hy27 => (intro W hW; go_simp; try with_reducible rfl)
                try simp only [Act.put, List.setIfInBounds_toArray, List.set_cons_zero, List.set_cons_succ]
                refine wpAnyB_done (by kernel_rfl) ?_
                clear hcl CG CW
                go_wp2
                go_roundw
                case rel => exact ⟨k + 1, nxt, by omega, by go_num, HN.out, HB.out, HL.out, hoz, hr.below hB, bthen hw hB⟩
                case measure => simp [intOf] <;> omega
          · rw [hz] at C1
            have e := moves_bad2 L0.out HC.out HX.out HX3.out HR.out hz hz2
            generalize wrongW ⟨fr3, wd3, bg3⟩ (n2 : Int) = r at *
            injection e with e1 e2
            subst e1 e2
            obtain rfl : xn = 0 := HXn.out.symm
            have y1 : (eX == 0) = false := by simpa using hz2
            have y2 : (eX != 0) = true := by simpa using hz2
            go_wp2_with fail
            refine (C1.out _).mono ?_
            rintro e w6 ⟨rfl, hb6⟩
            clear C1
            replace p3 := bcellF hb6 p3
            replace p4 := bcellF hb6 p4
            replace p5 := bcellF hb6 p5
            replace hw := bthen hw hb6
            clear p0 p1 p2 hb6 hrc hr ho
            go_wp2_with fail
            refine (C2.out _).mono ?_
            rintro e w7 ⟨rfl, hb7⟩
            clear C2 p3 p4 p5
            replace hw := bthen hw hb7
            clear hb7
            go_wp2
            go_quiet (fail)
            go_wp2
            go_ret
            exact ⟨rfl, bthen hw (below_draws ⟨_, rfl⟩)⟩
        · have e := moves_bad1 L0.out HC.out HX.out HX3.out HR.out hz
          generalize wrongW ⟨fr, wd, bg⟩ (n0 : Int) = r at *
          injection e with e1 e2
          subst e1 e2
          obtain rfl : xn = 0 := HXn.out.symm
          have y1 : (eX == 0) = false := by simpa using hz
          have y2 : (eX != 0) = true := by simpa using hz
          go_wp2_with fail
          refine (C1.out _).mono ?_
          rintro e w6 ⟨rfl, hb6⟩
          clear C1 C2 p0 p1 p2 p3 p4 p5 hrc hr ho
          replace hw := bthen hw hb6
          clear hb6
          go_wp2
          go_quiet (fail)
          go_wp2
          go_ret
          exact ⟨rfl, bthen hw (below_draws ⟨_, rfl⟩)⟩
      · obtain rfl : k = n1 := by omega
        have e := (moveG_end (l := l0) (cur := cur) (b := l3) (by rw [L1.out]; exact Nat.le_refl _)).symm.trans HR.out
        injection e with e1 e2
        subst e1 e2
        obtain rfl : n2 = xn := by rw [← HXn.out, HC.out]
        have hcx := run_bytes (P := Try.prog) Try.underlying22 Try.underlying5 Try.underlying9 c hr
        have hcw := run_bytes (P := Try.prog) Try.underlying22 Try.underlying5 Try.underlying9 cc hrc
        clear HR
        go_wp2
        go_ret
        exact ⟨rfl, hw⟩
  · have e : moveE l0 l1 l2 l3 = ([], 1) := by unfold moveE; rw [if_pos (by rw [L1.out, L3.out]; exact hn)]
    rw [e] at CM
    have hne : ((n1 : Int) != (n3 : Int)) = true := by simp; omega
    go_enter Try.func4, Try.ntmps4
    go_wp2_with fail
    refine CM.out.mono ?_
    intro e w1 hG
    obtain ⟨A, c, rfl, hr, _, _, hw⟩ := hG.open_
    clear CM hG
    go_wp2
    go_ret
    exact ⟨rfl, hw⟩
end Go.Proofs.Ytldkmopkakdgnaa
