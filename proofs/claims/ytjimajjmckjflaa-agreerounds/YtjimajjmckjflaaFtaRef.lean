/-
  Contracts of the reference's LWrong, LRest, LFloor.
-/
import Derived.Test.YtjimajjmckjflaaBigWalks5
import Derived.Test.YtjimajjmckjflaaFtaWalks
import Derived.Test.YtjimajjmckjflaaRegionP
namespace Go.Proofs.Ytjimajjmckjflaa
open Go.RowKit
set_option linter.unusedVariables false

set_option maxHeartbeats 1600000 in
theorem LFloor_any (x d : Int) (hx : -4611686018427387904 < x) (hx2 : x < 4611686018427387904) (hd : 0 < d) (hd2 : d < 4611686018427387904) (w : World) :
    Calls Try.prog 27 #[.int .i64 x, .int .i64 d] w fun e w' => e = .returned (.int .i64 (x / d)) ∧ Below w.heap.size w w' := by
  have N1 := Lib.hid (fun (W : World) => NewInt_ex x ⟨by omega, by omega⟩ W)
  have N2 := Lib.hid (fun (W : World) => NewInt_ex d ⟨by omega, by omega⟩ W)
  have D := Lib.hid (fun (W : World) (bz bX bY : Nat) (g1 : IntBox W bz) (g2 : BigAt W bX x) (g3 : BigAt W bY d) => Div_any bz bX bY x d W g1 g2 g3 (by omega) (by omega) hd)
  have hq : in64 (x / d) := by
    have h1 := Int.natAbs_ediv_le_natAbs x d
    exact ⟨by omega, by omega⟩
  have I := Lib.hid (fun (W : World) (bz : Nat) (g2 : BigAt W bz (x / d)) => Int64_any bz (x / d) W g2 hq)
  clear hq
  generalize x / d = Q at *
  go_enter Try.func27, Try.ntmps27
  go_wp2_with fail
  refine (N1.out _).mono ?_
  rintro e w1 ⟨b1, rfl, hX, hb1, hn1⟩
  have hz1 := (IntBox.new w).below hb1 (IntBox.new w).lt
  have hB1 := below_new hb1
  clear hb1 hn1
  go_wp2_with fail
  refine (N2.out _).mono ?_
  rintro e w2 ⟨b2, rfl, hY, hb2, hn2⟩
  have hz2 := hz1.below hb2 hz1.lt
  have hX2 := hX.below hb2
  have hB2 := bthen hB1 hb2
  clear hz1 hX hb2 hn2
  go_wp2_with fail
  refine (D.out _ _ _ _ hz2 hX2 hY).mono ?_
  rintro e w3 ⟨rfl, hD, hg3⟩
  have hB3 := hB2.trans (below_of_grownBy hg3 (Nat.le_refl _) hB2.size)
  clear hz2 hX2 hY hg3
  go_wp2_with fail
  refine (I.out _ _ hD).mono ?_
  rintro e w4 ⟨rfl, hw4⟩
  have hB4 : Below w.heap.size w w4 := hw4 ▸ hB3
  go_wp2
  go_ret
  exact ⟨rfl, hB4⟩

/-! LRest -/
theorem cutL_length (l : List Int) (a b : Nat) : (cutL l a b).length = l.length - a - b := by simp [cutL, sortI_length]
/-- x lies at the end that is asked for. -/
def Beats (G : Bool) (x y : Int) : Prop := (G = true → y ≤ x) ∧ (G = false → x ≤ y)
/-- s[:k] and s[k+1:] with their readings. -/
theorem cuts_int {w : World} {A : Option Addr} {n c k : Nat} {l : List Int} (h : Rd w 1 A n (l.map (Value.int .i64))) (hk : k < n) (hc : n ≤ c) :
    (∀ W, (Instr.slice 22 (.slice A n c) none (some (.int .i64 (k : Int))) none).run Try.prog W = .ok (.slice A k c) W) ∧ Rd w 1 A k ((l.take k).map (Value.int .i64)) ∧
    ∃ B, (∀ W, (Instr.slice 22 (.slice A n c) (some (.int .i64 ((k : Int) + 1))) none none).run Try.prog W = .ok (.slice B (n - (k + 1)) (c - (k + 1))) W) ∧ Rd w 1 B (n - (k + 1)) ((l.drop (k + 1)).map (Value.int .i64)) := by
  refine ⟨fun W => run_to elInt W A n c k (by omega), ?_, _, fun W => run_from elInt W A n c (k + 1) (by omega), ?_⟩
  · have := h.take (k := k) (by omega)
    rwa [Nat.mul_one, ← List.map_take] at this
  · have := h.cut (k := k + 1) (cap := c) (by omega) hc
    simp only [Nat.mul_one] at this ⊢
    rwa [← List.map_drop] at this
theorem two_bools {b : Nat} {G : Bool} (h : [true, false][b]? = some G) : (b = 0 ∧ G = true) ∨ (b = 1 ∧ G = false) := by
  match b, h with
  | 0, h => left; simpa using h.symm
  | 1, h => right; simpa using h.symm
/-- One taken out. -/
theorem out_step {l left : List Int} {j b i : Nat} {x : Int} {G : Bool} (hc : sortI left = cutL l (j + min b 1) (j + (b - 1))) (hb : [true, false][b]? = some G) (hl : 2 * j + 1 < l.length) (hx : left[i]? = some x) (hm : ∀ y ∈ left, Beats G x y) :
    sortI (left.take i ++ left.drop (i + 1)) = cutL l (j + min (b + 1) 1) (j + (b + 1 - 1)) := by
  rcases two_bools hb with ⟨rfl, rfl⟩ | ⟨rfl, rfl⟩
  · rw [out_great hx (fun y hy => (hm y hy).1 rfl), hc]
    exact cutL_great (by omega)
  · rw [out_least hx (fun y hy => (hm y hy).2 rfl), hc]
    exact cutL_least

set_option maxHeartbeats 3200000 in
theorem LRest_any (A : Option Addr) (n c : Nat) (l : List Int) (k : Nat) (w : World) (h : Rd w 1 A n (l.map (Value.int .i64))) (hk : 2 * k < n) (hn : n ≤ 400) :
    Calls Try.prog 26 #[.slice A n c, .int .i64 k] w fun e w' => ∃ v r, e = .returned v ∧ Ow (Value.int .i64) w' w.heap.size 3 v r ∧ sortI r = restL l k ∧ Below w.heap.size w w' := by
  have hl := h.lenMap
  have Hl := Lib.hid hl
  clear hl
  go_enter Try.func26, Try.ntmps26
  go_wp2_with (at_builtin; go_must (refine wpList_apW (Value.int .i64) _ elInt rfl rfl (one_int .i64) w.heap.size (.slice (some ⟨w.heap.size, 0, none⟩) 0 0) [] rfl (Ow.empty (Value.int .i64) _ _ (Nat.le_refl _)) _ _ _ l rfl (h.alloc _) (le_alloc (Nat.le_refl _)) (by simp <;> omega) (by omega) ?_; intro v1 w1 ho1 hm1))
  have hb1 : Below w.heap.size w w1 := hm1.below ((Below.refl _ _).alloc (Nat.le_refl _) _) (le_alloc (Nat.le_refl _)) (new_block (Nat.le_refl _))
  rw [List.nil_append] at ho1
  clear hm1 h
  go_loopw [5, 15] (fun v i wr => ∃ (j : Nat) (left : List Int), j ≤ k ∧ i = .int .i64 j ∧ Ow (Value.int .i64) wr w.heap.size 3 v left ∧ Hid (sortI left = cutL l j j) ∧ Below w.heap.size w wr) (fun _ i _ => k - (intOf i).toNat)
  case atStart => exact ⟨0, l, Nat.zero_le _, rfl, ho1, (cutL_zero l).symm, hb1⟩
  case round =>
    clear ho1 hb1
    rename World => wo
    obtain ⟨j, left, hj, rfl, ho, Hc, hbl⟩ := hrel
    by_cases hlt : j < k
    · have hlb : Rd (wo.alloc (.cells ([true, false].map Value.bool).toArray 4)) 1 (some ⟨wo.heap.size, 0, none⟩) 2 ([true, false].map Value.bool) := Rd.litAt Value.bool [true, false] _ rfl
      have hb2 : Below w.heap.size w (wo.alloc (.cells ([true, false].map Value.bool).toArray 4)) := hbl.alloc hbl.size _
      have ho2 := ho.alloc (.cells ([true, false].map Value.bool).toArray 4)
      obtain ⟨gb, hgb⟩ : ∃ gb, gb = wo.heap.size := ⟨_, rfl⟩
      rw [← hgb] at hlb
      go_wp2
      simp only [List.map_cons, List.map_nil] at hlb hb2 ho2
      change Rd (wo.alloc (.cells #[.bool true, .bool false] 4)) _ _ _ _ at hlb
      change Below _ _ (wo.alloc (.cells #[.bool true, .bool false] 4)) at hb2
      change Ow _ (wo.alloc (.cells #[.bool true, .bool false] 4)) _ _ _ _ at ho2
      rw [← hgb]
      generalize (wo.alloc (.cells #[.bool true, .bool false] 4)) = w2 at *
      clear ho hbl hgb
      go_loopw [5, 19] (fun v i wr => ∃ (b : Nat) (left : List Int), b ≤ 2 ∧ i = .int .i64 b ∧ Ow (Value.int .i64) wr w.heap.size 3 v left ∧ Hid (sortI left = cutL l (j + min b 1) (j + (b - 1))) ∧ Below w2.heap.size w2 wr) (fun _ i _ => 2 - (intOf i).toNat)
      case atStart => exact ⟨0, left, Nat.zero_le _, rfl, ho2, Hc, Below.refl _ _⟩
      case round =>
        clear ho2 Hc left
        obtain ⟨b, left, hb, rfl, ho, Hc, hbl⟩ := hrel
        rename World => wi
        by_cases hlt2 : b < 2
        · obtain ⟨ad, G, had, hG, hcG⟩ := (hlb.below hbl).atMap (f := Value.bool) (l := [true, false]) hlt2
          cases had
          have HG := Lib.hid hG
          replace hcG : wi.cell? ⟨gb, b, none⟩ = some (.bool G) := by simpa [Addr.add_lit] using hcG
          have Hlen : Hid (left.length + 2 * j + b = n) := by
            have e := congrArg List.length Hc.out
            rw [sortI_length, cutL_length, Hl.out] at e
            show _ = _
            omega
          obtain ⟨m, hm⟩ : ∃ m, left.length = m := ⟨_, rfl⟩
          obtain ⟨AL, d, rfl, hmd, hdm, hr⟩ := ho.formN hm
          have hm2 : m + 2 * j + b = n := by rw [← hm]; exact Hlen.out
          obtain ⟨ad, x0, rfl, hx0, hc0⟩ := hr.atMap (k := 0) (by omega)
          have Hm := Lib.hid hm
          have Hx0 := Lib.hid hx0
          clear hG hm hx0 hc0 Hlen
          go_wp2
          go_loop [8, 25] (fun a i => ∃ (p q : Nat) (x : Int), p < m ∧ q ≤ m ∧ a = .int .i64 p ∧ i = .int .i64 q ∧ Hid (left[p]? = some x) ∧ Hid (∀ y ∈ left.take q, Beats G x y)) (fun _ i => m - (intOf i).toNat)
          case atStart => exact ⟨0, 0, x0, by omega, Nat.zero_le _, rfl, rfl, Hx0.out, fun y hy => by simp at hy⟩
          case round =>
            obtain ⟨p, q, x, hp, hq, rfl, rfl, Hx, Hy⟩ := hrel
            obtain ⟨ad', x', had, hx', hcx⟩ := hr.atMap hp
            cases had
            obtain rfl : x = x' := by have := Hx.out.symm.trans hx'; simpa using this
            by_cases hlt3 : q < m
            · obtain ⟨ad', y, had, hy, hcy⟩ := hr.atMap hlt3
              cases had
              have Hyq := Lib.hid hy
              clear hx' hy
              cases G
              · by_cases hyx : y < x
                · go_wp2
                  go_round
                  case rel => exact ⟨q, q + 1, y, hlt3, by omega, by go_num, by go_num, Hyq.out, fun z hz => ⟨(fun e => Bool.noConfusion e), fun _ => by
                    rw [take_snoc Hyq.out] at hz
                    rcases List.mem_append.1 hz with g | g
                    · have := (Hy.out z g).2 rfl; omega
                    · simp at g; omega⟩⟩
                  case measure => simp [intOf] <;> omega
                · go_wp2
                  go_round
                  case rel => exact ⟨p, q + 1, x, hp, by omega, by go_num, by go_num, Hx.out, fun z hz => ⟨(fun e => Bool.noConfusion e), fun _ => by
                    rw [take_snoc Hyq.out] at hz
                    rcases List.mem_append.1 hz with g | g
                    · have := (Hy.out z g).2 rfl; omega
                    · simp at g; omega⟩⟩
                  case measure => simp [intOf] <;> omega
              · by_cases hyx : x < y
                · go_wp2
                  go_round
                  case rel => exact ⟨q, q + 1, y, hlt3, by omega, by go_num, by go_num, Hyq.out, fun z hz => ⟨fun _ => by
                    rw [take_snoc Hyq.out] at hz
                    rcases List.mem_append.1 hz with g | g
                    · have := (Hy.out z g).1 rfl; omega
                    · simp at g; omega, (fun e => Bool.noConfusion e)⟩⟩
                  case measure => simp [intOf] <;> omega
                · go_wp2
                  go_round
                  case rel => exact ⟨p, q + 1, x, hp, by omega, by go_num, by go_num, Hx.out, fun z hz => ⟨fun _ => by
                    rw [take_snoc Hyq.out] at hz
                    rcases List.mem_append.1 hz with g | g
                    · have := (Hy.out z g).1 rfl; omega
                    · simp at g; omega, (fun e => Bool.noConfusion e)⟩⟩
                  case measure => simp [intOf] <;> omega
            · have hnk : q = m := by omega
              subst hnk
              have Hall : Hid (∀ y ∈ left, Beats G x y) := by
                have e := Hy.out
                rwa [List.take_of_length_le (by rw [Hm.out]; exact Nat.le_refl _)] at e
              have Hnew := Lib.hid (out_step Hc.out HG.out (by rw [Hl.out]; omega) Hx.out Hall.out)
              have hin : wi.heap.size = wi.heap.size := rfl
              obtain ⟨s1, s2, B2, s3, s4⟩ := cuts_int hr hp hmd
              have S2 := Lib.hid s2
              have S4 := Lib.hid s4
              have hwb := hb2.trans (hbl.mono hb2.size)
              have hsz := hwb.size
              have Hlt : Hid ((left.take p).length = p) := by show _ = _; rw [List.length_take, Hm.out]; omega
              have hp1 : IntKind.i64.wrap ((p : Int) + 1) = (p : Int) + 1 := IntWalk.i64_in _ (by omega)
              clear hx' hcx s2 s4 Hy Hx Hall Hc HG hr ho hcG hlb
              go_wp2
              refine wp_region_P (by kernel_rfl) ?_
              refine wpAnyP_take (i := 1) (oi := { dst := some 54, op := Op.move (Go.Operand.tmp 5), type := 22, pos := "fta.go:31", after := #[], guard := none }) (v := ?v1) rfl (by kernel_rfl) (by kernel_rfl) (by kernel_rfl) (fun _ _ _ h => h) (Or.inl ⟨by rfl, ?hy1⟩) ?rs1
              case hy1 => (intro W hW; go_simp; try with_reducible rfl)
              try simp only [Act.put, List.setIfInBounds_toArray, List.set_cons_zero, List.set_cons_succ]
              refine wpAnyP_take (i := 2) (oi := { dst := some 55, op := Op.move (Go.Operand.tmp 8), type := 3, pos := "fta.go:31", after := #[], guard := none }) (v := ?v2) rfl (by kernel_rfl) (by kernel_rfl) (by kernel_rfl) (fun _ _ _ h => h) (Or.inl ⟨by rfl, ?hy2⟩) ?rs2
              case hy2 => (intro W hW; go_simp; try with_reducible rfl)
              try simp only [Act.put, List.setIfInBounds_toArray, List.set_cons_zero, List.set_cons_succ]
              refine wpAnyP_take (i := 3) (oi := { dst := some 56, op := Op.slice 22 (Go.Operand.tmp 54) none (some (Go.Operand.tmp 55)) none, type := 22, pos := "fta.go:31", after := #[{ on := 1, ground := Ground.data }, { on := 2, ground := Ground.data }], guard := none }) (v := ?v3) rfl (by kernel_rfl) (by kernel_rfl) (by kernel_rfl) (fun _ _ _ h => h) (Or.inl ⟨by rfl, ?hy3⟩) ?rs3
              case hy3 => (intro W hW; go_simp; try with_reducible rfl)
              try simp only [Act.put, List.setIfInBounds_toArray, List.set_cons_zero, List.set_cons_succ]
              refine wpAnyP_take (i := 5) (oi := { dst := some 58, op := Op.move (Go.Operand.tmp 5), type := 22, pos := "fta.go:31", after := #[], guard := none }) (v := ?v4) rfl (by kernel_rfl) (by kernel_rfl) (by kernel_rfl) (fun _ _ _ h => h) (Or.inl ⟨by rfl, ?hy4⟩) ?rs4
              case hy4 => (intro W hW; go_simp; try with_reducible rfl)
              try simp only [Act.put, List.setIfInBounds_toArray, List.set_cons_zero, List.set_cons_succ]
              refine wpAnyP_take (i := 6) (oi := { dst := some 59, op := Op.move (Go.Operand.tmp 8), type := 3, pos := "fta.go:31", after := #[], guard := none }) (v := ?v5) rfl (by kernel_rfl) (by kernel_rfl) (by kernel_rfl) (fun _ _ _ h => h) (Or.inl ⟨by rfl, ?hy5⟩) ?rs5
              case hy5 => (intro W hW; go_simp; try with_reducible rfl)
              try simp only [Act.put, List.setIfInBounds_toArray, List.set_cons_zero, List.set_cons_succ]
              refine wpAnyP_take (i := 7) (oi := { dst := some 60, op := Op.binOp Go.BinOp.add 3 (Go.Operand.tmp 59) (Go.Operand.const (Go.Value.int Go.IntKind.i64 1)) 3, type := 3, pos := "fta.go:31", after := #[{ on := 6, ground := Ground.data }], guard := none }) (v := ?v6) rfl (by kernel_rfl) (by kernel_rfl) (by kernel_rfl) (fun _ _ _ h => h) (Or.inl ⟨by rfl, ?hy6⟩) ?rs6
              case hy6 => (intro W hW; go_simp; try with_reducible rfl)
              try simp only [Act.put, List.setIfInBounds_toArray, List.set_cons_zero, List.set_cons_succ]
              refine wpAnyP_take (i := 8) (oi := { dst := some 61, op := Op.slice 22 (Go.Operand.tmp 58) (some (Go.Operand.tmp 60)) none none, type := 22, pos := "fta.go:31", after := #[{ on := 5, ground := Ground.data }, { on := 7, ground := Ground.data }], guard := none }) (v := ?v7) rfl (by kernel_rfl) (by kernel_rfl) (by kernel_rfl) (fun _ _ _ h => h) (Or.inl ⟨by rfl, ?hy7⟩) ?rs7
              case hy7 => (intro W hW; go_simp; try with_reducible rfl)
              try simp only [Act.put, List.setIfInBounds_toArray, List.set_cons_zero, List.set_cons_succ]
              refine wpAnyP_one (i := 0) (o := { dst := some 53, op := Op.buildSlice 22 0 #[], type := 22, pos := "fta.go:31", after := #[], guard := none }) (by kernel_rfl) rfl (fun K hK => ?_)
              go_simp
              skip
              refine hK.out _ _ ?_
              clear hK K
              try simp only [Act.put, List.setIfInBounds_toArray, List.set_cons_zero, List.set_cons_succ]
              refine wpAnyP_one (i := 4) (o := { dst := some 57, op := Op.call { callee := Callee.builtin Builtin.append, args := #[Go.Operand.tmp 53, Go.Operand.tmp 56], argTypes := #[22, 22] }, type := 22, pos := "fta.go:31", after := #[{ on := 0, ground := Ground.data }, { on := 3, ground := Ground.data }], guard := none }) (by kernel_rfl) rfl (fun K hK => ?_)
              rw [if_pos (by rfl)]
              refine wp_apW (Value.int .i64) _ elInt rfl (one_int .i64) wi.heap.size (.slice (some ⟨wi.heap.size, 0, none⟩) 0 0) [] rfl (Ow.empty (Value.int .i64) wi.drew _ (Nat.le_refl _)) _ _ _ (left.take p) rfl (S2.out.drew.alloc _) (le_alloc (Nat.le_refl _)) (by simp <;> omega) (by decide) ?_; intro v4 w4 ho4 hm4; have hb4 : Below wi.heap.size wi w4 := hm4.below (((Below.refl _ _).alloc (Nat.le_refl _) _).drew) (le_alloc (Nat.le_refl _)) (new_block (Nat.le_refl _)); rw [List.nil_append] at ho4; clear hm4
              refine hK.out _ _ ?_
              clear hK K
              try simp only [Act.put, List.setIfInBounds_toArray, List.set_cons_zero, List.set_cons_succ]
              refine wpAnyP_one (i := 9) (o := { dst := some 62, op := Op.call { callee := Callee.builtin Builtin.append, args := #[Go.Operand.tmp 57, Go.Operand.tmp 61], argTypes := #[22, 22] }, type := 22, pos := "fta.go:31", after := #[{ on := 4, ground := Ground.data }, { on := 8, ground := Ground.data }, { on := 4, ground := Ground.chain }], guard := none }) (by kernel_rfl) rfl (fun K hK => ?_)
              rw [if_pos (by rfl)]
              refine wp_apW (Value.int .i64) _ elInt rfl (one_int .i64) wi.heap.size v4 (left.take p) rfl ho4 _ _ _ (left.drop (p + 1)) rfl (S4.out.below hb4) hb4.size (by rw [Hlt.out]; omega) (by decide) ?_; intro v5 w5 ho5 hm5; have hb5 : Below wi.heap.size wi w5 := hm5.below hb4 hb4.size ho4.block
              refine hK.out _ _ ?_
              clear hK K
              try simp only [Act.put, List.setIfInBounds_toArray, List.set_cons_zero, List.set_cons_succ]
              refine wpAnyP_take (i := 10) (oi := { dst := some 5, op := Op.assign (Go.Operand.tmp 62), type := 22, pos := "fta.go:31", after := #[{ on := 9, ground := Ground.data }, { on := 9, ground := Ground.chain }, { on := 0, ground := Ground.phase }, { on := 1, ground := Ground.phase }, { on := 2, ground := Ground.phase }, { on := 3, ground := Ground.phase }, { on := 4, ground := Ground.phase }, { on := 5, ground := Ground.phase }, { on := 6, ground := Ground.phase }, { on := 7, ground := Ground.phase }, { on := 8, ground := Ground.phase }, { on := 9, ground := Ground.phase }], guard := none }) (v := ?v8) rfl (by kernel_rfl) (by kernel_rfl) (by kernel_rfl) (fun _ _ _ h => h) (Or.inl ⟨by rfl, ?hy8⟩) ?rs8
              case hy8 => (intro W hW; go_simp; try with_reducible rfl)
              try simp only [Act.put, List.setIfInBounds_toArray, List.set_cons_zero, List.set_cons_succ]
              refine wpAnyP_done (by kernel_rfl) ?_
              go_wp2
              go_roundw
              case rel => exact ⟨b + 1, _, by omega, by go_num, ho5.mono hsz, Hnew.out, bthen hbl hb5⟩
              case measure => simp [intOf] <;> omega
        · have hb3 : b = 2 := by omega
          subst hb3
          have hB := hb2.trans (hbl.mono hb2.size)
          go_wp2
          go_roundw
          case rel => exact ⟨j + 1, left, by omega, by go_num, ho, Hc.out, hB⟩
          case measure => simp [intOf] <;> omega
    · have hnk : j = k := by omega
      subst hnk
      go_wp2
      go_ret
      exact ⟨_, left, rfl, ho, Hc.out, hbl⟩
end Go.Proofs.Ytjimajjmckjflaa
