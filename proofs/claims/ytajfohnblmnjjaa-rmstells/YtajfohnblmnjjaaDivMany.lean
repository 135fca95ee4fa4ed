/-
  Contract of the reference's parts where the divisor has two digits or more.
-/
import Derived.Test.YtajfohnblmnjjaaJ5
import Derived.Test.YtajfohnblmnjjaaJ3
namespace Go.Proofs.Ytajfohnblmnjjaa
open Go.RowKit
set_option linter.unusedVariables false

theorem pow2_next {s : Nat} {p q : Int} (h : Pow2 s p q) (hs : s < 32) : ∃ q', Pow2 (s + 1) (2 * p) q' := by
  have := pow2_of (s := s + 1) (by omega)
  have e : ((2 ^ (s + 1) : Nat) : Int) = 2 * p := by rw [Nat.pow_succ, h.ps, Int.natCast_mul]; omega
  rw [e] at this
  exact ⟨_, this⟩
theorem pow2_lt {s : Nat} {p q : Int} (h : Pow2 s p q) (hs : p < 2147483648) : s < 31 := by
  rcases Nat.lt_or_ge s 31 with g | g
  · exact g
  · have h1 : 2 ^ 31 ≤ 2 ^ s := Nat.pow_le_pow_right (by decide) g
    have := h.ps
    omega
/-- A difference in u64 of three: its lower half and its highest bit. -/
theorem borrow2 {a c b : Int} (a0 : 0 ≤ a) (a1 : a < 4294967296) (c0 : 0 ≤ c) (c1 : c < 4294967296) (b0 : 0 ≤ b) (b1 : b ≤ 1) :
    ∃ v1 v2 : Int, IntKind.u64.wrap (a - c) = v1 ∧ IntKind.u64.wrap (v1 - b) = v2 ∧ 0 ≤ v2 ∧ v2 ≤ 18446744073709551615 ∧ v2 % 4294967296 = (a - c - b) % 4294967296 ∧ v2 / 9223372036854775808 = (if a - c - b < 0 then 1 else 0) := by
  refine ⟨_, _, rfl, rfl, ?_⟩
  rw [IntKind.wrap_u64, IntKind.wrap_u64]
  split <;> omega
theorem set_mid {U lo : List Int} {k i : Nat} (hl : lo.length = i) (hk : k + i < U.length) (a : Int) : (U.take k ++ (lo ++ U.drop (k + i))).set (k + i) a = U.take k ++ (lo ++ a :: U.drop (k + i + 1)) := by
  subst hl
  have h1 : (U.take k).length = k := by rw [List.length_take]; omega
  rw [List.set_append_right _ _ (by omega), h1, show k + lo.length - k = lo.length by omega, List.set_append_right _ _ (Nat.le_refl _), Nat.sub_self, drop_cons (List.getElem?_eq_getElem hk), List.set_cons_zero]
theorem at_mid {U lo : List Int} {k i : Nat} (hl : lo.length = i) (hk : k + i < U.length) : (U.take k ++ (lo ++ U.drop (k + i)))[k + i]? = U[k + i]? := by
  subst hl
  have h1 : (U.take k).length = k := by rw [List.length_take]; omega
  rw [List.getElem?_append_right (by omega), h1, show k + lo.length - k = lo.length by omega, List.getElem?_append_right (Nat.le_refl _), Nat.sub_self, List.getElem?_drop, Nat.add_zero]
theorem set_mid2 {U lo lo2 T : List Int} {k i : Nat} (h1 : (U.take k).length = k) (hl : lo2.length = i) (hi : i < lo.length) (a : Int) : (U.take k ++ (lo2 ++ (lo.drop i ++ T))).set (k + i) a = U.take k ++ ((lo2 ++ [a]) ++ (lo.drop (i + 1) ++ T)) := by
  subst hl
  rw [List.set_append_right _ _ (by omega), h1, show k + lo2.length - k = lo2.length by omega, List.set_append_right _ _ (Nat.le_refl _), Nat.sub_self, drop_cons (List.getElem?_eq_getElem hi), List.cons_append, List.set_cons_zero]
  simp
theorem at_mid2 {U lo lo2 T : List Int} {k i : Nat} (h1 : (U.take k).length = k) (hl : lo2.length = i) (hi : i < lo.length) : (U.take k ++ (lo2 ++ (lo.drop i ++ T)))[k + i]? = lo[i]? := by
  subst hl
  rw [List.getElem?_append_right (by omega), h1, show k + lo2.length - k = lo2.length by omega, List.getElem?_append_right (Nat.le_refl _), Nat.sub_self, List.getElem?_append_left (by rw [List.length_drop]; omega), List.getElem?_drop, Nat.add_zero]
theorem set_top {U lo T : List Int} {k n : Nat} (h1 : (U.take k).length = k) (hl : lo.length = n) (z a : Int) : (U.take k ++ (lo ++ z :: T)).set (k + n) a = U.take k ++ (lo ++ a :: T) := by
  subst hl
  rw [List.set_append_right _ _ (by omega), h1, show k + lo.length - k = lo.length by omega, List.set_append_right _ _ (Nat.le_refl _), Nat.sub_self, List.set_cons_zero]
theorem at_top {U lo T : List Int} {k n : Nat} (h1 : (U.take k).length = k) (hl : lo.length = n) (z : Int) : (U.take k ++ (lo ++ z :: T))[k + n]? = some z := by
  subst hl
  rw [List.getElem?_append_right (by omega), h1, show k + lo.length - k = lo.length by omega, List.getElem?_append_right (Nat.le_refl _), Nat.sub_self]
  rfl
/-- The rows at hand: what is divided, the quotient, the divisor. -/
structure DSt (w wr : World) (gu cu gv go N n : Nat) (U O Vl : List Int) : Prop where
  ou : Ow (Value.int .u32) wr w.heap.size 84 (.slice (some ⟨gu, 0, none⟩) N cu) U
  oo : Ow (Value.int .u32) wr w.heap.size 84 (.slice (some ⟨go, 0, none⟩) N N) O
  rv : Rd wr 1 (some ⟨gv, 0, none⟩) n (Vl.map (Value.int .u32))
  bu : w.heap.size ≤ gu
  bo : w.heap.size ≤ go
  uv : gu ≠ gv
  uo : gu ≠ go
  ov : go ≠ gv
  bel : Below w.heap.size w wr
section
variable {w wr : World} {gu cu gv go N n : Nat} {U O Vl : List Int}
theorem DSt.drewN (h : DSt w wr gu cu gv go N n U O Vl) (q : Nat) : DSt w (wr.drewN q) gu cu gv go N n U O Vl :=
  ⟨h.ou, h.oo, h.rv.drewN q, h.bu, h.bo, h.uv, h.uo, h.ov, bthen h.bel (below_draws ⟨q, rfl⟩)⟩
theorem DSt.putU (h : DSt w wr gu cu gv go N n U O Vl) (k : Nat) (a : Int) : DSt w (wr.setCell ⟨gu, k, none⟩ (.int .u32 a)) gu cu gv go N n (U.set k a) O Vl := by
  have g := grownBy_setCell wr ⟨gu, k, none⟩ (.int .u32 a)
  refine ⟨h.ou.put k a, h.oo.keep g (fun j hj e => ?_), Rd.grownG h.rv g (fun ad e1 e2 => ?_), h.bu, h.bo, h.uv, h.uo, h.ov, below_grown h.bel g h.bu h.bel.size⟩
  · simp [Value.ownBlock] at hj; injection e with e; have e' : j = gu := e; exact h.uo (by omega)
  · injection e1 with e1; subst e1; injection e2 with e2; exact h.uv e2.symm
theorem DSt.putO (h : DSt w wr gu cu gv go N n U O Vl) (k : Nat) (a : Int) : DSt w (wr.setCell ⟨go, k, none⟩ (.int .u32 a)) gu cu gv go N n U (O.set k a) Vl := by
  have g := grownBy_setCell wr ⟨go, k, none⟩ (.int .u32 a)
  refine ⟨h.ou.keep g (fun j hj e => ?_), h.oo.put k a, Rd.grownG h.rv g (fun ad e1 e2 => ?_), h.bu, h.bo, h.uv, h.uo, h.ov, below_grown h.bel g h.bo h.bel.size⟩
  · simp [Value.ownBlock] at hj; injection e with e; have e' : j = go := e; exact h.uo (by omega)
  · injection e1 with e1; subst e1; injection e2 with e2; exact h.ov e2.symm
theorem DSt.blocks (h : DSt w wr gu cu gv go N n U O Vl) : gu < wr.heap.size ∧ go < wr.heap.size := ⟨h.ou.inHeap gu rfl, h.oo.inHeap go rfl⟩
theorem DSt.atU (h : DSt w wr gu cu gv go N n U O Vl) {k : Nat} {a : Int} (ha : U[k]? = some a) : wr.cell? ⟨gu, k, none⟩ = some (.int .u32 a) ∧ wr.frozen? ⟨gu, k, none⟩ = false := ⟨h.ou.cellAt ha, h.ou.freeAt k⟩
theorem DSt.atO (h : DSt w wr gu cu gv go N n U O Vl) {k : Nat} {a : Int} (ha : O[k]? = some a) : wr.cell? ⟨go, k, none⟩ = some (.int .u32 a) ∧ wr.frozen? ⟨go, k, none⟩ = false := ⟨h.oo.cellAt ha, h.oo.freeAt k⟩
theorem DSt.atV (h : DSt w wr gu cu gv go N n U O Vl) {k : Nat} {a : Int} (ha : Vl[k]? = some a) : wr.cell? ⟨gv, k, none⟩ = some (.int .u32 a) := by
  have hn : k < n := by
    have := h.rv.lenMap
    have := (List.getElem?_eq_some_iff.1 ha).1
    omega
  obtain ⟨ad, b, e, hb, hc⟩ := h.rv.atMap hn
  injection e with e
  subst e
  rw [ha] at hb
  injection hb with hb
  subst hb
  have e : (⟨gv, 0, none⟩ : Addr).add k = ⟨gv, k, none⟩ := by unfold Addr.add; split <;> simp_all
  rwa [e] at hc
end
theorem Ow.headN {w : World} {base n : Nat} {e : TypeId} {v : Value} {l : List Int} (h : Ow (Value.int .u32) w base e v l) (hn : l.length = n) (h0 : 0 < n) : ∃ g c, v = .slice (some ⟨g, 0, none⟩) n c ∧ base ≤ g ∧ n ≤ c ∧ c ≤ maxLen := by
  subst hn
  exact h.head h0
set_option maxRecDepth 100000 in
set_option maxHeartbeats 6400000 in
theorem parts_many (A : Option Addr) (m c : Nat) (x : List Int) (B : Option Addr) (n d : Nat) (y : List Int) (w : World) (hx : Rd w 1 A m (x.map (Value.int .u32))) (hy : Rd w 1 B n (y.map (Value.int .u32))) (dx : Dig x) (dy : Dig y) (hty : Trim y) (hm : m ≤ 1000000) (hn2 : 2 ≤ n) (hnm : n ≤ m) :
    Calls Try.prog 76 #[.slice A m c, .slice B n d] w (GivesParts x y w) := by
  have Hlx := Lib.hid hx.lenMap
  have hly := hy.lenMap
  have Hly := Lib.hid hly
  obtain ⟨yd, yt, rfl, hyt, hcyt⟩ := hy.atMap (k := n - 1) (by omega)
  have hyt1 : 1 ≤ yt := by
    have h0 := (dy.at hyt).1
    have : yt ≠ 0 := by
      intro e
      apply hty
      rw [List.getLast?_eq_getElem?, hly, hyt, e]
    omega
  have hytB := (dy.at hyt).2
  have hge := mag_ge dy hty (by omega)
  rw [hly] at hge
  have Hge := Lib.hid hge
  have Hyt := Lib.hid hyt
  have hn1' : ((n : Int) == 1) = false := by rw [beq_eq_false_iff_ne]; omega
  have hi1 : ((n : Int) - 1).toNat = n - 1 := by omega
  clear hly hge hyt hty
  go_enter Try.func76, Try.ntmps76
  go_wp2
  go_loop [9] (fun i => ∃ (s : Nat) (p q : Int), s < 32 ∧ i = .int .i64 s ∧ Pow2 s p q ∧ yt * p < 4294967296) (fun i => 32 - (intOf i).toNat)
  case atStart => exact ⟨0, 1, 4294967296, by decide, rfl, ⟨by decide, by decide, by decide, rfl, rfl⟩, by omega⟩
  case round =>
    obtain ⟨s, p, q, hs, rfl, hp, hyp⟩ := hrel
    have hps : (2 : Int) ^ s = p := by rw [hp.ps]; simp
    have hs' : (s : Int) < 32 := by omega
    have hst : ((s : Int)).toNat = s := by omega
    have hp1 := hp.p1
    have hyp0 : 0 ≤ yt * p := Int.mul_nonneg (by omega) (by omega)
    by_cases hlt : yt * p < 2147483648
    · as_aux_lemma =>
        have hple : p ≤ yt * p := by have := mul_le_r (show 0 ≤ p by omega) hyt1; omega
        have hs31 := pow2_lt hp (by omega)
        obtain ⟨q', hp'⟩ := pow2_next hp (by omega)
        have hdv : yt * p / 2147483648 = 0 := by omega
        have Hp' := Lib.hid hp'
        clear hp hp'
        go_wp2
        go_round
        case rel => exact ⟨s + 1, 2 * p, q', by omega, by go_num, Hp'.out, by rw [Int.mul_left_comm]; omega⟩
        case measure => simp [intOf] <;> omega
    · have hdv : ((yt * p / 2147483648) == 0) = false := by rw [beq_eq_false_iff_ne]; omega
      have Hp := Lib.hid hp
      have C1 := Lib.hid (fun (W : World) (hW : Rd W 1 (some yd) n (y.map (Value.int .u32))) => shiftLeft_any (some yd) n d y s hs p q hp W hW dy (by omega))
      have C2 := Lib.hid (fun (W : World) (hW : Rd W 1 A m (x.map (Value.int .u32))) => shiftLeft_any A m c x s hs p q hp W hW dx hm)
      have l1 : Hid ((shlL p 0 y).length = n + 1) := by show _ = _; rw [shlL_len, Hly.out]
      have l2 : Hid ((shlL p 0 x).length = m + 1) := by show _ = _; rw [shlL_len, Hlx.out]
      have Hyx := Lib.hid hlt
      clear hp
      go_upto_region 14 with fail
      go_cut [11, 12] (fun s11 s12 wx => ∃ gv cv gu cu, s11 = .slice (some ⟨gv, 0, none⟩) n cv ∧ s12 = .slice (some ⟨gu, 0, none⟩) (m + 1) cu ∧ gv ≠ gu ∧ n ≤ cv ∧ m + 1 ≤ cu ∧ Ow (Value.int .u32) wx w.heap.size 84 (.slice (some ⟨gv, 0, none⟩) n cv) ((shlL p 0 y).take n) ∧ Ow (Value.int .u32) wx w.heap.size 84 (.slice (some ⟨gu, 0, none⟩) (m + 1) cu) (shlL p 0 x) ∧ Below w.heap.size w wx)
      case first => as_aux_lemma =>
          have hB : Below w.heap.size w w.drew := (Below.refl _ _).drew
          refine wp_region_B (by kernel_rfl) ?_
          refine wpAnyB_take (i := 0) (oi := { dst := some 81, op := Op.move (Go.Operand.tmp 1), type := 65, pos := "big.go:268", after := #[], guard := none }) (v := ?v1) rfl (by kernel_rfl) (by kernel_rfl) (by kernel_rfl) (fun _ _ _ h => h) (Or.inl ⟨by rfl, ?hy1⟩) ?rs1
          case hy1 => (intro W hW; go_simp; try with_reducible rfl)
          try simp only [Act.put, List.setIfInBounds_toArray, List.set_cons_zero, List.set_cons_succ]
          refine wpAnyB_take (i := 1) (oi := { dst := some 82, op := Op.move (Go.Operand.tmp 9), type := 3, pos := "big.go:268", after := #[], guard := none }) (v := ?v2) rfl (by kernel_rfl) (by kernel_rfl) (by kernel_rfl) (fun _ _ _ h => h) (Or.inl ⟨by rfl, ?hy2⟩) ?rs2
          case hy2 => (intro W hW; go_simp; try with_reducible rfl)
          try simp only [Act.put, List.setIfInBounds_toArray, List.set_cons_zero, List.set_cons_succ]
          refine wpAnyB_take (i := 3) (oi := { dst := some 84, op := Op.move (Go.Operand.tmp 10), type := 3, pos := "big.go:268", after := #[], guard := none }) (v := ?v3) rfl (by kernel_rfl) (by kernel_rfl) (by kernel_rfl) (fun _ _ _ h => h) (Or.inl ⟨by rfl, ?hy3⟩) ?rs3
          case hy3 => (intro W hW; go_simp; try with_reducible rfl)
          try simp only [Act.put, List.setIfInBounds_toArray, List.set_cons_zero, List.set_cons_succ]
          refine wpAnyB_take (i := 5) (oi := { dst := some 86, op := Op.move (Go.Operand.tmp 0), type := 65, pos := "big.go:268", after := #[], guard := none }) (v := ?v4) rfl (by kernel_rfl) (by kernel_rfl) (by kernel_rfl) (fun _ _ _ h => h) (Or.inl ⟨by rfl, ?hy4⟩) ?rs4
          case hy4 => (intro W hW; go_simp; try with_reducible rfl)
          try simp only [Act.put, List.setIfInBounds_toArray, List.set_cons_zero, List.set_cons_succ]
          refine wpAnyB_take (i := 6) (oi := { dst := some 87, op := Op.move (Go.Operand.tmp 9), type := 3, pos := "big.go:268", after := #[], guard := none }) (v := ?v5) rfl (by kernel_rfl) (by kernel_rfl) (by kernel_rfl) (fun _ _ _ h => h) (Or.inl ⟨by rfl, ?hy5⟩) ?rs5
          case hy5 => (intro W hW; go_simp; try with_reducible rfl)
          try simp only [Act.put, List.setIfInBounds_toArray, List.set_cons_zero, List.set_cons_succ]
          refine wpAnyB_one (i := 2) (o := { dst := some 83, op := Op.call { callee := Callee.value (Go.Operand.func 80), args := #[Go.Operand.tmp 81, Go.Operand.tmp 82], argTypes := #[65, 3] }, type := 65, pos := "big.go:268", after := #[{ on := 0, ground := Ground.data }, { on := 1, ground := Ground.data }], guard := none }) (by kernel_rfl) rfl (fun K hK => ?_)
          go_simp
          refine (C1.out _ (hy.below hB)).mono ?_; rintro e w7 ⟨v7, rfl, ho7, hbk⟩; obtain ⟨g7, c7, rfl, hg7, hc7, -⟩ := ho7.headN l1.out (by omega); have hi7 := ho7.inHeap g7 rfl; have hs7 := hbk.size; (try replace ho8 := ho8.below hbk); replace ho7 := ho7.mono hB.size; replace hB := bthen hB hbk
          refine hK.out _ _ hbk ?_
          clear hK K
          try simp only [Act.put, List.setIfInBounds_toArray, List.set_cons_zero, List.set_cons_succ]
          refine wpAnyB_take (i := 4) (oi := { dst := some 85, op := Op.slice 65 (Go.Operand.tmp 83) none (some (Go.Operand.tmp 84)) none, type := 65, pos := "big.go:268", after := #[{ on := 2, ground := Ground.data }, { on := 3, ground := Ground.data }], guard := none }) (v := ?v6) rfl (by kernel_rfl) (by kernel_rfl) (by kernel_rfl) (fun _ _ _ h => h) (Or.inl ⟨by rfl, ?hy6⟩) ?rs6
          case hy6 => (intro W hW; have g1 := run_to (P := Try.prog) elU32 W (some ⟨g7, 0, none⟩) (n + 1) c7 n (by omega); go_simp; try with_reducible rfl)
          try simp only [Act.put, List.setIfInBounds_toArray, List.set_cons_zero, List.set_cons_succ]
          refine wpAnyB_one (i := 7) (o := { dst := some 88, op := Op.call { callee := Callee.value (Go.Operand.func 80), args := #[Go.Operand.tmp 86, Go.Operand.tmp 87], argTypes := #[65, 3] }, type := 65, pos := "big.go:268", after := #[{ on := 5, ground := Ground.data }, { on := 6, ground := Ground.data }, { on := 2, ground := Ground.chain }], guard := none }) (by kernel_rfl) rfl (fun K hK => ?_)
          go_simp
          refine (C2.out _ (hx.below hB)).mono ?_; rintro e w8 ⟨v8, rfl, ho8, hbk⟩; obtain ⟨g8, c8, rfl, hg8, hc8, -⟩ := ho8.headN l2.out (by omega); have hi8 := ho8.inHeap g8 rfl; have hs8 := hbk.size; (try replace ho7 := ho7.below hbk); replace ho8 := ho8.mono hB.size; replace hB := bthen hB hbk
          refine hK.out _ _ hbk ?_
          clear hK K
          try simp only [Act.put, List.setIfInBounds_toArray, List.set_cons_zero, List.set_cons_succ]
          refine wpAnyB_take (i := 8) (oi := { dst := some 11, op := Op.assign (Go.Operand.tmp 85), type := 65, pos := "big.go:268", after := #[{ on := 4, ground := Ground.data }, { on := 7, ground := Ground.chain }, { on := 0, ground := Ground.phase }, { on := 1, ground := Ground.phase }, { on := 2, ground := Ground.phase }, { on := 3, ground := Ground.phase }, { on := 4, ground := Ground.phase }, { on := 5, ground := Ground.textOnly Go.Departure.lateStores }, { on := 6, ground := Ground.textOnly Go.Departure.lateStores }, { on := 7, ground := Ground.textOnly Go.Departure.lateStoresUnsure }], guard := none }) (v := ?v7) rfl (by kernel_rfl) (by kernel_rfl) (by kernel_rfl) (fun _ _ _ h => h) (Or.inl ⟨by rfl, ?hy7⟩) ?rs7
          case hy7 => (intro W hW; go_simp; try with_reducible rfl)
          try simp only [Act.put, List.setIfInBounds_toArray, List.set_cons_zero, List.set_cons_succ]
          refine wpAnyB_take (i := 9) (oi := { dst := some 12, op := Op.assign (Go.Operand.tmp 88), type := 65, pos := "big.go:268", after := #[{ on := 7, ground := Ground.data }, { on := 8, ground := Ground.chain }, { on := 0, ground := Ground.phase }, { on := 1, ground := Ground.phase }, { on := 2, ground := Ground.phase }, { on := 3, ground := Ground.phase }, { on := 4, ground := Ground.phase }, { on := 5, ground := Ground.phase }, { on := 6, ground := Ground.phase }, { on := 7, ground := Ground.phase }, { on := 8, ground := Ground.phase }], guard := none }) (v := ?v8) rfl (by kernel_rfl) (by kernel_rfl) (by kernel_rfl) (fun _ _ _ h => h) (Or.inl ⟨by rfl, ?hy8⟩) ?rs8
          case hy8 => (intro W hW; go_simp; try with_reducible rfl)
          try simp only [Act.put, List.setIfInBounds_toArray, List.set_cons_zero, List.set_cons_succ]
          refine wpAnyB_done (by kernel_rfl) ?_
          all_goals
            go_wp2
            go_meet
            exact ⟨g7, c7, g8, c8, rfl, rfl, by omega, by omega, by omega, ho7.cutTo (by omega), ho8, hB⟩
      case rest =>
        obtain ⟨gv, cv, gu, cu, rfl, rfl, hne, hcv, hcu, hov, hou, hbc⟩ := hcut
        obtain ⟨hVm, dV, hVl, v1, hv1, hv11⟩ := vl_of Hp.out dy Hly.out (by omega) Hyt.out hyp Hge.out
        have hDS := start_of Hp.out dx Hlx.out (n := n) (by omega) hnm Hge.out
        have hVpos : 0 < mag y * p := by
          have a1 := pow32_pos (n - 1)
          have a2 := Hge.out
          exact Int.mul_pos (by omega) (by omega)
        have hVlt : Hid (mag y * p < pow32 n) := by
          show _ < _
          have := mag_lt dV
          rwa [hVm, hVl] at this
        have hrest := Lib.hid (rest_of (X := mag x) (Y := mag y) hp1 (by have a1 := pow32_pos (n - 1); have a2 := Hge.out; omega))
        have Hp2 := Lib.hid Hp.out
        generalize hVe : (shlL p 0 y).take n = Vl at *
        generalize shlL p 0 x = U0 at *
        have rv := hov.rd
        have hgv := hov.inHeap gv rfl
        have hgu := hou.inHeap gu rfl
        have hbu := hou.block gu rfl
        have hmk := run_mk elU32 rfl .i64 .i64 (m + 1) (m + 1) (Nat.le_refl _) (by omega) (by omega)
        rw [show ((m + 1 : Nat) : Int) = (m : Int) + 1 from rfl] at hmk
        have ho0 := Ow.make (Value.int .u32) 0 wc 84 (base := w.heap.size) (m + 1) (by unfold maxLen; omega) hbc.size
        have S0 : DSt w (wc.alloc (.cells (madeCells #[.int .u32 0] (m + 1)) 84)) gu cu gv wc.heap.size (m + 1) n U0 (List.replicate (m + 1) 0) Vl :=
          ⟨hou.alloc _, ho0, rv.alloc _, hbu, hbc.size, fun e => hne e.symm, by omega, by omega, hbc.alloc hbc.size _⟩
        have HS0 := Lib.hid S0
        have HDS := Lib.hid hDS
        clear S0 hDS ho0 rv hov hou C1 C2 hp1 l2 l1 hgv hgu hbu
        go_wp2
        generalize wc.heap.size = go at *
        go_loopw [14] (fun i wr => ∃ (kk : Nat) (U O : List Int), kk ≤ m + 1 - n ∧ i = .int .i64 ((kk : Int) - 1) ∧ DivSt (mag x * p) (mag y * p) n (m + 1) kk U O ∧ DSt w wr gu cu gv go (m + 1) n U O Vl) (fun i _ => (intOf i + 1).toNat)
        case atStart => exact ⟨m + 1 - n, _, _, Nat.le_refl _, int_eq (by omega), HDS.out, HS0.out⟩
        case round =>
          obtain ⟨kk, U, O, hkk, rfl, hdv2, hst2⟩ := hrel
          clear HS0 HDS hmk
          have HD := Lib.hid hdv2
          have HS := Lib.hid hst2
          by_cases hlt : 0 < kk
          · obtain ⟨k, rfl⟩ : ∃ k, kk = k + 1 := ⟨kk - 1, by omega⟩
            have hkn : k + n ≤ m := by omega
            rw [show (((k + 1 : Nat) : Int) - 1) = (k : Int) by omega]
            have hUl := hdv2.len
            obtain ⟨u2, h2⟩ : ∃ u2, U[k + n]? = some u2 := ⟨_, List.getElem?_eq_getElem (by omega)⟩
            obtain ⟨u1, h1⟩ : ∃ u1, U[k + n - 1]? = some u1 := ⟨_, List.getElem?_eq_getElem (by omega)⟩
            obtain ⟨u0, h0⟩ : ∃ u0, U[k + n - 2]? = some u0 := ⟨_, List.getElem?_eq_getElem (by omega)⟩
            obtain ⟨v0, hv0⟩ : ∃ v0, Vl[n - 2]? = some v0 := ⟨_, List.getElem?_eq_getElem (by omega)⟩
            obtain ⟨c2, f2⟩ := hst2.atU h2
            obtain ⟨c1, f1⟩ := hst2.atU h1
            obtain ⟨c0, f0⟩ := hst2.atU h0
            have e1 := hst2.atV hv1
            have e0 := hst2.atV hv0
            obtain ⟨hg, htop⟩ := guess_of hdv2 (by omega) hn2 hVm dV hVl h2 h1 h0 hv1 hv0 hv11
            have b2 := hdv2.dU.at h2
            have b1 := hdv2.dU.at h1
            have b0 := hdv2.dU.at h0
            have a1 := dV.at hv1
            have a0 := dV.at hv0
            unfold IsDig at b2 b1 b0 a1 a0
            have hor1 := or32 u2 u1 b2.1 b2.2 b1.1 b1.2
            have Hg := Lib.hid hg
            have Htop := Lib.hid htop
            have j1 : ((k : Int) + (n : Int)).toNat = k + n := by omega
            have j2 : ((k : Int) + (n : Int) - 1).toNat = k + n - 1 := by omega
            have j3 : ((k : Int) + (n : Int) - 2).toNat = k + n - 2 := by omega
            have j4 : ((n : Int) - 2).toNat = n - 2 := by omega
            have Hh0 := Lib.hid h0
            have Hh2 := Lib.hid h2
            clear hg htop h2 h1 h0 hUl hdv2 hst2
            go_upto_region 19 with fail
            go_quiet (fail)
            have HS1 := Lib.hid (HS.out.drewN nq)
            replace c2 : (wr.drewN nq).cell? ⟨gu, k + n, none⟩ = _ := c2
            replace f2 : (wr.drewN nq).frozen? ⟨gu, k + n, none⟩ = _ := f2
            replace c0 : (wr.drewN nq).cell? ⟨gu, k + n - 2, none⟩ = _ := c0
            replace e1 : (wr.drewN nq).cell? ⟨gv, n - 1, none⟩ = _ := e1
            replace e0 : (wr.drewN nq).cell? ⟨gv, n - 2, none⟩ = _ := e0
            clear HS hor1 c1 f0 f1
            generalize wr.drewN nq = w1 at *
            obtain ⟨top, hte⟩ : ∃ top, u2 * 4294967296 + u1 = top := ⟨_, rfl⟩
            have ht0 : 0 ≤ top := by omega
            have ht1 : top ≤ 18446744073709551615 := by omega
            have Hte := Lib.hid hte
            rw [hte] at Hg Htop ⊢
            have hqq := Int.mul_ediv_add_emod top v1
            have hq0 : 0 ≤ top / v1 := Int.ediv_nonneg ht0 (by omega)
            have hq1 : top / v1 ≤ 18446744073709551615 := Int.le_trans (Int.ediv_le_self _ ht0) ht1
            have hr0 := Int.emod_nonneg top (show v1 ≠ 0 by omega)
            have hr1 := Int.emod_lt_of_pos top (show 0 < v1 by omega)
            have Hqq : Hid (top / v1 * v1 + top % v1 = top) := by show _ = _; rw [Int.mul_comm]; exact hqq
            have hqh : Hid (winD U k n / (mag y * p) ≤ top / v1) := by
              show _ ≤ _
              exact Hg.out.first (Int.ediv_nonneg (winD_pos HD.out.dU) (by omega)) (Int.ediv_mul_le _ (by omega))
            clear hte hqq
            go_upto_region 20 with fail
            go_quiet (fail)
            have HS2 := Lib.hid (HS1.out.drewN nq)
            replace c2 : (w1.drewN nq).cell? ⟨gu, k + n, none⟩ = _ := c2
            replace f2 : (w1.drewN nq).frozen? ⟨gu, k + n, none⟩ = _ := f2
            replace c0 : (w1.drewN nq).cell? ⟨gu, k + n - 2, none⟩ = _ := c0
            replace e1 : (w1.drewN nq).cell? ⟨gv, n - 1, none⟩ = _ := e1
            replace e0 : (w1.drewN nq).cell? ⟨gv, n - 2, none⟩ = _ := e0
            clear HS1
            generalize w1.drewN nq = w2 at *
            generalize top / v1 = Q0 at *
            generalize top % v1 = R0 at *
            go_upto_block 6 with fail
            go_cut [16] (fun s16 wx => ∃ Q, s16 = .int .u64 Q ∧ 0 ≤ Q ∧ Q < 4294967296 ∧ winD U k n / (mag y * p) ≤ Q ∧ Q * (mag y * p) ≤ winD U k n + mag y * p ∧ DSt w wx gu cu gv go (m + 1) n U O Vl)
            case first => as_aux_lemma =>
                have hWpos := Lib.hid (winD_pos (k := k) (n := n) HD.out.dU)
                go_wp2_with fail
                go_loopw [16, 17] (fun qv rv wr => ∃ Q R : Int, qv = .int .u64 Q ∧ rv = .int .u64 R ∧ 0 ≤ Q ∧ Q ≤ 18446744073709551615 ∧ 0 ≤ R ∧ R < 4294967296 ∧ Q * v1 + R = top ∧ winD U k n / (mag y * p) ≤ Q ∧ DSt w wr gu cu gv go (m + 1) n U O Vl) (fun qv _ _ => (intOf qv).toNat)
                case atStart => exact ⟨Q0, R0, rfl, rfl, hq0, hq1, hr0, by omega, Hqq.out, hqh.out, HS2.out⟩
                case round =>
                  obtain ⟨Q, R, rfl, rfl, hQ0, hQ1, hR0, hR1, he, hq, hsr⟩ := hrel
                  have He := Lib.hid he
                  have HSr := Lib.hid hsr
                  obtain ⟨hc0, hf0⟩ := hsr.atU Hh0.out
                  have he1 := hsr.atV hv1
                  have he0 := hsr.atV hv0
                  have hqt0 : 0 ≤ winD U k n / (mag y * p) := Int.ediv_nonneg hWpos.out (by omega)
                  have hor := or32 R u0 hR0 hR1 b0.1 b0.2
                  clear HS2 Hqq hqh he hsr
                  by_cases hQB : Q < 4294967296
                  · have hb : (Q / 4294967296 != 0) = false := by rw [show Q / 4294967296 = 0 by omega]; rfl
                    have hqv0 : 0 ≤ Q * v0 := Int.mul_nonneg hQ0 a0.1
                    have hqv1 : Q * v0 ≤ 18446744065119617025 := by
                      have g1 := mul_le_r a0.1 (show Q ≤ 4294967295 by omega)
                      omega
                    by_cases ht : R * 4294967296 + u0 < Q * v0
                    · have hd : decide (R * 4294967296 + u0 < Q * v0) = true := decide_eq_true ht
                      have hQq : Hid (winD U k n / (mag y * p) ≤ Q - 1) := by
                        show _ ≤ _
                        have g1 := Hg.out.high hQ0 He.out ht
                        have g2 := Int.ediv_lt_of_lt_mul hVpos g1
                        omega
                      have hQp : 1 ≤ Q := by have := hQq.out; omega
                      clear ht
                      by_cases hov : R + v1 < 4294967296
                      · have hb2 : ((R + v1) / 4294967296 != 0) = false := by rw [show (R + v1) / 4294967296 = 0 by omega]; rfl
                        go_wp2
                        go_quiet (fail)
                        go_wp2
                        go_roundw
                        case rel => exact ⟨Q - 1, R + v1, rfl, rfl, by omega, by omega, by omega, hov, by have := He.out; rw [Int.sub_mul]; omega, hQq.out, HSr.out.drewN _⟩
                        case measure => simp [intOf] <;> omega
                      · have hb2 : ((R + v1) / 4294967296 != 0) = true := by rw [show (R + v1) / 4294967296 = 1 by omega]; rfl
                        go_wp2
                        go_quiet (fail)
                        go_wp2
                        go_meet
                        obtain ⟨g1, g2⟩ := Guess.over (Q := Q - 1) (R := R + v1) Hg.out.e1 Hg.out.e0 Hg.out.d0 (by omega) (by have := He.out; rw [Int.sub_mul]; omega) Htop.out (by omega)
                        exact ⟨Q - 1, rfl, by omega, g1, hQq.out, Hg.out.low (by omega) g1 (by have := He.out; rw [Int.sub_mul]; omega) g2, HSr.out.drewN _⟩
                    · have hd : decide (R * 4294967296 + u0 < Q * v0) = false := decide_eq_false ht
                      have Hlow := Lib.hid (Hg.out.low hQ0 hQB He.out (by omega))
                      have Hq := Lib.hid hq
                      clear ht hq
                      go_wp2
                      go_quiet (fail)
                      go_wp2
                      go_meet
                      exact ⟨Q, rfl, hQ0, hQB, Hq.out, Hlow.out, HSr.out.drewN _⟩
                  · have hb : (Q / 4294967296 != 0) = true := by rw [bne_iff_ne]; omega
                    have hQq : Hid (winD U k n / (mag y * p) ≤ Q - 1) := by
                      show _ ≤ _
                      have g2 := Int.ediv_lt_of_lt_mul hVpos (winD_lt HD.out (by omega))
                      omega
                    have hQp : 1 ≤ Q := by omega
                    by_cases hov : R + v1 < 4294967296
                    · have hb2 : ((R + v1) / 4294967296 != 0) = false := by rw [show (R + v1) / 4294967296 = 0 by omega]; rfl
                      go_wp2
                      go_quiet (fail)
                      go_wp2
                      go_roundw
                      case rel => exact ⟨Q - 1, R + v1, rfl, rfl, by omega, by omega, by omega, hov, by have := He.out; rw [Int.sub_mul]; omega, hQq.out, HSr.out.drewN _⟩
                      case measure => simp [intOf] <;> omega
                    · have hb2 : ((R + v1) / 4294967296 != 0) = true := by rw [show (R + v1) / 4294967296 = 1 by omega]; rfl
                      go_wp2
                      go_quiet (fail)
                      go_wp2
                      go_meet
                      obtain ⟨g1, g2⟩ := Guess.over (Q := Q - 1) (R := R + v1) Hg.out.e1 Hg.out.e0 Hg.out.d0 (by omega) (by have := He.out; rw [Int.sub_mul]; omega) Htop.out (by omega)
                      exact ⟨Q - 1, rfl, by omega, g1, hQq.out, Hg.out.low (by omega) g1 (by have := He.out; rw [Int.sub_mul]; omega) g2, HSr.out.drewN _⟩
            case rest =>
              obtain ⟨Q, rfl, hQ0, hQB, hqQ, hQV, hst⟩ := hcut
              have hlk : Hid ((U.take k).length = k) := by show _ = _; have := HD.out.len; rw [List.length_take]; omega
              have Hq := Lib.hid hqQ
              have HQV := Lib.hid hQV
              have Hst := Lib.hid hst
              have hUl := Lib.hid HD.out.len
              clear hqQ hQV hst c0 c2 f2 e1 e0 HS2 Hqq hqh ht0 ht1 hq0 hq1 hr0 hr1
              go_wp2
              go_loopw [18, 19, 174] (fun cv bv iv wr => ∃ (i : Nat) (lo : List Int) (cc bb : Int), i ≤ n ∧ iv = .int .i64 i ∧ cv = .int .u64 cc ∧ bv = .int .u64 bb ∧ lo.length = i ∧ Dig lo ∧ 0 ≤ cc ∧ cc < 4294967296 ∧ 0 ≤ bb ∧ bb ≤ 1 ∧ mag lo - pow32 i * (cc + bb) = mag ((U.drop k).take i) - Q * mag (Vl.take i) ∧ DSt w wr gu cu gv go (m + 1) n (U.take k ++ (lo ++ U.drop (k + i))) O Vl) (fun _ _ iv _ => n - (intOf iv).toNat)
              case atStart => exact ⟨0, [], 0, 0, Nat.zero_le _, rfl, rfl, rfl, rfl, Dig.nil, by omega, by omega, by omega, by omega, by simp [mag], by rw [List.nil_append, show k + 0 = k from rfl, List.take_append_drop]; exact Hst.out⟩
              case round =>
                obtain ⟨i, lo, cc, bb, hi, rfl, rfl, rfl, hlo, dlo, hc0, hc1, hb0, hb1, hme, hst⟩ := hrel
                have Hme := Lib.hid hme
                have HS5 := Lib.hid hst
                have Hlo := Lib.hid hlo
                clear Hst hme hlo
                by_cases hin : i < n
                · as_aux_lemma =>
                    obtain ⟨xu, hxu⟩ : ∃ xu, U[k + i]? = some xu := ⟨_, List.getElem?_eq_getElem (by have := hUl.out; omega)⟩
                    obtain ⟨xv, hxv⟩ : ∃ xv, Vl[i]? = some xv := ⟨_, List.getElem?_eq_getElem (by omega)⟩
                    obtain ⟨hcu, hfu⟩ := hst.atU (k := k + i) (by rw [at_mid Hlo.out (by have := hUl.out; omega)]; exact hxu)
                    have hcv := hst.atV hxv
                    obtain ⟨x0, x1⟩ := HD.out.dU.at hxu
                    obtain ⟨y0, y1⟩ := dV.at hxv
                    have hj := (show ((k : Int) + (i : Int)).toNat = k + i by omega)
                    have hQy0 : 0 ≤ Q * xv := Int.mul_nonneg hQ0 y0
                    have hQy1 : Q * xv ≤ 18446744065119617025 := by
                      have g1 := mul_le_r y0 (show Q ≤ 4294967295 by omega)
                      omega
                    have hm0 := Int.emod_nonneg (cc + Q * xv) (show (4294967296 : Int) ≠ 0 by decide)
                    have hm1 := Int.emod_lt_of_pos (cc + Q * xv) (show (0 : Int) < 4294967296 by decide)
                    obtain ⟨z1, z2, hz1, hz2, hz3, hz4, hz5, hz6⟩ := borrow2 x0 x1 hm0 hm1 hb0 hb1
                    have Hz5 := Lib.hid hz5
                    have Hz6 := Lib.hid hz6
                    have hput := Lib.hid (hst.putU (k + i) (z2 % 4294967296))
                    rw [set_mid Hlo.out (by have := hUl.out; omega)] at hput
                    have hblk := hst.blocks.1
                    have Hxu := Lib.hid hxu
                    have Hxv := Lib.hid hxv
                    have hstep : Hid (mag (lo ++ [z2 % 4294967296]) - pow32 (i + 1) * ((cc + Q * xv) / 4294967296 + z2 / 9223372036854775808) = mag ((U.drop k).take (i + 1)) - Q * mag (Vl.take (i + 1))) := by
                      have g := msub_step (P := pow32 i) (x := xu) (y := xv) Hme.out (by omega) (by omega)
                      show _ = _
                      rw [mag_snoc, Hlo.out, mag_take_succ (show (U.drop k)[i]? = some xu by rw [List.getElem?_drop]; exact Hxu.out), mag_take_succ Hxv.out, pow32_succ, Hz5.out, Hz6.out]
                      exact g
                    have hcc : (cc + Q * xv) / 4294967296 < 4294967296 := by omega
                    clear hz5 hz6 hxu hxv hst HS5 Hme
                    go_wp2
                    go_roundw
                    case rel => exact ⟨i + 1, lo ++ [z2 % 4294967296], (cc + Q * xv) / 4294967296, z2 / 9223372036854775808, by omega, by go_num, rfl, rfl, by rw [List.length_append, Hlo.out]; rfl, dlo.append (Dig.cons ⟨by omega, by omega⟩ Dig.nil), by omega, hcc, by omega, by omega, hstep.out, by rw [List.append_assoc, show k + (i + 1) = k + i + 1 by omega]; exact hput.out⟩
                    case measure => simp [intOf] <;> omega
                · obtain rfl : i = n := by omega
                  have hVn : Vl.take i = Vl := List.take_of_length_le (by omega)
                  obtain ⟨hcu, hfu⟩ := hst.atU (k := k + i) (by rw [at_mid Hlo.out (by have := hUl.out; omega)]; exact Hh2.out)
                  have hj := (show ((k : Int) + (i : Int)).toNat = k + i by omega)
                  obtain ⟨z1, z2, hz1, hz2, hz3, hz4, hz5, hz6⟩ := borrow2 b2.1 b2.2 hc0 hc1 hb0 hb1
                  have hput := hst.putU (k + i) (z2 % 4294967296)
                  rw [set_mid Hlo.out (by have := hUl.out; omega)] at hput
                  have Hput := Lib.hid hput
                  have hblk := hst.blocks.1
                  have hT : mag lo + pow32 i * (u2 - cc - bb) = winD U k i - Q * (mag y * p) := by
                    have g := Hme.out
                    rw [hVn, hVm] at g
                    rw [winD_top HD.out (by omega) Hh2.out, show u2 - cc - bb = u2 - (cc + bb) by omega, Int.mul_sub]
                    omega
                  have hlo0 := mag_nonneg dlo
                  have hlo1 := mag_lt dlo
                  rw [Hlo.out] at hlo1
                  have hQu : Q ≤ winD U k i / (mag y * p) + 1 := by
                    have g1 := HQV.out
                    have g2 : (Q - 1) * (mag y * p) ≤ winD U k i := by rw [Int.sub_mul]; omega
                    have g3 := Int.le_ediv_of_mul_le hVpos g2
                    omega
                  obtain ⟨hge0, hlt0⟩ := digit_is hVpos hVlt.out rfl (winD_pos HD.out.dU) hlo0 hlo1 hT Hq.out hQu
                  have Hge0 := Lib.hid hge0
                  have Hlt0 := Lib.hid hlt0
                  have Hz5 := Lib.hid hz5
                  have Hz6 := Lib.hid hz6
                  have hok : k < O.length := by have := HD.out.olen; omega
                  obtain ⟨ok, hokk⟩ : ∃ ok, O[k]? = some ok := ⟨_, List.getElem?_eq_getElem hok⟩
                  have Hok := Lib.hid hokk
                  clear hst HS5 Hme hge0 hlt0 hz5 hz6 hT hlo0 hlo1 hQu hokk hput hVn
                  by_cases ht : u2 - cc - bb < 0
                  · have hz63 : (z2 / 9223372036854775808 == 1) = true := by rw [Hz6.out, if_pos ht]; rfl
                    obtain ⟨hQe, htm, hlov⟩ := Hlt0.out ht
                    have hzv : z2 % 4294967296 = 4294967295 := by rw [Hz5.out, htm]; rfl
                    rw [hzv] at Hput
                    have hQ1 : 1 ≤ Q := by have := Int.ediv_nonneg (winD_pos (k := k) (n := i) HD.out.dU) (show 0 ≤ mag y * p by omega); omega
                    have Hlov := Lib.hid hlov
                    have HQe := Lib.hid hQe
                    clear ht htm hlov hQe Hge0 Hlt0
                    go_wp2
                    go_loopw [18, 235] (fun cv iv wr => ∃ (j : Nat) (lo2 : List Int) (c2 : Int), j ≤ i ∧ iv = .int .i64 j ∧ cv = .int .u64 c2 ∧ lo2.length = j ∧ Dig lo2 ∧ 0 ≤ c2 ∧ c2 ≤ 1 ∧ mag lo2 + pow32 j * c2 = mag (lo.take j) + mag (Vl.take j) ∧ DSt w wr gu cu gv go (m + 1) i (U.take k ++ (lo2 ++ (lo.drop j ++ 4294967295 :: U.drop (k + i + 1)))) O Vl) (fun _ iv _ => i - (intOf iv).toNat)
                    case atStart => exact ⟨0, [], 0, Nat.zero_le _, rfl, rfl, rfl, Dig.nil, by omega, by omega, by simp [mag], by rw [List.nil_append, List.drop_zero]; exact Hput.out⟩
                    case round =>
                      obtain ⟨j, lo2, c2, hjn, rfl, rfl, hlo2, dlo2, hc20, hc21, hme2, hst2⟩ := hrel
                      have Hme2 := Lib.hid hme2
                      have Hlo2 := Lib.hid hlo2
                      have HS6 := Lib.hid hst2
                      clear Hput hme2 hlo2
                      by_cases hjl : j < i
                      · as_aux_lemma =>
                          obtain ⟨xl, hxl⟩ : ∃ xl, lo[j]? = some xl := ⟨_, List.getElem?_eq_getElem (by have := Hlo.out; omega)⟩
                          obtain ⟨xv, hxv⟩ : ∃ xv, Vl[j]? = some xv := ⟨_, List.getElem?_eq_getElem (by omega)⟩
                          obtain ⟨hcu, hfu⟩ := hst2.atU (k := k + j) (by rw [at_mid2 hlk.out Hlo2.out (by have := Hlo.out; omega)]; exact hxl)
                          have hcv := hst2.atV hxv
                          obtain ⟨x0, x1⟩ := dlo.at hxl
                          obtain ⟨y0, y1⟩ := dV.at hxv
                          have hj2 := (show ((k : Int) + (j : Int)).toNat = k + j by omega)
                          have hput := Lib.hid (hst2.putU (k + j) ((c2 + (xl + xv)) % 4294967296))
                          rw [set_mid2 hlk.out Hlo2.out (by have := Hlo.out; omega)] at hput
                          have hblk2 := hst2.blocks.1
                          have hstep : Hid (mag (lo2 ++ [(c2 + (xl + xv)) % 4294967296]) + pow32 (j + 1) * ((c2 + (xl + xv)) / 4294967296) = mag (lo.take (j + 1)) + mag (Vl.take (j + 1))) := by
                            show _ = _
                            rw [mag_snoc, Hlo2.out, mag_take_succ hxl, mag_take_succ hxv, pow32_succ]
                            exact madd_step Hme2.out
                          clear hxl hxv hst2 HS6 Hme2
                          go_wp2
                          go_roundw
                          case rel => exact ⟨j + 1, lo2 ++ [(c2 + (xl + xv)) % 4294967296], (c2 + (xl + xv)) / 4294967296, by omega, by go_num, rfl, by rw [List.length_append, Hlo2.out]; rfl, dlo2.append (Dig.cons ⟨by omega, by omega⟩ Dig.nil), by omega, by omega, hstep.out, hput.out⟩
                          case measure => simp [intOf] <;> omega
                      · as_aux_lemma =>
                          obtain rfl : j = i := by omega
                          have g := Hme2.out
                          rw [List.take_of_length_le (by have := Hlo.out; omega), List.take_of_length_le (by omega), hVm, Hlov.out] at g
                          have g0 := mag_nonneg dlo2
                          have g1 := mag_lt dlo2
                          rw [Hlo2.out] at g1
                          obtain ⟨rfl, hR⟩ := back_is (Int.emod_nonneg (winD U k j) (show mag y * p ≠ 0 by omega)) (Int.emod_lt_of_pos (winD U k j) hVpos) hVlt.out g0 g1 g
                          have hdr : lo.drop j = [] := List.drop_eq_nil_of_le (by have := Hlo.out; omega)
                          rw [hdr, List.nil_append] at hst2
                          obtain ⟨hcu, hfu⟩ := hst2.atU (k := k + j) (at_top hlk.out Hlo2.out _)
                          have hput2 := hst2.putU (k + j) 0
                          rw [set_top hlk.out Hlo2.out] at hput2
                          obtain ⟨hco, hfo⟩ := hput2.atO Hok.out
                          have hblk2 := hst2.blocks.1
                          have hblk3 := hput2.blocks.2
                          have hDfin : Hid (DivSt (mag x * p) (mag y * p) j (m + 1) k (U.take k ++ (lo2 ++ 0 :: U.drop (k + j + 1))) (O.set k (Q - 1))) := HD.out.step (by omega) Hlo2.out dlo2 ⟨by omega, by omega⟩ hVpos (by have := HQe.out; omega) hR
                          have hSfin := Lib.hid (hput2.putO k (Q - 1))
                          clear g g0 g1 hR hdr hst2 HS6 Hme2 hput2
                          go_wp2
                          go_roundw
                          case rel => exact ⟨k, _, _, by omega, by go_num, hDfin.out, hSfin.out⟩
                          case measure => simp [intOf] <;> omega
                  · as_aux_lemma =>
                      have hz63 : (z2 / 9223372036854775808 == 1) = false := by rw [Hz6.out, if_neg ht]; rfl
                      obtain ⟨hQe, htm, hlov⟩ := Hge0.out (by omega)
                      have hzv : z2 % 4294967296 = 0 := by rw [Hz5.out, htm]; rfl
                      rw [hzv] at Hput
                      obtain ⟨hco, hfo⟩ := Hput.out.atO Hok.out
                      have hblk3 := Hput.out.blocks.2
                      have hDfin : Hid (DivSt (mag x * p) (mag y * p) i (m + 1) k (U.take k ++ (lo ++ 0 :: U.drop (k + i + 1))) (O.set k Q)) := HD.out.step (by omega) Hlo.out dlo ⟨by omega, by omega⟩ hVpos hQe.symm hlov
                      have hSfin := Lib.hid (Hput.out.putO k Q)
                      clear ht htm hlov hQe Hge0 Hlt0 Hput
                      go_wp2
                      go_roundw
                      case rel => exact ⟨k, _, _, by omega, by go_num, hDfin.out, hSfin.out⟩
                      case measure => simp [intOf] <;> omega
          · as_aux_lemma =>
              obtain rfl : kk = 0 := by omega
              obtain ⟨hO, hR⟩ := hdv2.done (by omega) hVpos
              obtain ⟨r1, r2⟩ := hrest.out
              rw [r1] at hO
              have hto := fun W => run_to (P := Try.prog) elU32 W (some ⟨gu, 0, none⟩) (m + 1) cu n (by omega)
              have hrd := (hst2.ou.rd).take (k := n) (by omega)
              rw [Nat.mul_one, ← List.map_take] at hrd
              have C := Lib.hid (fun (W : World) (hW : Rd W 1 (some ⟨gu, 0, none⟩) n ((U.take n).map (Value.int .u32))) => shiftRight_any (some ⟨gu, 0, none⟩) n cu (U.take n) s hs p q Hp2.out W hW (hdv2.dU.take n) (by omega) (by omega) (by omega))
              have HR : Hid (mag (shrL p q (U.take n)) = mag x % mag y) := by show _ = _; rw [shrL_mag Hp2.out, hR, r2]
              have HO := Lib.hid hO
              have Hrl : Hid ((shrL p q (U.take n)).length ≤ 1000001) := by show _ ≤ _; rw [shrL_len, List.length_take]; omega
              have Hrd2 : Hid (Dig (shrL p q (U.take n))) := shrL_dig Hp2.out (pow2_swap Hp2.out (by omega)) _ (hdv2.dU.take n)
              have Hrd := Lib.hid hrd
              clear hO hR r1 r2 hrd hst2 hdv2
              go_wp2_with fail
              refine (C.out _ Hrd.out).mono ?_
              rintro e w9 ⟨v9, rfl, ho9, hb9⟩
              have hoo := HS.out.oo.below hb9
              have hB := bthen HS.out.bel hb9
              replace ho9 := ho9.mono HS.out.bel.size
              have hol := HD.out.olen
              clear C Hrd hto
              go_wp2
              go_ret2
              exact ⟨_, _, O, shrL p q (U.take n), rfl, hoo, ho9, HD.out.dO, Hrd2.out, HO.out, HR.out, by omega, Hrl.out, hB⟩
/-- What parts returns, whatever the divisor. -/
theorem parts_any (A : Option Addr) (m c : Nat) (x : List Int) (B : Option Addr) (n d : Nat) (y : List Int) (w : World) (hx : Rd w 1 A m (x.map (Value.int .u32))) (hy : Rd w 1 B n (y.map (Value.int .u32))) (dx : Dig x) (dy : Dig y) (hty : Trim y) (hm : m ≤ 1000000) (hn1 : 1 ≤ n) (hnm : n ≤ m) :
    Calls Try.prog 76 #[.slice A m c, .slice B n d] w (GivesParts x y w) := by
  rcases Nat.lt_or_ge 1 n with h | h
  · exact parts_many A m c x B n d y w hx hy dx dy hty hm h hnm
  · obtain rfl : n = 1 := by omega
    match y, hy.lenMap with
    | [z], _ =>
      have hz := dy.head
      have h0 : z ≠ 0 := fun e => hty (by rw [e]; rfl)
      unfold IsDig at hz
      exact parts_one A m c x B d z w hx hy dx hz (by omega) hm
end Go.Proofs.Ytajfohnblmnjjaa
