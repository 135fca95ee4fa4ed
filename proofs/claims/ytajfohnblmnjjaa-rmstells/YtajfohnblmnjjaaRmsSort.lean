/-
  Contracts of slices.SortStableFunc by the periods, of rms.Sort and rms.Fit. No statement of the seat is here.
-/
import Derived.Test.YtajfohnblmnjjaaJ2
import Derived.Test.YtajfohnblmnjjaaJ4
import Derived.Test.YtajfohnblmnjjaaRegion
import Derived.Test.YtajfohnblmnjjaaRegionF
namespace Go.Proofs.Ytajfohnblmnjjaa
open Go.RowKit
set_option linter.unusedVariables false
set_option maxRecDepth 20000

theorem grownBy_belowS {a b : World} {row : Option Nat} (h : Below a.heap.size a b) : a.grownBy b row := ⟨h.os, h.tape, h.output, h.size, fun k hk _ => h.block k hk⟩

theorem putT_at {t : Tk} : ∀ {S : List Tk} {j : Nat}, j ≤ S.length → (∀ u ∈ S.take j, u.p ≤ t.p) → (∀ u ∈ S.drop j, t.p < u.p) → putT t S = S.take j ++ t :: S.drop j
  | [], j, hj, _, _ => by
    have : j = 0 := by simpa using hj
    subst this; rfl
  | u :: S, 0, _, _, h2 => by
    have := h2 u (by simp)
    rw [putT, if_neg (by omega)]; rfl
  | u :: S, j + 1, hj, h1, h2 => by
    have := h1 u (by simp)
    rw [putT, if_pos this, putT_at (S := S) (j := j) (by simpa using hj) (fun x hx => h1 x (by simp [hx])) (fun x hx => h2 x (by simpa using hx))]
    rfl
def cmpN (x y : Nat) : Int := if x < y then -1 else if y < x then 1 else 0
theorem isNaN_any (x : Int) (w : World) : Calls Try.prog 54 #[.int .i64 x] w fun e w' => e = .returned (.bool false) ∧ w' = w := by
  go_enter Try.func54, Try.ntmps54
  go_wp2
  go_ret
  exact ⟨ret_bool (by simp), rfl⟩
theorem Compare_any (x y : Nat) (w : World) : Calls Try.prog 36 #[.int .i64 (x : Int), .int .i64 (y : Int)] w fun e w' => e = .returned (.int .i64 (cmpN x y)) ∧ w' = w := by
  have C := fun (z : Int) => isNaN_any z w
  have hc : x < y ∨ (¬ x < y ∧ y < x) ∨ (¬ x < y ∧ ¬ y < x) := by omega
  rcases hc with h1 | ⟨h1, h2⟩ | ⟨h1, h2⟩
  · rw [cmpN, if_pos h1]
    go_enter Try.func36, Try.ntmps36
    go_wp2_with (refine (C _).mono ?_; rintro e w' ⟨rfl, rfl⟩)
    go_ret
    exact ⟨rfl, rfl⟩
  · rw [cmpN, if_neg h1, if_pos h2]
    go_enter Try.func36, Try.ntmps36
    go_wp2_with (refine (C _).mono ?_; rintro e w' ⟨rfl, rfl⟩)
    go_ret
    exact ⟨rfl, rfl⟩
  · rw [cmpN, if_neg h1, if_neg h2]
    go_enter Try.func36, Try.ntmps36
    go_wp2_with (refine (C _).mono ?_; rintro e w' ⟨rfl, rfl⟩)
    go_ret
    exact ⟨rfl, rfl⟩
theorem Sort1_any (p c q d : Nat) (w : World) : Calls Try.prog 35 #[.agg #[.int .i64 (p : Int), .int .i64 (c : Int)], .agg #[.int .i64 (q : Int), .int .i64 (d : Int)]] w fun e w' => e = .returned (.int .i64 (cmpN p q)) ∧ Below w.heap.size w w' := by
  have C := fun W => Compare_any p q W
  have hb : Below w.heap.size w ((w.alloc (.cells #[.int .i64 (p : Int), .int .i64 (c : Int)] 38)).alloc (.cells #[.int .i64 (q : Int), .int .i64 (d : Int)] 38)) := ((Below.refl _ _).alloc (Nat.le_refl _) _).alloc (by simp) _
  go_enter Try.func35, Try.ntmps35
  go_wp2_with (refine (C _).mono ?_; rintro e w' ⟨rfl, rfl⟩)
  go_ret
  exact ⟨rfl, hb⟩
theorem enterSort1 : ∀ args w, (callFunc 35 args).run Try.prog w = .ok (.enter 35 args) w := enters_of Try.func35 (by kernel_rfl) rfl
/-- A whole task stored. -/
theorem put_task {w : World} {base g n c k : Nat} {e : TypeId} {L : List Tk} {x : Tk} (h : OwG tkC 2 w base e (.slice (some ⟨g, 0, none⟩) n c) L) (hk : L[k]? = some x) (p t : Nat) :
    OwG tkC 2 ((w.setCell ⟨g, k * 2, none⟩ (.int .i64 (p : Int))).setCell ⟨g, k * 2 + 1, none⟩ (.int .i64 (t : Int))) base e (.slice (some ⟨g, 0, none⟩) n c) (L.set k ⟨p, t⟩) := by
  have h1 := OwG.put tkK h (j := 0) (y := ⟨p, x.c⟩) (u := .int .i64 (p : Int)) hk (by decide) rfl
  have hk2 : (L.set k ⟨p, x.c⟩)[k]? = some (⟨p, x.c⟩ : Tk) := by rw [List.getElem?_set, if_pos rfl, if_pos (List.getElem?_eq_some_iff.1 hk).1]
  have h2 := OwG.put tkK h1 (j := 1) (y := ⟨p, t⟩) (u := .int .i64 (t : Int)) hk2 (by decide) rfl
  rw [List.set_set] at h2
  exact h2
theorem swap_at {A R : List Tk} {u t : Tk} : ((A ++ u :: t :: R).set (A.length + 1) u).set A.length t = A ++ t :: u :: R := by
  rw [List.set_append_right _ _ (by omega), Nat.add_sub_cancel_left]
  rw [List.set_append_right _ _ (by omega), Nat.sub_self]
  rfl
set_option maxHeartbeats 1600000 in
theorem insertion_any (g c n : Nat) (M : List Tk) (hl : M.length = n) (hn : n ≤ 16) (base : Nat) (w : World) (ho : OwG tkC 2 w base 38 (.slice (some ⟨g, 0, none⟩) n c) M) (hg : g < w.heap.size) :
    Calls Try.prog 70 #[.slice (some ⟨g, 0, none⟩) n c, .int .i64 0, .int .i64 n, .func (.func 35) #[] #[]] w fun e w' => e = .returned (.tuple #[]) ∧ OwG tkC 2 w' base 38 (.slice (some ⟨g, 0, none⟩) n c) (sortT M) ∧ w.grownBy w' (some g) := by
  have HO := Lib.hid ho
  have hnc := HO.out.lenN.2.1
  clear ho
  have eS := enterSort1
  go_enter Try.func70, Try.ntmps70
  go_upto_region 1 with fail
  go_loopw [8] (fun i wr => ∃ k : Nat, 1 ≤ k ∧ (k ≤ n ∨ k = 1) ∧ i = .int .i64 k ∧ OwG tkC 2 wr base 38 (.slice (some ⟨g, 0, none⟩) n c) (sortT (M.take k) ++ M.drop k) ∧ w.grownBy wr (some g) ∧ g < wr.heap.size) (fun i _ => n + 1 - (intOf i).toNat)
  case atStart =>
    refine ⟨1, Nat.le_refl _, .inr rfl, rfl, ?_, .refl _ _, hg⟩
    have e : sortT (M.take 1) ++ M.drop 1 = M := by
      cases M with
      | nil => rfl
      | cons t M => rfl
    rw [e]
    exact HO.out
  case round =>
    obtain ⟨k, hk1, hkn, rfl, ho, hgr, hgl⟩ := hrel
    clear HO
    by_cases hlt : k < n
    · obtain ⟨⟨tp, tc⟩, hx⟩ : ∃ x, M[k]? = some x := ⟨M[k], List.getElem?_eq_getElem (by omega)⟩
      have hMd : M.drop k = ⟨tp, tc⟩ :: M.drop (k + 1) := drop_cons hx
      have hSt : Hid (sortT (M.take (k + 1)) = putT ⟨tp, tc⟩ (sortT (M.take k))) := by show _ = _; rw [take_snoc hx, sort_snoc]
      have hSl : (sortT (M.take k)).length = k := by rw [(sort_perm _).length_eq, List.length_take]; omega
      have hSs := Lib.hid (sort_sorted (M.take k))
      rw [hMd] at ho
      have HR := Lib.hid (show M.drop (k + 1) = M.drop (k + 1) from rfl)
      generalize hSe : sortT (M.take k) = S at *
      generalize hRe : M.drop (k + 1) = R at *
      have HSR := Lib.hid (And.intro hSe hRe)
      have HO := Lib.hid ho
      clear hMd hx hSe hRe HR ho
      go_upto_region 4 with fail
      go_loopw [9] (fun i wr => ∃ j : Nat, j ≤ k ∧ i = .int .i64 j ∧ OwG tkC 2 wr base 38 (.slice (some ⟨g, 0, none⟩) n c) (S.take j ++ ⟨tp, tc⟩ :: (S.drop j ++ R)) ∧ (∀ u ∈ S.drop j, tp < u.p) ∧ w.grownBy wr (some g) ∧ g < wr.heap.size) (fun i _ => (intOf i).toNat)
      case atStart => exact ⟨k, Nat.le_refl _, rfl, by rw [List.take_of_length_le (by omega), List.drop_of_length_le (by omega)]; exact HO.out, by rw [List.drop_of_length_le (by omega)]; simp, hgr, hgl⟩
      case round =>
        obtain ⟨j, hj, rfl, ho, hd, hgr, hgl⟩ := hrel
        clear HO
        have HO := Lib.hid ho
        have HD := Lib.hid hd
        clear ho hd
        by_cases hj0 : j = 0
        · subst hj0
          have hfin : Hid (S.take 0 ++ ⟨tp, tc⟩ :: (S.drop 0 ++ R) = sortT (M.take (k + 1)) ++ R) := by
            show _ = _
            rw [hSt.out, putT_at (j := 0) (Nat.zero_le _) (by simp) HD.out]
            simp
          have hO2 := HO.out
          rw [hfin.out, ← HSR.out.2] at hO2
          have HO2 := Lib.hid hO2
          clear hO2
          go_wp2
          go_quiet (fail)
          go_wp2
          go_roundw
          case rel => exact ⟨k + 1, by omega, .inl (by omega), by go_num, HO2.out.below (below_draws ⟨_, rfl⟩), grownBy_then hgr (grownBy_belowS (below_draws ⟨_, rfl⟩)), hgl⟩
          case measure => simp [intOf] <;> omega
        · obtain ⟨m, hjm⟩ : ∃ m, j = m + 1 := ⟨j - 1, by omega⟩
          obtain ⟨⟨up, uc⟩, hu⟩ : ∃ u, S[m]? = some u := ⟨S[m], List.getElem?_eq_getElem (by omega)⟩
          have hSj : S.take j = S.take m ++ [⟨up, uc⟩] := by rw [hjm, take_snoc hu]
          have hSd : S.drop m = ⟨up, uc⟩ :: S.drop j := by rw [drop_cons hu, hjm]
          have hlm : (S.take m).length = m := by rw [List.length_take]; omega
          have hO1 := HO.out
          rw [hSj, List.append_assoc] at hO1
          have am : (S.take m ++ ([⟨up, uc⟩] ++ ⟨tp, tc⟩ :: (S.drop j ++ R)))[m]? = some ⟨up, uc⟩ := by rw [List.getElem?_append_right (by omega), hlm, Nat.sub_self]; rfl
          have aj : (S.take m ++ ([⟨up, uc⟩] ++ ⟨tp, tc⟩ :: (S.drop j ++ R)))[j]? = some ⟨tp, tc⟩ := by rw [List.getElem?_append_right (by omega), hlm, hjm, Nat.add_sub_cancel_left]; rfl
          have m0 : wr.cell? ⟨g, m * 2, none⟩ = some (.int .i64 (up : Int)) := OwG.cellAt tkK hO1 (j := 0) am rfl
          have m1 : wr.cell? ⟨g, m * 2 + 1, none⟩ = some (.int .i64 (uc : Int)) := OwG.cellAt tkK hO1 (j := 1) am rfl
          have j0 : wr.cell? ⟨g, j * 2, none⟩ = some (.int .i64 (tp : Int)) := OwG.cellAt tkK hO1 (j := 0) aj rfl
          have j1 : wr.cell? ⟨g, j * 2 + 1, none⟩ = some (.int .i64 (tc : Int)) := OwG.cellAt tkK hO1 (j := 1) aj rfl
          have hd0 : decide (0 < j) = true := decide_eq_true (by omega)
          have hwj : IntKind.i64.wrap ((j : Int) - 1) = (m : Int) := by rw [hjm, show ((m + 1 : Nat) : Int) - 1 = (m : Int) by omega]; exact IntWalk.i64_in _ (by omega)
          have hmn : m < n := by omega
          have hjn : j < n := by omega
          have H1 := Lib.hid (And.intro hO1 (And.intro am aj))
          have H2 := Lib.hid (And.intro hSj (And.intro hSd hlm))
          have Hjm := Lib.hid hjm
          clear hO1 am aj hSj hSd hlm hjm hu HO
          by_cases hlt2 : tp < up
          · have CS := fun W => Sort1_any tp tc up uc W
            rw [show cmpN tp up = -1 from if_pos hlt2] at CS
            have HC := Lib.hid CS
            clear CS
            go_wp2
            have hB : Below wr.heap.size wr wr.drew := (Below.refl _ _).drew
            have hcl : Hid (∀ W, Below wr.heap.size wr W → W.cell? ⟨g, m * 2, none⟩ = some (.int .i64 (up : Int)) ∧ W.cell? ⟨g, m * 2 + 1, none⟩ = some (.int .i64 (uc : Int)) ∧ W.cell? ⟨g, j * 2, none⟩ = some (.int .i64 (tp : Int)) ∧ W.cell? ⟨g, j * 2 + 1, none⟩ = some (.int .i64 (tc : Int))) :=
              fun W hW => ⟨(hW.cell (p := ⟨g, m * 2, none⟩) hgl).trans m0, (hW.cell (p := ⟨g, m * 2 + 1, none⟩) hgl).trans m1, (hW.cell (p := ⟨g, j * 2, none⟩) hgl).trans j0, (hW.cell (p := ⟨g, j * 2 + 1, none⟩) hgl).trans j1⟩
            clear m0 m1 j0 j1
            refine wp_region_B (by kernel_rfl) ?_
            refine wpAnyB_take (i := 0) (oi := { dst := some 18, op := Op.move (Go.Operand.tmp 9), type := 3, pos := "zsortanyfunc.go:12", after := #[], guard := none }) (v := ?v1) rfl (by kernel_rfl) (by kernel_rfl) (by kernel_rfl) (fun _ _ _ h => h) (Or.inl ⟨by rfl, ?hy1⟩) ?rs1
            case hy1 => (intro W hW; go_simp; try with_reducible rfl)
            try simp only [Act.put, List.setIfInBounds_toArray, List.set_cons_zero, List.set_cons_succ]
            refine wpAnyB_take (i := 1) (oi := { dst := some 19, op := Op.move (Go.Operand.tmp 1), type := 3, pos := "zsortanyfunc.go:12", after := #[], guard := none }) (v := ?v2) rfl (by kernel_rfl) (by kernel_rfl) (by kernel_rfl) (fun _ _ _ h => h) (Or.inl ⟨by rfl, ?hy2⟩) ?rs2
            case hy2 => (intro W hW; go_simp; try with_reducible rfl)
            try simp only [Act.put, List.setIfInBounds_toArray, List.set_cons_zero, List.set_cons_succ]
            refine wpAnyB_take (i := 2) (oi := { dst := some 20, op := Op.binOp Go.BinOp.gtr 3 (Go.Operand.tmp 18) (Go.Operand.tmp 19) 3, type := 4, pos := "zsortanyfunc.go:12", after := #[{ on := 0, ground := Ground.data }, { on := 1, ground := Ground.data }], guard := none }) (v := ?v3) rfl (by kernel_rfl) (by kernel_rfl) (by kernel_rfl) (fun _ _ _ h => h) (Or.inl ⟨by rfl, ?hy3⟩) ?rs3
            case hy3 => (intro W hW; go_simp; try with_reducible rfl)
            try simp only [Act.put, List.setIfInBounds_toArray, List.set_cons_zero, List.set_cons_succ]
            refine wpAnyB_take (i := 3) (oi := { dst := some 21, op := Op.move (Go.Operand.tmp 20), type := 4, pos := "zsortanyfunc.go:12", after := #[{ on := 2, ground := Ground.data }], guard := none }) (v := ?v4) rfl (by kernel_rfl) (by kernel_rfl) (by kernel_rfl) (fun _ _ _ h => h) (Or.inl ⟨by rfl, ?hy4⟩) ?rs4
            case hy4 => (intro W hW; go_simp; try with_reducible rfl)
            try simp only [Act.put, List.setIfInBounds_toArray, List.set_cons_zero, List.set_cons_succ]
            refine wpAnyB_take (i := 4) (oi := { dst := some 22, op := Op.move (Go.Operand.tmp 3), type := 61, pos := "zsortanyfunc.go:12", after := #[{ on := 3, ground := Ground.guard }], guard := some (3, true) }) (v := ?v5) rfl (by kernel_rfl) (by kernel_rfl) (by kernel_rfl) (fun _ _ _ h => h) (Or.inl ⟨by rfl, ?hy5⟩) ?rs5
            case hy5 => (intro W hW; go_simp; try with_reducible rfl)
            try simp only [Act.put, List.setIfInBounds_toArray, List.set_cons_zero, List.set_cons_succ]
            refine wpAnyB_take (i := 5) (oi := { dst := some 23, op := Op.move (Go.Operand.tmp 0), type := 22, pos := "zsortanyfunc.go:12", after := #[{ on := 3, ground := Ground.guard }], guard := some (3, true) }) (v := ?v6) rfl (by kernel_rfl) (by kernel_rfl) (by kernel_rfl) (fun _ _ _ h => h) (Or.inl ⟨by rfl, ?hy6⟩) ?rs6
            case hy6 => (intro W hW; go_simp; try with_reducible rfl)
            try simp only [Act.put, List.setIfInBounds_toArray, List.set_cons_zero, List.set_cons_succ]
            refine wpAnyB_take (i := 6) (oi := { dst := some 24, op := Op.move (Go.Operand.tmp 9), type := 3, pos := "zsortanyfunc.go:12", after := #[{ on := 3, ground := Ground.guard }], guard := some (3, true) }) (v := ?v7) rfl (by kernel_rfl) (by kernel_rfl) (by kernel_rfl) (fun _ _ _ h => h) (Or.inl ⟨by rfl, ?hy7⟩) ?rs7
            case hy7 => (intro W hW; go_simp; try with_reducible rfl)
            try simp only [Act.put, List.setIfInBounds_toArray, List.set_cons_zero, List.set_cons_succ]
            refine wpAnyB_take (i := 7) (oi := { dst := some 25, op := Op.indexAddr 22 (Go.Operand.tmp 23) (Go.Operand.tmp 24), type := 0, pos := "zsortanyfunc.go:12", after := #[{ on := 5, ground := Ground.data }, { on := 6, ground := Ground.data }, { on := 3, ground := Ground.guard }], guard := some (3, true) }) (v := ?v8) rfl (by kernel_rfl) (by kernel_rfl) (by kernel_rfl) (fun _ _ _ h => h) (Or.inl ⟨by rfl, ?hy8⟩) ?rs8
            case hy8 => (intro W hW; go_simp; try with_reducible rfl)
            try simp only [Act.put, List.setIfInBounds_toArray, List.set_cons_zero, List.set_cons_succ]
            refine wpAnyB_take (i := 8) (oi := { dst := some 26, op := Op.load 38 (Go.Operand.tmp 25), type := 38, pos := "zsortanyfunc.go:12", after := #[{ on := 7, ground := Ground.data }, { on := 3, ground := Ground.guard }], guard := some (3, true) }) (v := ?v9) rfl (by kernel_rfl) (by kernel_rfl) (by kernel_rfl) (fun _ _ _ h => h) (Or.inl ⟨by rfl, ?hy9⟩) ?rs9
            case hy9 => (intro W hW; obtain ⟨m0, m1, j0, j1⟩ := hcl.out W (bthen hB hW); go_simp; try with_reducible rfl)
            try simp only [Act.put, List.setIfInBounds_toArray, List.set_cons_zero, List.set_cons_succ]
            refine wpAnyB_take (i := 9) (oi := { dst := some 27, op := Op.move (Go.Operand.tmp 0), type := 22, pos := "zsortanyfunc.go:12", after := #[{ on := 3, ground := Ground.guard }], guard := some (3, true) }) (v := ?v10) rfl (by kernel_rfl) (by kernel_rfl) (by kernel_rfl) (fun _ _ _ h => h) (Or.inl ⟨by rfl, ?hy10⟩) ?rs10
            case hy10 => (intro W hW; go_simp; try with_reducible rfl)
            try simp only [Act.put, List.setIfInBounds_toArray, List.set_cons_zero, List.set_cons_succ]
            refine wpAnyB_take (i := 10) (oi := { dst := some 28, op := Op.move (Go.Operand.tmp 9), type := 3, pos := "zsortanyfunc.go:12", after := #[{ on := 3, ground := Ground.guard }], guard := some (3, true) }) (v := ?v11) rfl (by kernel_rfl) (by kernel_rfl) (by kernel_rfl) (fun _ _ _ h => h) (Or.inl ⟨by rfl, ?hy11⟩) ?rs11
            case hy11 => (intro W hW; go_simp; try with_reducible rfl)
            try simp only [Act.put, List.setIfInBounds_toArray, List.set_cons_zero, List.set_cons_succ]
            refine wpAnyB_take (i := 11) (oi := { dst := some 29, op := Op.binOp Go.BinOp.sub 3 (Go.Operand.tmp 28) (Go.Operand.const (Go.Value.int Go.IntKind.i64 1)) 3, type := 3, pos := "zsortanyfunc.go:12", after := #[{ on := 10, ground := Ground.data }, { on := 3, ground := Ground.guard }], guard := some (3, true) }) (v := ?v12) rfl (by kernel_rfl) (by kernel_rfl) (by kernel_rfl) (fun _ _ _ h => h) (Or.inl ⟨by rfl, ?hy12⟩) ?rs12
            case hy12 => (intro W hW; go_simp; try with_reducible rfl)
            try simp only [Act.put, List.setIfInBounds_toArray, List.set_cons_zero, List.set_cons_succ]
            refine wpAnyB_take (i := 12) (oi := { dst := some 30, op := Op.indexAddr 22 (Go.Operand.tmp 27) (Go.Operand.tmp 29), type := 0, pos := "zsortanyfunc.go:12", after := #[{ on := 9, ground := Ground.data }, { on := 11, ground := Ground.data }, { on := 3, ground := Ground.guard }], guard := some (3, true) }) (v := ?v13) rfl (by kernel_rfl) (by kernel_rfl) (by kernel_rfl) (fun _ _ _ h => h) (Or.inl ⟨by rfl, ?hy13⟩) ?rs13
            case hy13 => (intro W hW; go_simp; try with_reducible rfl)
            try simp only [Act.put, List.setIfInBounds_toArray, List.set_cons_zero, List.set_cons_succ]
            refine wpAnyB_take (i := 13) (oi := { dst := some 31, op := Op.load 38 (Go.Operand.tmp 30), type := 38, pos := "zsortanyfunc.go:12", after := #[{ on := 12, ground := Ground.data }, { on := 3, ground := Ground.guard }], guard := some (3, true) }) (v := ?v14) rfl (by kernel_rfl) (by kernel_rfl) (by kernel_rfl) (fun _ _ _ h => h) (Or.inl ⟨by rfl, ?hy14⟩) ?rs14
            case hy14 => (intro W hW; obtain ⟨m0, m1, j0, j1⟩ := hcl.out W (bthen hB hW); go_simp; try with_reducible rfl)
            try simp only [Act.put, List.setIfInBounds_toArray, List.set_cons_zero, List.set_cons_succ]
            refine wpAnyB_one (i := 14) (o := { dst := some 32, op := Op.call { callee := Callee.value (Go.Operand.tmp 22), args := #[Go.Operand.tmp 26, Go.Operand.tmp 31], argTypes := #[38, 38] }, type := 3, pos := "zsortanyfunc.go:12", after := #[{ on := 4, ground := Ground.data }, { on := 8, ground := Ground.data }, { on := 13, ground := Ground.data }, { on := 3, ground := Ground.chain }, { on := 3, ground := Ground.guard }], guard := some (3, true) }) (by kernel_rfl) rfl (fun K hK => ?_)
            go_simp
            refine (HC.out _).mono ?_; rintro e w7 ⟨rfl, hbk⟩; replace hB := bthen hB hbk
            refine hK.out _ _ hbk ?_
            clear hK K
            try simp only [Act.put, List.setIfInBounds_toArray, List.set_cons_zero, List.set_cons_succ]
            refine wpAnyB_take (i := 15) (oi := { dst := some 33, op := Op.binOp Go.BinOp.lss 3 (Go.Operand.tmp 32) (Go.Operand.const (Go.Value.int Go.IntKind.i64 0)) 3, type := 4, pos := "zsortanyfunc.go:12", after := #[{ on := 14, ground := Ground.data }, { on := 3, ground := Ground.guard }], guard := some (3, true) }) (v := ?v15) rfl (by kernel_rfl) (by kernel_rfl) (by kernel_rfl) (fun _ _ _ h => h) (Or.inl ⟨by rfl, ?hy15⟩) ?rs15
            case hy15 => (intro W hW; go_simp; try with_reducible rfl)
            try simp only [Act.put, List.setIfInBounds_toArray, List.set_cons_zero, List.set_cons_succ]
            refine wpAnyB_take (i := 16) (oi := { dst := some 34, op := Op.pick (Go.Operand.tmp 21) (Go.Operand.tmp 33) (Go.Operand.const (Go.Value.bool false)), type := 4, pos := "zsortanyfunc.go:12", after := #[{ on := 3, ground := Ground.data }, { on := 15, ground := Ground.data }], guard := none }) (v := ?v16) rfl (by kernel_rfl) (by kernel_rfl) (by kernel_rfl) (fun _ _ _ h => h) (Or.inl ⟨by rfl, ?hy16⟩) ?rs16
            case hy16 => (intro W hW; go_simp; try with_reducible rfl)
            try simp only [Act.put, List.setIfInBounds_toArray, List.set_cons_zero, List.set_cons_succ]
            refine wpAnyB_done (by kernel_rfl) ?_
            have hO7 := H1.out.1.below hB
            have hg7 : g < w7.heap.size := Nat.lt_of_lt_of_le hgl hB.size
            have hgr7 := grownBy_then hgr (grownBy_belowS (row := some g) hB)
            have hc7 := hcl.out _ hB
            clear hcl HC hgr hB hbk
            have H1' := Lib.hid H1.out.2
            clear H1
            have hnm : ¬ m = j := by have := Hjm.out; omega
            go_upto_region 6 with fail
            have hB : Below w7.heap.size w7 w7.drew := (Below.refl _ _).drew
            have hcl : Hid (∀ W, Below w7.heap.size w7 W → W.cell? ⟨g, m * 2, none⟩ = some (.int .i64 (up : Int)) ∧ W.cell? ⟨g, m * 2 + 1, none⟩ = some (.int .i64 (uc : Int)) ∧ W.cell? ⟨g, j * 2, none⟩ = some (.int .i64 (tp : Int)) ∧ W.cell? ⟨g, j * 2 + 1, none⟩ = some (.int .i64 (tc : Int))) :=
              fun W hW => ⟨(hW.cell (p := ⟨g, m * 2, none⟩) hg7).trans hc7.1, (hW.cell (p := ⟨g, m * 2 + 1, none⟩) hg7).trans hc7.2.1, (hW.cell (p := ⟨g, j * 2, none⟩) hg7).trans hc7.2.2.1, (hW.cell (p := ⟨g, j * 2 + 1, none⟩) hg7).trans hc7.2.2.2⟩
            have hP1 := put_task hO7 H1'.out.2 up uc
            have am2 : ((S.take m ++ (([⟨up, uc⟩] : List Tk) ++ (⟨tp, tc⟩ : Tk) :: (S.drop j ++ R))).set j (⟨up, uc⟩ : Tk))[m]? = some (⟨up, uc⟩ : Tk) := by rw [List.getElem?_set, if_neg (fun e => hnm e.symm)]; exact H1'.out.1
            have hP2 := put_task hP1 am2 tp tc
            have HP := Lib.hid hP2
            have hgP : w7.grownBy ((((w7.setCell ⟨g, j * 2, none⟩ (.int .i64 (up : Int))).setCell ⟨g, j * 2 + 1, none⟩ (.int .i64 (uc : Int))).setCell ⟨g, m * 2, none⟩ (.int .i64 (tp : Int))).setCell ⟨g, m * 2 + 1, none⟩ (.int .i64 (tc : Int))) (some g) :=
              grownBy_then (grownBy_then (grownBy_setCell _ ⟨g, j * 2, none⟩ _) (grownBy_setCell _ ⟨g, j * 2 + 1, none⟩ _)) (grownBy_then (grownBy_setCell _ ⟨g, m * 2, none⟩ _) (grownBy_setCell _ ⟨g, m * 2 + 1, none⟩ _))
            have f0 := hO7.freeAt (j * 2)
            have f1 := hO7.freeAt (j * 2 + 1)
            obtain ⟨k0, k1, i0, i1⟩ := hcl.out _ (Below.refl w7.heap.size w7)
            have f2 := hP1.freeAt (m * 2)
            have f3 := hP1.freeAt (m * 2 + 1)
            have k2 : ((w7.setCell ⟨g, j * 2, none⟩ (.int .i64 (up : Int))).setCell ⟨g, j * 2 + 1, none⟩ (.int .i64 (uc : Int))).cell? ⟨g, m * 2, none⟩ = some (.int .i64 (up : Int)) := OwG.cellAt tkK hP1 (j := 0) am2 rfl
            have k3 : ((w7.setCell ⟨g, j * 2, none⟩ (.int .i64 (up : Int))).setCell ⟨g, j * 2 + 1, none⟩ (.int .i64 (uc : Int))).cell? ⟨g, m * 2 + 1, none⟩ = some (.int .i64 (uc : Int)) := OwG.cellAt tkK hP1 (j := 1) am2 rfl
            clear hP1 hP2 hO7 am2 hc7
            refine wp_region_F 15 (w7.heap.size) (by kernel_rfl) ?_
            refine wpAnyF_pure (i := 0) (oi := { dst := some 37, op := Op.move (Go.Operand.tmp 0), type := 22, pos := "zsortanyfunc.go:13", after := #[], guard := none }) (v := ?v17) rfl (by kernel_rfl) (by kernel_rfl) (by kernel_rfl) (fun _ _ _ h => h) (Or.inl ⟨by rfl, ?hy17⟩) ?rs17
            case hy17 => (intro W hW; go_simp; try with_reducible rfl)
            try simp only [Act.put, List.setIfInBounds_toArray, List.set_cons_zero, List.set_cons_succ]
            refine wpAnyF_pure (i := 1) (oi := { dst := some 38, op := Op.move (Go.Operand.tmp 9), type := 3, pos := "zsortanyfunc.go:13", after := #[], guard := none }) (v := ?v18) rfl (by kernel_rfl) (by kernel_rfl) (by kernel_rfl) (fun _ _ _ h => h) (Or.inl ⟨by rfl, ?hy18⟩) ?rs18
            case hy18 => (intro W hW; go_simp; try with_reducible rfl)
            try simp only [Act.put, List.setIfInBounds_toArray, List.set_cons_zero, List.set_cons_succ]
            refine wpAnyF_pure (i := 2) (oi := { dst := some 39, op := Op.move (Go.Operand.tmp 0), type := 22, pos := "zsortanyfunc.go:13", after := #[{ on := 15, ground := Ground.gcOnly Go.Departure.lateStores }], guard := none }) (v := ?v19) rfl (by kernel_rfl) (by kernel_rfl) (by kernel_rfl) (fun _ _ _ h => h) (Or.inl ⟨by rfl, ?hy19⟩) ?rs19
            case hy19 => (intro W hW; go_simp; try with_reducible rfl)
            try simp only [Act.put, List.setIfInBounds_toArray, List.set_cons_zero, List.set_cons_succ]
            refine wpAnyF_pure (i := 3) (oi := { dst := some 40, op := Op.move (Go.Operand.tmp 9), type := 3, pos := "zsortanyfunc.go:13", after := #[{ on := 15, ground := Ground.gcOnly Go.Departure.lateStores }], guard := none }) (v := ?v20) rfl (by kernel_rfl) (by kernel_rfl) (by kernel_rfl) (fun _ _ _ h => h) (Or.inl ⟨by rfl, ?hy20⟩) ?rs20
            case hy20 => (intro W hW; go_simp; try with_reducible rfl)
            try simp only [Act.put, List.setIfInBounds_toArray, List.set_cons_zero, List.set_cons_succ]
            refine wpAnyF_pure (i := 4) (oi := { dst := some 41, op := Op.binOp Go.BinOp.sub 3 (Go.Operand.tmp 40) (Go.Operand.const (Go.Value.int Go.IntKind.i64 1)) 3, type := 3, pos := "zsortanyfunc.go:13", after := #[{ on := 3, ground := Ground.data }, { on := 15, ground := Ground.gcOnly Go.Departure.lateStores }], guard := none }) (v := ?v21) rfl (by kernel_rfl) (by kernel_rfl) (by kernel_rfl) (fun _ _ _ h => h) (Or.inl ⟨by rfl, ?hy21⟩) ?rs21
            case hy21 => (intro W hW; go_simp; try with_reducible rfl)
            try simp only [Act.put, List.setIfInBounds_toArray, List.set_cons_zero, List.set_cons_succ]
            refine wpAnyF_pure (i := 5) (oi := { dst := some 42, op := Op.move (Go.Operand.tmp 0), type := 22, pos := "zsortanyfunc.go:13", after := #[], guard := none }) (v := ?v22) rfl (by kernel_rfl) (by kernel_rfl) (by kernel_rfl) (fun _ _ _ h => h) (Or.inl ⟨by rfl, ?hy22⟩) ?rs22
            case hy22 => (intro W hW; go_simp; try with_reducible rfl)
            try simp only [Act.put, List.setIfInBounds_toArray, List.set_cons_zero, List.set_cons_succ]
            refine wpAnyF_pure (i := 6) (oi := { dst := some 43, op := Op.move (Go.Operand.tmp 9), type := 3, pos := "zsortanyfunc.go:13", after := #[], guard := none }) (v := ?v23) rfl (by kernel_rfl) (by kernel_rfl) (by kernel_rfl) (fun _ _ _ h => h) (Or.inl ⟨by rfl, ?hy23⟩) ?rs23
            case hy23 => (intro W hW; go_simp; try with_reducible rfl)
            try simp only [Act.put, List.setIfInBounds_toArray, List.set_cons_zero, List.set_cons_succ]
            refine wpAnyF_pure (i := 7) (oi := { dst := some 44, op := Op.binOp Go.BinOp.sub 3 (Go.Operand.tmp 43) (Go.Operand.const (Go.Value.int Go.IntKind.i64 1)) 3, type := 3, pos := "zsortanyfunc.go:13", after := #[{ on := 6, ground := Ground.data }], guard := none }) (v := ?v24) rfl (by kernel_rfl) (by kernel_rfl) (by kernel_rfl) (fun _ _ _ h => h) (Or.inl ⟨by rfl, ?hy24⟩) ?rs24
            case hy24 => (intro W hW; go_simp; try with_reducible rfl)
            try simp only [Act.put, List.setIfInBounds_toArray, List.set_cons_zero, List.set_cons_succ]
            refine wpAnyF_pure (i := 8) (oi := { dst := some 45, op := Op.indexAddr 22 (Go.Operand.tmp 42) (Go.Operand.tmp 44), type := 0, pos := "zsortanyfunc.go:13", after := #[{ on := 5, ground := Ground.data }, { on := 7, ground := Ground.data }], guard := none }) (v := ?v25) rfl (by kernel_rfl) (by kernel_rfl) (by kernel_rfl) (fun _ _ _ h => h) (Or.inl ⟨by rfl, ?hy25⟩) ?rs25
            case hy25 => (intro W hW; go_simp; try with_reducible rfl)
            try simp only [Act.put, List.setIfInBounds_toArray, List.set_cons_zero, List.set_cons_succ]
            refine wpAnyF_take (i := 9) (oi := { dst := some 46, op := Op.load 38 (Go.Operand.tmp 45), type := 38, pos := "zsortanyfunc.go:13", after := #[{ on := 8, ground := Ground.data }], guard := none }) (v := ?v26) rfl (by kernel_rfl) (by kernel_rfl) (by kernel_rfl) (by decide) (by kernel_rfl) (fun _ _ _ h => h) (Or.inl ⟨by rfl, ?hy26⟩) ?rs26
            case hy26 => (intro W hW; obtain ⟨m0, m1, j0, j1⟩ := hcl.out W (hB.trans hW); go_simp; try with_reducible rfl)
            try simp only [Act.put, List.setIfInBounds_toArray, List.set_cons_zero, List.set_cons_succ]
            refine wpAnyF_pure (i := 10) (oi := { dst := some 47, op := Op.move (Go.Operand.tmp 0), type := 22, pos := "zsortanyfunc.go:13", after := #[], guard := none }) (v := ?v27) rfl (by kernel_rfl) (by kernel_rfl) (by kernel_rfl) (fun _ _ _ h => h) (Or.inl ⟨by rfl, ?hy27⟩) ?rs27
            case hy27 => (intro W hW; go_simp; try with_reducible rfl)
            try simp only [Act.put, List.setIfInBounds_toArray, List.set_cons_zero, List.set_cons_succ]
            refine wpAnyF_pure (i := 11) (oi := { dst := some 48, op := Op.move (Go.Operand.tmp 9), type := 3, pos := "zsortanyfunc.go:13", after := #[], guard := none }) (v := ?v28) rfl (by kernel_rfl) (by kernel_rfl) (by kernel_rfl) (fun _ _ _ h => h) (Or.inl ⟨by rfl, ?hy28⟩) ?rs28
            case hy28 => (intro W hW; go_simp; try with_reducible rfl)
            try simp only [Act.put, List.setIfInBounds_toArray, List.set_cons_zero, List.set_cons_succ]
            refine wpAnyF_pure (i := 12) (oi := { dst := some 49, op := Op.indexAddr 22 (Go.Operand.tmp 47) (Go.Operand.tmp 48), type := 0, pos := "zsortanyfunc.go:13", after := #[{ on := 10, ground := Ground.data }, { on := 11, ground := Ground.data }], guard := none }) (v := ?v29) rfl (by kernel_rfl) (by kernel_rfl) (by kernel_rfl) (fun _ _ _ h => h) (Or.inl ⟨by rfl, ?hy29⟩) ?rs29
            case hy29 => (intro W hW; go_simp; try with_reducible rfl)
            try simp only [Act.put, List.setIfInBounds_toArray, List.set_cons_zero, List.set_cons_succ]
            refine wpAnyF_take (i := 13) (oi := { dst := some 50, op := Op.load 38 (Go.Operand.tmp 49), type := 38, pos := "zsortanyfunc.go:13", after := #[{ on := 12, ground := Ground.data }], guard := none }) (v := ?v30) rfl (by kernel_rfl) (by kernel_rfl) (by kernel_rfl) (by decide) (by kernel_rfl) (fun _ _ _ h => h) (Or.inl ⟨by rfl, ?hy30⟩) ?rs30
            case hy30 => (intro W hW; obtain ⟨m0, m1, j0, j1⟩ := hcl.out W (hB.trans hW); go_simp; try with_reducible rfl)
            try simp only [Act.put, List.setIfInBounds_toArray, List.set_cons_zero, List.set_cons_succ]
            refine wpAnyF_pure (i := 14) (oi := { dst := some 51, op := Op.indexAddr 22 (Go.Operand.tmp 37) (Go.Operand.tmp 38), type := 0, pos := "zsortanyfunc.go:13", after := #[{ on := 0, ground := Ground.data }, { on := 1, ground := Ground.data }, { on := 0, ground := Ground.phase }, { on := 1, ground := Ground.phase }, { on := 2, ground := Ground.textOnly Go.Departure.lateStores }, { on := 3, ground := Ground.textOnly Go.Departure.lateStores }, { on := 4, ground := Ground.textOnly Go.Departure.lateStores }, { on := 5, ground := Ground.phase }, { on := 6, ground := Ground.phase }, { on := 7, ground := Ground.phase }, { on := 8, ground := Ground.phase }, { on := 9, ground := Ground.phase }, { on := 10, ground := Ground.textOnly Go.Departure.lateStores }, { on := 11, ground := Ground.textOnly Go.Departure.lateStores }, { on := 12, ground := Ground.textOnly Go.Departure.lateStoresUnsure }, { on := 13, ground := Ground.phase }], guard := none }) (v := ?v31) rfl (by kernel_rfl) (by kernel_rfl) (by kernel_rfl) (fun _ _ _ h => h) (Or.inl ⟨by rfl, ?hy31⟩) ?rs31
            case hy31 => (intro W hW; go_simp; try with_reducible rfl)
            try simp only [Act.put, List.setIfInBounds_toArray, List.set_cons_zero, List.set_cons_succ]
            refine wpAnyF_last (i := 15) (o := { dst := none, op := Op.store 38 (Go.Operand.tmp 51) (Go.Operand.tmp 46), type := 0, pos := "zsortanyfunc.go:13", after := #[{ on := 14, ground := Ground.data }, { on := 9, ground := Ground.data }, { on := 0, ground := Ground.phase }, { on := 1, ground := Ground.phase }, { on := 2, ground := Ground.textOnly Go.Departure.lateStores }, { on := 3, ground := Ground.textOnly Go.Departure.lateStores }, { on := 4, ground := Ground.textOnly Go.Departure.lateStores }, { on := 5, ground := Ground.phase }, { on := 6, ground := Ground.phase }, { on := 7, ground := Ground.phase }, { on := 8, ground := Ground.phase }, { on := 9, ground := Ground.phase }, { on := 10, ground := Ground.textOnly Go.Departure.lateStores }, { on := 11, ground := Ground.textOnly Go.Departure.lateStores }, { on := 12, ground := Ground.textOnly Go.Departure.lateStoresUnsure }, { on := 13, ground := Ground.phase }], guard := none }) (by kernel_rfl) rfl (by decide) (fun K hK => ?_)
            go_simp
            refine hK.out _ _ ?_
            clear hK K
            try simp only [Act.put, List.setIfInBounds_toArray, List.set_cons_zero, List.set_cons_succ]
            refine wpAnyF_pure (i := 16) (oi := { dst := some 52, op := Op.indexAddr 22 (Go.Operand.tmp 39) (Go.Operand.tmp 41), type := 0, pos := "zsortanyfunc.go:13", after := #[{ on := 2, ground := Ground.data }, { on := 4, ground := Ground.data }, { on := 0, ground := Ground.phase }, { on := 1, ground := Ground.phase }, { on := 2, ground := Ground.phase }, { on := 3, ground := Ground.phase }, { on := 4, ground := Ground.phase }, { on := 5, ground := Ground.phase }, { on := 6, ground := Ground.phase }, { on := 7, ground := Ground.phase }, { on := 8, ground := Ground.phase }, { on := 9, ground := Ground.phase }, { on := 10, ground := Ground.phase }, { on := 11, ground := Ground.phase }, { on := 12, ground := Ground.phase }, { on := 13, ground := Ground.phase }, { on := 14, ground := Ground.phase }, { on := 15, ground := Ground.phase }], guard := none }) (v := ?v32) rfl (by kernel_rfl) (by kernel_rfl) (by kernel_rfl) (fun _ _ _ h => h) (Or.inl ⟨by rfl, ?hy32⟩) ?rs32
            case hy32 => (intro W hW; go_simp; try with_reducible rfl)
            try simp only [Act.put, List.setIfInBounds_toArray, List.set_cons_zero, List.set_cons_succ]
            refine wpAnyF_last (i := 17) (o := { dst := none, op := Op.store 38 (Go.Operand.tmp 52) (Go.Operand.tmp 50), type := 0, pos := "zsortanyfunc.go:13", after := #[{ on := 16, ground := Ground.data }, { on := 13, ground := Ground.data }, { on := 15, ground := Ground.chain }, { on := 0, ground := Ground.phase }, { on := 1, ground := Ground.phase }, { on := 2, ground := Ground.phase }, { on := 3, ground := Ground.phase }, { on := 4, ground := Ground.phase }, { on := 5, ground := Ground.phase }, { on := 6, ground := Ground.phase }, { on := 7, ground := Ground.phase }, { on := 8, ground := Ground.phase }, { on := 9, ground := Ground.phase }, { on := 10, ground := Ground.phase }, { on := 11, ground := Ground.phase }, { on := 12, ground := Ground.phase }, { on := 13, ground := Ground.phase }, { on := 14, ground := Ground.phase }, { on := 15, ground := Ground.phase }], guard := none }) (by kernel_rfl) rfl (by decide) (fun K hK => ?_)
            generalize ((w7.setCell ⟨g, j * 2, none⟩ (.int .i64 (up : Int))).setCell ⟨g, j * 2 + 1, none⟩ (.int .i64 (uc : Int))) = w8 at *
            go_simp
            refine hK.out _ _ ?_
            clear hK K
            try simp only [Act.put, List.setIfInBounds_toArray, List.set_cons_zero, List.set_cons_succ]
            refine wpAnyF_done (by kernel_rfl) ?_
            have hfin : Hid (((S.take m ++ (([⟨up, uc⟩] : List Tk) ++ (⟨tp, tc⟩ : Tk) :: (S.drop j ++ R))).set j (⟨up, uc⟩ : Tk)).set m (⟨tp, tc⟩ : Tk) = S.take m ++ ⟨tp, tc⟩ :: (S.drop m ++ R)) := by
              show _ = _
              have h2 := swap_at (A := S.take m) (R := S.drop j ++ R) (u := ⟨up, uc⟩) (t := ⟨tp, tc⟩)
              rw [H2.out.2.2, ← Hjm.out] at h2
              rw [H2.out.2.1]
              exact h2
            have HD2 : Hid (∀ u ∈ S.drop m, tp < u.p) := by
              intro u hu
              rw [H2.out.2.1] at hu
              rcases List.mem_cons.1 hu with rfl | hu
              · exact hlt2
              · exact HD.out u hu
            rw [hfin.out] at HP
            have hgW := grownBy_then hgr7 hgP
            clear k0 k1 i0 i1 f0 f1 k2 k3 f2 f3 hcl hgP hfin
            generalize ((w8.setCell ⟨g, m * 2, none⟩ (.int .i64 (tp : Int))).setCell ⟨g, m * 2 + 1, none⟩ (.int .i64 (tc : Int))) = w9 at *
            go_wp2
            go_roundw
            case rel => exact ⟨m, by have := Hjm.out; omega, rfl, HP.out.below ((Below.refl _ _).drew), HD2.out, grownBy_then hgW (grownBy_belowS (Below.refl _ _).drew), Nat.lt_of_lt_of_le hg hgW.size⟩
            case measure => have := Hjm.out; simp [intOf] <;> omega
          · obtain ⟨v, hv, hv0⟩ : ∃ v : Int, cmpN tp up = v ∧ 0 ≤ v := by
              refine ⟨_, rfl, ?_⟩
              rw [cmpN, if_neg hlt2]
              split <;> omega
            have CS := fun W => Sort1_any tp tc up uc W
            rw [hv] at CS
            have HC := Lib.hid CS
            have hdv : decide (v < 0) = false := decide_eq_false (by omega)
            have hfin : Hid (S.take j ++ ⟨tp, tc⟩ :: (S.drop j ++ R) = sortT (M.take (k + 1)) ++ M.drop (k + 1)) := by
              show _ = _
              rw [hSt.out, HSR.out.2, putT_at (S := S) (j := j) (by omega) (fun u hu => by
                have hsrt := hSs.out
                unfold SortedT at hsrt
                have hj2 := H2.out.1
                rw [hj2] at hu
                rcases List.mem_append.1 hu with hu | hu
                · have e : S = S.take m ++ ⟨up, uc⟩ :: S.drop j := by rw [← H2.out.2.1, List.take_append_drop]
                  rw [e] at hsrt
                  have h3 := (List.pairwise_append.1 hsrt).2.2 u hu ⟨up, uc⟩ (by simp)
                  simp only at h3
                  show u.p ≤ tp
                  omega
                · rw [List.mem_singleton.1 hu]
                  show up ≤ tp
                  omega) HD.out]
              simp
            have hO2 := H1.out.1
            rw [← List.append_assoc, ← H2.out.1, hfin.out] at hO2
            have HO2 := Lib.hid hO2
            clear CS hv hO2 hfin H1 H2 hSt HSR HD
            go_wp2
            have hB : Below wr.heap.size wr wr.drew := (Below.refl _ _).drew
            have hcl : Hid (∀ W, Below wr.heap.size wr W → W.cell? ⟨g, m * 2, none⟩ = some (.int .i64 (up : Int)) ∧ W.cell? ⟨g, m * 2 + 1, none⟩ = some (.int .i64 (uc : Int)) ∧ W.cell? ⟨g, j * 2, none⟩ = some (.int .i64 (tp : Int)) ∧ W.cell? ⟨g, j * 2 + 1, none⟩ = some (.int .i64 (tc : Int))) :=
              fun W hW => ⟨(hW.cell (p := ⟨g, m * 2, none⟩) hgl).trans m0, (hW.cell (p := ⟨g, m * 2 + 1, none⟩) hgl).trans m1, (hW.cell (p := ⟨g, j * 2, none⟩) hgl).trans j0, (hW.cell (p := ⟨g, j * 2 + 1, none⟩) hgl).trans j1⟩
            clear m0 m1 j0 j1
            refine wp_region_B (by kernel_rfl) ?_
            refine wpAnyB_take (i := 0) (oi := { dst := some 18, op := Op.move (Go.Operand.tmp 9), type := 3, pos := "zsortanyfunc.go:12", after := #[], guard := none }) (v := ?v33) rfl (by kernel_rfl) (by kernel_rfl) (by kernel_rfl) (fun _ _ _ h => h) (Or.inl ⟨by rfl, ?hy33⟩) ?rs33
            case hy33 => (intro W hW; go_simp; try with_reducible rfl)
            try simp only [Act.put, List.setIfInBounds_toArray, List.set_cons_zero, List.set_cons_succ]
            refine wpAnyB_take (i := 1) (oi := { dst := some 19, op := Op.move (Go.Operand.tmp 1), type := 3, pos := "zsortanyfunc.go:12", after := #[], guard := none }) (v := ?v34) rfl (by kernel_rfl) (by kernel_rfl) (by kernel_rfl) (fun _ _ _ h => h) (Or.inl ⟨by rfl, ?hy34⟩) ?rs34
            case hy34 => (intro W hW; go_simp; try with_reducible rfl)
            try simp only [Act.put, List.setIfInBounds_toArray, List.set_cons_zero, List.set_cons_succ]
            refine wpAnyB_take (i := 2) (oi := { dst := some 20, op := Op.binOp Go.BinOp.gtr 3 (Go.Operand.tmp 18) (Go.Operand.tmp 19) 3, type := 4, pos := "zsortanyfunc.go:12", after := #[{ on := 0, ground := Ground.data }, { on := 1, ground := Ground.data }], guard := none }) (v := ?v35) rfl (by kernel_rfl) (by kernel_rfl) (by kernel_rfl) (fun _ _ _ h => h) (Or.inl ⟨by rfl, ?hy35⟩) ?rs35
            case hy35 => (intro W hW; go_simp; try with_reducible rfl)
            try simp only [Act.put, List.setIfInBounds_toArray, List.set_cons_zero, List.set_cons_succ]
            refine wpAnyB_take (i := 3) (oi := { dst := some 21, op := Op.move (Go.Operand.tmp 20), type := 4, pos := "zsortanyfunc.go:12", after := #[{ on := 2, ground := Ground.data }], guard := none }) (v := ?v36) rfl (by kernel_rfl) (by kernel_rfl) (by kernel_rfl) (fun _ _ _ h => h) (Or.inl ⟨by rfl, ?hy36⟩) ?rs36
            case hy36 => (intro W hW; go_simp; try with_reducible rfl)
            try simp only [Act.put, List.setIfInBounds_toArray, List.set_cons_zero, List.set_cons_succ]
            refine wpAnyB_take (i := 4) (oi := { dst := some 22, op := Op.move (Go.Operand.tmp 3), type := 61, pos := "zsortanyfunc.go:12", after := #[{ on := 3, ground := Ground.guard }], guard := some (3, true) }) (v := ?v37) rfl (by kernel_rfl) (by kernel_rfl) (by kernel_rfl) (fun _ _ _ h => h) (Or.inl ⟨by rfl, ?hy37⟩) ?rs37
            case hy37 => (intro W hW; go_simp; try with_reducible rfl)
            try simp only [Act.put, List.setIfInBounds_toArray, List.set_cons_zero, List.set_cons_succ]
            refine wpAnyB_take (i := 5) (oi := { dst := some 23, op := Op.move (Go.Operand.tmp 0), type := 22, pos := "zsortanyfunc.go:12", after := #[{ on := 3, ground := Ground.guard }], guard := some (3, true) }) (v := ?v38) rfl (by kernel_rfl) (by kernel_rfl) (by kernel_rfl) (fun _ _ _ h => h) (Or.inl ⟨by rfl, ?hy38⟩) ?rs38
            case hy38 => (intro W hW; go_simp; try with_reducible rfl)
            try simp only [Act.put, List.setIfInBounds_toArray, List.set_cons_zero, List.set_cons_succ]
            refine wpAnyB_take (i := 6) (oi := { dst := some 24, op := Op.move (Go.Operand.tmp 9), type := 3, pos := "zsortanyfunc.go:12", after := #[{ on := 3, ground := Ground.guard }], guard := some (3, true) }) (v := ?v39) rfl (by kernel_rfl) (by kernel_rfl) (by kernel_rfl) (fun _ _ _ h => h) (Or.inl ⟨by rfl, ?hy39⟩) ?rs39
            case hy39 => (intro W hW; go_simp; try with_reducible rfl)
            try simp only [Act.put, List.setIfInBounds_toArray, List.set_cons_zero, List.set_cons_succ]
            refine wpAnyB_take (i := 7) (oi := { dst := some 25, op := Op.indexAddr 22 (Go.Operand.tmp 23) (Go.Operand.tmp 24), type := 0, pos := "zsortanyfunc.go:12", after := #[{ on := 5, ground := Ground.data }, { on := 6, ground := Ground.data }, { on := 3, ground := Ground.guard }], guard := some (3, true) }) (v := ?v40) rfl (by kernel_rfl) (by kernel_rfl) (by kernel_rfl) (fun _ _ _ h => h) (Or.inl ⟨by rfl, ?hy40⟩) ?rs40
            case hy40 => (intro W hW; go_simp; try with_reducible rfl)
            try simp only [Act.put, List.setIfInBounds_toArray, List.set_cons_zero, List.set_cons_succ]
            refine wpAnyB_take (i := 8) (oi := { dst := some 26, op := Op.load 38 (Go.Operand.tmp 25), type := 38, pos := "zsortanyfunc.go:12", after := #[{ on := 7, ground := Ground.data }, { on := 3, ground := Ground.guard }], guard := some (3, true) }) (v := ?v41) rfl (by kernel_rfl) (by kernel_rfl) (by kernel_rfl) (fun _ _ _ h => h) (Or.inl ⟨by rfl, ?hy41⟩) ?rs41
            case hy41 => (intro W hW; obtain ⟨m0, m1, j0, j1⟩ := hcl.out W (bthen hB hW); go_simp; try with_reducible rfl)
            try simp only [Act.put, List.setIfInBounds_toArray, List.set_cons_zero, List.set_cons_succ]
            refine wpAnyB_take (i := 9) (oi := { dst := some 27, op := Op.move (Go.Operand.tmp 0), type := 22, pos := "zsortanyfunc.go:12", after := #[{ on := 3, ground := Ground.guard }], guard := some (3, true) }) (v := ?v42) rfl (by kernel_rfl) (by kernel_rfl) (by kernel_rfl) (fun _ _ _ h => h) (Or.inl ⟨by rfl, ?hy42⟩) ?rs42
            case hy42 => (intro W hW; go_simp; try with_reducible rfl)
            try simp only [Act.put, List.setIfInBounds_toArray, List.set_cons_zero, List.set_cons_succ]
            refine wpAnyB_take (i := 10) (oi := { dst := some 28, op := Op.move (Go.Operand.tmp 9), type := 3, pos := "zsortanyfunc.go:12", after := #[{ on := 3, ground := Ground.guard }], guard := some (3, true) }) (v := ?v43) rfl (by kernel_rfl) (by kernel_rfl) (by kernel_rfl) (fun _ _ _ h => h) (Or.inl ⟨by rfl, ?hy43⟩) ?rs43
            case hy43 => (intro W hW; go_simp; try with_reducible rfl)
            try simp only [Act.put, List.setIfInBounds_toArray, List.set_cons_zero, List.set_cons_succ]
            refine wpAnyB_take (i := 11) (oi := { dst := some 29, op := Op.binOp Go.BinOp.sub 3 (Go.Operand.tmp 28) (Go.Operand.const (Go.Value.int Go.IntKind.i64 1)) 3, type := 3, pos := "zsortanyfunc.go:12", after := #[{ on := 10, ground := Ground.data }, { on := 3, ground := Ground.guard }], guard := some (3, true) }) (v := ?v44) rfl (by kernel_rfl) (by kernel_rfl) (by kernel_rfl) (fun _ _ _ h => h) (Or.inl ⟨by rfl, ?hy44⟩) ?rs44
            case hy44 => (intro W hW; go_simp; try with_reducible rfl)
            try simp only [Act.put, List.setIfInBounds_toArray, List.set_cons_zero, List.set_cons_succ]
            refine wpAnyB_take (i := 12) (oi := { dst := some 30, op := Op.indexAddr 22 (Go.Operand.tmp 27) (Go.Operand.tmp 29), type := 0, pos := "zsortanyfunc.go:12", after := #[{ on := 9, ground := Ground.data }, { on := 11, ground := Ground.data }, { on := 3, ground := Ground.guard }], guard := some (3, true) }) (v := ?v45) rfl (by kernel_rfl) (by kernel_rfl) (by kernel_rfl) (fun _ _ _ h => h) (Or.inl ⟨by rfl, ?hy45⟩) ?rs45
            case hy45 => (intro W hW; go_simp; try with_reducible rfl)
            try simp only [Act.put, List.setIfInBounds_toArray, List.set_cons_zero, List.set_cons_succ]
            refine wpAnyB_take (i := 13) (oi := { dst := some 31, op := Op.load 38 (Go.Operand.tmp 30), type := 38, pos := "zsortanyfunc.go:12", after := #[{ on := 12, ground := Ground.data }, { on := 3, ground := Ground.guard }], guard := some (3, true) }) (v := ?v46) rfl (by kernel_rfl) (by kernel_rfl) (by kernel_rfl) (fun _ _ _ h => h) (Or.inl ⟨by rfl, ?hy46⟩) ?rs46
            case hy46 => (intro W hW; obtain ⟨m0, m1, j0, j1⟩ := hcl.out W (bthen hB hW); go_simp; try with_reducible rfl)
            try simp only [Act.put, List.setIfInBounds_toArray, List.set_cons_zero, List.set_cons_succ]
            refine wpAnyB_one (i := 14) (o := { dst := some 32, op := Op.call { callee := Callee.value (Go.Operand.tmp 22), args := #[Go.Operand.tmp 26, Go.Operand.tmp 31], argTypes := #[38, 38] }, type := 3, pos := "zsortanyfunc.go:12", after := #[{ on := 4, ground := Ground.data }, { on := 8, ground := Ground.data }, { on := 13, ground := Ground.data }, { on := 3, ground := Ground.chain }, { on := 3, ground := Ground.guard }], guard := some (3, true) }) (by kernel_rfl) rfl (fun K hK => ?_)
            go_simp
            refine (HC.out _).mono ?_; rintro e w7 ⟨rfl, hbk⟩; replace hB := bthen hB hbk
            refine hK.out _ _ hbk ?_
            clear hK K
            try simp only [Act.put, List.setIfInBounds_toArray, List.set_cons_zero, List.set_cons_succ]
            refine wpAnyB_take (i := 15) (oi := { dst := some 33, op := Op.binOp Go.BinOp.lss 3 (Go.Operand.tmp 32) (Go.Operand.const (Go.Value.int Go.IntKind.i64 0)) 3, type := 4, pos := "zsortanyfunc.go:12", after := #[{ on := 14, ground := Ground.data }, { on := 3, ground := Ground.guard }], guard := some (3, true) }) (v := ?v47) rfl (by kernel_rfl) (by kernel_rfl) (by kernel_rfl) (fun _ _ _ h => h) (Or.inl ⟨by rfl, ?hy47⟩) ?rs47
            case hy47 => (intro W hW; go_simp; try with_reducible rfl)
            try simp only [Act.put, List.setIfInBounds_toArray, List.set_cons_zero, List.set_cons_succ]
            refine wpAnyB_take (i := 16) (oi := { dst := some 34, op := Op.pick (Go.Operand.tmp 21) (Go.Operand.tmp 33) (Go.Operand.const (Go.Value.bool false)), type := 4, pos := "zsortanyfunc.go:12", after := #[{ on := 3, ground := Ground.data }, { on := 15, ground := Ground.data }], guard := none }) (v := ?v48) rfl (by kernel_rfl) (by kernel_rfl) (by kernel_rfl) (fun _ _ _ h => h) (Or.inl ⟨by rfl, ?hy48⟩) ?rs48
            case hy48 => (intro W hW; go_simp; try with_reducible rfl)
            try simp only [Act.put, List.setIfInBounds_toArray, List.set_cons_zero, List.set_cons_succ]
            refine wpAnyB_done (by kernel_rfl) ?_
            clear hcl HC
            go_wp2
            go_roundw
            case rel => exact ⟨k + 1, by omega, .inl (by omega), by go_num, HO2.out.below hB, grownBy_then hgr (grownBy_belowS hB), Nat.lt_of_lt_of_le hgl hB.size⟩
            case measure => simp [intOf] <;> omega
    · go_wp2
      go_end0
      refine ⟨rfl, ?_, hgr⟩
      have e : sortT (M.take k) ++ M.drop k = sortT M := by
        rcases hkn with h | h
        · rw [List.take_of_length_le (by omega), List.drop_of_length_le (by omega), List.append_nil]
        · rw [List.take_of_length_le (by omega), List.drop_of_length_le (by omega), List.append_nil]
      rw [e] at ho
      exact ho
set_option maxHeartbeats 400000 in
theorem stable_any (g c n : Nat) (M : List Tk) (hl : M.length = n) (hn : n ≤ 16) (base : Nat) (w : World) (ho : OwG tkC 2 w base 38 (.slice (some ⟨g, 0, none⟩) n c) M) (hg : g < w.heap.size) :
    Calls Try.prog 34 #[.slice (some ⟨g, 0, none⟩) n c, .func (.func 35) #[] #[]] w fun e w' => e = .returned (.tuple #[]) ∧ OwG tkC 2 w' base 38 (.slice (some ⟨g, 0, none⟩) n c) (sortT M) ∧ w.grownBy w' (some g) := by
  have C := Lib.hid (insertion_any g c n M hl hn base w ho hg)
  have C2 : Calls Try.prog 53 #[.slice (some ⟨g, 0, none⟩) n c, .int .i64 n, .func (.func 35) #[] #[]] w fun e w' => e = .returned (.tuple #[]) ∧ OwG tkC 2 w' base 38 (.slice (some ⟨g, 0, none⟩) n c) (sortT M) ∧ w.grownBy w' (some g) := by
    go_enter Try.func53, Try.ntmps53
    go_wp2
    go_loopw [7, 8] (fun a b wr => a = .int .i64 0 ∧ b = .int .i64 20 ∧ wr = w) (fun _ _ _ => 0)
    case atStart => exact ⟨rfl, rfl, rfl⟩
    case round =>
      obtain ⟨rfl, rfl, rfl⟩ := hrel
      have h20 : ¬ 20 ≤ n := by omega
      have h21 : ¬ 20 < n := by omega
      clear ho
      go_wp2_with fail
      refine C.out.mono ?_
      rintro e w7 ⟨rfl, ho7, hg7⟩
      go_wp2
      go_loopw [6] (fun a wr => a = .int .i64 20 ∧ wr = w7) (fun _ _ => 0)
      case atStart => exact ⟨rfl, rfl⟩
      case round =>
        obtain ⟨rfl, rfl⟩ := hrel
        go_wp2
        go_end0
        exact ⟨rfl, ho7, hg7⟩
  have C3 := Lib.hid C2
  clear C C2 ho
  go_enter Try.func34, Try.ntmps34
  go_wp2_with fail
  refine C3.out.mono ?_
  rintro e w7 ⟨rfl, ho7, hg7⟩
  go_wp2
  go_end0
  exact ⟨rfl, ho7, hg7⟩
set_option maxHeartbeats 400000 in
/-- Of nothing. -/
theorem stable0_any (A : Option Addr) (c : Nat) (w : World) :
    Calls Try.prog 34 #[.slice A 0 c, .func (.func 35) #[] #[]] w fun e w' => e = .returned (.tuple #[]) ∧ w' = w := by
  have C : Calls Try.prog 70 #[.slice A 0 c, .int .i64 0, .int .i64 0, .func (.func 35) #[] #[]] w fun e w' => e = .returned (.tuple #[]) ∧ w' = w := by
    go_enter Try.func70, Try.ntmps70
    go_wp2
    go_loopw [8] (fun i wr => i = .int .i64 1 ∧ wr = w) (fun _ _ => 0)
    case atStart => exact ⟨rfl, rfl⟩
    case round =>
      obtain ⟨rfl, rfl⟩ := hrel
      go_wp2
      go_end0
      exact ⟨rfl, rfl⟩
  have C2 : Calls Try.prog 53 #[.slice A 0 c, .int .i64 0, .func (.func 35) #[] #[]] w fun e w' => e = .returned (.tuple #[]) ∧ w' = w := by
    go_enter Try.func53, Try.ntmps53
    go_wp2
    go_loopw [7, 8] (fun a b wr => a = .int .i64 0 ∧ b = .int .i64 20 ∧ wr = w) (fun _ _ _ => 0)
    case atStart => exact ⟨rfl, rfl, rfl⟩
    case round =>
      obtain ⟨rfl, rfl, rfl⟩ := hrel
      go_wp2_with fail
      refine C.mono ?_
      rintro e w7 ⟨rfl, rfl⟩
      go_wp2
      go_loopw [6] (fun a W => a = .int .i64 20 ∧ W = w7) (fun _ _ => 0)
      case atStart => exact ⟨rfl, rfl⟩
      case round =>
        obtain ⟨rfl, rfl⟩ := hrel
        go_wp2
        go_end0
        exact ⟨rfl, rfl⟩
  have C3 := Lib.hid C2
  clear C C2
  go_enter Try.func34, Try.ntmps34
  go_wp2_with fail
  refine C3.out.mono ?_
  rintro e w7 ⟨rfl, rfl⟩
  go_wp2
  go_end0
  exact ⟨rfl, rfl⟩
/-- What Sort gives: the tasks in the order of their periods, in a slice of its own. -/
def GivesSort (L : List Tsk) (w : World) (e : Ending) (w' : World) : Prop :=
  ((wrongK L = true ∧ e = .returned (.tuple #[.slice none 0 0, .int .i64 2])) ∨
   ∃ M v, L = M.map Tk.asT ∧ GoodK M ∧ e = .returned (.tuple #[v, .int .i64 0]) ∧ OwG tkC 2 w' w.heap.size 38 v (sortT M)) ∧ Below w.heap.size w w'
theorem own_tk {w : World} {base : Nat} {e : TypeId} {v : Value} {M : List Tk} (h : OwG tskC 2 w base e v (M.map Tk.asT)) : OwG tkC 2 w base e v M := by
  unfold OwG at h ⊢
  rw [tk_flat, List.length_map] at h
  exact h
set_option maxHeartbeats 800000 in
theorem Sort_any (A : Option Addr) (n c : Nat) (L : List Tsk) (w : World) (h : RdG tskC 2 w A n L) (hn : n ≤ 8796093022208) :
    Calls Try.prog 11 #[.slice A n c] w (GivesSort L w) := by
  have HW := Lib.hid (WrongK_any A n c L w h (by omega))
  cases hw : wrongK L
  · rw [errK_zero hw] at HW
    obtain ⟨M, rfl, hM⟩ := good_of hw
    clear hw
    have hl : M.length = n := by have := RdG.len tskK h; simpa using this
    have CC := Lib.hid (fun (W : World) (hW : Below w.heap.size w W) => CloneK_any A n c (M.map Tk.asT) W (h.below hW) hn)
    have HM := Lib.hid hM
    have hn16 : n ≤ 16 := by have := hM.len; omega
    clear h hM
    go_enter Try.func11, Try.ntmps11
    go_wp2_with fail
    refine HW.out.mono ?_
    rintro e w1 ⟨rfl, hb1⟩
    clear HW
    go_wp2_with fail
    refine (CC.out _ hb1).mono ?_
    rintro e w2 ⟨v, rfl, ho2, hb2⟩
    have hB2 := bthen hb1 hb2
    have ho := (own_tk ho2).mono hb1.size
    clear CC ho2 hb1 hb2
    rcases Nat.eq_zero_or_pos n with h0 | h0
    · subst h0
      obtain rfl : M = [] := List.eq_nil_of_length_eq_zero hl
      obtain ⟨A2, c2, rfl, _⟩ := ho.formN (n := 0) rfl
      have CS := Lib.hid (stable0_any A2 c2 w2)
      have HO := Lib.hid ho
      clear ho
      go_wp2_with fail
      refine CS.out.mono ?_
      rintro e w3 ⟨rfl, rfl⟩
      clear CS
      go_wp2
      go_ret2
      exact ⟨.inr ⟨[], _, rfl, HM.out, rfl, HO.out⟩, hB2⟩
    · obtain ⟨g, c2, rfl, hg, hc, _⟩ := ho.head (by omega)
      have hgl := ho.inHeap g rfl
      rw [hl] at ho ⊢
      have CS := Lib.hid (stable_any g c2 n M hl hn16 w.heap.size w2 ho hgl)
      clear ho
      go_wp2_with fail
      refine CS.out.mono ?_
      rintro e w3 ⟨rfl, ho3, hg3⟩
      have hB3 := below_grown hB2 hg3 hg hB2.size
      clear CS
      go_wp2
      go_ret2
      exact ⟨.inr ⟨M, _, rfl, HM.out, rfl, ho3⟩, hB3⟩
  · rw [errK_two hw] at HW
    have Hw := Lib.hid hw
    clear hw h
    go_enter Try.func11, Try.ntmps11
    go_wp2_with fail
    refine HW.out.mono ?_
    rintro e w1 ⟨rfl, hb1⟩
    go_wp2
    go_ret2
    exact ⟨.inl ⟨Hw.out, rfl⟩, hb1⟩
/-- What Fit tells. -/
def GivesFit (L : List Tsk) (w : World) (e : Ending) (w' : World) : Prop :=
  ∃ b x, e = .returned (.tuple #[.bool b, .int .i64 x]) ∧ Hid ((wrongK L = true ∧ b = false ∧ x = 2) ∨ ∃ M, L = M.map Tk.asT ∧ GoodK M ∧ (b = true ↔ Feas M) ∧ x = 0) ∧ Below w.heap.size w w'
theorem sort_good {M : List Tk} (h : GoodK M) : GoodK (sortT M) := h.perm (sort_perm M).symm
set_option maxHeartbeats 800000 in
theorem Fit_any (A : Option Addr) (n c : Nat) (L : List Tsk) (w : World) (h : RdG tskC 2 w A n L) (hn : n ≤ 8796093022208) :
    Calls Try.prog 12 #[.slice A n c] w (GivesFit L w) := by
  have CS := Lib.hid (Sort_any A n c L w h hn)
  clear h
  go_enter Try.func12, Try.ntmps12
  go_wp2_with fail
  refine CS.out.mono ?_
  rintro e w1 ⟨hs, hB1⟩
  clear CS
  rcases hs with ⟨hw, rfl⟩ | ⟨M, v, rfl, hM, rfl, ho⟩
  · have Hw := Lib.hid hw
    clear hw
    go_wp2
    go_ret2
    exact ⟨false, 2, rfl, .inl ⟨Hw.out, rfl, rfl⟩, hB1⟩
  · have hsl : (sortT M).length = M.length := (sort_perm M).length_eq
    obtain ⟨A2, c2, rfl, hc2, _, hr⟩ := ho.formN (n := (sortT M).length) rfl
    have hg := sort_good hM
    have hr2 : RdG tskC 2 w1 A2 (sortT M).length ((sortT M).map Tk.asT) := by
      show Rd w1 2 A2 _ _
      rw [tk_flat]
      exact hr
    have CE := Lib.hid (Ends_any A2 (sortT M).length c2 ((sortT M).map Tk.asT) w1 hr2 hc2 (by have := hg.len; omega))
    have HM := Lib.hid (And.intro hM hg)
    clear ho hr hr2 hM hg hsl hc2
    go_wp2_with fail
    refine CE.out.mono ?_
    intro e w2 hge
    rcases ends_dec (sortT M) with ⟨R, hR⟩ | hN
    · obtain ⟨A3, c3, rfl, _, _, hb⟩ := hge.ok HM.out.2 hR
      have HF : Hid (Feas M) := (fit_sorted HM.out.1.okL).1 (allEnd_of hR)
      clear CE hge hR
      go_wp2
      go_ret2
      exact ⟨true, 0, rfl, .inr ⟨M, rfl, HM.out.1, by simp [HF.out], rfl⟩, bthen hB1 hb⟩
    · obtain ⟨rfl, hb⟩ := hge.full HM.out.2 hN
      have HF : Hid (¬ Feas M) := fun hf => not_allEnd hN ((fit_sorted HM.out.1.okL).2 hf)
      clear CE hge hN
      go_wp2
      go_ret2
      exact ⟨false, 0, rfl, .inr ⟨M, rfl, HM.out.1, by simp [HF.out], rfl⟩, bthen hB1 hb⟩
end Go.Proofs.Ytajfohnblmnjjaa
