/-
  Contracts of the reference's functions of chapter 6: FTurn, FBalance, FUnboth, for every input.
-/
import Derived.Test.YtfnkaccfhlkfdaaLineWalks2
namespace Go.Proofs.Ytfnkaccfhlkfdaa
open Go.RowKit
set_option linter.unusedVariables false

set_option maxHeartbeats 400000 in
theorem FBalance_any (A : Option Addr) (n c : Nat) (l : List Bool) (w : World) (h : Rd w 1 A n (l.map Value.bool)) (hn : n ≤ 281474976710656) :
    Calls Try.prog 12 #[.slice A n c] w fun e w' => e = .returned (.int .i64 (balM l).1) ∧ w = w' := by
  have Hl := Lib.hid h.lenMap
  go_enter Try.func12, Try.ntmps12
  go_wp2
  go_loop [3, 8] (fun s i => ∃ (k m : Nat), k ≤ n ∧ i = .int .i64 k ∧ s = .int .i64 m ∧ m = (l.take k).count true) (fun _ i => n - (intOf i).toNat)
  case atStart => exact ⟨0, 0, Nat.zero_le _, rfl, rfl, rfl⟩
  case round =>
    obtain ⟨k, m, hk, rfl, rfl, hm⟩ := hrel
    have hle : m ≤ k := by have := List.count_le_length (a := true) (l := l.take k); rw [← hm] at this; simp at this; omega
    have Hm := Lib.hid hm; clear hm
    by_cases hlt : k < n
    · obtain ⟨ad, x, rfl, hx, hc⟩ := h.atMap hlt
      have Hs : Hid ((l.take (k + 1)).count true = m + [x].count true) := by show _ = _; rw [take_snoc hx, List.count_append, ← Hm.out]
      clear hx
      cases x
      · go_wp2
        go_round
        case rel => exact ⟨k + 1, m, by omega, by go_num, rfl, Hs.out.symm⟩
        case measure => simp [intOf] <;> omega
      · go_wp2
        go_round
        case rel => exact ⟨k + 1, m + 1, by omega, by go_num, by go_num, Hs.out.symm⟩
        case measure => simp [intOf] <;> omega
    · obtain rfl : k = n := by omega
      have e := Hm.out
      rw [List.take_of_length_le (by rw [Hl.out]; exact Nat.le_refl _)] at e
      have Hb := Lib.hid (balM_count l)
      go_wp2
      go_ret
      exact ⟨ret_int (by rw [Hb.out, ← e, Hl.out]), rfl⟩

set_option maxHeartbeats 800000 in
theorem FTurn_any (f : Bool) (A : Option Addr) (n c : Nat) (l : List Bool) (w : World) (h : Rd w 1 A n (l.map Value.bool)) (hn : n ≤ 175921860444160) :
    Calls Try.prog 15 #[.bool f, .slice A n c] w fun e w' => ∃ v, e = .returned v ∧ Ow Value.bool w' w.heap.size 4 v (turnM f l) ∧ Below w.heap.size w w' := by
  have Hl := Lib.hid h.lenMap
  go_enter Try.func15, Try.ntmps15
  go_wp2
  go_loopw [5, 6, 11] (fun v g i wr => ∃ (k m : Nat) (acc : List Bool), k ≤ n ∧ i = .int .i64 k ∧ g = .int .i64 m ∧ m ≤ k ∧ acc.length = k ∧ acc ++ turnM (f == (m % 2 == 0)) (l.drop k) = turnM f l ∧ Ow Value.bool wr w.heap.size 4 v acc ∧ Below w.heap.size w wr) (fun _ _ i _ => n - (intOf i).toNat)
  case atStart => exact ⟨0, 0, [], Nat.zero_le _, rfl, rfl, Nat.le_refl _, rfl, by simp, Ow.nil _ _ _ _, Below.refl _ _⟩
  case round =>
    obtain ⟨k, m, acc, hk, rfl, rfl, hmk, hal, hacc, ho, hbl⟩ := hrel
    have Hacc := Lib.hid hacc; clear hacc
    have hsz := hbl.size
    by_cases hlt : k < n
    · obtain ⟨ad, x, rfl, hx, hc⟩ := (h.below hbl).atMap hlt
      have Hx := Lib.hid (drop_cons hx); clear hx
      have Htc := Lib.hid (turn_count f x m)
      have t0 : Int.tmod (m : Int) 2 = (m : Int) % 2 := Int.tmod_eq_emod_of_nonneg (by omega)
      have t1 : Int.tmod ((m : Int) + 1) 2 = ((m : Int) + 1) % 2 := Int.tmod_eq_emod_of_nonneg (by omega)
      rcases Nat.mod_two_eq_zero_or_one m with hp | hp
      · have p0 : (m : Int) % 2 = 0 := by omega
        have p1 : ((m : Int) + 1) % 2 = 1 := by omega
        have Hp := Lib.hid hp; clear hp
        cases x
        · go_wp2_with (at_builtin; go_must (refine wpList_apW Value.bool _ elBool rfl rfl one_bool w.heap.size _ acc rfl (ho.alloc _) _ 1 1 _ rfl (Rd.oneM Value.bool _ _ _) (le_alloc (by omega)) (by omega) (by omega) ?_; intro v1 w1 ho1 hm1))
          go_roundw
          case rel =>
            refine ⟨k + 1, m + 1, _, by omega, by go_num, by go_num, by omega, by simp [hal], ?_, ho1, hm1.below (hbl.alloc (by omega) _) (le_alloc (by omega)) (fun k hk => ho.block k hk)⟩
            have e := Htc.out
            simp only [Bool.false_eq_true, if_false] at e
            rw [← Hacc.out, Hx.out, turnM, e, List.append_assoc]
            have := Hp.out
            cases f <;> simp [this]
          case measure => simp [intOf] <;> omega
        · go_wp2_with (at_builtin; go_must (refine wpList_apW Value.bool _ elBool rfl rfl one_bool w.heap.size _ acc rfl (ho.alloc _) _ 1 1 _ rfl (Rd.oneM Value.bool _ _ _) (le_alloc (by omega)) (by omega) (by omega) ?_; intro v1 w1 ho1 hm1))
          go_roundw
          case rel =>
            refine ⟨k + 1, m, _, by omega, by go_num, rfl, by omega, by simp [hal], ?_, ho1, hm1.below (hbl.alloc (by omega) _) (le_alloc (by omega)) (fun k hk => ho.block k hk)⟩
            have e := Htc.out
            simp only [if_true] at e
            rw [← Hacc.out, Hx.out, turnM, ← e, List.append_assoc]
            have := Hp.out
            cases f <;> simp [this]
          case measure => simp [intOf] <;> omega
      · have p0 : (m : Int) % 2 = 1 := by omega
        have p1 : ((m : Int) + 1) % 2 = 0 := by omega
        have Hp := Lib.hid hp; clear hp
        cases x
        · go_wp2_with (at_builtin; go_must (refine wpList_apW Value.bool _ elBool rfl rfl one_bool w.heap.size _ acc rfl (ho.alloc _) _ 1 1 _ rfl (Rd.oneM Value.bool _ _ _) (le_alloc (by omega)) (by omega) (by omega) ?_; intro v1 w1 ho1 hm1))
          go_roundw
          case rel =>
            refine ⟨k + 1, m + 1, _, by omega, by go_num, by go_num, by omega, by simp [hal], ?_, ho1, hm1.below (hbl.alloc (by omega) _) (le_alloc (by omega)) (fun k hk => ho.block k hk)⟩
            have e := Htc.out
            simp only [Bool.false_eq_true, if_false] at e
            rw [← Hacc.out, Hx.out, turnM, e, List.append_assoc]
            have := Hp.out
            cases f <;> simp [this]
          case measure => simp [intOf] <;> omega
        · go_wp2_with (at_builtin; go_must (refine wpList_apW Value.bool _ elBool rfl rfl one_bool w.heap.size _ acc rfl (ho.alloc _) _ 1 1 _ rfl (Rd.oneM Value.bool _ _ _) (le_alloc (by omega)) (by omega) (by omega) ?_; intro v1 w1 ho1 hm1))
          go_roundw
          case rel =>
            refine ⟨k + 1, m, _, by omega, by go_num, rfl, by omega, by simp [hal], ?_, ho1, hm1.below (hbl.alloc (by omega) _) (le_alloc (by omega)) (fun k hk => ho.block k hk)⟩
            have e := Htc.out
            simp only [if_true] at e
            rw [← Hacc.out, Hx.out, turnM, ← e, List.append_assoc]
            have := Hp.out
            cases f <;> simp [this]
          case measure => simp [intOf] <;> omega
    · obtain rfl : k = n := by omega
      have e := Hacc.out
      rw [List.drop_eq_nil_of_le (by rw [Hl.out]; exact Nat.le_refl _), turnM, List.append_nil] at e
      have He := Lib.hid e; clear e
      go_wp2
      go_ret
      exact ⟨_, rfl, by rw [← He.out]; exact ho, hbl⟩

theorem apart_moves {α : Type} {f : α → Value} {w w' : World} {base : Nat} {e : TypeId} {u v v' : Value} {l : List α} (hap : ∀ k, v.ownBlock = some k → u.ownBlock ≠ some k) (hm : Moves w w' v v') (hu : Ow f w base e u l) : ∀ k, v'.ownBlock = some k → u.ownBlock ≠ some k := by
  intro k hk hu2
  rcases hm.2 with e | e
  · exact hap k (by rw [← e]; exact hk) hu2
  · have := e k hk
    have := (World.ownsRow.lt hu k hu2).2
    omega

set_option maxHeartbeats 800000 in
theorem FUnboth_any (A : Option Addr) (n c : Nat) (l : List Bool) (w : World) (h : Rd w 1 A n (l.map Value.bool)) (hn : n ≤ 175921860444160) :
    Calls Try.prog 9 #[.slice A n c] w fun e w' => ∃ v, e = .returned (.tuple #[v, .int .i64 (unbothM l).2]) ∧ Ow Value.bool w' w.heap.size 4 v (unbothM l).1 ∧ Below w.heap.size w w' := by
  have Hl := Lib.hid h.lenMap
  go_enter Try.func9, Try.ntmps9
  go_wp2
  go_loopw [4, 5, 11] (fun v u i wr => ∃ (k : Nat) (lo hi : List Bool), k ≤ n ∧ i = .int .i64 k ∧ lo.length ≤ k ∧ hi.length ≤ k ∧ lo ++ halfM (k % 2 == 0) (l.drop k) = halfM true l ∧ hi ++ halfM (k % 2 == 1) (l.drop k) = halfM false l ∧ Ow Value.bool wr w.heap.size 4 v lo ∧ Ow Value.bool wr w.heap.size 4 u hi ∧ (∀ k, v.ownBlock = some k → u.ownBlock ≠ some k) ∧ Below w.heap.size w wr) (fun _ _ i _ => n - (intOf i).toNat)
  case atStart => exact ⟨0, [], [], Nat.zero_le _, rfl, Nat.le_refl _, Nat.le_refl _, rfl, rfl, Ow.nil _ _ _ _, Ow.nil _ _ _ _, (by intro k hk; cases hk), Below.refl _ _⟩
  case round =>
    obtain ⟨k, lo, hi, hk, rfl, hll, hhl, hlo, hhi, ho, hu, hap, hbl⟩ := hrel
    have Hlo := Lib.hid hlo; clear hlo
    have Hhi := Lib.hid hhi; clear hhi
    have hsz := hbl.size
    by_cases hlt : k < n
    · obtain ⟨ad, x, rfl, hx, hc⟩ := (h.below hbl).atMap hlt
      have Hx := Lib.hid (drop_cons hx); clear hx
      have t0 : Int.tmod (k : Int) 2 = (k : Int) % 2 := Int.tmod_eq_emod_of_nonneg (by omega)
      rcases Nat.mod_two_eq_zero_or_one k with hp | hp
      · have p0 : (k : Int) % 2 = 0 := by omega
        have Hp : Hid (k % 2 = 0 ∧ (k + 1) % 2 = 1) := ⟨hp, by omega⟩
        clear hp
        go_wp2_with (at_builtin; go_must (refine wpList_apW Value.bool _ elBool rfl rfl one_bool w.heap.size _ lo rfl (ho.alloc _) _ 1 1 _ rfl (Rd.oneM Value.bool _ _ _) (le_alloc (by omega)) (by omega) (by omega) ?_; intro v1 w1 ho1 hm1))
        go_roundw
        case rel =>
          obtain ⟨e0, e1⟩ := Hp.out
          refine ⟨k + 1, lo ++ [x], hi, by omega, by go_num, by simp; omega, by omega, ?_, ?_, ho1, (hu.alloc _).moves hm1 (fun k hk hv => hap k hv hk), apart_moves hap hm1 (hu.alloc _), hm1.below (hbl.alloc (by omega) _) (le_alloc (by omega)) (fun k hk => ho.block k hk)⟩
          · rw [← Hlo.out, Hx.out, e0, e1, List.append_assoc]; rfl
          · rw [← Hhi.out, Hx.out, e0, e1]; rfl
        case measure => simp [intOf] <;> omega
      · have p0 : (k : Int) % 2 = 1 := by omega
        have Hp : Hid (k % 2 = 1 ∧ (k + 1) % 2 = 0) := ⟨hp, by omega⟩
        clear hp
        go_wp2_with (at_builtin; go_must (refine wpList_apW Value.bool _ elBool rfl rfl one_bool w.heap.size _ hi rfl (hu.alloc _) _ 1 1 _ rfl (Rd.oneM Value.bool _ _ _) (le_alloc (by omega)) (by omega) (by omega) ?_; intro v1 w1 ho1 hm1))
        go_roundw
        case rel =>
          obtain ⟨e0, e1⟩ := Hp.out
          refine ⟨k + 1, lo, hi ++ [x], by omega, by go_num, by omega, by simp; omega, ?_, ?_, (ho.alloc _).moves hm1 hap, ho1, ?_, hm1.below (hbl.alloc (by omega) _) (le_alloc (by omega)) (fun k hk => hu.block k hk)⟩
          · rw [← Hlo.out, Hx.out, e0, e1]; rfl
          · rw [← Hhi.out, Hx.out, e0, e1, List.append_assoc]; rfl
          · have := apart_moves (fun k hk hv => hap k hv hk) hm1 (ho.alloc _)
            exact fun k hk hv => this k hv hk
        case measure => simp [intOf] <;> omega
    · obtain rfl : k = n := by omega
      have e1 := Hlo.out
      have e2 := Hhi.out
      rw [List.drop_eq_nil_of_le (by rw [Hl.out]; exact Nat.le_refl _)] at e1 e2
      simp only [halfM, List.append_nil] at e1 e2
      have hlen := halfM_len l
      rw [← e1, ← e2, Hl.out] at hlen
      have Hbad : Hid (bad2 lo hi = badM l) := by show _ = _; rw [e1, e2, halfM_bad]
      have Hun : Hid (unbothM l = if badM l then ([], 1) else if k % 2 = 0 then (hi, 0) else ([], 8)) := by show _ = _; unfold unbothM; rw [e2, halfM_snd, Hl.out]
      clear e1 e2 Hlo Hhi hap
      obtain ⟨A1, c1, rfl, _, _, hr1⟩ := ho.formN rfl
      obtain ⟨A2, c2, rfl, _, _, hr2⟩ := hu.formN rfl
      generalize hn1 : lo.length = n1 at *
      generalize hn2 : hi.length = n2 at *
      have l1 : 2 * n1 ≤ k + 1 ∧ k ≤ 2 * n1 := by omega
      have l2 : 2 * n2 ≤ k ∧ k ≤ 2 * n2 + 1 := by omega
      clear hlen
      obtain ⟨W, hW⟩ : ∃ W, W = wr := ⟨_, rfl⟩
      subst hW
      have Hu := Lib.hid hu; clear hu ho
      go_wp2
      go_loopw [30] (fun i wr => ∃ (j : Nat), j ≤ n2 ∧ i = .int .i64 j ∧ bad2 (lo.drop j) (hi.drop j) = badM l ∧ Below W.heap.size W wr) (fun i _ => n2 - (intOf i).toNat)
      case atStart => exact ⟨0, Nat.zero_le _, rfl, Hbad.out, Below.refl _ _⟩
      case round =>
        obtain ⟨j, hj, rfl, hbad, hb2⟩ := hrel
        have Hb := Lib.hid hbad; clear hbad
        obtain ⟨W2, hW2⟩ : ∃ W2, W2 = wr := ⟨_, rfl⟩
        subst hW2
        by_cases hlt2 : j < n2
        · obtain ⟨ad, x, rfl, hx, hc⟩ := (hr1.below hb2).atMap (k := j) (by omega)
          obtain ⟨ad', y, rfl, hy, hc'⟩ := (hr2.below hb2).atMap (k := j) hlt2
          have Hx := Lib.hid (drop_cons hx); clear hx
          have Hy := Lib.hid (drop_cons hy); clear hy
          have b1 : (j : Int) < n1 := by omega
          have b2 : (j : Int) < n2 := by omega
          by_cases hxy : x = y
          · have hq : (x == y) = true := by simp [hxy]
            have He : Hid (unbothM l = ([], 1)) := by
              show _ = _
              rw [Hun.out, ← Hb.out, Hx.out, Hy.out, bad2, hq]; rfl
            clear hxy
            go_wp2
            go_quiet (fail)
            go_wp2
            go_ret2
            rw [He.out]
            exact ⟨_, rfl, Ow.nil _ _ _ _, below_drawn (bthen hbl hb2) _⟩
          · have hq : (x == y) = false := by simp [hxy]
            clear hxy
            go_wp2
            go_quiet (fail)
            go_wp2
            go_roundw
            case rel =>
              refine ⟨j + 1, by omega, by go_num, ?_, below_drawn hb2 _⟩
              rw [← Hb.out, Hx.out, Hy.out, bad2, hq]; rfl
            case measure => simp [intOf] <;> omega
        · obtain rfl : j = n2 := by omega
          have Hf : Hid (unbothM l = if k % 2 = 0 then (hi, 0) else ([], 8)) := by
            show _ = _
            have hd : hi.drop j = [] := List.drop_eq_nil_of_le (by omega)
            rw [Hun.out, ← Hb.out, hd, bad2_nil]; rfl
          by_cases hev : k % 2 = 0
          · have hle : ¬ ((n1 : Int) > j) := by omega
            have Hev := Lib.hid hev; clear hev
            go_wp2
            go_ret2
            rw [Hf.out, if_pos Hev.out]
            exact ⟨_, rfl, Hu.out.below hb2, bthen hbl hb2⟩
          · have hle : (j : Int) < n1 := by omega
            have Hev := Lib.hid hev; clear hev
            go_wp2
            go_ret2
            rw [Hf.out, if_neg Hev.out]
            exact ⟨_, rfl, Ow.nil _ _ _ _, bthen hbl hb2⟩
end Go.Proofs.Ytfnkaccfhlkfdaa
