/-
  Contract of the reference's QPlay, for every input.
-/
import Derived.Test.YtblnfffmgaiabaaNbwPlay
import Derived.Laws.EntriesVeiled
import Derived.Shelf.Abstract
namespace Go.Proofs.Ytblnfffmgaiabaa
open Go.RowKit
set_option linter.unusedVariables false

theorem count_any (b d : Nat) (hd : d ≤ 1000) (w : World) (h : w.cell? ⟨b, 0, none⟩ = some (.int .i64 (d : Int))) :
    Calls Try.prog 21 #[.pointer (some ⟨b, 0, none⟩)] w fun e w' => e = .returned (.int .i64 (cntQ d : Int)) ∧ w' = w := by
  have e : (cntQ d : Int) = (d : Int) / 4 * 2 + ((d : Int) % 4 + 2) / 3 := by unfold cntQ; omega
  rw [e]
  have hd' : (d : Int) ≤ 1000 := by omega
  go_enter Try.func21, Try.ntmps21
  go_wp2
  go_ret
  exact ⟨rfl, rfl⟩
theorem first_any (b d : Nat) (hd : d ≤ 1000) (w : World) (h : w.cell? ⟨b, 0, none⟩ = some (.int .i64 (d : Int))) :
    Calls Try.prog 22 #[.pointer (some ⟨b, 0, none⟩)] w fun e w' => e = .returned (.int .i64 (wd1 d : Int)) ∧ w' = w := by
  have e : (wd1 d : Int) = ((d : Int) + 2) / 4 := by unfold wd1; omega
  rw [e]
  have hd' : (d : Int) ≤ 1000 := by omega
  go_enter Try.func22, Try.ntmps22
  go_wp2
  go_ret
  exact ⟨rfl, rfl⟩
theorem second_any (b d : Nat) (hd : d ≤ 1000) (w : World) (h : w.cell? ⟨b, 0, none⟩ = some (.int .i64 (d : Int))) :
    Calls Try.prog 23 #[.pointer (some ⟨b, 0, none⟩)] w fun e w' => e = .returned (.int .i64 (wd2 d : Int)) ∧ w' = w := by
  have e : (wd2 d : Int) = ((d : Int) + 1) / 4 := by unfold wd2; omega
  rw [e]
  have hd' : (d : Int) ≤ 1000 := by omega
  go_enter Try.func23, Try.ntmps23
  go_wp2
  go_ret
  exact ⟨rfl, rfl⟩
theorem enterQ1 : ∀ args w, (callFunc 21 args).run Try.prog w = .ok (.enter 21 args) w := enters_of Try.func21 (by kernel_rfl) rfl
theorem enterQ2 : ∀ args w, (callFunc 22 args).run Try.prog w = .ok (.enter 22 args) w := enters_of Try.func22 (by kernel_rfl) rfl
theorem enterQ3 : ∀ args w, (callFunc 23 args).run Try.prog w = .ok (.enter 23 args) w := enters_of Try.func23 (by kernel_rfl) rfl

/-- The state between rounds: the steps of the writer, the read on its way, what was read. -/
structure QSt (w1 wr : World) (b T : Nat) (s : StQ) (v : Value) : Prop where
  dn : Box wr b 3 [.int .i64 (s.d : Int)]
  gt : Box wr (b + 1) 29 [.int .i64 (s.r.fi : Int), .int .i64 (s.r.se : Int), .int .i64 (T : Int)]
  out : OwG gotC 3 wr (b + 2) 29 v s.out
  bel : Below b w1 wr
theorem QSt.keptO {w1 wr w5 : World} {b T : Nat} {s : StQ} {v : Value} (h : QSt w1 wr b T s v) {k : Nat} (hg : wr.grownBy w5 (some k)) (hk : b ≤ k) (hk3 : k < b + 2) :
    OwG gotC 3 w5 (b + 2) 29 v s.out ∧ Below b w1 w5 :=
  ⟨h.out.keep hg (fun j hj e => by injection e with e; have := h.out.block j hj; omega), below_grown h.bel hg hk (by have := h.dn.lt; omega)⟩
theorem QSt.wrote {w1 wr : World} {b T : Nat} {s : StQ} {v : Value} (h : QSt w1 wr b T s v) : QSt w1 (wr.setCell ⟨b, 0, none⟩ (.int .i64 ((s.d : Int) + 1))) b T (stepQ s 1) v := by
  have g := grownBy_setCell wr ⟨b, 0, none⟩ (.int .i64 ((s.d : Int) + 1))
  obtain ⟨o, bl⟩ := h.keptO g (Nat.le_refl _) (by show b < b + 2; omega)
  exact ⟨h.dn.set 0 _, h.gt.grown g (by simp), o, bl⟩
/-- The same state, the reader elsewhere in its attempt. -/
theorem QSt.moved {w1 wr : World} {b T : Nat} {s : StQ} {v : Value} (h : QSt w1 wr b T s v) {r' : RdQ} (h1 : r'.fi = s.r.fi) (h2 : r'.se = s.r.se) : QSt w1 wr b T ⟨s.d, r', s.out⟩ v :=
  ⟨h.dn, by show Box _ _ _ [.int .i64 (r'.fi : Int), .int .i64 (r'.se : Int), _]; rw [h1, h2]; exact h.gt, h.out, h.bel⟩
theorem QSt.put {w1 wr : World} {b T : Nat} {s : StQ} {v : Value} (h : QSt w1 wr b T s v) {k x : Nat} {r' : RdQ} {T' : Nat} (hk : [Value.int .i64 (r'.fi : Int), .int .i64 (r'.se : Int), .int .i64 (T' : Int)] = [Value.int .i64 (s.r.fi : Int), .int .i64 (s.r.se : Int), .int .i64 (T : Int)].set k (.int .i64 (x : Int))) :
    QSt w1 (wr.setCell ⟨b + 1, k, none⟩ (.int .i64 (x : Int))) b T' ⟨s.d, r', s.out⟩ v := by
  have g := grownBy_setCell wr ⟨b + 1, k, none⟩ (.int .i64 (x : Int))
  obtain ⟨o, bl⟩ := h.keptO g (by show b ≤ b + 1; omega) (by show b + 1 < b + 2; omega)
  refine ⟨h.dn.grown g (by simp), ?_, o, bl⟩
  show Box _ _ _ [Value.int .i64 (r'.fi : Int), .int .i64 (r'.se : Int), .int .i64 (T' : Int)]
  rw [hk]
  exact h.gt.set k _
theorem QSt.gave {w1 wr w7 : World} {b T : Nat} {s : StQ} {v v7 : Value} {o : Obj} {L : List GotQ} {r' : RdQ} (h : QSt w1 wr b T s v) (h1 : r'.fi = s.r.fi) (h2 : r'.se = s.r.se) (ho : OwG gotC 3 w7 (b + 2) 29 v7 L) (hm : Moves (wr.alloc o) w7 v v7) :
    QSt w1 w7 b T ⟨s.d, r', L⟩ v7 := by
  have hbk := h.out.block
  refine ⟨(h.dn.alloc o).moves hm (fun k hk => by have := hbk k hk; omega), ?_, ho, hm.below (h.bel.alloc (by have := h.dn.lt; omega) o) (by have := h.dn.lt; simp; omega) (fun k hk => by have := hbk k hk; omega)⟩
  show Box _ _ _ [.int .i64 (r'.fi : Int), .int .i64 (r'.se : Int), _]
  rw [h1, h2]
  exact (h.gt.alloc o).moves hm (fun k hk => by have := hbk k hk; omega)
theorem all_snoc {l : List Int} {j : Nat} {x : Int} (hx : l[j]? = some x) (h : ∀ y ∈ l.take j, y = 1 ∨ y = 2) (h2 : x = 1 ∨ x = 2) : ∀ y ∈ l.take (j + 1), y = 1 ∨ y = 2 := by
  rw [take_snoc hx]
  intro y hy
  rcases List.mem_append.1 hy with g | g
  · exact h y g
  · rw [List.mem_singleton.1 g]; exact h2
set_option maxRecDepth 100000 in
set_option maxHeartbeats 1600000 in
theorem QPlay_any (A : Option Addr) (n c : Nat) (l : List Int) (w : World) (h : Rd w 1 A n (l.map (Value.int .i64))) (hn : n ≤ 140737488355328) :
    Calls Try.prog 9 #[.slice A n c] w (GivesGots (playQL l) (playQN l) (playQE l) w) := by
  have hl := h.lenMap
  by_cases hbig : 400 < n
  · have hE : playQE l = 2 := playQE_big (by omega)
    rw [show playQL l = [] from if_neg (by rw [hE]; decide), show playQN l = 0 from if_neg (by rw [hE]; decide), hE]
    have hbig' : 400 < (n : Int) := by omega
    go_enter Try.func9, Try.ntmps9
    go_wp2
    exact bodyPost_ret (v := .tuple #[.slice none 0 0, .int .i64 0, .int .i64 2]) (by simp [results, Try.results9, go_sem]) rfl ⟨_, rfl, OwG.nil _ _ _, Below.refl _ _⟩
  · have hbig' : (n : Int) ≤ 400 := by omega
    have Hbad : Hid (∀ x ∈ l, ¬ (x = 1 ∨ x = 2) → playQE l = 5 ∧ playQN l = 0 ∧ playQL l = []) := fun x hx hn => by
      have hE : playQE l = 5 := by
        unfold playQE
        rw [if_neg (by omega), if_neg fun g => hn (by have := List.all_eq_true.1 g x hx; simpa [kindB] using this)]
      exact ⟨hE, (playQ_no (by rw [hE]; decide)).1, (playQ_no (by rw [hE]; decide)).2⟩
    have Hgood : Hid ((∀ x ∈ l, x = 1 ∨ x = 2) → playQE l = 0 ∧ playQN l = (runQ l).d / 4 ∧ playQL l = (runQ l).out) := fun g => by
      have hE := playQE_ok.2 ⟨by omega, g⟩
      exact ⟨hE, playQ_ok hE⟩
    generalize playQE l = RE at *
    generalize playQN l = RN at *
    generalize playQL l = RL at *
    have Hl := Lib.hid hl
    clear hl
    go_enter Try.func9, Try.ntmps9
    go_wp2
    go_loopw [23] (fun i wr => ∃ j : Nat, j ≤ n ∧ i = .int .i64 j ∧ Hid (∀ x ∈ l.take j, x = 1 ∨ x = 2) ∧ wr = w) (fun i _ => n - (intOf i).toNat)
    case atStart => exact ⟨0, Nat.zero_le _, rfl, by show ∀ x ∈ l.take 0, _; simp, rfl⟩
    case round =>
      obtain ⟨j, hj, rfl, hk, hwr⟩ := hrel
      obtain rfl := hwr.symm
      by_cases hlt : j < n
      · obtain ⟨ad, x, rfl, hx, hc⟩ := h.atMap hlt
        by_cases hk2 : x = 1 ∨ x = 2
        · have Hk2 := Lib.hid (all_snoc hx hk.out hk2)
          clear hx hk
          rcases hk2 with rfl | rfl
          all_goals
            go_wp2
            go_roundw
            case rel => exact ⟨j + 1, by omega, by go_num, Hk2.out, by trivial⟩
            case measure => simp [intOf] <;> omega
        · obtain ⟨rfl, rfl, rfl⟩ := Hbad.out x (List.mem_of_getElem? hx) hk2
          have hk3 : (x != 1) = true := by simpa using fun e => hk2 (.inl e)
          have hk4 : (x != 2) = true := by simpa using fun e => hk2 (.inr e)
          clear hx hk hk2 Hbad Hgood
          go_wp2
          exact bodyPost_ret (v := .tuple #[.slice none 0 0, .int .i64 0, .int .i64 5]) (by simp [results, Try.results9, go_sem]) rfl ⟨_, rfl, OwG.nil _ _ _, Below.refl _ _⟩
      · obtain rfl : n = j := by omega
        have hall : ∀ x ∈ l, x = 1 ∨ x = 2 := by
          have := hk.out
          rwa [List.take_of_length_le (by rw [Hl.out]; exact Nat.le_refl _)] at this
        obtain ⟨rfl, rfl, rfl⟩ := Hgood.out hall
        have hkind := Lib.hid hall
        clear Hbad Hgood hall hk
        have HS0 : Hid (QSt w ((w.alloc (.cells #[.int .i64 0] 3)).alloc (.cells #[.int .i64 0, .int .i64 0, .int .i64 0] 29)) w.heap.size 0 (runQ (l.take 0)) (.slice none 0 0)) := by
          show QSt _ _ _ _ _ _
          rw [List.take_zero]
          refine ⟨(Box.new w 3 [.int .i64 0]).alloc _, ?_, OwG.nil _ _ _, by repeat (first | (with_reducible exact Below.refl _ _) | (with_reducible assumption) | (with_reducible refine Below.setCell ?_ (by (try simp) <;> omega) _) | (with_reducible refine Below.alloc ?_ (by (try simp) <;> omega) _) | (with_reducible refine Below.drew ?_))⟩
          have := Box.new (w.alloc (.cells #[.int .i64 0] 3)) 29 [.int .i64 0, .int .i64 0, .int .i64 0]
          simpa [runQ_nil, st0, rd0] using this
        have Hstep : Hid (∀ k x, l[k]? = some x → runQ (l.take (k + 1)) = stepQ (runQ (l.take k)) x) := fun k x hx => by rw [take_snoc hx, runQ_snoc]
        have Hsm : Hid (∀ k, k ≤ n → (runQ (l.take k)).d ≤ 400 ∧ (runQ (l.take k)).out.length ≤ 400 ∧ (runQ (l.take k)).r.tr ≤ 400 ∧ (runQ (l.take k)).r.pos ≤ 3) := fun k hk => by
          have := run_small (l.take k)
          have h3 := (whole_run (l.take k)).pos
          rw [List.length_take] at this
          omega
        have Hend : Hid (runQ (l.take n) = runQ l) := by show _ = _; rw [List.take_of_length_le (by rw [Hl.out]; exact Nat.le_refl _)]
        have C1 := Lib.hid (fun (d : Nat) (hd : d ≤ 1000) (W : World) (hW : W.cell? ⟨w.heap.size, 0, none⟩ = some (.int .i64 (d : Int))) => count_any w.heap.size d hd W hW)
        have C2 := Lib.hid (fun (d : Nat) (hd : d ≤ 1000) (W : World) (hW : W.cell? ⟨w.heap.size, 0, none⟩ = some (.int .i64 (d : Int))) => first_any w.heap.size d hd W hW)
        have C3 := Lib.hid (fun (d : Nat) (hd : d ≤ 1000) (W : World) (hW : W.cell? ⟨w.heap.size, 0, none⟩ = some (.int .i64 (d : Int))) => second_any w.heap.size d hd W hW)
        go_wp2
        generalize (w.alloc (.cells #[.int .i64 0] 3)).alloc (.cells #[.int .i64 0, .int .i64 0, .int .i64 0] 29) = w4 at *
        go_loopw [11, 12, 13, 14, 40] (fun v at_ sw tr i wr => ∃ j : Nat, j ≤ n ∧ i = .int .i64 j ∧ ∃ T, at_ = .int .i64 ((runQ (l.take j)).r.pos : Int) ∧ sw = .int .i64 ((runQ (l.take j)).r.saw : Int) ∧ tr = .int .i64 ((runQ (l.take j)).r.tr : Int) ∧ QSt w wr w.heap.size T (runQ (l.take j)) v) (fun _ _ _ _ i _ => n - (intOf i).toNat)
        case atStart => exact ⟨0, Nat.zero_le _, rfl, 0, rfl, rfl, rfl, HS0.out⟩
        case round =>
          obtain ⟨j, hj, rfl, T, rfl, rfl, rfl, hst⟩ := hrel
          clear HS0
          have hbl := hst.bel
          obtain ⟨hd4, ho4, ht4, hp4⟩ := Hsm.out j hj
          have d0 := hst.dn.cell 0 rfl
          have df := hst.dn.free 0
          have hls := hst.gt.lt
          by_cases hlt : j < n
          · obtain ⟨ad, x, rfl, hx, hc⟩ := (h.below hbl).atMap hlt
            have hx2 := hkind.out x (List.mem_of_getElem? hx)
            have Hj := Lib.hid (Hstep.out j x hx)
            obtain ⟨S', HS'⟩ : ∃ S', Hid (runQ (l.take (j + 1)) = S') := ⟨_, rfl⟩
            rw [HS'.out] at Hj
            clear hx
            generalize runQ (l.take j) = s at *
            have hd5 : (s.d : Int) ≤ 400 := by omega
            rcases hx2 with rfl | rfl
            · have hst' := Lib.hid hst.wrote
              rw [← Hj.out] at hst'
              have e1 : S'.r = s.r := by rw [Hj.out]; rfl
              clear hst Hj
              go_wp2
              go_roundw
              case rel => exact ⟨j + 1, by omega, by go_num, T, by rw [HS'.out, e1], by rw [HS'.out, e1], by rw [HS'.out, e1], by rw [HS'.out]; exact hst'.out⟩
              case measure => simp [intOf] <;> omega
            · rw [step_two] at Hj
              obtain ⟨d, ⟨pos, saw, tr, fi, se⟩, out⟩ := s
              simp only at hd4 ho4 ht4 hp4 d0 hd5
              have hp : pos = 0 ∨ pos = 1 ∨ pos = 2 ∨ pos = 3 := by omega
              have C1' := Lib.hid (C1.out d (by omega) wr d0)
              have C2' := Lib.hid (C2.out d (by omega) wr d0)
              have C3' := Lib.hid (C3.out d (by omega) wr d0)
              clear C1 C2 C3
              rcases hp with rfl | rfl | rfl | rfl
              · have hcl : cntQ d ≤ 1000 := by unfold cntQ; omega
                by_cases ho : cntQ d % 2 = 1
                · have ho' : (cntQ d : Int) % 2 = 1 := by omega
                  have e1 : S' = ⟨d, ⟨0, cntQ d, tr + 1, fi, se⟩, out⟩ := by rw [Hj.out]; simp [giveQ, readQ, ho]
                  have hst' := Lib.hid (hst.moved (r' := ⟨0, cntQ d, tr + 1, fi, se⟩) rfl rfl)
                  simp only at hst'
                  rw [← e1] at hst'
                  clear hst Hj C2' C3'
                  go_wp2_with fail
                  refine C1'.out.mono ?_
                  rintro e w5 ⟨rfl, hw5⟩
                  obtain rfl := hw5.symm
                  go_wp2
                  go_roundw
                  case rel => exact ⟨j + 1, by omega, by go_num, T, by rw [HS'.out, e1] <;> rfl, by rw [HS'.out, e1] <;> rfl, by rw [HS'.out, e1] <;> rfl, by rw [HS'.out]; exact hst'.out⟩
                  case measure => simp [intOf] <;> omega
                · have ho' : (cntQ d : Int) % 2 = 0 := by omega
                  have e1 : S' = ⟨d, ⟨1, cntQ d, tr + 1, fi, se⟩, out⟩ := by rw [Hj.out]; simp [giveQ, readQ, ho]
                  have hst' := Lib.hid (hst.moved (r' := ⟨1, cntQ d, tr + 1, fi, se⟩) rfl rfl)
                  simp only at hst'
                  rw [← e1] at hst'
                  clear hst Hj C2' C3'
                  go_wp2_with fail
                  refine C1'.out.mono ?_
                  rintro e w5 ⟨rfl, hw5⟩
                  obtain rfl := hw5.symm
                  go_wp2
                  go_roundw
                  case rel => exact ⟨j + 1, by omega, by go_num, T, by rw [HS'.out, e1] <;> rfl, by rw [HS'.out, e1] <;> rfl, by rw [HS'.out, e1] <;> rfl, by rw [HS'.out]; exact hst'.out⟩
                  case measure => simp [intOf] <;> omega
              · have e1 : S' = ⟨d, ⟨2, saw, tr, wd1 d, se⟩, out⟩ := by rw [Hj.out]; simp [giveQ, readQ]
                have hst' := Lib.hid (hst.put (k := 0) (x := wd1 d) (r' := ⟨2, saw, tr, wd1 d, se⟩) (T' := T) rfl)
                simp only at hst'
                rw [← e1] at hst'
                have g0 := hst.gt.cell 0 rfl
                have gf := hst.gt.free 0
                clear hst Hj C1' C3'
                go_wp2_with fail
                refine C2'.out.mono ?_
                rintro e w5 ⟨rfl, hw5⟩
                obtain rfl := hw5.symm
                go_wp2
                go_roundw
                case rel => exact ⟨j + 1, by omega, by go_num, T, by rw [HS'.out, e1] <;> rfl, by rw [HS'.out, e1] <;> rfl, by rw [HS'.out, e1] <;> rfl, by rw [HS'.out]; exact hst'.out⟩
                case measure => simp [intOf] <;> omega
              · have e1 : S' = ⟨d, ⟨3, saw, tr, fi, wd2 d⟩, out⟩ := by rw [Hj.out]; simp [giveQ, readQ]
                have hst' := Lib.hid (hst.put (k := 1) (x := wd2 d) (r' := ⟨3, saw, tr, fi, wd2 d⟩) (T' := T) rfl)
                simp only at hst'
                rw [← e1] at hst'
                have g0 := hst.gt.cell 1 rfl
                have gf := hst.gt.free 1
                clear hst Hj C1' C2'
                go_wp2_with fail
                refine C3'.out.mono ?_
                rintro e w5 ⟨rfl, hw5⟩
                obtain rfl := hw5.symm
                go_wp2
                go_roundw
                case rel => exact ⟨j + 1, by omega, by go_num, T, by rw [HS'.out, e1] <;> rfl, by rw [HS'.out, e1] <;> rfl, by rw [HS'.out, e1] <;> rfl, by rw [HS'.out]; exact hst'.out⟩
                case measure => simp [intOf] <;> omega
              · by_cases hs : saw = cntQ d
                · subst hs
                  have e1 : S' = ⟨d, ⟨0, cntQ d, 0, fi, se⟩, out ++ [⟨fi, se, tr⟩]⟩ := by rw [Hj.out]; simp [giveQ, readQ]
                  have hp := hst.put (k := 2) (x := tr) (r' := ⟨3, cntQ d, tr, fi, se⟩) (T' := tr) rfl
                  have o5 := Lib.hid hp.out
                  simp only at o5
                  have HM := Lib.hid (fun (v7 : Value) (w7 : World) (o : Obj) (ho : OwG gotC 3 w7 (w.heap.size + 2) 29 v7 (out ++ [(⟨fi, se, tr⟩ : GotQ)])) (hm : Moves ((wr.setCell ⟨w.heap.size + 1, 2, none⟩ (.int .i64 (tr : Int))).alloc o) w7 u11 v7) => hp.gave (r' := ⟨0, cntQ d, 0, fi, se⟩) rfl rfl ho hm)
                  simp only at HM
                  rw [← e1] at HM
                  have g0 := hst.gt.cell 0 rfl
                  have g1 := hst.gt.cell 1 rfl
                  have g2 := hst.gt.cell 2 rfl
                  have gf := hst.gt.free 2
                  have hz := hst.gt.lt
                  clear hst Hj C2' C3' hp
                  generalize cntQ d = C at *
                  go_wp2_with fail
                  refine C1'.out.mono ?_
                  rintro e w5 ⟨rfl, hw5⟩
                  obtain rfl := hw5.symm
                  clear C1'
                  go_wp2_with (at_builtin; go_must (refine wpList_apG gotK _ elGot rfl rfl (w.heap.size + 2) u11 out rfl (o5.out.alloc _) _ 1 1 [(⟨fi, se, tr⟩ : GotQ)] rfl (Rd.litFlat gotK.len [(⟨fi, se, tr⟩ : GotQ)] _ (by simp)) (by simp; omega) (by omega) (by omega) ?_; intro v7 w7 ho7 hm7; have hst' := Lib.hid (HM.out v7 w7 _ ho7 hm7); clear HM ho7 hm7))
                  go_roundw
                  case rel => exact ⟨j + 1, by omega, by go_num, tr, by rw [HS'.out, e1] <;> rfl, by rw [HS'.out, e1] <;> rfl, by rw [HS'.out, e1] <;> rfl, by rw [HS'.out]; exact hst'.out⟩
                  case measure => simp [intOf] <;> omega
                · have e1 : S' = ⟨d, ⟨0, saw, tr, fi, se⟩, out⟩ := by rw [Hj.out]; simp [giveQ, readQ, hs]
                  have hst' := Lib.hid (hst.moved (r' := ⟨0, saw, tr, fi, se⟩) rfl rfl)
                  simp only at hst'
                  rw [← e1] at hst'
                  have hs' : ((saw : Int) == (cntQ d : Int)) = false := by simpa using fun e => hs (by omega)
                  clear hst Hj C2' C3' hs
                  generalize cntQ d = C at *
                  go_wp2_with fail
                  refine C1'.out.mono ?_
                  rintro e w5 ⟨rfl, hw5⟩
                  obtain rfl := hw5.symm
                  clear C1'
                  go_wp2
                  go_roundw
                  case rel => exact ⟨j + 1, by omega, by go_num, T, by rw [HS'.out, e1] <;> rfl, by rw [HS'.out, e1] <;> rfl, by rw [HS'.out, e1] <;> rfl, by rw [HS'.out]; exact hst'.out⟩
                  case measure => simp [intOf] <;> omega
          · obtain rfl : n = j := by omega
            rw [Hend.out] at hst d0 hd4
            have hB := hst.bel
            have Ho := Lib.hid (hst.out.mono (show w.heap.size ≤ w.heap.size + 2 by omega))
            have CE := Lib.hid (C1.out _ (by omega) wr d0)
            have hh := cntQ_half (runQ l).d
            have hcs : cntQ (runQ l).d ≤ 1000 := by unfold cntQ; omega
            clear hst Hend Hsm Hstep C1 C2 C3
            generalize (runQ l).out = L at *
            generalize (runQ l).d / 4 = M at *
            generalize cntQ (runQ l).d = C at *
            have hh' : (C : Int) / 2 = (M : Int) := by omega
            have hM : (M : Int) ≤ 1000 := by omega
            clear hh hcs
            go_wp2_with fail
            refine CE.out.mono ?_
            rintro e w5 ⟨rfl, hw5⟩
            obtain rfl := hw5.symm
            go_wp2
            exact bodyPost_ret (v := .tuple #[u11, .int .i64 (M : Int), .int .i64 0]) (by simp [results, Try.results9, go_sem]) rfl ⟨_, rfl, Ho.out, hB⟩
end Go.Proofs.Ytblnfffmgaiabaa
