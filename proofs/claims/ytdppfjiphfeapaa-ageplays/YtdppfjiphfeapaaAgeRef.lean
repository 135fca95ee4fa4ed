/-
  Contract of the reference's UPlay, for every input.
-/
import Derived.Test.YtdppfjiphfeapaaAgePlay
import Derived.Test.YtdppfjiphfeapaaRegionF
namespace Go.Proofs.Ytdppfjiphfeapaa
open Go.RowKit
set_option maxRecDepth 20000
set_option linter.unusedVariables false

/-- What was told, and when. -/
structure AgP where
  va : Int
  at_ : Int
def agpC (p : AgP) : List Value := [.int .i64 p.va, .int .i64 p.at_]
theorem agpK : CellsG agpC 2 := ⟨fun _ => rfl, by decide, fun m u hu => by
  simp [agpC] at hu
  rcases hu with rfl | rfl <;> rfl⟩
theorem elAgp : ElemT Try.prog 47 48 (.agg #[.int .i64 0, .int .i64 0]) 2 16 := ⟨Try.underlying47, by kernel_rfl, rfl, by decide⟩
def ApartU (u v : Value) : Prop := ∀ k, u.ownBlock = some k → v.ownBlock ≠ some k
theorem ApartU.symm {u v : Value} (h : ApartU u v) : ApartU v u := fun k h1 h2 => h k h2 h1
theorem ApartU.movesG {α : Type} {C : α → List Value} {sz : Nat} {w w' : World} {base : Nat} {e : TypeId} {u v v' : Value} {l : List α} (h : ApartU u v) (hm : Moves w w' v v') (hu : OwG C sz w base e u l) : ApartU u v' := by
  intro k h1 h2
  rcases hm.2 with e | e
  · exact h k h1 (by rw [← e]; exact h2)
  · have := e k h2
    have := (World.ownsRow.lt hu k h1).2
    omega
/-- The state between rounds: what was told, the answers. -/
structure USt (w wr : World) (T : List AgP) (L : List AgA) (u v : Value) : Prop where
  told : OwG agpC 2 wr w.heap.size 48 u T
  out : OwG agaC 3 wr w.heap.size 31 v L
  ap : ApartU u v
  bel : Below w.heap.size w wr
section
variable {w wr w' : World} {T T' : List AgP} {L L' : List AgA} {u v x : Value} {b : Nat}
theorem USt.alloc (h : USt w wr T L u v) (o : Obj) : USt w (wr.alloc o) T L u v := ⟨h.told.alloc o, h.out.alloc o, h.ap, h.bel.alloc h.bel.size o⟩
theorem USt.tell (h : USt w wr T L u v) (ho : OwG agpC 2 w' w.heap.size 48 x T') (hm : Moves wr w' u x) : USt w w' T' L x v :=
  ⟨ho, h.out.moves hm (fun k h1 h2 => h.ap k h2 h1), (h.ap.symm.movesG hm h.out).symm, hm.below h.bel h.bel.size h.told.block⟩
theorem USt.give (h : USt w wr T L u v) (ho : OwG agaC 3 w' w.heap.size 31 x L') (hm : Moves wr w' v x) : USt w w' T L' u x :=
  ⟨h.told.moves hm (fun k h1 h2 => h.ap k h1 h2), ho, h.ap.movesG hm h.told, hm.below h.bel h.bel.size h.out.block⟩
theorem USt.drew (h : USt w wr T L u v) : USt w wr.drew T L u v := ⟨h.told, h.out, h.ap, h.bel.drew⟩
/-- A store into a block that lies behind both. -/
theorem USt.stored (h : USt w wr T L u v) (hg : wr.grownBy w' (some b)) (hb : w.heap.size ≤ b) (hu : ∀ k, u.ownBlock = some k → k < b) (hv : ∀ k, v.ownBlock = some k → k < b) : USt w w' T L u v :=
  ⟨h.told.keep hg (fun k hk e => by injection e with e; have := hu k hk; omega), h.out.keep hg (fun k hk e => by injection e with e; have := hv k hk; omega), h.ap, below_grown h.bel hg hb h.bel.size⟩
end
/-- What was told last is the state's. -/
def LastU (T : List AgP) (s : AgS) : Prop := (s.any = false ∧ T = []) ∨ (s.any = true ∧ ∃ T', T = T' ++ [⟨s.va, s.at_⟩])
theorem LastU.told (T : List AgP) (s : AgS) (x : Int) : LastU (T ++ [⟨x, s.nw⟩]) (agS s ⟨1, x⟩) := by
  unfold agS
  rw [if_pos rfl]
  exact .inr ⟨rfl, T, rfl⟩
theorem LastU.same {T : List AgP} {s : AgS} {o : AgO} (h : LastU T s) (hk : o.kd ≠ 1) : LastU T (agS s o) := by
  unfold agS
  rw [if_neg hk]
  split <;> exact h
set_option maxHeartbeats 6400000 in
theorem UPlay_any (f : Int) (A : Option Addr) (n c : Nat) (l : List AgO) (w : World) (h : RdG agoC 2 w A n l) (hn : n ≤ 4611686018427387904) :
    Calls Try.prog 9 #[.int .i64 f, .slice A n c] w (GivesAge f l w) := by
  have hM : agMax = 1099511627776 := rfl
  have hl := RdG.len agoK h
  by_cases g : f < 0 ∨ agMax < f ∨ 400 < l.length
  · unfold GivesAge
    rw [(ageE_no g).1, (ageE_no g).2]
    rw [hM, hl] at g
    have hcs : f < 0 ∨ (0 ≤ f ∧ 1099511627776 < f) ∨ (0 ≤ f ∧ f ≤ 1099511627776 ∧ 400 < (n : Int)) := by omega
    clear g hl hM h
    rcases hcs with q1 | ⟨q1, q2⟩ | ⟨q1, q2, q3⟩
    all_goals
      go_enter Try.func9, Try.ntmps9
      go_wp2
      go_ret2
      exact ⟨_, rfl, OwG.nil _ _ _, Below.refl _ _⟩
  · have EL := Lib.hid (ageE_ok g)
    rw [hM, hl] at g
    have q1 : 0 ≤ f := by omega
    have q2 : f ≤ 1099511627776 := by omega
    have q3 : n ≤ 400 := by omega
    clear g hM
    have Hl := Lib.hid hl
    clear hl
    go_enter Try.func9, Try.ntmps9
    go_wp2
    go_loopw [6, 7, 8, 26] (fun u nw v i wr => ∃ (j : Nat) (T : List AgP), j ≤ n ∧ i = .int .i64 j ∧ nw = .int .i64 (agRun (l.take j)).nw ∧ USt w wr T (agAns f ag0 (l.take j)) u v ∧ LastU T (agRun (l.take j)) ∧ T.length ≤ j) (fun _ _ _ i _ => n - (intOf i).toNat)
    case atStart => exact ⟨0, [], Nat.zero_le _, rfl, rfl, ⟨OwG.nil _ _ _, OwG.nil _ _ _, fun k h1 h2 => by simp [Value.ownBlock] at h2, Below.refl _ _⟩, .inl ⟨rfl, rfl⟩, Nat.zero_le _⟩
    case round =>
      obtain ⟨j, T, hj, rfl, rfl, hst, hla, hTj⟩ := hrel
      have hbl := hst.bel
      by_cases hlt : j < n
      · obtain ⟨ad, kd, x, rfl, hx, m0, m1⟩ := ago_at (h.below hbl) hlt
        have HsS := Lib.hid (show agRun (l.take (j + 1)) = agS (agRun (l.take j)) ⟨kd, x⟩ by rw [take_snoc hx, agRun_snoc])
        have HsA := Lib.hid (show agAns f ag0 (l.take (j + 1)) = agAns f ag0 (l.take j) ++ [agA f (agRun (l.take j)) ⟨kd, x⟩] by rw [take_snoc hx, agAns_snoc])
        have hok := ag_ok (l.take j)
        have hLl : (agAns f ag0 (l.take j)).length ≤ j := by rw [agAns_len, List.length_take]; omega
        generalize agAns f ag0 (l.take j) = L at *
        generalize agRun (l.take j) = s at *
        obtain ⟨h1, h2, h3, h4⟩ := hok
        rw [show agMax = 1099511627776 from rfl] at h2
        have hsz := hbl.size
        have hku := hst.told.inHeap
        have hkv := hst.out.inHeap
        have S2 := (hst.alloc (.cells #[.int .i64 kd, .int .i64 x] 35)).alloc (.cells #[.int .i64 0, .int .i64 0, .int .i64 0] 31)
        have zo : Box ((wr.alloc (.cells #[.int .i64 kd, .int .i64 x] 35)).alloc (.cells #[.int .i64 0, .int .i64 0, .int .i64 0] 31)) wr.heap.size 35 [.int .i64 kd, .int .i64 x] := (Box.new wr 35 [.int .i64 kd, .int .i64 x]).alloc (.cells #[.int .i64 0, .int .i64 0, .int .i64 0] 31)
        have za : Box ((wr.alloc (.cells #[.int .i64 kd, .int .i64 x] 35)).alloc (.cells #[.int .i64 0, .int .i64 0, .int .i64 0] 31)) (wr.heap.size + 1) 31 [.int .i64 0, .int .i64 0, .int .i64 0] := by
          have := Box.new (wr.alloc (.cells #[.int .i64 kd, .int .i64 x] 35)) 31 [.int .i64 0, .int .i64 0, .int .i64 0]
          simpa using this
        have hku' : Hid (∀ k, u6.ownBlock = some k → k < wr.heap.size + 1) := fun k hk => by have := hku k hk; omega
        have hkv' : Hid (∀ k, u8.ownBlock = some k → k < wr.heap.size + 1) := fun k hk => by have := hkv k hk; omega
        clear hku hkv hst hx hbl
        go_upto_region 10 with fail
        clear m0 m1
        change Hid (∀ k, _ → k < wr.heap.size + 1) at hku' hkv'
        generalize (wr.alloc (.cells #[.int .i64 kd, .int .i64 x] 35)).alloc (.cells #[.int .i64 0, .int .i64 0, .int .i64 0] 31) = w5 at *
        have o0 := zo.cell 0 rfl
        have o1 := zo.cell 1 rfl
        have f0 := za.free 0
        have f1 := za.free 1
        have f2 := za.free 2
        have e0 := za.cell 0 rfl
        have e1 := za.cell 1 rfl
        have e2 := za.cell 2 rfl
        have hza := za.lt
        obtain ⟨m, hm⟩ : ∃ m, T.length = m := ⟨_, rfl⟩
        obtain ⟨A6, c6, rfl, hc6, hc6x, r6⟩ := S2.told.formN hm
        clear hc6 hc6x
        have STO : Hid (∀ er : Int, Box (w5.setCell ⟨wr.heap.size + 1, 0, none⟩ (.int .i64 er)) (wr.heap.size + 1) 31 [.int .i64 er, .int .i64 0, .int .i64 0] ∧ USt w (w5.setCell ⟨wr.heap.size + 1, 0, none⟩ (.int .i64 er)) T L (.slice A6 m c6) u8) := fun er =>
          ⟨za.set 0 (.int .i64 er), S2.stored (grownBy_setCell w5 ⟨wr.heap.size + 1, 0, none⟩ (.int .i64 er)) (show w.heap.size ≤ wr.heap.size + 1 by omega) hku'.out hkv'.out⟩
        have ST2 := Lib.hid S2
        have ZA := Lib.hid za
        by_cases kx : kd < 1 ∨ 3 < kd
        · have hA : Hid (agA f s ⟨kd, x⟩ = ⟨0, 0, 5⟩) := by
            show _ = _
            unfold agA
            rw [if_neg (by show ¬ kd = 1; omega), if_neg (by show ¬ kd = 2; omega), if_neg (by show ¬ kd = 3; omega)]
          have hS : agS s ⟨kd, x⟩ = s := by
            unfold agS
            rw [if_neg (by show ¬ kd = 1; omega), if_neg (by show ¬ (kd = 3 ∧ _); omega)]
          have HS := Lib.hid hS
          have HLa := Lib.hid hla
          obtain ⟨zb, S6⟩ := STO.out 5
          clear S2 za hla hS r6
          have kx' : kd < 1 ∨ (1 ≤ kd ∧ 3 < kd) := by omega
          clear kx
          rcases kx' with k1 | ⟨k1, k2⟩
          · go_upto_region 26 with fail
            have c0 := zb.cell 0 rfl
            have c1 := zb.cell 1 rfl
            have c2 := zb.cell 2 rfl
            have S7 := Lib.hid S6
            have hsz7 := S6.bel.size
            clear zb S6
            go_wp2_with (at_builtin; go_must (refine wpList_apG agaK _ elAga rfl rfl w.heap.size _ L rfl (S7.out.out.alloc _) _ 1 1 [(⟨0, 0, 5⟩ : AgA)] rfl (Rd.litFlat agaK.len [(⟨0, 0, 5⟩ : AgA)] _ (by first | rfl | simp)) (by simp; omega) (by omega) (by omega) ?_; intro v9 w9 ho9 hm9; have S9 := Lib.hid ((S7.out.alloc _).give ho9 hm9)))
            go_roundw
            case rel => exact ⟨j + 1, T, by omega, by go_num, by rw [HsS.out]; exact congrArg (Value.int .i64) (by rw [HS.out]), by rw [HsA.out, hA.out]; exact S9.out, by rw [HsS.out]; exact (by rw [HS.out]; exact HLa.out), (by omega)⟩
            case measure => simp [intOf] <;> omega
          · go_upto_region 26 with fail
            have c0 := zb.cell 0 rfl
            have c1 := zb.cell 1 rfl
            have c2 := zb.cell 2 rfl
            have S7 := Lib.hid S6
            have hsz7 := S6.bel.size
            clear zb S6
            go_wp2_with (at_builtin; go_must (refine wpList_apG agaK _ elAga rfl rfl w.heap.size _ L rfl (S7.out.out.alloc _) _ 1 1 [(⟨0, 0, 5⟩ : AgA)] rfl (Rd.litFlat agaK.len [(⟨0, 0, 5⟩ : AgA)] _ (by first | rfl | simp)) (by simp; omega) (by omega) (by omega) ?_; intro v9 w9 ho9 hm9; have S9 := Lib.hid ((S7.out.alloc _).give ho9 hm9)))
            go_roundw
            case rel => exact ⟨j + 1, T, by omega, by go_num, by rw [HsS.out]; exact congrArg (Value.int .i64) (by rw [HS.out]), by rw [HsA.out, hA.out]; exact S9.out, by rw [HsS.out]; exact (by rw [HS.out]; exact HLa.out), (by omega)⟩
            case measure => simp [intOf] <;> omega
        have kx1 : 1 ≤ kd := by omega
        have kx2 : kd ≤ 3 := by omega
        have kd3 : kd = 1 ∨ kd = 2 ∨ kd = 3 := by omega
        clear kx kx1 kx2
        rcases kd3 with rfl | rfl | rfl
        · have hA : Hid (agA f s ⟨1, x⟩ = ⟨0, 0, 0⟩) := by
            show _ = _
            unfold agA
            rw [if_pos rfl]
          have hS : agS s ⟨1, x⟩ = ⟨s.nw, true, x, s.nw⟩ := by
            unfold agS
            rw [if_pos rfl]
          have HS := Lib.hid hS
          have HLa := Lib.hid (LastU.told T s x)
          have hsz5 := S2.bel.size
          clear S2 za hla hS r6 STO f0 f1 f2 e0 e1 e2
          go_upto_region 26 with (at_builtin; go_must (refine wpList_apG agpK _ elAgp rfl rfl w.heap.size (.slice A6 m c6) T rfl (ST2.out.told.alloc _) _ 1 1 [(⟨x, s.nw⟩ : AgP)] rfl (Rd.litFlat agpK.len [(⟨x, s.nw⟩ : AgP)] _ rfl) (by simp; omega) (by omega) (by omega) ?_; intro v7 w7 ho7 hm7))
          have zb := ((ZA.out.alloc _).grown hm7.1 (fun e => by have := hku'.out _ e.symm; omega))
          have S6 := (ST2.out.alloc _).tell ho7 hm7
          clear ho7 hm7 ZA ST2 o0 o1 zo
          have c0 := zb.cell 0 rfl
          have c1 := zb.cell 1 rfl
          have c2 := zb.cell 2 rfl
          have S7 := Lib.hid S6
          have hsz7 := S6.bel.size
          clear zb S6
          go_wp2_with (at_builtin; go_must (refine wpList_apG agaK _ elAga rfl rfl w.heap.size _ L rfl (S7.out.out.alloc _) _ 1 1 [(⟨0, 0, 0⟩ : AgA)] rfl (Rd.litFlat agaK.len [(⟨0, 0, 0⟩ : AgA)] _ (by first | rfl | simp)) (by simp; omega) (by omega) (by omega) ?_; intro v9 w9 ho9 hm9; have S9 := Lib.hid ((S7.out.alloc _).give ho9 hm9)))
          go_roundw
          case rel => exact ⟨j + 1, T ++ [⟨x, s.nw⟩], by omega, by go_num, by rw [HsS.out]; exact congrArg (Value.int .i64) (by rw [HS.out]), by rw [HsA.out, hA.out]; exact S9.out, by rw [HsS.out]; exact HLa.out, (by rw [List.length_append]; simp; omega)⟩
          case measure => simp [intOf] <;> omega
        · have hS : agS s ⟨2, x⟩ = s := by
            unfold agS
            rw [if_neg (show ¬ (2 : Int) = 1 by decide), if_neg (fun q => absurd q.1 (show ¬ (2 : Int) = 3 by decide))]
          have HS := Lib.hid hS
          have HLa := Lib.hid hla
          rcases hla with ⟨g1, rfl⟩ | ⟨g1, T', rfl⟩
          · obtain rfl : 0 = m := hm
            have hA : Hid (agA f s ⟨2, x⟩ = ⟨0, 0, 3⟩) := by
              show _ = _
              unfold agA
              rw [if_neg (show ¬ (2 : Int) = 1 by decide), if_pos rfl, g1]
              rfl
            obtain ⟨zb, S6⟩ := STO.out 3
            clear S2 za hS r6 g1
            go_upto_region 26 with fail
            have c0 := zb.cell 0 rfl
            have c1 := zb.cell 1 rfl
            have c2 := zb.cell 2 rfl
            have S7 := Lib.hid S6
            have hsz7 := S6.bel.size
            clear zb S6
            go_wp2_with (at_builtin; go_must (refine wpList_apG agaK _ elAga rfl rfl w.heap.size _ L rfl (S7.out.out.alloc _) _ 1 1 [(⟨0, 0, 3⟩ : AgA)] rfl (Rd.litFlat agaK.len [(⟨0, 0, 3⟩ : AgA)] _ (by first | rfl | simp)) (by simp; omega) (by omega) (by omega) ?_; intro v9 w9 ho9 hm9; have S9 := Lib.hid ((S7.out.alloc _).give ho9 hm9)))
            go_roundw
            case rel => exact ⟨j + 1, [], by omega, by go_num, by rw [HsS.out]; exact congrArg (Value.int .i64) (by rw [HS.out]), by rw [HsA.out, hA.out]; exact S9.out, by rw [HsS.out]; exact (by rw [HS.out]; exact HLa.out), (by simp)⟩
            case measure => simp [intOf] <;> omega
          · obtain ⟨m', rfl⟩ : ∃ m', m = m' + 1 := ⟨T'.length, by rw [← hm, List.length_append]; rfl⟩
            have hm' : T'.length = m' := by rw [List.length_append] at hm; simpa using hm
            obtain ⟨a6, p6, rfl, hp6, x0, x1⟩ := RdG.cells agpK r6 (k := m') (by omega)
            have hpp : p6 = ⟨s.va, s.at_⟩ := by
              rw [List.getElem?_append_right (by omega), hm', Nat.sub_self] at hp6
              injection hp6 with hp6
              exact hp6.symm
            subst hpp
            have y0 := x0 _ rfl
            have y1 := x1 0 _ rfl
            rw [Nat.zero_add] at y1
            have hmb : m' < 400 := by omega
            clear x0 x1 hp6
            by_cases g2 : s.at_ + f < s.nw
            · have hA : Hid (agA f s ⟨2, x⟩ = ⟨0, 0, 1⟩) := by
                show _ = _
                unfold agA
                rw [if_neg (show ¬ (2 : Int) = 1 by decide), if_pos rfl, if_pos g1, if_pos g2]
              obtain ⟨zb, S6⟩ := STO.out 1
              clear S2 za hS r6 g1 hm hm'
              go_upto_region 26 with fail
              have c0 := zb.cell 0 rfl
              have c1 := zb.cell 1 rfl
              have c2 := zb.cell 2 rfl
              have S7 := Lib.hid S6
              have hsz7 := S6.bel.size
              clear zb S6
              go_wp2_with (at_builtin; go_must (refine wpList_apG agaK _ elAga rfl rfl w.heap.size _ L rfl (S7.out.out.alloc _) _ 1 1 [(⟨0, 0, 1⟩ : AgA)] rfl (Rd.litFlat agaK.len [(⟨0, 0, 1⟩ : AgA)] _ (by first | rfl | simp)) (by simp; omega) (by omega) (by omega) ?_; intro v9 w9 ho9 hm9; have S9 := Lib.hid ((S7.out.alloc _).give ho9 hm9)))
              go_roundw
              case rel => exact ⟨j + 1, _, by omega, by go_num, by rw [HsS.out]; exact congrArg (Value.int .i64) (by rw [HS.out]), by rw [HsA.out, hA.out]; exact S9.out, by rw [HsS.out]; exact (by rw [HS.out]; exact HLa.out), (by omega)⟩
              case measure => simp [intOf] <;> omega
            · have hA : Hid (agA f s ⟨2, x⟩ = ⟨s.va, s.nw - s.at_, 0⟩) := by
                show _ = _
                unfold agA
                rw [if_neg (show ¬ (2 : Int) = 1 by decide), if_pos rfl, if_pos g1, if_neg g2]
              have hRB : Hid (Box (((w5.setCell ⟨wr.heap.size + 1, 0, none⟩ (.int .i64 0)).setCell ⟨wr.heap.size + 1, 1, none⟩ (.int .i64 s.va)).setCell ⟨wr.heap.size + 1, 2, none⟩ (.int .i64 (s.nw - s.at_))) (wr.heap.size + 1) 31 [.int .i64 0, .int .i64 s.va, .int .i64 (s.nw - s.at_)] ∧ USt w (((w5.setCell ⟨wr.heap.size + 1, 0, none⟩ (.int .i64 0)).setCell ⟨wr.heap.size + 1, 1, none⟩ (.int .i64 s.va)).setCell ⟨wr.heap.size + 1, 2, none⟩ (.int .i64 (s.nw - s.at_))) (T' ++ [⟨s.va, s.at_⟩]) L (.slice (some a6) (m' + 1) c6) u8) :=
                ⟨((za.set 0 (.int .i64 0)).set 1 (.int .i64 s.va)).set 2 (.int .i64 (s.nw - s.at_)), S2.stored (grownBy_tri w5 (wr.heap.size + 1) 0 1 2 (.int .i64 0) (.int .i64 s.va) (.int .i64 (s.nw - s.at_))) (show w.heap.size ≤ wr.heap.size + 1 by omega) hku'.out hkv'.out⟩
              obtain ⟨zb, S6⟩ := hRB.out
              clear S2 za hS r6 g1 hm hm' STO
              go_upto_region 11 with fail
              go_big_region
              go_upto_region 26 with fail
              replace zb := zb.drew
              replace S6 := S6.drew
              generalize (((w5.setCell ⟨wr.heap.size + 1, 0, none⟩ (.int .i64 0)).setCell ⟨wr.heap.size + 1, 1, none⟩ (.int .i64 s.va)).setCell ⟨wr.heap.size + 1, 2, none⟩ (.int .i64 (s.nw - s.at_))).drew = w7 at *
              clear hRB zo o1 o0 f0 f1 f2 e0 e1 e2 y0 y1 ZA ST2
              have c0 := zb.cell 0 rfl
              have c1 := zb.cell 1 rfl
              have c2 := zb.cell 2 rfl
              have S7 := Lib.hid S6
              have hsz7 := S6.bel.size
              clear zb S6
              go_wp2_with (at_builtin; go_must (refine wpList_apG agaK _ elAga rfl rfl w.heap.size _ L rfl (S7.out.out.alloc _) _ 1 1 [(⟨s.va, s.nw - s.at_, 0⟩ : AgA)] rfl (Rd.litFlat agaK.len [(⟨s.va, s.nw - s.at_, 0⟩ : AgA)] _ (by first | rfl | simp)) (by simp; omega) (by omega) (by omega) ?_; intro v9 w9 ho9 hm9; have S9 := Lib.hid ((S7.out.alloc _).give ho9 hm9)))
              go_roundw
              case rel => exact ⟨j + 1, _, by omega, by go_num, by rw [HsS.out]; exact congrArg (Value.int .i64) (by rw [HS.out]), by rw [HsA.out, hA.out]; exact S9.out, by rw [HsS.out]; exact (by rw [HS.out]; exact HLa.out), (by omega)⟩
              case measure => simp [intOf] <;> omega
        · have HLa := Lib.hid (hla.same (o := ⟨3, x⟩) (show (3 : Int) ≠ 1 by decide))
          clear hla r6
          by_cases kr : 0 ≤ x ∧ x ≤ 1099511627776
          · have hA : Hid (agA f s ⟨3, x⟩ = ⟨0, 0, 0⟩) := by
              show _ = _
              unfold agA
              rw [if_neg (show ¬ (3 : Int) = 1 by decide), if_neg (show ¬ (3 : Int) = 2 by decide), if_pos rfl, if_pos (by rw [show agMax = 1099511627776 from rfl]; exact kr)]
            have hS : agS s ⟨3, x⟩ = ⟨if agMax < s.nw + x then agMax else s.nw + x, s.any, s.va, s.at_⟩ := by
              unfold agS
              rw [if_neg (show ¬ (3 : Int) = 1 by decide), if_pos ⟨rfl, by rw [show agMax = 1099511627776 from rfl]; exact kr⟩]
            obtain ⟨r0, r1⟩ := kr
            have zb := ZA.out
            have S6 := ST2.out
            clear S2 za ZA ST2 STO f0 f1 f2 e0 e1 e2
            by_cases ko : 1099511627776 < s.nw + x
            · have HS : Hid ((agS s ⟨3, x⟩).nw = 1099511627776) := by
                show _ = _
                rw [hS]
                exact if_pos ko
              clear hS
              go_upto_region 26 with fail
              have c0 := zb.cell 0 rfl
              have c1 := zb.cell 1 rfl
              have c2 := zb.cell 2 rfl
              have S7 := Lib.hid S6
              have hsz7 := S6.bel.size
              clear zb S6
              go_wp2_with (at_builtin; go_must (refine wpList_apG agaK _ elAga rfl rfl w.heap.size _ L rfl (S7.out.out.alloc _) _ 1 1 [(⟨0, 0, 0⟩ : AgA)] rfl (Rd.litFlat agaK.len [(⟨0, 0, 0⟩ : AgA)] _ (by first | rfl | simp)) (by simp; omega) (by omega) (by omega) ?_; intro v9 w9 ho9 hm9; have S9 := Lib.hid ((S7.out.alloc _).give ho9 hm9)))
              go_roundw
              case rel => exact ⟨j + 1, T, by omega, by go_num, by rw [HsS.out]; exact congrArg (Value.int .i64) HS.out.symm, by rw [HsA.out, hA.out]; exact S9.out, by rw [HsS.out]; exact HLa.out, (by omega)⟩
              case measure => simp [intOf] <;> omega
            · have HS : Hid ((agS s ⟨3, x⟩).nw = s.nw + x) := by
                show _ = _
                rw [hS]
                exact if_neg ko
              clear hS
              go_upto_region 26 with fail
              have c0 := zb.cell 0 rfl
              have c1 := zb.cell 1 rfl
              have c2 := zb.cell 2 rfl
              have S7 := Lib.hid S6
              have hsz7 := S6.bel.size
              clear zb S6
              go_wp2_with (at_builtin; go_must (refine wpList_apG agaK _ elAga rfl rfl w.heap.size _ L rfl (S7.out.out.alloc _) _ 1 1 [(⟨0, 0, 0⟩ : AgA)] rfl (Rd.litFlat agaK.len [(⟨0, 0, 0⟩ : AgA)] _ (by first | rfl | simp)) (by simp; omega) (by omega) (by omega) ?_; intro v9 w9 ho9 hm9; have S9 := Lib.hid ((S7.out.alloc _).give ho9 hm9)))
              go_roundw
              case rel => exact ⟨j + 1, T, by omega, by go_num, by rw [HsS.out]; exact congrArg (Value.int .i64) HS.out.symm, by rw [HsA.out, hA.out]; exact S9.out, by rw [HsS.out]; exact HLa.out, (by omega)⟩
              case measure => simp [intOf] <;> omega
          · have hA : Hid (agA f s ⟨3, x⟩ = ⟨0, 0, 2⟩) := by
              show _ = _
              unfold agA
              rw [if_neg (show ¬ (3 : Int) = 1 by decide), if_neg (show ¬ (3 : Int) = 2 by decide), if_pos rfl, if_neg (by rw [show agMax = 1099511627776 from rfl]; exact kr)]
            have hS : agS s ⟨3, x⟩ = s := by
              unfold agS
              rw [if_neg (show ¬ (3 : Int) = 1 by decide), if_neg (fun q => kr (by have := q.2; rw [show agMax = 1099511627776 from rfl] at this; exact this))]
            have HS := Lib.hid hS
            obtain ⟨zb, S6⟩ := STO.out 2
            clear S2 za hS
            have kx' : x < 0 ∨ (0 ≤ x ∧ 1099511627776 < x) := by omega
            clear kr
            rcases kx' with k1 | ⟨k1, k2⟩
            · go_upto_region 26 with fail
              have c0 := zb.cell 0 rfl
              have c1 := zb.cell 1 rfl
              have c2 := zb.cell 2 rfl
              have S7 := Lib.hid S6
              have hsz7 := S6.bel.size
              clear zb S6
              go_wp2_with (at_builtin; go_must (refine wpList_apG agaK _ elAga rfl rfl w.heap.size _ L rfl (S7.out.out.alloc _) _ 1 1 [(⟨0, 0, 2⟩ : AgA)] rfl (Rd.litFlat agaK.len [(⟨0, 0, 2⟩ : AgA)] _ (by first | rfl | simp)) (by simp; omega) (by omega) (by omega) ?_; intro v9 w9 ho9 hm9; have S9 := Lib.hid ((S7.out.alloc _).give ho9 hm9)))
              go_roundw
              case rel => exact ⟨j + 1, T, by omega, by go_num, by rw [HsS.out]; exact congrArg (Value.int .i64) (by rw [HS.out]), by rw [HsA.out, hA.out]; exact S9.out, by rw [HsS.out]; exact HLa.out, (by omega)⟩
              case measure => simp [intOf] <;> omega
            · go_upto_region 26 with fail
              have c0 := zb.cell 0 rfl
              have c1 := zb.cell 1 rfl
              have c2 := zb.cell 2 rfl
              have S7 := Lib.hid S6
              have hsz7 := S6.bel.size
              clear zb S6
              go_wp2_with (at_builtin; go_must (refine wpList_apG agaK _ elAga rfl rfl w.heap.size _ L rfl (S7.out.out.alloc _) _ 1 1 [(⟨0, 0, 2⟩ : AgA)] rfl (Rd.litFlat agaK.len [(⟨0, 0, 2⟩ : AgA)] _ (by first | rfl | simp)) (by simp; omega) (by omega) (by omega) ?_; intro v9 w9 ho9 hm9; have S9 := Lib.hid ((S7.out.alloc _).give ho9 hm9)))
              go_roundw
              case rel => exact ⟨j + 1, T, by omega, by go_num, by rw [HsS.out]; exact congrArg (Value.int .i64) (by rw [HS.out]), by rw [HsA.out, hA.out]; exact S9.out, by rw [HsS.out]; exact HLa.out, (by omega)⟩
              case measure => simp [intOf] <;> omega
      · obtain rfl : j = n := by omega
        have ho := hst.out
        rw [List.take_of_length_le (by rw [Hl.out]; exact Nat.le_refl _)] at ho
        have Ho := Lib.hid ho
        clear ho hst
        go_wp2
        go_ret2
        exact ⟨_, by rw [EL.out.1]; rfl, by rw [EL.out.2]; exact Ho.out, hbl⟩
end Go.Proofs.Ytdppfjiphfeapaa
