/-
  Contract of arb.Play at fair identifiers. No statement of the seat is here.
-/
import Derived.Test.YtolcfifbnmkfaaaArbWalks4
import Derived.Laws.EntriesVeiled
namespace Go.Proofs.Ytolcfifbnmkfaaa
open Go.RowKit
set_option linter.unusedVariables false

theorem grownBy_weak {w w' : World} (row : Option Nat) (h : w.grownBy w' none) : w.grownBy w' row := ⟨h.os, h.tape, h.output, h.size, fun k hk _ => h.block k hk (by simp)⟩
theorem grownBy_alloc' (w : World) (o : Obj) (row : Option Nat) : w.grownBy (w.alloc o) row := grownBy_weak row (World.grownBy_alloc w o none)
/-- What the variable at an address holds, one more. -/
def cellNum (o : Option Value) : Nat := match o with | some (.int _ p) => (p + 1).toNat | _ => 0
def placeOf (v : Value) (w : World) : Nat := match v with | .pointer (some a) => cellNum (w.cell? a) | _ => 0
theorem Box.drewN {w : World} {b : Nat} {t : TypeId} {vs : List Value} (h : Box w b t vs) (q : Nat) : Box (w.drewN q) b t vs := h
theorem Ow.drewN {α : Type} {f : α → Value} {w : World} {base : Nat} {e : TypeId} {v : Value} {l : List α} (h : Ow f w base e v l) (q : Nat) : Ow f (w.drewN q) base e v l := h
theorem pred1 {w W : World} {l : List Int} {b1 bp : Nat} {A : Option Addr} {n c q : Nat} (hx1 : Box W b1 22 [.slice A n c]) (hxp : Box W bp 3 [.int .i64 (q : Int)]) (hr : Rd w 1 A n (l.map (Value.int .i64))) (hb : Below w.heap.size w W)
    (row : Option Nat) (hrow : ∀ k, row = some k → w.heap.size ≤ k ∧ k ≠ b1 ∧ k ≠ bp) (hf : Fair l) (hn : n ≤ 400) (hq : q ≤ 10) (m : Int) (s : Nat) :
    PredOn 28 #[.pointer (some ⟨b1, 0, none⟩), .pointer (some ⟨bp, 0, none⟩)] (fun i => domM (nodeAt l i) q) (act l m s) row W := by
  intro i hi Wx hg
  obtain ⟨k, x, rfl, hx, _⟩ := act_mem hi
  have hxl := hf.2.1 x (List.mem_of_getElem? hx)
  simp only [nodeAt_nat hx]
  exact Dom_any b1 bp A n c q k l x Wx ((hx1.grown hg (fun e => (hrow _ e.symm).2.1 rfl)).cell 0 rfl) ((hxp.grown hg (fun e => (hrow _ e.symm).2.2 rfl)).cell 0 rfl)
    (hr.below (hb.grown hg hb.size (fun k e => (hrow k e).1))) hx hxl.1 hxl.2 hq hn
theorem pred2 {w W : World} {l : List Int} {b1 bp b3 b4 : Nat} {A : Option Addr} {n c q : Nat} {bit : Bool} (hx3 : Box W b3 49 [.func (.func 28) #[] #[.pointer (some ⟨b1, 0, none⟩), .pointer (some ⟨bp, 0, none⟩)]]) (hx4 : Box W b4 4 [.bool bit])
    (hx1 : Box W b1 22 [.slice A n c]) (hxp : Box W bp 3 [.int .i64 (q : Int)]) (hr : Rd w 1 A n (l.map (Value.int .i64))) (hb : Below w.heap.size w W)
    (row : Option Nat) (hrow : ∀ k, row = some k → w.heap.size ≤ k ∧ k ≠ b1 ∧ k ≠ bp ∧ k ≠ b3 ∧ k ≠ b4) (hf : Fair l) (hn : n ≤ 400) (hq : q ≤ 10) (m : Int) (s : Nat) :
    PredOn 31 #[.pointer (some ⟨b3, 0, none⟩), .pointer (some ⟨b4, 0, none⟩)] (fun i => domM (nodeAt l i) q == bit) (act l m s) row W := by
  intro i hi Wx hg
  obtain ⟨k, x, rfl, hx, _⟩ := act_mem hi
  have hxl := hf.2.1 x (List.mem_of_getElem? hx)
  simp only [nodeAt_nat hx]
  exact Stop_any b1 bp b3 b4 A n c q k l x bit Wx ((hx3.grown hg (fun e => (hrow _ e.symm).2.2.2.1 rfl)).cell 0 rfl) ((hx4.grown hg (fun e => (hrow _ e.symm).2.2.2.2 rfl)).cell 0 rfl)
    ((hx1.grown hg (fun e => (hrow _ e.symm).2.1 rfl)).cell 0 rfl) ((hxp.grown hg (fun e => (hrow _ e.symm).2.2.1 rfl)).cell 0 rfl)
    (hr.below (hb.grown hg hb.size (fun k e => (hrow k e).1))) hx hxl.1 hxl.2 hq hn
theorem saidS_le (m x : Int) : ∀ s, 0 ≤ saidS m x s ∧ saidS m x s ≤ s
  | 0 => ⟨Int.le_refl _, Int.le_refl _⟩
  | s + 1 => by
    have := saidS_le m x s
    rw [saidS]
    split <;> omega
set_option maxHeartbeats 3200000 in
theorem Play_ok (A : Option Addr) (n c : Nat) (l : List Int) (w : World) (h : Rd w 1 A n (l.map (Value.int .i64))) (hf : Fair l) (hl : l ≠ []) :
    Calls Try.prog 8 #[.slice A n c] w fun e w' => ∃ v b, e = .returned (.tuple #[v, b, .int .i64 0]) ∧ Ow (Value.int .i64) w' w.heap.size 3 v (playSent l) ∧ Ow Value.bool w' w.heap.size 4 b (playBus l) ∧ Below w.heap.size w w' := by
  have hln := h.lenMap
  have hn : n ≤ 400 := by have := hf.1; omega
  have hn0 : 0 < n := by rw [← hln]; exact List.length_pos_iff.2 hl
  have hW := fun W (hb : Rd W 1 A n (l.map (Value.int .i64))) => Wrong_any A n c l W hb
  rw [(wrongM_zero l).2 hf] at hW
  obtain ⟨m, Hm⟩ : ∃ m, Hid (m = leastI l) := ⟨_, rfl⟩
  have hmk := run_mk elInt rfl .i64 .i64 n n (Nat.le_refl _) (by omega) (by omega)
  have hmb : ∀ W, (Instr.makeSlice 23 (.int .i64 0) (.int .i64 11)).run Try.prog W = .ok (.slice (some ⟨W.heap.size, 0, none⟩) 0 11) (W.alloc (.cells (madeCells #[.bool false] 11) 4)) := run_mk elBool rfl .i64 .i64 0 11 (by omega) (by omega) (by omega)
  have hn0z : ((n : Int) == 0) = false := by rw [beq_eq_false_iff_ne]; omega
  have Hf := Lib.hid hf; clear hf
  have Hl := Lib.hid hl; clear hl
  have Hln := Lib.hid hln; clear hln
  go_enter Try.func8, Try.ntmps8
  go_wp2_with (first
    | (go_at_call 12; refine (hW _ (h.alloc _)).mono ?_; clear hW; rintro e w2 ⟨rfl, hb2⟩; have hx1 : Box w2 w.heap.size 22 [.slice A n c] := ((Box.new w 22 [.slice A n c]).below hb2 (Box.new w 22 [.slice A n c]).lt); have hc0 := hx1.cell 0 rfl; have hc1 := fun o => (hx1.alloc o).cell 0 rfl; have hc2 := fun o o' => ((hx1.alloc o).alloc o').cell 0 rfl)
    | (go_at_call 27; refine (everyNode_any n _ hn).mono ?_; rintro e w3 ⟨v8, rfl, ho8, hb3⟩))
  go_loopw [7, 8, 9] (fun v7 v8 v9 wr => ∃ (s bp : Nat), s ≤ 11 ∧ v9 = .pointer (some ⟨bp, 0, none⟩) ∧ St w wr l m s A n c w.heap.size w2.heap.size bp v7 v8) (fun _ _ v9 wr => placeOf v9 wr)
  case atStart =>
    refine ⟨0, w3.heap.size, by omega, rfl, ?_⟩
    have hsz2 := hb2.size
    have hsz3 := hb3.size
    simp only [World.size_alloc] at hsz2 hsz3
    have hbA := bthen ((below_new hb2).alloc (below_new hb2).size (.cells (madeCells #[.int .i64 0] n) 3)) (((Below.refl _ _).alloc (Nat.le_refl _) (.cells (madeCells #[.bool false] 11) 4)))
    have hbB := bthen hbA hb3
    have ho6 := Ow.make (Value.int .i64) 0 w2 3 (base := w.heap.size) n (by unfold maxLen; omega) (by omega)
    have ho7 : Ow Value.bool ((w2.alloc (.cells (madeCells #[.int .i64 0] n) 3)).alloc (.cells (madeCells #[.bool false] 11) 4)) w.heap.size 4 (.slice (some ⟨w2.heap.size + 1, 0, none⟩) 0 11) [] := by
      have := World.ownsRow_made (base := w.heap.size) (e := 4) (w2.alloc (.cells (madeCells #[.int .i64 0] n) 3)) (madeCells #[.bool false] 11) 11 (size := 1) (by simp; omega) (by unfold maxLen; omega) (size_madeCells _ _)
      simpa [Ow] using this
    refine ⟨hbB.alloc hbB.size _, (((hx1.alloc _).alloc _).below hb3 (by simp; omega)).alloc _, by simpa using Box.new w3 3 [.int .i64 10], ?_, (ho7.below hb3).alloc _, ?_, ⟨Nat.le_refl _, by omega, by omega⟩, ⟨by omega, by omega⟩, ?_, ?_⟩
    · have := ((ho6.alloc (.cells (madeCells #[.bool false] 11) 4)).below hb3).alloc (.cells #[.int .i64 10] 3)
      rwa [show (l.map fun x => saidS m x 0) = List.replicate n 0 by rw [← Hln.out]; exact List.map_const']
    · rw [act_zero, Hln.out]
      exact ((ho8.mono (by simp; omega)).alloc _)
    · intro k hk
      simp [Value.ownBlock] at hk
      omega
    · intro k hk
      have := ho8.block k hk
      have := ho8.inHeap k hk
      simp only [World.size_alloc] at *
      refine ⟨by omega, by omega, by omega, ?_⟩
      simp [Value.ownBlock]
      omega
  case round =>
    obtain ⟨s, bp, hs, rfl, st⟩ := hrel
    obtain ⟨W, hWr⟩ : ∃ W, W = wr := ⟨_, rfl⟩
    subst hWr
    by_cases hs11 : s = 11
    · subst hs11
      have hcp : W.cell? ⟨bp, 0, none⟩ = some (.int .i64 (-1)) := st.boxp.cell 0 rfl
      have hs6 := st.sent
      have hs7 := st.bus
      rw [List.take_of_length_le (by rw [B_length]; exact Nat.le_refl _)] at hs7
      have hbel := st.bel
      rw [Hm.out] at hs6 hs7
      clear st
      have Hs6 := Lib.hid hs6; clear hs6
      have Hs7 := Lib.hid hs7; clear hs7
      have Hbel := Lib.hid hbel; clear hbel
      go_wp2
      exact bodyPost_ret (v := .tuple #[.slice (some ⟨w2.heap.size, 0, none⟩) n n, u7, .int .i64 0]) (by simp [results, Try.results8, go_sem]) rfl ⟨_, _, rfl, Hs6.out, Hs7.out, Hbel.out⟩
    · obtain ⟨q, hq⟩ : ∃ q : Nat, 10 - s = q := ⟨_, rfl⟩
      have hcp : W.cell? ⟨bp, 0, none⟩ = some (.int .i64 (q : Int)) := by
        have := st.boxp.cell 0 rfl
        rwa [show (10 : Int) - (s : Int) = (q : Int) by omega] at this
      obtain ⟨A8, c8, h8v, _, _⟩ := st.nodes.form
      subst h8v
      have hr8 := st.nodes.rd
      have hlen8 := act_len l m s
      rw [Hln.out] at hlen8
      obtain ⟨n8, hn8⟩ : ∃ n8, n8 = (act l m s).length := ⟨_, rfl⟩
      rw [← hn8] at hr8 hlen8 st ⊢
      have Hst := Lib.hid st; clear st
      have Hn8 := Lib.hid hn8; clear hn8
      go_wp2
      go_loopw [35] (fun i wr => ∃ j : Nat, j ≤ n8 ∧ i = .int .i64 j ∧ Ow (Value.int .i64) wr w.heap.size 3 (.slice (some ⟨w2.heap.size, 0, none⟩) n n) (bump (l.map fun x => saidS m x s) ((act l m s).take j)) ∧ W.grownBy wr (some w2.heap.size)) (fun i _ => n8 - (intOf i).toNat)
      case atStart => exact ⟨0, Nat.zero_le _, rfl, Hst.out.sent, World.grownBy.refl _ _⟩
      case round =>
        obtain ⟨j, hj, rfl, ho6, hg6⟩ := hrel
        by_cases hlt : j < n8
        · have hst := Hst.out
          obtain ⟨ad, i, rfl, hi, hci⟩ := (hst.nodes.keep hg6 (fun k hk => by simp [(hst.d8 k hk).2.1])).rd.atMap hlt
          obtain ⟨k, x, rfl, hx, _⟩ := act_mem (List.mem_of_getElem? hi)
          have hkn : k < n := by have := (List.getElem?_eq_some_iff.1 hx).1; rw [Hln.out] at this; exact this
          have hy := bump_get ((act l m s).take j) (l.map fun x => saidS m x s) k (fun i hi => by obtain ⟨j, _, rfl, _⟩ := act_mem (List.mem_of_mem_take hi); omega)
          rw [List.getElem?_map, hx] at hy
          simp only [Option.map_some] at hy
          obtain ⟨y, hyy⟩ : ∃ y, saidS m x s + (((act l m s).take j).count (k : Int) : Int) = y := ⟨_, rfl⟩
          rw [hyy] at hy
          have hyb : 0 ≤ y ∧ y ≤ 411 := by
            have h1 := saidS_le m x s
            have h2 := List.count_le_length (a := (k : Int)) (l := (act l m s).take j)
            have h3 : ((act l m s).take j).length ≤ 400 := by rw [List.length_take]; omega
            omega
          have hcy := ho6.cellAt hy
          have hfy := ho6.freeAt k
          have hput := ho6.put k (y + 1)
          have Hbs : Hid ((bump (l.map fun x => saidS m x s) ((act l m s).take j)).set k (y + 1) = bump (l.map fun x => saidS m x s) ((act l m s).take (j + 1))) := by
            show _ = _
            rw [take_snoc hi, bump_snoc]
            simp [hy]
          rw [Hbs.out] at hput
          have Hput := Lib.hid hput; clear hput
          have Hg6 := Lib.hid hg6; clear hg6
          have Ho6 := Lib.hid ho6; clear ho6
          clear hy hyy hi hx hst
          go_wp2
          go_roundw
          case rel => exact ⟨j + 1, by omega, by go_num, Hput.out, grownBy_then Hg6.out (grownBy_setCell _ ⟨w2.heap.size, k, none⟩ _)⟩
          case measure => simp [intOf] <;> omega
        · obtain rfl : j = n8 := by omega
          obtain ⟨W1, hW1⟩ : ∃ W1, W1 = wr := ⟨_, rfl⟩
          subst hW1
          have hst := Hst.out
          obtain ⟨hlo1, hlop, hlo6⟩ := hst.lo
          obtain ⟨hd1, hdp⟩ := hst.d1
          rw [Hn8.out, List.take_of_length_le (Nat.le_refl _), bump_act] at ho6
          have hx1' := hst.box1.grown hg6 (by simp [hd1])
          have hxp' : Box W1 bp 3 [.int .i64 (q : Int)] := by
            have := hst.boxp.grown hg6 (by simp [hdp])
            rwa [show (10 : Int) - (s : Int) = (q : Int) by omega] at this
          have ho7 := hst.bus.keep hg6 (fun k hk => by simp [(hst.d7 k hk).2.1])
          have ho8 := hst.nodes.keep hg6 (fun k hk => by simp [(hst.d8 k hk).2.1])
          have hbel := below_grown hst.bel hg6 hlo6 hst.bel.size
          have hsW := hbel.size
          have hb1lt := hx1'.lt
          have hbplt := hxp'.lt
          have hg6lt := ho6.inHeap w2.heap.size rfl
          have hd7 := hst.d7
          have hd8 := hst.d8
          have hin7 := ho7.inHeap
          have hin8 := ho8.inHeap
          have hcp1 := hxp'.cell 0 rfl
          obtain ⟨o3, ho3⟩ : ∃ o3, o3 = Obj.cells #[.func (.func 28) #[] #[.pointer (some ⟨w.heap.size, 0, none⟩), .pointer (some ⟨bp, 0, none⟩)]] 49 (0, 0) := ⟨_, rfl⟩
          have hC := ContainsFunc_any 28 #[.pointer (some ⟨w.heap.size, 0, none⟩), .pointer (some ⟨bp, 0, none⟩)] enter1 (fun i => domM (nodeAt l i) q) none A8 j c8 (act l m s) (W1.alloc o3)
            (ho8.rd.alloc _) (pred1 (hx1'.alloc _) (hxp'.alloc _) h (hbel.alloc hsW _) none (by simp) Hf.out hn (by omega) m s) (by omega)
          have hbit := bus_bit Hf.out.2.1 Hl.out (s := s) (by omega)
          rw [← Hm.out, hq] at hbit
          obtain ⟨d, hd⟩ : ∃ d, d = (act l m s).any (fun i => domM (nodeAt l i) q) := ⟨_, rfl⟩
          rw [← hd] at hC hbit
          have hsucc := act_succ l m (s := s) (by omega)
          rw [hq, ← hbit] at hsucc
          have hbus : (B m).take (s + 1) = (B m).take s ++ [!d] := by rw [take_snoc (B_get m (by omega)), hq, hbit]
          have hx3 : Box (W1.alloc o3) W1.heap.size 49 [.func (.func 28) #[] #[.pointer (some ⟨w.heap.size, 0, none⟩), .pointer (some ⟨bp, 0, none⟩)]] := by rw [ho3]; exact Box.new W1 _ _
          subst ho3
          have hDel := fun (W4 : World) (o8 : Ow (Value.int .i64) W4 w.heap.size 3 (.slice A8 j c8) (act l m s)) hp => DeleteFunc_own 31 #[.pointer (some ⟨W1.heap.size, 0, none⟩), .pointer (some ⟨W1.heap.size + 1, 0, none⟩)] enter2 (fun i => domM (nodeAt l i) q == !d) w.heap.size (.slice A8 j c8) (act l m s) W4 o8 hp (by rw [← Hn8.out]; omega)
          simp only [hsucc] at hDel
          have hP2 := fun (W4 : World) hx3 hx4 hx1 hxp hb hrow => pred2 (w := w) (W := W4) (l := l) (b1 := w.heap.size) (bp := bp) (b3 := W1.heap.size) (b4 := W1.heap.size + 1) (A := A) (n := n) (c := c) (q := q) (bit := !d) hx3 hx4 hx1 hxp h hb (Value.slice A8 j c8).ownBlock hrow Hf.out hn (by omega) m s
          have hbl : ((B m).take s).length ≤ 11 := by rw [List.length_take]; omega
          have Hhd := Lib.hid hd; clear hd
          have Hsucc := Lib.hid hsucc; clear hsucc
          have Hbus := Lib.hid hbus; clear hbus
          have Hbit := Lib.hid hbit; clear hbit
          have Hst1 := Lib.hid hst; clear hst
          have Ho6 := Lib.hid ho6; clear ho6
          have hrow8 : ∀ k, (Value.slice A8 j c8).ownBlock = some k → w.heap.size ≤ k ∧ k ≠ w.heap.size ∧ k ≠ bp ∧ k ≠ W1.heap.size ∧ k ≠ W1.heap.size + 1 := by
            intro k hk
            have h1 := hd8 k hk
            have h2 := hin8 k hk
            have h3 := ho8.block k hk
            exact ⟨h3, h1.1, h1.2.2.1, by omega, by omega⟩
          have hAp : ∀ (q1 : Nat) (oo : Obj) (w4 : World) (v7 : Value), Moves ((((W1.alloc (.cells #[.func (.func 28) #[] #[.pointer (some ⟨w.heap.size, 0, none⟩), .pointer (some ⟨bp, 0, none⟩)]] 49)).drewN q1).alloc (.cells #[.bool !d] 4)).alloc oo) w4 u7 v7 →
              Box w4 W1.heap.size 49 [.func (.func 28) #[] #[.pointer (some ⟨w.heap.size, 0, none⟩), .pointer (some ⟨bp, 0, none⟩)]] ∧ Box w4 (W1.heap.size + 1) 4 [.bool !d] ∧ Box w4 w.heap.size 22 [.slice A n c] ∧ Box w4 bp 3 [.int .i64 (q : Int)] ∧ Ow (Value.int .i64) w4 w.heap.size 3 (.slice A8 j c8) (act l m s) ∧ Below w.heap.size w w4 ∧ w4.cell? ⟨W1.heap.size + 1, 0, none⟩ = some (.bool !d) := by
            intro q1 oo w4 v7 hm7
            have hne : ∀ b, (∀ k, u7.ownBlock = some k → k ≠ b) → some b ≠ u7.ownBlock := fun b hb e => hb b e.symm rfl
            have h4 : Box ((((W1.alloc (.cells #[.func (.func 28) #[] #[.pointer (some ⟨w.heap.size, 0, none⟩), .pointer (some ⟨bp, 0, none⟩)]] 49)).drewN q1).alloc (.cells #[.bool !d] 4)).alloc oo) (W1.heap.size + 1) 4 [.bool !d] := by
              have := (Box.new ((W1.alloc (.cells #[.func (.func 28) #[] #[.pointer (some ⟨w.heap.size, 0, none⟩), .pointer (some ⟨bp, 0, none⟩)]] 49)).drewN q1) 4 [.bool !d]).alloc oo
              simpa using this
            have h4' := h4.grown hm7.1 (hne _ (fun k hk => by have := hin7 k hk; omega))
            refine ⟨(((hx3.drewN q1).alloc _).alloc _).grown hm7.1 (hne _ (fun k hk => by have := hin7 k hk; omega)), h4', ((((hx1'.alloc _).drewN q1).alloc _).alloc _).grown hm7.1 (hne _ (fun k hk => (hd7 k hk).1)), ((((hxp'.alloc _).drewN q1).alloc _).alloc _).grown hm7.1 (hne _ (fun k hk => (hd7 k hk).2.2)), ?_, ?_, h4'.cell 0 rfl⟩
            · exact ((((ho8.alloc _).drewN q1).alloc _).alloc _).moves hm7 (fun k hk => (hd8 k hk).2.2.2)
            · refine hm7.below ((((hbel.alloc hsW _).trans (below_draws ⟨q1, rfl⟩ |>.mono (by simp; omega))).alloc (by simp; omega) _).alloc (by simp; omega) _) (by simp; omega) ho7.block
          clear hcp hr8 hc0 hc1 hc2
          go_wp2_with (first
            | (go_at_call 29; refine hC.mono ?_; clear hC; rintro e w' ⟨rfl, q1, rfl⟩)
            | (at_builtin; go_must (refine wpList_apM Value.bool _ elBool rfl rfl one_bool w.heap.size u7 ((B m).take s) rfl (((ho7.alloc _).alloc _).alloc _) _ 1 1 _ rfl (Rd.litAt Value.bool [!d] 4 (by simp)) (by simp; omega) (by omega) (by omega) ?_; intro v7 w4 ho7' hm7; obtain ⟨hx3, hx4, hx1, hxp, ho8, hbel, hcb⟩ := hAp _ _ _ _ hm7))
            | (go_at_call 30; refine (hDel w4 ho8 (hP2 w4 hx3 hx4 hx1 hxp hbel hrow8)).mono ?_; clear hDel hP2; rintro e w5 ⟨v8', rfl, ho8', hm8⟩; have hxp5 := hxp.grown hm8.1 (fun e => (hrow8 bp e.symm).2.2.1 rfl); have hcp5 := hxp5.cell 0 rfl))
          have hsz7 := hm7.1.size
          have hsz8 := hm8.1.size
          have hsz3 : W1.heap.size + 3 ≤ w4.heap.size := by simpa using hsz7
          have hv7 : ∀ k, v7.ownBlock = some k → u7.ownBlock = some k ∨ (W1.heap.size + 3 ≤ k ∧ k < w4.heap.size) := by
            intro k hk
            rcases hm7.2 with e | e
            · exact .inl (e ▸ hk)
            · refine .inr ⟨?_, ho7'.inHeap k hk⟩
              have := e k hk
              simpa using this
          have hv8 : ∀ k, v8'.ownBlock = some k → (Value.slice A8 j c8).ownBlock = some k ∨ (w4.heap.size ≤ k ∧ k < w5.heap.size) := by
            intro k hk
            rcases hm8.2 with e | e
            · exact .inl (e ▸ hk)
            · exact .inr ⟨e k hk, ho8'.inHeap k hk⟩
          have hx15 := hx1.grown hm8.1 (fun e => (hrow8 _ e.symm).2.1 rfl)
          have hbel5 := hm8.below hbel (by omega) ho8.block
          have ho64 := ((((Ho6.out.alloc _).drewN _).alloc _).alloc _).keep hm7.1 (fun k hk e => by
            have : w2.heap.size = k := by simpa [Value.ownBlock] using hk
            subst this
            exact (hd7 _ e.symm).2.1 rfl)
          have ho65 := ho64.keep hm8.1 (fun k hk e => by
            have : w2.heap.size = k := by simpa [Value.ownBlock] using hk
            subst this
            exact (hd8 _ e.symm).2.1 rfl)
          have ho75 := ho7'.keep hm8.1 (fun k hk e => by
            rcases hv7 k hk with h1 | h1
            · exact (hd8 k e.symm).2.2.2 h1
            · have := hin8 k e.symm; omega)
          refine ⟨⟨s + 1, w5.heap.size, by omega, rfl, hbel5.alloc hbel5.size _, hx15.alloc _, ?_, ho65.alloc _, ?_, ho8'.alloc _, ⟨Nat.le_refl _, hbel5.size, hlo6⟩, ⟨hd1, by omega⟩, ?_, ?_⟩, ?_⟩
          · rw [show (10 : Int) - ((s + 1 : Nat) : Int) = (q : Int) - 1 by omega]
            exact Box.new w5 3 [.int .i64 ((q : Int) - 1)]
          · rw [Hbus.out]
            exact ho75.alloc _
          · intro k hk
            rcases hv7 k hk with h1 | h1
            · have h2 := hd7 k h1
              have h3 := hin7 k h1
              exact ⟨h2.1, h2.2.1, by omega⟩
            · exact ⟨by omega, by omega, by omega⟩
          · intro k hk
            rcases hv8 k hk with h1 | h1
            · have h2 := hd8 k h1
              have h3 := hin8 k h1
              refine ⟨h2.1, h2.2.1, by omega, fun e => ?_⟩
              rcases hv7 k e with h4 | h4
              · exact h2.2.2.2 h4
              · omega
            · refine ⟨by omega, by omega, by omega, fun e => ?_⟩
              rcases hv7 k e with h4 | h4
              · have := hin7 k h4; omega
              · omega
          · have e1 := (Box.new w5 3 [.int .i64 ((q : Int) - 1)]).cell 0 rfl
            have e2 : W.cell? ⟨bp, 0, none⟩ = some (.int .i64 (10 - (s : Int))) := Hst1.out.boxp.cell 0 rfl
            have e1' : (w5.alloc (.cells #[.int .i64 ((q : Int) - 1)] 3)).cell? ⟨w5.heap.size, 0, none⟩ = some (.int .i64 ((q : Int) - 1)) := e1
            simp only [placeOf, e1', e2, cellNum]
            omega
end Go.Proofs.Ytolcfifbnmkfaaa
