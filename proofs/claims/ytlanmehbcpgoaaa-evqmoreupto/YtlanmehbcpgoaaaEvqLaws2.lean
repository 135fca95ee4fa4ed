/-
  alive18; handed; the laws EvqOnce and EvqAhead.
-/
import Derived.Test.YtlanmehbcpgoaaaEvqLaws
namespace Go.Proofs.Ytlanmehbcpgoaaa
open Go.RowKit
set_option linter.unusedVariables false

def aE : List EvO := [⟨1, 7⟩, ⟨1, 8⟩, ⟨2, 2⟩, ⟨2, 0⟩, ⟨3, 0⟩, ⟨3, 0⟩, ⟨2, 0⟩, ⟨3, 0⟩]
theorem aE_play : evErrs aE = [0, 0, 0, 0, 0, 3, 0, 0] ∧ evTaken (evRun aE) = [7, 8] ∧ ((evRun aE).al.length : Int) - ((evRun aE).kn : Int) = 0 ∧ ((evRun aE).cm : Int) - ((evRun aE).tk : Int) = 0 := by decide +kernel
set_option maxHeartbeats 1600000 in
theorem alive18_any (w : World) : Calls Try.prog 13 #[] w fun e w' => e = .returned (.bool true) ∧ Below w.heap.size w w' := by
  have C1 := Lib.hid (fun (W : World) (A : Option Addr) (h : RdG opC 2 W A 8 aE) => Play_any A 8 8 aE W h (by decide))
  unfold GivesPlay at C1
  rw [aE_play.1, aE_play.2.1, aE_play.2.2.1, aE_play.2.2.2] at C1
  have hq := fun (W : World) => eq_pair 0 0 0 0 W
  go_enter Try.func13, Try.ntmps13
  go_wp2_with fail
  refine (C1.out _ _ (Rd.litFlat opK.len aE _ rfl)).mono ?_
  rintro e w2 ⟨u2, v2, rfl, he2, ht2, hb2⟩
  have hB := below_new hb2
  obtain ⟨A2, c2, rfl, -, -, r2⟩ := he2.formN (n := 8) rfl
  obtain ⟨B2, d2, rfl, -, -, s2⟩ := ht2.formN (n := 2) rfl
  have X2 := Lib.hid (Box.new w2 25 [.int .i64 0, .int .i64 0])
  have R2 := Lib.hid (r2.alloc (.cells #[.int .i64 0, .int .i64 0] 25))
  have S2 := Lib.hid (s2.alloc (.cells #[.int .i64 0, .int .i64 0] 25))
  have HB := Lib.hid (hB.alloc hB.size (.cells #[.int .i64 0, .int .i64 0] 25))
  clear C1 hb2 he2 ht2 r2 s2 hB
  go_upto_region 2 with fail
  change Hid (Box (w2.alloc (.cells #[.int .i64 0, .int .i64 0] 25)) _ _ _) at X2
  generalize w2.alloc (.cells #[.int .i64 0, .int .i64 0] 25) = w3 at *
  have CE := Lib.hid (EqualE_any_same A2 (some ⟨w3.heap.size, 0, none⟩) 8 c2 8 8 [0, 0, 0, 0, 0, 3, 0, 0] (w3.alloc (.cells #[.int .i64 0, .int .i64 0, .int .i64 0, .int .i64 0, .int .i64 0, .int .i64 3, .int .i64 0, .int .i64 0] 29)) (R2.out.alloc _) (Rd.litAt (Value.int .i64) [0, 0, 0, 0, 0, 3, 0, 0] _ rfl) (by decide))
  have CI := Lib.hid (fun (W : World) (g : Rd W 1 B2 2 ([7, 8].map (Value.int .i64))) => EqualI_any_same B2 (some ⟨W.heap.size, 0, none⟩) 2 d2 2 2 [7, 8] (W.alloc (.cells #[.int .i64 7, .int .i64 8] 3)) (g.alloc _) (Rd.litAt (Value.int .i64) [7, 8] _ rfl) (by decide))
  go_wp2_with fail
  refine CE.out.mono ?_
  rintro e w5 ⟨rfl, hb5⟩
  have hb5' := below_new hb5
  have hB5 := bthen HB.out hb5'
  have S2' := Lib.hid (S2.out.below hb5')
  have X2' := Lib.hid (X2.out.below hb5' X2.out.lt)
  clear CE R2 S2 X2 HB hb5 hb5'
  go_wp2_with fail
  refine (CI.out _ S2'.out).mono ?_
  rintro e w6 ⟨rfl, hb6⟩
  have hb6' := below_new hb6
  have hB6 := bthen hB5 hb6'
  have x2 := X2'.out.below hb6' X2'.out.lt
  have p0 := x2.cell 0 rfl
  have p1 := x2.cell 1 rfl
  clear CI S2' X2' hB5 hb6 hb6' x2
  go_wp2
  go_ret
  exact ⟨rfl, hB6⟩
theorem handedL_snoc : ∀ (l : List EvO) (E : List Int) (o : EvO) (e : Int), l.length = E.length → handedL (l ++ [o]) (E ++ [e]) = handedL l E ++ (if e = 0 ∧ o.kd = 1 then [o.n] else [])
  | [], [], o, e, _ => by simp [handedL]
  | p :: l, f :: E, o, e, h => by
    rw [List.cons_append, List.cons_append, handedL, handedL, handedL_snoc l E o e (by simpa using h)]
    split <;> simp
  | [], f :: E, _, _, h => by simp at h
  | p :: l, [], _, _, h => by simp at h
theorem handedL_len : ∀ (l : List EvO) (E : List Int), (handedL l E).length ≤ l.length
  | [], _ => by simp [handedL]
  | p :: l, [] => by simp [handedL]
  | p :: l, f :: E => by
    have := handedL_len l E
    rw [handedL]
    split <;> simp <;> omega
set_option maxHeartbeats 1600000 in
theorem handed_any (A : Option Addr) (n c : Nat) (l : List EvO) (B : Option Addr) (d : Nat) (E : List Int) (w : World) (h : RdG opC 2 w A n l) (h' : Rd w 1 B n (E.map (Value.int .i64))) (hn : n ≤ 8796093022300) :
    Calls Try.prog 14 #[.slice A n c, .slice B n d] w fun e w' => ∃ v, e = .returned v ∧ Ow (Value.int .i64) w' w.heap.size 3 v (handedL l E) ∧ Below w.heap.size w w' := by
  have Hl := Lib.hid (RdG.len opK h)
  have HE := Lib.hid h'.lenMap
  go_enter Try.func14, Try.ntmps14
  go_wp2
  go_loopw [5, 10] (fun v i wr => ∃ j : Nat, j ≤ n ∧ i = .int .i64 j ∧ Ow (Value.int .i64) wr w.heap.size 3 v (handedL (l.take j) (E.take j)) ∧ Below w.heap.size w wr) (fun _ i _ => n - (intOf i).toNat)
  case atStart => exact ⟨0, Nat.zero_le _, rfl, Ow.nil _ _ _ _, Below.refl _ _⟩
  case round =>
    obtain ⟨j, hj, rfl, ho, hbl⟩ := hrel
    by_cases hlt : j < n
    · obtain ⟨ad, ⟨kd, x⟩, rfl, hx, m0, m1⟩ := op_at (h.below hbl) hlt
      obtain ⟨bd, f, rfl, hf, mf⟩ := (h'.below hbl).atMap hlt
      simp only at m0 m1
      have Hs : Hid (handedL (l.take (j + 1)) (E.take (j + 1)) = handedL (l.take j) (E.take j) ++ (if f = 0 ∧ kd = 1 then [x] else [])) := by
        show _ = _
        rw [take_snoc hx, take_snoc hf, handedL_snoc _ _ _ _ (by rw [List.length_take, List.length_take, Hl.out, HE.out])]
      have Hlen : Hid ((handedL (l.take j) (E.take j)).length ≤ j) := by
        have := handedL_len (l.take j) (E.take j)
        rw [List.length_take] at this
        show _ ≤ _
        omega
      have hsz := hbl.size
      have mf' : (wr.alloc (.cells #[.int .i64 kd, .int .i64 x] 36)).cell? (bd.add j) = some (.int .i64 f) := (Below.cell ((Below.refl _ _).alloc (Nat.le_refl _) _) (World.block_lt_of_cell? _ _ mf)).trans mf
      have z := Box.new wr 36 [.int .i64 kd, .int .i64 x]
      have m2 := z.cell 0 rfl
      have m3 := z.cell 1 rfl
      have Ho := Lib.hid (ho.alloc (.cells #[.int .i64 kd, .int .i64 x] 36))
      have Hb := Lib.hid (hbl.alloc hbl.size (.cells #[.int .i64 kd, .int .i64 x] 36))
      have hs2 := Hb.out.size
      change (wr.alloc (.cells #[.int .i64 kd, .int .i64 x] 36)).cell? _ = _ at m2 m3
      clear z hx hf ho hbl mf
      go_upto_region 5 with fail
      clear m0 m1
      generalize wr.alloc (.cells #[.int .i64 kd, .int .i64 x] 36) = wx at *
      generalize handedL (l.take j) (E.take j) = L at *
      by_cases hf0 : f = 0
      · subst hf0
        by_cases hk1 : kd = 1
        · subst hk1
          go_wp2_with (at_builtin; go_must (refine wpList_apM (Value.int .i64) _ elInt rfl rfl (one_int .i64) w.heap.size _ L rfl (Ho.out.alloc _) _ 1 1 [x] rfl (Rd.litAt (Value.int .i64) [x] _ rfl) (by simp; omega) (by have := Hlen.out; simp; omega) (by omega) ?_; intro v9 w9 ho9 hm9; have HF := Lib.hid (hm9.below (Hb.out.alloc hs2 _) (by simp; omega) (fun k hk => Ho.out.block k hk))))
          go_roundw
          case rel => exact ⟨j + 1, by omega, by go_num, by rw [Hs.out, if_pos ⟨rfl, rfl⟩]; exact ho9, HF.out⟩
          case measure => simp [intOf] <;> omega
        · have hk1' : (kd == 1) = false := by rw [beq_eq_false_iff_ne]; exact hk1
          have Hk := Lib.hid hk1
          clear hk1
          go_wp2
          go_roundw
          case rel => exact ⟨j + 1, by omega, by go_num, by rw [Hs.out, if_neg (fun g => Hk.out g.2), List.append_nil]; exact Ho.out, Hb.out⟩
          case measure => simp [intOf] <;> omega
      · have hf0' : (f == 0) = false := by rw [beq_eq_false_iff_ne]; exact hf0
        have Hf := Lib.hid hf0
        clear hf0
        go_wp2
        go_roundw
        case rel => exact ⟨j + 1, by omega, by go_num, by rw [Hs.out, if_neg (fun g => Hf.out g.1), List.append_nil]; exact Ho.out, Hb.out⟩
        case measure => simp [intOf] <;> omega
    · obtain rfl : j = n := by omega
      rw [List.take_of_length_le (by rw [Hl.out]; exact Nat.le_refl _), List.take_of_length_le (by rw [HE.out]; exact Nat.le_refl _)] at ho
      go_wp2
      go_ret
      exact ⟨_, rfl, ho, hbl⟩
end Go.Proofs.Ytlanmehbcpgoaaa
