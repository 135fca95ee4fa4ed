/-
  The walk of GuardRound: it returns true, at every argument.
-/
import Derived.Test.YtgngpcailjocoaaGuardLaws
import Derived.Test.YtgngpcailjocoaaOwnS
namespace Go.Proofs.Ytgngpcailjocoaa
open Go.RowKit
set_option linter.unusedVariables false

/-- Heard's two answers: an error and nothing, or the row. -/
theorem heard_cases (P : Int) (L T : List Slt) : (∃ x, x ≠ 0 ∧ checkG P L T = x ∧ heardR P L T = []) ∨ (checkG P L T = 0 ∧ heardR P L T = heardM P L T) := by
  by_cases hz : checkG P L T = 0
  · exact .inr ⟨hz, heardR_ok hz⟩
  · exact .inl ⟨_, hz, rfl, heardR_no hz⟩
/-- At += d, in an int. -/
def moved (d : Int) (t : Slt) : Slt := ⟨t.nd, IntKind.i64.wrap (t.fr + d), t.lg⟩
theorem moved_later {P : Int} {L T : List Slt} {r : Int} (h : checkG P L T = 0) (r0 : 0 ≤ r) (r1 : r ≤ 1000) : T.map (moved (IntKind.i64.wrap (P * r))) = T.map (later (P * r)) := by
  obtain ⟨hR, _, hT⟩ := checkG_zero.1 h
  obtain ⟨⟨p1, p2, _⟩, _⟩ := rightM_true.1 hR
  have m0 : 0 ≤ P * r := Int.mul_nonneg (by omega) r0
  have m1 : P * r ≤ 1048576 * 1000 := Int.mul_le_mul p2 r1 r0 (by omega)
  rw [IntWalk.i64_in (P * r) (by omega)]
  refine List.map_congr_left fun t ht => ?_
  have a0 := (hT t ht).a0
  have a1 := (hT t ht).a1
  unfold moved later
  rw [IntWalk.i64_in (t.fr + P * r) (by omega)]
theorem moved_step {T : List Slt} {k : Nat} {t : Slt} (d : Int) (h : T[k]? = some t) : ((T.take k).map (moved d) ++ T.drop k).set k (moved d t) = (T.take (k + 1)).map (moved d) ++ T.drop (k + 1) := set_take_drop h (moved d)

set_option maxHeartbeats 3200000 in
theorem GuardRound_walk (a0 : Int) (A1 : Option Addr) (n1 c1 : Nat) (l1 : List Slt) (A2 : Option Addr) (n2 c2 : Nat) (l2 : List Slt) (a3 : Int) (w : World) (w0 : (Lit.int .i64 a0).wf = true) (h1 : RdS w A1 n1 l1) (q1 : ∀ s ∈ l1, s.Ok) (k1 : n1 ≤ c1) (b1 : c1 * 24 ≤ 140737488351232)
    (h2 : RdS w A2 n2 l2) (q2 : ∀ s ∈ l2, s.Ok) (k2 : n2 ≤ c2) (b2 : c2 * 24 ≤ 140737488351232) (w3 : (Lit.int .i64 a3).wf = true) :
    Calls Try.prog 7 #[.int .i64 a0, .slice A1 n1 c1, .slice A2 n2 c2, .int .i64 a3] w fun e w' => e = .returned (.bool true) ∧ Below w.heap.size w w' := by
  have p0 := in64_wf w0
  have hn : n1 ≤ 140737488355328 := by omega
  have hm : n2 * 24 ≤ 140737488351232 := by omega
  clear w0 w3
  have C0 := Lib.hid (alive14_any w)
  by_cases hr : 0 ≤ a3 ∧ a3 ≤ 1000
  · obtain ⟨r0, r1⟩ := hr
    have C1 := Lib.hid (fun (W : World) (hb : Below w.heap.size w W) => CloneT_any A2 n2 c2 l2 W (h2.below hb) (by omega))
    have C2 := Lib.hid (fun (W : World) (hb : Below w.heap.size w W) => Heard_any a0 p0 A1 n1 c1 l1 A2 n2 c2 l2 W (h1.below hb) q1 hn (h2.below hb) (by omega))
    have C3 := Lib.hid (fun (W : World) (hb : Below w.heap.size w W) (A : Option Addr) (c : Nat) (T : List Slt) (h : RdS W A n2 T) => Heard_any a0 p0 A1 n1 c1 l1 A n2 c T W (h1.below hb) q1 hn h (by omega))
    have Hl := Lib.hid h2.lenS
    obtain ⟨D, hD⟩ : ∃ D, IntKind.i64.wrap (a0 * a3) = D := ⟨_, rfl⟩
    have HD : Hid (checkG a0 l1 l2 = 0 → heardM a0 l1 (l2.map (moved D)) = heardM a0 l1 l2) := fun h => by rw [← hD, moved_later h r0 r1, heard_later]
    go_enter Try.func7, Try.ntmps7
    go_wp2_with fail
    refine C0.out.mono ?_
    rintro e w1 ⟨rfl, hb1⟩
    go_wp2_with fail
    refine (C1.out w1 hb1).mono ?_
    rintro e w2 ⟨v2, rfl, ho2, hb2⟩
    obtain ⟨A9, c9, rfl, -, -, -⟩ := ho2.formN Hl.out
    have Ho2 := Lib.hid ho2
    clear ho2 C0 C1
    have hB2 := bthen hb1 hb2
    go_wp2
    go_loopw [27] (fun i wr => ∃ k : Nat, k ≤ n2 ∧ i = .int .i64 k ∧ OwS wr w1.heap.size 30 (.slice A9 n2 c9) ((l2.take k).map (moved D) ++ l2.drop k) ∧ Below w.heap.size w wr) (fun i _ => n2 - (intOf i).toNat)
    case atStart => exact ⟨0, Nat.zero_le _, rfl, by simpa using Ho2.out, hB2⟩
    case round =>
      obtain ⟨k, hk, rfl, ho, hbl⟩ := hrel
      clear Ho2
      by_cases hlt : k < n2
      · obtain ⟨t, ht⟩ : ∃ t, l2[k]? = some t := ⟨_, List.getElem?_eq_getElem (by rw [Hl.out]; exact hlt)⟩
        have Hset := Lib.hid (moved_step D ht)
        have hat : ((l2.take k).map (moved D) ++ l2.drop k)[k]? = some t := at_take_drop ht (moved D)
        have hll : ((l2.take k).map (moved D) ++ l2.drop k).length = n2 := by
          have := Hl.out
          simp; omega
        obtain ⟨p5, p6⟩ := (q2 t (List.mem_of_getElem? ht)).2.1
        clear ht
        obtain ⟨nd, fr, lg⟩ := t
        simp only at p5 p6
        obtain ⟨g, cg, eg, hbg, -, -⟩ := ho.head (by omega)
        rw [hll] at eg
        injection eg with eA en ec
        subst eA ec
        clear en hll
        have k5 := ho.cellAt hat (j := 1) rfl
        have k6 := ho.freeAt (k * 3 + 1)
        obtain ⟨X, hX⟩ : ∃ X, IntKind.i64.wrap (fr + D) = X := ⟨_, rfl⟩
        have HX : Hid (moved D ⟨nd, fr, lg⟩ = ⟨nd, X, lg⟩) := by show _ = _; rw [← hX]; rfl
        rw [HX.out] at Hset
        have Hput := Lib.hid (ho.putFr hat X)
        clear ho hat
        by_cases hbig : 1099511627776 < fr
        · go_wp2
          go_ret
          exact ⟨rfl, hbl⟩
        · go_wp2
          go_roundw
          case rel => exact ⟨k + 1, by omega, by go_num, by rw [← Hset.out]; exact Hput.out, hbl.setCell (p := ⟨g, k * 3 + 1, none⟩) (Nat.le_trans hb1.size hbg) _⟩
          case measure => simp [intOf] <;> omega
      · obtain rfl : k = n2 := by omega
        rw [List.take_of_length_le (by rw [Hl.out]; exact Nat.le_refl _), List.drop_eq_nil_of_le (by rw [Hl.out]; exact Nat.le_refl _), List.append_nil] at ho
        obtain ⟨A9', c9', e9, -, -, hr9⟩ := ho.formN (n := k) (by rw [List.length_map, Hl.out])
        injection e9 with eA en ec
        subst eA ec
        clear en ho
        rcases heard_cases a0 l1 l2 with ⟨x, hx, e1, e2⟩ | ⟨e1, e2⟩
        · rw [e1, e2] at C2
          have hxx : (x != 0) = true := by simpa using hx
          have C4 := Lib.hid (fun (W : World) (hb : Below w.heap.size w W) (h : RdS W A9 k (l2.map (moved D))) => C3.out W hb A9 c9 _ h)
          generalize checkG a0 l1 (l2.map (moved D)) = y at *
          generalize heardR a0 l1 (l2.map (moved D)) = Y at *
          clear e1 e2 C3 HD
          go_wp2_with fail
          refine (C2.out _ hbl).mono ?_
          rintro e w5 ⟨v5, rfl, ho5, hb5⟩
          obtain ⟨A5, c5, rfl, -, -, -⟩ := ho5.formN rfl
          have hB5 := bthen hbl hb5
          clear ho5
          go_wp2_with fail
          refine (C4.out _ hB5 (hr9.below hb5)).mono ?_
          rintro e w6 ⟨v6, rfl, ho6, hb6⟩
          obtain ⟨A6, c6, rfl, -, -, -⟩ := ho6.formN rfl
          have hB6 := bthen hB5 hb6
          clear ho6
          go_wp2
          go_ret
          exact ⟨rfl, hB6⟩
        · have HE := Lib.hid (HD.out e1)
          have Hlen : Hid ((heardM a0 l1 l2).length = k) := by show _ = _; rw [heard_len, Hl.out]
          rw [e1, e2] at C2
          clear e1 e2
          rcases heard_cases a0 l1 (l2.map (moved D)) with ⟨x, hx, e1, e2⟩ | ⟨e1, e2⟩
          · have hxx : (x != 0) = true := by simpa using hx
            have C4 := Lib.hid (fun (W : World) (hb : Below w.heap.size w W) (h : RdS W A9 k (l2.map (moved D))) => C3.out W hb A9 c9 _ h)
            rw [e1, e2] at C4
            clear e1 e2 C3 HD
            go_wp2_with fail
            refine (C2.out _ hbl).mono ?_
            rintro e w5 ⟨v5, rfl, ho5, hb5⟩
            obtain ⟨A5, c5, rfl, -, -, -⟩ := ho5.formN Hlen.out
            have hB5 := bthen hbl hb5
            clear ho5
            go_wp2_with fail
            refine (C4.out _ hB5 (hr9.below hb5)).mono ?_
            rintro e w6 ⟨v6, rfl, ho6, hb6⟩
            obtain ⟨A6, c6, rfl, -, -, -⟩ := ho6.formN rfl
            have hB6 := bthen hB5 hb6
            clear ho6
            go_wp2
            go_ret
            exact ⟨rfl, hB6⟩
          · have C4 := Lib.hid (fun (W : World) (hb : Below w.heap.size w W) (h : RdS W A9 k (l2.map (moved D))) => C3.out W hb A9 c9 _ h)
            rw [e1, e2, HE.out] at C4
            clear e1 e2 C3 HD HE
            generalize heardM a0 l1 l2 = Y at *
            go_wp2_with fail
            refine (C2.out _ hbl).mono ?_
            rintro e w5 ⟨v5, rfl, ho5, hb5⟩
            obtain ⟨A5, c5, rfl, -, -, hr5⟩ := ho5.formN Hlen.out
            have hB5 := bthen hbl hb5
            clear ho5
            go_wp2_with fail
            refine (C4.out _ hB5 (hr9.below hb5)).mono ?_
            rintro e w6 ⟨v6, rfl, ho6, hb6⟩
            obtain ⟨A6, c6, rfl, -, -, hr6⟩ := ho6.formN Hlen.out
            have hB6 := bthen hB5 hb6
            clear ho6
            go_wp2_with fail
            refine (EqualB_any_same A5 A6 k c5 k c6 Y _ (hr5.below hb6) hr6 (by omega)).mono ?_
            rintro e w7 ⟨rfl, hb7⟩
            go_wp2
            go_ret
            exact ⟨rfl, bthen hB6 hb7⟩
  · have hq : a3 < 0 ∨ (0 ≤ a3 ∧ 1000 < a3) := by omega
    clear hr
    rcases hq with g1 | ⟨g1, g2⟩
    all_goals
      go_enter Try.func7, Try.ntmps7
      go_wp2_with fail
      refine C0.out.mono ?_
      rintro e w1 ⟨rfl, hb1⟩
      go_wp2
      go_ret
      exact ⟨rfl, hb1⟩
end Go.Proofs.Ytgngpcailjocoaa
