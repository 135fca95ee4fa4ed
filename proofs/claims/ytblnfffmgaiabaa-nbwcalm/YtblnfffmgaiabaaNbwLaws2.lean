/-
  The laws NbwNew, NbwWriter.
-/
import Derived.Test.YtblnfffmgaiabaaNbwLaws
import Derived.Test.YtblnfffmgaiabaaSlicesI
namespace Go.Proofs.Ytblnfffmgaiabaa
open Go.RowKit
set_option linter.unusedVariables false

theorem head_int {w : World} {A : Option Addr} {n c k : Nat} {l : List Int} (h : Rd w 1 A n (l.map (Value.int .i64))) (hk : k ≤ n) (hc : n ≤ c) :
    (∀ W, (Instr.slice 22 (.slice A n c) none (some (.int .i64 (k : Int))) none).run Try.prog W = .ok (.slice A k c) W) ∧ Rd w 1 A k ((l.take k).map (Value.int .i64)) := by
  refine ⟨fun W => run_to elInt W A n c k (by omega), ?_⟩
  have := h.take (k := k) hk
  rwa [Nat.mul_one, ← List.map_take] at this
/-- What is read rises, and what comes behind a place is at least as new as what was whole there. -/
theorem rise_at {L : List GotQ} (h : L.Pairwise (fun a b => a.fi ≤ b.fi)) {j k : Nat} {a b : GotQ} (ha : L[j]? = some a) (hb : L[k]? = some b) (hjk : j < k) : a.fi ≤ b.fi := by
  obtain ⟨h1, e1⟩ := List.getElem?_eq_some_iff.1 ha
  obtain ⟨h2, e2⟩ := List.getElem?_eq_some_iff.1 hb
  have := List.pairwise_iff_getElem.1 h j k h1 h2 hjk
  rwa [e1, e2] at this
set_option maxRecDepth 100000 in
set_option maxHeartbeats 1600000 in
theorem NbwNew_walk (A0 : Option Addr) (n0 c0 : Nat) (l0 : List Int) (a1 : Int) (w : World) (h0 : Rd w 1 A0 n0 (l0.map (Value.int .i64))) (q0 : ∀ x ∈ l0, (Lit.int .i64 x).wf = true) (k0 : n0 ≤ c0) (b0 : c0 * 8 ≤ 140737488351232) (w1 : (Lit.int .i64 a1).wf = true) :
    Calls Try.prog 5 #[.slice A0 n0 c0, .int .i64 a1] w fun e w' => e = .returned (.bool true) ∧ Below w.heap.size w w' := by
  have C0 := Lib.hid (alive17_any w)
  have hcase : a1 < 0 ∨ (0 ≤ a1 ∧ (n0 : Int) < a1) ∨ ∃ k : Nat, a1 = k ∧ k ≤ n0 := by
    rcases Int.lt_or_le a1 0 with g | g
    · exact .inl g
    · rcases Int.lt_or_le (n0 : Int) a1 with g2 | g2
      · exact .inr (.inl ⟨g, g2⟩)
      · exact .inr (.inr ⟨a1.toNat, by omega, by omega⟩)
  rcases hcase with g | ⟨g, g2⟩ | ⟨k, rfl, hk⟩
  · go_enter Try.func5, Try.ntmps5
    go_wp2_with fail
    refine C0.out.mono ?_
    rintro e w1 ⟨rfl, hb1⟩
    go_wp2
    go_ret
    exact ⟨rfl, hb1⟩
  · go_enter Try.func5, Try.ntmps5
    go_wp2_with fail
    refine C0.out.mono ?_
    rintro e w1 ⟨rfl, hb1⟩
    go_wp2
    go_ret
    exact ⟨rfl, hb1⟩
  · have hn0 : n0 ≤ 17592186043904 := by omega
    have C1 := Lib.hid (fun (W : World) (hW : Rd W 1 A0 k ((l0.take k).map (Value.int .i64))) => Play_any A0 k c0 (l0.take k) W hW (by omega))
    have C2 := Lib.hid (fun (W : World) (hW : Rd W 1 A0 n0 (l0.map (Value.int .i64))) => Play_any A0 n0 c0 l0 W hW (by omega))
    have hcut := (head_int h0 hk k0).1
    have hnew := Lib.hid (fun h => new_facts (l := l0) (k := k) h)
    have hw := Lib.hid (whole_facts l0)
    have hr := Lib.hid (rise_facts l0)
    have hl1 := Lib.hid (playQL_len (l0.take k))
    have hl2 := Lib.hid (playQL_len l0)
    have ht := Lib.hid (fun (W : World) (hW : Rd W 1 A0 n0 (l0.map (Value.int .i64))) => (head_int hW hk k0).2)
    generalize playQL (l0.take k) = L1 at *
    generalize playQE (l0.take k) = E1 at *
    generalize playQN (l0.take k) = N1 at *
    generalize playQL l0 = L at *
    generalize playQE l0 = E at *
    generalize playQN l0 = N at *
    clear q0
    have hkn : (k : Int) ≤ n0 := by omega
    go_enter Try.func5, Try.ntmps5
    go_wp2_with fail
    refine C0.out.mono ?_
    rintro e w1 ⟨rfl, hb1⟩
    have h1 := Lib.hid (h0.below hb1)
    clear C0 h0
    go_wp2_with fail
    refine (C1.out _ (ht.out _ h1.out)).mono ?_
    rintro e w2 ⟨v2, rfl, ho2, hb2⟩
    have h2 := Lib.hid (h1.out.below hb2)
    have hB := bthen hb1 hb2
    have Ho2 := Lib.hid ho2
    clear ho2 C1 hb1 h1 ht hb2
    go_wp2_with fail
    refine (C2.out _ h2.out).mono ?_
    rintro e w3 ⟨v3, rfl, ho3, hb3⟩
    have ho2 := Ho2.out.below hb3
    have hB3 := bthen hB hb3
    obtain ⟨A2, m1, c2, hm1, rfl, r2, hmx⟩ := ownG_len ho2
    obtain ⟨A3, m, c3, hm, rfl, r3, hmx3⟩ := ownG_len ho3
    have hm1' : m1 ≤ 400 := by rw [← hm1]; exact hl1.out.1
    have hm' : m ≤ 400 := by rw [← hm]; exact hl2.out.1
    clear ho2 ho3 Ho2 C2 h2 r2 hcut hB hb3 hmx hmx3 hl1 hl2
    by_cases hE : E = 0
    · subst hE
      obtain ⟨hE1, o, ho, hnew'⟩ := hnew.out rfl
      subst hE1
      have hle : m1 ≤ m := by rw [← hm1, ← hm, ho, List.length_append]; omega
      have hle' : (m1 : Int) ≤ m := by omega
      have hle2 : ¬ m < m1 := by omega
      have hle3 : decide ((m : Int) < (m1 : Int)) = false := by simp; omega
      have hk0 : decide ((k : Int) < 0) = false := by simp
      have Hafter : Hid (∀ j g, m1 ≤ j → L[j]? = some g → N1 ≤ g.fi) := fun j g hj hg => by
        rw [ho, List.getElem?_append_right (by omega)] at hg
        exact hnew' g (List.mem_of_getElem? hg)
      clear hnew hnew' ho
      go_wp2
      go_loopw [11, 59] (fun la i wr => ∃ j x : Nat, j ≤ m ∧ i = .int .i64 j ∧ la = .int .i64 x ∧ Hid (∀ j' g, j ≤ j' → L[j']? = some g → x ≤ g.fi) ∧ Below w3.heap.size w3 wr) (fun _ i _ => m - (intOf i).toNat)
      case atStart => exact ⟨0, 0, Nat.zero_le _, rfl, rfl, fun _ _ _ _ => Nat.zero_le _, Below.refl _ _⟩
      case round =>
        obtain ⟨j, x, hj, rfl, rfl, hx, hbl⟩ := hrel
        by_cases hlt : j < m
        · obtain ⟨ad, g, rfl, hg, m0, m1', m2⟩ := got_at (r3.below hbl) hlt
          have e2 := (hw.out g (List.mem_of_getElem? hg)).2
          have e3 := hx.out j g (Nat.le_refl _) hg
          have Hx : Hid (∀ j' g', j + 1 ≤ j' → L[j']? = some g' → g.fi ≤ g'.fi) := fun j' g' hj' hg' => rise_at hr.out hg hg' (by omega)
          obtain ⟨xf, xs, xt⟩ := g
          simp only at m0 m1' m2 e2 e3 Hx
          have e2' : (xf : Int) ≤ N := by omega
          have e3' : (x : Int) ≤ xf := by omega
          have hb' := hbl.size
          clear hg hx
          go_wp2
          go_roundw
          case rel => exact ⟨j + 1, xf, by omega, by go_num, rfl, Hx.out, by repeat (first | (with_reducible exact Below.refl _ _) | (with_reducible assumption) | (with_reducible refine Below.setCell ?_ (by (try simp) <;> omega) _) | (with_reducible refine Below.alloc ?_ (by (try simp) <;> omega) _) | (with_reducible refine Below.drew ?_))⟩
          case measure => simp [intOf] <;> omega
        · obtain rfl : m = j := by omega
          have hB4 := bthen hB3 hbl
          clear hx
          by_cases hq : m < m1 + 2
          · have hq' : (m : Int) < (m1 : Int) + 2 := by omega
            go_wp2
            go_ret
            exact ⟨rfl, hB4⟩
          · have hq' : ¬ (m : Int) < (m1 : Int) + 2 := by omega
            obtain ⟨ad, g, rfl, hg, mm0, mm1, mm2⟩ := got_at (r3.below hbl) (k := m1 + 1) (by omega)
            have e4 := Hafter.out (m1 + 1) g (by omega) hg
            obtain ⟨xf, xs, xt⟩ := g
            simp only at mm0 mm1 mm2 e4
            have e4' : (N1 : Int) ≤ xf := by omega
            clear hg
            go_wp2
            go_ret
            exact ⟨rfl, hB4⟩
    · clear hnew hw hr r3
      by_cases hE1 : E1 = 0
      · subst hE1
        go_wp2
        go_ret
        exact ⟨ret_bool (by simp [hE]), hB3⟩
      · go_wp2
        go_ret
        exact ⟨rfl, hB3⟩
theorem isRead_any (x : Int) (w : World) : Calls Try.prog 16 #[.int .i64 x] w fun e w' => e = .returned (.bool (x == 2)) ∧ w' = w := by
  go_enter Try.func16, Try.ntmps16
  go_wp2
  go_ret
  exact ⟨rfl, rfl⟩
theorem enterRead : ∀ args w, (callFunc 16 args).run Try.prog w = .ok (.enter 16 args) w := enters_of Try.func16 (by kernel_rfl) rfl
theorem Own_any (base : Nat) (v : Value) (l : List Int) (w : World) (ho : Ow (Value.int .i64) w base 3 v l) (hn : l.length ≤ 4611686018427387904) :
    Calls Try.prog 14 #[v, .func (.func 16) #[] #[]] w fun e w' => ∃ v', e = .returned v' ∧ Ow (Value.int .i64) w' base 3 v' (ownQ l) ∧ Moves w w' v v' := by
  refine DeleteFunc_own 16 #[] enterRead (fun x => x == 2) base v l w ho (fun x _ W _ => ?_) hn
  refine (isRead_any x W).mono ?_
  rintro e w' ⟨rfl, rfl⟩
  exact ⟨rfl, 0, rfl⟩
set_option maxHeartbeats 1600000 in
theorem NbwWriter_walk (A0 : Option Addr) (n0 c0 : Nat) (l0 : List Int) (w : World) (h0 : Rd w 1 A0 n0 (l0.map (Value.int .i64))) (q0 : ∀ x ∈ l0, (Lit.int .i64 x).wf = true) (k0 : n0 ≤ c0) (b0 : c0 * 8 ≤ 140737488351232) :
    Calls Try.prog 7 #[.slice A0 n0 c0] w fun e w' => e = .returned (.bool true) ∧ Below w.heap.size w w' := by
  have hl := h0.lenMap
  have hlo : (ownQ l0).length ≤ l0.length := List.length_filter_le _ _
  have C0 := Lib.hid (alive17_any w)
  have C1 := Lib.hid (fun (W : World) (hW : Rd W 1 A0 n0 (l0.map (Value.int .i64))) => Play_any A0 n0 c0 l0 W hW (by omega))
  have C2 := Lib.hid (fun (W : World) (hW : Rd W 1 A0 n0 (l0.map (Value.int .i64))) => CloneI_any A0 n0 c0 l0 W hW (by omega))
  have C3 := Lib.hid (fun (base : Nat) (v : Value) (W : World) (hW : Ow (Value.int .i64) W base 3 v l0) => Own_any base v l0 W hW (by omega))
  have hno := Lib.hid (fun h => playQ_no (l := l0) h)
  have hown := Lib.hid (fun h => writer_facts (l := l0) h)
  have Hlo : Hid ((ownQ l0).length ≤ 17592186043904) := by show _ ≤ _; omega
  clear q0 hl hlo
  have C4 := Lib.hid (fun (A : Option Addr) (m c : Nat) (W : World) (hW : Rd W 1 A m ((ownQ l0).map (Value.int .i64))) (hm : m ≤ 140737488355328) => Play_any A m c (ownQ l0) W hW hm)
  have hl5 := Lib.hid (playQL_len (ownQ l0))
  generalize playQL (ownQ l0) = L1 at *
  generalize playQE (ownQ l0) = E1 at *
  generalize playQN (ownQ l0) = N1 at *
  have hnn := Lib.hid (playQL_len l0).2
  generalize playQL l0 = L at *
  generalize playQE l0 = E at *
  generalize playQN l0 = N at *
  generalize ownQ l0 = O at *
  go_enter Try.func7, Try.ntmps7
  go_wp2_with fail
  refine C0.out.mono ?_
  rintro e w1 ⟨rfl, hb1⟩
  have h1 := Lib.hid (h0.below hb1)
  clear C0 h0
  go_wp2_with fail
  refine (C1.out _ h1.out).mono ?_
  rintro e w2 ⟨v2, rfl, ho2, hb2⟩
  have h2 := Lib.hid (h1.out.below hb2)
  have hB := bthen hb1 hb2
  clear C1 hb1 h1 hb2 ho2
  go_wp2_with fail
  refine (C2.out _ h2.out).mono ?_
  rintro e w3 ⟨v3, rfl, ho3, hb3⟩
  have C3' := Lib.hid (C3.out _ _ _ ho3)
  have hbk := Lib.hid ho3.block
  have hB3 := bthen hB hb3
  have hz2 := hB.size
  clear ho3 hB C2 C3 h2
  go_wp2_with fail
  refine C3'.out.mono ?_
  rintro e w4 ⟨v4, rfl, ho4, hm4⟩
  have hB4 := hm4.below hB3 hB3.size (fun k hk => by have := hbk.out k hk; omega)
  obtain ⟨m, hm⟩ : ∃ m, O.length = m := ⟨_, rfl⟩
  obtain ⟨A4, c4, rfl, hc4, hc4', r4⟩ := ho4.formN hm
  have hmb : m ≤ 17592186043904 := by rw [← hm]; exact Hlo.out
  have C4' := Lib.hid (C4.out A4 m c4 w4 r4 (by omega))
  clear C4 C3' ho4 hm4 hB3 hbk r4 hc4 hc4' Hlo hb3
  go_wp2_with fail
  refine C4'.out.mono ?_
  rintro e w5 ⟨v5, rfl, ho5, hb5⟩
  have hB5 := bthen hB4 hb5
  obtain ⟨A5, m5, c5, hm5, rfl, r5, hmx5⟩ := ownG_len ho5
  clear C4' ho5 hb5 r5 hB4
  by_cases hE : E = 0
  · subst hE
    obtain ⟨rfl, rfl, hN, rfl⟩ := hown.out rfl
    obtain rfl : 0 = m5 := hm5
    have hN' : (N1 : Int) = (m : Int) / 4 := by omega
    clear hown hno hN hl5
    go_wp2
    go_ret
    exact ⟨ret_bool (by simp), hB5⟩
  · obtain ⟨rfl, rfl⟩ := hno.out hE
    clear hno hown
    go_wp2
    go_ret
    exact ⟨ret_bool (by simp), hB5⟩
end Go.Proofs.Ytblnfffmgaiabaa
