/-
  The walk of CobsParts.
-/
import Derived.Test.YtmehdlnhllafaaaCobsLaws
import Derived.Test.YtmehdlnhllafaaaConcat
namespace Go.Proofs.Ytmehdlnhllafaaa
open Go.RowKit
set_option linter.unusedVariables false
set_option linter.unusedSimpArgs false

/-- What a row of the argument holds. -/
def rowL (p : Option Addr × Nat × Nat × List Int) : List Int := p.2.2.2
theorem stream_len (L : List (List Int)) : (streamM L).length ≤ 2 * (L.map fun l => l.length + 1).sum := by
  induction L with
  | nil => simp [streamM]
  | cons b L ih =>
    have := pack_grows b
    simp only [streamM, List.flatMap_cons, List.length_append, List.length_singleton, List.map_cons, List.sum_cons] at ih ⊢
    omega
theorem stream_snoc (L : List (List Int)) (b : List Int) : streamM (L ++ [b]) = streamM L ++ packC b ++ [0] := by simp [streamM]
theorem stream_bytes {L : List (List Int)} (h : ∀ b ∈ L, Byte8 b) : Byte8 (streamM L) := by
  intro x hx
  simp only [streamM, List.mem_flatMap, List.mem_append, List.mem_singleton] at hx
  obtain ⟨b, hb, hx | hx⟩ := hx
  · exact (pack_bytes (h b hb)).1 x hx
  · omega
theorem sum_take (L : List (List Int)) (k : Nat) : ((L.take k).map fun l => l.length + 1).sum ≤ (L.map fun l => l.length + 1).sum := by
  conv => rhs; rw [← List.take_append_drop k L, List.map_append, List.sum_append]
  omega

set_option maxHeartbeats 2000000 in
theorem CobsParts_walk (A0 : Option Addr) (n0 c0 : Nat) (L0 : List (Option Addr × Nat × Nat × List Int)) (A1 : Option Addr) (n1 c1 : Nat) (l1 : List Int) (w : World)
    (h0 : Rd w 1 A0 n0 (L0.map ConcatY_any_val)) (r0 : ∀ p ∈ L0, Rd w 1 p.1 p.2.1 (p.2.2.2.map (Value.int .u8)) ∧ p.2.1 ≤ p.2.2.1 ∧ p.2.2.1 ≤ 1048576 ∧ ∀ x ∈ p.2.2.2, (Lit.int .u8 x).wf = true) (k0 : n0 ≤ c0) (b0 : c0 ≤ 1048576) (s0 : (L0.map fun p => p.2.2.2.length + 1).sum ≤ 1048576)
    (h1 : Rd w 1 A1 n1 (l1.map (Value.int .u8))) (v1 : ∀ x ∈ l1, (Lit.int .u8 x).wf = true) (k1 : n1 ≤ c1) (b1 : c1 ≤ 1048576) :
    Calls Try.prog 6 #[.slice A0 n0 c0, .slice A1 n1 c1] w fun e w' => e = .returned (.bool true) ∧ Below w.heap.size w w' := by
  have q1 : Byte8 l1 := fun x hx => by have := wf_u8 (v1 x hx); omega
  have Hl0 := Lib.hid h0.lenMap
  have Hl1 := Lib.hid h1.lenMap
  have Hq0 : Hid (∀ p ∈ L0, Byte8 p.2.2.2) := fun p hp x hx => by have := wf_u8 ((r0 p hp).2.2.2 x hx); omega
  have Hr0 := Lib.hid r0
  obtain ⟨rows, hrows⟩ : ∃ rows, rows = L0.map rowL := ⟨_, rfl⟩
  have Hs0 : Hid ((rows.map fun l => l.length + 1).sum ≤ 1048576) := by show _ ≤ _; rw [hrows, List.map_map]; exact s0
  have Hrb : Hid (∀ b ∈ rows, Byte8 b) := fun b hb => by
    rw [hrows, List.mem_map] at hb
    obtain ⟨p, hp, rfl⟩ := hb
    exact Hq0.out p hp
  have Hrl : Hid (rows.length = n0) := by show _ = _; rw [hrows, List.length_map, Hl0.out]
  have Hat : Hid (∀ (j : Nat) p, L0[j]? = some p → rows[j]? = some p.2.2.2) := fun j p hp => by rw [hrows, List.getElem?_map, hp]; rfl
  clear v1 r0 s0 hrows
  go_enter Try.func6, Try.ntmps6
  go_wp2_with fail
  refine (alive8_any _).mono ?_
  rintro e w1 ⟨rfl, hb1⟩
  go_wp2
  go_loopw [5, 17] (fun v i wr => ∃ (j : Nat) (acc : List Int), j ≤ n0 ∧ i = .int .i64 j ∧ Hid (acc = streamM (rows.take j)) ∧ Ow (Value.int .u8) wr w.heap.size 5 v acc ∧ Below w.heap.size w wr) (fun _ i _ => n0 - (intOf i).toNat)
  case atStart => exact ⟨0, [], Nat.zero_le _, rfl, by show _ = _; simp [streamM], Ow.nil _ _ _ _, hb1⟩
  case round =>
    obtain ⟨j, acc, hj, rfl, Hacc, ho, hbl⟩ := hrel
    have hsz := hbl.size
    have haccl : acc.length ≤ 2097152 := by
      have e1 := stream_len (rows.take j)
      have e2 := sum_take rows j
      have e3 := Hs0.out
      rw [Hacc.out]
      omega
    by_cases hlt : j < n0
    · obtain ⟨ad, p, rfl, hp, hcp⟩ := (h0.below hbl).atMap hlt
      have hpm := List.mem_of_getElem? hp
      obtain ⟨hpr, hpc, hpb, _⟩ := Hr0.out p hpm
      have hpq := Hq0.out p hpm
      have hrj := Hat.out j p hp
      obtain ⟨Ap, np, cp, lp⟩ := p
      simp only at hpr hpc hpb hpq hrj
      have hcp' : wr.cell? (ad.add j) = some (.slice Ap np cp) := hcp
      have hP := Pack_any Ap np cp lp wr (hpr.below hbl) hpq hpc (by omega) (by omega)
      have hlp := hpr.lenMap
      have hgr := pack_grows lp
      have Hacc2 : Hid (acc ++ packC lp ++ [0] = streamM (rows.take (j + 1))) := by show _ = _; rw [take_snoc hrj, stream_snoc, Hacc.out]
      rw [hlp] at hgr
      obtain ⟨xn, hxn⟩ : ∃ xn, (packC lp).length = xn := ⟨_, rfl⟩
      rw [hxn] at hgr
      generalize packC lp = X at *
      have Hxn := Lib.hid hxn
      have hxl : xn ≤ 3000000 := by omega
      clear hcp hp hpm hrj hlp hgr hxn hpr
      go_wp2_with (first
        | (go_at_call 12; refine hP.mono ?_; rintro e w2 ⟨v2, rfl, ho2, hb2⟩; obtain ⟨Ax, cx, rfl, _, _, rx⟩ := ho2.formN Hxn.out; have hbl2 := bthen hbl hb2)
        | (at_builtin; refine wpList_apW (Value.int .u8) _ elByte rfl rfl (one_int .u8) w.heap.size _ (acc ++ X) rfl (ho3.alloc _) _ 1 1 [0] rfl (Rd.oneM (Value.int .u8) _ _ _) (le_alloc hb3.size) (by have := Hxn.out; simp; omega) (by decide) ?_; intro v4 w4 ho4 hm4)
        | (at_builtin; refine wpList_apW (Value.int .u8) _ elByte rfl rfl (one_int .u8) w.heap.size _ acc rfl (ho.below hb2) Ax xn cx X rfl rx hbl2.size (by omega) (by decide) ?_; intro v3 w3 ho3 hm3; have hb3 : Below w.heap.size w w3 := hm3.below hbl2 hbl2.size ho.block))
      go_roundw
      case rel => exact ⟨j + 1, _, by omega, by go_num, Hacc2, ho4, hm4.below (hb3.alloc hb3.size _) (le_alloc hb3.size) ho3.block⟩
      case measure => simp [intOf] <;> omega
    · obtain rfl : j = n0 := by omega
      have hacc : acc = streamM rows := by rw [Hacc.out, List.take_of_length_le (by rw [Hrl.out]; exact Nat.le_refl _)]
      have hpar := parts_stream rows Hrb.out
      have hab : Byte8 acc := by rw [hacc]; exact stream_bytes Hrb.out
      rw [← hacc] at hpar
      have Hpar := Lib.hid hpar
      obtain ⟨an, han⟩ : ∃ an, acc.length = an := ⟨_, rfl⟩
      obtain ⟨Aa, ca, rfl, hca, hcma, ra⟩ := ho.formN han
      rw [han] at haccl
      have Han := Lib.hid han
      clear hacc hpar Hacc ho han
      go_wp2_with fail
      refine (Parts_any Aa an ca acc wr ra hab hca (le63 hcma) (by omega)).mono ?_
      rw [Hpar.out]
      rintro e w4 ⟨k, AP, AQ, cP, cQ, qs, hk, rfl, hP, hQ, hparts, hb4⟩
      obtain rfl : k = j := by rw [hk, List.length_map, Hrl.out]
      replace hbl := bthen hbl hb4
      replace ra := ra.below hb4
      have hC := Contains_any AQ k cQ _ false w4 hQ (by omega)
      have hnm : ¬ (false ∈ (rows.map fun b => ((b, 0) : List Int × Int)).map okB) := by
        simp [okB]
      rw [decide_eq_false hnm] at hC
      have Hpt : Hid (∀ (i : Nat) p b, qs[i]? = some p → rows[i]? = some b → Rd w4 1 p.1 p.2.1 (b.map (Value.int .u8))) := fun i p b h1 h2 =>
        (hparts i p (b, 0) h1 (by rw [List.getElem?_map, h2]; rfl)).1
      clear hparts hk hb4 hQ hnm
      go_wp2_with (go_at_call 17; refine hC.mono ?_; rintro e w5 ⟨rfl, rfl⟩)
      go_loopw [44] (fun i wx => ∃ m : Nat, m ≤ k ∧ i = .int .i64 m ∧ Below w4.heap.size w4 wx) (fun i _ => k - (intOf i).toNat)
      case atStart => exact ⟨0, Nat.zero_le _, rfl, Below.refl _ _⟩
      case round =>
        obtain ⟨m, hm, rfl, hbx⟩ := hrel
        by_cases hmk : m < k
        · obtain ⟨ad1, p, rfl, hp, hcp⟩ := (hP.below hbx).atMap hmk
          obtain ⟨ad0, q, rfl, hq, hcq⟩ := (h0.below (bthen hbl hbx)).atMap hmk
          have hrm := Hat.out m q hq
          have hpr := (Hpt.out m p _ hp hrm).below hbx
          have hqm := List.mem_of_getElem? hq
          have hqr := (Hr0.out q hqm).1.below (bthen hbl hbx)
          have hqb := Hq0.out q hqm
          obtain ⟨Ap, np, cp⟩ := p
          obtain ⟨Aq, nq', cq, lq⟩ := q
          simp only at hpr hqr hqb
          have hcp' : wr.cell? (ad1.add m) = some (.slice Ap np cp) := hcp
          have hcq' : wr.cell? (ad0.add m) = some (.slice Aq nq' cq) := hcq
          have hE : ∀ q, Calls Try.prog 15 #[.slice Ap np cp, .slice Aq nq' cq] (wr.drewN q) fun e w' => e = .returned (.bool true) ∧ w' = wr.drewN q := fun q => (EqualY_same Ap Aq np cp nq' cq lq _ (hpr.drewN q) (hqr.drewN q) hqb).mono fun e w' hh => ⟨hh.1, hh.2.symm⟩
          clear hcp hcq hp hq hrm hqm
          go_wp2_with fail
          go_quiet (first | (go_at_call 15; refine Calls.quiet_of_same (hE _)))
          go_wp2
          go_roundw
          case rel => exact ⟨m + 1, by omega, by go_num, bthen hbx (below_draws ⟨_, rfl⟩)⟩
          case measure => simp [intOf] <;> omega
        · obtain rfl : m = k := by omega
          have hY : (acc ++ l1).length = an + n1 := by rw [List.length_append, Han.out, Hl1.out]
          have hYb : Byte8 (acc ++ l1) := fun y hy => (List.mem_append.1 hy).elim (hab y) (q1 y)
          have hct : m ≤ (partsM (acc ++ l1)).length := by
            have e1 : (partsM acc).length = m := by rw [Hpar.out, List.length_map, Hrl.out]
            rw [parts_len] at e1 ⊢
            rw [List.count_append]
            omega
          replace hbl := bthen hbl hbx
          replace ra := ra.below hbx
          replace h1 := h1.below hbl
          clear hbx hP h0 hC
          go_wp2_with fail
          refine (ConcatY_any _ 2 2 [(Aa, an, ca, acc), (A1, n1, c1, l1)] _ (Rd.litAt ConcatY_any_val _ _ rfl) ?_ (by decide) (by simp [Han.out, Hl1.out]; omega)).mono ?_
          · intro p hp
            simp only [List.mem_cons, List.not_mem_nil, or_false] at hp
            rcases hp with rfl | rfl
            · exact ra.alloc _
            · exact h1.alloc _
          rintro e w6 ⟨v6, rfl, ho6, hb6⟩
          have hfl : List.flatMap (fun x : Option Addr × Nat × Nat × List Int => x.2.2.2) [(Aa, an, ca, acc), (A1, n1, c1, l1)] = acc ++ l1 := by simp
          rw [hfl] at ho6
          replace hbl := bthen hbl (below_new hb6)
          obtain ⟨Ay, cy, rfl, hcy, hcmy, hy⟩ := ho6.formN hY
          generalize acc ++ l1 = Y at *
          clear ho6 hb6 hfl hY ra h1
          go_wp2_with fail
          refine (Parts_any Ay (an + n1) cy Y _ hy hYb hcy (le63 hcmy) (by omega)).mono ?_
          rintro e w7 ⟨k2, AP2, AQ2, cP2, cQ2, qs2, hk2, rfl, _, _, _, hb7⟩
          rw [← hk2] at hct
          clear hk2
          have hge : decide ((m : Int) ≤ (k2 : Int)) = true := by simp; omega
          go_wp2
          go_ret
          exact ⟨rfl, bthen hbl hb7⟩
end Go.Proofs.Ytmehdlnhllafaaa
