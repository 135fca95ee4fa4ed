/-
  Contracts of slots' functions Who, Next, Waits, for every input.
-/
import Derived.Test.YtpangandpabajaaSlotsWalks
import Derived.BigQuiet
namespace Go.Proofs.Ytpangandpabajaa
open Go.RowKit
set_option linter.unusedVariables false

theorem whoM_no {P t : Int} {L : List Slt} (h : checkM P L t ≠ 0) : whoM P L t = (0, checkM P L t) := by rw [whoM, if_neg h]
theorem whoM_yes {P t : Int} {L : List Slt} (h : checkM P L t = 0) : whoM P L t = whoR (t % P) L := by rw [whoM, if_pos h]
theorem whoR_some {a x : Int} {L : List Slt} (h : whoAt a L = some x) : whoR a L = (x, 0) := by rw [whoR, h]
theorem whoR_none {a : Int} {L : List Slt} (h : whoAt a L = none) : whoR a L = (0, 3) := by rw [whoR, h]
theorem rem_pos {t P : Int} (h : 0 ≤ t) : t.tmod P = t % P := Int.tmod_eq_emod_of_nonneg h

set_option maxHeartbeats 400000 in
theorem Who_any (P : Int) (hP : in64 P) (A : Option Addr) (n c : Nat) (L : List Slt) (t : Int) (ht : in64 t) (w : World) (h : RdS w A n L) (hL : ∀ s ∈ L, s.Ok) (hn : n ≤ 140737488355328) :
    Calls Try.prog 9 #[.int .i64 P, .slice A n c, .int .i64 t] w fun e w' => e = .returned (.tuple #[.int .i64 (whoM P L t).1, .int .i64 (whoM P L t).2]) ∧ Below w.heap.size w w' := by
  have Hl := Lib.hid h.lenS
  have Hc := Lib.hid (check_any P hP A n c L t ht w h hL hn)
  by_cases hz : checkM P L t = 0
  · obtain ⟨hR, t0, t1⟩ := checkM_zero hz
    rw [hz] at Hc
    rw [whoM_yes hz]
    obtain ⟨⟨hp1, hp2, hn4⟩, hr⟩ := rightM_true.1 hR
    have Hr := Lib.hid hr
    have Hlen := Lib.hid hn4
    have r0 := Int.emod_nonneg t (show P ≠ 0 by omega)
    have r1 := Int.emod_lt_of_pos t (show 0 < P by omega)
    have hrem := rem_pos (P := P) t0
    clear hR hr hn4 hz
    generalize t % P = r at r0 r1 hrem ⊢
    go_enter Try.func9, Try.ntmps9
    go_wp2_with fail
    refine Hc.out.mono ?_
    rintro e w1 ⟨rfl, hb⟩
    go_wp2
    go_loopw [24] (fun i wr => ∃ (k : Nat), k ≤ n ∧ i = .int .i64 k ∧ whoAt r L = whoAt r (L.drop k) ∧ Below w.heap.size w wr) (fun i _ => n - (intOf i).toNat)
    case atStart => exact ⟨0, Nat.zero_le _, rfl, rfl, hb⟩
    case round =>
      obtain ⟨k, hk, rfl, hacc, hbl⟩ := hrel
      have Hacc := Lib.hid hacc; clear hacc
      by_cases hlt : k < n
      · obtain ⟨ad, nd, fr, lg, rfl, hx, hc0, hc1, hc2⟩ := (h.below hbl).atS hlt
        have Hx := Lib.hid (drop_cell hx)
        obtain ⟨_, _, q3, q4, q5⟩ := right_mem Hr.out (List.mem_of_getElem? hx)
        simp only at q3 q4 q5
        clear hx
        by_cases h1 : fr ≤ r
        · by_cases h2 : r < fr + lg
          · have Hw : Hid (whoAt r L = some nd) := by show _ = _; rw [Hacc.out, Hx.out, whoAt, if_pos ⟨h1, h2⟩]
            go_wp2
            go_ret2
            exact ⟨by rw [whoR_some Hw.out]; rfl, hbl.alloc hbl.size _⟩
          · have Hw : Hid (whoAt r L = whoAt r (L.drop (k + 1))) := by show _ = _; rw [Hacc.out, Hx.out, whoAt, if_neg (by simp only; omega)]
            go_wp2
            go_roundw
            case rel => exact ⟨k + 1, by omega, by go_num, Hw.out, hbl.alloc hbl.size _⟩
            case measure => simp [intOf] <;> omega
        · have Hw : Hid (whoAt r L = whoAt r (L.drop (k + 1))) := by show _ = _; rw [Hacc.out, Hx.out, whoAt, if_neg (by simp only; omega)]
          go_wp2
          go_roundw
          case rel => exact ⟨k + 1, by omega, by go_num, Hw.out, hbl.alloc hbl.size _⟩
          case measure => simp [intOf] <;> omega
      · obtain rfl : k = n := by omega
        have Hw : Hid (whoAt r L = none) := by show _ = _; rw [Hacc.out, List.drop_eq_nil_of_le (by rw [Hl.out]; exact Nat.le_refl _)]; rfl
        go_wp2
        go_ret2
        exact ⟨by rw [whoR_none Hw.out]; rfl, hbl⟩
  · rw [whoM_no hz]
    generalize checkM P L t = x at Hc hz ⊢
    go_enter Try.func9, Try.ntmps9
    go_wp2_with fail
    refine Hc.out.mono ?_
    rintro e w1 ⟨rfl, hb⟩
    go_wp2
    go_ret2
    exact ⟨rfl, hb⟩

theorem nextM_no {P t : Int} {L : List Slt} (node : Int) (h : checkM P L t ≠ 0) : nextM P L node t = (0, checkM P L t) := by rw [nextM, if_neg h]
theorem nextM_none {P t node : Int} {L : List Slt} (h : checkM P L t = 0) (hs : startsM node L = []) : nextM P L node t = (0, 3) := by rw [nextM, if_pos h, if_pos hs]
theorem nextM_yes {P t node : Int} {L : List Slt} (h : checkM P L t = 0) (hs : startsM node L ≠ []) : nextM P L node t = (nextOf P (startsM node L) t, 0) := by rw [nextM, if_pos h, if_neg hs]
theorem nextOf_some {P t f : Int} {bs : List Int} (h : firstGe (t % P) bs = some f) : nextOf P bs t = t - t % P + f := by rw [nextOf, h]
theorem nextOf_none {P t : Int} {bs : List Int} (h : firstGe (t % P) bs = none) : nextOf P bs t = t - t % P + P + bs.headD 0 := by rw [nextOf, h]

set_option maxHeartbeats 800000 in
theorem Next_any (P : Int) (hP : in64 P) (A : Option Addr) (n c : Nat) (L : List Slt) (node t : Int) (ht : in64 t) (w : World) (h : RdS w A n L) (hL : ∀ s ∈ L, s.Ok) (hn : n ≤ 140737488355328) :
    Calls Try.prog 10 #[.int .i64 P, .slice A n c, .int .i64 node, .int .i64 t] w fun e w' => e = .returned (.tuple #[.int .i64 (nextM P L node t).1, .int .i64 (nextM P L node t).2]) ∧ Below w.heap.size w w' := by
  have Hl := Lib.hid h.lenS
  have Hc := Lib.hid (check_any P hP A n c L t ht w h hL hn)
  by_cases hz : checkM P L t = 0
  · obtain ⟨hR, t0, t1⟩ := checkM_zero hz
    rw [hz] at Hc
    obtain ⟨⟨hp1, hp2, hn4⟩, hr⟩ := rightM_true.1 hR
    have G := starts_good (node := node) hR
    have hn4' : n ≤ 400 := by have := Hl.out; omega
    have r0 := Int.emod_nonneg t (show P ≠ 0 by omega)
    have r1 := Int.emod_lt_of_pos t (show 0 < P by omega)
    have hrem := rem_pos (P := P) t0
    clear hR hr hn4
    have Hs := Lib.hid (fun (w1 : World) (hb : Below w.heap.size w w1) => starts_any A n c L node w1 (h.below hb) hn4')
    by_cases hne : startsM node L = []
    · rw [nextM_none hz hne]
      rw [hne] at Hs
      clear hz hne
      go_enter Try.func10, Try.ntmps10
      go_wp2_with fail
      refine Hc.out.mono ?_
      rintro e w1 ⟨rfl, hb⟩
      go_wp2_with fail
      refine (Hs.out w1 hb).mono ?_
      rintro e w2 ⟨v, rfl, ho, hb2⟩
      obtain ⟨A2, c2, rfl, _, _, hr2⟩ := ho.formN rfl
      go_wp2
      go_ret2
      exact ⟨rfl, bthen hb hb2⟩
    · rw [nextM_yes hz hne]
      clear hz
      have HN1 : Hid (∀ f, firstGe (t % P) (startsM node L) = some f → nextOf P (startsM node L) t = t - t % P + f) := fun f hf => nextOf_some hf
      have HN2 : Hid (firstGe (t % P) (startsM node L) = none → nextOf P (startsM node L) t = t - t % P + P + (startsM node L).headD 0) := fun hf => nextOf_none hf
      generalize t % P = r at r0 r1 hrem HN1 HN2
      have Hbl : Hid ((startsM node L).length ≤ 400) := by show _ ≤ _; have := starts_len node L; have := Hl.out; omega
      generalize startsM node L = bs at *
      have Hne := Lib.hid hne; clear hne
      go_enter Try.func10, Try.ntmps10
      go_wp2_with fail
      refine Hc.out.mono ?_
      rintro e w1 ⟨rfl, hb⟩
      go_wp2_with fail
      refine (Hs.out w1 hb).mono ?_
      rintro e w2 ⟨v, rfl, ho, hb2⟩
      obtain ⟨m, hm⟩ : ∃ m, bs.length = m := ⟨_, rfl⟩
      obtain ⟨A2, c2, rfl, _, _, hr2⟩ := ho.formN hm
      have hmp : 0 < m := by have := List.length_pos_iff.2 Hne.out; omega
      have hmn : m ≤ 400 := by have := Hbl.out; omega
      have Hm := Lib.hid hm; clear hm
      have hB := bthen hb hb2
      obtain ⟨ad, x0, rfl, hx0, hcx⟩ := hr2.atMap hmp
      have hq0 := G.lo x0 (List.mem_of_getElem? hx0)
      have hq1 := G.hi x0 (List.mem_of_getElem? hx0)
      have Hx0 : Hid (bs.headD 0 = x0) := by show _ = _; cases bs with | nil => cases hx0 | cons y r => simp at hx0; simp [hx0]
      clear hx0
      go_wp2
      go_loop [35] (fun i => ∃ (k : Nat), k ≤ m ∧ i = .int .i64 k ∧ firstGe r bs = firstGe r (bs.drop k)) (fun i => m - (intOf i).toNat)
      case atStart => exact ⟨0, Nat.zero_le _, rfl, rfl⟩
      case round =>
        obtain ⟨k, hk, rfl, hacc⟩ := hrel
        have Hacc := Lib.hid hacc; clear hacc
        by_cases hlt : k < m
        · obtain ⟨ad', f, e1, hx, hc⟩ := hr2.atMap hlt
          injection e1 with e1
          subst e1
          have q1 := G.lo f (List.mem_of_getElem? hx)
          have q2 := G.hi f (List.mem_of_getElem? hx)
          have Hx := Lib.hid (drop_cons hx)
          clear hx
          by_cases h1 : r ≤ f
          · have Hw : Hid (nextOf P bs t = t - r + f) := HN1.out f (by rw [Hacc.out, Hx.out, firstGe, if_pos h1])
            go_wp2
            go_ret2
            exact ⟨by rw [Hw.out]; rfl, hB⟩
          · have Hw : Hid (firstGe r bs = firstGe r (bs.drop (k + 1))) := by show _ = _; rw [Hacc.out, Hx.out, firstGe, if_neg h1]
            go_wp2
            go_round
            case rel => exact ⟨k + 1, by omega, by go_num, Hw.out⟩
            case measure => simp [intOf] <;> omega
        · obtain rfl : k = m := by omega
          have Hw : Hid (nextOf P bs t = t - r + P + x0) := by
            show _ = _
            rw [HN2.out (by rw [Hacc.out, List.drop_eq_nil_of_le (by rw [Hm.out]; exact Nat.le_refl _)]; rfl), Hx0.out]
          have hcx' : w2.cell? ad = some (.int .i64 x0) := by simpa [Addr.add] using hcx
          go_wp2
          go_ret2
          exact ⟨by rw [Hw.out]; rfl, hB⟩
  · rw [nextM_no node hz]
    generalize checkM P L t = x at Hc hz ⊢
    go_enter Try.func10, Try.ntmps10
    go_wp2_with fail
    refine Hc.out.mono ?_
    rintro e w1 ⟨rfl, hb⟩
    go_wp2
    go_ret2
    exact ⟨rfl, hb⟩

theorem waitsM_no {P : Int} {L : List Slt} (node : Int) (h : rightM P L = false) : waitsM P L node = (0, 1) := by rw [waitsM, h]; rfl
theorem waitsM_none {P node : Int} {L : List Slt} (h : rightM P L = true) (hs : startsM node L = []) : waitsM P L node = (0, 3) := by rw [waitsM, if_pos h, if_pos hs]
theorem waitsM_yes {P node : Int} {L : List Slt} (h : rightM P L = true) (hs : startsM node L ≠ []) : waitsM P L node = (waitsOf P (startsM node L), 0) := by rw [waitsM, if_pos h, if_neg hs]

set_option maxHeartbeats 800000 in
theorem Waits_any (P : Int) (hP : in64 P) (A : Option Addr) (n c : Nat) (L : List Slt) (node : Int) (w : World) (h : RdS w A n L) (hL : ∀ s ∈ L, s.Ok) (hn : n ≤ 140737488355328) :
    Calls Try.prog 16 #[.int .i64 P, .slice A n c, .int .i64 node] w fun e w' => e = .returned (.tuple #[.int .i64 (waitsM P L node).1, .int .i64 (waitsM P L node).2]) ∧ Below w.heap.size w w' := by
  have Hl := Lib.hid h.lenS
  have Hc := Lib.hid (Right_any P hP A n c L w h hL hn)
  cases hR : rightM P L
  · rw [hR] at Hc
    rw [waitsM_no node hR]
    clear hR
    go_enter Try.func16, Try.ntmps16
    go_wp2_with fail
    refine Hc.out.mono ?_
    rintro e w1 ⟨rfl, hb⟩
    go_wp2
    go_ret2
    exact ⟨rfl, hb⟩
  · rw [hR] at Hc
    obtain ⟨⟨hp1, hp2, hn4⟩, hr⟩ := rightM_true.1 hR
    have G := starts_good (node := node) hR
    have hn4' : n ≤ 400 := by have := Hl.out; omega
    clear hr hn4
    have Hs := Lib.hid (fun (w1 : World) (hb : Below w.heap.size w w1) => starts_any A n c L node w1 (h.below hb) hn4')
    by_cases hne : startsM node L = []
    · rw [waitsM_none hR hne]
      rw [hne] at Hs
      clear hR hne
      go_enter Try.func16, Try.ntmps16
      go_wp2_with fail
      refine Hc.out.mono ?_
      rintro e w1 ⟨rfl, hb⟩
      go_wp2_with fail
      refine (Hs.out w1 hb).mono ?_
      rintro e w2 ⟨v, rfl, ho, hb2⟩
      obtain ⟨A2, c2, rfl, _, _, hr2⟩ := ho.formN rfl
      go_wp2
      go_ret2
      exact ⟨rfl, bthen hb hb2⟩
    · rw [waitsM_yes hR hne]
      clear hR
      have Hbl : Hid ((startsM node L).length ≤ 400) := by show _ ≤ _; have := starts_len node L; have := Hl.out; omega
      have Hw0 : Hid (waitsOf P (startsM node L) = gapsM 0 ((startsM node L).getLastD 0 - P) (startsM node L)) := by show _ = _; rfl
      generalize startsM node L = bs at *
      have Hne := Lib.hid hne; clear hne
      go_enter Try.func16, Try.ntmps16
      go_wp2_with fail
      refine Hc.out.mono ?_
      rintro e w1 ⟨rfl, hb⟩
      go_wp2_with fail
      refine (Hs.out w1 hb).mono ?_
      rintro e w2 ⟨v, rfl, ho, hb2⟩
      obtain ⟨m, hm⟩ : ∃ m, bs.length = m + 1 := ⟨bs.length - 1, by have := List.length_pos_iff.2 Hne.out; omega⟩
      obtain ⟨A2, c2, rfl, _, _, hr2⟩ := ho.formN hm
      have hmn : m + 1 ≤ 400 := by have := Hbl.out; omega
      have Hm := Lib.hid hm; clear hm
      have hB := bthen hb hb2
      obtain ⟨ad, x0, rfl, hx0, hcx⟩ := hr2.atMap (show m < m + 1 by omega)
      have hq0 := G.lo x0 (List.mem_of_getElem? hx0)
      have hq1 := G.hi x0 (List.mem_of_getElem? hx0)
      have Hx0 : Hid (bs.getLastD 0 = x0) := by
        show _ = _
        rw [List.getLastD_eq_getLast?, List.getLast?_eq_getElem?, Hm.out]
        simp [hx0]
      clear hx0
      go_wp2
      go_quiet (fail)
      have hr3 := hr2.drewN nq
      have hB3 := bthen hB (below_draws ⟨nq, rfl⟩)
      go_wp2
      go_loop [9, 10, 33] (fun v u i => ∃ (k : Nat) (mx last : Int), k ≤ m + 1 ∧ i = .int .i64 k ∧ v = .int .i64 mx ∧ u = .int .i64 last ∧ 0 ≤ mx ∧ mx ≤ 2 * P ∧ -P ≤ last ∧ last < P ∧ waitsOf P bs = gapsM mx last (bs.drop k)) (fun _ _ i => m + 1 - (intOf i).toNat)
      case atStart => exact ⟨0, 0, x0 - P, Nat.zero_le _, rfl, rfl, rfl, Int.le_refl _, by omega, by omega, by omega, by rw [Hw0.out, Hx0.out]; rfl⟩
      case round =>
        obtain ⟨k, mx, last, hk, rfl, rfl, rfl, m0, m1, l0, l1, hacc⟩ := hrel
        have Hacc := Lib.hid hacc; clear hacc
        by_cases hlt : k < m + 1
        · obtain ⟨ad', f, e1, hx, hc⟩ := hr3.atMap hlt
          injection e1 with e1
          subst e1
          have q1 := G.lo f (List.mem_of_getElem? hx)
          have q2 := G.hi f (List.mem_of_getElem? hx)
          have Hx := Lib.hid (drop_cons hx)
          clear hx
          have Hw : Hid (waitsOf P bs = gapsM (max mx (f - last - 1)) f (bs.drop (k + 1))) := by show _ = _; rw [Hacc.out, Hx.out, gapsM]
          go_wp2
          go_round
          case rel => exact ⟨k + 1, max mx (f - last - 1), f, by omega, by go_num, by go_num, rfl, by omega, by omega, by omega, by omega, Hw.out⟩
          case measure => simp [intOf] <;> omega
        · obtain rfl : k = m + 1 := by omega
          have Hw : Hid (waitsOf P bs = mx) := by
            show _ = _
            rw [Hacc.out, List.drop_eq_nil_of_le (by rw [Hm.out]; exact Nat.le_refl _)]; rfl
          go_wp2
          go_ret2
          exact ⟨by rw [Hw.out]; rfl, hB3⟩
end Go.Proofs.Ytpangandpabajaa
