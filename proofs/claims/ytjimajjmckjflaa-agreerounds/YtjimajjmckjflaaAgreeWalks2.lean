/-
  Contracts of package agree: next, Rounds, Round.
-/
import Derived.Test.YtjimajjmckjflaaAgreeWalks
import Derived.Test.YtjimajjmckjflaaFtaWalks
import Derived.Test.YtjimajjmckjflaaConcatI
import Derived.Test.YtjimajjmckjflaaZeros
import Derived.Test.YtjimajjmckjflaaRoom
namespace Go.Proofs.Ytjimajjmckjflaa
open Go.RowKit
set_option linter.unusedVariables false

theorem fill_next {n j : Nat} (h : j < n) {r : List Int} (hr : r.length = j) (x : Int) : (r ++ List.replicate (n - j) (0 : Int)).set j x = (r ++ [x]) ++ List.replicate (n - (j + 1)) 0 := by
  rw [List.set_append_right _ _ (by omega), hr, Nat.sub_self, show n - j = (n - (j + 1)) + 1 by omega, List.replicate_succ, List.set_cons_zero, List.append_assoc]
  rfl
theorem lists_at {L : List (Option Addr × Nat × Nat × List Int)} {j : Nat} {p : Option Addr × Nat × Nat × List Int} (h : L[j]? = some p) : (lists L)[j]? = some p.2.2.2 := by
  rw [lists, List.getElem?_map, h]; rfl

set_option maxHeartbeats 1600000 in
theorem next_any (A : Option Addr) (n c : Nat) (s : List Int) (q : Nat) (B : Option Addr) (m d : Nat) (L : List (Option Addr × Nat × Nat × List Int)) (w : World) (h : Rd w 1 A n (s.map (Value.int .i64))) (hc : n ≤ c)
    (hB : Rd w 1 B m (L.map rowV)) (hL : RdRows w L) (hA : Agrees s q (lists L)) :
    Calls Try.prog 22 #[.slice A n c, .int .i64 q, .slice B m d] w fun e w' => ∃ v, e = .returned v ∧ Ow (Value.int .i64) w' w.heap.size 3 v (roundM s q (lists L)) ∧ Below w.heap.size w w' := by
  have hl := h.lenMap
  have hlm : (lists L).length = m := by rw [lists, List.length_map, hB.lenMap]
  obtain rfl : m = n := by rw [← hlm, hA.each, hl]
  have hf := hA.few
  have hmo := hA.most
  rw [hl] at hf hmo
  obtain ⟨hs, hr⟩ := ahead_int (k := m - q) h (by omega) hc
  rw [show ((m - q : Nat) : Int) = (m : Int) - q by omega] at hs
  have eg : s.take (m - q) = goodL s q := by rw [goodL, hl]
  rw [eg] at hr
  have Hgl : Hid ((goodL s q).length = m - q) := by show _ = _; rw [hA.good_len, hl]
  have hmk := run_mk elInt rfl .i64 .i64 m m (Nat.le_refl _) (by omega) (by omega)
  have Ho0 := Lib.hid (Ow.make (Value.int .i64) 0 w 3 (base := w.heap.size) m (by unfold maxLen; omega) (Nat.le_refl _))
  have HA := Lib.hid hA
  have HL := Lib.hid hL
  have Hlm := Lib.hid hlm
  clear hl hlm hA hL h eg
  go_enter Try.func22, Try.ntmps22
  go_wp2
  go_loopw [22] (fun i wr => ∃ j : Nat, j ≤ m ∧ i = .int .i64 j ∧ Ow (Value.int .i64) wr w.heap.size 3 (.slice (some ⟨w.heap.size, 0, none⟩) m m) (((roundM s q (lists L)).take j) ++ List.replicate (m - j) 0) ∧ Below w.heap.size w wr) (fun i _ => m - (intOf i).toNat)
  case atStart => exact ⟨0, Nat.zero_le _, rfl, by simpa using Ho0.out, (Below.refl _ _).alloc (Nat.le_refl _) _⟩
  case round =>
    obtain ⟨j, hj, rfl, ho, hbl⟩ := hrel
    clear Ho0 hmk hs
    by_cases hlt : j < m
    · obtain ⟨ad, ⟨Ar, nr, cr, r⟩, rfl, hp, hcp⟩ := (hB.below hbl).atMap hlt
      change wr.cell? (ad.add j) = some (.slice Ar nr cr) at hcp
      obtain ⟨hrr, hnr, hcr⟩ := HL.out _ (List.mem_of_getElem? hp)
      simp only at hrr hnr hcr
      have hmem : r ∈ lists L := List.mem_of_getElem? (lists_at hp)
      have hrl := (HA.out.rows r hmem).1
      obtain rfl : nr = q := by rw [← hrl, hrr.lenMap]
      have Hnx : Hid ((roundM s nr (lists L))[j]? = some (midV (goodL s nr ++ r) nr)) := by
        show _ = _
        rw [roundM, List.getElem?_map, lists_at hp]
        rfl
      have hw0 : wrongL (goodL s nr ++ r) (nr : Int) = 0 := wrongL_ok.2 (HA.out.fine hmem)
      have Hlen : Hid ((goodL s nr ++ r).length = m - nr + nr) := by show _ = _; rw [List.length_append, Hgl.out, hrl]
      have HM := Lib.hid (fun (W : World) (X : Option Addr) (cx : Nat) (g : Rd W 1 X (m - nr + nr) ((goodL s nr ++ r).map (Value.int .i64))) => Mid_any X (m - nr + nr) cx (goodL s nr ++ r) nr W g (by omega))
      rw [midR_ok hw0, hw0, show ((nr : Int)).toNat = nr by omega] at HM
      have Hset : Hid (((roundM s nr (lists L)).take j ++ List.replicate (m - j) (0 : Int)).set j (midV (goodL s nr ++ r) nr) = (roundM s nr (lists L)).take (j + 1) ++ List.replicate (m - (j + 1)) 0) := by
        show _ = _
        rw [fill_next hlt (by rw [List.length_take, round_len, Hlm.out]; omega), take_snoc Hnx.out]
      have hg2 := hr.below hbl
      have hr2 := hrr.below hbl
      clear hp hmem hrl hrr hw0 Hnx
      generalize midV (goodL s nr ++ r) nr = x at *
      go_wp2_with fail
      refine (ConcatI_any _ 2 2 [(A, m - nr, c, goodL s nr), (Ar, nr, cr, r)] _ (Rd.litAt ConcatI_any_val _ _ rfl) ?_ (by decide) (by rw [two_parts, Hlen.out]; omega) (by rw [two_parts, Hlen.out]; omega)).mono ?_
      · intro p hp
        simp only [List.mem_cons, List.not_mem_nil, or_false] at hp
        rcases hp with rfl | rfl
        · exact hg2.alloc _
        · exact hr2.alloc _
      rintro e w2 ⟨v2, rfl, ho2, hb2⟩
      rw [two_parts] at ho2
      obtain ⟨Ax, cx, rfl, _, _, hx⟩ := ho2.formN Hlen.out
      replace hb2 := below_new hb2
      replace ho := ho.below hb2
      have hB2 := bthen hbl hb2
      clear ho2 hb2 hg2 hr2 hcp
      go_wp2_with fail
      refine (HM.out _ _ _ hx).mono ?_
      rintro e w3 ⟨rfl, hb3⟩
      replace ho := ho.below hb3
      have hB3 := bthen hB2 hb3
      clear hb3 hB2 hx HM
      have hfr := ho.freeAt j
      have Hput := Lib.hid (ho.put j x)
      obtain ⟨z, hz⟩ : ∃ z, ((roundM s nr (lists L)).take j ++ List.replicate (m - j) (0 : Int))[j]? = some z := ⟨_, List.getElem?_eq_getElem (by simp [round_len, Hlm.out]; omega)⟩
      have hcz := ho.cellAt hz
      clear hz ho
      go_wp2
      go_roundw
      case rel => exact ⟨j + 1, by omega, by go_num, by rw [← Hset.out]; exact Hput.out, hB3.setCell (p := ⟨w.heap.size, j, none⟩) (Nat.le_refl _) _⟩
      case measure => simp [intOf] <;> omega
    · obtain rfl : j = m := by omega
      rw [List.take_of_length_le (by rw [round_len, Hlm.out]; exact Nat.le_refl _), Nat.sub_self, List.replicate_zero, List.append_nil] at ho
      go_wp2
      go_ret
      exact ⟨_, rfl, ho, hbl⟩

/-- What Rounds and Round return: the values and the error. -/
def GivesInts (l : List Int) (err : Int) (w : World) (e : Ending) (w' : World) : Prop :=
  ∃ v, e = .returned (.tuple #[v, .int .i64 err]) ∧ Ow (Value.int .i64) w' w.heap.size 3 v l ∧ Below w.heap.size w w'

set_option maxHeartbeats 1600000 in
theorem Rounds_any (A : Option Addr) (n c : Nat) (s : List Int) (k : Int) (B : Option Addr) (m d : Nat) (L : List (Option Addr × Nat × Nat × List Int)) (many : Int) (w : World) (h : Rd w 1 A n (s.map (Value.int .i64))) (hc : n ≤ c) (hn : n ≤ 4611686018427387904)
    (hB : Rd w 1 B m (L.map rowV)) (hL : RdRows w L) (hm : m ≤ 4611686018427387904) :
    Calls Try.prog 9 #[.slice A n c, .int .i64 k, .slice B m d, .int .i64 many] w (GivesInts (roundsR s k (lists L) many) (roundsE s k (lists L) many) w) := by
  have C1 := Lib.hid (AgreeWrong_any A n c s k B m d L w h hn hB hL hm)
  by_cases hw : wrongA s k (lists L) = 0
  · rw [hw] at C1
    by_cases h1 : many < 0
    · have e := roundsE_many (m := many) hw (.inl h1)
      rw [roundsR_no (by rw [e]; decide), e]
      clear hw e
      go_enter Try.func9, Try.ntmps9
      go_wp2_with fail
      refine C1.out.mono ?_
      rintro e w1 ⟨rfl, rfl⟩
      go_wp2
      go_ret2
      exact ⟨_, rfl, Ow.nil _ _ _ _, Below.refl _ _⟩
    by_cases h2 : 100 < many
    · have e := roundsE_many (m := many) hw (.inr h2)
      rw [roundsR_no (by rw [e]; decide), e]
      clear hw e
      go_enter Try.func9, Try.ntmps9
      go_wp2_with fail
      refine C1.out.mono ?_
      rintro e w1 ⟨rfl, rfl⟩
      go_wp2
      go_ret2
      exact ⟨_, rfl, Ow.nil _ _ _ _, Below.refl _ _⟩
    have e := roundsE_ok (m := many) hw (by omega) (by omega)
    rw [roundsR_ok e, e]
    obtain ⟨q, rfl, hA⟩ := wrongA_ok.1 hw
    obtain ⟨p, rfl⟩ : ∃ p : Nat, many = p := ⟨many.toNat, by omega⟩
    rw [show ((q : Int)).toNat = q by omega, show ((p : Int)).toNat = p by omega]
    have hl := h.lenMap
    have hmo := hA.most
    rw [hl] at hmo
    have C2 := Lib.hid (CloneI_any A n c s w h (by omega))
    have HA := Lib.hid hA
    have HL := Lib.hid hL
    have Hl := Lib.hid hl
    clear e hw hA hL hl
    go_enter Try.func9, Try.ntmps9
    go_wp2_with fail
    refine C1.out.mono ?_
    rintro e w1 ⟨rfl, rfl⟩
    go_wp2_with fail
    refine C2.out.mono ?_
    rintro e w2 ⟨v2, rfl, ho2, hb2⟩
    go_wp2
    go_loopw [11, 28] (fun v i wr => ∃ j : Nat, j ≤ p ∧ i = .int .i64 j ∧ Ow (Value.int .i64) wr w.heap.size 3 v (roundsM s q (lists L) j) ∧ Below w.heap.size w wr) (fun _ i _ => p - (intOf i).toNat)
    case atStart => exact ⟨0, Nat.zero_le _, rfl, ho2, hb2⟩
    case round =>
      clear ho2 hb2 C1 C2
      obtain ⟨j, hj, rfl, ho, hbl⟩ := hrel
      by_cases hlt : j < p
      · obtain ⟨X, cx, rfl, hnc, _, hx⟩ := ho.formN ((rounds_len HA.out j).trans Hl.out)
        have HN := Lib.hid (next_any X n cx (roundsM s q (lists L) j) q B m d L wr hx hnc (hB.below hbl) (HL.out.below hbl) (HA.out.rounds j))
        clear ho hx
        go_wp2_with fail
        refine HN.out.mono ?_
        rintro e w3 ⟨v3, rfl, ho3, hb3⟩
        have hB3 := bthen hbl hb3
        replace ho3 := ho3.mono hbl.size
        clear HN hb3
        go_wp2
        go_roundw
        case rel => exact ⟨j + 1, by omega, by go_num, ho3, hB3⟩
        case measure => simp [intOf] <;> omega
      · obtain rfl : j = p := by omega
        go_wp2
        go_ret2
        exact ⟨_, rfl, ho, hbl⟩
  · have hne : (wrongA s k (lists L) != 0) = true := by simpa using hw
    have e := roundsE_wrong (m := many) hw
    rw [roundsR_no (by rw [e]; exact hw), e]
    clear hw e
    generalize wrongA s k (lists L) = R at *
    go_enter Try.func9, Try.ntmps9
    go_wp2_with fail
    refine C1.out.mono ?_
    rintro e w1 ⟨rfl, rfl⟩
    go_wp2
    go_ret2
    exact ⟨_, rfl, Ow.nil _ _ _ _, Below.refl _ _⟩

set_option maxHeartbeats 800000 in
theorem Round_any (A : Option Addr) (n c : Nat) (s : List Int) (k : Int) (B : Option Addr) (m d : Nat) (L : List (Option Addr × Nat × Nat × List Int)) (w : World) (h : Rd w 1 A n (s.map (Value.int .i64))) (hc : n ≤ c) (hn : n ≤ 4611686018427387904)
    (hB : Rd w 1 B m (L.map rowV)) (hL : RdRows w L) (hm : m ≤ 4611686018427387904) :
    Calls Try.prog 8 #[.slice A n c, .int .i64 k, .slice B m d] w (GivesInts (roundsR s k (lists L) 1) (wrongA s k (lists L)) w) := by
  have C1 := Lib.hid (Rounds_any A n c s k B m d L 1 w h hc hn hB hL hm)
  rw [roundsE_1] at C1
  clear h hB hL
  go_enter Try.func8, Try.ntmps8
  go_wp2_with fail
  refine C1.out.mono ?_
  rintro e w1 ⟨v, rfl, ho, hb⟩
  go_wp2
  go_ret2
  exact ⟨v, rfl, ho, hb⟩
end Go.Proofs.Ytjimajjmckjflaa
