/-
  Contract of the reference's MRound.
-/
import Derived.Test.YtjimajjmckjflaaAgreeRef
namespace Go.Proofs.Ytjimajjmckjflaa
open Go.RowKit
set_option linter.unusedVariables false

theorem ends_of {r : List Int} {lo hi : Int} (h1 : lo ∈ r) (h2 : hi ∈ r) (h : ∀ y ∈ r, lo ≤ y ∧ y ≤ hi) : lo = leastI r ∧ hi = greatI r := by
  have hne : r ≠ [] := by rintro rfl; cases h1
  have a1 := leastI_le h1
  have a2 := (h _ (leastI_mem hne)).1
  have a3 := greatI_le h2
  have a4 := (h _ (greatI_mem hne)).2
  omega

set_option maxHeartbeats 3200000 in
theorem MRound_any (A : Option Addr) (n c : Nat) (s : List Int) (q : Nat) (B : Option Addr) (m d : Nat) (L : List (Option Addr × Nat × Nat × List Int)) (w : World) (h : Rd w 1 A n (s.map (Value.int .i64))) (hc : n ≤ c)
    (hB : Rd w 1 B m (L.map rowV)) (hL : RdRows w L) (hA : Agrees s q (lists L)) :
    Calls Try.prog 18 #[.slice A n c, .int .i64 q, .slice B m d] w fun e w' => ∃ v, e = .returned v ∧ Ow (Value.int .i64) w' w.heap.size 3 v (roundM s q (lists L)) ∧ Below w.heap.size w w' := by
  have hl := h.lenMap
  have hlm : (lists L).length = m := by rw [lists, List.length_map, hB.lenMap]
  obtain rfl : m = n := by rw [← hlm, hA.each, hl]
  have hf := hA.few
  have hmo := hA.most
  rw [hl] at hf hmo
  obtain ⟨hs, hr⟩ := ahead_int (k := m - q) h (by omega) hc
  rw [show ((m - q : Nat) : Int) = (m : Int) - q by omega] at hs
  have eg : s.take (m - q) = goodL s q := by rw [goodL, hl]
  rw [eg] at hr
  have Hgl : Hid ((goodL s q).length = m - q) := by show _ = _; rw [hA.good_len, hl]
  have HA := Lib.hid hA
  have HL := Lib.hid hL
  have Hlm := Lib.hid hlm
  clear hl hlm hA hL h eg
  go_enter Try.func18, Try.ntmps18
  go_wp2
  go_loopw [7, 16] (fun v i wr => ∃ j : Nat, j ≤ m ∧ i = .int .i64 j ∧ Ow (Value.int .i64) wr w.heap.size 3 v ((roundM s q (lists L)).take j) ∧ Below w.heap.size w wr) (fun _ i _ => m - (intOf i).toNat)
  case atStart => exact ⟨0, Nat.zero_le _, rfl, Ow.nil _ _ _ _, Below.refl _ _⟩
  case round =>
    rename World => wo
    obtain ⟨j, hj, rfl, ho, hbl⟩ := hrel
    by_cases hlt : j < m
    · obtain ⟨ad, ⟨Ar, nr, cr, r⟩, rfl, hp, hcp⟩ := ((hB.below hbl).alloc (.cells #[] 3)).atMap hlt
      change (wo.alloc (.cells #[] 3)).cell? (ad.add j) = some (.slice Ar nr cr) at hcp
      obtain ⟨hrr, hnr, hcr⟩ := HL.out _ (List.mem_of_getElem? hp)
      simp only at hrr hnr hcr
      have hmem : r ∈ lists L := List.mem_of_getElem? (lists_at hp)
      have hrl := (HA.out.rows r hmem).1
      obtain rfl : nr = q := by rw [← hrl, hrr.lenMap]
      have hperm : (r ++ goodL s nr).Perm (goodL s nr ++ r) := List.perm_append_comm
      have Hnx : Hid ((roundM s nr (lists L))[j]? = some (midV (r ++ goodL s nr) nr)) := by
        show _ = _
        rw [roundM, List.getElem?_map, lists_at hp, mid_perm hperm]
        rfl
      have Hin : Hid (∀ x ∈ r ++ goodL s nr, -1099511627776 ≤ x ∧ x ≤ 1099511627776) := fun x hx => (HA.out.fine hmem).2.2.2 x (hperm.mem_iff.1 hx)
      have hlen : (r ++ goodL s nr).length = m := by rw [List.length_append, Hgl.out, hrl]; omega
      have Hlen := Lib.hid hlen
      have Hrl := Lib.hid hrl
      have HsT : Hid ((roundM s nr (lists L)).take (j + 1) = (roundM s nr (lists L)).take j ++ [midV (r ++ goodL s nr) nr]) := by show _ = _; rw [take_snoc Hnx.out]
      have Htl : Hid (((roundM s nr (lists L)).take j).length = j) := by show _ = _; rw [List.length_take, round_len, Hlm.out]; omega
      have hg2 := hr.below hbl
      have hr2 := hrr.below hbl
      clear hp hmem hrl hrr hperm hlen Hnx
      go_wp2_with (first
        | (at_builtin; (refine wpList_apW (Value.int .i64) _ elInt rfl rfl (one_int .i64) wo.heap.size (.slice (some ⟨wo.heap.size, 0, none⟩) 0 0) [] rfl (Ow.empty (Value.int .i64) _ _ (Nat.le_refl _)) Ar nr cr r rfl (hr2.alloc _) (le_alloc (Nat.le_refl _)) (by simp <;> omega) (by omega) ?_; intro v1 w1 ho1 hm1; have hb1 : Below wo.heap.size wo w1 := hm1.below ((Below.refl _ _).alloc (Nat.le_refl _) _) (le_alloc (Nat.le_refl _)) (new_block (Nat.le_refl _)); clear hm1; rw [List.nil_append] at ho1))
        | (at_builtin; (refine wpList_apW (Value.int .i64) _ elInt rfl rfl (one_int .i64) wo.heap.size v1 r rfl ho1 _ (m - nr) c (goodL s nr) rfl (hg2.below hb1) hb1.size (by rw [Hrl.out]; omega) (by omega) ?_; intro v2 w2 ho2 hm2; have hb2 : Below wo.heap.size wo w2 := hm2.below hb1 hb1.size ho1.block; clear hm2 ho1 hb1; obtain ⟨A2, c2, rfl, hc2, _, hr2'⟩ := ho2.formN Hlen.out; replace ho := ho.below hb2))
        | fail)
      clear hg2 hr2 hcp
      have Hq : Hid (2 * nr < (r ++ goodL s nr).length) := by show _ < _; rw [Hlen.out]; omega
      refine (LRest_any A2 m c2 (r ++ goodL s nr) nr w2 hr2' (by omega) (by omega)).mono ?_
      rintro e w3 ⟨v3, r3, rfl, ho3, hsr, hb3⟩
      obtain ⟨p, hp⟩ : ∃ p, m - 2 * nr = p := ⟨_, rfl⟩
      have hp0 : 0 < p := by omega
      have hpm : p ≤ 16 := by omega
      have hlen3 := len_rest hsr
      rw [Hlen.out, hp] at hlen3
      obtain ⟨A3, c3, rfl, _, _, h3⟩ := ho3.formN hlen3
      have hB3 := bthen (bthen hbl hb2) hb3
      replace ho := ho.below hb3
      have Hlen3 := Lib.hid hlen3
      have Hmid : Hid ((leastI r3 + greatI r3) / 2 = midV (r ++ goodL s nr) nr) := by show _ = _; rw [least_rest hsr Hq.out, great_rest hsr Hq.out]; rfl
      have Hinr : Hid (∀ x ∈ r3, -1099511627776 ≤ x ∧ x ≤ 1099511627776) := fun x hx => by
        have hp : x ∈ restL (r ++ goodL s nr) nr := by rw [← hsr]; exact (sortI_is r3).mem_iff.2 hx
        obtain ⟨j, _, hj, rfl⟩ := restL_mem hp
        exact Hin.out _ (nth_mem (by omega))
      obtain ⟨ad3, x0, rfl, hx0, hc0⟩ := h3.atMap (k := 0) (by omega)
      have hc0' : w3.cell? ad3 = some (.int .i64 x0) := by simpa [go_sem] using hc0
      have Hx0 := Lib.hid (List.mem_of_getElem? hx0)
      have HF := Lib.hid (fun (W : World) (g3 : -1099511627776 ≤ leastI r3) (g4 : leastI r3 ≤ 1099511627776) (g5 : -1099511627776 ≤ greatI r3) (g6 : greatI r3 ≤ 1099511627776) => LFloor_any (leastI r3 + greatI r3) 2 (by omega) (by omega) (by decide) (by decide) W)
      rw [Hmid.out] at HF
      generalize midV (r ++ goodL s nr) nr = M at *
      clear hx0 hc0 hlen3 hsr ho3 hb2 hb3 hr2' ho2 hbl Hmid Hq Hin Hlen hp Hrl
      go_wp2
      go_quiet (fail)
      go_wp2
      have hB4 : Below w.heap.size w (w3.drewN nq) := bthen hB3 (below_draws ⟨_, rfl⟩)
      have ho4 := ho.below (w' := w3.drewN nq) (below_draws ⟨_, rfl⟩)
      have h4 := h3.below (w' := w3.drewN nq) (below_draws ⟨_, rfl⟩)
      clear hB3 ho h3 hc0'
      generalize w3.drewN nq = w4 at *
      go_loop [10, 11, 43] (fun u v i => ∃ (lo hi : Int) (a : Nat), a ≤ p ∧ u = .int .i64 lo ∧ v = .int .i64 hi ∧ i = .int .i64 a ∧ Hid (lo ∈ r3) ∧ Hid (hi ∈ r3) ∧ Hid (∀ y ∈ r3.take a, lo ≤ y ∧ y ≤ hi)) (fun _ _ i => p - (intOf i).toNat)
      case atStart => exact ⟨x0, x0, 0, Nat.zero_le _, rfl, rfl, rfl, Hx0.out, Hx0.out, fun y hy => by simp at hy⟩
      case round =>
        clear Hx0
        obtain ⟨lo, hi, a, ha, rfl, rfl, rfl, Hlo, Hhi, Hall⟩ := hrel
        by_cases hlt2 : a < p
        · obtain ⟨ad', x, had, hx, hcx⟩ := h4.atMap hlt2
          cases had
          have Hxm := Lib.hid (List.mem_of_getElem? hx)
          have Hnew : Hid (∀ lo' hi' : Int, lo' ≤ lo → lo' ≤ x → hi ≤ hi' → x ≤ hi' → ∀ y ∈ r3.take (a + 1), lo' ≤ y ∧ y ≤ hi') := fun lo' hi' g1 g2 g3 g4 y hy => by
            rw [take_snoc hx] at hy
            rcases List.mem_append.1 hy with hy | hy
            · have := Hall.out y hy; omega
            · simp at hy; omega
          clear hx
          by_cases hxl : x < lo
          · by_cases hxh : hi < x
            · go_wp2
              go_round
              case rel => exact ⟨x, x, a + 1, by omega, by first | rfl | exact int_eq (by omega), by first | rfl | exact int_eq (by omega), by go_num, Hxm.out, Hxm.out, Hnew.out x x (by omega) (by omega) (by omega) (by omega)⟩
              case measure => simp [intOf] <;> omega
            · go_wp2
              go_round
              case rel => exact ⟨x, hi, a + 1, by omega, by first | rfl | exact int_eq (by omega), by first | rfl | exact int_eq (by omega), by go_num, Hxm.out, Hhi.out, Hnew.out x hi (by omega) (by omega) (by omega) (by omega)⟩
              case measure => simp [intOf] <;> omega
          · by_cases hxh : hi < x
            · go_wp2
              go_round
              case rel => exact ⟨lo, x, a + 1, by omega, by first | rfl | exact int_eq (by omega), by first | rfl | exact int_eq (by omega), by go_num, Hlo.out, Hxm.out, Hnew.out lo x (by omega) (by omega) (by omega) (by omega)⟩
              case measure => simp [intOf] <;> omega
            · go_wp2
              go_round
              case rel => exact ⟨lo, hi, a + 1, by omega, by first | rfl | exact int_eq (by omega), by first | rfl | exact int_eq (by omega), by go_num, Hlo.out, Hhi.out, Hnew.out lo hi (by omega) (by omega) (by omega) (by omega)⟩
              case measure => simp [intOf] <;> omega
        · have ee := ends_of Hlo.out Hhi.out (by
            have e := Hall.out
            rwa [List.take_of_length_le (by rw [Hlen3.out]; omega)] at e)
          obtain ⟨g3, g4⟩ := Hinr.out _ Hlo.out
          obtain ⟨g5, g6⟩ := Hinr.out _ Hhi.out
          rw [← ee.1, ← ee.2] at HF
          replace HF := Lib.hid (fun W => HF.out W g3 g4 g5 g6)
          clear ee Hall Hlo Hhi Hinr Hlen3 h4
          go_wp2_with fail
          refine (HF.out _).mono ?_
          rintro e w5 ⟨rfl, hb5⟩
          replace ho4 := ho4.below hb5
          have hB5 := bthen hB4 hb5
          clear hB4 hb5 HF
          go_wp2_with (at_builtin; go_must (refine wpList_apW (Value.int .i64) _ elInt rfl rfl (one_int .i64) w.heap.size u7 ((roundM s nr (lists L)).take j) rfl (ho4.alloc _) _ 1 1 [M] rfl (Rd.oneM (Value.int .i64) _ M _) (le_alloc hB5.size) (by rw [Htl.out]; omega) (by omega) ?_; intro v6 w6 ho6 hm6))
          have hB6 : Below w.heap.size w w6 := hm6.below (hB5.alloc hB5.size _) (le_alloc hB5.size) ho4.block
          clear hm6 ho4 hB5
          rw [← HsT.out] at ho6
          go_roundw
          case rel => exact ⟨j + 1, by omega, by go_num, ho6, hB6⟩
          case measure => simp [intOf] <;> omega
    · obtain rfl : j = m := by omega
      rw [List.take_of_length_le (by rw [round_len, Hlm.out]; exact Nat.le_refl _)] at ho
      go_wp2
      go_ret
      exact ⟨_, rfl, ho, hbl⟩
end Go.Proofs.Ytjimajjmckjflaa
