/-
  alive8 returns true; the walks of CobsBack, CobsGrows and CobsShort.
-/
import Derived.Test.YtmehdlnhllafaaaCobsWalks3
namespace Go.Proofs.Ytmehdlnhllafaaa
open Go.RowKit
set_option linter.unusedVariables false
set_option linter.unusedSimpArgs false

theorem pack8 : packC [7, 0, 0, 9] = [2, 7, 1, 2, 9] := by
  have h3 : packC [9] = [2, 9] := pack_last (d := [9]) (by decide) (by decide)
  have h2 : packC [0, 9] = 1 :: packC [9] := pack_zero (d := []) (m := [9]) (by decide) (by decide)
  have h1 : packC [7, 0, 0, 9] = 2 :: 7 :: packC [0, 9] := pack_zero (d := [7]) (m := [0, 9]) (by decide) (by decide)
  rw [h1, h2, h3]
theorem unpack8 : unpackC [2, 7, 1, 2, 9] = ([7, 0, 0, 9], 0) := by rw [← pack8, unpack_pack]
theorem parts8 : partsM [2, 7, 0, 0, 1, 0, 9] = [([7], 0), ([], 8), ([], 0)] := by
  have h1 : packC [7] = [2, 7] := pack_last (d := [7]) (by decide) (by decide)
  have h2 : packC [] = [1] := pack_last (d := []) (by decide) (by decide)
  have hs : segsM [2, 7, 0, 0, 1, 0, 9] = [[2, 7], [], [1]] := rfl
  unfold partsM
  rw [hs, List.map_cons, List.map_cons, List.map_cons, List.map_nil, ← h1, ← h2, unpack_pack, unpack_pack]
  rfl

set_option maxHeartbeats 1000000 in
theorem alive8_any (w : World) : Calls Try.prog 14 #[] w fun e w' => e = .returned (.bool true) ∧ Below w.heap.size w w' := by
  go_enter Try.func14, Try.ntmps14
  go_wp2_with fail
  refine (Pack_any (some ⟨w.heap.size, 0, none⟩) 4 4 [7, 0, 0, 9] _ (Rd.litAt (Value.int .u8) _ _ rfl) (by unfold Byte8; decide) (by decide) (by decide) (by decide)).mono ?_
  rintro e w1 ⟨v1, rfl, ho1, hb1⟩
  rw [pack8] at ho1
  replace hb1 := below_new hb1
  obtain ⟨A1, c1, rfl, hc1, hcm1, h1⟩ := ho1.formN (n := 5) rfl
  clear ho1
  go_wp2_with fail
  refine (Unpack_any A1 5 c1 [2, 7, 1, 2, 9] _ h1 (by unfold Byte8; decide) hc1 (le63 hcm1) (by decide)).mono ?_
  rw [unpack8]
  rintro e w2 ⟨v2, rfl, ho2, hb2⟩
  simp only at ho2 ⊢
  obtain ⟨A2, c2, rfl, hc2, hcm2, h2⟩ := ho2.formN (n := 4) rfl
  replace h1 := h1.below hb2
  replace hb1 := bthen hb1 hb2
  clear ho2 hb2
  go_wp2_with fail
  refine (Parts_any (some ⟨w2.heap.size, 0, none⟩) 7 7 [2, 7, 0, 0, 1, 0, 9] _ (Rd.litAt (Value.int .u8) _ _ rfl) (by unfold Byte8; decide) (by decide) (by decide) (by decide)).mono ?_
  rw [parts8]
  rintro e w3 ⟨k, AP, AQ, cP, cQ, ps, rfl, rfl, hP, hQ, hparts, hb3⟩
  simp only [List.length_cons, List.length_nil, Nat.zero_add, Nat.reduceAdd] at hP hQ ⊢
  replace hb3 := below_new hb3
  replace h1 := h1.below hb3
  replace h2 := h2.below hb3
  replace hb1 := bthen hb1 hb3
  obtain ⟨ad, p, rfl, hp, hcp⟩ := hP.atMap (k := 0) (by omega)
  obtain ⟨hp7, _, _⟩ := hparts 0 p ([7], 0) hp rfl
  have hn7 : p.2.1 = 1 := hp7.lenMap.symm
  obtain ⟨Ap, np, cp⟩ := p
  simp only at hn7 hp7
  subst hn7
  have hcp' : w3.cell? ad = some (.slice Ap 1 cp) := by simpa [go_sem, slV] using hcp
  clear hcp hp hparts hP hb3
  have v1 := run_bytes (P := Try.prog) Try.underlying22 Try.underlying5 Try.underlying9 c1 h1
  have v2 := run_bytes (P := Try.prog) Try.underlying22 Try.underlying5 Try.underlying9 c2 h2
  have s1 : strOfNums [2, 7, 1, 2, 9] = ⟨#[2, 7, 1, 2, 9]⟩ := rfl
  have s2 : strOfNums [7, 0, 0, 9] = ⟨#[7, 0, 0, 9]⟩ := rfl
  have s3 : strOfNums [7] = ⟨#[7]⟩ := rfl
  rw [s1] at v1
  rw [s2] at v2
  go_wp2_with (go_at_call 23; (refine (EqualB_any_same AQ _ 3 cQ 3 3 [true, false, true] _ (hQ.alloc _) (Rd.litAt Value.bool _ _ rfl) (by decide)).mono ?_; rintro e w4 ⟨rfl, hb4⟩; have hb5 := below_new hb4; have hcp5 : w4.cell? ad = some (.slice Ap 1 cp) := (hb5.cell (World.block_lt_of_cell? w3 _ hcp')).trans hcp'; have v3 := run_bytes (P := Try.prog) Try.underlying22 Try.underlying5 Try.underlying9 cp (hp7.below hb5); rw [s3] at v3))
  go_ret
  exact ⟨rfl, bthen hb1 hb5⟩

set_option maxHeartbeats 1000000 in
theorem CobsBack_walk (A0 : Option Addr) (n0 c0 : Nat) (l0 : List Int) (w : World) (h0 : Rd w 1 A0 n0 (l0.map (Value.int .u8))) (v0 : ∀ x ∈ l0, (Lit.int .u8 x).wf = true) (k0 : n0 ≤ c0) (b0 : c0 * 1 ≤ 140737488351232) :
    Calls Try.prog 4 #[.slice A0 n0 c0] w fun e w' => e = .returned (.bool true) ∧ Below w.heap.size w w' := by
  have q0 : Byte8 l0 := fun x hx => by have := wf_u8 (v0 x hx); omega
  have Hl0 := Lib.hid h0.lenMap
  clear v0
  go_enter Try.func4, Try.ntmps4
  go_wp2_with fail
  refine (alive8_any _).mono ?_
  rintro e w1 ⟨rfl, hb⟩
  go_wp2_with fail
  refine (Pack_any A0 n0 c0 l0 _ (h0.below hb) q0 k0 (by omega) (by omega)).mono ?_
  rintro e w2 ⟨v2, rfl, ho2, hb2⟩
  replace hb := bthen hb hb2
  obtain ⟨xn, hxn⟩ : ∃ xn, (packC l0).length = xn := ⟨_, rfl⟩
  obtain ⟨Ax, cx, rfl, hcx, hcm, hx⟩ := ho2.formN hxn
  have hgr := pack_grows l0
  have hpb := pack_bytes q0
  have Hun := Lib.hid (unpack_pack l0)
  rw [Hl0.out, hxn] at hgr
  generalize packC l0 = X at *
  have Hxn := Lib.hid hxn
  clear ho2 hb2 hxn
  go_wp2_with fail
  refine (Unpack_any Ax xn cx X _ hx hpb.1 hcx (le63 hcm) (by omega)).mono ?_
  rw [Hun.out]
  rintro e w3 ⟨v3, rfl, ho3, hb3⟩
  simp only at ho3 ⊢
  replace hb := bthen hb hb3
  obtain ⟨Ay, cy, rfl, _, _, hy⟩ := ho3.formN Hl0.out
  replace hx := hx.below hb3
  clear ho3 hb3
  have hE := EqualY_same Ay A0 n0 cy n0 c0 l0 _ hy (h0.below hb) q0
  have hC := ContainsY_any Ax xn cx X 0 _ hx (by omega)
  rw [decide_eq_false hpb.2] at hC
  clear hpb hgr
  go_wp2_with (first
    | (go_at_call 15; refine hE.mono ?_; rintro e w4 ⟨rfl, rfl⟩)
    | (go_at_call 16; refine hC.mono ?_; rintro e w4 ⟨rfl, rfl⟩))
  go_ret
  exact ⟨rfl, hb⟩
set_option maxHeartbeats 1000000 in
theorem CobsGrows_walk (A0 : Option Addr) (n0 c0 : Nat) (l0 : List Int) (w : World) (h0 : Rd w 1 A0 n0 (l0.map (Value.int .u8))) (v0 : ∀ x ∈ l0, (Lit.int .u8 x).wf = true) (k0 : n0 ≤ c0) (b0 : c0 * 1 ≤ 140737488351232) :
    Calls Try.prog 5 #[.slice A0 n0 c0] w fun e w' => e = .returned (.bool true) ∧ Below w.heap.size w w' := by
  have q0 : Byte8 l0 := fun x hx => by have := wf_u8 (v0 x hx); omega
  have Hl0 := Lib.hid h0.lenMap
  clear v0
  go_enter Try.func5, Try.ntmps5
  go_wp2_with fail
  refine (alive8_any _).mono ?_
  rintro e w1 ⟨rfl, hb⟩
  go_wp2_with fail
  refine (Pack_any A0 n0 c0 l0 _ (h0.below hb) q0 k0 (by omega) (by omega)).mono ?_
  rintro e w2 ⟨v2, rfl, ho2, hb2⟩
  replace hb := bthen hb hb2
  obtain ⟨xn, hxn⟩ : ∃ xn, (packC l0).length = xn := ⟨_, rfl⟩
  obtain ⟨Ax, cx, rfl, _, _, _⟩ := ho2.formN hxn
  have hgr := pack_grows l0
  rw [Hl0.out, hxn] at hgr
  clear ho2 hb2 hxn
  have htd : Int.tdiv (n0 : Int) 254 = ((n0 / 254 : Nat) : Int) := by rw [Int.tdiv_eq_ediv_of_nonneg (by omega)]; omega
  have hqn : n0 / 254 ≤ 1000000000000 := by omega
  generalize n0 / 254 = q at *
  have d1 : decide ((n0 : Int) < (xn : Int)) = true := by simp; omega
  have d2 : decide ((xn : Int) ≤ (n0 : Int) + 1 + (q : Int)) = true := by simp; omega
  obtain ⟨g1, g2⟩ := hgr
  go_wp2
  go_ret
  exact ⟨rfl, hb⟩
set_option maxHeartbeats 1000000 in
theorem CobsShort_walk (A0 : Option Addr) (n0 c0 : Nat) (l0 : List Int) (w : World) (h0 : Rd w 1 A0 n0 (l0.map (Value.int .u8))) (v0 : ∀ x ∈ l0, (Lit.int .u8 x).wf = true) (k0 : n0 ≤ c0) (b0 : c0 * 1 ≤ 140737488351232) :
    Calls Try.prog 8 #[.slice A0 n0 c0] w fun e w' => e = .returned (.bool true) ∧ Below w.heap.size w w' := by
  have q0 : Byte8 l0 := fun x hx => by have := wf_u8 (v0 x hx); omega
  have Hl0 := Lib.hid h0.lenMap
  have Hsh := Lib.hid (unpack_short q0)
  have Her := Lib.hid (unpack_err l0)
  have Hln := Lib.hid (unpack_len l0)
  have Hby := Lib.hid (unpack_bytes q0)
  clear v0
  go_enter Try.func8, Try.ntmps8
  go_wp2_with fail
  refine (alive8_any _).mono ?_
  rintro e w1 ⟨rfl, hb⟩
  go_wp2_with fail
  refine (Unpack_any A0 n0 c0 l0 _ (h0.below hb) q0 k0 (by omega) (by omega)).mono ?_
  rintro e w2 ⟨v2, rfl, ho2, hb2⟩
  replace hb := bthen hb hb2
  generalize unpackC l0 = U at *
  obtain ⟨y, er⟩ := U
  simp only at ho2 ⊢
  obtain ⟨yn, hyn⟩ : ∃ yn, y.length = yn := ⟨_, rfl⟩
  obtain ⟨Ay, cy, rfl, hcy, hcm, hy⟩ := ho2.formN hyn
  by_cases he : er = 0
  · subst he
    have hsh : (packC y).length ≤ l0.length := Hsh.out rfl
    have hln : y.length ≤ l0.length := Hln.out
    rw [Hl0.out] at hsh hln
    obtain ⟨xn, hxn⟩ : ∃ xn, (packC y).length = xn := ⟨_, rfl⟩
    rw [hxn] at hsh
    rw [hyn] at hln
    have d2 : decide ((xn : Int) ≤ (n0 : Int)) = true := by simp; omega
    have hP := Pack_any Ay yn cy y _ hy Hby.out hcy (le63 hcm) (by omega)
    clear ho2 hb2 hyn
    go_wp2_with (go_at_call 12; refine hP.mono ?_; rintro e w3 ⟨v3, rfl, ho3, hb3⟩; obtain ⟨Ax, cx, rfl, _, _, _⟩ := ho3.formN hxn)
    go_ret
    exact ⟨rfl, bthen hb hb3⟩
  · have hy0 : y = [] := Her.out he
    subst hy0
    obtain rfl : yn = 0 := by simpa using hyn.symm
    have d2 : (er != 0) = true := by simpa using he
    clear ho2 hb2 hyn he
    go_wp2
    go_ret
    exact ⟨rfl, hb⟩
end Go.Proofs.Ytmehdlnhllafaaa
