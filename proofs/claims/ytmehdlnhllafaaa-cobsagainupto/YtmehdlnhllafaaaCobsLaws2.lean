/-
  The walk of CobsAgain.
-/
import Derived.Test.YtmehdlnhllafaaaCobsLaws
import Derived.Test.YtmehdlnhllafaaaConcat
namespace Go.Proofs.Ytmehdlnhllafaaa
open Go.RowKit
set_option linter.unusedVariables false
set_option linter.unusedSimpArgs false

set_option maxHeartbeats 1000000 in
theorem CobsAgain_walk (A0 : Option Addr) (n0 c0 : Nat) (l0 : List Int) (A1 : Option Addr) (n1 c1 : Nat) (l1 : List Int) (w : World)
    (h0 : Rd w 1 A0 n0 (l0.map (Value.int .u8))) (v0 : ∀ x ∈ l0, (Lit.int .u8 x).wf = true) (k0 : n0 ≤ c0) (b0 : c0 ≤ 1048576)
    (h1 : Rd w 1 A1 n1 (l1.map (Value.int .u8))) (v1 : ∀ x ∈ l1, (Lit.int .u8 x).wf = true) (k1 : n1 ≤ c1) (b1 : c1 ≤ 1048576) :
    Calls Try.prog 7 #[.slice A0 n0 c0, .slice A1 n1 c1] w fun e w' => e = .returned (.bool true) ∧ Below w.heap.size w w' := by
  have q0 : Byte8 l0 := fun x hx => by have := wf_u8 (v0 x hx); omega
  have q1 : Byte8 l1 := fun x hx => by have := wf_u8 (v1 x hx); omega
  have Hl0 := Lib.hid h0.lenMap
  have Hl1 := Lib.hid h1.lenMap
  clear v0 v1
  go_enter Try.func7, Try.ntmps7
  go_wp2_with fail
  refine (alive8_any _).mono ?_
  rintro e w1 ⟨rfl, hb⟩
  go_wp2_with fail
  refine (Pack_any A1 n1 c1 l1 _ ((h1.below hb).alloc _) q1 k1 (by omega) (by omega)).mono ?_
  rintro e w2 ⟨v2, rfl, ho2, hb2⟩
  have hz := (Rd.oneM (Value.int .u8) w1 0 5).below hb2
  replace hb2 := below_new hb2
  replace hb := bthen hb hb2
  obtain ⟨xn, hxn⟩ : ∃ xn, (packC l1).length = xn := ⟨_, rfl⟩
  obtain ⟨Ax, cx, rfl, hcx, hcm, hx⟩ := ho2.formN hxn
  have hgr := pack_grows l1
  have hpb := pack_bytes q1
  obtain ⟨ps, hps, hpl⟩ := parts_again l0 l1 q1
  rw [Hl1.out, hxn] at hgr
  generalize packC l1 = X at *
  have hxle : xn ≤ 3000000 := by omega
  have Hxn := Lib.hid hxn
  have Hps := Lib.hid hps
  obtain ⟨Y, hY⟩ : ∃ Y, Y = l0 ++ ([0] ++ (X ++ [0])) := ⟨_, rfl⟩
  rw [← hY] at Hps
  have hYl : Y.length = n0 + xn + 2 := by rw [hY]; simp [Hl0.out, Hxn.out]; omega
  have hYb : Byte8 Y := by
    intro y hy
    rw [hY] at hy
    simp only [List.mem_append, List.mem_singleton] at hy
    rcases hy with hy | hy | hy | hy
    · exact q0 y hy
    · omega
    · exact hpb.1 y hy
    · omega
  have HY := Lib.hid hY
  clear ho2 hb2 hxn hgr hpb hps hY
  go_wp2_with fail
  refine (ConcatY_any _ 4 4 [(A0, n0, c0, l0), (some ⟨w1.heap.size, 0, none⟩, 1, 1, [0]), (Ax, xn, cx, X), (some ⟨w2.heap.size, 0, none⟩, 1, 1, [0])] _ (Rd.litAt ConcatY_any_val _ _ (by simp)) ?_ (by decide) (by simp [Hl0.out, Hxn.out]; omega)).mono ?_
  · intro p hp
    simp only [List.mem_cons, List.not_mem_nil, or_false] at hp
    rcases hp with rfl | rfl | rfl | rfl
    · exact ((h0.below hb).alloc _).alloc _
    · exact (hz.alloc _).alloc _
    · exact (hx.alloc _).alloc _
    · exact (Rd.oneM (Value.int .u8) w2 0 5).alloc _
  rintro e w3 ⟨v3, rfl, ho3, hb3⟩
  have hfl : List.flatMap (fun x : Option Addr × Nat × Nat × List Int => x.2.2.2) [(A0, n0, c0, l0), (some ⟨w1.heap.size, 0, none⟩, 1, 1, [0]), (Ax, xn, cx, X), (some ⟨w2.heap.size, 0, none⟩, 1, 1, [0])] = Y := by rw [HY.out]; simp
  rw [hfl] at ho3
  replace hb3 := below_new (below_new hb3)
  replace hb := bthen hb hb3
  obtain ⟨Ay, cy, rfl, hcy, hcmy, hy⟩ := ho3.formN hYl
  clear ho3 hfl hz hx hb3
  go_wp2_with fail
  refine (Parts_any Ay (n0 + xn + 2) cy Y _ hy hYb hcy (le63 hcmy) (by omega)).mono ?_
  have hkl : (partsM Y).length ≤ n0 + xn + 2 := by rw [parts_len, ← hYl]; exact List.count_le_length
  rw [Hps.out] at hkl ⊢
  rw [List.length_append, List.length_singleton] at hkl
  rintro e w4 ⟨k, AP, AQ, cP, cQ, qs, hk, rfl, hP, hQ, hparts, hb4⟩
  replace hb := bthen hb hb4
  rw [List.length_append, List.length_singleton] at hk
  have hk2 : 2 ≤ k := by omega
  obtain ⟨ad, p, rfl, hp, hcp⟩ := hP.atMap (k := k - 1) (by omega)
  obtain ⟨ad', ok, rfl, hok, hcok⟩ := hQ.atMap (k := k - 1) (by omega)
  have hR : (ps ++ [(l1, 0)])[k - 1]? = some (l1, 0) := by rw [List.getElem?_append_right (by omega), show k - 1 - ps.length = 0 by omega]; rfl
  obtain rfl : ok = true := by
    rw [List.getElem?_map, hR] at hok
    simpa [okB] using hok.symm
  obtain ⟨hpr, _, _⟩ := hparts _ p _ hp hR
  obtain ⟨Ap, np, cp⟩ := p
  simp only at hpr
  have hcp' : w4.cell? (ad.add (k - 1)) = some (.slice Ap np cp) := hcp
  have t1 : ((k : Int) - 1).toNat = k - 1 := by omega
  have e1 : IntKind.i64.wrap ((k : Int) - 1) = (k : Int) - 1 := IntWalk.i64_in _ (by omega)
  have e2 : 0 ≤ (k : Int) - 1 := by omega
  have e3 : (k : Int) - 1 < k := by omega
  have hE := EqualY_same Ap A1 np cp n1 c1 l1 _ hpr (h1.below hb) q1
  clear hcp hp hok hR hparts hP hQ hk hb4
  go_wp2_with (go_at_call 15; refine hE.mono ?_; rintro e w5 ⟨rfl, rfl⟩)
  go_ret
  exact ⟨rfl, hb⟩
end Go.Proofs.Ytmehdlnhllafaaa
