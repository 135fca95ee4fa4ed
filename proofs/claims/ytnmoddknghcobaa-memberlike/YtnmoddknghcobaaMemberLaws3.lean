/-
  The law MemberLike.
-/
import Derived.Test.YtnmoddknghcobaaMemberLaws2
namespace Go.Proofs.Ytnmoddknghcobaa
open Go.RowKit
set_option linter.unusedVariables false

def othersL (l : List Hrd) : List Hrd := l.filter fun h => decide (1 < h.nd)
theorem others_snoc {l : List Hrd} {j : Nat} {x : Hrd} (h : l[j]? = some x) : othersL (l.take (j + 1)) = othersL (l.take j) ++ if 1 < x.nd then [x] else [] := by
  unfold othersL
  rw [take_snoc h, List.filter_append]
  by_cases g : 1 < x.nd <;> simp [g]
theorem others_len (l : List Hrd) (j : Nat) : (othersL (l.take j)).length ≤ j := by
  unfold othersL
  have := List.length_filter_le (fun h : Hrd => decide (1 < h.nd)) (l.take j)
  rw [List.length_take] at this
  omega
set_option maxRecDepth 100000 in
set_option maxHeartbeats 3200000 in
theorem MemberLike_walk (many : Int) (A : Option Addr) (n c : Nat) (l : List Hrd) (w : World) (wm : (Lit.int .i64 many).wf = true)
    (h : RdG hrdC 3 w A n l) (hl : ∀ x ∈ l, x.Ok) (hk : n ≤ c) (hb : c * 16 ≤ 140737488351232) :
    Calls Try.prog 5 #[.int .i64 many, .slice A n c] w fun e w' => e = .returned (.bool true) ∧ Below w.heap.size w w' := by
  have CA := Lib.hid (fun (W : World) => alive16_any W)
  have hn : n ≤ 8796093021952 := by omega
  have Hlike := Lib.hid (like_facts many (l := othersL l) (fun x hx => by simpa using (List.mem_filter.1 hx).2))
  have Hsmall : Hid (many < 2 → playAE 1 many (othersL l) = 2) := fun g => by
    have e := (allE_no (own := 1) (many := many) (by omega)).1
    unfold playAE
    rw [if_neg (by rw [e]; decide)]
  have CP := Lib.hid (fun (own : Int) (B : Option Addr) (m d : Nat) (W : World) (hW : RdG hrdC 3 W B m (othersL l)) (hm : m ≤ 140737488355328) => Play_any own many B m d (othersL l) W hW (fun x hx => hl x (List.mem_filter.1 hx).1) hm)
  have Hlen : Hid ((othersL l).length ≤ n) := by
    show _ ≤ _
    have := others_len l n
    rwa [List.take_of_length_le (by rw [RdG.len hrdK h]; exact Nat.le_refl _)] at this
  have HLn := Lib.hid (RdG.len hrdK h)
  clear hl
  go_enter Try.func5, Try.ntmps5
  go_wp2_with fail
  refine (CA.out _).mono ?_
  rintro e w1 ⟨rfl, hb1⟩
  have hh := h.below hb1
  clear CA
  go_wp2
  go_loopw [5, 16] (fun v i wr => ∃ j : Nat, j ≤ n ∧ i = .int .i64 j ∧ OwG hrdC 3 wr w1.heap.size 26 v (othersL (l.take j)) ∧ Below w1.heap.size w1 wr) (fun _ i _ => n - (intOf i).toNat)
  case atStart => exact ⟨0, Nat.zero_le _, rfl, OwG.nil _ _ _, Below.refl _ _⟩
  case round =>
    obtain ⟨j, hj, rfl, ho, hbl⟩ := hrel
    have Ho := Lib.hid ho
    clear ho
    by_cases hlt : j < n
    · obtain ⟨ad, x, rfl, hx, hx0, hx1, hx2⟩ := heard_at (hh.below hbl) hlt
      have Hsn := Lib.hid (others_snoc hx)
      have hlj := others_len l j
      obtain ⟨xn, xc, xv⟩ := x
      simp only at hx0 hx1 hx2 Hsn
      clear hx
      by_cases hg : 1 < xn
      · rw [if_pos hg] at Hsn
        go_wp2_with (at_builtin; go_must (refine wpList_apG hrdK _ elHrd rfl rfl w1.heap.size _ (othersL (l.take j)) rfl ((Ho.out.alloc _).alloc _) _ 1 1 [(⟨xn, xc, xv⟩ : Hrd)] rfl (Rd.litFlat hrdK.len [(⟨xn, xc, xv⟩ : Hrd)] _ (by simp)) (by have := hbl.size; simp; omega) (by omega) (by omega) ?_; intro v2 w2 ho2 hm2))
        have hb2 : Below w1.heap.size w1 w2 := hm2.below ((hbl.alloc hbl.size _).alloc (by have := hbl.size; simp; omega) _) (by have := hbl.size; simp; omega) Ho.out.block
        have Ho2 := Lib.hid ho2
        clear ho2 hm2
        go_wp2
        go_roundw
        case rel => exact ⟨j + 1, by omega, by go_num, by rw [Hsn.out]; exact Ho2.out, hb2⟩
        case measure => simp [intOf] <;> omega
      · rw [if_neg hg, List.append_nil] at Hsn
        go_wp2
        go_roundw
        case rel => exact ⟨j + 1, by omega, by go_num, by rw [Hsn.out]; exact Ho.out.alloc _, hbl.alloc hbl.size _⟩
        case measure => simp [intOf] <;> omega
    · obtain rfl : j = n := by omega
      have ho := Ho.out
      rw [List.take_of_length_le (by rw [HLn.out]; exact Nat.le_refl _)] at ho
      obtain ⟨Ax, cx, rfl, hcx1, hcx2, hrx⟩ := ho.formN (n := (othersL l).length) rfl
      have hlen := Hlen.out
      have Hrx := Lib.hid hrx
      have hB := bthen hb1 hbl
      clear ho Ho hrx
      generalize hm : (othersL l).length = m at *
      clear hm
      have C0 := Lib.hid (fun (W : World) (hW : RdG hrdC 3 W Ax m (othersL l)) => CP.out 0 Ax m cx W hW (by omega))
      have C1 := Lib.hid (fun (W : World) (hW : RdG hrdC 3 W Ax m (othersL l)) => CP.out 1 Ax m cx W hW (by omega))
      obtain ⟨e0, He0⟩ : ∃ r, Hid (playAE 0 many (othersL l) = r) := ⟨_, rfl⟩
      obtain ⟨e1, He1⟩ : ∃ r, Hid (playAE 1 many (othersL l) = r) := ⟨_, rfl⟩
      obtain ⟨m0, Hm0⟩ : ∃ r, Hid (playAM 0 many (othersL l) = r) := ⟨_, rfl⟩
      obtain ⟨m1, Hm1⟩ : ∃ r, Hid (playAM 1 many (othersL l) = r) := ⟨_, rfl⟩
      rw [He0.out, Hm0.out] at C0
      rw [He1.out, Hm1.out] at C1
      rw [He0.out, Hm0.out, He1.out, Hm1.out] at Hlike
      rw [He1.out] at Hsmall
      have hcases : (many < 2 ∧ e1 = 2) ∨ (¬ many < 2 ∧ e0 = e1 ∧ m0 = m1) := by
        by_cases g : many < 2
        · exact .inl ⟨g, Hsmall.out g⟩
        · exact .inr ⟨g, Hlike.out.resolve_left g⟩
      clear He0 He1 Hm0 Hm1 Hlike Hsmall
      obtain ⟨av, atk, als, aou⟩ := m0
      obtain ⟨bv, btk, bls, bou⟩ := m1
      go_wp2_with fail
      refine (C0.out _ Hrx.out).mono ?_
      rintro e w3 ⟨rfl, hb3⟩
      have hB3 := bthen hB hb3
      have X8 := Lib.hid (Box.new w3 24 [.int .u16 (av : Int), .int .i64 atk, .int .i64 als, .bool aou])
      have Hr3 := Lib.hid ((Hrx.out.below hb3).alloc (.cells #[.int .u16 (av : Int), .int .i64 atk, .int .i64 als, .bool aou] 24))
      have hB3' := hB3.alloc hB3.size (.cells #[.int .u16 (av : Int), .int .i64 atk, .int .i64 als, .bool aou] 24)
      clear C0 hb3 hB3 Hrx
      go_upto_region 11 with fail
      generalize w3.alloc (.cells #[.int .u16 (av : Int), .int .i64 atk, .int .i64 als, .bool aou] 24) = u3 at *
      go_wp2_with fail
      refine (C1.out _ Hr3.out).mono ?_
      rintro e w4 ⟨rfl, hb4⟩
      have hB4 := bthen hB3' hb4
      have x8 := (X8.out.below hb4 X8.out.lt).alloc (.cells #[.int .u16 (bv : Int), .int .i64 btk, .int .i64 bls, .bool bou] 24)
      have x10 := Box.new w4 24 [.int .u16 (bv : Int), .int .i64 btk, .int .i64 bls, .bool bou]
      have hB4' := hB4.alloc hB4.size (.cells #[.int .u16 (bv : Int), .int .i64 btk, .int .i64 bls, .bool bou] 24)
      clear C1 hb4 hB4 Hr3 X8
      go_upto_region 12 with fail
      generalize w4.alloc (.cells #[.int .u16 (bv : Int), .int .i64 btk, .int .i64 bls, .bool bou] 24) = u4 at *
      have c0 := x8.cell 0 rfl
      have c1 := x8.cell 1 rfl
      have c2 := x8.cell 2 rfl
      have c3 := x8.cell 3 rfl
      have d0 := x10.cell 0 rfl
      have d1 := x10.cell 1 rfl
      have d2 := x10.cell 2 rfl
      have d3 := x10.cell 3 rfl
      clear x8 x10
      rcases hcases with ⟨g, rfl⟩ | ⟨g, rfl, gm⟩
      · by_cases hz : e0 = 0
        · subst hz
          go_wp2
          go_ret
          exact ⟨rfl, hB4'⟩
        · have hz1 : (e0 != 0) = true := by simpa using hz
          have hz2 : (e0 == 0) = false := by simpa using hz
          clear hz
          go_wp2
          go_ret
          exact ⟨rfl, hB4'⟩
      · injection gm with gm1 gm2 gm3 gm4
        subst gm1 gm2 gm3 gm4
        by_cases hz : e0 = 0
        · subst hz
          go_wp2
          go_ret
          exact ⟨rfl, hB4'⟩
        · have hz1 : (e0 != 0) = true := by simpa using hz
          have hz2 : (e0 == 0) = false := by simpa using hz
          clear hz
          go_wp2
          go_ret
          exact ⟨rfl, hB4'⟩
end Go.Proofs.Ytnmoddknghcobaa
