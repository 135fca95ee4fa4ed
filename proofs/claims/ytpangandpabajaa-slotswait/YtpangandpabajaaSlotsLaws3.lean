/-
  The walk of SlotsTell: it returns true, at every argument; the reference's search for the next start.
-/
import Derived.Test.YtpangandpabajaaSlotsRef
import Derived.Test.YtpangandpabajaaSlotsRef2
import Derived.Test.YtpangandpabajaaSlotsLaws
namespace Go.Proofs.Ytpangandpabajaa
open Go.RowKit
set_option linter.unusedVariables false

/-- The reference's search, on the starts. -/
def foldNx (P t : Int) : Int → List Int → Int
  | b, [] => b
  | b, f :: r => foldNx P t (if b < 0 ∨ nx P t f < b then nx P t f else b) r
theorem inext_fold (P node t b : Int) (L : List Slt) : inextM P node t b L = foldNx P t b (startsM node L) := by
  induction L generalizing b with
  | nil => rfl
  | cons s r ih =>
    rw [inextM, ih, startsM]
    by_cases h : s.nd = node
    · rw [if_pos h, if_pos h, foldNx]
    · rw [if_neg h, if_neg h]
theorem fold_spec {P t b : Int} (bs : List Int) (hP : 1 ≤ P) (t0 : 0 ≤ t) (hb : 0 ≤ b) : foldNx P t b bs ≤ b ∧ (∀ f ∈ bs, foldNx P t b bs ≤ nx P t f) ∧ (foldNx P t b bs = b ∨ ∃ f ∈ bs, foldNx P t b bs = nx P t f) := by
  induction bs generalizing b with
  | nil => exact ⟨Int.le_refl _, (fun f hf => by cases hf), .inl rfl⟩
  | cons x r ih =>
    have hx := (nx_range (f := x) t hP).1
    rw [foldNx]
    by_cases h : nx P t x < b
    · rw [if_pos (.inr h)]
      obtain ⟨h1, h2, h3⟩ := ih (b := nx P t x) (by omega)
      refine ⟨by omega, fun f hf => ?_, ?_⟩
      · rcases List.mem_cons.1 hf with rfl | hf
        · exact h1
        · exact h2 f hf
      · rcases h3 with h3 | ⟨f, hf, h3⟩
        · exact .inr ⟨x, by simp, h3⟩
        · exact .inr ⟨f, by simp [hf], h3⟩
    · rw [if_neg (by omega)]
      obtain ⟨h1, h2, h3⟩ := ih hb
      refine ⟨h1, fun f hf => ?_, ?_⟩
      · rcases List.mem_cons.1 hf with rfl | hf
        · omega
        · exact h2 f hf
      · rcases h3 with h3 | ⟨f, hf, h3⟩
        · exact .inl h3
        · exact .inr ⟨f, by simp [hf], h3⟩
theorem inext_none {P node t : Int} {L : List Slt} (h : startsM node L = []) : inextM P node t (-1) L = -1 := by rw [inext_fold, h]; rfl
theorem inext_some {P node t : Int} {L : List Slt} (t0 : 0 ≤ t) (hR : rightM P L = true) (h : startsM node L ≠ []) : inextM P node t (-1) L = nextOf P (startsM node L) t := by
  have G := starts_good (node := node) hR
  rw [inext_fold]
  generalize startsM node L = bs at *
  cases bs with
  | nil => exact absurd rfl h
  | cons x r =>
    rw [foldNx, if_pos (.inl (by decide))]
    have hx := (nx_range (f := x) t G.pos).1
    obtain ⟨h1, h2, h3⟩ := fold_spec (b := nx P t x) r G.pos t0 (by omega)
    have hall : ∀ f ∈ x :: r, foldNx P t (nx P t x) r ≤ nx P t f := by
      intro f hf
      rcases List.mem_cons.1 hf with rfl | hf
      · exact h1
      · exact h2 f hf
    obtain ⟨g, hg, eg⟩ := next_in G h t
    have h4 := hall g hg
    have h5 : nextOf P (x :: r) t ≤ foldNx P t (nx P t x) r := by
      rcases h3 with h3 | ⟨f, hf, h3⟩
      · rw [h3]; exact next_least G t x (by simp)
      · rw [h3]; exact next_least G t f (by simp [hf])
    omega

set_option maxRecDepth 20000 in
set_option maxHeartbeats 1600000 in
theorem SlotsTell_walk (a0 : Int) (A1 : Option Addr) (n1 c1 : Nat) (l1 : List Slt) (a2 a3 : Int) (w : World) (w0 : (Lit.int .i64 a0).wf = true) (h1 : RdS w A1 n1 l1) (q1 : ∀ s ∈ l1, s.Ok) (k1 : n1 ≤ c1) (b1 : c1 * 24 ≤ 140737488351232) (w2 : (Lit.int .i64 a2).wf = true) (w3 : (Lit.int .i64 a3).wf = true) :
    Calls Try.prog 3 #[.int .i64 a0, .slice A1 n1 c1, .int .i64 a2, .int .i64 a3] w fun e w' => e = .returned (.bool true) ∧ Below w.heap.size w w' := by
  have p0 := in64_wf w0
  have p3 := in64_wf w3
  have hn : n1 ≤ 140737488355328 := by omega
  clear w0 w2 w3
  have Hl := Lib.hid h1.lenS
  have C1 := Lib.hid (fun (W : World) (h : RdS W A1 n1 l1) => Who_any a0 p0 A1 n1 c1 l1 a3 p3 W h q1 hn)
  have C2 := Lib.hid (fun (W : World) (h : RdS W A1 n1 l1) => Next_any a0 p0 A1 n1 c1 l1 a2 a3 p3 W h q1 hn)
  have C3 := Lib.hid (fun (W : World) (h : RdS W A1 n1 l1) => Share_any a0 p0 A1 n1 c1 l1 a2 W h q1 hn)
  have C4 := Lib.hid (fun (W : World) (h : RdS W A1 n1 l1) => Right_any a0 p0 A1 n1 c1 l1 W h q1 hn)
  have C5 := Lib.hid (fun (W : World) (h : RdS W A1 n1 l1) => IRight_any a0 p0 A1 n1 c1 l1 W h q1 hn)
  obtain ⟨p30, p31⟩ := p3
  cases hR : rightM a0 l1
  · have e0 := checkM_no a3 hR
    rw [whoM_no (by rw [e0]; decide), e0] at C1
    rw [nextM_no a2 (by rw [e0]; decide), e0] at C2
    rw [shareM_no a2 hR] at C3
    rw [hR] at C4 C5
    clear hR e0
    go_enter Try.func3, Try.ntmps3
    go_wp2_with fail
    refine (C1.out w h1).mono ?_
    rintro e w1 ⟨rfl, hb1⟩
    go_wp2_with fail
    refine (C2.out w1 (h1.below hb1)).mono ?_
    rintro e w2 ⟨rfl, hb2⟩
    replace hb2 := bthen hb1 hb2
    go_wp2_with fail
    refine (C3.out w2 (h1.below hb2)).mono ?_
    rintro e w3 ⟨rfl, hb3⟩
    replace hb3 := bthen hb2 hb3
    go_wp2_with fail
    refine (C4.out w3 (h1.below hb3)).mono ?_
    rintro e w4 ⟨rfl, hb4⟩
    replace hb4 := bthen hb3 hb4
    go_wp2_with fail
    refine (C5.out w4 (h1.below hb4)).mono ?_
    rintro e w5 ⟨rfl, hb5⟩
    replace hb5 := bthen hb4 hb5
    go_wp2_with fail
    refine (C5.out w5 (h1.below hb5)).mono ?_
    rintro e w6 ⟨rfl, hb6⟩
    replace hb6 := bthen hb5 hb6
    go_wp2
    go_ret
    exact ⟨rfl, hb6⟩
  · obtain ⟨⟨hp1, hp2, hn4⟩, hr⟩ := rightM_true.1 hR
    have hn5 : n1 ≤ 400 := by have := Hl.out; omega
    rw [shareM_yes a2 hR] at C3
    have Hout : Hid ((a3 < 0 ∨ a3 > 1099511627776) → whoM a0 l1 a3 = (0, 2) ∧ nextM a0 l1 a2 a3 = (0, 2)) := fun ht => by
      have e0 := checkM_out hR ht
      exact ⟨by rw [whoM_no (by rw [e0]; decide), e0], by rw [nextM_no a2 (by rw [e0]; decide), e0]⟩
    have Hin : Hid (0 ≤ a3 → a3 ≤ 1099511627776 → whoM a0 l1 a3 = whoR (a3 % a0) l1 ∧ nextM a0 l1 a2 a3 = (if startsM a2 l1 = [] then (0, 3) else (nextOf a0 (startsM a2 l1) a3, 0))) := fun t0 t1 => by
      have e0 := checkM_ok hR t0 t1
      exact ⟨whoM_yes e0, by rw [nextM, if_pos e0]⟩
    have HR := Lib.hid hR
    have Hr := Lib.hid hr
    rw [hR] at C4 C5
    clear hR hr hn4
    generalize whoM a0 l1 a3 = pw at C1 Hout Hin
    generalize nextM a0 l1 a2 a3 = pn at C2 Hout Hin
    obtain ⟨x, y⟩ := pw
    obtain ⟨z, u⟩ := pn
    go_enter Try.func3, Try.ntmps3
    go_wp2_with fail
    refine (C1.out w h1).mono ?_
    rintro e w1 ⟨rfl, hb1⟩
    go_wp2_with fail
    refine (C2.out w1 (h1.below hb1)).mono ?_
    rintro e w2 ⟨rfl, hb2⟩
    replace hb2 := bthen hb1 hb2
    go_wp2_with fail
    refine (C3.out w2 (h1.below hb2)).mono ?_
    rintro e w3 ⟨rfl, hb3⟩
    replace hb3 := bthen hb2 hb3
    go_wp2_with fail
    refine (C4.out w3 (h1.below hb3)).mono ?_
    rintro e w4 ⟨rfl, hb4⟩
    replace hb4 := bthen hb3 hb4
    go_wp2_with fail
    refine (C5.out w4 (h1.below hb4)).mono ?_
    rintro e w5 ⟨rfl, hb5⟩
    replace hb5 := bthen hb4 hb5
    go_wp2_with fail
    refine (C5.out w5 (h1.below hb5)).mono ?_
    rintro e w6 ⟨rfl, hb6⟩
    replace hb6 := bthen hb5 hb6
    clear C1 C2 C3 C4 C5 hb1 hb2 hb3 hb4 hb5
    obtain ⟨V, hV⟩ : ∃ V, shareS a2 l1 = V := ⟨_, rfl⟩
    have HV := Lib.hid hV
    rw [hV]
    clear hV
    go_wp2
    go_loopw [15, 79] (fun v i wr => ∃ (k : Nat), k ≤ n1 ∧ i = .int .i64 k ∧ v = .int .i64 (shareS a2 (l1.take k)) ∧ Below w.heap.size w wr) (fun _ i _ => n1 - (intOf i).toNat)
    case atStart => exact ⟨0, Nat.zero_le _, rfl, rfl, hb6⟩
    case round =>
      obtain ⟨k, hk, rfl, rfl, hbl⟩ := hrel
      by_cases hlt : k < n1
      · obtain ⟨ad, nd, fr, lg, rfl, hx, hc0, hc1, hc2⟩ := (h1.below hbl).atS hlt
        obtain ⟨q1, q2⟩ := share_range (node := a2) (right_take Hr.out k) (by omega)
        obtain ⟨_, _, q3, q4, q5⟩ := right_mem Hr.out (List.mem_of_getElem? hx)
        simp only at q3 q4 q5
        have Ht : Hid (shareS a2 (l1.take (k + 1)) = shareS a2 (l1.take k) + (if nd = a2 then lg else 0)) := by show _ = _; rw [take_snoc hx, share_snoc]
        clear hx
        generalize shareS a2 (l1.take k) = S at q1 q2 Ht ⊢
        by_cases hnode : nd = a2
        · go_wp2
          go_roundw
          case rel => exact ⟨k + 1, by omega, by go_num, by rw [Ht.out, if_pos hnode], hbl.alloc hbl.size _⟩
          case measure => simp [intOf] <;> omega
        · go_wp2
          go_roundw
          case rel => exact ⟨k + 1, by omega, by go_num, by rw [Ht.out, if_neg hnode, Int.add_zero], hbl.alloc hbl.size _⟩
          case measure => simp [intOf] <;> omega
      · obtain rfl : k = n1 := by omega
        rw [List.take_of_length_le (by rw [Hl.out]; exact Nat.le_refl _), HV.out]
        by_cases hlo : a3 < 0
        · obtain ⟨e1, e2⟩ := Hout.out (.inl hlo)
          injection e1 with e11 e12
          injection e2 with e21 e22
          subst e11 e12 e21 e22
          clear Hout Hin
          go_wp2
          go_ret
          exact ⟨rfl, hbl⟩
        · by_cases hhi : a3 > 1099511627776
          · obtain ⟨e1, e2⟩ := Hout.out (.inr hhi)
            injection e1 with e11 e12
            injection e2 with e21 e22
            subst e11 e12 e21 e22
            clear Hout Hin
            go_wp2
            go_ret
            exact ⟨rfl, hbl⟩
          · obtain ⟨e1, e2⟩ := Hin.out (by omega) (by omega)
            have C6 := Lib.hid (fun (W : World) (h : RdS W A1 k l1) => IWho_any a0 A1 k c1 l1 a3 (by omega) (by omega) HR.out W h)
            have C7 := Lib.hid (fun (W : World) (h : RdS W A1 k l1) => INext_any a0 A1 k c1 l1 a2 a3 (by omega) (by omega) HR.out W h)
            clear Hout Hin
            have hWho : (x = 0 ∧ y = 3 ∧ iwhoM (a3 % a0) l1 = -1) ∨ (0 ≤ x ∧ y = 0 ∧ iwhoM (a3 % a0) l1 = x) := by
              cases hw : whoAt (a3 % a0) l1 with
              | none =>
                rw [whoR_none hw] at e1
                injection e1 with e11 e12
                exact .inl ⟨e11, e12, iwho_none hw⟩
              | some v =>
                rw [whoR_some hw] at e1
                injection e1 with e11 e12
                exact .inr ⟨by rw [e11]; exact (who_lo Hr.out hw).1, e12, by rw [e11]; exact iwho_some hw⟩
            have hNext : (z = 0 ∧ u = 3 ∧ inextM a0 a2 a3 (-1) l1 = -1) ∨ (0 ≤ z ∧ u = 0 ∧ inextM a0 a2 a3 (-1) l1 = z) := by
              by_cases hne : startsM a2 l1 = []
              · rw [if_pos hne] at e2
                injection e2 with e21 e22
                exact .inl ⟨e21, e22, inext_none hne⟩
              · rw [if_neg hne] at e2
                injection e2 with e21 e22
                refine .inr ⟨?_, e22, by rw [e21]; exact inext_some (by omega) HR.out hne⟩
                have := (next_range (starts_good (node := a2) HR.out) hne a3).1
                omega
            clear e1 e2
            rcases hWho with ⟨rfl, rfl, ew⟩ | ⟨hx0, rfl, ew⟩ <;> rcases hNext with ⟨rfl, rfl, en⟩ | ⟨hz0, rfl, en⟩ <;> rw [ew] at C6 <;> rw [en] at C7 <;> clear ew en
            all_goals
              go_wp2_with fail
              refine (C6.out wr (h1.below hbl)).mono ?_
              rintro e w7 ⟨rfl, hb7⟩
              replace hb7 := bthen hbl hb7
              go_wp2_with fail
              refine (C7.out w7 (h1.below hb7)).mono ?_
              rintro e w8 ⟨rfl, hb8⟩
              replace hb8 := bthen hb7 hb8
              go_wp2
              go_ret
              exact ⟨rfl, hb8⟩
end Go.Proofs.Ytpangandpabajaa
