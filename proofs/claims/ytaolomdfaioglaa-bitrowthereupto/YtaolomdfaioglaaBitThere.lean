/-
  BitrowThere's walk.
-/
import Derived.Test.YtaolomdfaioglaaBitLaws
namespace Go.Proofs.Ytaolomdfaioglaa
open Go.RowKit
set_option linter.unusedVariables false

set_option maxHeartbeats 1000000 in
theorem BitrowThere_walk (A0 : Option Addr) (n0 c0 : Nat) (l0 : List Int) (A1 : Option Addr) (n1 c1 : Nat) (l1 : List Int) (w : World)
    (h0 : Rd w 1 A0 n0 (l0.map (Value.int .i64))) (w0 : ∀ x ∈ l0, (Lit.int .i64 x).wf = true) (k0 : n0 ≤ c0) (b0 : c0 ≤ 1048576)
    (h1 : Rd w 1 A1 n1 (l1.map (Value.int .i64))) (w1 : ∀ x ∈ l1, (Lit.int .i64 x).wf = true) (k1 : n1 ≤ c1) (b1 : c1 ≤ 1048576) :
    Calls Try.prog 7 #[.slice A0 n0 c0, .slice A1 n1 c1] w fun e w' => e = .returned (.bool true) ∧ Below w.heap.size w w' := by
  clear w0 w1
  go_enter Try.func7, Try.ntmps7
  go_wp2_with fail
  refine (alive1_any _).mono ?_
  rintro e wa ⟨rfl, hba⟩
  go_wp2_with fail
  by_cases hnn : n0 = n1
  · subst hnn
    have hlen : l0.length = l1.length := h0.lenMap.trans h1.lenMap.symm
    refine (Pack_any A0 A1 n0 c0 c1 l0 l1 _ (h0.below hba) (h1.below hba) (by omega)).mono ?_
    rintro e wb ⟨v2, rfl, ho2, hb2⟩
    have hb := bthen hba hb2
    by_cases hok : (packM l0 l1).2 = 0
    · obtain ⟨l, hpk⟩ : ∃ l, packM l0 l1 = (l, 0) := ⟨_, Prod.ext rfl hok⟩
      have hu1 := unpack_ext [] l0 l1 l hlen hpk
      have hu2 := unpack_ext [true] l0 l1 l hlen hpk
      have hu3 := unpack_cut l0 l1 l hlen hpk
      have hpl := packM_len l0 l1 l hpk
      rw [h0.lenMap] at hpl
      simp only [List.append_nil, if_true] at hu1
      rw [if_neg (by simp)] at hu2
      rw [hpk] at ho2 ⊢
      simp only at ho2 ⊢
      clear hok hpk hlen
      obtain ⟨A2, c2, rfl, hc2, _⟩ := ho2.form
      have hr2 := ho2.rd
      have hc3 : c2 ≤ 9223372036854775807 := by have := ho2.len.2.2; unfold maxLen at this; omega
      clear ho2
      go_wp2_with fail
      refine (Unpack_any A0 A2 n0 c0 l.length c2 l0 l _ (h0.below hb) hr2 hc2 (by omega) hc3).mono ?_
      intro e wc hh
      rw [hu1] at hh
      simp only at hh
      obtain ⟨v3, rfl, ho3, hb3⟩ := hh
      obtain ⟨A3, c3, rfl, hc3', _⟩ := ho3.form
      have hr3 := ho3.rd
      go_wp2_with fail
      refine (Clone_any A2 l.length c2 l _ (hr2.below hb3) (by omega)).mono ?_
      rintro e wd ⟨v4, rfl, ho4, hb4⟩
      go_wp2_with (at_builtin; go_must (refine wpList_apM Value.bool _ elBool rfl rfl one_bool wc.heap.size v4 l rfl (ho4.alloc _) _ 1 1 _ rfl (Rd.oneM Value.bool _ _ _) (le_alloc hb4.size) (by omega) (by omega) ?_; intro v5 we ho5 hm5))
      have hb5 : Below wc.heap.size wc we := hm5.below (hb4.alloc hb4.size _) (le_alloc hb4.size) ho4.block
      obtain ⟨A5, c5, rfl, hc5, _⟩ := ho5.form
      have hr5 := ho5.rd
      have hc5' : c5 ≤ 9223372036854775807 := by have := ho5.len.2.2; unfold maxLen at this; omega
      have hbe := bthen (bthen hb hb3) hb5
      rw [List.length_append, List.length_singleton] at hr5 hc5 ⊢
      clear ho5 hm5 ho4 hb4
      go_wp2_with fail
      refine (Unpack_any A0 A5 n0 c0 (l.length + 1) c5 l0 (l ++ [true]) _ (h0.below hbe) hr5 hc5 (by omega) hc5').mono ?_
      intro e wf hh
      rw [hu2] at hh
      simp only at hh
      obtain ⟨v6, rfl, _, hb6⟩ := hh
      have hbf := bthen hbe hb6
      have hr3f := (hr3.below hb5).below hb6
      go_wp2_with fail
      refine (EqualI_any A3 A1 _ c3 n0 c1 l1 l1 _ hr3f (h1.below hbf) (by rw [h1.lenMap]; omega)).mono ?_
      rintro e wg ⟨rfl, hq⟩
      rw [show decide (l1 = l1) = true by simp]
      have hbg := bthen hbf (below_draws hq)
      have hr2g := (((hr2.below hb3).below hb5).below hb6).below (below_draws hq)
      rcases Nat.eq_zero_or_pos l.length with hz | hz
      · rw [hz]
        go_wp2
        go_ret
        exact ⟨rfl, hbg⟩
      · have hu3' := hu3 (by intro e; subst e; simp at hz)
        have htk := hr2g.take (k := l.length - 1) (by omega)
        rw [Nat.mul_one, ← List.map_take] at htk
        have hz0 : ((l.length : Int) == 0) = false := by simp; intro e; subst e; simp at hz
        have hn1 : 0 ≤ (l.length : Int) - 1 := by omega
        have hn2 : ((l.length : Int) - 1).toNat = l.length - 1 := by omega
        clear hu1 hu2 hu3 hr3 hr3f hr2g hr5 hq hr2
        go_wp2_with fail
        refine (Unpack_any A0 A2 n0 c0 (l.length - 1) c2 l0 _ _ (h0.below hbg) htk (by omega) (by omega) hc3).mono ?_
        intro e wh hh
        rw [hu3'] at hh
        simp only at hh
        obtain ⟨v7, rfl, _, hb7⟩ := hh
        go_wp2
        go_ret
        exact ⟨rfl, bthen hbg hb7⟩
    · have he := pack_err l0 l1 hok
      rw [he] at ho2
      obtain ⟨A2, c2, rfl, hc2, _⟩ := ho2.form
      have hne : ((packM l0 l1).2 != 0) = true := by rw [bne_iff_ne]; exact hok
      clear he hok
      generalize (packM l0 l1).2 = er at *
      rw [List.length_nil]
      go_wp2
      go_ret
      exact ⟨rfl, hb⟩
  · refine (Pack_len A0 A1 n0 c0 n1 c1 _ hnn).mono ?_
    rintro e wb ⟨rfl, rfl⟩
    go_wp2
    go_ret
    exact ⟨rfl, hba⟩
end Go.Proofs.Ytaolomdfaioglaa
