/-
  The contract of the reference VPlay, for arguments without a fault. No statement of the seat is here.
-/
import Derived.Test.YtaliompoknnjgaaStartPlay
namespace Go.Proofs.Ytaliompoknnjgaa
open Go.RowKit
set_option maxRecDepth 20000
set_option linter.unusedVariables false

theorem below_dn {B : Nat} {w w' : World} (h : Below B w w') (q : Nat) : Below B w (w'.drewN q) := ⟨h.os, h.tape, h.output, h.size, h.block⟩
/-- The least of the first k, the least of the others, and whose the least is. -/
def bestV (F : Nat → Nat) : Nat → Int × Int × Nat
  | 0 => (-1, -1, 0)
  | k + 1 => if (bestV F k).1 < 0 ∨ ((F k : Nat) : Int) < (bestV F k).1 then (((F k : Nat) : Int), (bestV F k).1, k) else if (bestV F k).2.1 < 0 ∨ ((F k : Nat) : Int) < (bestV F k).2.1 then ((bestV F k).1, ((F k : Nat) : Int), (bestV F k).2.2) else bestV F k
section
variable {F : Nat → Nat} {k : Nat}
theorem bestV_first (h : (bestV F k).1 < 0 ∨ ((F k : Nat) : Int) < (bestV F k).1) : bestV F (k + 1) = (((F k : Nat) : Int), (bestV F k).1, k) := by rw [bestV, if_pos h]
theorem bestV_second (h : ¬ ((bestV F k).1 < 0 ∨ ((F k : Nat) : Int) < (bestV F k).1)) (h2 : (bestV F k).2.1 < 0 ∨ ((F k : Nat) : Int) < (bestV F k).2.1) : bestV F (k + 1) = ((bestV F k).1, ((F k : Nat) : Int), (bestV F k).2.2) := by rw [bestV, if_neg h, if_pos h2]
theorem bestV_none (h : ¬ ((bestV F k).1 < 0 ∨ ((F k : Nat) : Int) < (bestV F k).1)) (h2 : ¬ ((bestV F k).2.1 < 0 ∨ ((F k : Nat) : Int) < (bestV F k).2.1)) : bestV F (k + 1) = bestV F k := by rw [bestV, if_neg h, if_neg h2]
theorem bestV_is (F : Nat → Nat) : ∀ m, (bestV F (m + 1)).1 = ((F (argm F m) : Nat) : Int) ∧ (bestV F (m + 1)).2.2 = argm F m ∧
    (((∀ v, v ≤ m → v = argm F m) ∧ (bestV F (m + 1)).2.1 = -1) ∨ ((∃ v, v ≤ m ∧ v ≠ argm F m ∧ (bestV F (m + 1)).2.1 = ((F v : Nat) : Int)) ∧ ∀ v, v ≤ m → v ≠ argm F m → (bestV F (m + 1)).2.1 ≤ ((F v : Nat) : Int)))
  | 0 => by
    refine ⟨rfl, rfl, .inl ⟨fun v hv => ?_, rfl⟩⟩
    show v = 0
    omega
  | m + 1 => by
    obtain ⟨h1, h2, h3⟩ := bestV_is F m
    have hle := argm_le F m
    have hlow := argm_least F m
    by_cases c1 : F (m + 1) < F (argm F m)
    · have ea : argm F (m + 1) = m + 1 := by rw [argm, if_pos c1]
      have e := bestV_first (F := F) (k := m + 1) (.inr (by rw [h1]; omega))
      rw [e, ea]
      refine ⟨rfl, rfl, .inr ⟨⟨argm F m, by omega, by omega, h1⟩, fun v hv hne => ?_⟩⟩
      have := hlow v (by omega)
      show (bestV F (m + 1)).1 ≤ _
      omega
    · have ea : argm F (m + 1) = argm F m := by rw [argm, if_neg c1]
      have hn : ¬ ((bestV F (m + 1)).1 < 0 ∨ ((F (m + 1) : Nat) : Int) < (bestV F (m + 1)).1) := by rw [h1]; omega
      by_cases c2 : (bestV F (m + 1)).2.1 < 0 ∨ ((F (m + 1) : Nat) : Int) < (bestV F (m + 1)).2.1
      · rw [bestV_second hn c2, ea]
        refine ⟨h1, h2, .inr ⟨⟨m + 1, Nat.le_refl _, by omega, rfl⟩, fun v hv hne => ?_⟩⟩
        show ((F (m + 1) : Nat) : Int) ≤ _
        by_cases ev : v = m + 1
        · subst ev; exact Int.le_refl _
        · rcases h3 with ⟨h3, -⟩ | ⟨⟨u, hu, hune, hus⟩, h3⟩
          · exact absurd (h3 v (by omega)) hne
          · have := h3 v (by omega) hne
            omega
      · rw [bestV_none hn c2, ea]
        refine ⟨h1, h2, ?_⟩
        rcases h3 with ⟨-, h3⟩ | ⟨⟨u, hu, hune, hus⟩, h3⟩
        · omega
        · refine .inr ⟨⟨u, by omega, hune, hus⟩, fun v hv hne => ?_⟩
          by_cases ev : v = m + 1
          · subst ev; omega
          · exact h3 v (by omega) hne
/-- The numbers are small. -/
theorem bestV_small {M : Nat} (h : ∀ j, j < k → F j ≤ M) : -1 ≤ (bestV F k).1 ∧ (bestV F k).1 ≤ M ∧ -1 ≤ (bestV F k).2.1 ∧ (bestV F k).2.1 ≤ M := by
  induction k with
  | zero => show (-1 : Int) ≤ -1 ∧ (-1 : Int) ≤ (M : Int) ∧ (-1 : Int) ≤ -1 ∧ (-1 : Int) ≤ (M : Int); omega
  | succ k ih =>
    have := ih fun j hj => h j (by omega)
    have := h k (by omega)
    rw [bestV]
    split
    · show (-1 : Int) ≤ (F k : Int) ∧ (F k : Int) ≤ (M : Int) ∧ (-1 : Int) ≤ (bestV F k).1 ∧ (bestV F k).1 ≤ (M : Int); omega
    · split
      · show (-1 : Int) ≤ (bestV F k).1 ∧ (bestV F k).1 ≤ (M : Int) ∧ (-1 : Int) ≤ (F k : Int) ∧ (F k : Int) ≤ (M : Int); omega
      · assumption
end
/-- The test at the end of a round. -/
theorem bestV_ends {m q : Nat} {f g : Nat → Nat} {i : Nat} (hq : 1 ≤ q) : (bestV (schS m q f g i) (m + 1)).1 = ((timS m q f g i : Nat) : Int) ∧ (bestV (schS m q f g i) (m + 1)).2.2 = whoS m q f g i ∧
    ((bestV (schS m q f g i) (m + 1)).2.1 < 0 ∨ (q : Int) ≤ (bestV (schS m q f g i) (m + 1)).2.1 - (timS m q f g i : Nat) ↔ ¬ Clash m q f g i) := by
  obtain ⟨h1, h2, h3⟩ := bestV_is (schS m q f g i) m
  refine ⟨h1, h2, ?_⟩
  constructor
  · rintro h ⟨v, hv, hne, hlt⟩
    rcases h3 with ⟨h3, -⟩ | ⟨⟨u, hu, hune, hus⟩, h3⟩
    · exact hne (h3 v hv)
    · have := h3 v hv hne
      omega
  · intro h
    rcases h3 with ⟨-, h3⟩ | ⟨⟨u, hu, hune, hus⟩, h3⟩
    · left; omega
    · right
      apply Classical.byContradiction
      intro hc
      exact h ⟨u, hu, hune, by omega⟩

set_option maxHeartbeats 3200000 in
theorem VPlay_any (A : Option Addr) (n c : Nat) (B : Option Addr) (c2 : Nat) (m q : Nat) (f g : Nat → Nat) (hn : n = m + 1) (G : GoodS m q f g) (w : World) (h : Rd w 1 A n ((lst m f).map (Value.int .i64))) (h2 : Rd w 1 B n ((lst m g).map (Value.int .i64))) :
    Calls Try.prog 11 #[.slice A n c, .slice B n c2, .int .i64 (q : Nat)] w fun e w' => ∃ k, Hid (EndsAt m q f g k) ∧ e = .returned (.tuple #[.int .i64 (whoS m q f g k : Nat), .int .i64 (timS m q f g k : Nat), .int .i64 k]) ∧ Below w.heap.size w w' := by
  have hm := G.few
  have hq1 := G.q1
  have hq2 := G.q2
  have Hf := Lib.hid G.on
  have Hg := Lib.hid G.w2
  have Hn := Lib.hid hn
  have Hfew := Lib.hid (fun (i : Nat) (hi : ∀ j, j < i → Clash m q f g j) => G.few_ hi)
  have Htim := Lib.hid G.tim_le
  have Hfr := Lib.hid G.fr_le
  have Hsch := Lib.hid (fun (i k : Nat) (hk : k ≤ m) => G.sch_le (i := i) hk)
  have hn17 : n ≤ 16 := by omega
  have hn0 : 0 < n := by omega
  clear hn G
  go_enter Try.func11, Try.ntmps11
  go_wp2_with (at_builtin; go_must (refine wpList_apW (Value.int .i64) _ elInt rfl rfl (one_int .i64) w.heap.size (.slice (some ⟨w.heap.size, 0, none⟩) 0 0) [] rfl (Ow.empty (Value.int .i64) _ _ (Nat.le_refl _)) _ _ _ (lst m f) rfl (h.alloc _) (le_alloc (Nat.le_refl _)) (by simp <;> omega) (by omega) ?_; intro v1 w1 ho1 hm1))
  have hb1 : Below w.heap.size w w1 := hm1.below ((Below.refl _ _).alloc (Nat.le_refl _) _) (le_alloc (Nat.le_refl _)) (new_block (Nat.le_refl _))
  rw [List.nil_append] at ho1
  have hnl : (lst m f).length = n := by rw [lst_len]; exact Hn.out.symm
  obtain ⟨A1, c1, rfl, -, -, -⟩ := ho1.formN hnl
  obtain ⟨gb, c', hv, hgb0, -⟩ := ho1.head (by rw [hnl]; exact hn0)
  injection hv with hA hN hC
  subst hA hC
  clear hN hnl hm1 hgb0
  go_loopw [10] (fun z wr => ∃ i : Nat, z = .int .i64 i ∧ Hid (∀ j, j < i → Clash m q f g j) ∧ Ow (Value.int .i64) wr w.heap.size 3 (.slice (some ⟨gb, 0, none⟩) n c1) (frL m q f g i) ∧ Below w.heap.size w wr) (fun z _ => 100 - (intOf z).toNat)
  case atStart => exact ⟨0, rfl, fun j hj => absurd hj (Nat.not_lt_zero _), ho1, hb1⟩
  case round =>
    clear ho1 hb1
    rename World => wo
    obtain ⟨i, rfl, Hc, hown, hbl⟩ := hrel
    have hi : i < 32 := by have := Hfew.out i Hc.out; omega
    have Hends := Lib.hid (bestV_ends (m := m) (q := q) (f := f) (g := g) (i := i) hq1)
    have hT := Htim.out i
    have Hsm := Lib.hid (fun (k : Nat) (hk : k ≤ n) => bestV_small (F := schS m q f g i) (k := k) (M := 50000000) (fun j hj => by have := Hsch.out i j (by have := Hn.out; omega); omega))
    obtain ⟨T, hTe⟩ : ∃ T, timS m q f g i = T := ⟨_, rfl⟩
    have Hsucc := Lib.hid (frS_succ m q f g i)
    rw [hTe] at hT Hends Hsucc
    have hT2 : T ≤ 50000000 := by omega
    clear hT
    have HF := Lib.hid (fun k => show schS m q f g i k = frS m q f g i k + g k from rfl)
    obtain ⟨F, hF⟩ : ∃ F, schS m q f g i = F := ⟨_, rfl⟩
    rw [hF] at Hsm HF Hends
    clear hF
    have HTe := Lib.hid hTe
    clear hTe
    go_wp2
    go_loopw [11, 12, 13, 24] (fun a b d z wr => ∃ (k : Nat) (l s : Int) (v : Nat), k ≤ n ∧ z = .int .i64 k ∧ a = .int .i64 l ∧ b = .int .i64 s ∧ d = .int .i64 v ∧ Hid (bestV F k = (l, s, v)) ∧ Ow (Value.int .i64) wr w.heap.size 3 (.slice (some ⟨gb, 0, none⟩) n c1) (frL m q f g i) ∧ Below w.heap.size w wr) (fun _ _ _ z _ => n - (intOf z).toNat)
    case atStart => exact ⟨0, -1, -1, 0, Nat.zero_le _, rfl, rfl, rfl, rfl, rfl, hown, hbl⟩
    case round =>
      clear hown hbl
      obtain ⟨k, l, s, v, hk, rfl, rfl, rfl, rfl, HP, hown, hbl⟩ := hrel
      by_cases hlt : k < n
      · have hkm : k ≤ m := by have := Hn.out; omega
        obtain ⟨ad, x, hAd, hx, hc⟩ := hown.rd.atMap hlt
        injection hAd with hAd
        subst hAd
        obtain ⟨aw, y, rfl, hy, hd⟩ := (h2.below hbl).atMap hlt
        rw [frL, lst_at hkm] at hx
        rw [lst_at hkm] at hy
        injection hx with hx
        injection hy with hy
        subst hx hy
        replace hc : wr.cell? ⟨gb, k, none⟩ = some (.int .i64 ((frS m q f g i k : Nat) : Int)) := hown.cellAt (lst_at hkm)
        have b1 := Hfr.out i k hkm
        have b2 := Hg.out k hkm
        have hFk := HF.out k
        obtain ⟨s1, s2, s3, s4⟩ := Hsm.out k hk
        have N1 := bestV_first (F := F) (k := k)
        have N2 := bestV_second (F := F) (k := k)
        have N3 := bestV_none (F := F) (k := k)
        rw [HP.out] at s1 s2 s3 s4 N1 N2 N3
        simp only [] at s1 s2 s3 s4 N1 N2 N3
        rw [hFk] at N1 N2 N3
        have Hown := Lib.hid hown
        clear hown Hends Hsm HP HF hFk Hfr Hf Hg Hsch Htim Hfew h h2 Hsucc HTe Hc
        generalize frS m q f g i k = X at *
        generalize g k = Y at *
        by_cases k1 : l < 0
        · have Hs := Lib.hid (N1 (.inl k1))
          clear N1 N2 N3
          go_wp2
          go_quiet (fail)
          go_wp2
          go_roundw
          case rel => exact ⟨k + 1, ((X + Y : Nat) : Int), l, k, by omega, by go_num, int_eq (by omega), rfl, rfl, Hs, Hown.out, below_dn hbl _⟩
          case measure => simp [intOf] <;> omega
        by_cases k2 : (X : Int) + (Y : Int) < l
        · have Hs := Lib.hid (N1 (.inr (by omega)))
          have hd2 : decide ((X : Int) + (Y : Int) < l) = true := decide_eq_true k2
          clear N1 N2 N3
          go_wp2
          go_quiet (fail)
          go_wp2
          go_roundw
          case rel => exact ⟨k + 1, ((X + Y : Nat) : Int), l, k, by omega, by go_num, int_eq (by omega), rfl, rfl, Hs, Hown.out, below_dn hbl _⟩
          case measure => simp [intOf] <;> omega
        have hno : ¬ (l < 0 ∨ ((X + Y : Nat) : Int) < l) := by omega
        have hd2 : decide ((X : Int) + (Y : Int) < l) = false := decide_eq_false k2
        by_cases k3 : s < 0
        · have Hs := Lib.hid (N2 hno (.inl k3))
          clear hno
          clear N1 N2 N3
          go_wp2
          go_quiet (fail)
          go_wp2
          go_roundw
          case rel => exact ⟨k + 1, l, ((X + Y : Nat) : Int), v, by omega, by go_num, rfl, int_eq (by omega), rfl, Hs, Hown.out, below_dn hbl _⟩
          case measure => simp [intOf] <;> omega
        by_cases k4 : (X : Int) + (Y : Int) < s
        · have Hs := Lib.hid (N2 hno (.inr (by omega)))
          have hd4 : decide ((X : Int) + (Y : Int) < s) = true := decide_eq_true k4
          clear hno
          clear N1 N2 N3
          go_wp2
          go_quiet (fail)
          go_wp2
          go_roundw
          case rel => exact ⟨k + 1, l, ((X + Y : Nat) : Int), v, by omega, by go_num, rfl, int_eq (by omega), rfl, Hs, Hown.out, below_dn hbl _⟩
          case measure => simp [intOf] <;> omega
        · have Hs := Lib.hid (N3 hno (by omega))
          have hd4 : decide ((X : Int) + (Y : Int) < s) = false := decide_eq_false k4
          clear hno
          clear N1 N2 N3
          go_wp2
          go_quiet (fail)
          go_wp2
          go_roundw
          case rel => exact ⟨k + 1, l, s, v, by omega, by go_num, rfl, rfl, rfl, Hs, Hown.out, below_dn hbl _⟩
          case measure => simp [intOf] <;> omega
      · obtain ⟨s1, s2, s3, s4⟩ := Hsm.out k hk
        obtain ⟨e1, e2, e3⟩ := Hends.out
        have hkn : k = m + 1 := by have := Hn.out; omega
        have hP := HP.out
        rw [hkn] at hP s1 s2 s3 s4
        rw [hP] at e1 e2 e3 s1 s2 s3 s4
        simp only [] at e1 e2 e3 s1 s2 s3 s4
        subst e1 e2
        obtain rfl : k = n := by omega
        have He3 := Lib.hid e3
        clear Hends Hsm HP HF hP e3 h2 hkn
        by_cases hcl : Clash m q f g i
        · have hnt : ¬ (s < 0 ∨ (q : Int) ≤ s - (T : Nat)) := fun h => He3.out.1 h hcl
          have k1 : ¬ s < 0 := fun h => hnt (.inl h)
          have hd1 : decide ((q : Int) ≤ s - (T : Int)) = false := decide_eq_false fun h => hnt (.inr h)
          have Hc2 : Hid (∀ j, j < i + 1 → Clash m q f g j) := fun j hj => by
            by_cases e : j = i
            · subst e; exact hcl
            · exact Hc.out j (by omega)
          have Hnn : Hid (∀ j, j ≤ m → j < k) := fun j hj => by have := Hn.out; omega
          have hkm : k ≤ m + 1 := Nat.le_of_eq Hn.out
          clear hnt hcl He3 Hc HTe
          go_wp2
          go_loopw [71] (fun z wr => ∃ a : Nat, a ≤ k ∧ z = .int .i64 a ∧ Ow (Value.int .i64) wr w.heap.size 3 (.slice (some ⟨gb, 0, none⟩) k c1) (lst m fun j => if j < a then frS m q f g (i + 1) j else frS m q f g i j) ∧ Below w.heap.size w wr) (fun z _ => k - (intOf z).toNat)
          case atStart =>
            refine ⟨0, Nat.zero_le _, rfl, ?_, hbl⟩
            rw [lst_congr (g := frS m q f g i) fun j hj => by rw [if_neg (by omega)]]
            exact hown
          case round =>
            clear hown hbl
            obtain ⟨a, ha, rfl, hown, hbl⟩ := hrel
            by_cases hla : a < k
            · have ham : a ≤ m := by omega
              obtain ⟨ad, x, rfl, hx, hc⟩ := (h.below hbl).atMap hla
              rw [lst_at ham] at hx
              injection hx with hx
              subst hx
              obtain ⟨gb', c', hv, hgb, -⟩ := hown.head (by rw [lst_len]; omega)
              injection hv with hA hN hC
              injection hA with hA
              injection hA with hA
              subst hA hC
              clear hN
              have hfr := hown.freeAt a
              have hat := hown.cellAt (lst_at (f := fun j => if j < a then frS m q f g (i + 1) j else frS m q f g i j) ham)
              have hs1 := Hsucc.out a
              by_cases hon : f a ≤ T
              · have hv : frS m q f g (i + 1) a = T + q := by rw [hs1, if_pos hon]
                have hp := hown.put a ((T : Int) + q)
                rw [lst_put (g := fun j => if j < a + 1 then frS m q f g (i + 1) j else frS m q f g i j) ham (by rw [if_pos (by omega), hv]; omega) (fun j hj hne => by
                  by_cases e : j < a
                  · rw [if_pos e, if_pos (by omega)]
                  · rw [if_neg e, if_neg (by omega)])] at hp
                have hbp := hbl.setCell (p := ⟨gb, a, none⟩) hgb (.int .i64 ((T : Int) + q))
                clear hown hs1 hv hbl Hsucc h
                generalize f a = X at *
                go_wp2
                go_roundw
                case rel => exact ⟨a + 1, by omega, by go_num, hp, hbp⟩
                case measure => simp [intOf] <;> omega
              · have hv : frS m q f g (i + 1) a = frS m q f g i a := by rw [hs1, if_neg hon]
                rw [lst_congr (g := fun j => if j < a + 1 then frS m q f g (i + 1) j else frS m q f g i j) (fun j hj => by
                  by_cases e : j < a
                  · rw [if_pos e, if_pos (by omega)]
                  · rw [if_neg e]
                    by_cases e2 : j = a
                    · subst e2; rw [if_pos (by omega), hv]
                    · rw [if_neg (by omega)])] at hown
                clear hat hs1 hv Hsucc h hfr
                generalize f a = X at *
                go_wp2
                go_roundw
                case rel => exact ⟨a + 1, by omega, by go_num, hown, hbl⟩
                case measure => simp [intOf] <;> omega
            · obtain rfl : a = k := by omega
              rw [lst_congr (g := frS m q f g (i + 1)) fun j hj => by rw [if_pos (Hnn.out j hj)]] at hown
              have Ho : Hid (Ow (Value.int .i64) wr w.heap.size 3 (.slice (some ⟨gb, 0, none⟩) a c1) (frL m q f g (i + 1))) := hown
              clear hown h Hsucc
              go_wp2
              go_roundw
              case rel => exact ⟨i + 1, by go_num, Hc2, Ho.out, hbl⟩
              case measure => simp [intOf] <;> omega
        · have htt := He3.out.2 hcl
          have HE : Hid (EndsAt m q f g i) := ⟨Hc.out, hcl⟩
          clear hcl He3 Hsucc hown h Hfr
          by_cases k1 : s < 0
          · clear htt
            go_wp2
            try simp only [Exit.inBlock, Exit.then]
            refine bodyPost_ret (results_tmp3 rfl _ _ _) rfl ⟨i, HE, ?_, hbl⟩
            rw [HTe.out]
            rfl
          · have hd1 : decide ((q : Int) ≤ s - (T : Int)) = true := decide_eq_true (by omega)
            clear htt
            go_wp2
            try simp only [Exit.inBlock, Exit.then]
            refine bodyPost_ret (results_tmp3 rfl _ _ _) rfl ⟨i, HE, ?_, hbl⟩
            rw [HTe.out]
            rfl
end Go.Proofs.Ytaliompoknnjgaa
