/-
  Contract of the reference's JMake: the slots in use lie in a map. No statement of the seat is here.
-/
import Derived.Test.YtgkdjdckdomnmaaPlanRef
import Derived.Maps.OwnOps
import Derived.Maps.Views
namespace Go.Proofs.Ytgkdjdckdomnmaa
open Go.RowKit
set_option linter.unusedVariables false

theorem intKeyed : Maps.Keyed Try.prog 3 := Maps.int_keyed Try.underlying3
/-- The map's datum: a number above zero at each slot (below 64) that is in use, and at no other. -/
def Busy (D : DataW Unit) (U : Nat → Bool) : Prop := Maps.IsMap D ∧ ∀ x : Nat, ∃ v : Int, D.atKey (.int .i64 (x : Int)) (.lit (.int .i64 0)) = .lit (.int .i64 v) ∧ (0 < v ↔ x < 64 ∧ U x = true)
theorem Busy.nil : Busy (.map []) none0 := ⟨Maps.isMap_empty, fun x => ⟨0, by rw [Maps.atKey_of_not_has rfl], by simp [none0]⟩⟩
theorem Busy.same {D : DataW Unit} {U V : Nat → Bool} (h : Busy D U) (hV : ∀ j, j < 64 → V j = U j) : Busy D V :=
  ⟨h.1, fun x => by
    obtain ⟨v, h1, h2⟩ := h.2 x
    refine ⟨v, h1, h2.trans ⟨fun h3 => ⟨h3.1, by rw [hV x h3.1]; exact h3.2⟩, fun h3 => ⟨h3.1, by rw [← hV x h3.1]; exact h3.2⟩⟩⟩⟩
theorem Busy.put {D : DataW Unit} {U V : Nat → Bool} (h : Busy D U) {k : Nat} {y : Int} (hy : 0 < y) (hk : k < 64) (hV : V k = true) (ho : ∀ j, j ≠ k → V j = U j) : Busy (D.put (.int .i64 (k : Int)) (.lit (.int .i64 y))) V := by
  refine ⟨h.1.put _ _, fun x => ?_⟩
  by_cases e : x = k
  · subst e
    exact ⟨y, by rw [Maps.atKey_put_same h.1 (k := .int .i64 (x : Int)) (by simp [WideAt.IsKeyLit])], by simp [hy, hk, hV]⟩
  · obtain ⟨v, h1, h2⟩ := h.2 x
    refine ⟨v, by rw [Maps.atKey_put_other (by simp; omega), h1], ?_⟩
    rw [h2, ho x e]
theorem Busy.yes {D : DataW Unit} {U : Nat → Bool} (h : Busy D U) {x : Nat} (hx : x < 64) (hU : U x = true) : ∀ c : Int, D.atKey (.int .i64 (x : Int)) (.lit (.int .i64 0)) = .lit (.int .i64 c) → 0 < c := by
  intro c hc
  obtain ⟨v, h1, h2⟩ := h.2 x
  rw [h1] at hc
  injection hc with hc
  injection hc with _ hc
  rw [← hc]
  exact h2.2 ⟨hx, hU⟩
theorem Busy.no {D : DataW Unit} {U : Nat → Bool} (h : Busy D U) {x : Nat} (hx : x < 64 → U x = false) : ∀ c : Int, D.atKey (.int .i64 (x : Int)) (.lit (.int .i64 0)) = .lit (.int .i64 c) → c ≤ 0 := by
  intro c hc
  obtain ⟨v, h1, h2⟩ := h.2 x
  rw [h1] at hc
  injection hc with hc
  injection hc with _ hc
  rw [← hc]
  rcases Int.lt_or_le 0 v with h3 | h3
  · have := h2.1 h3
    rw [hx this.1] at this
    exact absurd this.2 (by decide)
  · exact h3
theorem key_nat (x : Nat) (hx : x ≤ 1000) : keyOf Try.prog 3 (.int .i64 (x : Int)) = some (.int .i64 (x : Int)) :=
  Maps.keyOf_int_mk Try.underlying3 (by simp [Lit.wf, IntKind.min, IntKind.max, IntKind.signed, IntKind.bits] <;> omega)
abbrev OwnsM (w : World) (b N : Nat) (D : DataW Unit) : Prop := w.ownsMap Try.prog 3 (plainElem Try.prog 3) b N D
theorem FitP_hit {d : Int} {U : Nat → Bool} {l : List Int} {k : Nat} (h : FitP d U (l.drop k)) (hx : l[k]? = some d) : ff U < 64 ∧ FitP d (mark U (ff U) d) (l.drop (k + 1)) := by
  rw [drop_cons hx, FitP, if_pos rfl] at h
  exact h
theorem FitP_miss {d p : Int} {U : Nat → Bool} {l : List Int} {k : Nat} (h : FitP d U (l.drop k)) (hx : l[k]? = some p) (hp : ¬ p = d) : FitP d U (l.drop (k + 1)) := by
  rw [drop_cons hx, FitP, if_neg hp] at h
  exact h

set_option maxRecDepth 20000 in
set_option maxHeartbeats 4000000 in
theorem JMake_any (A : Option Addr) (n c : Nat) (l : List Int) (w : World) (h : Rd w 1 A n (l.map (Value.int .i64))) (hz : jwrong l = 0) (hload : loadS l ≤ 64) :
    Calls Try.prog 14 #[.slice A n c] w fun e w' => ∃ v, e = .returned (.tuple #[v, .int .i64 0]) ∧ Ow (Value.int .i64) w' w.heap.size 3 v (makeL l) ∧ Below w.heap.size w w' := by
  have Hl := Lib.hid h.lenMap
  obtain ⟨h4, hp⟩ := jwrong_zero.1 hz
  rw [Hl.out] at h4
  have Hfit : Hid (FitAll l allDs (none0, List.replicate n 0)) := by
    have := (make_main hp hload).2
    rw [Hl.out] at this
    exact this
  have HT : Hid (makeL l = (passes l allDs (none0, List.replicate n 0)).2) := by show _ = _; rw [makeL, Hl.out]
  have hmk := run_mk elInt rfl .i64 .i64 n n (Nat.le_refl _) (by omega) (by omega)
  have ho0 := Ow.make (Value.int .i64) 0 w 3 (base := w.heap.size) n (by unfold maxLen; omega) (Nat.le_refl _)
  have Ho0 := Lib.hid ho0
  have hmm := @run_makeMap Try.prog
  have Hmade : Hid (OwnsM ((w.alloc (.cells (madeCells #[Value.int .i64 0] n) 3)).alloc (.map #[] 0)) (w.heap.size + 1) 0 (.map [])) := by
    have := World.ownsMap_made (H := Unit) (w.alloc (.cells (madeCells #[Value.int .i64 0] n) 3)) Try.prog 3 (plainElem Try.prog 3)
    exact (by simpa using this : OwnsM _ _ _ _)
  clear ho0 hp hz hload
  go_enter Try.func14, Try.ntmps14
  go_wp2
  go_loopw [6] (fun i wr => ∃ (d : Int) (ds : List Int) (s : (Nat → Bool) × List Int) (N : Nat) (D : DataW Unit), Sfx d ds ∧ i = .int .i64 d ∧ s.2.length = n ∧ OwnsM wr (w.heap.size + 1) N D ∧ Busy D s.1 ∧ (N : Int) ≤ 25600 * d ∧ Ow (Value.int .i64) wr w.heap.size 3 (.slice (some ⟨w.heap.size, 0, none⟩) n n) s.2 ∧ passes l ds s = passes l allDs (none0, List.replicate n 0) ∧ FitAll l ds s ∧ Below w.heap.size w wr) (fun i _ => 128 - (intOf i).toNat)
  case atStart => exact ⟨1, allDs, (none0, List.replicate n 0), 0, .map [], .inl ⟨rfl, rfl⟩, rfl, by simp, Hmade.out, Busy.nil, by decide, Ho0.out.alloc _, rfl, Hfit.out, ((Below.refl _ _).alloc (Nat.le_refl _) _).alloc (le_alloc (Nat.le_refl _)) _⟩
  case round =>
    obtain ⟨d, ds, s, N, D, hsf, rfl, hs2, hown, hbusy, hN, ho, hacc, hfit, hbl⟩ := hrel
    obtain ⟨d1, d2⟩ := hsf.range
    have Hacc := Lib.hid hacc; clear hacc
    have Hs2 := Lib.hid hs2; clear hs2
    have Hfit2 := Lib.hid hfit; clear hfit
    by_cases hd : d ≤ 64
    · obtain ⟨ds', e1, hsf', hpow⟩ := hsf.next hd
      have HN : Hid (passes l ds' (passM d s.1 l s.2) = passes l allDs (none0, List.replicate n 0)) := by show _ = _; rw [← Hacc.out, e1]; rfl
      have HF : Hid (FitP d s.1 l ∧ FitAll l ds' (passM d s.1 l s.2)) := by
        have := Hfit2.out
        rw [e1] at this
        exact this
      have Hsf := Lib.hid hsf'
      have HPL : Hid ((passM d s.1 l s.2).2.length = n) := by show _ = _; rw [pass_len d s.1 l s.2 (by rw [Hl.out, Hs2.out]), Hl.out]
      clear e1 hsf' hsf Hacc hpow Hfit2
      have Hst := Lib.hid (InPass.start d l s)
      generalize passM d s.1 l s.2 = T at HN HPL Hst HF
      obtain ⟨U0, F0⟩ := s
      simp only at Hs2 hbusy ho Hst HF
      have HF1 : Hid (FitP d U0 (l.drop 0)) := HF.out.1
      have HF2 := Lib.hid HF.out.2
      clear HF
      obtain ⟨q, rfl⟩ := Int.eq_ofNat_of_zero_le (show 0 ≤ d by omega)
      rename World => wo
      go_wp2
      go_loopw [21] (fun i wr => ∃ (k : Nat) (U : Nat → Bool) (acc : List Int) (N : Nat) (D : DataW Unit), k ≤ n ∧ i = .int .i64 k ∧ OwnsM wr (w.heap.size + 1) N D ∧ Busy D U ∧ (N : Int) ≤ 25600 * q + 64 * k ∧ Ow (Value.int .i64) wr w.heap.size 3 (.slice (some ⟨w.heap.size, 0, none⟩) n n) (acc ++ F0.drop k) ∧ InPass q l F0 T k U acc ∧ FitP q U (l.drop k) ∧ Below w.heap.size w wr) (fun i _ => n - (intOf i).toNat)
      case atStart => exact ⟨0, U0, [], N, D, Nat.zero_le _, rfl, hown, hbusy, by omega, by simpa using ho, Hst.out, HF1.out, hbl⟩
      case round =>
        clear ho hown hbusy hbl Hst HF1 hN
        obtain ⟨k, U, acc, N, D, hk, rfl, hown, hbusy, hN, ho, hin, hfp, hbl⟩ := hrel
        have Hin := Lib.hid hin; clear hin
        have Hfp := Lib.hid hfp; clear hfp
        have Hbusy := Lib.hid hbusy; clear hbusy
        by_cases hlt : k < n
        · obtain ⟨ad, p, rfl, hx, hc⟩ := (h.below hbl).atMap hlt
          obtain ⟨f, hf⟩ : ∃ f, F0[k]? = some f := ⟨_, List.getElem?_eq_getElem (by rw [Hs2.out]; exact hlt)⟩
          have Hat := Lib.hid (at_mid Hin.out.len hf)
          by_cases hpd : p = (q : Int)
          · subst hpd
            obtain ⟨hff, hfp2⟩ := FitP_hit Hfp.out hx
            have Hfp2 := Lib.hid hfp2
            have HI := Lib.hid (Hin.out.hit hx hf)
            have Hset := Lib.hid (set_mid (g := (ff U : Int)) Hin.out.len hf)
            have hc0 := ho.cellAt Hat.out
            have hfz := ho.freeAt k
            have Ho := Lib.hid ho
            clear hx hf hfp2 Hin Hat Hfp ho
            go_wp2
            go_loop [9] (fun i => ∃ a : Nat, a ≤ 64 ∧ i = .int .i64 a ∧ ∀ t, t < a → U t = true) (fun i => 64 - (intOf i).toNat)
            case atStart => exact ⟨0, Nat.zero_le _, rfl, fun t ht => absurd ht (Nat.not_lt_zero _)⟩
            case round =>
              obtain ⟨a, ha, rfl, hall⟩ := hrel
              have Hall := Lib.hid hall; clear hall
              have hkey := key_nat a (by omega)
              by_cases hU : a < 64 ∧ U a = true
              · have Hc := Lib.hid (Hbusy.out.yes hU.1 hU.2)
                have Hnx : Hid (∀ t, t < a + 1 → U t = true) := by
                  show ∀ t, t < a + 1 → U t = true
                  intro t ht
                  by_cases e : t = a
                  · rw [e, hU.2]
                  · exact Hall.out t (by omega)
                have hla := hU.1
                clear hU
                go_wp2_with (at_lookup; refine wpList_lookup_own_int _ rfl _ _ 41 rfl 3 3 .i64 intKeyed Try.underlying41 Try.underlying3 (Try.zeroValue3 _) (w.heap.size + 1) N D rfl hown _ _ rfl hkey ?_; intro cc hat hwc; have hpos := Hc.out cc hat; clear hat hwc)
                go_round
                case rel => exact ⟨a + 1, by omega, by go_num, Hnx.out⟩
                case measure => simp [intOf] <;> omega
              · have hUa : a < 64 → U a = false := fun h1 => by
                  cases h2 : U a
                  · rfl
                  · exact absurd ⟨h1, h2⟩ hU
                have Hc := Lib.hid (Hbusy.out.no hUa)
                have hae : ff U = a := ff_eq ha Hall.out hUa
                subst hae
                clear hU hUa Hall ha
                have hput := Lib.hid (Ho.out.put k (ff U : Int))
                rw [Hset.out] at hput
                have hmp := Lib.hid (hown.kept (grownBy_setCell wr ⟨w.heap.size, k, none⟩ (.int .i64 (ff U : Int))) (by simp))
                have hbp := Lib.hid (below_grown hbl (grownBy_setCell wr ⟨w.heap.size, k, none⟩ (.int .i64 (ff U : Int))) (Nat.le_refl _) hbl.size)
                generalize hg : ff U = g at *
                have Hg := Lib.hid hg; clear hg
                have hge : decide ((64 : Int) ≤ (g : Int)) = false := decide_eq_false (by omega)
                have Hff := Lib.hid hff; clear hff
                go_wp2_with (at_lookup; refine wpList_lookup_own_int _ rfl _ _ 41 rfl 3 3 .i64 intKeyed Try.underlying41 Try.underlying3 (Try.zeroValue3 _) (w.heap.size + 1) N D rfl hown _ _ rfl hkey ?_; intro cc hat hwc; have hneg : decide (0 < cc) = false := decide_eq_false (by have := Hc.out cc hat; omega); clear hat hwc)
                clear hown hc0 hfz hkey Hc
                generalize hw5 : wr.setCell ⟨w.heap.size, k, none⟩ (.int .i64 (g : Int)) = w5 at *
                clear hw5
                go_loopw [10] (fun i wr => ∃ (a N : Nat) (D : DataW Unit), a ≤ 128 ∧ i = .int .i64 a ∧ hits g (q : Int) a = true ∧ OwnsM wr (w.heap.size + 1) N D ∧ Busy D (upTo U g (q : Int) a) ∧ (N : Int) ≤ 25600 * q + 64 * k + a ∧ (N : Int) ≤ 25600 * q + 64 * k + 64 ∧ Ow (Value.int .i64) wr w.heap.size 3 (.slice (some ⟨w.heap.size, 0, none⟩) n n) (acc ++ [(g : Int)] ++ F0.drop (k + 1)) ∧ Below w.heap.size w wr) (fun i _ => 128 - (intOf i).toNat)
                case atStart => exact ⟨g, N, D, by have := Hff.out; omega, rfl, hits_start g _, hmp.out, Hbusy.out.same (fun j _ => upTo_start j), by omega, by omega, hput.out, hbp.out⟩
                case round =>
                  clear hmp hbp hput Hbusy hN
                  obtain ⟨a, N, D, ha, rfl, hh, hown, hbusy, hN1, hN2, ho, hbl⟩ := hrel
                  have Hh := Lib.hid hh; clear hh
                  have Hbusy := Lib.hid hbusy; clear hbusy
                  have HN1 := Lib.hid hN1; clear hN1
                  have HN2 := Lib.hid hN2; clear hN2
                  have HNm : Hid (N < maxLen) := by have := HN2.out; show N < maxLen; unfold maxLen; omega
                  by_cases hla : a < 64
                  · have hkey := key_nat a (by omega)
                    have Hwf : Hid ((Lit.int .i64 ((k : Int) + 1)).wf = true) := WalkArith.wf_i64 (by omega)
                    have Hnew : Hid (Busy (D.put (.int .i64 (a : Int)) (.lit (.int .i64 ((k : Int) + 1)))) (upTo U g (q : Int) (a + q))) := by
                      obtain ⟨e1, e2⟩ := upTo_next (U := U) (f := g) (p := (q : Int)) (a := a) (q := q) rfl Hh.out
                      exact Hbusy.out.put (by omega) hla (by rw [e1]; simp; omega) e2
                    have hz9 : decide ((a : Int) < 64) = true := decide_eq_true (by omega)
                    go_wp2_with (at_mapUpdate; refine wpList_mapUpdate_own _ rfl _ _ _ 41 rfl 3 3 intKeyed Try.underlying41 _ (w.heap.size + 1) N _ rfl hown HNm.out _ _ _ rfl rfl hkey _ [] (plainElem_int Try.underlying3 Hwf.out) ?_; intro w6 hown6 hg6)
                    go_roundw
                    case rel => exact ⟨a + q, N + 1, _, by omega, by go_num, hits_next Hh.out q rfl, hown6, Hnew.out, by have := HN1.out; omega, by have := HN1.out; omega, ho.keep hg6 (fun j hj => by simp [Value.ownBlock] at hj; simp; omega), below_grown hbl hg6 (Nat.le_succ _) hbl.size⟩
                    case measure => simp [intOf] <;> omega
                  · have hbm := Hbusy.out.same (V := mark U g (q : Int)) (upTo_end (by omega))
                    go_wp2
                    go_roundw
                    case rel => exact ⟨k + 1, mark U g (q : Int), _, N, D, by omega, by go_num, hown, hbm, by have := HN2.out; omega, ho, HI.out, Hfp2.out, hbl⟩
                    case measure => simp [intOf] <;> omega
          · have HI := Lib.hid (Hin.out.miss hx hpd hf)
            have Hset := Lib.hid (keep_mid (acc := acc) hf)
            have Hfp2 := Lib.hid (FitP_miss Hfp.out hx hpd)
            have hpd' : (p != (q : Int)) = true := by simpa using hpd
            clear hx hf Hfp
            go_wp2
            go_roundw
            case rel => exact ⟨k + 1, U, _, N, D, by omega, by go_num, hown, Hbusy.out, by omega, by rw [← Hset.out]; exact ho, HI.out, Hfp2.out, hbl⟩
            case measure => simp [intOf] <;> omega
        · obtain rfl : k = n := by omega
          obtain ⟨e1, e2⟩ := Hin.out.end_ (by rw [Hl.out]; exact Nat.le_refl _)
          rw [List.drop_eq_nil_of_le (by rw [Hs2.out]; exact Nat.le_refl _), List.append_nil] at ho
          subst e1 e2
          go_wp2
          go_roundw
          case rel => exact ⟨q * 2, ds', T, N, D, Hsf.out, by go_num, HPL.out, hown, Hbusy.out, by omega, ho, HN.out, HF2.out, hbl⟩
          case measure => simp [intOf] <;> omega
    · have hds := hsf.done (by omega)
      have H : Hid (makeL l = s.2) := by show _ = _; rw [HT.out, ← Hacc.out, hds]; rfl
      clear hds hsf
      go_wp2
      go_ret2
      exact ⟨_, rfl, by rw [H.out]; exact ho, hbl⟩
end Go.Proofs.Ytgkdjdckdomnmaa
