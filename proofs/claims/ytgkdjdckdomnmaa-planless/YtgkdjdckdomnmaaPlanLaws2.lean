/-
  The walks of PlanShift and PlanLess: each returns true, at every argument.
-/
import Derived.Test.YtgkdjdckdomnmaaPlanLaws
import Derived.Test.YtgkdjdckdomnmaaSlicesI
import Derived.Test.YtgkdjdckdomnmaaRegionP
import Derived.Deep.CutBlock
import Derived.Deep.DeepCutAuto
namespace Go.Proofs.Ytgkdjdckdomnmaa
open Go.RowKit
set_option linter.unusedVariables false

theorem rem_nn {t P : Int} (h : 0 ≤ t) : t.tmod P = t % P := Int.tmod_eq_emod_of_nonneg h
theorem right_at {U : Nat → Bool} {l F : List Int} {k : Nat} {p f : Int} (h : rightF U l F = true) (hp : l[k]? = some p) (hf : F[k]? = some f) : 0 ≤ f ∧ f < p := by
  induction l generalizing F U k with
  | nil => simp at hp
  | cons x r ih =>
    cases F with
    | nil => simp at hf
    | cons g fs =>
      rw [rightF, Bool.and_eq_true, Bool.and_eq_true, decide_eq_true_eq] at h
      cases k with
      | zero =>
        simp at hp hf
        subst hp hf
        exact h.1
      | succ k => exact ih h.2.2 (by simpa using hp) (by simpa using hf)
theorem shift_snoc {b p f : Int} {l F : List Int} (hl : l.length = F.length) : shiftM b (l ++ [p]) (F ++ [f]) = shiftM b l F ++ [(f + b) % p] := by
  induction l generalizing F with
  | nil => cases F with
    | nil => rfl
    | cons g fs => simp at hl
  | cons x r ih =>
    cases F with
    | nil => simp at hl
    | cons g fs => simp only [List.cons_append, shiftM]; rw [ih (by simpa using hl)]
theorem inR_snoc {d p f : Int} {l F : List Int} (hl : l.length = F.length) (h : inR d l F) (hpf : 0 ≤ f ∧ f < p) : inR d (l ++ [p]) (F ++ [f]) := by
  induction l generalizing F with
  | nil => cases F with
    | nil => exact ⟨fun _ => hpf, trivial⟩
    | cons g fs => simp at hl
  | cons x r ih =>
    cases F with
    | nil => simp at hl
    | cons g fs => exact ⟨h.1, ih (by simpa using hl) h.2⟩
theorem shift_len {b : Int} {l F : List Int} (hl : l.length = F.length) : (shiftM b l F).length = F.length := by
  induction l generalizing F with
  | nil => cases F with
    | nil => rfl
    | cons g fs => simp at hl
  | cons x r ih =>
    cases F with
    | nil => simp at hl
    | cons g fs => simp [shiftM, ih (by simpa using hl)]
/-- What the slice holds once its first k numbers are shifted. -/
def shiftTo (b : Int) (l F : List Int) (k : Nat) : List Int := shiftM b (l.take k) (F.take k) ++ F.drop k
theorem shiftTo_at {b : Int} {l F : List Int} {k : Nat} {f : Int} (hl : l.length = F.length) (hf : F[k]? = some f) : (shiftTo b l F k)[k]? = some f := by
  have hk := (List.getElem?_eq_some_iff.1 hf).1
  have h1 : (shiftM b (l.take k) (F.take k)).length = k := by rw [shift_len (by simp [hl])]; simp; omega
  unfold shiftTo
  rw [List.getElem?_append_right (by omega), h1, Nat.sub_self, drop_cons hf]; rfl
theorem shiftTo_set {b : Int} {l F : List Int} {k : Nat} {p f : Int} (hl : l.length = F.length) (hp : l[k]? = some p) (hf : F[k]? = some f) : (shiftTo b l F k).set k ((f + b) % p) = shiftTo b l F (k + 1) := by
  have hk := (List.getElem?_eq_some_iff.1 hf).1
  have h1 : (shiftM b (l.take k) (F.take k)).length = k := by rw [shift_len (by simp [hl])]; simp; omega
  unfold shiftTo
  rw [List.set_append_right _ _ (by omega), h1, Nat.sub_self, drop_cons hf, List.set_cons_zero, take_snoc hp, take_snoc hf, shift_snoc (by simp [hl]), List.append_assoc]; rfl

set_option maxHeartbeats 1600000 in
theorem PlanShift_walk (A0 : Option Addr) (n0 c0 : Nat) (l0 : List Int) (A1 : Option Addr) (n1 c1 : Nat) (l1 : List Int) (a2 : Int) (w : World) (h0 : Rd w 1 A0 n0 (l0.map (Value.int .i64))) (q0 : ∀ x ∈ l0, (Lit.int .i64 x).wf = true) (k0 : n0 ≤ c0) (b0 : c0 * 8 ≤ 140737488351232)
    (h1 : Rd w 1 A1 n1 (l1.map (Value.int .i64))) (q1 : ∀ x ∈ l1, (Lit.int .i64 x).wf = true) (k1 : n1 ≤ c1) (b1 : c1 * 8 ≤ 140737488351232) (w2 : (Lit.int .i64 a2).wf = true) :
    Calls Try.prog 6 #[.slice A0 n0 c0, .slice A1 n1 c1, .int .i64 a2] w fun e w' => e = .returned (.bool true) ∧ Below w.heap.size w w' := by
  have hL := in64s_wf q0
  have hF := in64s_wf q1
  obtain ⟨a20, a21⟩ := in64_wf w2
  have hn : n0 ≤ 140737488355328 := by omega
  have hm : n1 ≤ 140737488355328 := by omega
  have Hl := Lib.hid h0.lenMap
  have Hf := Lib.hid h1.lenMap
  have C0 := Lib.hid (alive10_any w)
  have C1 := Lib.hid (fun (W : World) (h : Rd W 1 A0 n0 (l0.map (Value.int .i64))) (h' : Rd W 1 A1 n1 (l1.map (Value.int .i64))) => Right_any A0 n0 c0 l0 A1 n1 c1 l1 W h hL hn h' hF hm)
  clear q0 q1 w2
  rcases right_cases l0 l1 with ⟨hx, hr⟩ | ⟨he, hz, hlen, hr⟩
  · rw [hr] at C1
    have hx' : (rightE l0 l1 != 0) = true := by simpa using hx
    clear hx hr
    generalize rightE l0 l1 = x at C1 hx'
    go_enter Try.func6, Try.ntmps6
    go_wp2_with fail
    refine C0.out.mono ?_
    rintro e w1 ⟨rfl, hb1⟩
    go_wp2_with fail
    refine (C1.out w1 (h0.below hb1) (h1.below hb1)).mono ?_
    rintro e w2 ⟨rfl, hb2⟩
    go_wp2
    go_ret
    exact ⟨rfl, bthen hb1 hb2⟩
  · rw [hr, he] at C1
    obtain ⟨h4, hp⟩ := jwrong_zero.1 hz
    by_cases g0 : a2 < 0
    · clear hr he hz hlen hp h4
      generalize rightF none0 l0 l1 = R at C1
      go_enter Try.func6, Try.ntmps6
      go_wp2_with fail
      refine C0.out.mono ?_
      rintro e w1 ⟨rfl, hb1⟩
      go_wp2_with fail
      refine (C1.out w1 (h0.below hb1) (h1.below hb1)).mono ?_
      rintro e w2 ⟨rfl, hb2⟩
      go_wp2
      go_ret
      exact ⟨rfl, bthen hb1 hb2⟩
    · by_cases g1 : a2 > 1000
      · clear hr he hz hlen hp h4
        generalize rightF none0 l0 l1 = R at C1
        go_enter Try.func6, Try.ntmps6
        go_wp2_with fail
        refine C0.out.mono ?_
        rintro e w1 ⟨rfl, hb1⟩
        go_wp2_with fail
        refine (C1.out w1 (h0.below hb1) (h1.below hb1)).mono ?_
        rintro e w2 ⟨rfl, hb2⟩
        go_wp2
        go_ret
        exact ⟨rfl, bthen hb1 hb2⟩
      · obtain rfl : n0 = n1 := by rw [← Hl.out, ← Hf.out]; exact hlen
        rw [Hl.out] at h4
        obtain ⟨b, rfl⟩ := Int.eq_ofNat_of_zero_le (show 0 ≤ a2 by omega)
        have C2 := Lib.hid (fun (W : World) (h : Rd W 1 A0 n0 (l0.map (Value.int .i64))) => Wrong_any A0 n0 c0 l0 W h hL hn)
        rw [hz] at C2
        have C3 := Lib.hid (fun (W : World) (h : Rd W 1 A1 n0 (l1.map (Value.int .i64))) => CloneI_any A1 n0 c1 l1 W h (by omega))
        have hshn := shift_len (b := (b : Int)) hlen
        have hin3 : in64s (shiftM b l0 l1) := by
          have key : ∀ (l F : List Int), Pows l → ∀ x ∈ shiftM b l F, 0 ≤ x ∧ x < 64 := by
            intro l
            induction l with
            | nil => intro F _ x hx; cases F <;> simp [shiftM] at hx
            | cons p r ih =>
              intro F hp x hx
              cases F with
              | nil => simp [shiftM] at hx
              | cons f fs =>
                have hpr := (hp p (by simp)).range
                rw [shiftM] at hx
                rcases List.mem_cons.1 hx with rfl | hx
                · have e0 := Int.emod_nonneg (f + b) (show p ≠ 0 by omega)
                  have e1 := Int.emod_lt_of_pos (f + b) (show 0 < p by omega)
                  omega
                · exact ih fs (fun q hq => hp q (by simp [hq])) x hx
          exact in64_small (key l0 l1 hp)
        have C4 := Lib.hid (fun (W : World) (B : Option Addr) (d : Nat) (h : Rd W 1 A0 n0 (l0.map (Value.int .i64))) (h' : Rd W 1 B n0 ((shiftM b l0 l1).map (Value.int .i64))) => Right_any A0 n0 c0 l0 B n0 d (shiftM b l0 l1) W h hL hn h' hin3 hn)
        rw [rightR_yes hz (hlen.trans hshn.symm), rightE_yes hz (hlen.trans hshn.symm)] at C4
        have Hsh : Hid (inR 128 l0 l1 → rightF none0 l0 (shiftM b l0 l1) = rightF none0 l0 l1) := fun hi => right_shift hp hi b
        have Hat : Hid (∀ (k : Nat) (p f : Int), l0[k]? = some p → l1[k]? = some f → rightF none0 l0 l1 = true → 0 ≤ f ∧ f < p) := fun k p f h1 h2 h3 => right_at h3 h1 h2
        have Hp := Lib.hid hp
        have Hlen := Lib.hid hlen
        clear hr he hz hlen hp hshn hin3
        generalize rightF none0 l0 l1 = R at C1 Hsh Hat
        go_enter Try.func6, Try.ntmps6
        go_wp2_with fail
        refine C0.out.mono ?_
        rintro e w1 ⟨rfl, hb1⟩
        go_wp2_with fail
        refine (C1.out w1 (h0.below hb1) (h1.below hb1)).mono ?_
        rintro e w2 ⟨rfl, hb2⟩
        have hB2 := bthen hb1 hb2
        go_wp2_with fail
        refine (C2.out w2 (h0.below hB2)).mono ?_
        rintro e w2' ⟨rfl, rfl⟩
        go_wp2_with fail
        refine (C3.out w2 (h1.below hB2)).mono ?_
        rintro e w3 ⟨v, rfl, ho, hb3⟩
        obtain ⟨B, d, rfl, _, _, hrB⟩ := ho.formN Hf.out
        have hB3 := bthen hB2 hb3
        have hs2 := hB2.size
        clear hb1 hb2 hb3 hrB
        go_wp2
        go_loopw [40] (fun i wr => ∃ (k : Nat), k ≤ n0 ∧ i = .int .i64 k ∧ Ow (Value.int .i64) wr w2.heap.size 3 (.slice B n0 d) (shiftTo b l0 l1 k) ∧ inR 128 (l0.take k) (l1.take k) ∧ Below w.heap.size w wr) (fun i _ => n0 - (intOf i).toNat)
        case atStart => exact ⟨0, Nat.zero_le _, rfl, ho, trivial, hB3⟩
        case round =>
          clear ho hB3
          obtain ⟨k, hk, rfl, ho, hin, hbl⟩ := hrel
          have Hin := Lib.hid hin; clear hin
          by_cases hlt : k < n0
          · obtain ⟨ad, p, rfl, hx, hc⟩ := (h0.below hbl).atMap hlt
            obtain ⟨f, hf⟩ : ∃ f, l1[k]? = some f := ⟨_, List.getElem?_eq_getElem (by rw [Hf.out]; exact hlt)⟩
            obtain ⟨f1, f2⟩ := hF f (List.mem_of_getElem? hf)
            obtain ⟨p1, p2⟩ := (Hp.out p (List.mem_of_getElem? hx)).range
            have hsl : (shiftTo b l0 l1 k).length = n0 := ho.len.1.symm
            obtain ⟨g, c', hv, hg, _, _⟩ := ho.head (by rw [hsl]; omega)
            injection hv with hv1 hv2 hv3
            subst hv1
            have hc1 := ho.cellAt (shiftTo_at Hlen.out hf)
            have hfz := ho.freeAt k
            have HA := Lib.hid (Hat.out k p f hx hf)
            have Hset := Lib.hid (shiftTo_set (b := (b : Int)) Hlen.out hx hf)
            have Hnx : Hid (0 ≤ f ∧ f < p → inR 128 (l0.take (k + 1)) (l1.take (k + 1))) := fun h => by rw [take_snoc hx, take_snoc hf]; exact inR_snoc (by simp [Hlen.out]) Hin.out h
            clear hx hf hsl hv2 hv3
            by_cases u0 : f < 0
            · obtain rfl : R = false := by
                cases R
                · rfl
                · have := HA.out rfl; omega
              go_wp2
              go_quiet (fail)
              go_wp2
              go_ret
              exact ⟨rfl, bthen hbl (below_draws ⟨_, rfl⟩)⟩
            · have u0' : decide (f < 0) = false := by simpa using u0
              by_cases u1 : p ≤ f
              · obtain rfl : R = false := by
                  cases R
                  · rfl
                  · have := HA.out rfl; omega
                go_wp2
                go_quiet (fail)
                go_wp2
                go_ret
                exact ⟨rfl, bthen hbl (below_draws ⟨_, rfl⟩)⟩
              · have u1' : decide (p ≤ f) = false := by simpa using u1
                have hrem : (f + (b : Int)).tmod p = (f + b) % p := rem_nn (by omega)
                have hput := Lib.hid (fun (W : World) (h : Ow (Value.int .i64) W w2.heap.size 3 (.slice (some ⟨g, 0, none⟩) n0 d) (shiftTo b l0 l1 k)) => h.put k ((f + b) % p))
                rw [Hset.out] at hput
                have e0 := Int.emod_nonneg (f + b) (show p ≠ 0 by omega)
                have e1 := Int.emod_lt_of_pos (f + b) (show 0 < p by omega)
                generalize (f + (b : Int)) % p = X at hrem hput e0 e1
                go_wp2
                go_quiet (fail)
                have hbq : Below w.heap.size w (wr.drewN nq) := bthen hbl (below_draws ⟨_, rfl⟩)
                have hcq : (wr.drewN nq).cell? (ad.add k) = some (.int .i64 p) := hc
                have hc1q : (wr.drewN nq).cell? ⟨g, k, none⟩ = some (.int .i64 f) := hc1
                have hfzq : (wr.drewN nq).frozen? ⟨g, k, none⟩ = false := hfz
                have hoq : Ow (Value.int .i64) (wr.drewN nq) w2.heap.size 3 (.slice (some ⟨g, 0, none⟩) n0 d) (shiftTo b l0 l1 k) := ho
                clear hc hc1 hfz ho hbl
                generalize wr.drewN nq = w5 at *
                go_wp2
                go_big_region
                go_wp2
                go_roundw
                case rel => exact ⟨k + 1, by omega, by go_num, hput.out _ hoq, Hnx.out ⟨by omega, by omega⟩, below_grown hbq.drew (grownBy_setCell _ ⟨g, k, none⟩ _) (Nat.le_trans hs2 hg) hbq.size⟩
                case measure => simp [intOf] <;> omega
          · obtain rfl : k = n0 := by omega
            have hi := Hin.out
            rw [List.take_of_length_le (by rw [Hl.out]; exact Nat.le_refl _), List.take_of_length_le (by rw [Hf.out]; exact Nat.le_refl _)] at hi
            have Hs := Lib.hid (Hsh.out hi)
            have e : shiftTo b l0 l1 k = shiftM b l0 l1 := by
              unfold shiftTo
              rw [List.take_of_length_le (by rw [Hl.out]; exact Nat.le_refl _), List.take_of_length_le (by rw [Hf.out]; exact Nat.le_refl _), List.drop_eq_nil_of_le (by rw [Hf.out]; exact Nat.le_refl _), List.append_nil]
            rw [e] at ho
            rw [Hs.out] at C4
            clear e hi
            go_wp2_with fail
            refine (C4.out wr B d (h0.below hbl) ho.rd).mono ?_
            rintro e w5 ⟨rfl, hb5⟩
            go_wp2
            go_ret
            exact ⟨rfl, bthen hbl hb5⟩

theorem make_cases (l : List Int) : makeE l ≠ 0 ∨ (jwrong l = 0 ∧ loadS l ≤ 64) := by
  by_cases h0 : jwrong l = 0
  · by_cases h1 : loadS l ≤ 64
    · exact .inr ⟨h0, h1⟩
    · exact .inl (by rw [makeE_full h0 h1]; decide)
  · exact .inl (by rw [makeE_no h0]; exact h0)
/-- s[:k] and s[k+1:] of a slice of ints, as equations with their readings. -/
theorem parts_int {w : World} {A : Option Addr} {n c k : Nat} {l : List Int} (h : Rd w 1 A n (l.map (Value.int .i64))) (hk : k < n) (hc : n ≤ c) :
    (∀ W, (Instr.slice 22 (.slice A n c) none (some (.int .i64 (k : Int))) none).run Try.prog W = .ok (.slice A k c) W) ∧ Rd w 1 A k ((l.take k).map (Value.int .i64)) ∧
    ∃ B, (∀ W, (Instr.slice 22 (.slice A n c) (some (.int .i64 ((k : Int) + 1))) none none).run Try.prog W = .ok (.slice B (n - (k + 1)) (c - (k + 1))) W) ∧ Rd w 1 B (n - (k + 1)) ((l.drop (k + 1)).map (Value.int .i64)) := by
  refine ⟨fun W => run_to elInt W A n c k (by omega), ?_, _, fun W => run_from elInt W A n c (k + 1) (by omega), ?_⟩
  · have := h.take (k := k) (by omega)
    rwa [Nat.mul_one, ← List.map_take] at this
  · have := h.cut (k := k + 1) (cap := c) (by omega) hc
    simp only [Nat.mul_one] at this ⊢
    rwa [← List.map_drop] at this
theorem erase_len {l : List Int} {k n m : Nat} (hl : l.length = n) (hk : k < n) (hm : m + 1 = n) : (l.eraseIdx k).length = m := by
  rw [List.length_eraseIdx, if_pos (by omega)]; omega

set_option maxHeartbeats 1600000 in
theorem PlanLess_walk (A0 : Option Addr) (n0 c0 : Nat) (l0 : List Int) (a1 : Int) (w : World) (h0 : Rd w 1 A0 n0 (l0.map (Value.int .i64))) (q0 : ∀ x ∈ l0, (Lit.int .i64 x).wf = true) (k0 : n0 ≤ c0) (b0 : c0 * 8 ≤ 140737488351232) (w1 : (Lit.int .i64 a1).wf = true) :
    Calls Try.prog 7 #[.slice A0 n0 c0, .int .i64 a1] w fun e w' => e = .returned (.bool true) ∧ Below w.heap.size w w' := by
  have hL := in64s_wf q0
  obtain ⟨a10, a11⟩ := in64_wf w1
  have hn : n0 ≤ 140737488355328 := by omega
  have Hl := Lib.hid h0.lenMap
  have C0 := Lib.hid (alive10_any w)
  have C1 := Lib.hid (fun (W : World) (h : Rd W 1 A0 n0 (l0.map (Value.int .i64))) => Make_any A0 n0 c0 l0 W h hL hn)
  clear q0 w1
  rcases make_cases l0 with hx | ⟨hz, hload⟩
  · have hx' : (makeE l0 != 0) = true := by simpa using hx
    clear hx
    generalize makeE l0 = x at C1 hx'
    generalize makeR l0 = M at C1
    go_enter Try.func7, Try.ntmps7
    go_wp2_with fail
    refine C0.out.mono ?_
    rintro e w1 ⟨rfl, hb1⟩
    go_wp2_with fail
    refine (C1.out w1 (h0.below hb1)).mono ?_
    rintro e w2 ⟨v, rfl, ho, hb2⟩
    obtain ⟨B, d, rfl, _, _, hr⟩ := ho.formN rfl
    go_wp2
    go_ret
    exact ⟨rfl, bthen hb1 hb2⟩
  · rw [makeR_yes hz hload, makeE_yes hz hload] at C1
    have Hmlen : Hid ((makeL l0).length = n0) := by show _ = _; rw [make_len, Hl.out]
    by_cases g0 : a1 < 0
    · clear hz hload
      generalize makeL l0 = M at C1 Hmlen
      go_enter Try.func7, Try.ntmps7
      go_wp2_with fail
      refine C0.out.mono ?_
      rintro e w1 ⟨rfl, hb1⟩
      go_wp2_with fail
      refine (C1.out w1 (h0.below hb1)).mono ?_
      rintro e w2 ⟨v, rfl, ho, hb2⟩
      obtain ⟨B, d, rfl, _, _, hr⟩ := ho.formN Hmlen.out
      go_wp2
      go_ret
      exact ⟨rfl, bthen hb1 hb2⟩
    · by_cases g1 : a1 ≥ (n0 : Int)
      · clear hz hload
        generalize makeL l0 = M at C1 Hmlen
        go_enter Try.func7, Try.ntmps7
        go_wp2_with fail
        refine C0.out.mono ?_
        rintro e w1 ⟨rfl, hb1⟩
        go_wp2_with fail
        refine (C1.out w1 (h0.below hb1)).mono ?_
        rintro e w2 ⟨v, rfl, ho, hb2⟩
        obtain ⟨B, d, rfl, _, _, hr⟩ := ho.formN Hmlen.out
        go_wp2
        go_ret
        exact ⟨rfl, bthen hb1 hb2⟩
      · obtain ⟨k, rfl⟩ := Int.eq_ofNat_of_zero_le (show 0 ≤ a1 by omega)
        have hk : k < n0 := by omega
        obtain ⟨m, hm⟩ : ∃ m, m + 1 = n0 := ⟨n0 - 1, by omega⟩
        have hp := (jwrong_zero.1 hz).2
        have h4 : n0 ≤ 400 := by have := (jwrong_zero.1 hz).1; rw [Hl.out] at this; exact this
        have hpe := hp.erase k
        have hre := right_erase none0 k (make_right hp hload)
        have hin := in64_small (right_in hp (make_len l0).symm (make_right hp hload))
        have hlp : (l0.eraseIdx k).length = m := erase_len Hl.out hk hm
        have hlf : ((makeL l0).eraseIdx k).length = m := erase_len Hmlen.out hk hm
        have hze : jwrong (l0.eraseIdx k) = 0 := jwrong_zero.2 ⟨by omega, hpe⟩
        have hle : loadS (l0.eraseIdx k) ≤ 64 := Int.le_trans (load_erase hp k) hload
        have hLe : in64s (l0.eraseIdx k) := fun x hx => hL x (List.mem_of_mem_eraseIdx hx)
        have hine : in64s ((makeL l0).eraseIdx k) := fun x hx => hin x (List.mem_of_mem_eraseIdx hx)
        have C2 := Lib.hid (fun (W : World) (B : Option Addr) (d : Nat) (h : Rd W 1 B m ((l0.eraseIdx k).map (Value.int .i64))) => Make_any B m d (l0.eraseIdx k) W h hLe (by omega))
        have C3 := Lib.hid (fun (W : World) (B D : Option Addr) (d d' : Nat) (h : Rd W 1 B m ((l0.eraseIdx k).map (Value.int .i64))) (h' : Rd W 1 D m (((makeL l0).eraseIdx k).map (Value.int .i64))) => Right_any B m d (l0.eraseIdx k) D m d' ((makeL l0).eraseIdx k) W h hLe (by omega) h' hine (by omega))
        rw [makeR_yes hze hle, makeE_yes hze hle] at C2
        rw [rightR_yes hze (hlp.trans hlf.symm), rightE_yes hze (hlp.trans hlf.symm), hre] at C3
        have Hm2 : Hid ((makeL (l0.eraseIdx k)).length = m) := by show _ = _; rw [make_len, hlp]
        have Hep : Hid (l0.take k ++ l0.drop (k + 1) = l0.eraseIdx k) := (List.eraseIdx_eq_take_drop_succ l0 k).symm
        have Hef : Hid ((makeL l0).take k ++ (makeL l0).drop (k + 1) = (makeL l0).eraseIdx k) := (List.eraseIdx_eq_take_drop_succ (makeL l0) k).symm
        have Hlp := Lib.hid hlp
        have Hlf := Lib.hid hlf
        clear hz hload hp hpe hre hin hlp hlf hze hle hLe hine
        generalize makeL (l0.eraseIdx k) = N at C2 Hm2
        generalize l0.eraseIdx k = P at C2 C3 Hep Hlp
        generalize makeL l0 = M at C1 C3 Hmlen Hef Hlf
        generalize M.eraseIdx k = Fe at C3 Hef Hlf
        have hk1 : k + 1 ≤ n0 := hk
        have hnk : n0 - (k + 1) ≤ 400 := by omega
        have hv1 : IntKind.i64.wrap ((k : Int) + 1) = k + 1 := IntWalk.i64_in _ (by omega)
        obtain ⟨t1, t2, B1, t3, t4⟩ := parts_int h0 hk k0
        go_enter Try.func7, Try.ntmps7
        go_wp2_with fail
        refine C0.out.mono ?_
        rintro e w1 ⟨rfl, hb1⟩
        go_wp2_with fail
        refine (C1.out w1 (h0.below hb1)).mono ?_
        rintro e w2 ⟨v, rfl, ho, hb2⟩
        obtain ⟨B, d, rfl, hnd, _, hr⟩ := ho.formN Hmlen.out
        have hB2 := bthen hb1 hb2
        clear ho hb1 hb2
        obtain ⟨s1, s2, B2, s3, s4⟩ := parts_int hr hk hnd
        have T2 := Lib.hid (t2.below hB2)
        have T4 := Lib.hid (t4.below hB2)
        have S2 := Lib.hid s2
        have S4 := Lib.hid s4
        clear t2 t4 s2 s4 hr
        go_upto_region 6 with fail
        refine wp_region_P (by kernel_rfl) ?_
        refine wpAnyP_take (i := 0) (oi := { dst := some 39, op := Op.move (Go.Operand.tmp 0), type := 22, pos := "plan.go:77", after := #[], guard := none }) (v := ?v1) rfl (by kernel_rfl) (by kernel_rfl) (by kernel_rfl) (fun _ _ _ h => h) (Or.inl ⟨by rfl, ?hy1⟩) ?rs1
        case hy1 => (intro W hW; go_simp; try with_reducible rfl)
        try simp only [Act.put, List.setIfInBounds_toArray, List.set_cons_zero, List.set_cons_succ]
        refine wpAnyP_take (i := 1) (oi := { dst := some 40, op := Op.move (Go.Operand.tmp 1), type := 3, pos := "plan.go:77", after := #[], guard := none }) (v := ?v2) rfl (by kernel_rfl) (by kernel_rfl) (by kernel_rfl) (fun _ _ _ h => h) (Or.inl ⟨by rfl, ?hy2⟩) ?rs2
        case hy2 => (intro W hW; go_simp; try with_reducible rfl)
        try simp only [Act.put, List.setIfInBounds_toArray, List.set_cons_zero, List.set_cons_succ]
        refine wpAnyP_take (i := 2) (oi := { dst := some 41, op := Op.slice 22 (Go.Operand.tmp 39) none (some (Go.Operand.tmp 40)) none, type := 22, pos := "plan.go:77", after := #[{ on := 0, ground := Ground.data }, { on := 1, ground := Ground.data }], guard := none }) (v := ?v3) rfl (by kernel_rfl) (by kernel_rfl) (by kernel_rfl) (fun _ _ _ h => h) (Or.inl ⟨by rfl, ?hy3⟩) ?rs3
        case hy3 => (intro W hW; go_simp; try with_reducible rfl)
        try simp only [Act.put, List.setIfInBounds_toArray, List.set_cons_zero, List.set_cons_succ]
        refine wpAnyP_take (i := 4) (oi := { dst := some 43, op := Op.move (Go.Operand.tmp 0), type := 22, pos := "plan.go:77", after := #[], guard := none }) (v := ?v4) rfl (by kernel_rfl) (by kernel_rfl) (by kernel_rfl) (fun _ _ _ h => h) (Or.inl ⟨by rfl, ?hy4⟩) ?rs4
        case hy4 => (intro W hW; go_simp; try with_reducible rfl)
        try simp only [Act.put, List.setIfInBounds_toArray, List.set_cons_zero, List.set_cons_succ]
        refine wpAnyP_take (i := 5) (oi := { dst := some 44, op := Op.move (Go.Operand.tmp 1), type := 3, pos := "plan.go:77", after := #[], guard := none }) (v := ?v5) rfl (by kernel_rfl) (by kernel_rfl) (by kernel_rfl) (fun _ _ _ h => h) (Or.inl ⟨by rfl, ?hy5⟩) ?rs5
        case hy5 => (intro W hW; go_simp; try with_reducible rfl)
        try simp only [Act.put, List.setIfInBounds_toArray, List.set_cons_zero, List.set_cons_succ]
        refine wpAnyP_take (i := 6) (oi := { dst := some 45, op := Op.binOp Go.BinOp.add 3 (Go.Operand.tmp 44) (Go.Operand.const (Go.Value.int Go.IntKind.i64 1)) 3, type := 3, pos := "plan.go:77", after := #[{ on := 5, ground := Ground.data }], guard := none }) (v := ?v6) rfl (by kernel_rfl) (by kernel_rfl) (by kernel_rfl) (fun _ _ _ h => h) (Or.inl ⟨by rfl, ?hy6⟩) ?rs6
        case hy6 => (intro W hW; go_simp; try with_reducible rfl)
        try simp only [Act.put, List.setIfInBounds_toArray, List.set_cons_zero, List.set_cons_succ]
        refine wpAnyP_take (i := 7) (oi := { dst := some 46, op := Op.slice 22 (Go.Operand.tmp 43) (some (Go.Operand.tmp 45)) none none, type := 22, pos := "plan.go:77", after := #[{ on := 4, ground := Ground.data }, { on := 6, ground := Ground.data }], guard := none }) (v := ?v7) rfl (by kernel_rfl) (by kernel_rfl) (by kernel_rfl) (fun _ _ _ h => h) (Or.inl ⟨by rfl, ?hy7⟩) ?rs7
        case hy7 => (intro W hW; go_simp; try with_reducible rfl)
        try simp only [Act.put, List.setIfInBounds_toArray, List.set_cons_zero, List.set_cons_succ]
        refine wpAnyP_one (i := 3) (o := { dst := some 42, op := Op.call { callee := Callee.value (Go.Operand.func 17), args := #[Go.Operand.tmp 41], argTypes := #[22] }, type := 22, pos := "plan.go:77", after := #[{ on := 2, ground := Ground.data }], guard := none }) (by kernel_rfl) rfl (fun K hK => ?_)
        go_simp
        refine (CloneI_any A0 k c0 (l0.take k) _ T2.out.drew (by omega)).mono ?_; rintro e w3 ⟨v3, rfl, ho3, hb3⟩
        refine hK.out _ _ ?_
        clear hK K
        try simp only [Act.put, List.setIfInBounds_toArray, List.set_cons_zero, List.set_cons_succ]
        refine wpAnyP_one (i := 8) (o := { dst := some 47, op := Op.call { callee := Callee.builtin Builtin.append, args := #[Go.Operand.tmp 42, Go.Operand.tmp 46], argTypes := #[22, 22] }, type := 22, pos := "plan.go:77", after := #[{ on := 3, ground := Ground.data }, { on := 7, ground := Ground.data }, { on := 3, ground := Ground.chain }], guard := none }) (by kernel_rfl) rfl (fun K hK => ?_)
        rw [if_pos (by rfl)]
        refine wp_apW (Value.int .i64) _ elInt rfl (one_int .i64) w2.heap.size _ (l0.take k) rfl ho3 B1 (n0 - (k + 1)) (c0 - (k + 1)) (l0.drop (k + 1)) rfl (T4.out.drew.below hb3) hb3.size (by rw [List.length_take]; omega) (by decide) ?_; intro v4 w4 ho4 hm4
        refine hK.out _ _ ?_
        clear hK K
        try simp only [Act.put, List.setIfInBounds_toArray, List.set_cons_zero, List.set_cons_succ]
        refine wpAnyP_take (i := 9) (oi := { dst := some 7, op := Op.assign (Go.Operand.tmp 47), type := 22, pos := "plan.go:77", after := #[{ on := 8, ground := Ground.data }, { on := 8, ground := Ground.chain }, { on := 0, ground := Ground.phase }, { on := 1, ground := Ground.phase }, { on := 2, ground := Ground.phase }, { on := 3, ground := Ground.phase }, { on := 4, ground := Ground.phase }, { on := 5, ground := Ground.phase }, { on := 6, ground := Ground.phase }, { on := 7, ground := Ground.phase }, { on := 8, ground := Ground.phase }], guard := none }) (v := ?v8) rfl (by kernel_rfl) (by kernel_rfl) (by kernel_rfl) (fun _ _ _ h => h) (Or.inl ⟨by rfl, ?hy8⟩) ?rs8
        case hy8 => (intro W hW; go_simp; try with_reducible rfl)
        try simp only [Act.put, List.setIfInBounds_toArray, List.set_cons_zero, List.set_cons_succ]
        refine wpAnyP_done (by kernel_rfl) ?_
        have hb4 : Below w2.heap.size w2 w4 := hm4.below (bthen ((Below.refl _ w2).drew) hb3) hb3.size ho3.block
        rw [Hep.out] at ho4
        obtain ⟨BP, dP, rfl, _, _, hrP⟩ := ho4.formN Hlp.out
        have hB4 := bthen hB2 hb4
        have S2' := Lib.hid (S2.out.below hb4)
        have S4' := Lib.hid (S4.out.below hb4)
        clear ho4 hm4 ho3 hb3 hb4 T2 T4 S2 S4
        go_upto_region 7 with fail
        refine wp_region_P (by kernel_rfl) ?_
        refine wpAnyP_take (i := 0) (oi := { dst := some 48, op := Op.move (Go.Operand.tmp 5), type := 22, pos := "plan.go:78", after := #[], guard := none }) (v := ?v9) rfl (by kernel_rfl) (by kernel_rfl) (by kernel_rfl) (fun _ _ _ h => h) (Or.inl ⟨by rfl, ?hy9⟩) ?rs9
        case hy9 => (intro W hW; go_simp; try with_reducible rfl)
        try simp only [Act.put, List.setIfInBounds_toArray, List.set_cons_zero, List.set_cons_succ]
        refine wpAnyP_take (i := 1) (oi := { dst := some 49, op := Op.move (Go.Operand.tmp 1), type := 3, pos := "plan.go:78", after := #[], guard := none }) (v := ?v10) rfl (by kernel_rfl) (by kernel_rfl) (by kernel_rfl) (fun _ _ _ h => h) (Or.inl ⟨by rfl, ?hy10⟩) ?rs10
        case hy10 => (intro W hW; go_simp; try with_reducible rfl)
        try simp only [Act.put, List.setIfInBounds_toArray, List.set_cons_zero, List.set_cons_succ]
        refine wpAnyP_take (i := 2) (oi := { dst := some 50, op := Op.slice 22 (Go.Operand.tmp 48) none (some (Go.Operand.tmp 49)) none, type := 22, pos := "plan.go:78", after := #[{ on := 0, ground := Ground.data }, { on := 1, ground := Ground.data }], guard := none }) (v := ?v11) rfl (by kernel_rfl) (by kernel_rfl) (by kernel_rfl) (fun _ _ _ h => h) (Or.inl ⟨by rfl, ?hy11⟩) ?rs11
        case hy11 => (intro W hW; go_simp; try with_reducible rfl)
        try simp only [Act.put, List.setIfInBounds_toArray, List.set_cons_zero, List.set_cons_succ]
        refine wpAnyP_take (i := 4) (oi := { dst := some 52, op := Op.move (Go.Operand.tmp 5), type := 22, pos := "plan.go:78", after := #[], guard := none }) (v := ?v12) rfl (by kernel_rfl) (by kernel_rfl) (by kernel_rfl) (fun _ _ _ h => h) (Or.inl ⟨by rfl, ?hy12⟩) ?rs12
        case hy12 => (intro W hW; go_simp; try with_reducible rfl)
        try simp only [Act.put, List.setIfInBounds_toArray, List.set_cons_zero, List.set_cons_succ]
        refine wpAnyP_take (i := 5) (oi := { dst := some 53, op := Op.move (Go.Operand.tmp 1), type := 3, pos := "plan.go:78", after := #[], guard := none }) (v := ?v13) rfl (by kernel_rfl) (by kernel_rfl) (by kernel_rfl) (fun _ _ _ h => h) (Or.inl ⟨by rfl, ?hy13⟩) ?rs13
        case hy13 => (intro W hW; go_simp; try with_reducible rfl)
        try simp only [Act.put, List.setIfInBounds_toArray, List.set_cons_zero, List.set_cons_succ]
        refine wpAnyP_take (i := 6) (oi := { dst := some 54, op := Op.binOp Go.BinOp.add 3 (Go.Operand.tmp 53) (Go.Operand.const (Go.Value.int Go.IntKind.i64 1)) 3, type := 3, pos := "plan.go:78", after := #[{ on := 5, ground := Ground.data }], guard := none }) (v := ?v14) rfl (by kernel_rfl) (by kernel_rfl) (by kernel_rfl) (fun _ _ _ h => h) (Or.inl ⟨by rfl, ?hy14⟩) ?rs14
        case hy14 => (intro W hW; go_simp; try with_reducible rfl)
        try simp only [Act.put, List.setIfInBounds_toArray, List.set_cons_zero, List.set_cons_succ]
        refine wpAnyP_take (i := 7) (oi := { dst := some 55, op := Op.slice 22 (Go.Operand.tmp 52) (some (Go.Operand.tmp 54)) none none, type := 22, pos := "plan.go:78", after := #[{ on := 4, ground := Ground.data }, { on := 6, ground := Ground.data }], guard := none }) (v := ?v15) rfl (by kernel_rfl) (by kernel_rfl) (by kernel_rfl) (fun _ _ _ h => h) (Or.inl ⟨by rfl, ?hy15⟩) ?rs15
        case hy15 => (intro W hW; go_simp; try with_reducible rfl)
        try simp only [Act.put, List.setIfInBounds_toArray, List.set_cons_zero, List.set_cons_succ]
        refine wpAnyP_one (i := 3) (o := { dst := some 51, op := Op.call { callee := Callee.value (Go.Operand.func 17), args := #[Go.Operand.tmp 50], argTypes := #[22] }, type := 22, pos := "plan.go:78", after := #[{ on := 2, ground := Ground.data }], guard := none }) (by kernel_rfl) rfl (fun K hK => ?_)
        go_simp
        refine (CloneI_any B k d (M.take k) _ S2'.out.drew (by omega)).mono ?_; rintro e w5 ⟨v5, rfl, ho5, hb5⟩
        refine hK.out _ _ ?_
        clear hK K
        try simp only [Act.put, List.setIfInBounds_toArray, List.set_cons_zero, List.set_cons_succ]
        refine wpAnyP_one (i := 8) (o := { dst := some 56, op := Op.call { callee := Callee.builtin Builtin.append, args := #[Go.Operand.tmp 51, Go.Operand.tmp 55], argTypes := #[22, 22] }, type := 22, pos := "plan.go:78", after := #[{ on := 3, ground := Ground.data }, { on := 7, ground := Ground.data }, { on := 3, ground := Ground.chain }], guard := none }) (by kernel_rfl) rfl (fun K hK => ?_)
        rw [if_pos (by rfl)]
        refine wp_apW (Value.int .i64) _ elInt rfl (one_int .i64) w4.heap.size _ (M.take k) rfl ho5 B2 (n0 - (k + 1)) (d - (k + 1)) (M.drop (k + 1)) rfl (S4'.out.drew.below hb5) hb5.size (by rw [List.length_take]; omega) (by decide) ?_; intro v6 w6 ho6 hm6
        refine hK.out _ _ ?_
        clear hK K
        try simp only [Act.put, List.setIfInBounds_toArray, List.set_cons_zero, List.set_cons_succ]
        refine wpAnyP_take (i := 9) (oi := { dst := some 8, op := Op.assign (Go.Operand.tmp 56), type := 22, pos := "plan.go:78", after := #[{ on := 8, ground := Ground.data }, { on := 8, ground := Ground.chain }, { on := 0, ground := Ground.phase }, { on := 1, ground := Ground.phase }, { on := 2, ground := Ground.phase }, { on := 3, ground := Ground.phase }, { on := 4, ground := Ground.phase }, { on := 5, ground := Ground.phase }, { on := 6, ground := Ground.phase }, { on := 7, ground := Ground.phase }, { on := 8, ground := Ground.phase }], guard := none }) (v := ?v16) rfl (by kernel_rfl) (by kernel_rfl) (by kernel_rfl) (fun _ _ _ h => h) (Or.inl ⟨by rfl, ?hy16⟩) ?rs16
        case hy16 => (intro W hW; go_simp; try with_reducible rfl)
        try simp only [Act.put, List.setIfInBounds_toArray, List.set_cons_zero, List.set_cons_succ]
        refine wpAnyP_done (by kernel_rfl) ?_
        have hb6 : Below w4.heap.size w4 w6 := hm6.below (bthen ((Below.refl _ w4).drew) hb5) hb5.size ho5.block
        rw [Hef.out] at ho6
        obtain ⟨BF, dF, rfl, _, _, hrF⟩ := ho6.formN Hlf.out
        have hB6 := bthen hB4 hb6
        replace hrP := hrP.below hb6
        clear ho6 hm6 ho5 hb5 hb6 S2' S4' t1 t3 s1 s3
        go_wp2_with fail
        refine (C2.out w6 BP dP hrP).mono ?_
        rintro e w7 ⟨v7, rfl, ho7, hb7⟩
        obtain ⟨BN, dN, rfl, _, _, _⟩ := ho7.formN Hm2.out
        have hB7 := bthen hB6 hb7
        replace hrP := hrP.below hb7
        replace hrF := hrF.below hb7
        clear ho7 hb7
        go_wp2_with fail
        refine (C3.out w7 BP BF dP dF hrP hrF).mono ?_
        rintro e w8 ⟨rfl, hb8⟩
        go_wp2
        go_ret
        exact ⟨rfl, bthen hB7 hb8⟩
end Go.Proofs.Ytgkdjdckdomnmaa
