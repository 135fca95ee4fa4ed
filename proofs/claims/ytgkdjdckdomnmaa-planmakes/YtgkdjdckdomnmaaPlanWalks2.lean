/-
  Contracts of plan's functions: Right, Make. No statement of the seat is here.
-/
import Derived.Test.YtgkdjdckdomnmaaPlanWalks
import Derived.Test.YtgkdjdckdomnmaaRoom
namespace Go.Proofs.Ytgkdjdckdomnmaa
open Go.RowKit
set_option linter.unusedVariables false

def rightE (l F : List Int) : Int := if jwrong l = 0 then (if l.length = F.length then 0 else 1) else jwrong l
def rightR (l F : List Int) : Bool := if jwrong l = 0 ∧ l.length = F.length then rightF none0 l F else false
def makeE (l : List Int) : Int := if jwrong l = 0 then (if loadS l ≤ 64 then 0 else 4) else jwrong l
def makeR (l : List Int) : List Int := if jwrong l = 0 ∧ loadS l ≤ 64 then makeL l else []

theorem ret_bi {a b : Bool} {x : Int} (h : a = b) : Ending.returned (.tuple #[.bool a, .int .i64 x]) = .returned (.tuple #[.bool b, .int .i64 x]) := by rw [h]
theorem rightF_cons {U : Nat → Bool} {p f : Int} {r fs : List Int} (h0 : 0 ≤ f) (h1 : f < p) : rightF U (p :: r) (f :: fs) = (freeM U f p && rightF (mark U f p) r fs) := by
  rw [rightF, decide_eq_true ⟨h0, h1⟩, Bool.true_and]
theorem rightF_out {U : Nat → Bool} {p f : Int} {r fs : List Int} (h : ¬ (0 ≤ f ∧ f < p)) : rightF U (p :: r) (f :: fs) = false := by
  rw [rightF, decide_eq_false h, Bool.false_and]

set_option maxHeartbeats 800000 in
theorem Right_any (A : Option Addr) (n c : Nat) (l : List Int) (B : Option Addr) (m d : Nat) (F : List Int) (w : World) (h : Rd w 1 A n (l.map (Value.int .i64))) (hL : in64s l) (hn : n ≤ 140737488355328)
    (h' : Rd w 1 B m (F.map (Value.int .i64))) (hF : in64s F) (hm : m ≤ 140737488355328) :
    Calls Try.prog 10 #[.slice A n c, .slice B m d] w fun e w' => e = .returned (.tuple #[.bool (rightR l F), .int .i64 (rightE l F)]) ∧ Below w.heap.size w w' := by
  have Hl := Lib.hid h.lenMap
  have Hf := Lib.hid h'.lenMap
  have Hc := Lib.hid (Wrong_any A n c l w h hL hn)
  by_cases h0 : jwrong l = 0
  · obtain ⟨h4, hp⟩ := jwrong_zero.1 h0
    rw [h0] at Hc
    by_cases hnm : n = m
    · subst hnm
      have HR : Hid (rightR l F = rightF none0 l F) := by show _ = _; rw [rightR, if_pos ⟨h0, by rw [Hl.out, Hf.out]⟩]
      have hE : rightE l F = 0 := by rw [rightE, if_pos h0, if_pos (by rw [Hl.out, Hf.out])]
      rw [hE]
      rw [Hl.out] at h4
      have Hp := Lib.hid hp
      clear h0 hp hE
      go_enter Try.func10, Try.ntmps10
      go_wp2_with fail
      refine Hc.out.mono ?_
      rintro e w1 ⟨rfl, rfl⟩
      go_wp2
      go_loopw [22] (fun i wr => ∃ (k : Nat) (U : Nat → Bool), k ≤ n ∧ i = .int .i64 k ∧ Cyc wr w.heap.size 38 U ∧ rightF U (l.drop k) (F.drop k) = rightF none0 l F ∧ Below w.heap.size w wr ∧ w.heap.size + 1 ≤ wr.heap.size) (fun i _ => n - (intOf i).toNat)
      case atStart => exact ⟨0, none0, Nat.zero_le _, rfl, Box.new w _ _, rfl, (Below.refl _ _).alloc (Nat.le_refl _) _, by simp⟩
      case round =>
        obtain ⟨k, U, hk, rfl, hcy, hacc, hbl, hsz⟩ := hrel
        have Hacc := Lib.hid hacc; clear hacc
        by_cases hlt : k < n
        · obtain ⟨ad, p, rfl, hx, hc⟩ := (h.below hbl).atMap hlt
          obtain ⟨ad', f, rfl, hx', hc'⟩ := (h'.below hbl).atMap hlt
          have Hx := Lib.hid (drop_cons hx)
          have Hx' := Lib.hid (drop_cons hx')
          obtain ⟨p1, p2⟩ := (Hp.out p (List.mem_of_getElem? hx)).range
          obtain ⟨f1, f2⟩ := hF f (List.mem_of_getElem? hx')
          clear hx hx'
          by_cases g0 : f < 0
          · have H : Hid (rightR l F = false) := by show _ = _; rw [HR.out, ← Hacc.out, Hx.out, Hx'.out, rightF_out (by omega)]
            go_wp2
            go_ret2
            exact ⟨ret_bi H.out.symm, hbl⟩
          · by_cases g1 : f < p
            · have H : Hid (rightF none0 l F = (freeM U f p && rightF (mark U f p) (l.drop (k + 1)) (F.drop (k + 1)))) := by show _ = _; rw [← Hacc.out, Hx.out, Hx'.out, rightF_cons (by omega) g1]
              obtain ⟨f, rfl⟩ := Int.eq_ofNat_of_zero_le (show 0 ≤ f by omega)
              go_wp2_with fail
              refine (take_any w.heap.size U f p p1 p2 (by omega) _ hcy).mono ?_
              rintro e w2 ⟨rfl, hcy2, hg2⟩
              have hb2 := below_grown hbl hg2 (Nat.le_refl _) (by omega)
              have hs2 := Nat.le_trans hsz hg2.size
              cases hfr : freeM U f p
              · rw [hfr] at H
                clear hfr
                go_wp2
                go_ret2
                exact ⟨ret_bi (by rw [HR.out, H.out]; rfl), hb2⟩
              · rw [hfr] at H
                clear hfr
                go_wp2
                go_roundw
                case rel => exact ⟨k + 1, mark U f p, by omega, by go_num, hcy2, by rw [H.out]; rfl, hb2, hs2⟩
                case measure => simp [intOf] <;> omega
            · have H : Hid (rightR l F = false) := by show _ = _; rw [HR.out, ← Hacc.out, Hx.out, Hx'.out, rightF_out (by omega)]
              go_wp2
              go_ret2
              exact ⟨ret_bi H.out.symm, hbl⟩
        · obtain rfl : k = n := by omega
          have H : Hid (rightR l F = true) := by show _ = _; rw [HR.out, ← Hacc.out, List.drop_eq_nil_of_le (by rw [Hl.out]; exact Nat.le_refl _)]; rfl
          go_wp2
          go_ret2
          exact ⟨ret_bi H.out.symm, hbl⟩
    · have hR : rightR l F = false := by rw [rightR, if_neg (by rw [Hl.out, Hf.out]; exact fun e => hnm e.2)]
      have hE : rightE l F = 1 := by rw [rightE, if_pos h0, if_neg (by rw [Hl.out, Hf.out]; exact hnm)]
      rw [hR, hE]
      have hne : ((n : Int) != (m : Int)) = true := by rw [bne_iff_ne]; omega
      clear h0 hp hE hR hnm h4
      go_enter Try.func10, Try.ntmps10
      go_wp2_with fail
      refine Hc.out.mono ?_
      rintro e w1 ⟨rfl, rfl⟩
      go_wp2
      go_ret2
      exact ⟨rfl, Below.refl _ _⟩
  · have hR : rightR l F = false := by rw [rightR, if_neg (fun e => h0 e.1)]
    have hE : rightE l F = jwrong l := by rw [rightE, if_neg h0]
    rw [hR, hE]
    have hx' : (jwrong l != 0) = true := by simpa using h0
    clear h0 hR hE
    generalize jwrong l = x at Hc hx' ⊢
    go_enter Try.func10, Try.ntmps10
    go_wp2_with fail
    refine Hc.out.mono ?_
    rintro e w1 ⟨rfl, rfl⟩
    go_wp2
    go_ret2
    exact ⟨rfl, Below.refl _ _⟩

/-! Make -/
def Sfx (d : Int) (ds : List Int) : Prop := (d = 1 ∧ ds = [1, 2, 4, 8, 16, 32, 64]) ∨ (d = 2 ∧ ds = [2, 4, 8, 16, 32, 64]) ∨ (d = 4 ∧ ds = [4, 8, 16, 32, 64]) ∨ (d = 8 ∧ ds = [8, 16, 32, 64]) ∨ (d = 16 ∧ ds = [16, 32, 64]) ∨ (d = 32 ∧ ds = [32, 64]) ∨ (d = 64 ∧ ds = [64]) ∨ (d = 128 ∧ ds = [])
theorem Sfx.next {d : Int} {ds : List Int} (h : Sfx d ds) (hd : d ≤ 64) : ∃ ds', ds = d :: ds' ∧ Sfx (d * 2) ds' ∧ Pow d := by
  rcases h with ⟨rfl, rfl⟩ | ⟨rfl, rfl⟩ | ⟨rfl, rfl⟩ | ⟨rfl, rfl⟩ | ⟨rfl, rfl⟩ | ⟨rfl, rfl⟩ | ⟨rfl, rfl⟩ | ⟨rfl, rfl⟩
  all_goals first
    | (exact absurd hd (by decide))
    | (refine ⟨_, rfl, ?_, ?_⟩
       · simp [Sfx]
       · simp [Pow])
theorem Sfx.done {d : Int} {ds : List Int} (h : Sfx d ds) (hd : 64 < d) : ds = [] := by
  rcases h with ⟨rfl, rfl⟩ | ⟨rfl, rfl⟩ | ⟨rfl, rfl⟩ | ⟨rfl, rfl⟩ | ⟨rfl, rfl⟩ | ⟨rfl, rfl⟩ | ⟨rfl, rfl⟩ | ⟨rfl, rfl⟩
  all_goals first
    | rfl
    | (exact absurd hd (by decide))
theorem Sfx.range {d : Int} {ds : List Int} (h : Sfx d ds) : 1 ≤ d ∧ d ≤ 128 := by unfold Sfx at h; omega

/-- Within a pass: what is done of it, and what is to do. -/
structure InPass (d : Int) (l F0 : List Int) (T : (Nat → Bool) × List Int) (k : Nat) (U : Nat → Bool) (acc : List Int) : Prop where
  len : acc.length = k
  one : (passM d U (l.drop k) (F0.drop k)).1 = T.1
  two : acc ++ (passM d U (l.drop k) (F0.drop k)).2 = T.2
theorem InPass.start (d : Int) (l : List Int) (s : (Nat → Bool) × List Int) : InPass d l s.2 (passM d s.1 l s.2) 0 s.1 [] := ⟨rfl, rfl, rfl⟩
theorem InPass.hit {d : Int} {l F0 : List Int} {T : (Nat → Bool) × List Int} {k : Nat} {U : Nat → Bool} {acc : List Int} (h : InPass d l F0 T k U acc) {f : Int} (hx : l[k]? = some d) (hf : F0[k]? = some f) : InPass d l F0 T (k + 1) (mark U (ff U) d) (acc ++ [(ff U : Int)]) := by
  obtain ⟨h1, h2, h3⟩ := h
  rw [drop_cons hx, drop_cons hf, passM, if_pos rfl] at h2 h3
  exact ⟨by simp [h1], h2, by rw [← h3, List.append_assoc]; rfl⟩
theorem InPass.miss {d : Int} {l F0 : List Int} {T : (Nat → Bool) × List Int} {k : Nat} {U : Nat → Bool} {acc : List Int} (h : InPass d l F0 T k U acc) {p f : Int} (hx : l[k]? = some p) (hp : ¬ p = d) (hf : F0[k]? = some f) : InPass d l F0 T (k + 1) U (acc ++ [f]) := by
  obtain ⟨h1, h2, h3⟩ := h
  rw [drop_cons hx, drop_cons hf, passM, if_neg hp] at h2 h3
  exact ⟨by simp [h1], h2, by rw [← h3, List.append_assoc]; rfl⟩
theorem InPass.end_ {d : Int} {l F0 : List Int} {T : (Nat → Bool) × List Int} {k : Nat} {U : Nat → Bool} {acc : List Int} (h : InPass d l F0 T k U acc) (hl : l.length ≤ k) : U = T.1 ∧ acc = T.2 := by
  obtain ⟨h1, h2, h3⟩ := h
  rw [List.drop_eq_nil_of_le hl] at h2 h3
  have e : passM d U [] (F0.drop k) = (U, []) := by cases F0.drop k <;> rfl
  rw [e] at h2 h3
  exact ⟨h2, by simpa using h3⟩
theorem set_mid {acc F0 : List Int} {k : Nat} {f g : Int} (h1 : acc.length = k) (hf : F0[k]? = some f) : (acc ++ F0.drop k).set k g = acc ++ [g] ++ F0.drop (k + 1) := by
  rw [List.set_append_right _ _ (by omega), h1, Nat.sub_self, drop_cons hf, List.set_cons_zero, List.append_assoc]; rfl
theorem keep_mid {acc F0 : List Int} {k : Nat} {f : Int} (hf : F0[k]? = some f) : acc ++ F0.drop k = acc ++ [f] ++ F0.drop (k + 1) := by
  rw [drop_cons hf, List.append_assoc]; rfl
theorem at_mid {acc F0 : List Int} {k : Nat} {f : Int} (h1 : acc.length = k) (hf : F0[k]? = some f) : (acc ++ F0.drop k)[k]? = some f := by
  rw [List.getElem?_append_right (by omega), h1, Nat.sub_self, drop_cons hf]; rfl

set_option maxHeartbeats 1600000 in
theorem Make_any (A : Option Addr) (n c : Nat) (l : List Int) (w : World) (h : Rd w 1 A n (l.map (Value.int .i64))) (hL : in64s l) (hn : n ≤ 140737488355328) :
    Calls Try.prog 9 #[.slice A n c] w fun e w' => ∃ v, e = .returned (.tuple #[v, .int .i64 (makeE l)]) ∧ Ow (Value.int .i64) w' w.heap.size 3 v (makeR l) ∧ Below w.heap.size w w' := by
  have Hl := Lib.hid h.lenMap
  have Hc := Lib.hid (Load_any A n c l w h hL hn)
  by_cases h0 : jwrong l = 0
  · rw [if_pos h0, h0] at Hc
    obtain ⟨h4, hp⟩ := jwrong_zero.1 h0
    obtain ⟨s1, s2⟩ := load_range hp
    rw [Hl.out] at h4 s2
    by_cases hload : loadS l ≤ 64
    · have hE : makeE l = 0 := by rw [makeE, if_pos h0, if_pos hload]
      have hR : makeR l = makeL l := by rw [makeR, if_pos ⟨h0, hload⟩]
      rw [hE, hR]
      have Hp := Lib.hid hp
      have HT : Hid (makeL l = (passes l allDs (none0, List.replicate n 0)).2) := by show _ = _; rw [makeL, Hl.out]
      have hmk := run_mk elInt rfl .i64 .i64 n n (Nat.le_refl _) (by omega) (by omega)
      have ho0 := fun (W : World) => Ow.make (Value.int .i64) 0 W 3 (base := W.heap.size) n (by unfold maxLen; omega) (Nat.le_refl _)
      have Ho0 := Lib.hid ho0
      clear ho0 hp hE hR h0
      generalize loadS l = S at s1 s2 hload Hc
      go_enter Try.func9, Try.ntmps9
      go_wp2_with fail
      refine Hc.out.mono ?_
      rintro e w1 ⟨rfl, rfl⟩
      go_wp2
      go_loopw [8] (fun i wr => ∃ (d : Int) (ds : List Int) (s : (Nat → Bool) × List Int), Sfx d ds ∧ i = .int .i64 d ∧ s.2.length = n ∧ Cyc wr w.heap.size 38 s.1 ∧ Ow (Value.int .i64) wr (w.heap.size + 1) 3 (.slice (some ⟨w.heap.size + 1, 0, none⟩) n n) s.2 ∧ passes l ds s = passes l allDs (none0, List.replicate n 0) ∧ Below w.heap.size w wr ∧ w.heap.size + 2 ≤ wr.heap.size) (fun i _ => 128 - (intOf i).toNat)
      case atStart => exact ⟨1, allDs, (none0, List.replicate n 0), .inl ⟨rfl, rfl⟩, rfl, by simp, Box.alloc (Box.new w _ _) _, by simpa using Ho0.out (w.alloc _), rfl, ((Below.refl _ _).alloc (Nat.le_refl _) _).alloc (le_alloc (Nat.le_refl _)) _, by simp⟩
      case round =>
        obtain ⟨d, ds, s, hsf, rfl, hs2, hcy, ho, hacc, hbl, hsz⟩ := hrel
        obtain ⟨d1, d2⟩ := hsf.range
        have Hacc := Lib.hid hacc; clear hacc
        have Hs2 := Lib.hid hs2; clear hs2
        by_cases hd : d ≤ 64
        · obtain ⟨ds', e1, hsf', hpow⟩ := hsf.next hd
          have HN : Hid (passes l ds' (passM d s.1 l s.2) = passes l allDs (none0, List.replicate n 0)) := by show _ = _; rw [← Hacc.out, e1]; rfl
          have Hsf := Lib.hid hsf'
          have HPL : Hid ((passM d s.1 l s.2).2.length = n) := by show _ = _; rw [pass_len d s.1 l s.2 (by rw [Hl.out, Hs2.out]), Hl.out]
          clear e1 hsf' hsf Hacc hpow
          have Hst := Lib.hid (InPass.start d l s)
          generalize passM d s.1 l s.2 = T at HN HPL Hst
          obtain ⟨U0, F0⟩ := s
          simp only at Hs2 hcy ho Hst
          rename World => wo
          go_wp2
          go_loopw [30] (fun i wr => ∃ (k : Nat) (U : Nat → Bool) (acc : List Int), k ≤ n ∧ i = .int .i64 k ∧ Cyc wr w.heap.size 38 U ∧ Ow (Value.int .i64) wr (w.heap.size + 1) 3 (.slice (some ⟨w.heap.size + 1, 0, none⟩) n n) (acc ++ F0.drop k) ∧ InPass d l F0 T k U acc ∧ Below w.heap.size w wr ∧ w.heap.size + 2 ≤ wr.heap.size) (fun i _ => n - (intOf i).toNat)
          case atStart => exact ⟨0, U0, [], Nat.zero_le _, rfl, hcy, by simpa using ho, Hst.out, hbl, hsz⟩
          case round =>
            clear ho hcy hbl hsz Hst
            obtain ⟨k, U, acc, hk, rfl, hcy, ho, hin, hbl, hsz⟩ := hrel
            have Hin := Lib.hid hin; clear hin
            by_cases hlt : k < n
            · obtain ⟨ad, p, rfl, hx, hc⟩ := (h.below hbl).atMap hlt
              obtain ⟨f, hf⟩ : ∃ f, F0[k]? = some f := ⟨_, List.getElem?_eq_getElem (by rw [Hs2.out]; exact hlt)⟩
              have Hat := Lib.hid (at_mid Hin.out.len hf)
              by_cases hpd : p = d
              · subst hpd
                have HI := Lib.hid (Hin.out.hit hx hf)
                have Hset := Lib.hid (set_mid (g := (ff U : Int)) Hin.out.len hf)
                have hc0 := ho.cellAt Hat.out
                have hfz := ho.freeAt k
                have hff := ff_le U
                clear hx hf
                go_wp2_with fail
                refine (firstFree_any w.heap.size U _ hcy).mono ?_
                rintro e w2 ⟨rfl, rfl⟩
                have ho2 := ho.put k (ff U : Int)
                rw [Hset.out] at ho2
                have hc2 : (wr.setCell ⟨w.heap.size + 1, k, none⟩ (.int .i64 (ff U : Int))).cell? ⟨w.heap.size + 1, k, none⟩ = some (.int .i64 (ff U : Int)) := ho2.cellAt (by rw [List.append_assoc, List.getElem?_append_right (by rw [Hin.out.len]; exact Nat.le_refl _), Hin.out.len, Nat.sub_self]; rfl)
                have hcy2 : Cyc (wr.setCell ⟨w.heap.size + 1, k, none⟩ (.int .i64 (ff U : Int))) w.heap.size 38 U := Box.grown hcy (grownBy_setCell _ _ _) (by simp)
                have hb2 := below_grown hbl (grownBy_setCell wr ⟨w.heap.size + 1, k, none⟩ (.int .i64 (ff U : Int))) (Nat.le_succ _) (by omega)
                have Ho2 := Lib.hid ho2; clear ho2
                go_wp2_with fail
                refine (take_any w.heap.size U (ff U) p d1 hd hff _ hcy2).mono ?_
                rintro e w3 ⟨rfl, hcy3, hg3⟩
                have ho3 := Ho2.out.grown hg3 (Nat.lt_succ_self _)
                have hb3 := below_grown hb2 hg3 (Nat.le_refl _) (by have := hb2.size; omega)
                have hs3 : w.heap.size + 2 ≤ w3.heap.size := by have := hg3.size; simp [World.setCell] at this; omega
                go_wp2
                go_roundw
                case rel => exact ⟨k + 1, _, _, by omega, by go_num, hcy3, ho3, HI.out, hb3, hs3⟩
                case measure => simp [intOf] <;> omega
              · have HI := Lib.hid (Hin.out.miss hx hpd hf)
                have Hset := Lib.hid (keep_mid (acc := acc) hf)
                clear hx hf
                go_wp2
                go_roundw
                case rel => exact ⟨k + 1, _, _, by omega, by go_num, hcy, by rw [← Hset.out]; exact ho, HI.out, hbl, hsz⟩
                case measure => simp [intOf] <;> omega
            · obtain rfl : k = n := by omega
              obtain ⟨e1, e2⟩ := Hin.out.end_ (by rw [Hl.out]; exact Nat.le_refl _)
              rw [List.drop_eq_nil_of_le (by rw [Hs2.out]; exact Nat.le_refl _), List.append_nil] at ho
              subst e1 e2
              go_wp2
              go_roundw
              case rel => exact ⟨d * 2, ds', T, Hsf.out, by go_num, HPL.out, hcy, ho, HN.out, hbl, hsz⟩
              case measure => simp [intOf] <;> omega
        · have hds := hsf.done (by omega)
          have H : Hid (makeL l = s.2) := by show _ = _; rw [HT.out, ← Hacc.out, hds]; rfl
          clear hds hsf
          go_wp2
          go_ret2
          exact ⟨_, rfl, by rw [H.out]; exact ho.mono (Nat.le_succ _), hbl⟩
    · have hE : makeE l = 4 := by rw [makeE, if_pos h0, if_neg hload]
      have hR : makeR l = [] := by rw [makeR, if_neg (fun e => hload e.2)]
      rw [hE, hR]
      clear hE hR h0 hp
      generalize loadS l = S at s1 s2 hload Hc
      go_enter Try.func9, Try.ntmps9
      go_wp2_with fail
      refine Hc.out.mono ?_
      rintro e w1 ⟨rfl, rfl⟩
      go_wp2
      go_ret2
      exact ⟨_, rfl, Ow.nil _ _ _ _, Below.refl _ _⟩
  · have hE : makeE l = jwrong l := by rw [makeE, if_neg h0]
    have hR : makeR l = [] := by rw [makeR, if_neg (fun e => h0 e.1)]
    rw [hE, hR]
    rw [if_neg h0] at Hc
    have hx' : (jwrong l != 0) = true := by simpa using h0
    clear h0 hR hE
    generalize jwrong l = x at Hc hx' ⊢
    go_enter Try.func9, Try.ntmps9
    go_wp2_with fail
    refine Hc.out.mono ?_
    rintro e w1 ⟨rfl, rfl⟩
    go_wp2
    go_ret2
    exact ⟨_, rfl, Ow.nil _ _ _ _, Below.refl _ _⟩
end Go.Proofs.Ytgkdjdckdomnmaa
