/-
  The walk of StartShift: it returns true, at every argument.
-/
import Derived.Test.YtaliompoknnjgaaStartLaws
namespace Go.Proofs.Ytaliompoknnjgaa
open Go.RowKit
set_option maxRecDepth 20000
set_option linter.unusedVariables false

/-- d more, as an int holds it. -/
def laterBy (d x : Int) : Int := IntKind.i64.wrap (x + d)
theorem lst_later {m d : Nat} {f : Nat → Nat} (h : ∀ k, k ≤ m → f k ≤ 1048576) (hd : d ≤ 1000) : (lst m f).map (laterBy d) = lst m fun k => f k + d := by
  apply lst_ext (by rw [List.length_map, lst_len])
  intro k hk
  rw [List.getElem?_map, lst_at hk]
  have := h k hk
  show some (laterBy d ((f k : Nat) : Int)) = _
  unfold laterBy
  rw [IntWalk.i64_in _ (by omega)]
  simp
section
variable {m q : Nat} {f f' g g' : Nat → Nat}
theorem same_one {i : Nat} (hg : ∀ k, k ≤ m → g' k = g k) (hf : ∀ k, k ≤ m → frS m q f' g' i k = frS m q f g i k) : whoS m q f' g' i = whoS m q f g i ∧ timS m q f' g' i = timS m q f g i ∧ (Clash m q f' g' i ↔ Clash m q f g i) := by
  have hs : ∀ k, k ≤ m → schS m q f' g' i k = schS m q f g i k := fun k hk => by unfold schS; rw [hf k hk, hg k hk]
  have hwho : whoS m q f' g' i = whoS m q f g i := argm_congr fun k hk j hj => by rw [hs k hk, hs j hj]
  have htim : timS m q f' g' i = timS m q f g i := by
    unfold timS
    rw [hwho, hs _ (whoS_le m q f g i)]
  refine ⟨hwho, htim, ?_⟩
  unfold Clash
  rw [hwho, htim]
  constructor
  · rintro ⟨v, hv, hne, ht⟩
    rw [hs v hv] at ht
    exact ⟨v, hv, hne, ht⟩
  · rintro ⟨v, hv, hne, ht⟩
    exact ⟨v, hv, hne, by rw [hs v hv]; exact ht⟩
theorem same_fr (hg : ∀ k, k ≤ m → g' k = g k) (h : ∀ k, k ≤ m → f' k = f k) : ∀ i k, k ≤ m → frS m q f' g' i k = frS m q f g i k
  | 0, k, hk => h k hk
  | i + 1, k, hk => by
    have ih := same_fr hg h i
    rw [frS_succ, frS_succ, (same_one hg ih).2.1, h k hk, ih k hk]
theorem same_all (hg : ∀ k, k ≤ m → g' k = g k) (h : ∀ k, k ≤ m → f' k = f k) (i : Nat) : whoS m q f' g' i = whoS m q f g i ∧ timS m q f' g' i = timS m q f g i ∧ (Clash m q f' g' i ↔ Clash m q f g i) := same_one hg (same_fr hg h i)
end
/-- What ToldS says of rows that are known. -/
theorem ToldS.at_ {m q : Nat} {f g : Nat → Nat} {a t n : Int} (h : ToldS (lst m f) (lst m g) q a t n 0) : GoodS m q f g ∧ ∃ c, EndsAt m q f g c ∧ a = ((whoS m q f g c : Nat) : Int) ∧ t = ((timS m q f g c : Nat) : Int) ∧ n = ((c : Nat) : Int) := by
  obtain ⟨m', q', f', g', c, e1, e2, e3, G, hE, ha, ht, hn⟩ := h.2 rfl
  obtain ⟨rfl, ef⟩ := lst_same e1
  obtain ⟨-, eg⟩ := lst_same e2
  obtain rfl : q = q' := by omega
  have hs := same_all (m := m) (q := q) eg ef
  refine ⟨⟨G.few, G.q1, G.q2, fun k hk => by rw [ef k hk]; exact G.on k hk, fun k hk => by rw [eg k hk]; exact G.w1 k hk, fun k hk => by rw [eg k hk]; exact G.w2 k hk, fun a b ha hb => by rw [eg a ha, eg b hb]; exact G.hd a b ha hb⟩, c, ⟨fun i hi => (hs i).2.2.2 (hE.1 i hi), fun h => hE.2 ((hs c).2.2.1 h)⟩, ?_, ?_, hn⟩
  · rw [(hs c).1, ha]
  · rw [(hs c).2.1, ht]
/-- Both good: the same, so much later. -/
theorem shift_told {l0 l1 : List Int} {late : Int} {d : Nat} (hd : d ≤ 1000) {a t n b u o : Int} (h1 : wrongS l0 l1 late = 0) (h2 : wrongS (l0.map (laterBy d)) l1 late = 0)
    (t1 : ToldS l0 l1 late a t n (wrongS l0 l1 late)) (t2 : ToldS (l0.map (laterBy d)) l1 late b u o (wrongS (l0.map (laterBy d)) l1 late)) :
    b = a ∧ u = t + d ∧ o = n ∧ 0 ≤ t ∧ t ≤ 50000000 := by
  obtain ⟨m, q, f, g, rfl, rfl, rfl, -⟩ := wrongS_ok h1
  rw [h1] at t1
  obtain ⟨G, c, hE, rfl, rfl, rfl⟩ := t1.at_
  rw [lst_later G.on hd] at t2 h2
  rw [h2] at t2
  obtain ⟨-, c', hE', rfl, rfl, rfl⟩ := t2.at_
  have hs := fun i => shift_all (m := m) (late := q) (wait := g) (on := f) (on' := fun k => f k + d) (by_ := d) (fun k hk => rfl) i
  have hE2 : EndsAt m q f g c' := ⟨fun i hi => (hs i).2.2.1 (hE'.1 i hi), fun h => hE'.2 ((hs c').2.2.2 h)⟩
  obtain rfl := hE.unique hE2
  have hc := G.few_ hE.1
  have hm := G.few
  have ht := G.tim_le c
  obtain ⟨e1, e2, -⟩ := hs c
  refine ⟨by rw [e1], by rw [e2]; omega, rfl, by omega, by omega⟩

set_option maxHeartbeats 1600000 in
theorem StartShift_walk (A0 : Option Addr) (n0 c0 : Nat) (l0 : List Int) (A1 : Option Addr) (n1 c1 : Nat) (l1 : List Int) (a2 a3 : Int) (w : World)
    (h0 : Rd w 1 A0 n0 (l0.map (Value.int .i64))) (q0 : ∀ x ∈ l0, (Lit.int .i64 x).wf = true) (k0 : n0 ≤ c0) (b0 : c0 * 8 ≤ 140737488351232)
    (h1 : Rd w 1 A1 n1 (l1.map (Value.int .i64))) (q1 : ∀ x ∈ l1, (Lit.int .i64 x).wf = true) (k1 : n1 ≤ c1) (b1 : c1 * 8 ≤ 140737488351232) (w2 : (Lit.int .i64 a2).wf = true) (w3 : (Lit.int .i64 a3).wf = true) :
    Calls Try.prog 7 #[.slice A0 n0 c0, .slice A1 n1 c1, .int .i64 a2, .int .i64 a3] w fun e w' => e = .returned (.bool true) ∧ Below w.heap.size w w' := by
  have hl := h0.lenMap
  have C0 := Lib.hid (alive22_any w)
  clear q0 q1 w2 w3
  by_cases d1 : a3 < 0
  · go_enter Try.func7, Try.ntmps7
    go_wp2_with fail
    refine C0.out.mono ?_
    rintro e w1 ⟨rfl, hb1⟩
    go_wp2
    go_ret
    exact ⟨rfl, hb1⟩
  by_cases d2 : 1000 < a3
  · go_enter Try.func7, Try.ntmps7
    go_wp2_with fail
    refine C0.out.mono ?_
    rintro e w1 ⟨rfl, hb1⟩
    go_wp2
    go_ret
    exact ⟨rfl, hb1⟩
  obtain ⟨d, rfl⟩ : ∃ d : Nat, a3 = d := ⟨a3.toNat, by omega⟩
  have hd : d ≤ 1000 := by omega
  have Hlr := Lib.hid hl
  have Hlm : Hid ((l0.map (laterBy d)).length = n0) := by show _ = _; rw [List.length_map]; exact hl
  have Hf := Lib.hid (fun (a t n b u o : Int) => shift_told (l0 := l0) (l1 := l1) (late := a2) hd (a := a) (t := t) (n := n) (b := b) (u := u) (o := o))
  have C1 := Lib.hid (fun (W : World) (hb : Below w.heap.size w W) => StartPlay_any A0 n0 c0 l0 A1 n1 c1 l1 a2 W (h0.below hb) (h1.below hb) (by omega) (by omega))
  have C2 := Lib.hid (fun (W : World) (A : Option Addr) (c : Nat) (h : Rd W 1 A n0 ((l0.map (laterBy d)).map (Value.int .i64))) (hb : Below w.heap.size w W) => StartPlay_any A n0 c (l0.map (laterBy d)) A1 n1 c1 l1 a2 W h (h1.below hb) (by omega) (by omega))
  have C3 := Lib.hid (fun (W : World) (hb : Below w.heap.size w W) => CloneI_any A0 n0 c0 l0 W (h0.below hb) (by omega))
  clear hl h0 h1
  go_enter Try.func7, Try.ntmps7
  go_wp2_with fail
  refine C0.out.mono ?_
  rintro e w1 ⟨rfl, hb1⟩
  go_wp2_with fail
  refine (C3.out _ hb1).mono ?_
  rintro e w2 ⟨v2, rfl, ho2, hb2⟩
  obtain ⟨Ax, cx, rfl, hcx, hcm, _⟩ := ho2.formN Hlr.out
  have ho3 := ho2.mono hb1.size
  have hb3 := bthen hb1 hb2
  clear C0 C3 hb1 hb2 ho2
  go_wp2
  go_loopw [31] (fun i wr => ∃ j : Nat, j ≤ n0 ∧ i = .int .i64 j ∧ Ow (Value.int .i64) wr w.heap.size 3 (.slice Ax n0 cx) ((l0.take j).map (laterBy d) ++ l0.drop j) ∧ Below w.heap.size w wr) (fun i _ => n0 - (intOf i).toNat)
  case atStart => exact ⟨0, Nat.zero_le _, rfl, by simpa using ho3, hb3⟩
  case round =>
    obtain ⟨j, hj, rfl, ho, hbl⟩ := hrel
    clear hb3 ho3
    by_cases hlt : j < n0
    · have hx : l0[j]? = some (l0[j]'(by rw [Hlr.out]; exact hlt)) := List.getElem?_eq_getElem _
      have Hs := Lib.hid (set_take_drop hx (laterBy d))
      have hat := at_take_drop hx (laterBy d)
      obtain ⟨x, hxe⟩ : ∃ x, x = l0[j]'(by rw [Hlr.out]; exact hlt) := ⟨_, rfl⟩
      rw [← hxe] at hat Hs
      obtain ⟨g, c', hv, hg, -⟩ := ho.head (by have := ho.len.1; omega)
      injection hv with hA hN hC
      clear hN
      subst hA hC
      have hc := ho.cellAt hat
      have hf := ho.freeAt j
      have hwr : IntKind.i64.wrap (x + d) = laterBy d x := rfl
      generalize laterBy d x = y at hwr Hs
      have hp := ho.put j y
      have hbp := hbl.setCell (p := ⟨g, j, none⟩) hg (.int .i64 y)
      clear hat hx hxe C1 C2
      go_wp2
      go_roundw
      case rel => exact ⟨j + 1, by omega, by go_num, by rw [← Hs.out]; exact hp, hbp⟩
      case measure => simp [intOf] <;> omega
    · have hnk : j = n0 := by omega
      subst hnk
      rw [List.take_of_length_le (by rw [Hlr.out]; exact Nat.le_refl _), List.drop_eq_nil_of_le (by rw [Hlr.out]; exact Nat.le_refl _), List.append_nil] at ho
      have hx := ho.rd
      clear ho
      go_wp2_with fail
      refine (C1.out _ hbl).mono ?_
      rintro e w5 ⟨a, t, n, T1, rfl, hb5⟩
      have hB5 := bthen hbl hb5
      replace hx := hx.below hb5
      clear hb5 hbl C1
      unfold startV
      go_wp2_with fail
      refine (C2.out _ _ _ hx hB5).mono ?_
      rintro e w6 ⟨b, u, o, T2, rfl, hb6⟩
      have hB6 := bthen hB5 hb6
      clear hb6 hB5 C2 hx
      unfold startV
      by_cases hw : wrongS l0 l1 a2 = 0
      · by_cases hw' : wrongS (l0.map (laterBy d)) l1 a2 = 0
        · obtain ⟨rfl, rfl, rfl, r1, r2⟩ := Hf.out a t n b u o hw hw' T1.out T2.out
          rw [hw, hw']
          clear hw hw' T1 T2 Hf Hlm Hlr
          go_wp2
          go_ret
          exact ⟨ret_bool (by simp <;> omega), hB6⟩
        · rw [hw]
          have hne : (wrongS (l0.map (laterBy d)) l1 a2 != 0) = true := by simpa using hw'
          clear hw hw' T1 T2 Hf Hlm Hlr
          generalize wrongS (l0.map (laterBy d)) l1 a2 = E at *
          go_wp2
          go_ret
          exact ⟨rfl, hB6⟩
      · have hne : (wrongS l0 l1 a2 != 0) = true := by simpa using hw
        clear hw T1 T2 Hf Hlm Hlr
        generalize wrongS l0 l1 a2 = E at *
        generalize wrongS (l0.map (laterBy d)) l1 a2 = E2 at *
        go_wp2
        go_ret
        exact ⟨rfl, hB6⟩
end Go.Proofs.Ytaliompoknnjgaa
