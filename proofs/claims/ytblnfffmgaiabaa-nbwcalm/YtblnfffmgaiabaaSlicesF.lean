/-
  Contracts of slices.IsSorted, and of the functions of package slices that take a function: IndexFunc, ContainsFunc, DeleteFunc, at slices of ints. No statement of the seat is here.
-/
import Derived.Test.YtblnfffmgaiabaaSlicesI
import Derived.Shelf.Abstract
namespace Go.Proofs.Ytblnfffmgaiabaa
open Go.RowKit
set_option linter.unusedVariables false

/-- Called at each number of l, in whatever world in which at most the row has been written and new blocks made, the function gives p of it, and draws at most. -/
def PredOn (g : Nat) (lb : Array Value) (p : Int → Bool) (l : List Int) (row : Option Nat) (w : World) : Prop :=
  ∀ x ∈ l, ∀ W, w.grownBy W row → Calls Try.prog g (#[.int .i64 x] ++ lb) W fun e w' => e = .returned (.bool (p x)) ∧ ∃ q, w' = W.drewN q
theorem grownBy_drewN (w : World) (q : Nat) (row : Option Nat) : w.grownBy (w.drewN q) row := ⟨rfl, rfl, rfl, Nat.le_refl _, fun _ _ _ => rfl⟩

set_option maxHeartbeats 800000 in
theorem IndexFunc_any (g : Nat) (lb : Array Value) (eg : ∀ args w, (callFunc g args).run Try.prog w = .ok (.enter g args) w) (p : Int → Bool) (row : Option Nat) (A : Option Addr) (n c : Nat) (l : List Int) (w : World) (h : Rd w 1 A n (l.map (Value.int .i64))) (hp : PredOn g lb p l row w) (hn : n ≤ 4611686018427387904) :
    Calls Try.prog 26 #[.slice A n c, .func (.func g) #[] lb] w fun e w' => ∃ r : Int, e = .returned (.int .i64 r) ∧ ((r = -1 ∧ ∀ x ∈ l, p x = false) ∨ ∃ (k : Nat) (x : Int), r = k ∧ ((k : Int) == -1) = false ∧ k < n ∧ l[k]? = some x ∧ p x = true ∧ ∀ x ∈ l.take k, p x = false) ∧ ∃ q, w' = w.drewN q := by
  have Hl := Lib.hid h.lenMap
  have Hp := Lib.hid hp; clear hp
  go_enter Try.func26, Try.ntmps26
  go_wp2
  go_loopw [8] (fun i wr => ∃ k : Nat, k ≤ n ∧ i = .int .i64 k ∧ (∀ x ∈ l.take k, p x = false) ∧ ∃ q, wr = w.drewN q) (fun i _ => n - (intOf i).toNat)
  case atStart => exact ⟨0, Nat.zero_le _, rfl, by simp, 0, rfl⟩
  case round =>
    obtain ⟨k, hk, rfl, hni, q, rfl⟩ := hrel
    have Hni := Lib.hid hni; clear hni
    by_cases hlt : k < n
    · obtain ⟨ad, x, rfl, hx, hc⟩ := h.atMap hlt
      have hcall := Hp.out x (List.mem_of_getElem? hx) (w.drewN q) (grownBy_drewN _ _ _)
      have Hx := Lib.hid hx; clear hx
      cases hq : p x with
      | true =>
        rw [hq] at hcall
        have Hq := Lib.hid hq; clear hq
        go_wp2_with (go_at_fn g; refine hcall.mono ?_; rintro e w' ⟨rfl, q', rfl⟩)
        go_ret
        exact ⟨_, rfl, .inr ⟨k, x, rfl, beq_eq_false_iff_ne.2 (by omega), hlt, Hx.out, Hq.out, Hni.out⟩, _, rfl⟩
      | false =>
        rw [hq] at hcall
        have Hq := Lib.hid hq; clear hq
        go_wp2_with (go_at_fn g; refine hcall.mono ?_; rintro e w' ⟨rfl, q', rfl⟩)
        go_roundw
        case rel =>
          refine ⟨k + 1, by omega, by go_num, ?_, _, rfl⟩
          rw [take_snoc Hx.out]
          intro y hy
          rcases List.mem_append.1 hy with h | h
          · exact Hni.out y h
          · rw [List.mem_singleton.1 h]; exact Hq.out
        case measure => simp [intOf] <;> omega
    · have hnk : k = n := by omega
      subst hnk
      go_wp2
      go_ret
      refine ⟨_, rfl, .inl ⟨rfl, ?_⟩, _, rfl⟩
      have e := Hni.out
      rwa [List.take_of_length_le (by rw [Hl.out]; exact Nat.le_refl _)] at e
theorem ContainsFunc_any (g : Nat) (lb : Array Value) (eg : ∀ args w, (callFunc g args).run Try.prog w = .ok (.enter g args) w) (p : Int → Bool) (row : Option Nat) (A : Option Addr) (n c : Nat) (l : List Int) (w : World) (h : Rd w 1 A n (l.map (Value.int .i64))) (hp : PredOn g lb p l row w) (hn : n ≤ 4611686018427387904) :
    Calls Try.prog 17 #[.slice A n c, .func (.func g) #[] lb] w fun e w' => e = .returned (.bool (l.any p)) ∧ ∃ q, w' = w.drewN q := by
  have hI := IndexFunc_any g lb eg p row A n c l w h hp hn
  clear h hp
  go_enter Try.func17, Try.ntmps17
  go_wp2_with (go_at_call 26; refine hI.mono ?_; rintro e w' ⟨r, rfl, hr, q, rfl⟩)
  go_ret
  refine ⟨ret_bool ?_, q, rfl⟩
  rcases hr with ⟨rfl, hr⟩ | ⟨k, x, rfl, _, _, hx, hpx, _⟩
  · rw [List.any_eq_false.2 (fun x hx => by simp [hr x hx])]; rfl
  · rw [List.any_eq_true.2 ⟨x, List.mem_of_getElem? hx, hpx⟩]; simp
/-- Cells of an own slice set from a place on: what lies ahead stays. -/
theorem Ow.setCells {α : Type} {f : α → Value} {base g n c : Nat} {e : TypeId} (z : α) : ∀ (m o : Nat) (w : World) (l : List α), Ow f w base e (.slice (some ⟨g, 0, none⟩) n c) l → ∃ l', Ow f (w.setCells g o (List.replicate m (f z))) base e (.slice (some ⟨g, 0, none⟩) n c) l' ∧ l'.length = l.length ∧ l'.take o = l.take o
  | 0, o, w, l, h => ⟨l, h, rfl, rfl⟩
  | m + 1, o, w, l, h => by
    obtain ⟨l', h', hl, ht⟩ := Ow.setCells z m (o + 1) _ _ (h.put o z)
    refine ⟨l', h', by rw [hl]; simp, ?_⟩
    have := congrArg (List.take o) ht
    simp only [List.take_take, show min o (o + 1) = o by omega] at this
    rw [this, List.take_set_of_le (Nat.le_refl _)]
theorem grownBy_setCells (g : Nat) : ∀ (vs : List Value) (o : Nat) (w : World), w.grownBy (w.setCells g o vs) (some g)
  | [], o, w => World.grownBy.refl _ _
  | v :: r, o, w => grownBy_then (grownBy_setCell w ⟨g, o, none⟩ v) (grownBy_setCells g r (o + 1) _)
theorem filter_take_snoc {l : List Int} {j : Nat} {x : Int} (p : Int → Bool) (h : l[j]? = some x) : (l.take (j + 1)).filter p = (l.take j).filter p ++ if p x then [x] else [] := by
  rw [take_snoc h, List.filter_append]
  congr 1
  cases hp : p x <;> simp [hp]
set_option maxHeartbeats 1600000 in
theorem DeleteFunc_own (f : Nat) (lb : Array Value) (eg : ∀ args w, (callFunc f args).run Try.prog w = .ok (.enter f args) w) (p : Int → Bool) (base : Nat) (v : Value) (l : List Int) (w : World) (ho : Ow (Value.int .i64) w base 3 v l) (hp : PredOn f lb p l v.ownBlock w) (hn : l.length ≤ 4611686018427387904) :
    Calls Try.prog 14 #[v, .func (.func f) #[] lb] w fun e w' => ∃ v', e = .returned v' ∧ Ow (Value.int .i64) w' base 3 v' (l.filter fun x => !p x) ∧ Moves w w' v v' := by
  obtain ⟨A, c, rfl, hlc, hcm⟩ := ho.form
  have hI := IndexFunc_any f lb eg p _ A l.length c l w ho.rd hp hn
  have Hp := Lib.hid hp; clear hp
  go_enter Try.func14, Try.ntmps14
  go_wp2_with (go_at_call 26; refine hI.mono ?_; rintro e w' ⟨r, rfl, hr, q, rfl⟩; clear hI; rcases hr with ⟨rfl, hall⟩ | ⟨k0, x0, rfl, hne0, hk0, hx0, hpx0, hall⟩)
  · go_ret
    refine ⟨_, rfl, ?_, ?_⟩
    · rw [List.filter_eq_self.2 (fun x hx => by simp [hall x hx])]
      exact ho
    · exact ⟨grownBy_drewN _ _ _, .inl rfl⟩
  · obtain ⟨g, c', hgc, hbg, _, _⟩ := ho.head (by omega)
    cases hgc
    have Hs : Hid ((l.take (k0 + 1)).filter (fun x => !p x) = l.take k0) := by
      show _ = _
      rw [filter_take_snoc _ hx0, hpx0, List.filter_eq_self.2 (fun x hx => by simp [hall x hx])]
      simp
    clear hall hx0 hpx0
    go_wp2
    go_loopw [5, 6, 7] (fun a b _ wr => ∃ (i j : Nat) (l' : List Int), a = .int .i64 i ∧ b = .int .i64 j ∧ j ≤ l.length ∧ i < j ∧ l'.length = l.length ∧ l'.take i = (l.take j).filter (fun x => !p x) ∧ l'.drop j = l.drop j ∧ Ow (Value.int .i64) wr base 3 (.slice (some ⟨g, 0, none⟩) l.length c) l' ∧ w.grownBy wr (some g))
      (fun _ b _ _ => l.length - (intOf b).toNat)
    case atStart => exact ⟨k0, k0 + 1, l, rfl, by go_num, hk0, by omega, rfl, Hs.out.symm, rfl, ho, grownBy_drewN _ _ _⟩
    case round =>
      obtain ⟨i, j, l', rfl, rfl, hj, hij, hl', ht, hd, ho', hg⟩ := hrel
      have hlt' : (i : Int) < (l.length : Int) := by omega
      by_cases hlt : j < l.length
      · have hltj : (j : Int) < (l.length : Int) := by omega
        obtain ⟨x, hx⟩ : ∃ x, l[j]? = some x := ⟨_, List.getElem?_eq_getElem hlt⟩
        have hx' : l'[j]? = some x := by
          have := congrArg (·[0]?) hd
          simpa [hx] using this
        have hcj := ho'.cellAt hx'
        obtain ⟨y, hy⟩ : ∃ y, l'[i]? = some y := ⟨_, List.getElem?_eq_getElem (by omega)⟩
        have hci := ho'.cellAt hy
        have hfi := ho'.freeAt i
        have hcall := Hp.out x (List.mem_of_getElem? hx) wr hg
        have Hx := Lib.hid hx; clear hx
        have Hx' := Lib.hid hx'; clear hx'
        have Hy := Lib.hid hy; clear hy
        have Ht := Lib.hid ht; clear ht
        have Hd := Lib.hid hd; clear hd
        have Hg := Lib.hid hg; clear hg
        cases hq : p x with
        | true =>
          rw [hq] at hcall
          have Hq := Lib.hid hq; clear hq
          go_wp2_with (go_at_fn f; refine hcall.mono ?_; rintro e w' ⟨rfl, q', rfl⟩)
          go_roundw
          case rel =>
            refine ⟨i, j + 1, l', rfl, by go_num, by omega, by omega, hl', ?_, ?_, ho', grownBy_then Hg.out (grownBy_drewN _ _ _)⟩
            · rw [filter_take_snoc _ Hx.out, Hq.out, Ht.out]; simp
            · rw [← List.drop_drop, Hd.out, List.drop_drop]
          case measure => simp [intOf] <;> omega
        | false =>
          rw [hq] at hcall
          have Hq := Lib.hid hq; clear hq
          go_wp2_with (go_at_fn f; refine hcall.mono ?_; rintro e w' ⟨rfl, q', rfl⟩)
          go_roundw
          case rel =>
            refine ⟨i + 1, j + 1, l'.set i x, by go_num, by go_num, by omega, by omega, by simpa using hl', ?_, ?_, Ow.put (w := wr.drewN q') ho' i x, grownBy_then Hg.out (grownBy_then (grownBy_drewN _ _ _) (grownBy_setCell _ ⟨g, i, none⟩ _))⟩
            · rw [filter_take_snoc _ Hx.out, Hq.out, ← Ht.out, take_snoc (x := x) (by rw [List.getElem?_set_self (by omega)]), List.take_set_of_le (Nat.le_refl _)]
              simp
            · rw [List.drop_set_of_lt (by omega), ← List.drop_drop, Hd.out, List.drop_drop]
          case measure => simp [intOf] <;> omega
      · obtain rfl : j = l.length := by omega
        have hnlt : ¬ (l.length : Int) < (l.length : Int) := by omega
        have hcl : ∀ ty, (Builtin.clear_ #[22] ty #[.slice (some ⟨g, i, none⟩) (l.length - i) (c - i)]).run Try.prog wr = .ok (.tuple #[]) (wr.setCells g i (List.replicate (l.length - i) (.int .i64 0))) :=
          fun ty => Lib.run_clear_slice wr _ _ ty _ Try.underlying22 Try.zeroValue3 rfl rfl g i _ _ (by omega) (fun t ht2 => by
            obtain ⟨y, hy⟩ : ∃ y, l'[i + t]? = some y := ⟨_, List.getElem?_eq_getElem (by omega)⟩
            rw [ho'.cellAt hy]; rfl) (fun t _ => ho'.freeAt _)
        obtain ⟨l2, ho2, hl2, ht2⟩ := Ow.setCells (f := Value.int .i64) (0 : Int) (l.length - i) i _ _ ho'
        have H2 := Lib.hid ho2; clear ho2
        have Ht := Lib.hid ht; clear ht
        have Ht2 := Lib.hid ht2; clear ht2
        have Hg := Lib.hid hg; clear hg
        have Ho := Lib.hid ho'; clear ho' hd
        go_wp2
        go_ret
        refine ⟨_, rfl, ?_, grownBy_then Hg.out (grownBy_setCells _ _ _ _), .inl rfl⟩
        have := H2.out.cutTo (k := i) (by omega)
        rwa [Ht2.out, Ht.out, List.take_of_length_le (Nat.le_refl _)] at this
end Go.Proofs.Ytblnfffmgaiabaa
