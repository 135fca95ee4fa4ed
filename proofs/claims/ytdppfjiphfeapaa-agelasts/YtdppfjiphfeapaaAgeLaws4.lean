/-
  slices.ContainsFunc of answers; the law AgeLasts.
-/
import Derived.Test.YtdppfjiphfeapaaAgeLaws2
import Derived.Shelf.Abstract
namespace Go.Proofs.Ytdppfjiphfeapaa
open Go.RowKit
set_option maxRecDepth 20000
set_option linter.unusedVariables false

def badA (a : AgA) : Bool := a.er != 0
theorem any_tick {P : Nat} (hP : 0 < P) (f : Int) : ∀ T : Nat, T ≤ 1000 → (agAns f ag0 (tickOps P T)).any badA = decide (∃ t, t < T ∧ f < ((t % P : Nat) : Int))
  | 0, _ => by simp [tickOps, agAns]
  | T + 1, hT => by
    have ih := any_tick hP f T (by omega)
    have hr := tick_read hP T (by omega) f
    have r3 : ∀ s : AgS, (agA f s ⟨3, 1⟩).er = 0 := fun s => by
      unfold agA
      rw [if_neg (show ¬ (3 : Int) = 1 by decide), if_neg (show ¬ (3 : Int) = 2 by decide), if_pos rfl, if_pos (by unfold agMax; exact ⟨by decide, by decide⟩)]
    have r1 : ∀ (s : AgS) (x : Int), (agA f s ⟨1, x⟩).er = 0 := fun s x => by unfold agA; rw [if_pos rfl]
    rw [tickOps, agAns_append, List.any_append, ih]
    change (_ || (agAns f (agRun (tickOps P T)) _).any badA) = _
    have e2 : (agAns f (agRun (tickOps P T)) ((if T % P = 0 then [(⟨1, (T : Int)⟩ : AgO)] else []) ++ [⟨2, 0⟩, ⟨3, 1⟩])).any badA = decide (f < ((T % P : Nat) : Int)) := by
      by_cases hz : T % P = 0
      · rw [if_pos hz] at hr ⊢
        simp only [List.singleton_append, agAns, List.any_cons, List.any_nil, badA, r1, r3, hr, Bool.or_false, bne_self_eq_false, Bool.false_or]
        by_cases q : f < ((T % P : Nat) : Int)
        · rw [if_pos q, decide_eq_true q]; rfl
        · rw [if_neg q, decide_eq_false q]; rfl
      · rw [if_neg hz] at hr ⊢
        simp only [List.nil_append, agAns, List.any_cons, List.any_nil, badA, r3, hr, Bool.or_false, bne_self_eq_false]
        by_cases q : f < ((T % P : Nat) : Int)
        · rw [if_pos q, decide_eq_true q]; rfl
        · rw [if_neg q, decide_eq_false q]; rfl
    rw [e2, ← Bool.decide_or]
    refine decide_eq_decide.2 ⟨?_, ?_⟩
    · rintro (⟨t, h1, h2⟩ | h)
      · exact ⟨t, by omega, h2⟩
      · exact ⟨T, by omega, h⟩
    · rintro ⟨t, h1, h2⟩
      by_cases ht : t = T
      · subst ht; exact .inr h2
      · exact .inl ⟨t, by omega, h2⟩
theorem tick_len (P : Nat) : ∀ T : Nat, (tickOps P T).length ≤ 3 * T
  | 0 => Nat.zero_le _
  | T + 1 => by
    have := tick_len P T
    rw [tickOps, List.length_append, List.length_append]
    split <;> simp <;> omega
/-- With the interval none is too old; with one unit less, just then when there are so many units. -/
theorem none_bad {P : Nat} (hP : 0 < P) (T : Nat) (hT : T ≤ 1000) : (agAns ((P : Int) - 1) ag0 (tickOps P T)).any badA = false := by
  rw [any_tick hP _ T hT]
  refine decide_eq_false ?_
  rintro ⟨t, _, h⟩
  have := Nat.mod_lt t hP
  omega
theorem some_bad {P : Nat} (hP : 2 ≤ P) (T : Nat) (hT : T ≤ 1000) : (agAns ((P : Int) - 1 - 1) ag0 (tickOps P T)).any badA = decide ((P : Int) - 1 < (T : Int)) := by
  rw [any_tick (by omega) _ T hT]
  refine decide_eq_decide.2 ⟨?_, fun h => ⟨P - 1, by omega, ?_⟩⟩
  · rintro ⟨t, h1, h2⟩
    have h3 := Nat.mod_lt t (show 0 < P by omega)
    have h4 := Nat.mod_le t P
    omega
  · rw [Nat.mod_eq_of_lt (by omega)]
    omega

/-- Called at each answer, the function gives p of it, and makes memory at most. -/
def PredA (g : Nat) (p : AgA → Bool) (l : List AgA) (w : World) : Prop :=
  ∀ x ∈ l, ∀ W, Below w.heap.size w W → Calls Try.prog g #[agaV x] W fun e w' => e = .returned (.bool (p x)) ∧ Below W.heap.size W w'
set_option maxHeartbeats 800000 in
theorem IndexFuncA_any (g : Nat) (eg : ∀ args w, (callFunc g args).run Try.prog w = .ok (.enter g args) w) (p : AgA → Bool) (A : Option Addr) (n c : Nat) (l : List AgA) (w : World) (h : RdG agaC 3 w A n l) (hp : PredA g p l w) (hn : n ≤ 4611686018427387904) :
    Calls Try.prog 18 #[.slice A n c, .func (.func g) #[] #[]] w fun e w' => ∃ r : Int, e = .returned (.int .i64 r) ∧ ((r = -1 ∧ ∀ x ∈ l, p x = false) ∨ ∃ (k : Nat) (x : AgA), r = k ∧ l[k]? = some x ∧ p x = true) ∧ Below w.heap.size w w' := by
  have Hl := Lib.hid (RdG.len agaK h)
  have Hp := Lib.hid hp; clear hp
  go_enter Try.func18, Try.ntmps18
  go_wp2
  go_loopw [8] (fun i wr => ∃ k : Nat, k ≤ n ∧ i = .int .i64 k ∧ (∀ x ∈ l.take k, p x = false) ∧ Below w.heap.size w wr) (fun i _ => n - (intOf i).toNat)
  case atStart => exact ⟨0, Nat.zero_le _, rfl, by simp, Below.refl _ _⟩
  case round =>
    obtain ⟨k, hk, rfl, hni, hbl⟩ := hrel
    have Hni := Lib.hid hni; clear hni
    by_cases hlt : k < n
    · obtain ⟨ad, er, va, od, rfl, hx, hc0, hc1, hc2⟩ := aga_at (h.below hbl) hlt
      have hcall := Hp.out _ (List.mem_of_getElem? hx) wr hbl
      have Hx := Lib.hid hx; clear hx
      cases hq : p ⟨va, od, er⟩ with
      | true =>
        rw [hq] at hcall
        have Hq := Lib.hid hq; clear hq
        go_wp2_with (go_at_fn g; refine hcall.mono ?_; rintro e w' ⟨rfl, hb'⟩)
        go_ret
        exact ⟨_, rfl, .inr ⟨k, _, rfl, Hx.out, Hq.out⟩, bthen hbl hb'⟩
      | false =>
        rw [hq] at hcall
        have Hq := Lib.hid hq; clear hq
        go_wp2_with (go_at_fn g; refine hcall.mono ?_; rintro e w' ⟨rfl, hb'⟩)
        go_roundw
        case rel =>
          refine ⟨k + 1, by omega, by go_num, ?_, bthen hbl hb'⟩
          rw [take_snoc Hx.out]
          intro y hy
          rcases List.mem_append.1 hy with h | h
          · exact Hni.out y h
          · rw [List.mem_singleton.1 h]; exact Hq.out
        case measure => simp [intOf] <;> omega
    · have hnk : k = n := by omega
      subst hnk
      go_wp2
      go_ret
      refine ⟨_, rfl, .inl ⟨rfl, ?_⟩, hbl⟩
      have e := Hni.out
      rwa [List.take_of_length_le (by rw [Hl.out]; exact Nat.le_refl _)] at e
theorem ContainsFuncA_any (g : Nat) (eg : ∀ args w, (callFunc g args).run Try.prog w = .ok (.enter g args) w) (p : AgA → Bool) (A : Option Addr) (n c : Nat) (l : List AgA) (w : World) (h : RdG agaC 3 w A n l) (hp : PredA g p l w) (hn : n ≤ 4611686018427387904) :
    Calls Try.prog 14 #[.slice A n c, .func (.func g) #[] #[]] w fun e w' => e = .returned (.bool (l.any p)) ∧ Below w.heap.size w w' := by
  have hI := IndexFuncA_any g eg p A n c l w h hp hn
  clear h hp
  go_enter Try.func14, Try.ntmps14
  go_wp2_with (go_at_call 18; refine hI.mono ?_; rintro e w' ⟨r, rfl, hr, hb⟩)
  go_ret
  refine ⟨ret_bool ?_, hb⟩
  rcases hr with ⟨rfl, hr⟩ | ⟨k, x, rfl, hx, hpx⟩
  · rw [List.any_eq_false.2 (fun x hx => by simp [hr x hx])]; rfl
  · rw [List.any_eq_true.2 ⟨x, List.mem_of_getElem? hx, hpx⟩]; simp
theorem enterBadA : ∀ args w, (callFunc 15 args).run Try.prog w = .ok (.enter 15 args) w := enters_of Try.func15 (by kernel_rfl) rfl
theorem enterOld : ∀ args w, (callFunc 13 args).run Try.prog w = .ok (.enter 13 args) w := enters_of Try.func13 (by kernel_rfl) rfl
theorem badA_any (a : AgA) (w : World) : Calls Try.prog 15 #[agaV a] w fun e w' => e = .returned (.bool (badA a)) ∧ Below w.heap.size w w' := by
  obtain ⟨va, od, er⟩ := a
  have zz := Box.new w 31 [.int .i64 er, .int .i64 va, .int .i64 od]
  have m0 := zz.cell 0 rfl
  change (w.alloc (.cells #[.int .i64 er, .int .i64 va, .int .i64 od] 31)).cell? _ = _ at m0
  clear zz
  go_enter Try.func15, Try.ntmps15
  go_wp2
  go_ret
  exact ⟨ret_bool (by simp [badA, bne]), (Below.refl _ _).alloc (Nat.le_refl _) _⟩
theorem old_any (A : Option Addr) (n c : Nat) (l : List AgA) (w : World) (h : RdG agaC 3 w A n l) (hn : n ≤ 4611686018427387904) :
    Calls Try.prog 13 #[.slice A n c] w fun e w' => e = .returned (.bool (l.any badA)) ∧ Below w.heap.size w w' := by
  have C := Lib.hid (ContainsFuncA_any 15 enterBadA badA A n c l w h (fun x _ W _ => badA_any x W) hn)
  go_enter Try.func13, Try.ntmps13
  go_wp2_with fail
  refine C.out.mono ?_
  rintro e w1 ⟨rfl, hb⟩
  go_wp2
  go_ret
  exact ⟨rfl, hb⟩
end Go.Proofs.Ytdppfjiphfeapaa
