/-
  slices.Equal of answers, alive21; the laws AgeNever, AgeMore.
-/
import Derived.Test.YtdppfjiphfeapaaAgePlay
namespace Go.Proofs.Ytdppfjiphfeapaa
open Go.RowKit
set_option maxRecDepth 20000
set_option linter.unusedVariables false

set_option maxHeartbeats 800000 in
theorem EqualAge_same (A B : Option Addr) (n c d : Nat) (L : List AgA) (w : World) (h : RdG agaC 3 w A n L) (h' : RdG agaC 3 w B n L) (hn : n ≤ 4611686018427387904) :
    Calls Try.prog 11 #[.slice A n c, .slice B n d] w fun e w' => e = .returned (.bool true) ∧ ∃ q, w' = w.drewN q := by
  go_enter Try.func11, Try.ntmps11
  go_wp2
  go_loopw [13] (fun i wr => ∃ k : Nat, k ≤ n ∧ i = .int .i64 k ∧ ∃ q, wr = w.drewN q) (fun i _ => n - (intOf i).toNat)
  case atStart => exact ⟨0, Nat.zero_le _, rfl, 0, rfl⟩
  case round =>
    obtain ⟨k, hk, rfl, q, rfl⟩ := hrel
    by_cases hlt : k < n
    · obtain ⟨ad, er, va, od, rfl, hx, m0, m1, m2⟩ := aga_at h hlt
      obtain ⟨ad', er', va', od', rfl, hx', m0', m1', m2'⟩ := aga_at h' hlt
      rw [hx] at hx'
      injection hx' with hx'
      injection hx' with e1 e2 e3
      subst e1 e2 e3
      clear hx
      go_wp2
      go_quiet (fail)
      go_wp2
      go_roundw
      case rel => exact ⟨k + 1, by omega, by go_num, _, rfl⟩
      case measure => simp [intOf] <;> omega
    · obtain rfl : k = n := by omega
      go_wp2
      go_ret
      exact ⟨rfl, _, rfl⟩
def aU : List AgO := [⟨2, 0⟩, ⟨1, 7⟩, ⟨3, 5⟩, ⟨2, 0⟩, ⟨3, 1⟩, ⟨2, 0⟩]
def aV : List AgA := [⟨0, 0, 3⟩, ⟨0, 0, 0⟩, ⟨0, 0, 0⟩, ⟨7, 5, 0⟩, ⟨0, 0, 0⟩, ⟨0, 0, 1⟩]
theorem aU_play : ageE 5 aU = 0 ∧ ageL 5 aU = aV ∧ lastsV 10 2 = 29 ∧ lastsE 10 2 = 0 := by decide +kernel
set_option maxHeartbeats 1600000 in
theorem alive21_any (w : World) : Calls Try.prog 12 #[] w fun e w' => e = .returned (.bool true) ∧ Below w.heap.size w w' := by
  have C1 := Lib.hid (fun (W : World) (A : Option Addr) (h : RdG agoC 2 W A 6 aU) => agePlay_any 5 A 6 6 aU W h (by decide))
  have C2 := Lib.hid (fun (W : World) => Lasts_any 10 2 W)
  unfold GivesAge at C1
  rw [aU_play.1, aU_play.2.1] at C1
  rw [aU_play.2.2.1, aU_play.2.2.2] at C2
  go_enter Try.func12, Try.ntmps12
  go_wp2_with fail
  refine (C1.out _ _ (Rd.litFlat agoK.len aU _ rfl)).mono ?_
  rintro e w2 ⟨v2, rfl, ho2, hb2⟩
  have hB := below_new hb2
  obtain ⟨A2, c2, rfl, hc2, hc2', r2⟩ := ho2.formN (n := 6) rfl
  clear ho2 C1 hb2 hc2 hc2'
  go_wp2_with fail
  refine (C2.out _).mono ?_
  rintro e w3 ⟨rfl, rfl⟩
  have CE := Lib.hid (EqualAge_same A2 (some ⟨w3.heap.size, 0, none⟩) 6 c2 6 aV (w3.alloc (.cells #[.int .i64 3, .int .i64 0, .int .i64 0, .int .i64 0, .int .i64 0, .int .i64 0, .int .i64 0, .int .i64 0, .int .i64 0, .int .i64 0, .int .i64 7, .int .i64 5, .int .i64 0, .int .i64 0, .int .i64 0, .int .i64 1, .int .i64 0, .int .i64 0] 31)) (r2.alloc _) (Rd.litFlat agaK.len aV _ rfl) (by decide))
  clear C2 r2
  go_wp2_with fail
  refine CE.out.mono ?_
  rintro e w4 ⟨rfl, hq⟩
  have hB4 := bthen hB (below_new (below_draws hq))
  clear CE hq
  go_wp2
  go_ret
  exact ⟨rfl, hB4⟩
theorem ownA_len {w : World} {base : Nat} {e : TypeId} {v : Value} {L : List AgA} (h : OwG agaC 3 w base e v L) : ∃ A m c, L.length = m ∧ v = .slice A m c ∧ RdG agaC 3 w A m L ∧ m ≤ maxLen := by
  obtain ⟨A, c, e, h1, h2, h3⟩ := h.formN (n := L.length) rfl
  exact ⟨A, _, c, rfl, e, h3, by omega⟩
/-- What was told last, so far; whether something was. -/
theorem last_step (l : List AgO) (o : AgO) : agRun (l ++ [o]) = agS (agRun l) o := agRun_snoc l o
theorem told_last {s : AgS} {o : AgO} : (o.kd = 1 → (agS s o).any = true ∧ (agS s o).va = o.n) ∧ (o.kd ≠ 1 → (agS s o).any = s.any ∧ (agS s o).va = s.va) := by
  unfold agS
  refine ⟨fun h => ?_, fun h => ?_⟩
  · rw [if_pos h]; exact ⟨rfl, rfl⟩
  · rw [if_neg h]; split <;> exact ⟨rfl, rfl⟩
set_option maxHeartbeats 1600000 in
theorem AgeNever_walk (a0 : Int) (A1 : Option Addr) (n1 c1 : Nat) (l1 : List AgO) (w : World) (w0 : (Lit.int .i64 a0).wf = true) (h1 : RdG agoC 2 w A1 n1 l1) (q1 : ∀ s ∈ l1, in64 s.kd ∧ in64 s.n) (k1 : n1 ≤ c1) (b1 : c1 * 16 ≤ 140737488351232) :
    Calls Try.prog 4 #[.int .i64 a0, .slice A1 n1 c1] w fun e w' => e = .returned (.bool true) ∧ Below w.heap.size w w' := by
  have C0 := Lib.hid (alive21_any w)
  have C1 := Lib.hid (fun (W : World) (hW : RdG agoC 2 W A1 n1 l1) => agePlay_any a0 A1 n1 c1 l1 W hW (by omega))
  have hl := RdG.len agoK h1
  unfold GivesAge at C1
  clear q1
  by_cases g : a0 < 0 ∨ agMax < a0 ∨ 400 < l1.length
  · rw [(ageE_no g).1, (ageE_no g).2] at C1
    clear g hl
    go_enter Try.func4, Try.ntmps4
    go_wp2_with fail
    refine C0.out.mono ?_
    rintro e w1 ⟨rfl, hb1⟩
    have h1' := h1.below hb1
    clear C0 h1
    go_wp2_with fail
    refine (C1.out _ h1').mono ?_
    rintro e w2 ⟨v2, rfl, ho2, hb2⟩
    have hB := bthen hb1 hb2
    obtain ⟨A2, m, c2, hm, rfl, r2, hmx⟩ := ownA_len ho2
    obtain rfl : 0 = m := hm
    clear ho2 C1 hb1 hb2 h1' r2
    go_wp2
    go_ret
    exact ⟨rfl, hB⟩
  · rw [(ageE_ok g).1, (ageE_ok g).2] at C1
    have hfresh : 0 ≤ a0 := by omega
    have hn400 : n1 ≤ 400 := by omega
    have Hl := Lib.hid hl
    clear g hl
    go_enter Try.func4, Try.ntmps4
    go_wp2_with fail
    refine C0.out.mono ?_
    rintro e w1 ⟨rfl, hb1⟩
    have h1' := h1.below hb1
    clear C0 h1
    go_wp2_with fail
    refine (C1.out _ h1').mono ?_
    rintro e w2 ⟨v2, rfl, ho2, hb2⟩
    have hB := bthen hb1 hb2
    obtain ⟨A2, c2, rfl, hc2, hc2', r2⟩ := ho2.formN (n := n1) (by rw [agAns_len]; exact Hl.out)
    have h2 := Rd.below h1' hb2
    clear ho2 C1 hb1 hb2 h1' hc2 hc2'
    go_wp2
    go_loopw [7, 8, 37] (fun x y i wr => ∃ j : Nat, j ≤ n1 ∧ i = .int .i64 j ∧ y = .bool (agRun (l1.take j)).any ∧ (∃ z, x = .int .i64 z ∧ ((agRun (l1.take j)).any = true → z = (agRun (l1.take j)).va)) ∧ Below w2.heap.size w2 wr) (fun _ _ i _ => n1 - (intOf i).toNat)
    case atStart => exact ⟨0, Nat.zero_le _, rfl, rfl, ⟨0, rfl, fun h => by cases h⟩, Below.refl _ _⟩
    case round =>
      obtain ⟨j, hj, rfl, rfl, ⟨z, rfl, hz⟩, hbl⟩ := hrel
      have Hz := Lib.hid hz
      clear hz
      by_cases hlt : j < n1
      · obtain ⟨ad, kd, x, rfl, hx, m0, m1⟩ := ago_at (h2.below hbl) hlt
        obtain ⟨bd, er, va, od, rfl, hy, p0, p1, p2⟩ := aga_at (r2.below hbl) hlt
        have Hs := Lib.hid (show agRun (l1.take (j + 1)) = agS (agRun (l1.take j)) ⟨kd, x⟩ by rw [take_snoc hx, agRun_snoc])
        have ha : agA a0 (agRun (l1.take j)) ⟨kd, x⟩ = ⟨va, od, er⟩ := by
          have := agAns_at a0 l1 ag0 j _ hx
          rw [hy] at this
          injection this with this
          exact this.symm
        have hrd : Hid (kd = 2 → er = 0 → (agRun (l1.take j)).any = true ∧ va = (agRun (l1.take j)).va ∧ 0 ≤ od ∧ od ≤ a0) := fun h2 h0 => by
          have := read_ok (f := a0) (ag_ok (l1.take j)) (o := ⟨kd, x⟩) h2 (by rw [ha]; exact h0)
          rw [ha] at this
          exact this
        have htl := Lib.hid (told_last (s := agRun (l1.take j)) (o := ⟨kd, x⟩))
        rw [← Hs.out] at htl
        have zz := Box.new wr 35 [.int .i64 kd, .int .i64 x]
        have hB0 := hbl.alloc hbl.size (.cells #[.int .i64 kd, .int .i64 x] 35)
        have r2' := (r2.below hbl).alloc (.cells #[.int .i64 kd, .int .i64 x] 35)
        have o0 := zz.cell 0 rfl
        have o1 := zz.cell 1 rfl
        change (wr.alloc (.cells #[.int .i64 kd, .int .i64 x] 35)).cell? _ = _ at o0 o1
        have p0' : (wr.alloc (.cells #[.int .i64 kd, .int .i64 x] 35)).cell? (bd.add (j * 3)) = some (.int .i64 er) := (Below.cell ((Below.refl _ _).alloc (Nat.le_refl _) _) (World.block_lt_of_cell? _ _ p0)).trans p0
        have p1' : (wr.alloc (.cells #[.int .i64 kd, .int .i64 x] 35)).cell? ⟨(bd.add (j * 3)).block, (bd.add (j * 3)).off + 1, none⟩ = some (.int .i64 va) := (Below.cell ((Below.refl _ _).alloc (Nat.le_refl _) _) (World.block_lt_of_cell? _ _ p1)).trans p1
        have p2' : (wr.alloc (.cells #[.int .i64 kd, .int .i64 x] 35)).cell? ⟨(bd.add (j * 3)).block, (bd.add (j * 3)).off + 2, none⟩ = some (.int .i64 od) := (Below.cell ((Below.refl _ _).alloc (Nat.le_refl _) _) (World.block_lt_of_cell? _ _ p2)).trans p2
        obtain ⟨any, hany⟩ : ∃ b, (agRun (l1.take j)).any = b := ⟨_, rfl⟩
        obtain ⟨lv, hlv⟩ : ∃ b, (agRun (l1.take j)).va = b := ⟨_, rfl⟩
        rw [hany, hlv] at Hz hrd htl
        rw [hany]
        have hsz := hbl.size
        clear hx hy ha hany hlv Hs zz p0 p1 p2 r2'
        go_upto_region 10 with fail
        clear m0 m1
        generalize wr.alloc (.cells #[.int .i64 kd, .int .i64 x] 35) = w5 at *
        by_cases k1 : kd = 1
        · subst k1
          have ht := htl.out.1 rfl
          have Ht := Lib.hid ht
          clear ht
          go_wp2
          go_roundw
          case rel => exact ⟨j + 1, by omega, by go_num, by rw [Ht.out.1], ⟨_, rfl, fun _ => Ht.out.2.symm⟩, hB0⟩
          case measure => simp [intOf] <;> omega
        · have Ht := Lib.hid (htl.out.2 k1)
          have e1 : (kd == 1) = false := by rw [beq_eq_false_iff_ne]; exact k1
          by_cases k2 : kd = 2
          · subst k2
            by_cases k3 : er = 0
            · subst k3
              obtain ⟨rfl, rfl, g0, g1⟩ := hrd.out rfl rfl
              obtain rfl := Hz.out rfl
              clear e1 k1
              go_wp2
              go_roundw
              case rel => exact ⟨j + 1, by omega, by go_num, by rw [Ht.out.1], ⟨_, rfl, fun _ => Ht.out.2.symm⟩, hB0⟩
              case measure => simp [intOf] <;> omega
            · have e3 : (er == 0) = false := by rw [beq_eq_false_iff_ne]; exact k3
              clear k3 e1 k1
              go_wp2
              go_roundw
              case rel => exact ⟨j + 1, by omega, by go_num, by rw [Ht.out.1], ⟨_, rfl, fun h => by rw [Ht.out.2]; exact Hz.out (by rw [← Ht.out.1]; exact h)⟩, hB0⟩
              case measure => simp [intOf] <;> omega
          · have e2 : (kd == 2) = false := by rw [beq_eq_false_iff_ne]; exact k2
            clear k1 k2
            go_wp2
            go_roundw
            case rel => exact ⟨j + 1, by omega, by go_num, by rw [Ht.out.1], ⟨_, rfl, fun h => by rw [Ht.out.2]; exact Hz.out (by rw [← Ht.out.1]; exact h)⟩, hB0⟩
            case measure => simp [intOf] <;> omega
      · obtain rfl : j = n1 := by omega
        have hB2 := bthen hB hbl
        go_wp2
        go_ret
        exact ⟨rfl, hB2⟩
end Go.Proofs.Ytdppfjiphfeapaa
