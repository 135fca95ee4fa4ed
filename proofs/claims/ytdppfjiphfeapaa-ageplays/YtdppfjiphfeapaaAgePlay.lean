/-
  Contract of age.Play, for every input.
-/
import Derived.Test.YtdppfjiphfeapaaAgeWalks
import Derived.Test.YtdppfjiphfeapaaRoom
namespace Go.Proofs.Ytdppfjiphfeapaa
open Go.RowKit
set_option maxRecDepth 20000
set_option linter.unusedVariables false

/-- What Play returns: the answers and the error. -/
def GivesAge (f : Int) (l : List AgO) (w : World) (e : Ending) (w' : World) : Prop :=
  ∃ v, e = .returned (.tuple #[v, .int .i64 (ageE f l)]) ∧ OwG agaC 3 w' w.heap.size 31 v (ageL f l) ∧ Below w.heap.size w w'
def zeroA : AgA := ⟨0, 0, 0⟩
/-- The state between rounds: the answers, the variable. -/
structure AgeSt (w wr : World) (n : Nat) (f : Int) (l : List AgO) (j : Nat) : Prop where
  ans : OwG agaC 3 wr w.heap.size 31 (.slice (some ⟨w.heap.size, 0, none⟩) n n) (agAns f ag0 (l.take j) ++ List.replicate (n - j) zeroA)
  var : Box wr (w.heap.size + 1) 45 (varC (agRun (l.take j)))
  bel : Below w.heap.size w wr
theorem fill_aga {n j : Nat} (h : j < n) {r : List AgA} (hr : r.length = j) (x : AgA) : (r ++ List.replicate (n - j) zeroA).set j x = (r ++ [x]) ++ List.replicate (n - (j + 1)) zeroA := by
  rw [List.set_append_right _ _ (by omega), hr, Nat.sub_self, show n - j = (n - (j + 1)) + 1 by omega, List.replicate_succ, List.set_cons_zero, List.append_assoc]
  rfl
theorem OwG.belowAt {α : Type} {C : α → List Value} {sz : Nat} {w w' : World} {base g n c b : Nat} {e : TypeId} {L : List α} (h : OwG C sz w base e (.slice (some ⟨g, 0, none⟩) n c) L) (hb : Below b w w') (hg : g < b) : OwG C sz w' base e (.slice (some ⟨g, 0, none⟩) n c) L := by
  refine ⟨h.1, ?_⟩
  rcases h.2 with ⟨hv, h0⟩ | ⟨g', cap, cur, hv, hbs, hblk, h1, h2, h3, h4⟩
  · exact .inl ⟨hv, h0⟩
  · have hg' : g = g' := by
      injection hv with hA _ _
      injection hA with hA
      injection hA with hA
    subst hg'
    exact .inr ⟨g, cap, cur, hv, hbs, (hb.block g hg).trans hblk, h1, h2, h3, h4⟩
theorem AgeSt.step {w wr w3 : World} {n j : Nat} {f : Int} {l : List AgO} {o : AgO} {c : Obj} (h : AgeSt w wr n f l j) (hl : l.length = n) (hj : j < n) (ho : l[j]? = some o) (hv : Box w3 (w.heap.size + 1) 45 (varC (agS (agRun (l.take j)) o))) (hb : Below (w.heap.size + 1) (wr.alloc c) w3) (va od er : Int) (ha : agA f (agRun (l.take j)) o = ⟨va, od, er⟩) :
    (∃ z0 z1 z2, w3.cell? ⟨w.heap.size, j * 3, none⟩ = some z0 ∧ w3.cell? ⟨w.heap.size, j * 3 + 1, none⟩ = some z1 ∧ w3.cell? ⟨w.heap.size, j * 3 + 2, none⟩ = some z2) ∧ (∀ k, w3.frozen? ⟨w.heap.size, k, none⟩ = false) ∧ w.heap.size < w3.heap.size ∧
      AgeSt w (((w3.setCell ⟨w.heap.size, j * 3, none⟩ (.int .i64 er)).setCell ⟨w.heap.size, j * 3 + 1, none⟩ (.int .i64 va)).setCell ⟨w.heap.size, j * 3 + 2, none⟩ (.int .i64 od)) n f l (j + 1) := by
  have hch := h.var.lt
  have e3 := (h.ans.alloc c).belowAt hb (by omega)
  have b3 := (h.bel.alloc (by omega) c).trans (hb.mono (by omega))
  have g := grownBy_tri w3 w.heap.size (j * 3) (j * 3 + 1) (j * 3 + 2) (.int .i64 er) (.int .i64 va) (.int .i64 od)
  have hlen : (agAns f ag0 (l.take j)).length = j := by rw [agAns_len, List.length_take]; omega
  have hz : (agAns f ag0 (l.take j) ++ List.replicate (n - j) zeroA)[j]? = some zeroA := by
    rw [List.getElem?_append_right (by omega), hlen, Nat.sub_self, List.getElem?_replicate, if_pos (by omega)]
  have q0 := e3.cellAt agaK hz (j := 0) rfl
  have q1 := e3.cellAt agaK hz (j := 1) rfl
  have q2 := e3.cellAt agaK hz (j := 2) rfl
  rw [Nat.add_zero] at q0
  refine ⟨⟨_, _, _, q0, q1, q2⟩, fun k => e3.freeAt k, by have := hv.lt; omega, ?_, ?_, below_grown b3 g (Nat.le_refl _) (by have := hv.lt; omega)⟩
  · rw [take_snoc ho, agAns_snoc, ← fill_aga hj hlen, ha]
    exact put_aga e3 hz er va od
  · rw [take_snoc ho, agRun_snoc]
    exact hv.grown g (fun e => by injection e with e; omega)
set_option maxHeartbeats 1600000 in
theorem agePlay_any (f : Int) (A : Option Addr) (n c : Nat) (l : List AgO) (w : World) (h : RdG agoC 2 w A n l) (hn : n ≤ 4611686018427387904) :
    Calls Try.prog 8 #[.int .i64 f, .slice A n c] w (GivesAge f l w) := by
  have hM : agMax = 1099511627776 := rfl
  have hl := RdG.len agoK h
  by_cases g : f < 0 ∨ agMax < f ∨ 400 < l.length
  · unfold GivesAge
    rw [(ageE_no g).1, (ageE_no g).2]
    rw [hM, hl] at g
    have hcs : f < 0 ∨ (0 ≤ f ∧ 1099511627776 < f) ∨ (0 ≤ f ∧ f ≤ 1099511627776 ∧ 400 < (n : Int)) := by omega
    clear g hl hM h
    rcases hcs with q1 | ⟨q1, q2⟩ | ⟨q1, q2, q3⟩
    all_goals
      go_enter Try.func8, Try.ntmps8
      go_wp2
      go_ret2
      exact ⟨_, rfl, OwG.nil _ _ _, Below.refl _ _⟩
  · have EL := Lib.hid (ageE_ok g)
    rw [hM, hl] at g
    have q1 : 0 ≤ f := by omega
    have q2 : f ≤ 1099511627776 := by omega
    have q3 : n ≤ 400 := by omega
    clear g hM
    have hmk := run_mkG (P := Try.prog) elAga .i64 .i64 n n (Nat.le_refl _) (by omega) (by omega)
    have S0 : AgeSt w ((w.alloc (.cells (madeCells #[.int .i64 0, .int .i64 0, .int .i64 0] (n * 3)) 31)).alloc (.cells #[.int .i64 0, .bool false, .int .i64 0, .int .i64 0] 45)) n f l 0 := by
      refine ⟨?_, ?_, ((Below.refl _ _).alloc (Nat.le_refl _) _).alloc (by simp) _⟩
      · have := (OwG.make agaK (z := .agg #[.int .i64 0, .int .i64 0, .int .i64 0]) (z0 := zeroA) rfl w 31 (base := w.heap.size) n (by unfold maxLen; omega) (Nat.le_refl _)).alloc (.cells #[.int .i64 0, .bool false, .int .i64 0, .int .i64 0] 45)
        rw [List.take_zero, agAns, List.nil_append, Nat.sub_zero]
        exact this
      · have := Box.new (w.alloc (.cells (madeCells #[.int .i64 0, .int .i64 0, .int .i64 0] (n * 3)) 31)) 45 [.int .i64 0, .bool false, .int .i64 0, .int .i64 0]
        simpa [agRun, ag0, varC] using this
    have HS0 := Lib.hid S0
    have Hl := Lib.hid hl
    clear S0 hl
    go_enter Try.func8, Try.ntmps8
    go_wp2
    go_loopw [26] (fun i wr => ∃ j : Nat, j ≤ n ∧ i = .int .i64 j ∧ AgeSt w wr n f l j) (fun i _ => n - (intOf i).toNat)
    case atStart => exact ⟨0, Nat.zero_le _, rfl, HS0.out⟩
    case round =>
      obtain ⟨j, hj, rfl, hst⟩ := hrel
      clear HS0 hmk
      have hbl := hst.bel
      by_cases hlt : j < n
      · obtain ⟨ad, kd, x, rfl, hx, m0, m1⟩ := ago_at (h.below hbl) hlt
        have Hx := Lib.hid hx
        have CP := Lib.hid (agePerform_any (w.heap.size + 1) (agRun (l.take j)) ⟨kd, x⟩ f (ag_ok _) q1 (wr.alloc (.cells #[.int .i64 kd, .int .i64 x] 35)) (hst.var.alloc _))
        unfold GivesAg at CP
        obtain ⟨⟨va, od, er⟩, ha⟩ : ∃ a, agA f (agRun (l.take j)) ⟨kd, x⟩ = a := ⟨_, rfl⟩
        rw [ha] at CP
        have Ha := Lib.hid ha
        have z := Box.new wr 35 [.int .i64 kd, .int .i64 x]
        have o0 := z.cell 0 rfl
        have o1 := z.cell 1 rfl
        change (wr.alloc (.cells #[.int .i64 kd, .int .i64 x] 35)).cell? _ = _ at o0 o1
        have hsz := hbl.size
        have Hst := Lib.hid hst
        clear hx hst hbl ha z
        go_wp2_with fail
        refine CP.out.mono ?_
        rintro e w3 ⟨rfl, hv3, hb3⟩
        obtain ⟨⟨z0, z1, z2, y0, y1, y2⟩, hf, hl3, hs3⟩ := Hst.out.step Hl.out hlt Hx.out hv3 hb3 va od er Ha.out
        have Hs3 := Lib.hid hs3
        have f0 := hf (j * 3)
        have f1 := hf (j * 3 + 1)
        have f2 := hf (j * 3 + 2)
        clear CP hv3 hb3 hs3 Hst Hx hf Ha o0 o1 m0 m1
        go_wp2
        go_roundw
        case rel => exact ⟨j + 1, by omega, by go_num, Hs3.out⟩
        case measure => simp [intOf] <;> omega
      · obtain rfl : j = n := by omega
        have ho := hst.ans
        rw [List.take_of_length_le (by rw [Hl.out]; exact Nat.le_refl _), Nat.sub_self, List.replicate_zero, List.append_nil] at ho
        have Ho := Lib.hid ho
        clear ho hst
        go_wp2
        go_ret2
        exact ⟨.slice (some ⟨w.heap.size, 0, none⟩) j j, by rw [EL.out.1]; rfl, by rw [EL.out.2]; exact Ho.out, hbl⟩
end Go.Proofs.Ytdppfjiphfeapaa
