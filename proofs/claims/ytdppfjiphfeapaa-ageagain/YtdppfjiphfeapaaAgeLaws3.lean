/-
  The law AgeAgain.
-/
import Derived.Test.YtdppfjiphfeapaaAgeLaws2
namespace Go.Proofs.Ytdppfjiphfeapaa
open Go.RowKit
set_option maxRecDepth 20000
set_option linter.unusedVariables false

theorem again_at {f : Int} (hf : 0 ≤ f) (l : List AgO) (x : Int) : (agAns f ag0 (l ++ [⟨1, x⟩, ⟨2, 0⟩]))[l.length + 1]? = some ⟨x, 0, 0⟩ := by
  have e : (l ++ [(⟨1, x⟩ : AgO), ⟨2, 0⟩])[l.length + 1]? = some ⟨2, 0⟩ := by
    rw [List.getElem?_append_right (by omega), show l.length + 1 - l.length = 1 by omega]; rfl
  rw [agAns_at f _ ag0 _ _ e]
  have e2 : (l ++ [(⟨1, x⟩ : AgO), ⟨2, 0⟩]).take (l.length + 1) = l ++ [⟨1, x⟩] := by
    rw [show l ++ [(⟨1, x⟩ : AgO), ⟨2, 0⟩] = (l ++ [⟨1, x⟩]) ++ [⟨2, 0⟩] by simp]
    exact List.take_left' (by simp)
  rw [e2, List.foldl_append]
  exact congrArg some (again_ok hf (agRun l) x)
set_option maxHeartbeats 1600000 in
theorem AgeAgain_walk (a0 : Int) (A1 : Option Addr) (n1 c1 : Nat) (l1 : List AgO) (a2 : Int) (w : World) (w0 : (Lit.int .i64 a0).wf = true) (h1 : RdG agoC 2 w A1 n1 l1) (q1 : ∀ s ∈ l1, in64 s.kd ∧ in64 s.n) (k1 : n1 ≤ c1) (b1 : c1 * 16 ≤ 140737488351232) (w2 : (Lit.int .i64 a2).wf = true) :
    Calls Try.prog 7 #[.int .i64 a0, .slice A1 n1 c1, .int .i64 a2] w fun e w' => e = .returned (.bool true) ∧ Below w.heap.size w w' := by
  have hl := RdG.len agoK h1
  have C0 := Lib.hid (alive21_any w)
  have CC := Lib.hid (fun (W : World) (hW : RdG agoC 2 W A1 n1 l1) => CloneAge_any A1 n1 c1 l1 W hW (by omega))
  have hlen : (l1 ++ [(⟨1, a2⟩ : AgO), ⟨2, 0⟩]).length = n1 + 2 := by rw [List.length_append, hl]; rfl
  have C1 := Lib.hid (fun (W : World) (A : Option Addr) (c : Nat) (hW : RdG agoC 2 W A (n1 + 2) (l1 ++ [⟨1, a2⟩, ⟨2, 0⟩])) => agePlay_any a0 A (n1 + 2) c (l1 ++ [⟨1, a2⟩, ⟨2, 0⟩]) W hW (by omega))
  unfold GivesAge at C1
  have hres : Hid ((ageE a0 (l1 ++ [⟨1, a2⟩, ⟨2, 0⟩]) = 2 ∧ ageL a0 (l1 ++ [⟨1, a2⟩, ⟨2, 0⟩]) = []) ∨ (ageE a0 (l1 ++ [⟨1, a2⟩, ⟨2, 0⟩]) = 0 ∧ (ageL a0 (l1 ++ [⟨1, a2⟩, ⟨2, 0⟩])).length = n1 + 2 ∧ (ageL a0 (l1 ++ [⟨1, a2⟩, ⟨2, 0⟩]))[n1 + 1]? = some ⟨a2, 0, 0⟩ ∧ n1 ≤ 398)) := by
    by_cases g : a0 < 0 ∨ agMax < a0 ∨ 400 < (l1 ++ [(⟨1, a2⟩ : AgO), ⟨2, 0⟩]).length
    · exact .inl (ageE_no g)
    · refine .inr ⟨(ageE_ok g).1, ?_, ?_, ?_⟩
      · rw [(ageE_ok g).2, agAns_len, hlen]
      · have := again_at (f := a0) (by omega) l1 a2
        rw [hl] at this
        rw [(ageE_ok g).2, this]
      · omega
  generalize ageE a0 (l1 ++ [⟨1, a2⟩, ⟨2, 0⟩]) = E at *
  generalize ageL a0 (l1 ++ [⟨1, a2⟩, ⟨2, 0⟩]) = L at *
  have Hl := Lib.hid hl
  have Hlen := Lib.hid hlen
  clear q1 w0 w2 hl hlen
  go_enter Try.func7, Try.ntmps7
  go_wp2_with fail
  refine C0.out.mono ?_
  rintro e w1 ⟨rfl, hb1⟩
  have h1' := h1.below hb1
  clear C0 h1
  go_wp2_with fail
  refine (CC.out _ h1').mono ?_
  rintro e w2 ⟨v2, rfl, ho2, hb2⟩
  have hB2 := bthen hb1 hb2
  replace ho2 := ho2.mono hb1.size
  have hs2 := hB2.size
  have Hb := Lib.hid hB2
  clear CC h1' hb2 hb1 hB2
  go_wp2_with (at_builtin; go_must (refine wpList_apG agoK _ elAgo rfl rfl w.heap.size _ l1 rfl (ho2.alloc _) _ 2 2 [(⟨1, a2⟩ : AgO), ⟨2, 0⟩] rfl (Rd.litFlat agoK.len [(⟨1, a2⟩ : AgO), ⟨2, 0⟩] _ rfl) (by simp; omega) (by have := Hl.out; omega) (by have := Hl.out; omega) ?_; intro v3 w3 ho3 hm3; obtain ⟨A3, c3, rfl, hc3, hc3', r3⟩ := ho3.formN Hlen.out; have HF := Lib.hid (hm3.below (Hb.out.alloc hs2 _) (by simp; omega) (fun k hk => ho2.block k hk)); clear ho3 hm3 hc3 hc3'))
  refine (C1.out _ _ _ r3).mono ?_
  rintro e w4 ⟨v4, rfl, ho4, hb4⟩
  have hB4 := bthen HF.out hb4
  obtain ⟨A4, m, c4, hm, rfl, r4, hmx⟩ := ownA_len ho4
  clear ho4 C1 hb4 HF r3 ho2 Hb
  rcases hres.out with ⟨rfl, rfl⟩ | ⟨rfl, e2, e3, e4⟩
  · obtain rfl : 0 = m := hm
    clear hres r4
    go_wp2
    go_ret
    exact ⟨rfl, hB4⟩
  · obtain rfl : n1 + 2 = m := by omega
    obtain ⟨ad, er, va, od, rfl, hy, p0, p1, p2⟩ := aga_at r4 (k := n1 + 1) (by omega)
    rw [e3] at hy
    injection hy with hy
    injection hy with y0 y1 y2
    subst y0 y1 y2
    clear hres e2 e3 hm r4 hmx
    go_wp2
    go_ret
    exact ⟨rfl, hB4⟩
end Go.Proofs.Ytdppfjiphfeapaa
