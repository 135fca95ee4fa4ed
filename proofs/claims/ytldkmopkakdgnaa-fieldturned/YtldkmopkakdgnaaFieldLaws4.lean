/-
  The walk of FieldTurned.
-/
import Derived.Test.YtldkmopkakdgnaaFieldLaws
import Derived.Test.YtldkmopkakdgnaaZeros
import Derived.Test.YtldkmopkakdgnaaRoom
namespace Go.Proofs.Ytldkmopkakdgnaa
open Go.RowKit
set_option maxRecDepth 20000
set_option linter.unusedVariables false

theorem fill_back {n k : Nat} (h : k < n) (r : List Int) (x : Int) : (List.replicate (n - k) (0 : Int) ++ r).set (n - 1 - k) x = List.replicate (n - (k + 1)) 0 ++ (x :: r) := by
  have e : n - k = (n - (k + 1)) + 1 := by omega
  rw [e, List.replicate_succ', List.append_assoc, List.set_append_right _ _ (by rw [List.length_replicate]; omega), List.length_replicate, show n - 1 - k - (n - (k + 1)) = 0 by omega]
  rfl
theorem getE_nat {l : List Int} {a b : Nat} {g : Bool} (h1 : 1 ≤ b) (h2 : b ≤ 62) (h3 : a + b ≤ 8 * l.length) (h4 : l.length ≤ 400) : getE l ⟨(a : Int), (b : Int), g⟩ = (getF l ⟨a, b, g⟩, 0) := by
  have ok : (⟨a, b, g⟩ : Fld).Ok l.length := ⟨h4, h1, h2, h3⟩
  have := wrongW_ok ok
  unfold getE
  rw [show (⟨(a : Int), (b : Int), g⟩ : FI) = (⟨a, b, g⟩ : Fld).i from rfl, if_pos this, i_fld]
set_option maxHeartbeats 1000000 in
theorem FieldTurned_walk (A0 : Option Addr) (n0 c0 : Nat) (l0 : List Int) (a1 a2 : Int) (w : World) (h0 : Rd w 1 A0 n0 (l0.map (Value.int .u8))) (v0 : ∀ x ∈ l0, (Lit.int .u8 x).wf = true) (k0 : n0 ≤ c0) (b0 : c0 * 1 ≤ 140737488351232) (wa : (Lit.int .i64 a1).wf = true) (wb : (Lit.int .i64 a2).wf = true) :
    Calls Try.prog 7 #[.slice A0 n0 c0, .int .i64 a1, .int .i64 a2] w fun e w' => e = .returned (.bool true) ∧ Below w.heap.size w w' := by
  have q0 : Byt l0 := fun x hx => by have := wf_u8 (v0 x hx); omega
  have Hl := Lib.hid h0.lenMap
  have Hq := Lib.hid q0
  clear v0 q0
  go_enter Try.func7, Try.ntmps7
  go_wp2_with fail
  refine (alive23_any _).mono ?_
  rintro e w1 ⟨rfl, hb1⟩
  by_cases c1 : a1 < 0
  · go_wp2
    go_ret
    exact ⟨rfl, hb1⟩
  · have d1 : decide (a1 < 0) = false := decide_eq_false c1
    by_cases c2 : a2 < 1
    · go_wp2
      go_ret
      exact ⟨rfl, hb1⟩
    · have d2 : decide (a2 < 1) = false := decide_eq_false c2
      by_cases c3 : 7 < a2
      · go_wp2
        go_ret
        exact ⟨rfl, hb1⟩
      · have d3 : decide (7 < a2) = false := decide_eq_false c3
        have v5 : IntKind.i64.wrap ((n0 : Int) - a2) = (n0 : Int) - a2 := IntWalk.i64_in _ (by omega)
        by_cases c4 : (n0 : Int) - a2 < a1
        · have d4 : decide ((n0 : Int) - a2 < a1) = true := decide_eq_true c4
          go_wp2
          go_ret
          exact ⟨rfl, hb1⟩
        · have d4 : decide ((n0 : Int) - a2 < a1) = false := decide_eq_false c4
          by_cases c5 : (50 : Int) < n0
          · have d5 : decide ((50 : Int) < (n0 : Int)) = true := decide_eq_true c5
            go_wp2
            go_ret
            exact ⟨rfl, hb1⟩
          · have d5 : decide ((50 : Int) < (n0 : Int)) = false := decide_eq_false c5
            obtain ⟨fa, rfl⟩ := Int.eq_ofNat_of_zero_le (show 0 ≤ a1 by omega)
            obtain ⟨fb, rfl⟩ := Int.eq_ofNat_of_zero_le (show 0 ≤ a2 by omega)
            have hmk := run_mk elByte rfl .i64 .i64 n0 n0 (Nat.le_refl _) (by omega) (by omega)
            have Ho0 := Lib.hid (Ow.make (Value.int .u8) 0 w1 5 (base := w1.heap.size) n0 (by unfold maxLen; omega) (Nat.le_refl _))
            have r1 := h0.below hb1
            have z1 : fa + fb ≤ n0 := by omega
            have z2 : 1 ≤ fb := by omega
            have z3 : fb ≤ 7 := by omega
            have z4 : n0 ≤ 50 := by omega
            go_wp2
            clear c1 c2 c3 c4 c5 d1 d2 d3 d4 d5
            go_loopw [44] (fun i wr => ∃ k : Nat, k ≤ n0 ∧ i = .int .i64 k ∧ Ow (Value.int .u8) wr w1.heap.size 5 (.slice (some ⟨w1.heap.size, 0, none⟩) n0 n0) (List.replicate (n0 - k) 0 ++ (l0.take k).reverse) ∧ Below w1.heap.size w1 wr) (fun i _ => n0 - (intOf i).toNat)
            case atStart => exact ⟨0, Nat.zero_le _, rfl, by simpa using Ho0.out, (Below.refl _ _).alloc (Nat.le_refl _) _⟩
            case round =>
              obtain ⟨k, hk, rfl, ho, hbl⟩ := hrel
              by_cases hlt : k < n0
              · obtain ⟨ad, x, rfl, hx, hc⟩ := (r1.below hbl).atMap hlt
                have Hs := Lib.hid (show (List.replicate (n0 - k) (0 : Int) ++ (l0.take k).reverse).set (n0 - 1 - k) x = List.replicate (n0 - (k + 1)) 0 ++ (l0.take (k + 1)).reverse by rw [fill_back hlt, take_snoc hx, List.reverse_append]; rfl)
                clear hx
                have hfr := ho.freeAt (n0 - 1 - k)
                have hput := ho.put (n0 - 1 - k) x
                obtain ⟨z, hz⟩ : ∃ z, (List.replicate (n0 - k) (0 : Int) ++ (l0.take k).reverse)[n0 - 1 - k]? = some z := ⟨_, List.getElem?_eq_getElem (by simp [Hl.out]; omega)⟩
                have hcz := ho.cellAt hz
                have Hput := Lib.hid hput; clear hput
                have v1 : IntKind.i64.wrap ((n0 : Int) - 1) = (n0 : Int) - 1 := IntWalk.i64_in _ (by omega)
                have v2 : IntKind.i64.wrap ((n0 : Int) - 1 - k) = (n0 : Int) - 1 - k := IntWalk.i64_in _ (by omega)
                have t1 : ((n0 : Int) - 1 - k).toNat = n0 - 1 - k := by omega
                have b1' : 0 ≤ (n0 : Int) - 1 - k := by omega
                have b2' : (n0 : Int) - 1 - k < n0 := by omega
                go_wp2
                go_roundw
                case rel => exact ⟨k + 1, by omega, by go_num, by rw [← Hs.out]; exact Hput.out, hbl.setCell (p := ⟨w1.heap.size, n0 - 1 - k, none⟩) (Nat.le_refl _) _⟩
                case measure => simp [intOf] <;> omega
              · obtain rfl : k = n0 := by omega
                rw [List.take_of_length_le (by rw [Hl.out]; exact Nat.le_refl _), Nat.sub_self, List.replicate_zero, List.nil_append] at ho
                have rb := ho.rd
                have hbr : Byt l0.reverse := fun x hx => Hq.out x (List.mem_reverse.1 hx)
                have hll := Hl.out
                have e1 : getE l0 ⟨8 * (fa : Int), 8 * (fb : Int), true⟩ = (getF l0 ⟨8 * fa, 8 * fb, true⟩, 0) := by
                  have := getE_nat (l := l0) (a := 8 * fa) (b := 8 * fb) (g := true) (by omega) (by omega) (by omega) (by omega)
                  rw [← this]; congr 1
                have e2 : getE l0.reverse ⟨8 * ((k : Int) - (fa : Int) - (fb : Int)), 8 * (fb : Int), false⟩ = (getF l0 ⟨8 * fa, 8 * fb, true⟩, 0) := by
                  have := getE_nat (l := l0.reverse) (a := 8 * (k - fa - fb)) (b := 8 * fb) (g := false) (by omega) (by omega) (by rw [List.length_reverse]; omega) (by rw [List.length_reverse]; omega)
                  have ht := turned (l := l0) (from_ := fa) (wide := fb) (by omega)
                  rw [hll] at ht
                  rw [ht, ← this]
                  congr 1
                  simp only [FI.mk.injEq, and_true]
                  omega
                have C1 := Lib.hid (fun (W : World) (hW : Below w.heap.size w W) => FGet_any A0 k c0 l0 ⟨8 * (fa : Int), 8 * (fb : Int), true⟩ W (h0.below hW) Hq.out)
                have C2 := Lib.hid (fun (W : World) (hW : Rd W 1 (some ⟨w1.heap.size, 0, none⟩) k (l0.reverse.map (Value.int .u8))) => FGet_any (some ⟨w1.heap.size, 0, none⟩) k k l0.reverse ⟨8 * ((k : Int) - (fa : Int) - (fb : Int)), 8 * (fb : Int), false⟩ W hW hbr)
                rw [e1] at C1
                rw [e2] at C2
                have v6 : IntKind.i64.wrap (8 * (fa : Int)) = 8 * (fa : Int) := IntWalk.i64_in _ (by omega)
                have v7 : IntKind.i64.wrap (8 * (fb : Int)) = 8 * (fb : Int) := IntWalk.i64_in _ (by omega)
                have v8 : IntKind.i64.wrap ((k : Int) - (fa : Int)) = (k : Int) - (fa : Int) := IntWalk.i64_in _ (by omega)
                have v9 : IntKind.i64.wrap ((k : Int) - (fa : Int) - (fb : Int)) = (k : Int) - (fa : Int) - (fb : Int) := IntWalk.i64_in _ (by omega)
                have v10 : IntKind.i64.wrap (8 * ((k : Int) - (fa : Int) - (fb : Int))) = 8 * ((k : Int) - (fa : Int) - (fb : Int)) := IntWalk.i64_in _ (by omega)
                clear ho Ho0 hmk hlt e1 e2 hll
                generalize getF l0 ⟨8 * fa, 8 * fb, true⟩ = z at *
                replace hbl := bthen hb1 hbl
                clear r1 hb1
                go_wp2_with fail
                refine (C1.out _ hbl).mono ?_
                rintro e w2 ⟨rfl, hb2⟩
                clear C1
                replace hbl := bthen hbl hb2
                go_wp2_with fail
                refine (C2.out _ (rb.below hb2)).mono ?_
                rintro e w3 ⟨rfl, hb3⟩
                clear C2
                go_wp2
                go_ret
                exact ⟨rfl, bthen hbl hb3⟩
end Go.Proofs.Ytldkmopkakdgnaa
