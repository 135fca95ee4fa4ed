/-
  Contract of field.Apart, for every input.
-/
import Derived.Test.YtldkmopkakdgnaaFieldPut
import Derived.Test.YtldkmopkakdgnaaMapB
namespace Go.Proofs.Ytldkmopkakdgnaa
open Go.RowKit
set_option maxRecDepth 20000
set_option linter.unusedVariables false

theorem intKeyedF : Maps.Keyed Try.prog 3 := Maps.int_keyed Try.underlying3
theorem apart_bad1 {f g : FI} {k : Int} (h : wrongW f k ≠ 0) : apartE f g k = false ∧ apartW f g k = wrongW f k := by
  have e : apartW f g k = wrongW f k := by unfold apartW; rw [if_pos h]
  exact ⟨by unfold apartE; rw [e, decide_eq_false h]; rfl, e⟩
theorem apart_bad2 {f g : FI} {k : Int} (h1 : wrongW f k = 0) (h : wrongW g k ≠ 0) : apartE f g k = false ∧ apartW f g k = wrongW g k := by
  have e : apartW f g k = wrongW g k := by unfold apartW; rw [if_neg (by omega)]
  exact ⟨by unfold apartE; rw [e, decide_eq_false h]; rfl, e⟩
theorem apart_ok {f g : FI} {k : Int} (h1 : wrongW f k = 0) (h : wrongW g k = 0) : apartE f g k = apartF f.fld g.fld ∧ apartW f g k = 0 := by
  have e : apartW f g k = 0 := by unfold apartW; rw [if_neg (by omega), h]
  exact ⟨by unfold apartE; rw [e]; rfl, e⟩
set_option maxHeartbeats 1600000 in
theorem Apart_any (f g : FI) (k : Int) (w : World) : Calls Try.prog 11 #[f.v, g.v, .int .i64 k] w fun e w' => e = .returned (.tuple #[.bool (apartE f g k), .int .i64 (apartW f g k)]) ∧ Below w.heap.size w w' := by
  have C1 := Lib.hid (fun (W : World) => FWrong_any f k W)
  have C2 := Lib.hid (fun (W : World) => FWrong_any g k W)
  have H1 := Lib.hid (apart_bad1 (f := f) (g := g) (k := k))
  have H2 := Lib.hid (apart_bad2 (f := f) (g := g) (k := k))
  have H3 := Lib.hid (apart_ok (f := f) (g := g) (k := k))
  have HF := Lib.hid (wrongW_zero (f := f) (k := k))
  have HG := Lib.hid (wrongW_zero (f := g) (k := k))
  generalize apartE f g k = E at *
  generalize apartW f g k = V at *
  generalize wrongW f k = r1 at *
  generalize wrongW g k = r2 at *
  obtain ⟨a, b, c⟩ := f
  obtain ⟨a2, b2, c2⟩ := g
  show Calls Try.prog 11 #[.agg #[.int .i64 a, .int .i64 b, .bool c], .agg #[.int .i64 a2, .int .i64 b2, .bool c2], .int .i64 k] w _
  have hmm := @run_makeMap Try.prog
  go_enter Try.func11, Try.ntmps11
  have hxa := ((Box.new w 24 [.int .i64 a, .int .i64 b, .bool c]).alloc (.cells #[.int .i64 a2, .int .i64 b2, .bool c2] 24)).alloc (.cells #[.int .i64 a, .int .i64 b, .bool c, .int .i64 a2, .int .i64 b2, .bool c2] 24)
  have hxb := (Box.new (w.alloc (.cells #[.int .i64 a, .int .i64 b, .bool c] 24)) 24 [.int .i64 a2, .int .i64 b2, .bool c2]).alloc (.cells #[.int .i64 a, .int .i64 b, .bool c, .int .i64 a2, .int .i64 b2, .bool c2] 24)
  have hxs := Box.new ((w.alloc (.cells #[.int .i64 a, .int .i64 b, .bool c] 24)).alloc (.cells #[.int .i64 a2, .int .i64 b2, .bool c2] 24)) 24 [.int .i64 a, .int .i64 b, .bool c, .int .i64 a2, .int .i64 b2, .bool c2]
  have hw2 : Below w.heap.size w (((w.alloc (.cells #[.int .i64 a, .int .i64 b, .bool c] 24)).alloc (.cells #[.int .i64 a2, .int .i64 b2, .bool c2] 24)).alloc (.cells #[.int .i64 a, .int .i64 b, .bool c, .int .i64 a2, .int .i64 b2, .bool c2] 24)) := bthen (bthen (fld_below _ _) (fld_below _ _)) (fld_below _ _)
  rw [show (w.alloc (.cells #[.int .i64 a, .int .i64 b, .bool c] 24)).heap.size = w.heap.size + 1 by simp] at hxb
  rw [show ((w.alloc (.cells #[.int .i64 a, .int .i64 b, .bool c] 24)).alloc (.cells #[.int .i64 a2, .int .i64 b2, .bool c2] 24)).heap.size = w.heap.size + 2 by simp] at hxs
  go_wp2
  generalize ((w.alloc (.cells #[.int .i64 a, .int .i64 b, .bool c] 24)).alloc (.cells #[.int .i64 a2, .int .i64 b2, .bool c2] 24)).alloc (.cells #[.int .i64 a, .int .i64 b, .bool c, .int .i64 a2, .int .i64 b2, .bool c2] 24) = w2 at *
  go_loopw [18] (fun i wr => (i = .int .i64 0 ∨ (i = .int .i64 1 ∧ r1 = 0) ∨ (i = .int .i64 2 ∧ r1 = 0 ∧ r2 = 0)) ∧ Below w2.heap.size w2 wr) (fun i _ => 2 - (intOf i).toNat)
  case atStart => exact ⟨.inl rfl, Below.refl _ _⟩
  case round =>
    obtain ⟨hi, hbl⟩ := hrel
    have hxs2 := hxs.below hbl hxs.lt
    have hs0 := hxs2.cell 0 rfl
    have hs1 := hxs2.cell 1 rfl
    have hs2 := hxs2.cell 2 rfl
    have hs3 := hxs2.cell 3 rfl
    have hs4 := hxs2.cell 4 rfl
    have hs5 := hxs2.cell 5 rfl
    have hwr := bthen hw2 hbl
    rcases hi with rfl | ⟨rfl, hr1⟩ | ⟨rfl, hr1, hr2⟩
    · clear C2 hmm
      go_wp2_with fail
      refine (C1.out _).mono ?_
      rintro e w3 ⟨rfl, hb3⟩
      clear C1
      have hb4 := bthen hbl (below_new hb3)
      by_cases hz : r1 = 0
      · have hz' : (r1 != 0) = false := by simpa using hz
        go_wp2
        go_roundw
        case rel => exact ⟨.inr (.inl ⟨rfl, hz⟩), hb4⟩
        case measure => decide
      · have hz' : (r1 != 0) = true := by simpa using hz
        obtain ⟨rfl, rfl⟩ := H1.out hz
        go_wp2
        go_ret2
        exact ⟨rfl, bthen hw2 hb4⟩
    · clear C1 hmm
      go_wp2_with fail
      refine (C2.out _).mono ?_
      rintro e w3 ⟨rfl, hb3⟩
      clear C2
      have hb4 := bthen hbl (below_new hb3)
      by_cases hz : r2 = 0
      · have hz' : (r2 != 0) = false := by simpa using hz
        go_wp2
        go_roundw
        case rel => exact ⟨.inr (.inr ⟨rfl, hr1, hz⟩), hb4⟩
        case measure => decide
      · have hz' : (r2 != 0) = true := by simpa using hz
        obtain ⟨rfl, rfl⟩ := H2.out hr1 hz
        go_wp2
        go_ret2
        exact ⟨rfl, bthen hw2 hb4⟩
    · clear C1 C2 H1 H2 hs0 hs1 hs2 hs3 hs4 hs5 hxs2 hxs
      obtain ⟨hE, hV⟩ := H3.out hr1 hr2
      obtain ⟨F, m, rfl, e2, ok⟩ := HF.out hr1
      obtain ⟨G, m2, e1, e3, ok2⟩ := HG.out hr2
      obtain rfl : m = m2 := by omega
      rw [e2, e3, i_fld, i_fld] at hE
      unfold Fld.i at e2 e3
      injection e2 with q1 q2 q3
      injection e3 with q4 q5 q6
      subst q1 q2 q3 q4 q5 q6 hV
      clear H3 HF HG hr1 hr2 e1
      have HE := Lib.hid hE
      clear hE
      have CF := Lib.hid (fun (e : Nat) (he : e < F.wd) (W : World) => place_any F e he ok.far W)
      have CG := Lib.hid (fun (e : Nat) (he : e < G.wd) (W : World) => place_any G e he ok2.far W)
      have hf62 := ok.wide
      have hg62 := ok2.wide
      have HPF := Lib.hid (fun (e : Nat) (he : e < F.wd) => plc_lt ok.fits he)
      have HPG := Lib.hid (fun (e : Nat) (he : e < G.wd) => plc_lt ok2.fits he)
      have h400 := ok.few
      have hxa2 := hxa.below hbl hxa.lt
      have hxb2 := hxb.below hbl hxb.lt
      have hown := World.ownsMap_made (H := Unit) wr Try.prog 3 (plainElem Try.prog 4)
      have hwo := bthen hwr (fld_below wr (.map #[] 0))
      have hxa3 := hxa2.alloc (.map #[] 0)
      have hxb3 := hxb2.alloc (.map #[] 0)
      have hqa := hxa3.cell 1 rfl
      have hgl : w.heap.size + 1 < wr.heap.size := hxb2.lt
      clear ok ok2 hxa hxb hbl hw2 hxa2 hxb2 hwr
      go_wp2
      clear hmm hqa
      generalize wr.alloc (.map #[] 0) = wo at *
      generalize wr.heap.size = q at *
      go_loopw [32] (fun i wr => ∃ (e : Nat) (D : DataW Unit), e ≤ F.wd ∧ i = .int .i64 e ∧ wr.ownsMap Try.prog 3 (plainElem Try.prog 4) q e D ∧ SetOf D ((places F).take e) ∧ wo.grownBy wr (some q)) (fun i _ => F.wd - (intOf i).toNat)
      case atStart => exact ⟨0, .map [], Nat.zero_le _, rfl, hown, SetOf.nil, World.grownBy.refl _ _⟩
      case round =>
        obtain ⟨e, D, he, rfl, hown, hset, hgr⟩ := hrel
        have hxa4 := hxa3.grown hgr (fun e => by injection e with e; omega)
        have hq0 := hxa4.cell 0 rfl
        have hq1 := hxa4.cell 1 rfl
        have hq2 := hxa4.cell 2 rfl
        by_cases hlt : e < F.wd
        · have HT := Lib.hid (places_take F e hlt)
          have CQ := Lib.hid (CF.out e hlt wr)
          have hp := HPF.out e hlt
          clear CF CG HPF HPG
          generalize plc F e = p at *
          have hkey : keyOf Try.prog 3 (.int .i64 (p : Int)) = some (.int .i64 (p : Int)) := Maps.keyOf_int_mk Try.underlying3 (by simp [Lit.wf, IntKind.min, IntKind.max, IntKind.signed, IntKind.bits] <;> omega)
          go_wp2_with fail
          refine CQ.out.mono ?_
          rintro r w3 ⟨rfl, hb3⟩
          clear CQ
          replace hown := hown.kept (row := none) (grownBy_belowF hb3) (by simp)
          go_wp2_with (at_mapUpdate; refine wpList_mapUpdate_own _ rfl _ _ _ 48 rfl 3 4 intKeyedF Try.underlying48 _ q e _ rfl hown (by unfold maxLen; omega) _ _ _ rfl rfl hkey _ [] (plainElem_bool Try.underlying4 _) ?_; intro w4 hown4 hgrow4)
          go_roundw
          case rel => exact ⟨e + 1, _, by omega, by go_num, hown4, by rw [HT.out]; exact hset.put p, grownBy_then (grownBy_then hgr (grownBy_belowF hb3)) hgrow4⟩
          case measure => simp [intOf] <;> omega
        · obtain rfl : e = F.wd := by omega
          have hxb4 := hxb3.grown hgr (fun e => by injection e with e; omega)
          have hqb := hxb4.cell 1 rfl
          have hwq := below_grown hwo hgr (by omega) hwo.size
          rw [List.take_of_length_le (by simp [places])] at hset
          have HS := Lib.hid hset
          clear hset hxa3 hxb3 hgr CF HPF hwo hq0 hq2
          go_wp2
          rename World => wz
          go_loopw [42] (fun i wr => ∃ (e : Nat), e ≤ G.wd ∧ i = .int .i64 e ∧ (∀ d, d < e → (plc G d : Int) ∉ places F) ∧ Below wz.heap.size wz wr) (fun i _ => G.wd - (intOf i).toNat)
          case atStart => exact ⟨0, Nat.zero_le _, rfl, fun d hd => by omega, Below.refl _ _⟩
          case round =>
            obtain ⟨e, he, rfl, hno, hbl⟩ := hrel
            have hxb5 := hxb4.below hbl hxb4.lt
            clear hqb
            have hq0 := hxb5.cell 0 rfl
            have hq1 := hxb5.cell 1 rfl
            have hq2 := hxb5.cell 2 rfl
            have HNO := Lib.hid hno
            clear hno
            by_cases hlt : e < G.wd
            · have CQ := Lib.hid (CG.out e hlt wr)
              have hp := HPG.out e hlt
              clear CG HPG
              have hkey : keyOf Try.prog 3 (.int .i64 (plc G e : Int)) = some (.int .i64 (plc G e : Int)) := Maps.keyOf_int_mk Try.underlying3 (by simp [Lit.wf, IntKind.min, IntKind.max, IntKind.signed, IntKind.bits] <;> omega)
              by_cases hm : (plc G e : Int) ∈ places F
              · have hE : Hid (E = false) := by
                  show _ = _
                  rw [HE.out]
                  unfold apartF
                  exact decide_eq_false fun h => h e hlt hm
                have hd : decide ((plc G e : Int) ∈ places F) = true := decide_eq_true hm
                clear hm HE
                generalize plc G e = p at *
                go_wp2_with fail
                refine CQ.out.mono ?_
                rintro r w3 ⟨rfl, hb3⟩
                clear CQ
                have hown3 := (hown.kept (row := none) (grownBy_belowF hbl) (by simp)).kept (row := none) (grownBy_belowF hb3) (by simp)
                go_wp2_with (at_lookup; refine wpList_lookup_own_bool _ rfl _ _ 48 rfl 3 4 intKeyedF Try.underlying48 Try.underlying4 (Try.zeroValue4 _) q _ _ rfl hown3 _ HS.out _ true hd rfl hkey ?_)
                go_ret2
                exact ⟨by rw [hE.out]; rfl, bthen (bthen hwq hbl) hb3⟩
              · have hd : decide ((plc G e : Int) ∈ places F) = false := decide_eq_false hm
                have HM := Lib.hid hm
                clear hm
                have Hp : Hid (plc G e = plc G e) := rfl
                generalize hpp : plc G e = p at *
                clear Hp
                have HPP := Lib.hid hpp
                clear hpp
                go_wp2_with fail
                refine CQ.out.mono ?_
                rintro r w3 ⟨rfl, hb3⟩
                clear CQ
                have hown3 := (hown.kept (row := none) (grownBy_belowF hbl) (by simp)).kept (row := none) (grownBy_belowF hb3) (by simp)
                go_wp2_with (at_lookup; refine wpList_lookup_own_bool _ rfl _ _ 48 rfl 3 4 intKeyedF Try.underlying48 Try.underlying4 (Try.zeroValue4 _) q _ _ rfl hown3 _ HS.out _ false hd rfl hkey ?_)
                go_roundw
                case rel =>
                  refine ⟨e + 1, by omega, by go_num, fun d hd => ?_, bthen hbl hb3⟩
                  by_cases hde : d = e
                  · subst hde; rw [HPP.out]; exact HM.out
                  · exact HNO.out d (by omega)
                case measure => simp [intOf] <;> omega
            · obtain rfl : e = G.wd := by omega
              have hE : Hid (E = true) := by
                show _ = _
                rw [HE.out]
                unfold apartF
                exact decide_eq_true HNO.out
              clear HE HNO CG HPG
              go_wp2
              go_ret2
              exact ⟨by rw [hE.out]; rfl, bthen hwq hbl⟩
end Go.Proofs.Ytldkmopkakdgnaa
