/-
  More mathematics of package field: fields as the program has them, its places, its bits got and put one by one. No statement of the seat is here.
-/
import Derived.Test.YtldkmopkakdgnaaFieldMath
import Derived.Test.YtldkmopkakdgnaaBase
namespace Go.Proofs.Ytldkmopkakdgnaa
open Go.RowKit
set_option maxRecDepth 20000
set_option linter.unusedVariables false

/-- A field as it comes in. -/
structure FI where
  fr : Int
  wd : Int
  bg : Bool
  deriving DecidableEq
def FI.fld (f : FI) : Fld := ⟨f.fr.toNat, f.wd.toNat, f.bg⟩
def FI.v (f : FI) : Value := .agg #[.int .i64 f.fr, .int .i64 f.wd, .bool f.bg]
def FI.cells (f : FI) : List Value := [.int .i64 f.fr, .int .i64 f.wd, .bool f.bg]
def Fld.i (f : Fld) : FI := ⟨f.fr, f.wd, f.bg⟩
theorem i_fld (f : Fld) : f.i.fld = f := by simp [Fld.i, FI.fld]
/-- A field within k bytes. -/
structure Fld.Ok (f : Fld) (k : Nat) : Prop where
  few : k ≤ 400
  one : 1 ≤ f.wd
  wide : f.wd ≤ 62
  fits : f.fits k
theorem Fld.Ok.far {f : Fld} {k : Nat} (h : f.Ok k) : f.fr + f.wd ≤ 3200 := by
  have h1 := h.fits
  have h2 := h.few
  unfold Fld.fits at h1
  omega
def wrongW (f : FI) (k : Int) : Int := if k < 0 ∨ 400 < k ∨ f.wd < 1 ∨ 62 < f.wd ∨ f.fr < 0 then 2 else if 8 * k - f.wd < f.fr then 8 else 0
theorem wrongW_ok {f : Fld} {k : Nat} (h : f.Ok k) : wrongW f.i (k : Int) = 0 := by
  have h1 := h.fits
  have h2 := h.few
  have h3 := h.one
  have h4 := h.wide
  unfold Fld.fits at h1
  unfold wrongW Fld.i
  simp only
  rw [if_neg (by omega), if_neg (by omega)]
theorem wrongW_cases (f : FI) (k : Int) : wrongW f k = 2 ∨ wrongW f k = 8 ∨ ∃ (F : Fld) (m : Nat), k = m ∧ f = F.i ∧ F.Ok m ∧ wrongW F.i (m : Int) = 0 := by
  by_cases h1 : k < 0 ∨ 400 < k ∨ f.wd < 1 ∨ 62 < f.wd ∨ f.fr < 0
  · exact .inl (if_pos h1)
  · by_cases h2 : 8 * k - f.wd < f.fr
    · exact .inr (.inl (by unfold wrongW; rw [if_neg h1, if_pos h2]))
    · obtain ⟨a, b, g⟩ := f
      simp only at h1 h2
      have ok : (⟨a.toNat, b.toNat, g⟩ : Fld).Ok k.toNat := ⟨by omega, by simp only; omega, by simp only; omega, by unfold Fld.fits; simp only; omega⟩
      exact .inr (.inr ⟨⟨a.toNat, b.toNat, g⟩, k.toNat, by omega, by unfold Fld.i; simp only [FI.mk.injEq, and_true]; omega, ok, wrongW_ok ok⟩)
theorem wrongW_zero {f : FI} {k : Int} (h : wrongW f k = 0) : ∃ (F : Fld) (m : Nat), k = m ∧ f = F.i ∧ F.Ok m := by
  rcases wrongW_cases f k with e | e | ⟨F, m, h1, h2, h3, _⟩
  · omega
  · omega
  · exact ⟨F, m, h1, h2, h3⟩

/-- The place of bit e, counted from the least significant one of the first byte. -/
def plc (f : Fld) (e : Nat) : Nat := if f.bg = true then turnB (f.fr + f.wd - 1 - e) else f.fr + e
theorem plc_at {f : Fld} {e : Nat} (h : e < f.wd) : turnB (plc f e) = f.at_ (f.wd - 1 - e) := by
  unfold plc Fld.at_ Fld.nb
  cases f.bg
  · simp only [Bool.false_eq_true, if_false]
    congr 1; omega
  · simp only [if_true]
    rw [turn_turn]; omega
theorem plc_lt {f : Fld} {k e : Nat} (h : f.fits k) (he : e < f.wd) : plc f e < 8 * k := by
  rw [← turn_turn (plc f e), plc_at he]
  exact turn_lt (at_lt h (by omega))
theorem xor_seven {a : Nat} (h : a < 3200) : bits .xor .i64 (a : Int) 7 = (turnB a : Int) := by
  have key : ∀ i : Fin 400, ∀ j : Fin 8, (8 * i.val + j.val) ^^^ 7 = 8 * i.val + (7 - j.val) := by decide +kernel
  have := key ⟨a / 8, by omega⟩ ⟨a % 8, by omega⟩
  simp only at this
  rw [show 8 * (a / 8) + a % 8 = a by omega] at this
  have e := i64_xor_nat a 7 (by omega) (by omega)
  rw [this] at e
  exact e

/-! one byte -/
theorem bit_of (x : Int) (k : Nat) (h0 : 0 ≤ x) (h1 : x < 256) (hk : k < 8) : bits .and .u8 (x / 2 ^ k) 1 = if (bitsOf 8 x).getD (7 - k) false then 1 else 0 := by
  have key : ∀ x : Fin 256, ∀ k : Fin 8, bits .and .u8 ((x.val : Int) / 2 ^ k.val) 1 = if (bitsOf 8 (x.val : Int)).getD (7 - k.val) false then 1 else 0 := by decide +kernel
  obtain ⟨y, rfl⟩ : ∃ y : Nat, x = y := ⟨x.toNat, by omega⟩
  exact key ⟨y, by omega⟩ ⟨k, hk⟩
theorem clear_bit (x : Int) (k : Nat) (h0 : 0 ≤ x) (h1 : x < 256) (hk : k < 8) : bitsOf 8 (bits .andNot .u8 x (2 ^ k)) = (bitsOf 8 x).set (7 - k) false ∧ 0 ≤ bits .andNot .u8 x (2 ^ k) ∧ bits .andNot .u8 x (2 ^ k) < 256 := by
  have key : ∀ x : Fin 256, ∀ k : Fin 8, bitsOf 8 (bits .andNot .u8 (x.val : Int) (2 ^ k.val)) = (bitsOf 8 (x.val : Int)).set (7 - k.val) false ∧ 0 ≤ bits .andNot .u8 (x.val : Int) (2 ^ k.val) ∧ bits .andNot .u8 (x.val : Int) (2 ^ k.val) < 256 := by decide +kernel
  obtain ⟨y, rfl⟩ : ∃ y : Nat, x = y := ⟨x.toNat, by omega⟩
  exact key ⟨y, by omega⟩ ⟨k, hk⟩
theorem set_bit (x : Int) (k : Nat) (h0 : 0 ≤ x) (h1 : x < 256) (hk : k < 8) : bitsOf 8 (bits .or .u8 x (2 ^ k)) = (bitsOf 8 x).set (7 - k) true ∧ 0 ≤ bits .or .u8 x (2 ^ k) ∧ bits .or .u8 x (2 ^ k) < 256 := by
  have key : ∀ x : Fin 256, ∀ k : Fin 8, bitsOf 8 (bits .or .u8 (x.val : Int) (2 ^ k.val)) = (bitsOf 8 (x.val : Int)).set (7 - k.val) true ∧ 0 ≤ bits .or .u8 (x.val : Int) (2 ^ k.val) ∧ bits .or .u8 (x.val : Int) (2 ^ k.val) < 256 := by decide +kernel
  obtain ⟨y, rfl⟩ : ∃ y : Nat, x = y := ⟨x.toNat, by omega⟩
  exact key ⟨y, by omega⟩ ⟨k, hk⟩

/-! a buffer's bit, by its place -/
theorem ofBytes_at : ∀ (m : List Int) (q : Nat), q < 8 * m.length → ∃ x, m[q / 8]? = some x ∧ (ofBytes m).getD q false = (bitsOf 8 x).getD (q % 8) false
  | [], q, h => by simp at h
  | x :: m, q, h => by
    rw [List.length_cons] at h
    rw [ofBytes_cons]
    have h8 := bitsOf_length 8 x
    simp only [List.getD_eq_getElem?_getD]
    by_cases hq : q < 8
    · refine ⟨x, by rw [show q / 8 = 0 by omega]; rfl, ?_⟩
      rw [List.getElem?_append_left (by omega), show q % 8 = q by omega]
    · obtain ⟨y, h1, h2⟩ := ofBytes_at m (q - 8) (by omega)
      refine ⟨y, by rw [show q / 8 = (q - 8) / 8 + 1 by omega, List.getElem?_cons_succ]; exact h1, ?_⟩
      simp only [List.getD_eq_getElem?_getD] at h2
      rw [List.getElem?_append_right (by omega), h8, h2, show (q - 8) % 8 = q % 8 by omega]
theorem place_at {m : List Int} {p : Nat} (h : p < 8 * m.length) : ∃ x, m[p / 8]? = some x ∧ (ofBytes m).getD (turnB p) false = (bitsOf 8 x).getD (7 - p % 8) false := by
  obtain ⟨x, h1, h2⟩ := ofBytes_at m (turnB p) (turn_lt h)
  rw [show turnB p / 8 = p / 8 by unfold turnB; omega] at h1
  rw [show turnB p % 8 = 7 - p % 8 by unfold turnB; omega] at h2
  exact ⟨x, h1, h2⟩
theorem ofBytes_set : ∀ (m : List Int) (q : Nat) (x y : Int) (v : Bool), q < 8 * m.length → m[q / 8]? = some x → bitsOf 8 y = (bitsOf 8 x).set (q % 8) v → ofBytes (m.set (q / 8) y) = (ofBytes m).set q v
  | [], q, x, y, v, h, _, _ => by simp at h
  | z :: m, q, x, y, v, h, hx, hy => by
    rw [List.length_cons] at h
    have h8 := bitsOf_length 8 z
    by_cases hq : q < 8
    · rw [show q / 8 = 0 by omega] at hx ⊢
      simp only [List.getElem?_cons_zero, Option.some.injEq] at hx
      subst hx
      rw [List.set_cons_zero, ofBytes_cons, ofBytes_cons, hy, show q % 8 = q by omega, List.set_append_left _ _ (by omega)]
    · rw [show q / 8 = (q - 8) / 8 + 1 by omega] at hx ⊢
      rw [List.getElem?_cons_succ] at hx
      rw [List.set_cons_succ, ofBytes_cons, ofBytes_cons, List.set_append_right _ _ (by omega), h8, ofBytes_set m (q - 8) x y v (by omega) hx (by rw [show (q - 8) % 8 = q % 8 by omega]; exact hy)]
theorem place_set {m : List Int} {p : Nat} {x y : Int} {v : Bool} (h : p < 8 * m.length) (hx : m[p / 8]? = some x) (hy : bitsOf 8 y = (bitsOf 8 x).set (7 - p % 8) v) : ofBytes (m.set (p / 8) y) = (ofBytes m).set (turnB p) v := by
  have := ofBytes_set m (turnB p) x y v (turn_lt h) (by rw [show turnB p / 8 = p / 8 by unfold turnB; omega]; exact hx) (by rw [show turnB p % 8 = 7 - p % 8 by unfold turnB; omega]; exact hy)
  rwa [show turnB p / 8 = p / 8 by unfold turnB; omega] at this

/-! got bit by bit, from the least significant one on -/
def lowF (l : List Int) (f : Fld) (e : Nat) : Int := num ((getR (ofBytes l) f).drop (f.wd - e))
theorem lowF_zero (l : List Int) (f : Fld) : lowF l f 0 = 0 := by
  unfold lowF
  rw [List.drop_of_length_le (by rw [getR_length]; omega)]; rfl
theorem lowF_all (l : List Int) (f : Fld) : lowF l f f.wd = getF l f := by unfold lowF getF; rw [Nat.sub_self]; rfl
theorem lowF_range {l : List Int} {f : Fld} {e : Nat} (h : e ≤ f.wd) : 0 ≤ lowF l f e ∧ lowF l f e < 2 ^ e := by
  refine ⟨num_nonneg _, ?_⟩
  have := num_lt ((getR (ofBytes l) f).drop (f.wd - e))
  rw [List.length_drop, getR_length, show f.wd - (f.wd - e) = e by omega] at this
  exact this
theorem lowF_next {l : List Int} {f : Fld} {e : Nat} (h : e < f.wd) : lowF l f (e + 1) = lowF l f e + if (ofBytes l).getD (turnB (plc f e)) false then 2 ^ e else 0 := by
  unfold lowF
  have hl := getR_length (ofBytes l) f
  rw [plc_at h]
  have hg := getR_getD (R := ofBytes l) (f := f) (j := f.wd - (e + 1)) (by omega)
  generalize getR (ofBytes l) f = G at *
  rw [show f.wd - 1 - e = f.wd - (e + 1) by omega]
  generalize (ofBytes l).getD (f.at_ (f.wd - (e + 1))) false = b at *
  have hx : G[f.wd - (e + 1)]? = some b := by
    rw [List.getD_eq_getElem?_getD, List.getElem?_eq_getElem (by omega), Option.getD_some] at hg
    rw [List.getElem?_eq_getElem (by omega), hg]
  rw [drop_cons hx, show f.wd - (e + 1) + 1 = f.wd - e by omega, num_cons, List.length_drop, hl, show f.wd - (f.wd - e) = e by omega]
  omega
theorem or_bit {n : Int} {e : Nat} (b : Bool) (h0 : 0 ≤ n) (h1 : n < 2 ^ e) (he : e < 62) : bits .or .i64 n ((if b then 1 else 0) * 2 ^ e) = n + if b then 2 ^ e else 0 := by
  have hp : (2 : Int) ^ e ≤ 2 ^ 61 := pow_le_pow (by omega)
  obtain ⟨m, rfl⟩ : ∃ m : Nat, n = m := ⟨n.toNat, by omega⟩
  have hm : m < 2 ^ e := by exact_mod_cast h1
  have hp' : (2 : Nat) ^ e ≤ 2 ^ 61 := Nat.pow_le_pow_right (by omega) (by omega)
  have ee : ((2 : Int) ^ e) = ((2 ^ e : Nat) : Int) := by simp
  cases b
  · have := i64_or_nat m 0 (by omega) (by omega)
    simpa using this
  · simp only [if_true, Int.one_mul]
    rw [ee, i64_or_nat m (2 ^ e) (by omega) (by omega), Nat.or_comm, ← Nat.mul_one (2 ^ e), ← Nat.two_pow_add_eq_or_of_lt hm 1]
    push_cast
    omega

/-! put bit by bit -/
def partR (R row : List Bool) (f : Fld) (e : Nat) : List Bool := (List.range R.length).map fun i => if f.on i ∧ f.wd - 1 - f.ix i < e then row.getD (f.ix i) false else R.getD i false
theorem partR_length (R row : List Bool) (f : Fld) (e : Nat) : (partR R row f e).length = R.length := by simp [partR]
theorem partR_getD {R row : List Bool} {f : Fld} {e i : Nat} (h : i < R.length) : (partR R row f e).getD i false = if f.on i ∧ f.wd - 1 - f.ix i < e then row.getD (f.ix i) false else R.getD i false := by
  rw [List.getD_eq_getElem?_getD, partR, List.getElem?_map, List.getElem?_range h]; rfl
theorem partR_zero (R row : List Bool) (f : Fld) : partR R row f 0 = R := by
  refine ext_getD (partR_length ..) fun i hi => ?_
  rw [partR_length] at hi
  rw [partR_getD hi, if_neg (by omega)]
theorem partR_all {R row : List Bool} {f : Fld} (h : 1 ≤ f.wd) : partR R row f f.wd = setR R f row := by
  refine ext_getD (by rw [partR_length, setR_length]) fun i hi => ?_
  rw [partR_length] at hi
  rw [partR_getD hi, setR_getD hi]
  by_cases g : f.on i
  · have := (on_at f g).1
    rw [if_pos ⟨g, by omega⟩, if_pos g]
  · rw [if_neg fun x => g x.1, if_neg g]
theorem set_getD {R : List Bool} {i j : Nat} {v : Bool} (h : j < R.length) : (R.set i v).getD j false = if i = j then v else R.getD j false := by
  rw [List.getD_eq_getElem?_getD, List.getD_eq_getElem?_getD, List.getElem?_set]
  split
  · rename_i e
    subst e
    rw [if_pos h]; rfl
  · rfl
theorem partR_next {R row : List Bool} {f : Fld} {e : Nat} (he : e < f.wd) : partR R row f (e + 1) = (partR R row f e).set (f.at_ (f.wd - 1 - e)) (row.getD (f.wd - 1 - e) false) := by
  refine ext_getD (by rw [List.length_set, partR_length, partR_length]) fun i hi => ?_
  rw [partR_length] at hi
  rw [partR_getD hi, set_getD (by rw [partR_length]; exact hi), partR_getD hi]
  obtain ⟨a1, a2⟩ := at_on f (j := f.wd - 1 - e) (by omega)
  by_cases g : f.at_ (f.wd - 1 - e) = i
  · subst g
    rw [if_pos rfl, a2, if_pos ⟨a1, by omega⟩]
  · rw [if_neg g]
    by_cases h1 : f.on i
    · obtain ⟨b1, b2⟩ := on_at f h1
      have hne : f.ix i ≠ f.wd - 1 - e := fun x => g (by rw [← x]; exact b2)
      by_cases h2 : f.wd - 1 - f.ix i < e
      · rw [if_pos ⟨h1, by omega⟩, if_pos ⟨h1, h2⟩]
      · rw [if_neg (by omega), if_neg (by omega)]
    · rw [if_neg fun x => h1 x.1, if_neg fun x => h1 x.1]
theorem bitsOf_getD : ∀ (w : Nat) (n : Int) (e : Nat), e < w → (bitsOf w n).getD (w - 1 - e) false = decide (n / 2 ^ e % 2 = 1)
  | 0, _, e, h => by omega
  | w + 1, n, e, h => by
    rw [← bitsOf_ref]
    by_cases g : e = w
    · subst g
      rw [show e + 1 - 1 - e = 0 by omega]; rfl
    · rw [show w + 1 - 1 - e = (w - 1 - e) + 1 by omega, List.getD_cons_succ]
      exact bitsOf_getD w n e (by omega)
/-- The buffer with the lowest e bits of the field put. -/
structure Part (l : List Int) (f : Fld) (n : Int) (e : Nat) (cur : List Int) : Prop where
  byt : Byt cur
  len : cur.length = l.length
  is : ofBytes cur = partR (ofBytes l) (bitsOf f.wd n) f e
theorem Part.start {l : List Int} (f : Fld) (n : Int) (h : Byt l) : Part l f n 0 l := ⟨h, rfl, (partR_zero ..).symm⟩
theorem Part.done {l cur : List Int} {f : Fld} {n : Int} (h : Part l f n f.wd cur) (h1 : 1 ≤ f.wd) : cur = setF l f n := by
  have := h.is
  rw [partR_all h1] at this
  rw [setF, ← this, bytes_of_bits cur h.byt]
theorem byt_set {l : List Int} (h : Byt l) (k : Nat) {y : Int} (h0 : 0 ≤ y) (h1 : y < 256) : Byt (l.set k y) := by
  intro x hx
  rcases List.mem_or_eq_of_mem_set hx with hx | rfl
  · exact h x hx
  · exact ⟨h0, h1⟩
theorem Byt.at_ {l : List Int} {k : Nat} {x : Int} (h : Byt l) (hx : l[k]? = some x) : 0 ≤ x ∧ x < 256 := h x (List.mem_of_getElem? hx)
/-- One bit put: first cleared, then set if it is one. -/
theorem Part.clear {l cur : List Int} {f : Fld} {n x : Int} {e : Nat} (h : Part l f n e cur) (he : e < f.wd) (hf : f.fits l.length) (hx : cur[plc f e / 8]? = some x) (hn : n / 2 ^ e % 2 ≠ 1) : Part l f n (e + 1) (cur.set (plc f e / 8) (bits .andNot .u8 x (2 ^ (plc f e % 8)))) := by
  obtain ⟨x0, x1⟩ := h.byt.at_ hx
  obtain ⟨c1, c2, c3⟩ := clear_bit x (plc f e % 8) x0 x1 (Nat.mod_lt _ (by omega))
  refine ⟨byt_set h.byt _ c2 c3, by rw [List.length_set, h.len], ?_⟩
  rw [place_set (by rw [h.len]; exact plc_lt hf he) hx c1, h.is, partR_next he, plc_at he, bitsOf_getD _ _ _ he, decide_eq_false hn]
theorem Part.put {l cur : List Int} {f : Fld} {n x : Int} {e : Nat} (h : Part l f n e cur) (he : e < f.wd) (hf : f.fits l.length) (hx : cur[plc f e / 8]? = some x) (hn : n / 2 ^ e % 2 = 1) : Part l f n (e + 1) ((cur.set (plc f e / 8) (bits .andNot .u8 x (2 ^ (plc f e % 8)))).set (plc f e / 8) (bits .or .u8 (bits .andNot .u8 x (2 ^ (plc f e % 8))) (2 ^ (plc f e % 8)))) := by
  obtain ⟨x0, x1⟩ := h.byt.at_ hx
  obtain ⟨c1, c2, c3⟩ := clear_bit x (plc f e % 8) x0 x1 (Nat.mod_lt _ (by omega))
  obtain ⟨d1, d2, d3⟩ := set_bit _ (plc f e % 8) c2 c3 (Nat.mod_lt _ (by omega))
  rw [List.set_set]
  refine ⟨byt_set h.byt _ d2 d3, by rw [List.length_set, h.len], ?_⟩
  rw [c1, List.set_set] at d1
  rw [place_set (by rw [h.len]; exact plc_lt hf he) hx d1, h.is, partR_next he, plc_at he, bitsOf_getD _ _ _ he, decide_eq_true hn]

/-! the bits of two fields -/
def places (f : Fld) : List Int := (List.range f.wd).map fun e => (plc f e : Int)
def apartF (f g : Fld) : Bool := decide (∀ e, e < g.wd → (plc g e : Int) ∉ places f)
theorem places_take (f : Fld) (e : Nat) (h : e < f.wd) : (places f).take (e + 1) = (places f).take e ++ [(plc f e : Int)] := take_snoc (by simp [places, h])
theorem apart_iff {f g : Fld} : apartF f g = true ↔ FarF f g := by
  unfold apartF
  rw [decide_eq_true_iff]
  constructor
  · intro h i ⟨h1, h2⟩
    obtain ⟨a1, a2⟩ := on_at f h1
    obtain ⟨b1, b2⟩ := on_at g h2
    refine h (g.wd - 1 - g.ix i) (by omega) (List.mem_map.2 ⟨f.wd - 1 - f.ix i, List.mem_range.2 (by omega), ?_⟩)
    have e1 := plc_at (f := f) (e := f.wd - 1 - f.ix i) (by omega)
    have e2 := plc_at (f := g) (e := g.wd - 1 - g.ix i) (by omega)
    rw [show f.wd - 1 - (f.wd - 1 - f.ix i) = f.ix i by omega, a2] at e1
    rw [show g.wd - 1 - (g.wd - 1 - g.ix i) = g.ix i by omega, b2] at e2
    have := congrArg turnB (e1.trans e2.symm)
    rw [turn_turn, turn_turn] at this
    exact_mod_cast this
  · intro h e he hm
    obtain ⟨d, hd, hq⟩ := List.mem_map.1 hm
    rw [List.mem_range] at hd
    have hq : plc f d = plc g e := by exact_mod_cast hq
    have e1 := plc_at hd
    have e2 := plc_at he
    rw [hq, e2] at e1
    exact h (g.at_ (g.wd - 1 - e)) ⟨by rw [e1]; exact (at_on f (by omega)).1, (at_on g (by omega)).1⟩
theorem apart_comm (f g : Fld) : apartF f g = apartF g f := by
  rw [Bool.eq_iff_iff, apart_iff, apart_iff]
  exact ⟨FarF.symm, FarF.symm⟩

/-! what the program gives -/
def getE (l : List Int) (f : FI) : Int × Int := if wrongW f l.length = 0 then (getF l f.fld, 0) else (0, wrongW f l.length)
def setW (f : FI) (k n : Int) : Int := if wrongW f k ≠ 0 then wrongW f k else if n < 0 ∨ 2 ^ f.wd.toNat ≤ n then 2 else 0
def setL (l : List Int) (f : FI) (n : Int) : List Int := if setW f l.length n = 0 then setF l f.fld n else []
def apartW (f g : FI) (k : Int) : Int := if wrongW f k ≠ 0 then wrongW f k else wrongW g k
def apartE (f g : FI) (k : Int) : Bool := decide (apartW f g k = 0) && apartF f.fld g.fld
theorem setW_zero {f : FI} {k n : Int} (h : setW f k n = 0) : ∃ (F : Fld) (m : Nat), k = m ∧ f = F.i ∧ F.Ok m ∧ 0 ≤ n ∧ n < 2 ^ F.wd := by
  unfold setW at h
  by_cases h1 : wrongW f k ≠ 0
  · rw [if_pos h1] at h; exact absurd h h1
  · rw [if_neg h1] at h
    obtain ⟨F, m, e1, e2, e3⟩ := wrongW_zero (Decidable.not_not.1 h1)
    split at h
    · omega
    · rename_i g
      subst e2
      have : F.i.wd.toNat = F.wd := by simp [Fld.i]
      rw [this] at g
      exact ⟨F, m, e1, rfl, e3, by omega, by omega⟩
theorem setW_ok {F : Fld} {m : Nat} {n : Int} (h : F.Ok m) (h0 : 0 ≤ n) (h1 : n < 2 ^ F.wd) : setW F.i (m : Int) n = 0 := by
  unfold setW
  rw [wrongW_ok h]
  have : F.i.wd.toNat = F.wd := by simp [Fld.i]
  rw [this, if_neg (by omega), if_neg (by omega)]
end Go.Proofs.Ytldkmopkakdgnaa
