/-
  Contract of the reference's parts where the divisor has one digit.
-/
import Derived.Test.YtajfohnblmnjjaaDivShift
import Derived.Test.YtajfohnblmnjjaaDivMath
namespace Go.Proofs.Ytajfohnblmnjjaa
open Go.RowKit
set_option linter.unusedVariables false

/-- The quotient and what is left, as rows of the call's own. -/
def GivesParts (x y : List Int) (w : World) (e : Ending) (w' : World) : Prop :=
  ∃ u v Q R, e = .returned (.tuple #[u, v]) ∧ Ow (Value.int .u32) w' w.heap.size 84 u Q ∧ Ow (Value.int .u32) w' w.heap.size 84 v R ∧ Dig Q ∧ Dig R ∧ mag Q = mag x / mag y ∧ mag R = mag x % mag y ∧ Q.length ≤ 1000001 ∧ R.length ≤ 1000001 ∧ Below w.heap.size w w'
theorem one_step {d X Q r x : Int} (he : X = d * Q + r) : x + 4294967296 * X = d * ((r * 4294967296 + x) / d + 4294967296 * Q) + (r * 4294967296 + x) % d := by
  have h := Int.mul_ediv_add_emod (r * 4294967296 + x) d
  rw [Int.mul_add, he, Int.mul_add, Int.mul_left_comm d 4294967296]
  generalize d * ((r * 4294967296 + x) / d) = a at *
  generalize d * Q = b at *
  omega
set_option maxRecDepth 100000 in
set_option maxHeartbeats 3200000 in
theorem parts_one (A : Option Addr) (n c : Nat) (x : List Int) (B : Option Addr) (d : Nat) (y : Int) (w : World) (hx : Rd w 1 A n (x.map (Value.int .u32))) (hy : Rd w 1 B 1 ([y].map (Value.int .u32))) (dx : Dig x) (dy : IsDig y) (hy1 : 1 ≤ y) (hn : n ≤ 1000000) :
    Calls Try.prog 76 #[.slice A n c, .slice B 1 d] w (GivesParts x [y] w) := by
  have Hl := Lib.hid hx.lenMap
  have hmk := run_mk elU32 rfl .i64 .i64 n n (Nat.le_refl _) (by omega) (by omega)
  have Ho0 := Lib.hid (Ow.make (Value.int .u32) 0 w 84 (base := w.heap.size) n (by unfold maxLen; omega) (Nat.le_refl _))
  obtain ⟨bd, rfl, hcb⟩ := hy.2 (by omega)
  have hcy := hcb 0 _ rfl
  obtain ⟨dy0, dy1⟩ := dy
  have hcy0 : w.cell? bd = some (.int .u32 y) := by simpa [Addr.add] using hcy
  clear hcb hcy
  go_enter Try.func76, Try.ntmps76
  go_wp2
  go_loopw [7, 8] (fun rv i wr => ∃ (j : Nat) (Q : List Int) (r : Int), j ≤ n ∧ i = .int .i64 ((j : Int) - 1) ∧ rv = .int .u64 r ∧ 0 ≤ r ∧ r < y ∧ Dig Q ∧ Q.length = n - j ∧ mag (x.drop j) = y * mag Q + r ∧ Ow (Value.int .u32) wr w.heap.size 84 (.slice (some ⟨w.heap.size, 0, none⟩) n n) (List.replicate j 0 ++ Q) ∧ Below w.heap.size w wr) (fun _ i _ => (intOf i + 1).toNat)
  case atStart => exact ⟨n, [], 0, Nat.le_refl _, rfl, rfl, by omega, by omega, Dig.nil, by simp, by rw [List.drop_eq_nil_of_le (by rw [Hl.out]; exact Nat.le_refl _)]; simp [mag], by rw [List.append_nil]; exact Ho0.out, (Below.refl _ _).alloc (Nat.le_refl _) _⟩
  case round =>
    obtain ⟨j, Q, r, hj, rfl, rfl, hr0, hr1, hQ, hQl, hm, ho, hb⟩ := hrel
    clear Ho0 hmk
    have Hm := Lib.hid hm; clear hm
    by_cases hlt : 0 < j
    · obtain ⟨k, rfl⟩ : ∃ k, j = k + 1 := ⟨j - 1, by omega⟩
      obtain ⟨ad, a, rfl, ha, hca⟩ := (hx.below hb).atMap (k := k) (show k < n by omega)
      obtain ⟨a0, a1⟩ := dx.at ha
      have Ha := Lib.hid (drop_cons ha); clear ha
      have hcy1 : wr.cell? bd = some (.int .u32 y) := (hb.cell (World.block_lt_of_cell? _ _ hcy0)).trans hcy0
      have hor := or32 r a hr0 (by omega) a0 a1
      have hz : (List.replicate (k + 1) (0 : Int) ++ Q)[k]? = some 0 := by
        rw [List.getElem?_append_left (by simp), List.getElem?_replicate, if_pos (by omega)]
      have hcell := ho.cellAt hz
      have hfree := ho.freeAt k
      have hq0 : 0 ≤ (r * 4294967296 + a) / y := Int.ediv_nonneg (by omega) dy0
      have hq1 : (r * 4294967296 + a) / y < 4294967296 := Int.ediv_lt_of_lt_mul (by omega) (by
        have := mul_le_r (show (0 : Int) ≤ 4294967296 by decide) (show r + 1 ≤ y by omega)
        rw [Int.add_mul] at this
        rw [Int.mul_comm 4294967296 y]
        omega)
      have hrr0 := Int.emod_nonneg (r * 4294967296 + a) (show y ≠ 0 by omega)
      have hrr1 := Int.emod_lt_of_pos (r * 4294967296 + a) (show 0 < y by omega)
      have Hput := Lib.hid (ho.put k ((r * 4294967296 + a) / y))
      have Hb := Lib.hid (hb.setCell (p := ⟨w.heap.size, k, none⟩) (Nat.le_refl _) (.int .u32 ((r * 4294967296 + a) / y)))
      have hcy2 : (wr.setCell ⟨w.heap.size, k, none⟩ (.int .u32 ((r * 4294967296 + a) / y))).cell? bd = some (.int .u32 y) := (Hb.out.cell (World.block_lt_of_cell? _ _ hcy0)).trans hcy0
      have hblk : w.heap.size < wr.heap.size := ho.inHeap w.heap.size rfl
      have Hset : Hid ((List.replicate (k + 1) (0 : Int) ++ Q).set k ((r * 4294967296 + a) / y) = List.replicate k 0 ++ ((r * 4294967296 + a) / y) :: Q) := by
        show _ = _
        rw [List.replicate_succ', List.append_assoc, List.set_append_right _ _ (by simp)]
        simp
      have Hst := Lib.hid (one_step (x := a) Hm.out)
      have hle : r * 4294967296 + a ≤ 18446744073709551615 := by omega
      clear ho hz hb
      go_wp2
      go_roundw
      case rel =>
        refine ⟨k, ((r * 4294967296 + a) / y) :: Q, (r * 4294967296 + a) % y, by omega, by go_num, rfl, hrr0, hrr1, Dig.cons ⟨hq0, hq1⟩ hQ, by simp; omega, ?_, by rw [← Hset.out]; exact Hput.out, Hb.out⟩
        rw [Ha.out]
        exact Hst.out
      case measure => simp [intOf] <;> omega
    · obtain rfl : j = 0 := by omega
      have hQl' : Q.length = n := by omega
      have hm : mag x = y * mag Q + r := Hm.out
      obtain ⟨e1, e2⟩ := div_is hm hr0 hr1
      have Ho := Lib.hid (show Ow (Value.int .u32) wr w.heap.size 84 (.slice (some ⟨w.heap.size, 0, none⟩) n n) Q from ho)
      have hsz := hb.size
      have Hb := Lib.hid hb
      have HE := Lib.hid e1
      have HE2 := Lib.hid e2
      clear ho hm e1 e2 hQl hb
      go_wp2
      go_ret2
      refine ⟨_, _, Q, [r], rfl, Ho.out.alloc _, Ow.one (Value.int .u32) wr r 84 hsz, hQ, Dig.cons ⟨hr0, by omega⟩ Dig.nil, ?_, ?_, by omega, by simp, Hb.out.alloc hsz _⟩
      · rw [show mag [y] = y by simp [mag]]
        exact HE.out.symm
      · rw [show mag [y] = y by simp [mag], HE2.out]
        simp [mag]
end Go.Proofs.Ytajfohnblmnjjaa

/-
  The long division of rows of digits: what holds from digit to digit. No statement of the seat is here.
-/
namespace Go.Proofs.Ytajfohnblmnjjaa
set_option linter.unusedVariables false

theorem mag_split (l : List Int) (k : Nat) (h : k ≤ l.length) : mag l = mag (l.take k) + pow32 k * mag (l.drop k) := by
  have := mag_append (l.take k) (l.drop k)
  rw [List.take_append_drop] at this
  rw [this, List.length_take, Nat.min_eq_left h]
theorem mag_take_succ {l : List Int} {k : Nat} {a : Int} (h : l[k]? = some a) : mag (l.take (k + 1)) = mag (l.take k) + pow32 k * a := by
  have hk : k < l.length := (List.getElem?_eq_some_iff.1 h).1
  rw [take_snoc h, mag_snoc, List.length_take, Nat.min_eq_left (by omega)]
/-- The state of the division ahead of the digit kk - 1. -/
structure DivSt (U0 V : Int) (n N kk : Nat) (U O : List Int) : Prop where
  len : U.length = N
  olen : O.length = N
  dU : Dig U
  dO : Dig O
  zero : mag (U.drop (kk + n)) = 0
  less : mag ((U.drop kk).take n) < V
  sum : U0 = mag U + V * (pow32 kk * mag (O.drop kk))
/-- What the digit k divides. -/
def winD (U : List Int) (k n : Nat) : Int := mag ((U.drop k).take (n + 1))
section
variable {U0 V : Int} {n N k : Nat} {U O : List Int}
theorem winD_pos (h : Dig U) : 0 ≤ winD U k n := mag_nonneg ((h.drop k).take _)
theorem winD_lt (h : DivSt U0 V n N (k + 1) U O) (hk : k + 1 + n ≤ N) : winD U k n < 4294967296 * V := by
  have hl : k < U.length := by have := h.len; omega
  have hc : U.drop k = U[k] :: U.drop (k + 1) := List.drop_eq_getElem_cons hl
  have ha := h.dU.at (List.getElem?_eq_getElem hl)
  have := h.less
  unfold winD IsDig at *
  rw [hc, List.take_succ_cons, mag]
  omega
theorem winD_top (h : DivSt U0 V n N (k + 1) U O) (hk : k + 1 + n ≤ N) {u : Int} (hu : U[k + n]? = some u) : winD U k n = mag ((U.drop k).take n) + pow32 n * u := by
  unfold winD
  exact mag_take_succ (by rw [List.getElem?_drop]; exact hu)
theorem DivSt.step (h : DivSt U0 V n N (k + 1) U O) (hk : k + 1 + n ≤ N) {R : List Int} (hR : R.length = n) (dR : Dig R) {q : Int} (hq : IsDig q) (hV : 0 < V) (hd : winD U k n / V = q) (hm : mag R = winD U k n % V) :
    DivSt U0 V n N k (U.take k ++ (R ++ 0 :: U.drop (k + n + 1))) (O.set k q) := by
  have hlen := h.len
  have hol := h.olen
  have hlk : (U.take k).length = k := by rw [List.length_take]; omega
  have hz : mag (U.drop (k + n + 1)) = 0 := by have := h.zero; rwa [show k + 1 + n = k + n + 1 by omega] at this
  have hmU : mag U = mag (U.take k) + pow32 k * winD U k n := by
    rw [mag_split U k (by omega), mag_split (U.drop k) (n + 1) (by rw [List.length_drop]; omega), List.drop_drop, show k + (n + 1) = k + n + 1 by omega, hz, Int.mul_zero, Int.add_zero]
    rfl
  have hdd := Int.mul_ediv_add_emod (winD U k n) V
  rw [hd] at hdd
  have hdr : (U.take k ++ (R ++ 0 :: U.drop (k + n + 1))).drop k = R ++ 0 :: U.drop (k + n + 1) := List.drop_left' hlk
  refine ⟨?_, by rw [List.length_set]; exact hol, ?_, ?_, ?_, ?_, ?_⟩
  · simp only [List.length_append, List.length_cons, List.length_drop, hlk, hR]; omega
  · exact (h.dU.take k).append (dR.append (Dig.cons ⟨by decide, by decide⟩ (h.dU.drop _)))
  · intro a ha
    rcases List.mem_or_eq_of_mem_set ha with g | g
    · exact h.dO a g
    · rw [g]; exact hq
  · rw [show k + n = k + n from rfl, ← List.drop_drop, hdr, List.drop_left' hR, mag, hz]; omega
  · rw [hdr, List.take_left' hR, hm]
    exact Int.emod_lt_of_pos _ hV
  · have hO : (O.set k q).drop k = q :: O.drop (k + 1) := by
      have hks : (O.set k q)[k]? = some q := by rw [List.getElem?_set_self (by omega)]
      rw [drop_cons hks, List.drop_set_of_lt (by omega)]
    rw [hO, mag, h.sum, hmU, mag_append, hlk, mag_append, mag, hz, hm, pow32_succ, ← hdd]
    simp only [Int.mul_zero, Int.add_zero]
    have e1 : V * (pow32 k * (q + 4294967296 * mag (O.drop (k + 1)))) = pow32 k * (V * q) + V * (4294967296 * pow32 k * mag (O.drop (k + 1))) := by
      rw [Int.mul_add (pow32 k), Int.mul_add V, Int.mul_left_comm V (pow32 k) q, Int.mul_comm 4294967296 (pow32 k), Int.mul_assoc (pow32 k)]
    rw [e1, Int.mul_add]
    have e2 : (V * q + winD U k n % V) % V = winD U k n % V := by rw [hdd]
    rw [e2]
    omega
theorem DivSt.done (h : DivSt U0 V n N 0 U O) (hn : n ≤ N) (hV : 0 < V) : mag O = U0 / V ∧ mag (U.take n) = U0 % V := by
  have hz := h.zero
  rw [Nat.zero_add] at hz
  have hs := h.sum
  have hl := h.less
  rw [List.drop_zero] at hl hs
  have hmU : mag U = mag (U.take n) := by rw [mag_split U n (by have := h.len; omega), hz, Int.mul_zero, Int.add_zero]
  have h0 := mag_nonneg (h.dU.take n)
  rw [hmU, pow32, Int.one_mul] at hs
  obtain ⟨e1, e2⟩ := div_is (W := U0) (V := V) (q := mag O) (r := mag (U.take n)) (by omega) h0 hl
  exact ⟨e1.symm, e2.symm⟩
/-- The guess by the digits at hand. -/
theorem guess_of (h : DivSt U0 V n N (k + 1) U O) (hk : k + 1 + n ≤ N) (hn : 2 ≤ n) {Vl : List Int} (hV : mag Vl = V) (dV : Dig Vl) (hVl : Vl.length = n) {u2 u1 u0 v1 v0 : Int}
    (h2 : U[k + n]? = some u2) (h1 : U[k + n - 1]? = some u1) (h0 : U[k + n - 2]? = some u0) (g1 : Vl[n - 1]? = some v1) (g0 : Vl[n - 2]? = some v0) (p1 : 1 ≤ v1) :
    Guess (winD U k n) V (u2 * 4294967296 + u1) u0 v1 v0 (pow32 (n - 2)) ∧ u2 * 4294967296 + u1 ≤ v1 * 4294967296 + 4294967295 := by
  obtain ⟨j, rfl⟩ : ∃ j, n = j + 2 := ⟨n - 2, by omega⟩
  simp only [Nat.add_sub_cancel, show j + 2 - 1 = j + 1 by omega, show k + (j + 2) - 1 = k + (j + 1) by omega, show k + (j + 2) - 2 = k + j by omega] at *
  have b2 := h.dU.at h2
  have b1 := h.dU.at h1
  have b0 := h.dU.at h0
  have c1 := dV.at g1
  have c0 := dV.at g0
  have hw : winD U k (j + 2) = mag ((U.drop k).take j) + pow32 j * (u0 + 4294967296 * (u1 + 4294967296 * u2)) := by
    rw [winD_top h hk h2, mag_take_succ (l := U.drop k) (k := j + 1) (a := u1) (by rw [List.getElem?_drop]; exact h1), mag_take_succ (l := U.drop k) (k := j) (a := u0) (by rw [List.getElem?_drop]; exact h0)]
    simp only [pow32_succ]
    have e1 : 4294967296 * pow32 j * u1 = pow32 j * (4294967296 * u1) := by rw [Int.mul_comm 4294967296, Int.mul_assoc]
    have e2 : 4294967296 * (4294967296 * pow32 j) * u2 = pow32 j * (4294967296 * (4294967296 * u2)) := by rw [← Int.mul_assoc, Int.mul_comm (4294967296 * 4294967296), Int.mul_assoc, Int.mul_assoc]
    rw [e1, e2, Int.mul_add 4294967296, Int.mul_add (pow32 j), Int.mul_add (pow32 j)]
    omega
  have hv : V = mag (Vl.take j) + pow32 j * (v0 + 4294967296 * v1) := by
    have e0 := mag_take_succ g1
    rw [List.take_of_length_le (by omega), mag_take_succ g0, pow32_succ, Int.mul_comm 4294967296 (pow32 j), Int.mul_assoc] at e0
    rw [← hV, e0, Int.mul_add]
    omega
  have t0 := mag_nonneg ((h.dU.drop k).take j)
  have t1 := mag_lt ((h.dU.drop k).take j)
  have s0 := mag_nonneg (dV.take j)
  have s1 := mag_lt (dV.take j)
  have hlj : ((U.drop k).take j).length = j := by have := h.len; rw [List.length_take, List.length_drop]; omega
  have hvj : (Vl.take j).length = j := by rw [List.length_take]; omega
  rw [hlj] at t1
  rw [hvj] at s1
  unfold IsDig at b2 b1 b0
  refine ⟨⟨⟨mag ((U.drop k).take j), ?_, t0, t1⟩, ⟨mag (Vl.take j), ?_, s0, s1⟩, b0, c1, c0, p1, by omega⟩, ?_⟩
  · rw [hw, Int.mul_comm (pow32 j)]
    have : u0 + 4294967296 * (u1 + 4294967296 * u2) = (u2 * 4294967296 + u1) * 4294967296 + u0 := by omega
    rw [this]; omega
  · rw [hv, Int.mul_comm (pow32 j)]
    have : v0 + 4294967296 * v1 = v1 * 4294967296 + v0 := by omega
    rw [this]; omega
  · -- the highest digit is no greater than the divisor's
    have hlt := winD_lt h hk
    rw [hw, hv] at hlt
    have hP := pow32_pos j
    unfold IsDig at c1 c0
    rcases Int.lt_or_le v1 u2 with hh | hh
    · exfalso
      have a1 := mul_le_l (Int.le_of_lt hP) (show 4294967296 * (v0 + 4294967296 * v1) + 4294967296 ≤ u0 + 4294967296 * (u1 + 4294967296 * u2) by omega)
      rw [Int.mul_add (pow32 j) (4294967296 * (v0 + 4294967296 * v1))] at a1
      have e5 : 4294967296 * (mag (Vl.take j) + pow32 j * (v0 + 4294967296 * v1)) = 4294967296 * mag (Vl.take j) + pow32 j * (4294967296 * (v0 + 4294967296 * v1)) := by rw [Int.mul_add, Int.mul_left_comm]
      rw [e5] at hlt
      generalize pow32 j * (4294967296 * (v0 + 4294967296 * v1)) = z1 at *
      generalize pow32 j * (u0 + 4294967296 * (u1 + 4294967296 * u2)) = z2 at *
      omega
    · omega
end
end Go.Proofs.Ytajfohnblmnjjaa

/-
  The long division of rows of digits: what it begins with. No statement of the seat is here.
-/
namespace Go.Proofs.Ytajfohnblmnjjaa
set_option linter.unusedVariables false

theorem vl_of {s : Nat} {p q : Int} (hp : Pow2 s p q) {y : List Int} (dy : Dig y) {n : Nat} (hl : y.length = n) (hn : 1 ≤ n) {yt : Int} (hyt : y[n - 1]? = some yt) (h : yt * p < 4294967296) (hge : pow32 (n - 1) ≤ mag y) :
    mag ((shlL p 0 y).take n) = mag y * p ∧ Dig ((shlL p 0 y).take n) ∧ ((shlL p 0 y).take n).length = n ∧ ∃ v1, ((shlL p 0 y).take n)[n - 1]? = some v1 ∧ 1 ≤ v1 := by
  have hp1 := hp.p1
  obtain ⟨dS, t, ht, t0, t1⟩ := shlL_dig hp y 0 dy (by omega) (by omega)
  rw [hl] at ht
  have hlen := shlL_len p y 0
  rw [hl] at hlen
  have hm := shlL_mag p y 0
  rw [Int.add_zero] at hm
  have hsp := mag_take_succ ht
  rw [List.take_of_length_le (by omega), hm] at hsp
  have hn0 := mag_nonneg (dS.take n)
  have hP := pow32_pos (n - 1)
  -- the divisor's digits suffice
  have hytn : n - 1 + 1 = n := by omega
  have hmy := mag_take_succ hyt
  rw [hytn, List.take_of_length_le (by omega)] at hmy
  have hlt := mag_lt (dy.take (n - 1))
  rw [List.length_take, hl, Nat.min_eq_left (by omega)] at hlt
  have hq : yt + 1 ≤ q := by
    rcases Int.lt_or_le yt q with g | g
    · omega
    · exfalso
      have := mul_le_r (show 0 ≤ p by omega) g
      rw [Int.mul_comm q p, hp.pq] at this
      omega
  have hyq : (yt + 1) * p ≤ 4294967296 := by
    have := mul_le_r (show 0 ≤ p by omega) hq
    rwa [Int.mul_comm q p, hp.pq] at this
  have h1 : mag y * p + p ≤ pow32 n := by
    have a1 : mag y + 1 ≤ pow32 (n - 1) * (yt + 1) := by rw [Int.mul_add, Int.mul_one]; omega
    have a2 := mul_le_r (show 0 ≤ p by omega) a1
    rw [Int.add_mul, Int.one_mul, Int.mul_assoc] at a2
    have a3 := mul_le_l (Int.le_of_lt hP) hyq
    have a4 : pow32 n = pow32 (n - 1) * 4294967296 := by rw [← hytn, Nat.add_sub_cancel, pow32_succ, Int.mul_comm]
    omega
  have ht0 : t = 0 := by
    rcases Int.lt_or_le 0 t with g | g
    · exfalso
      have := mul_le_l (Int.le_of_lt (pow32_pos n)) (show 1 ≤ t by omega)
      omega
    · omega
  rw [ht0, Int.mul_zero, Int.add_zero] at hsp
  have hlt2 : ((shlL p 0 y).take n).length = n := by rw [List.length_take, hlen]; omega
  refine ⟨hsp.symm, dS.take n, hlt2, ?_⟩
  have hv : ((shlL p 0 y).take n)[n - 1]? = some (((shlL p 0 y).take n)[n - 1]'(by omega)) := List.getElem?_eq_getElem (by omega)
  refine ⟨_, hv, ?_⟩
  have hd := (dS.take n).at hv
  have hs2 := mag_take_succ hv
  rw [hytn, List.take_of_length_le (by omega)] at hs2
  generalize ((shlL p 0 y).take n)[n - 1]'(by omega) = v1 at *
  rcases Int.lt_or_le 0 v1 with g | g
  · omega
  · exfalso
    have hv0 : v1 = 0 := by unfold IsDig at hd; omega
    rw [hv0, Int.mul_zero, Int.add_zero] at hs2
    have h3 := mag_lt ((dS.take n).take (n - 1))
    rw [List.length_take, hlt2, Nat.min_eq_left (by omega)] at h3
    have h4 := mul_le_l (show 0 ≤ mag y by omega) hp1
    omega
theorem start_of {s : Nat} {p q : Int} (hp : Pow2 s p q) {x : List Int} (dx : Dig x) {m n : Nat} (hl : x.length = m) (hn : 1 ≤ n) (hnm : n ≤ m) {Y : Int} (hge : pow32 (n - 1) ≤ Y) :
    DivSt (mag x * p) (Y * p) n (m + 1) (m + 1 - n) (shlL p 0 x) (List.replicate (m + 1) 0) := by
  have hp1 := hp.p1
  obtain ⟨dS, t, ht, t0, t1⟩ := shlL_dig hp x 0 dx (by omega) (by omega)
  rw [hl] at ht
  have hlen := shlL_len p x 0
  rw [hl] at hlen
  have hm := shlL_mag p x 0
  rw [Int.add_zero] at hm
  refine ⟨hlen, by simp, dS, Dig.zeros _, ?_, ?_, ?_⟩
  · rw [List.drop_eq_nil_of_le (by omega)]; rfl
  · have hd : ((shlL p 0 x).drop (m + 1 - n))[n - 1]? = some t := by rw [List.getElem?_drop, show m + 1 - n + (n - 1) = m by omega]; exact ht
    have hs := mag_take_succ hd
    rw [show n - 1 + 1 = n by omega] at hs
    have h3 := mag_lt ((dS.drop (m + 1 - n)).take (n - 1))
    rw [List.length_take, List.length_drop, hlen, Nat.min_eq_left (by omega)] at h3
    have hP := pow32_pos (n - 1)
    have h4 := mul_le_l (Int.le_of_lt hP) (show t + 1 ≤ p by omega)
    rw [Int.mul_add, Int.mul_one] at h4
    have h5 := mul_le_r (show 0 ≤ p by omega) hge
    omega
  · rw [List.drop_replicate, mag_zeros, hm]
    simp
/-- What the reference returns: the rest moved back. -/
theorem rest_of {X Y p : Int} (hp : 1 ≤ p) (hY : 0 < Y) : (X * p) / (Y * p) = X / Y ∧ (X * p) % (Y * p) / p = X % Y := by
  refine ⟨Int.mul_ediv_mul_of_pos_left _ _ (by omega), ?_⟩
  rw [Int.mul_comm X p, Int.mul_comm Y p, Int.mul_emod_mul_of_pos _ _ (by omega), Int.mul_ediv_cancel_left _ (by omega)]
end Go.Proofs.Ytajfohnblmnjjaa
