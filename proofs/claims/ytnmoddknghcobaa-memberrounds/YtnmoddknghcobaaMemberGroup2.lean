/-
  Contract of member.Rounds, for every input.
-/
import Derived.Test.YtnmoddknghcobaaMemberGroup
namespace Go.Proofs.Ytnmoddknghcobaa
open Go.RowKit
set_option linter.unusedVariables false

/-- What Rounds returns: a row of members and the error. -/
def GivesMems (l : List Mem) (err : Int) (w : World) (e : Ending) (w' : World) : Prop :=
  ∃ v, e = .returned (.tuple #[v, .int .i64 err]) ∧ OwG memC 4 w' w.heap.size 24 v l ∧ Below w.heap.size w w'
def roundsE (n : Nat) (r : Int) : Int := if n < 1 ∨ 16 < n ∨ r < 0 ∨ 20 < r then 2 else 0
def roundsL (hs : List Nat) (r : Int) : List Mem := if roundsE hs.length r = 0 then roundsR hs r.toNat else []
theorem roundsE_no {n : Nat} {r : Int} (h : n < 1 ∨ 16 < n ∨ r < 0 ∨ 20 < r) : roundsE n r = 2 := if_pos h
theorem roundsE_ok {n : Nat} {r : Int} (h : ¬ (n < 1 ∨ 16 < n ∨ r < 0 ∨ 20 < r)) : roundsE n r = 0 := if_neg h
theorem roundsL_no {hs : List Nat} {r : Int} (h : roundsE hs.length r = 2) : roundsL hs r = [] := by unfold roundsL; rw [h]; rfl
theorem roundsL_ok {hs : List Nat} {r : Int} (h : roundsE hs.length r = 0) : roundsL hs r = roundsR hs r.toNat := if_pos h
theorem rd_block {w : World} {A : Option Addr} {n : Nat} {xs : List Value} (h : Rd w 1 A n xs) (hn : 0 < n) : ∀ ad, A = some ad → ad.block < w.heap.size := by
  intro ad e
  obtain ⟨ad', e', hc⟩ := h.2 hn
  rw [e] at e'
  injection e' with e'
  subst e'
  have hl : 0 < xs.length := by have := h.1; omega
  have := World.block_lt_of_cell? w _ (hc 0 xs[0] (List.getElem?_eq_getElem hl))
  rwa [ad_block] at this

set_option maxRecDepth 100000 in
set_option maxHeartbeats 3200000 in
theorem Rounds_any (H : Option Addr) (n c : Nat) (hs : List Nat) (rounds : Int) (w : World) (h : Rd w 1 H n (hs.map u16V)) (h16 : ∀ x ∈ hs, x < 65536) (hnb : n ≤ 4611686018427387904) :
    Calls Try.prog 16 #[.slice H n c, .int .i64 rounds] w (GivesMems (roundsL hs rounds) (roundsE n rounds) w) := by
  have hl := h.lenMap
  by_cases hno : n < 1 ∨ 16 < n ∨ rounds < 0 ∨ 20 < rounds
  · have e := roundsE_no hno
    rw [roundsL_no (by rw [hl]; exact e), e]
    have hcs : n < 1 ∨ (1 ≤ n ∧ 16 < n) ∨ (1 ≤ n ∧ n ≤ 16 ∧ rounds < 0) ∨ (1 ≤ n ∧ n ≤ 16 ∧ 0 ≤ rounds ∧ 20 < rounds) := by omega
    clear hno e hl
    rcases hcs with q1 | ⟨q1, q2⟩ | ⟨q1, q2, q3⟩ | ⟨q1, q2, q3, q4⟩
    all_goals
      have q1' : (n : Int) < 1 ∨ 1 ≤ (n : Int) := by omega
      go_enter Try.func16, Try.ntmps16
      go_wp2
      go_ret2
      exact ⟨_, rfl, OwG.nil _ _ _, Below.refl _ _⟩
  · have e := roundsE_ok hno
    rw [roundsL_ok (by rw [hl]; exact e), e]
    obtain ⟨r, rfl⟩ : ∃ r : Nat, rounds = r := ⟨rounds.toNat, by omega⟩
    rw [Int.toNat_natCast]
    have q1 : ¬ (n : Int) < 1 := by omega
    have q2 : ¬ 16 < (n : Int) := by omega
    have q3 : ¬ (r : Int) < 0 := by omega
    have q4 : ¬ 20 < (r : Int) := by omega
    have hn1 : 0 < n := by omega
    have hn16 : n ≤ 16 := by omega
    have hr20 : r ≤ 20 := by omega
    have hmk := run_mkG (P := Try.prog) elMem .i64 .i64 n n (Nat.le_refl _) (by omega) (by omega)
    have Hmake := Lib.hid (OwG.make memK (z := .agg #[.int .u16 0, .int .i64 0, .int .i64 0, .bool false]) (z0 := zeroM) rfl w 24 (base := w.heap.size) n (by unfold maxLen; omega) (Nat.le_refl _))
    have CA := Lib.hid (fun (j : Nat) (hj : j < n) (W : World) => All_any (j : Int) (n : Int) W)
    have HA : Hid (∀ j : Nat, j < n → allE (j : Int) (n : Int) = 0 ∧ allM (j : Int) (n : Int) = startM n) := fun j hj => by
      have := allE_ok (own := (j : Int)) (many := (n : Int)) (by omega)
      rwa [Int.toNat_natCast] at this
    have Hne := Lib.hid (fun (ad : Addr) (he : H = some ad) => show some ad.block ≠ some w.heap.size from fun e => by have := rd_block h hn1 ad he; injection e with e; omega)
    have H16 := Lib.hid h16
    have Hl := Lib.hid hl
    have Hgood : Hid (∀ s i m, (groupM hs s)[i]? = some m → GoodM (n + s : Nat) i m) := fun s i m hm => by rw [← hl]; exact group_good (by rw [hl]; exact hn16) s hm
    have Hnext : Hid (∀ i j, j < n → slotM hs j (groupM hs (n * i + j)) = groupM hs (n * i + (j + 1))) := fun i j hj => by
      rw [← Nat.add_assoc, groupM_succ, hl, Nat.mul_add_mod, Nat.mod_eq_of_lt hj]
    have H0 : Hid (groupM hs 0 = List.replicate n (startM n)) := by show _ = _; unfold groupM slotsM; rw [hl]
    have Hfin : Hid (roundsR hs r = groupM hs (n * r)) := by show _ = _; unfold roundsR; rw [hl]
    have Hst : Hid ((startM n).vw = fullV n) := rfl
    clear hno e hl h16
    rw [Hfin.out]
    go_enter Try.func16, Try.ntmps16
    go_wp2
    have Hstart : Hid (OwG memC 4 (w.alloc (.cells (madeCells #[.int .u16 0, .int .i64 0, .int .i64 0, .bool false] (n * 4)) 24)) w.heap.size 24 (.slice (some ⟨w.heap.size, 0, none⟩) n n) (List.replicate n zeroM)) := Hmake.out
    have hB0 := (Below.refl w.heap.size w).alloc (Nat.le_refl _) (.cells (madeCells #[.int .u16 0, .int .i64 0, .int .i64 0, .bool false] (n * 4)) 24)
    have HrepA : Hid (∀ j : Nat, j < n → (List.replicate n (startM n))[j]? = some (startM n)) := fun j hj => by rw [List.getElem?_replicate, if_pos hj]
    have HrepZ : Hid (∀ j : Nat, j < n → (List.replicate n zeroM)[j]? = some zeroM) := fun j hj => by rw [List.getElem?_replicate, if_pos hj]
    have HlenA : Hid ((List.replicate n (startM n)).length = n) := List.length_replicate
    have HlenZ : Hid ((List.replicate n zeroM).length = n) := List.length_replicate
    obtain ⟨st, Hste⟩ : ∃ st, Hid (startM n = st) := ⟨_, rfl⟩
    rw [Hste.out] at HrepA HA HlenA H0
    clear Hmake hmk Hfin Hst
    generalize List.replicate n st = SA at *
    generalize List.replicate n zeroM = SZ at *
    go_loopw [31] (fun i wr => ∃ j : Nat, j ≤ n ∧ i = .int .i64 j ∧ OwG memC 4 wr w.heap.size 24 (.slice (some ⟨w.heap.size, 0, none⟩) n n) (SA.take j ++ SZ.drop j) ∧ Below w.heap.size w wr) (fun i _ => n - (intOf i).toNat)
    case atStart => exact ⟨0, Nat.zero_le _, rfl, by simpa using Hstart.out, hB0⟩
    case round =>
      obtain ⟨j, hj, rfl, ho, hbl⟩ := hrel
      clear Hstart hB0
      have Ho := Lib.hid ho
      clear ho
      by_cases hlt : j < n
      · have C1 := Lib.hid (CA.out j hlt)
        rw [(HA.out j hlt).1, (HA.out j hlt).2] at C1
        obtain ⟨hset, hcur⟩ := mid_set (HrepA.out j hlt) (HrepZ.out j hlt)
        have Hset := Lib.hid hset
        have Hcur := Lib.hid hcur
        clear hset hcur Hste
        obtain ⟨rv, rt, rl, ro⟩ := st
        go_wp2_with fail
        refine (C1.out _).mono ?_
        rintro e w8 ⟨rfl, hb8⟩
        have ho := Ho.out.below hb8
        have hB8 := bthen hbl hb8
        have k0 := ho.cellAt memK Hcur.out (j := 0) rfl
        have k1 := ho.cellAt memK Hcur.out (j := 1) rfl
        have k2 := ho.cellAt memK Hcur.out (j := 2) rfl
        have k3 := ho.cellAt memK Hcur.out (j := 3) rfl
        simp only [Nat.add_zero] at k0 k1 k2 k3
        have f0 := ho.freeAt (j * 4)
        have f1 := ho.freeAt (j * 4 + 1)
        have f2 := ho.freeAt (j * 4 + 2)
        have f3 := ho.freeAt (j * 4 + 3)
        have Hput := Lib.hid (ho.putMem Hcur.out rv rt rl ro)
        clear ho Ho hb8 C1
        go_wp2
        go_roundw
        case rel => exact ⟨j + 1, by omega, by go_num, by rw [← Hset.out]; exact Hput.out, by repeat (first | (with_reducible exact Below.refl _ _) | (with_reducible assumption) | (with_reducible refine Below.setCell ?_ (by (try simp) <;> omega) _) | (with_reducible refine Below.alloc ?_ (by (try simp) <;> omega) _) | (with_reducible refine Below.drew ?_))⟩
        case measure => simp [intOf] <;> omega
      · obtain rfl : j = n := by omega
        have ho := Ho.out
        rw [List.take_of_length_le (by rw [HlenA.out]; exact Nat.le_refl _), List.drop_eq_nil_of_le (by rw [HlenZ.out]; exact Nat.le_refl _), List.append_nil, ← H0.out] at ho
        have Ho2 := Lib.hid ho
        clear ho Ho CA HA
        go_wp2
        go_loopw [45] (fun i wr => ∃ i' : Nat, i' ≤ r ∧ i = .int .i64 i' ∧ OwG memC 4 wr w.heap.size 24 (.slice (some ⟨w.heap.size, 0, none⟩) j j) (groupM hs (j * i')) ∧ Below w.heap.size w wr) (fun i _ => r - (intOf i).toNat)
        case atStart => exact ⟨0, Nat.zero_le _, rfl, Ho2.out, hbl⟩
        case round =>
          rename World => wo
          obtain ⟨i', hi, rfl, ho, hbl'⟩ := hrel
          clear Ho2
          have Ho := Lib.hid ho
          clear ho
          by_cases hlt2 : i' < r
          · go_wp2
            go_loopw [49] (fun i wr => ∃ k : Nat, k ≤ j ∧ i = .int .i64 k ∧ OwG memC 4 wr w.heap.size 24 (.slice (some ⟨w.heap.size, 0, none⟩) j j) (groupM hs (j * i' + k)) ∧ Below w.heap.size w wr) (fun i _ => j - (intOf i).toNat)
            case atStart => exact ⟨0, Nat.zero_le _, rfl, Ho.out, hbl'⟩
            case round =>
              obtain ⟨k, hk, rfl, ho2, hbl2⟩ := hrel
              clear Ho
              by_cases hlt3 : k < j
              · have hmul : j * i' + k ≤ 16 * 20 + 16 := Nat.add_le_add (Nat.mul_le_mul hn16 (by omega)) (by omega)
                have CT := Lib.hid (takeTurn_any w.heap.size w.heap.size j j (groupM hs (j * i' + k)) H c hs k ((j + (j * i' + k) : Nat) : Int) _ ho2 (h.below hbl2) Hne.out hn16 hlt3 (by omega) (by omega) (Hgood.out _) H16.out)
                rw [Hnext.out i' k hlt3] at CT
                clear ho2 hmul
                go_wp2_with fail
                refine (CT.out).mono ?_
                rintro e w9 ⟨rfl, ho9, hg9⟩
                have hB9 : Below w.heap.size w w9 := below_grown hbl2 hg9 (Nat.le_refl _) hbl2.size
                have Ho9 := Lib.hid ho9
                clear CT ho9 hg9
                go_wp2
                go_roundw
                case rel => exact ⟨k + 1, by omega, by go_num, Ho9.out, hB9⟩
                case measure => simp [intOf] <;> omega
              · obtain rfl : k = j := by omega
                have Ho3 : Hid (OwG memC 4 wr w.heap.size 24 (.slice (some ⟨w.heap.size, 0, none⟩) k k) (groupM hs (k * (i' + 1)))) := by
                  show OwG _ _ _ _ _ _ _
                  rw [Nat.mul_succ]; exact ho2
                clear ho2
                go_wp2
                go_roundw
                case rel => exact ⟨i' + 1, by omega, by go_num, Ho3.out, hbl2⟩
                case measure => simp [intOf] <;> omega
          · obtain rfl : i' = r := by omega
            go_wp2
            go_ret2
            exact ⟨_, rfl, Ho.out, hbl'⟩
end Go.Proofs.Ytnmoddknghcobaa
