/-
  Contract of arb.Play. No statement of the seat is here.
-/
import Derived.Test.YtolcfifbnmkfaaaArbMath2
namespace Go.Proofs.Ytolcfifbnmkfaaa
open Go.RowKit
set_option linter.unusedVariables false

theorem Ow.keep {α : Type} {f : α → Value} {w w' : World} {base : Nat} {e : TypeId} {v : Value} {l : List α} {row : Option Nat} (h : Ow f w base e v l) (hg : w.grownBy w' row) (hne : ∀ k, v.ownBlock = some k → some k ≠ row) : Ow f w' base e v l := by
  refine ⟨h.1, ?_⟩
  rcases h.2 with ⟨hv, h0⟩ | ⟨g, cap, cur, hv, hb, hblk, h1, h2, h3, h4⟩
  · exact .inl ⟨hv, h0⟩
  · exact .inr ⟨g, cap, cur, hv, hb, (hg.block g (lt_of_block hblk) (hne g (by rw [hv]; rfl))).trans hblk, h1, h2, h3, h4⟩
theorem Ow.inHeap {α : Type} {f : α → Value} {w : World} {base : Nat} {e : TypeId} {v : Value} {l : List α} (h : Ow f w base e v l) : ∀ k, v.ownBlock = some k → k < w.heap.size := by
  intro k hk
  rcases h.2 with ⟨hv, h0⟩ | ⟨g, cap, cur, hv, hb, hblk, _⟩
  · subst hv; cases hk
  · subst hv
    have : g = k := by simpa [Value.ownBlock] using hk
    subst this
    exact lt_of_block hblk
/-- Between two rounds of the arbitration: s bits are over. -/
structure St (w wr : World) (l : List Int) (m : Int) (s : Nat) (A : Option Addr) (n c b1 g6 bp : Nat) (v7 v8 : Value) : Prop where
  bel : Below w.heap.size w wr
  box1 : Box wr b1 22 [.slice A n c]
  boxp : Box wr bp 3 [.int .i64 (10 - (s : Int))]
  sent : Ow (Value.int .i64) wr w.heap.size 3 (.slice (some ⟨g6, 0, none⟩) n n) (l.map fun x => saidS m x s)
  bus : Ow Value.bool wr w.heap.size 4 v7 ((B m).take s)
  nodes : Ow (Value.int .i64) wr w.heap.size 3 v8 (act l m s)
  lo : w.heap.size ≤ b1 ∧ w.heap.size ≤ bp ∧ w.heap.size ≤ g6
  d1 : b1 ≠ g6 ∧ bp ≠ g6
  d7 : ∀ k, v7.ownBlock = some k → k ≠ b1 ∧ k ≠ g6 ∧ k ≠ bp
  d8 : ∀ k, v8.ownBlock = some k → k ≠ b1 ∧ k ≠ g6 ∧ k ≠ bp ∧ v7.ownBlock ≠ some k

theorem Play_wrong (A : Option Addr) (n c : Nat) (l : List Int) (w : World) (h : Rd w 1 A n (l.map (Value.int .i64))) (hp : wrongM l ≠ 0) :
    Calls Try.prog 8 #[.slice A n c] w fun e w' => e = .returned (.tuple #[.slice none 0 0, .slice none 0 0, .int .i64 (wrongM l)]) ∧ Below w.heap.size w w' := by
  have hne : (wrongM l != 0) = true := by simpa using hp
  have hW := fun W (hb : Rd W 1 A n (l.map (Value.int .i64))) => Wrong_any A n c l W hb
  generalize wrongM l = R at *
  go_enter Try.func8, Try.ntmps8
  go_wp2_with (go_at_call 12; refine (hW _ (h.alloc _)).mono ?_; rintro e w' ⟨rfl, hb⟩)
  refine bodyPost_ret (v := .tuple #[.slice none 0 0, .slice none 0 0, .int .i64 R]) (by simp [results, Try.results8, go_sem]) rfl ⟨rfl, below_new hb⟩
theorem Play_none (A : Option Addr) (n c : Nat) (w : World) (h : Rd w 1 A n (([] : List Int).map (Value.int .i64))) :
    Calls Try.prog 8 #[.slice A n c] w fun e w' => e = .returned (.tuple #[.slice none 0 0, .slice none 0 0, .int .i64 3]) ∧ Below w.heap.size w w' := by
  have hn : n = 0 := h.lenMap.symm
  subst hn
  have hW := fun W (hb : Rd W 1 A 0 (([] : List Int).map (Value.int .i64))) => Wrong_any A 0 c [] W hb
  rw [show wrongM [] = 0 from rfl] at hW
  go_enter Try.func8, Try.ntmps8
  go_wp2_with (go_at_call 12; refine (hW _ (h.alloc _)).mono ?_; rintro e w' ⟨rfl, hb⟩; have hc : w'.cell? ⟨w.heap.size, 0, none⟩ = some (.slice A 0 c) := ((Box.new w 22 [.slice A 0 c]).below hb (Box.new w 22 [.slice A 0 c]).lt).cell 0 rfl)
  refine bodyPost_ret (v := .tuple #[.slice none 0 0, .slice none 0 0, .int .i64 3]) (by simp [results, Try.results8, go_sem]) rfl ⟨rfl, below_new hb⟩
end Go.Proofs.Ytolcfifbnmkfaaa
