/-
  What stays behind a call that marks two rows.
-/
import Derived.Test.YtcbclmhkejknoaaRows
import Derived.Test.YtcbclmhkejknoaaBytes
import Derived.Test.YtcbclmhkejknoaaSlA
import Derived.Test.YtcbclmhkejknoaaOwnS
import Derived.Test.YtcbclmhkejknoaaBxK
import Derived.Handy
namespace Go.Proofs.Ytcbclmhkejknoaa
open Go.RowKit Go.Lib
set_option linter.unusedVariables false

structure Gr2 (w w' : World) (b1 b2 : Option Nat) : Prop where
  os : w'.os = w.os
  tape : w'.tape = w.tape
  output : w'.output = w.output
  size : w.heap.size ≤ w'.heap.size
  block : ∀ k, k < w.heap.size → some k ≠ b1 → some k ≠ b2 → w'.heap[k]? = w.heap[k]?
theorem Gr2.mk2 {w wm w' : World} {b1 b2 : Option Nat} (h1 : w.grownBy wm b1) (h2 : wm.grownBy w' b2) : Gr2 w w' b1 b2 :=
  ⟨h2.os.trans h1.os, h2.tape.trans h1.tape, h2.output.trans h1.output, Nat.le_trans h1.size h2.size, fun k hk n1 n2 => (h2.block k (Nat.lt_of_lt_of_le hk h1.size) n2).trans (h1.block k hk n1)⟩
theorem Bxs.gr2 {w w' : World} {g : Nat} {T : TypeId} {cs : Array Value} {b1 b2 : Option Nat} (h : Bxs w g T cs) (hg : Gr2 w w' b1 b2) (n1 : some g ≠ b1) (n2 : some g ≠ b2) : Bxs w' g T cs := (hg.block g h.lt n1 n2).trans h
theorem own_gr2 {w w' : World} {base : Nat} {e : TypeId} {s : Nat} {v : Value} {n : Nat} {xs : List Value} {b1 b2 : Option Nat} (h : w.ownsRow base e s v n xs) (hg : Gr2 w w' b1 b2) (hn : ∀ j, v.ownBlock = some j → some j ≠ b1 ∧ some j ≠ b2) : w'.ownsRow base e s v n xs := by
  refine ⟨h.1, ?_⟩
  rcases h.2 with h0 | ⟨g, cap, cur, h1, h2, h3, h4⟩
  · exact .inl h0
  · obtain ⟨n1, n2⟩ := hn g (by rw [h1]; rfl)
    exact .inr ⟨g, cap, cur, h1, h2, (hg.block g (lt_of_block h3) n1 n2).trans h3, h4⟩
theorem below_gr2 {B : Nat} {a w w' : World} {b1 b2 : Option Nat} (h : Below B a w) (hg : Gr2 w w' b1 b2) (hB : B ≤ w.heap.size) (h1 : ∀ k, b1 = some k → B ≤ k) (h2 : ∀ k, b2 = some k → B ≤ k) : Below B a w' :=
  h.trans ⟨hg.os, hg.tape, hg.output, hg.size, fun k hk => hg.block k (by omega) (fun e => by have := h1 k e.symm; omega) (fun e => by have := h2 k e.symm; omega)⟩
/-- The blocks that two values own lie from lo to below hi. -/
def In2 (v1 v2 : Value) (lo hi : Nat) : Prop := (∀ j, v1.ownBlock = some j → lo ≤ j ∧ j < hi) ∧ ∀ j, v2.ownBlock = some j → lo ≤ j ∧ j < hi
theorem In2.off {v1 v2 : Value} {lo hi g : Nat} (h : In2 v1 v2 lo hi) (hg : g < lo ∨ hi ≤ g) : some g ≠ v1.ownBlock ∧ some g ≠ v2.ownBlock := ⟨fun e => by have := h.1 g e.symm; omega, fun e => by have := h.2 g e.symm; omega⟩
theorem In2.apart {v1 v2 u1 u2 : Value} {lo hi lo' hi' : Nat} (h : In2 v1 v2 lo hi) (h' : In2 u1 u2 lo' hi') (hd : hi ≤ lo' ∨ hi' ≤ lo) : (∀ j, v1.ownBlock = some j → some j ≠ u1.ownBlock ∧ some j ≠ u2.ownBlock) ∧ ∀ j, v2.ownBlock = some j → some j ≠ u1.ownBlock ∧ some j ≠ u2.ownBlock :=
  ⟨fun j hj => h'.off (by have := h.1 j hj; omega), fun j hj => h'.off (by have := h.2 j hj; omega)⟩
end Go.Proofs.Ytcbclmhkejknoaa
