/-
  Boxes and rows of disks behind a call that marks two rows: what is apart from them stays.
-/
import Derived.Test.YtmhdnbfcmobgnajRows
import Derived.Test.YtmhdnbfcmobgnajBytes
import Derived.Test.YtmhdnbfcmobgnajSlA
import Derived.Test.YtmhdnbfcmobgnajSlB
import Derived.Test.YtmhdnbfcmobgnajOwnS
import Derived.Test.YtmhdnbfcmobgnajDskMath
import Derived.Test.YtmhdnbfcmobgnajDskC
import Derived.Test.YtmhdnbfcmobgnajDskT
import Derived.Test.YtmhdnbfcmobgnajLawD
import Derived.Handy
namespace Go.Proofs.Ytmhdnbfcmobgnaj
open Go.RowKit Go.Lib
set_option linter.unusedVariables false

structure Gr2 (w w' : World) (b1 b2 : Option Nat) : Prop where
  os : w'.os = w.os
  tape : w'.tape = w.tape
  output : w'.output = w.output
  size : w.heap.size ≤ w'.heap.size
  block : ∀ k, k < w.heap.size → some k ≠ b1 → some k ≠ b2 → w'.heap[k]? = w.heap[k]?
theorem Gr2.mk2 {w wm w' : World} {b1 b2 : Option Nat} (h1 : w.grownBy wm b1) (h2 : wm.grownBy w' b2) : Gr2 w w' b1 b2 :=
  ⟨h2.os.trans h1.os, h2.tape.trans h1.tape, h2.output.trans h1.output, Nat.le_trans h1.size h2.size, fun k hk n1 n2 => (h2.block k (Nat.lt_of_lt_of_le hk h1.size) n2).trans (h1.block k hk n1)⟩
theorem Bxs.gr2 {w w' : World} {g : Nat} {T : TypeId} {cs : Array Value} {b1 b2 : Option Nat} (h : Bxs w g T cs) (hg : Gr2 w w' b1 b2) (n1 : some g ≠ b1) (n2 : some g ≠ b2) : Bxs w' g T cs := (hg.block g h.lt n1 n2).trans h
theorem own_gr2 {w w' : World} {base : Nat} {e : TypeId} {s : Nat} {v : Value} {n : Nat} {xs : List Value} {b1 b2 : Option Nat} (h : w.ownsRow base e s v n xs) (hg : Gr2 w w' b1 b2) (hn : ∀ j, v.ownBlock = some j → some j ≠ b1 ∧ some j ≠ b2) : w'.ownsRow base e s v n xs := by
  refine ⟨h.1, ?_⟩
  rcases h.2 with h0 | ⟨g, cap, cur, h1, h2, h3, h4⟩
  · exact .inl h0
  · obtain ⟨n1, n2⟩ := hn g (by rw [h1]; rfl)
    exact .inr ⟨g, cap, cur, h1, h2, (hg.block g (lt_of_block h3) n1 n2).trans h3, h4⟩
theorem below_gr2 {B : Nat} {a w w' : World} {b1 b2 : Option Nat} (h : Below B a w) (hg : Gr2 w w' b1 b2) (hB : B ≤ w.heap.size) (h1 : ∀ k, b1 = some k → B ≤ k) (h2 : ∀ k, b2 = some k → B ≤ k) : Below B a w' :=
  h.trans ⟨hg.os, hg.tape, hg.output, hg.size, fun k hk => hg.block k (by omega) (fun e => by have := h1 k e.symm; omega) (fun e => by have := h2 k e.symm; omega)⟩
/-- The blocks that two values own lie from lo to below hi. -/
def In2 (v1 v2 : Value) (lo hi : Nat) : Prop := (∀ j, v1.ownBlock = some j → lo ≤ j ∧ j < hi) ∧ ∀ j, v2.ownBlock = some j → lo ≤ j ∧ j < hi
theorem DskO.in2 {base : Nat} {ss : List ByteArray} {ps : List Pnd} {v1 v2 : Value} {w : World} (h : DskO base ss ps v1 v2 w) : In2 v1 v2 base w.heap.size := ⟨fun j hj => h.own1.lt j hj, fun j hj => h.own2.lt j hj⟩
theorem In2.off {v1 v2 : Value} {lo hi g : Nat} (h : In2 v1 v2 lo hi) (hg : g < lo ∨ hi ≤ g) : some g ≠ v1.ownBlock ∧ some g ≠ v2.ownBlock := ⟨fun e => by have := h.1 g e.symm; omega, fun e => by have := h.2 g e.symm; omega⟩
theorem In2.apart {v1 v2 u1 u2 : Value} {lo hi lo' hi' : Nat} (h : In2 v1 v2 lo hi) (h' : In2 u1 u2 lo' hi') (hd : hi ≤ lo' ∨ hi' ≤ lo) : (∀ j, v1.ownBlock = some j → some j ≠ u1.ownBlock ∧ some j ≠ u2.ownBlock) ∧ ∀ j, v2.ownBlock = some j → some j ≠ u1.ownBlock ∧ some j ≠ u2.ownBlock :=
  ⟨fun j hj => h'.off (by have := h.1 j hj; omega), fun j hj => h'.off (by have := h.2 j hj; omega)⟩
theorem DskO.gr2 {base : Nat} {ss : List ByteArray} {ps : List Pnd} {v1 v2 : Value} {w w' : World} {b1 b2 : Option Nat} (h : DskO base ss ps v1 v2 w) (hg : Gr2 w w' b1 b2) (hn : (∀ j, v1.ownBlock = some j → some j ≠ b1 ∧ some j ≠ b2) ∧ ∀ j, v2.ownBlock = some j → some j ≠ b1 ∧ some j ≠ b2) : DskO base ss ps v1 v2 w' := ⟨own_gr2 h.own1 hg hn.1, own_gr2 h.own2 hg hn.2, h.ne⟩
theorem Bxs.two {w : World} {g : Nat} {T : TypeId} {a b : Value} (h : Bxs w g T #[a, b]) : w.cell? ⟨g, 0, none⟩ = some a ∧ w.cell? ⟨g, 1, none⟩ = some b := ⟨h.cell 0, h.cell 1⟩
theorem Bxs.four {w : World} {g : Nat} {T : TypeId} {a b c d : Value} (h : Bxs w g T #[a, b, c, d]) : w.cell? ⟨g, 0, none⟩ = some a ∧ w.cell? ⟨g, 1, none⟩ = some b ∧ w.cell? ⟨g, 2, none⟩ = some c ∧ w.cell? ⟨g, 3, none⟩ = some d := ⟨h.cell 0, h.cell 1, h.cell 2, h.cell 3⟩
/-- What reads of a disk's rows. -/
theorem DskO.form {base : Nat} {ss : List ByteArray} {ps : List Pnd} {v1 v2 : Value} {w : World} (h : DskO base ss ps v1 v2 w) : ∃ p1 c1 p2 c2, v1 = .slice p1 ss.length c1 ∧ v2 = .slice p2 ps.length c2 ∧ ss.length ≤ c1 ∧ ps.length ≤ c2 := by
  obtain ⟨p1, c1, e1, m1, _⟩ := ownS_form h.own1
  obtain ⟨p2, c2, e2, m2, _⟩ := ownP_form h.own2
  exact ⟨p1, c1, p2, c2, e1, e2, m1, m2⟩
theorem DskO.read {base : Nat} {ss : List ByteArray} {ps : List Pnd} {p1 p2 : Option Addr} {c1 c2 : Nat} {w : World} (h : DskO base ss ps (.slice p1 ss.length c1) (.slice p2 ps.length c2) w) : TxtAt w p1 ss ∧ PndAt w p2 ps := by
  obtain ⟨p1', c1', e1, _, t1⟩ := ownS_form h.own1
  obtain ⟨p2', c2', e2, _, t2⟩ := ownP_form h.own2
  cases e1; cases e2
  exact ⟨t1, t2⟩
end Go.Proofs.Ytmhdnbfcmobgnaj
