/-
  Parts of one proof, laid as one text: LawDM, LawDG; what each says stands at its head.
-/
import Derived.Test.YtkhffoailfnepakGreatDoorRows
import Derived.Test.YtkhffoailfnepakGreatDoorBytesDigMath
import Derived.Test.YtkhffoailfnepakGreatDoorSlASlBOwnSDskMath
import Derived.Test.YtkhffoailfnepakGreatDoorPuLeLawM
import Derived.Test.YtkhffoailfnepakGreatDoorLawMGLawPM
import Derived.Test.YtkhffoailfnepakGreatDoorAppSStepAppDskA
import Derived.Test.YtkhffoailfnepakGreatDoorLawP
import Derived.Test.YtkhffoailfnepakGreatDoorLawD
import Derived.Handy
import Derived.WalkSpells
import Derived.OwnWalk
import Derived.Test.YtkhffoailfnepakGreatDoorDskCDskRDskS
import Derived.Test.YtkhffoailfnepakGreatDoorDskT
/-
  What the laws' own helpers do that mark disks: markDisk, heldDisk, markDiskOut, heldDiskOut.
  Conditions: the two rows are the call's own, in two blocks.
-/
namespace Go.Proofs.YtkhffoailfnepakGreatDoor
open Go.RowKit Go.Lib
set_option linter.unusedVariables false
set_option maxRecDepth 20000

theorem Bxs.grown {w w' : World} {g : Nat} {T : TypeId} {cs : Array Value} (h : Bxs w g T cs) {row : Option Nat} (hg : w.grownBy w' row) (hne : some g ≠ row) : Bxs w' g T cs := (hg.block g h.lt hne).trans h
theorem own_ne {w : World} {base : Nat} {e : TypeId} {s : Nat} {v : Value} {n : Nat} {xs : List Value} (h : w.ownsRow base e s v n xs) {g : Nat} (hg : w.heap.size ≤ g) : some g ≠ v.ownBlock := fun he => by have := (h.lt g he.symm).2; omega
set_option maxHeartbeats 1000000 in
theorem markDisk_any (base : Nat) (p1 p2 : Option Addr) (c1 c2 : Nat) (ss : List ByteArray) (ps : List Pnd) (w : World) (o1 : w.ownsRow base 9 1 (.slice p1 ss.length c1) ss.length (strRow ss)) (o2 : w.ownsRow base 71 2 (.slice p2 ps.length c2) ps.length (pndRow ps)) (hne : (Value.slice p1 ss.length c1).ownBlock = none ∨ (Value.slice p1 ss.length c1).ownBlock ≠ (Value.slice p2 ps.length c2).ownBlock) (n1 : ss.length ≤ 1048576) (n2 : ps.length ≤ 1048576) :
    Calls Tryz.prog 10 #[.agg #[.slice p1 ss.length c1, .slice p2 ps.length c2], .int .i64 1] w fun e w' => e = .returned (.int .i64 (2 * (ps.length : Int) + ((ss.length : Int) + 1))) ∧ w'.ownsRow base 9 1 (.slice p1 ss.length c1) ss.length (strRow (marksN 1 ss.length)) ∧ w'.ownsRow base 71 2 (.slice p2 ps.length c2) ps.length (pndRow (mpN (ss.length + 1) ps.length)) ∧
      ∃ wm, w.grownBy wm (Value.slice p1 ss.length c1).ownBlock ∧ wm.grownBy w' (Value.slice p2 ps.length c2).ownBlock := by
  obtain ⟨W1, hW1⟩ : ∃ W1, W1 = w.alloc (.cells #[.slice p1 ss.length c1, .slice p2 ps.length c2] 29) := ⟨_, rfl⟩
  have HW1 : Hid (W1 = w.alloc (.cells #[.slice p1 ss.length c1, .slice p2 ps.length c2] 29)) := hW1
  have X1 : Hid (Bxs W1 w.heap.size 29 #[.slice p1 ss.length c1, .slice p2 ps.length c2]) := by rw [hW1]; exact Bxs.new _ _ _
  have E1 : Hid (some w.heap.size ≠ (Value.slice p1 ss.length c1).ownBlock) := own_ne o1 (Nat.le_refl _)
  have O1 : Hid (W1.ownsRow base 9 1 (.slice p1 ss.length c1) ss.length (strRow ss)) := by rw [hW1]; exact o1.alloc _
  have O2 : Hid (W1.ownsRow base 71 2 (.slice p2 ps.length c2) ps.length (pndRow ps)) := by rw [hW1]; exact o2.alloc _
  have HG : Hid (∀ wm, W1.grownBy wm (Value.slice p1 ss.length c1).ownBlock → w.grownBy wm (Value.slice p1 ss.length c1).ownBlock) := by
    rw [hW1]
    intro wm h
    exact ⟨h.os, h.tape, h.output, by have := h.size; simp at this; omega, fun b hb hn => (h.block b (by simp; omega) hn).trans (Below.heap_alloc _ _ _ hb)⟩
  have H1 := markG_any 1 (by omega) base (.slice p1 ss.length c1) ss W1 O1.out (by omega)
  rw [show ((1 : Nat) : Int) = 1 from rfl] at H1
  have HN : Hid ((Value.slice p2 ps.length c2).ownBlock = none ∨ (Value.slice p2 ps.length c2).ownBlock ≠ (Value.slice p1 ss.length c1).ownBlock) := by
    rcases hne with h | h
    · cases h1 : (Value.slice p2 ps.length c2).ownBlock with
      | none => exact .inl rfl
      | some b => exact .inr (by rw [h]; simp)
    · exact .inr (fun e => h e.symm)
  have HN2 : Hid ((Value.slice p1 ss.length c1).ownBlock = none ∨ (Value.slice p1 ss.length c1).ownBlock ≠ (Value.slice p2 ps.length c2).ownBlock) := hne
  clear hW1 o1 o2 hne
  go_enter Tryz.func10, Tryz.ntmps10
  go_wp2_with fail
  rw [← HW1.out]
  refine H1.mono ?_
  rintro e w2 ⟨rfl, q1, g1⟩
  have x2 : w2.cell? ⟨w.heap.size, 1, none⟩ = some (.slice p2 ps.length c2) := (X1.out.grown g1 E1.out).cell 1
  have q2 := O2.out.kept g1 HN.out
  have H2 := markP_any (ss.length + 1) (by omega) base (.slice p2 ps.length c2) ps w2 q2 (by omega)
  rw [show ((ss.length + 1 : Nat) : Int) = (ss.length : Int) + 1 by omega] at H2
  have Q1 : Hid (w2.ownsRow base 9 1 (.slice p1 ss.length c1) ss.length (strRow (marksN 1 ss.length))) := q1
  have G1 : Hid (W1.grownBy w2 (Value.slice p1 ss.length c1).ownBlock) := g1
  clear q1 q2 g1 H1 O1 O2 X1
  go_wp2_with fail
  refine H2.mono ?_
  rintro e w3 ⟨rfl, q3, g3⟩
  have Q3 : Hid (w3.ownsRow base 71 2 (.slice p2 ps.length c2) ps.length (pndRow (mpN (ss.length + 1) ps.length))) := q3
  have Q4 : Hid (w3.ownsRow base 9 1 (.slice p1 ss.length c1) ss.length (strRow (marksN 1 ss.length))) := Q1.out.kept g3 HN2.out
  have G3 : Hid (w2.grownBy w3 (Value.slice p2 ps.length c2).ownBlock) := g3
  clear q3 g3 H2 x2 Q1
  go_wp2_with fail
  go_ret
  exact ⟨rfl, Q4.out, Q3.out, w2, HG.out _ G1.out, G3.out⟩

set_option maxHeartbeats 1000000 in
theorem heldDisk_any (p1 p2 : Option Addr) (c1 c2 n1 n2 : Nat) (w : World) (h1 : TxtAt w p1 (marksN 1 n1)) (h2 : PndAt w p2 (mpN (n1 + 1) n2)) (l1 : n1 ≤ 1048576) (l2 : n2 ≤ 1048576) (m1 : n1 ≤ c1) (m2 : n2 ≤ c2) :
    Calls Tryz.prog 35 #[.agg #[.slice p1 n1 c1, .slice p2 n2 c2], .int .i64 1] w fun e w' => e = .returned (.int .i64 (2 * (n2 : Int) + ((n1 : Int) + 1))) ∧ Below w.heap.size w w' := by
  obtain ⟨W1, hW1⟩ : ∃ W1, W1 = w.alloc (.cells #[.slice p1 n1 c1, .slice p2 n2 c2] 29) := ⟨_, rfl⟩
  have HW1 : Hid (W1 = w.alloc (.cells #[.slice p1 n1 c1, .slice p2 n2 c2] 29)) := hW1
  have X1 : Hid (Bxs W1 w.heap.size 29 #[.slice p1 n1 c1, .slice p2 n2 c2]) := by rw [hW1]; exact Bxs.new _ _ _
  have B1 : Hid (Below w.heap.size w W1) := by rw [hW1]; exact (Below.refl _ _).alloc (Nat.le_refl _) _
  have H1 := heldG_any 1 (by omega) p1 c1 n1 W1 (h1.below B1.out) (by omega) m1
  rw [show ((1 : Nat) : Int) = 1 from rfl] at H1
  have T2 : Hid (PndAt W1 p2 (mpN (n1 + 1) n2)) := h2.below B1.out
  clear hW1 h1 h2
  have d1 : decide ((n1 : Int) + 1 < 0) = false := decide_eq_false (by omega)
  have d2 : decide (2 * (n2 : Int) + ((n1 : Int) + 1) < 0) = false := decide_eq_false (by omega)
  go_enter Tryz.func35, Tryz.ntmps35
  go_wp2_with fail
  rw [← HW1.out]
  refine H1.mono ?_
  rintro e w2 ⟨rfl, b2⟩
  have x2 : w2.cell? ⟨w.heap.size, 1, none⟩ = some (.slice p2 n2 c2) := (X1.out.below b2).cell 1
  have H2 := heldP_any (n1 + 1) (by omega) p2 c2 n2 w2 (T2.out.below b2) (by omega) m2
  rw [show ((n1 + 1 : Nat) : Int) = (n1 : Int) + 1 by omega] at H2
  have b2 := chainB B1.out b2
  clear H1 T2 X1
  go_wp2_with fail
  refine H2.mono ?_
  rintro e w3 ⟨rfl, b3⟩
  have b3 := chainB b2 b3
  clear H2 x2
  go_wp2_with fail
  go_ret
  exact ⟨rfl, b3⟩

end Go.Proofs.YtkhffoailfnepakGreatDoor
/-
  Boxes and rows of disks behind a call that marks two rows: what is apart from them stays.
-/
namespace Go.Proofs.YtkhffoailfnepakGreatDoor
open Go.RowKit Go.Lib
set_option linter.unusedVariables false

structure Gr2 (w w' : World) (b1 b2 : Option Nat) : Prop where
  os : w'.os = w.os
  tape : w'.tape = w.tape
  output : w'.output = w.output
  size : w.heap.size ≤ w'.heap.size
  block : ∀ k, k < w.heap.size → some k ≠ b1 → some k ≠ b2 → w'.heap[k]? = w.heap[k]?
theorem Gr2.mk2 {w wm w' : World} {b1 b2 : Option Nat} (h1 : w.grownBy wm b1) (h2 : wm.grownBy w' b2) : Gr2 w w' b1 b2 :=
  ⟨h2.os.trans h1.os, h2.tape.trans h1.tape, h2.output.trans h1.output, Nat.le_trans h1.size h2.size, fun k hk n1 n2 => (h2.block k (Nat.lt_of_lt_of_le hk h1.size) n2).trans (h1.block k hk n1)⟩
theorem Bxs.gr2 {w w' : World} {g : Nat} {T : TypeId} {cs : Array Value} {b1 b2 : Option Nat} (h : Bxs w g T cs) (hg : Gr2 w w' b1 b2) (n1 : some g ≠ b1) (n2 : some g ≠ b2) : Bxs w' g T cs := (hg.block g h.lt n1 n2).trans h
theorem own_gr2 {w w' : World} {base : Nat} {e : TypeId} {s : Nat} {v : Value} {n : Nat} {xs : List Value} {b1 b2 : Option Nat} (h : w.ownsRow base e s v n xs) (hg : Gr2 w w' b1 b2) (hn : ∀ j, v.ownBlock = some j → some j ≠ b1 ∧ some j ≠ b2) : w'.ownsRow base e s v n xs := by
  refine ⟨h.1, ?_⟩
  rcases h.2 with h0 | ⟨g, cap, cur, h1, h2, h3, h4⟩
  · exact .inl h0
  · obtain ⟨n1, n2⟩ := hn g (by rw [h1]; rfl)
    exact .inr ⟨g, cap, cur, h1, h2, (hg.block g (lt_of_block h3) n1 n2).trans h3, h4⟩
theorem below_gr2 {B : Nat} {a w w' : World} {b1 b2 : Option Nat} (h : Below B a w) (hg : Gr2 w w' b1 b2) (hB : B ≤ w.heap.size) (h1 : ∀ k, b1 = some k → B ≤ k) (h2 : ∀ k, b2 = some k → B ≤ k) : Below B a w' :=
  h.trans ⟨hg.os, hg.tape, hg.output, hg.size, fun k hk => hg.block k (by omega) (fun e => by have := h1 k e.symm; omega) (fun e => by have := h2 k e.symm; omega)⟩
/-- The blocks that two values own lie from lo to below hi. -/
def In2 (v1 v2 : Value) (lo hi : Nat) : Prop := (∀ j, v1.ownBlock = some j → lo ≤ j ∧ j < hi) ∧ ∀ j, v2.ownBlock = some j → lo ≤ j ∧ j < hi
theorem DskO.in2 {base : Nat} {ss : List ByteArray} {ps : List Pnd} {v1 v2 : Value} {w : World} (h : DskO base ss ps v1 v2 w) : In2 v1 v2 base w.heap.size := ⟨fun j hj => h.own1.lt j hj, fun j hj => h.own2.lt j hj⟩
theorem In2.off {v1 v2 : Value} {lo hi g : Nat} (h : In2 v1 v2 lo hi) (hg : g < lo ∨ hi ≤ g) : some g ≠ v1.ownBlock ∧ some g ≠ v2.ownBlock := ⟨fun e => by have := h.1 g e.symm; omega, fun e => by have := h.2 g e.symm; omega⟩
theorem In2.apart {v1 v2 u1 u2 : Value} {lo hi lo' hi' : Nat} (h : In2 v1 v2 lo hi) (h' : In2 u1 u2 lo' hi') (hd : hi ≤ lo' ∨ hi' ≤ lo) : (∀ j, v1.ownBlock = some j → some j ≠ u1.ownBlock ∧ some j ≠ u2.ownBlock) ∧ ∀ j, v2.ownBlock = some j → some j ≠ u1.ownBlock ∧ some j ≠ u2.ownBlock :=
  ⟨fun j hj => h'.off (by have := h.1 j hj; omega), fun j hj => h'.off (by have := h.2 j hj; omega)⟩
theorem DskO.gr2 {base : Nat} {ss : List ByteArray} {ps : List Pnd} {v1 v2 : Value} {w w' : World} {b1 b2 : Option Nat} (h : DskO base ss ps v1 v2 w) (hg : Gr2 w w' b1 b2) (hn : (∀ j, v1.ownBlock = some j → some j ≠ b1 ∧ some j ≠ b2) ∧ ∀ j, v2.ownBlock = some j → some j ≠ b1 ∧ some j ≠ b2) : DskO base ss ps v1 v2 w' := ⟨own_gr2 h.own1 hg hn.1, own_gr2 h.own2 hg hn.2, h.ne⟩
theorem Bxs.two {w : World} {g : Nat} {T : TypeId} {a b : Value} (h : Bxs w g T #[a, b]) : w.cell? ⟨g, 0, none⟩ = some a ∧ w.cell? ⟨g, 1, none⟩ = some b := ⟨h.cell 0, h.cell 1⟩
theorem Bxs.four {w : World} {g : Nat} {T : TypeId} {a b c d : Value} (h : Bxs w g T #[a, b, c, d]) : w.cell? ⟨g, 0, none⟩ = some a ∧ w.cell? ⟨g, 1, none⟩ = some b ∧ w.cell? ⟨g, 2, none⟩ = some c ∧ w.cell? ⟨g, 3, none⟩ = some d := ⟨h.cell 0, h.cell 1, h.cell 2, h.cell 3⟩
/-- What reads of a disk's rows. -/
theorem DskO.form {base : Nat} {ss : List ByteArray} {ps : List Pnd} {v1 v2 : Value} {w : World} (h : DskO base ss ps v1 v2 w) : ∃ p1 c1 p2 c2, v1 = .slice p1 ss.length c1 ∧ v2 = .slice p2 ps.length c2 ∧ ss.length ≤ c1 ∧ ps.length ≤ c2 := by
  obtain ⟨p1, c1, e1, m1, _⟩ := ownS_form h.own1
  obtain ⟨p2, c2, e2, m2, _⟩ := ownP_form h.own2
  exact ⟨p1, c1, p2, c2, e1, e2, m1, m2⟩
theorem DskO.read {base : Nat} {ss : List ByteArray} {ps : List Pnd} {p1 p2 : Option Addr} {c1 c2 : Nat} {w : World} (h : DskO base ss ps (.slice p1 ss.length c1) (.slice p2 ps.length c2) w) : TxtAt w p1 ss ∧ PndAt w p2 ps := by
  obtain ⟨p1', c1', e1, _, t1⟩ := ownS_form h.own1
  obtain ⟨p2', c2', e2, _, t2⟩ := ownP_form h.own2
  cases e1; cases e2
  exact ⟨t1, t2⟩
end Go.Proofs.YtkhffoailfnepakGreatDoor
