/-
  What the laws' own helpers do that mark disks: markDisk, heldDisk, markDiskOut, heldDiskOut.
  Conditions: the two rows are the call's own, in two blocks.
-/
import Derived.Test.YtcbclmhkejknoaaRows
import Derived.Test.YtcbclmhkejknoaaBytes
import Derived.Test.YtcbclmhkejknoaaSlA
import Derived.Test.YtcbclmhkejknoaaSlB
import Derived.Test.YtcbclmhkejknoaaOwnS
import Derived.Test.YtcbclmhkejknoaaLawM
import Derived.Test.YtcbclmhkejknoaaLawMG
import Derived.Test.YtcbclmhkejknoaaDskMath
import Derived.Test.YtcbclmhkejknoaaDskA
import Derived.Test.YtcbclmhkejknoaaLawP
import Derived.Test.YtcbclmhkejknoaaLawPM
import Derived.Test.YtcbclmhkejknoaaLawD
import Derived.Handy
import Derived.WalkSpells
import Derived.OwnWalk
namespace Go.Proofs.Ytcbclmhkejknoaa
open Go.RowKit Go.Lib
set_option linter.unusedVariables false
set_option maxRecDepth 20000

theorem own_ne {w : World} {base : Nat} {e : TypeId} {s : Nat} {v : Value} {n : Nat} {xs : List Value} (h : w.ownsRow base e s v n xs) {g : Nat} (hg : w.heap.size ≤ g) : some g ≠ v.ownBlock := fun he => by have := (h.lt g he.symm).2; omega
set_option maxHeartbeats 1000000 in
theorem markDisk_any (base : Nat) (p1 p2 : Option Addr) (c1 c2 : Nat) (ss : List ByteArray) (ps : List Pnd) (w : World) (o1 : w.ownsRow base 9 1 (.slice p1 ss.length c1) ss.length (strRow ss)) (o2 : w.ownsRow base 53 2 (.slice p2 ps.length c2) ps.length (pndRow ps)) (hne : (Value.slice p1 ss.length c1).ownBlock = none ∨ (Value.slice p1 ss.length c1).ownBlock ≠ (Value.slice p2 ps.length c2).ownBlock) (n1 : ss.length ≤ 1048576) (n2 : ps.length ≤ 1048576) :
    Calls Try.prog 7 #[.agg #[.slice p1 ss.length c1, .slice p2 ps.length c2], .int .i64 1] w fun e w' => e = .returned (.int .i64 (2 * (ps.length : Int) + ((ss.length : Int) + 1))) ∧ w'.ownsRow base 9 1 (.slice p1 ss.length c1) ss.length (strRow (marksN 1 ss.length)) ∧ w'.ownsRow base 53 2 (.slice p2 ps.length c2) ps.length (pndRow (mpN (ss.length + 1) ps.length)) ∧
      ∃ wm, w.grownBy wm (Value.slice p1 ss.length c1).ownBlock ∧ wm.grownBy w' (Value.slice p2 ps.length c2).ownBlock := by
  obtain ⟨W1, hW1⟩ : ∃ W1, W1 = w.alloc (.cells #[.slice p1 ss.length c1, .slice p2 ps.length c2] 25) := ⟨_, rfl⟩
  have HW1 : Hid (W1 = w.alloc (.cells #[.slice p1 ss.length c1, .slice p2 ps.length c2] 25)) := hW1
  have X1 : Hid (Bxs W1 w.heap.size 25 #[.slice p1 ss.length c1, .slice p2 ps.length c2]) := by rw [hW1]; exact Bxs.new _ _ _
  have E1 : Hid (some w.heap.size ≠ (Value.slice p1 ss.length c1).ownBlock) := own_ne o1 (Nat.le_refl _)
  have O1 : Hid (W1.ownsRow base 9 1 (.slice p1 ss.length c1) ss.length (strRow ss)) := by rw [hW1]; exact o1.alloc _
  have O2 : Hid (W1.ownsRow base 53 2 (.slice p2 ps.length c2) ps.length (pndRow ps)) := by rw [hW1]; exact o2.alloc _
  have HG : Hid (∀ wm, W1.grownBy wm (Value.slice p1 ss.length c1).ownBlock → w.grownBy wm (Value.slice p1 ss.length c1).ownBlock) := by
    rw [hW1]
    intro wm h
    exact ⟨h.os, h.tape, h.output, by have := h.size; simp at this; omega, fun b hb hn => (h.block b (by simp; omega) hn).trans (Below.heap_alloc _ _ _ hb)⟩
  have H1 := markG_any 1 (by omega) base (.slice p1 ss.length c1) ss W1 O1.out (by omega)
  rw [show ((1 : Nat) : Int) = 1 from rfl] at H1
  have HN : Hid ((Value.slice p2 ps.length c2).ownBlock = none ∨ (Value.slice p2 ps.length c2).ownBlock ≠ (Value.slice p1 ss.length c1).ownBlock) := by
    rcases hne with h | h
    · cases h1 : (Value.slice p2 ps.length c2).ownBlock with
      | none => exact .inl rfl
      | some b => exact .inr (by rw [h]; simp)
    · exact .inr (fun e => h e.symm)
  have HN2 : Hid ((Value.slice p1 ss.length c1).ownBlock = none ∨ (Value.slice p1 ss.length c1).ownBlock ≠ (Value.slice p2 ps.length c2).ownBlock) := hne
  clear hW1 o1 o2 hne
  go_enter Try.func7, Try.ntmps7
  go_wp2_with fail
  rw [← HW1.out]
  refine H1.mono ?_
  rintro e w2 ⟨rfl, q1, g1⟩
  have x2 : w2.cell? ⟨w.heap.size, 1, none⟩ = some (.slice p2 ps.length c2) := (X1.out.grown g1 E1.out).cell 1
  have q2 := O2.out.kept g1 HN.out
  have H2 := markP_any (ss.length + 1) (by omega) base (.slice p2 ps.length c2) ps w2 q2 (by omega)
  rw [show ((ss.length + 1 : Nat) : Int) = (ss.length : Int) + 1 by omega] at H2
  have Q1 : Hid (w2.ownsRow base 9 1 (.slice p1 ss.length c1) ss.length (strRow (marksN 1 ss.length))) := q1
  have G1 : Hid (W1.grownBy w2 (Value.slice p1 ss.length c1).ownBlock) := g1
  clear q1 q2 g1 H1 O1 O2 X1
  go_wp2_with fail
  refine H2.mono ?_
  rintro e w3 ⟨rfl, q3, g3⟩
  have Q3 : Hid (w3.ownsRow base 53 2 (.slice p2 ps.length c2) ps.length (pndRow (mpN (ss.length + 1) ps.length))) := q3
  have Q4 : Hid (w3.ownsRow base 9 1 (.slice p1 ss.length c1) ss.length (strRow (marksN 1 ss.length))) := Q1.out.kept g3 HN2.out
  have G3 : Hid (w2.grownBy w3 (Value.slice p2 ps.length c2).ownBlock) := g3
  clear q3 g3 H2 x2 Q1
  go_wp2_with fail
  go_ret
  exact ⟨rfl, Q4.out, Q3.out, w2, HG.out _ G1.out, G3.out⟩

set_option maxHeartbeats 1000000 in
theorem heldDisk_any (p1 p2 : Option Addr) (c1 c2 n1 n2 : Nat) (w : World) (h1 : TxtAt w p1 (marksN 1 n1)) (h2 : PndAt w p2 (mpN (n1 + 1) n2)) (l1 : n1 ≤ 1048576) (l2 : n2 ≤ 1048576) (m1 : n1 ≤ c1) (m2 : n2 ≤ c2) :
    Calls Try.prog 8 #[.agg #[.slice p1 n1 c1, .slice p2 n2 c2], .int .i64 1] w fun e w' => e = .returned (.int .i64 (2 * (n2 : Int) + ((n1 : Int) + 1))) ∧ Below w.heap.size w w' := by
  obtain ⟨W1, hW1⟩ : ∃ W1, W1 = w.alloc (.cells #[.slice p1 n1 c1, .slice p2 n2 c2] 25) := ⟨_, rfl⟩
  have HW1 : Hid (W1 = w.alloc (.cells #[.slice p1 n1 c1, .slice p2 n2 c2] 25)) := hW1
  have X1 : Hid (Bxs W1 w.heap.size 25 #[.slice p1 n1 c1, .slice p2 n2 c2]) := by rw [hW1]; exact Bxs.new _ _ _
  have B1 : Hid (Below w.heap.size w W1) := by rw [hW1]; exact (Below.refl _ _).alloc (Nat.le_refl _) _
  have H1 := heldG_any 1 (by omega) p1 c1 n1 W1 (h1.below B1.out) (by omega) m1
  rw [show ((1 : Nat) : Int) = 1 from rfl] at H1
  have T2 : Hid (PndAt W1 p2 (mpN (n1 + 1) n2)) := h2.below B1.out
  clear hW1 h1 h2
  have d1 : decide ((n1 : Int) + 1 < 0) = false := decide_eq_false (by omega)
  have d2 : decide (2 * (n2 : Int) + ((n1 : Int) + 1) < 0) = false := decide_eq_false (by omega)
  go_enter Try.func8, Try.ntmps8
  go_wp2_with fail
  rw [← HW1.out]
  refine H1.mono ?_
  rintro e w2 ⟨rfl, b2⟩
  have x2 : w2.cell? ⟨w.heap.size, 1, none⟩ = some (.slice p2 n2 c2) := (X1.out.below b2).cell 1
  have H2 := heldP_any (n1 + 1) (by omega) p2 c2 n2 w2 (T2.out.below b2) (by omega) m2
  rw [show ((n1 + 1 : Nat) : Int) = (n1 : Int) + 1 by omega] at H2
  have b2 := chainB B1.out b2
  clear H1 T2 X1
  go_wp2_with fail
  refine H2.mono ?_
  rintro e w3 ⟨rfl, b3⟩
  have b3 := chainB b2 b3
  clear H2 x2
  go_wp2_with fail
  go_ret
  exact ⟨rfl, b3⟩

end Go.Proofs.Ytcbclmhkejknoaa
