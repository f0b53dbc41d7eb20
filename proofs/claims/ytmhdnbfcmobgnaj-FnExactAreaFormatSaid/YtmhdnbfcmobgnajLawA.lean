/-
  What the laws' own helpers answer for AreaOuts: eqAreaOut, markAreaOut, heldAreaOut.
  Conditions: the two rows are the call's own, in two blocks.
-/
import Derived.Test.YtmhdnbfcmobgnajRows
import Derived.Test.YtmhdnbfcmobgnajBytes
import Derived.Test.YtmhdnbfcmobgnajSlA
import Derived.Test.YtmhdnbfcmobgnajSlB
import Derived.Test.YtmhdnbfcmobgnajOwnS
import Derived.Test.YtmhdnbfcmobgnajLawM
import Derived.Test.YtmhdnbfcmobgnajLawMG
import Derived.Test.YtmhdnbfcmobgnajDskMath
import Derived.Test.YtmhdnbfcmobgnajDskA
import Derived.Test.YtmhdnbfcmobgnajLawP
import Derived.Test.YtmhdnbfcmobgnajLawPM
import Derived.Test.YtmhdnbfcmobgnajLawD
import Derived.Test.YtmhdnbfcmobgnajLawDM
import Derived.Handy
import Derived.WalkSpells
import Derived.OwnWalk
namespace Go.Proofs.Ytmhdnbfcmobgnaj
open Go.RowKit Go.Lib
set_option linter.unusedVariables false
set_option maxRecDepth 20000

theorem Bxs.five {w : World} {g : Nat} {T : TypeId} {a b c d e : Value} (h : Bxs w g T #[a, b, c, d, e]) : w.cell? ⟨g, 0, none⟩ = some a ∧ w.cell? ⟨g, 1, none⟩ = some b ∧ w.cell? ⟨g, 2, none⟩ = some c ∧ w.cell? ⟨g, 3, none⟩ = some d ∧ w.cell? ⟨g, 4, none⟩ = some e := ⟨h.cell 0, h.cell 1, h.cell 2, h.cell 3, h.cell 4⟩
theorem eqAreaOut_any (t : ByteArray) (gn c : Int) (p1 p2 q1 q2 : Option Addr) (c1 c2 d1 d2 : Nat) (ss : List ByteArray) (ps : List Pnd) (w : World) (h1 : TxtAt w p1 ss) (h2 : PndAt w p2 ps) (g1 : TxtAt w q1 ss) (g2 : PndAt w q2 ps) (n1 : ss.length ≤ 1048576) (n2 : ps.length ≤ 1048576) (m1 : ss.length ≤ c1) (m2 : ps.length ≤ c2) (m3 : ss.length ≤ d1) (m4 : ps.length ≤ d2) :
    Calls Try.prog 29 #[.agg #[.slice p1 ss.length c1, .slice p2 ps.length c2, .string t, .int .i64 gn, .int .i64 c], .agg #[.slice q1 ss.length d1, .slice q2 ps.length d2, .string t, .int .i64 gn, .int .i64 c]] w fun e w' => e = .returned (.bool true) ∧ Below w.heap.size w w' := by
  obtain ⟨W0, hW0⟩ : ∃ W0, W0 = w.alloc (.cells #[.slice p1 ss.length c1, .slice p2 ps.length c2, .string t, .int .i64 gn, .int .i64 c] 49) := ⟨_, rfl⟩
  have hz : W0.heap.size = w.heap.size + 1 := by rw [hW0]; simp
  obtain ⟨W1, hW1⟩ : ∃ W1, W1 = W0.alloc (.cells #[.slice q1 ss.length d1, .slice q2 ps.length d2, .string t, .int .i64 gn, .int .i64 c] 49) := ⟨_, rfl⟩
  have HW1 : Hid (W1 = (w.alloc (.cells #[.slice p1 ss.length c1, .slice p2 ps.length c2, .string t, .int .i64 gn, .int .i64 c] 49)).alloc (.cells #[.slice q1 ss.length d1, .slice q2 ps.length d2, .string t, .int .i64 gn, .int .i64 c] 49)) := by rw [hW1, hW0]; exact rfl
  have hB0 : Below w.heap.size w W0 := by rw [hW0]; exact (Below.refl _ _).alloc (Nat.le_refl _) _
  have B1 : Hid (Below w.heap.size w W1) := by rw [hW1]; exact alB hB0 _
  have X1 : Hid (Bxs W1 w.heap.size 49 #[.slice p1 ss.length c1, .slice p2 ps.length c2, .string t, .int .i64 gn, .int .i64 c]) := by rw [hW1]; refine Bxs.alloc ?_ _; rw [hW0]; exact Bxs.new _ _ _
  have X2 : Hid (Bxs W1 (w.heap.size + 1) 49 #[.slice q1 ss.length d1, .slice q2 ps.length d2, .string t, .int .i64 gn, .int .i64 c]) := by rw [hW1, ← hz]; exact Bxs.new _ _ _
  have hE := eqDisk_any p1 p2 q1 q2 c1 c2 d1 d2 ss ps W1 (h1.below B1.out) (h2.below B1.out) (g1.below B1.out) (g2.below B1.out) n1 n2 m1 m2 m3 m4
  clear hW1 hW0 h1 h2 g1 g2 hB0 hz
  go_enter Try.func29, Try.ntmps29
  go_wp2_with fail
  rw [← HW1.out]
  refine hE.mono ?_
  rintro e w1 ⟨rfl, b1⟩
  have x1 : w1.cell? ⟨w.heap.size, 2, none⟩ = some (.string t) := (X1.out.below b1).cell 2
  have x2 : w1.cell? ⟨w.heap.size, 3, none⟩ = some (.int .i64 gn) := (X1.out.below b1).cell 3
  have x5 : w1.cell? ⟨w.heap.size, 4, none⟩ = some (.int .i64 c) := (X1.out.below b1).cell 4
  have x3 : w1.cell? ⟨w.heap.size + 1, 2, none⟩ = some (.string t) := (X2.out.below b1).cell 2
  have x4 : w1.cell? ⟨w.heap.size + 1, 3, none⟩ = some (.int .i64 gn) := (X2.out.below b1).cell 3
  have x6 : w1.cell? ⟨w.heap.size + 1, 4, none⟩ = some (.int .i64 c) := (X2.out.below b1).cell 4
  have b1 := chainB B1.out b1
  clear hE X1 X2
  go_wp2_with fail
  go_ret
  exact ⟨rfl, b1⟩
set_option maxHeartbeats 1000000 in
theorem markAreaOut_any (t : ByteArray) (gn c : Int) (base : Nat) (p1 p2 : Option Addr) (c1 c2 : Nat) (ss : List ByteArray) (ps : List Pnd) (w : World) (o1 : w.ownsRow base 9 1 (.slice p1 ss.length c1) ss.length (strRow ss)) (o2 : w.ownsRow base 60 2 (.slice p2 ps.length c2) ps.length (pndRow ps)) (hne : (Value.slice p1 ss.length c1).ownBlock = none ∨ (Value.slice p1 ss.length c1).ownBlock ≠ (Value.slice p2 ps.length c2).ownBlock) (n1 : ss.length ≤ 1048576) (n2 : ps.length ≤ 1048576) :
    Calls Try.prog 30 #[.agg #[.slice p1 ss.length c1, .slice p2 ps.length c2, .string t, .int .i64 gn, .int .i64 c], .int .i64 1] w fun e w' => e = .returned (.int .i64 (2 * (ps.length : Int) + ((ss.length : Int) + 1))) ∧ w'.ownsRow base 9 1 (.slice p1 ss.length c1) ss.length (strRow (marksN 1 ss.length)) ∧ w'.ownsRow base 60 2 (.slice p2 ps.length c2) ps.length (pndRow (mpN (ss.length + 1) ps.length)) ∧
      ∃ wm, w.grownBy wm (Value.slice p1 ss.length c1).ownBlock ∧ wm.grownBy w' (Value.slice p2 ps.length c2).ownBlock := by
  obtain ⟨W1, hW1⟩ : ∃ W1, W1 = w.alloc (.cells #[.slice p1 ss.length c1, .slice p2 ps.length c2, .string t, .int .i64 gn, .int .i64 c] 49) := ⟨_, rfl⟩
  have HW1 : Hid (W1 = w.alloc (.cells #[.slice p1 ss.length c1, .slice p2 ps.length c2, .string t, .int .i64 gn, .int .i64 c] 49)) := hW1
  have H1 := markDisk_any base p1 p2 c1 c2 ss ps W1 (by rw [hW1]; exact o1.alloc _) (by rw [hW1]; exact o2.alloc _) hne n1 n2
  have HG : Hid (∀ wm, W1.grownBy wm (Value.slice p1 ss.length c1).ownBlock → w.grownBy wm (Value.slice p1 ss.length c1).ownBlock) := by
    rw [hW1]
    intro wm h
    exact ⟨h.os, h.tape, h.output, by have := h.size; simp at this; omega, fun b hb hn => (h.block b (by simp; omega) hn).trans (Below.heap_alloc _ _ _ hb)⟩
  clear hW1 o1 o2 hne
  go_enter Try.func30, Try.ntmps30
  go_wp2_with fail
  rw [← HW1.out]
  refine H1.mono ?_
  rintro e w2 ⟨rfl, q1, q2, wm, g1, g2⟩
  have Q : Hid _ := q1
  have Q2 : Hid _ := q2
  have G1 : Hid _ := g1
  have G2 : Hid _ := g2
  clear q1 q2 g1 g2 H1
  go_wp2_with fail
  go_ret
  exact ⟨rfl, Q.out, Q2.out, wm, HG.out _ G1.out, G2.out⟩

set_option maxHeartbeats 1000000 in
theorem heldAreaOut_any (t : ByteArray) (gn c : Int) (p1 p2 : Option Addr) (c1 c2 n1 n2 : Nat) (w : World) (h1 : TxtAt w p1 (marksN 1 n1)) (h2 : PndAt w p2 (mpN (n1 + 1) n2)) (l1 : n1 ≤ 1048576) (l2 : n2 ≤ 1048576) (m1 : n1 ≤ c1) (m2 : n2 ≤ c2) :
    Calls Try.prog 31 #[.agg #[.slice p1 n1 c1, .slice p2 n2 c2, .string t, .int .i64 gn, .int .i64 c], .int .i64 1] w fun e w' => e = .returned (.int .i64 (2 * (n2 : Int) + ((n1 : Int) + 1))) ∧ Below w.heap.size w w' := by
  obtain ⟨W1, hW1⟩ : ∃ W1, W1 = w.alloc (.cells #[.slice p1 n1 c1, .slice p2 n2 c2, .string t, .int .i64 gn, .int .i64 c] 49) := ⟨_, rfl⟩
  have HW1 : Hid (W1 = w.alloc (.cells #[.slice p1 n1 c1, .slice p2 n2 c2, .string t, .int .i64 gn, .int .i64 c] 49)) := hW1
  have B1 : Hid (Below w.heap.size w W1) := by rw [hW1]; exact (Below.refl _ _).alloc (Nat.le_refl _) _
  have H1 := heldDisk_any p1 p2 c1 c2 n1 n2 W1 (h1.below B1.out) (h2.below B1.out) l1 l2 m1 m2
  clear hW1 h1 h2
  have d2 : decide (2 * (n2 : Int) + ((n1 : Int) + 1) < 0) = false := decide_eq_false (by omega)
  go_enter Try.func31, Try.ntmps31
  go_wp2_with fail
  rw [← HW1.out]
  refine H1.mono ?_
  rintro e w2 ⟨rfl, b2⟩
  have b2 := chainB B1.out b2
  clear H1
  go_wp2_with fail
  go_ret
  exact ⟨rfl, b2⟩
end Go.Proofs.Ytmhdnbfcmobgnaj
