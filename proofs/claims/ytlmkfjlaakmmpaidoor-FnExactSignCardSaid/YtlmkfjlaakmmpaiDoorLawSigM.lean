/-
  What markSig and heldSig answer, for two rows of texts that lie apart.
-/
import Derived.Test.YtlmkfjlaakmmpaiDoorRows
import Derived.Test.YtlmkfjlaakmmpaiDoorBytes
import Derived.Test.YtlmkfjlaakmmpaiDoorSlA
import Derived.Test.YtlmkfjlaakmmpaiDoorSlBOwnS
import Derived.Test.YtlmkfjlaakmmpaiDoorLawSLawSGBox3LawSig
import Derived.Test.YtlmkfjlaakmmpaiDoorLawM
import Derived.Test.YtlmkfjlaakmmpaiDoorLawMG
import Derived.Handy
import Derived.OwnWalk
namespace Go.Proofs.YtlmkfjlaakmmpaiDoor
open Go.RowKit Go.Lib
set_option linter.unusedVariables false
set_option maxRecDepth 20000

set_option maxHeartbeats 1000000 in
theorem markSig_any (k : Int) (base : Nat) (p1 p2 : Option Addr) (c1 c2 : Nat) (L1 L2 : List ByteArray) (w : World) (o1 : w.ownsRow base 9 1 (.slice p1 L1.length c1) L1.length (strRow L1)) (o2 : w.ownsRow base 9 1 (.slice p2 L2.length c2) L2.length (strRow L2)) (hne : (Value.slice p2 L2.length c2).ownBlock = none ∨ (Value.slice p2 L2.length c2).ownBlock ≠ (Value.slice p1 L1.length c1).ownBlock) (hl : L1.length + L2.length ≤ 1000000) :
    Calls Tryd.prog 11 #[.agg #[.int .i64 k, .slice p1 L1.length c1, .slice p2 L2.length c2], .int .i64 1] w fun e w' => e = .returned (.int .i64 ((L2.length : Int) + ((L1.length : Int) + 1))) ∧ w'.ownsRow base 9 1 (.slice p1 L1.length c1) L1.length (strRow (marksN 1 L1.length)) ∧ w'.ownsRow base 9 1 (.slice p2 L2.length c2) L2.length (strRow (marksN (L1.length + 1) L2.length)) ∧
      ∃ wm, w.grownBy wm (Value.slice p1 L1.length c1).ownBlock ∧ wm.grownBy w' (Value.slice p2 L2.length c2).ownBlock := by
  obtain ⟨W1, hW1⟩ : ∃ W1, W1 = w.alloc (.cells #[.int .i64 k, .slice p1 L1.length c1, .slice p2 L2.length c2] 26) := ⟨_, rfl⟩
  have HW1 : Hid (W1 = w.alloc (.cells #[.int .i64 k, .slice p1 L1.length c1, .slice p2 L2.length c2] 26)) := hW1
  have X1 : Hid (B3 W1 w.heap.size 26 (.int .i64 k) (.slice p1 L1.length c1) (.slice p2 L2.length c2)) := by rw [hW1]; exact B3.new _ _ _ _ _
  have O1 : Hid (W1.ownsRow base 9 1 (.slice p1 L1.length c1) L1.length (strRow L1)) := by rw [hW1]; exact o1.alloc _
  have O2 : Hid (W1.ownsRow base 9 1 (.slice p2 L2.length c2) L2.length (strRow L2)) := by rw [hW1]; exact o2.alloc _
  have HG : Hid (∀ wm, W1.grownBy wm (Value.slice p1 L1.length c1).ownBlock → w.grownBy wm (Value.slice p1 L1.length c1).ownBlock) := by
    rw [hW1]
    intro wm h
    exact ⟨h.os, h.tape, h.output, by have := h.size; simp at this; omega, fun b hb hn => (h.block b (by simp; omega) hn).trans (Below.heap_alloc _ _ _ hb)⟩
  have H1 := markG_any 1 (by omega) base (.slice p1 L1.length c1) L1 W1 O1.out (by omega)
  rw [show ((1 : Nat) : Int) = 1 from rfl] at H1
  have HN : Hid ((Value.slice p2 L2.length c2).ownBlock = none ∨ (Value.slice p2 L2.length c2).ownBlock ≠ (Value.slice p1 L1.length c1).ownBlock) := hne
  clear hW1 o1 o2 hne
  go_enter Tryd.func11, Tryd.ntmps11
  go_wp2_with fail
  rw [← HW1.out]
  refine H1.mono ?_
  rintro e w2 ⟨rfl, q1, g1⟩
  have x2 := (X1.out.grown g1 (X1.out.ne (by decide) O1.out)).c2
  have q2 := O2.out.kept g1 HN.out
  have H2 := markG_any (L1.length + 1) (by omega) base (.slice p2 L2.length c2) L2 w2 q2 (by omega)
  rw [show ((L1.length + 1 : Nat) : Int) = (L1.length : Int) + 1 by omega] at H2
  have Q1 : Hid (w2.ownsRow base 9 1 (.slice p1 L1.length c1) L1.length (strRow (marksN 1 L1.length))) := q1
  have G1 : Hid (W1.grownBy w2 (Value.slice p1 L1.length c1).ownBlock) := g1
  have HN2 : Hid ((Value.slice p1 L1.length c1).ownBlock = none ∨ (Value.slice p1 L1.length c1).ownBlock ≠ (Value.slice p2 L2.length c2).ownBlock) := by
    rcases HN.out with h | h
    · cases h1 : (Value.slice p1 L1.length c1).ownBlock with
      | none => exact .inl rfl
      | some b => exact .inr (by rw [h]; simp)
    · exact .inr (fun e => h e.symm)
  clear q1 q2 g1 H1 O1 O2 X1
  go_wp2_with fail
  refine H2.mono ?_
  rintro e w3 ⟨rfl, q3, g3⟩
  have Q3 : Hid (w3.ownsRow base 9 1 (.slice p2 L2.length c2) L2.length (strRow (marksN (L1.length + 1) L2.length))) := q3
  have Q4 : Hid (w3.ownsRow base 9 1 (.slice p1 L1.length c1) L1.length (strRow (marksN 1 L1.length))) := Q1.out.kept g3 HN2.out
  have G3 : Hid (w2.grownBy w3 (Value.slice p2 L2.length c2).ownBlock) := g3
  clear q3 g3 H2 x2 Q1
  go_wp2_with fail
  go_ret
  exact ⟨rfl, Q4.out, Q3.out, w2, HG.out _ G1.out, G3.out⟩

set_option maxHeartbeats 1000000 in
theorem heldSig_any (k : Int) (p1 p2 : Option Addr) (c1 c2 n1 n2 : Nat) (w : World) (h1 : TxtAt w p1 (marksN 1 n1)) (h2 : TxtAt w p2 (marksN (n1 + 1) n2)) (hl : n1 + n2 ≤ 1000000) (m1 : n1 ≤ c1) (m2 : n2 ≤ c2) :
    Calls Tryd.prog 12 #[.agg #[.int .i64 k, .slice p1 n1 c1, .slice p2 n2 c2], .int .i64 1] w fun e w' => e = .returned (.int .i64 ((n2 : Int) + ((n1 : Int) + 1))) ∧ Below w.heap.size w w' := by
  obtain ⟨W1, hW1⟩ : ∃ W1, W1 = w.alloc (.cells #[.int .i64 k, .slice p1 n1 c1, .slice p2 n2 c2] 26) := ⟨_, rfl⟩
  have HW1 : Hid (W1 = w.alloc (.cells #[.int .i64 k, .slice p1 n1 c1, .slice p2 n2 c2] 26)) := hW1
  have X1 : Hid (B3 W1 w.heap.size 26 (.int .i64 k) (.slice p1 n1 c1) (.slice p2 n2 c2)) := by rw [hW1]; exact B3.new _ _ _ _ _
  have B1 : Hid (Below w.heap.size w W1) := by rw [hW1]; exact (Below.refl _ _).alloc (Nat.le_refl _) _
  have H1 := heldG_any 1 (by omega) p1 c1 n1 W1 (h1.below B1.out) (by omega) m1
  rw [show ((1 : Nat) : Int) = 1 from rfl] at H1
  have T2 : Hid (TxtAt W1 p2 (marksN (n1 + 1) n2)) := h2.below B1.out
  clear hW1 h1 h2
  have d1 : decide ((n1 : Int) + 1 < 0) = false := decide_eq_false (by omega)
  have d2 : decide ((n2 : Int) + ((n1 : Int) + 1) < 0) = false := decide_eq_false (by omega)
  go_enter Tryd.func12, Tryd.ntmps12
  go_wp2_with fail
  rw [← HW1.out]
  refine H1.mono ?_
  rintro e w2 ⟨rfl, b2⟩
  have x2 := (X1.out.below b2).c2
  have H2 := heldG_any (n1 + 1) (by omega) p2 c2 n2 w2 (T2.out.below b2) (by omega) m2
  rw [show ((n1 + 1 : Nat) : Int) = (n1 : Int) + 1 by omega] at H2
  have b2 := chainB B1.out b2
  clear H1 T2 X1
  go_wp2_with fail
  refine H2.mono ?_
  rintro e w3 ⟨rfl, b3⟩
  have b3 := chainB b2 b3
  clear H2 x2
  go_wp2_with fail
  go_ret
  exact ⟨rfl, b3⟩
end Go.Proofs.YtlmkfjlaakmmpaiDoor
