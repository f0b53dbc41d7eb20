/-
  laws.eqTomb and laws.eqTombOut say true of two that are one.
-/
import Derived.Test.YtnomkcbcjaagmamDoorRows
import Derived.Test.YtnomkcbcjaagmamDoorBytes
import Derived.Test.YtnomkcbcjaagmamDoorBxK
import Derived.Test.YtnomkcbcjaagmamDoorTmbMath
import Derived.Handy
namespace Go.Proofs.YtnomkcbcjaagmamDoor
open Go.RowKit Go.Lib
set_option linter.unusedVariables false

set_option maxHeartbeats 1000000 in
theorem eqTomb_same (r f y a : Int) (w : World) : Calls Tryd.prog 15 #[.agg #[.int .i64 r, .int .i64 f, .int .i64 y, .int .i64 a], .agg #[.int .i64 r, .int .i64 f, .int .i64 y, .int .i64 a]] w fun e w' => e = .returned (.bool true) ∧ Below w.heap.size w w' := by
  go_enter Tryd.func15, Tryd.ntmps15
  go_wp2_with fail
  go_ret
  exact ⟨rfl, ((Below.refl _ _).alloc (Nat.le_refl _) _).alloc (by simp) _⟩
set_option maxHeartbeats 1000000 in
theorem eqTombOut_same (r f y a c : Int) (w : World) : Calls Tryd.prog 7 #[.agg #[.int .i64 r, .int .i64 f, .int .i64 y, .int .i64 a, .int .i64 c], .agg #[.int .i64 r, .int .i64 f, .int .i64 y, .int .i64 a, .int .i64 c]] w fun e w' => e = .returned (.bool true) ∧ Below w.heap.size w w' := by
  have hE := fun x => eqTomb_same r f y a x
  obtain ⟨W1, hW1⟩ : ∃ W1, W1 = w.alloc (.cells #[.int .i64 r, .int .i64 f, .int .i64 y, .int .i64 a, .int .i64 c] 25) := ⟨_, rfl⟩
  obtain ⟨W2, hW2⟩ : ∃ W2, W2 = W1.alloc (.cells #[.int .i64 r, .int .i64 f, .int .i64 y, .int .i64 a, .int .i64 c] 25) := ⟨_, rfl⟩
  have HW : Hid (W2 = (w.alloc (.cells #[.int .i64 r, .int .i64 f, .int .i64 y, .int .i64 a, .int .i64 c] 25)).alloc (.cells #[.int .i64 r, .int .i64 f, .int .i64 y, .int .i64 a, .int .i64 c] 25)) := by rw [hW2, hW1]; exact rfl
  have hz : W1.heap.size = w.heap.size + 1 := by rw [hW1]; simp
  have X1 : Hid (Bxs W2 w.heap.size 25 #[.int .i64 r, .int .i64 f, .int .i64 y, .int .i64 a, .int .i64 c]) := by rw [hW2]; refine Bxs.alloc ?_ _; rw [hW1]; exact Bxs.new _ _ _
  have X2 : Hid (Bxs W2 (w.heap.size + 1) 25 #[.int .i64 r, .int .i64 f, .int .i64 y, .int .i64 a, .int .i64 c]) := by rw [hW2, ← hz]; exact Bxs.new _ _ _
  have B2 : Hid (Below w.heap.size w W2) := by rw [hW2]; refine alB ?_ _; rw [hW1]; exact (Below.refl _ _).alloc (Nat.le_refl _) _
  clear hW1 hW2 hz
  go_enter Tryd.func7, Tryd.ntmps7
  go_wp2_with fail
  rw [← HW.out]
  refine (hE W2).mono ?_
  rintro e w1 ⟨rfl, b1⟩
  have c1 := (X1.out.below b1).cell 4
  have c2 := (X2.out.below b1).cell 4
  have c1 : w1.cell? ⟨w.heap.size, 4, none⟩ = some (.int .i64 c) := c1
  have c2 : w1.cell? ⟨w.heap.size + 1, 4, none⟩ = some (.int .i64 c) := c2
  have B3 : Hid (Below w.heap.size w w1) := chainB B2.out b1
  clear b1
  go_wp2_with fail
  go_ret
  exact ⟨rfl, B3.out⟩
end Go.Proofs.YtnomkcbcjaagmamDoor
