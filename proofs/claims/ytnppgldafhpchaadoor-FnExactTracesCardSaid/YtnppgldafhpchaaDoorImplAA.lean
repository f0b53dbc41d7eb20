/-
  What the program's sideSectors, sideStart, roomOf and AreaRoom answer.
  Conditions: the cells of Sectors and Pending hold the texts and the pendings; the numbers lie within 64 bits.
-/
import Derived.Test.YtnppgldafhpchaaDoorRows
import Derived.Test.YtnppgldafhpchaaDoorBytes
import Derived.Test.YtnppgldafhpchaaDoorSlASlBOwnS
import Derived.Test.YtnppgldafhpchaaDoorDskMath
import Derived.Test.YtnppgldafhpchaaDoorImplDR
import Derived.Test.YtnppgldafhpchaaDoorAreaA
import Derived.Handy
import Derived.WalkSpells
import Derived.OwnWalk
namespace Go.Proofs.YtnppgldafhpchaaDoor
open Go.RowKit Go.Lib
set_option linter.unusedVariables false
set_option maxRecDepth 20000

theorem sideSectors_any (q1 : Option Addr) (n c1 : Nat) (q2 : Option Addr) (m c2 : Nat) (w : World) (h0 : 1 ≤ n) (hn : n ≤ 1048576) :
    Calls Tryd.prog 41 #[.agg #[.slice q1 n c1, .slice q2 m c2]] w fun e w' => e = .returned (.int .i64 (sideN n : Nat)) ∧ Below w.heap.size w w' := by
  have B1 : Below w.heap.size w (w.alloc (.cells #[.slice q1 n c1, .slice q2 m c2] 30)) := (Below.refl _ _).alloc (Nat.le_refl _) _
  have hw : IntKind.i64.wrap ((n : Int) - 1) = (n : Int) - 1 := by rw [IntKind.wrap_i64]; omega
  have hq : ((n : Int) - 1).tdiv 2 = ((sideN n : Nat) : Int) := by
    unfold sideN
    rw [Int.tdiv_eq_ediv_of_nonneg (by omega)]
    omega
  have hw2 : IntKind.i64.wrap ((sideN n : Nat) : Int) = ((sideN n : Nat) : Int) := by
    have : sideN n ≤ 1048576 := by unfold sideN; omega
    rw [IntKind.wrap_i64]; omega
  generalize sideN n = H at *
  go_enter Tryd.func41, Tryd.ntmps41
  go_wp2
  go_ret
  exact ⟨rfl, B1⟩
theorem sideStart_any (q1 : Option Addr) (n c1 : Nat) (q2 : Option Addr) (m c2 : Nat) (side : Nat) (w : World) (h0 : 1 ≤ n) (hn : n ≤ 1048576) (hs : side ≤ 1) :
    Calls Tryd.prog 30 #[.agg #[.slice q1 n c1, .slice q2 m c2], .int .i64 (side : Int)] w fun e w' => e = .returned (.int .i64 ((1 + side * sideN n : Nat) : Int)) ∧ Below w.heap.size w w' := by
  obtain ⟨W1, hW1⟩ : ∃ W1, W1 = w.alloc (.cells #[.slice q1 n c1, .slice q2 m c2] 30) := ⟨_, rfl⟩
  have HW1 : Hid (W1 = w.alloc (.cells #[.slice q1 n c1, .slice q2 m c2] 30)) := hW1
  have B1 : Below w.heap.size w W1 := by rw [hW1]; exact (Below.refl _ _).alloc (Nat.le_refl _) _
  have hh := sideSectors_any q1 n c1 q2 m c2 W1 h0 hn
  have hH : sideN n ≤ 1048576 := by unfold sideN; omega
  generalize sideN n = H at *
  have hp : side * H ≤ 1048576 := by
    rcases Nat.le_one_iff_eq_zero_or_eq_one.1 hs with rfl | rfl <;> omega
  have hw1 : IntKind.i64.wrap ((side : Int) * (H : Int)) = (side : Int) * (H : Int) := by
    rw [IntKind.wrap_i64, ← Int.natCast_mul]; omega
  have hw2 : IntKind.i64.wrap (1 + (side : Int) * (H : Int)) = 1 + (side : Int) * (H : Int) := by
    rw [IntKind.wrap_i64, ← Int.natCast_mul]; omega
  have he : ((1 + side * H : Nat) : Int) = 1 + (side : Int) * (H : Int) := by simp
  rw [he]
  clear hW1 he
  go_enter Tryd.func30, Tryd.ntmps30
  go_wp2_with fail
  rw [← HW1.out]
  refine hh.mono ?_
  rintro e w2 ⟨rfl, b2⟩
  have b2 := chainB B1 b2
  go_wp2_with fail
  go_ret
  exact ⟨rfl, b2⟩
theorem roomOf_any (q1 : Option Addr) (n c1 : Nat) (q2 : Option Addr) (m c2 : Nat) (w : World) (h0 : 1 ≤ n) (hn : n ≤ 1048576) :
    Calls Tryd.prog 50 #[.agg #[.slice q1 n c1, .slice q2 m c2]] w fun e w' => e = .returned (.int .i64 (64 * sideN n : Nat)) ∧ Below w.heap.size w w' := by
  obtain ⟨W1, hW1⟩ : ∃ W1, W1 = w.alloc (.cells #[.slice q1 n c1, .slice q2 m c2] 30) := ⟨_, rfl⟩
  have HW1 : Hid (W1 = w.alloc (.cells #[.slice q1 n c1, .slice q2 m c2] 30)) := hW1
  have B1 : Below w.heap.size w W1 := by rw [hW1]; exact (Below.refl _ _).alloc (Nat.le_refl _) _
  have hh := sideSectors_any q1 n c1 q2 m c2 W1 h0 hn
  have hH : sideN n ≤ 1048576 := by unfold sideN; omega
  generalize sideN n = H at *
  have hw1 : IntKind.i64.wrap ((H : Int) * 64) = (H : Int) * 64 := by rw [IntKind.wrap_i64]; omega
  have he : ((64 * H : Nat) : Int) = (H : Int) * 64 := by omega
  rw [he]
  clear hW1 he
  go_enter Tryd.func50, Tryd.ntmps50
  go_wp2_with fail
  rw [← HW1.out]
  refine hh.mono ?_
  rintro e w2 ⟨rfl, b2⟩
  have b2 := chainB B1 b2
  go_wp2_with fail
  go_ret
  exact ⟨rfl, b2⟩
end Go.Proofs.YtnppgldafhpchaaDoor
