/-
  What the laws' own helpers answer for disks: szDisk, toDisk, eqDisk, eqDiskOut (of two that are alike).
  Conditions: the slices' cells hold the texts and the pendings.
-/
import Derived.Test.YtcbclmhkejknoaaRows
import Derived.Test.YtcbclmhkejknoaaBytes
import Derived.Test.YtcbclmhkejknoaaSlA
import Derived.Test.YtcbclmhkejknoaaBxK
import Derived.Test.YtcbclmhkejknoaaSlB
import Derived.Test.YtcbclmhkejknoaaOwnS
import Derived.Test.YtcbclmhkejknoaaLawS
import Derived.Test.YtcbclmhkejknoaaLawSG
import Derived.Test.YtcbclmhkejknoaaDskMath
import Derived.Test.YtcbclmhkejknoaaDskA
import Derived.Test.YtcbclmhkejknoaaLawP
import Derived.Handy
import Derived.WalkSpells
import Derived.OwnWalk
namespace Go.Proofs.Ytcbclmhkejknoaa
open Go.RowKit Go.Lib
set_option linter.unusedVariables false
set_option maxRecDepth 20000

def SmallT (ss : List ByteArray) : Prop := ss.length ≤ 1048576 ∧ ∀ x ∈ ss, x.size ≤ 1048576
def SmallP (ps : List Pnd) : Prop := ps.length ≤ 1048576 ∧ ∀ p ∈ ps, p.2.size ≤ 1048576
set_option maxHeartbeats 1000000 in
theorem eqDisk_any (p1 p2 q1 q2 : Option Addr) (c1 c2 d1 d2 : Nat) (ss : List ByteArray) (ps : List Pnd) (w : World) (h1 : TxtAt w p1 ss) (h2 : PndAt w p2 ps) (g1 : TxtAt w q1 ss) (g2 : PndAt w q2 ps) (n1 : ss.length ≤ 1048576) (n2 : ps.length ≤ 1048576) (m1 : ss.length ≤ c1) (m2 : ps.length ≤ c2) (m3 : ss.length ≤ d1) (m4 : ps.length ≤ d2) :
    Calls Try.prog 6 #[.agg #[.slice p1 ss.length c1, .slice p2 ps.length c2], .agg #[.slice q1 ss.length d1, .slice q2 ps.length d2]] w fun e w' => e = .returned (.bool true) ∧ Below w.heap.size w w' := by
  obtain ⟨W0, hW0⟩ : ∃ W0, W0 = w.alloc (.cells #[.slice p1 ss.length c1, .slice p2 ps.length c2] 25) := ⟨_, rfl⟩
  have hz : W0.heap.size = w.heap.size + 1 := by rw [hW0]; simp
  obtain ⟨W1, hW1⟩ : ∃ W1, W1 = W0.alloc (.cells #[.slice q1 ss.length d1, .slice q2 ps.length d2] 25) := ⟨_, rfl⟩
  have HW1 : Hid (W1 = (w.alloc (.cells #[.slice p1 ss.length c1, .slice p2 ps.length c2] 25)).alloc (.cells #[.slice q1 ss.length d1, .slice q2 ps.length d2] 25)) := by rw [hW1, hW0]; exact rfl
  have hB0 : Below w.heap.size w W0 := by rw [hW0]; exact (Below.refl _ _).alloc (Nat.le_refl _) _
  have B1 : Hid (Below w.heap.size w W1) := by rw [hW1]; exact alB hB0 _
  have X1 : Hid (Bxs W1 w.heap.size 25 #[.slice p1 ss.length c1, .slice p2 ps.length c2]) := by rw [hW1]; refine Bxs.alloc ?_ _; rw [hW0]; exact Bxs.new _ _ _
  have X2 : Hid (Bxs W1 (w.heap.size + 1) 25 #[.slice q1 ss.length d1, .slice q2 ps.length d2]) := by rw [hW1, ← hz]; exact Bxs.new _ _ _
  have hE := eq_any p1 q1 c1 d1 ss ss W1 (h1.below B1.out) (g1.below B1.out) (by omega) (by omega) m1 m3
  rw [decide_eq_true rfl] at hE
  have T2 : Hid (PndAt W1 p2 ps ∧ PndAt W1 q2 ps) := ⟨h2.below B1.out, g2.below B1.out⟩
  clear hW1 hW0 h1 h2 g1 g2 hB0 hz
  go_enter Try.func6, Try.ntmps6
  go_wp2_with fail
  rw [← HW1.out]
  refine hE.mono ?_
  rintro e w1 ⟨rfl, b1⟩
  have x1 : w1.cell? ⟨w.heap.size, 1, none⟩ = some (.slice p2 ps.length c2) := (X1.out.below b1).cell 1
  have x2 : w1.cell? ⟨w.heap.size + 1, 1, none⟩ = some (.slice q2 ps.length d2) := (X2.out.below b1).cell 1
  have hF := eqP_any p2 q2 c2 d2 ps w1 (T2.out.1.below b1) (T2.out.2.below b1) n2 m2 m4
  have b1 := chainB B1.out b1
  clear hE T2
  go_wp2_with fail
  refine hF.mono ?_
  rintro e w2 ⟨rfl, b2⟩
  have b2 := chainB b1 b2
  clear hF x1 x2
  go_wp2_with fail
  go_ret
  exact ⟨rfl, b2⟩

end Go.Proofs.Ytcbclmhkejknoaa
