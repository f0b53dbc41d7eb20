/-
  What cmp.Compare answers for two texts.
-/
import Derived.Test.YtbgpkngnlfafcaaRows
import Derived.Test.YtbgpkngnlfafcaaBytes
import Derived.Test.YtbgpkngnlfafcaaRulMath
import Derived.Handy
import Derived.Laws.Cover1
import Derived.WalkSpells
import Derived.OwnWalk
namespace Go.Proofs.Ytbgpkngnlfafcaa
open Go.RowKit Go.Lib
set_option linter.unusedVariables false
set_option maxRecDepth 20000

theorem isNaN_any (s : ByteArray) (w : World) : Calls Try.prog 67 #[.string s] w fun e w' => e = .returned (.bool false) ∧ w' = w := by
  go_enter Try.func67, Try.ntmps67
  go_wp2_with fail
  go_ret
  exact ⟨rfl, rfl⟩
set_option maxHeartbeats 2000000 in
theorem compare_any (a b : ByteArray) (w : World) : Calls Try.prog 63 #[.string a, .string b] w fun e w' => e = .returned (.int .i64 (cmpI a b)) ∧ w' = w := by
  have h1 := isNaN_any a w
  have h2 := isNaN_any b w
  rcases cmpI_cases a b with ⟨g1, g2⟩ | ⟨g1, g3, g4, g2⟩ | ⟨g1, g4, g2⟩
  · rw [g2]
    clear g2
    go_enter Try.func63, Try.ntmps63
    go_wp2_with fail
    refine h1.mono ?_
    rintro e w1 ⟨rfl, rfl⟩
    go_wp2_with fail
    refine h2.mono ?_
    rintro e w1 ⟨rfl, rfl⟩
    go_wp2_with fail
    go_ret
    exact ⟨rfl, rfl⟩
  · rw [g2]
    clear g2
    go_enter Try.func63, Try.ntmps63
    go_wp2_with fail
    refine h1.mono ?_
    rintro e w1 ⟨rfl, rfl⟩
    go_wp2_with fail
    refine h2.mono ?_
    rintro e w1 ⟨rfl, rfl⟩
    go_wp2_with fail
    go_ret
    exact ⟨rfl, rfl⟩
  · rw [g2]
    have g3 : Op.bytesLess b.toList a.toList = false := by
      have n1 := bl_not a.toList b.toList
      have e1 : a.toList = b.toList := by simpa using g4
      rw [e1] at g1 ⊢; exact g1
    clear g2
    go_enter Try.func63, Try.ntmps63
    go_wp2_with fail
    refine h1.mono ?_
    rintro e w1 ⟨rfl, rfl⟩
    go_wp2_with fail
    refine h2.mono ?_
    rintro e w1 ⟨rfl, rfl⟩
    go_wp2_with fail
    go_ret
    exact ⟨rfl, rfl⟩
end Go.Proofs.Ytbgpkngnlfafcaa
