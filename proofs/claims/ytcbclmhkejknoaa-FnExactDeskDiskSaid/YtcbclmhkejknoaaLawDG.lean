/-
  Boxes and rows of disks behind a call that marks two rows: what is apart from them stays.
-/
import Derived.Test.YtcbclmhkejknoaaRows
import Derived.Test.YtcbclmhkejknoaaBytes
import Derived.Test.YtcbclmhkejknoaaSlA
import Derived.Test.YtcbclmhkejknoaaSlB
import Derived.Test.YtcbclmhkejknoaaOwnS
import Derived.Test.YtcbclmhkejknoaaDskMath
import Derived.Test.YtcbclmhkejknoaaDskC
import Derived.Test.YtcbclmhkejknoaaDskT
import Derived.Test.YtcbclmhkejknoaaLawD
import Derived.Test.YtcbclmhkejknoaaGrTwo
import Derived.Handy
namespace Go.Proofs.Ytcbclmhkejknoaa
open Go.RowKit Go.Lib
set_option linter.unusedVariables false

theorem DskO.in2 {base : Nat} {ss : List ByteArray} {ps : List Pnd} {v1 v2 : Value} {w : World} (h : DskO base ss ps v1 v2 w) : In2 v1 v2 base w.heap.size := ⟨fun j hj => h.own1.lt j hj, fun j hj => h.own2.lt j hj⟩
theorem DskO.gr2 {base : Nat} {ss : List ByteArray} {ps : List Pnd} {v1 v2 : Value} {w w' : World} {b1 b2 : Option Nat} (h : DskO base ss ps v1 v2 w) (hg : Gr2 w w' b1 b2) (hn : (∀ j, v1.ownBlock = some j → some j ≠ b1 ∧ some j ≠ b2) ∧ ∀ j, v2.ownBlock = some j → some j ≠ b1 ∧ some j ≠ b2) : DskO base ss ps v1 v2 w' := ⟨own_gr2 h.own1 hg hn.1, own_gr2 h.own2 hg hn.2, h.ne⟩
/-- What reads of a disk's rows. -/
theorem DskO.form {base : Nat} {ss : List ByteArray} {ps : List Pnd} {v1 v2 : Value} {w : World} (h : DskO base ss ps v1 v2 w) : ∃ p1 c1 p2 c2, v1 = .slice p1 ss.length c1 ∧ v2 = .slice p2 ps.length c2 ∧ ss.length ≤ c1 ∧ ps.length ≤ c2 := by
  obtain ⟨p1, c1, e1, m1, _⟩ := ownS_form h.own1
  obtain ⟨p2, c2, e2, m2, _⟩ := ownP_form h.own2
  exact ⟨p1, c1, p2, c2, e1, e2, m1, m2⟩
theorem DskO.read {base : Nat} {ss : List ByteArray} {ps : List Pnd} {p1 p2 : Option Addr} {c1 c2 : Nat} {w : World} (h : DskO base ss ps (.slice p1 ss.length c1) (.slice p2 ps.length c2) w) : TxtAt w p1 ss ∧ PndAt w p2 ps := by
  obtain ⟨p1', c1', e1, _, t1⟩ := ownS_form h.own1
  obtain ⟨p2', c2', e2, _, t2⟩ := ownP_form h.own2
  cases e1; cases e2
  exact ⟨t1, t2⟩
end Go.Proofs.Ytcbclmhkejknoaa
