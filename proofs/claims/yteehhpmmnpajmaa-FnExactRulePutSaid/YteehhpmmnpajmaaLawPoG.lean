/-
  Boxes and rows of policies behind a call that marks two rows: what is apart from them stays.
-/
import Derived.Test.YteehhpmmnpajmaaRows
import Derived.Test.YteehhpmmnpajmaaBytes
import Derived.Test.YteehhpmmnpajmaaSlA
import Derived.Test.YteehhpmmnpajmaaOwnS
import Derived.Test.YteehhpmmnpajmaaBxK
import Derived.Test.YteehhpmmnpajmaaGrTwo
import Derived.Test.YteehhpmmnpajmaaIntK
import Derived.Test.YteehhpmmnpajmaaRulMath
import Derived.Test.YteehhpmmnpajmaaRulBlk
import Derived.Test.YteehhpmmnpajmaaLawI
import Derived.Test.YteehhpmmnpajmaaPolO
import Derived.Handy
namespace Go.Proofs.Yteehhpmmnpajmaa
open Go.RowKit Go.Lib
set_option linter.unusedVariables false

theorem Bxs.three {w : World} {g : Nat} {T : TypeId} {a b c : Value} (h : Bxs w g T #[a, b, c]) : w.cell? ⟨g, 0, none⟩ = some a ∧ w.cell? ⟨g, 1, none⟩ = some b ∧ w.cell? ⟨g, 2, none⟩ = some c := ⟨h.cell 0, h.cell 1, h.cell 2⟩
theorem BlkI.own {w : World} {g : Nat} {ks : List Int} (h : BlkI w g ks) (base : Nat) (hb : base ≤ g) (hm : ks.length ≤ maxLen) : w.ownsRow base 2 1 (.slice (some ⟨g, 0, none⟩) ks.length ks.length) ks.length (intRow ks) :=
  ⟨by simp [intRow], .inr ⟨g, ks.length, (intRow ks).toArray, rfl, hb, h, Nat.le_refl _, hm, by simp [intRow], List.take_of_length_le (by simp [intRow])⟩⟩
theorem PolO.in2 {base : Nat} {ss : List Rul} {ps : List Int} {v1 v2 : Value} {w : World} (h : PolO base ss ps v1 v2 w) : In2 v1 v2 base w.heap.size := ⟨fun j hj => h.own1.lt j hj, fun j hj => h.own2.lt j hj⟩
theorem PolO.gr2 {base : Nat} {ss : List Rul} {ps : List Int} {v1 v2 : Value} {w w' : World} {b1 b2 : Option Nat} (h : PolO base ss ps v1 v2 w) (hg : Gr2 w w' b1 b2) (hn : (∀ j, v1.ownBlock = some j → some j ≠ b1 ∧ some j ≠ b2) ∧ ∀ j, v2.ownBlock = some j → some j ≠ b1 ∧ some j ≠ b2) : PolO base ss ps v1 v2 w' := ⟨own_gr2 h.own1 hg hn.1, own_gr2 h.own2 hg hn.2, h.ne⟩
end Go.Proofs.Yteehhpmmnpajmaa
