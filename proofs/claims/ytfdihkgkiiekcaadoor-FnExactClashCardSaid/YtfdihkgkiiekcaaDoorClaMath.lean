/-
  When two Auditors clash (plain).
-/
import Derived.Test.YtfdihkgkiiekcaaDoorRows
import Derived.Test.YtfdihkgkiiekcaaDoorBytes
import Derived.Test.YtfdihkgkiiekcaaDoorBxK
import Derived.Test.YtfdihkgkiiekcaaDoorConMath
import Derived.Test.YtfdihkgkiiekcaaDoorAudMath
import Derived.Handy
import Derived.OwnWalk
namespace Go.Proofs.YtfdihkgkiiekcaaDoor
open Go.RowKit Go.Lib
set_option linter.unusedVariables false

def claE (sa : Int) (ra : ByteArray) (sb : Int) (rb : ByteArray) (ss : List ByteArray) : Bool :=
  if sa = sb then !(ra.toList == rb.toList) else if sa < sb then !conA sa sb ss ra rb else !conA sb sa ss rb ra
def claB (ka : ByteArray) (sa : Int) (ra kb : ByteArray) (sb : Int) (rb : ByteArray) (ss : List ByteArray) : Bool :=
  decide (ss.length ≤ 400) && (audB ka sa ra && (audB kb sb rb && ((ka.toList == kb.toList) && (!(sa == 0) && (!(sb == 0) && claE sa ra sb rb ss)))))
theorem cla_long {ka : ByteArray} {sa : Int} {ra kb : ByteArray} {sb : Int} {rb : ByteArray} {ss : List ByteArray} (h : ¬ ss.length ≤ 400) : claB ka sa ra kb sb rb ss = false := by unfold claB; rw [decide_eq_false h]; rfl
theorem cla_some {ka : ByteArray} {sa : Int} {ra kb : ByteArray} {sb : Int} {rb : ByteArray} {ss : List ByteArray} (h : ss.length ≤ 400) : claB ka sa ra kb sb rb ss = (audB ka sa ra && (audB kb sb rb && ((ka.toList == kb.toList) && (!(sa == 0) && (!(sb == 0) && claE sa ra sb rb ss))))) := by unfold claB; rw [decide_eq_true h, Bool.true_and]
theorem claE_eq {sa : Int} {ra : ByteArray} {rb : ByteArray} {ss : List ByteArray} : claE sa ra sa rb ss = !(ra.toList == rb.toList) := by unfold claE; rw [if_pos rfl]
theorem claE_lt {sa : Int} {ra : ByteArray} {sb : Int} {rb : ByteArray} {ss : List ByteArray} (h : sa < sb) : claE sa ra sb rb ss = !conA sa sb ss ra rb := by unfold claE; rw [if_neg (by omega), if_pos h]
theorem claE_gt {sa : Int} {ra : ByteArray} {sb : Int} {rb : ByteArray} {ss : List ByteArray} (h : sb < sa) : claE sa ra sb rb ss = !conA sb sa ss rb ra := by unfold claE; rw [if_neg (by omega), if_neg (by omega)]
/-- Two Auditors in two boxes. -/
theorem two_boxes (w : World) (T : TypeId) (ka : ByteArray) (sa : Int) (ra kb : ByteArray) (sb : Int) (rb : ByteArray) {W1 : World} (h : W1 = (w.alloc (.cells #[.string ka, .int .i64 sa, .string ra] T)).alloc (.cells #[.string kb, .int .i64 sb, .string rb] T)) :
    Below w.heap.size w W1 ∧ Bxs W1 w.heap.size T #[.string ka, .int .i64 sa, .string ra] ∧ Bxs W1 (w.heap.size + 1) T #[.string kb, .int .i64 sb, .string rb] := by
  subst h
  refine ⟨alB ((Below.refl _ _).alloc (Nat.le_refl _) _) _, (Bxs.new _ _ _).alloc _, ?_⟩
  have h := Bxs.new (w.alloc (.cells #[.string ka, .int .i64 sa, .string ra] T)) T #[.string kb, .int .i64 sb, .string rb]
  rwa [szA] at h
theorem Bxs.thr {w : World} {g : Nat} {T : TypeId} {a b c : Value} (h : Bxs w g T #[a, b, c]) : w.cell? ⟨g, 0, none⟩ = some a ∧ w.cell? ⟨g, 1, none⟩ = some b ∧ w.cell? ⟨g, 2, none⟩ = some c := ⟨h.cell 0, h.cell 1, h.cell 2⟩
end Go.Proofs.YtfdihkgkiiekcaaDoor
