/-
  Rules as plain functions: which is right, which stands ahead of which; cells that hold rules.
-/
import Derived.Test.YtbgpkngnlfafcaaRows
import Derived.Test.YtbgpkngnlfafcaaBytes
import Derived.Test.YtbgpkngnlfafcaaNameRight
import Derived.Test.YtbgpkngnlfafcaaTimeB
import Derived.Test.YtbgpkngnlfafcaaBlNot
import Derived.Handy
import Derived.WalkSpells
import Derived.OwnWalk
namespace Go.Proofs.Ytbgpkngnlfafcaa
open Go.RowKit Go.Lib
set_option linter.unusedVariables false
set_option maxRecDepth 20000

structure Rul where
  k : ByteArray
  f : ByteArray
  l : Int
  m : Int
/-- The cells that a slice of rules leads to hold these (of none nothing is asked: also nil). -/
def RulAt (w : World) (p : Option Addr) (rs : List Rul) : Prop :=
  ∀ i (h : i < rs.length), ∃ b off, p = some ⟨b, off, none⟩ ∧ b < w.heap.size ∧ w.cell? ⟨b, off + i * 4, none⟩ = some (.string rs[i].k) ∧ w.cell? ⟨b, off + i * 4 + 1, none⟩ = some (.string rs[i].f) ∧ w.cell? ⟨b, off + i * 4 + 2, none⟩ = some (.int .i64 rs[i].l) ∧ w.cell? ⟨b, off + i * 4 + 3, none⟩ = some (.int .i64 rs[i].m)
theorem RulAt.below {w w' : World} {p : Option Addr} {rs : List Rul} (h : RulAt w p rs) (hb : Below w.heap.size w w') : RulAt w' p rs := by
  intro i hi
  obtain ⟨b, off, rfl, h1, h2, h3, h4, h5⟩ := h i hi
  exact ⟨b, off, rfl, Nat.lt_of_lt_of_le h1 hb.size, (hb.cell (p := ⟨b, off + i * 4, none⟩) h1).trans h2, (hb.cell (p := ⟨b, off + i * 4 + 1, none⟩) h1).trans h3, (hb.cell (p := ⟨b, off + i * 4 + 2, none⟩) h1).trans h4, (hb.cell (p := ⟨b, off + i * 4 + 3, none⟩) h1).trans h5⟩
theorem RulAt.nil (w : World) (p : Option Addr) : RulAt w p [] := fun i h => by simp at h
/-- A rule is right. -/
def rlB (k f : ByteArray) (l m : Int) : Bool := nrB k && (nrB f && (timeB l && (timeB m && decide (l ≤ m))))
/-- A rule stands ahead of another one. -/
def rlLess (ak af bk bf : ByteArray) : Bool := Op.bytesLess ak.toList bk.toList || ((ak.toList == bk.toList) && Op.bytesLess af.toList bf.toList)
/-- Texts compared, as the program does. -/
def cmpI (a b : ByteArray) : Int := if Op.bytesLess a.toList b.toList = true then -1 else if Op.bytesLess b.toList a.toList = true then 1 else 0
def crI (ak af bk bf : ByteArray) : Int := if cmpI ak bk = 0 then cmpI af bf else cmpI ak bk
theorem cmpI_cases (a b : ByteArray) : (Op.bytesLess a.toList b.toList = true ∧ cmpI a b = -1) ∨ (Op.bytesLess a.toList b.toList = false ∧ Op.bytesLess b.toList a.toList = true ∧ (a.toList == b.toList) = false ∧ cmpI a b = 1) ∨ (Op.bytesLess a.toList b.toList = false ∧ (a.toList == b.toList) = true ∧ cmpI a b = 0) := by
  unfold cmpI
  cases h1 : Op.bytesLess a.toList b.toList with
  | true => exact .inl ⟨rfl, by simp⟩
  | false =>
    have n1 := bl_not a.toList b.toList
    rw [h1] at n1
    cases h2 : Op.bytesLess b.toList a.toList with
    | true =>
      refine .inr (.inl ⟨rfl, rfl, ?_, by simp⟩)
      have n2 := bl_not b.toList a.toList
      rw [h2, h1] at n2
      simpa using n2
    | false =>
      refine .inr (.inr ⟨rfl, ?_, by simp⟩)
      rw [h2] at n1
      have n3 : b.toList = a.toList := by simpa using n1
      rw [n3]; exact beq_self_eq_true _
theorem crI_less (ak af bk bf : ByteArray) : decide (0 ≤ crI ak af bk bf) = !rlLess ak af bk bf := by
  unfold crI rlLess
  rcases cmpI_cases ak bk with ⟨h1, h2⟩ | ⟨h1, -, h3, h2⟩ | ⟨h1, h3, h2⟩
  · rw [h1, h2]; simp
  · rw [h1, h2, h3]; simp
  · rw [h1, h2, h3]
    rcases cmpI_cases af bf with ⟨g1, g2⟩ | ⟨g1, -, -, g2⟩ | ⟨g1, -, g2⟩ <;> rw [g1, g2] <;> simp
end Go.Proofs.Ytbgpkngnlfafcaa
