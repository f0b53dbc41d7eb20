/-
  What the specification's ShownBytes answers.
  Conditions: the cells of Names and Commits hold the texts.
-/
import Derived.Test.YthkmeneepkaedaaGreatDoorRows
import Derived.Test.YthkmeneepkaedaaGreatDoorBytesDigMath
import Derived.Test.YthkmeneepkaedaaGreatDoorTreeMathSlASlBBxKOwnS
import Derived.Test.YthkmeneepkaedaaGreatDoorTimeBPutMathPutNumJoinedPutTextFldMath
import Derived.Test.YthkmeneepkaedaaGreatDoorImplLgFldC
import Derived.Test.YthkmeneepkaedaaGreatDoorFldR
import Derived.Test.YthkmeneepkaedaaGreatDoorSpecTgFldL
import Derived.Test.YthkmeneepkaedaaGreatDoorFldGShwKFldHTakesAudMathLawAuOpAuFldRiseScanMath
import Derived.Test.YthkmeneepkaedaaGreatDoorFldV
import Derived.Handy
import Derived.Laws.Concat
import Derived.WalkSpells
import Derived.OwnWalk
import Derived.Deep.RegionHeld3
import Derived.Deep.RegionWith
namespace Go.Proofs.YthkmeneepkaedaaGreatDoor
open Go.RowKit Go.Lib
set_option linter.unusedVariables false
set_option maxRecDepth 20000

/-- It leads somewhere. -/
def sbOk (o : Shw) : Bool := svOk o && rwB o.k o.at_ (svF o o.ns.length)
theorem svB_em (o : Shw) : (svB o).toList.isEmpty = !sbOk o := by
  rw [emB_isEmpty]
  unfold svB sbOk lfB
  cases h1 : svOk o with
  | false => exact (emB_iff _).2 (if_neg Bool.false_ne_true)
  | true =>
    rw [if_pos rfl]
    cases h2 : rwB o.k o.at_ (svF o o.ns.length) with
    | false => exact (emB_iff _).2 (if_neg Bool.false_ne_true)
    | true =>
      rw [if_pos rfl]
      show emB _ = false
      cases h3 : emB (one101 ++ digB (lfT o.k o.at_ (svF o o.ns.length))) with
      | false => rfl
      | true =>
        have h4 := congrArg ByteArray.size ((emB_iff _).1 h3)
        rw [ByteArray.size_append, digB_size] at h4
        simp at h4
def sbT (o : Shw) : ByteArray := lfT o.k o.at_ (svF o o.ns.length) ++ putB o.ix ++ putTextB o.s ++ putTextB o.v
def sbB (o : Shw) : ByteArray := if sbOk o = true then sbT o else ByteArray.empty
theorem sbOk_parts {o : Shw} (h : sbOk o = true) : o.cs.length = o.ns.length ∧ o.ns.length ≤ 3 ∧ (0 ≤ o.ix ∧ o.ix ≤ (o.ns.length : Int) - 1) ∧ rwB o.k o.at_ (svF o o.ns.length) = true ∧ o.s.size ≤ 8 ∧ o.v.size ≤ 16 ∧ o.k.size ≤ 20 ∧ (0 ≤ o.at_ ∧ o.at_ ≤ 1000000) ∧ ∀ i (h1 : i < o.ns.length) (h2 : i < o.cs.length), o.ns[i].size ≤ 20 ∧ o.cs[i].size = 32 := by
  unfold sbOk svOk at h
  simp only [Bool.and_eq_true, decide_eq_true_iff] at h
  obtain ⟨⟨h1, h2, h3⟩, h4⟩ := h
  obtain ⟨r1, r2, r3, r4, r5⟩ := rwB_parts h4
  have hf : ∀ i, i < o.ns.length → fdB (svAt o i) = true := fun i hi => r4 _ (List.mem_map.2 ⟨i, List.mem_range.2 hi, rfl⟩)
  have h6 : o.s.size ≤ 8 ∧ o.v.size ≤ 16 := by
    obtain ⟨I, hI⟩ := Int.eq_ofNat_of_zero_le h3.1
    have h7 := hf I (by omega)
    unfold svAt at h7
    rw [if_pos hI.symm] at h7
    have h8 := ((fdB_parts h7).2.2.2 rfl).2
    unfold cmOk at h8
    simp only [Bool.and_eq_true, decide_eq_true_iff] at h8
    exact ⟨h8.2.1.2, h8.2.2⟩
  refine ⟨h1, h2, h3, h4, h6.1, h6.2, (nrB_le r1).2, r2, fun i i1 i2 => ?_⟩
  have h7 := fdB_parts (hf i i1)
  have e1 : (svAt o i).n = o.ns[i] := by unfold svAt; split <;> exact getD_at i1
  have e2 : (svAt o i).c = o.cs[i] := by unfold svAt; split <;> exact getD_at i2
  rw [e1, e2] at h7
  exact ⟨(nrB_le h7.1).2, h7.2.1⟩
theorem svF_at (o : Shw) (i : Nat) (h1 : i < o.ns.length) (h2 : i < o.cs.length) (h : i < (svF o o.ns.length).length) : (svF o o.ns.length)[i].n = o.ns[i] ∧ (svF o o.ns.length)[i].c = o.cs[i] := by
  have e : (svF o o.ns.length)[i] = svAt o i := by simp [svF]
  rw [e]
  constructor
  · unfold svAt; split <;> exact getD_at h1
  · unfold svAt; split <;> exact getD_at h2
end Go.Proofs.YthkmeneepkaedaaGreatDoor
