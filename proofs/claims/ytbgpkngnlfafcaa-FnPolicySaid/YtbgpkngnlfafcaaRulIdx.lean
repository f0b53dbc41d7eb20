/-
  Rules in order: where one of a kind and field stands, or would stand.
-/
import Derived.Test.YtbgpkngnlfafcaaRows
import Derived.Test.YtbgpkngnlfafcaaBytes
import Derived.Test.YtbgpkngnlfafcaaRulMath
import Derived.Test.YtbgpkngnlfafcaaPolMath
import Derived.Test.YtbgpkngnlfafcaaPolIdx
import Derived.Handy
namespace Go.Proofs.Ytbgpkngnlfafcaa
open Go.RowKit Go.Lib
set_option linter.unusedVariables false

theorem bl_irr : ∀ (x : List UInt8), Op.bytesLess x x = false
  | [] => rfl
  | a :: x => by simp [Op.bytesLess, bl_irr x]
theorem bl_trans : ∀ (x y z : List UInt8), Op.bytesLess x y = true → Op.bytesLess y z = true → Op.bytesLess x z = true
  | [], _, [], _, h2 => by cases ‹List UInt8› <;> simp [Op.bytesLess] at h2
  | [], _, c :: z, _, _ => by simp [Op.bytesLess]
  | a :: x, [], z, h1, _ => by simp [Op.bytesLess] at h1
  | a :: x, b :: y, [], _, h2 => by simp [Op.bytesLess] at h2
  | a :: x, b :: y, c :: z, h1, h2 => by
    simp only [Op.bytesLess, Bool.or_eq_true, Bool.and_eq_true, decide_eq_true_eq, beq_iff_eq] at h1 h2 ⊢
    rcases h1 with h1 | ⟨rfl, h1⟩
    · rcases h2 with h2 | ⟨rfl, h2⟩
      · exact .inl (UInt8.lt_trans h1 h2)
      · exact .inl h1
    · rcases h2 with h2 | ⟨rfl, h2⟩
      · exact .inl h2
      · exact .inr ⟨rfl, bl_trans x y z h1 h2⟩
theorem rl_trans (ak af bk bf ck cf : ByteArray) (h1 : rlLess ak af bk bf = true) (h2 : rlLess bk bf ck cf = true) : rlLess ak af ck cf = true := by
  unfold rlLess at *
  simp only [Bool.or_eq_true, Bool.and_eq_true, beq_iff_eq] at h1 h2 ⊢
  rcases h1 with h1 | ⟨e1, h1⟩
  · rcases h2 with h2 | ⟨e2, h2⟩
    · exact .inl (bl_trans _ _ _ h1 h2)
    · exact .inl (by rw [← e2]; exact h1)
  · rcases h2 with h2 | ⟨e2, h2⟩
    · exact .inl (by rw [e1]; exact h2)
    · exact .inr ⟨e1.trans e2, bl_trans _ _ _ h1 h2⟩
/-- What stands ahead of a rule of this kind and field, and what is it. -/
def ltR (k f : ByteArray) (x : Rul) : Bool := rlLess x.k x.f k f
def eqR (k f : ByteArray) (x : Rul) : Bool := (x.k.toList == k.toList) && (x.f.toList == f.toList)
theorem crI_zero (ak af bk bf : ByteArray) : (crI ak af bk bf == 0) = ((ak.toList == bk.toList) && (af.toList == bf.toList)) := by
  unfold crI
  rcases cmpI_cases ak bk with ⟨h1, h2⟩ | ⟨h1, h3, h4, h2⟩ | ⟨h1, h4, h2⟩
  · rw [h2]
    have h4 : (ak.toList == bk.toList) = false := by
      cases h : (ak.toList == bk.toList) with
      | false => rfl
      | true =>
        have e : ak.toList = bk.toList := by simpa using h
        rw [e, bl_irr] at h1; cases h1
    rw [h4]; rfl
  · rw [h2, h4]; rfl
  · rw [h2, h4]
    rcases cmpI_cases af bf with ⟨g1, g2⟩ | ⟨g1, g3, g4, g2⟩ | ⟨g1, g4, g2⟩
    · rw [if_pos rfl, g2]
      have g4 : (af.toList == bf.toList) = false := by
        cases h : (af.toList == bf.toList) with
        | false => rfl
        | true =>
          have e : af.toList = bf.toList := by simpa using h
          rw [e, bl_irr] at g1; cases g1
      rw [g4]; rfl
    · rw [if_pos rfl, g2, g4]; rfl
    · rw [if_pos rfl, g2, g4]; rfl
theorem crI_neg (ak af bk bf : ByteArray) : decide (crI ak af bk bf < 0) = rlLess ak af bk bf := by
  have h := crI_less ak af bk bf
  cases hr : rlLess ak af bk bf with
  | true => rw [hr] at h; simp at h; exact decide_eq_true (by omega)
  | false => rw [hr] at h; simp at h; exact decide_eq_false (by omega)
theorem riseR {rs : List Rul} (h : okL ruB ruLt rs = true) : ∀ (j i : Nat) (hj : j < rs.length) (hi : i < j), ruLt (rs[i]'(by omega)) rs[j] = true
  | j + 1, i, hj, hi => by
    have a := (okL_parts h).2 (j + 1) (by omega) hj
    by_cases he : i = j
    · subst he; exact a
    · exact rl_trans _ _ _ _ _ _ (riseR h j i (by omega) (by omega)) a
theorem monoR {rs : List Rul} (h : okL ruB ruLt rs = true) (k f : ByteArray) : ∀ j (hj : j < rs.length) i (hi : i ≤ j), ltR k f rs[j] = true → ltR k f (rs[i]'(by omega)) = true := fun j hj i hi hq => by
  by_cases he : i = j
  · subst he; exact hq
  · exact rl_trans _ _ _ _ _ _ (riseR h j i hj (by omega)) hq
theorem condR {rs : List Rul} (h : okL ruB ruLt rs = true) (k f : ByteArray) : ∀ j (hj : j < rs.length), eqR k f rs[j] = true → ltR k f rs[j] = false ∧ ∀ i (hi : i < j), ltR k f (rs[i]'(by omega)) = true := fun j hj hq => by
  unfold eqR at hq
  simp only [Bool.and_eq_true, beq_iff_eq] at hq
  obtain ⟨e1, e2⟩ := hq
  refine ⟨by unfold ltR rlLess; rw [e1, e2, bl_irr, bl_irr]; simp, fun i hi => ?_⟩
  have := riseR h j i hj hi
  unfold ruLt rlLess at this
  unfold ltR rlLess
  rw [← e1, ← e2]; exact this
end Go.Proofs.Ytbgpkngnlfafcaa
