/-
  Where in a list that is in order something stands, or would stand.
-/
import Derived.Test.YtbgpkngnlfafcaaRows
import Derived.Test.YtbgpkngnlfafcaaBytes
import Derived.Test.YtbgpkngnlfafcaaRulMath
import Derived.Test.YtbgpkngnlfafcaaPolMath
import Derived.Handy
namespace Go.Proofs.Ytbgpkngnlfafcaa
open Go.RowKit Go.Lib
set_option linter.unusedVariables false

/-- How many at a list's head are such. -/
def twI {α : Type} (p : α → Bool) (l : List α) : Nat := (l.takeWhile p).length
theorem tw_le {α : Type} (p : α → Bool) (l : List α) : twI p l ≤ l.length := (List.takeWhile_prefix p).length_le
theorem tw_lt {α : Type} (p : α → Bool) : ∀ (l : List α) (j : Nat) (h : j < twI p l), p (l[j]'(Nat.lt_of_lt_of_le h (tw_le p l))) = true
  | [], j, h => by simp [twI] at h
  | a :: l, j, h => by
    unfold twI at h
    cases ha : p a with
    | false => rw [List.takeWhile_cons, ha] at h; simp at h
    | true =>
      match j with
      | 0 => exact ha
      | j + 1 =>
        rw [List.takeWhile_cons, ha] at h
        exact tw_lt p l j (by simpa [twI] using h)
theorem tw_at {α : Type} (p : α → Bool) : ∀ (l : List α) (h : twI p l < l.length), p l[twI p l] = false
  | [], h => by simp at h
  | a :: l, h => by
    cases ha : p a with
    | false =>
      have e : twI p (a :: l) = 0 := by unfold twI; rw [List.takeWhile_cons, ha]; rfl
      simp only [e, List.getElem_cons_zero]; exact ha
    | true =>
      have e : twI p (a :: l) = twI p l + 1 := by unfold twI; rw [List.takeWhile_cons, ha]; rfl
      simp only [e, List.getElem_cons_succ]
      exact tw_at p l (by rw [e] at h; simpa using h)
theorem tw_eq {α : Type} (p : α → Bool) (l : List α) (k : Nat) (hk : k ≤ l.length) (h1 : ∀ j (h : j < l.length), j < k → p l[j] = true) (h2 : ∀ h : k < l.length, p l[k] = false) : twI p l = k := by
  rcases Nat.lt_trichotomy (twI p l) k with h | h | h
  · have a := tw_at p l (by omega)
    rw [h1 _ (by omega) h] at a; cases a
  · exact h
  · have hl := tw_le p l
    have a := tw_lt p l k h
    rw [h2 (by omega)] at a; cases a
/-- The first that is such: its place; -1: there is none. -/
def fstI {α : Type} (q : α → Bool) (l : List α) : Int := if twI (fun x => !q x) l < l.length then (twI (fun x => !q x) l : Int) else -1
theorem fst_at {α : Type} {q : α → Bool} {l : List α} {k : Nat} (hk : k < l.length) (h1 : ∀ j (h : j < l.length), j < k → q l[j] = false) (h2 : q l[k] = true) : fstI q l = k := by
  have e := tw_eq (fun x => !q x) l k (by omega) (fun j h hj => by show (!q l[j]) = true; rw [h1 j h hj]; rfl) (fun h => by show (!q l[k]) = false; rw [h2]; rfl)
  unfold fstI
  rw [e, if_pos hk]
theorem fst_none {α : Type} {q : α → Bool} {l : List α} (h1 : ∀ j (h : j < l.length), q l[j] = false) : fstI q l = -1 := by
  have e := tw_eq (fun x => !q x) l l.length (Nat.le_refl _) (fun j h hj => by show (!q l[j]) = true; rw [h1 j h]; rfl) (fun h => by omega)
  unfold fstI
  rw [e, if_neg (by omega)]
/-- It is there, at the place where it would stand. -/
def thereB {α : Type} (lt q : α → Bool) (l : List α) : Bool := if h : twI lt l < l.length then q l[twI lt l] else false
theorem fst_there {α : Type} {lt q : α → Bool} {l : List α} (C : ∀ j (h : j < l.length), q l[j] = true → lt l[j] = false ∧ ∀ i (hi : i < j), lt (l[i]'(by omega)) = true) : fstI q l = if thereB lt q l = true then (twI lt l : Int) else -1 := by
  by_cases ht : thereB lt q l = true
  · rw [if_pos ht]
    unfold thereB at ht
    split at ht
    · rename_i hk
      refine fst_at hk (fun j h hj => ?_) ht
      cases hq : q l[j] with
      | false => rfl
      | true => have := (C j h hq).1; rw [tw_lt lt l j hj] at this; cases this
    · cases ht
  · rw [if_neg ht]
    refine fst_none (fun j h => ?_)
    cases hq : q l[j] with
    | false => rfl
    | true =>
      exfalso
      apply ht
      have e : twI lt l = j := tw_eq lt l j (by omega) (fun i _ hi => (C j h hq).2 i hi) (fun _ => (C j h hq).1)
      unfold thereB
      rw [dif_pos (by omega)]
      simp only [e]; exact hq
/-- What stands ahead of a target, and what is the target: numbers. -/
def ltI (r : Int) (x : Int) : Bool := decide (x < r)
def eqI (r : Int) (x : Int) : Bool := x == r
theorem rise_lt {hs : List Int} (h : okL heB heLt hs = true) : ∀ (j i : Nat) (hj : j < hs.length) (hi : i < j), hs[i]'(by omega) < hs[j]
  | j + 1, i, hj, hi => by
    have a := (okL_parts h).2 (j + 1) (by omega) hj
    unfold heLt at a
    simp at a
    by_cases he : i = j
    · subst he; exact a
    · have := rise_lt h j i (by omega) (by omega); omega
theorem condI {hs : List Int} (h : okL heB heLt hs = true) (r : Int) : ∀ j (hj : j < hs.length), eqI r hs[j] = true → ltI r hs[j] = false ∧ ∀ i (hi : i < j), ltI r (hs[i]'(by omega)) = true := fun j hj hq => by
  have e : hs[j] = r := by simpa [eqI] using hq
  refine ⟨by unfold ltI; exact decide_eq_false (by omega), fun i hi => ?_⟩
  have := rise_lt h j i hj hi
  unfold ltI; exact decide_eq_true (by omega)
theorem monoI {hs : List Int} (h : okL heB heLt hs = true) (r : Int) : ∀ j (hj : j < hs.length) i (hi : i ≤ j), ltI r hs[j] = true → ltI r (hs[i]'(by omega)) = true := fun j hj i hi hq => by
  by_cases he : i = j
  · subst he; exact hq
  · have := rise_lt h j i hj (by omega)
    unfold ltI at *
    simp at *
    omega
end Go.Proofs.Ytbgpkngnlfafcaa
