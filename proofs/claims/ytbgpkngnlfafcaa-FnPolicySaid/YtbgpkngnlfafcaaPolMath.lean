/-
  Policies as plain functions: which is right. A list all of whose elements are right, each ahead of the next.
-/
import Derived.Test.YtbgpkngnlfafcaaRows
import Derived.Test.YtbgpkngnlfafcaaBytes
import Derived.Test.YtbgpkngnlfafcaaRulMath
import Derived.Test.YtbgpkngnlfafcaaIntK
import Derived.Handy
import Derived.OwnWalk
namespace Go.Proofs.Ytbgpkngnlfafcaa
open Go.RowKit Go.Lib
set_option linter.unusedVariables false

def riseBy {α : Type} (lt : α → α → Bool) : List α → Bool
  | a :: b :: r => lt a b && riseBy lt (b :: r)
  | _ => true
theorem riseBy_iff {α : Type} (lt : α → α → Bool) : ∀ (l : List α), riseBy lt l = true ↔ ∀ j (h0 : 0 < j) (h : j < l.length), lt (l[j - 1]'(by omega)) l[j] = true
  | [] => ⟨fun _ j h0 h => by simp at h, fun _ => rfl⟩
  | [a] => ⟨fun _ j h0 h => by simp at h; omega, fun _ => rfl⟩
  | a :: b :: r => by
    have ih := riseBy_iff lt (b :: r)
    show (lt a b && riseBy lt (b :: r)) = true ↔ _
    rw [Bool.and_eq_true, ih]
    constructor
    · rintro ⟨h1, h2⟩ j h0 h
      match j, h0 with
      | 1, _ => exact h1
      | j + 2, _ => exact h2 (j + 1) (by omega) (by simpa using h)
    · intro h
      exact ⟨h 1 (by omega) (by simp), fun j h0 hj => by
        obtain ⟨m, rfl⟩ : ∃ m, j = m + 1 := ⟨j - 1, by omega⟩
        exact h (m + 1 + 1) (by omega) (by simpa using hj)⟩
def okL {α : Type} (p : α → Bool) (lt : α → α → Bool) (l : List α) : Bool := l.all p && riseBy lt l
theorem okL_not_all {α : Type} {p : α → Bool} {lt : α → α → Bool} {l : List α} {i : Nat} (hi : i < l.length) (h : p l[i] = false) : okL p lt l = false := by
  cases hr : l.all p with
  | false => unfold okL; rw [hr]; rfl
  | true =>
    have := List.all_eq_true.1 hr _ (List.getElem_mem hi)
    rw [h] at this; cases this
theorem okL_not_rise {α : Type} {p : α → Bool} {lt : α → α → Bool} {l : List α} {i : Nat} (h0 : 0 < i) (hi : i < l.length) (h : lt (l[i - 1]'(by omega)) l[i] = false) : okL p lt l = false := by
  cases hr : riseBy lt l with
  | false => unfold okL; rw [hr]; simp
  | true =>
    have := (riseBy_iff lt l).1 hr i h0 hi
    rw [h] at this; cases this
theorem okL_true {α : Type} {p : α → Bool} {lt : α → α → Bool} {l : List α} (h1 : ∀ j (h : j < l.length), p l[j] = true) (h2 : ∀ j (h0 : 0 < j) (h : j < l.length), lt (l[j - 1]'(by omega)) l[j] = true) : okL p lt l = true := by
  unfold okL
  rw [List.all_eq_true.2 (fun f hf => by obtain ⟨j, hj, rfl⟩ := List.getElem_of_mem hf; exact h1 j hj), Bool.true_and]
  exact (riseBy_iff lt l).2 h2
theorem okL_parts {α : Type} {p : α → Bool} {lt : α → α → Bool} {l : List α} (h : okL p lt l = true) : (∀ x ∈ l, p x = true) ∧ ∀ j (h0 : 0 < j) (h : j < l.length), lt (l[j - 1]'(by omega)) l[j] = true := by
  unfold okL at h
  rw [Bool.and_eq_true] at h
  exact ⟨List.all_eq_true.1 h.1, (riseBy_iff lt l).1 h.2⟩
def ruB (r : Rul) : Bool := rlB r.k r.f r.l r.m
def ruLt (a b : Rul) : Bool := rlLess a.k a.f b.k b.f
def heB (n : Int) : Bool := decide (0 ≤ n ∧ n ≤ 5)
def heLt (a b : Int) : Bool := decide (a < b)
/-- A policy is right. -/
def polB (rs : List Rul) (hs : List Int) : Bool := decide (rs.length ≤ 6) && (okL ruB ruLt rs && okL heB heLt hs)
theorem held_ge {hs : List Int} (h : okL heB heLt hs = true) : ∀ i (hi : i < hs.length), (i : Int) ≤ hs[i] := by
  obtain ⟨h1, h2⟩ := okL_parts h
  intro i
  induction i with
  | zero => intro hi; have := h1 _ (List.getElem_mem hi); unfold heB at this; simp at this; exact this.1
  | succ i ih =>
    intro hi
    have a := ih (by omega)
    have b := h2 (i + 1) (by omega) hi
    unfold heLt at b
    simp at b
    omega
theorem held_len {hs : List Int} (h : okL heB heLt hs = true) : hs.length ≤ 6 := by
  by_cases h0 : hs.length = 0
  · omega
  · have a := held_ge h (hs.length - 1) (by omega)
    have b := (okL_parts h).1 _ (List.getElem_mem (show hs.length - 1 < hs.length by omega))
    unfold heB at b
    simp at b
    omega
/-- No text of a rule is too long to be read. -/
def RulsLe (rs : List Rul) : Prop := ∀ r ∈ rs, r.k.size ≤ maxLen ∧ r.f.size ≤ maxLen
theorem RulAt.some_of {w : World} {p : Option Addr} {rs : List Rul} (h : RulAt w p rs) (h0 : 0 < rs.length) : ∃ b off, p = some ⟨b, off, none⟩ ∧ b < w.heap.size := by
  obtain ⟨b, off, e, hb, -⟩ := h 0 h0
  exact ⟨b, off, e, hb⟩
theorem RulAt.at {w : World} {b off : Nat} {rs : List Rul} (h : RulAt w (some ⟨b, off, none⟩) rs) (i : Nat) (hi : i < rs.length) : w.cell? ⟨b, off + i * 4, none⟩ = some (.string rs[i].k) ∧ w.cell? ⟨b, off + i * 4 + 1, none⟩ = some (.string rs[i].f) ∧ w.cell? ⟨b, off + i * 4 + 2, none⟩ = some (.int .i64 rs[i].l) ∧ w.cell? ⟨b, off + i * 4 + 3, none⟩ = some (.int .i64 rs[i].m) := by
  obtain ⟨b', off', e, hb, h⟩ := h i hi
  cases e
  exact h
theorem IntAt.some_of {w : World} {p : Option Addr} {ks : List Int} (h : IntAt w p ks) (h0 : 0 < ks.length) : ∃ b off, p = some ⟨b, off, none⟩ ∧ b < w.heap.size := by
  obtain ⟨b, off, e, hb, -⟩ := h 0 h0
  exact ⟨b, off, e, hb⟩
theorem IntAt.at {w : World} {b off : Nat} {ks : List Int} (h : IntAt w (some ⟨b, off, none⟩) ks) (i : Nat) (hi : i < ks.length) : w.cell? ⟨b, off + i, none⟩ = some (.int .i64 ks[i]) := by
  obtain ⟨b', off', e, hb, h⟩ := h i hi
  cases e
  exact h
end Go.Proofs.Ytbgpkngnlfafcaa
