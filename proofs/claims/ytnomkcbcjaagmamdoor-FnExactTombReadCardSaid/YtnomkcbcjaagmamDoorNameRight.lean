/-
  What NameRight answers, in the program and in the specification: both answer 'nrB' of the text, for every string, and leave the world as it is.
  Conditions: none but that the string fits the form's own reach.
-/
import Derived.Test.YtnomkcbcjaagmamDoorRows
import Derived.WalkKit
import Derived.ProofKit
import Derived.Below
namespace Go.Proofs.YtnomkcbcjaagmamDoor
open Go.RowKit
set_option linter.unusedVariables false

theorem ret_bool {a b : Bool} (h : a = b) : Ending.returned (.bool a) = .returned (.bool b) := by rw [h]

def lowB (c : Int) : Bool := decide (97 ≤ c) && decide (c ≤ 122)
def nmB (c : Int) : Bool := lowB c || (decide (48 ≤ c) && decide (c ≤ 57)) || decide (c = 95)
def okAt (j : Nat) (c : Int) : Bool := lowB c || (decide (j ≠ 0) && nmB c)
def nrTo (s : ByteArray) (k : Nat) : Prop := ∀ j (h : j < s.size), j < k → okAt j (s[j].toNat : Int) = true
def nrB (s : ByteArray) : Bool := decide (1 ≤ s.size ∧ s.size ≤ 20 ∧ ∀ j (h : j < s.size), okAt j (s[j].toNat : Int) = true)

theorem nrB_short {s : ByteArray} (h : s.size < 1 ∨ 20 < s.size) : nrB s = false := by
  unfold nrB; rw [decide_eq_false_iff_not]; rintro ⟨a, b, _⟩; omega
theorem nrB_no {s : ByteArray} (k : Nat) (h : k < s.size) (g : okAt k (s[k].toNat : Int) = false) : nrB s = false := by
  unfold nrB; rw [decide_eq_false_iff_not]; rintro ⟨a, b, c⟩; have := c k h; rw [g] at this; cases this
theorem nrB_yes {s : ByteArray} (h1 : 1 ≤ s.size) (h2 : s.size ≤ 20) (h : nrTo s s.size) : nrB s = true := by
  unfold nrB; rw [decide_eq_true_iff]; exact ⟨h1, h2, fun j hj => h j hj hj⟩
theorem nrTo_zero (s : ByteArray) : nrTo s 0 := fun j _ h => absurd h (Nat.not_lt_zero j)
theorem nrTo_succ {s : ByteArray} {k : Nat} (h : nrTo s k) (hk : k < s.size) (g : okAt k (s[k].toNat : Int) = true) : nrTo s (k + 1) := by
  intro j hj hlt
  by_cases e : j = k
  · subst e; exact g
  · exact h j hj (by omega)

theorem okAt_cases (k : Nat) (c : Int) :
    (okAt k c = true ∧ ((97 ≤ c ∧ c ≤ 122) ∨ (0 < k ∧ 48 ≤ c ∧ c ≤ 57) ∨ (0 < k ∧ c = 95))) ∨
    (okAt k c = false ∧ (((c < 97 ∨ 122 < c) ∧ k = 0) ∨ ((c < 97 ∨ 122 < c) ∧ 0 < k ∧ (c < 48 ∨ 57 < c) ∧ c ≠ 95))) := by
  unfold okAt nmB lowB
  by_cases a : 97 ≤ c ∧ c ≤ 122
  · exact .inl ⟨by simp [a], .inl a⟩
  by_cases b : k = 0
  · exact .inr ⟨by simp [b]; omega, .inl ⟨by omega, b⟩⟩
  by_cases d : 48 ≤ c ∧ c ≤ 57
  · exact .inl ⟨by simp [b, d], .inr (.inl ⟨by omega, d.1, d.2⟩)⟩
  by_cases e : c = 95
  · exact .inl ⟨by simp [b, e], .inr (.inr ⟨by omega, e⟩)⟩
  · exact .inr ⟨by simp [b, e]; omega, .inr ⟨by omega, by omega, by omega, e⟩⟩

theorem okAt_pos {k : Nat} (h : 0 < k) (c : Int) : okAt k c = nmB c := by
  unfold okAt; have : k ≠ 0 := by omega
  simp only [this, ne_eq, not_false_eq_true, decide_true, Bool.true_and]
  cases e : lowB c <;> simp [nmB, e]

end Go.Proofs.YtnomkcbcjaagmamDoor
