/-
  What a head's text holds (plain): its Size, its Root, and whether it is one.
-/
import Derived.Test.YtfdihkgkiiekcaaRows
import Derived.Test.YtfdihkgkiiekcaaBytes
import Derived.Test.YtfdihkgkiiekcaaBxK
import Derived.Test.YtfdihkgkiiekcaaFldRd
import Derived.Test.YtfdihkgkiiekcaaAudMath
import Derived.Handy
import Derived.OwnWalk
namespace Go.Proofs.Ytfdihkgkiiekcaa
open Go.RowKit Go.Lib
set_option linter.unusedVariables false

def haS (t : ByteArray) : Int := rnN t 0 false
def haA (t : ByteArray) : Int := rnA t 0 false
def haB (t : ByteArray) : Bool := rnB t 0 false
def haR (t : ByteArray) : ByteArray := rtT t (haA t) (haB t)
def haE (t : ByteArray) : Int := rtA t (haA t) (haB t)
def haF (t : ByteArray) : Bool := rtB t (haA t) (haB t)
/-- Is it a head's text? -/
def heaB (t : ByteArray) : Bool := !(haF t) && (sizB (haS t) (haR t) && (haE t == (t.size : Int)))
def heaC (t : ByteArray) : Int := if 8000 < t.size then 2 else if heaB t = true then 0 else 3
def heaS (t : ByteArray) : Int := if heaC t = 0 then haS t else 0
def heaR (t : ByteArray) : ByteArray := if heaC t = 0 then haR t else ByteArray.empty
theorem hea_long {t : ByteArray} (h : 8000 < t.size) : heaC t = 2 ∧ heaS t = 0 ∧ heaR t = ByteArray.empty := by
  have e : heaC t = 2 := if_pos h
  refine ⟨e, ?_, ?_⟩ <;> (first | unfold heaS | unfold heaR) <;> rw [e] <;> exact if_neg (by decide)
theorem hea_bad {t : ByteArray} (h : ¬ 8000 < t.size) (hb : heaB t = false) : heaC t = 3 ∧ heaS t = 0 ∧ heaR t = ByteArray.empty := by
  have e : heaC t = 3 := by unfold heaC; rw [if_neg h, if_neg (by rw [hb]; exact Bool.false_ne_true)]
  refine ⟨e, ?_, ?_⟩ <;> (first | unfold heaS | unfold heaR) <;> rw [e] <;> exact if_neg (by decide)
theorem hea_good {t : ByteArray} (h : ¬ 8000 < t.size) (hb : heaB t = true) : heaC t = 0 ∧ heaS t = haS t ∧ heaR t = haR t := by
  have e : heaC t = 0 := by unfold heaC; rw [if_neg h, if_pos hb]
  refine ⟨e, ?_, ?_⟩ <;> (first | unfold heaS | unfold heaR) <;> rw [e] <;> exact if_pos rfl
/-- What could not be read is zero, and that is not right. -/
theorem ha_bad {t : ByteArray} (h : haF t = true) : sizB (haS t) (haR t) = false := by
  have e : haR t = ByteArray.empty := by unfold haR rtT; unfold haF at h; rw [if_pos h]
  rw [e]
  unfold sizB
  simp
theorem ha_place (t : ByteArray) (h : haB t = false) : 0 ≤ haA t ∧ haA t ≤ t.size := by
  have hb : (getN t 0).2.2 = 0 := by
    unfold haB rnB at h
    simpa using h
  have e : haA t = (getN t 0).2.1 := by unfold haA rnA rnB; rw [hb]; rfl
  rw [e]
  exact getN_place t 0 hb
theorem ha_le (t : ByteArray) (h : t.size ≤ 8000) : haA t ≤ 8000 := by
  cases hb : haB t with
  | false => have := ha_place t hb; omega
  | true => unfold haA rnA; unfold haB at hb; rw [if_pos hb]; omega
theorem hea_le (t : ByteArray) : (heaR t).size ≤ 32 ∧ 0 ≤ heaS t ∧ heaS t ≤ 64 := by
  by_cases h : 8000 < t.size
  · obtain ⟨_, e1, e2⟩ := hea_long h
    rw [e1, e2]
    simp
  cases hb : heaB t with
  | false =>
    obtain ⟨_, e1, e2⟩ := hea_bad h hb
    rw [e1, e2]
    simp
  | true =>
    obtain ⟨_, e1, e2⟩ := hea_good h hb
    rw [e1, e2]
    unfold heaB sizB at hb
    simp only [Bool.and_eq_true, decide_eq_true_iff] at hb
    omega
end Go.Proofs.Ytfdihkgkiiekcaa
