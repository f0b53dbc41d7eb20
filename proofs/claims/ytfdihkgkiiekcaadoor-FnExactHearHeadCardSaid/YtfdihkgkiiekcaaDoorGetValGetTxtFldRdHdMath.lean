/-
  Parts of one proof, laid as one text: GetVal, GetTxt, FldRd, HdMath; what each says stands at its head.
-/
import Derived.Test.YtfdihkgkiiekcaaDoorRows
import Derived.Test.YtfdihkgkiiekcaaDoorBytesDigMath
import Derived.Test.YtfdihkgkiiekcaaDoorLawSigLAudMathScanMath
import Derived.Handy
import Derived.WalkSpells
import Derived.Test.YtfdihkgkiiekcaaDoorSlASlBBxK
import Derived.OwnWalk
/-
  What GetNum's answer is, as a value in memory.
-/
namespace Go.Proofs.YtfdihkgkiiekcaaDoor
open Go.RowKit
set_option linter.unusedVariables false

theorem ret_valN {a b : Value} (h : a = b) : Ending.returned a = .returned b := by rw [h]
def getV (s : ByteArray) (a : Int) : Value := numOut (getN s a).1 (getN s a).2.1 (getN s a).2.2

theorem getV_size {s : ByteArray} {a : Int} (h : 8000 < s.size) : getV s a = numOut 0 0 2 := by unfold getV getN; rw [if_pos h]
theorem getV_form {s : ByteArray} {a : Int} (h : ¬ 8000 < s.size) (h1 : a < 0) : getV s a = numOut 0 0 1 := by unfold getV getN; rw [if_neg h, if_pos h1]
theorem getV_bad {s : ByteArray} {a : Nat} {c : Int} (h : ¬ 8000 < s.size) (hc : c ≠ 0) (e : scanAt s a = (c, 0, 0)) : getV s (a : Int) = numOut 0 0 c := by
  unfold getV getN; rw [if_neg h, if_neg (by omega), Int.toNat_natCast, e, if_neg hc]
theorem getV_ok {s : ByteArray} {a k : Nat} {u : Int} (h : ¬ 8000 < s.size) (e : scanAt s a = (0, u, k)) : getV s (a : Int) = numOut (unfoldN u) ((a : Int) + (k : Int)) 0 := by
  unfold getV getN; rw [if_neg h, if_neg (by omega), Int.toNat_natCast, e, if_pos rfl]

theorem getN_cases (s : ByteArray) (a : Int) : (∃ n b, getN s a = (n, b, 0)) ∨ (∃ c, c ≠ 0 ∧ getN s a = (0, 0, c)) := by
  unfold getN
  split
  · exact .inr ⟨2, by decide, rfl⟩
  · split
    · exact .inr ⟨1, by decide, rfl⟩
    · split
      · exact .inl ⟨_, _, rfl⟩
      · rename_i h; exact .inr ⟨_, h, rfl⟩

end Go.Proofs.YtfdihkgkiiekcaaDoor
/-
  What GetText's answer is, as a value in memory: 'getTV' of the text and the place.
-/
namespace Go.Proofs.YtfdihkgkiiekcaaDoor
open Go.RowKit
set_option linter.unusedVariables false

def txt (t : ByteArray) (a c : Int) : Value := .agg #[.string t, .int .i64 a, .int .i64 c]
def getTV (s : ByteArray) (a : Int) : Value :=
  if (getN s a).2.2 ≠ 0 then txt ByteArray.empty 0 (getN s a).2.2
  else if (getN s a).1 < 0 ∨ 8000 < (getN s a).1 then txt ByteArray.empty 0 3
  else if (s.size : Int) < (getN s a).2.1 + (getN s a).1 then txt ByteArray.empty 0 4
  else txt (s.extract (getN s a).2.1.toNat ((getN s a).2.1 + (getN s a).1).toNat) ((getN s a).2.1 + (getN s a).1) 0

theorem held_free {w1 w2 : World} {cs : Array Value} {T : TypeId} (hb : Below (w1.alloc (.cells cs T)).heap.size (w1.alloc (.cells cs T)) w2) (o : Obj) (i : Nat) :
    (w2.alloc o).frozen? ⟨w1.heap.size, i, none⟩ = false := by
  have h1 : (w1.alloc (.cells cs T)).heap.size ≤ w2.heap.size := hb.size
  have hlt : w1.heap.size < w2.heap.size := by simp at h1; omega
  have h2 : (w2.alloc o).frozen? ⟨w1.heap.size, i, none⟩ = w2.frozen? ⟨w1.heap.size, i, none⟩ :=
    ((Below.refl _ _).alloc (Nat.le_refl _) o : Below w2.heap.size w2 (w2.alloc o)).frozen (p := ⟨w1.heap.size, i, none⟩) hlt
  rw [h2, hb.frozen (p := ⟨w1.heap.size, i, none⟩) (by simp)]
  have e := (MapKept.heap_alloc w1 (.cells cs T)).1
  unfold World.frozen?
  rw [e]
  simp

theorem unfoldN_bd {u : Int} (h0 : 0 ≤ u) (h1 : u ≤ 18446744073709551615) : -9223372036854775808 ≤ unfoldN u ∧ unfoldN u ≤ 9223372036854775807 := by
  unfold unfoldN; split <;> omega
theorem getN_ok {s : ByteArray} {a n b : Int} (h : getN s a = (n, b, 0)) : 0 ≤ b ∧ b ≤ s.size ∧ s.size ≤ 8000 ∧ -9223372036854775808 ≤ n ∧ n ≤ 9223372036854775807 := by
  unfold getN at h
  split at h
  · cases h
  · split at h
    · cases h
    · rename_i h8 h0
      split at h
      · rename_i hc
        rcases scanAt_bd s a.toNat with hb | hb
        · have hu := unfoldN_bd hb.2.1 hb.2.2.1
          have hz := hb.2.2.2.2
          cases h
          omega
        · have := hb.1; omega
      · rename_i hc
        have h3 := congrArg (fun x : Int × Int × Int => x.2.2) h
        exact absurd h3 hc

theorem getTV_bad {s : ByteArray} {a c : Int} (h : getN s a = (0, 0, c)) (hc : c ≠ 0) : getTV s a = txt ByteArray.empty 0 c := by unfold getTV; rw [h, if_pos hc]
theorem getTV_syn {s : ByteArray} {a n b : Int} (h : getN s a = (n, b, 0)) (hn : n < 0 ∨ 8000 < n) : getTV s a = txt ByteArray.empty 0 3 := by
  unfold getTV; rw [h, if_neg (by simp), if_pos hn]
theorem getTV_short {s : ByteArray} {a n b : Int} (h : getN s a = (n, b, 0)) (hn : ¬ (n < 0 ∨ 8000 < n)) (hl : (s.size : Int) < b + n) : getTV s a = txt ByteArray.empty 0 4 := by
  unfold getTV; rw [h, if_neg (by simp), if_neg hn, if_pos hl]
theorem getTV_ok {s : ByteArray} {a n b : Int} (h : getN s a = (n, b, 0)) (hn : ¬ (n < 0 ∨ 8000 < n)) (hl : ¬ (s.size : Int) < b + n) : getTV s a = txt (s.extract b.toNat (b + n).toNat) (b + n) 0 := by
  unfold getTV; rw [h, if_neg (by simp), if_neg hn, if_neg hl]

theorem getTV_agg (s : ByteArray) (a : Int) : ∃ t b c, getTV s a = .agg #[.string t, .int .i64 b, .int .i64 c] := by
  unfold getTV; split
  · exact ⟨_, _, _, rfl⟩
  · split
    · exact ⟨_, _, _, rfl⟩
    · split
      · exact ⟨_, _, _, rfl⟩
      · exact ⟨_, _, _, rfl⟩
end Go.Proofs.YtfdihkgkiiekcaaDoor
/-
  What a reader reads, as plain functions: a number, a text, up to the first fault.
-/
namespace Go.Proofs.YtfdihkgkiiekcaaDoor
open Go.RowKit Go.Lib
set_option linter.unusedVariables false

/-! ### What is read -/
/-- GetText's answer in its three parts. -/
def getT (s : ByteArray) (a : Int) : ByteArray × Int × Int :=
  if (getN s a).2.2 ≠ 0 then (ByteArray.empty, 0, (getN s a).2.2)
  else if (getN s a).1 < 0 ∨ 8000 < (getN s a).1 then (ByteArray.empty, 0, 3)
  else if (s.size : Int) < (getN s a).2.1 + (getN s a).1 then (ByteArray.empty, 0, 4)
  else (s.extract (getN s a).2.1.toNat ((getN s a).2.1 + (getN s a).1).toNat, (getN s a).2.1 + (getN s a).1, 0)
theorem getT_val (s : ByteArray) (a : Int) : getTV s a = .agg #[.string (getT s a).1, .int .i64 (getT s a).2.1, .int .i64 (getT s a).2.2] := by
  unfold getTV getT
  split
  · rfl
  · split
    · rfl
    · split <;> rfl
theorem getN_place (s : ByteArray) (a : Int) (h : (getN s a).2.2 = 0) : 0 ≤ (getN s a).2.1 ∧ (getN s a).2.1 ≤ s.size := by
  rcases getN_cases s a with ⟨n, b, hg⟩ | ⟨c, hc, hg⟩
  · have := getN_ok hg
    rw [hg]; exact ⟨this.1, this.2.1⟩
  · rw [hg] at h; exact absurd h hc
theorem getT_place (s : ByteArray) (a : Int) (h : (getT s a).2.2 = 0) : 0 ≤ (getT s a).2.1 ∧ (getT s a).2.1 ≤ s.size := by
  have hp := getN_place s a
  unfold getT at h ⊢
  split at h
  · rename_i h1; exact absurd h h1
  · rename_i h1
    split at h
    · cases h
    · split at h
      · cases h
      · rename_i h2 h3
        rw [if_neg h1, if_neg h2, if_neg h3]
        have h4 := hp (by simpa using h1)
        show 0 ≤ (getN s a).2.1 + (getN s a).1 ∧ (getN s a).2.1 + (getN s a).1 ≤ _
        omega
def rnB (t : ByteArray) (a : Int) (bd : Bool) : Bool := bd || ((getN t a).2.2 != 0)
def rnN (t : ByteArray) (a : Int) (bd : Bool) : Int := if rnB t a bd = true then 0 else (getN t a).1
def rnA (t : ByteArray) (a : Int) (bd : Bool) : Int := if rnB t a bd = true then a else (getN t a).2.1
def rtB (t : ByteArray) (a : Int) (bd : Bool) : Bool := bd || ((getT t a).2.2 != 0)
def rtT (t : ByteArray) (a : Int) (bd : Bool) : ByteArray := if rtB t a bd = true then ByteArray.empty else (getT t a).1
def rtA (t : ByteArray) (a : Int) (bd : Bool) : Int := if rtB t a bd = true then a else (getT t a).2.1
end Go.Proofs.YtfdihkgkiiekcaaDoor
/-
  What a head's text holds (plain): its Size, its Root, and whether it is one.
-/
namespace Go.Proofs.YtfdihkgkiiekcaaDoor
open Go.RowKit Go.Lib
set_option linter.unusedVariables false

def haS (t : ByteArray) : Int := rnN t 0 false
def haA (t : ByteArray) : Int := rnA t 0 false
def haB (t : ByteArray) : Bool := rnB t 0 false
def haR (t : ByteArray) : ByteArray := rtT t (haA t) (haB t)
def haE (t : ByteArray) : Int := rtA t (haA t) (haB t)
def haF (t : ByteArray) : Bool := rtB t (haA t) (haB t)
/-- Is it a head's text? -/
def heaB (t : ByteArray) : Bool := !(haF t) && (sizB (haS t) (haR t) && (haE t == (t.size : Int)))
def heaC (t : ByteArray) : Int := if 8000 < t.size then 2 else if heaB t = true then 0 else 3
def heaS (t : ByteArray) : Int := if heaC t = 0 then haS t else 0
def heaR (t : ByteArray) : ByteArray := if heaC t = 0 then haR t else ByteArray.empty
theorem hea_long {t : ByteArray} (h : 8000 < t.size) : heaC t = 2 ∧ heaS t = 0 ∧ heaR t = ByteArray.empty := by
  have e : heaC t = 2 := if_pos h
  refine ⟨e, ?_, ?_⟩ <;> (first | unfold heaS | unfold heaR) <;> rw [e] <;> exact if_neg (by decide)
theorem hea_bad {t : ByteArray} (h : ¬ 8000 < t.size) (hb : heaB t = false) : heaC t = 3 ∧ heaS t = 0 ∧ heaR t = ByteArray.empty := by
  have e : heaC t = 3 := by unfold heaC; rw [if_neg h, if_neg (by rw [hb]; exact Bool.false_ne_true)]
  refine ⟨e, ?_, ?_⟩ <;> (first | unfold heaS | unfold heaR) <;> rw [e] <;> exact if_neg (by decide)
theorem hea_good {t : ByteArray} (h : ¬ 8000 < t.size) (hb : heaB t = true) : heaC t = 0 ∧ heaS t = haS t ∧ heaR t = haR t := by
  have e : heaC t = 0 := by unfold heaC; rw [if_neg h, if_pos hb]
  refine ⟨e, ?_, ?_⟩ <;> (first | unfold heaS | unfold heaR) <;> rw [e] <;> exact if_pos rfl
/-- What could not be read is zero, and that is not right. -/
theorem ha_bad {t : ByteArray} (h : haF t = true) : sizB (haS t) (haR t) = false := by
  have e : haR t = ByteArray.empty := by unfold haR rtT; unfold haF at h; rw [if_pos h]
  rw [e]
  unfold sizB
  simp
theorem ha_place (t : ByteArray) (h : haB t = false) : 0 ≤ haA t ∧ haA t ≤ t.size := by
  have hb : (getN t 0).2.2 = 0 := by
    unfold haB rnB at h
    simpa using h
  have e : haA t = (getN t 0).2.1 := by unfold haA rnA rnB; rw [hb]; rfl
  rw [e]
  exact getN_place t 0 hb
theorem ha_le (t : ByteArray) (h : t.size ≤ 8000) : haA t ≤ 8000 := by
  cases hb : haB t with
  | false => have := ha_place t hb; omega
  | true => unfold haA rnA; unfold haB at hb; rw [if_pos hb]; omega
theorem hea_le (t : ByteArray) : (heaR t).size ≤ 32 ∧ 0 ≤ heaS t ∧ heaS t ≤ 64 := by
  by_cases h : 8000 < t.size
  · obtain ⟨_, e1, e2⟩ := hea_long h
    rw [e1, e2]
    simp
  cases hb : heaB t with
  | false =>
    obtain ⟨_, e1, e2⟩ := hea_bad h hb
    rw [e1, e2]
    simp
  | true =>
    obtain ⟨_, e1, e2⟩ := hea_good h hb
    rw [e1, e2]
    unfold heaB sizB at hb
    simp only [Bool.and_eq_true, decide_eq_true_iff] at hb
    omega
end Go.Proofs.YtfdihkgkiiekcaaDoor
