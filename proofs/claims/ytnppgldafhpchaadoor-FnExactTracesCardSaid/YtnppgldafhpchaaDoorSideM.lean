/-
  What the program's sideText gathers, as plain mathematics: whole Sectors, then as much of the last one as is wanted.
-/
import Derived.Test.YtnppgldafhpchaaDoorAreaMath
namespace Go.Proofs.YtnppgldafhpchaaDoor
open Go.RowKit Go.Lib
set_option linter.unusedVariables false

/-- i whole Sectors, and j bytes of the next one. -/
structure SdM (rd : Nat → ByteArray) (z i j : Nat) (o : ByteArray) : Prop where
  ok : sideOk rd z i = true
  eq : o = sideB rd z i ++ (rd i).extract 0 j
  le : 64 * i + j ≤ z
  js : j ≤ (rd i).size
theorem SdM.size {rd : Nat → ByteArray} {z i j : Nat} {o : ByteArray} (h : SdM rd z i j o) : o.size = 64 * i + j := by
  have h1 := sideB_size rd z i h.ok
  have h2 := h.le
  have h3 := h.js
  rw [h.eq, ByteArray.size_append, h1]
  simp
  omega
theorem SdM.start (rd : Nat → ByteArray) (z : Nat) : SdM rd z 0 0 ByteArray.empty := ⟨rfl, by apply ByteArray.ext; simp [sideB], by omega, by omega⟩
/-- What is gathered in the end: all that is wanted, or less. -/
def SdX (rd : Nat → ByteArray) (z : Nat) (o : ByteArray) : Prop := (sideOk rd z (needN z) = true ∧ o = sideB rd z (needN z) ∧ o.size = z) ∨ (sideOk rd z (needN z) = false ∧ o.size < z)
theorem extract_nil (b : ByteArray) : b.extract 0 0 = ByteArray.empty := by apply ByteArray.ext; apply Array.ext'; simp
theorem app_nil (b : ByteArray) : b ++ ByteArray.empty = b := by apply ByteArray.ext; simp
theorem SdM.full {rd : Nat → ByteArray} {z i j : Nat} {o : ByteArray} (h : SdM rd z i j o) (hj : j < 64) (he : 64 * i + j = z) : SdX rd z o := by
  left
  by_cases h0 : j = 0
  · subst h0
    have hn : needN z = i := by unfold needN; omega
    rw [hn]
    refine ⟨h.ok, ?_, by rw [h.size]; exact he⟩
    rw [h.eq, extract_nil, app_nil]
  · have hn : needN z = i + 1 := by unfold needN; omega
    have hw : wantN z i = j := by unfold wantN; omega
    rw [hn]
    refine ⟨?_, ?_, by rw [h.size]; exact he⟩
    · unfold sideOk; rw [h.ok, hw, Bool.true_and, decide_eq_true_iff]; exact h.js
    · show o = sideB rd z i ++ (rd i).extract 0 (wantN z i)
      rw [hw]; exact h.eq
theorem SdM.short {rd : Nat → ByteArray} {z i j : Nat} {o : ByteArray} (h : SdM rd z i j o) (hj : j < 64) (hs : j = (rd i).size) (he : 64 * i + j < z) : SdX rd z o := by
  right
  refine ⟨?_, by rw [h.size]; exact he⟩
  cases hk : sideOk rd z (needN z) with
  | false => rfl
  | true =>
    have := (sideOk_iff rd z (needN z)).1 hk i (by unfold needN; omega)
    unfold wantN at this
    omega
theorem SdM.push {rd : Nat → ByteArray} {z i j : Nat} {o : ByteArray} (h : SdM rd z i j o) (hj : j < (rd i).size) (he : 64 * i + j < z) : SdM rd z i (j + 1) (o.push ((rd i)[j]'hj)) := by
  refine ⟨h.ok, ?_, by omega, by omega⟩
  rw [h.eq]
  apply ByteArray.ext; apply Array.ext'
  have hl : j < (rd i).data.toList.length := by simpa using hj
  have e : (rd i).data.toList.take (j + 1) = (rd i).data.toList.take j ++ [(rd i)[j]'hj] := by
    rw [List.take_succ_eq_append_getElem hl]; rfl
  simp [e]
theorem SdM.next {rd : Nat → ByteArray} {z i : Nat} {o : ByteArray} (h : SdM rd z i 64 o) : SdM rd z (i + 1) 0 o := by
  have h1 := h.le
  have hw : wantN z i = 64 := by unfold wantN; omega
  refine ⟨?_, ?_, by omega, by omega⟩
  · unfold sideOk; rw [h.ok, hw, Bool.true_and, decide_eq_true_iff]; exact h.js
  · rw [extract_nil, app_nil]
    show o = sideB rd z i ++ (rd i).extract 0 (wantN z i)
    rw [hw]; exact h.eq
theorem SdM.last {rd : Nat → ByteArray} {z H : Nat} {o : ByteArray} (h : SdM rd z H 0 o) (hz : z ≤ 64 * H) : SdX rd z o := h.full (by omega) (by have := h.le; omega)
end Go.Proofs.YtnppgldafhpchaaDoor
