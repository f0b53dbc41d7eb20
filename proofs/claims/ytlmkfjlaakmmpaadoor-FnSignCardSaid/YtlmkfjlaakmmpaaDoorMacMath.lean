/-
  A mac and a stretched pass, as plain functions: 'macB', 'macA', 'strB', 'strA'.
  Nothing of the program is named here.
-/
import Derived.Test.YtlmkfjlaakmmpaaDoorBytes
import Derived.Test.YtlmkfjlaakmmpaaDoorDigMath
import Derived.Test.YtlmkfjlaakmmpaaDoorOwnBPadI
import Derived.Handy
namespace Go.Proofs.YtlmkfjlaakmmpaaDoor
open Go.RowKit Go.Lib
set_option linter.unusedVariables false

def kAt (key : ByteArray) (m : Int) (k i : Nat) : Int := if i < k then bits .xor .u8 (byteAt key i) m else byteAt key i
def kPart (key : ByteArray) (m : Int) (k : Nat) : List Int := (List.range 64).map (kAt key m k)
theorem kPart_len (key : ByteArray) (m : Int) (k : Nat) : (kPart key m k).length = 64 := by simp [kPart]
theorem kPart_zero (key : ByteArray) (m : Int) (h : key.size ≤ 64) : bytesN key ++ List.replicate (64 - key.size) 0 = kPart key m 0 := by
  have hl := bytesN_len key
  apply List.ext_getElem
  · rw [List.length_append, hl, List.length_replicate, kPart_len]; omega
  · intro i h1 h2
    rw [kPart_len] at h2
    simp only [kPart, List.getElem_map, List.getElem_range, kAt, Nat.not_lt_zero, if_false]
    by_cases hi : i < key.size
    · rw [List.getElem_append_left (by omega)]
      have h3 : i < key.data.toList.length := by rw [← size_eq]; exact hi
      simp only [bytesN, List.getElem_map, byteAt, List.getD_eq_getElem?_getD, List.getElem?_eq_getElem h3]; rfl
    · rw [List.getElem_append_right (by omega)]
      have h3 : key.data.toList.length ≤ i := by rw [← size_eq]; omega
      simp only [List.getElem_replicate, byteAt, List.getD_eq_getElem?_getD, List.getElem?_eq_none h3]; rfl
theorem kPart_at (key : ByteArray) (m : Int) (k : Nat) (h : k < 64) : (kPart key m k)[k]? = some (byteAt key k) := by
  simp [kPart, kAt, h]
theorem kPart_set (key : ByteArray) (m : Int) (k : Nat) (h : k < 64) : (rowN (kPart key m k)).toArray.setIfInBounds k (.int .u8 (bits .xor .u8 (byteAt key k) m)) = (rowN (kPart key m (k + 1))).toArray := by
  rw [List.setIfInBounds_toArray]
  congr 1
  apply List.ext_getElem
  · simp [rowN, kPart_len]
  · intro i h1 h2
    simp only [rowN, List.length_map, kPart_len] at h2
    rw [List.getElem_set]
    by_cases hi : k = i
    · subst hi
      simp [rowN, kPart, kAt]
    · rw [if_neg hi]
      simp only [rowN, kPart, List.getElem_map, List.getElem_range, kAt]
      by_cases h3 : i < k
      · rw [if_pos h3, if_pos (by omega)]
      · rw [if_neg h3, if_neg (by omega)]
theorem kRow_cell {w : World} {g : Nat} {key : ByteArray} {m : Int} {k : Nat} {T : TypeId} (h : w.heap[g]? = some (.cells (rowN (kPart key m k)).toArray T (0, 0))) (hk : k < 64) : w.cell? ⟨g, k, none⟩ = some (.int .u8 (byteAt key k)) ∧ w.frozen? ⟨g, k, none⟩ = false := by
  simp [World.cell?, World.frozen?, h, rowN, kPart_at key m k hk]
def padK (key : ByteArray) (m : Int) : ByteArray := strOfNums (kPart key m 64)
theorem padK_size (key : ByteArray) (m : Int) : (padK key m).size = 64 := by unfold padK; rw [strOfNums_size, kPart_len]
def keyK (key : ByteArray) : ByteArray := if 64 < key.size then digB key else key
theorem keyK_size (key : ByteArray) : (keyK key).size ≤ 64 := by
  unfold keyK
  by_cases h : 64 < key.size
  · rw [if_pos h, digB_size]; omega
  · rw [if_neg h]; omega
def macB (key text : ByteArray) : ByteArray := digB (padK (keyK key) 92 ++ digB (padK (keyK key) 54 ++ text))
def macA (key text : ByteArray) : ByteArray := if key.size ≤ 8000 ∧ text.size ≤ 8000 then macB key text else ByteArray.empty
def salt : ByteArray := ⟨#[115, 97, 108, 116]⟩
def strB (pass : ByteArray) : Nat → ByteArray
  | 0 => salt
  | k + 1 => macB pass (strB pass k)
theorem strB_size (pass : ByteArray) : ∀ k, (strB pass k).size ≤ 32
  | 0 => (by decide : salt.size ≤ 32)
  | k + 1 => by rw [strB, macB, digB_size]; omega
def strA (pass : ByteArray) (n : Int) : ByteArray := if pass.size ≤ 8000 ∧ 1 ≤ n ∧ n ≤ 100 then strB pass n.toNat else ByteArray.empty
end Go.Proofs.YtlmkfjlaakmmpaaDoor
