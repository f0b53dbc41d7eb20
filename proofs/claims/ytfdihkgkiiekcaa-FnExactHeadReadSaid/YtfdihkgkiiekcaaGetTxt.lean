/-
  What GetText's answer is, as a value in memory: 'getTV' of the text and the place.
-/
import Derived.Test.YtfdihkgkiiekcaaRows
import Derived.Test.YtfdihkgkiiekcaaBytes
import Derived.Test.YtfdihkgkiiekcaaScanMath
import Derived.Test.YtfdihkgkiiekcaaGetVal
import Derived.Handy
import Derived.WalkSpells
namespace Go.Proofs.Ytfdihkgkiiekcaa
open Go.RowKit
set_option linter.unusedVariables false

def txt (t : ByteArray) (a c : Int) : Value := .agg #[.string t, .int .i64 a, .int .i64 c]
def getTV (s : ByteArray) (a : Int) : Value :=
  if (getN s a).2.2 ≠ 0 then txt ByteArray.empty 0 (getN s a).2.2
  else if (getN s a).1 < 0 ∨ 8000 < (getN s a).1 then txt ByteArray.empty 0 3
  else if (s.size : Int) < (getN s a).2.1 + (getN s a).1 then txt ByteArray.empty 0 4
  else txt (s.extract (getN s a).2.1.toNat ((getN s a).2.1 + (getN s a).1).toNat) ((getN s a).2.1 + (getN s a).1) 0

theorem held_free {w1 w2 : World} {cs : Array Value} {T : TypeId} (hb : Below (w1.alloc (.cells cs T)).heap.size (w1.alloc (.cells cs T)) w2) (o : Obj) (i : Nat) :
    (w2.alloc o).frozen? ⟨w1.heap.size, i, none⟩ = false := by
  have h1 : (w1.alloc (.cells cs T)).heap.size ≤ w2.heap.size := hb.size
  have hlt : w1.heap.size < w2.heap.size := by simp at h1; omega
  have h2 : (w2.alloc o).frozen? ⟨w1.heap.size, i, none⟩ = w2.frozen? ⟨w1.heap.size, i, none⟩ :=
    ((Below.refl _ _).alloc (Nat.le_refl _) o : Below w2.heap.size w2 (w2.alloc o)).frozen (p := ⟨w1.heap.size, i, none⟩) hlt
  rw [h2, hb.frozen (p := ⟨w1.heap.size, i, none⟩) (by simp)]
  have e := (MapKept.heap_alloc w1 (.cells cs T)).1
  unfold World.frozen?
  rw [e]
  simp

theorem unfoldN_bd {u : Int} (h0 : 0 ≤ u) (h1 : u ≤ 18446744073709551615) : -9223372036854775808 ≤ unfoldN u ∧ unfoldN u ≤ 9223372036854775807 := by
  unfold unfoldN; split <;> omega
theorem getN_ok {s : ByteArray} {a n b : Int} (h : getN s a = (n, b, 0)) : 0 ≤ b ∧ b ≤ s.size ∧ s.size ≤ 8000 ∧ -9223372036854775808 ≤ n ∧ n ≤ 9223372036854775807 := by
  unfold getN at h
  split at h
  · cases h
  · split at h
    · cases h
    · rename_i h8 h0
      split at h
      · rename_i hc
        rcases scanAt_bd s a.toNat with hb | hb
        · have hu := unfoldN_bd hb.2.1 hb.2.2.1
          have hz := hb.2.2.2.2
          cases h
          omega
        · have := hb.1; omega
      · rename_i hc
        have h3 := congrArg (fun x : Int × Int × Int => x.2.2) h
        exact absurd h3 hc

theorem getTV_bad {s : ByteArray} {a c : Int} (h : getN s a = (0, 0, c)) (hc : c ≠ 0) : getTV s a = txt ByteArray.empty 0 c := by unfold getTV; rw [h, if_pos hc]
theorem getTV_syn {s : ByteArray} {a n b : Int} (h : getN s a = (n, b, 0)) (hn : n < 0 ∨ 8000 < n) : getTV s a = txt ByteArray.empty 0 3 := by
  unfold getTV; rw [h, if_neg (by simp), if_pos hn]
theorem getTV_short {s : ByteArray} {a n b : Int} (h : getN s a = (n, b, 0)) (hn : ¬ (n < 0 ∨ 8000 < n)) (hl : (s.size : Int) < b + n) : getTV s a = txt ByteArray.empty 0 4 := by
  unfold getTV; rw [h, if_neg (by simp), if_neg hn, if_pos hl]
theorem getTV_ok {s : ByteArray} {a n b : Int} (h : getN s a = (n, b, 0)) (hn : ¬ (n < 0 ∨ 8000 < n)) (hl : ¬ (s.size : Int) < b + n) : getTV s a = txt (s.extract b.toNat (b + n).toNat) (b + n) 0 := by
  unfold getTV; rw [h, if_neg (by simp), if_neg hn, if_neg hl]

theorem getTV_agg (s : ByteArray) (a : Int) : ∃ t b c, getTV s a = .agg #[.string t, .int .i64 b, .int .i64 c] := by
  unfold getTV; split
  · exact ⟨_, _, _, rfl⟩
  · split
    · exact ⟨_, _, _, rfl⟩
    · split
      · exact ⟨_, _, _, rfl⟩
      · exact ⟨_, _, _, rfl⟩
end Go.Proofs.Ytfdihkgkiiekcaa
