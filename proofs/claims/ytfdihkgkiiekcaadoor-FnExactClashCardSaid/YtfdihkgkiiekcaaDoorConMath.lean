/-
  Consistent as a plain function: 'conA'.
-/
import Derived.Test.YtfdihkgkiiekcaaDoorBytes
import Derived.Test.YtfdihkgkiiekcaaDoorTreeMath
import Derived.Test.YtfdihkgkiiekcaaDoorSlA
import Derived.Test.YtfdihkgkiiekcaaDoorIncMath
import Derived.Test.YtfdihkgkiiekcaaDoorTakePath
namespace Go.Proofs.YtfdihkgkiiekcaaDoor
open Go.RowKit Go.Lib
set_option linter.unusedVariables false

def conB (m n : Nat) (ss : List ByteArray) (was root : ByteArray) : Bool :=
  if lft (pd m n) = true then decide (cl2 was was (pd m n) ss = some (was, root))
  else match ss with
    | [] => false
    | s :: t => decide (cl2 s s (pd m n) t = some (was, root))
def conA (m n : Int) (ss : List ByteArray) (was root : ByteArray) : Bool :=
  if 1 ≤ m ∧ m ≤ n ∧ ss.length ≤ 64 ∧ was.size = 32 ∧ root.size = 32 ∧ wideB ss = true then conB m.toNat n.toNat ss was root else false
def startC (ss : List ByteArray) (ds : List Bool) (whole : ByteArray) (a : Nat) : ByteArray × ByteArray × Nat := ds.foldl (stepC ss) (seedC ss (if lft ds = true then whole else ByteArray.empty) a)
theorem conI {ss : List ByteArray} (hs : ∀ x ∈ ss, x.size = 32) {was root : ByteArray} (hw : was.size = 32) (hr : root.size = 32) (m n : Nat) :
    ((startC ss (pd m n) was 0).1 = was ∧ (startC ss (pd m n) was 0).2.1 = root ∧ (startC ss (pd m n) was 0).2.2 = ss.length) ↔ conB m n ss was root = true := by
  unfold startC conB
  by_cases hl : lft (pd m n) = true
  · rw [if_pos hl, if_pos hl, show seedC ss was 0 = (was, was, 0) from if_neg (by omega), decide_eq_true_iff]
    have := foldC hs (was := was) hr (pd m n) was was 0 hw hw (Nat.zero_le _)
    rwa [List.drop_zero] at this
  · rw [if_neg hl, if_neg hl, show seedC ss ByteArray.empty 0 = (tk ss 0, tk ss 0, nx ss 0) from if_pos rfl]
    match ss, hs with
    | [], _ =>
      constructor
      · rintro ⟨_, h, _⟩
        rw [show tk ([] : List ByteArray) 0 = ByteArray.empty from rfl, stepC_empty] at h
        rw [← h] at hr; simp at hr
      · intro h; cases h
    | s :: t, hs =>
      have h1 : s.size = 32 := hs s (by simp)
      rw [show tk (s :: t) 0 = s from rfl, show nx (s :: t) 0 = 1 from by simp [nx], decide_eq_true_iff]
      have := foldC hs (was := was) hr (pd m n) s s 1 h1 h1 (by simp)
      rwa [List.drop_succ_cons, List.drop_zero] at this
theorem stepC_size {ss : List ByteArray} (s : ByteArray × ByteArray × Nat) (d : Bool) (h : s.1.size ≤ 32) : (stepC ss s d).1.size ≤ 32 ∧ (stepC ss s d).2.1.size ≤ 32 := by
  unfold stepC
  cases d
  · exact ⟨h, nodeA_size _ _⟩
  · exact ⟨nodeA_size _ _, nodeA_size _ _⟩
theorem foldC_size {ss : List ByteArray} (ds : List Bool) : ∀ (s : ByteArray × ByteArray × Nat), s.1.size ≤ 32 → s.2.1.size ≤ 32 → (ds.foldl (stepC ss) s).1.size ≤ 32 ∧ (ds.foldl (stepC ss) s).2.1.size ≤ 32 := by
  induction ds with
  | nil => exact fun s h1 h2 => ⟨h1, h2⟩
  | cons d ds ih => exact fun s h1 h2 => ih _ (stepC_size s d h1).1 (stepC_size s d h1).2
theorem seedC_size {ss : List ByteArray} (hs : ∀ x ∈ ss, x.size = 32) {whole : ByteArray} (hw : whole.size ≤ 32) (a : Nat) : (seedC ss whole a).1.size ≤ 32 ∧ (seedC ss whole a).2.1.size ≤ 32 := by
  unfold seedC; split
  · exact ⟨tk_size hs a, tk_size hs a⟩
  · exact ⟨hw, hw⟩
theorem startC_size {ss : List ByteArray} (hs : ∀ x ∈ ss, x.size = 32) (ds : List Bool) {whole : ByteArray} (hw : whole.size ≤ 32) (a : Nat) : (startC ss ds whole a).1.size ≤ 32 ∧ (startC ss ds whole a).2.1.size ≤ 32 := by
  have h0 : (if lft ds = true then whole else ByteArray.empty).size ≤ 32 := by split; exact hw; simp
  unfold startC
  exact foldC_size ds _ (seedC_size hs h0 a).1 (seedC_size hs h0 a).2
theorem startC_left (ss : List ByteArray) (ds : List Bool) (whole : ByteArray) (a : Nat) : startC ss (ds ++ [false]) whole a = stepC ss (startC ss ds whole a) false := by
  unfold startC; rw [lft_false, List.foldl_append]; rfl
theorem startC_right (ss : List ByteArray) (ds : List Bool) (whole : ByteArray) (a : Nat) : startC ss (ds ++ [true]) whole a = stepC ss (startC ss ds ByteArray.empty a) true := by
  unfold startC; rw [lft_true, List.foldl_append, ite_self]; rfl
/-- What the specification goes along: was ahead of the proof, if old is a power of two. -/
def conL (m n : Nat) (ss : List ByteArray) (was : ByteArray) : List ByteArray := if lft (pd m n) = true then was :: ss else ss
theorem conB_of {m n : Nat} {ss : List ByteArray} {was root : ByteArray} : conB m n ss was root = match conL m n ss was with
    | [] => false
    | s :: t => decide (cl2 s s (pd m n) t = some (was, root)) := by
  unfold conB conL
  by_cases hl : lft (pd m n) = true
  · rw [if_pos hl, if_pos hl]
  · rw [if_neg hl, if_neg hl]
end Go.Proofs.YtfdihkgkiiekcaaDoor
