/-
  Parts of one proof, laid as one text: ConMath, ProofLaw; what each says stands at its head.
-/
import Derived.Test.YtfdihkgkiiekcaaDoorBytesDigMath
import Derived.Test.YtfdihkgkiiekcaaDoorTreeMath
import Derived.Test.YtfdihkgkiiekcaaDoorSlASlBBxK
import Derived.Test.YtfdihkgkiiekcaaDoorPowerHalvesTreeTree2TreeHPathMathIncMath
import Derived.Test.YtfdihkgkiiekcaaDoorTakerTakePath
/-
  Consistent as a plain function: 'conA'.
-/
namespace Go.Proofs.YtfdihkgkiiekcaaDoor
open Go.RowKit Go.Lib
set_option linter.unusedVariables false

def conB (m n : Nat) (ss : List ByteArray) (was root : ByteArray) : Bool :=
  if lft (pd m n) = true then decide (cl2 was was (pd m n) ss = some (was, root))
  else match ss with
    | [] => false
    | s :: t => decide (cl2 s s (pd m n) t = some (was, root))
def conA (m n : Int) (ss : List ByteArray) (was root : ByteArray) : Bool :=
  if 1 ≤ m ∧ m ≤ n ∧ ss.length ≤ 64 ∧ was.size = 32 ∧ root.size = 32 ∧ wideB ss = true then conB m.toNat n.toNat ss was root else false
def startC (ss : List ByteArray) (ds : List Bool) (whole : ByteArray) (a : Nat) : ByteArray × ByteArray × Nat := ds.foldl (stepC ss) (seedC ss (if lft ds = true then whole else ByteArray.empty) a)
theorem conI {ss : List ByteArray} (hs : ∀ x ∈ ss, x.size = 32) {was root : ByteArray} (hw : was.size = 32) (hr : root.size = 32) (m n : Nat) :
    ((startC ss (pd m n) was 0).1 = was ∧ (startC ss (pd m n) was 0).2.1 = root ∧ (startC ss (pd m n) was 0).2.2 = ss.length) ↔ conB m n ss was root = true := by
  unfold startC conB
  by_cases hl : lft (pd m n) = true
  · rw [if_pos hl, if_pos hl, show seedC ss was 0 = (was, was, 0) from if_neg (by omega), decide_eq_true_iff]
    have := foldC hs (was := was) hr (pd m n) was was 0 hw hw (Nat.zero_le _)
    rwa [List.drop_zero] at this
  · rw [if_neg hl, if_neg hl, show seedC ss ByteArray.empty 0 = (tk ss 0, tk ss 0, nx ss 0) from if_pos rfl]
    match ss, hs with
    | [], _ =>
      constructor
      · rintro ⟨_, h, _⟩
        rw [show tk ([] : List ByteArray) 0 = ByteArray.empty from rfl, stepC_empty] at h
        rw [← h] at hr; simp at hr
      · intro h; cases h
    | s :: t, hs =>
      have h1 : s.size = 32 := hs s (by simp)
      rw [show tk (s :: t) 0 = s from rfl, show nx (s :: t) 0 = 1 from by simp [nx], decide_eq_true_iff]
      have := foldC hs (was := was) hr (pd m n) s s 1 h1 h1 (by simp)
      rwa [List.drop_succ_cons, List.drop_zero] at this
theorem stepC_size {ss : List ByteArray} (s : ByteArray × ByteArray × Nat) (d : Bool) (h : s.1.size ≤ 32) : (stepC ss s d).1.size ≤ 32 ∧ (stepC ss s d).2.1.size ≤ 32 := by
  unfold stepC
  cases d
  · exact ⟨h, nodeA_size _ _⟩
  · exact ⟨nodeA_size _ _, nodeA_size _ _⟩
theorem foldC_size {ss : List ByteArray} (ds : List Bool) : ∀ (s : ByteArray × ByteArray × Nat), s.1.size ≤ 32 → s.2.1.size ≤ 32 → (ds.foldl (stepC ss) s).1.size ≤ 32 ∧ (ds.foldl (stepC ss) s).2.1.size ≤ 32 := by
  induction ds with
  | nil => exact fun s h1 h2 => ⟨h1, h2⟩
  | cons d ds ih => exact fun s h1 h2 => ih _ (stepC_size s d h1).1 (stepC_size s d h1).2
theorem seedC_size {ss : List ByteArray} (hs : ∀ x ∈ ss, x.size = 32) {whole : ByteArray} (hw : whole.size ≤ 32) (a : Nat) : (seedC ss whole a).1.size ≤ 32 ∧ (seedC ss whole a).2.1.size ≤ 32 := by
  unfold seedC; split
  · exact ⟨tk_size hs a, tk_size hs a⟩
  · exact ⟨hw, hw⟩
theorem startC_size {ss : List ByteArray} (hs : ∀ x ∈ ss, x.size = 32) (ds : List Bool) {whole : ByteArray} (hw : whole.size ≤ 32) (a : Nat) : (startC ss ds whole a).1.size ≤ 32 ∧ (startC ss ds whole a).2.1.size ≤ 32 := by
  have h0 : (if lft ds = true then whole else ByteArray.empty).size ≤ 32 := by split; exact hw; simp
  unfold startC
  exact foldC_size ds _ (seedC_size hs h0 a).1 (seedC_size hs h0 a).2
theorem startC_left (ss : List ByteArray) (ds : List Bool) (whole : ByteArray) (a : Nat) : startC ss (ds ++ [false]) whole a = stepC ss (startC ss ds whole a) false := by
  unfold startC; rw [lft_false, List.foldl_append]; rfl
theorem startC_right (ss : List ByteArray) (ds : List Bool) (whole : ByteArray) (a : Nat) : startC ss (ds ++ [true]) whole a = stepC ss (startC ss ds ByteArray.empty a) true := by
  unfold startC; rw [lft_true, List.foldl_append, ite_self]; rfl
/-- What the specification goes along: was ahead of the proof, if old is a power of two. -/
def conL (m n : Nat) (ss : List ByteArray) (was : ByteArray) : List ByteArray := if lft (pd m n) = true then was :: ss else ss
theorem conB_of {m n : Nat} {ss : List ByteArray} {was root : ByteArray} : conB m n ss was root = match conL m n ss was with
    | [] => false
    | s :: t => decide (cl2 s s (pd m n) t = some (was, root)) := by
  unfold conB conL
  by_cases hl : lft (pd m n) = true
  · rw [if_pos hl, if_pos hl]
  · rw [if_neg hl, if_neg hl]
end Go.Proofs.YtfdihkgkiiekcaaDoor
/-
  The laws of paths and proofs as the program's functions say them: what pathA and proofA hold is 32 bytes wide; incA and conA are true of them.
-/
namespace Go.Proofs.YtfdihkgkiiekcaaDoor
open Go.RowKit Go.Lib
set_option linter.unusedVariables false

theorem pathB_wide (l : List ByteArray) (i : Nat) : ∀ x ∈ pathB l i, x.size = 32 := by
  induction hn : l.length using Nat.strongRecOn generalizing l i with
  | _ n ih =>
    subst hn
    intro x hx
    by_cases h2 : 2 ≤ l.length
    · have hlt := halfN_lt h2
      have hp := halfN_pos l.length
      by_cases hi : i < halfN l.length
      · rw [pathB_left h2 hi] at hx
        rcases List.mem_append.1 hx with h | h
        · exact ih (halfN l.length) hlt (l.take (halfN l.length)) i (by simp; omega) x h
        · rw [List.mem_singleton.1 h]; exact treeB_size _
      · rw [pathB_right h2 hi] at hx
        rcases List.mem_append.1 hx with h | h
        · exact ih (l.length - halfN l.length) (by omega) (l.drop (halfN l.length)) (i - halfN l.length) (by simp) x h
        · rw [List.mem_singleton.1 h]; exact treeB_size _
    · rw [pathB_one h2] at hx; simp at hx
theorem proofB_wide (l : List ByteArray) (m : Nat) (h1 : 1 ≤ m) (hm : m ≤ l.length) (whole : Bool) : ∀ x ∈ proofB m l whole, x.size = 32 := by
  induction hn : l.length using Nat.strongRecOn generalizing l m whole with
  | _ n ih =>
    subst hn
    intro x hx
    by_cases he : m = l.length
    · rw [proofB_all he] at hx
      split at hx
      · simp at hx
      · rw [List.mem_singleton.1 hx]; exact treeB_size _
    · have h2 : 2 ≤ l.length := by omega
      have hlt := halfN_lt h2
      have hp := halfN_pos l.length
      by_cases hi : m ≤ halfN l.length
      · rw [proofB_left h2 he hi] at hx
        rcases List.mem_append.1 hx with h | h
        · exact ih (halfN l.length) hlt (l.take (halfN l.length)) m h1 (by simp; omega) whole (by simp; omega) x h
        · rw [List.mem_singleton.1 h]; exact treeB_size _
      · rw [proofB_right h2 he hi] at hx
        rcases List.mem_append.1 hx with h | h
        · exact ih (l.length - halfN l.length) (by omega) (l.drop (halfN l.length)) (m - halfN l.length) (by omega) (by simp; omega) false (by simp) x h
        · rw [List.mem_singleton.1 h]; exact treeB_size _
theorem pathA_wide (ss : List ByteArray) (i : Int) : ∀ x ∈ pathA ss i, x.size = 32 := by
  intro x hx; unfold pathA at hx; split at hx
  · exact pathB_wide _ _ x hx
  · simp at hx
theorem proofA_wide (ss : List ByteArray) (m : Int) : ∀ x ∈ proofA ss m, x.size = 32 := by
  intro x hx; unfold proofA at hx; split at hx
  · rename_i h; exact proofB_wide _ _ (by omega) (by omega) _ x hx
  · simp at hx
theorem pathA_few (ss : List ByteArray) (i : Int) : (pathA ss i).length ≤ 63 := by
  unfold pathA; split
  · rename_i h
    have h1 := entB_len h.1
    have h2 := pathB_len ss i.toNat (by omega)
    omega
  · simp
theorem proofA_few (ss : List ByteArray) (m : Int) : (proofA ss m).length ≤ 64 := by
  unfold proofA; split
  · rename_i h
    have h1 := entB_len h.1
    have h2 := proofB_len ss m.toNat (by omega) (by omega) true
    omega
  · simp
theorem wideB_of {ss : List ByteArray} (h : ∀ x ∈ ss, x.size = 32) : wideB ss = true := wideB_true fun j hj => h _ (List.getElem_mem hj)
theorem entB_take {ss : List ByteArray} (h : entB ss = true) (m : Nat) : entB (ss.take m) = true :=
  entB_true (by have := entB_len h; simp; omega) fun j hj => entB_all h _ (List.mem_of_mem_take (List.getElem_mem hj))
theorem treeA_of {ss : List ByteArray} (h : entB ss = true) : treeA ss = treeB ss := by unfold treeA; rw [h]; rfl
theorem treeA_le (ss : List ByteArray) : (treeA ss).size ≤ 32 := by
  unfold treeA; split
  · rw [treeB_size]; omega
  · simp
theorem treeA_ent {ss : List ByteArray} (h : treeA ss ≠ ByteArray.empty) : entB ss = true := by
  by_cases he : entB ss = true
  · exact he
  · exact absurd (by unfold treeA; simp [he]) h

/-- P4: each entry is included by its path. -/
theorem inc_true {ss : List ByteArray} (h : entB ss = true) (i : Nat) (hi : i < ss.length) : incA (leafB ss[i]) i ss.length (pathA ss i) (treeA ss) = true := by
  have e1 : pathA ss (i : Int) = pathB ss i := by unfold pathA; rw [if_pos ⟨h, by omega, by omega⟩]; simp
  have hw := pathA_wide ss i
  have hf := pathA_few ss i
  unfold incA
  rw [if_pos ⟨by omega, by omega, hf, leafB_size _, by rw [treeA_of h]; exact treeB_size _, wideB_of hw⟩, e1, treeA_of h]
  simpa using path_law ss i hi
/-- P5: the first ones are told by their proof to be the beginning of all. -/
theorem con_true {ss : List ByteArray} (h : entB ss = true) (m : Nat) (h1 : 1 ≤ m) (hm : m ≤ ss.length) : conA m ss.length (proofA ss m) (treeA (ss.take m)) (treeA ss) = true := by
  have e1 : proofA ss (m : Int) = proofB m ss true := by unfold proofA; rw [if_pos ⟨h, by omega, by omega⟩]; simp
  have hw := proofA_wide ss m
  have hf := proofA_few ss m
  unfold conA
  rw [if_pos ⟨by omega, by omega, hf, by rw [treeA_of (entB_take h m)]; exact treeB_size _, by rw [treeA_of h]; exact treeB_size _, wideB_of hw⟩, e1, treeA_of h, treeA_of (entB_take h m)]
  obtain ⟨s, ps, h2, h3⟩ := proof_law ss m h1 hm true
  unfold conB
  simp only [Int.toNat_natCast]
  by_cases hl : lft (pd m ss.length) = true
  · simp only [hl, Bool.and_self, if_true] at h2
    rw [if_pos hl, h2.2, decide_eq_true_iff, ← h2.1]
    rw [← h2.1] at h3; exact h3
  · simp only [hl, Bool.and_false, if_false, Bool.false_eq_true] at h2
    rw [if_neg hl, h2]
    simpa using h3
end Go.Proofs.YtfdihkgkiiekcaaDoor
