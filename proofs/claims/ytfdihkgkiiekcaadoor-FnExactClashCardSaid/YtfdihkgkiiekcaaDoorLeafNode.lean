/-
  What LeafHash and NodeHash answer, in the program and in the specification: 'leafA', 'nodeA'; the specification's l03Leaf and l03Node.
  Conditions: for the program's half the two tables lie as the program's text lays them.
-/
import Derived.Test.YtfdihkgkiiekcaaDoorRows
import Derived.Test.YtfdihkgkiiekcaaDoorBytes
import Derived.Test.YtfdihkgkiiekcaaDoorDigMath
import Derived.Test.YtfdihkgkiiekcaaDoorTreeMath
import Derived.Test.YtfdihkgkiiekcaaDoorJoined
import Derived.Test.YtfdihkgkiiekcaaDoorDigI
import Derived.Test.YtfdihkgkiiekcaaDoorAll2
import Derived.Test.YtfdihkgkiiekcaaDoorSlA
import Derived.Handy
namespace Go.Proofs.YtfdihkgkiiekcaaDoor
open Go.RowKit Go.Lib
set_option linter.unusedVariables false
set_option maxRecDepth 20000


theorem joined_three (a b c : ByteArray) (w : World) (h : a.size + b.size + c.size ≤ 70368744177664) :
    Calls Tryd.prog 24 #[.slice (some ⟨w.heap.size, 0, none⟩) 3 3] (w.alloc (.cells #[.string a, .string b, .string c] 9))
      fun e w' => e = .returned (.string (a ++ b ++ c)) ∧ Below w.heap.size w w' := by
  have e : cat [a, b, c] = a ++ b ++ c := by apply ByteArray.ext; simp [cat]
  have := joined_new [a, b, c] w (by simp) (by rw [e]; simpa using h)
  rw [e] at this
  exact this

set_option maxHeartbeats 400000 in
theorem specL03Leaf_any (t : ByteArray) (w : World) (ht : t.size ≤ 1048576) :
    Calls Tryd.prog 36 #[.string t] w fun e w' => e = .returned (.string (leafB t)) ∧ Below w.heap.size w w' := by
  have hc := fun w => specAll_any (m0 ++ t) w (by rw [ByteArray.size_append, show m0.size = 1 from rfl]; omega)
  rw [show digB (m0 ++ t) = leafB t from rfl] at hc
  have HM : Hid ((⟨#[0]⟩ : ByteArray) ++ t = m0 ++ t) := rfl
  generalize leafB t = L at *
  go_enter Tryd.func36, Tryd.ntmps36
  go_wp2_with (go_at_call 37; rw [HM.out]; refine (hc _).mono ?_; rintro e w1 ⟨rfl, hb⟩)
  go_ret
  exact ⟨rfl, hb⟩
set_option maxHeartbeats 400000 in
theorem specL03Node_any (l r : ByteArray) (w : World) (hl : l.size ≤ 1048576) (hr : r.size ≤ 1048576) :
    Calls Tryd.prog 40 #[.string l, .string r] w fun e w' => e = .returned (.string (nodeB l r)) ∧ Below w.heap.size w w' := by
  have hc := fun w => specAll_any (m1 ++ l ++ r) w (by rw [ByteArray.size_append, ByteArray.size_append, show m1.size = 1 from rfl]; omega)
  rw [show digB (m1 ++ l ++ r) = nodeB l r from rfl] at hc
  have HM : Hid ((⟨#[1]⟩ : ByteArray) ++ l ++ r = m1 ++ l ++ r) := rfl
  generalize nodeB l r = L at *
  go_enter Tryd.func40, Tryd.ntmps40
  go_wp2_with (go_at_call 37; rw [HM.out]; refine (hc _).mono ?_; rintro e w1 ⟨rfl, hb⟩)
  go_ret
  exact ⟨rfl, hb⟩

set_option maxHeartbeats 400000 in
theorem implLeaf_any (t : ByteArray) (w : World) (hT : Tabs w) (ht : t.size ≤ maxLen) :
    Calls Tryd.prog 57 #[.string t] w fun e w' => e = .returned (.string (leafA t)) ∧ Below w.heap.size w w' := by
  have HT : Hid (Tabs w) := hT
  clear hT
  unfold maxLen at ht
  by_cases h : t.size ≤ 100
  · have H : Hid (leafA t = digB (m0 ++ t)) := if_pos h
    go_enter Tryd.func57, Tryd.ntmps57
    go_wp2_with fail
    refine (joined_two m0 t _ (by rw [show m0.size = 1 from rfl]; omega)).mono ?_
    rintro e w1 ⟨rfl, b1⟩
    go_wp2_with fail
    refine (digI_any (m0 ++ t) _ (by rw [ByteArray.size_append, show m0.size = 1 from rfl]; omega) (HT.out.below b1 HT.out.1)).mono ?_
    rintro e w2 ⟨rfl, b2⟩
    go_wp2_with fail
    go_ret
    exact ⟨ret_str H.out.symm, chainB b1 b2⟩
  · have H : Hid (leafA t = ByteArray.empty) := if_neg h
    go_enter Tryd.func57, Tryd.ntmps57
    go_wp2
    go_ret
    exact ⟨ret_str H.out.symm, Below.refl _ _⟩
theorem two_texts (w : World) (a b : ByteArray) (t : TypeId) : TxtAt (w.alloc (.cells #[.string a, .string b] t)) (some ⟨w.heap.size, 0, none⟩) [a, b] :=
  fun i h => ⟨_, _, rfl, by simp, new_texts w [a, b] t i h⟩
set_option maxHeartbeats 400000 in
theorem implNode_any (l r : ByteArray) (w : World) (hT : Tabs w) (hl : l.size ≤ maxLen) (hr : r.size ≤ maxLen) :
    Calls Tryd.prog 73 #[.string l, .string r] w fun e w' => e = .returned (.string (nodeA l r)) ∧ Below w.heap.size w w' := by
  have HT : Hid (Tabs w) := hT
  clear hT
  unfold maxLen at hl hr
  have B0 : Hid (Below w.heap.size w (w.alloc (.cells #[.string l, .string r] 9))) := (Below.refl _ _).alloc (Nat.le_refl _) _
  by_cases h : l.size = 32 ∧ r.size = 32
  · obtain ⟨h1, h2⟩ := h
    have H : Hid (nodeA l r = digB (m1 ++ l ++ r)) := if_pos ⟨h1, h2⟩
    have HJ : Hid (Calls Tryd.prog 24 #[.slice (some ⟨w.heap.size + 1, 0, none⟩) 3 3] ((w.alloc (.cells #[.string l, .string r] 9)).alloc (.cells #[.string m1, .string l, .string r] 9))
        fun e w' => e = .returned (.string (m1 ++ l ++ r)) ∧ Below (w.alloc (.cells #[.string l, .string r] 9)).heap.size (w.alloc (.cells #[.string l, .string r] 9)) w') := by
      have := joined_three m1 l r (w.alloc (.cells #[.string l, .string r] 9)) (by rw [show m1.size = 1 from rfl]; omega)
      rw [show (w.alloc (.cells #[.string l, .string r] 9)).heap.size = w.heap.size + 1 by simp] at this ⊢
      exact this
    have HW : Hid (wideB [l, r] = true) := by show _ = _; simp [wideB, h1, h2]
    go_enter Tryd.func73, Tryd.ntmps73
    go_wp2_with fail
    refine (areD_any _ 2 [l, r] _ (two_texts w l r _) (by simp) (by simp)).mono ?_
    rintro e w1 ⟨he, rfl⟩
    rw [HW.out] at he
    subst he
    go_wp2_with fail
    refine (HJ.out).mono ?_
    rintro e w1 ⟨rfl, b1⟩
    have b1 := chainB B0.out b1
    go_wp2_with fail
    refine (digI_any (m1 ++ l ++ r) _ (by rw [ByteArray.size_append, ByteArray.size_append, show m1.size = 1 from rfl]; omega) (HT.out.below b1 HT.out.1)).mono ?_
    rintro e w2 ⟨rfl, b2⟩
    go_wp2_with fail
    go_ret
    exact ⟨ret_str H.out.symm, chainB b1 b2⟩
  · have H : Hid (nodeA l r = ByteArray.empty) := if_neg h
    have HW : Hid (wideB [l, r] = false) := by show _ = _; simp only [wideB, List.all_cons, List.all_nil, Bool.and_true]; simpa [Bool.and_eq_false_iff] using fun a b => h ⟨a, b⟩
    clear h
    go_enter Tryd.func73, Tryd.ntmps73
    go_wp2_with fail
    refine (areD_any _ 2 [l, r] _ (two_texts w l r _) (by simp) (by simp)).mono ?_
    rintro e w1 ⟨he, rfl⟩
    rw [HW.out] at he
    subst he
    go_wp2_with fail
    go_ret
    exact ⟨ret_str H.out.symm, B0.out⟩
end Go.Proofs.YtfdihkgkiiekcaaDoor
