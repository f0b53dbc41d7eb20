/-
  What the program's Included answers: 'incA'.
  Conditions: index and size are int64; the path's cells hold the texts; the two tables lie as the program's text lays them.
-/
import Derived.Test.YtfdihkgkiiekcaaDoorRows
import Derived.Test.YtfdihkgkiiekcaaDoorBytesDigMath
import Derived.Test.YtfdihkgkiiekcaaDoorTreeMath
import Derived.Test.YtfdihkgkiiekcaaDoorSlASlBBxK
import Derived.Test.YtfdihkgkiiekcaaDoorPowerHalvesTreeTree2TreeHPathMathIncMath
import Derived.Test.YtfdihkgkiiekcaaDoorAll2LeafNode
import Derived.Test.YtfdihkgkiiekcaaDoorTakerTakePath
import Derived.Handy
namespace Go.Proofs.YtfdihkgkiiekcaaDoor
open Go.RowKit Go.Lib
set_option linter.unusedVariables false
set_option maxRecDepth 20000

set_option maxHeartbeats 2000000 in
theorem implInc_any (leaf : ByteArray) (i n : Int) (p : Option Addr) (cap : Nat) (ss : List ByteArray) (root : ByteArray) (w : World) (hT : Tabs w) (hp : TxtAt w p ss) (hn : ss.length ≤ 140737488355328) (hcap : ss.length ≤ cap)
    (i0 : -9223372036854775808 ≤ i) (i1 : i ≤ 9223372036854775807) (n0 : -9223372036854775808 ≤ n) (n1 : n ≤ 9223372036854775807) :
    Calls Tryd.prog 56 #[.string leaf, .int .i64 i, .int .i64 n, .slice p ss.length cap, .string root] w fun e w' => e = .returned (.bool (incA leaf i n ss root)) ∧ Below w.heap.size w w' := by
  have HT : Hid (Tabs w) := hT
  have HP : Hid (TxtAt w p ss) := hp
  clear hT hp
  have H0 : Hid (incA leaf i n ss root = if 0 ≤ i ∧ i < n ∧ ss.length ≤ 63 ∧ leaf.size = 32 ∧ root.size = 32 ∧ wideB ss = true then decide (cl leaf (dirs i.toNat n.toNat) ss = some root) else false) := rfl
  by_cases c1 : 0 ≤ i
  case neg =>
    have d1 : decide (i < 0) = true := by simp; omega
    have H : Hid (incA leaf i n ss root = false) := H0.out.trans (if_neg fun h => c1 h.1)
    go_enter Tryd.func56, Tryd.ntmps56
    go_wp2_with fail
    go_ret
    exact ⟨ret_bool H.out.symm, Below.refl _ _⟩
  have d1 : decide (i < 0) = false := by simp; omega
  by_cases c2 : i < n
  case neg =>
    have d2 : decide (n ≤ i) = true := by simp; omega
    have H : Hid (incA leaf i n ss root = false) := H0.out.trans (if_neg fun h => c2 h.2.1)
    go_enter Tryd.func56, Tryd.ntmps56
    go_wp2_with fail
    go_ret
    exact ⟨ret_bool H.out.symm, Below.refl _ _⟩
  have d2 : decide (n ≤ i) = false := by simp; omega
  by_cases c3 : ss.length ≤ 63
  case neg =>
    have d3 : decide (63 < (ss.length : Int)) = true := by simp; omega
    have H : Hid (incA leaf i n ss root = false) := H0.out.trans (if_neg fun h => c3 h.2.2.1)
    go_enter Tryd.func56, Tryd.ntmps56
    go_wp2_with fail
    go_ret
    exact ⟨ret_bool H.out.symm, Below.refl _ _⟩
  have d3 : decide (63 < (ss.length : Int)) = false := by simp; omega
  have B0 : Hid (Below w.heap.size w (w.alloc (.cells #[.string leaf, .string root] 9))) := (Below.refl _ _).alloc (Nat.le_refl _) _
  have HA := areD_any _ 2 [leaf, root] _ (two_texts w leaf root 9) (by simp) (by simp)
  by_cases c4 : leaf.size = 32 ∧ root.size = 32
  case neg =>
    have H : Hid (incA leaf i n ss root = false) := H0.out.trans (if_neg fun h => c4 ⟨h.2.2.2.1, h.2.2.2.2.1⟩)
    have HW : Hid (wideB [leaf, root] = false) := by show _ = _; simp only [wideB, List.all_cons, List.all_nil, Bool.and_true]; simpa [Bool.and_eq_false_iff] using fun a b => c4 ⟨a, b⟩
    rw [HW.out] at HA
    clear c4
    go_enter Tryd.func56, Tryd.ntmps56
    go_wp2_with fail
    refine HA.mono ?_
    rintro e w1 ⟨rfl, hw1⟩
    subst hw1
    go_wp2_with fail
    go_ret
    exact ⟨ret_bool H.out.symm, B0.out⟩
  obtain ⟨c4, c5⟩ := c4
  have HW : Hid (wideB [leaf, root] = true) := by show _ = _; simp [wideB, c4, c5]
  rw [HW.out] at HA
  clear HW
  obtain ⟨W1, hW1⟩ : ∃ W1, W1 = w.alloc (.cells #[.string leaf, .string root] 9) := ⟨_, rfl⟩
  rw [← hW1] at HA B0
  have HWA : Hid (W1 = w.alloc (.cells #[.string leaf, .string root] 9)) := hW1
  clear hW1
  have HD := areD_any p cap ss W1 (HP.out.below B0.out) hn hcap
  cases c6 : wideB ss
  · have H : Hid (incA leaf i n ss root = false) := H0.out.trans (if_neg fun h => by rw [c6] at h; exact absurd h.2.2.2.2.2 (by simp))
    rw [c6] at HD
    clear c6
    go_enter Tryd.func56, Tryd.ntmps56
    go_wp2_with fail
    rw [← HWA.out]
    refine HA.mono ?_
    rintro e w1 ⟨rfl, hw1⟩
    subst hw1
    go_wp2_with fail
    refine HD.mono ?_
    rintro e w1 ⟨rfl, hw1⟩
    subst hw1
    go_wp2_with fail
    go_ret
    exact ⟨ret_bool H.out.symm, B0.out⟩
  · have H : Hid (incA leaf i n ss root = decide (cl leaf (dirs i.toNat n.toNat) ss = some root)) := H0.out.trans (if_pos ⟨c1, c2, c3, c4, c5, c6⟩)
    rw [c6] at HD
    have h32 := wideB_all c6
    have HE : Hid (∀ a, a = (dirs i.toNat n.toNat).foldl (stepP ss) (leaf, 0) → ((a.1 = root ∧ a.2 = ss.length) ↔ cl leaf (dirs i.toNat n.toNat) ss = some root)) := by
      rintro a rfl
      have := foldP h32 c5 (dirs i.toNat n.toNat) leaf 0 c4 (Nat.zero_le _)
      rwa [List.drop_zero] at this
    clear c6 H0
    obtain ⟨I, rfl⟩ := Int.eq_ofNat_of_zero_le c1
    obtain ⟨M, rfl⟩ := Int.eq_ofNat_of_zero_le (show 0 ≤ n by omega)
    have HTK := taker_any p ss cap W1
    have HTP := fun w' => takePath_any M W1 W1.heap.size (W1.heap.size + 1) p ss cap 0 I leaf w' (HT.out.below B0.out HT.out.1) (HP.out.below B0.out) (by omega) hcap h32 (by omega) (by omega) (by omega)
    simp only [Int.toNat_natCast] at HE H
    generalize hS : (dirs I M).foldl (stepP ss) (leaf, 0) = S at *
    have HE2 : Hid ((S.1 = root ∧ S.2 = ss.length) ↔ cl leaf (dirs I M) ss = some root) := HE.out S rfl
    clear hS HE h32
    obtain ⟨X, a⟩ := S
    have HTP' : Hid (∀ w', TkS W1 W1.heap.size (W1.heap.size + 1) p ss cap 0 w' → Calls Tryd.prog 68 #[.string leaf, .int .i64 (I : Int), .int .i64 (M : Int), takeF W1.heap.size (W1.heap.size + 1)] w' fun e w'' => e = .returned (.string X) ∧ TkS W1 W1.heap.size (W1.heap.size + 1) p ss cap a w'') := HTP
    clear HTP
    dsimp only at HE2
    unfold takeF at HTP' HTK
    unfold leftF at HTK
    by_cases hx : X = root
    · have q1 : (X.toList == root.toList) = true := by rw [hx]; simp
      clear hx
      have hx : Hid (X = root) := toList_inj' q1
      by_cases ha : a = ss.length
      · have HR : Hid (decide (cl leaf (dirs I M) ss = some root) = true) := decide_eq_true (HE2.out.1 ⟨hx.out, ha⟩)
        go_enter Tryd.func56, Tryd.ntmps56
        go_wp2_with fail
        rw [← HWA.out]
        refine HA.mono ?_
        rintro e w1 ⟨rfl, hw1⟩
        subst hw1
        go_wp2_with fail
        refine HD.mono ?_
        rintro e w1 ⟨rfl, hw1⟩
        subst hw1
        go_wp2_with fail
        refine HTK.mono ?_
        rintro e w2 ⟨rfl, K2⟩
        have HK2 : Hid _ := K2
        clear K2
        go_wp2_with fail
        refine (HTP'.out _ HK2.out).mono ?_
        rintro e w3 ⟨rfl, K3⟩
        have HK3 : Hid (TkS w1 w1.heap.size (w1.heap.size + 1) p ss cap a w3) := K3
        clear K3
        go_wp2_with fail
        refine (left_any w1 w1.heap.size (w1.heap.size + 1) p ss cap a w3 (by omega) HK3.out).mono ?_
        rintro e w4 ⟨rfl, hw4⟩
        subst hw4
        go_wp2_with fail
        go_ret
        exact ⟨ret_bool (by rw [H.out, HR.out]; try (simp <;> omega)), B0.out.trans (HK3.out.bel.mono B0.out.size)⟩
      · have HR : Hid (decide (cl leaf (dirs I M) ss = some root) = false) := decide_eq_false fun h => ha (HE2.out.2 h).2
        go_enter Tryd.func56, Tryd.ntmps56
        go_wp2_with fail
        rw [← HWA.out]
        refine HA.mono ?_
        rintro e w1 ⟨rfl, hw1⟩
        subst hw1
        go_wp2_with fail
        refine HD.mono ?_
        rintro e w1 ⟨rfl, hw1⟩
        subst hw1
        go_wp2_with fail
        refine HTK.mono ?_
        rintro e w2 ⟨rfl, K2⟩
        have HK2 : Hid _ := K2
        clear K2
        go_wp2_with fail
        refine (HTP'.out _ HK2.out).mono ?_
        rintro e w3 ⟨rfl, K3⟩
        have HK3 : Hid (TkS w1 w1.heap.size (w1.heap.size + 1) p ss cap a w3) := K3
        clear K3
        go_wp2_with fail
        refine (left_any w1 w1.heap.size (w1.heap.size + 1) p ss cap a w3 (by omega) HK3.out).mono ?_
        rintro e w4 ⟨rfl, hw4⟩
        subst hw4
        go_wp2_with fail
        go_ret
        exact ⟨ret_bool (by rw [H.out, HR.out]; try (simp <;> omega)), B0.out.trans (HK3.out.bel.mono B0.out.size)⟩
    · have HR : Hid (decide (cl leaf (dirs I M) ss = some root) = false) := decide_eq_false fun h => hx (HE2.out.2 h).1
      have q1 : (X.toList == root.toList) = false := by rw [beq_eq_false_iff_ne]; exact fun h => hx (toList_inj' (by rw [h]; simp))
      clear hx
      go_enter Tryd.func56, Tryd.ntmps56
      go_wp2_with fail
      rw [← HWA.out]
      refine HA.mono ?_
      rintro e w1 ⟨rfl, hw1⟩
      subst hw1
      go_wp2_with fail
      refine HD.mono ?_
      rintro e w1 ⟨rfl, hw1⟩
      subst hw1
      go_wp2_with fail
      refine HTK.mono ?_
      rintro e w2 ⟨rfl, K2⟩
      have HK2 : Hid _ := K2
      clear K2
      go_wp2_with fail
      refine (HTP'.out _ HK2.out).mono ?_
      rintro e w3 ⟨rfl, K3⟩
      have HK3 : Hid (TkS w1 w1.heap.size (w1.heap.size + 1) p ss cap a w3) := K3
      clear K3
      go_wp2_with fail
      go_ret
      exact ⟨ret_bool (by rw [H.out, HR.out]), B0.out.trans (HK3.out.bel.mono B0.out.size)⟩
end Go.Proofs.YtfdihkgkiiekcaaDoor
