/-
  The program's takePath and Included: what is taken, step by step, leads from the leaf to a tree; 'incB'.
  Conditions: the path's cells hold the texts; the two tables lie as the program's text lays them.
-/
import Derived.Test.YtfdihkgkiiekcaaDoorRows
import Derived.Test.YtfdihkgkiiekcaaDoorBytes
import Derived.Test.YtfdihkgkiiekcaaDoorTreeMath
import Derived.Test.YtfdihkgkiiekcaaDoorSlA
import Derived.Test.YtfdihkgkiiekcaaDoorPower
import Derived.Test.YtfdihkgkiiekcaaDoorLeafNode
import Derived.Test.YtfdihkgkiiekcaaDoorTaker
import Derived.Handy
namespace Go.Proofs.YtfdihkgkiiekcaaDoor
open Go.RowKit Go.Lib
set_option linter.unusedVariables false
set_option maxRecDepth 20000

theorem nodeA_size (l r : ByteArray) : (nodeA l r).size ≤ 32 := by
  unfold nodeA; split
  · rw [nodeB_size]; omega
  · simp
theorem tk_size {ss : List ByteArray} (hs : ∀ x ∈ ss, x.size = 32) (a : Nat) : (tk ss a).size ≤ 32 := by
  by_cases h : a < ss.length
  · rw [(tk_of hs h).1]; omega
  · rw [tk_out h]; simp
theorem nx_le {ss : List ByteArray} {a : Nat} (h : a ≤ ss.length) : nx ss a ≤ ss.length := by unfold nx; split <;> omega
theorem foldP_size (ss : List ByteArray) (leaf : ByteArray) (hl : leaf.size ≤ 32) (ds : List Bool) : ∀ a, (ds.foldl (stepP ss) (leaf, a)).1.size ≤ 32 := by
  induction ds generalizing leaf with
  | nil => intro a; exact hl
  | cons d ds ih =>
    intro a
    rw [List.foldl_cons]
    refine ih _ ?_ _
    split <;> exact nodeA_size _ _

set_option maxHeartbeats 1000000 in
theorem takePath_any (N : Nat) : ∀ (W0 : World) (L A : Nat) (p : Option Addr) (ss : List ByteArray) (cap a i : Nat) (leaf : ByteArray) (w : World), Tabs W0 → TxtAt W0 p ss → ss.length ≤ 1048576 → ss.length ≤ cap → (∀ x ∈ ss, x.size = 32) →
    leaf.size ≤ 32 → i < N → N ≤ 9223372036854775807 → TkS W0 L A p ss cap a w →
    Calls Tryd.prog 68 #[.string leaf, .int .i64 (i : Int), .int .i64 (N : Int), takeF L A] w fun e w' => e = .returned (.string ((dirs i N).foldl (stepP ss) (leaf, a)).1) ∧ TkS W0 L A p ss cap ((dirs i N).foldl (stepP ss) (leaf, a)).2 w' := by
  induction N using Nat.strongRecOn with
  | _ N ih =>
  intro W0 L A p ss cap a i leaf w hT hp hn hcap h32 hleaf hi hN hK
  have HT : Hid (Tabs W0) := hT
  have HP : Hid (TxtAt W0 p ss) := hp
  have H32 : Hid (∀ x ∈ ss, x.size = 32) := h32
  have HK : Hid (TkS W0 L A p ss cap a w) := hK
  clear hT hp h32 hK
  unfold takeF at ih ⊢
  by_cases h2 : 2 ≤ N
  · have h1 := halfN_lt h2
    have h0 := halfN_pos N
    have hH := fun w => power_any N w h2 hN
    by_cases hik : i < halfN N
    · have I := ih (halfN N) h1 W0 L A p ss cap a i leaf w HT.out HP.out hn hcap H32.out hleaf hik (by omega) HK.out
      have z1 := foldP_size ss leaf hleaf (dirs i (halfN N)) a
      rw [dirs_left h2 hik, List.foldl_append]
      generalize (dirs i (halfN N)).foldl (stepP ss) (leaf, a) = S at *
      obtain ⟨T, a1⟩ := S
      have HS : Hid (nodeA T (tk ss a1) = (List.foldl (stepP ss) (T, a1) [false]).1 ∧ nx ss a1 = (List.foldl (stepP ss) (T, a1) [false]).2) := ⟨rfl, rfl⟩
      have z2 := tk_size H32.out a1
      dsimp only at I z1
      generalize halfN N = k at *
      clear ih
      go_enter Tryd.func68, Tryd.ntmps68
      go_wp2_with fail
      refine (hH _).mono ?_
      rintro e w1 ⟨rfl, hw1⟩
      subst hw1
      go_wp2_with fail
      refine I.mono ?_
      rintro e w2 ⟨rfl, K2⟩
      have HK2 : Hid (TkS W0 L A p ss cap a1 w2) := K2
      clear K2
      go_wp2_with fail
      refine (take_any W0 L A p ss cap a1 _ HP.out hn hcap HK2.out).mono ?_
      rintro e w3 ⟨rfl, K3⟩
      have HK3 : Hid (TkS W0 L A p ss cap (nx ss a1) w3) := K3
      clear K3
      generalize tk ss a1 = X at *
      go_wp2_with fail
      refine (implNode_any T X _ (HT.out.below HK3.out.bel HT.out.1) (by unfold maxLen; omega) (by unfold maxLen; omega)).mono ?_
      rintro e w4 ⟨rfl, b4⟩
      go_wp2_with fail
      go_ret
      exact ⟨ret_str HS.out.1, by rw [← HS.out.2]; exact HK3.out.below b4⟩
    · have I := ih (N - halfN N) (by omega) W0 L A p ss cap a (i - halfN N) leaf w HT.out HP.out hn hcap H32.out hleaf (by omega) (by omega) HK.out
      have z1 := foldP_size ss leaf hleaf (dirs (i - halfN N) (N - halfN N)) a
      rw [dirs_right h2 hik, List.foldl_append]
      generalize (dirs (i - halfN N) (N - halfN N)).foldl (stepP ss) (leaf, a) = S at *
      obtain ⟨T, a1⟩ := S
      have HS : Hid (nodeA (tk ss a1) T = (List.foldl (stepP ss) (T, a1) [true]).1 ∧ nx ss a1 = (List.foldl (stepP ss) (T, a1) [true]).2) := ⟨rfl, rfl⟩
      have z2 := tk_size H32.out a1
      dsimp only at I z1
      generalize halfN N = k at *
      rw [show (((i - k : Nat) : Int)) = (i : Int) - k by omega, show (((N - k : Nat) : Int)) = (N : Int) - k by omega] at I
      clear ih
      go_enter Tryd.func68, Tryd.ntmps68
      go_wp2_with fail
      refine (hH _).mono ?_
      rintro e w1 ⟨rfl, hw1⟩
      subst hw1
      go_wp2_with fail
      refine I.mono ?_
      rintro e w2 ⟨rfl, K2⟩
      have HK2 : Hid (TkS W0 L A p ss cap a1 w2) := K2
      clear K2
      go_wp2_with fail
      refine (take_any W0 L A p ss cap a1 _ HP.out hn hcap HK2.out).mono ?_
      rintro e w3 ⟨rfl, K3⟩
      have HK3 : Hid (TkS W0 L A p ss cap (nx ss a1) w3) := K3
      clear K3
      generalize tk ss a1 = X at *
      go_wp2_with fail
      refine (implNode_any X T _ (HT.out.below HK3.out.bel HT.out.1) (by unfold maxLen; omega) (by unfold maxLen; omega)).mono ?_
      rintro e w4 ⟨rfl, b4⟩
      go_wp2_with fail
      go_ret
      exact ⟨ret_str HS.out.1, by rw [← HS.out.2]; exact HK3.out.below b4⟩
  · have hN1 : N = 1 := by omega
    subst hN1
    have HD : Hid (dirs i 1 = []) := dirs_one (by omega)
    clear ih
    go_enter Tryd.func68, Tryd.ntmps68
    go_wp2
    go_ret
    rw [HD.out]
    exact ⟨rfl, HK.out⟩
end Go.Proofs.YtfdihkgkiiekcaaDoor
