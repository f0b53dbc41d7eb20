/-
  The program's takeProof: what is taken, step by step, makes the trees of old entries and of size.
  Conditions: the proof's cells hold the texts; the two tables lie as the program's text lays them.
-/
import Derived.Test.YtfdihkgkiiekcaaDoorRows
import Derived.Test.YtfdihkgkiiekcaaDoorBytesDigMath
import Derived.Test.YtfdihkgkiiekcaaDoorTreeMath
import Derived.Test.YtfdihkgkiiekcaaDoorSlASlBBxK
import Derived.Test.YtfdihkgkiiekcaaDoorPowerHalvesTreeTree2TreeHPathMathIncMath
import Derived.Test.YtfdihkgkiiekcaaDoorAll2LeafNode
import Derived.Test.YtfdihkgkiiekcaaDoorTakerTakePath
import Derived.Test.YtfdihkgkiiekcaaDoorConMathProofLaw
import Derived.Handy
namespace Go.Proofs.YtfdihkgkiiekcaaDoor
open Go.RowKit Go.Lib
set_option linter.unusedVariables false
set_option maxRecDepth 20000

set_option maxHeartbeats 1000000 in
theorem takeProof_any (N : Nat) : ∀ (W0 : World) (L A : Nat) (p : Option Addr) (ss : List ByteArray) (cap a m : Nat) (whole : ByteArray) (w : World), Tabs W0 → TxtAt W0 p ss → ss.length ≤ 1048576 → ss.length ≤ cap → (∀ x ∈ ss, x.size = 32) →
    whole.size ≤ 32 → 1 ≤ m → m ≤ N → N ≤ 9223372036854775807 → TkS W0 L A p ss cap a w →
    Calls Tryd.prog 61 #[.int .i64 (m : Int), .int .i64 (N : Int), .string whole, takeF L A] w fun e w' => e = .returned (.tuple #[.string (startC ss (pd m N) whole a).1, .string (startC ss (pd m N) whole a).2.1]) ∧ TkS W0 L A p ss cap (startC ss (pd m N) whole a).2.2 w' := by
  induction N using Nat.strongRecOn with
  | _ N ih =>
  intro W0 L A p ss cap a m whole w hT hp hn hcap h32 hwh hm1 hm hN hK
  have HT : Hid (Tabs W0) := hT
  have HP : Hid (TxtAt W0 p ss) := hp
  have H32 : Hid (∀ x ∈ ss, x.size = 32) := h32
  have HK : Hid (TkS W0 L A p ss cap a w) := hK
  clear hT hp h32 hK
  unfold takeF at ih ⊢
  by_cases he : m = N
  · subst he
    have d0 : ((m : Int) == (m : Int)) = true := by simp
    rw [pd_all]
    clear ih
    by_cases hz : whole.size = 0
    · have HS : Hid (startC ss [] whole a = (tk ss a, tk ss a, nx ss a)) := by show _ = _; unfold startC seedC; simp [lft, hz]
      have hwe : whole = ByteArray.empty := ByteArray.ext (Array.eq_empty_of_size_eq_zero hz)
      subst hwe
      have hc := take_any W0 L A p ss cap a w HP.out hn hcap HK.out
      rw [HS.out]
      clear HS
      generalize tk ss a = X at *
      go_enter Tryd.func61, Tryd.ntmps61
      go_wp2_with fail
      refine hc.mono ?_
      rintro e w3 ⟨rfl, K3⟩
      have HK3 : Hid (TkS W0 L A p ss cap (nx ss a) w3) := K3
      clear K3
      go_wp2_with fail
      go_ret2
      exact ⟨rfl, HK3.out⟩
    · have HS : Hid (startC ss [] whole a = (whole, whole, a)) := by show _ = _; unfold startC seedC; simp [lft, hz]
      have q0 : (whole.toList == []) = false := by
        rw [beq_eq_false_iff_ne, ByteArray.toList_eq]
        intro h
        apply hz
        rw [size_eq, h]; rfl
      rw [HS.out]
      clear HS
      go_enter Tryd.func61, Tryd.ntmps61
      go_wp2_with fail
      go_ret2
      exact ⟨rfl, HK.out⟩
  · have d0 : ((m : Int) == (N : Int)) = false := by simp; omega
    have h2 : 2 ≤ N := by omega
    have h1 := halfN_lt h2
    have h0 := halfN_pos N
    have hH := fun w => power_any N w h2 hN
    by_cases hik : m ≤ halfN N
    · have I := ih (halfN N) h1 W0 L A p ss cap a m whole w HT.out HP.out hn hcap H32.out hwh hm1 hik (by omega) HK.out
      have z1 := startC_size H32.out (pd m (halfN N)) hwh a
      rw [pd_left h2 he hik, startC_left]
      generalize startC ss (pd m (halfN N)) whole a = S at *
      obtain ⟨T, U, a1⟩ := S
      have HS : Hid (stepC ss (T, U, a1) false = (T, nodeA U (tk ss a1), nx ss a1)) := rfl
      have z2 := tk_size H32.out a1
      dsimp only at I z1
      obtain ⟨z1, z1'⟩ := z1
      rw [HS.out]
      clear HS
      have HTk : Hid (∀ w', TkS W0 L A p ss cap a1 w' → Calls Tryd.prog 70 #[.pointer (some ⟨A, 0, none⟩), .pointer (some ⟨L, 0, none⟩)] w' fun e w'' => e = .returned (.string (tk ss a1)) ∧ TkS W0 L A p ss cap (nx ss a1) w'') := fun w' h => take_any W0 L A p ss cap a1 w' HP.out hn hcap h
      generalize tk ss a1 = X at *
      generalize halfN N = k at *
      clear ih he
      go_enter Tryd.func61, Tryd.ntmps61
      go_wp2_with fail
      refine (hH _).mono ?_
      rintro e w1 ⟨rfl, hw1⟩
      subst hw1
      go_wp2_with fail
      refine I.mono ?_
      rintro e w2 ⟨rfl, K2⟩
      have HK2 : Hid (TkS W0 L A p ss cap a1 w2) := K2
      clear K2
      go_wp2_with fail
      refine (HTk.out _ HK2.out).mono ?_
      rintro e w3 ⟨rfl, K3⟩
      have HK3 : Hid (TkS W0 L A p ss cap (nx ss a1) w3) := K3
      clear K3
      go_wp2_with fail
      refine (implNode_any U X _ (HT.out.below HK3.out.bel HT.out.1) (by unfold maxLen; omega) (by unfold maxLen; omega)).mono ?_
      rintro e w4 ⟨rfl, b4⟩
      go_wp2_with fail
      go_ret2
      exact ⟨rfl, HK3.out.below b4⟩
    · have I := ih (N - halfN N) (by omega) W0 L A p ss cap a (m - halfN N) ByteArray.empty w HT.out HP.out hn hcap H32.out (by simp) (by omega) (by omega) (by omega) HK.out
      have z1 := startC_size H32.out (pd (m - halfN N) (N - halfN N)) (whole := ByteArray.empty) (by simp) a
      rw [pd_right h2 he hik, startC_right]
      generalize startC ss (pd (m - halfN N) (N - halfN N)) ByteArray.empty a = S at *
      obtain ⟨T, U, a1⟩ := S
      have HS : Hid (stepC ss (T, U, a1) true = (nodeA (tk ss a1) T, nodeA (tk ss a1) U, nx ss a1)) := rfl
      have z2 := tk_size H32.out a1
      dsimp only at I z1
      obtain ⟨z1, z1'⟩ := z1
      rw [HS.out]
      clear HS
      have HTk : Hid (∀ w', TkS W0 L A p ss cap a1 w' → Calls Tryd.prog 70 #[.pointer (some ⟨A, 0, none⟩), .pointer (some ⟨L, 0, none⟩)] w' fun e w'' => e = .returned (.string (tk ss a1)) ∧ TkS W0 L A p ss cap (nx ss a1) w'') := fun w' h => take_any W0 L A p ss cap a1 w' HP.out hn hcap h
      generalize tk ss a1 = X at *
      generalize halfN N = k at *
      rw [show (((m - k : Nat) : Int)) = (m : Int) - k by omega, show (((N - k : Nat) : Int)) = (N : Int) - k by omega] at I
      have I' : Hid (Calls Tryd.prog 61 #[.int .i64 ((m : Int) - k), .int .i64 ((N : Int) - k), .string ⟨#[]⟩, .func (.func 70) #[] #[.pointer (some ⟨A, 0, none⟩), .pointer (some ⟨L, 0, none⟩)]] w fun e w' => e = .returned (.tuple #[.string T, .string U]) ∧ TkS W0 L A p ss cap a1 w') := I
      clear ih he I
      go_enter Tryd.func61, Tryd.ntmps61
      go_wp2_with fail
      refine (hH _).mono ?_
      rintro e w1 ⟨rfl, hw1⟩
      subst hw1
      go_wp2_with fail
      refine I'.out.mono ?_
      rintro e w2 ⟨rfl, K2⟩
      have HK2 : Hid (TkS W0 L A p ss cap a1 w2) := K2
      clear K2
      go_wp2_with fail
      refine (HTk.out _ HK2.out).mono ?_
      rintro e w3 ⟨rfl, K3⟩
      have HK3 : Hid (TkS W0 L A p ss cap (nx ss a1) w3) := K3
      clear K3
      go_wp2_with fail
      refine (implNode_any X T _ (HT.out.below HK3.out.bel HT.out.1) (by unfold maxLen; omega) (by unfold maxLen; omega)).mono ?_
      rintro e w4 ⟨rfl, b4⟩
      have HK4 : Hid (TkS W0 L A p ss cap (nx ss a1) w4) := HK3.out.below b4
      go_wp2_with fail
      refine (implNode_any X U _ (HT.out.below HK4.out.bel HT.out.1) (by unfold maxLen; omega) (by unfold maxLen; omega)).mono ?_
      rintro e w5 ⟨rfl, b5⟩
      go_wp2_with fail
      go_ret2
      exact ⟨rfl, HK4.out.below b5⟩
end Go.Proofs.YtfdihkgkiiekcaaDoor
