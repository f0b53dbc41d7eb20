/-
  What the specification's Consistent answers: 'conA'.
  Conditions: old and size are int64; the proof's cells hold the texts.
-/
import Derived.Test.YtfdihkgkiiekcaaDoorRows
import Derived.Test.YtfdihkgkiiekcaaDoorBytesDigMath
import Derived.Test.YtfdihkgkiiekcaaDoorTreeMath
import Derived.Test.YtfdihkgkiiekcaaDoorSlASlBBxK
import Derived.Test.YtfdihkgkiiekcaaDoorWide2Inc2
import Derived.Test.YtfdihkgkiiekcaaDoorSignWIsPow
import Derived.Test.YtfdihkgkiiekcaaDoorAll2LeafNode
import Derived.Test.YtfdihkgkiiekcaaDoorPowerHalvesTreeTree2TreeHPathMathIncMath
import Derived.Test.YtfdihkgkiiekcaaDoorConMathProofLaw
import Derived.Test.YtfdihkgkiiekcaaDoorMac2PutNumAppSSrc
import Derived.Test.YtfdihkgkiiekcaaDoorCon2P
import Derived.Test.YtfdihkgkiiekcaaDoorCon2N
import Derived.Handy
namespace Go.Proofs.YtfdihkgkiiekcaaDoor
open Go.RowKit Go.Lib
set_option linter.unusedVariables false
set_option maxRecDepth 20000

set_option maxHeartbeats 2000000 in
theorem specCon_any (i n : Int) (p : Option Addr) (cap : Nat) (ss : List ByteArray) (leaf root : ByteArray) (w : World) (hp : TxtAt w p ss) (hn : ss.length ≤ 140737488355328) (hcap : ss.length ≤ cap)
    (hls : leaf.size ≤ maxLen) (hrs : root.size ≤ maxLen) (i0 : -9223372036854775808 ≤ i) (i1 : i ≤ 9223372036854775807) (n0 : -9223372036854775808 ≤ n) (n1 : n ≤ 9223372036854775807) :
    Calls Tryd.prog 21 #[.int .i64 i, .int .i64 n, .slice p ss.length cap, .string leaf, .string root] w fun e w' => e = .returned (.bool (conA i n ss leaf root)) ∧ Below w.heap.size w w' := by
  unfold maxLen at hls hrs
  have H0 : Hid (conA i n ss leaf root = if 1 ≤ i ∧ i ≤ n ∧ ss.length ≤ 64 ∧ leaf.size = 32 ∧ root.size = 32 ∧ wideB ss = true then conB i.toNat n.toNat ss leaf root else false) := rfl
  by_cases c3 : ss.length ≤ 64
  case neg =>
    have d1 : decide (64 < (ss.length : Int)) = true := decide_eq_true (by omega)
    have H : Hid (conA i n ss leaf root = false) := H0.out.trans (if_neg fun h => c3 h.2.2.1)
    go_enter Tryd.func21, Tryd.ntmps21
    go_wp2_with fail
    go_ret
    exact ⟨ret_bool H.out.symm, Below.refl _ _⟩
  have d1 : decide (64 < (ss.length : Int)) = false := decide_eq_false (by omega)
  have HD := wide2_any p cap ss w hp (by omega) hcap
  cases c6 : wideB ss
  · have H : Hid (conA i n ss leaf root = false) := H0.out.trans (if_neg fun h => by rw [c6] at h; exact absurd h.2.2.2.2.2 (by simp))
    rw [c6] at HD
    clear c6 hp
    go_enter Tryd.func21, Tryd.ntmps21
    go_wp2_with fail
    refine HD.mono ?_
    rintro e w1 ⟨rfl, hw1⟩
    subst hw1
    go_wp2_with fail
    go_ret
    exact ⟨ret_bool H.out.symm, Below.refl _ _⟩
  by_cases c4 : leaf.size = 32
  case neg =>
    have d2 : ((leaf.size : Int) != 32) = true := by simp; omega
    have H : Hid (conA i n ss leaf root = false) := H0.out.trans (if_neg fun h => c4 h.2.2.2.1)
    rw [c6] at HD
    clear c6 hp
    go_enter Tryd.func21, Tryd.ntmps21
    go_wp2_with fail
    refine HD.mono ?_
    rintro e w1 ⟨rfl, hw1⟩
    subst hw1
    go_wp2_with fail
    go_ret
    exact ⟨ret_bool H.out.symm, Below.refl _ _⟩
  have d2 : ((leaf.size : Int) != 32) = false := by simp; omega
  by_cases c5 : root.size = 32
  case neg =>
    have d3 : ((root.size : Int) != 32) = true := by simp; omega
    have H : Hid (conA i n ss leaf root = false) := H0.out.trans (if_neg fun h => c5 h.2.2.2.2.1)
    rw [c6] at HD
    clear c6 hp
    go_enter Tryd.func21, Tryd.ntmps21
    go_wp2_with fail
    refine HD.mono ?_
    rintro e w1 ⟨rfl, hw1⟩
    subst hw1
    go_wp2_with fail
    go_ret
    exact ⟨ret_bool H.out.symm, Below.refl _ _⟩
  have d3 : ((root.size : Int) != 32) = false := by simp; omega
  by_cases c1 : 1 ≤ i
  case neg =>
    have d4 : decide (i < 1) = true := decide_eq_true (by omega)
    have H : Hid (conA i n ss leaf root = false) := H0.out.trans (if_neg fun h => c1 h.1)
    rw [c6] at HD
    clear c6 hp c4 c5
    go_enter Tryd.func21, Tryd.ntmps21
    go_wp2_with fail
    refine HD.mono ?_
    rintro e w1 ⟨rfl, hw1⟩
    subst hw1
    go_wp2_with fail
    go_ret
    exact ⟨ret_bool H.out.symm, Below.refl _ _⟩
  have d4 : decide (i < 1) = false := decide_eq_false (by omega)
  by_cases c2 : i ≤ n
  case neg =>
    have d5 : decide (n < i) = true := decide_eq_true (by omega)
    have H : Hid (conA i n ss leaf root = false) := H0.out.trans (if_neg fun h => c2 h.2.1)
    rw [c6] at HD
    clear c6 hp c4 c5
    go_enter Tryd.func21, Tryd.ntmps21
    go_wp2_with fail
    refine HD.mono ?_
    rintro e w1 ⟨rfl, hw1⟩
    subst hw1
    go_wp2_with fail
    go_ret
    exact ⟨ret_bool H.out.symm, Below.refl _ _⟩
  rw [H0.out, if_pos ⟨c1, c2, c3, c4, c5, c6⟩]
  obtain ⟨I, rfl⟩ := Int.eq_ofNat_of_zero_le (show 0 ≤ i by omega)
  obtain ⟨M, rfl⟩ := Int.eq_ofNat_of_zero_le (show 0 ≤ n by omega)
  simp only [Int.toNat_natCast]
  by_cases he : I < M
  · cases hq : isPowB I
    · exact specCon_not I M p cap ss leaf root w hp c3 hcap (by omega) he (by omega) c4 c5 c6 hq
    · exact specCon_pow I M p cap ss leaf root w hp c3 hcap (by omega) he (by omega) c4 c5 c6 hq
  · have hIM : I = M := by omega
    have d4 : decide ((I : Int) < 1) = false := decide_eq_false (by omega)
    have d4' : decide (I < 1) = false := decide_eq_false (by omega)
    have d5 : decide ((M : Int) < (I : Int)) = false := decide_eq_false (by omega)
    have d6 : decide (M < I) = false := decide_eq_false (by omega)
    have d7 : ((I : Int) == (M : Int)) = true := by simp; omega
    have HR : Hid (conB I M ss leaf root = decide (ss.length = 0 ∧ leaf = root)) := by
      show _ = _
      unfold conB
      rw [hIM, pd_all, if_pos (show lft [] = true from rfl)]
      cases ss with
      | nil => simp [cl2]
      | cons a t => simp [cl2]
    rw [c6] at HD
    clear c6 hp c4 c5 hIM he H0
    generalize conB I M ss leaf root = R at *
    by_cases hz : ss.length = 0
    · have e1 : ((ss.length : Int) == 0) = true := beq_iff_eq.2 (by omega)
      have HR2 : Hid (R = (leaf.toList == root.toList)) := by
        show _ = _
        rw [HR.out]
        by_cases hq : leaf = root
        · subst hq; simp [hz]
        · rw [decide_eq_false (fun h => hq h.2)]
          exact (beq_eq_false_iff_ne.2 fun hh => hq (toList_inj' (by rw [hh]; simp))).symm
      clear HR hz
      go_enter Tryd.func21, Tryd.ntmps21
      go_wp2_with fail
      refine HD.mono ?_
      rintro e w1 ⟨rfl, hw1⟩
      subst hw1
      go_wp2_with fail
      go_ret
      exact ⟨ret_bool HR2.out.symm, Below.refl _ _⟩
    · have e1 : ((ss.length : Int) == 0) = false := beq_eq_false_iff_ne.2 (by omega)
      have HR2 : Hid (R = false) := HR.out.trans (decide_eq_false (fun h => hz h.1))
      clear HR
      go_enter Tryd.func21, Tryd.ntmps21
      go_wp2_with fail
      refine HD.mono ?_
      rintro e w1 ⟨rfl, hw1⟩
      subst hw1
      go_wp2_with fail
      go_ret
      exact ⟨ret_bool HR2.out.symm, Below.refl _ _⟩
end Go.Proofs.YtfdihkgkiiekcaaDoor
