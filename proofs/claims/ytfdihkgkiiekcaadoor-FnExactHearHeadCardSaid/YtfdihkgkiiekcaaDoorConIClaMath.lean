/-
  Parts of one proof, laid as one text: ConI, ClaMath; what each says stands at its head.
-/
import Derived.Test.YtfdihkgkiiekcaaDoorRows
import Derived.Test.YtfdihkgkiiekcaaDoorBytesDigMath
import Derived.Test.YtfdihkgkiiekcaaDoorTreeMath
import Derived.Test.YtfdihkgkiiekcaaDoorSlASlBBxK
import Derived.Test.YtfdihkgkiiekcaaDoorPowerHalvesTreeTree2TreeHPathMathIncMath
import Derived.Test.YtfdihkgkiiekcaaDoorAll2LeafNode
import Derived.Test.YtfdihkgkiiekcaaDoorTakerTakePath
import Derived.Test.YtfdihkgkiiekcaaDoorConMathProofLaw
import Derived.Test.YtfdihkgkiiekcaaDoorTakeProof
import Derived.Handy
import Derived.Test.YtfdihkgkiiekcaaDoorLawSigLAudMathScanMath
import Derived.OwnWalk
/-
  What the program's Consistent answers: 'conA'.
  Conditions: old and size are int64; the proof's cells hold the texts; the two tables lie as the program's text lays them.
-/
namespace Go.Proofs.YtfdihkgkiiekcaaDoor
open Go.RowKit Go.Lib
set_option linter.unusedVariables false
set_option maxRecDepth 20000

set_option maxHeartbeats 2000000 in
theorem implCon_any (m n : Int) (p : Option Addr) (cap : Nat) (ss : List ByteArray) (was root : ByteArray) (w : World) (hT : Tabs w) (hp : TxtAt w p ss) (hn : ss.length ≤ 140737488355328) (hcap : ss.length ≤ cap)
    (m0 : -9223372036854775808 ≤ m) (m1 : m ≤ 9223372036854775807) (n0 : -9223372036854775808 ≤ n) (n1 : n ≤ 9223372036854775807) :
    Calls Tryd.prog 46 #[.int .i64 m, .int .i64 n, .slice p ss.length cap, .string was, .string root] w fun e w' => e = .returned (.bool (conA m n ss was root)) ∧ Below w.heap.size w w' := by
  have HT : Hid (Tabs w) := hT
  have HP : Hid (TxtAt w p ss) := hp
  clear hT hp
  have H0 : Hid (conA m n ss was root = if 1 ≤ m ∧ m ≤ n ∧ ss.length ≤ 64 ∧ was.size = 32 ∧ root.size = 32 ∧ wideB ss = true then conB m.toNat n.toNat ss was root else false) := rfl
  by_cases c1 : 1 ≤ m
  case neg =>
    have d1 : decide (m < 1) = true := decide_eq_true (by omega)
    have H : Hid (conA m n ss was root = false) := H0.out.trans (if_neg fun h => c1 h.1)
    go_enter Tryd.func46, Tryd.ntmps46
    go_wp2_with fail
    go_ret
    exact ⟨ret_bool H.out.symm, Below.refl _ _⟩
  have d1 : decide (m < 1) = false := decide_eq_false (by omega)
  by_cases c2 : m ≤ n
  case neg =>
    have d2 : decide (n < m) = true := decide_eq_true (by omega)
    have H : Hid (conA m n ss was root = false) := H0.out.trans (if_neg fun h => c2 h.2.1)
    go_enter Tryd.func46, Tryd.ntmps46
    go_wp2_with fail
    go_ret
    exact ⟨ret_bool H.out.symm, Below.refl _ _⟩
  have d2 : decide (n < m) = false := decide_eq_false (by omega)
  by_cases c3 : ss.length ≤ 64
  case neg =>
    have d3 : decide (64 < (ss.length : Int)) = true := decide_eq_true (by omega)
    have H : Hid (conA m n ss was root = false) := H0.out.trans (if_neg fun h => c3 h.2.2.1)
    go_enter Tryd.func46, Tryd.ntmps46
    go_wp2_with fail
    go_ret
    exact ⟨ret_bool H.out.symm, Below.refl _ _⟩
  have d3 : decide (64 < (ss.length : Int)) = false := decide_eq_false (by omega)
  have B0 : Hid (Below w.heap.size w (w.alloc (.cells #[.string was, .string root] 9))) := (Below.refl _ _).alloc (Nat.le_refl _) _
  have HA := areD_any _ 2 [was, root] _ (two_texts w was root 9) (by simp) (by simp)
  by_cases c4 : was.size = 32 ∧ root.size = 32
  case neg =>
    have H : Hid (conA m n ss was root = false) := H0.out.trans (if_neg fun h => c4 ⟨h.2.2.2.1, h.2.2.2.2.1⟩)
    have HW : Hid (wideB [was, root] = false) := by show _ = _; simp only [wideB, List.all_cons, List.all_nil, Bool.and_true]; simpa [Bool.and_eq_false_iff] using fun a b => c4 ⟨a, b⟩
    rw [HW.out] at HA
    clear c4
    go_enter Tryd.func46, Tryd.ntmps46
    go_wp2_with fail
    refine HA.mono ?_
    rintro e w1 ⟨rfl, hw1⟩
    subst hw1
    go_wp2_with fail
    go_ret
    exact ⟨ret_bool H.out.symm, B0.out⟩
  obtain ⟨c4, c5⟩ := c4
  have HW : Hid (wideB [was, root] = true) := by show _ = _; simp [wideB, c4, c5]
  rw [HW.out] at HA
  clear HW
  obtain ⟨W1, hW1⟩ : ∃ W1, W1 = w.alloc (.cells #[.string was, .string root] 9) := ⟨_, rfl⟩
  rw [← hW1] at HA B0
  have HWA : Hid (W1 = w.alloc (.cells #[.string was, .string root] 9)) := hW1
  clear hW1
  have HD := areD_any p cap ss W1 (HP.out.below B0.out) hn hcap
  cases c6 : wideB ss
  · have H : Hid (conA m n ss was root = false) := H0.out.trans (if_neg fun h => by rw [c6] at h; exact absurd h.2.2.2.2.2 (by simp))
    rw [c6] at HD
    clear c6
    go_enter Tryd.func46, Tryd.ntmps46
    go_wp2_with fail
    rw [← HWA.out]
    refine HA.mono ?_
    rintro e w1 ⟨rfl, hw1⟩
    subst hw1
    go_wp2_with fail
    refine HD.mono ?_
    rintro e w1 ⟨rfl, hw1⟩
    subst hw1
    go_wp2_with fail
    go_ret
    exact ⟨ret_bool H.out.symm, B0.out⟩
  have H : Hid (conA m n ss was root = conB m.toNat n.toNat ss was root) := H0.out.trans (if_pos ⟨c1, c2, c3, c4, c5, c6⟩)
  rw [c6] at HD
  have h32 := wideB_all c6
  have HE : Hid (((startC ss (pd m.toNat n.toNat) was 0).1 = was ∧ (startC ss (pd m.toNat n.toNat) was 0).2.1 = root ∧ (startC ss (pd m.toNat n.toNat) was 0).2.2 = ss.length) ↔ conB m.toNat n.toNat ss was root = true) := conI h32 c4 c5 _ _
  clear c6 H0
  obtain ⟨I, rfl⟩ := Int.eq_ofNat_of_zero_le (show 0 ≤ m by omega)
  obtain ⟨M, rfl⟩ := Int.eq_ofNat_of_zero_le (show 0 ≤ n by omega)
  have HTK := taker_any p ss cap W1
  have HTP := fun w' => takeProof_any M W1 W1.heap.size (W1.heap.size + 1) p ss cap 0 I was w' (HT.out.below B0.out HT.out.1) (HP.out.below B0.out) (by omega) hcap h32 (by omega) (by omega) (by omega) (by omega)
  simp only [Int.toNat_natCast] at HE H
  have d4 : decide (M < I) = false := decide_eq_false (by omega)
  generalize startC ss (pd I M) was 0 = S at *
  clear h32
  obtain ⟨X, Y, a⟩ := S
  have HTP' : Hid (∀ w', TkS W1 W1.heap.size (W1.heap.size + 1) p ss cap 0 w' → Calls Tryd.prog 61 #[.int .i64 (I : Int), .int .i64 (M : Int), .string was, takeF W1.heap.size (W1.heap.size + 1)] w' fun e w'' => e = .returned (.tuple #[.string X, .string Y]) ∧ TkS W1 W1.heap.size (W1.heap.size + 1) p ss cap a w'') := HTP
  clear HTP
  dsimp only at HE
  unfold takeF at HTP' HTK
  unfold leftF at HTK
  rw [H.out]
  generalize conB I M ss was root = R at *
  clear H
  have hXq : (X.toList == was.toList) = true ∨ ((X.toList == was.toList) = false ∧ Hid (R = false)) := by
    cases hq : (X.toList == was.toList)
    · refine .inr ⟨rfl, ?_⟩
      show R = false
      cases R
      · rfl
      · have := (HE.out.2 rfl).1; subst this; simp at hq
    · exact .inl rfl
  have hYq : (Y.toList == root.toList) = true ∨ ((Y.toList == root.toList) = false ∧ Hid (R = false)) := by
    cases hq : (Y.toList == root.toList)
    · refine .inr ⟨rfl, ?_⟩
      show R = false
      cases R
      · rfl
      · have := (HE.out.2 rfl).2.1; subst this; simp at hq
    · exact .inl rfl
  rcases hXq with q1 | ⟨q1, HR⟩
  · rcases hYq with q2 | ⟨q2, HR⟩
    · have HE2 : Hid (a = ss.length ↔ R = true) := ⟨fun h => HE.out.1 ⟨toList_inj' q1, toList_inj' q2, h⟩, fun h => (HE.out.2 h).2.2⟩
      clear HE
      go_enter Tryd.func46, Tryd.ntmps46
      go_wp2_with fail
      rw [← HWA.out]
      refine HA.mono ?_
      rintro e w1 ⟨rfl, hw1⟩
      subst hw1
      go_wp2_with fail
      refine HD.mono ?_
      rintro e w1 ⟨rfl, hw1⟩
      subst hw1
      go_wp2_with fail
      refine HTK.mono ?_
      rintro e w2 ⟨rfl, K2⟩
      have HK2 : Hid _ := K2
      clear K2
      go_wp2_with fail
      refine (HTP'.out _ HK2.out).mono ?_
      rintro e w3 ⟨rfl, K3⟩
      have HK3 : Hid (TkS w1 w1.heap.size (w1.heap.size + 1) p ss cap a w3) := K3
      clear K3
      go_wp2_with fail
      refine (left_any w1 w1.heap.size (w1.heap.size + 1) p ss cap a w3 (by omega) HK3.out).mono ?_
      rintro e w4 ⟨rfl, hw4⟩
      subst hw4
      have hle := HK3.out.le
      go_wp2_with fail
      go_ret
      refine ⟨ret_bool' ?_, B0.out.trans (HK3.out.bel.mono B0.out.size)⟩
      rw [← HE2.out]; simp; omega
    · clear HE
      go_enter Tryd.func46, Tryd.ntmps46
      go_wp2_with fail
      rw [← HWA.out]
      refine HA.mono ?_
      rintro e w1 ⟨rfl, hw1⟩
      subst hw1
      go_wp2_with fail
      refine HD.mono ?_
      rintro e w1 ⟨rfl, hw1⟩
      subst hw1
      go_wp2_with fail
      refine HTK.mono ?_
      rintro e w2 ⟨rfl, K2⟩
      have HK2 : Hid _ := K2
      clear K2
      go_wp2_with fail
      refine (HTP'.out _ HK2.out).mono ?_
      rintro e w3 ⟨rfl, K3⟩
      have HK3 : Hid (TkS w1 w1.heap.size (w1.heap.size + 1) p ss cap a w3) := K3
      clear K3
      go_wp2_with fail
      go_ret
      exact ⟨ret_bool HR.out.symm, B0.out.trans (HK3.out.bel.mono B0.out.size)⟩
  · clear HE hYq
    go_enter Tryd.func46, Tryd.ntmps46
    go_wp2_with fail
    rw [← HWA.out]
    refine HA.mono ?_
    rintro e w1 ⟨rfl, hw1⟩
    subst hw1
    go_wp2_with fail
    refine HD.mono ?_
    rintro e w1 ⟨rfl, hw1⟩
    subst hw1
    go_wp2_with fail
    refine HTK.mono ?_
    rintro e w2 ⟨rfl, K2⟩
    have HK2 : Hid _ := K2
    clear K2
    go_wp2_with fail
    refine (HTP'.out _ HK2.out).mono ?_
    rintro e w3 ⟨rfl, K3⟩
    have HK3 : Hid (TkS w1 w1.heap.size (w1.heap.size + 1) p ss cap a w3) := K3
    clear K3
    go_wp2_with fail
    go_ret
    exact ⟨ret_bool HR.out.symm, B0.out.trans (HK3.out.bel.mono B0.out.size)⟩
end Go.Proofs.YtfdihkgkiiekcaaDoor
/-
  When two Auditors clash (plain).
-/
namespace Go.Proofs.YtfdihkgkiiekcaaDoor
open Go.RowKit Go.Lib
set_option linter.unusedVariables false

def claE (sa : Int) (ra : ByteArray) (sb : Int) (rb : ByteArray) (ss : List ByteArray) : Bool :=
  if sa = sb then !(ra.toList == rb.toList) else if sa < sb then !conA sa sb ss ra rb else !conA sb sa ss rb ra
def claB (ka : ByteArray) (sa : Int) (ra kb : ByteArray) (sb : Int) (rb : ByteArray) (ss : List ByteArray) : Bool :=
  decide (ss.length ≤ 400) && (audB ka sa ra && (audB kb sb rb && ((ka.toList == kb.toList) && (!(sa == 0) && (!(sb == 0) && claE sa ra sb rb ss)))))
theorem cla_long {ka : ByteArray} {sa : Int} {ra kb : ByteArray} {sb : Int} {rb : ByteArray} {ss : List ByteArray} (h : ¬ ss.length ≤ 400) : claB ka sa ra kb sb rb ss = false := by unfold claB; rw [decide_eq_false h]; rfl
theorem cla_some {ka : ByteArray} {sa : Int} {ra kb : ByteArray} {sb : Int} {rb : ByteArray} {ss : List ByteArray} (h : ss.length ≤ 400) : claB ka sa ra kb sb rb ss = (audB ka sa ra && (audB kb sb rb && ((ka.toList == kb.toList) && (!(sa == 0) && (!(sb == 0) && claE sa ra sb rb ss))))) := by unfold claB; rw [decide_eq_true h, Bool.true_and]
theorem claE_eq {sa : Int} {ra : ByteArray} {rb : ByteArray} {ss : List ByteArray} : claE sa ra sa rb ss = !(ra.toList == rb.toList) := by unfold claE; rw [if_pos rfl]
theorem claE_lt {sa : Int} {ra : ByteArray} {sb : Int} {rb : ByteArray} {ss : List ByteArray} (h : sa < sb) : claE sa ra sb rb ss = !conA sa sb ss ra rb := by unfold claE; rw [if_neg (by omega), if_pos h]
theorem claE_gt {sa : Int} {ra : ByteArray} {sb : Int} {rb : ByteArray} {ss : List ByteArray} (h : sb < sa) : claE sa ra sb rb ss = !conA sb sa ss rb ra := by unfold claE; rw [if_neg (by omega), if_neg (by omega)]
/-- Two Auditors in two boxes. -/
theorem two_boxes (w : World) (T : TypeId) (ka : ByteArray) (sa : Int) (ra kb : ByteArray) (sb : Int) (rb : ByteArray) {W1 : World} (h : W1 = (w.alloc (.cells #[.string ka, .int .i64 sa, .string ra] T)).alloc (.cells #[.string kb, .int .i64 sb, .string rb] T)) :
    Below w.heap.size w W1 ∧ Bxs W1 w.heap.size T #[.string ka, .int .i64 sa, .string ra] ∧ Bxs W1 (w.heap.size + 1) T #[.string kb, .int .i64 sb, .string rb] := by
  subst h
  refine ⟨alB ((Below.refl _ _).alloc (Nat.le_refl _) _) _, (Bxs.new _ _ _).alloc _, ?_⟩
  have h := Bxs.new (w.alloc (.cells #[.string ka, .int .i64 sa, .string ra] T)) T #[.string kb, .int .i64 sb, .string rb]
  rwa [szA] at h
theorem Bxs.thr {w : World} {g : Nat} {T : TypeId} {a b c : Value} (h : Bxs w g T #[a, b, c]) : w.cell? ⟨g, 0, none⟩ = some a ∧ w.cell? ⟨g, 1, none⟩ = some b ∧ w.cell? ⟨g, 2, none⟩ = some c := ⟨h.cell 0, h.cell 1, h.cell 2⟩
end Go.Proofs.YtfdihkgkiiekcaaDoor
