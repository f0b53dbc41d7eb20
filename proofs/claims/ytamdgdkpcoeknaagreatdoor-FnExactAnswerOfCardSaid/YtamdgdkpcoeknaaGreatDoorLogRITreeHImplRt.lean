/-
  Parts of one proof, laid as one text: LogRI, TreeH, ImplRt; what each says stands at its head.
-/
import Derived.Test.YtamdgdkpcoeknaaGreatDoorRows
import Derived.Test.YtamdgdkpcoeknaaGreatDoorBytesDigMath
import Derived.Test.YtamdgdkpcoeknaaGreatDoorTreeMathSlASlBBxKOwnS
import Derived.Test.YtamdgdkpcoeknaaGreatDoorAsDAs2CodeOfRngXScopesReadBits
import Derived.Test.YtamdgdkpcoeknaaGreatDoorFldIsTimeIGrKSpecGNSpecGTTillTwoFldN
import Derived.Test.YtamdgdkpcoeknaaGreatDoorTimeBPutMathPutNumJoinedPutTextFldMath
import Derived.Test.YtamdgdkpcoeknaaGreatDoorLgMathLgAtKOneKFldBlkRwBlkTakes
import Derived.Test.YtamdgdkpcoeknaaGreatDoorImplLg
import Derived.Test.YtamdgdkpcoeknaaGreatDoorLeavesI
import Derived.Handy
import Derived.WalkSpells
import Derived.OwnWalk
import Derived.Test.YtamdgdkpcoeknaaGreatDoorAll2LeafNodeTree2Path2
import Derived.Test.YtamdgdkpcoeknaaGreatDoorHalvesTreePutterPathI
import Derived.Test.YtamdgdkpcoeknaaGreatDoorGetValGetTxtNumMathFldRdNumFromTmbMath
import Derived.Test.YtamdgdkpcoeknaaGreatDoorLawLmLgAnsLgRtTakesL
import Derived.Test.YtamdgdkpcoeknaaGreatDoorImplFCBlNot
import Derived.Deep.RegionHeld3
import Derived.Deep.Cut
/-
  Whether a log is right, as the program answers.
  Conditions: the cells of Rows and Leaves hold the rows and leaves; the tables of the digest and errors.errorType are laid.
-/
namespace Go.Proofs.YtamdgdkpcoeknaaGreatDoor
open Go.RowKit Go.Lib
set_option linter.unusedVariables false
set_option maxRecDepth 20000

theorem im_parts (rs : List Rw) (lv : List ByteArray) (now : Int) : lgB rs lv now = (timeB now && ((decide (rs.length ≤ 6) && rsB rs now) && lvOk rs now lv)) := by rw [lg_eq]; rfl
theorem rs_all {rs : List Rw} {now : Int} (h : rsB rs now = true) : ∀ r ∈ rs, rB r = true := fun r hr => by
  unfold rsB at h
  rw [List.all_eq_true] at h
  exact (Bool.and_eq_true_iff.1 (h r hr)).1
set_option maxHeartbeats 2000000 in
theorem right_any (p : Option Addr) (lv : List ByteArray) (cp : Nat) (q : Option Addr) (rs : List Rw) (cq : Nat) (now : Int) (w : World) (hT : Tabs w) (hg : Laid w) (hA : LgAt p lv cp q rs cq w) :
    Calls Tryz.prog 66 #[.agg (wkC p lv cp q rs cq now)] w fun e w' => e = .returned (.bool (lgB rs lv now)) ∧ Below w.heap.size w w' := by
  obtain ⟨W1, hW1⟩ : ∃ W1, W1 = w.alloc (.cells #[.slice p lv.length cp, .slice q rs.length cq, .int .i64 now] 73) := ⟨_, rfl⟩
  have HW1 : Hid (W1 = w.alloc (.cells #[.slice p lv.length cp, .slice q rs.length cq, .int .i64 now] 73)) := hW1
  have K1 : Hid (Bxs W1 w.heap.size 73 #[.slice p lv.length cp, .slice q rs.length cq, .int .i64 now]) := by rw [hW1]; exact Bxs.new _ _ _
  have B1 : Hid (Below w.heap.size w W1) := by rw [hW1]; exact (Below.refl _ _).alloc (Nat.le_refl _) _
  have HA1 : Hid (LgAt p lv cp q rs cq W1) := hA.below B1.out
  have HT1 : Hid (Tabs W1) := hT.to B1.out
  have HG1 : Hid (Laid W1) := hg.below B1.out
  have hTi := timeRight_any now W1
  have hRR := rowsRight_any p lv cp q rs cq now W1 HT1.out HA1.out.rw HA1.out.rn HA1.out.rc HA1.out.rz
  have HLR : Hid (∀ x, Below W1.heap.size W1 x → rs.length ≤ 6 → rsB rs now = true → Calls Tryz.prog 97 #[.agg #[.slice p lv.length cp, .slice q rs.length cq, .int .i64 now]] x fun e w' => e = .returned (.bool (lvOk rs now lv)) ∧ Below x.heap.size x w') := fun x hb h6 hr => leavesRight_any p lv cp q rs cq now x (HT1.out.to hb) (HG1.out.below hb) (HA1.out.tx.below hb) hA.ln hA.lc hA.lz (HA1.out.rw.below hb) hA.rc (rs_all hr) hA.rz h6
  have HE : Hid (lgB rs lv now = (timeB now && ((decide (rs.length ≤ 6) && rsB rs now) && lvOk rs now lv))) := im_parts rs lv now
  rw [HE.out]
  unfold wkC at hRR ⊢
  obtain ⟨x0, x1, x2⟩ := K1.out.three
  rw [HW1.out] at x0 x1 x2
  clear hW1 hT hg hA HT1 HG1 HA1 HE
  cases ht : timeB now with
  | false =>
    rw [ht] at hTi
    clear hRR HLR
    go_enter Tryz.func66, Tryz.ntmps66
    go_wp2_with fail
    rw [← HW1.out]
    refine hTi.mono ?_
    rintro e y ⟨rfl, rfl⟩
    go_wp2_with fail
    go_ret
    exact ⟨rfl, B1.out⟩
  | true =>
    rw [ht] at hTi
    cases hr : (decide (rs.length ≤ 6) && rsB rs now) with
    | false =>
      rw [hr] at hRR
      clear HLR
      go_enter Tryz.func66, Tryz.ntmps66
      go_wp2_with fail
      rw [← HW1.out]
      refine hTi.mono ?_
      rintro e y ⟨rfl, rfl⟩
      rw [← HW1.out] at x0 x1 x2
      go_wp2_with fail
      refine hRR.mono ?_
      rintro e y2 ⟨rfl, b2⟩
      go_wp2_with fail
      go_ret
      exact ⟨rfl, chainB B1.out b2⟩
    | true =>
      rw [hr] at hRR
      obtain ⟨h6, hrs⟩ := Bool.and_eq_true_iff.1 hr
      have HLR2 : Hid (∀ x, Below W1.heap.size W1 x → Calls Tryz.prog 97 #[.agg #[.slice p lv.length cp, .slice q rs.length cq, .int .i64 now]] x fun e w' => e = .returned (.bool (lvOk rs now lv)) ∧ Below x.heap.size x w') := fun x hb => HLR.out x hb (of_decide_eq_true h6) hrs
      clear HLR h6 hrs hr
      generalize lvOk rs now lv = R at *
      go_enter Tryz.func66, Tryz.ntmps66
      go_wp2_with fail
      rw [← HW1.out]
      refine hTi.mono ?_
      rintro e y ⟨rfl, rfl⟩
      rw [← HW1.out] at x0 x1 x2
      go_wp2_with fail
      refine hRR.mono ?_
      rintro e y2 ⟨rfl, b2⟩
      have hL := HLR2.out y2 b2
      clear x0 x1 x2 hRR hTi HLR2
      obtain ⟨x0, x1, x2⟩ := (K1.out.below b2).three
      go_wp2_with fail
      refine hL.mono ?_
      rintro e y3 ⟨rfl, b3⟩
      clear hL
      go_wp2_with fail
      go_ret
      exact ⟨rfl, chainB (chainB B1.out b2) b3⟩
end Go.Proofs.YtamdgdkpcoeknaaGreatDoor
/-
  What TreeHash answers, in the program and in the specification: 'treeA': of right entries their tree, else nothing.
-/
namespace Go.Proofs.YtamdgdkpcoeknaaGreatDoor
open Go.RowKit Go.Lib
set_option linter.unusedVariables false
set_option maxRecDepth 20000

def treeA (ss : List ByteArray) : ByteArray := if entB ss then treeB ss else ByteArray.empty
end Go.Proofs.YtamdgdkpcoeknaaGreatDoor
/-
  RootOf and HeadText, as the program answers.
  Conditions: the cells hold the rows and leaves; the tables of the digest and errors.errorType are laid.
-/
namespace Go.Proofs.YtamdgdkpcoeknaaGreatDoor
open Go.RowKit Go.Lib
set_option linter.unusedVariables false
set_option maxRecDepth 20000

theorem count_any (p : Option Addr) (n cp : Nat) (w : World) : Calls Tryz.prog 68 #[.slice p n cp] w fun e w' => e = .returned (.int .i64 (n : Int)) ∧ w' = w := by
  go_enter Tryz.func68, Tryz.ntmps68
  go_wp2_with fail
  go_ret
  exact ⟨rfl, rfl⟩
def rotB (lv : List ByteArray) (n : Int) : ByteArray := if 0 ≤ n ∧ n ≤ (lv.length : Int) then treeB (lv.take n.toNat) else ByteArray.empty
end Go.Proofs.YtamdgdkpcoeknaaGreatDoor
