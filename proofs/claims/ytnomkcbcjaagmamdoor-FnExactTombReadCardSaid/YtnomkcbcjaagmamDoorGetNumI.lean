/-
  What the program's readNum and GetNum answer: 'getN' of the text and the place.
  Conditions: the string fits the form's own reach; the place is an int64; for GetNum: the variable errors.errorType holds the handle of the type error.
-/
import Derived.Test.YtnomkcbcjaagmamDoorRows
import Derived.Test.YtnomkcbcjaagmamDoorBytes
import Derived.Test.YtnomkcbcjaagmamDoorScanMath
import Derived.Test.YtnomkcbcjaagmamDoorReadBits
import Derived.Test.YtnomkcbcjaagmamDoorGetVal
import Derived.Test.YtnomkcbcjaagmamDoorRdNumI
import Derived.Test.YtnomkcbcjaagmamDoorCodeOf
import Derived.Handy
namespace Go.Proofs.YtnomkcbcjaagmamDoor
open Go.RowKit Go.Extern.Stop Go.Stop Go.Extern
set_option linter.unusedVariables false

set_option maxHeartbeats 2000000 in
theorem implGetNum_any (s : ByteArray) (at0 : Int) (w : World) (hs : s.size ≤ maxLen) (h1 : at0 ≤ 9223372036854775807) (hg : Laid w) :
    Calls Tryd.prog 21 #[.string s, .int .i64 at0] w fun e w' => e = .returned (getV s at0) ∧ Below w.heap.size w w' := by
  rcases getN_cases s at0 with ⟨n, b, hgn⟩ | ⟨c, hc, hgn⟩
  · have HRN : Hid (rnV s at0 = .tuple #[.int .i64 n, .int .i64 b, .nilIface]) := rnV_okk hgn
    have H : Hid (getV s at0 = numOut n b 0) := by show _ = _; unfold getV; rw [hgn]
    clear hgn hg
    go_enter Tryd.func21, Tryd.ntmps21
    go_wp2_with (first | (go_at_call 30; refine (readNum_any _ _ _ hs h1).mono ?_; rintro e w1 ⟨rfl, hw⟩; rw [HRN.out]; subst hw) | (go_at_call 31; refine (codeOf_nil _).mono ?_; rintro e w2 ⟨rfl, hb⟩; obtain ⟨hcc, hff⟩ := bcell hb))
    refine bodyPost_ret (v := numOut n b 0) (by simp [numOut, results, Tryd.results21, go_sem, hcc]) rfl ⟨ret_valN H.out.symm, ?_⟩
    exact ((((Below.refl _ _).alloc (Nat.le_refl _) _).trans (hb.mono (by simp))).setCell (Nat.le_refl _) _).setCell (Nat.le_refl _) _ |>.setCell (Nat.le_refl _) _
  · have HRN : Hid (rnV s at0 = .tuple #[.int .i64 0, .int .i64 0, .iface 59 (.agg #[.int .i64 c])]) := rnV_of hgn hc
    have H : Hid (getV s at0 = numOut 0 0 c) := by show _ = _; unfold getV; rw [hgn]
    have HG : Hid (∀ o, Laid (w.alloc o)) := fun o => hg.below ((Below.refl _ _).alloc (Nat.le_refl _) o)
    clear hgn hg hc
    go_enter Tryd.func21, Tryd.ntmps21
    go_wp2_with (first | (go_at_call 30; refine (readNum_any _ _ _ hs h1).mono ?_; rintro e w1 ⟨rfl, hw⟩; rw [HRN.out]; subst hw) | (go_at_call 31; refine (codeOf_hit _ _ (HG.out _)).mono ?_; rintro e w2 ⟨rfl, hb⟩; obtain ⟨hcc, hff⟩ := bcell hb))
    refine bodyPost_ret (v := numOut 0 0 c) (by simp [numOut, results, Tryd.results21, go_sem, hcc]) rfl ⟨ret_valN H.out.symm, ?_⟩
    exact ((((Below.refl _ _).alloc (Nat.le_refl _) _).trans (hb.mono (by simp))).setCell (Nat.le_refl _) _).setCell (Nat.le_refl _) _ |>.setCell (Nat.le_refl _) _

end Go.Proofs.YtnomkcbcjaagmamDoor
