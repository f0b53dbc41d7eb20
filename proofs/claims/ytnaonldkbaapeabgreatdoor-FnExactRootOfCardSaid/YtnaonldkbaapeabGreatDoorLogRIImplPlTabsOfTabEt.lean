/-
  Parts of one proof, laid as one text: LogRI, ImplPl, TabsOf, TabEt; what each says stands at its head.
-/
import Derived.Test.YtnaonldkbaapeabGreatDoorRows
import Derived.Test.YtnaonldkbaapeabGreatDoorBytesDigMath
import Derived.Test.YtnaonldkbaapeabGreatDoorSlASlBBxKTakesOwnS
import Derived.Test.YtnaonldkbaapeabGreatDoorFldIsAsDAs2CodeOfGrK
import Derived.Test.YtnaonldkbaapeabGreatDoorRdNumIGetNumITimeIImplTbImplCb
import Derived.Test.YtnaonldkbaapeabGreatDoorJoinedPutTextFldMath
import Derived.Test.YtnaonldkbaapeabGreatDoorLgMathLgAtKShwK
import Derived.Test.YtnaonldkbaapeabGreatDoorImplLg
import Derived.Test.YtnaonldkbaapeabGreatDoorLeavesI
import Derived.Handy
import Derived.WalkSpells
import Derived.OwnWalk
import Derived.Test.YtnaonldkbaapeabGreatDoorFldRiseScanMath
import Derived.Test.YtnaonldkbaapeabGreatDoorImplFC
import Derived.Test.YtnaonldkbaapeabGreatDoorImplOnImplFk
import Derived.Test.YtnaonldkbaapeabGreatDoorGetValGetTxtNumMathFldRdNumFromTmbMath
import Derived.Test.YtnaonldkbaapeabGreatDoorLeafKLgAnsSpecTg
import Derived.Test.YtnaonldkbaapeabGreatDoorPlaceI
import Derived.Deep.Cut
import Derived.Test.YtnaonldkbaapeabGreatDoorBlockI
import Derived.Lib.LaidTab
import Derived.Lib.LaidU8
import Derived.LaidHandle
/-
  Whether a log is right, as the program answers.
  Conditions: the cells of Rows and Leaves hold the rows and leaves; the tables of the digest and errors.errorType are laid.
-/
namespace Go.Proofs.YtnaonldkbaapeabGreatDoor
open Go.RowKit Go.Lib
set_option linter.unusedVariables false
set_option maxRecDepth 20000

theorem im_parts (rs : List Rw) (lv : List ByteArray) (now : Int) : lgB rs lv now = (timeB now && ((decide (rs.length ≤ 6) && rsB rs now) && lvOk rs now lv)) := by rw [lg_eq]; rfl
theorem rs_all {rs : List Rw} {now : Int} (h : rsB rs now = true) : ∀ r ∈ rs, rB r = true := fun r hr => by
  unfold rsB at h
  rw [List.all_eq_true] at h
  exact (Bool.and_eq_true_iff.1 (h r hr)).1
set_option maxHeartbeats 2000000 in
theorem right_any (p : Option Addr) (lv : List ByteArray) (cp : Nat) (q : Option Addr) (rs : List Rw) (cq : Nat) (now : Int) (w : World) (hT : Tabs w) (hg : Laid w) (hA : LgAt p lv cp q rs cq w) :
    Calls Tryz.prog 47 #[.agg (wkC p lv cp q rs cq now)] w fun e w' => e = .returned (.bool (lgB rs lv now)) ∧ Below w.heap.size w w' := by
  obtain ⟨W1, hW1⟩ : ∃ W1, W1 = w.alloc (.cells #[.slice p lv.length cp, .slice q rs.length cq, .int .i64 now] 59) := ⟨_, rfl⟩
  have HW1 : Hid (W1 = w.alloc (.cells #[.slice p lv.length cp, .slice q rs.length cq, .int .i64 now] 59)) := hW1
  have K1 : Hid (Bxs W1 w.heap.size 59 #[.slice p lv.length cp, .slice q rs.length cq, .int .i64 now]) := by rw [hW1]; exact Bxs.new _ _ _
  have B1 : Hid (Below w.heap.size w W1) := by rw [hW1]; exact (Below.refl _ _).alloc (Nat.le_refl _) _
  have HA1 : Hid (LgAt p lv cp q rs cq W1) := hA.below B1.out
  have HT1 : Hid (Tabs W1) := hT.to B1.out
  have HG1 : Hid (Laid W1) := hg.below B1.out
  have hTi := timeRight_any now W1
  have hRR := rowsRight_any p lv cp q rs cq now W1 HT1.out HA1.out.rw HA1.out.rn HA1.out.rc HA1.out.rz
  have HLR : Hid (∀ x, Below W1.heap.size W1 x → rs.length ≤ 6 → rsB rs now = true → Calls Tryz.prog 75 #[.agg #[.slice p lv.length cp, .slice q rs.length cq, .int .i64 now]] x fun e w' => e = .returned (.bool (lvOk rs now lv)) ∧ Below x.heap.size x w') := fun x hb h6 hr => leavesRight_any p lv cp q rs cq now x (HT1.out.to hb) (HG1.out.below hb) (HA1.out.tx.below hb) hA.ln hA.lc hA.lz (HA1.out.rw.below hb) hA.rc (rs_all hr) hA.rz h6
  have HE : Hid (lgB rs lv now = (timeB now && ((decide (rs.length ≤ 6) && rsB rs now) && lvOk rs now lv))) := im_parts rs lv now
  rw [HE.out]
  unfold wkC at hRR ⊢
  obtain ⟨x0, x1, x2⟩ := K1.out.three
  rw [HW1.out] at x0 x1 x2
  clear hW1 hT hg hA HT1 HG1 HA1 HE
  cases ht : timeB now with
  | false =>
    rw [ht] at hTi
    clear hRR HLR
    go_enter Tryz.func47, Tryz.ntmps47
    go_wp2_with fail
    rw [← HW1.out]
    refine hTi.mono ?_
    rintro e y ⟨rfl, rfl⟩
    go_wp2_with fail
    go_ret
    exact ⟨rfl, B1.out⟩
  | true =>
    rw [ht] at hTi
    cases hr : (decide (rs.length ≤ 6) && rsB rs now) with
    | false =>
      rw [hr] at hRR
      clear HLR
      go_enter Tryz.func47, Tryz.ntmps47
      go_wp2_with fail
      rw [← HW1.out]
      refine hTi.mono ?_
      rintro e y ⟨rfl, rfl⟩
      rw [← HW1.out] at x0 x1 x2
      go_wp2_with fail
      refine hRR.mono ?_
      rintro e y2 ⟨rfl, b2⟩
      go_wp2_with fail
      go_ret
      exact ⟨rfl, chainB B1.out b2⟩
    | true =>
      rw [hr] at hRR
      obtain ⟨h6, hrs⟩ := Bool.and_eq_true_iff.1 hr
      have HLR2 : Hid (∀ x, Below W1.heap.size W1 x → Calls Tryz.prog 75 #[.agg #[.slice p lv.length cp, .slice q rs.length cq, .int .i64 now]] x fun e w' => e = .returned (.bool (lvOk rs now lv)) ∧ Below x.heap.size x w') := fun x hb => HLR.out x hb (of_decide_eq_true h6) hrs
      clear HLR h6 hrs hr
      generalize lvOk rs now lv = R at *
      go_enter Tryz.func47, Tryz.ntmps47
      go_wp2_with fail
      rw [← HW1.out]
      refine hTi.mono ?_
      rintro e y ⟨rfl, rfl⟩
      rw [← HW1.out] at x0 x1 x2
      go_wp2_with fail
      refine hRR.mono ?_
      rintro e y2 ⟨rfl, b2⟩
      have hL := HLR2.out y2 b2
      clear x0 x1 x2 hRR hTi HLR2
      obtain ⟨x0, x1, x2⟩ := (K1.out.below b2).three
      go_wp2_with fail
      refine hL.mono ?_
      rintro e y3 ⟨rfl, b3⟩
      clear hL
      go_wp2_with fail
      go_ret
      exact ⟨rfl, chainB (chainB B1.out b2) b3⟩
set_option maxHeartbeats 1000000 in
theorem implLogRight_any (p : Option Addr) (lv : List ByteArray) (cp : Nat) (q : Option Addr) (rs : List Rw) (cq : Nat) (now : Int) (w : World) (hT : Tabs w) (hg : Laid w) (hA : LgAt p lv cp q rs cq w) :
    Calls Tryz.prog 37 #[.agg (lgC p lv cp q rs cq now)] w fun e w' => e = .returned (.bool (lgB rs lv now)) ∧ Below w.heap.size w w' := by
  obtain ⟨W1, hW1⟩ : ∃ W1, W1 = w.alloc (.cells #[.slice q rs.length cq, .slice p lv.length cp, .int .i64 now] 29) := ⟨_, rfl⟩
  have HW1 : Hid (W1 = w.alloc (.cells #[.slice q rs.length cq, .slice p lv.length cp, .int .i64 now] 29)) := hW1
  have B1 : Hid (Below w.heap.size w W1) := by rw [hW1]; exact (Below.refl _ _).alloc (Nat.le_refl _) _
  have hWk := workOn_any p lv cp q rs cq now W1
  have HR : Hid (∀ x, Below W1.heap.size W1 x → Calls Tryz.prog 47 #[.agg #[.slice p lv.length cp, .slice q rs.length cq, .int .i64 now]] x fun e w' => e = .returned (.bool (lgB rs lv now)) ∧ Below x.heap.size x w') := fun x hb => right_any p lv cp q rs cq now x ((hT.to B1.out).to hb) ((hg.below B1.out).below hb) ((hA.below B1.out).below hb)
  unfold lgC wkC at hWk
  unfold lgC
  generalize lgB rs lv now = R at *
  clear hW1 hT hg hA
  go_enter Tryz.func37, Tryz.ntmps37
  go_wp2_with fail
  rw [← HW1.out]
  refine hWk.mono ?_
  rintro e y ⟨rfl, b2⟩
  have hR := HR.out y b2
  clear hWk HR
  go_wp2_with fail
  refine hR.mono ?_
  rintro e y3 ⟨rfl, b3⟩
  clear hR
  go_wp2_with fail
  go_ret
  exact ⟨rfl, chainB (chainB B1.out b2) b3⟩
end Go.Proofs.YtnaonldkbaapeabGreatDoor
/-
  PlaceOf, TombOf and StatusOf, as the program answers.
  Conditions: the cells hold the rows and leaves; the tables of the digest and errors.errorType are laid.
-/
namespace Go.Proofs.YtnaonldkbaapeabGreatDoor
open Go.RowKit Go.Lib
set_option linter.unusedVariables false
set_option maxRecDepth 20000

set_option maxHeartbeats 2000000 in
theorem implPlaceOf_any (p : Option Addr) (lv : List ByteArray) (cp : Nat) (q : Option Addr) (rs : List Rw) (cq : Nat) (now : Int) (r : Int) (w : World) (hT : Tabs w) (hg : Laid w) (hA : LgAt p lv cp q rs cq w) :
    Calls Tryz.prog 19 #[.agg #[.slice q rs.length cq, .slice p lv.length cp, .int .i64 now], .int .i64 r] w fun e w' => e = .returned (.int .i64 (plO rs lv now r)) ∧ Below w.heap.size w w' := by
  obtain ⟨W1, hW1⟩ : ∃ W1, W1 = w.alloc (.cells #[.slice q rs.length cq, .slice p lv.length cp, .int .i64 now] 29) := ⟨_, rfl⟩
  have HW1 : Hid (W1 = w.alloc (.cells #[.slice q rs.length cq, .slice p lv.length cp, .int .i64 now] 29)) := hW1
  have B1 : Hid (Below w.heap.size w W1) := by rw [hW1]; exact (Below.refl _ _).alloc (Nat.le_refl _) _
  have hWk := workOn_any p lv cp q rs cq now W1
  have HR : Hid (∀ x, Below w.heap.size w x → Calls Tryz.prog 47 #[.agg #[.slice p lv.length cp, .slice q rs.length cq, .int .i64 now]] x fun e w' => e = .returned (.bool (lgB rs lv now)) ∧ Below x.heap.size x w') := fun x hb => right_any p lv cp q rs cq now x (hT.to hb) (hg.below hb) (hA.below hb)
  have HP : Hid (∀ x, Below w.heap.size w x → Calls Tryz.prog 48 #[.slice p lv.length cp, .int .i64 r] x fun e w' => e = .returned (.int .i64 (plB lv r)) ∧ Below x.heap.size x w') := fun x hb => placeOf_any p cp lv r x (hA.tx.below hb) hA.ln hA.lc hA.lz (hg.below hb)
  have HV : Hid (plO rs lv now r = if lgB rs lv now = true then plB lv r else -1) := rfl
  unfold lgC wkC at hWk
  clear hW1 hT hg hA
  generalize plB lv r = PV at *
  go_enter Tryz.func19, Tryz.ntmps19
  go_wp2_with fail
  rw [← HW1.out]
  refine hWk.mono ?_
  rintro e y ⟨rfl, by_⟩
  clear hWk
  obtain ⟨Y2, hY2⟩ : ∃ Y2, Y2 = y.alloc (.cells #[.slice p lv.length cp, .slice q rs.length cq, .int .i64 now] 59) := ⟨_, rfl⟩
  have HY2 : Hid (Y2 = y.alloc (.cells #[.slice p lv.length cp, .slice q rs.length cq, .int .i64 now] 59)) := hY2
  have KY : Hid (Bxs Y2 y.heap.size 59 #[.slice p lv.length cp, .slice q rs.length cq, .int .i64 now]) := by rw [hY2]; exact Bxs.new _ _ _
  have BY : Hid (Below w.heap.size w Y2) := by rw [hY2]; exact alB (chainB B1.out by_) _
  have hR := HR.out Y2 BY.out
  obtain ⟨x0, x1, x2⟩ := KY.out.three
  rw [HY2.out] at x0 x1 x2
  clear hY2 by_ HR
  cases hgg : lgB rs lv now with
  | false =>
    rw [hgg] at hR
    rw [hgg, if_neg Bool.false_ne_true] at HV
    go_wp2_with fail
    rw [← HY2.out]
    refine hR.mono ?_
    rintro e y3 ⟨rfl, b3⟩
    go_wp2_with fail
    go_ret
    exact ⟨by rw [HV.out]; rfl, chainB BY.out b3⟩
  | true =>
    rw [hgg] at hR
    rw [hgg, if_pos rfl] at HV
    go_wp2_with fail
    rw [← HY2.out]
    refine hR.mono ?_
    rintro e y3 ⟨rfl, b3⟩
    clear hR x0 x1 x2
    have x0 := (KY.out.below b3).cell 0
    have hP := HP.out y3 (chainB BY.out b3)
    go_wp2_with fail
    refine hP.mono ?_
    rintro e y4 ⟨rfl, b4⟩
    go_wp2_with fail
    go_ret
    exact ⟨by rw [HV.out]; rfl, chainB (chainB BY.out b3) b4⟩
set_option maxHeartbeats 2000000 in
theorem implTombOf_any (p : Option Addr) (lv : List ByteArray) (cp : Nat) (q : Option Addr) (rs : List Rw) (cq : Nat) (now : Int) (r : Int) (f : Int) (w : World) (hT : Tabs w) (hg : Laid w) (hA : LgAt p lv cp q rs cq w) :
    Calls Tryz.prog 21 #[.agg #[.slice q rs.length cq, .slice p lv.length cp, .int .i64 now], .int .i64 r, .int .i64 f] w fun e w' => e = .returned (.int .i64 (tbO rs lv now r f)) ∧ Below w.heap.size w w' := by
  obtain ⟨W1, hW1⟩ : ∃ W1, W1 = w.alloc (.cells #[.slice q rs.length cq, .slice p lv.length cp, .int .i64 now] 29) := ⟨_, rfl⟩
  have HW1 : Hid (W1 = w.alloc (.cells #[.slice q rs.length cq, .slice p lv.length cp, .int .i64 now] 29)) := hW1
  have B1 : Hid (Below w.heap.size w W1) := by rw [hW1]; exact (Below.refl _ _).alloc (Nat.le_refl _) _
  have hWk := workOn_any p lv cp q rs cq now W1
  have HR : Hid (∀ x, Below w.heap.size w x → Calls Tryz.prog 47 #[.agg #[.slice p lv.length cp, .slice q rs.length cq, .int .i64 now]] x fun e w' => e = .returned (.bool (lgB rs lv now)) ∧ Below x.heap.size x w') := fun x hb => right_any p lv cp q rs cq now x (hT.to hb) (hg.below hb) (hA.below hb)
  have HP : Hid (∀ x, Below w.heap.size w x → Calls Tryz.prog 50 #[.slice p lv.length cp, .int .i64 r, .int .i64 f] x fun e w' => e = .returned (.int .i64 (tbAt lv r f)) ∧ Below x.heap.size x w') := fun x hb => tombOf_any p cp lv r f x (hA.tx.below hb) hA.ln hA.lc hA.lz (hg.below hb)
  have HV : Hid (tbO rs lv now r f = if lgB rs lv now = true then tbAt lv r f else -1) := rfl
  unfold lgC wkC at hWk
  clear hW1 hT hg hA
  generalize tbAt lv r f = PV at *
  go_enter Tryz.func21, Tryz.ntmps21
  go_wp2_with fail
  rw [← HW1.out]
  refine hWk.mono ?_
  rintro e y ⟨rfl, by_⟩
  clear hWk
  obtain ⟨Y2, hY2⟩ : ∃ Y2, Y2 = y.alloc (.cells #[.slice p lv.length cp, .slice q rs.length cq, .int .i64 now] 59) := ⟨_, rfl⟩
  have HY2 : Hid (Y2 = y.alloc (.cells #[.slice p lv.length cp, .slice q rs.length cq, .int .i64 now] 59)) := hY2
  have KY : Hid (Bxs Y2 y.heap.size 59 #[.slice p lv.length cp, .slice q rs.length cq, .int .i64 now]) := by rw [hY2]; exact Bxs.new _ _ _
  have BY : Hid (Below w.heap.size w Y2) := by rw [hY2]; exact alB (chainB B1.out by_) _
  have hR := HR.out Y2 BY.out
  obtain ⟨x0, x1, x2⟩ := KY.out.three
  rw [HY2.out] at x0 x1 x2
  clear hY2 by_ HR
  cases hgg : lgB rs lv now with
  | false =>
    rw [hgg] at hR
    rw [hgg, if_neg Bool.false_ne_true] at HV
    go_wp2_with fail
    rw [← HY2.out]
    refine hR.mono ?_
    rintro e y3 ⟨rfl, b3⟩
    go_wp2_with fail
    go_ret
    exact ⟨by rw [HV.out]; rfl, chainB BY.out b3⟩
  | true =>
    rw [hgg] at hR
    rw [hgg, if_pos rfl] at HV
    go_wp2_with fail
    rw [← HY2.out]
    refine hR.mono ?_
    rintro e y3 ⟨rfl, b3⟩
    clear hR x0 x1 x2
    have x0 := (KY.out.below b3).cell 0
    have hP := HP.out y3 (chainB BY.out b3)
    go_wp2_with fail
    refine hP.mono ?_
    rintro e y4 ⟨rfl, b4⟩
    go_wp2_with fail
    go_ret
    exact ⟨by rw [HV.out]; rfl, chainB (chainB BY.out b3) b4⟩
theorem fc_row {rs : List Rw} {r f : Int} (h1 : 0 ≤ r ∧ r ≤ (rs.length : Int) - 1) (hr : rB (rs.getD r.toNat rwZ) = true) : fcC (rs.getD r.toNat rwZ).k (rs.getD r.toNat rwZ).a (rs.getD r.toNat rwZ).fs f 7 = fcO rs r f := by
  unfold fcC fcO fldOf
  unfold rB at hr
  rw [if_pos hr, if_pos h1]
  rfl
set_option maxHeartbeats 4000000 in
theorem goneCode_any (p : Option Addr) (lv : List ByteArray) (cp : Nat) (q : Option Addr) (rs : List Rw) (cq : Nat) (now r f : Int) (w : World) (hT : Tabs w) (hg : Laid w) (hA : LgAt p lv cp q rs cq w) :
    Calls Tryz.prog 52 #[.agg #[.slice p lv.length cp, .slice q rs.length cq, .int .i64 now], .int .i64 r, .int .i64 f] w fun e w' => e = .returned (.int .i64 (gcO rs lv now r f)) ∧ Below w.heap.size w w' := by
  obtain ⟨W1, hW1⟩ : ∃ W1, W1 = w.alloc (.cells #[.slice p lv.length cp, .slice q rs.length cq, .int .i64 now] 59) := ⟨_, rfl⟩
  have HW1 : Hid (W1 = w.alloc (.cells #[.slice p lv.length cp, .slice q rs.length cq, .int .i64 now] 59)) := hW1
  have B1 : Hid (Below w.heap.size w W1) := by rw [hW1]; exact (Below.refl _ _).alloc (Nat.le_refl _) _
  have K1 : Hid (Bxs W1 w.heap.size 59 #[.slice p lv.length cp, .slice q rs.length cq, .int .i64 now]) := by rw [hW1]; exact Bxs.new _ _ _
  have hR := right_any p lv cp q rs cq now W1 (hT.to B1.out) (hg.below B1.out) (hA.below B1.out)
  have HV : Hid (gcO rs lv now r f = if lgB rs lv now = true then fcO rs r f else 1) := rfl
  have HA : Hid (LgAt p lv cp q rs cq w) := hA
  have HT : Hid (Tabs w) := hT
  have hrn := hA.rn
  unfold wkC at hR
  obtain ⟨x0, x1, x2⟩ := K1.out.three
  rw [HW1.out] at x0 x1 x2
  clear hW1 hT hg hA
  cases hgg : lgB rs lv now with
  | false =>
    rw [hgg] at hR
    rw [hgg, if_neg Bool.false_ne_true] at HV
    rw [HV.out]
    go_enter Tryz.func52, Tryz.ntmps52
    go_wp2_with fail
    rw [← HW1.out]
    refine hR.mono ?_
    rintro e y ⟨rfl, by_⟩
    go_wp2_with fail
    go_ret
    exact ⟨rfl, chainB B1.out by_⟩
  | true =>
    rw [hgg] at hR
    rw [hgg, if_pos rfl] at HV
    obtain ⟨-, -, hrr⟩ := lg_right hgg
    by_cases h0 : r < 0
    · have d0 : decide (r < 0) = true := decide_eq_true h0
      have HE : Hid (fcO rs r f = 6) := by show _ = _; unfold fcO; rw [if_neg (by omega)]
      rw [HV.out, HE.out]
      clear hgg hrr h0
      go_enter Tryz.func52, Tryz.ntmps52
      go_wp2_with fail
      rw [← HW1.out]
      refine hR.mono ?_
      rintro e y ⟨rfl, by_⟩
      go_wp2_with fail
      go_ret
      exact ⟨rfl, chainB B1.out by_⟩
    · have d0 : decide (r < 0) = false := decide_eq_false h0
      by_cases h1 : (rs.length : Int) ≤ r
      · have d1 : decide ((rs.length : Int) ≤ r) = true := decide_eq_true h1
        have HE : Hid (fcO rs r f = 6) := by show _ = _; unfold fcO; rw [if_neg (by omega)]
        rw [HV.out, HE.out]
        clear hgg hrr h0 h1
        go_enter Tryz.func52, Tryz.ntmps52
        go_wp2_with fail
        rw [← HW1.out]
        refine hR.mono ?_
        rintro e y ⟨rfl, by_⟩
        clear x0 x1 x2
        have x1 := (K1.out.below by_).cell 1
        go_wp2_with fail
        go_ret
        exact ⟨rfl, chainB B1.out by_⟩
      · have d1 : decide ((rs.length : Int) ≤ r) = false := decide_eq_false h1
        obtain ⟨I, rfl⟩ : ∃ I : Nat, r = (I : Int) := ⟨r.toNat, by omega⟩
        have hI : I < rs.length := by omega
        have hrI : rs.getD I rwZ = rs[I] := by rw [List.getD_eq_getElem?_getD, List.getElem?_eq_getElem hI, Option.getD_some]
        have hE := fc_row (rs := rs) (r := (I : Int)) (f := f) (by omega) (by rw [Int.toNat_natCast, hrI]; exact hrr _ (List.getElem_mem hI))
        rw [Int.toNat_natCast, hrI] at hE
        rw [HV.out]
        have iI : (I : Int) < rs.length := by omega
        clear hgg h0 h1
        go_enter Tryz.func52, Tryz.ntmps52
        go_wp2_with fail
        rw [← HW1.out]
        refine hR.mono ?_
        rintro e y ⟨rfl, by_⟩
        clear x0 x1 x2 hR
        have x1 := (K1.out.below by_).cell 1
        have hB := chainB B1.out by_
        obtain ⟨b, off, rq, rc, rfl, hb0, c0, c1, c2, c3, c4⟩ := (HA.out.rw.below hB) I hI
        have hzz := HA.out.rz _ (List.getElem_mem hI)
        have hF := fieldCode_any rs[I].k rs[I].a rq rc rs[I].fs f 7 y (HT.out.to hB) c4 hzz.1 c3 hzz.2.1 hzz.2.2
        rw [hE] at hF
        clear hzz c3 c4 hE hrI hrr
        obtain ⟨FC, hFC⟩ : ∃ FC, FC = fcO rs (I : Int) f := ⟨_, rfl⟩
        rw [← hFC] at hF
        have HFC : Hid (FC = fcO rs (I : Int) f) := hFC
        clear hFC
        generalize rs[I].k = rk at *
        generalize rs[I].a = ra at *
        generalize rs[I].fs.length = fl at *
        go_wp2_with fail
        refine hF.mono ?_
        rintro e y4 ⟨rfl, b4⟩
        go_wp2_with fail
        go_ret
        exact ⟨by rw [← HFC.out]; rfl, chainB hB b4⟩
theorem gcO_cases (rs : List Rw) (lv : List ByteArray) (now r f : Int) : gcO rs lv now r f = 0 ∨ gcO rs lv now r f = 7 ∨ gcO rs lv now r f = 6 ∨ gcO rs lv now r f = 1 := by
  unfold gcO
  split
  · rcases fcO_cases rs r f with h | h | h
    · exact .inl h
    · exact .inr (.inl h)
    · exact .inr (.inr (.inl h))
  · exact .inr (.inr (.inr rfl))
set_option maxHeartbeats 2000000 in
theorem implStatusOf_any (p : Option Addr) (lv : List ByteArray) (cp : Nat) (q : Option Addr) (rs : List Rw) (cq : Nat) (now r f : Int) (w : World) (hT : Tabs w) (hg : Laid w) (hA : LgAt p lv cp q rs cq w) :
    Calls Tryz.prog 23 #[.agg #[.slice q rs.length cq, .slice p lv.length cp, .int .i64 now], .int .i64 r, .int .i64 f] w fun e w' => e = .returned (.int .i64 (stO rs lv now r f)) ∧ Below w.heap.size w w' := by
  obtain ⟨W1, hW1⟩ : ∃ W1, W1 = w.alloc (.cells #[.slice q rs.length cq, .slice p lv.length cp, .int .i64 now] 29) := ⟨_, rfl⟩
  have HW1 : Hid (W1 = w.alloc (.cells #[.slice q rs.length cq, .slice p lv.length cp, .int .i64 now] 29)) := hW1
  have B1 : Hid (Below w.heap.size w W1) := by rw [hW1]; exact (Below.refl _ _).alloc (Nat.le_refl _) _
  have hWk := workOn_any p lv cp q rs cq now W1
  have HG : Hid (∀ x, Below w.heap.size w x → Calls Tryz.prog 52 #[.agg #[.slice p lv.length cp, .slice q rs.length cq, .int .i64 now], .int .i64 r, .int .i64 f] x fun e w' => e = .returned (.int .i64 (gcO rs lv now r f)) ∧ Below x.heap.size x w') := fun x hb => goneCode_any p lv cp q rs cq now r f x (hT.to hb) (hg.below hb) (hA.below hb)
  rw [stO_gc]
  unfold lgC wkC at hWk
  clear hT hg hA hW1
  rcases gcO_cases rs lv now r f with h | h | h | h
  all_goals
    rw [h] at HG ⊢
    clear h
    go_enter Tryz.func23, Tryz.ntmps23
    go_wp2_with fail
    rw [← HW1.out]
    refine hWk.mono ?_
    rintro e y ⟨rfl, by_⟩
    have hG := HG.out y (chainB B1.out by_)
    clear hWk HG
    go_wp2_with fail
    refine hG.mono ?_
    rintro e y2 ⟨rfl, b2⟩
    clear hG
    go_wp2_with fail
    go_ret
    exact ⟨rfl, chainB (chainB B1.out by_) b2⟩
end Go.Proofs.YtnaonldkbaapeabGreatDoor
/-
  What the two listed tables give a walk: 'Tabs'.
-/
namespace Go.Proofs.YtnaonldkbaapeabGreatDoor
open Go.RowKit Go.Lib
set_option linter.unusedVariables false

theorem g0 : Tryz.prog.globalNamed "loop.example/g00633/impl.firstState" = some 0 := by kernel_rfl
theorem g1 : Tryz.prog.globalNamed "loop.example/g00633/impl.roundNums" = some 1 := by kernel_rfl
theorem tab_of {W : World} {name : String} {zs : List Int} {g : Nat} {t : TypeId} {n : Nat} (hg : Tryz.prog.globalNamed name = some g) (hty : (Tryz.prog.globals[g]?).map (·.type) = some t) (ht : Tryz.prog.underlying t = some (.array n 137)) (hct : Tryz.prog.cellsOf t = n)
    (h : VarReads Tryz.prog W name (tabData .u32 zs)) (i : Nat) (hi : i < zs.length) : W.cell? ⟨g, i, none⟩ = some (.int .u32 (zs.getD i 0)) := by
  obtain ⟨g', t', cs, fuel, p, h1, h2, h3, h4⟩ := h
  obtain rfl := Option.some.inj (hg.symm.trans h1)
  obtain rfl := Option.some.inj (hty.symm.trans h2)
  refine TabIs.cell (P := Tryz.prog) (name := name) ?_ hg i hi
  unfold TabIs
  rw [h3, ← cells_of_tab ht Tryz.underlying137 (by kernel_rfl) hct h4]
theorem tabs_of {W : World} (h : laidMet Tryz.prog [("loop.example/g00633/impl.firstState", Rows.laid_loop_example_g00633_impl_firstState), ("loop.example/g00633/impl.roundNums", Rows.laid_loop_example_g00633_impl_roundNums)] W) : Tabs W := by
  have r0 : VarReads Tryz.prog W "loop.example/g00633/impl.firstState" (tabData .u32 startN) := laidMet.reads h (.head _)
  have r1 : VarReads Tryz.prog W "loop.example/g00633/impl.roundNums" (tabData .u32 keysN) := laidMet.reads h (.tail _ (.head _))
  have c0 := tab_of g0 (by kernel_rfl) (t := 159) (n := 8) (by kernel_rfl) (by kernel_rfl) r0
  have c1 := tab_of g1 (by kernel_rfl) (t := 172) (n := 64) (by kernel_rfl) (by kernel_rfl) r1
  exact ⟨World.block_lt_of_cell? W ⟨1, 0, none⟩ (c1 0 (by decide)), fun i hi => c1 i hi, fun i hi => c0 i hi⟩
end Go.Proofs.YtnaonldkbaapeabGreatDoor
/-
  What the three listed variables give a walk: errors.errorType and the two tables of the digest.
-/
namespace Go.Proofs.YtnaonldkbaapeabGreatDoor
open Go.RowKit
set_option linter.unusedVariables false

theorem et3 : Tryz.prog.globalNamed "errors.errorType" = some 2 := by kernel_rfl
theorem rt3 : (Tryz.prog.cutTypes.find? (·.1 == "internal/reflectlite.rtype")).map (·.2) = some 203 := by kernel_rfl
theorem oneRow3 : ((List.range 253).filter fun t => Tryz.prog.rowNamed t [101, 114, 114, 111, 114]) = [168] := by kernel_rfl
theorem size3 : Tryz.prog.types.size = 253 := by kernel_rfl
theorem laid3_of {W : World} (h : laidMetH Tryz.prog [("errors.errorType", Rows.laid_errors_errorType), ("loop.example/g00633/impl.firstState", Rows.laid_loop_example_g00633_impl_firstState), ("loop.example/g00633/impl.roundNums", Rows.laid_loop_example_g00633_impl_roundNums)] W) : Tabs W ∧ Laid W := by
  have h' : laidMet Tryz.prog [("loop.example/g00633/impl.firstState", Rows.laid_loop_example_g00633_impl_firstState), ("loop.example/g00633/impl.roundNums", Rows.laid_loop_example_g00633_impl_roundNums)] W ∧ handlesMet Tryz.prog [("errors.errorType", Rows.laid_errors_errorType)] W := h
  refine ⟨tabs_of h'.1, ?_⟩
  obtain ⟨name, u, ty, e1, e2, e3, e4, e5⟩ := h'.2 _ (List.mem_singleton.2 rfl)
  have en : name = [101, 114, 114, 111, 114] := (Option.some.inj e1).symm
  subst en
  obtain rfl := Option.some.inj (rt3.symm.trans e2)
  have hm : ty ∈ (List.range 253).filter fun t => Tryz.prog.rowNamed t [101, 114, 114, 111, 114] := List.mem_filter.2 ⟨List.mem_range.2 (by rw [← size3]; exact e3), e4⟩
  rw [oneRow3] at hm
  obtain rfl := List.mem_singleton.1 hm
  have hh : typeHandle Tryz.prog 168 = .pointer (some ⟨3, 168, none⟩) := by kernel_rfl
  rw [hh] at e5
  show W.cell? ⟨2, 0, none⟩ = _
  simpa using World.var?_cell et3 e5 0
end Go.Proofs.YtnaonldkbaapeabGreatDoor
