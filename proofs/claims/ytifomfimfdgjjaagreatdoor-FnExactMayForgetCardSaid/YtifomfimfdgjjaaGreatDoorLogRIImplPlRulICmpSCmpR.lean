/-
  Parts of one proof, laid as one text: LogRI, ImplPl, RulI, CmpS, CmpR; what each says stands at its head.
-/
import Derived.Test.YtifomfimfdgjjaaGreatDoorRows
import Derived.Test.YtifomfimfdgjjaaGreatDoorBytesDigMath
import Derived.Test.YtifomfimfdgjjaaGreatDoorSlASlBBxKTakesOwnS
import Derived.Test.YtifomfimfdgjjaaGreatDoorAsDAs2CodeOfScopesReadBits
import Derived.Test.YtifomfimfdgjjaaGreatDoorRdNumIGetNumITimeIImplTbImplCb
import Derived.Test.YtifomfimfdgjjaaGreatDoorJoinedPutTextFldMathFldRiseScanMath
import Derived.Test.YtifomfimfdgjjaaGreatDoorLgMathLgAtKShwK
import Derived.Test.YtifomfimfdgjjaaGreatDoorImplLg
import Derived.Test.YtifomfimfdgjjaaGreatDoorLeavesI
import Derived.Handy
import Derived.WalkSpells
import Derived.OwnWalk
import Derived.Test.YtifomfimfdgjjaaGreatDoorImplFC
import Derived.Test.YtifomfimfdgjjaaGreatDoorImplOnImplFk
import Derived.Test.YtifomfimfdgjjaaGreatDoorGetValGetTxtNumMathFldRdNumFromTmbMath
import Derived.Test.YtifomfimfdgjjaaGreatDoorLawPoLgAnsPolIdxRulIdxKeepMRowOps
import Derived.Test.YtifomfimfdgjjaaGreatDoorPlaceIEq18ImplGn
import Derived.Deep.Cut
import Derived.Test.YtifomfimfdgjjaaGreatDoorNameRight
import Derived.Test.YtifomfimfdgjjaaGreatDoorTimeBPutMathPutNum
import Derived.Test.YtifomfimfdgjjaaGreatDoorOpFOpLgBlNotRulMathIntKPolMath
import Derived.Laws.Cover1
import Derived.Deep.RegionHeld3
/-
  Whether a log is right, as the program answers.
  Conditions: the cells of Rows and Leaves hold the rows and leaves; the tables of the digest and errors.errorType are laid.
-/
namespace Go.Proofs.YtifomfimfdgjjaaGreatDoor
open Go.RowKit Go.Lib
set_option linter.unusedVariables false
set_option maxRecDepth 20000

theorem im_parts (rs : List Rw) (lv : List ByteArray) (now : Int) : lgB rs lv now = (timeB now && ((decide (rs.length ≤ 6) && rsB rs now) && lvOk rs now lv)) := by rw [lg_eq]; rfl
theorem rs_all {rs : List Rw} {now : Int} (h : rsB rs now = true) : ∀ r ∈ rs, rB r = true := fun r hr => by
  unfold rsB at h
  rw [List.all_eq_true] at h
  exact (Bool.and_eq_true_iff.1 (h r hr)).1
set_option maxHeartbeats 2000000 in
theorem right_any (p : Option Addr) (lv : List ByteArray) (cp : Nat) (q : Option Addr) (rs : List Rw) (cq : Nat) (now : Int) (w : World) (hT : Tabs w) (hg : Laid w) (hA : LgAt p lv cp q rs cq w) :
    Calls Tryz.prog 93 #[.agg (wkC p lv cp q rs cq now)] w fun e w' => e = .returned (.bool (lgB rs lv now)) ∧ Below w.heap.size w w' := by
  obtain ⟨W1, hW1⟩ : ∃ W1, W1 = w.alloc (.cells #[.slice p lv.length cp, .slice q rs.length cq, .int .i64 now] 99) := ⟨_, rfl⟩
  have HW1 : Hid (W1 = w.alloc (.cells #[.slice p lv.length cp, .slice q rs.length cq, .int .i64 now] 99)) := hW1
  have K1 : Hid (Bxs W1 w.heap.size 99 #[.slice p lv.length cp, .slice q rs.length cq, .int .i64 now]) := by rw [hW1]; exact Bxs.new _ _ _
  have B1 : Hid (Below w.heap.size w W1) := by rw [hW1]; exact (Below.refl _ _).alloc (Nat.le_refl _) _
  have HA1 : Hid (LgAt p lv cp q rs cq W1) := hA.below B1.out
  have HT1 : Hid (Tabs W1) := hT.to B1.out
  have HG1 : Hid (Laid W1) := hg.below B1.out
  have hTi := timeRight_any now W1
  have hRR := rowsRight_any p lv cp q rs cq now W1 HT1.out HA1.out.rw HA1.out.rn HA1.out.rc HA1.out.rz
  have HLR : Hid (∀ x, Below W1.heap.size W1 x → rs.length ≤ 6 → rsB rs now = true → Calls Tryz.prog 129 #[.agg #[.slice p lv.length cp, .slice q rs.length cq, .int .i64 now]] x fun e w' => e = .returned (.bool (lvOk rs now lv)) ∧ Below x.heap.size x w') := fun x hb h6 hr => leavesRight_any p lv cp q rs cq now x (HT1.out.to hb) (HG1.out.below hb) (HA1.out.tx.below hb) hA.ln hA.lc hA.lz (HA1.out.rw.below hb) hA.rc (rs_all hr) hA.rz h6
  have HE : Hid (lgB rs lv now = (timeB now && ((decide (rs.length ≤ 6) && rsB rs now) && lvOk rs now lv))) := im_parts rs lv now
  rw [HE.out]
  unfold wkC at hRR ⊢
  obtain ⟨x0, x1, x2⟩ := K1.out.three
  rw [HW1.out] at x0 x1 x2
  clear hW1 hT hg hA HT1 HG1 HA1 HE
  cases ht : timeB now with
  | false =>
    rw [ht] at hTi
    clear hRR HLR
    go_enter Tryz.func93, Tryz.ntmps93
    go_wp2_with fail
    rw [← HW1.out]
    refine hTi.mono ?_
    rintro e y ⟨rfl, rfl⟩
    go_wp2_with fail
    go_ret
    exact ⟨rfl, B1.out⟩
  | true =>
    rw [ht] at hTi
    cases hr : (decide (rs.length ≤ 6) && rsB rs now) with
    | false =>
      rw [hr] at hRR
      clear HLR
      go_enter Tryz.func93, Tryz.ntmps93
      go_wp2_with fail
      rw [← HW1.out]
      refine hTi.mono ?_
      rintro e y ⟨rfl, rfl⟩
      rw [← HW1.out] at x0 x1 x2
      go_wp2_with fail
      refine hRR.mono ?_
      rintro e y2 ⟨rfl, b2⟩
      go_wp2_with fail
      go_ret
      exact ⟨rfl, chainB B1.out b2⟩
    | true =>
      rw [hr] at hRR
      obtain ⟨h6, hrs⟩ := Bool.and_eq_true_iff.1 hr
      have HLR2 : Hid (∀ x, Below W1.heap.size W1 x → Calls Tryz.prog 129 #[.agg #[.slice p lv.length cp, .slice q rs.length cq, .int .i64 now]] x fun e w' => e = .returned (.bool (lvOk rs now lv)) ∧ Below x.heap.size x w') := fun x hb => HLR.out x hb (of_decide_eq_true h6) hrs
      clear HLR h6 hrs hr
      generalize lvOk rs now lv = R at *
      go_enter Tryz.func93, Tryz.ntmps93
      go_wp2_with fail
      rw [← HW1.out]
      refine hTi.mono ?_
      rintro e y ⟨rfl, rfl⟩
      rw [← HW1.out] at x0 x1 x2
      go_wp2_with fail
      refine hRR.mono ?_
      rintro e y2 ⟨rfl, b2⟩
      have hL := HLR2.out y2 b2
      clear x0 x1 x2 hRR hTi HLR2
      obtain ⟨x0, x1, x2⟩ := (K1.out.below b2).three
      go_wp2_with fail
      refine hL.mono ?_
      rintro e y3 ⟨rfl, b3⟩
      clear hL
      go_wp2_with fail
      go_ret
      exact ⟨rfl, chainB (chainB B1.out b2) b3⟩
set_option maxHeartbeats 1000000 in
theorem implLogRight_any (p : Option Addr) (lv : List ByteArray) (cp : Nat) (q : Option Addr) (rs : List Rw) (cq : Nat) (now : Int) (w : World) (hT : Tabs w) (hg : Laid w) (hA : LgAt p lv cp q rs cq w) :
    Calls Tryz.prog 50 #[.agg (lgC p lv cp q rs cq now)] w fun e w' => e = .returned (.bool (lgB rs lv now)) ∧ Below w.heap.size w w' := by
  obtain ⟨W1, hW1⟩ : ∃ W1, W1 = w.alloc (.cells #[.slice q rs.length cq, .slice p lv.length cp, .int .i64 now] 36) := ⟨_, rfl⟩
  have HW1 : Hid (W1 = w.alloc (.cells #[.slice q rs.length cq, .slice p lv.length cp, .int .i64 now] 36)) := hW1
  have B1 : Hid (Below w.heap.size w W1) := by rw [hW1]; exact (Below.refl _ _).alloc (Nat.le_refl _) _
  have hWk := workOn_any p lv cp q rs cq now W1
  have HR : Hid (∀ x, Below W1.heap.size W1 x → Calls Tryz.prog 93 #[.agg #[.slice p lv.length cp, .slice q rs.length cq, .int .i64 now]] x fun e w' => e = .returned (.bool (lgB rs lv now)) ∧ Below x.heap.size x w') := fun x hb => right_any p lv cp q rs cq now x ((hT.to B1.out).to hb) ((hg.below B1.out).below hb) ((hA.below B1.out).below hb)
  unfold lgC wkC at hWk
  unfold lgC
  generalize lgB rs lv now = R at *
  clear hW1 hT hg hA
  go_enter Tryz.func50, Tryz.ntmps50
  go_wp2_with fail
  rw [← HW1.out]
  refine hWk.mono ?_
  rintro e y ⟨rfl, b2⟩
  have hR := HR.out y b2
  clear hWk HR
  go_wp2_with fail
  refine hR.mono ?_
  rintro e y3 ⟨rfl, b3⟩
  clear hR
  go_wp2_with fail
  go_ret
  exact ⟨rfl, chainB (chainB B1.out b2) b3⟩
end Go.Proofs.YtifomfimfdgjjaaGreatDoor
/-
  PlaceOf, TombOf and StatusOf, as the program answers.
  Conditions: the cells hold the rows and leaves; the tables of the digest and errors.errorType are laid.
-/
namespace Go.Proofs.YtifomfimfdgjjaaGreatDoor
open Go.RowKit Go.Lib
set_option linter.unusedVariables false
set_option maxRecDepth 20000

theorem fc_row {rs : List Rw} {r f : Int} (h1 : 0 ≤ r ∧ r ≤ (rs.length : Int) - 1) (hr : rB (rs.getD r.toNat rwZ) = true) : fcC (rs.getD r.toNat rwZ).k (rs.getD r.toNat rwZ).a (rs.getD r.toNat rwZ).fs f 7 = fcO rs r f := by
  unfold fcC fcO fldOf
  unfold rB at hr
  rw [if_pos hr, if_pos h1]
  rfl
set_option maxHeartbeats 4000000 in
theorem goneCode_any (p : Option Addr) (lv : List ByteArray) (cp : Nat) (q : Option Addr) (rs : List Rw) (cq : Nat) (now r f : Int) (w : World) (hT : Tabs w) (hg : Laid w) (hA : LgAt p lv cp q rs cq w) :
    Calls Tryz.prog 66 #[.agg #[.slice p lv.length cp, .slice q rs.length cq, .int .i64 now], .int .i64 r, .int .i64 f] w fun e w' => e = .returned (.int .i64 (gcO rs lv now r f)) ∧ Below w.heap.size w w' := by
  obtain ⟨W1, hW1⟩ : ∃ W1, W1 = w.alloc (.cells #[.slice p lv.length cp, .slice q rs.length cq, .int .i64 now] 99) := ⟨_, rfl⟩
  have HW1 : Hid (W1 = w.alloc (.cells #[.slice p lv.length cp, .slice q rs.length cq, .int .i64 now] 99)) := hW1
  have B1 : Hid (Below w.heap.size w W1) := by rw [hW1]; exact (Below.refl _ _).alloc (Nat.le_refl _) _
  have K1 : Hid (Bxs W1 w.heap.size 99 #[.slice p lv.length cp, .slice q rs.length cq, .int .i64 now]) := by rw [hW1]; exact Bxs.new _ _ _
  have hR := right_any p lv cp q rs cq now W1 (hT.to B1.out) (hg.below B1.out) (hA.below B1.out)
  have HV : Hid (gcO rs lv now r f = if lgB rs lv now = true then fcO rs r f else 1) := rfl
  have HA : Hid (LgAt p lv cp q rs cq w) := hA
  have HT : Hid (Tabs w) := hT
  have hrn := hA.rn
  unfold wkC at hR
  obtain ⟨x0, x1, x2⟩ := K1.out.three
  rw [HW1.out] at x0 x1 x2
  clear hW1 hT hg hA
  cases hgg : lgB rs lv now with
  | false =>
    rw [hgg] at hR
    rw [hgg, if_neg Bool.false_ne_true] at HV
    rw [HV.out]
    go_enter Tryz.func66, Tryz.ntmps66
    go_wp2_with fail
    rw [← HW1.out]
    refine hR.mono ?_
    rintro e y ⟨rfl, by_⟩
    go_wp2_with fail
    go_ret
    exact ⟨rfl, chainB B1.out by_⟩
  | true =>
    rw [hgg] at hR
    rw [hgg, if_pos rfl] at HV
    obtain ⟨-, -, hrr⟩ := lg_right hgg
    by_cases h0 : r < 0
    · have d0 : decide (r < 0) = true := decide_eq_true h0
      have HE : Hid (fcO rs r f = 6) := by show _ = _; unfold fcO; rw [if_neg (by omega)]
      rw [HV.out, HE.out]
      clear hgg hrr h0
      go_enter Tryz.func66, Tryz.ntmps66
      go_wp2_with fail
      rw [← HW1.out]
      refine hR.mono ?_
      rintro e y ⟨rfl, by_⟩
      go_wp2_with fail
      go_ret
      exact ⟨rfl, chainB B1.out by_⟩
    · have d0 : decide (r < 0) = false := decide_eq_false h0
      by_cases h1 : (rs.length : Int) ≤ r
      · have d1 : decide ((rs.length : Int) ≤ r) = true := decide_eq_true h1
        have HE : Hid (fcO rs r f = 6) := by show _ = _; unfold fcO; rw [if_neg (by omega)]
        rw [HV.out, HE.out]
        clear hgg hrr h0 h1
        go_enter Tryz.func66, Tryz.ntmps66
        go_wp2_with fail
        rw [← HW1.out]
        refine hR.mono ?_
        rintro e y ⟨rfl, by_⟩
        clear x0 x1 x2
        have x1 := (K1.out.below by_).cell 1
        go_wp2_with fail
        go_ret
        exact ⟨rfl, chainB B1.out by_⟩
      · have d1 : decide ((rs.length : Int) ≤ r) = false := decide_eq_false h1
        obtain ⟨I, rfl⟩ : ∃ I : Nat, r = (I : Int) := ⟨r.toNat, by omega⟩
        have hI : I < rs.length := by omega
        have hrI : rs.getD I rwZ = rs[I] := by rw [List.getD_eq_getElem?_getD, List.getElem?_eq_getElem hI, Option.getD_some]
        have hE := fc_row (rs := rs) (r := (I : Int)) (f := f) (by omega) (by rw [Int.toNat_natCast, hrI]; exact hrr _ (List.getElem_mem hI))
        rw [Int.toNat_natCast, hrI] at hE
        rw [HV.out]
        have iI : (I : Int) < rs.length := by omega
        clear hgg h0 h1
        go_enter Tryz.func66, Tryz.ntmps66
        go_wp2_with fail
        rw [← HW1.out]
        refine hR.mono ?_
        rintro e y ⟨rfl, by_⟩
        clear x0 x1 x2 hR
        have x1 := (K1.out.below by_).cell 1
        have hB := chainB B1.out by_
        obtain ⟨b, off, rq, rc, rfl, hb0, c0, c1, c2, c3, c4⟩ := (HA.out.rw.below hB) I hI
        have hzz := HA.out.rz _ (List.getElem_mem hI)
        have hF := fieldCode_any rs[I].k rs[I].a rq rc rs[I].fs f 7 y (HT.out.to hB) c4 hzz.1 c3 hzz.2.1 hzz.2.2
        rw [hE] at hF
        clear hzz c3 c4 hE hrI hrr
        obtain ⟨FC, hFC⟩ : ∃ FC, FC = fcO rs (I : Int) f := ⟨_, rfl⟩
        rw [← hFC] at hF
        have HFC : Hid (FC = fcO rs (I : Int) f) := hFC
        clear hFC
        generalize rs[I].k = rk at *
        generalize rs[I].a = ra at *
        generalize rs[I].fs.length = fl at *
        go_wp2_with fail
        refine hF.mono ?_
        rintro e y4 ⟨rfl, b4⟩
        go_wp2_with fail
        go_ret
        exact ⟨by rw [← HFC.out]; rfl, chainB hB b4⟩
theorem gcO_cases (rs : List Rw) (lv : List ByteArray) (now r f : Int) : gcO rs lv now r f = 0 ∨ gcO rs lv now r f = 7 ∨ gcO rs lv now r f = 6 ∨ gcO rs lv now r f = 1 := by
  unfold gcO
  split
  · rcases fcO_cases rs r f with h | h | h
    · exact .inl h
    · exact .inr (.inl h)
    · exact .inr (.inr (.inl h))
  · exact .inr (.inr (.inr rfl))
set_option maxHeartbeats 2000000 in
theorem implStatusOf_any (p : Option Addr) (lv : List ByteArray) (cp : Nat) (q : Option Addr) (rs : List Rw) (cq : Nat) (now r f : Int) (w : World) (hT : Tabs w) (hg : Laid w) (hA : LgAt p lv cp q rs cq w) :
    Calls Tryz.prog 34 #[.agg #[.slice q rs.length cq, .slice p lv.length cp, .int .i64 now], .int .i64 r, .int .i64 f] w fun e w' => e = .returned (.int .i64 (stO rs lv now r f)) ∧ Below w.heap.size w w' := by
  obtain ⟨W1, hW1⟩ : ∃ W1, W1 = w.alloc (.cells #[.slice q rs.length cq, .slice p lv.length cp, .int .i64 now] 36) := ⟨_, rfl⟩
  have HW1 : Hid (W1 = w.alloc (.cells #[.slice q rs.length cq, .slice p lv.length cp, .int .i64 now] 36)) := hW1
  have B1 : Hid (Below w.heap.size w W1) := by rw [hW1]; exact (Below.refl _ _).alloc (Nat.le_refl _) _
  have hWk := workOn_any p lv cp q rs cq now W1
  have HG : Hid (∀ x, Below w.heap.size w x → Calls Tryz.prog 66 #[.agg #[.slice p lv.length cp, .slice q rs.length cq, .int .i64 now], .int .i64 r, .int .i64 f] x fun e w' => e = .returned (.int .i64 (gcO rs lv now r f)) ∧ Below x.heap.size x w') := fun x hb => goneCode_any p lv cp q rs cq now r f x (hT.to hb) (hg.below hb) (hA.below hb)
  rw [stO_gc]
  unfold lgC wkC at hWk
  clear hT hg hA hW1
  rcases gcO_cases rs lv now r f with h | h | h | h
  all_goals
    rw [h] at HG ⊢
    clear h
    go_enter Tryz.func34, Tryz.ntmps34
    go_wp2_with fail
    rw [← HW1.out]
    refine hWk.mono ?_
    rintro e y ⟨rfl, by_⟩
    have hG := HG.out y (chainB B1.out by_)
    clear hWk HG
    go_wp2_with fail
    refine hG.mono ?_
    rintro e y2 ⟨rfl, b2⟩
    clear hG
    go_wp2_with fail
    go_ret
    exact ⟨rfl, chainB (chainB B1.out by_) b2⟩
end Go.Proofs.YtifomfimfdgjjaaGreatDoor
/-
  What the program's ruleRight and heldRowRight answer.
-/
namespace Go.Proofs.YtifomfimfdgjjaaGreatDoor
open Go.RowKit Go.Lib
set_option linter.unusedVariables false
set_option maxRecDepth 20000

set_option maxHeartbeats 2000000 in
theorem ruleRight_any (k f : ByteArray) (l m : Int) (w : World) (hk : k.size ≤ maxLen) (hf : f.size ≤ maxLen) :
    Calls Tryz.prog 130 #[.agg #[.string k, .string f, .int .i64 l, .int .i64 m]] w fun e w' => e = .returned (.bool (rulB k f l m)) ∧ Below w.heap.size w w' := by
  have B1 : Below w.heap.size w (w.alloc (.cells #[.string k, .string f, .int .i64 l, .int .i64 m] 71)) := (Below.refl _ _).alloc (Nat.le_refl _) _
  have h1 := implNameRight_any k (w.alloc (.cells #[.string k, .string f, .int .i64 l, .int .i64 m] 71)) hk
  have h2 := implNameRight_any f (w.alloc (.cells #[.string k, .string f, .int .i64 l, .int .i64 m] 71)) hf
  have h3 := timeRight_any l (w.alloc (.cells #[.string k, .string f, .int .i64 l, .int .i64 m] 71))
  have h4 := timeRight_any m (w.alloc (.cells #[.string k, .string f, .int .i64 l, .int .i64 m] 71))
  unfold rulB
  generalize nrB k = b1 at *
  generalize nrB f = b2 at *
  generalize timeB l = b3 at *
  generalize timeB m = b4 at *
  cases b1
  · go_enter Tryz.func130, Tryz.ntmps130
    go_wp2_with fail
    refine h1.mono ?_
    rintro e w1 ⟨rfl, rfl⟩
    go_wp2_with fail
    go_ret
    exact ⟨rfl, B1⟩
  · skip
    cases b2
    · go_enter Tryz.func130, Tryz.ntmps130
      go_wp2_with fail
      refine h1.mono ?_
      rintro e w1 ⟨rfl, rfl⟩
      go_wp2_with fail
      refine h2.mono ?_
      rintro e w2 ⟨rfl, rfl⟩
      go_wp2_with fail
      go_ret
      exact ⟨rfl, B1⟩
    · skip
      cases b3
      · go_enter Tryz.func130, Tryz.ntmps130
        go_wp2_with fail
        refine h1.mono ?_
        rintro e w1 ⟨rfl, rfl⟩
        go_wp2_with fail
        refine h2.mono ?_
        rintro e w2 ⟨rfl, rfl⟩
        go_wp2_with fail
        refine h3.mono ?_
        rintro e w3 ⟨rfl, rfl⟩
        go_wp2_with fail
        go_ret
        exact ⟨rfl, B1⟩
      · skip
        cases b4
        · go_enter Tryz.func130, Tryz.ntmps130
          go_wp2_with fail
          refine h1.mono ?_
          rintro e w1 ⟨rfl, rfl⟩
          go_wp2_with fail
          refine h2.mono ?_
          rintro e w2 ⟨rfl, rfl⟩
          go_wp2_with fail
          refine h3.mono ?_
          rintro e w3 ⟨rfl, rfl⟩
          go_wp2_with fail
          refine h4.mono ?_
          rintro e w4 ⟨rfl, rfl⟩
          go_wp2_with fail
          go_ret
          exact ⟨rfl, B1⟩
        · skip
          by_cases hd : l ≤ m
          · have d1 : decide (l ≤ m) = true := decide_eq_true hd
            rw [d1]
            clear hd
            go_enter Tryz.func130, Tryz.ntmps130
            go_wp2_with fail
            refine h1.mono ?_
            rintro e w1 ⟨rfl, rfl⟩
            go_wp2_with fail
            refine h2.mono ?_
            rintro e w2 ⟨rfl, rfl⟩
            go_wp2_with fail
            refine h3.mono ?_
            rintro e w3 ⟨rfl, rfl⟩
            go_wp2_with fail
            refine h4.mono ?_
            rintro e w4 ⟨rfl, rfl⟩
            go_wp2_with fail
            go_ret
            exact ⟨rfl, B1⟩
          · have d1 : decide (l ≤ m) = false := decide_eq_false hd
            rw [d1]
            clear hd
            go_enter Tryz.func130, Tryz.ntmps130
            go_wp2_with fail
            refine h1.mono ?_
            rintro e w1 ⟨rfl, rfl⟩
            go_wp2_with fail
            refine h2.mono ?_
            rintro e w2 ⟨rfl, rfl⟩
            go_wp2_with fail
            refine h3.mono ?_
            rintro e w3 ⟨rfl, rfl⟩
            go_wp2_with fail
            refine h4.mono ?_
            rintro e w4 ⟨rfl, rfl⟩
            go_wp2_with fail
            go_ret
            exact ⟨rfl, B1⟩

theorem heldRowRight_any (n : Int) (w : World) : Calls Tryz.prog 132 #[.int .i64 n] w fun e w' => e = .returned (.bool (decide (0 ≤ n ∧ n ≤ 5))) ∧ w' = w := by
  by_cases h1 : 0 ≤ n
  · have d1 : decide (0 ≤ n) = true := decide_eq_true h1
    by_cases h2 : n ≤ 5
    · have d2 : decide (n < 6) = true := decide_eq_true (by omega)
      rw [decide_eq_true (And.intro h1 h2)]
      clear h1 h2
      go_enter Tryz.func132, Tryz.ntmps132
      go_wp2_with fail
      go_ret
      exact ⟨rfl, rfl⟩
    · have d2 : decide (n < 6) = false := decide_eq_false (by omega)
      rw [decide_eq_false (fun h => h2 h.2)]
      clear h1 h2
      go_enter Tryz.func132, Tryz.ntmps132
      go_wp2_with fail
      go_ret
      exact ⟨rfl, rfl⟩
  · have d1 : decide (0 ≤ n) = false := decide_eq_false h1
    rw [decide_eq_false (fun h => h1 h.1)]
    clear h1
    go_enter Tryz.func132, Tryz.ntmps132
    go_wp2_with fail
    go_ret
    exact ⟨rfl, rfl⟩
end Go.Proofs.YtifomfimfdgjjaaGreatDoor
/-
  What cmp.Compare answers for two texts.
-/
namespace Go.Proofs.YtifomfimfdgjjaaGreatDoor
open Go.RowKit Go.Lib
set_option linter.unusedVariables false
set_option maxRecDepth 20000

theorem isNaN_any (s : ByteArray) (w : World) : Calls Tryz.prog 213 #[.string s] w fun e w' => e = .returned (.bool false) ∧ w' = w := by
  go_enter Tryz.func213, Tryz.ntmps213
  go_wp2_with fail
  go_ret
  exact ⟨rfl, rfl⟩
set_option maxHeartbeats 2000000 in
theorem compare_any (a b : ByteArray) (w : World) : Calls Tryz.prog 181 #[.string a, .string b] w fun e w' => e = .returned (.int .i64 (cmpI a b)) ∧ w' = w := by
  have h1 := isNaN_any a w
  have h2 := isNaN_any b w
  rcases cmpI_cases a b with ⟨g1, g2⟩ | ⟨g1, g3, g4, g2⟩ | ⟨g1, g4, g2⟩
  · rw [g2]
    clear g2
    go_enter Tryz.func181, Tryz.ntmps181
    go_wp2_with fail
    refine h1.mono ?_
    rintro e w1 ⟨rfl, rfl⟩
    go_wp2_with fail
    refine h2.mono ?_
    rintro e w1 ⟨rfl, rfl⟩
    go_wp2_with fail
    go_ret
    exact ⟨rfl, rfl⟩
  · rw [g2]
    clear g2
    go_enter Tryz.func181, Tryz.ntmps181
    go_wp2_with fail
    refine h1.mono ?_
    rintro e w1 ⟨rfl, rfl⟩
    go_wp2_with fail
    refine h2.mono ?_
    rintro e w1 ⟨rfl, rfl⟩
    go_wp2_with fail
    go_ret
    exact ⟨rfl, rfl⟩
  · rw [g2]
    have g3 : Op.bytesLess b.toList a.toList = false := by
      have n1 := bl_not a.toList b.toList
      have e1 : a.toList = b.toList := by simpa using g4
      rw [e1] at g1 ⊢; exact g1
    clear g2
    go_enter Tryz.func181, Tryz.ntmps181
    go_wp2_with fail
    refine h1.mono ?_
    rintro e w1 ⟨rfl, rfl⟩
    go_wp2_with fail
    refine h2.mono ?_
    rintro e w1 ⟨rfl, rfl⟩
    go_wp2_with fail
    go_ret
    exact ⟨rfl, rfl⟩
end Go.Proofs.YtifomfimfdgjjaaGreatDoor
/-
  What cmp.Or answers for numbers, and the program's compareRules.
-/
namespace Go.Proofs.YtifomfimfdgjjaaGreatDoor
open Go.RowKit Go.Lib
set_option linter.unusedVariables false
set_option maxRecDepth 20000

/-- The first number that is not 0, or 0. -/
def orI : List Int → Int
  | [] => 0
  | x :: l => if x = 0 then orI l else x
theorem orI_drop (ks : List Int) (k : Nat) (h : k < ks.length) : orI (ks.drop k) = if ks[k] = 0 then orI (ks.drop (k + 1)) else ks[k] := by
  rw [List.drop_eq_getElem_cons h]; rfl
set_option maxHeartbeats 1000000 in
theorem or_any (p : Option Addr) (cap : Nat) (ks : List Int) (w : World) (hp : IntAt w p ks) (hn : ks.length ≤ 1000) :
    Calls Tryz.prog 98 #[.slice p ks.length cap] w fun e w' => e = .returned (.int .i64 (orI ks)) ∧ w' = w := by
  have HP : Hid (IntAt w p ks) := hp
  clear hp
  go_enter Tryz.func98, Tryz.ntmps98
  go_wp2_with fail
  go_loopw [8] (fun i wr => ∃ k : Nat, k ≤ ks.length ∧ i = .int .i64 k ∧ Hid (orI (ks.drop k) = orI ks) ∧ Hid (wr = w)) (fun i _ => ks.length - (Go.RowKit.intOf i).toNat)
  case atStart => exact ⟨0, Nat.zero_le _, rfl, by show _ = _; rfl, rfl⟩
  case round =>
    obtain ⟨k, hk, rfl, HO, HW⟩ := hrel
    have HW := HW.out
    subst HW
    by_cases hlt : k < ks.length
    · obtain ⟨b, off, rfl, hb, hc⟩ := HP.out k hlt
      have j5 : (k : Int) < ks.length := by omega
      have HD : Hid (orI (ks.drop k) = if ks[k] = 0 then orI (ks.drop (k + 1)) else ks[k]) := orI_drop ks k hlt
      rw [HO.out] at HD
      generalize ks[k] = x at *
      by_cases hx : x = 0
      · subst hx
        rw [if_pos rfl] at HD
        go_wp2_with fail
        go_roundw
        case rel => exact ⟨k + 1, by omega, by go_num, HD.out.symm, trivial⟩
        case measure => simp [Go.RowKit.intOf]; omega
      · rw [if_neg hx] at HD
        have d1 : (x == 0) = false := by simpa using hx
        have d2 : (x != 0) = true := by simpa using hx
        clear HO hx
        go_wp2_with fail
        go_ret
        exact ⟨by rw [HD.out]; rfl, rfl⟩
    · have hkk : k = ks.length := by omega
      have HE : Hid (orI ks = 0) := by have := HO.out; rw [hkk, List.drop_length] at this; exact this.symm
      go_wp2_with fail
      go_ret
      exact ⟨by rw [HE.out]; rfl, rfl⟩
theorem orI_two (a b : Int) : orI [a, b] = if a = 0 then b else a := by
  unfold orI orI orI
  by_cases h : a = 0
  · rw [if_pos h, if_pos h]; by_cases h2 : b = 0
    · rw [if_pos h2, h2]
    · rw [if_neg h2]
  · rw [if_neg h, if_neg h]
theorem intAt_two (a b : Int) (w : World) : IntAt (w.alloc (.cells #[.int .i64 a, .int .i64 b] 3)) (some ⟨w.heap.size, 0, none⟩) [a, b] := by
  have hc := (MapKept.heap_alloc w (.cells #[.int .i64 a, .int .i64 b] 3)).1
  have hb : Bxs (w.alloc (.cells #[.int .i64 a, .int .i64 b] 3)) w.heap.size 3 #[.int .i64 a, .int .i64 b] := hc
  intro i hi
  refine ⟨w.heap.size, 0, rfl, Bxs.lt hb, ?_⟩
  rw [Bxs.cell hb]
  match i, hi with
  | 0, _ => rfl
  | 1, _ => rfl
set_option maxHeartbeats 4000000 in
theorem compareRules_any (ak af : ByteArray) (al am : Int) (bk bf : ByteArray) (bl bm : Int) (w : World) :
    Calls Tryz.prog 131 #[.agg #[.string ak, .string af, .int .i64 al, .int .i64 am], .agg #[.string bk, .string bf, .int .i64 bl, .int .i64 bm]] w fun e w' => e = .returned (.int .i64 (crI ak af bk bf)) ∧ Below w.heap.size w w' := by
  obtain ⟨W1, hW1⟩ : ∃ W1, W1 = (w.alloc (.cells #[.string ak, .string af, .int .i64 al, .int .i64 am] 71)).alloc (.cells #[.string bk, .string bf, .int .i64 bl, .int .i64 bm] 71) := ⟨_, rfl⟩
  have HW1 : Hid (W1 = (w.alloc (.cells #[.string ak, .string af, .int .i64 al, .int .i64 am] 71)).alloc (.cells #[.string bk, .string bf, .int .i64 bl, .int .i64 bm] 71)) := hW1
  have B1 : Hid (Below w.heap.size w W1) := by rw [hW1]; exact alB (alB (Below.refl _ _) _) _
  have X1 : Bxs W1 w.heap.size 71 #[.string ak, .string af, .int .i64 al, .int .i64 am] := by
    rw [hW1]; exact (show Bxs _ _ _ _ from (MapKept.heap_alloc w _).1).below ((Below.refl _ _).alloc (Nat.le_refl _) _)
  have X2 : Bxs W1 (w.heap.size + 1) 71 #[.string bk, .string bf, .int .i64 bl, .int .i64 bm] := by
    have h := (MapKept.heap_alloc (w.alloc (.cells #[.string ak, .string af, .int .i64 al, .int .i64 am] 71)) (.cells #[.string bk, .string bf, .int .i64 bl, .int .i64 bm] 71)).1
    rw [hW1]
    have e : (w.alloc (.cells #[.string ak, .string af, .int .i64 al, .int .i64 am] 71)).heap.size = w.heap.size + 1 := by simp
    rw [e] at h; exact h
  have HX : Hid (∀ x, Below W1.heap.size W1 x → x.cell? ⟨w.heap.size, 0, none⟩ = some (.string ak) ∧ x.cell? ⟨w.heap.size, 1, none⟩ = some (.string af) ∧ x.cell? ⟨w.heap.size + 1, 0, none⟩ = some (.string bk) ∧ x.cell? ⟨w.heap.size + 1, 1, none⟩ = some (.string bf)) := fun x hb => by
    have h1 := X1.below hb
    have h2 := X2.below hb
    exact ⟨by rw [h1.cell]; rfl, by rw [h1.cell]; rfl, by rw [h2.cell]; rfl, by rw [h2.cell]; rfl⟩
  have Q1 : Hid (∀ x, Below W1.heap.size W1 x → Calls Tryz.prog 181 #[.string ak, .string bk] x fun e x1 => e = .returned (.int .i64 (cmpI ak bk)) ∧ Below W1.heap.size W1 x1) := fun x hb => (compare_any ak bk x).mono (by rintro e x1 ⟨rfl, rfl⟩; exact ⟨rfl, hb⟩)
  have Q2 : Hid (∀ x, Below W1.heap.size W1 x → Calls Tryz.prog 181 #[.string af, .string bf] x fun e x1 => e = .returned (.int .i64 (cmpI af bf)) ∧ Below W1.heap.size W1 x1) := fun x hb => (compare_any af bf x).mono (by rintro e x1 ⟨rfl, rfl⟩; exact ⟨rfl, hb⟩)
  have QO : Hid (∀ x, Below W1.heap.size W1 x → Calls Tryz.prog 98 #[.slice (some ⟨x.heap.size, 0, none⟩) 2 2] (x.alloc (.cells #[.int .i64 (cmpI ak bk), .int .i64 (cmpI af bf)] 3)) fun e x1 => e = .returned (.int .i64 (crI ak af bk bf)) ∧ Below W1.heap.size W1 x1) := fun x hb => by
    have h := or_any (some ⟨x.heap.size, 0, none⟩) 2 [cmpI ak bk, cmpI af bf] _ (intAt_two (cmpI ak bk) (cmpI af bf) x) (by simp)
    rw [orI_two] at h
    refine h.mono ?_
    rintro e x1 ⟨rfl, rfl⟩
    exact ⟨rfl, alB hb _⟩
  have QO2 : Hid (∀ x, Below W1.heap.size W1 x → Calls Tryz.prog 98 #[.slice (some ⟨x.heap.size, 0, none⟩) 2 2] (x.alloc (.cells #[.int .i64 (cmpI ak bk), .int .i64 (cmpI af bf)] 3)).drew fun e x1 => e = .returned (.int .i64 (crI ak af bk bf)) ∧ Below W1.heap.size W1 x1) := fun x hb => QO.out x.drew hb.drew
  have BR : Hid (Below W1.heap.size W1 W1) := Below.refl _ _
  generalize crI ak af bk bf = O at *
  generalize cmpI ak bk = C1 at *
  generalize cmpI af bf = C2 at *
  clear X1 X2 hW1
  go_enter Tryz.func131, Tryz.ntmps131
  go_wp2_with fail
  rw [← HW1.out]
  first
    | (go_region_held3 (fun w' => w'.cell? ⟨w.heap.size, 0, none⟩ = some (.string ak) ∧ w'.cell? ⟨w.heap.size, 1, none⟩ = some (.string af) ∧ w'.cell? ⟨w.heap.size + 1, 0, none⟩ = some (.string bk) ∧ w'.cell? ⟨w.heap.size + 1, 1, none⟩ = some (.string bf)) ((refine HX.out _ ?hT; (case hT => (with_reducible repeat (first | assumption | exact BR.out | refine Below.drew ?_ | refine alB ?_ _))))) (first
      | (go_at_call 181; with_reducible refine (Q1.out _ ?hB).mono ?_; (case hB => first | exact BR.out | exact BR.out.drew); rintro e x1 ⟨rfl, y1⟩)
      | (go_at_call 181; with_reducible refine (Q2.out _ ?hB).mono ?_; (case hB => first | exact y1 | exact y1.drew); rintro e x2 ⟨rfl, y2⟩)
      | (go_at_call 98; (first | with_reducible refine (QO.out _ ?hB).mono ?_ | with_reducible refine (QO2.out _ ?hB).mono ?_); (case hB => first | exact y2 | exact y2.drew); rintro e x3 ⟨rfl, y3⟩)))
    | fail
  all_goals
    have y6 := chainB B1.out y3
    go_wp2_with fail
    go_ret
    exact ⟨rfl, y6⟩
end Go.Proofs.YtifomfimfdgjjaaGreatDoor
