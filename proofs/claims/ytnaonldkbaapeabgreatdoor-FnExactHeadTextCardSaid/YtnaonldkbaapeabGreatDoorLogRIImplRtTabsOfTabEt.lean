/-
  Parts of one proof, laid as one text: LogRI, ImplRt, TabsOf, TabEt; what each says stands at its head.
-/
import Derived.Test.YtnaonldkbaapeabGreatDoorRows
import Derived.Test.YtnaonldkbaapeabGreatDoorBytesDigMath
import Derived.Test.YtnaonldkbaapeabGreatDoorSlASlBBxKTakesOwnS
import Derived.Test.YtnaonldkbaapeabGreatDoorCodeOfHalvesTreeTreeHDigAllTimeI
import Derived.Test.YtnaonldkbaapeabGreatDoorJoinedPutTextFldMath
import Derived.Test.YtnaonldkbaapeabGreatDoorLgMath
import Derived.Test.YtnaonldkbaapeabGreatDoorLgAtKShwK
import Derived.Test.YtnaonldkbaapeabGreatDoorImplLg
import Derived.Test.YtnaonldkbaapeabGreatDoorLeavesI
import Derived.Handy
import Derived.WalkSpells
import Derived.OwnWalk
import Derived.Test.YtnaonldkbaapeabGreatDoorTreeMath
import Derived.Test.YtnaonldkbaapeabGreatDoorTimeBPutMathPutNum
import Derived.Test.YtnaonldkbaapeabGreatDoorGetValGetTxtNumMathFldRdNumFromTmbMath
import Derived.Test.YtnaonldkbaapeabGreatDoorLgAnsLgRtFldC
import Derived.Test.YtnaonldkbaapeabGreatDoorImplFC
import Derived.Deep.RegionHeld3
import Derived.Deep.Cut
import Derived.Test.YtnaonldkbaapeabGreatDoorBlockI
import Derived.Lib.LaidTab
import Derived.Lib.LaidU8
import Derived.LaidHandle
/-
  Whether a log is right, as the program answers.
  Conditions: the cells of Rows and Leaves hold the rows and leaves; the tables of the digest and errors.errorType are laid.
-/
namespace Go.Proofs.YtnaonldkbaapeabGreatDoor
open Go.RowKit Go.Lib
set_option linter.unusedVariables false
set_option maxRecDepth 20000

theorem im_parts (rs : List Rw) (lv : List ByteArray) (now : Int) : lgB rs lv now = (timeB now && ((decide (rs.length ≤ 6) && rsB rs now) && lvOk rs now lv)) := by rw [lg_eq]; rfl
theorem rs_all {rs : List Rw} {now : Int} (h : rsB rs now = true) : ∀ r ∈ rs, rB r = true := fun r hr => by
  unfold rsB at h
  rw [List.all_eq_true] at h
  exact (Bool.and_eq_true_iff.1 (h r hr)).1
set_option maxHeartbeats 2000000 in
theorem right_any (p : Option Addr) (lv : List ByteArray) (cp : Nat) (q : Option Addr) (rs : List Rw) (cq : Nat) (now : Int) (w : World) (hT : Tabs w) (hg : Laid w) (hA : LgAt p lv cp q rs cq w) :
    Calls Tryz.prog 47 #[.agg (wkC p lv cp q rs cq now)] w fun e w' => e = .returned (.bool (lgB rs lv now)) ∧ Below w.heap.size w w' := by
  obtain ⟨W1, hW1⟩ : ∃ W1, W1 = w.alloc (.cells #[.slice p lv.length cp, .slice q rs.length cq, .int .i64 now] 59) := ⟨_, rfl⟩
  have HW1 : Hid (W1 = w.alloc (.cells #[.slice p lv.length cp, .slice q rs.length cq, .int .i64 now] 59)) := hW1
  have K1 : Hid (Bxs W1 w.heap.size 59 #[.slice p lv.length cp, .slice q rs.length cq, .int .i64 now]) := by rw [hW1]; exact Bxs.new _ _ _
  have B1 : Hid (Below w.heap.size w W1) := by rw [hW1]; exact (Below.refl _ _).alloc (Nat.le_refl _) _
  have HA1 : Hid (LgAt p lv cp q rs cq W1) := hA.below B1.out
  have HT1 : Hid (Tabs W1) := hT.to B1.out
  have HG1 : Hid (Laid W1) := hg.below B1.out
  have hTi := timeRight_any now W1
  have hRR := rowsRight_any p lv cp q rs cq now W1 HT1.out HA1.out.rw HA1.out.rn HA1.out.rc HA1.out.rz
  have HLR : Hid (∀ x, Below W1.heap.size W1 x → rs.length ≤ 6 → rsB rs now = true → Calls Tryz.prog 75 #[.agg #[.slice p lv.length cp, .slice q rs.length cq, .int .i64 now]] x fun e w' => e = .returned (.bool (lvOk rs now lv)) ∧ Below x.heap.size x w') := fun x hb h6 hr => leavesRight_any p lv cp q rs cq now x (HT1.out.to hb) (HG1.out.below hb) (HA1.out.tx.below hb) hA.ln hA.lc hA.lz (HA1.out.rw.below hb) hA.rc (rs_all hr) hA.rz h6
  have HE : Hid (lgB rs lv now = (timeB now && ((decide (rs.length ≤ 6) && rsB rs now) && lvOk rs now lv))) := im_parts rs lv now
  rw [HE.out]
  unfold wkC at hRR ⊢
  obtain ⟨x0, x1, x2⟩ := K1.out.three
  rw [HW1.out] at x0 x1 x2
  clear hW1 hT hg hA HT1 HG1 HA1 HE
  cases ht : timeB now with
  | false =>
    rw [ht] at hTi
    clear hRR HLR
    go_enter Tryz.func47, Tryz.ntmps47
    go_wp2_with fail
    rw [← HW1.out]
    refine hTi.mono ?_
    rintro e y ⟨rfl, rfl⟩
    go_wp2_with fail
    go_ret
    exact ⟨rfl, B1.out⟩
  | true =>
    rw [ht] at hTi
    cases hr : (decide (rs.length ≤ 6) && rsB rs now) with
    | false =>
      rw [hr] at hRR
      clear HLR
      go_enter Tryz.func47, Tryz.ntmps47
      go_wp2_with fail
      rw [← HW1.out]
      refine hTi.mono ?_
      rintro e y ⟨rfl, rfl⟩
      rw [← HW1.out] at x0 x1 x2
      go_wp2_with fail
      refine hRR.mono ?_
      rintro e y2 ⟨rfl, b2⟩
      go_wp2_with fail
      go_ret
      exact ⟨rfl, chainB B1.out b2⟩
    | true =>
      rw [hr] at hRR
      obtain ⟨h6, hrs⟩ := Bool.and_eq_true_iff.1 hr
      have HLR2 : Hid (∀ x, Below W1.heap.size W1 x → Calls Tryz.prog 75 #[.agg #[.slice p lv.length cp, .slice q rs.length cq, .int .i64 now]] x fun e w' => e = .returned (.bool (lvOk rs now lv)) ∧ Below x.heap.size x w') := fun x hb => HLR.out x hb (of_decide_eq_true h6) hrs
      clear HLR h6 hrs hr
      generalize lvOk rs now lv = R at *
      go_enter Tryz.func47, Tryz.ntmps47
      go_wp2_with fail
      rw [← HW1.out]
      refine hTi.mono ?_
      rintro e y ⟨rfl, rfl⟩
      rw [← HW1.out] at x0 x1 x2
      go_wp2_with fail
      refine hRR.mono ?_
      rintro e y2 ⟨rfl, b2⟩
      have hL := HLR2.out y2 b2
      clear x0 x1 x2 hRR hTi HLR2
      obtain ⟨x0, x1, x2⟩ := (K1.out.below b2).three
      go_wp2_with fail
      refine hL.mono ?_
      rintro e y3 ⟨rfl, b3⟩
      clear hL
      go_wp2_with fail
      go_ret
      exact ⟨rfl, chainB (chainB B1.out b2) b3⟩
set_option maxHeartbeats 1000000 in
theorem implLogRight_any (p : Option Addr) (lv : List ByteArray) (cp : Nat) (q : Option Addr) (rs : List Rw) (cq : Nat) (now : Int) (w : World) (hT : Tabs w) (hg : Laid w) (hA : LgAt p lv cp q rs cq w) :
    Calls Tryz.prog 37 #[.agg (lgC p lv cp q rs cq now)] w fun e w' => e = .returned (.bool (lgB rs lv now)) ∧ Below w.heap.size w w' := by
  obtain ⟨W1, hW1⟩ : ∃ W1, W1 = w.alloc (.cells #[.slice q rs.length cq, .slice p lv.length cp, .int .i64 now] 29) := ⟨_, rfl⟩
  have HW1 : Hid (W1 = w.alloc (.cells #[.slice q rs.length cq, .slice p lv.length cp, .int .i64 now] 29)) := hW1
  have B1 : Hid (Below w.heap.size w W1) := by rw [hW1]; exact (Below.refl _ _).alloc (Nat.le_refl _) _
  have hWk := workOn_any p lv cp q rs cq now W1
  have HR : Hid (∀ x, Below W1.heap.size W1 x → Calls Tryz.prog 47 #[.agg #[.slice p lv.length cp, .slice q rs.length cq, .int .i64 now]] x fun e w' => e = .returned (.bool (lgB rs lv now)) ∧ Below x.heap.size x w') := fun x hb => right_any p lv cp q rs cq now x ((hT.to B1.out).to hb) ((hg.below B1.out).below hb) ((hA.below B1.out).below hb)
  unfold lgC wkC at hWk
  unfold lgC
  generalize lgB rs lv now = R at *
  clear hW1 hT hg hA
  go_enter Tryz.func37, Tryz.ntmps37
  go_wp2_with fail
  rw [← HW1.out]
  refine hWk.mono ?_
  rintro e y ⟨rfl, b2⟩
  have hR := HR.out y b2
  clear hWk HR
  go_wp2_with fail
  refine hR.mono ?_
  rintro e y3 ⟨rfl, b3⟩
  clear hR
  go_wp2_with fail
  go_ret
  exact ⟨rfl, chainB (chainB B1.out b2) b3⟩
end Go.Proofs.YtnaonldkbaapeabGreatDoor
/-
  RootOf and HeadText, as the program answers.
  Conditions: the cells hold the rows and leaves; the tables of the digest and errors.errorType are laid.
-/
namespace Go.Proofs.YtnaonldkbaapeabGreatDoor
open Go.RowKit Go.Lib
set_option linter.unusedVariables false
set_option maxRecDepth 20000

theorem count_any (p : Option Addr) (n cp : Nat) (w : World) : Calls Tryz.prog 59 #[.slice p n cp] w fun e w' => e = .returned (.int .i64 (n : Int)) ∧ w' = w := by
  go_enter Tryz.func59, Tryz.ntmps59
  go_wp2_with fail
  go_ret
  exact ⟨rfl, rfl⟩
def rotB (lv : List ByteArray) (n : Int) : ByteArray := if 0 ≤ n ∧ n ≤ (lv.length : Int) then treeB (lv.take n.toNat) else ByteArray.empty
set_option maxHeartbeats 2000000 in
theorem rootOf_any (p : Option Addr) (lv : List ByteArray) (cp : Nat) (r : Int) (w : World) (hT : Tabs w) (hL : TxtAt w p lv) (hl : lv.length ≤ 64) (hc : lv.length ≤ cp) (h100 : ∀ t ∈ lv, t.size ≤ 100) :
    Calls Tryz.prog 55 #[.slice p lv.length cp, .int .i64 r] w fun e w' => e = .returned (.string (rotB lv r)) ∧ Below w.heap.size w w' := by
  have hC := count_any p lv.length cp w
  have HV : Hid (rotB lv r = if 0 ≤ r ∧ r ≤ (lv.length : Int) then treeB (lv.take r.toNat) else ByteArray.empty) := rfl
  by_cases h0 : r < 0
  · have d0 : decide (r < 0) = true := decide_eq_true h0
    rw [if_neg (by omega)] at HV
    rw [HV.out]
    go_enter Tryz.func55, Tryz.ntmps55
    go_wp2_with fail
    go_ret
    exact ⟨rfl, Below.refl _ _⟩
  · have d0 : decide (r < 0) = false := decide_eq_false h0
    by_cases h1 : (lv.length : Int) < r
    · have d1 : decide ((lv.length : Int) < r) = true := decide_eq_true h1
      rw [if_neg (by omega)] at HV
      rw [HV.out]
      go_enter Tryz.func55, Tryz.ntmps55
      go_wp2_with fail
      refine hC.mono ?_
      rintro e y ⟨rfl, rfl⟩
      go_wp2_with fail
      go_ret
      exact ⟨rfl, Below.refl _ _⟩
    · have d1 : decide ((lv.length : Int) < r) = false := decide_eq_false h1
      obtain ⟨K, rfl⟩ : ∃ K : Nat, r = (K : Int) := ⟨r.toNat, by omega⟩
      rw [if_pos (by omega), Int.toNat_natCast] at HV
      rw [HV.out]
      have hl2 : (lv.take K).length = K := by simp; omega
      have hTr := implTree_any p cp (lv.take K) w hT (hL.take K) (by omega) (by omega)
      unfold treeA at hTr
      rw [ent_take hl h100 K, if_pos rfl, hl2] at hTr
      have hs := sl_lv p lv.length cp K (by omega)
      have d1n : decide (lv.length < K) = false := decide_eq_false (by omega)
      clear h0 h1 hl2 HV
      generalize treeB (lv.take K) = TB at *
      go_enter Tryz.func55, Tryz.ntmps55
      go_wp2_with fail
      refine hC.mono ?_
      rintro e y ⟨rfl, rfl⟩
      go_wp2_with fail
      refine hTr.mono ?_
      rintro e y ⟨rfl, b1⟩
      go_wp2_with fail
      go_ret
      exact ⟨rfl, b1⟩
set_option maxHeartbeats 2000000 in
theorem implRootOf_any (p : Option Addr) (lv : List ByteArray) (cp : Nat) (q : Option Addr) (rs : List Rw) (cq : Nat) (now : Int) (r : Int) (w : World) (hT : Tabs w) (hg : Laid w) (hA : LgAt p lv cp q rs cq w) :
    Calls Tryz.prog 25 #[.agg #[.slice q rs.length cq, .slice p lv.length cp, .int .i64 now], .int .i64 r] w fun e w' => e = .returned (.string (roO rs lv now r)) ∧ Below w.heap.size w w' := by
  obtain ⟨W1, hW1⟩ : ∃ W1, W1 = w.alloc (.cells #[.slice q rs.length cq, .slice p lv.length cp, .int .i64 now] 29) := ⟨_, rfl⟩
  have HW1 : Hid (W1 = w.alloc (.cells #[.slice q rs.length cq, .slice p lv.length cp, .int .i64 now] 29)) := hW1
  have B1 : Hid (Below w.heap.size w W1) := by rw [hW1]; exact (Below.refl _ _).alloc (Nat.le_refl _) _
  have hWk := workOn_any p lv cp q rs cq now W1
  have HR : Hid (∀ x, Below w.heap.size w x → Calls Tryz.prog 47 #[.agg #[.slice p lv.length cp, .slice q rs.length cq, .int .i64 now]] x fun e w' => e = .returned (.bool (lgB rs lv now)) ∧ Below x.heap.size x w') := fun x hb => right_any p lv cp q rs cq now x (hT.to hb) (hg.below hb) (hA.below hb)
  unfold lgC wkC at hWk
  clear hW1
  have HP : Hid (lgB rs lv now = true → ∀ x, Below w.heap.size w x → Calls Tryz.prog 55 #[.slice p lv.length cp, .int .i64 r] x fun e w' => e = .returned (.string (rotB lv r)) ∧ Below x.heap.size x w') := fun hg x hb => rootOf_any p lv cp r x (hT.to hb) (hA.tx.below hb) (lg_right hg).2.1 hA.lc (lg_small hg)
  have HV : Hid (roO rs lv now r = if lgB rs lv now = true then rotB lv r else ByteArray.empty) := rfl
  clear hT hg hA
  generalize rotB lv r = PV at *
  go_enter Tryz.func25, Tryz.ntmps25
  go_wp2_with fail
  rw [← HW1.out]
  refine hWk.mono ?_
  rintro e y ⟨rfl, by_⟩
  clear hWk
  obtain ⟨Y2, hY2⟩ : ∃ Y2, Y2 = y.alloc (.cells #[.slice p lv.length cp, .slice q rs.length cq, .int .i64 now] 59) := ⟨_, rfl⟩
  have HY2 : Hid (Y2 = y.alloc (.cells #[.slice p lv.length cp, .slice q rs.length cq, .int .i64 now] 59)) := hY2
  have KY : Hid (Bxs Y2 y.heap.size 59 #[.slice p lv.length cp, .slice q rs.length cq, .int .i64 now]) := by rw [hY2]; exact Bxs.new _ _ _
  have BY : Hid (Below w.heap.size w Y2) := by rw [hY2]; exact alB (chainB B1.out by_) _
  have hR := HR.out Y2 BY.out
  obtain ⟨x0, x1, x2⟩ := KY.out.three
  rw [HY2.out] at x0 x1 x2
  clear hY2 by_ HR
  cases hgg : lgB rs lv now with
  | false =>
    rw [hgg] at hR
    rw [hgg, if_neg Bool.false_ne_true] at HV
    go_wp2_with fail
    rw [← HY2.out]
    refine hR.mono ?_
    rintro e y3 ⟨rfl, b3⟩
    go_wp2_with fail
    go_ret
    exact ⟨by rw [HV.out]; rfl, chainB BY.out b3⟩
  | true =>
    have HP2 : Hid (∀ x, Below w.heap.size w x → Calls Tryz.prog 55 #[.slice p lv.length cp, .int .i64 r] x fun e w' => e = .returned (.string PV) ∧ Below x.heap.size x w') := HP.out hgg
    rw [hgg] at hR
    rw [hgg, if_pos rfl] at HV
    clear HP hgg
    go_wp2_with fail
    rw [← HY2.out]
    refine hR.mono ?_
    rintro e y3 ⟨rfl, b3⟩
    clear hR x0 x1 x2
    have x0 := (KY.out.below b3).cell 0
    have hP := HP2.out y3 (chainB BY.out b3)
    go_wp2_with fail
    refine hP.mono ?_
    rintro e y4 ⟨rfl, b4⟩
    go_wp2_with fail
    go_ret
    exact ⟨by rw [HV.out]; rfl, chainB (chainB BY.out b3) b4⟩
set_option maxHeartbeats 4000000 in
theorem implHeadText_any (p : Option Addr) (lv : List ByteArray) (cp : Nat) (q : Option Addr) (rs : List Rw) (cq : Nat) (now : Int) (w : World) (hT : Tabs w) (hg : Laid w) (hA : LgAt p lv cp q rs cq w) :
    Calls Tryz.prog 27 #[.agg #[.slice q rs.length cq, .slice p lv.length cp, .int .i64 now]] w fun e w' => e = .returned (.string (hdO rs lv now)) ∧ Below w.heap.size w w' := by
  obtain ⟨W1, hW1⟩ : ∃ W1, W1 = w.alloc (.cells #[.slice q rs.length cq, .slice p lv.length cp, .int .i64 now] 29) := ⟨_, rfl⟩
  have HW1 : Hid (W1 = w.alloc (.cells #[.slice q rs.length cq, .slice p lv.length cp, .int .i64 now] 29)) := hW1
  have B1 : Hid (Below w.heap.size w W1) := by rw [hW1]; exact (Below.refl _ _).alloc (Nat.le_refl _) _
  have hWk := workOn_any p lv cp q rs cq now W1
  have HR : Hid (∀ x, Below w.heap.size w x → Calls Tryz.prog 47 #[.agg #[.slice p lv.length cp, .slice q rs.length cq, .int .i64 now]] x fun e w' => e = .returned (.bool (lgB rs lv now)) ∧ Below x.heap.size x w') := fun x hb => right_any p lv cp q rs cq now x (hT.to hb) (hg.below hb) (hA.below hb)
  unfold lgC wkC at hWk
  clear hW1
  have HV : Hid (hdO rs lv now = if lgB rs lv now = true then hdB lv else ByteArray.empty) := rfl
  have hln := hA.ln
  have HRt : Hid (lgB rs lv now = true → ∀ x, Below w.heap.size w x → Calls Tryz.prog 55 #[.slice p lv.length cp, .int .i64 (lv.length : Int)] x fun e w' => e = .returned (.string (treeB lv)) ∧ Below x.heap.size x w') := fun hg x hb => by
    have := rootOf_any p lv cp (lv.length : Int) x (hT.to hb) (hA.tx.below hb) (lg_right hg).2.1 hA.lc (lg_small hg)
    unfold rotB at this
    rwa [if_pos (by omega), Int.toNat_natCast, List.take_length] at this
  clear hT hg hA
  go_enter Tryz.func27, Tryz.ntmps27
  go_wp2_with fail
  rw [← HW1.out]
  refine hWk.mono ?_
  rintro e y ⟨rfl, by_⟩
  clear hWk
  obtain ⟨Y2, hY2⟩ : ∃ Y2, Y2 = y.alloc (.cells #[.slice p lv.length cp, .slice q rs.length cq, .int .i64 now] 59) := ⟨_, rfl⟩
  have HY2 : Hid (Y2 = y.alloc (.cells #[.slice p lv.length cp, .slice q rs.length cq, .int .i64 now] 59)) := hY2
  have KY : Hid (Bxs Y2 y.heap.size 59 #[.slice p lv.length cp, .slice q rs.length cq, .int .i64 now]) := by rw [hY2]; exact Bxs.new _ _ _
  have BY : Hid (Below w.heap.size w Y2) := by rw [hY2]; exact alB (chainB B1.out by_) _
  have hR := HR.out Y2 BY.out
  obtain ⟨x0, x1, x2⟩ := KY.out.three
  rw [HY2.out] at x0 x1 x2
  clear hY2 by_ HR
  cases hgg : lgB rs lv now with
  | false =>
    rw [hgg] at hR
    rw [hgg, if_neg Bool.false_ne_true] at HV
    go_wp2_with fail
    rw [← HY2.out]
    refine hR.mono ?_
    rintro e y3 ⟨rfl, b3⟩
    go_wp2_with fail
    go_ret
    exact ⟨by rw [HV.out]; rfl, chainB BY.out b3⟩
  | true =>
    have HRt2 : Hid (∀ x, Below w.heap.size w x → Calls Tryz.prog 55 #[.slice p lv.length cp, .int .i64 (lv.length : Int)] x fun e w' => e = .returned (.string (treeB lv)) ∧ Below x.heap.size x w') := HRt.out hgg
    rw [hgg] at hR
    rw [hgg, if_pos rfl] at HV
    clear HRt hgg
    go_wp2_with fail
    rw [← HY2.out]
    refine hR.mono ?_
    rintro e y3 ⟨rfl, b3⟩
    clear hR x0 x1 x2
    have BR : Hid (Below y3.heap.size y3 y3.drew) := (Below.refl _ _).drew
    have HX : Hid (∀ x, Below y3.heap.size y3 x → x.cell? ⟨y.heap.size, 0, none⟩ = some (.slice p lv.length cp)) := fun x hb => ((KY.out.below b3).below hb).cell 0
    have HW : Hid (∀ x, Below y3.heap.size y3 x → Below w.heap.size w x) := fun x hb => chainB (chainB BY.out b3) hb
    have HN : Hid (∀ x, Below y3.heap.size y3 x → Calls Tryz.prog 58 #[.int .i64 (lv.length : Int)] x fun e w' => e = .returned (.string (putB (lv.length : Int))) ∧ Below y3.heap.size y3 w') := fun x hb => (implPutNum_any _ x (by omega) (by omega)).mono (by rintro e y ⟨rfl, b⟩; exact ⟨rfl, chainB hb b⟩)
    have HRo : Hid (∀ x, Below y3.heap.size y3 x → Calls Tryz.prog 55 #[.slice p lv.length cp, .int .i64 (lv.length : Int)] x fun e w' => e = .returned (.string (treeB lv)) ∧ Below y3.heap.size y3 w') := fun x hb => (HRt2.out x (HW.out x hb)).mono (by rintro e y ⟨rfl, b⟩; exact ⟨rfl, chainB hb b⟩)
    have HPt : Hid (∀ x, Below y3.heap.size y3 x → Calls Tryz.prog 60 #[.string (treeB lv)] x fun e w' => e = .returned (.string (putTextB (treeB lv))) ∧ Below y3.heap.size y3 w') := fun x hb => (implPutText_any _ x (by rw [treeB_size]; unfold maxLen; omega)).mono (by rintro e y ⟨rfl, b⟩; exact ⟨rfl, chainB hb b⟩)
    have HJ : Hid (∀ x b, Below y3.heap.size y3 x → b < x.heap.size → x.cell? ⟨b, 0, none⟩ = some (.string (putB (lv.length : Int))) → x.cell? ⟨b, 1, none⟩ = some (.string (putTextB (treeB lv))) → Calls Tryz.prog 57 #[.slice (some ⟨b, 0, none⟩) 2 2] x fun e w' => e = .returned (.string (hdB lv)) ∧ Below y3.heap.size y3 w') := fun x b hb hbl h0 h1 => by
      have hz1 : (putB (lv.length : Int)).size ≤ 10 := putB_size _
      have hz2 := putTextB_32 (treeB_size lv)
      have := joined_any b 0 2 2 [putB (lv.length : Int), putTextB (treeB lv)] x rfl hbl (by omega) (by omega) (fun i hi => by
        match i, hi with
        | 0, _ => exact h0
        | 1, _ => exact h1) (by simp [sumN, catN]; omega)
      rw [cat_two] at this
      exact this.mono (by rintro e y ⟨rfl, b⟩; exact ⟨rfl, chainB hb b⟩)
    clear HRt2 b3
    generalize hdB lv = HD at *
    generalize putTextB (treeB lv) = PT at *
    generalize treeB lv = TB at *
    generalize putB (lv.length : Int) = PN at *
    go_upto_region 4 with fail
    have z0 := BR.out
    refine wp_region_held_drew (S := (fun w' => w'.cell? ⟨y.heap.size, 0, none⟩ = some (.slice p lv.length cp))) (by kernel_rfl) (HX.out _ BR.out) (fun hHeld => ?_)
    refine take_at 0 (v := ?_) rfl (by kernel_rfl) (by kernel_rfl) (by kernel_rfl) (fun _ _ _ h => h) hHeld (Or.inl ⟨by rfl, ?_⟩) ?_
    rotate_left
    · (intro w hSw; (try dsimp only at hSw); go_simp; try with_reducible rfl)
    simp only [Act.put, List.setIfInBounds_toArray, List.set_cons_zero, List.set_cons_succ]
    refine take_at 1 (v := ?_) rfl (by kernel_rfl) (by kernel_rfl) (by kernel_rfl) (fun _ _ _ h => h) hHeld (Or.inl ⟨by rfl, ?_⟩) ?_
    rotate_left
    · (intro w hSw; (try dsimp only at hSw); go_simp; try with_reducible rfl)
    simp only [Act.put, List.setIfInBounds_toArray, List.set_cons_zero, List.set_cons_succ]
    refine take_at 4 (v := ?_) rfl (by kernel_rfl) (by kernel_rfl) (by kernel_rfl) (fun _ _ _ h => h) hHeld (Or.inl ⟨by rfl, ?_⟩) ?_
    rotate_left
    · (intro w hSw; (try dsimp only at hSw); go_simp; try with_reducible rfl)
    simp only [Act.put, List.setIfInBounds_toArray, List.set_cons_zero, List.set_cons_succ]
    refine take_at 5 (v := ?_) rfl (by kernel_rfl) (by kernel_rfl) (by kernel_rfl) (fun _ _ _ h => h) hHeld (Or.inl ⟨by rfl, ?_⟩) ?_
    rotate_left
    · (intro w hSw; (try dsimp only at hSw); go_simp; try with_reducible rfl)
    simp only [Act.put, List.setIfInBounds_toArray, List.set_cons_zero, List.set_cons_succ]
    refine take_at 6 (v := ?_) rfl (by kernel_rfl) (by kernel_rfl) (by kernel_rfl) (fun _ _ _ h => h) hHeld (Or.inl ⟨by rfl, ?_⟩) ?_
    rotate_left
    · (intro w hSw; (try dsimp only at hSw); go_simp; try with_reducible rfl)
    simp only [Act.put, List.setIfInBounds_toArray, List.set_cons_zero, List.set_cons_succ]
    refine take_at 7 (v := ?_) rfl (by kernel_rfl) (by kernel_rfl) (by kernel_rfl) (fun _ _ _ h => h) hHeld (Or.inl ⟨by rfl, ?_⟩) ?_
    rotate_left
    · (intro w hSw; (try dsimp only at hSw); go_simp; try with_reducible rfl)
    simp only [Act.put, List.setIfInBounds_toArray, List.set_cons_zero, List.set_cons_succ]
    refine ready_at 2 rfl (by kernel_rfl) (fun K hK => ?_)
    go_simp
    (go_at_call 59; with_reducible refine (count_any p lv.length cp _).mono ?_; rintro e ya ⟨rfl, rfl⟩)
    refine hK.out _ _ (HX.out _ z0) (fun hHeld => ?_)
    clear hK K
    try simp only [Act.put, List.setIfInBounds_toArray, List.set_cons_zero, List.set_cons_succ]
    refine ready_at 3 rfl (by kernel_rfl) (fun K hK => ?_)
    go_simp
    (go_at_call 58; with_reducible refine (HN.out _ z0).mono ?_; rintro e yb ⟨rfl, z1⟩)
    refine hK.out _ _ (HX.out _ z1) (fun hHeld => ?_)
    clear hK K
    try simp only [Act.put, List.setIfInBounds_toArray, List.set_cons_zero, List.set_cons_succ]
    refine ready_at 8 rfl (by kernel_rfl) (fun K hK => ?_)
    go_simp
    (go_at_call 59; with_reducible refine (count_any p lv.length cp _).mono ?_; rintro e yc ⟨rfl, rfl⟩)
    refine hK.out _ _ (HX.out _ z1) (fun hHeld => ?_)
    clear hK K
    try simp only [Act.put, List.setIfInBounds_toArray, List.set_cons_zero, List.set_cons_succ]
    refine ready_at 9 rfl (by kernel_rfl) (fun K hK => ?_)
    go_simp
    (go_at_call 55; with_reducible refine (HRo.out _ z1).mono ?_; rintro e yd ⟨rfl, z3⟩)
    refine hK.out _ _ (HX.out _ z3) (fun hHeld => ?_)
    clear hK K
    try simp only [Act.put, List.setIfInBounds_toArray, List.set_cons_zero, List.set_cons_succ]
    refine ready_at 10 rfl (by kernel_rfl) (fun K hK => ?_)
    go_simp
    (go_at_call 60; with_reducible refine (HPt.out _ z3).mono ?_; rintro e ye ⟨rfl, z4⟩)
    refine hK.out _ _ (HX.out _ z4) (fun hHeld => ?_)
    clear hK K
    try simp only [Act.put, List.setIfInBounds_toArray, List.set_cons_zero, List.set_cons_succ]
    refine ready_at 11 rfl (by kernel_rfl) (fun K hK => ?_)
    go_simp
    have z5 : Below y3.heap.size y3 (ye.alloc (.cells #[.string PN, .string PT] 9)) := alB z4 _
    have hbl : ye.heap.size < (ye.alloc (.cells #[.string PN, .string PT] 9)).heap.size := by simp
    have j0 : (ye.alloc (.cells #[.string PN, .string PT] 9)).cell? ⟨ye.heap.size, 0, none⟩ = some (.string PN) := (Bxs.new ye 9 #[.string PN, .string PT]).cell 0
    have j1 : (ye.alloc (.cells #[.string PN, .string PT] 9)).cell? ⟨ye.heap.size, 1, none⟩ = some (.string PT) := (Bxs.new ye 9 #[.string PN, .string PT]).cell 1
    refine hK.out _ _ (HX.out _ z5) (fun hHeld => ?_)
    clear hK K
    try simp only [Act.put, List.setIfInBounds_toArray, List.set_cons_zero, List.set_cons_succ]
    refine ready_at 12 rfl (by kernel_rfl) (fun K hK => ?_)
    go_simp
    (go_at_call 57; with_reducible refine (HJ.out _ _ z5 hbl j0 j1).mono ?_; rintro e yg ⟨rfl, z6⟩)
    refine hK.out _ _ (HX.out _ z6) (fun hHeld => ?_)
    clear hK K
    try simp only [Act.put, List.setIfInBounds_toArray, List.set_cons_zero, List.set_cons_succ]
    refine take_at 13 (v := ?_) rfl (by kernel_rfl) (by kernel_rfl) (by kernel_rfl) (fun _ _ _ h => h) hHeld (Or.inl ⟨by rfl, ?_⟩) ?_
    rotate_left
    · (intro w hSw; (try dsimp only at hSw); go_simp; try with_reducible rfl)
    simp only [Act.put, List.setIfInBounds_toArray, List.set_cons_zero, List.set_cons_succ]
    refine wpAnyH_done (by kernel_rfl) ?_ _
    go_wp2_with fail
    go_ret
    exact ⟨by rw [HV.out]; rfl, HW.out _ z6⟩
end Go.Proofs.YtnaonldkbaapeabGreatDoor
/-
  What the two listed tables give a walk: 'Tabs'.
-/
namespace Go.Proofs.YtnaonldkbaapeabGreatDoor
open Go.RowKit Go.Lib
set_option linter.unusedVariables false

theorem g0 : Tryz.prog.globalNamed "loop.example/g00633/impl.firstState" = some 0 := by kernel_rfl
theorem g1 : Tryz.prog.globalNamed "loop.example/g00633/impl.roundNums" = some 1 := by kernel_rfl
theorem tab_of {W : World} {name : String} {zs : List Int} {g : Nat} {t : TypeId} {n : Nat} (hg : Tryz.prog.globalNamed name = some g) (hty : (Tryz.prog.globals[g]?).map (·.type) = some t) (ht : Tryz.prog.underlying t = some (.array n 137)) (hct : Tryz.prog.cellsOf t = n)
    (h : VarReads Tryz.prog W name (tabData .u32 zs)) (i : Nat) (hi : i < zs.length) : W.cell? ⟨g, i, none⟩ = some (.int .u32 (zs.getD i 0)) := by
  obtain ⟨g', t', cs, fuel, p, h1, h2, h3, h4⟩ := h
  obtain rfl := Option.some.inj (hg.symm.trans h1)
  obtain rfl := Option.some.inj (hty.symm.trans h2)
  refine TabIs.cell (P := Tryz.prog) (name := name) ?_ hg i hi
  unfold TabIs
  rw [h3, ← cells_of_tab ht Tryz.underlying137 (by kernel_rfl) hct h4]
theorem tabs_of {W : World} (h : laidMet Tryz.prog [("loop.example/g00633/impl.firstState", Rows.laid_loop_example_g00633_impl_firstState), ("loop.example/g00633/impl.roundNums", Rows.laid_loop_example_g00633_impl_roundNums)] W) : Tabs W := by
  have r0 : VarReads Tryz.prog W "loop.example/g00633/impl.firstState" (tabData .u32 startN) := laidMet.reads h (.head _)
  have r1 : VarReads Tryz.prog W "loop.example/g00633/impl.roundNums" (tabData .u32 keysN) := laidMet.reads h (.tail _ (.head _))
  have c0 := tab_of g0 (by kernel_rfl) (t := 159) (n := 8) (by kernel_rfl) (by kernel_rfl) r0
  have c1 := tab_of g1 (by kernel_rfl) (t := 172) (n := 64) (by kernel_rfl) (by kernel_rfl) r1
  exact ⟨World.block_lt_of_cell? W ⟨1, 0, none⟩ (c1 0 (by decide)), fun i hi => c1 i hi, fun i hi => c0 i hi⟩
end Go.Proofs.YtnaonldkbaapeabGreatDoor
/-
  What the three listed variables give a walk: errors.errorType and the two tables of the digest.
-/
namespace Go.Proofs.YtnaonldkbaapeabGreatDoor
open Go.RowKit
set_option linter.unusedVariables false

theorem et3 : Tryz.prog.globalNamed "errors.errorType" = some 2 := by kernel_rfl
theorem rt3 : (Tryz.prog.cutTypes.find? (·.1 == "internal/reflectlite.rtype")).map (·.2) = some 203 := by kernel_rfl
theorem oneRow3 : ((List.range 253).filter fun t => Tryz.prog.rowNamed t [101, 114, 114, 111, 114]) = [168] := by kernel_rfl
theorem size3 : Tryz.prog.types.size = 253 := by kernel_rfl
theorem laid3_of {W : World} (h : laidMetH Tryz.prog [("errors.errorType", Rows.laid_errors_errorType), ("loop.example/g00633/impl.firstState", Rows.laid_loop_example_g00633_impl_firstState), ("loop.example/g00633/impl.roundNums", Rows.laid_loop_example_g00633_impl_roundNums)] W) : Tabs W ∧ Laid W := by
  have h' : laidMet Tryz.prog [("loop.example/g00633/impl.firstState", Rows.laid_loop_example_g00633_impl_firstState), ("loop.example/g00633/impl.roundNums", Rows.laid_loop_example_g00633_impl_roundNums)] W ∧ handlesMet Tryz.prog [("errors.errorType", Rows.laid_errors_errorType)] W := h
  refine ⟨tabs_of h'.1, ?_⟩
  obtain ⟨name, u, ty, e1, e2, e3, e4, e5⟩ := h'.2 _ (List.mem_singleton.2 rfl)
  have en : name = [101, 114, 114, 111, 114] := (Option.some.inj e1).symm
  subst en
  obtain rfl := Option.some.inj (rt3.symm.trans e2)
  have hm : ty ∈ (List.range 253).filter fun t => Tryz.prog.rowNamed t [101, 114, 114, 111, 114] := List.mem_filter.2 ⟨List.mem_range.2 (by rw [← size3]; exact e3), e4⟩
  rw [oneRow3] at hm
  obtain rfl := List.mem_singleton.1 hm
  have hh : typeHandle Tryz.prog 168 = .pointer (some ⟨3, 168, none⟩) := by kernel_rfl
  rw [hh] at e5
  show W.cell? ⟨2, 0, none⟩ = _
  simpa using World.var?_cell et3 e5 0
end Go.Proofs.YtnaonldkbaapeabGreatDoor
