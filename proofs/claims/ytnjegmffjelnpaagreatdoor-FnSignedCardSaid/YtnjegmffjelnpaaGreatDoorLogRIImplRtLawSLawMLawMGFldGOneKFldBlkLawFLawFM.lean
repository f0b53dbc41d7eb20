/-
  Parts of one proof, laid as one text: LogRI, ImplRt, LawS, LawM, LawMG, FldG, OneK, FldBlk, LawF, LawFM; what each says stands at its head.
-/
import Derived.Test.YtnjegmffjelnpaaGreatDoorRows
import Derived.Test.YtnjegmffjelnpaaGreatDoorBytesDigMathTurnIWholeR
import Derived.Test.YtnjegmffjelnpaaGreatDoorSlABxKSlBOwnSSgnBOwnBPadI
import Derived.Test.YtnjegmffjelnpaaGreatDoorSpecRtAsDAs2CodeOfTimeIImplFCBlNot
import Derived.Test.YtnjegmffjelnpaaGreatDoorTimeBPutTextFldMathFldRiseScanMath
import Derived.Test.YtnjegmffjelnpaaGreatDoorLgMathLgAtKLgAnsLgRtTakesFldIsFldC
import Derived.Test.YtnjegmffjelnpaaGreatDoorImplLg
import Derived.Test.YtnjegmffjelnpaaGreatDoorLeavesI
import Derived.Handy
import Derived.WalkSpells
import Derived.OwnWalk
import Derived.Test.YtnjegmffjelnpaaGreatDoorMacMathPutMathJoinedDigITurn2
import Derived.Test.YtnjegmffjelnpaaGreatDoorTreeMath
import Derived.Test.YtnjegmffjelnpaaGreatDoorPowerHalvesTreeTree2TreeHPathMathIncMathTaker
import Derived.Test.YtnjegmffjelnpaaGreatDoorPutNumAppSSrc
import Derived.Test.YtnjegmffjelnpaaGreatDoorGetValGetTxtNumMathFldRdNumFromTmbMath
import Derived.Deep.RegionHeld3
import Derived.Deep.Cut
import Derived.Deep.QuietTactic
import Derived.BigQuiet
import Derived.Laws.OwnMore
import Derived.Deep.AppendLies
import Derived.Test.YtnjegmffjelnpaaGreatDoorShwKImplFT
import Derived.Deep.RegionLaw
import Derived.Deep.RegionWith
/-
  Whether a log is right, as the program answers.
  Conditions: the cells of Rows and Leaves hold the rows and leaves; the tables of the digest and errors.errorType are laid.
-/
namespace Go.Proofs.YtnjegmffjelnpaaGreatDoor
open Go.RowKit Go.Lib
set_option linter.unusedVariables false
set_option maxRecDepth 20000

theorem im_parts (rs : List Rw) (lv : List ByteArray) (now : Int) : lgB rs lv now = (timeB now && ((decide (rs.length ≤ 6) && rsB rs now) && lvOk rs now lv)) := by rw [lg_eq]; rfl
theorem rs_all {rs : List Rw} {now : Int} (h : rsB rs now = true) : ∀ r ∈ rs, rB r = true := fun r hr => by
  unfold rsB at h
  rw [List.all_eq_true] at h
  exact (Bool.and_eq_true_iff.1 (h r hr)).1
set_option maxHeartbeats 2000000 in
theorem right_any (p : Option Addr) (lv : List ByteArray) (cp : Nat) (q : Option Addr) (rs : List Rw) (cq : Nat) (now : Int) (w : World) (hT : Tabs w) (hg : Laid w) (hA : LgAt p lv cp q rs cq w) :
    Calls Tryz.prog 43 #[.agg (wkC p lv cp q rs cq now)] w fun e w' => e = .returned (.bool (lgB rs lv now)) ∧ Below w.heap.size w w' := by
  obtain ⟨W1, hW1⟩ : ∃ W1, W1 = w.alloc (.cells #[.slice p lv.length cp, .slice q rs.length cq, .int .i64 now] 80) := ⟨_, rfl⟩
  have HW1 : Hid (W1 = w.alloc (.cells #[.slice p lv.length cp, .slice q rs.length cq, .int .i64 now] 80)) := hW1
  have K1 : Hid (Bxs W1 w.heap.size 80 #[.slice p lv.length cp, .slice q rs.length cq, .int .i64 now]) := by rw [hW1]; exact Bxs.new _ _ _
  have B1 : Hid (Below w.heap.size w W1) := by rw [hW1]; exact (Below.refl _ _).alloc (Nat.le_refl _) _
  have HA1 : Hid (LgAt p lv cp q rs cq W1) := hA.below B1.out
  have HT1 : Hid (Tabs W1) := hT.to B1.out
  have HG1 : Hid (Laid W1) := hg.below B1.out
  have hTi := timeRight_any now W1
  have hRR := rowsRight_any p lv cp q rs cq now W1 HT1.out HA1.out.rw HA1.out.rn HA1.out.rc HA1.out.rz
  have HLR : Hid (∀ x, Below W1.heap.size W1 x → rs.length ≤ 6 → rsB rs now = true → Calls Tryz.prog 90 #[.agg #[.slice p lv.length cp, .slice q rs.length cq, .int .i64 now]] x fun e w' => e = .returned (.bool (lvOk rs now lv)) ∧ Below x.heap.size x w') := fun x hb h6 hr => leavesRight_any p lv cp q rs cq now x (HT1.out.to hb) (HG1.out.below hb) (HA1.out.tx.below hb) hA.ln hA.lc hA.lz (HA1.out.rw.below hb) hA.rc (rs_all hr) hA.rz h6
  have HE : Hid (lgB rs lv now = (timeB now && ((decide (rs.length ≤ 6) && rsB rs now) && lvOk rs now lv))) := im_parts rs lv now
  rw [HE.out]
  unfold wkC at hRR ⊢
  obtain ⟨x0, x1, x2⟩ := K1.out.three
  rw [HW1.out] at x0 x1 x2
  clear hW1 hT hg hA HT1 HG1 HA1 HE
  cases ht : timeB now with
  | false =>
    rw [ht] at hTi
    clear hRR HLR
    go_enter Tryz.func43, Tryz.ntmps43
    go_wp2_with fail
    rw [← HW1.out]
    refine hTi.mono ?_
    rintro e y ⟨rfl, rfl⟩
    go_wp2_with fail
    go_ret
    exact ⟨rfl, B1.out⟩
  | true =>
    rw [ht] at hTi
    cases hr : (decide (rs.length ≤ 6) && rsB rs now) with
    | false =>
      rw [hr] at hRR
      clear HLR
      go_enter Tryz.func43, Tryz.ntmps43
      go_wp2_with fail
      rw [← HW1.out]
      refine hTi.mono ?_
      rintro e y ⟨rfl, rfl⟩
      rw [← HW1.out] at x0 x1 x2
      go_wp2_with fail
      refine hRR.mono ?_
      rintro e y2 ⟨rfl, b2⟩
      go_wp2_with fail
      go_ret
      exact ⟨rfl, chainB B1.out b2⟩
    | true =>
      rw [hr] at hRR
      obtain ⟨h6, hrs⟩ := Bool.and_eq_true_iff.1 hr
      have HLR2 : Hid (∀ x, Below W1.heap.size W1 x → Calls Tryz.prog 90 #[.agg #[.slice p lv.length cp, .slice q rs.length cq, .int .i64 now]] x fun e w' => e = .returned (.bool (lvOk rs now lv)) ∧ Below x.heap.size x w') := fun x hb => HLR.out x hb (of_decide_eq_true h6) hrs
      clear HLR h6 hrs hr
      generalize lvOk rs now lv = R at *
      go_enter Tryz.func43, Tryz.ntmps43
      go_wp2_with fail
      rw [← HW1.out]
      refine hTi.mono ?_
      rintro e y ⟨rfl, rfl⟩
      rw [← HW1.out] at x0 x1 x2
      go_wp2_with fail
      refine hRR.mono ?_
      rintro e y2 ⟨rfl, b2⟩
      have hL := HLR2.out y2 b2
      clear x0 x1 x2 hRR hTi HLR2
      obtain ⟨x0, x1, x2⟩ := (K1.out.below b2).three
      go_wp2_with fail
      refine hL.mono ?_
      rintro e y3 ⟨rfl, b3⟩
      clear hL
      go_wp2_with fail
      go_ret
      exact ⟨rfl, chainB (chainB B1.out b2) b3⟩
end Go.Proofs.YtnjegmffjelnpaaGreatDoor
/-
  RootOf and HeadText, as the program answers.
  Conditions: the cells hold the rows and leaves; the tables of the digest and errors.errorType are laid.
-/
namespace Go.Proofs.YtnjegmffjelnpaaGreatDoor
open Go.RowKit Go.Lib
set_option linter.unusedVariables false
set_option maxRecDepth 20000

theorem count_any (p : Option Addr) (n cp : Nat) (w : World) : Calls Tryz.prog 46 #[.slice p n cp] w fun e w' => e = .returned (.int .i64 (n : Int)) ∧ w' = w := by
  go_enter Tryz.func46, Tryz.ntmps46
  go_wp2_with fail
  go_ret
  exact ⟨rfl, rfl⟩
def rotB (lv : List ByteArray) (n : Int) : ByteArray := if 0 ≤ n ∧ n ≤ (lv.length : Int) then treeB (lv.take n.toNat) else ByteArray.empty
set_option maxHeartbeats 2000000 in
theorem rootOf_any (p : Option Addr) (lv : List ByteArray) (cp : Nat) (r : Int) (w : World) (hT : Tabs w) (hL : TxtAt w p lv) (hl : lv.length ≤ 64) (hc : lv.length ≤ cp) (h100 : ∀ t ∈ lv, t.size ≤ 100) :
    Calls Tryz.prog 48 #[.slice p lv.length cp, .int .i64 r] w fun e w' => e = .returned (.string (rotB lv r)) ∧ Below w.heap.size w w' := by
  have hC := count_any p lv.length cp w
  have HV : Hid (rotB lv r = if 0 ≤ r ∧ r ≤ (lv.length : Int) then treeB (lv.take r.toNat) else ByteArray.empty) := rfl
  by_cases h0 : r < 0
  · have d0 : decide (r < 0) = true := decide_eq_true h0
    rw [if_neg (by omega)] at HV
    rw [HV.out]
    go_enter Tryz.func48, Tryz.ntmps48
    go_wp2_with fail
    go_ret
    exact ⟨rfl, Below.refl _ _⟩
  · have d0 : decide (r < 0) = false := decide_eq_false h0
    by_cases h1 : (lv.length : Int) < r
    · have d1 : decide ((lv.length : Int) < r) = true := decide_eq_true h1
      rw [if_neg (by omega)] at HV
      rw [HV.out]
      go_enter Tryz.func48, Tryz.ntmps48
      go_wp2_with fail
      refine hC.mono ?_
      rintro e y ⟨rfl, rfl⟩
      go_wp2_with fail
      go_ret
      exact ⟨rfl, Below.refl _ _⟩
    · have d1 : decide ((lv.length : Int) < r) = false := decide_eq_false h1
      obtain ⟨K, rfl⟩ : ∃ K : Nat, r = (K : Int) := ⟨r.toNat, by omega⟩
      rw [if_pos (by omega), Int.toNat_natCast] at HV
      rw [HV.out]
      have hl2 : (lv.take K).length = K := by simp; omega
      have hTr := implTree_any p cp (lv.take K) w hT (hL.take K) (by omega) (by omega)
      unfold treeA at hTr
      rw [ent_take hl h100 K, if_pos rfl, hl2] at hTr
      have hs := sl_lv p lv.length cp K (by omega)
      have d1n : decide (lv.length < K) = false := decide_eq_false (by omega)
      clear h0 h1 hl2 HV
      generalize treeB (lv.take K) = TB at *
      go_enter Tryz.func48, Tryz.ntmps48
      go_wp2_with fail
      refine hC.mono ?_
      rintro e y ⟨rfl, rfl⟩
      go_wp2_with fail
      refine hTr.mono ?_
      rintro e y ⟨rfl, b1⟩
      go_wp2_with fail
      go_ret
      exact ⟨rfl, b1⟩
set_option maxHeartbeats 4000000 in
theorem implHeadText_any (p : Option Addr) (lv : List ByteArray) (cp : Nat) (q : Option Addr) (rs : List Rw) (cq : Nat) (now : Int) (w : World) (hT : Tabs w) (hg : Laid w) (hA : LgAt p lv cp q rs cq w) :
    Calls Tryz.prog 16 #[.agg #[.slice q rs.length cq, .slice p lv.length cp, .int .i64 now]] w fun e w' => e = .returned (.string (hdO rs lv now)) ∧ Below w.heap.size w w' := by
  obtain ⟨W1, hW1⟩ : ∃ W1, W1 = w.alloc (.cells #[.slice q rs.length cq, .slice p lv.length cp, .int .i64 now] 26) := ⟨_, rfl⟩
  have HW1 : Hid (W1 = w.alloc (.cells #[.slice q rs.length cq, .slice p lv.length cp, .int .i64 now] 26)) := hW1
  have B1 : Hid (Below w.heap.size w W1) := by rw [hW1]; exact (Below.refl _ _).alloc (Nat.le_refl _) _
  have hWk := workOn_any p lv cp q rs cq now W1
  have HR : Hid (∀ x, Below w.heap.size w x → Calls Tryz.prog 43 #[.agg #[.slice p lv.length cp, .slice q rs.length cq, .int .i64 now]] x fun e w' => e = .returned (.bool (lgB rs lv now)) ∧ Below x.heap.size x w') := fun x hb => right_any p lv cp q rs cq now x (hT.to hb) (hg.below hb) (hA.below hb)
  unfold lgC wkC at hWk
  clear hW1
  have HV : Hid (hdO rs lv now = if lgB rs lv now = true then hdB lv else ByteArray.empty) := rfl
  have hln := hA.ln
  have HRt : Hid (lgB rs lv now = true → ∀ x, Below w.heap.size w x → Calls Tryz.prog 48 #[.slice p lv.length cp, .int .i64 (lv.length : Int)] x fun e w' => e = .returned (.string (treeB lv)) ∧ Below x.heap.size x w') := fun hg x hb => by
    have := rootOf_any p lv cp (lv.length : Int) x (hT.to hb) (hA.tx.below hb) (lg_right hg).2.1 hA.lc (lg_small hg)
    unfold rotB at this
    rwa [if_pos (by omega), Int.toNat_natCast, List.take_length] at this
  clear hT hg hA
  go_enter Tryz.func16, Tryz.ntmps16
  go_wp2_with fail
  rw [← HW1.out]
  refine hWk.mono ?_
  rintro e y ⟨rfl, by_⟩
  clear hWk
  obtain ⟨Y2, hY2⟩ : ∃ Y2, Y2 = y.alloc (.cells #[.slice p lv.length cp, .slice q rs.length cq, .int .i64 now] 80) := ⟨_, rfl⟩
  have HY2 : Hid (Y2 = y.alloc (.cells #[.slice p lv.length cp, .slice q rs.length cq, .int .i64 now] 80)) := hY2
  have KY : Hid (Bxs Y2 y.heap.size 80 #[.slice p lv.length cp, .slice q rs.length cq, .int .i64 now]) := by rw [hY2]; exact Bxs.new _ _ _
  have BY : Hid (Below w.heap.size w Y2) := by rw [hY2]; exact alB (chainB B1.out by_) _
  have hR := HR.out Y2 BY.out
  obtain ⟨x0, x1, x2⟩ := KY.out.three
  rw [HY2.out] at x0 x1 x2
  clear hY2 by_ HR
  cases hgg : lgB rs lv now with
  | false =>
    rw [hgg] at hR
    rw [hgg, if_neg Bool.false_ne_true] at HV
    go_wp2_with fail
    rw [← HY2.out]
    refine hR.mono ?_
    rintro e y3 ⟨rfl, b3⟩
    go_wp2_with fail
    go_ret
    exact ⟨by rw [HV.out]; rfl, chainB BY.out b3⟩
  | true =>
    have HRt2 : Hid (∀ x, Below w.heap.size w x → Calls Tryz.prog 48 #[.slice p lv.length cp, .int .i64 (lv.length : Int)] x fun e w' => e = .returned (.string (treeB lv)) ∧ Below x.heap.size x w') := HRt.out hgg
    rw [hgg] at hR
    rw [hgg, if_pos rfl] at HV
    clear HRt hgg
    go_wp2_with fail
    rw [← HY2.out]
    refine hR.mono ?_
    rintro e y3 ⟨rfl, b3⟩
    clear hR x0 x1 x2
    have BR : Hid (Below y3.heap.size y3 y3.drew) := (Below.refl _ _).drew
    have HX : Hid (∀ x, Below y3.heap.size y3 x → x.cell? ⟨y.heap.size, 0, none⟩ = some (.slice p lv.length cp)) := fun x hb => ((KY.out.below b3).below hb).cell 0
    have HW : Hid (∀ x, Below y3.heap.size y3 x → Below w.heap.size w x) := fun x hb => chainB (chainB BY.out b3) hb
    have HN : Hid (∀ x, Below y3.heap.size y3 x → Calls Tryz.prog 45 #[.int .i64 (lv.length : Int)] x fun e w' => e = .returned (.string (putB (lv.length : Int))) ∧ Below y3.heap.size y3 w') := fun x hb => (implPutNum_any _ x (by omega) (by omega)).mono (by rintro e y ⟨rfl, b⟩; exact ⟨rfl, chainB hb b⟩)
    have HRo : Hid (∀ x, Below y3.heap.size y3 x → Calls Tryz.prog 48 #[.slice p lv.length cp, .int .i64 (lv.length : Int)] x fun e w' => e = .returned (.string (treeB lv)) ∧ Below y3.heap.size y3 w') := fun x hb => (HRt2.out x (HW.out x hb)).mono (by rintro e y ⟨rfl, b⟩; exact ⟨rfl, chainB hb b⟩)
    have HPt : Hid (∀ x, Below y3.heap.size y3 x → Calls Tryz.prog 47 #[.string (treeB lv)] x fun e w' => e = .returned (.string (putTextB (treeB lv))) ∧ Below y3.heap.size y3 w') := fun x hb => (implPutText_any _ x (by rw [treeB_size]; unfold maxLen; omega)).mono (by rintro e y ⟨rfl, b⟩; exact ⟨rfl, chainB hb b⟩)
    have HJ : Hid (∀ x b, Below y3.heap.size y3 x → b < x.heap.size → x.cell? ⟨b, 0, none⟩ = some (.string (putB (lv.length : Int))) → x.cell? ⟨b, 1, none⟩ = some (.string (putTextB (treeB lv))) → Calls Tryz.prog 44 #[.slice (some ⟨b, 0, none⟩) 2 2] x fun e w' => e = .returned (.string (hdB lv)) ∧ Below y3.heap.size y3 w') := fun x b hb hbl h0 h1 => by
      have hz1 : (putB (lv.length : Int)).size ≤ 10 := putB_size _
      have hz2 := putTextB_32 (treeB_size lv)
      have := joined_any b 0 2 2 [putB (lv.length : Int), putTextB (treeB lv)] x rfl hbl (by omega) (by omega) (fun i hi => by
        match i, hi with
        | 0, _ => exact h0
        | 1, _ => exact h1) (by simp [sumN, catN]; omega)
      rw [cat_two] at this
      exact this.mono (by rintro e y ⟨rfl, b⟩; exact ⟨rfl, chainB hb b⟩)
    clear HRt2 b3
    generalize hdB lv = HD at *
    generalize putTextB (treeB lv) = PT at *
    generalize treeB lv = TB at *
    generalize putB (lv.length : Int) = PN at *
    go_upto_region 4 with fail
    have z0 := BR.out
    refine wp_region_held_drew (S := (fun w' => w'.cell? ⟨y.heap.size, 0, none⟩ = some (.slice p lv.length cp))) (by kernel_rfl) (HX.out _ BR.out) (fun hHeld => ?_)
    refine take_at 0 (v := ?_) rfl (by kernel_rfl) (by kernel_rfl) (by kernel_rfl) (fun _ _ _ h => h) hHeld (Or.inl ⟨by rfl, ?_⟩) ?_
    rotate_left
    · (intro w hSw; (try dsimp only at hSw); go_simp; try with_reducible rfl)
    simp only [Act.put, List.setIfInBounds_toArray, List.set_cons_zero, List.set_cons_succ]
    refine take_at 1 (v := ?_) rfl (by kernel_rfl) (by kernel_rfl) (by kernel_rfl) (fun _ _ _ h => h) hHeld (Or.inl ⟨by rfl, ?_⟩) ?_
    rotate_left
    · (intro w hSw; (try dsimp only at hSw); go_simp; try with_reducible rfl)
    simp only [Act.put, List.setIfInBounds_toArray, List.set_cons_zero, List.set_cons_succ]
    refine take_at 4 (v := ?_) rfl (by kernel_rfl) (by kernel_rfl) (by kernel_rfl) (fun _ _ _ h => h) hHeld (Or.inl ⟨by rfl, ?_⟩) ?_
    rotate_left
    · (intro w hSw; (try dsimp only at hSw); go_simp; try with_reducible rfl)
    simp only [Act.put, List.setIfInBounds_toArray, List.set_cons_zero, List.set_cons_succ]
    refine take_at 5 (v := ?_) rfl (by kernel_rfl) (by kernel_rfl) (by kernel_rfl) (fun _ _ _ h => h) hHeld (Or.inl ⟨by rfl, ?_⟩) ?_
    rotate_left
    · (intro w hSw; (try dsimp only at hSw); go_simp; try with_reducible rfl)
    simp only [Act.put, List.setIfInBounds_toArray, List.set_cons_zero, List.set_cons_succ]
    refine take_at 6 (v := ?_) rfl (by kernel_rfl) (by kernel_rfl) (by kernel_rfl) (fun _ _ _ h => h) hHeld (Or.inl ⟨by rfl, ?_⟩) ?_
    rotate_left
    · (intro w hSw; (try dsimp only at hSw); go_simp; try with_reducible rfl)
    simp only [Act.put, List.setIfInBounds_toArray, List.set_cons_zero, List.set_cons_succ]
    refine take_at 7 (v := ?_) rfl (by kernel_rfl) (by kernel_rfl) (by kernel_rfl) (fun _ _ _ h => h) hHeld (Or.inl ⟨by rfl, ?_⟩) ?_
    rotate_left
    · (intro w hSw; (try dsimp only at hSw); go_simp; try with_reducible rfl)
    simp only [Act.put, List.setIfInBounds_toArray, List.set_cons_zero, List.set_cons_succ]
    refine ready_at 2 rfl (by kernel_rfl) (fun K hK => ?_)
    go_simp
    (go_at_call 46; with_reducible refine (count_any p lv.length cp _).mono ?_; rintro e ya ⟨rfl, rfl⟩)
    refine hK.out _ _ (HX.out _ z0) (fun hHeld => ?_)
    clear hK K
    try simp only [Act.put, List.setIfInBounds_toArray, List.set_cons_zero, List.set_cons_succ]
    refine ready_at 3 rfl (by kernel_rfl) (fun K hK => ?_)
    go_simp
    (go_at_call 45; with_reducible refine (HN.out _ z0).mono ?_; rintro e yb ⟨rfl, z1⟩)
    refine hK.out _ _ (HX.out _ z1) (fun hHeld => ?_)
    clear hK K
    try simp only [Act.put, List.setIfInBounds_toArray, List.set_cons_zero, List.set_cons_succ]
    refine ready_at 8 rfl (by kernel_rfl) (fun K hK => ?_)
    go_simp
    (go_at_call 46; with_reducible refine (count_any p lv.length cp _).mono ?_; rintro e yc ⟨rfl, rfl⟩)
    refine hK.out _ _ (HX.out _ z1) (fun hHeld => ?_)
    clear hK K
    try simp only [Act.put, List.setIfInBounds_toArray, List.set_cons_zero, List.set_cons_succ]
    refine ready_at 9 rfl (by kernel_rfl) (fun K hK => ?_)
    go_simp
    (go_at_call 48; with_reducible refine (HRo.out _ z1).mono ?_; rintro e yd ⟨rfl, z3⟩)
    refine hK.out _ _ (HX.out _ z3) (fun hHeld => ?_)
    clear hK K
    try simp only [Act.put, List.setIfInBounds_toArray, List.set_cons_zero, List.set_cons_succ]
    refine ready_at 10 rfl (by kernel_rfl) (fun K hK => ?_)
    go_simp
    (go_at_call 47; with_reducible refine (HPt.out _ z3).mono ?_; rintro e ye ⟨rfl, z4⟩)
    refine hK.out _ _ (HX.out _ z4) (fun hHeld => ?_)
    clear hK K
    try simp only [Act.put, List.setIfInBounds_toArray, List.set_cons_zero, List.set_cons_succ]
    refine ready_at 11 rfl (by kernel_rfl) (fun K hK => ?_)
    go_simp
    have z5 : Below y3.heap.size y3 (ye.alloc (.cells #[.string PN, .string PT] 9)) := alB z4 _
    have hbl : ye.heap.size < (ye.alloc (.cells #[.string PN, .string PT] 9)).heap.size := by simp
    have j0 : (ye.alloc (.cells #[.string PN, .string PT] 9)).cell? ⟨ye.heap.size, 0, none⟩ = some (.string PN) := (Bxs.new ye 9 #[.string PN, .string PT]).cell 0
    have j1 : (ye.alloc (.cells #[.string PN, .string PT] 9)).cell? ⟨ye.heap.size, 1, none⟩ = some (.string PT) := (Bxs.new ye 9 #[.string PN, .string PT]).cell 1
    refine hK.out _ _ (HX.out _ z5) (fun hHeld => ?_)
    clear hK K
    try simp only [Act.put, List.setIfInBounds_toArray, List.set_cons_zero, List.set_cons_succ]
    refine ready_at 12 rfl (by kernel_rfl) (fun K hK => ?_)
    go_simp
    (go_at_call 44; with_reducible refine (HJ.out _ _ z5 hbl j0 j1).mono ?_; rintro e yg ⟨rfl, z6⟩)
    refine hK.out _ _ (HX.out _ z6) (fun hHeld => ?_)
    clear hK K
    try simp only [Act.put, List.setIfInBounds_toArray, List.set_cons_zero, List.set_cons_succ]
    refine take_at 13 (v := ?_) rfl (by kernel_rfl) (by kernel_rfl) (by kernel_rfl) (fun _ _ _ h => h) hHeld (Or.inl ⟨by rfl, ?_⟩) ?_
    rotate_left
    · (intro w hSw; (try dsimp only at hSw); go_simp; try with_reducible rfl)
    simp only [Act.put, List.setIfInBounds_toArray, List.set_cons_zero, List.set_cons_succ]
    refine wpAnyH_done (by kernel_rfl) ?_ _
    go_wp2_with fail
    go_ret
    exact ⟨by rw [HV.out]; rfl, HW.out _ z6⟩
end Go.Proofs.YtnjegmffjelnpaaGreatDoor
/-
  What the laws' own helpers answer for slices of texts: szStringS (of few and small ones, a number that is not below 0, else -1), toStringS (a copy in new memory), eqStringS (are they alike).
  Conditions: the slices' cells hold those texts.
-/
namespace Go.Proofs.YtnjegmffjelnpaaGreatDoor
open Go.RowKit Go.Lib
set_option linter.unusedVariables false

def cutS (ss : List ByteArray) (k : Nat) : List ByteArray := ss.take k ++ List.replicate (ss.length - k) ByteArray.empty
theorem cutS_len (ss : List ByteArray) (k : Nat) (h : k ≤ ss.length) : (cutS ss k).length = ss.length := by simp [cutS]; omega
theorem cutS_set (ss : List ByteArray) (k : Nat) (h : k < ss.length) : (cutS ss k).set k ss[k] = cutS ss (k + 1) := by
  unfold cutS
  rw [show ss.length - k = (ss.length - (k + 1)) + 1 by omega, List.replicate_succ]
  have hl : (ss.take k).length = k := by simp; omega
  rw [List.set_append_right _ _ (by omega), hl, Nat.sub_self, List.set_cons_zero, List.take_succ_eq_append_getElem h, List.append_assoc]; rfl

def SzEnd (r : Int) (ss : List ByteArray) : Prop := r = -1 ∨ (0 ≤ r ∧ ss.length ≤ 1048576 ∧ ∀ x ∈ ss, x.size ≤ 1048576)
end Go.Proofs.YtnjegmffjelnpaaGreatDoor
/-
  What the laws' own helpers do that mark texts: markText (the mark of a number), markStringS (each text of a slice becomes its mark), heldStringS (are all still marked).
  Conditions: the slice owns its row, of at most 2^20 texts.
-/
namespace Go.Proofs.YtnjegmffjelnpaaGreatDoor
open Go.RowKit Go.Lib
set_option linter.unusedVariables false
set_option maxRecDepth 20000

def digs (k : Nat) (acc : ByteArray) : ByteArray := if h : k = 0 then acc else digs (k / 10) (strOfNums [48 + (k : Int) % 10] ++ acc)
termination_by k
decreasing_by omega
theorem digs_zero (acc : ByteArray) : digs 0 acc = acc := by rw [digs]; simp
theorem digs_pos {k : Nat} (h : k ≠ 0) (acc : ByteArray) : digs k acc = digs (k / 10) (strOfNums [48 + (k : Int) % 10] ++ acc) := by rw [digs]; simp [h]
def mk109 : ByteArray := ⟨#[109]⟩
def markB (k : Nat) : ByteArray := mk109 ++ digs k ByteArray.empty
def marksTo (l : List ByteArray) (k : Nat) : List ByteArray := (List.range k).map (fun j => markB (j + 1)) ++ l.drop k
def marksL (n : Nat) : List ByteArray := (List.range n).map (fun j => markB (j + 1))
theorem marksTo_len (l : List ByteArray) (k : Nat) (h : k ≤ l.length) : (marksTo l k).length = l.length := by simp [marksTo]; omega
theorem marksTo_set (l : List ByteArray) (k : Nat) (h : k < l.length) : (marksTo l k).set k (markB (k + 1)) = marksTo l (k + 1) := by
  unfold marksTo
  have hl : ((List.range k).map (fun j => markB (j + 1))).length = k := by simp
  rw [List.set_append_right _ _ (by omega), hl, Nat.sub_self, List.drop_eq_getElem_cons h, List.set_cons_zero, List.range_succ, List.map_append, List.append_assoc]; rfl
theorem marksTo_all (l : List ByteArray) : marksTo l l.length = marksL l.length := by unfold marksTo marksL; simp

theorem conv_one (w : World) (x : Int) : (convert 22 9 (.slice (some ⟨w.heap.size, 0, none⟩) 1 1)).run Tryz.prog (w.alloc (.cells #[.int .u8 x] 5)) = .ok (.string (strOfNums [x])) (w.alloc (.cells #[.int .u8 x] 5)) :=
  run_convert_bytes_arg (P := Tryz.prog) _ 22 5 Tryz.underlying22 Tryz.underlying5 w.heap.size 0 1 1 [x] rfl (fun i hi => by
    have : i = 0 := by simpa using hi
    subst this
    rw [World.cell?_alloc_mark]; rfl) 9 Tryz.underlying9

end Go.Proofs.YtnjegmffjelnpaaGreatDoor
/-
  markStringS and heldStringS from any number on: what the laws' own helpers answer.
-/
namespace Go.Proofs.YtnjegmffjelnpaaGreatDoor
open Go.RowKit Go.Lib
set_option linter.unusedVariables false
set_option maxRecDepth 20000

def marksT (s : Nat) (l : List ByteArray) (k : Nat) : List ByteArray := (List.range k).map (fun j => markB (j + s)) ++ l.drop k
def marksN (s n : Nat) : List ByteArray := (List.range n).map (fun j => markB (j + s))
theorem marksT_len (s : Nat) (l : List ByteArray) (k : Nat) (h : k ≤ l.length) : (marksT s l k).length = l.length := by simp [marksT]; omega
theorem marksT_set (s : Nat) (l : List ByteArray) (k : Nat) (h : k < l.length) : (marksT s l k).set k (markB (k + s)) = marksT s l (k + 1) := by
  unfold marksT
  have hl : ((List.range k).map (fun j => markB (j + s))).length = k := by simp
  rw [List.set_append_right _ _ (by omega), hl, Nat.sub_self, List.drop_eq_getElem_cons h, List.set_cons_zero, List.range_succ, List.map_append, List.append_assoc]; rfl
theorem marksT_all (s : Nat) (l : List ByteArray) : marksT s l l.length = marksN s l.length := by unfold marksT marksN; simp

end Go.Proofs.YtnjegmffjelnpaaGreatDoor
/-
  What forgetting leaves, as plain functions; a field put into a row of fields of one's own.
-/
namespace Go.Proofs.YtnjegmffjelnpaaGreatDoor
open Go.RowKit Go.Lib
set_option linter.unusedVariables false

theorem fldRow_set : ∀ (fs : List Fld) (i : Nat) (f : Fld), (((((fldRow fs).set (i * 5) (.string f.n)).set (i * 5 + 1) (.string f.c)).set (i * 5 + 2) (.string f.s)).set (i * 5 + 3) (.string f.v)).set (i * 5 + 4) (.bool f.g) = fldRow (fs.set i f)
  | [], i, f => by simp [fldRow]
  | g :: fs, 0, f => rfl
  | g :: fs, i + 1, f => by
    have ih := fldRow_set fs i f
    rw [show (i + 1) * 5 = i * 5 + 5 by omega, show i * 5 + 5 + 1 = i * 5 + 1 + 5 by omega, show i * 5 + 5 + 2 = i * 5 + 2 + 5 by omega, show i * 5 + 5 + 3 = i * 5 + 3 + 5 by omega, show i * 5 + 5 + 4 = i * 5 + 4 + 5 by omega]
    show .string g.n :: .string g.c :: .string g.s :: .string g.v :: .bool g.g :: _ = .string g.n :: .string g.c :: .string g.s :: .string g.v :: .bool g.g :: fldRow (fs.set i f)
    rw [← ih]; rfl
def set5 (w : World) (g o : Nat) (f : Fld) : World := ((((w.setCell ⟨g, o, none⟩ (.string f.n)).setCell ⟨g, o + 1, none⟩ (.string f.c)).setCell ⟨g, o + 2, none⟩ (.string f.s)).setCell ⟨g, o + 3, none⟩ (.string f.v)).setCell ⟨g, o + 4, none⟩ (.bool f.g)
theorem own_set5 {w : World} {base b n cc : Nat} {fs : List Fld} (h : w.ownsRow base 76 5 (.slice (some ⟨b, 0, none⟩) n cc) n (fldRow fs)) (i : Nat) (f : Fld) : (set5 w b (i * 5) f).ownsRow base 76 5 (.slice (some ⟨b, 0, none⟩) n cc) n (fldRow (fs.set i f)) := by
  have h1 := (h.stored (i * 5) (.string f.n)).1
  have h2 := (h1.stored (i * 5 + 1) (.string f.c)).1
  have h3 := (h2.stored (i * 5 + 2) (.string f.s)).1
  have h4 := (h3.stored (i * 5 + 3) (.string f.v)).1
  have h5 := (h4.stored (i * 5 + 4) (.bool f.g)).1
  rw [fldRow_set] at h5
  exact h5
theorem set5_other {w : World} {g b o : Nat} {T : TypeId} {cs : Array Value} (h : Bxs w g T cs) (hne : b ≠ g) (f : Fld) : Bxs (set5 w b o f) g T cs := ((((h.other b _ hne _).other b _ hne _).other b _ hne _).other b _ hne _).other b _ hne _
theorem set5_below {B : Nat} {a w : World} (h : Below B a w) {g : Nat} (hg : B ≤ g) (o : Nat) (f : Fld) : Below B a (set5 w g o f) := ((((h.setCell hg _).setCell hg _).setCell hg _).setCell hg _).setCell hg _
/-! ### What Forget answers -/
def fldD : Fld := ⟨ByteArray.empty, ByteArray.empty, ByteArray.empty, ByteArray.empty, false⟩
def fgC (k : ByteArray) (at_ : Int) (fs : List Fld) (i : Int) : Int := if rwB k at_ fs = true then (if 0 ≤ i ∧ i ≤ (fs.length : Int) - 1 then (if (fs.getD i.toNat fldD).g = true then 7 else 0) else 6) else 1
def fgK (k : ByteArray) (at_ : Int) (fs : List Fld) (i : Int) : ByteArray := if fgC k at_ fs i = 0 then k else ByteArray.empty
def fgA (k : ByteArray) (at_ : Int) (fs : List Fld) (i : Int) : Int := if fgC k at_ fs i = 0 then at_ else 0
def fgF (k : ByteArray) (at_ : Int) (fs : List Fld) (i : Int) : List Fld := if fgC k at_ fs i = 0 then fs.set i.toNat (goneF (fs.getD i.toNat fldD)) else []
end Go.Proofs.YtnjegmffjelnpaaGreatDoor
/-
  A field put behind a row of fields of one's own; a box with such a row.
-/
namespace Go.Proofs.YtnjegmffjelnpaaGreatDoor
open Go.RowKit Go.Lib
set_option linter.unusedVariables false

theorem infoFld : (Tryz.prog.info? 76).map (fun i => (i.zero, i.size, i.bytes)) = some (some (.agg #[.string ByteArray.empty, .string ByteArray.empty, .string ByteArray.empty, .string ByteArray.empty, .bool false]), 5, 72) := by kernel_rfl
theorem app_fld (w : World) (base : Nat) (v : Value) (l : List Fld) (own : w.ownsRow base 76 5 v l.length (fldRow l)) (fn fc fs fv : ByteArray) (fg : Bool) (hl : l.length + 1 ≤ 1048576) (hbase : base ≤ w.heap.size) :
    ∃ g c w', (Builtin.append_ #[63, 63] 63 #[v, .slice (some ⟨w.heap.size, 0, none⟩) 1 1]).run Tryz.prog (w.alloc (.cells #[.string fn, .string fc, .string fs, .string fv, .bool fg] 76)) = .ok (.slice (some ⟨g, 0, none⟩) (l.length + 1) c) w' ∧
      w'.ownsRow base 76 5 (.slice (some ⟨g, 0, none⟩) (l.length + 1) c) (l ++ [(⟨fn, fc, fs, fv, fg⟩ : Fld)]).length (fldRow (l ++ [(⟨fn, fc, fs, fv, fg⟩ : Fld)])) ∧ (w.alloc (.cells #[.string fn, .string fc, .string fs, .string fv, .bool fg] 76)).grownBy w' v.ownBlock ∧ (v.ownBlock = some g ∨ g = w.heap.size + 1) := by
  obtain ⟨i0, hi, hz0, hz1, hz2⟩ := info_parts infoFld
  obtain ⟨g, c, w', h1, h2, h3, h4, _⟩ := run_append_lies (P := Tryz.prog) (w.alloc (.cells #[.string fn, .string fc, .string fs, .string fv, .bool fg] 76)) 63 63 base 76 i0 _ 5 72 Tryz.underlying63 hi hz0 hz1 hz2 rfl (by omega) v l.length (fldRow l) (own.alloc _) ⟨w.heap.size, 0, none⟩ 1 1 (fldRow [(⟨fn, fc, fs, fv, fg⟩ : Fld)]) rfl (fun j u hu => by
      have hj : j < 5 := by
        rcases Nat.lt_or_ge j 5 with q | q
        · exact q
        · rw [List.getElem?_eq_none (by rw [fldRow_len]; exact q)] at hu; cases hu
      have hadd : (⟨w.heap.size, 0, none⟩ : Addr).add j = ⟨w.heap.size, 0 + j, none⟩ := by unfold Addr.add; split <;> simp_all
      rw [hadd, Nat.zero_add, World.cell?_alloc_mark]
      match j, hj with
      | 0, _ => exact hu
      | 1, _ => exact hu
      | 2, _ => exact hu
      | 3, _ => exact hu
      | 4, _ => exact hu) (fun u hu => by
      simp [fldRow, fldCells] at hu
      rcases hu with rfl | rfl | rfl | rfl | rfl <;> rfl) (by omega) (by unfold maxLen; omega) (by omega) (by simp; omega) (w.heap.size + 1) (by simp)
  refine ⟨g, c, w', h1, ?_, h3, h4⟩
  have e1 : (l ++ [(⟨fn, fc, fs, fv, fg⟩ : Fld)]).length = l.length + 1 := by simp
  rw [e1, fldRow_append]; exact h2
/-- A box with one row of fields of its own. -/
structure One7 (W : World) (Z : Nat) (T : TypeId) (cs : Array Value) (v : Value) (l : List Fld) (x : World) : Prop where
  bel : Below W.heap.size W x
  hZ : W.heap.size ≤ Z
  hT : T ≠ 76
  box : Bxs x Z T cs
  own : x.ownsRow W.heap.size 76 5 v l.length (fldRow l)
theorem One7.below {W : World} {Z : Nat} {T : TypeId} {cs : Array Value} {v : Value} {l : List Fld} {x y : World} (h : One7 W Z T cs v l x) (hb : Below x.heap.size x y) : One7 W Z T cs v l y := ⟨chainB h.bel hb, h.hZ, h.hT, h.box.below hb, ownS_below h.own hb⟩
theorem One7.app2 {W : World} {Z : Nat} {T : TypeId} {cs : Array Value} {v : Value} {l : List Fld} {x : World} (h : One7 W Z T cs v l x) (j : Nat) (fn fc fs fv : ByteArray) (fg : Bool) (hj : cs[j]? = some v) (hl : l.length + 1 ≤ 1048576) :
    ∃ g c y, (Builtin.append_ #[63, 63] 63 #[v, .slice (some ⟨x.heap.size, 0, none⟩) 1 1]).run Tryz.prog (x.alloc (.cells #[.string fn, .string fc, .string fs, .string fv, .bool fg] 76)) = .ok (.slice (some ⟨g, 0, none⟩) (l.length + 1) c) y ∧
      One7 W Z T (cs.setIfInBounds j (.slice (some ⟨g, 0, none⟩) (l.length + 1) c)) (.slice (some ⟨g, 0, none⟩) (l.length + 1) c) (l ++ [⟨fn, fc, fs, fv, fg⟩]) (y.setCell ⟨Z, j, none⟩ (.slice (some ⟨g, 0, none⟩) (l.length + 1) c)) ∧ y.cell? ⟨Z, j, none⟩ = some v ∧ y.frozen? ⟨Z, j, none⟩ = false ∧ Below W.heap.size W y ∧ (x.alloc (.cells #[.string fn, .string fc, .string fs, .string fv, .bool fg] 76)).grownBy y v.ownBlock := by
  obtain ⟨g, c, y, h1, h2, h3, h4⟩ := app_fld x W.heap.size v l h.own fn fc fs fv fg hl h.bel.size
  have hb : Bxs y Z T cs := (h.box.alloc _).grown h3 (Ne.symm (ownR_ne h.own h.box h.hT))
  have hB : Below W.heap.size W y := (h.bel.alloc h.bel.size _).grown h3 (by have := h.bel.size; rw [szA]; omega) (fun j hj => (h.own.lt j hj).1)
  refine ⟨g, c, y, h1, ⟨hB.setCell h.hZ _, h.hZ, h.hT, hb.set j _, ownsRow_setCell_other h2 (ownR_ne h2 hb h.hT) _⟩, ?_, hb.fr j, hB, h3⟩
  rw [hb.cell j]; exact hj
theorem One7.app {W : World} {Z : Nat} {T : TypeId} {cs : Array Value} {v : Value} {l : List Fld} {x : World} (h : One7 W Z T cs v l x) (j : Nat) (fn fc fs fv : ByteArray) (fg : Bool) (hj : cs[j]? = some v) (hl : l.length + 1 ≤ 1048576) :
    ∃ g c y, (Builtin.append_ #[63, 63] 63 #[v, .slice (some ⟨x.heap.size, 0, none⟩) 1 1]).run Tryz.prog (x.alloc (.cells #[.string fn, .string fc, .string fs, .string fv, .bool fg] 76)) = .ok (.slice (some ⟨g, 0, none⟩) (l.length + 1) c) y ∧
      One7 W Z T (cs.setIfInBounds j (.slice (some ⟨g, 0, none⟩) (l.length + 1) c)) (.slice (some ⟨g, 0, none⟩) (l.length + 1) c) (l ++ [⟨fn, fc, fs, fv, fg⟩]) (y.setCell ⟨Z, j, none⟩ (.slice (some ⟨g, 0, none⟩) (l.length + 1) c)) ∧ y.cell? ⟨Z, j, none⟩ = some v ∧ y.frozen? ⟨Z, j, none⟩ = false ∧ Below W.heap.size W y := by
  obtain ⟨g, c, y, h1, h2, h3, h4, h5, -⟩ := h.app2 j fn fc fs fv fg hj hl
  exact ⟨g, c, y, h1, h2, h3, h4, h5⟩
theorem getD_at {l : List ByteArray} {i : Nat} (h : i < l.length) : l.getD i ByteArray.empty = l[i] := by rw [List.getD_eq_getElem?_getD, List.getElem?_eq_getElem h]; rfl
end Go.Proofs.YtnjegmffjelnpaaGreatDoor
/-
  A block of fields that was made, and is written field by field.
-/
namespace Go.Proofs.YtnjegmffjelnpaaGreatDoor
open Go.RowKit Go.Lib
set_option linter.unusedVariables false

def fldE5 : Fld := ⟨ByteArray.empty, ByteArray.empty, ByteArray.empty, ByteArray.empty, false⟩
/-- A block that holds these fields, and nothing else. -/
def BlkF (w : World) (g : Nat) (l : List Fld) : Prop := Bxs w g 76 (fldRow l).toArray
theorem BlkF.below {w w' : World} {g : Nat} {l : List Fld} (h : BlkF w g l) (hb : Below w.heap.size w w') : BlkF w' g l := Bxs.below h hb
theorem BlkF.cells {w : World} {g : Nat} {l : List Fld} (h : BlkF w g l) (i : Nat) (hi : i < l.length) : (w.cell? ⟨g, i * 5, none⟩ = some (.string l[i].n) ∧ w.cell? ⟨g, i * 5 + 1, none⟩ = some (.string l[i].c) ∧ w.cell? ⟨g, i * 5 + 2, none⟩ = some (.string l[i].s) ∧ w.cell? ⟨g, i * 5 + 3, none⟩ = some (.string l[i].v) ∧ w.cell? ⟨g, i * 5 + 4, none⟩ = some (.bool l[i].g)) ∧ w.frozen? ⟨g, i * 5, none⟩ = false ∧ w.frozen? ⟨g, i * 5 + 1, none⟩ = false ∧ w.frozen? ⟨g, i * 5 + 2, none⟩ = false ∧ w.frozen? ⟨g, i * 5 + 3, none⟩ = false ∧ w.frozen? ⟨g, i * 5 + 4, none⟩ = false := by
  have hr := fldRow_at l i hi
  have hc : ∀ j, w.cell? ⟨g, j, none⟩ = (fldRow l)[j]? := fun j => by rw [Bxs.cell h j]; simp
  rw [← hc, ← hc, ← hc, ← hc, ← hc] at hr
  exact ⟨hr, Bxs.fr h _, Bxs.fr h _, Bxs.fr h _, Bxs.fr h _, Bxs.fr h _⟩
theorem BlkF.at {w : World} {g : Nat} {l : List Fld} (h : BlkF w g l) : FldAt w (some ⟨g, 0, none⟩) l := fun i hi => ⟨g, 0, rfl, Bxs.lt h, by rw [Nat.zero_add]; exact (h.cells i hi).1⟩
theorem BlkF.set1 {w : World} {g : Nat} {l : List Value} (h : Bxs w g 76 l.toArray) (j : Nat) (v : Value) : Bxs (w.setCell ⟨g, j, none⟩ v) g 76 (l.set j v).toArray := by
  have h1 := h.set j v
  rwa [List.setIfInBounds_toArray] at h1
theorem BlkF.set5 {w : World} {g : Nat} {l : List Fld} (h : BlkF w g l) (i : Nat) (f : Fld) : BlkF (set5 w g (i * 5) f) g (l.set i f) := by
  unfold BlkF
  rw [← fldRow_set]
  exact BlkF.set1 (BlkF.set1 (BlkF.set1 (BlkF.set1 (BlkF.set1 h _ _) _ _) _ _) _ _) _ _
theorem fldRow_set3 : ∀ (fs : List Fld) (i : Nat) (h : i < fs.length) (s v : ByteArray) (g : Bool), ((((fldRow fs).set (i * 5 + 2) (.string s)).set (i * 5 + 3) (.string v)).set (i * 5 + 4) (.bool g)) = fldRow (fs.set i ⟨fs[i].n, fs[i].c, s, v, g⟩)
  | f :: fs, 0, _, s, v, g => by simp [fldRow, fldCells]
  | f :: fs, i + 1, h, s, v, g => by
    have ih := fldRow_set3 fs i (by simpa using h) s v g
    have e1 : (i + 1) * 5 + 2 = i * 5 + 2 + 5 := by omega
    have e2 : (i + 1) * 5 + 3 = i * 5 + 3 + 5 := by omega
    have e3 : (i + 1) * 5 + 4 = i * 5 + 4 + 5 := by omega
    have e4 : fldRow (f :: fs) = .string f.n :: .string f.c :: .string f.s :: .string f.v :: .bool f.g :: fldRow fs := rfl
    rw [e1, e2, e3, e4]
    simp only [List.set_cons_succ, List.getElem_cons_succ]
    rw [ih]; rfl
theorem BlkF.set3 {w : World} {g : Nat} {l : List Fld} (h : BlkF w g l) (i : Nat) (hi : i < l.length) (s v : ByteArray) (b : Bool) : BlkF (((w.setCell ⟨g, i * 5 + 2, none⟩ (.string s)).setCell ⟨g, i * 5 + 3, none⟩ (.string v)).setCell ⟨g, i * 5 + 4, none⟩ (.bool b)) g (l.set i ⟨l[i].n, l[i].c, s, v, b⟩) := by
  unfold BlkF
  rw [← fldRow_set3 l i hi]
  exact BlkF.set1 (BlkF.set1 (BlkF.set1 h _ _) _ _) _ _
theorem made_fld (n : Nat) : madeCells #[.string ByteArray.empty, .string ByteArray.empty, .string ByteArray.empty, .string ByteArray.empty, .bool false] (n * 5) = (fldRow (List.replicate n fldE5)).toArray := by
  unfold madeCells
  apply Array.ext
  · simp [fldRow_len]
  · intro i h0 h2
    have h1 : i < n * 5 := by simpa using h0
    have hr := fldRow_at (List.replicate n fldE5) (i / 5) (by rw [List.length_replicate]; omega)
    simp only [List.getElem_replicate] at hr
    have hm : i % 5 < 5 := Nat.mod_lt _ (by omega)
    have hd : i = i / 5 * 5 + i % 5 := by omega
    have hl : i < (fldRow (List.replicate n fldE5)).length := by simpa using h2
    have hg : ∀ v, (fldRow (List.replicate n fldE5))[i]? = some v → (fldRow (List.replicate n fldE5)).toArray[i] = v := fun v hv => by
      rw [List.getElem?_eq_getElem hl] at hv
      have := Option.some.inj hv
      simpa using this
    simp only [Array.getElem_map, Array.getElem_range]
    match hq : i % 5, hm with
    | 0, _ => rw [hq] at hd; rw [hg _ (by rw [hd]; exact hr.1)]; simp [fldE5]
    | 1, _ => rw [hq] at hd; rw [hg _ (by rw [hd]; exact hr.2.1)]; simp [fldE5]
    | 2, _ => rw [hq] at hd; rw [hg _ (by rw [hd]; exact hr.2.2.1)]; simp [fldE5]
    | 3, _ => rw [hq] at hd; rw [hg _ (by rw [hd]; exact hr.2.2.2.1)]; simp [fldE5]
    | 4, _ => rw [hq] at hd; rw [hg _ (by rw [hd]; exact hr.2.2.2.2)]; simp [fldE5]
theorem run_make_fld (n : Nat) (hn : n ≤ 1048576) (w : World) :
    (Instr.makeSlice 63 (.int .i64 (n : Int)) (.int .i64 (n : Int))).run Tryz.prog w = .ok (.slice (some ⟨w.heap.size, 0, none⟩) n n) (w.alloc (.cells (fldRow (List.replicate n fldE5)).toArray 76)) := by
  obtain ⟨i0, hi, hz0, hz1, hz2⟩ := info_parts infoFld
  have := run_make (P := Tryz.prog) w 63 76 i0 _ Tryz.underlying63 hi hz0 .i64 .i64 (n : Int) (n : Int) (by omega) (by omega) (by rw [hz2]; omega) (by omega)
  rw [this, hz1]
  simp only [Int.toNat_natCast]
  rw [← made_fld]; rfl
theorem alloc_fld (w : World) (l : List Fld) : BlkF (w.alloc (.cells (fldRow l).toArray 76)) w.heap.size l := (MapKept.heap_alloc w _).1
end Go.Proofs.YtnjegmffjelnpaaGreatDoor
/-
  What the laws' own helpers answer for slices of fields: szFieldS, toFieldS (a copy in new memory), eqFieldS (of two that are alike).
  Conditions: the slices' cells hold the fields.
-/
namespace Go.Proofs.YtnjegmffjelnpaaGreatDoor
open Go.RowKit Go.Lib
set_option linter.unusedVariables false
set_option maxRecDepth 20000

def FldsBig (fs : List Fld) : Prop := ∀ f ∈ fs, f.n.size ≤ 9223372036854775807 ∧ f.c.size ≤ 9223372036854775807 ∧ f.s.size ≤ 9223372036854775807 ∧ f.v.size ≤ 9223372036854775807
def cutF (fs : List Fld) (k : Nat) : List Fld := fs.take k ++ List.replicate (fs.length - k) fldE5
theorem cutF_len (fs : List Fld) (k : Nat) (h : k ≤ fs.length) : (cutF fs k).length = fs.length := by simp [cutF]; omega
theorem cutF_set (fs : List Fld) (k : Nat) (h : k < fs.length) : (cutF fs k).set k fs[k] = cutF fs (k + 1) := by
  unfold cutF
  rw [show fs.length - k = (fs.length - (k + 1)) + 1 by omega, List.replicate_succ]
  have hl : (fs.take k).length = k := by simp; omega
  rw [List.set_append_right _ _ (by omega), hl, Nat.sub_self, List.set_cons_zero, List.take_succ_eq_append_getElem h, List.append_assoc]; rfl
theorem BlkF.own {w : World} {g : Nat} {l : List Fld} (h : BlkF w g l) (base : Nat) (hb : base ≤ g) (hm : l.length ≤ maxLen) : w.ownsRow base 76 5 (.slice (some ⟨g, 0, none⟩) l.length l.length) l.length (fldRow l) :=
  ⟨fldRow_len l, .inr ⟨g, l.length, (fldRow l).toArray, rfl, hb, h, Nat.le_refl _, hm, by rw [List.size_toArray, fldRow_len], List.take_of_length_le (by rw [fldRow_len]; exact Nat.le_refl _)⟩⟩

end Go.Proofs.YtnjegmffjelnpaaGreatDoor
/-
  What the laws' own helpers do that mark fields: markFieldS, heldFieldS, from any number on.
  Conditions: the slice owns its row, of at most 2^20 fields.
-/
namespace Go.Proofs.YtnjegmffjelnpaaGreatDoor
open Go.RowKit Go.Lib
set_option linter.unusedVariables false
set_option maxRecDepth 20000

def mkF (s j : Nat) : Fld := ⟨markB (s + 5 * j), markB (s + 5 * j + 1), markB (s + 5 * j + 2), markB (s + 5 * j + 3), decide ((s + 5 * j + 4) % 3 = 0)⟩
def mfN (s n : Nat) : List Fld := (List.range n).map (mkF s)
def mfT (s : Nat) (l : List Fld) (k : Nat) : List Fld := mfN s k ++ l.drop k
theorem mfT_len (s : Nat) (l : List Fld) (k : Nat) (h : k ≤ l.length) : (mfT s l k).length = l.length := by simp [mfT, mfN]; omega
theorem mfT_set (s : Nat) (l : List Fld) (k : Nat) (h : k < l.length) : (mfT s l k).set k (mkF s k) = mfT s l (k + 1) := by
  unfold mfT mfN
  have hl : ((List.range k).map (mkF s)).length = k := by simp
  rw [List.set_append_right _ _ (by omega), hl, Nat.sub_self, List.drop_eq_getElem_cons h, List.set_cons_zero, List.range_succ, List.map_append, List.append_assoc]; rfl
theorem mfT_all (s : Nat) (l : List Fld) : mfT s l l.length = mfN s l.length := by unfold mfT; simp
theorem mfN_len (s n : Nat) : (mfN s n).length = n := by simp [mfN]
/-- A step of the marking: a row of its own, and what is told of the world since. -/
structure MfS (w : World) (base g n cap : Nat) (row : List Value) (x : World) : Prop where
  own : x.ownsRow base 76 5 (.slice (some ⟨g, 0, none⟩) n cap) n row
  gr : w.grownBy x (some g)
theorem MfS.cell {w : World} {base g n cap : Nat} {row : List Value} {x y : World} (h : MfS w base g n cap row x) (hb : Below x.heap.size x y) (i : Nat) (hi : i < n * 5) : (∃ v, y.cell? ⟨g, i, none⟩ = some v) ∧ y.frozen? ⟨g, i, none⟩ = false := by
  have ho := ownS_below h.own hb
  refine ⟨?_, ho.frozenAt _⟩
  rw [ho.cellAt i hi]
  have hl : row.length = n * 5 := h.own.1
  exact ⟨row[i]'(by omega), List.getElem?_eq_getElem (by omega)⟩
theorem MfS.step {w : World} {base g n cap : Nat} {row : List Value} {x y : World} (h : MfS w base g n cap row x) (hb : Below x.heap.size x y) (i : Nat) (v : Value) : MfS w base g n cap (row.set i v) (y.setCell ⟨g, i, none⟩ v) := by
  have ho := ownS_below h.own hb
  have hst := ho.stored i v
  refine ⟨hst.1, ?_⟩
  have a := h.gr
  have a2 := hst.2
  refine ⟨(a2.os.trans hb.os).trans a.os, (a2.tape.trans hb.tape).trans a.tape, (a2.output.trans hb.output).trans a.output, by have := a.size; have := hb.size; have := a2.size; omega, fun q hq hne => ?_⟩
  have l1 := Nat.lt_of_lt_of_le hq a.size
  have l3 := Nat.lt_of_lt_of_le l1 hb.size
  exact (a2.block q l3 hne).trans ((hb.block q l1).trans (a.block q hq hne))
theorem mod3 (z : Int) (k : Nat) (hz : z = (k : Int)) : (z % 3 == 0) = decide (k % 3 = 0) := by
  subst hz
  rw [Bool.eq_iff_iff, beq_iff_eq, decide_eq_true_iff]; omega

end Go.Proofs.YtnjegmffjelnpaaGreatDoor
