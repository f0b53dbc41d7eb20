/-
  Parts of one proof, laid as one text: LogRI, Copied, ImplCl, LaB; what each says stands at its head.
-/
import Derived.Test.YtepmoihgemhjcaaGreatDoorRows
import Derived.Test.YtepmoihgemhjcaaGreatDoorBytesDigMath
import Derived.Test.YtepmoihgemhjcaaGreatDoorTreeMathSlABxKSlBOwnS
import Derived.Test.YtepmoihgemhjcaaGreatDoorImplOnImplFkAsDAs2CodeOf
import Derived.Test.YtepmoihgemhjcaaGreatDoorOwnBPadIDigIDigAllTimeIImplFC
import Derived.Test.YtepmoihgemhjcaaGreatDoorTimeBPutMathPutNumJoinedPutTextFldMath
import Derived.Test.YtepmoihgemhjcaaGreatDoorGetValGetTxtNumMathFldRdNumFromTmbMathFldRiseLgMath
import Derived.Test.YtepmoihgemhjcaaGreatDoorLgAtKLgAnsLgRtShwKOneKFldBlkRwBlk
import Derived.Test.YtepmoihgemhjcaaGreatDoorImplLg
import Derived.Test.YtepmoihgemhjcaaGreatDoorLeavesI
import Derived.Handy
import Derived.WalkSpells
import Derived.OwnWalk
import Derived.Deep.AppendLies
import Derived.Test.YtepmoihgemhjcaaGreatDoorLtMathLaMathLfMathTakesLStepAppBlNotTakes
import Derived.Test.YtepmoihgemhjcaaGreatDoorTillTwoPhaseKImplCp
import Derived.Test.YtepmoihgemhjcaaGreatDoorFldGSrcDrawsDrawKitAppSSomeDrawTreeScanMath
import Derived.Test.YtepmoihgemhjcaaGreatDoorNameRight
import Derived.Test.YtepmoihgemhjcaaGreatDoorRowOpsLgO
import Derived.Deep.RegionHeld3
import Derived.Deep.Cut
import Derived.Deep.CutRange
/-
  Whether a log is right, as the program answers.
  Conditions: the cells of Rows and Leaves hold the rows and leaves; the tables of the digest and errors.errorType are laid.
-/
namespace Go.Proofs.YtepmoihgemhjcaaGreatDoor
open Go.RowKit Go.Lib
set_option linter.unusedVariables false
set_option maxRecDepth 20000

theorem im_parts (rs : List Rw) (lv : List ByteArray) (now : Int) : lgB rs lv now = (timeB now && ((decide (rs.length ≤ 6) && rsB rs now) && lvOk rs now lv)) := by rw [lg_eq]; rfl
theorem rs_all {rs : List Rw} {now : Int} (h : rsB rs now = true) : ∀ r ∈ rs, rB r = true := fun r hr => by
  unfold rsB at h
  rw [List.all_eq_true] at h
  exact (Bool.and_eq_true_iff.1 (h r hr)).1
set_option maxHeartbeats 2000000 in
theorem right_any (p : Option Addr) (lv : List ByteArray) (cp : Nat) (q : Option Addr) (rs : List Rw) (cq : Nat) (now : Int) (w : World) (hT : Tabs w) (hg : Laid w) (hA : LgAt p lv cp q rs cq w) :
    Calls Tryz.prog 83 #[.agg (wkC p lv cp q rs cq now)] w fun e w' => e = .returned (.bool (lgB rs lv now)) ∧ Below w.heap.size w w' := by
  obtain ⟨W1, hW1⟩ : ∃ W1, W1 = w.alloc (.cells #[.slice p lv.length cp, .slice q rs.length cq, .int .i64 now] 85) := ⟨_, rfl⟩
  have HW1 : Hid (W1 = w.alloc (.cells #[.slice p lv.length cp, .slice q rs.length cq, .int .i64 now] 85)) := hW1
  have K1 : Hid (Bxs W1 w.heap.size 85 #[.slice p lv.length cp, .slice q rs.length cq, .int .i64 now]) := by rw [hW1]; exact Bxs.new _ _ _
  have B1 : Hid (Below w.heap.size w W1) := by rw [hW1]; exact (Below.refl _ _).alloc (Nat.le_refl _) _
  have HA1 : Hid (LgAt p lv cp q rs cq W1) := hA.below B1.out
  have HT1 : Hid (Tabs W1) := hT.to B1.out
  have HG1 : Hid (Laid W1) := hg.below B1.out
  have hTi := timeRight_any now W1
  have hRR := rowsRight_any p lv cp q rs cq now W1 HT1.out HA1.out.rw HA1.out.rn HA1.out.rc HA1.out.rz
  have HLR : Hid (∀ x, Below W1.heap.size W1 x → rs.length ≤ 6 → rsB rs now = true → Calls Tryz.prog 141 #[.agg #[.slice p lv.length cp, .slice q rs.length cq, .int .i64 now]] x fun e w' => e = .returned (.bool (lvOk rs now lv)) ∧ Below x.heap.size x w') := fun x hb h6 hr => leavesRight_any p lv cp q rs cq now x (HT1.out.to hb) (HG1.out.below hb) (HA1.out.tx.below hb) hA.ln hA.lc hA.lz (HA1.out.rw.below hb) hA.rc (rs_all hr) hA.rz h6
  have HE : Hid (lgB rs lv now = (timeB now && ((decide (rs.length ≤ 6) && rsB rs now) && lvOk rs now lv))) := im_parts rs lv now
  rw [HE.out]
  unfold wkC at hRR ⊢
  obtain ⟨x0, x1, x2⟩ := K1.out.three
  rw [HW1.out] at x0 x1 x2
  clear hW1 hT hg hA HT1 HG1 HA1 HE
  cases ht : timeB now with
  | false =>
    rw [ht] at hTi
    clear hRR HLR
    go_enter Tryz.func83, Tryz.ntmps83
    go_wp2_with fail
    rw [← HW1.out]
    refine hTi.mono ?_
    rintro e y ⟨rfl, rfl⟩
    go_wp2_with fail
    go_ret
    exact ⟨rfl, B1.out⟩
  | true =>
    rw [ht] at hTi
    cases hr : (decide (rs.length ≤ 6) && rsB rs now) with
    | false =>
      rw [hr] at hRR
      clear HLR
      go_enter Tryz.func83, Tryz.ntmps83
      go_wp2_with fail
      rw [← HW1.out]
      refine hTi.mono ?_
      rintro e y ⟨rfl, rfl⟩
      rw [← HW1.out] at x0 x1 x2
      go_wp2_with fail
      refine hRR.mono ?_
      rintro e y2 ⟨rfl, b2⟩
      go_wp2_with fail
      go_ret
      exact ⟨rfl, chainB B1.out b2⟩
    | true =>
      rw [hr] at hRR
      obtain ⟨h6, hrs⟩ := Bool.and_eq_true_iff.1 hr
      have HLR2 : Hid (∀ x, Below W1.heap.size W1 x → Calls Tryz.prog 141 #[.agg #[.slice p lv.length cp, .slice q rs.length cq, .int .i64 now]] x fun e w' => e = .returned (.bool (lvOk rs now lv)) ∧ Below x.heap.size x w') := fun x hb => HLR.out x hb (of_decide_eq_true h6) hrs
      clear HLR h6 hrs hr
      generalize lvOk rs now lv = R at *
      go_enter Tryz.func83, Tryz.ntmps83
      go_wp2_with fail
      rw [← HW1.out]
      refine hTi.mono ?_
      rintro e y ⟨rfl, rfl⟩
      rw [← HW1.out] at x0 x1 x2
      go_wp2_with fail
      refine hRR.mono ?_
      rintro e y2 ⟨rfl, b2⟩
      have hL := HLR2.out y2 b2
      clear x0 x1 x2 hRR hTi HLR2
      obtain ⟨x0, x1, x2⟩ := (K1.out.below b2).three
      go_wp2_with fail
      refine hL.mono ?_
      rintro e y3 ⟨rfl, b3⟩
      clear hL
      go_wp2_with fail
      go_ret
      exact ⟨rfl, chainB (chainB B1.out b2) b3⟩
set_option maxHeartbeats 1000000 in
theorem implLogRight_any (p : Option Addr) (lv : List ByteArray) (cp : Nat) (q : Option Addr) (rs : List Rw) (cq : Nat) (now : Int) (w : World) (hT : Tabs w) (hg : Laid w) (hA : LgAt p lv cp q rs cq w) :
    Calls Tryz.prog 25 #[.agg (lgC p lv cp q rs cq now)] w fun e w' => e = .returned (.bool (lgB rs lv now)) ∧ Below w.heap.size w w' := by
  obtain ⟨W1, hW1⟩ : ∃ W1, W1 = w.alloc (.cells #[.slice q rs.length cq, .slice p lv.length cp, .int .i64 now] 26) := ⟨_, rfl⟩
  have HW1 : Hid (W1 = w.alloc (.cells #[.slice q rs.length cq, .slice p lv.length cp, .int .i64 now] 26)) := hW1
  have B1 : Hid (Below w.heap.size w W1) := by rw [hW1]; exact (Below.refl _ _).alloc (Nat.le_refl _) _
  have hWk := workOn_any p lv cp q rs cq now W1
  have HR : Hid (∀ x, Below W1.heap.size W1 x → Calls Tryz.prog 83 #[.agg #[.slice p lv.length cp, .slice q rs.length cq, .int .i64 now]] x fun e w' => e = .returned (.bool (lgB rs lv now)) ∧ Below x.heap.size x w') := fun x hb => right_any p lv cp q rs cq now x ((hT.to B1.out).to hb) ((hg.below B1.out).below hb) ((hA.below B1.out).below hb)
  unfold lgC wkC at hWk
  unfold lgC
  generalize lgB rs lv now = R at *
  clear hW1 hT hg hA
  go_enter Tryz.func25, Tryz.ntmps25
  go_wp2_with fail
  rw [← HW1.out]
  refine hWk.mono ?_
  rintro e y ⟨rfl, b2⟩
  have hR := HR.out y b2
  clear hWk HR
  go_wp2_with fail
  refine hR.mono ?_
  rintro e y3 ⟨rfl, b3⟩
  clear hR
  go_wp2_with fail
  go_ret
  exact ⟨rfl, chainB (chainB B1.out b2) b3⟩
end Go.Proofs.YtepmoihgemhjcaaGreatDoor
/-
  The program's copied: the same texts, in new memory of their own.
  Conditions: the slice's cells hold the texts, each of at most 2^20 bytes, at most 2^20 of them.
-/
namespace Go.Proofs.YtepmoihgemhjcaaGreatDoor
open Go.RowKit Go.Lib
set_option linter.unusedVariables false
set_option maxRecDepth 20000

set_option maxHeartbeats 1000000 in
theorem copied_any (p : Option Addr) (cap : Nat) (ss : List ByteArray) (w : World) (hp : TxtAt w p ss) (hn : ss.length ≤ 1048576) (hcap : ss.length ≤ cap) (hs : ∀ x ∈ ss, x.size ≤ 1048576) :
    Calls Tryz.prog 128 #[.slice p ss.length cap] w fun e w' => ∃ v, e = .returned v ∧ w'.ownsRow w.heap.size 9 1 v ss.length (strRow ss) ∧ Below w.heap.size w w' := by
  have HP : Hid (TxtAt w p ss) := hp
  have HS : Hid (∀ x ∈ ss, x.size ≤ 1048576) := hs
  clear hp hs
  obtain ⟨i0, hi, hz0, hz1, hz2⟩ := info_parts infoStr
  go_enter Tryz.func128, Tryz.ntmps128
  go_wp2
  go_loopw [8, 3] (fun i v wr => ∃ k : Nat, k ≤ ss.length ∧ i = .int .i64 k ∧ Hid (wr.ownsRow w.heap.size 9 1 v k (strRow (ss.take k))) ∧ Hid (Below w.heap.size w wr)) (fun i _ _ => ss.length - (Go.RowKit.intOf i).toNat)
  case atStart => exact ⟨0, Nat.zero_le _, rfl, World.ownsRow_nil _ _ _ _, Below.refl _ _⟩
  case round =>
    obtain ⟨k, hk, rfl, hown, hB⟩ := hrel
    have hsz := hB.out.size
    by_cases hlt : k < ss.length
    · obtain ⟨b, off, rfl, hb, hck⟩ := HP.out k hlt
      have hc1 : wr.cell? ⟨b, off + k, none⟩ = some (.string ss[k]) := (hB.out.cell (p := ⟨b, off + k, none⟩) hb).trans hck
      have hx := HS.out ss[k] (List.getElem_mem hlt)
      have HT : Hid (strRow (ss.take (k + 1)) = strRow (ss.take k) ++ [.string ss[k]]) := by show _ = _; unfold strRow; rw [List.take_succ_eq_append_getElem hlt, List.map_append]; rfl
      have hj := joined_one ss[k] wr (by omega)
      clear hck
      generalize ss[k] = q at *
      go_wp2_with fail
      refine hj.mono ?_
      rintro e w2 ⟨rfl, b2⟩
      have own2 := ownS_below hown.out b2
      have hB2 := chainB hB.out b2
      have hs2 := hB2.size
      go_wp2_with (at_builtin; refine wpList_append_lies _ rfl _ _ 24 rfl w.heap.size 9 i0 (.string ByteArray.empty) 1 16 Tryz.underlying24 hi hz0 hz1 hz2 rfl (by omega) _ k (strRow (ss.take k)) rfl (own2.alloc _) ⟨w2.heap.size, 0, none⟩ 1 1 [.string q] rfl rfl (World.news_of_block (cs := #[.string q]) (t := 9) (fr := (0, 0)) (MapKept.heap_alloc w2 _).1) (by simp [Value.oneCell']) (by omega) (by unfold maxLen; omega) (by omega) (by simp; omega) (w2.heap.size + 1) (by simp) ?_; intro g2 cap2 w3 hown3 hgrow hat hltg)
      have HO3 : Hid (w3.ownsRow w.heap.size 9 1 (.slice (some ⟨g2, 0, none⟩) (k + 1) cap2) (k + 1) (strRow (ss.take (k + 1)))) := by
        show World.ownsRow _ _ _ _ _ _ _
        rw [HT.out]; exact hown3
      have HB3 : Hid (Below w.heap.size w w3) := (hB2.alloc hB2.size _).grown hgrow (by simp; omega) (fun j hj => (own2.lt j hj).1)
      clear hown3 own2
      go_roundw
      case rel => exact ⟨k + 1, by omega, by go_num, HO3, HB3⟩
      case measure => simp [Go.RowKit.intOf]; omega
    · obtain rfl : k = ss.length := by omega
      have HO3 : Hid (wr.ownsRow w.heap.size 9 1 u3 ss.length (strRow ss)) := by
        have := hown.out; rwa [List.take_length] at this
      go_wp2
      go_ret
      exact ⟨_, rfl, HO3.out, hB.out⟩
end Go.Proofs.YtepmoihgemhjcaaGreatDoor
/-
  A log copied into memory of its own: impl.copiedLog.
-/
namespace Go.Proofs.YtepmoihgemhjcaaGreatDoor
open Go.RowKit Go.Lib
set_option linter.unusedVariables false
set_option maxRecDepth 20000

set_option maxHeartbeats 8000000 in
theorem copiedLog_any (p : Option Addr) (lv : List ByteArray) (cp : Nat) (q : Option Addr) (rs : List Rw) (cq : Nat) (now : Int) (w : World) (hA : LgAt p lv cp q rs cq w) (hf : ∀ r ∈ rs, rB r = true) (hs : ∀ s ∈ lv, s.size ≤ 1048576) :
    Calls Tryz.prog 60 #[.agg #[.slice q rs.length cq, .slice p lv.length cp, .int .i64 now]] w fun e w' => ∃ v1 v2 xs, e = .returned (.agg #[v1, v2, .int .i64 now]) ∧ xs.map (·.1) = rs ∧ LgO w.heap.size xs lv v1 v2 w' ∧ Below w.heap.size w w' := by
  obtain ⟨W2, hW2⟩ : ∃ W2, W2 = (w.alloc (.cells #[.slice q rs.length cq, .slice p lv.length cp, .int .i64 now] 26)).alloc (.cells #[.slice none 0 0, .slice none 0 0, .int .i64 0] 26) := ⟨_, rfl⟩
  have HW2 : Hid (W2 = (w.alloc (.cells #[.slice q rs.length cq, .slice p lv.length cp, .int .i64 now] 26)).alloc (.cells #[.slice none 0 0, .slice none 0 0, .int .i64 0] 26)) := hW2
  have hs1 : (w.alloc (.cells #[.slice q rs.length cq, .slice p lv.length cp, .int .i64 now] 26)).heap.size = w.heap.size + 1 := by simp
  have b2 : Hid (Below w.heap.size w W2) := by rw [hW2]; exact ((Below.refl _ _).alloc (Nat.le_refl _) _).alloc (by rw [hs1]; omega) _
  have K0 : Hid (Bxs W2 w.heap.size 26 #[.slice q rs.length cq, .slice p lv.length cp, .int .i64 now]) := by rw [hW2]; exact (Bxs.new _ _ _).alloc _
  have K1 : Hid (Bxs W2 (w.heap.size + 1) 26 #[.slice none 0 0, .slice none 0 0, .int .i64 0]) := by rw [hW2, ← hs1]; exact Bxs.new _ _ _
  have hz2 : Hid (W2.heap.size = w.heap.size + 2) := by rw [hW2]; show _ = _; simp
  have HX : Hid (∀ w', Below W2.heap.size W2 w' → w'.cell? ⟨w.heap.size, 0, none⟩ = some (.slice q rs.length cq) ∧ w'.cell? ⟨w.heap.size, 1, none⟩ = some (.slice p lv.length cp) ∧ w'.cell? ⟨w.heap.size, 2, none⟩ = some (.int .i64 now)) := fun w' hb => ⟨(K0.out.below hb).cell 0, (K0.out.below hb).cell 1, (K0.out.below hb).cell 2⟩
  have HXr : Hid (∀ x, Below W2.heap.size W2 x → x.cell? ⟨w.heap.size + 1, 0, none⟩ = some (.slice none 0 0) ∧ x.cell? ⟨w.heap.size + 1, 1, none⟩ = some (.slice none 0 0) ∧ x.cell? ⟨w.heap.size + 1, 2, none⟩ = some (.int .i64 0) ∧ x.frozen? ⟨w.heap.size + 1, 0, none⟩ = false ∧ x.frozen? ⟨w.heap.size + 1, 1, none⟩ = false ∧ x.frozen? ⟨w.heap.size + 1, 2, none⟩ = false) := fun x hb => ⟨(K1.out.below hb).cell 0, (K1.out.below hb).cell 1, (K1.out.below hb).cell 2, (K1.out.below hb).fr 0, (K1.out.below hb).fr 1, (K1.out.below hb).fr 2⟩
  have HA : Hid (∀ x, Below W2.heap.size W2 x → LgAt p lv cp q rs cq x) := fun x hb => hA.below (chainB b2.out hb)
  have HF : Hid (∀ r ∈ rs, rB r = true) := hf
  have hrc := hA.rc
  have hlc := hA.lc
  have hrn := hA.rn
  have hln := hA.ln
  have HCp : Hid (∀ x, Below W2.heap.size W2 x → Calls Tryz.prog 128 #[.slice p lv.length cp] x fun e w' => ∃ q3 d3, e = .returned (.slice q3 lv.length d3) ∧ w'.ownsRow W2.heap.size 9 1 (.slice q3 lv.length d3) lv.length (strRow lv) ∧ Below x.heap.size x w') := fun x hb => (copied_any p cp lv x (HA.out x hb).tx hln hlc hs).mono (by
    rintro e w' ⟨v, rfl, ho, h⟩
    obtain ⟨q3, d3, rfl, -, -⟩ := ownS_form ho
    exact ⟨q3, d3, rfl, own_low ho hb.size, h⟩)
  have BR : Below W2.heap.size W2 W2.drew := (Below.refl _ _).drew
  clear hW2 hA hf hs1 hs
  go_enter Tryz.func60, Tryz.ntmps60
  go_upto_region 1 with fail
  rw [← HW2.out]
  obtain ⟨x0, x1, x2⟩ := HX.out W2 (Below.refl _ _)
  go_cut [3] from 6 to 11 (fun s3 wx => ∃ E v1 v2, s3 = .pointer (some ⟨E, 0, none⟩) ∧ Hid (LgC W2 E [] lv now v1 v2 wx))
  case first =>
    refine region_till (fun w' => w'.cell? ⟨w.heap.size, 0, none⟩ = some (.slice q rs.length cq) ∧ w'.cell? ⟨w.heap.size, 1, none⟩ = some (.slice p lv.length cp) ∧ w'.cell? ⟨w.heap.size, 2, none⟩ = some (.int .i64 now)) 7 (by kernel_rfl) (HX.out _ BR) (fun hHeld => ?_)
    generalize W2.drew = y0 at *
    refine till_take 0 (v := ?_) rfl (by kernel_rfl) (by kernel_rfl) (by kernel_rfl) (by kernel_rfl) (fun _ _ _ h => h) hHeld (Or.inl ⟨by rfl, ?_⟩) ?_
    rotate_left
    · (intro w hSw; (try dsimp only at hSw); go_simp; try with_reducible rfl)
    simp only [Act.put, List.setIfInBounds_toArray, List.set_cons_zero, List.set_cons_succ]
    refine till_take 1 (v := ?_) rfl (by kernel_rfl) (by kernel_rfl) (by kernel_rfl) (by kernel_rfl) (fun _ _ _ h => h) hHeld (Or.inl ⟨by rfl, ?_⟩) ?_
    rotate_left
    · (intro w hSw; (try dsimp only at hSw); go_simp; try with_reducible rfl)
    simp only [Act.put, List.setIfInBounds_toArray, List.set_cons_zero, List.set_cons_succ]
    refine till_take 3 (v := ?_) rfl (by kernel_rfl) (by kernel_rfl) (by kernel_rfl) (by kernel_rfl) (fun _ _ _ h => h) hHeld (Or.inl ⟨by rfl, ?_⟩) ?_
    rotate_left
    · (intro w hSw; (try dsimp only at hSw); go_simp; try with_reducible rfl)
    simp only [Act.put, List.setIfInBounds_toArray, List.set_cons_zero, List.set_cons_succ]
    refine till_take 4 (v := ?_) rfl (by kernel_rfl) (by kernel_rfl) (by kernel_rfl) (by kernel_rfl) (fun _ _ _ h => h) hHeld (Or.inl ⟨by rfl, ?_⟩) ?_
    rotate_left
    · (intro w hSw; (try dsimp only at hSw); go_simp; try with_reducible rfl)
    simp only [Act.put, List.setIfInBounds_toArray, List.set_cons_zero, List.set_cons_succ]
    refine till_ready2 2 6 rfl rfl (by kernel_rfl) (fun K hK => ?_) (fun K hK => ?_)
    · go_simp
      (go_at_call 128; refine (HCp.out _ BR).mono ?_; rintro e y1 ⟨q3, d3, rfl, own3, z1⟩)
      have b_1 := chainB BR z1
      refine hK.out _ _ (HX.out _ b_1) (fun hHeld => ?_)
      clear hK K
      try simp only [Act.put, List.setIfInBounds_toArray, List.set_cons_zero, List.set_cons_succ]
      refine till_take 5 (v := ?_) rfl (by kernel_rfl) (by kernel_rfl) (by kernel_rfl) (by kernel_rfl) (fun _ _ _ h => h) hHeld (Or.inl ⟨by rfl, ?_⟩) ?_
      rotate_left
      · (intro w hSw; (try dsimp only at hSw); go_simp; try with_reducible rfl)
      simp only [Act.put, List.setIfInBounds_toArray, List.set_cons_zero, List.set_cons_succ]
      refine till_ready 6 rfl (by kernel_rfl) (fun K hK => ?_)
      go_simp
      have kE : Bxs (y1.alloc (.cells #[.slice none 0 0, .slice none 0 0, .int .i64 0] 26)) y1.heap.size 26 #[.slice none 0 0, .slice none 0 0, .int .i64 0] := Bxs.new _ _ _
      have b_2 : Below W2.heap.size W2 (y1.alloc (.cells #[.slice none 0 0, .slice none 0 0, .int .i64 0] 26)) := alB b_1 _
      have hEb : W2.heap.size ≤ y1.heap.size := b_1.size
      replace own3 := ownS_below own3 (alB (Below.refl _ _) (.cells #[.slice none 0 0, .slice none 0 0, .int .i64 0] 26))
      refine hK.out _ _ (HX.out _ b_2) (fun hHeld => ?_)
      clear hK K
      try simp only [Act.put, List.setIfInBounds_toArray, List.set_cons_zero, List.set_cons_succ]
      generalize y1.alloc (.cells #[.slice none 0 0, .slice none 0 0, .int .i64 0] 26) = u2 at *
      generalize y1.heap.size = Eb at *
      have HP : Hid (LgC W2 Eb [] lv now (.slice none 0 0) (.slice q3 lv.length d3) (((u2.setCell ⟨Eb, 0, none⟩ (.slice none 0 0)).setCell ⟨Eb, 1, none⟩ (.slice q3 lv.length d3)).setCell ⟨Eb, 2, none⟩ (.int .i64 now))) := LgC.put kE hEb b_2 ⟨RwsO.nil _ _, own3⟩
      have q0 : u2.cell? ⟨Eb, 0, none⟩ = some (.slice none 0 0) := kE.cell 0
      have q1 : u2.cell? ⟨Eb, 1, none⟩ = some (.slice none 0 0) := kE.cell 1
      have q2 : u2.cell? ⟨Eb, 2, none⟩ = some (.int .i64 0) := kE.cell 2
      have f0 := kE.fr 0
      have f1 := kE.fr 1
      have f2 := kE.fr 2
      refine till_last rfl (by kernel_rfl) (by kernel_rfl) (fun K hK => ?_)
      go_simp
      refine hK.out _ _ ?_
      clear hK K hHeld q0 q1 q2 f0 f1 f2
      go_wp2_with fail
      go_meet
      exact ⟨Eb, _, _, rfl, HP⟩
    · go_simp
      have kE : Bxs (y0.alloc (.cells #[.slice none 0 0, .slice none 0 0, .int .i64 0] 26)) y0.heap.size 26 #[.slice none 0 0, .slice none 0 0, .int .i64 0] := Bxs.new _ _ _
      have b_3 : Below W2.heap.size W2 (y0.alloc (.cells #[.slice none 0 0, .slice none 0 0, .int .i64 0] 26)) := alB BR _
      have hEb : W2.heap.size ≤ y0.heap.size := BR.size
      refine hK.out _ _ (HX.out _ b_3) (fun hHeld => ?_)
      clear hK K
      try simp only [Act.put, List.setIfInBounds_toArray, List.set_cons_zero, List.set_cons_succ]
      generalize y0.alloc (.cells #[.slice none 0 0, .slice none 0 0, .int .i64 0] 26) = u3 at *
      generalize y0.heap.size = Eb at *
      refine till_ready 2 rfl (by kernel_rfl) (fun K hK => ?_)
      go_simp
      (go_at_call 128; refine (HCp.out _ b_3).mono ?_; rintro e y4 ⟨q3, d3, rfl, own3, z4⟩)
      have b_4 := chainB b_3 z4
      replace kE := kE.below z4
      refine hK.out _ _ (HX.out _ b_4) (fun hHeld => ?_)
      clear hK K
      try simp only [Act.put, List.setIfInBounds_toArray, List.set_cons_zero, List.set_cons_succ]
      refine till_take 5 (v := ?_) rfl (by kernel_rfl) (by kernel_rfl) (by kernel_rfl) (by kernel_rfl) (fun _ _ _ h => h) hHeld (Or.inl ⟨by rfl, ?_⟩) ?_
      rotate_left
      · (intro w hSw; (try dsimp only at hSw); go_simp; try with_reducible rfl)
      simp only [Act.put, List.setIfInBounds_toArray, List.set_cons_zero, List.set_cons_succ]
      have HP : Hid (LgC W2 Eb [] lv now (.slice none 0 0) (.slice q3 lv.length d3) (((y4.setCell ⟨Eb, 0, none⟩ (.slice none 0 0)).setCell ⟨Eb, 1, none⟩ (.slice q3 lv.length d3)).setCell ⟨Eb, 2, none⟩ (.int .i64 now))) := LgC.put kE hEb b_4 ⟨RwsO.nil _ _, own3⟩
      have q0 : y4.cell? ⟨Eb, 0, none⟩ = some (.slice none 0 0) := kE.cell 0
      have q1 : y4.cell? ⟨Eb, 1, none⟩ = some (.slice none 0 0) := kE.cell 1
      have q2 : y4.cell? ⟨Eb, 2, none⟩ = some (.int .i64 0) := kE.cell 2
      have f0 := kE.fr 0
      have f1 := kE.fr 1
      have f2 := kE.fr 2
      refine till_last rfl (by kernel_rfl) (by kernel_rfl) (fun K hK => ?_)
      go_simp
      refine hK.out _ _ ?_
      clear hK K hHeld q0 q1 q2 f0 f1 f2
      go_wp2_with fail
      go_meet
      exact ⟨Eb, _, _, rfl, HP⟩
  case rest =>
    clear x0 x1 x2 BR
    obtain ⟨E, v1, v2, rfl, HC⟩ := hcut
    obtain ⟨z2, zd, rfl, hz2c, -⟩ := ownS_form HC.out.lg.lvs
    obtain ⟨z1, zc, rfl, hz1c⟩ := HC.out.lg.rws.form
    obtain ⟨x0, -, -⟩ := HX.out wc HC.out.bel
    go_wp2_with fail
    go_loopw [15] (fun i wr => ∃ (k : Nat) (xs : List (Rw × Value)) (v1 : Value), k ≤ rs.length ∧ i = .int .i64 k ∧ Hid (xs.map (·.1) = rs.take k) ∧ Hid (LgC W2 E xs lv now v1 (.slice z2 lv.length zd) wr)) (fun i _ => rs.length - (Go.RowKit.intOf i).toNat)
    case atStart => exact ⟨0, [], _, Nat.zero_le _, rfl, rfl, HC⟩
    case round =>
      clear x0 HC
      obtain ⟨k, xs, v1, hk, rfl, HM, HC⟩ := hrel
      obtain ⟨z1, zc, rfl, hz1c⟩ := HC.out.lg.rws.form
      have hxl : Hid (xs.length = k) := by
        have := congrArg List.length HM.out
        simp at this
        show _ = _
        omega
      by_cases hlt : k < rs.length
      · have i1 : (k : Int) < rs.length := by omega
        obtain ⟨b, off, rq, rc, rfl, hb0, c0, c1, c2, c3, c4⟩ := (HA.out W2 (Below.refl _ _)).rw k hlt
        obtain ⟨R, hR⟩ : ∃ R, R = rs[k] := ⟨_, rfl⟩
        rw [← hR] at c0 c1 c2 c3 c4
        have HRF := HF.out rs[k] (List.getElem_mem hlt)
        rw [← hR] at HRF
        have HM2 : Hid (rs.take (k + 1) = rs.take k ++ [R]) := by show _ = _; rw [hR, List.take_succ_eq_append_getElem hlt]
        have HRc : Hid (∀ w', Below W2.heap.size W2 w' → w'.cell? ⟨b, off + k * 3, none⟩ = some (.string R.k) ∧ w'.cell? ⟨b, off + k * 3 + 1, none⟩ = some (.int .i64 R.a) ∧ w'.cell? ⟨b, off + k * 3 + 2, none⟩ = some (.slice rq R.fs.length rc)) := fun w' hb => ⟨(hb.cell (p := ⟨b, off + k * 3, none⟩) hb0).trans c0, (hb.cell (p := ⟨b, off + k * 3 + 1, none⟩) hb0).trans c1, (hb.cell (p := ⟨b, off + k * 3 + 2, none⟩) hb0).trans c2⟩
        have QC : Hid (∀ x, Below W2.heap.size W2 x → Calls Tryz.prog 61 #[.agg #[.string R.k, .int .i64 R.a, .slice rq R.fs.length rc]] x fun e w' => ∃ bb cc, e = .returned (.agg #[.string R.k, .int .i64 R.a, .slice (some ⟨bb, 0, none⟩) R.fs.length cc]) ∧ w'.ownsRow x.heap.size 103 5 (.slice (some ⟨bb, 0, none⟩) R.fs.length cc) R.fs.length (fldRow R.fs) ∧ Below x.heap.size x w') := fun x hb => copiedRow_any R.k R.a rq rc R.fs x (c4.below hb) c3 HRF
        obtain ⟨WR, hWR⟩ : ∃ WR, WR = wr.alloc (.cells #[.string R.k, .int .i64 R.a, .slice rq R.fs.length rc] 29) := ⟨_, rfl⟩
        have HWR : Hid (WR = wr.alloc (.cells #[.string R.k, .int .i64 R.a, .slice rq R.fs.length rc] 29)) := hWR
        have HCr : Hid (LgC W2 E xs lv now (.slice z1 xs.length zc) (.slice z2 lv.length zd) WR) := by rw [hWR]; exact HC.out.below (alB (Below.refl _ _) _)
        have BxW : Hid (Bxs WR wr.heap.size 29 #[.string R.k, .int .i64 R.a, .slice rq R.fs.length rc]) := by rw [hWR]; exact Bxs.new _ _ _
        have nF : some wr.heap.size ≠ (Value.slice z1 xs.length zc).ownBlock := fun e => by have := (HC.out.lg.rws.lt.1 _ e.symm).2; omega
        obtain ⟨t0, t1, t2⟩ := HRc.out wr HC.out.bel
        have hrs : 0 < rs.length := by omega
        have hxs : xs.length + 1 ≤ 1048576 := by have := hxl.out; omega
        clear c0 c1 c2 hR hWR
        go_upto_region 5 with fail
        rw [← HWR.out]
        have HCd := HCr.out.below (Below.refl _ _).drew
        have BxF : Bxs WR.drew wr.heap.size 29 #[.string R.k, .int .i64 R.a, .slice rq R.fs.length rc] := BxW.out.below (Below.refl _ _).drew
        obtain ⟨F, hF⟩ : ∃ F, F = wr.heap.size := ⟨_, rfl⟩
        rw [← hF] at nF BxF
        obtain ⟨p0, p1, p2, g0, g1, g2⟩ := HCr.out.cells
        have e0 : WR.cell? ⟨F, 0, none⟩ = some (.string R.k) := BxF.cell 0
        have e1 : WR.cell? ⟨F, 1, none⟩ = some (.int .i64 R.a) := BxF.cell 1
        have e2 : WR.cell? ⟨F, 2, none⟩ = some (.slice rq R.fs.length rc) := BxF.cell 2
        rw [← hF]
        clear hF t0 t1 t2
        refine region_till (fun w' => w'.cell? ⟨E, 0, none⟩ = some (.slice z1 xs.length zc) ∧ w'.cell? ⟨F, 0, none⟩ = some (.string R.k) ∧ w'.cell? ⟨F, 1, none⟩ = some (.int .i64 R.a) ∧ w'.cell? ⟨F, 2, none⟩ = some (.slice rq R.fs.length rc)) 7 (by kernel_rfl) ⟨HCd.cells.1, BxF.cell 0, BxF.cell 1, BxF.cell 2⟩ (fun hHeld => ?_)
        generalize WR.drew = y0 at *
        have HS : Hid (∀ w', Below y0.heap.size y0 w' → w'.cell? ⟨E, 0, none⟩ = some (.slice z1 xs.length zc) → w'.cell? ⟨E, 0, none⟩ = some (.slice z1 xs.length zc) ∧ w'.cell? ⟨F, 0, none⟩ = some (.string R.k) ∧ w'.cell? ⟨F, 1, none⟩ = some (.int .i64 R.a) ∧ w'.cell? ⟨F, 2, none⟩ = some (.slice rq R.fs.length rc)) := fun w' hb h => ⟨h, (BxF.below hb).cell 0, (BxF.below hb).cell 1, (BxF.below hb).cell 2⟩
        refine till_take 0 (v := ?_) rfl (by kernel_rfl) (by kernel_rfl) (by kernel_rfl) (by kernel_rfl) (fun _ _ _ h => h) hHeld (Or.inl ⟨by rfl, ?_⟩) ?_
        rotate_left
        · (intro w hSw; (try dsimp only at hSw); go_simp; try with_reducible rfl)
        simp only [Act.put, List.setIfInBounds_toArray, List.set_cons_zero, List.set_cons_succ]
        refine till_take 1 (v := ?_) rfl (by kernel_rfl) (by kernel_rfl) (by kernel_rfl) (by kernel_rfl) (fun _ _ _ h => h) hHeld (Or.inl ⟨by rfl, ?_⟩) ?_
        rotate_left
        · (intro w hSw; (try dsimp only at hSw); go_simp; try with_reducible rfl)
        simp only [Act.put, List.setIfInBounds_toArray, List.set_cons_zero, List.set_cons_succ]
        refine till_take 2 (v := ?_) rfl (by kernel_rfl) (by kernel_rfl) (by kernel_rfl) (by kernel_rfl) (fun _ _ _ h => h) hHeld (Or.inl ⟨by rfl, ?_⟩) ?_
        rotate_left
        · (intro w hSw; (try dsimp only at hSw); go_simp; try with_reducible rfl)
        simp only [Act.put, List.setIfInBounds_toArray, List.set_cons_zero, List.set_cons_succ]
        refine till_ready 3 rfl (by kernel_rfl) (fun K hK => ?_)
        go_simp
        (go_at_call 61; refine (QC.out _ HCd.bel).mono ?_; rintro e y1 ⟨bb, cc, rfl, own1, zz1⟩)
        have HC1 := HCd.below zz1
        refine hK.out _ _ (HS.out _ zz1 HC1.cells.1) (fun hHeld => ?_)
        clear hK K
        try simp only [Act.put, List.setIfInBounds_toArray, List.set_cons_zero, List.set_cons_succ]
        obtain ⟨q2, d2, y2, hrun, HC2, bl2, k20, k21, gr2⟩ := HCd.app zz1 R (some ⟨bb, 0, none⟩) cc own1 hxs
        refine till_ready 4 rfl (by kernel_rfl) (fun K hK => ?_)
        go_simp
        refine hK.out _ _ (HS.out _ (alB zz1 _) (HC1.below (alB (Below.refl _ _) _)).cells.1) (fun hHeld => ?_)
        clear hK K
        try simp only [Act.put, List.setIfInBounds_toArray, List.set_cons_zero, List.set_cons_succ]
        refine till_ready 5 rfl (by kernel_rfl) (fun K hK => ?_)
        refine step_append_run rfl _ _ 23 rfl (.slice z1 xs.length zc) (.slice (some ⟨y1.heap.size, 0, none⟩) 1 1) _ _ rfl rfl hrun ?_
        refine hK.out _ _ (⟨k20, ((BxF.below (alB zz1 _)).grown gr2 nF).cell 0, ((BxF.below (alB zz1 _)).grown gr2 nF).cell 1, ((BxF.below (alB zz1 _)).grown gr2 nF).cell 2⟩) (fun hHeld => ?_)
        clear hK K
        try simp only [Act.put, List.setIfInBounds_toArray, List.set_cons_zero, List.set_cons_succ]
        refine till_take 6 (v := ?_) rfl (by kernel_rfl) (by kernel_rfl) (by kernel_rfl) (by kernel_rfl) (fun _ _ _ h => h) hHeld (Or.inl ⟨by rfl, ?_⟩) ?_
        rotate_left
        · (intro w hSw; (try dsimp only at hSw); go_simp; try with_reducible rfl)
        simp only [Act.put, List.setIfInBounds_toArray, List.set_cons_zero, List.set_cons_succ]
        refine till_last rfl (by kernel_rfl) (by kernel_rfl) (fun K hK => ?_)
        go_simp
        refine hK.out _ _ ?_
        clear hK K hHeld
        have HCn : Hid (LgC W2 E (xs ++ [(R, .slice (some ⟨bb, 0, none⟩) R.fs.length cc)]) lv now (.slice q2 (xs.length + 1) d2) (.slice z2 lv.length zd) (y2.setCell ⟨E, 0, none⟩ (.slice q2 (xs.length + 1) d2))) := HC2
        have HMn : Hid ((xs ++ [(R, (Value.slice (some ⟨bb, 0, none⟩) R.fs.length cc))]).map (·.1) = rs.take (k + 1)) := by show _ = _; rw [HM2.out, List.map_append, HM.out]; rfl
        clear HC2 HM HM2 hrun k20 k21 bl2 own1 zz1 HC1 HCd HS QC HRc gr2 BxF nF e0 e1 e2 HWR HCr BxW
        go_wp2_with fail
        go_roundw
        case rel => exact ⟨k + 1, _, _, by omega, by go_num, HMn, HCn⟩
        case measure => simp [Go.RowKit.intOf]; omega
      · obtain rfl : k = rs.length := by omega
        have hrs : Hid (xs.map (·.1) = rs) := by have := HM.out; rwa [List.take_length] at this
        obtain ⟨p0, p1, p2, g0, g1, g2⟩ := HC.out.cells
        obtain ⟨r0, r1, r2, h0, h1, h2⟩ := HXr.out wr HC.out.bel
        obtain ⟨x0, -, -⟩ := HX.out wr HC.out.bel
        have HE : Hid (∀ u0 u1 u2 : Value, LgO w.heap.size xs lv (.slice z1 xs.length zc) (.slice z2 lv.length zd) (((wr.setCell ⟨w.heap.size + 1, 0, none⟩ u0).setCell ⟨w.heap.size + 1, 1, none⟩ u1).setCell ⟨w.heap.size + 1, 2, none⟩ u2) ∧ Below w.heap.size w (((wr.setCell ⟨w.heap.size + 1, 0, none⟩ u0).setCell ⟨w.heap.size + 1, 1, none⟩ u1).setCell ⟨w.heap.size + 1, 2, none⟩ u2)) := fun u0 u1 u2 => by
          have hzz := hz2.out
          have hb := chainB b2.out HC.out.bel
          exact ⟨(((HC.out.lg.set (by omega) 0 u0).set (by omega) 1 u1).set (by omega) 2 u2).lower (by omega), below_cel (below_cel (below_cel hb (by omega) 0 u0) (by omega) 1 u1) (by omega) 2 u2⟩
        clear HC HM HX HXr hxl
        go_wp2_with fail
        refine bodyPost_ret (v := .agg #[.slice z1 xs.length zc, .slice z2 lv.length zd, .int .i64 now]) (by simp [results, Tryz.results60, go_sem, r0, r1, r2]) rfl ?_
        exact ⟨_, _, xs, rfl, hrs.out, (HE.out _ _ _).1, (HE.out _ _ _).2⟩
end Go.Proofs.YtepmoihgemhjcaaGreatDoor
/-
  LogAdd's boxes.
-/
namespace Go.Proofs.YtepmoihgemhjcaaGreatDoor
open Go.RowKit Go.Lib
set_option linter.unusedVariables false
set_option maxRecDepth 20000

structure LaB (w : World) (q : Option Addr) (n cq : Nat) (p : Option Addr) (m cp : Nat) (now : Int) (k : ByteArray) (a : Int) (rq : Option Addr) (f rc : Nat) (x : World) : Prop where
  lg : Bxs x w.heap.size 26 #[.slice q n cq, .slice p m cp, .int .i64 now]
  rw : Bxs x (w.heap.size + 1) 29 #[.string k, .int .i64 a, .slice rq f rc]
  rs : Bxs x (w.heap.size + 2) 33 #[.slice none 0 0, .slice none 0 0, .int .i64 0, .int .i64 0]
  bel : Below w.heap.size w x
theorem LaB.below {w x y : World} {q : Option Addr} {n cq : Nat} {p : Option Addr} {m cp : Nat} {now : Int} {k : ByteArray} {a : Int} {rq : Option Addr} {f rc : Nat} (h : LaB w q n cq p m cp now k a rq f rc x) (hb : Below x.heap.size x y) : LaB w q n cq p m cp now k a rq f rc y := ⟨h.lg.below hb, h.rw.below hb, h.rs.below hb, chainB h.bel hb⟩
theorem LaB.six {w x : World} {q : Option Addr} {n cq : Nat} {p : Option Addr} {m cp : Nat} {now : Int} {k : ByteArray} {a : Int} {rq : Option Addr} {f rc : Nat} (h : LaB w q n cq p m cp now k a rq f rc x) : x.cell? ⟨w.heap.size, 0, none⟩ = some (.slice q n cq) ∧ x.cell? ⟨w.heap.size, 1, none⟩ = some (.slice p m cp) ∧ x.cell? ⟨w.heap.size, 2, none⟩ = some (.int .i64 now) ∧ x.cell? ⟨w.heap.size + 1, 0, none⟩ = some (.string k) ∧ x.cell? ⟨w.heap.size + 1, 1, none⟩ = some (.int .i64 a) ∧ x.cell? ⟨w.heap.size + 1, 2, none⟩ = some (.slice rq f rc) := ⟨h.lg.cell 0, h.lg.cell 1, h.lg.cell 2, h.rw.cell 0, h.rw.cell 1, h.rw.cell 2⟩
theorem LaB.res {w x : World} {q : Option Addr} {n cq : Nat} {p : Option Addr} {m cp : Nat} {now : Int} {k : ByteArray} {a : Int} {rq : Option Addr} {f rc : Nat} (h : LaB w q n cq p m cp now k a rq f rc x) : x.cell? ⟨w.heap.size + 2, 0, none⟩ = some (.slice none 0 0) ∧ x.cell? ⟨w.heap.size + 2, 1, none⟩ = some (.slice none 0 0) ∧ x.cell? ⟨w.heap.size + 2, 2, none⟩ = some (.int .i64 0) ∧ x.cell? ⟨w.heap.size + 2, 3, none⟩ = some (.int .i64 0) ∧ x.frozen? ⟨w.heap.size + 2, 0, none⟩ = false ∧ x.frozen? ⟨w.heap.size + 2, 1, none⟩ = false ∧ x.frozen? ⟨w.heap.size + 2, 2, none⟩ = false ∧ x.frozen? ⟨w.heap.size + 2, 3, none⟩ = false := ⟨h.rs.cell 0, h.rs.cell 1, h.rs.cell 2, h.rs.cell 3, h.rs.fr 0, h.rs.fr 1, h.rs.fr 2, h.rs.fr 3⟩
theorem la_boxes {w W3 : World} {q : Option Addr} {n cq : Nat} {p : Option Addr} {m cp : Nat} {now : Int} {k : ByteArray} {a : Int} {rq : Option Addr} {f rc : Nat} (h : W3 = ((w.alloc (.cells #[.slice q n cq, .slice p m cp, .int .i64 now] 26)).alloc (.cells #[.string k, .int .i64 a, .slice rq f rc] 29)).alloc (.cells #[.slice none 0 0, .slice none 0 0, .int .i64 0, .int .i64 0] 33)) : LaB w q n cq p m cp now k a rq f rc W3 := by
  subst h
  have h1 := Bxs.new (w.alloc (.cells #[.slice q n cq, .slice p m cp, .int .i64 now] 26)) 29 #[.string k, .int .i64 a, .slice rq f rc]
  rw [szA] at h1
  have h2 := Bxs.new ((w.alloc (.cells #[.slice q n cq, .slice p m cp, .int .i64 now] 26)).alloc (.cells #[.string k, .int .i64 a, .slice rq f rc] 29)) 33 #[.slice none 0 0, .slice none 0 0, .int .i64 0, .int .i64 0]
  rw [szA, szA] at h2
  exact ⟨((Bxs.new _ _ _).alloc _).alloc _, h1.alloc _, h2, alB (alB ((Below.refl _ _).alloc (Nat.le_refl _) _) _) _⟩
theorem la_put {w x : World} {base g : Nat} (h : Bxs x g 33 #[.slice none 0 0, .slice none 0 0, .int .i64 0, .int .i64 0]) (hg : w.heap.size ≤ g) (hb : Below w.heap.size w x) {xs : List (Rw × Value)} {lv : List ByteArray} {v1 v2 : Value} (o : LgO base xs lv v1 v2 x) (u0 u1 u2 u3 : Value) :
    Bxs ((((x.setCell ⟨g, 0, none⟩ u0).setCell ⟨g, 1, none⟩ u1).setCell ⟨g, 2, none⟩ u2).setCell ⟨g, 3, none⟩ u3) g 33 #[u0, u1, u2, u3] ∧ LgO base xs lv v1 v2 ((((x.setCell ⟨g, 0, none⟩ u0).setCell ⟨g, 1, none⟩ u1).setCell ⟨g, 2, none⟩ u2).setCell ⟨g, 3, none⟩ u3) ∧ Below w.heap.size w ((((x.setCell ⟨g, 0, none⟩ u0).setCell ⟨g, 1, none⟩ u1).setCell ⟨g, 2, none⟩ u2).setCell ⟨g, 3, none⟩ u3) :=
  ⟨(((h.set 0 _).set 1 _).set 2 _).set 3 _, (((o.box h (by decide) (by decide) (by decide) (set_grw x _ 0 u0)).box (h.set 0 u0) (by decide) (by decide) (by decide) (set_grw _ _ 1 u1)).box ((h.set 0 u0).set 1 u1) (by decide) (by decide) (by decide) (set_grw _ _ 2 u2)).box (((h.set 0 u0).set 1 u1).set 2 u2) (by decide) (by decide) (by decide) (set_grw _ _ 3 u3), below_set4 hb hg _ _ _ _⟩
end Go.Proofs.YtepmoihgemhjcaaGreatDoor
