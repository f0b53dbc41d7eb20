/-
  For every log and every number the law FnExactExtend returns true: the program's Extend answers as the specification's, writes into no argument, keeps nothing of one, and its answer owns its memory; the card ties the listed variables, errors.errorType and the two tables firstState and roundNums, to the program's text.
  Conditions: none of mine; the form's own reach; the listed variables as the program's text lays them (the given tie). The card speaks of the pruned copy of the project that the seat names.
-/
import Derived.Test.YtnaonldkbaapeacGreatDoorCards
import Derived.Test.YtnaonldkbaapeacGreatDoorTie
import Derived.Test.YtnaonldkbaapeacGreatDoorSlASlBBxKOwnSTakes
import Derived.Test.YtnaonldkbaapeacGreatDoorJoinedPutTextFldMath
import Derived.Test.YtnaonldkbaapeacGreatDoorLawSLawMFldRiseScanMath
import Derived.Test.YtnaonldkbaapeacGreatDoorLgMathLgAtKShwK
import Derived.Test.YtnaonldkbaapeacGreatDoorOneKFldGFldBlkRwBlk
import Derived.Test.YtnaonldkbaapeacGreatDoorLawLgLawLh
import Derived.Test.YtnaonldkbaapeacGreatDoorLawLzLawMGLawFM
import Derived.Test.YtnaonldkbaapeacGreatDoorLawLmOpFOpLgPathMath
import Derived.Test.YtnaonldkbaapeacGreatDoorLogRIExtLgTabsOfTabEt
import Derived.Handy
import Derived.WalkSpells
import Derived.OwnWalk
import Derived.Laws.OwnMore
import Derived.Deep.RegionHeld3
import Derived.Deep.Cut
import Derived.WalkKit
import Derived.ProofKit
import Derived.OpenShut
import Derived.OpenVars
import Derived.ShutString
import Derived.LaidHandle
import Derived.LaidLaws
import Derived.LaidMore
import Derived.Deep.DeepHandedRow
import Derived.ChangeOld
import Derived.Below
namespace Go.Proofs.YtnaonldkbaapeacGreatDoor.fnExactExtend
open Go.ChangeShapes Go.WideShapes Go.ChangeAt Go.RowKit
open Go.ChangeMaps (open_string shut_string)
set_option linter.unusedVariables false
set_option maxRecDepth 100000

theorem own : ownKnob Tryz.prog.godebug = none := by kernel_rfl
theorem laidOut : laidOutB Tryz.prog = true := by kernel_rfl

theorem int_bd {k : Int} (h : (Lit.int .i64 k).wf = true) : -9223372036854775808 ≤ k ∧ k ≤ 9223372036854775807 := by simpa [Lit.wf, IntKind.min, IntKind.max, IntKind.signed, IntKind.bits] using h
set_option maxHeartbeats 8000000 in
theorem walk (q : Option Addr) (cq : Nat) (rs : List Rw) (p : Option Addr) (cp : Nat) (lv : List ByteArray) (now : Int) (r : Int) (w : World) (w0 : IsLog w q cq rs p cp lv now) (w1 : (Lit.int .i64 r).wf = true) (hT : Tabs w) (hg : Laid w) :
    Calls Tryz.prog 5 #[.agg #[.slice q rs.length cq, .slice p lv.length cp, .int .i64 now], .int .i64 r] w fun e w' => e = .returned (.bool true) ∧ Below w.heap.size w w' := by
  obtain ⟨⟨-, hRw, hcq, hmq, hzr⟩, ⟨-, hTx, hcp, hmp, hzl⟩, -⟩ := w0
  obtain ⟨i0, i1⟩ := int_bd w1
  have HT : Hid (Tabs w) := hT
  have HG : Hid (Laid w) := hg
  have HR : Hid (RwAt w q rs) := hRw
  have HL : Hid (TxtAt w p lv) := hTx
  have HZR : Hid (∀ r ∈ rs, r.fs.length ≤ maxLen ∧ r.k.size ≤ maxLen ∧ FldsLe r.fs) := hzr
  have HZL : Hid (∀ x ∈ lv, x.size ≤ maxLen) := hzl
  have HBg : Hid (RwsBig rs) := fun r hr => by have h := hzr r hr; unfold maxLen at h; exact ⟨h.1, h.2.1, fun f hf => by have := h.2.2 f hf; unfold maxLen at this; exact this⟩
  have HLB : Hid (∀ x ∈ lv, x.size ≤ 9223372036854775807) := fun x hx => by have := hzl x hx; unfold maxLen at this; exact this
  unfold maxLen at hmq hmp
  clear hRw hTx hzr hzl hT hg w1
  obtain ⟨W1, hW1⟩ : ∃ W1, W1 = w.alloc (.cells #[.slice q rs.length cq, .slice p lv.length cp, .int .i64 now] 25) := ⟨_, rfl⟩
  have HW1 : Hid (W1 = w.alloc (.cells #[.slice q rs.length cq, .slice p lv.length cp, .int .i64 now] 25)) := hW1
  have B1 : Hid (Below w.heap.size w W1) := by rw [hW1]; exact (Below.refl _ _).alloc (Nat.le_refl _) _
  have K1 : Hid (Bxs W1 w.heap.size 25 #[.slice q rs.length cq, .slice p lv.length cp, .int .i64 now]) := by rw [hW1]; exact Bxs.new _ _ _
  have hSz := szLogZ_any q cq rs p cp lv now W1 (HR.out.below B1.out) (by omega) hcq HBg.out (HL.out.below B1.out) (by omega) hcp HLB.out
  obtain ⟨x0, x1, x2⟩ := K1.out.three
  rw [HW1.out] at x0 x1 x2
  clear hW1
  go_enter Tryz.func5, Tryz.ntmps5
  go_wp2_with fail
  rw [← HW1.out]
  refine hSz.mono ?_
  rintro e w2 ⟨⟨r0, rfl, hr⟩, b2⟩
  clear hSz x0 x1 x2
  rcases hr with rfl | ⟨hr0, hsum⟩
  · go_wp2_with fail
    go_ret
    exact ⟨rfl, chainB B1.out b2⟩
  have hrf : ∀ x ∈ rs, x.fs.length ≤ 1048576 := fun x hx => by have := fsN_mem hx; omega
  have hrn : rs.length ≤ 1048576 := by omega
  have hln : lv.length ≤ 1048576 := by omega
  have HSum : Hid (rs.length + fsN rs + lv.length ≤ 1048576) := hsum
  have dr : decide (r0 < 0) = false := decide_eq_false (by omega)
  have HB2 : Hid (Below w.heap.size w w2) := chainB B1.out b2
  have K2 : Hid (Bxs w2 w.heap.size 25 #[.slice q rs.length cq, .slice p lv.length cp, .int .i64 now]) := K1.out.below b2
  have HAt : Hid (∀ g gl xs x, xs.map (·.1) = rs → LgB x g xs gl lv → LgAt (some ⟨gl, 0, none⟩) lv lv.length (some ⟨g, 0, none⟩) rs rs.length x) := fun g gl xs x hx hB => ⟨hB.lf.txt, Nat.le_refl _, hln, HZL.out, by have := hB.rw.at; rwa [hx] at this, Nat.le_refl _, hrn, fun r hr => ⟨hrf r hr, (HZR.out r hr).2.1, (HZR.out r hr).2.2⟩⟩
  have HTo : Hid (∀ x, Below w.heap.size w x → Calls Tryz.prog 8 #[.agg #[.slice q rs.length cq, .slice p lv.length cp, .int .i64 now]] x fun e w' => ∃ g gl xs, xs.map (·.1) = rs ∧ x.heap.size ≤ g ∧ e = .returned (.agg #[.slice (some ⟨g, 0, none⟩) rs.length rs.length, .slice (some ⟨gl, 0, none⟩) lv.length lv.length, .int .i64 now]) ∧ LgB w' g xs gl lv ∧ Below x.heap.size x w') := fun x hb => toLog_any q cq rs p cp lv now x (HR.out.below hb) hrn hcq hrf (HL.out.below hb) hln hcp
  obtain ⟨R, hRR⟩ : ∃ R : List ByteArray, R = exO rs lv now r := ⟨_, rfl⟩
  have hRl : R.length ≤ 1024 := by rw [hRR]; exact exO_len rs lv now r
  have HS : Hid (∀ g gl xs x, xs.map (·.1) = rs → LgB x g xs gl lv → Calls Tryz.prog 20 #[.agg #[.slice (some ⟨g, 0, none⟩) rs.length rs.length, .slice (some ⟨gl, 0, none⟩) lv.length lv.length, .int .i64 now], .int .i64 r] x fun e w' => ∃ v, e = .returned v ∧ w'.ownsRow x.heap.size 9 1 v R.length (strRow R) ∧ Below x.heap.size x w') := fun g gl xs x hx hB => by rw [hRR]; exact specExtend_any (some ⟨gl, 0, none⟩) lv lv.length (some ⟨g, 0, none⟩) rs rs.length now r x i0 i1 (HAt.out g gl xs x hx hB)
  have HI : Hid (∀ g gl xs x, xs.map (·.1) = rs → LgB x g xs gl lv → Below w.heap.size w x → Calls Tryz.prog 21 #[.agg #[.slice (some ⟨g, 0, none⟩) rs.length rs.length, .slice (some ⟨gl, 0, none⟩) lv.length lv.length, .int .i64 now], .int .i64 r] x fun e w' => ∃ v, e = .returned v ∧ w'.ownsRow x.heap.size 9 1 v R.length (strRow R) ∧ Below x.heap.size x w') := fun g gl xs x hx hB hb => by rw [hRR]; exact implExtend_any (some ⟨gl, 0, none⟩) lv lv.length (some ⟨g, 0, none⟩) rs rs.length now r x i0 i1 (HT.out.to hb) (HG.out.below hb) (HAt.out g gl xs x hx hB)
  have HRF2 : Hid (∀ x ∈ rs, x.fs.length ≤ 1048576) := hrf
  clear b2 K1 HBg HLB HZR HZL hRR hrf HT HG HAt hsum i0 i1
  obtain ⟨x0, x1, x2⟩ := K2.out.three
  have hTo1 := HTo.out w2 HB2.out
  go_wp2_with fail
  refine hTo1.mono ?_
  rintro e w3 ⟨g3, l3, xs3, hx3, hg3, rfl, hB3, b3⟩
  have hS := HS.out g3 l3 xs3 w3 hx3 hB3
  clear hTo1 HS hB3 hx3 hg3 x0 x1 x2
  go_wp2_with fail
  refine hS.mono ?_
  rintro e w4 ⟨vw, rfl, oW, b4⟩
  have b24 : Below w2.heap.size w2 w4 := chainB b3 b4
  have HB4 : Hid (Below w.heap.size w w4) := chainB HB2.out b24
  have K4 : Hid (Bxs w4 w.heap.size 25 #[.slice q rs.length cq, .slice p lv.length cp, .int .i64 now]) := K2.out.below b24
  have OW4 : Hid (w4.ownsRow w.heap.size 9 1 vw R.length (strRow R)) := ownS_mono oW (Nat.le_trans HB2.out.size b3.size)
  have hTo2 := HTo.out w4 HB4.out
  obtain ⟨x0, x1, x2⟩ := K4.out.three
  clear hS b3 b4 b24 K2 HB2 oW
  go_wp2_with fail
  refine hTo2.mono ?_
  rintro e w6 ⟨g6, l6, xs6, hx6, hg6, rfl, hB6, b6⟩
  clear hTo2 x0 x1 x2
  have HW4 : Hid (∀ j, vw.ownBlock = some j → j < w4.heap.size) := fun j hj => ownS_block OW4.out hj
  have OW6 : Hid (w6.ownsRow w.heap.size 9 1 vw R.length (strRow R)) := ownS_below OW4.out b6
  obtain ⟨W7, hW7⟩ : ∃ W7, W7 = w6.alloc (.cells #[.slice (some ⟨g6, 0, none⟩) rs.length rs.length, .slice (some ⟨l6, 0, none⟩) lv.length lv.length, .int .i64 now] 32) := ⟨_, rfl⟩
  have HW7 : Hid (W7 = w6.alloc (.cells #[.slice (some ⟨g6, 0, none⟩) rs.length rs.length, .slice (some ⟨l6, 0, none⟩) lv.length lv.length, .int .i64 now] 32)) := hW7
  have b67 : Below w6.heap.size w6 W7 := by rw [hW7]; exact (Below.refl _ _).alloc (Nat.le_refl _) _
  have K7 : Hid (Bxs W7 w6.heap.size 32 #[.slice (some ⟨g6, 0, none⟩) rs.length rs.length, .slice (some ⟨l6, 0, none⟩) lv.length lv.length, .int .i64 now]) := by rw [hW7]; exact Bxs.new _ _ _
  have OW7 : Hid (W7.ownsRow w.heap.size 9 1 vw R.length (strRow R)) := ownS_below OW6.out b67
  have HB7 : Hid (LgB W7 g6 xs6 l6 lv) := hB6.below b67
  have HSq : Hid (∀ j, lgS g6 xs6 l6 j → w4.heap.size ≤ j ∧ j < w6.heap.size) := fun j hj => by have := lgS_from hB6 hj; omega
  have H67 : Hid (w6.heap.size < W7.heap.size) := K7.out.lt
  have H4w : Hid (w.heap.size < w4.heap.size) := K4.out.lt
  have KA7 : Hid (Bxs W7 w.heap.size 25 #[.slice q rs.length cq, .slice p lv.length cp, .int .i64 now]) := (K4.out.below b6).below b67
  have B7 : Hid (Below w.heap.size w W7) := chainB (chainB HB4.out b6) b67
  have HX6 : Hid (xs6.map (·.1) = rs) := hx6
  have hI := HI.out g6 l6 xs6 W7 hx6 HB7.out B7.out
  obtain ⟨y0, y1, y2⟩ := K7.out.three
  rw [HW7.out] at y0 y1 y2
  clear hW7 b67 hB6 b6 hx6 hg6 K4 HB4 OW4 OW6
  go_wp2_with fail
  rw [← HW7.out]
  refine hI.mono ?_
  rintro e w7 ⟨vg, rfl, oG, b7⟩
  clear hI y0 y1 y2 HW7
  have OG7 : Hid (w7.ownsRow W7.heap.size 9 1 vg R.length (strRow R)) := oG
  have OX7 : Hid (w7.ownsRow w.heap.size 9 1 vw R.length (strRow R)) := ownS_below OW7.out b7
  clear oG OW7
  obtain ⟨pg, cg, rfl, hcg, tg7⟩ := ownS_form OG7.out
  obtain ⟨pw, cw, rfl, hcw, tw7⟩ := ownS_form OX7.out
  have q7 := eq_any pg pw cg cw R R w7 tg7 tw7 (by omega) (by omega) hcg hcw
  rw [decide_eq_true rfl] at q7
  clear tg7 tw7
  go_wp2_with fail
  refine q7.mono ?_
  rintro e w8 ⟨rfl, b8'⟩
  have b8 : Below W7.heap.size W7 w8 := chainB b7 b8'
  have OG8 : Hid (w8.ownsRow W7.heap.size 9 1 (.slice pg R.length cg) R.length (strRow R)) := ownS_below OG7.out b8'
  have OW8 : Hid (w8.ownsRow w.heap.size 9 1 (.slice pw R.length cw) R.length (strRow R)) := ownS_below OX7.out b8'
  have K8 : Hid (Bxs w8 w6.heap.size 32 #[.slice (some ⟨g6, 0, none⟩) rs.length rs.length, .slice (some ⟨l6, 0, none⟩) lv.length lv.length, .int .i64 now]) := K7.out.below b8
  have KA8 : Hid (Bxs w8 w.heap.size 25 #[.slice q rs.length cq, .slice p lv.length cp, .int .i64 now]) := KA7.out.below b8
  have HL8 : Hid (LgB w8 g6 xs6 l6 lv) := HB7.out.below b8
  have HB8 : Hid (Below w.heap.size w w8) := chainB B7.out b8
  have HX : Hid (∀ x, Below w8.heap.size w8 x → (x.cell? ⟨w.heap.size, 0, none⟩ = some (.slice q rs.length cq) ∧ x.cell? ⟨w.heap.size, 1, none⟩ = some (.slice p lv.length cp) ∧ x.cell? ⟨w.heap.size, 2, none⟩ = some (.int .i64 now)) ∧ x.cell? ⟨w6.heap.size, 0, none⟩ = some (.slice (some ⟨g6, 0, none⟩) rs.length rs.length) ∧ x.cell? ⟨w6.heap.size, 1, none⟩ = some (.slice (some ⟨l6, 0, none⟩) lv.length lv.length) ∧ x.cell? ⟨w6.heap.size, 2, none⟩ = some (.int .i64 now)) := fun x hb => ⟨(KA8.out.below hb).three, (K8.out.below hb).three⟩
  have HEq : Hid (∀ x, Below w8.heap.size w8 x → ∀ g gl xs, xs.map (·.1) = rs → LgB x g xs gl lv → Calls Tryz.prog 11 #[.agg #[.slice (some ⟨g6, 0, none⟩) rs.length rs.length, .slice (some ⟨l6, 0, none⟩) lv.length lv.length, .int .i64 now], .agg #[.slice (some ⟨g, 0, none⟩) rs.length rs.length, .slice (some ⟨gl, 0, none⟩) lv.length lv.length, .int .i64 now]] x fun e w' => e = .returned (.bool true) ∧ Below x.heap.size x w') := fun x hb g gl xs hx hB => eqLog_any (some ⟨g6, 0, none⟩) (some ⟨g, 0, none⟩) rs.length rs.length rs (some ⟨l6, 0, none⟩) (some ⟨gl, 0, none⟩) lv.length lv.length lv now x (by have := (HL8.out.below hb).rw.at; rwa [HX6.out] at this) (by have := hB.rw.at; rwa [hx] at this) hrn (Nat.le_refl _) (Nat.le_refl _) HRF2.out (HL8.out.below hb).lf.txt hB.lf.txt hln (Nat.le_refl _) (Nat.le_refl _)
  have HMk : Hid (∀ x, LgB x g6 xs6 l6 lv → Calls Tryz.prog 12 #[.agg #[.slice (some ⟨g6, 0, none⟩) rs.length rs.length, .slice (some ⟨l6, 0, none⟩) lv.length lv.length, .int .i64 now], .int .i64 1] x fun e w' => (∃ r : Nat, e = .returned (.int .i64 (r : Int))) ∧ But (lgS g6 xs6 l6) x w') := fun x hB => by
    have hs := HSum.out
    have hxl : xs6.length = rs.length := by have := congrArg List.length HX6.out; simpa using this
    have := markLog_any g6 xs6 l6 lv now 1 x hB (Nat.le_refl _) (by omega) hln (by rw [HX6.out]; omega)
    rwa [hxl] at this
  clear b8 b8' b7 K7 KA7 B7 HB7 q7 OG7 OX7
  go_upto_region 10 with fail
  refine wp_region_held_drew (S := (fun w' => (w'.cell? ⟨w.heap.size, 0, none⟩ = some (.slice q rs.length cq) ∧ w'.cell? ⟨w.heap.size, 1, none⟩ = some (.slice p lv.length cp) ∧ w'.cell? ⟨w.heap.size, 2, none⟩ = some (.int .i64 now)) ∧ w'.cell? ⟨w6.heap.size, 0, none⟩ = some (.slice (some ⟨g6, 0, none⟩) rs.length rs.length) ∧ w'.cell? ⟨w6.heap.size, 1, none⟩ = some (.slice (some ⟨l6, 0, none⟩) lv.length lv.length) ∧ w'.cell? ⟨w6.heap.size, 2, none⟩ = some (.int .i64 now))) (by kernel_rfl) (HX.out _ (Below.refl _ _).drew) (fun hHeld => ?_)
  refine take_at 0 (v := ?_) rfl (by kernel_rfl) (by kernel_rfl) (by kernel_rfl) (fun _ _ _ h => h) hHeld (Or.inl ⟨by rfl, ?_⟩) ?_
  rotate_left
  · (intro w hSw; (try dsimp only at hSw); go_simp; try with_reducible rfl)
  simp only [Act.put, List.setIfInBounds_toArray, List.set_cons_zero, List.set_cons_succ]
  refine take_at 1 (v := ?_) rfl (by kernel_rfl) (by kernel_rfl) (by kernel_rfl) (fun _ _ _ h => h) hHeld (Or.inl ⟨by rfl, ?_⟩) ?_
  rotate_left
  · (intro w hSw; (try dsimp only at hSw); go_simp; try with_reducible rfl)
  simp only [Act.put, List.setIfInBounds_toArray, List.set_cons_zero, List.set_cons_succ]
  refine ready_at 2 rfl (by kernel_rfl) (fun K hK => ?_)
  go_simp
  (go_at_call 8; with_reducible refine (HTo.out _ (chainB HB8.out (Below.refl _ _).drew)).mono ?_; rintro e z1 ⟨g9, l9, xs9, hx9, hg9, rfl, hB9, bz1⟩; have by1 : Below w8.heap.size w8 z1 := chainB (Below.refl _ _).drew bz1)
  refine hK.out _ _ (HX.out _ by1) (fun hHeld => ?_)
  clear hK K
  try simp only [Act.put, List.setIfInBounds_toArray, List.set_cons_zero, List.set_cons_succ]
  refine ready_at 3 rfl (by kernel_rfl) (fun K hK => ?_)
  go_simp
  (go_at_call 11; with_reducible refine (HEq.out z1 by1 g9 l9 xs9 hx9 hB9).mono ?_; rintro e z2 ⟨rfl, bz2⟩; have by2 : Below w8.heap.size w8 z2 := chainB by1 bz2)
  refine hK.out _ _ (HX.out _ by2) (fun hHeld => ?_)
  clear hK K
  try simp only [Act.put, List.setIfInBounds_toArray, List.set_cons_zero, List.set_cons_succ]
  refine take_at 4 (v := ?_) rfl (by kernel_rfl) (by kernel_rfl) (by kernel_rfl) (fun _ _ _ h => h) hHeld (Or.inl ⟨by rfl, ?_⟩) ?_
  rotate_left
  · (intro w hSw; (try dsimp only at hSw); go_simp; try with_reducible rfl)
  simp only [Act.put, List.setIfInBounds_toArray, List.set_cons_zero, List.set_cons_succ]
  refine wpAnyH_done (by kernel_rfl) ?_ _
  have OG9 : Hid (z2.ownsRow W7.heap.size 9 1 (.slice pg R.length cg) R.length (strRow R)) := ownS_below OG8.out by2
  have OW9 : Hid (z2.ownsRow w.heap.size 9 1 (.slice pw R.length cw) R.length (strRow R)) := ownS_below OW8.out by2
  obtain ⟨y0, y1, y2⟩ := (K8.out.below by2).three
  have hM := HMk.out z2 (HL8.out.below by2)
  have HB9 : Hid (Below w.heap.size w z2) := chainB HB8.out by2
  have KA9 : Hid (Bxs z2 w.heap.size 25 #[.slice q rs.length cq, .slice p lv.length cp, .int .i64 now]) := KA8.out.below by2
  have hz28 := by2.size
  clear by2 by1 bz1 bz2 hB9 hx9 hg9 HX HEq HMk OG8 OW8 KA8 HB8
  go_wp2_with fail
  refine hM.mono ?_
  rintro e w9 ⟨⟨k9, rfl⟩, but9⟩
  have OG10 : Hid (w9.ownsRow W7.heap.size 9 1 (.slice pg R.length cg) R.length (strRow R)) := ownS_but OG9.out but9 (fun j hj hs => by have := (OG9.out.lt j hj).1; have := (HSq.out j hs).2; have := H67.out; omega)
  have OW10 : Hid (w9.ownsRow w.heap.size 9 1 (.slice pw R.length cw) R.length (strRow R)) := ownS_but OW9.out but9 (fun j hj hs => by have := HW4.out j hj; have := (HSq.out j hs).1; omega)
  have KA10 : Hid (Bxs w9 w.heap.size 25 #[.slice q rs.length cq, .slice p lv.length cp, .int .i64 now]) := KA9.out.but but9 (fun hs => by have := (HSq.out _ hs).1; have := H4w.out; omega)
  have HB10 : Hid (Below w.heap.size w w9) := But.below HB9.out HB9.out.size but9 (fun j hs => by have := (HSq.out j hs).1; have := H4w.out; omega)
  clear hM but9 y0 y1 y2 OG9 OW9 KA9 HB9 K8 HL8
  obtain ⟨pg', cg', hvg, hcg', tg9⟩ := ownS_form OG10.out
  obtain ⟨pw', cw', hvw, hcw', tw9⟩ := ownS_form OW10.out
  cases hvg
  cases hvw
  have q9 := eq_any pg pw cg cw R R w9 tg9 tw9 (by omega) (by omega) hcg hcw
  rw [decide_eq_true rfl] at q9
  clear tg9 tw9
  have d9 : decide ((k9 : Int) < 0) = false := decide_eq_false (by omega)
  go_wp2_with fail
  refine q9.mono ?_
  rintro e w10 ⟨rfl, b10⟩
  have OG11 : Hid (w10.ownsRow W7.heap.size 9 1 (.slice pg R.length cg) R.length (strRow R)) := ownS_below OG10.out b10
  have OW11 : Hid (w10.ownsRow w.heap.size 9 1 (.slice pw R.length cw) R.length (strRow R)) := ownS_below OW10.out b10
  have KA11 : Hid (Bxs w10 w.heap.size 25 #[.slice q rs.length cq, .slice p lv.length cp, .int .i64 now]) := KA10.out.below b10
  have HB11 : Hid (Below w.heap.size w w10) := chainB HB10.out b10
  have h7w : w4.heap.size ≤ W7.heap.size := by
    have := (HSq.out g6 (.inl rfl)); have := H67.out; omega
  clear q9 b10 OG10 OW10 KA10 HB10 d9
  go_wp2_with fail
  refine (mark_any W7.heap.size _ R w10 OG11.out (by omega)).mono ?_
  rintro e w11 ⟨rfl, oG11, hg11⟩
  have hML : (marksL R.length).length = R.length := by simp [marksL]
  have OG12 : Hid (w11.ownsRow W7.heap.size 9 1 (.slice pg R.length cg) (marksL R.length).length (strRow (marksL R.length))) := by rw [hML]; exact oG11
  have HGe : ∀ j, (Value.slice pg R.length cg).ownBlock = some j → W7.heap.size ≤ j := fun j hj => (OG11.out.lt j hj).1
  have OW12 : Hid (w11.ownsRow w.heap.size 9 1 (.slice pw R.length cw) R.length (strRow R)) := OW11.out.kept hg11 (by
    by_cases h0 : (Value.slice pw R.length cw).ownBlock = none
    · exact .inl h0
    · refine .inr fun h => ?_
      cases hb0 : (Value.slice pw R.length cw).ownBlock with
      | none => exact h0 hb0
      | some j =>
        have h8 := HW4.out j hb0
        have h9 := HGe j (by rw [← h, hb0])
        omega)
  have H4 := H4w.out
  have KA12 : Hid (Bxs w11 w.heap.size 25 #[.slice q rs.length cq, .slice p lv.length cp, .int .i64 now]) := KA11.out.grown hg11 (fun e => by have := HGe _ e.symm; omega)
  have HB12 : Hid (Below w.heap.size w w11) := HB11.out.grown hg11 HB11.out.size (fun j hj => by have := HGe j hj; omega)
  clear oG11 hg11 OG11 OW11 KA11 HB11 HGe
  obtain ⟨pg', cg', hvg, hcg2, tg11⟩ := ownS_form OG12.out
  rw [hML] at hvg
  cases hvg
  go_wp2_with fail
  refine (held_any pg cg R.length w11 tg11 (by omega) hcg).mono ?_
  rintro e w12 ⟨rfl, b12⟩
  have OG13 : Hid (w12.ownsRow W7.heap.size 9 1 (.slice pg R.length cg) (marksL R.length).length (strRow (marksL R.length))) := ownS_below OG12.out b12
  have OW13 : Hid (w12.ownsRow w.heap.size 9 1 (.slice pw R.length cw) R.length (strRow R)) := ownS_below OW12.out b12
  have KA13 : Hid (Bxs w12 w.heap.size 25 #[.slice q rs.length cq, .slice p lv.length cp, .int .i64 now]) := KA12.out.below b12
  have HB13 : Hid (Below w.heap.size w w12) := chainB HB12.out b12
  obtain ⟨x0, x1, x2⟩ := KA13.out.three
  have hTo3 := HTo.out w12 HB13.out
  clear tg11 b12 OG12 OW12 KA12 HB12 HTo
  go_wp2_with fail
  refine hTo3.mono ?_
  rintro e w13 ⟨g13, l13, xs13, hx13, hg13, rfl, hB13, b13⟩
  have OG14 : Hid (w13.ownsRow W7.heap.size 9 1 (.slice pg R.length cg) (marksL R.length).length (strRow (marksL R.length))) := ownS_below OG13.out b13
  have OW14 : Hid (w13.ownsRow w.heap.size 9 1 (.slice pw R.length cw) R.length (strRow R)) := ownS_below OW13.out b13
  have HB14 : Hid (Below w.heap.size w w13) := chainB HB13.out b13
  have hI2 := HI.out g13 l13 xs13 w13 hx13 hB13 HB14.out
  clear hTo3 x0 x1 x2 hB13 hx13 hg13 b13 OG13 OW13 KA13 HB13 HI
  go_wp2_with fail
  refine hI2.mono ?_
  rintro e w14 ⟨vh, rfl, oH, b14⟩
  have OG15 : Hid (w14.ownsRow W7.heap.size 9 1 (.slice pg R.length cg) (marksL R.length).length (strRow (marksL R.length))) := ownS_below OG14.out b14
  have OW15 : Hid (w14.ownsRow w.heap.size 9 1 (.slice pw R.length cw) R.length (strRow R)) := ownS_below OW14.out b14
  have HB15 : Hid (Below w.heap.size w w14) := chainB HB14.out b14
  obtain ⟨ph, ch, rfl, hch, th14⟩ := ownS_form oH
  obtain ⟨pw', cw', hvw, hcw2, tw14⟩ := ownS_form OW15.out
  cases hvw
  have q14 := eq_any ph pw ch cw R R w14 th14 tw14 (by omega) (by omega) hch hcw
  rw [decide_eq_true rfl] at q14
  clear th14 tw14 oH hI2 b14 OG14 OW14 HB14
  go_wp2_with fail
  refine q14.mono ?_
  rintro e w15 ⟨rfl, b15⟩
  have OG16 : Hid (w15.ownsRow W7.heap.size 9 1 (.slice pg R.length cg) (marksL R.length).length (strRow (marksL R.length))) := ownS_below OG15.out b15
  have HB16 : Hid (Below w.heap.size w w15) := chainB HB15.out b15
  clear q14 b15 OG15 OW15 HB15
  obtain ⟨pg', cg', hvg, hcg3, tg15⟩ := ownS_form OG16.out
  rw [hML] at hvg
  cases hvg
  go_wp2_with fail
  refine (held_any pg cg R.length w15 tg15 (by omega) hcg).mono ?_
  rintro e w16 ⟨rfl, b16⟩
  have b16 := chainB HB16.out b16
  clear tg15
  go_wp2_with fail
  go_ret
  exact ⟨rfl, b16⟩

theorem contract (H : Type) (enc : TypeId × Value → H) (W : World) (base : Nat) (args : Array Value) (ds gs : List (DataW H)) (before : List MemPlace)
    (hval : ∀ (j : Nat) t v, Tryz.f5.params[j]? = some t → args[j]? = some v → Value.okWide Tryz.prog W .any base t v)
    (hW : DataW.Whole enc Tryz.prog Tryz.f5.params.toList Rows.fnExactExtendSpec.vars false W args.toList ds gs before) (hL : laidMetH Tryz.prog Rows.fnExactExtendRow.laid W) :
    Calls Tryz.prog 5 args W fun e W' => ∃ v, e = .returned v ∧ Rows.fnExactExtendSpec.post enc Tryz.prog Tryz.f5 false true false false W args v W' := by
  have hW' := hW
  obtain ⟨p, q, hA0, hV, rfl, hfz, hnd⟩ := hW
  have hA : DataW.TrodAll enc Tryz.prog W 0 (fun _ => true) true Tryz.f5.params.toList args.toList ds p := hA0
  rw [Tryz.params5] at hA hval
  obtain ⟨v0, vs0, d0, ds0, p0, q0, hargs, rfl, rfl, h0, r0⟩ := trodAll_cons hA
  obtain ⟨v1, vs1, d1, ds1, p1, q1, rfl, rfl, rfl, h1, r1⟩ := trodAll_cons r0
  obtain ⟨rfl, rfl, rfl⟩ := trodAll_nil r1
  obtain rfl : args = #[v0, v1] := by cases args; simp_all
  have hV2 : DataW.TrodVars enc Tryz.prog W (fun _ => true) ["loop.example/g00633/impl.firstState", "loop.example/g00633/impl.roundNums"] gs q := hV
  obtain ⟨_, _, _, _, e0, _, _, _, _, _, e1, _, rfl, _⟩ := trodVars_two hV2
  have k0 := h0
  have lt0 : ∀ x ∈ p0, x.block < W.heap.size := by obtain ⟨m, hm⟩ := k0; exact DataW.trod_lt m _ _ _ hm
  obtain ⟨q0, cq0, rs0, pp0, cp0, lv0, now0, rfl, w0⟩ := open_log (hval 0 25 v0 rfl rfl) h0
  obtain ⟨a1, rfl, rfl, rfl, w1⟩ := open_int Tryz.underlying2 (hval 1 2 v1 rfl rfl) h1
  clear hA0
  obtain ⟨hT, hLd⟩ := laid3_of hL
  refine (walk q0 cq0 rs0 pp0 cp0 lv0 now0 a1 W w0 w1 hT hLd).mono fun e W' ⟨he, hg⟩ => ?_
  subst he
  exact ⟨_, rfl, _, _, _, [], _, _, hW', (trodAll_cons_mk (shut_bool Tryz.underlying4 _) trodAll_mk0), (trodAll_cons_mk (Below.trod laidOut (by kernel_rfl) (of_decide_eq_true (by kernel_rfl)) k0 hg lt0) (trodAll_cons_mk (shut_int Tryz.underlying2 w1) trodAll_mk0)), Below.trodVars laidOut hg (by kernel_rfl) hV, hg.frame _, fun h => by cases h⟩

/-- A start in which the listed variables lie as the program's text lays them: what the door's own run leaves. -/
noncomputable def wit (os : Os) : World := World.doorLaid Tryz.prog 26 os
theorem laid_met (os : Os) : laidMetH Tryz.prog Rows.fnExactExtendRow.laid ((wit os).forCall (fun _ _ => 0) ⟨#[], #[.agg #[.slice none 0 0, .slice none 0 0, .int .i64 0], .int .i64 0], []⟩).memory :=
  laidMetH_of_parts3 (fuel := 8) (laidMet_of_run' 8 (by kernel_rfl) (by kernel_rfl)) (by kernel_rfl) (by kernel_rfl)
theorem reads (os : Os) {H : Type} (enc : TypeId × Value → H) : ∃ gs places, DataW.whole enc Tryz.prog ((wit os).forCall (fun _ _ => 0) ⟨#[], #[.agg #[.slice none 0 0, .slice none 0 0, .int .i64 0], .int .i64 0], []⟩).memory Tryz.f5.params.toList Rows.fnExactExtendSpec.vars false #[Value.agg #[.slice none 0 0, .slice none 0 0, .int .i64 0], Value.int .i64 0].toList 8 = some ([.agg [.nil, .nil, .lit (.int .i64 0)], .lit (.int .i64 0)], gs, places) := by
  have h : (DataW.whole enc Tryz.prog ((wit os).forCall (fun _ _ => 0) ⟨#[], #[.agg #[.slice none 0 0, .slice none 0 0, .int .i64 0], .int .i64 0], []⟩).memory Tryz.f5.params.toList Rows.fnExactExtendSpec.vars false #[Value.agg #[.slice none 0 0, .slice none 0 0, .int .i64 0], Value.int .i64 0].toList 8).map (fun x => x.1) = some [.agg [.nil, .nil, .lit (.int .i64 0)], .lit (.int .i64 0)] := by kernel_rfl
  obtain ⟨⟨a, b, c⟩, hx, hy⟩ := Option.map_eq_some_iff.1 h
  cases hy
  exact ⟨b, c, hx⟩

set_option maxRecDepth 100000 in
theorem lifted (os : Os) (started : os.Started) (H : Type) (enc : TypeId × Value → H) (F : Stop.Interp) :
    ReturnsInHanded {} Tryz.checked os 5 .any ((OpenSpec.ofChange Rows.fnExactExtendSpec).preRow enc Tryz.prog Tryz.f5 Rows.fnExactExtendRow.domain false Rows.fnExactExtendRow.laid) (((OpenSpec.ofChange Rows.fnExactExtendSpec).at F).post enc Tryz.prog Tryz.f5 false true false false) := by
  obtain ⟨gs, places, hx⟩ := reads os enc
  refine returnsInHanded_of_row (C := Tryz.checked) (s := OpenSpec.ofChange Rows.fnExactExtendSpec) own started (by kernel_rfl) Tryz.func5
    (witness_row_at (enc := enc) (C := Tryz.checked) false (wit os) #[.agg #[.slice none 0 0, .slice none 0 0, .int .i64 0], .int .i64 0] rfl (by kernel_rfl) (by kernel_rfl) (by kernel_rfl)
      (OpenSpec.preRow_of_cond 8 hx rfl (fun k hk => by cases hk) (by kernel_rfl) (laid_met os))) ?_
  intro W base args ds gs before hval hW _ _ _ hL _ _
  exact contract H enc W base args ds gs before hval hW hL

theorem said : Rows.FnExactExtendSaid :=
  OpenClaim.holds_of_cond 5 Tryz.f5 rfl rfl rfl rfl rfl rfl rfl ⟨rfl, rfl, rfl, rfl, rfl⟩ rfl rfl rfl rfl rfl (by kernel_rfl) Tryz.func5 (by kernel_rfl)
    (of_decide_eq_true (by kernel_rfl)) (by unfold Func.isWrapper; first | (rw [if_pos (by decide +kernel)]; kernel_rfl) | (rw [if_neg (by decide +kernel)]; exact ⟨rfl, rfl⟩))
    (fun os started H enc _ F => by rw [OpenClaim.pre_eq_preRow]; exact lifted os started H enc F)

theorem plain (f : FuncId) (fn : Func) (hf : Tryz.pinned.checked.prog.funcNamed "loop.example/g00633/laws.FnExactExtend" = some f) (hfn : Tryz.pinned.checked.prog.funcs[f]? = some fn) :
    Rows.fnExactExtendCard.stood.looks = Tryz.pinned.checked.prog.looks [] ∧ ∀ (j : Nat) t, fn.params[j]? = some t → Tryz.pinned.checked.prog.wantsStandIn t = false := by
  obtain rfl : f = 5 := Option.some.inj ((show Tryz.prog.funcNamed "loop.example/g00633/laws.FnExactExtend" = some 5 by kernel_rfl).symm.trans hf) |>.symm
  obtain rfl : fn = Tryz.f5 := (Option.some.inj (Tryz.func5.symm.trans hfn)).symm
  refine ⟨by kernel_rfl, fun j t ht => ?_⟩
  rw [Tryz.params5] at ht
  have hm := Array.mem_of_getElem? ht
  have hl : t ∈ ([25, 2] : List TypeId) := by simpa using hm
  simp only [List.mem_cons, List.not_mem_nil, or_false] at hl
  rcases hl with rfl | rfl
  · exact (show Tryz.prog.wantsStandIn 25 = false by kernel_rfl)
  · exact (show Tryz.prog.wantsStandIn 2 = false by kernel_rfl)

theorem proved : Rows.FnExactExtendCardSaid :=
  Claim7.holds_tied_plain_at .later [] _ _ _ _ said (fun _ h => by cases h) (by kernel_rfl) (fun _ h => by cases h) fnExactExtend_row_tie rfl ⟨rfl, rfl⟩ (by kernel_rfl) rfl plain (by kernel_rfl)
#print axioms proved
end Go.Proofs.YtnaonldkbaapeacGreatDoor.fnExactExtend
