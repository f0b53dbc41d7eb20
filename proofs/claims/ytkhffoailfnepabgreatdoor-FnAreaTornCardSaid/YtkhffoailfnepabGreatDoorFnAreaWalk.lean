/-
  The law FnArea returns true at every two codes of at most 2^20 bytes: a text that is put to a drawn disk with all steps is read again, of the next number; one that has no room is refused; a disk that was formatted has no text.
-/
import Derived.Test.YtkhffoailfnepabGreatDoorRows
import Derived.Test.YtkhffoailfnepabGreatDoorBytesDigMath
import Derived.Test.YtkhffoailfnepabGreatDoorSlASlBOwnSOwnBSrc
import Derived.Test.YtkhffoailfnepabGreatDoorDrawsDrawKitDskMath
import Derived.Test.YtkhffoailfnepabGreatDoorDskRAppSStepAppDskA
import Derived.Test.YtkhffoailfnepabGreatDoorDskSDskCDskT
import Derived.Test.YtkhffoailfnepabGreatDoorDskW
import Derived.Test.YtkhffoailfnepabGreatDoorDskFDskK
import Derived.Test.YtkhffoailfnepabGreatDoorDskLawLawSLawSGLawP
import Derived.Test.YtkhffoailfnepabGreatDoorLawDLwDskLwArLawIPutMathPutNum
import Derived.Test.YtkhffoailfnepabGreatDoorFourSealAreaAAreaF
import Derived.Test.YtkhffoailfnepabGreatDoorAreaFm
import Derived.Test.YtkhffoailfnepabGreatDoorGetTextITextMathAreaMath
import Derived.Test.YtkhffoailfnepabGreatDoorStpMathAreaPutMUnsealSSpecGN
import Derived.Test.YtkhffoailfnepabGreatDoorAreaSeen
import Derived.Test.YtkhffoailfnepabGreatDoorAreaRd
import Derived.Test.YtkhffoailfnepabGreatDoorAreaPt
import Derived.Test.YtkhffoailfnepabGreatDoorAreaLaw
import Derived.Test.YtkhffoailfnepabGreatDoorPuLeImplDRImplAACopied
import Derived.Test.YtkhffoailfnepabGreatDoorImplAFIsEImplACErrI
import Derived.Test.YtkhffoailfnepabGreatDoorImplARImplTSImplNx
import Derived.Test.YtkhffoailfnepabGreatDoorImplPu
import Derived.Test.YtkhffoailfnepabGreatDoorImplCrashSomeLawDGDrawDsk
import Derived.Test.YtkhffoailfnepabGreatDoorDrawDskF
import Derived.Test.YtkhffoailfnepabGreatDoorDrawDskG
import Derived.Test.YtkhffoailfnepabGreatDoorDrawKeepDrawDisksDrawArFSpoilT
import Derived.Test.YtkhffoailfnepabGreatDoorDrawAr
import Derived.Test.YtkhffoailfnepabGreatDoorDrawAreas
import Derived.Handy
import Derived.WalkSpells
import Derived.OwnWalk
import Derived.Deep.RegionWith
import Derived.Deep.RegionHeld3
import Derived.Deep.Cut
import Derived.Deep.CutRange
namespace Go.Proofs.YtkhffoailfnepabGreatDoor
open Go.RowKit Go.Lib
set_option linter.unusedVariables false
set_option maxRecDepth 20000

theorem arS_len (ss : List ByteArray) (ps : List Pnd) (h : ss.length ≤ 64) : (arS ss ps).length ≤ 64 := by unfold arS; split; exact h; simp
theorem arP_len (ss : List ByteArray) (ps : List Pnd) (h : ps.length ≤ 300) : (arP ss ps).length ≤ 300 := by unfold arP; split; exact h; simp
theorem puS_len (ss : List ByteArray) (ps : List Pnd) (t : ByteArray) (k : Int) : (puS ss ps t k).length ≤ 64 := by
  by_cases h : puC ss ps t k = 0
  · have := (dskB_parts (pu_right h)).1; omega
  · rw [(pu_ill h).1]; simp
theorem puP_len (ss : List ByteArray) (ps : List Pnd) (t : ByteArray) (k : Int) : (puP ss ps t k).length ≤ 300 := by
  by_cases h : puC ss ps t k = 0
  · have := (dskB_parts (pu_right h)).2.1; omega
  · rw [(pu_ill h).2]; simp
theorem fmS_len (ss : List ByteArray) (ps : List Pnd) (h : ss.length ≤ 64) : (fmS ss ps).length ≤ 64 := by unfold fmS; split; rw [flushB_len]; exact h; simp
theorem toL_eq (a b : ByteArray) (h : a = b) : (a.toList == b.toList) = true := by rw [h]; simp
set_option maxHeartbeats 32000000 in
theorem fnArea_any (a0 : Option Addr) (len0 cap0 : Nat) (a1 : Option Addr) (len1 cap1 : Nat) (w : World) (hl0 : len0 ≤ 1048576) (hl1 : len1 ≤ 1048576) (c0 : CodeAt w.heap.size a0 len0 w) (c1 : CodeAt w.heap.size a1 len1 w) (ea eb ec ed : Addr) (hSn : Sents ea eb ec ed w) (hLd : Laid w) :
    Calls Tryz.prog 3 #[.slice a0 len0 cap0, .slice a1 len1 cap1] w fun e w' => e = .returned (.bool true) ∧ Below w.heap.size w w' := by
  have C0 : Hid (CodeAt w.heap.size a0 len0 w) := c0
  have C1 : Hid (CodeAt w.heap.size a1 len1 w) := c1
  have HSn : Hid (Sents ea eb ec ed w) := hSn
  have HLd : Hid (Laid w) := hLd
  have z0 : decide (1048576 < (len0 : Int)) = false := decide_eq_false (by omega)
  have z1 : decide (1048576 < (len1 : Int)) = false := decide_eq_false (by omega)
  clear c0 c1 hSn hLd
  go_enter Tryz.func3, Tryz.ntmps3
  go_wp2_with fail
  refine (drawAPut_any w.heap.size a0 len0 cap0 w hl0 (Nat.le_refl _) C0.out).mono ?_
  rintro e w1 ⟨⟨dq1, dc1, dq2, dc2, ds, dp, tx, st, rfl, d1, d2, dm1, dm2, htx, hdS⟩, bw1⟩
  have d1 : Hid (TxtAt w1 dq1 ds) := d1
  have d2 : Hid (PndAt w1 dq2 dp) := d2
  have ld1 := hdS.l1
  have ld2 := hdS.l2
  have HdS : Hid (SmallD ds dp) := hdS
  have sw1 : Hid (Below w.heap.size w w1) := bw1
  clear hdS bw1
  obtain ⟨W2, hW2⟩ : ∃ W2, W2 = w1.alloc (.cells #[.slice dq1 ds.length dc1, .slice dq2 dp.length dc2] 26) := ⟨_, rfl⟩
  have HW2 : Hid (W2 = w1.alloc (.cells #[.slice dq1 ds.length dc1, .slice dq2 dp.length dc2] 26)) := hW2
  have sW2 : Hid (Below w1.heap.size w1 W2) := by rw [hW2]; exact (Below.refl _ _).alloc (Nat.le_refl _) _
  have Kd : Hid (Bxs W2 w1.heap.size 26 #[.slice dq1 ds.length dc1, .slice dq2 dp.length dc2]) := by rw [hW2]; exact Bxs.new _ _ _
  have BW2 : Hid (Below w.heap.size w W2) := (chainB sw1.out sW2.out)
  have hzW2 := BW2.out.size
  clear hW2
  go_wp2_with fail
  rw [← HW2.out]
  refine (drawAFormat_any w.heap.size a1 len1 cap1 W2 hl1 hzW2 (C1.out.below BW2.out)).mono ?_
  rintro e w3 ⟨⟨fq1, fc1, fq2, fc2, fs, fp, rfl, f1, f2, fm1, fm2, hfS⟩, bw3⟩
  have f1 : Hid (TxtAt w3 fq1 fs) := f1
  have f2 : Hid (PndAt w3 fq2 fp) := f2
  have lf1 := hfS.l1
  have lf2 := hfS.l2
  have HfS : Hid (SmallD fs fp) := hfS
  have sw3 : Hid (Below W2.heap.size W2 w3) := bw3
  clear hfS bw3 hzW2
  obtain ⟨W4, hW4⟩ : ∃ W4, W4 = w3.alloc (.cells #[.slice fq1 fs.length fc1, .slice fq2 fp.length fc2] 26) := ⟨_, rfl⟩
  have HW4 : Hid (W4 = w3.alloc (.cells #[.slice fq1 fs.length fc1, .slice fq2 fp.length fc2] 26)) := hW4
  have sW4 : Hid (Below w3.heap.size w3 W4) := by rw [hW4]; exact (Below.refl _ _).alloc (Nat.le_refl _) _
  have Kf : Hid (Bxs W4 w3.heap.size 26 #[.slice fq1 fs.length fc1, .slice fq2 fp.length fc2]) := by rw [hW4]; exact Bxs.new _ _ _
  have BW4 : Hid (Below w.heap.size w W4) := (chainB (chainB (chainB sw1.out sW2.out) sw3.out) sW4.out)
  have hzW4 := BW4.out.size
  clear hW4
  go_wp2_with fail
  rw [← HW4.out]
  refine (drawARead_any w.heap.size a1 len1 cap1 W4 hl1 hzW4 (C1.out.below BW4.out)).mono ?_
  rintro e w5 ⟨⟨rq1, rc1, rq2, rc2, rs, rp, rfl, r1, r2, rm1, rm2, hrS⟩, bw5⟩
  have r1 : Hid (TxtAt w5 rq1 rs) := r1
  have r2 : Hid (PndAt w5 rq2 rp) := r2
  have lr1 := hrS.l1
  have lr2 := hrS.l2
  have HrS : Hid (SmallD rs rp) := hrS
  have sw5 : Hid (Below W4.heap.size W4 w5) := bw5
  clear hrS bw5 hzW4
  obtain ⟨W6, hW6⟩ : ∃ W6, W6 = w5.alloc (.cells #[.slice rq1 rs.length rc1, .slice rq2 rp.length rc2] 26) := ⟨_, rfl⟩
  have HW6 : Hid (W6 = w5.alloc (.cells #[.slice rq1 rs.length rc1, .slice rq2 rp.length rc2] 26)) := hW6
  have sW6 : Hid (Below w5.heap.size w5 W6) := by rw [hW6]; exact (Below.refl _ _).alloc (Nat.le_refl _) _
  have Kr : Hid (Bxs W6 w5.heap.size 26 #[.slice rq1 rs.length rc1, .slice rq2 rp.length rc2]) := by rw [hW6]; exact Bxs.new _ _ _
  have hcX := implAreaRead_any dq1 dc1 ds dq2 dc2 dp ea eb ec ed W6 (d1.out.below (chainB (chainB (chainB (chainB sW2.out sw3.out) sW4.out) sw5.out) sW6.out)) (d2.out.below (chainB (chainB (chainB (chainB sW2.out sw3.out) sW4.out) sw5.out) sW6.out)) (by omega) (by omega) dm1 dm2 (HSn.out.below (chainB (chainB (chainB (chainB (chainB sw1.out sW2.out) sw3.out) sW4.out) sw5.out) sW6.out)) (HLd.out.below (chainB (chainB (chainB (chainB (chainB sw1.out sW2.out) sw3.out) sW4.out) sw5.out) sW6.out))
  obtain ⟨XS, hXS⟩ : ∃ XS, XS = arS ds dp := ⟨_, rfl⟩
  obtain ⟨XP, hXP⟩ : ∃ XP, XP = arP ds dp := ⟨_, rfl⟩
  obtain ⟨XC, hXC⟩ : ∃ XC, XC = arC ds dp := ⟨_, rfl⟩
  obtain ⟨XT, hXT⟩ : ∃ XT, XT = arT ds dp := ⟨_, rfl⟩
  obtain ⟨XG, hXG⟩ : ∃ XG, XG = ((arG ds dp : Nat) : Int) := ⟨_, rfl⟩
  rw [← hXS, ← hXP, ← hXC, ← hXT, ← hXG] at hcX
  have HXE : Hid (XS = arS ds dp ∧ XP = arP ds dp ∧ XC = arC ds dp ∧ XT = arT ds dp ∧ XG = ((arG ds dp : Nat) : Int)) := ⟨hXS, hXP, hXC, hXT, hXG⟩
  have lX1 : XS.length ≤ 64 := by rw [hXS]; exact arS_len ds dp ld1
  have lX2 : XP.length ≤ 300 := by rw [hXP]; exact arP_len ds dp ld2
  have k0 := (Kd.out.below (chainB (chainB (chainB sw3.out sW4.out) sw5.out) sW6.out)).cell 0
  have k1 := (Kd.out.below (chainB (chainB (chainB sw3.out sW4.out) sw5.out) sW6.out)).cell 1
  rw [hW6] at k0 k1
  clear hW6 hXS hXP hXC hXT hXG
  go_wp2_with fail
  rw [← HW6.out]
  refine hcX.mono ?_
  rintro e w7 ⟨xv1, xv2, rfl, ox, bw7⟩
  obtain ⟨xq1, xc1, rfl, xm1, x1⟩ := ownS_form ox.own1
  obtain ⟨xq2, xc2, rfl, xm2, x2⟩ := ownP_form ox.own2
  have x1 : Hid (TxtAt w7 xq1 XS) := x1
  have x2 : Hid (PndAt w7 xq2 XP) := x2
  have sw7 : Hid (Below W6.heap.size W6 w7) := bw7
  clear ox bw7 hcX k0 k1
  obtain ⟨W8, hW8⟩ : ∃ W8, W8 = w7.alloc (.cells #[.slice xq1 XS.length xc1, .slice xq2 XP.length xc2, .string XT, .int .i64 XG, .int .i64 XC] 31) := ⟨_, rfl⟩
  have HW8 : Hid (W8 = w7.alloc (.cells #[.slice xq1 XS.length xc1, .slice xq2 XP.length xc2, .string XT, .int .i64 XG, .int .i64 XC] 31)) := hW8
  have sW8 : Hid (Below w7.heap.size w7 W8) := by rw [hW8]; exact (Below.refl _ _).alloc (Nat.le_refl _) _
  have Kx : Hid (Bxs W8 w7.heap.size 31 #[.slice xq1 XS.length xc1, .slice xq2 XP.length xc2, .string XT, .int .i64 XG, .int .i64 XC]) := by rw [hW8]; exact Bxs.new _ _ _
  have hcY := implAreaPut_any dq1 dc1 ds dq2 dc2 dp tx 1000 ea eb ec ed W8 (d1.out.below (chainB (chainB (chainB (chainB (chainB (chainB sW2.out sw3.out) sW4.out) sw5.out) sW6.out) sw7.out) sW8.out)) (d2.out.below (chainB (chainB (chainB (chainB (chainB (chainB sW2.out sw3.out) sW4.out) sw5.out) sW6.out) sw7.out) sW8.out)) (by omega) (by omega) dm1 dm2 (by omega) (HSn.out.below (chainB (chainB (chainB (chainB (chainB (chainB (chainB sw1.out sW2.out) sw3.out) sW4.out) sw5.out) sW6.out) sw7.out) sW8.out)) (HLd.out.below (chainB (chainB (chainB (chainB (chainB (chainB (chainB sw1.out sW2.out) sw3.out) sW4.out) sw5.out) sW6.out) sw7.out) sW8.out))
  obtain ⟨YS, hYS⟩ : ∃ YS, YS = puS ds dp tx 1000 := ⟨_, rfl⟩
  obtain ⟨YP, hYP⟩ : ∃ YP, YP = puP ds dp tx 1000 := ⟨_, rfl⟩
  obtain ⟨YC, hYC⟩ : ∃ YC, YC = puC ds dp tx 1000 := ⟨_, rfl⟩
  rw [← hYS, ← hYP, ← hYC] at hcY
  have HYE : Hid (YS = puS ds dp tx 1000 ∧ YP = puP ds dp tx 1000 ∧ YC = puC ds dp tx 1000) := ⟨hYS, hYP, hYC⟩
  have lY1 : YS.length ≤ 64 := by rw [hYS]; exact puS_len ds dp tx 1000
  have lY2 : YP.length ≤ 300 := by rw [hYP]; exact puP_len ds dp tx 1000
  have k0 := (Kd.out.below (chainB (chainB (chainB (chainB (chainB sw3.out sW4.out) sw5.out) sW6.out) sw7.out) sW8.out)).cell 0
  have k1 := (Kd.out.below (chainB (chainB (chainB (chainB (chainB sw3.out sW4.out) sw5.out) sW6.out) sw7.out) sW8.out)).cell 1
  rw [hW8] at k0 k1
  clear hW8 hYS hYP hYC
  go_wp2_with fail
  rw [← HW8.out]
  refine hcY.mono ?_
  rintro e w9 ⟨yv1, yv2, rfl, oy, bw9⟩
  obtain ⟨yq1, yc1, rfl, ym1, y1⟩ := ownS_form oy.own1
  obtain ⟨yq2, yc2, rfl, ym2, y2⟩ := ownP_form oy.own2
  have y1 : Hid (TxtAt w9 yq1 YS) := y1
  have y2 : Hid (PndAt w9 yq2 YP) := y2
  have sw9 : Hid (Below W8.heap.size W8 w9) := bw9
  clear oy bw9 hcY k0 k1
  obtain ⟨W10, hW10⟩ : ∃ W10, W10 = w9.alloc (.cells #[.slice yq1 YS.length yc1, .slice yq2 YP.length yc2, .string ByteArray.empty, .int .i64 0, .int .i64 YC] 31) := ⟨_, rfl⟩
  have HW10 : Hid (W10 = w9.alloc (.cells #[.slice yq1 YS.length yc1, .slice yq2 YP.length yc2, .string ByteArray.empty, .int .i64 0, .int .i64 YC] 31)) := hW10
  have sW10 : Hid (Below w9.heap.size w9 W10) := by rw [hW10]; exact (Below.refl _ _).alloc (Nat.le_refl _) _
  have Ky : Hid (Bxs W10 w9.heap.size 31 #[.slice yq1 YS.length yc1, .slice yq2 YP.length yc2, .string ByteArray.empty, .int .i64 0, .int .i64 YC]) := by rw [hW10]; exact Bxs.new _ _ _
  have hcZ := implAreaFormat_any fq1 fc1 fs fq2 fc2 fp W10 (f1.out.below (chainB (chainB (chainB (chainB (chainB (chainB sW4.out sw5.out) sW6.out) sw7.out) sW8.out) sw9.out) sW10.out)) (f2.out.below (chainB (chainB (chainB (chainB (chainB (chainB sW4.out sw5.out) sW6.out) sw7.out) sW8.out) sw9.out) sW10.out)) (by omega) (by omega) fm1 fm2
  obtain ⟨ZS, hZS⟩ : ∃ ZS, ZS = fmS fs fp := ⟨_, rfl⟩
  obtain ⟨ZP, hZP⟩ : ∃ ZP, ZP = ([] : List Pnd) := ⟨_, rfl⟩
  obtain ⟨ZC, hZC⟩ : ∃ ZC, ZC = fmC fs fp := ⟨_, rfl⟩
  rw [← hZS, ← hZC] at hcZ
  rw [← hZP] at hcZ
  have HZE : Hid (ZS = fmS fs fp ∧ ZP = ([] : List Pnd) ∧ ZC = fmC fs fp) := ⟨hZS, hZP, hZC⟩
  have lZ1 : ZS.length ≤ 64 := by rw [hZS]; exact fmS_len fs fp lf1
  have lZ2 : ZP.length ≤ 300 := by rw [hZP]; exact (by simp)
  have k0 := (Kf.out.below (chainB (chainB (chainB (chainB (chainB sw5.out sW6.out) sw7.out) sW8.out) sw9.out) sW10.out)).cell 0
  have k1 := (Kf.out.below (chainB (chainB (chainB (chainB (chainB sw5.out sW6.out) sw7.out) sW8.out) sw9.out) sW10.out)).cell 1
  rw [hW10] at k0 k1
  clear hW10 hZS hZP hZC
  go_wp2_with fail
  rw [← HW10.out]
  refine hcZ.mono ?_
  rintro e w11 ⟨zv1, zv2, rfl, oz, bw11⟩
  obtain ⟨zq1, zc1, rfl, zm1, z1⟩ := ownS_form oz.own1
  obtain ⟨zq2, zc2, rfl, zm2, z2⟩ := ownP_form oz.own2
  have z1 : Hid (TxtAt w11 zq1 ZS) := z1
  have z2 : Hid (PndAt w11 zq2 ZP) := z2
  have sw11 : Hid (Below W10.heap.size W10 w11) := bw11
  clear oz bw11 hcZ k0 k1
  obtain ⟨W12, hW12⟩ : ∃ W12, W12 = w11.alloc (.cells #[.slice zq1 ZS.length zc1, .slice zq2 ZP.length zc2, .string ByteArray.empty, .int .i64 0, .int .i64 ZC] 31) := ⟨_, rfl⟩
  have HW12 : Hid (W12 = w11.alloc (.cells #[.slice zq1 ZS.length zc1, .slice zq2 ZP.length zc2, .string ByteArray.empty, .int .i64 0, .int .i64 ZC] 31)) := hW12
  have sW12 : Hid (Below w11.heap.size w11 W12) := by rw [hW12]; exact (Below.refl _ _).alloc (Nat.le_refl _) _
  have Kz : Hid (Bxs W12 w11.heap.size 31 #[.slice zq1 ZS.length zc1, .slice zq2 ZP.length zc2, .string ByteArray.empty, .int .i64 0, .int .i64 ZC]) := by rw [hW12]; exact Bxs.new _ _ _
  have BW : Hid (Below w.heap.size w W12) := (chainB (chainB (chainB (chainB (chainB (chainB (chainB (chainB (chainB (chainB (chainB sw1.out sW2.out) sw3.out) sW4.out) sw5.out) sW6.out) sw7.out) sW8.out) sw9.out) sW10.out) sw11.out) sW12.out)
  have HX : Hid (∀ x, Below W12.heap.size W12 x → x.cell? ⟨w1.heap.size, 0, none⟩ = some (.slice dq1 ds.length dc1) ∧ x.cell? ⟨w1.heap.size, 1, none⟩ = some (.slice dq2 dp.length dc2) ∧ x.cell? ⟨w3.heap.size, 0, none⟩ = some (.slice fq1 fs.length fc1) ∧ x.cell? ⟨w3.heap.size, 1, none⟩ = some (.slice fq2 fp.length fc2) ∧ x.cell? ⟨w5.heap.size, 0, none⟩ = some (.slice rq1 rs.length rc1) ∧ x.cell? ⟨w5.heap.size, 1, none⟩ = some (.slice rq2 rp.length rc2) ∧ x.cell? ⟨w7.heap.size, 0, none⟩ = some (.slice xq1 XS.length xc1) ∧ x.cell? ⟨w7.heap.size, 1, none⟩ = some (.slice xq2 XP.length xc2) ∧ x.cell? ⟨w7.heap.size, 2, none⟩ = some (.string XT) ∧ x.cell? ⟨w7.heap.size, 3, none⟩ = some (.int .i64 XG) ∧ x.cell? ⟨w7.heap.size, 4, none⟩ = some (.int .i64 XC) ∧ x.cell? ⟨w9.heap.size, 0, none⟩ = some (.slice yq1 YS.length yc1) ∧ x.cell? ⟨w9.heap.size, 1, none⟩ = some (.slice yq2 YP.length yc2) ∧ x.cell? ⟨w9.heap.size, 2, none⟩ = some (.string ByteArray.empty) ∧ x.cell? ⟨w9.heap.size, 3, none⟩ = some (.int .i64 0) ∧ x.cell? ⟨w9.heap.size, 4, none⟩ = some (.int .i64 YC) ∧ x.cell? ⟨w11.heap.size, 0, none⟩ = some (.slice zq1 ZS.length zc1) ∧ x.cell? ⟨w11.heap.size, 1, none⟩ = some (.slice zq2 ZP.length zc2) ∧ x.cell? ⟨w11.heap.size, 2, none⟩ = some (.string ByteArray.empty) ∧ x.cell? ⟨w11.heap.size, 3, none⟩ = some (.int .i64 0) ∧ x.cell? ⟨w11.heap.size, 4, none⟩ = some (.int .i64 ZC)) := fun x hb =>
    ⟨(Kd.out.below (chainB (chainB (chainB (chainB (chainB (chainB (chainB (chainB (chainB (chainB sw3.out sW4.out) sw5.out) sW6.out) sw7.out) sW8.out) sw9.out) sW10.out) sw11.out) sW12.out) hb)).cell 0, (Kd.out.below (chainB (chainB (chainB (chainB (chainB (chainB (chainB (chainB (chainB (chainB sw3.out sW4.out) sw5.out) sW6.out) sw7.out) sW8.out) sw9.out) sW10.out) sw11.out) sW12.out) hb)).cell 1, (Kf.out.below (chainB (chainB (chainB (chainB (chainB (chainB (chainB (chainB sw5.out sW6.out) sw7.out) sW8.out) sw9.out) sW10.out) sw11.out) sW12.out) hb)).cell 0, (Kf.out.below (chainB (chainB (chainB (chainB (chainB (chainB (chainB (chainB sw5.out sW6.out) sw7.out) sW8.out) sw9.out) sW10.out) sw11.out) sW12.out) hb)).cell 1, (Kr.out.below (chainB (chainB (chainB (chainB (chainB (chainB sw7.out sW8.out) sw9.out) sW10.out) sw11.out) sW12.out) hb)).cell 0, (Kr.out.below (chainB (chainB (chainB (chainB (chainB (chainB sw7.out sW8.out) sw9.out) sW10.out) sw11.out) sW12.out) hb)).cell 1, (Kx.out.below (chainB (chainB (chainB (chainB sw9.out sW10.out) sw11.out) sW12.out) hb)).cell 0, (Kx.out.below (chainB (chainB (chainB (chainB sw9.out sW10.out) sw11.out) sW12.out) hb)).cell 1, (Kx.out.below (chainB (chainB (chainB (chainB sw9.out sW10.out) sw11.out) sW12.out) hb)).cell 2, (Kx.out.below (chainB (chainB (chainB (chainB sw9.out sW10.out) sw11.out) sW12.out) hb)).cell 3, (Kx.out.below (chainB (chainB (chainB (chainB sw9.out sW10.out) sw11.out) sW12.out) hb)).cell 4, (Ky.out.below (chainB (chainB sw11.out sW12.out) hb)).cell 0, (Ky.out.below (chainB (chainB sw11.out sW12.out) hb)).cell 1, (Ky.out.below (chainB (chainB sw11.out sW12.out) hb)).cell 2, (Ky.out.below (chainB (chainB sw11.out sW12.out) hb)).cell 3, (Ky.out.below (chainB (chainB sw11.out sW12.out) hb)).cell 4, (Kz.out.below (chainB (Below.refl _ _) hb)).cell 0, (Kz.out.below (chainB (Below.refl _ _) hb)).cell 1, (Kz.out.below (chainB (Below.refl _ _) hb)).cell 2, (Kz.out.below (chainB (Below.refl _ _) hb)).cell 3, (Kz.out.below (chainB (Below.refl _ _) hb)).cell 4⟩
  have Td : Hid (∀ x, Below W12.heap.size W12 x → TxtAt x dq1 ds ∧ PndAt x dq2 dp) := fun x hb => ⟨d1.out.below (chainB (chainB (chainB (chainB (chainB (chainB (chainB (chainB (chainB (chainB (chainB sW2.out sw3.out) sW4.out) sw5.out) sW6.out) sw7.out) sW8.out) sw9.out) sW10.out) sw11.out) sW12.out) hb), d2.out.below (chainB (chainB (chainB (chainB (chainB (chainB (chainB (chainB (chainB (chainB (chainB sW2.out sw3.out) sW4.out) sw5.out) sW6.out) sw7.out) sW8.out) sw9.out) sW10.out) sw11.out) sW12.out) hb)⟩
  have Tf : Hid (∀ x, Below W12.heap.size W12 x → TxtAt x fq1 fs ∧ PndAt x fq2 fp) := fun x hb => ⟨f1.out.below (chainB (chainB (chainB (chainB (chainB (chainB (chainB (chainB (chainB sW4.out sw5.out) sW6.out) sw7.out) sW8.out) sw9.out) sW10.out) sw11.out) sW12.out) hb), f2.out.below (chainB (chainB (chainB (chainB (chainB (chainB (chainB (chainB (chainB sW4.out sw5.out) sW6.out) sw7.out) sW8.out) sw9.out) sW10.out) sw11.out) sW12.out) hb)⟩
  have Tr : Hid (∀ x, Below W12.heap.size W12 x → TxtAt x rq1 rs ∧ PndAt x rq2 rp) := fun x hb => ⟨r1.out.below (chainB (chainB (chainB (chainB (chainB (chainB (chainB sW6.out sw7.out) sW8.out) sw9.out) sW10.out) sw11.out) sW12.out) hb), r2.out.below (chainB (chainB (chainB (chainB (chainB (chainB (chainB sW6.out sw7.out) sW8.out) sw9.out) sW10.out) sw11.out) sW12.out) hb)⟩
  have Tx : Hid (∀ x, Below W12.heap.size W12 x → TxtAt x xq1 XS ∧ PndAt x xq2 XP) := fun x hb => ⟨x1.out.below (chainB (chainB (chainB (chainB (chainB sW8.out sw9.out) sW10.out) sw11.out) sW12.out) hb), x2.out.below (chainB (chainB (chainB (chainB (chainB sW8.out sw9.out) sW10.out) sw11.out) sW12.out) hb)⟩
  have Ty : Hid (∀ x, Below W12.heap.size W12 x → TxtAt x yq1 YS ∧ PndAt x yq2 YP) := fun x hb => ⟨y1.out.below (chainB (chainB (chainB sW10.out sw11.out) sW12.out) hb), y2.out.below (chainB (chainB (chainB sW10.out sw11.out) sW12.out) hb)⟩
  have Tz : Hid (∀ x, Below W12.heap.size W12 x → TxtAt x zq1 ZS ∧ PndAt x zq2 ZP) := fun x hb => ⟨z1.out.below (chainB sW12.out hb), z2.out.below (chainB sW12.out hb)⟩
  clear hW12 d1 d2 f1 f2 r1 r2 x1 x2 y1 y2 z1 z2 Kd Kf Kr Kx Ky Kz sw1 sW2 sw3 sW4 sw5 sW6 sw7 sW8 sw9 sW10 sw11 sW12 HW2 HW4 HW6 HW8 HW10
  obtain ⟨US, hUS⟩ : ∃ US, US = puS ds dp tx st := ⟨_, rfl⟩
  obtain ⟨UP, hUP⟩ : ∃ UP, UP = puP ds dp tx st := ⟨_, rfl⟩
  obtain ⟨UC, hUC⟩ : ∃ UC, UC = puC ds dp tx st := ⟨_, rfl⟩
  have HUE : Hid (US = puS ds dp tx st ∧ UP = puP ds dp tx st ∧ UC = puC ds dp tx st) := ⟨hUS, hUP, hUC⟩
  have lU1 : US.length ≤ 64 := by rw [hUS]; exact puS_len ds dp tx st
  have lU2 : UP.length ≤ 300 := by rw [hUP]; exact puP_len ds dp tx st
  obtain ⟨RS, hRS⟩ : ∃ RS, RS = arS rs rp := ⟨_, rfl⟩
  obtain ⟨RP, hRP⟩ : ∃ RP, RP = arP rs rp := ⟨_, rfl⟩
  obtain ⟨RC, hRC⟩ : ∃ RC, RC = arC rs rp := ⟨_, rfl⟩
  obtain ⟨RT, hRT⟩ : ∃ RT, RT = arT rs rp := ⟨_, rfl⟩
  obtain ⟨RG, hRG⟩ : ∃ RG, RG = ((arG rs rp : Nat) : Int) := ⟨_, rfl⟩
  have HRE : Hid (RS = arS rs rp ∧ RP = arP rs rp ∧ RC = arC rs rp ∧ RT = arT rs rp ∧ RG = ((arG rs rp : Nat) : Int)) := ⟨hRS, hRP, hRC, hRT, hRG⟩
  have lR1 : RS.length ≤ 64 := by rw [hRS]; exact arS_len rs rp lr1
  have lR2 : RP.length ≤ 300 := by rw [hRP]; exact arP_len rs rp lr2
  obtain ⟨M, hM⟩ : ∃ M, M = roomB ds dp := ⟨_, rfl⟩
  have HME : Hid (M = roomB ds dp) := hM
  clear hUS hUP hUC hRS hRP hRC hRT hRG hM
  have QxS : Hid (∀ x, Below W12.heap.size W12 x → Calls Tryz.prog 12 #[.agg #[.slice dq1 ds.length dc1, .slice dq2 dp.length dc2]] x fun e x1 => (∃ q1 c1 q2 c2, e = .returned (.agg #[.slice q1 XS.length c1, .slice q2 XP.length c2, .string XT, .int .i64 XG, .int .i64 XC]) ∧ XS.length ≤ c1 ∧ XP.length ≤ c2 ∧ TxtAt x1 q1 XS ∧ PndAt x1 q2 XP) ∧ Below x.heap.size x x1) := fun x hb => by
    have h0 := specAreaRead_any dq1 dc1 ds dq2 dc2 dp x (Td.out x hb).1 (Td.out x hb).2 (by omega) (by omega) dm1 dm2
    rw [← HXE.out.1, ← HXE.out.2.1, ← HXE.out.2.2.1, ← HXE.out.2.2.2.1, ← HXE.out.2.2.2.2] at h0
    exact h0.mono (by
    rintro e x1 ⟨v1, v2, rfl, ho, h⟩
    obtain ⟨q1, c1, rfl, m1, t1⟩ := ownS_form ho.own1
    obtain ⟨q2, c2, rfl, m2, t2⟩ := ownP_form ho.own2
    exact ⟨⟨q1, c1, q2, c2, rfl, m1, m2, t1, t2⟩, h⟩)
  have QyS : Hid (∀ x, Below W12.heap.size W12 x → Calls Tryz.prog 13 #[.agg #[.slice dq1 ds.length dc1, .slice dq2 dp.length dc2], .string tx, .int .i64 1000] x fun e x1 => (∃ q1 c1 q2 c2, e = .returned (.agg #[.slice q1 YS.length c1, .slice q2 YP.length c2, .string ByteArray.empty, .int .i64 0, .int .i64 YC]) ∧ YS.length ≤ c1 ∧ YP.length ≤ c2 ∧ TxtAt x1 q1 YS ∧ PndAt x1 q2 YP) ∧ Below x.heap.size x x1) := fun x hb => by
    have h0 := specAreaPut_any dq1 dc1 ds dq2 dc2 dp tx 1000 x (Td.out x hb).1 (Td.out x hb).2 (by omega) (by omega) dm1 dm2 (by omega)
    rw [← HYE.out.1, ← HYE.out.2.1, ← HYE.out.2.2] at h0
    exact h0.mono (by
    rintro e x1 ⟨v1, v2, rfl, ho, h⟩
    obtain ⟨q1, c1, rfl, m1, t1⟩ := ownS_form ho.own1
    obtain ⟨q2, c2, rfl, m2, t2⟩ := ownP_form ho.own2
    exact ⟨⟨q1, c1, q2, c2, rfl, m1, m2, t1, t2⟩, h⟩)
  have QuI : Hid (∀ x, Below W12.heap.size W12 x → Calls Tryz.prog 9 #[.agg #[.slice dq1 ds.length dc1, .slice dq2 dp.length dc2], .string tx, .int .i64 st] x fun e x1 => (∃ q1 c1 q2 c2, e = .returned (.agg #[.slice q1 US.length c1, .slice q2 UP.length c2, .string ByteArray.empty, .int .i64 0, .int .i64 UC]) ∧ US.length ≤ c1 ∧ UP.length ≤ c2 ∧ TxtAt x1 q1 US ∧ PndAt x1 q2 UP) ∧ Below x.heap.size x x1) := fun x hb => by
    have h0 := implAreaPut_any dq1 dc1 ds dq2 dc2 dp tx st ea eb ec ed x (Td.out x hb).1 (Td.out x hb).2 (by omega) (by omega) dm1 dm2 (by omega) (HSn.out.below (chainB BW.out hb)) (HLd.out.below (chainB BW.out hb))
    rw [← HUE.out.1, ← HUE.out.2.1, ← HUE.out.2.2] at h0
    exact h0.mono (by
    rintro e x1 ⟨v1, v2, rfl, ho, h⟩
    obtain ⟨q1, c1, rfl, m1, t1⟩ := ownS_form ho.own1
    obtain ⟨q2, c2, rfl, m2, t2⟩ := ownP_form ho.own2
    exact ⟨⟨q1, c1, q2, c2, rfl, m1, m2, t1, t2⟩, h⟩)
  have QuS : Hid (∀ x, Below W12.heap.size W12 x → Calls Tryz.prog 13 #[.agg #[.slice dq1 ds.length dc1, .slice dq2 dp.length dc2], .string tx, .int .i64 st] x fun e x1 => (∃ q1 c1 q2 c2, e = .returned (.agg #[.slice q1 US.length c1, .slice q2 UP.length c2, .string ByteArray.empty, .int .i64 0, .int .i64 UC]) ∧ US.length ≤ c1 ∧ UP.length ≤ c2 ∧ TxtAt x1 q1 US ∧ PndAt x1 q2 UP) ∧ Below x.heap.size x x1) := fun x hb => by
    have h0 := specAreaPut_any dq1 dc1 ds dq2 dc2 dp tx st x (Td.out x hb).1 (Td.out x hb).2 (by omega) (by omega) dm1 dm2 (by omega)
    rw [← HUE.out.1, ← HUE.out.2.1, ← HUE.out.2.2] at h0
    exact h0.mono (by
    rintro e x1 ⟨v1, v2, rfl, ho, h⟩
    obtain ⟨q1, c1, rfl, m1, t1⟩ := ownS_form ho.own1
    obtain ⟨q2, c2, rfl, m2, t2⟩ := ownP_form ho.own2
    exact ⟨⟨q1, c1, q2, c2, rfl, m1, m2, t1, t2⟩, h⟩)
  have QzS : Hid (∀ x, Below W12.heap.size W12 x → Calls Tryz.prog 14 #[.agg #[.slice fq1 fs.length fc1, .slice fq2 fp.length fc2]] x fun e x1 => (∃ q1 c1, e = .returned (.agg #[.slice q1 ZS.length c1, .slice none 0 0, .string ByteArray.empty, .int .i64 0, .int .i64 ZC]) ∧ ZS.length ≤ c1 ∧ TxtAt x1 q1 ZS) ∧ Below x.heap.size x x1) := fun x hb => by
    have h0 := specAreaFormat_any fq1 fc1 fs fq2 fc2 fp x (Tf.out x hb).1 (Tf.out x hb).2 (by omega) (by omega) fm1 fm2
    rw [← HZE.out.1, ← HZE.out.2.2] at h0
    exact h0.mono (by
    rintro e x1 ⟨v1, rfl, ho, h⟩
    obtain ⟨q1, c1, rfl, m1, t1⟩ := ownS_form ho.own1
    exact ⟨⟨q1, c1, rfl, m1, t1⟩, h⟩)
  have QrI : Hid (∀ x, Below W12.heap.size W12 x → Calls Tryz.prog 8 #[.agg #[.slice rq1 rs.length rc1, .slice rq2 rp.length rc2]] x fun e x1 => (∃ q1 c1 q2 c2, e = .returned (.agg #[.slice q1 RS.length c1, .slice q2 RP.length c2, .string RT, .int .i64 RG, .int .i64 RC]) ∧ RS.length ≤ c1 ∧ RP.length ≤ c2 ∧ TxtAt x1 q1 RS ∧ PndAt x1 q2 RP) ∧ Below x.heap.size x x1) := fun x hb => by
    have h0 := implAreaRead_any rq1 rc1 rs rq2 rc2 rp ea eb ec ed x (Tr.out x hb).1 (Tr.out x hb).2 (by omega) (by omega) rm1 rm2 (HSn.out.below (chainB BW.out hb)) (HLd.out.below (chainB BW.out hb))
    rw [← HRE.out.1, ← HRE.out.2.1, ← HRE.out.2.2.1, ← HRE.out.2.2.2.1, ← HRE.out.2.2.2.2] at h0
    exact h0.mono (by
    rintro e x1 ⟨v1, v2, rfl, ho, h⟩
    obtain ⟨q1, c1, rfl, m1, t1⟩ := ownS_form ho.own1
    obtain ⟨q2, c2, rfl, m2, t2⟩ := ownP_form ho.own2
    exact ⟨⟨q1, c1, q2, c2, rfl, m1, m2, t1, t2⟩, h⟩)
  have QrS : Hid (∀ x, Below W12.heap.size W12 x → Calls Tryz.prog 12 #[.agg #[.slice rq1 rs.length rc1, .slice rq2 rp.length rc2]] x fun e x1 => (∃ q1 c1 q2 c2, e = .returned (.agg #[.slice q1 RS.length c1, .slice q2 RP.length c2, .string RT, .int .i64 RG, .int .i64 RC]) ∧ RS.length ≤ c1 ∧ RP.length ≤ c2 ∧ TxtAt x1 q1 RS ∧ PndAt x1 q2 RP) ∧ Below x.heap.size x x1) := fun x hb => by
    have h0 := specAreaRead_any rq1 rc1 rs rq2 rc2 rp x (Tr.out x hb).1 (Tr.out x hb).2 (by omega) (by omega) rm1 rm2
    rw [← HRE.out.1, ← HRE.out.2.1, ← HRE.out.2.2.1, ← HRE.out.2.2.2.1, ← HRE.out.2.2.2.2] at h0
    exact h0.mono (by
    rintro e x1 ⟨v1, v2, rfl, ho, h⟩
    obtain ⟨q1, c1, rfl, m1, t1⟩ := ownS_form ho.own1
    obtain ⟨q2, c2, rfl, m2, t2⟩ := ownP_form ho.own2
    exact ⟨⟨q1, c1, q2, c2, rfl, m1, m2, t1, t2⟩, h⟩)
  have QmI : Hid (∀ x, Below W12.heap.size W12 x → Calls Tryz.prog 15 #[.agg #[.slice dq1 ds.length dc1, .slice dq2 dp.length dc2]] x fun e x1 => e = .returned (.int .i64 (M : Int)) ∧ Below x.heap.size x x1) := fun x hb => by
    have h0 := implAreaRoom_any dq1 dc1 ds dq2 dc2 dp x (Td.out x hb).1 (Td.out x hb).2 (by omega) (by omega) dm1 dm2
    rw [← HME.out] at h0
    exact h0
  have QmS : Hid (∀ x, Below W12.heap.size W12 x → Calls Tryz.prog 16 #[.agg #[.slice dq1 ds.length dc1, .slice dq2 dp.length dc2]] x fun e x1 => e = .returned (.int .i64 (M : Int)) ∧ Below x.heap.size x x1) := fun x hb => by
    have h0 := specAreaRoom_any dq1 dc1 ds dq2 dc2 dp x (Td.out x hb).1 (Td.out x hb).2 (by omega) (by omega) dm1 dm2
    rw [← HME.out] at h0
    exact h0
  have QLx : Hid (∀ x q1 c1 q2 c2, Below W12.heap.size W12 x → XS.length ≤ c1 → XP.length ≤ c2 → TxtAt x q1 XS → PndAt x q2 XP → Calls Tryz.prog 11 #[.agg #[.slice xq1 XS.length xc1, .slice xq2 XP.length xc2, .string XT, .int .i64 XG, .int .i64 XC], .agg #[.slice q1 XS.length c1, .slice q2 XP.length c2, .string XT, .int .i64 XG, .int .i64 XC]] x fun e x1 => e = .returned (.bool true) ∧ Below x.heap.size x x1) := fun x q1 c1 q2 c2 hb m1 m2 h1 h2 => lwArea_any XT XG XC xq1 xq2 q1 q2 xc1 xc2 c1 c2 XS XP x (Tx.out x hb).1 (Tx.out x hb).2 h1 h2 (by omega) (by omega) xm1 xm2 m1 m2
  have QLy : Hid (∀ x q1 c1 q2 c2, Below W12.heap.size W12 x → YS.length ≤ c1 → YP.length ≤ c2 → TxtAt x q1 YS → PndAt x q2 YP → Calls Tryz.prog 11 #[.agg #[.slice yq1 YS.length yc1, .slice yq2 YP.length yc2, .string ByteArray.empty, .int .i64 0, .int .i64 YC], .agg #[.slice q1 YS.length c1, .slice q2 YP.length c2, .string ByteArray.empty, .int .i64 0, .int .i64 YC]] x fun e x1 => e = .returned (.bool true) ∧ Below x.heap.size x x1) := fun x q1 c1 q2 c2 hb m1 m2 h1 h2 => lwArea_any ByteArray.empty 0 YC yq1 yq2 q1 q2 yc1 yc2 c1 c2 YS YP x (Ty.out x hb).1 (Ty.out x hb).2 h1 h2 (by omega) (by omega) ym1 ym2 m1 m2
  have QLu : Hid (∀ x p1 d1 p2 d2 q1 c1 q2 c2, US.length ≤ d1 → UP.length ≤ d2 → US.length ≤ c1 → UP.length ≤ c2 → TxtAt x p1 US → PndAt x p2 UP → TxtAt x q1 US → PndAt x q2 UP → Calls Tryz.prog 11 #[.agg #[.slice p1 US.length d1, .slice p2 UP.length d2, .string ByteArray.empty, .int .i64 0, .int .i64 UC], .agg #[.slice q1 US.length c1, .slice q2 UP.length c2, .string ByteArray.empty, .int .i64 0, .int .i64 UC]] x fun e x1 => e = .returned (.bool true) ∧ Below x.heap.size x x1) := fun x p1 d1 p2 d2 q1 c1 q2 c2 n1 n2 m1 m2 g1 g2 h1 h2 => lwArea_any ByteArray.empty 0 UC p1 p2 q1 q2 d1 d2 c1 c2 US UP x g1 g2 h1 h2 (by omega) (by omega) n1 n2 m1 m2
  have QLr : Hid (∀ x p1 d1 p2 d2 q1 c1 q2 c2, RS.length ≤ d1 → RP.length ≤ d2 → RS.length ≤ c1 → RP.length ≤ c2 → TxtAt x p1 RS → PndAt x p2 RP → TxtAt x q1 RS → PndAt x q2 RP → Calls Tryz.prog 11 #[.agg #[.slice p1 RS.length d1, .slice p2 RP.length d2, .string RT, .int .i64 RG, .int .i64 RC], .agg #[.slice q1 RS.length c1, .slice q2 RP.length c2, .string RT, .int .i64 RG, .int .i64 RC]] x fun e x1 => e = .returned (.bool true) ∧ Below x.heap.size x x1) := fun x p1 d1 p2 d2 q1 c1 q2 c2 n1 n2 m1 m2 g1 g2 h1 h2 => lwArea_any RT RG RC p1 p2 q1 q2 d1 d2 c1 c2 RS RP x g1 g2 h1 h2 (by omega) (by omega) n1 n2 m1 m2
  have QLz : Hid (∀ x q1 c1, Below W12.heap.size W12 x → ZS.length ≤ c1 → TxtAt x q1 ZS → Calls Tryz.prog 11 #[.agg #[.slice zq1 ZS.length zc1, .slice zq2 ZP.length zc2, .string ByteArray.empty, .int .i64 0, .int .i64 ZC], .agg #[.slice q1 ZS.length c1, .slice none 0 0, .string ByteArray.empty, .int .i64 0, .int .i64 ZC]] x fun e x1 => e = .returned (.bool true) ∧ Below x.heap.size x x1) := fun x q1 c1 hb m1 h1 => by
    have e0 : ZP = [] := HZE.out.2.1
    have h := lwArea_any ByteArray.empty 0 ZC zq1 zq2 q1 none zc1 zc2 c1 0 ZS ZP x (Tz.out x hb).1 (Tz.out x hb).2 h1 (by rw [e0]; exact PndAt.nil _ _) (by omega) (by omega) zm1 zm2 m1 (by rw [e0]; exact Nat.zero_le _)
    rw [show ZP.length = 0 by rw [e0]; rfl] at h ⊢
    exact h
  have BR : Hid (Below W12.heap.size W12 W12) := Below.refl _ _
  go_upto_region 9 with fail
  rw [← HW12.out]
  go_cut [86] from 40 to 86 (fun s86 wx => s86 = .bool false ∧ Hid (Below W12.heap.size W12 wx))
  case first =>
    first
      | (go_region_held3 (fun w' => w'.cell? ⟨w1.heap.size, 0, none⟩ = some (.slice dq1 ds.length dc1) ∧ w'.cell? ⟨w1.heap.size, 1, none⟩ = some (.slice dq2 dp.length dc2) ∧ w'.cell? ⟨w3.heap.size, 0, none⟩ = some (.slice fq1 fs.length fc1) ∧ w'.cell? ⟨w3.heap.size, 1, none⟩ = some (.slice fq2 fp.length fc2) ∧ w'.cell? ⟨w5.heap.size, 0, none⟩ = some (.slice rq1 rs.length rc1) ∧ w'.cell? ⟨w5.heap.size, 1, none⟩ = some (.slice rq2 rp.length rc2) ∧ w'.cell? ⟨w7.heap.size, 0, none⟩ = some (.slice xq1 XS.length xc1) ∧ w'.cell? ⟨w7.heap.size, 1, none⟩ = some (.slice xq2 XP.length xc2) ∧ w'.cell? ⟨w7.heap.size, 2, none⟩ = some (.string XT) ∧ w'.cell? ⟨w7.heap.size, 3, none⟩ = some (.int .i64 XG) ∧ w'.cell? ⟨w7.heap.size, 4, none⟩ = some (.int .i64 XC) ∧ w'.cell? ⟨w9.heap.size, 0, none⟩ = some (.slice yq1 YS.length yc1) ∧ w'.cell? ⟨w9.heap.size, 1, none⟩ = some (.slice yq2 YP.length yc2) ∧ w'.cell? ⟨w9.heap.size, 2, none⟩ = some (.string ByteArray.empty) ∧ w'.cell? ⟨w9.heap.size, 3, none⟩ = some (.int .i64 0) ∧ w'.cell? ⟨w9.heap.size, 4, none⟩ = some (.int .i64 YC) ∧ w'.cell? ⟨w11.heap.size, 0, none⟩ = some (.slice zq1 ZS.length zc1) ∧ w'.cell? ⟨w11.heap.size, 1, none⟩ = some (.slice zq2 ZP.length zc2) ∧ w'.cell? ⟨w11.heap.size, 2, none⟩ = some (.string ByteArray.empty) ∧ w'.cell? ⟨w11.heap.size, 3, none⟩ = some (.int .i64 0) ∧ w'.cell? ⟨w11.heap.size, 4, none⟩ = some (.int .i64 ZC)) (exact HX.out _ (by first | with_reducible assumption | exact BR.out.drew)) (first
          | (go_at_call 12; with_reducible refine (QxS.out _ ?hb).mono ?_; (case hb => first | with_reducible assumption | exact BR.out | exact BR.out.drew); rintro e y1 ⟨⟨ax1q, ax1c, ax2q, ax2c, rfl, axm1, axm2, axt1, axt2⟩, z1⟩; have z1 : Below W12.heap.size W12 y1 := chainB (by first | assumption | exact BR.out | exact BR.out.drew) z1)
          | (go_at_call 11; with_reducible refine (QLx.out _ _ _ _ _ ?hb axm1 axm2 axt1 axt2).mono ?_; (case hb => first | with_reducible assumption | exact BR.out | exact BR.out.drew); rintro e y2 ⟨rfl, z2⟩; have z2 : Below W12.heap.size W12 y2 := chainB z1 z2)
          | (go_at_call 13; with_reducible refine (QyS.out _ ?hb).mono ?_; (case hb => first | with_reducible assumption | exact BR.out | exact BR.out.drew); rintro e y3 ⟨⟨ay1q, ay1c, ay2q, ay2c, rfl, aym1, aym2, ayt1, ayt2⟩, z3⟩; have z3 : Below W12.heap.size W12 y3 := chainB z2 z3)
          | (go_at_call 11; with_reducible refine (QLy.out _ _ _ _ _ ?hb aym1 aym2 ayt1 ayt2).mono ?_; (case hb => first | with_reducible assumption | exact BR.out | exact BR.out.drew); rintro e y4 ⟨rfl, z4⟩; have z4 : Below W12.heap.size W12 y4 := chainB z3 z4)
          | (go_at_call 9; with_reducible refine (QuI.out _ ?hb).mono ?_; (case hb => first | with_reducible assumption | exact BR.out | exact BR.out.drew); rintro e y5 ⟨⟨au1q, au1c, au2q, au2c, rfl, aum1, aum2, aut1, aut2⟩, z5⟩; have z5 : Below W12.heap.size W12 y5 := chainB z4 z5)
          | (go_at_call 13; with_reducible refine (QuS.out _ ?hb).mono ?_; (case hb => first | with_reducible assumption | exact BR.out | exact BR.out.drew); rintro e y6 ⟨⟨av1q, av1c, av2q, av2c, rfl, avm1, avm2, avt1, avt2⟩, z6⟩; have aut1 := aut1.below z6; have aut2 := aut2.below z6; have z6 : Below W12.heap.size W12 y6 := chainB z5 z6)
          | (go_at_call 11; with_reducible refine (QLu.out _ _ _ _ _ _ _ _ _ aum1 aum2 avm1 avm2 aut1 aut2 avt1 avt2).mono ?_; rintro e y7 ⟨rfl, z7⟩; have z7 : Below W12.heap.size W12 y7 := chainB z6 z7)
          | (go_at_call 14; with_reducible refine (QzS.out _ ?hb).mono ?_; (case hb => first | with_reducible assumption | exact BR.out | exact BR.out.drew); rintro e y8 ⟨⟨az1q, az1c, rfl, azm1, azt1⟩, z8⟩; have z8 : Below W12.heap.size W12 y8 := chainB z7 z8)
          | (go_at_call 11; with_reducible refine (QLz.out _ _ _ ?hb azm1 azt1).mono ?_; (case hb => first | with_reducible assumption | exact BR.out | exact BR.out.drew); rintro e y9 ⟨rfl, z9⟩; have z9 : Below W12.heap.size W12 y9 := chainB z8 z9)
          | (go_at_call 8; with_reducible refine (QrI.out _ ?hb).mono ?_; (case hb => first | with_reducible assumption | exact BR.out | exact BR.out.drew); rintro e y10 ⟨⟨ar1q, ar1c, ar2q, ar2c, rfl, arm1, arm2, art1, art2⟩, z10⟩; have z10 : Below W12.heap.size W12 y10 := chainB z9 z10)
          | (go_at_call 12; with_reducible refine (QrS.out _ ?hb).mono ?_; (case hb => first | with_reducible assumption | exact BR.out | exact BR.out.drew); rintro e y11 ⟨⟨aq1q, aq1c, aq2q, aq2c, rfl, aqm1, aqm2, aqt1, aqt2⟩, z11⟩; have art1 := art1.below z11; have art2 := art2.below z11; have z11 : Below W12.heap.size W12 y11 := chainB z10 z11)
          | (go_at_call 11; with_reducible refine (QLr.out _ _ _ _ _ _ _ _ _ arm1 arm2 aqm1 aqm2 art1 art2 aqt1 aqt2).mono ?_; rintro e y12 ⟨rfl, z12⟩; have z12 : Below W12.heap.size W12 y12 := chainB z11 z12)
          | (go_at_call 15; with_reducible refine (QmI.out _ ?hb).mono ?_; (case hb => first | with_reducible assumption | exact BR.out | exact BR.out.drew); rintro e y13 ⟨rfl, z13⟩; have z13 : Below W12.heap.size W12 y13 := chainB z12 z13)
          | (go_at_call 16; with_reducible refine (QmS.out _ ?hb).mono ?_; (case hb => first | with_reducible assumption | exact BR.out | exact BR.out.drew); rintro e y14 ⟨rfl, z14⟩; have z14 : Below W12.heap.size W12 y14 := chainB z13 z14)))
      | fail
    all_goals (go_wp2_with fail; go_meet; exact ⟨rfl, z14⟩)
  case rest =>
  obtain ⟨rfl, B0⟩ := hcut
  clear QxS QyS QuI QuS QzS QrI QrS QmS QLx QLy QLu QLr QLz BR HUE HRE
  obtain ⟨v0, rfl⟩ : ∃ v0 : World, v0 = wc := ⟨_, rfl⟩
  have k4 := (HX.out v0 B0.out).2.2.2.2.2.2.2.2.2.2.2.2.2.2.2.2.2.2.2.2
  have k0 := (HX.out v0 B0.out).2.2.2.2.2.2.2.2.2.2.2.2.2.2.2.2.1
  have k1 := (HX.out v0 B0.out).2.2.2.2.2.2.2.2.2.2.2.2.2.2.2.2.2.1
  go_upto_if 89 with fail
  go_cut [13] from 90 to 105 (fun s13 wx => Hid (Below W12.heap.size W12 wx))
  case first =>
    by_cases hz : ZC = 0
    · have hfc : fmC fs fp = 0 := by rw [← HZE.out.2.2]; exact hz
      have hdr : dskB fs fp = true := by
        cases hd : dskB fs fp with
        | true => rfl
        | false => unfold fmC at hfc; rw [hd] at hfc; simp at hfc
      have hwc : wrC fs fp 0 (headB 0 0 0) = 0 := by
        unfold fmC at hfc
        rw [if_pos hdr] at hfc
        split at hfc
        · exact absurd hfc (by decide)
        · exact hfc
      have hZS : ZS = flushB fs (fp ++ [(0, headB 0 0 0)]) := HZE.out.1.trans (if_pos hfc)
      obtain ⟨f1, f2, f3⟩ := ar_format (write_right hwc)
      have hE := implAreaRead_any zq1 zc1 ZS zq2 zc2 ZP ea eb ec ed v0 (Tz.out v0 B0.out).1 (Tz.out v0 B0.out).2 (by omega) (by omega) zm1 zm2 (HSn.out.below (chainB BW.out B0.out)) (HLd.out.below (chainB BW.out B0.out))
      have hE : Calls Tryz.prog 8 #[.agg #[.slice zq1 ZS.length zc1, .slice zq2 ZP.length zc2]] v0 fun e w' => (∃ o1 n1 d1 o2 n2 d2, e = .returned (.agg #[.slice o1 n1 d1, .slice o2 n2 d2, .string ByteArray.empty, .int .i64 0, .int .i64 0])) ∧ Below v0.heap.size v0 w' := hE.mono (by
        have g1 : arC ZS ZP = 0 := by rw [hZS, HZE.out.2.1]; exact f1
        have g2 : arT ZS ZP = ByteArray.empty := by rw [hZS, HZE.out.2.1]; exact f2
        have g3 : arG ZS ZP = 0 := by rw [hZS, HZE.out.2.1]; exact f3
        rw [g1, g2, g3]
        rintro e x1 ⟨v1, v2, rfl, ho, h⟩
        obtain ⟨o1, d1, rfl, -, -⟩ := ownS_form ho.own1
        obtain ⟨o2, d2, rfl, -, -⟩ := ownP_form ho.own2
        exact ⟨⟨o1, _, d1, o2, _, d2, rfl⟩, h⟩)
      clear hfc hdr hwc hZS f1 f2 f3
      subst hz
      go_wp2_with fail
      refine hE.mono ?_
      rintro e y1 ⟨⟨o1, n1, d1, o2, n2, d2, rfl⟩, b1⟩
      have b1 := chainB B0.out b1
      have B9 : Hid (Below W12.heap.size W12 (y1.alloc (.cells #[.slice o1 n1 d1, .slice o2 n2 d2, .string ByteArray.empty, .int .i64 0, .int .i64 0] 31))) := alB b1 _
      clear hE k0 k1 k4 b1
      go_wp2_with fail
      go_meet
      exact B9
    · have hzb : (ZC == 0) = false := beq_eq_false_iff_ne.2 hz
      go_wp2_with fail
      go_meet
      exact B0
  case rest =>
  clear k0 k1 k4 B0
  obtain ⟨v1, rfl⟩ : ∃ v1 : World, v1 = wc := ⟨_, rfl⟩
  have B1 := hcut
  have k4 := (HX.out v1 B1.out).2.2.2.2.2.2.2.2.2.2.1
  have k0 := (HX.out v1 B1.out).1
  have k1 := (HX.out v1 B1.out).2.1
  go_upto_region 15 with fail
  go_cut [120] from 106 to 120 (fun s120 wx => s120 = .bool false ∧ Hid (Below W12.heap.size W12 wx))
  case first =>
    by_cases hx : XC = 0
    · have hm := QmI.out v1 B1.out
      by_cases ht : M < tx.size
      · have hy : YC = 9 := by
          have hac : arC ds dp = 0 := by rw [← HXE.out.2.2.1]; exact hx
          have hdr := (arC_ok hac).1
          have hrm : roomB ds dp = roomN ds := by unfold roomB; rw [if_pos hdr]; rfl
          have hok : puOk ds dp tx = 9 := by
            unfold puOk
            rw [if_neg (by omega), if_pos hac, if_pos (.inl (by rw [← hrm, ← HME.out]; exact ht))]
          rw [HYE.out.2.2]
          exact (if_neg (by rw [hok]; decide)).trans hok
        have d1 : decide ((M : Int) < (tx.size : Int)) = true := decide_eq_true (by omega)
        have d1n : decide (M < tx.size) = true := decide_eq_true ht
        subst hx hy
        go_wp2_with fail
        refine hm.mono ?_
        rintro e y1 ⟨rfl, b1⟩
        have b1 := chainB B1.out b1
        have k5 := (HX.out y1 b1).2.2.2.2.2.2.2.2.2.2.2.2.2.2.2.1
        have B9 : Hid (Below W12.heap.size W12 y1) := b1
        clear b1 hm k0 k1 k4
        go_wp2_with fail
        go_meet
        exact ⟨rfl, B9⟩
      · have d1 : decide ((M : Int) < (tx.size : Int)) = false := decide_eq_false (by omega)
        have d1n : decide (M < tx.size) = false := decide_eq_false ht
        subst hx
        go_wp2_with fail
        refine hm.mono ?_
        rintro e y1 ⟨rfl, b1⟩
        have B9 : Hid (Below W12.heap.size W12 y1) := chainB B1.out b1
        clear b1 hm k0 k1 k4
        go_wp2_with fail
        go_meet
        exact ⟨rfl, B9⟩
    · have hxb : (XC == 0) = false := beq_eq_false_iff_ne.2 hx
      go_wp2_with fail
      go_meet
      exact ⟨rfl, B1⟩
  case rest =>
  clear k0 k1 k4 B1 QmI
  obtain ⟨rfl, B2⟩ := hcut
  obtain ⟨v2, rfl⟩ : ∃ v2 : World, v2 = wc := ⟨_, rfl⟩
  have k4 := (HX.out v2 B2.out).2.2.2.2.2.2.2.2.2.2.2.2.2.2.2.1
  by_cases hy : YC = 0
  · have hpc : puC ds dp tx 1000 = 0 := by rw [← HYE.out.2.2]; exact hy
    obtain ⟨p1, p2, p3⟩ := put_all (by unfold needN; have : (1000 : Int).toNat = 1000 := rfl; omega) hpc
    have hgl := (puC_ok hpc).2.2.2.1
    obtain ⟨NG, hNG⟩ : ∃ NG, NG = arG ds dp := ⟨_, rfl⟩
    have hXG : XG = (NG : Int) := by rw [HXE.out.2.2.2.2, hNG]
    rw [← hNG] at hgl p3
    have hE := implAreaRead_any yq1 yc1 YS yq2 yc2 YP ea eb ec ed v2 (Ty.out v2 B2.out).1 (Ty.out v2 B2.out).2 (by omega) (by omega) ym1 ym2 (HSn.out.below (chainB BW.out B2.out)) (HLd.out.below (chainB BW.out B2.out))
    have hE : Calls Tryz.prog 8 #[.agg #[.slice yq1 YS.length yc1, .slice yq2 YP.length yc2]] v2 fun e w' => (∃ o1 n1 d1 o2 n2 d2, e = .returned (.agg #[.slice o1 n1 d1, .slice o2 n2 d2, .string tx, .int .i64 ((NG : Int) + 1), .int .i64 0])) ∧ Below v2.heap.size v2 w' := hE.mono (by
      have g1 : arC YS YP = 0 := by rw [HYE.out.1, HYE.out.2.1]; exact p1
      have g2 : arT YS YP = tx := by rw [HYE.out.1, HYE.out.2.1]; exact p2
      have g3 : ((arG YS YP : Nat) : Int) = (NG : Int) + 1 := by rw [HYE.out.1, HYE.out.2.1, p3]; omega
      rw [g1, g2, g3]
      rintro e x1 ⟨v1, v2, rfl, ho, h⟩
      obtain ⟨o1, d1, rfl, -, -⟩ := ownS_form ho.own1
      obtain ⟨o2, d2, rfl, -, -⟩ := ownP_form ho.own2
      exact ⟨⟨o1, _, d1, o2, _, d2, rfl⟩, h⟩)
    have k0 := (HX.out v2 B2.out).2.2.2.2.2.2.2.2.2.2.2.1
    have k1 := (HX.out v2 B2.out).2.2.2.2.2.2.2.2.2.2.2.2.1
    have hwr : IntKind.i64.wrap ((NG : Int) + 1) = (NG : Int) + 1 := by rw [IntKind.wrap_i64]; omega
    clear p1 p2 p3 hpc hNG
    subst hy
    go_wp2_with fail
    refine hE.mono ?_
    rintro e y1 ⟨⟨o1, n1, d1, o2, n2, d2, rfl⟩, b1⟩
    have b1 := chainB B2.out b1
    have b2 : Below W12.heap.size W12 (y1.alloc (.cells #[.slice o1 n1 d1, .slice o2 n2 d2, .string tx, .int .i64 ((NG : Int) + 1), .int .i64 0] 31)) := alB b1 _
    have k5 := (HX.out _ b2).2.2.2.2.2.2.2.2.2.1
    rw [hXG] at k5
    have B9 : Hid (Below w.heap.size w (y1.alloc (.cells #[.slice o1 n1 d1, .slice o2 n2 d2, .string tx, .int .i64 ((NG : Int) + 1), .int .i64 0] 31))) := chainB BW.out b2
    clear hE k0 k1 k4 b1 b2 hXG
    go_wp2_with fail
    go_ret
    exact ⟨rfl, B9.out⟩
  · have hyb : (YC == 0) = false := beq_eq_false_iff_ne.2 hy
    have hyn : (YC != 0) = true := bne_iff_ne.2 hy
    have B9 : Hid (Below w.heap.size w v2) := chainB BW.out B2.out
    go_wp2_with fail
    go_ret
    exact ⟨rfl, B9.out⟩
end Go.Proofs.YtkhffoailfnepabGreatDoor
