/-
  The law FnAreaTorn returns true at every two codes of at most 2^20 bytes: wherever the power goes while a text is put to a drawn disk on which nothing is pending, whatever was not flushed is kept or not: what is read is the text ahead, or the new one; the new one, if all steps were done.
-/
import Derived.Test.YtkhffoailfnepabGreatDoorRows
import Derived.Test.YtkhffoailfnepabGreatDoorBytesDigMath
import Derived.Test.YtkhffoailfnepabGreatDoorSlASlBOwnSOwnBSrc
import Derived.Test.YtkhffoailfnepabGreatDoorDrawsDrawKitDskMath
import Derived.Test.YtkhffoailfnepabGreatDoorDskRAppSStepAppDskA
import Derived.Test.YtkhffoailfnepabGreatDoorDskSDskCDskT
import Derived.Test.YtkhffoailfnepabGreatDoorDskW
import Derived.Test.YtkhffoailfnepabGreatDoorDskFDskK
import Derived.Test.YtkhffoailfnepabGreatDoorDskLawLawSLawSGLawP
import Derived.Test.YtkhffoailfnepabGreatDoorLawDLwDskLwArLawIPutMathPutNum
import Derived.Test.YtkhffoailfnepabGreatDoorFourSealAreaAAreaF
import Derived.Test.YtkhffoailfnepabGreatDoorAreaFm
import Derived.Test.YtkhffoailfnepabGreatDoorGetTextITextMathAreaMath
import Derived.Test.YtkhffoailfnepabGreatDoorStpMathAreaPutMUnsealSSpecGN
import Derived.Test.YtkhffoailfnepabGreatDoorAreaSeen
import Derived.Test.YtkhffoailfnepabGreatDoorAreaRd
import Derived.Test.YtkhffoailfnepabGreatDoorAreaPt
import Derived.Test.YtkhffoailfnepabGreatDoorAreaLaw
import Derived.Test.YtkhffoailfnepabGreatDoorPuLeImplDRImplAACopied
import Derived.Test.YtkhffoailfnepabGreatDoorImplAFIsEImplACErrI
import Derived.Test.YtkhffoailfnepabGreatDoorImplARImplTSImplNx
import Derived.Test.YtkhffoailfnepabGreatDoorImplPu
import Derived.Test.YtkhffoailfnepabGreatDoorImplCrashSomeLawDGDrawDsk
import Derived.Test.YtkhffoailfnepabGreatDoorDrawDskF
import Derived.Test.YtkhffoailfnepabGreatDoorDrawDskG
import Derived.Test.YtkhffoailfnepabGreatDoorDrawKeepDrawDisksDrawArFSpoilT
import Derived.Test.YtkhffoailfnepabGreatDoorDrawAr
import Derived.Test.YtkhffoailfnepabGreatDoorDrawAreas
import Derived.Test.YtkhffoailfnepabGreatDoorFnAreaWalk
import Derived.Handy
import Derived.WalkSpells
import Derived.OwnWalk
import Derived.Deep.RegionWith
import Derived.Deep.RegionHeld3
import Derived.Deep.Cut
import Derived.Deep.CutRange
namespace Go.Proofs.YtkhffoailfnepabGreatDoor
open Go.RowKit Go.Lib
set_option linter.unusedVariables false
set_option maxRecDepth 20000

theorem toL_neq {a b : ByteArray} (h : a ≠ b) : (a.toList == b.toList) = false := beq_eq_false_iff_ne.2 (fun e => h (by apply ByteArray.ext; apply Array.ext'; simpa [toList_data] using e))
theorem field_code5 (q1 : Option Addr) (n1 d1 : Nat) (q2 : Option Addr) (n2 d2 : Nat) (u : ByteArray) (g c : Int) (x : World) : (Instr.field 31 (.agg #[.slice q1 n1 d1, .slice q2 n2 d2, .string u, .int .i64 g, .int .i64 c]) 3).run Tryz.prog x = .ok (.int .i64 c) x := by first | rfl | kernel_rfl
theorem field_disk5 (q1 : Option Addr) (n1 d1 : Nat) (q2 : Option Addr) (n2 d2 : Nat) (u : ByteArray) (g c : Int) (x : World) : (Instr.field 31 (.agg #[.slice q1 n1 d1, .slice q2 n2 d2, .string u, .int .i64 g, .int .i64 c]) 0).run Tryz.prog x = .ok (.agg #[.slice q1 n1 d1, .slice q2 n2 d2]) x := by first | rfl | kernel_rfl
set_option maxHeartbeats 32000000 in
theorem fnAreaTorn_any (a0 : Option Addr) (len0 cap0 : Nat) (a1 : Option Addr) (len1 cap1 : Nat) (w : World) (hl0 : len0 ≤ 1048576) (hl1 : len1 ≤ 1048576) (c0 : CodeAt w.heap.size a0 len0 w) (c1 : CodeAt w.heap.size a1 len1 w) (ea eb ec ed : Addr) (hSn : Sents ea eb ec ed w) (hLd : Laid w) :
    Calls Tryz.prog 4 #[.slice a0 len0 cap0, .slice a1 len1 cap1] w fun e w' => e = .returned (.bool true) ∧ Below w.heap.size w w' := by
  have C0 : Hid (CodeAt w.heap.size a0 len0 w) := c0
  have C1 : Hid (CodeAt w.heap.size a1 len1 w) := c1
  have HSn : Hid (Sents ea eb ec ed w) := hSn
  have HLd : Hid (Laid w) := hLd
  have z0 : decide (1048576 < (len0 : Int)) = false := decide_eq_false (by omega)
  have z1 : decide (1048576 < (len1 : Int)) = false := decide_eq_false (by omega)
  clear c0 c1 hSn hLd
  go_enter Tryz.func4, Tryz.ntmps4
  go_wp2_with fail
  refine (drawAPut_any w.heap.size a0 len0 cap0 w hl0 (Nat.le_refl _) C0.out).mono ?_
  rintro e w1 ⟨⟨dq1, dc1, dq2, dc2, ds, dp, tx, st, rfl, d1, d2, dm1, dm2, htx, hdS⟩, bw1⟩
  have d1 : Hid (TxtAt w1 dq1 ds) := d1
  have d2 : Hid (PndAt w1 dq2 dp) := d2
  have ld1 := hdS.l1
  have ld2 := hdS.l2
  have HdS : Hid (SmallD ds dp) := hdS
  have sw1 : Hid (Below w.heap.size w w1) := bw1
  clear hdS bw1
  obtain ⟨W2, hW2⟩ : ∃ W2, W2 = w1.alloc (.cells #[.slice dq1 ds.length dc1, .slice dq2 dp.length dc2] 26) := ⟨_, rfl⟩
  have HW2 : Hid (W2 = w1.alloc (.cells #[.slice dq1 ds.length dc1, .slice dq2 dp.length dc2] 26)) := hW2
  have sW2 : Hid (Below w1.heap.size w1 W2) := by rw [hW2]; exact (Below.refl _ _).alloc (Nat.le_refl _) _
  have Kd : Hid (Bxs W2 w1.heap.size 26 #[.slice dq1 ds.length dc1, .slice dq2 dp.length dc2]) := by rw [hW2]; exact Bxs.new _ _ _
  have BW2 : Hid (Below w.heap.size w W2) := (chainB sw1.out sW2.out)
  have hzW2 := BW2.out.size
  clear hW2
  go_wp2_with fail
  rw [← HW2.out]
  refine (drawCrash_any w.heap.size a1 len1 cap1 W2 hl1 hzW2 (C1.out.below BW2.out)).mono ?_
  rintro e w3 ⟨⟨eq1, ec1, eq2, ec2, kq, kc, es, ep, L, rfl, e1, e2, e3, em1, em2, km, hL, heS⟩, bw3⟩
  have e1 : Hid (TxtAt w3 eq1 es) := e1
  have e2 : Hid (PndAt w3 eq2 ep) := e2
  have e3 : Hid (IntAt w3 kq L) := e3
  have le1 := heS.l1
  have le2 := heS.l2
  have HeS : Hid (SmallD es ep) := heS
  have sw3 : Hid (Below W2.heap.size W2 w3) := bw3
  clear heS bw3 hzW2
  obtain ⟨W4, hW4⟩ : ∃ W4, W4 = w3.alloc (.cells #[.slice eq1 es.length ec1, .slice eq2 ep.length ec2] 26) := ⟨_, rfl⟩
  have HW4 : Hid (W4 = w3.alloc (.cells #[.slice eq1 es.length ec1, .slice eq2 ep.length ec2] 26)) := hW4
  have sW4 : Hid (Below w3.heap.size w3 W4) := by rw [hW4]; exact (Below.refl _ _).alloc (Nat.le_refl _) _
  have Ke : Hid (Bxs W4 w3.heap.size 26 #[.slice eq1 es.length ec1, .slice eq2 ep.length ec2]) := by rw [hW4]; exact Bxs.new _ _ _
  have hcV := specAreaRead_any dq1 dc1 ds dq2 dc2 dp W4 (d1.out.below (chainB (chainB sW2.out sw3.out) sW4.out)) (d2.out.below (chainB (chainB sW2.out sw3.out) sW4.out)) (by omega) (by omega) dm1 dm2
  obtain ⟨VS, hVS⟩ : ∃ VS, VS = arS ds dp := ⟨_, rfl⟩
  obtain ⟨VP, hVP⟩ : ∃ VP, VP = arP ds dp := ⟨_, rfl⟩
  obtain ⟨VC, hVC⟩ : ∃ VC, VC = arC ds dp := ⟨_, rfl⟩
  obtain ⟨VT, hVT⟩ : ∃ VT, VT = arT ds dp := ⟨_, rfl⟩
  obtain ⟨VG, hVG⟩ : ∃ VG, VG = ((arG ds dp : Nat) : Int) := ⟨_, rfl⟩
  rw [← hVS, ← hVP, ← hVC, ← hVT, ← hVG] at hcV
  have HVE : Hid (VS = arS ds dp ∧ VP = arP ds dp ∧ VC = arC ds dp ∧ VT = arT ds dp ∧ VG = ((arG ds dp : Nat) : Int)) := ⟨hVS, hVP, hVC, hVT, hVG⟩
  have lV1 : VS.length ≤ 64 := by rw [hVS]; exact arS_len ds dp ld1
  have lV2 : VP.length ≤ 300 := by rw [hVP]; exact arP_len ds dp ld2
  have k0 := (Kd.out.below (chainB sw3.out sW4.out)).cell 0
  have k1 := (Kd.out.below (chainB sw3.out sW4.out)).cell 1
  rw [hW4] at k0 k1
  clear hW4 hVS hVP hVC hVT hVG
  go_wp2_with fail
  rw [← HW4.out]
  refine hcV.mono ?_
  rintro e w5 ⟨vv1, vv2, rfl, ov, bw5⟩
  obtain ⟨vq1, vc1, rfl, vm1, v1⟩ := ownS_form ov.own1
  obtain ⟨vq2, vc2, rfl, vm2, v2⟩ := ownP_form ov.own2
  have v1 : Hid (TxtAt w5 vq1 VS) := v1
  have v2 : Hid (PndAt w5 vq2 VP) := v2
  have sw5 : Hid (Below W4.heap.size W4 w5) := bw5
  clear ov bw5 hcV k0 k1
  obtain ⟨W6, hW6⟩ : ∃ W6, W6 = w5.alloc (.cells #[.slice vq1 VS.length vc1, .slice vq2 VP.length vc2, .string VT, .int .i64 VG, .int .i64 VC] 31) := ⟨_, rfl⟩
  have HW6 : Hid (W6 = w5.alloc (.cells #[.slice vq1 VS.length vc1, .slice vq2 VP.length vc2, .string VT, .int .i64 VG, .int .i64 VC] 31)) := hW6
  have sW6 : Hid (Below w5.heap.size w5 W6) := by rw [hW6]; exact (Below.refl _ _).alloc (Nat.le_refl _) _
  have Kv : Hid (Bxs W6 w5.heap.size 31 #[.slice vq1 VS.length vc1, .slice vq2 VP.length vc2, .string VT, .int .i64 VG, .int .i64 VC]) := by rw [hW6]; exact Bxs.new _ _ _
  have hcU := implAreaPut_any dq1 dc1 ds dq2 dc2 dp tx st ea eb ec ed W6 (d1.out.below (chainB (chainB (chainB (chainB sW2.out sw3.out) sW4.out) sw5.out) sW6.out)) (d2.out.below (chainB (chainB (chainB (chainB sW2.out sw3.out) sW4.out) sw5.out) sW6.out)) (by omega) (by omega) dm1 dm2 (by omega) (HSn.out.below (chainB (chainB (chainB (chainB (chainB sw1.out sW2.out) sw3.out) sW4.out) sw5.out) sW6.out)) (HLd.out.below (chainB (chainB (chainB (chainB (chainB sw1.out sW2.out) sw3.out) sW4.out) sw5.out) sW6.out))
  obtain ⟨US, hUS⟩ : ∃ US, US = puS ds dp tx st := ⟨_, rfl⟩
  obtain ⟨UP, hUP⟩ : ∃ UP, UP = puP ds dp tx st := ⟨_, rfl⟩
  obtain ⟨UC, hUC⟩ : ∃ UC, UC = puC ds dp tx st := ⟨_, rfl⟩
  rw [← hUS, ← hUP, ← hUC] at hcU
  have HUE : Hid (US = puS ds dp tx st ∧ UP = puP ds dp tx st ∧ UC = puC ds dp tx st) := ⟨hUS, hUP, hUC⟩
  have lU1 : US.length ≤ 64 := by rw [hUS]; exact puS_len ds dp tx st
  have lU2 : UP.length ≤ 300 := by rw [hUP]; exact puP_len ds dp tx st
  have k0 := (Kd.out.below (chainB (chainB (chainB sw3.out sW4.out) sw5.out) sW6.out)).cell 0
  have k1 := (Kd.out.below (chainB (chainB (chainB sw3.out sW4.out) sw5.out) sW6.out)).cell 1
  rw [hW6] at k0 k1
  clear hW6 hUS hUP hUC
  go_wp2_with fail
  rw [← HW6.out]
  refine hcU.mono ?_
  rintro e w7 ⟨uv1, uv2, rfl, ou, bw7⟩
  obtain ⟨uq1, uc1, rfl, um1, u1⟩ := ownS_form ou.own1
  obtain ⟨uq2, uc2, rfl, um2, u2⟩ := ownP_form ou.own2
  have u1 : Hid (TxtAt w7 uq1 US) := u1
  have u2 : Hid (PndAt w7 uq2 UP) := u2
  have sw7 : Hid (Below W6.heap.size W6 w7) := bw7
  clear ou bw7 hcU k0 k1
  obtain ⟨W8, hW8⟩ : ∃ W8, W8 = w7.alloc (.cells #[.slice uq1 US.length uc1, .slice uq2 UP.length uc2, .string ByteArray.empty, .int .i64 0, .int .i64 UC] 31) := ⟨_, rfl⟩
  have HW8 : Hid (W8 = w7.alloc (.cells #[.slice uq1 US.length uc1, .slice uq2 UP.length uc2, .string ByteArray.empty, .int .i64 0, .int .i64 UC] 31)) := hW8
  have sW8 : Hid (Below w7.heap.size w7 W8) := by rw [hW8]; exact (Below.refl _ _).alloc (Nat.le_refl _) _
  have Ku : Hid (Bxs W8 w7.heap.size 31 #[.slice uq1 US.length uc1, .slice uq2 UP.length uc2, .string ByteArray.empty, .int .i64 0, .int .i64 UC]) := by rw [hW8]; exact Bxs.new _ _ _
  have hcY := implAreaPut_any dq1 dc1 ds dq2 dc2 dp tx 1000 ea eb ec ed W8 (d1.out.below (chainB (chainB (chainB (chainB (chainB (chainB sW2.out sw3.out) sW4.out) sw5.out) sW6.out) sw7.out) sW8.out)) (d2.out.below (chainB (chainB (chainB (chainB (chainB (chainB sW2.out sw3.out) sW4.out) sw5.out) sW6.out) sw7.out) sW8.out)) (by omega) (by omega) dm1 dm2 (by omega) (HSn.out.below (chainB (chainB (chainB (chainB (chainB (chainB (chainB sw1.out sW2.out) sw3.out) sW4.out) sw5.out) sW6.out) sw7.out) sW8.out)) (HLd.out.below (chainB (chainB (chainB (chainB (chainB (chainB (chainB sw1.out sW2.out) sw3.out) sW4.out) sw5.out) sW6.out) sw7.out) sW8.out))
  obtain ⟨YS, hYS⟩ : ∃ YS, YS = puS ds dp tx 1000 := ⟨_, rfl⟩
  obtain ⟨YP, hYP⟩ : ∃ YP, YP = puP ds dp tx 1000 := ⟨_, rfl⟩
  obtain ⟨YC, hYC⟩ : ∃ YC, YC = puC ds dp tx 1000 := ⟨_, rfl⟩
  rw [← hYS, ← hYP, ← hYC] at hcY
  have HYE : Hid (YS = puS ds dp tx 1000 ∧ YP = puP ds dp tx 1000 ∧ YC = puC ds dp tx 1000) := ⟨hYS, hYP, hYC⟩
  have lY1 : YS.length ≤ 64 := by rw [hYS]; exact puS_len ds dp tx 1000
  have lY2 : YP.length ≤ 300 := by rw [hYP]; exact puP_len ds dp tx 1000
  have k0 := (Kd.out.below (chainB (chainB (chainB (chainB (chainB sw3.out sW4.out) sw5.out) sW6.out) sw7.out) sW8.out)).cell 0
  have k1 := (Kd.out.below (chainB (chainB (chainB (chainB (chainB sw3.out sW4.out) sw5.out) sW6.out) sw7.out) sW8.out)).cell 1
  rw [hW8] at k0 k1
  clear hW8 hYS hYP hYC
  go_wp2_with fail
  rw [← HW8.out]
  refine hcY.mono ?_
  rintro e w9 ⟨yv1, yv2, rfl, oy, bw9⟩
  obtain ⟨yq1, yc1, rfl, ym1, y1⟩ := ownS_form oy.own1
  obtain ⟨yq2, yc2, rfl, ym2, y2⟩ := ownP_form oy.own2
  have y1 : Hid (TxtAt w9 yq1 YS) := y1
  have y2 : Hid (PndAt w9 yq2 YP) := y2
  have sw9 : Hid (Below W8.heap.size W8 w9) := bw9
  clear oy bw9 hcY k0 k1
  obtain ⟨W10, hW10⟩ : ∃ W10, W10 = w9.alloc (.cells #[.slice yq1 YS.length yc1, .slice yq2 YP.length yc2, .string ByteArray.empty, .int .i64 0, .int .i64 YC] 31) := ⟨_, rfl⟩
  have HW10 : Hid (W10 = w9.alloc (.cells #[.slice yq1 YS.length yc1, .slice yq2 YP.length yc2, .string ByteArray.empty, .int .i64 0, .int .i64 YC] 31)) := hW10
  have sW10 : Hid (Below w9.heap.size w9 W10) := by rw [hW10]; exact (Below.refl _ _).alloc (Nat.le_refl _) _
  have Ky : Hid (Bxs W10 w9.heap.size 31 #[.slice yq1 YS.length yc1, .slice yq2 YP.length yc2, .string ByteArray.empty, .int .i64 0, .int .i64 YC]) := by rw [hW10]; exact Bxs.new _ _ _
  have BW : Hid (Below w.heap.size w W10) := (chainB (chainB (chainB (chainB (chainB (chainB (chainB (chainB (chainB sw1.out sW2.out) sw3.out) sW4.out) sw5.out) sW6.out) sw7.out) sW8.out) sw9.out) sW10.out)
  have HX : Hid (∀ x, Below W10.heap.size W10 x → x.cell? ⟨w1.heap.size, 0, none⟩ = some (.slice dq1 ds.length dc1) ∧ x.cell? ⟨w1.heap.size, 1, none⟩ = some (.slice dq2 dp.length dc2) ∧ x.cell? ⟨w3.heap.size, 0, none⟩ = some (.slice eq1 es.length ec1) ∧ x.cell? ⟨w3.heap.size, 1, none⟩ = some (.slice eq2 ep.length ec2) ∧ x.cell? ⟨w5.heap.size, 0, none⟩ = some (.slice vq1 VS.length vc1) ∧ x.cell? ⟨w5.heap.size, 1, none⟩ = some (.slice vq2 VP.length vc2) ∧ x.cell? ⟨w5.heap.size, 2, none⟩ = some (.string VT) ∧ x.cell? ⟨w5.heap.size, 3, none⟩ = some (.int .i64 VG) ∧ x.cell? ⟨w5.heap.size, 4, none⟩ = some (.int .i64 VC) ∧ x.cell? ⟨w7.heap.size, 0, none⟩ = some (.slice uq1 US.length uc1) ∧ x.cell? ⟨w7.heap.size, 1, none⟩ = some (.slice uq2 UP.length uc2) ∧ x.cell? ⟨w7.heap.size, 2, none⟩ = some (.string ByteArray.empty) ∧ x.cell? ⟨w7.heap.size, 3, none⟩ = some (.int .i64 0) ∧ x.cell? ⟨w7.heap.size, 4, none⟩ = some (.int .i64 UC) ∧ x.cell? ⟨w9.heap.size, 0, none⟩ = some (.slice yq1 YS.length yc1) ∧ x.cell? ⟨w9.heap.size, 1, none⟩ = some (.slice yq2 YP.length yc2) ∧ x.cell? ⟨w9.heap.size, 2, none⟩ = some (.string ByteArray.empty) ∧ x.cell? ⟨w9.heap.size, 3, none⟩ = some (.int .i64 0) ∧ x.cell? ⟨w9.heap.size, 4, none⟩ = some (.int .i64 YC)) := fun x hb =>
    ⟨(Kd.out.below (chainB (chainB (chainB (chainB (chainB (chainB (chainB (chainB sw3.out sW4.out) sw5.out) sW6.out) sw7.out) sW8.out) sw9.out) sW10.out) hb)).cell 0, (Kd.out.below (chainB (chainB (chainB (chainB (chainB (chainB (chainB (chainB sw3.out sW4.out) sw5.out) sW6.out) sw7.out) sW8.out) sw9.out) sW10.out) hb)).cell 1, (Ke.out.below (chainB (chainB (chainB (chainB (chainB (chainB sw5.out sW6.out) sw7.out) sW8.out) sw9.out) sW10.out) hb)).cell 0, (Ke.out.below (chainB (chainB (chainB (chainB (chainB (chainB sw5.out sW6.out) sw7.out) sW8.out) sw9.out) sW10.out) hb)).cell 1, (Kv.out.below (chainB (chainB (chainB (chainB sw7.out sW8.out) sw9.out) sW10.out) hb)).cell 0, (Kv.out.below (chainB (chainB (chainB (chainB sw7.out sW8.out) sw9.out) sW10.out) hb)).cell 1, (Kv.out.below (chainB (chainB (chainB (chainB sw7.out sW8.out) sw9.out) sW10.out) hb)).cell 2, (Kv.out.below (chainB (chainB (chainB (chainB sw7.out sW8.out) sw9.out) sW10.out) hb)).cell 3, (Kv.out.below (chainB (chainB (chainB (chainB sw7.out sW8.out) sw9.out) sW10.out) hb)).cell 4, (Ku.out.below (chainB (chainB sw9.out sW10.out) hb)).cell 0, (Ku.out.below (chainB (chainB sw9.out sW10.out) hb)).cell 1, (Ku.out.below (chainB (chainB sw9.out sW10.out) hb)).cell 2, (Ku.out.below (chainB (chainB sw9.out sW10.out) hb)).cell 3, (Ku.out.below (chainB (chainB sw9.out sW10.out) hb)).cell 4, (Ky.out.below (chainB (Below.refl _ _) hb)).cell 0, (Ky.out.below (chainB (Below.refl _ _) hb)).cell 1, (Ky.out.below (chainB (Below.refl _ _) hb)).cell 2, (Ky.out.below (chainB (Below.refl _ _) hb)).cell 3, (Ky.out.below (chainB (Below.refl _ _) hb)).cell 4⟩
  have Td : Hid (∀ x, Below W10.heap.size W10 x → TxtAt x dq1 ds ∧ PndAt x dq2 dp) := fun x hb => ⟨d1.out.below (chainB (chainB (chainB (chainB (chainB (chainB (chainB (chainB (chainB sW2.out sw3.out) sW4.out) sw5.out) sW6.out) sw7.out) sW8.out) sw9.out) sW10.out) hb), d2.out.below (chainB (chainB (chainB (chainB (chainB (chainB (chainB (chainB (chainB sW2.out sw3.out) sW4.out) sw5.out) sW6.out) sw7.out) sW8.out) sw9.out) sW10.out) hb)⟩
  have Te : Hid (∀ x, Below W10.heap.size W10 x → TxtAt x eq1 es ∧ PndAt x eq2 ep) := fun x hb => ⟨e1.out.below (chainB (chainB (chainB (chainB (chainB (chainB (chainB sW4.out sw5.out) sW6.out) sw7.out) sW8.out) sw9.out) sW10.out) hb), e2.out.below (chainB (chainB (chainB (chainB (chainB (chainB (chainB sW4.out sw5.out) sW6.out) sw7.out) sW8.out) sw9.out) sW10.out) hb)⟩
  have Tv : Hid (∀ x, Below W10.heap.size W10 x → TxtAt x vq1 VS ∧ PndAt x vq2 VP) := fun x hb => ⟨v1.out.below (chainB (chainB (chainB (chainB (chainB sW6.out sw7.out) sW8.out) sw9.out) sW10.out) hb), v2.out.below (chainB (chainB (chainB (chainB (chainB sW6.out sw7.out) sW8.out) sw9.out) sW10.out) hb)⟩
  have Tu : Hid (∀ x, Below W10.heap.size W10 x → TxtAt x uq1 US ∧ PndAt x uq2 UP) := fun x hb => ⟨u1.out.below (chainB (chainB (chainB sW8.out sw9.out) sW10.out) hb), u2.out.below (chainB (chainB (chainB sW8.out sw9.out) sW10.out) hb)⟩
  have Ty : Hid (∀ x, Below W10.heap.size W10 x → TxtAt x yq1 YS ∧ PndAt x yq2 YP) := fun x hb => ⟨y1.out.below (chainB sW10.out hb), y2.out.below (chainB sW10.out hb)⟩
  have TL : Hid (∀ x, Below W10.heap.size W10 x → IntAt x kq L) := fun x hb => e3.out.below (chainB (chainB (chainB (chainB (chainB (chainB (chainB sW4.out sw5.out) sW6.out) sw7.out) sW8.out) sw9.out) sW10.out) hb)
  clear hW10 d1 d2 e1 e2 v1 v2 u1 u2 y1 y2 Kd Ke Kv Ku Ky sw1 sW2 sw3 sW4 sw5 sW6 sw7 sW8 sw9 sW10 HW2 HW4 HW6 HW8
  have QuS : Hid (∀ x, Below W10.heap.size W10 x → Calls Tryz.prog 13 #[.agg #[.slice dq1 ds.length dc1, .slice dq2 dp.length dc2], .string tx, .int .i64 st] x fun e x1 => (∃ q1 c1 q2 c2, e = .returned (.agg #[.slice q1 US.length c1, .slice q2 UP.length c2, .string ByteArray.empty, .int .i64 0, .int .i64 UC]) ∧ US.length ≤ c1 ∧ UP.length ≤ c2 ∧ TxtAt x1 q1 US ∧ PndAt x1 q2 UP) ∧ Below x.heap.size x x1) := fun x hb => by
    have h0 := specAreaPut_any dq1 dc1 ds dq2 dc2 dp tx st x (Td.out x hb).1 (Td.out x hb).2 (by omega) (by omega) dm1 dm2 (by omega)
    rw [← HUE.out.1, ← HUE.out.2.1, ← HUE.out.2.2] at h0
    exact h0.mono (by
    rintro e x1 ⟨v1, v2, rfl, ho, h⟩
    obtain ⟨q1, c1, rfl, m1, t1⟩ := ownS_form ho.own1
    obtain ⟨q2, c2, rfl, m2, t2⟩ := ownP_form ho.own2
    exact ⟨⟨q1, c1, q2, c2, rfl, m1, m2, t1, t2⟩, h⟩)
  have QyS : Hid (∀ x, Below W10.heap.size W10 x → Calls Tryz.prog 13 #[.agg #[.slice dq1 ds.length dc1, .slice dq2 dp.length dc2], .string tx, .int .i64 1000] x fun e x1 => (∃ q1 c1 q2 c2, e = .returned (.agg #[.slice q1 YS.length c1, .slice q2 YP.length c2, .string ByteArray.empty, .int .i64 0, .int .i64 YC]) ∧ YS.length ≤ c1 ∧ YP.length ≤ c2 ∧ TxtAt x1 q1 YS ∧ PndAt x1 q2 YP) ∧ Below x.heap.size x x1) := fun x hb => by
    have h0 := specAreaPut_any dq1 dc1 ds dq2 dc2 dp tx 1000 x (Td.out x hb).1 (Td.out x hb).2 (by omega) (by omega) dm1 dm2 (by omega)
    rw [← HYE.out.1, ← HYE.out.2.1, ← HYE.out.2.2] at h0
    exact h0.mono (by
    rintro e x1 ⟨v1, v2, rfl, ho, h⟩
    obtain ⟨q1, c1, rfl, m1, t1⟩ := ownS_form ho.own1
    obtain ⟨q2, c2, rfl, m2, t2⟩ := ownP_form ho.own2
    exact ⟨⟨q1, c1, q2, c2, rfl, m1, m2, t1, t2⟩, h⟩)
  have QLu : Hid (∀ x q1 c1 q2 c2, Below W10.heap.size W10 x → US.length ≤ c1 → UP.length ≤ c2 → TxtAt x q1 US → PndAt x q2 UP → Calls Tryz.prog 18 #[.agg #[.slice uq1 US.length uc1, .slice uq2 UP.length uc2], .agg #[.slice q1 US.length c1, .slice q2 UP.length c2]] x fun e x1 => e = .returned (.bool true) ∧ Below x.heap.size x x1) := fun x q1 c1 q2 c2 hb m1 m2 h1 h2 => lwDisk_any uq1 uq2 q1 q2 uc1 uc2 c1 c2 US UP x (Tu.out x hb).1 (Tu.out x hb).2 h1 h2 (by omega) (by omega) um1 um2 m1 m2
  have BR : Hid (Below W10.heap.size W10 W10) := Below.refl _ _
  obtain ⟨BB, hBB⟩ : ∃ BB : Bool, BB = !(decide (UC = 0 ∧ YC = 0 ∧ dp = [])) := ⟨_, rfl⟩
  have HBB : Hid (BB = !(decide (UC = 0 ∧ YC = 0 ∧ dp = []))) := hBB
  have hfc := fun q1 n1 d1 q2 n2 d2 => field_code5 q1 n1 d1 q2 n2 d2 ByteArray.empty 0
  have hfd := fun q1 n1 d1 q2 n2 d2 => field_disk5 q1 n1 d1 q2 n2 d2 ByteArray.empty 0
  clear hBB
  go_upto_region 8 with fail
  rw [← HW10.out]
  go_cut [77] from 43 to 77 (fun s77 wx => s77 = .bool BB ∧ Hid (Below W10.heap.size W10 wx))
  case first =>
    by_cases hu : UC = 0
    · have hub : (UC != 0) = false := by rw [hu]; rfl
      by_cases hy : YC = 0
      · have hyb : (YC != 0) = false := by rw [hy]; rfl
        by_cases hp : dp = []
        · have hB : BB = false := by rw [HBB.out]; simp [hu, hy, hp]
          have hl0 : dp.length = 0 := by rw [hp]; rfl
          have d0 : decide (0 < (dp.length : Int)) = false := decide_eq_false (by omega)
          have d0n : decide (0 < dp.length) = false := decide_eq_false (by omega)
          subst hB
          clear hp hl0 HBB hu hy
          refine wp_region_held_drew (S := (fun w' => w'.cell? ⟨w1.heap.size, 0, none⟩ = some (.slice dq1 ds.length dc1) ∧ w'.cell? ⟨w1.heap.size, 1, none⟩ = some (.slice dq2 dp.length dc2) ∧ w'.cell? ⟨w3.heap.size, 0, none⟩ = some (.slice eq1 es.length ec1) ∧ w'.cell? ⟨w3.heap.size, 1, none⟩ = some (.slice eq2 ep.length ec2) ∧ w'.cell? ⟨w5.heap.size, 0, none⟩ = some (.slice vq1 VS.length vc1) ∧ w'.cell? ⟨w5.heap.size, 1, none⟩ = some (.slice vq2 VP.length vc2) ∧ w'.cell? ⟨w5.heap.size, 2, none⟩ = some (.string VT) ∧ w'.cell? ⟨w5.heap.size, 3, none⟩ = some (.int .i64 VG) ∧ w'.cell? ⟨w5.heap.size, 4, none⟩ = some (.int .i64 VC) ∧ w'.cell? ⟨w7.heap.size, 0, none⟩ = some (.slice uq1 US.length uc1) ∧ w'.cell? ⟨w7.heap.size, 1, none⟩ = some (.slice uq2 UP.length uc2) ∧ w'.cell? ⟨w7.heap.size, 2, none⟩ = some (.string ByteArray.empty) ∧ w'.cell? ⟨w7.heap.size, 3, none⟩ = some (.int .i64 0) ∧ w'.cell? ⟨w7.heap.size, 4, none⟩ = some (.int .i64 UC) ∧ w'.cell? ⟨w9.heap.size, 0, none⟩ = some (.slice yq1 YS.length yc1) ∧ w'.cell? ⟨w9.heap.size, 1, none⟩ = some (.slice yq2 YP.length yc2) ∧ w'.cell? ⟨w9.heap.size, 2, none⟩ = some (.string ByteArray.empty) ∧ w'.cell? ⟨w9.heap.size, 3, none⟩ = some (.int .i64 0) ∧ w'.cell? ⟨w9.heap.size, 4, none⟩ = some (.int .i64 YC))) (by kernel_rfl) (HX.out _ BR.out.drew) (fun hHeld => ?_)
          refine take_at 0 (v := ?_) rfl (by kernel_rfl) (by kernel_rfl) (by kernel_rfl) (fun _ _ _ h => h) hHeld (Or.inl ⟨by rfl, ?_⟩) ?_
          rotate_left
          · (intro w hSw; (try dsimp only at hSw); go_simp; try with_reducible rfl)
          simp only [Act.put, List.setIfInBounds_toArray, List.set_cons_zero, List.set_cons_succ]
          refine take_at 1 (v := ?_) rfl (by kernel_rfl) (by kernel_rfl) (by kernel_rfl) (fun _ _ _ h => h) hHeld (Or.inl ⟨by rfl, ?_⟩) ?_
          rotate_left
          · (intro w hSw; (try dsimp only at hSw); go_simp; try with_reducible rfl)
          simp only [Act.put, List.setIfInBounds_toArray, List.set_cons_zero, List.set_cons_succ]
          refine take_at 2 (v := ?_) rfl (by kernel_rfl) (by kernel_rfl) (by kernel_rfl) (fun _ _ _ h => h) hHeld (Or.inl ⟨by rfl, ?_⟩) ?_
          rotate_left
          · (intro w hSw; (try dsimp only at hSw); go_simp; try with_reducible rfl)
          simp only [Act.put, List.setIfInBounds_toArray, List.set_cons_zero, List.set_cons_succ]
          refine take_at 3 (v := ?_) rfl (by kernel_rfl) (by kernel_rfl) (by kernel_rfl) (fun _ _ _ h => h) hHeld (Or.inl ⟨by rfl, ?_⟩) ?_
          rotate_left
          · (intro w hSw; (try dsimp only at hSw); go_simp; try with_reducible rfl)
          simp only [Act.put, List.setIfInBounds_toArray, List.set_cons_zero, List.set_cons_succ]
          refine take_at 4 (v := ?_) rfl (by kernel_rfl) (by kernel_rfl) (by kernel_rfl) (fun _ _ _ h => h) hHeld (Or.inl ⟨by rfl, ?_⟩) ?_
          rotate_left
          · (intro w hSw; (try dsimp only at hSw); go_simp; try with_reducible rfl)
          simp only [Act.put, List.setIfInBounds_toArray, List.set_cons_zero, List.set_cons_succ]
          refine ready_at 5 rfl (by kernel_rfl) (fun K hK => ?_)
          go_simp
          (go_at_call 13; with_reducible refine (QuS.out _ BR.out.drew).mono ?_; rintro e y1 ⟨⟨a1q, a1c, a2q, a2c, rfl, am1, am2, at1, at2⟩, z1⟩; have z1 : Below W10.heap.size W10 y1 := chainB BR.out.drew z1)
          refine hK.out _ _ (HX.out _ z1) (fun hHeld => ?_)
          clear hK K
          try simp only [Act.put, List.setIfInBounds_toArray, List.set_cons_zero, List.set_cons_succ]
          refine take_at 6 (v := ?_) rfl (by kernel_rfl) (by kernel_rfl) (by kernel_rfl) (fun _ _ _ h => h) hHeld (Or.inl ⟨by rfl, ?_⟩) ?_
          rotate_left
          · (intro w hSw; (try dsimp only at hSw); go_simp; try with_reducible rfl)
          simp only [Act.put, List.setIfInBounds_toArray, List.set_cons_zero, List.set_cons_succ]
          refine take_at 7 (v := ?_) rfl (by kernel_rfl) (by kernel_rfl) (by kernel_rfl) (fun _ _ _ h => h) hHeld (Or.inl ⟨by rfl, ?_⟩) ?_
          rotate_left
          · (intro w hSw; (try dsimp only at hSw); go_simp; try with_reducible rfl)
          simp only [Act.put, List.setIfInBounds_toArray, List.set_cons_zero, List.set_cons_succ]
          refine take_at 8 (v := ?_) rfl (by kernel_rfl) (by kernel_rfl) (by kernel_rfl) (fun _ _ _ h => h) hHeld (Or.inl ⟨by rfl, ?_⟩) ?_
          rotate_left
          · (intro w hSw; (try dsimp only at hSw); go_simp; try with_reducible rfl)
          simp only [Act.put, List.setIfInBounds_toArray, List.set_cons_zero, List.set_cons_succ]
          refine take_at 9 (v := ?_) rfl (by kernel_rfl) (by kernel_rfl) (by kernel_rfl) (fun _ _ _ h => h) hHeld (Or.inl ⟨by rfl, ?_⟩) ?_
          rotate_left
          · (intro w hSw; (try dsimp only at hSw); go_simp; try with_reducible rfl)
          simp only [Act.put, List.setIfInBounds_toArray, List.set_cons_zero, List.set_cons_succ]
          refine take_at 10 (v := ?_) rfl (by kernel_rfl) (by kernel_rfl) (by kernel_rfl) (fun _ _ _ h => h) hHeld (Or.inl ⟨by rfl, ?_⟩) ?_
          rotate_left
          · (intro w hSw; (try dsimp only at hSw); go_simp; try with_reducible rfl)
          simp only [Act.put, List.setIfInBounds_toArray, List.set_cons_zero, List.set_cons_succ]
          refine take_at 11 (v := ?_) rfl (by kernel_rfl) (by kernel_rfl) (by kernel_rfl) (fun _ _ _ h => h) hHeld (Or.inl ⟨by rfl, ?_⟩) ?_
          rotate_left
          · (intro w hSw; (try dsimp only at hSw); go_simp; try with_reducible rfl)
          simp only [Act.put, List.setIfInBounds_toArray, List.set_cons_zero, List.set_cons_succ]
          refine take_at 12 (v := ?_) rfl (by kernel_rfl) (by kernel_rfl) (by kernel_rfl) (fun _ _ _ h => h) hHeld (Or.inl ⟨by rfl, ?_⟩) ?_
          rotate_left
          · (intro w hSw; (try dsimp only at hSw); go_simp; try with_reducible rfl)
          simp only [Act.put, List.setIfInBounds_toArray, List.set_cons_zero, List.set_cons_succ]
          refine take_at 13 (v := ?_) rfl (by kernel_rfl) (by kernel_rfl) (by kernel_rfl) (fun _ _ _ h => h) hHeld (Or.inl ⟨by rfl, ?_⟩) ?_
          rotate_left
          · (intro w hSw; (try dsimp only at hSw); go_simp; try with_reducible rfl)
          simp only [Act.put, List.setIfInBounds_toArray, List.set_cons_zero, List.set_cons_succ]
          refine ready_at 14 rfl (by kernel_rfl) (fun K hK => ?_)
          go_simp
          (go_at_call 13; with_reducible refine (QuS.out _ z1).mono ?_; rintro e y2 ⟨⟨b1q, b1c, b2q, b2c, rfl, bm1, bm2, bt1, bt2⟩, z2⟩; have z2 : Below W10.heap.size W10 y2 := chainB z1 z2)
          refine hK.out _ _ (HX.out _ z2) (fun hHeld => ?_)
          clear hK K
          try simp only [Act.put, List.setIfInBounds_toArray, List.set_cons_zero, List.set_cons_succ]
          refine take_at 15 (v := ?_) rfl (by kernel_rfl) (by kernel_rfl) (by kernel_rfl) (fun _ _ _ h => h) hHeld (Or.inl ⟨by rfl, ?_⟩) ?_
          rotate_left
          · (intro w hSw; (try dsimp only at hSw); go_simp; try with_reducible rfl)
          simp only [Act.put, List.setIfInBounds_toArray, List.set_cons_zero, List.set_cons_succ]
          refine ready_at 16 rfl (by kernel_rfl) (fun K hK => ?_)
          go_simp
          (go_at_call 18; with_reducible refine (QLu.out _ _ _ _ _ z2 bm1 bm2 bt1 bt2).mono ?_; rintro e y3 ⟨rfl, z3⟩; have z3 : Below W10.heap.size W10 y3 := chainB z2 z3)
          refine hK.out _ _ (HX.out _ z3) (fun hHeld => ?_)
          clear hK K
          try simp only [Act.put, List.setIfInBounds_toArray, List.set_cons_zero, List.set_cons_succ]
          refine take_at 17 (v := ?_) rfl (by kernel_rfl) (by kernel_rfl) (by kernel_rfl) (fun _ _ _ h => h) hHeld (Or.inl ⟨by rfl, ?_⟩) ?_
          rotate_left
          · (intro w hSw; (try dsimp only at hSw); go_simp; try with_reducible rfl)
          simp only [Act.put, List.setIfInBounds_toArray, List.set_cons_zero, List.set_cons_succ]
          refine take_at 18 (v := ?_) rfl (by kernel_rfl) (by kernel_rfl) (by kernel_rfl) (fun _ _ _ h => h) hHeld (Or.inl ⟨by rfl, ?_⟩) ?_
          rotate_left
          · (intro w hSw; (try dsimp only at hSw); go_simp; try with_reducible rfl)
          simp only [Act.put, List.setIfInBounds_toArray, List.set_cons_zero, List.set_cons_succ]
          refine take_at 19 (v := ?_) rfl (by kernel_rfl) (by kernel_rfl) (by kernel_rfl) (fun _ _ _ h => h) hHeld (Or.inl ⟨by rfl, ?_⟩) ?_
          rotate_left
          · (intro w hSw; (try dsimp only at hSw); go_simp; try with_reducible rfl)
          simp only [Act.put, List.setIfInBounds_toArray, List.set_cons_zero, List.set_cons_succ]
          refine take_at 20 (v := ?_) rfl (by kernel_rfl) (by kernel_rfl) (by kernel_rfl) (fun _ _ _ h => h) hHeld (Or.inl ⟨by rfl, ?_⟩) ?_
          rotate_left
          · (intro w hSw; (try dsimp only at hSw); go_simp; try with_reducible rfl)
          simp only [Act.put, List.setIfInBounds_toArray, List.set_cons_zero, List.set_cons_succ]
          refine take_at 21 (v := ?_) rfl (by kernel_rfl) (by kernel_rfl) (by kernel_rfl) (fun _ _ _ h => h) hHeld (Or.inl ⟨by rfl, ?_⟩) ?_
          rotate_left
          · (intro w hSw; (try dsimp only at hSw); go_simp; try with_reducible rfl)
          simp only [Act.put, List.setIfInBounds_toArray, List.set_cons_zero, List.set_cons_succ]
          refine take_at 22 (v := ?_) rfl (by kernel_rfl) (by kernel_rfl) (by kernel_rfl) (fun _ _ _ h => h) hHeld (Or.inl ⟨by rfl, ?_⟩) ?_
          rotate_left
          · (intro w hSw; (try dsimp only at hSw); go_simp; try with_reducible rfl)
          simp only [Act.put, List.setIfInBounds_toArray, List.set_cons_zero, List.set_cons_succ]
          refine take_at 23 (v := ?_) rfl (by kernel_rfl) (by kernel_rfl) (by kernel_rfl) (fun _ _ _ h => h) hHeld (Or.inl ⟨by rfl, ?_⟩) ?_
          rotate_left
          · (intro w hSw; (try dsimp only at hSw); go_simp; try with_reducible rfl)
          simp only [Act.put, List.setIfInBounds_toArray, List.set_cons_zero, List.set_cons_succ]
          refine take_at 24 (v := ?_) rfl (by kernel_rfl) (by kernel_rfl) (by kernel_rfl) (fun _ _ _ h => h) hHeld (Or.inl ⟨by rfl, ?_⟩) ?_
          rotate_left
          · (intro w hSw; (try dsimp only at hSw); go_simp; try with_reducible rfl)
          simp only [Act.put, List.setIfInBounds_toArray, List.set_cons_zero, List.set_cons_succ]
          refine take_at 25 (v := ?_) rfl (by kernel_rfl) (by kernel_rfl) (by kernel_rfl) (fun _ _ _ h => h) hHeld (Or.inl ⟨by rfl, ?_⟩) ?_
          rotate_left
          · (intro w hSw; (try dsimp only at hSw); go_simp; try with_reducible rfl)
          simp only [Act.put, List.setIfInBounds_toArray, List.set_cons_zero, List.set_cons_succ]
          refine take_at 26 (v := ?_) rfl (by kernel_rfl) (by kernel_rfl) (by kernel_rfl) (fun _ _ _ h => h) hHeld (Or.inl ⟨by rfl, ?_⟩) ?_
          rotate_left
          · (intro w hSw; (try dsimp only at hSw); go_simp; try with_reducible rfl)
          simp only [Act.put, List.setIfInBounds_toArray, List.set_cons_zero, List.set_cons_succ]
          refine take_at 27 (v := ?_) rfl (by kernel_rfl) (by kernel_rfl) (by kernel_rfl) (fun _ _ _ h => h) hHeld (Or.inl ⟨by rfl, ?_⟩) ?_
          rotate_left
          · (intro w hSw; (try dsimp only at hSw); go_simp; try with_reducible rfl)
          simp only [Act.put, List.setIfInBounds_toArray, List.set_cons_zero, List.set_cons_succ]
          refine take_at 28 (v := ?_) rfl (by kernel_rfl) (by kernel_rfl) (by kernel_rfl) (fun _ _ _ h => h) hHeld (Or.inl ⟨by rfl, ?_⟩) ?_
          rotate_left
          · (intro w hSw; (try dsimp only at hSw); go_simp; try with_reducible rfl)
          simp only [Act.put, List.setIfInBounds_toArray, List.set_cons_zero, List.set_cons_succ]
          refine take_at 29 (v := ?_) rfl (by kernel_rfl) (by kernel_rfl) (by kernel_rfl) (fun _ _ _ h => h) hHeld (Or.inl ⟨by rfl, ?_⟩) ?_
          rotate_left
          · (intro w hSw; (try dsimp only at hSw); go_simp; try with_reducible rfl)
          simp only [Act.put, List.setIfInBounds_toArray, List.set_cons_zero, List.set_cons_succ]
          refine take_at 30 (v := ?_) rfl (by kernel_rfl) (by kernel_rfl) (by kernel_rfl) (fun _ _ _ h => h) hHeld (Or.inl ⟨by rfl, ?_⟩) ?_
          rotate_left
          · (intro w hSw; (try dsimp only at hSw); go_simp; try with_reducible rfl)
          simp only [Act.put, List.setIfInBounds_toArray, List.set_cons_zero, List.set_cons_succ]
          refine take_at 31 (v := ?_) rfl (by kernel_rfl) (by kernel_rfl) (by kernel_rfl) (fun _ _ _ h => h) hHeld (Or.inl ⟨by rfl, ?_⟩) ?_
          rotate_left
          · (intro w hSw; (try dsimp only at hSw); go_simp; try with_reducible rfl)
          simp only [Act.put, List.setIfInBounds_toArray, List.set_cons_zero, List.set_cons_succ]
          refine take_at 32 (v := ?_) rfl (by kernel_rfl) (by kernel_rfl) (by kernel_rfl) (fun _ _ _ h => h) hHeld (Or.inl ⟨by rfl, ?_⟩) ?_
          rotate_left
          · (intro w hSw; (try dsimp only at hSw); go_simp; try with_reducible rfl)
          simp only [Act.put, List.setIfInBounds_toArray, List.set_cons_zero, List.set_cons_succ]
          refine take_at 33 (v := ?_) rfl (by kernel_rfl) (by kernel_rfl) (by kernel_rfl) (fun _ _ _ h => h) hHeld (Or.inl ⟨by rfl, ?_⟩) ?_
          rotate_left
          · (intro w hSw; (try dsimp only at hSw); go_simp; try with_reducible rfl)
          simp only [Act.put, List.setIfInBounds_toArray, List.set_cons_zero, List.set_cons_succ]
          refine take_at 34 (v := ?_) rfl (by kernel_rfl) (by kernel_rfl) (by kernel_rfl) (fun _ _ _ h => h) hHeld (Or.inl ⟨by rfl, ?_⟩) ?_
          rotate_left
          · (intro w hSw; (try dsimp only at hSw); go_simp; try with_reducible rfl)
          simp only [Act.put, List.setIfInBounds_toArray, List.set_cons_zero, List.set_cons_succ]
          refine wpAnyH_done (by kernel_rfl) ?_ _
          go_wp2_with fail
          go_meet
          exact ⟨rfl, z3⟩
        · have hB : BB = true := by rw [HBB.out]; simp [hp]
          have hl0 : 0 < dp.length := List.length_pos_iff.2 hp
          have d0 : decide (0 < (dp.length : Int)) = true := decide_eq_true (by omega)
          have d0n : decide (0 < dp.length) = true := decide_eq_true hl0
          subst hB
          clear hp hl0 HBB hu hy
          refine wp_region_held_drew (S := (fun w' => w'.cell? ⟨w1.heap.size, 0, none⟩ = some (.slice dq1 ds.length dc1) ∧ w'.cell? ⟨w1.heap.size, 1, none⟩ = some (.slice dq2 dp.length dc2) ∧ w'.cell? ⟨w3.heap.size, 0, none⟩ = some (.slice eq1 es.length ec1) ∧ w'.cell? ⟨w3.heap.size, 1, none⟩ = some (.slice eq2 ep.length ec2) ∧ w'.cell? ⟨w5.heap.size, 0, none⟩ = some (.slice vq1 VS.length vc1) ∧ w'.cell? ⟨w5.heap.size, 1, none⟩ = some (.slice vq2 VP.length vc2) ∧ w'.cell? ⟨w5.heap.size, 2, none⟩ = some (.string VT) ∧ w'.cell? ⟨w5.heap.size, 3, none⟩ = some (.int .i64 VG) ∧ w'.cell? ⟨w5.heap.size, 4, none⟩ = some (.int .i64 VC) ∧ w'.cell? ⟨w7.heap.size, 0, none⟩ = some (.slice uq1 US.length uc1) ∧ w'.cell? ⟨w7.heap.size, 1, none⟩ = some (.slice uq2 UP.length uc2) ∧ w'.cell? ⟨w7.heap.size, 2, none⟩ = some (.string ByteArray.empty) ∧ w'.cell? ⟨w7.heap.size, 3, none⟩ = some (.int .i64 0) ∧ w'.cell? ⟨w7.heap.size, 4, none⟩ = some (.int .i64 UC) ∧ w'.cell? ⟨w9.heap.size, 0, none⟩ = some (.slice yq1 YS.length yc1) ∧ w'.cell? ⟨w9.heap.size, 1, none⟩ = some (.slice yq2 YP.length yc2) ∧ w'.cell? ⟨w9.heap.size, 2, none⟩ = some (.string ByteArray.empty) ∧ w'.cell? ⟨w9.heap.size, 3, none⟩ = some (.int .i64 0) ∧ w'.cell? ⟨w9.heap.size, 4, none⟩ = some (.int .i64 YC))) (by kernel_rfl) (HX.out _ BR.out.drew) (fun hHeld => ?_)
          refine take_at 0 (v := ?_) rfl (by kernel_rfl) (by kernel_rfl) (by kernel_rfl) (fun _ _ _ h => h) hHeld (Or.inl ⟨by rfl, ?_⟩) ?_
          rotate_left
          · (intro w hSw; (try dsimp only at hSw); go_simp; try with_reducible rfl)
          simp only [Act.put, List.setIfInBounds_toArray, List.set_cons_zero, List.set_cons_succ]
          refine take_at 1 (v := ?_) rfl (by kernel_rfl) (by kernel_rfl) (by kernel_rfl) (fun _ _ _ h => h) hHeld (Or.inl ⟨by rfl, ?_⟩) ?_
          rotate_left
          · (intro w hSw; (try dsimp only at hSw); go_simp; try with_reducible rfl)
          simp only [Act.put, List.setIfInBounds_toArray, List.set_cons_zero, List.set_cons_succ]
          refine take_at 2 (v := ?_) rfl (by kernel_rfl) (by kernel_rfl) (by kernel_rfl) (fun _ _ _ h => h) hHeld (Or.inl ⟨by rfl, ?_⟩) ?_
          rotate_left
          · (intro w hSw; (try dsimp only at hSw); go_simp; try with_reducible rfl)
          simp only [Act.put, List.setIfInBounds_toArray, List.set_cons_zero, List.set_cons_succ]
          refine take_at 3 (v := ?_) rfl (by kernel_rfl) (by kernel_rfl) (by kernel_rfl) (fun _ _ _ h => h) hHeld (Or.inl ⟨by rfl, ?_⟩) ?_
          rotate_left
          · (intro w hSw; (try dsimp only at hSw); go_simp; try with_reducible rfl)
          simp only [Act.put, List.setIfInBounds_toArray, List.set_cons_zero, List.set_cons_succ]
          refine take_at 4 (v := ?_) rfl (by kernel_rfl) (by kernel_rfl) (by kernel_rfl) (fun _ _ _ h => h) hHeld (Or.inl ⟨by rfl, ?_⟩) ?_
          rotate_left
          · (intro w hSw; (try dsimp only at hSw); go_simp; try with_reducible rfl)
          simp only [Act.put, List.setIfInBounds_toArray, List.set_cons_zero, List.set_cons_succ]
          refine ready_at 5 rfl (by kernel_rfl) (fun K hK => ?_)
          go_simp
          (go_at_call 13; with_reducible refine (QuS.out _ BR.out.drew).mono ?_; rintro e y1 ⟨⟨a1q, a1c, a2q, a2c, rfl, am1, am2, at1, at2⟩, z1⟩; have z1 : Below W10.heap.size W10 y1 := chainB BR.out.drew z1)
          refine hK.out _ _ (HX.out _ z1) (fun hHeld => ?_)
          clear hK K
          try simp only [Act.put, List.setIfInBounds_toArray, List.set_cons_zero, List.set_cons_succ]
          refine take_at 6 (v := ?_) rfl (by kernel_rfl) (by kernel_rfl) (by kernel_rfl) (fun _ _ _ h => h) hHeld (Or.inl ⟨by rfl, ?_⟩) ?_
          rotate_left
          · (intro w hSw; (try dsimp only at hSw); go_simp; try with_reducible rfl)
          simp only [Act.put, List.setIfInBounds_toArray, List.set_cons_zero, List.set_cons_succ]
          refine take_at 7 (v := ?_) rfl (by kernel_rfl) (by kernel_rfl) (by kernel_rfl) (fun _ _ _ h => h) hHeld (Or.inl ⟨by rfl, ?_⟩) ?_
          rotate_left
          · (intro w hSw; (try dsimp only at hSw); go_simp; try with_reducible rfl)
          simp only [Act.put, List.setIfInBounds_toArray, List.set_cons_zero, List.set_cons_succ]
          refine take_at 8 (v := ?_) rfl (by kernel_rfl) (by kernel_rfl) (by kernel_rfl) (fun _ _ _ h => h) hHeld (Or.inl ⟨by rfl, ?_⟩) ?_
          rotate_left
          · (intro w hSw; (try dsimp only at hSw); go_simp; try with_reducible rfl)
          simp only [Act.put, List.setIfInBounds_toArray, List.set_cons_zero, List.set_cons_succ]
          refine take_at 9 (v := ?_) rfl (by kernel_rfl) (by kernel_rfl) (by kernel_rfl) (fun _ _ _ h => h) hHeld (Or.inl ⟨by rfl, ?_⟩) ?_
          rotate_left
          · (intro w hSw; (try dsimp only at hSw); go_simp; try with_reducible rfl)
          simp only [Act.put, List.setIfInBounds_toArray, List.set_cons_zero, List.set_cons_succ]
          refine take_at 10 (v := ?_) rfl (by kernel_rfl) (by kernel_rfl) (by kernel_rfl) (fun _ _ _ h => h) hHeld (Or.inl ⟨by rfl, ?_⟩) ?_
          rotate_left
          · (intro w hSw; (try dsimp only at hSw); go_simp; try with_reducible rfl)
          simp only [Act.put, List.setIfInBounds_toArray, List.set_cons_zero, List.set_cons_succ]
          refine take_at 11 (v := ?_) rfl (by kernel_rfl) (by kernel_rfl) (by kernel_rfl) (fun _ _ _ h => h) hHeld (Or.inl ⟨by rfl, ?_⟩) ?_
          rotate_left
          · (intro w hSw; (try dsimp only at hSw); go_simp; try with_reducible rfl)
          simp only [Act.put, List.setIfInBounds_toArray, List.set_cons_zero, List.set_cons_succ]
          refine take_at 12 (v := ?_) rfl (by kernel_rfl) (by kernel_rfl) (by kernel_rfl) (fun _ _ _ h => h) hHeld (Or.inl ⟨by rfl, ?_⟩) ?_
          rotate_left
          · (intro w hSw; (try dsimp only at hSw); go_simp; try with_reducible rfl)
          simp only [Act.put, List.setIfInBounds_toArray, List.set_cons_zero, List.set_cons_succ]
          refine take_at 13 (v := ?_) rfl (by kernel_rfl) (by kernel_rfl) (by kernel_rfl) (fun _ _ _ h => h) hHeld (Or.inl ⟨by rfl, ?_⟩) ?_
          rotate_left
          · (intro w hSw; (try dsimp only at hSw); go_simp; try with_reducible rfl)
          simp only [Act.put, List.setIfInBounds_toArray, List.set_cons_zero, List.set_cons_succ]
          refine ready_at 14 rfl (by kernel_rfl) (fun K hK => ?_)
          go_simp
          (go_at_call 13; with_reducible refine (QuS.out _ z1).mono ?_; rintro e y2 ⟨⟨b1q, b1c, b2q, b2c, rfl, bm1, bm2, bt1, bt2⟩, z2⟩; have z2 : Below W10.heap.size W10 y2 := chainB z1 z2)
          refine hK.out _ _ (HX.out _ z2) (fun hHeld => ?_)
          clear hK K
          try simp only [Act.put, List.setIfInBounds_toArray, List.set_cons_zero, List.set_cons_succ]
          refine take_at 15 (v := ?_) rfl (by kernel_rfl) (by kernel_rfl) (by kernel_rfl) (fun _ _ _ h => h) hHeld (Or.inl ⟨by rfl, ?_⟩) ?_
          rotate_left
          · (intro w hSw; (try dsimp only at hSw); go_simp; try with_reducible rfl)
          simp only [Act.put, List.setIfInBounds_toArray, List.set_cons_zero, List.set_cons_succ]
          refine ready_at 16 rfl (by kernel_rfl) (fun K hK => ?_)
          go_simp
          (go_at_call 18; with_reducible refine (QLu.out _ _ _ _ _ z2 bm1 bm2 bt1 bt2).mono ?_; rintro e y3 ⟨rfl, z3⟩; have z3 : Below W10.heap.size W10 y3 := chainB z2 z3)
          refine hK.out _ _ (HX.out _ z3) (fun hHeld => ?_)
          clear hK K
          try simp only [Act.put, List.setIfInBounds_toArray, List.set_cons_zero, List.set_cons_succ]
          refine take_at 17 (v := ?_) rfl (by kernel_rfl) (by kernel_rfl) (by kernel_rfl) (fun _ _ _ h => h) hHeld (Or.inl ⟨by rfl, ?_⟩) ?_
          rotate_left
          · (intro w hSw; (try dsimp only at hSw); go_simp; try with_reducible rfl)
          simp only [Act.put, List.setIfInBounds_toArray, List.set_cons_zero, List.set_cons_succ]
          refine take_at 18 (v := ?_) rfl (by kernel_rfl) (by kernel_rfl) (by kernel_rfl) (fun _ _ _ h => h) hHeld (Or.inl ⟨by rfl, ?_⟩) ?_
          rotate_left
          · (intro w hSw; (try dsimp only at hSw); go_simp; try with_reducible rfl)
          simp only [Act.put, List.setIfInBounds_toArray, List.set_cons_zero, List.set_cons_succ]
          refine take_at 19 (v := ?_) rfl (by kernel_rfl) (by kernel_rfl) (by kernel_rfl) (fun _ _ _ h => h) hHeld (Or.inl ⟨by rfl, ?_⟩) ?_
          rotate_left
          · (intro w hSw; (try dsimp only at hSw); go_simp; try with_reducible rfl)
          simp only [Act.put, List.setIfInBounds_toArray, List.set_cons_zero, List.set_cons_succ]
          refine take_at 20 (v := ?_) rfl (by kernel_rfl) (by kernel_rfl) (by kernel_rfl) (fun _ _ _ h => h) hHeld (Or.inl ⟨by rfl, ?_⟩) ?_
          rotate_left
          · (intro w hSw; (try dsimp only at hSw); go_simp; try with_reducible rfl)
          simp only [Act.put, List.setIfInBounds_toArray, List.set_cons_zero, List.set_cons_succ]
          refine take_at 21 (v := ?_) rfl (by kernel_rfl) (by kernel_rfl) (by kernel_rfl) (fun _ _ _ h => h) hHeld (Or.inl ⟨by rfl, ?_⟩) ?_
          rotate_left
          · (intro w hSw; (try dsimp only at hSw); go_simp; try with_reducible rfl)
          simp only [Act.put, List.setIfInBounds_toArray, List.set_cons_zero, List.set_cons_succ]
          refine take_at 22 (v := ?_) rfl (by kernel_rfl) (by kernel_rfl) (by kernel_rfl) (fun _ _ _ h => h) hHeld (Or.inl ⟨by rfl, ?_⟩) ?_
          rotate_left
          · (intro w hSw; (try dsimp only at hSw); go_simp; try with_reducible rfl)
          simp only [Act.put, List.setIfInBounds_toArray, List.set_cons_zero, List.set_cons_succ]
          refine take_at 23 (v := ?_) rfl (by kernel_rfl) (by kernel_rfl) (by kernel_rfl) (fun _ _ _ h => h) hHeld (Or.inl ⟨by rfl, ?_⟩) ?_
          rotate_left
          · (intro w hSw; (try dsimp only at hSw); go_simp; try with_reducible rfl)
          simp only [Act.put, List.setIfInBounds_toArray, List.set_cons_zero, List.set_cons_succ]
          refine take_at 24 (v := ?_) rfl (by kernel_rfl) (by kernel_rfl) (by kernel_rfl) (fun _ _ _ h => h) hHeld (Or.inl ⟨by rfl, ?_⟩) ?_
          rotate_left
          · (intro w hSw; (try dsimp only at hSw); go_simp; try with_reducible rfl)
          simp only [Act.put, List.setIfInBounds_toArray, List.set_cons_zero, List.set_cons_succ]
          refine take_at 25 (v := ?_) rfl (by kernel_rfl) (by kernel_rfl) (by kernel_rfl) (fun _ _ _ h => h) hHeld (Or.inl ⟨by rfl, ?_⟩) ?_
          rotate_left
          · (intro w hSw; (try dsimp only at hSw); go_simp; try with_reducible rfl)
          simp only [Act.put, List.setIfInBounds_toArray, List.set_cons_zero, List.set_cons_succ]
          refine take_at 26 (v := ?_) rfl (by kernel_rfl) (by kernel_rfl) (by kernel_rfl) (fun _ _ _ h => h) hHeld (Or.inl ⟨by rfl, ?_⟩) ?_
          rotate_left
          · (intro w hSw; (try dsimp only at hSw); go_simp; try with_reducible rfl)
          simp only [Act.put, List.setIfInBounds_toArray, List.set_cons_zero, List.set_cons_succ]
          refine take_at 27 (v := ?_) rfl (by kernel_rfl) (by kernel_rfl) (by kernel_rfl) (fun _ _ _ h => h) hHeld (Or.inl ⟨by rfl, ?_⟩) ?_
          rotate_left
          · (intro w hSw; (try dsimp only at hSw); go_simp; try with_reducible rfl)
          simp only [Act.put, List.setIfInBounds_toArray, List.set_cons_zero, List.set_cons_succ]
          refine take_at 28 (v := ?_) rfl (by kernel_rfl) (by kernel_rfl) (by kernel_rfl) (fun _ _ _ h => h) hHeld (Or.inl ⟨by rfl, ?_⟩) ?_
          rotate_left
          · (intro w hSw; (try dsimp only at hSw); go_simp; try with_reducible rfl)
          simp only [Act.put, List.setIfInBounds_toArray, List.set_cons_zero, List.set_cons_succ]
          refine take_at 29 (v := ?_) rfl (by kernel_rfl) (by kernel_rfl) (by kernel_rfl) (fun _ _ _ h => h) hHeld (Or.inl ⟨by rfl, ?_⟩) ?_
          rotate_left
          · (intro w hSw; (try dsimp only at hSw); go_simp; try with_reducible rfl)
          simp only [Act.put, List.setIfInBounds_toArray, List.set_cons_zero, List.set_cons_succ]
          refine take_at 30 (v := ?_) rfl (by kernel_rfl) (by kernel_rfl) (by kernel_rfl) (fun _ _ _ h => h) hHeld (Or.inl ⟨by rfl, ?_⟩) ?_
          rotate_left
          · (intro w hSw; (try dsimp only at hSw); go_simp; try with_reducible rfl)
          simp only [Act.put, List.setIfInBounds_toArray, List.set_cons_zero, List.set_cons_succ]
          refine take_at 31 (v := ?_) rfl (by kernel_rfl) (by kernel_rfl) (by kernel_rfl) (fun _ _ _ h => h) hHeld (Or.inl ⟨by rfl, ?_⟩) ?_
          rotate_left
          · (intro w hSw; (try dsimp only at hSw); go_simp; try with_reducible rfl)
          simp only [Act.put, List.setIfInBounds_toArray, List.set_cons_zero, List.set_cons_succ]
          refine take_at 32 (v := ?_) rfl (by kernel_rfl) (by kernel_rfl) (by kernel_rfl) (fun _ _ _ h => h) hHeld (Or.inl ⟨by rfl, ?_⟩) ?_
          rotate_left
          · (intro w hSw; (try dsimp only at hSw); go_simp; try with_reducible rfl)
          simp only [Act.put, List.setIfInBounds_toArray, List.set_cons_zero, List.set_cons_succ]
          refine take_at 33 (v := ?_) rfl (by kernel_rfl) (by kernel_rfl) (by kernel_rfl) (fun _ _ _ h => h) hHeld (Or.inl ⟨by rfl, ?_⟩) ?_
          rotate_left
          · (intro w hSw; (try dsimp only at hSw); go_simp; try with_reducible rfl)
          simp only [Act.put, List.setIfInBounds_toArray, List.set_cons_zero, List.set_cons_succ]
          refine take_at 34 (v := ?_) rfl (by kernel_rfl) (by kernel_rfl) (by kernel_rfl) (fun _ _ _ h => h) hHeld (Or.inl ⟨by rfl, ?_⟩) ?_
          rotate_left
          · (intro w hSw; (try dsimp only at hSw); go_simp; try with_reducible rfl)
          simp only [Act.put, List.setIfInBounds_toArray, List.set_cons_zero, List.set_cons_succ]
          refine wpAnyH_done (by kernel_rfl) ?_ _
          go_wp2_with fail
          go_meet
          exact ⟨rfl, z3⟩
      · have hB : BB = true := by rw [HBB.out]; simp [hy]
        have hyb : (YC != 0) = true := bne_iff_ne.2 hy
        subst hB
        clear hu hy HBB
        refine wp_region_held_drew (S := (fun w' => w'.cell? ⟨w1.heap.size, 0, none⟩ = some (.slice dq1 ds.length dc1) ∧ w'.cell? ⟨w1.heap.size, 1, none⟩ = some (.slice dq2 dp.length dc2) ∧ w'.cell? ⟨w3.heap.size, 0, none⟩ = some (.slice eq1 es.length ec1) ∧ w'.cell? ⟨w3.heap.size, 1, none⟩ = some (.slice eq2 ep.length ec2) ∧ w'.cell? ⟨w5.heap.size, 0, none⟩ = some (.slice vq1 VS.length vc1) ∧ w'.cell? ⟨w5.heap.size, 1, none⟩ = some (.slice vq2 VP.length vc2) ∧ w'.cell? ⟨w5.heap.size, 2, none⟩ = some (.string VT) ∧ w'.cell? ⟨w5.heap.size, 3, none⟩ = some (.int .i64 VG) ∧ w'.cell? ⟨w5.heap.size, 4, none⟩ = some (.int .i64 VC) ∧ w'.cell? ⟨w7.heap.size, 0, none⟩ = some (.slice uq1 US.length uc1) ∧ w'.cell? ⟨w7.heap.size, 1, none⟩ = some (.slice uq2 UP.length uc2) ∧ w'.cell? ⟨w7.heap.size, 2, none⟩ = some (.string ByteArray.empty) ∧ w'.cell? ⟨w7.heap.size, 3, none⟩ = some (.int .i64 0) ∧ w'.cell? ⟨w7.heap.size, 4, none⟩ = some (.int .i64 UC) ∧ w'.cell? ⟨w9.heap.size, 0, none⟩ = some (.slice yq1 YS.length yc1) ∧ w'.cell? ⟨w9.heap.size, 1, none⟩ = some (.slice yq2 YP.length yc2) ∧ w'.cell? ⟨w9.heap.size, 2, none⟩ = some (.string ByteArray.empty) ∧ w'.cell? ⟨w9.heap.size, 3, none⟩ = some (.int .i64 0) ∧ w'.cell? ⟨w9.heap.size, 4, none⟩ = some (.int .i64 YC))) (by kernel_rfl) (HX.out _ BR.out.drew) (fun hHeld => ?_)
        refine take_at 0 (v := ?_) rfl (by kernel_rfl) (by kernel_rfl) (by kernel_rfl) (fun _ _ _ h => h) hHeld (Or.inl ⟨by rfl, ?_⟩) ?_
        rotate_left
        · (intro w hSw; (try dsimp only at hSw); go_simp; try with_reducible rfl)
        simp only [Act.put, List.setIfInBounds_toArray, List.set_cons_zero, List.set_cons_succ]
        refine take_at 1 (v := ?_) rfl (by kernel_rfl) (by kernel_rfl) (by kernel_rfl) (fun _ _ _ h => h) hHeld (Or.inl ⟨by rfl, ?_⟩) ?_
        rotate_left
        · (intro w hSw; (try dsimp only at hSw); go_simp; try with_reducible rfl)
        simp only [Act.put, List.setIfInBounds_toArray, List.set_cons_zero, List.set_cons_succ]
        refine take_at 2 (v := ?_) rfl (by kernel_rfl) (by kernel_rfl) (by kernel_rfl) (fun _ _ _ h => h) hHeld (Or.inl ⟨by rfl, ?_⟩) ?_
        rotate_left
        · (intro w hSw; (try dsimp only at hSw); go_simp; try with_reducible rfl)
        simp only [Act.put, List.setIfInBounds_toArray, List.set_cons_zero, List.set_cons_succ]
        refine take_at 3 (v := ?_) rfl (by kernel_rfl) (by kernel_rfl) (by kernel_rfl) (fun _ _ _ h => h) hHeld (Or.inl ⟨by rfl, ?_⟩) ?_
        rotate_left
        · (intro w hSw; (try dsimp only at hSw); go_simp; try with_reducible rfl)
        simp only [Act.put, List.setIfInBounds_toArray, List.set_cons_zero, List.set_cons_succ]
        refine take_at 4 (v := ?_) rfl (by kernel_rfl) (by kernel_rfl) (by kernel_rfl) (fun _ _ _ h => h) hHeld (Or.inl ⟨by rfl, ?_⟩) ?_
        rotate_left
        · (intro w hSw; (try dsimp only at hSw); go_simp; try with_reducible rfl)
        simp only [Act.put, List.setIfInBounds_toArray, List.set_cons_zero, List.set_cons_succ]
        refine ready_at 5 rfl (by kernel_rfl) (fun K hK => ?_)
        go_simp
        (go_at_call 13; with_reducible refine (QuS.out _ BR.out.drew).mono ?_; rintro e y1 ⟨⟨a1q, a1c, a2q, a2c, rfl, am1, am2, at1, at2⟩, z1⟩; have z1 : Below W10.heap.size W10 y1 := chainB BR.out.drew z1)
        refine hK.out _ _ (HX.out _ z1) (fun hHeld => ?_)
        clear hK K
        try simp only [Act.put, List.setIfInBounds_toArray, List.set_cons_zero, List.set_cons_succ]
        refine take_at 6 (v := ?_) rfl (by kernel_rfl) (by kernel_rfl) (by kernel_rfl) (fun _ _ _ h => h) hHeld (Or.inl ⟨by rfl, ?_⟩) ?_
        rotate_left
        · (intro w hSw; (try dsimp only at hSw); go_simp; try with_reducible rfl)
        simp only [Act.put, List.setIfInBounds_toArray, List.set_cons_zero, List.set_cons_succ]
        refine take_at 7 (v := ?_) rfl (by kernel_rfl) (by kernel_rfl) (by kernel_rfl) (fun _ _ _ h => h) hHeld (Or.inl ⟨by rfl, ?_⟩) ?_
        rotate_left
        · (intro w hSw; (try dsimp only at hSw); go_simp; try with_reducible rfl)
        simp only [Act.put, List.setIfInBounds_toArray, List.set_cons_zero, List.set_cons_succ]
        refine take_at 8 (v := ?_) rfl (by kernel_rfl) (by kernel_rfl) (by kernel_rfl) (fun _ _ _ h => h) hHeld (Or.inl ⟨by rfl, ?_⟩) ?_
        rotate_left
        · (intro w hSw; (try dsimp only at hSw); go_simp; try with_reducible rfl)
        simp only [Act.put, List.setIfInBounds_toArray, List.set_cons_zero, List.set_cons_succ]
        refine take_at 9 (v := ?_) rfl (by kernel_rfl) (by kernel_rfl) (by kernel_rfl) (fun _ _ _ h => h) hHeld (Or.inl ⟨by rfl, ?_⟩) ?_
        rotate_left
        · (intro w hSw; (try dsimp only at hSw); go_simp; try with_reducible rfl)
        simp only [Act.put, List.setIfInBounds_toArray, List.set_cons_zero, List.set_cons_succ]
        refine take_at 10 (v := ?_) rfl (by kernel_rfl) (by kernel_rfl) (by kernel_rfl) (fun _ _ _ h => h) hHeld (Or.inl ⟨by rfl, ?_⟩) ?_
        rotate_left
        · (intro w hSw; (try dsimp only at hSw); go_simp; try with_reducible rfl)
        simp only [Act.put, List.setIfInBounds_toArray, List.set_cons_zero, List.set_cons_succ]
        refine take_at 11 (v := ?_) rfl (by kernel_rfl) (by kernel_rfl) (by kernel_rfl) (fun _ _ _ h => h) hHeld (Or.inl ⟨by rfl, ?_⟩) ?_
        rotate_left
        · (intro w hSw; (try dsimp only at hSw); go_simp; try with_reducible rfl)
        simp only [Act.put, List.setIfInBounds_toArray, List.set_cons_zero, List.set_cons_succ]
        refine take_at 12 (v := ?_) rfl (by kernel_rfl) (by kernel_rfl) (by kernel_rfl) (fun _ _ _ h => h) hHeld (Or.inl ⟨by rfl, ?_⟩) ?_
        rotate_left
        · (intro w hSw; (try dsimp only at hSw); go_simp; try with_reducible rfl)
        simp only [Act.put, List.setIfInBounds_toArray, List.set_cons_zero, List.set_cons_succ]
        refine take_at 13 (v := ?_) rfl (by kernel_rfl) (by kernel_rfl) (by kernel_rfl) (fun _ _ _ h => h) hHeld (Or.inl ⟨by rfl, ?_⟩) ?_
        rotate_left
        · (intro w hSw; (try dsimp only at hSw); go_simp; try with_reducible rfl)
        simp only [Act.put, List.setIfInBounds_toArray, List.set_cons_zero, List.set_cons_succ]
        refine ready_at 14 rfl (by kernel_rfl) (fun K hK => ?_)
        go_simp
        (go_at_call 13; with_reducible refine (QuS.out _ z1).mono ?_; rintro e y2 ⟨⟨b1q, b1c, b2q, b2c, rfl, bm1, bm2, bt1, bt2⟩, z2⟩; have z2 : Below W10.heap.size W10 y2 := chainB z1 z2)
        refine hK.out _ _ (HX.out _ z2) (fun hHeld => ?_)
        clear hK K
        try simp only [Act.put, List.setIfInBounds_toArray, List.set_cons_zero, List.set_cons_succ]
        refine take_at 15 (v := ?_) rfl (by kernel_rfl) (by kernel_rfl) (by kernel_rfl) (fun _ _ _ h => h) hHeld (Or.inl ⟨by rfl, ?_⟩) ?_
        rotate_left
        · (intro w hSw; (try dsimp only at hSw); go_simp; try with_reducible rfl)
        simp only [Act.put, List.setIfInBounds_toArray, List.set_cons_zero, List.set_cons_succ]
        refine ready_at 16 rfl (by kernel_rfl) (fun K hK => ?_)
        go_simp
        (go_at_call 18; with_reducible refine (QLu.out _ _ _ _ _ z2 bm1 bm2 bt1 bt2).mono ?_; rintro e y3 ⟨rfl, z3⟩; have z3 : Below W10.heap.size W10 y3 := chainB z2 z3)
        refine hK.out _ _ (HX.out _ z3) (fun hHeld => ?_)
        clear hK K
        try simp only [Act.put, List.setIfInBounds_toArray, List.set_cons_zero, List.set_cons_succ]
        refine take_at 17 (v := ?_) rfl (by kernel_rfl) (by kernel_rfl) (by kernel_rfl) (fun _ _ _ h => h) hHeld (Or.inl ⟨by rfl, ?_⟩) ?_
        rotate_left
        · (intro w hSw; (try dsimp only at hSw); go_simp; try with_reducible rfl)
        simp only [Act.put, List.setIfInBounds_toArray, List.set_cons_zero, List.set_cons_succ]
        refine take_at 18 (v := ?_) rfl (by kernel_rfl) (by kernel_rfl) (by kernel_rfl) (fun _ _ _ h => h) hHeld (Or.inl ⟨by rfl, ?_⟩) ?_
        rotate_left
        · (intro w hSw; (try dsimp only at hSw); go_simp; try with_reducible rfl)
        simp only [Act.put, List.setIfInBounds_toArray, List.set_cons_zero, List.set_cons_succ]
        refine take_at 19 (v := ?_) rfl (by kernel_rfl) (by kernel_rfl) (by kernel_rfl) (fun _ _ _ h => h) hHeld (Or.inl ⟨by rfl, ?_⟩) ?_
        rotate_left
        · (intro w hSw; (try dsimp only at hSw); go_simp; try with_reducible rfl)
        simp only [Act.put, List.setIfInBounds_toArray, List.set_cons_zero, List.set_cons_succ]
        refine take_at 20 (v := ?_) rfl (by kernel_rfl) (by kernel_rfl) (by kernel_rfl) (fun _ _ _ h => h) hHeld (Or.inl ⟨by rfl, ?_⟩) ?_
        rotate_left
        · (intro w hSw; (try dsimp only at hSw); go_simp; try with_reducible rfl)
        simp only [Act.put, List.setIfInBounds_toArray, List.set_cons_zero, List.set_cons_succ]
        refine take_at 21 (v := ?_) rfl (by kernel_rfl) (by kernel_rfl) (by kernel_rfl) (fun _ _ _ h => h) hHeld (Or.inl ⟨by rfl, ?_⟩) ?_
        rotate_left
        · (intro w hSw; (try dsimp only at hSw); go_simp; try with_reducible rfl)
        simp only [Act.put, List.setIfInBounds_toArray, List.set_cons_zero, List.set_cons_succ]
        refine take_at 22 (v := ?_) rfl (by kernel_rfl) (by kernel_rfl) (by kernel_rfl) (fun _ _ _ h => h) hHeld (Or.inl ⟨by rfl, ?_⟩) ?_
        rotate_left
        · (intro w hSw; (try dsimp only at hSw); go_simp; try with_reducible rfl)
        simp only [Act.put, List.setIfInBounds_toArray, List.set_cons_zero, List.set_cons_succ]
        refine take_at 23 (v := ?_) rfl (by kernel_rfl) (by kernel_rfl) (by kernel_rfl) (fun _ _ _ h => h) hHeld (Or.inl ⟨by rfl, ?_⟩) ?_
        rotate_left
        · (intro w hSw; (try dsimp only at hSw); go_simp; try with_reducible rfl)
        simp only [Act.put, List.setIfInBounds_toArray, List.set_cons_zero, List.set_cons_succ]
        refine take_at 24 (v := ?_) rfl (by kernel_rfl) (by kernel_rfl) (by kernel_rfl) (fun _ _ _ h => h) hHeld (Or.inl ⟨by rfl, ?_⟩) ?_
        rotate_left
        · (intro w hSw; (try dsimp only at hSw); go_simp; try with_reducible rfl)
        simp only [Act.put, List.setIfInBounds_toArray, List.set_cons_zero, List.set_cons_succ]
        refine take_at 25 (v := ?_) rfl (by kernel_rfl) (by kernel_rfl) (by kernel_rfl) (fun _ _ _ h => h) hHeld (Or.inl ⟨by rfl, ?_⟩) ?_
        rotate_left
        · (intro w hSw; (try dsimp only at hSw); go_simp; try with_reducible rfl)
        simp only [Act.put, List.setIfInBounds_toArray, List.set_cons_zero, List.set_cons_succ]
        refine take_at 26 (v := ?_) rfl (by kernel_rfl) (by kernel_rfl) (by kernel_rfl) (fun _ _ _ h => h) hHeld (Or.inl ⟨by rfl, ?_⟩) ?_
        rotate_left
        · (intro w hSw; (try dsimp only at hSw); go_simp; try with_reducible rfl)
        simp only [Act.put, List.setIfInBounds_toArray, List.set_cons_zero, List.set_cons_succ]
        refine take_at 27 (v := ?_) rfl (by kernel_rfl) (by kernel_rfl) (by kernel_rfl) (fun _ _ _ h => h) hHeld (Or.inl ⟨by rfl, ?_⟩) ?_
        rotate_left
        · (intro w hSw; (try dsimp only at hSw); go_simp; try with_reducible rfl)
        simp only [Act.put, List.setIfInBounds_toArray, List.set_cons_zero, List.set_cons_succ]
        refine take_at 28 (v := ?_) rfl (by kernel_rfl) (by kernel_rfl) (by kernel_rfl) (fun _ _ _ h => h) hHeld (Or.inl ⟨by rfl, ?_⟩) ?_
        rotate_left
        · (intro w hSw; (try dsimp only at hSw); go_simp; try with_reducible rfl)
        simp only [Act.put, List.setIfInBounds_toArray, List.set_cons_zero, List.set_cons_succ]
        refine take_at 29 (v := ?_) rfl (by kernel_rfl) (by kernel_rfl) (by kernel_rfl) (fun _ _ _ h => h) hHeld (Or.inl ⟨by rfl, ?_⟩) ?_
        rotate_left
        · (intro w hSw; (try dsimp only at hSw); go_simp; try with_reducible rfl)
        simp only [Act.put, List.setIfInBounds_toArray, List.set_cons_zero, List.set_cons_succ]
        refine take_at 30 (v := undef) rfl (by kernel_rfl) (by kernel_rfl) (by kernel_rfl) (fun _ _ _ h => h) hHeld (Or.inr ⟨by rfl, rfl⟩) ?_
        simp only [Act.put, List.setIfInBounds_toArray, List.set_cons_zero, List.set_cons_succ]
        refine take_at 31 (v := undef) rfl (by kernel_rfl) (by kernel_rfl) (by kernel_rfl) (fun _ _ _ h => h) hHeld (Or.inr ⟨by rfl, rfl⟩) ?_
        simp only [Act.put, List.setIfInBounds_toArray, List.set_cons_zero, List.set_cons_succ]
        refine take_at 32 (v := undef) rfl (by kernel_rfl) (by kernel_rfl) (by kernel_rfl) (fun _ _ _ h => h) hHeld (Or.inr ⟨by rfl, rfl⟩) ?_
        simp only [Act.put, List.setIfInBounds_toArray, List.set_cons_zero, List.set_cons_succ]
        refine take_at 33 (v := undef) rfl (by kernel_rfl) (by kernel_rfl) (by kernel_rfl) (fun _ _ _ h => h) hHeld (Or.inr ⟨by rfl, rfl⟩) ?_
        simp only [Act.put, List.setIfInBounds_toArray, List.set_cons_zero, List.set_cons_succ]
        refine take_at 34 (v := ?_) rfl (by kernel_rfl) (by kernel_rfl) (by kernel_rfl) (fun _ _ _ h => h) hHeld (Or.inl ⟨by rfl, ?_⟩) ?_
        rotate_left
        · (intro w hSw; (try dsimp only at hSw); go_simp; try with_reducible rfl)
        simp only [Act.put, List.setIfInBounds_toArray, List.set_cons_zero, List.set_cons_succ]
        refine wpAnyH_done (by kernel_rfl) ?_ _
        go_wp2_with fail
        go_meet
        exact ⟨rfl, z3⟩
    · have hB : BB = true := by rw [HBB.out]; simp [hu]
      have hub : (UC != 0) = true := bne_iff_ne.2 hu
      subst hB
      clear hu HBB
      refine wp_region_held_drew (S := (fun w' => w'.cell? ⟨w1.heap.size, 0, none⟩ = some (.slice dq1 ds.length dc1) ∧ w'.cell? ⟨w1.heap.size, 1, none⟩ = some (.slice dq2 dp.length dc2) ∧ w'.cell? ⟨w3.heap.size, 0, none⟩ = some (.slice eq1 es.length ec1) ∧ w'.cell? ⟨w3.heap.size, 1, none⟩ = some (.slice eq2 ep.length ec2) ∧ w'.cell? ⟨w5.heap.size, 0, none⟩ = some (.slice vq1 VS.length vc1) ∧ w'.cell? ⟨w5.heap.size, 1, none⟩ = some (.slice vq2 VP.length vc2) ∧ w'.cell? ⟨w5.heap.size, 2, none⟩ = some (.string VT) ∧ w'.cell? ⟨w5.heap.size, 3, none⟩ = some (.int .i64 VG) ∧ w'.cell? ⟨w5.heap.size, 4, none⟩ = some (.int .i64 VC) ∧ w'.cell? ⟨w7.heap.size, 0, none⟩ = some (.slice uq1 US.length uc1) ∧ w'.cell? ⟨w7.heap.size, 1, none⟩ = some (.slice uq2 UP.length uc2) ∧ w'.cell? ⟨w7.heap.size, 2, none⟩ = some (.string ByteArray.empty) ∧ w'.cell? ⟨w7.heap.size, 3, none⟩ = some (.int .i64 0) ∧ w'.cell? ⟨w7.heap.size, 4, none⟩ = some (.int .i64 UC) ∧ w'.cell? ⟨w9.heap.size, 0, none⟩ = some (.slice yq1 YS.length yc1) ∧ w'.cell? ⟨w9.heap.size, 1, none⟩ = some (.slice yq2 YP.length yc2) ∧ w'.cell? ⟨w9.heap.size, 2, none⟩ = some (.string ByteArray.empty) ∧ w'.cell? ⟨w9.heap.size, 3, none⟩ = some (.int .i64 0) ∧ w'.cell? ⟨w9.heap.size, 4, none⟩ = some (.int .i64 YC))) (by kernel_rfl) (HX.out _ BR.out.drew) (fun hHeld => ?_)
      refine take_at 0 (v := ?_) rfl (by kernel_rfl) (by kernel_rfl) (by kernel_rfl) (fun _ _ _ h => h) hHeld (Or.inl ⟨by rfl, ?_⟩) ?_
      rotate_left
      · (intro w hSw; (try dsimp only at hSw); go_simp; try with_reducible rfl)
      simp only [Act.put, List.setIfInBounds_toArray, List.set_cons_zero, List.set_cons_succ]
      refine take_at 1 (v := ?_) rfl (by kernel_rfl) (by kernel_rfl) (by kernel_rfl) (fun _ _ _ h => h) hHeld (Or.inl ⟨by rfl, ?_⟩) ?_
      rotate_left
      · (intro w hSw; (try dsimp only at hSw); go_simp; try with_reducible rfl)
      simp only [Act.put, List.setIfInBounds_toArray, List.set_cons_zero, List.set_cons_succ]
      refine take_at 2 (v := ?_) rfl (by kernel_rfl) (by kernel_rfl) (by kernel_rfl) (fun _ _ _ h => h) hHeld (Or.inl ⟨by rfl, ?_⟩) ?_
      rotate_left
      · (intro w hSw; (try dsimp only at hSw); go_simp; try with_reducible rfl)
      simp only [Act.put, List.setIfInBounds_toArray, List.set_cons_zero, List.set_cons_succ]
      refine take_at 3 (v := ?_) rfl (by kernel_rfl) (by kernel_rfl) (by kernel_rfl) (fun _ _ _ h => h) hHeld (Or.inl ⟨by rfl, ?_⟩) ?_
      rotate_left
      · (intro w hSw; (try dsimp only at hSw); go_simp; try with_reducible rfl)
      simp only [Act.put, List.setIfInBounds_toArray, List.set_cons_zero, List.set_cons_succ]
      refine take_at 4 (v := ?_) rfl (by kernel_rfl) (by kernel_rfl) (by kernel_rfl) (fun _ _ _ h => h) hHeld (Or.inl ⟨by rfl, ?_⟩) ?_
      rotate_left
      · (intro w hSw; (try dsimp only at hSw); go_simp; try with_reducible rfl)
      simp only [Act.put, List.setIfInBounds_toArray, List.set_cons_zero, List.set_cons_succ]
      refine ready_at 5 rfl (by kernel_rfl) (fun K hK => ?_)
      go_simp
      (go_at_call 13; with_reducible refine (QuS.out _ BR.out.drew).mono ?_; rintro e y1 ⟨⟨a1q, a1c, a2q, a2c, rfl, am1, am2, at1, at2⟩, z1⟩; have z1 : Below W10.heap.size W10 y1 := chainB BR.out.drew z1)
      refine hK.out _ _ (HX.out _ z1) (fun hHeld => ?_)
      clear hK K
      try simp only [Act.put, List.setIfInBounds_toArray, List.set_cons_zero, List.set_cons_succ]
      refine take_at 6 (v := ?_) rfl (by kernel_rfl) (by kernel_rfl) (by kernel_rfl) (fun _ _ _ h => h) hHeld (Or.inl ⟨by rfl, ?_⟩) ?_
      rotate_left
      · (intro w hSw; (try dsimp only at hSw); go_simp; try with_reducible rfl)
      simp only [Act.put, List.setIfInBounds_toArray, List.set_cons_zero, List.set_cons_succ]
      refine take_at 7 (v := ?_) rfl (by kernel_rfl) (by kernel_rfl) (by kernel_rfl) (fun _ _ _ h => h) hHeld (Or.inl ⟨by rfl, ?_⟩) ?_
      rotate_left
      · (intro w hSw; (try dsimp only at hSw); go_simp; try with_reducible rfl)
      simp only [Act.put, List.setIfInBounds_toArray, List.set_cons_zero, List.set_cons_succ]
      refine take_at 8 (v := ?_) rfl (by kernel_rfl) (by kernel_rfl) (by kernel_rfl) (fun _ _ _ h => h) hHeld (Or.inl ⟨by rfl, ?_⟩) ?_
      rotate_left
      · (intro w hSw; (try dsimp only at hSw); go_simp; try with_reducible rfl)
      simp only [Act.put, List.setIfInBounds_toArray, List.set_cons_zero, List.set_cons_succ]
      refine take_at 9 (v := ?_) rfl (by kernel_rfl) (by kernel_rfl) (by kernel_rfl) (fun _ _ _ h => h) hHeld (Or.inl ⟨by rfl, ?_⟩) ?_
      rotate_left
      · (intro w hSw; (try dsimp only at hSw); go_simp; try with_reducible rfl)
      simp only [Act.put, List.setIfInBounds_toArray, List.set_cons_zero, List.set_cons_succ]
      refine take_at 10 (v := ?_) rfl (by kernel_rfl) (by kernel_rfl) (by kernel_rfl) (fun _ _ _ h => h) hHeld (Or.inl ⟨by rfl, ?_⟩) ?_
      rotate_left
      · (intro w hSw; (try dsimp only at hSw); go_simp; try with_reducible rfl)
      simp only [Act.put, List.setIfInBounds_toArray, List.set_cons_zero, List.set_cons_succ]
      refine take_at 11 (v := ?_) rfl (by kernel_rfl) (by kernel_rfl) (by kernel_rfl) (fun _ _ _ h => h) hHeld (Or.inl ⟨by rfl, ?_⟩) ?_
      rotate_left
      · (intro w hSw; (try dsimp only at hSw); go_simp; try with_reducible rfl)
      simp only [Act.put, List.setIfInBounds_toArray, List.set_cons_zero, List.set_cons_succ]
      refine take_at 12 (v := ?_) rfl (by kernel_rfl) (by kernel_rfl) (by kernel_rfl) (fun _ _ _ h => h) hHeld (Or.inl ⟨by rfl, ?_⟩) ?_
      rotate_left
      · (intro w hSw; (try dsimp only at hSw); go_simp; try with_reducible rfl)
      simp only [Act.put, List.setIfInBounds_toArray, List.set_cons_zero, List.set_cons_succ]
      refine take_at 13 (v := ?_) rfl (by kernel_rfl) (by kernel_rfl) (by kernel_rfl) (fun _ _ _ h => h) hHeld (Or.inl ⟨by rfl, ?_⟩) ?_
      rotate_left
      · (intro w hSw; (try dsimp only at hSw); go_simp; try with_reducible rfl)
      simp only [Act.put, List.setIfInBounds_toArray, List.set_cons_zero, List.set_cons_succ]
      refine ready_at 14 rfl (by kernel_rfl) (fun K hK => ?_)
      go_simp
      (go_at_call 13; with_reducible refine (QuS.out _ z1).mono ?_; rintro e y2 ⟨⟨b1q, b1c, b2q, b2c, rfl, bm1, bm2, bt1, bt2⟩, z2⟩; have z2 : Below W10.heap.size W10 y2 := chainB z1 z2)
      refine hK.out _ _ (HX.out _ z2) (fun hHeld => ?_)
      clear hK K
      try simp only [Act.put, List.setIfInBounds_toArray, List.set_cons_zero, List.set_cons_succ]
      refine take_at 15 (v := ?_) rfl (by kernel_rfl) (by kernel_rfl) (by kernel_rfl) (fun _ _ _ h => h) hHeld (Or.inl ⟨by rfl, ?_⟩) ?_
      rotate_left
      · (intro w hSw; (try dsimp only at hSw); go_simp; try with_reducible rfl)
      simp only [Act.put, List.setIfInBounds_toArray, List.set_cons_zero, List.set_cons_succ]
      refine ready_at 16 rfl (by kernel_rfl) (fun K hK => ?_)
      go_simp
      (go_at_call 18; with_reducible refine (QLu.out _ _ _ _ _ z2 bm1 bm2 bt1 bt2).mono ?_; rintro e y3 ⟨rfl, z3⟩; have z3 : Below W10.heap.size W10 y3 := chainB z2 z3)
      refine hK.out _ _ (HX.out _ z3) (fun hHeld => ?_)
      clear hK K
      try simp only [Act.put, List.setIfInBounds_toArray, List.set_cons_zero, List.set_cons_succ]
      refine take_at 17 (v := ?_) rfl (by kernel_rfl) (by kernel_rfl) (by kernel_rfl) (fun _ _ _ h => h) hHeld (Or.inl ⟨by rfl, ?_⟩) ?_
      rotate_left
      · (intro w hSw; (try dsimp only at hSw); go_simp; try with_reducible rfl)
      simp only [Act.put, List.setIfInBounds_toArray, List.set_cons_zero, List.set_cons_succ]
      refine take_at 18 (v := ?_) rfl (by kernel_rfl) (by kernel_rfl) (by kernel_rfl) (fun _ _ _ h => h) hHeld (Or.inl ⟨by rfl, ?_⟩) ?_
      rotate_left
      · (intro w hSw; (try dsimp only at hSw); go_simp; try with_reducible rfl)
      simp only [Act.put, List.setIfInBounds_toArray, List.set_cons_zero, List.set_cons_succ]
      refine take_at 19 (v := ?_) rfl (by kernel_rfl) (by kernel_rfl) (by kernel_rfl) (fun _ _ _ h => h) hHeld (Or.inl ⟨by rfl, ?_⟩) ?_
      rotate_left
      · (intro w hSw; (try dsimp only at hSw); go_simp; try with_reducible rfl)
      simp only [Act.put, List.setIfInBounds_toArray, List.set_cons_zero, List.set_cons_succ]
      refine take_at 20 (v := ?_) rfl (by kernel_rfl) (by kernel_rfl) (by kernel_rfl) (fun _ _ _ h => h) hHeld (Or.inl ⟨by rfl, ?_⟩) ?_
      rotate_left
      · (intro w hSw; (try dsimp only at hSw); go_simp; try with_reducible rfl)
      simp only [Act.put, List.setIfInBounds_toArray, List.set_cons_zero, List.set_cons_succ]
      refine take_at 21 (v := ?_) rfl (by kernel_rfl) (by kernel_rfl) (by kernel_rfl) (fun _ _ _ h => h) hHeld (Or.inl ⟨by rfl, ?_⟩) ?_
      rotate_left
      · (intro w hSw; (try dsimp only at hSw); go_simp; try with_reducible rfl)
      simp only [Act.put, List.setIfInBounds_toArray, List.set_cons_zero, List.set_cons_succ]
      refine take_at 22 (v := ?_) rfl (by kernel_rfl) (by kernel_rfl) (by kernel_rfl) (fun _ _ _ h => h) hHeld (Or.inl ⟨by rfl, ?_⟩) ?_
      rotate_left
      · (intro w hSw; (try dsimp only at hSw); go_simp; try with_reducible rfl)
      simp only [Act.put, List.setIfInBounds_toArray, List.set_cons_zero, List.set_cons_succ]
      refine take_at 23 (v := ?_) rfl (by kernel_rfl) (by kernel_rfl) (by kernel_rfl) (fun _ _ _ h => h) hHeld (Or.inl ⟨by rfl, ?_⟩) ?_
      rotate_left
      · (intro w hSw; (try dsimp only at hSw); go_simp; try with_reducible rfl)
      simp only [Act.put, List.setIfInBounds_toArray, List.set_cons_zero, List.set_cons_succ]
      refine take_at 24 (v := ?_) rfl (by kernel_rfl) (by kernel_rfl) (by kernel_rfl) (fun _ _ _ h => h) hHeld (Or.inl ⟨by rfl, ?_⟩) ?_
      rotate_left
      · (intro w hSw; (try dsimp only at hSw); go_simp; try with_reducible rfl)
      simp only [Act.put, List.setIfInBounds_toArray, List.set_cons_zero, List.set_cons_succ]
      refine take_at 25 (v := undef) rfl (by kernel_rfl) (by kernel_rfl) (by kernel_rfl) (fun _ _ _ h => h) hHeld (Or.inr ⟨by rfl, rfl⟩) ?_
      simp only [Act.put, List.setIfInBounds_toArray, List.set_cons_zero, List.set_cons_succ]
      refine take_at 26 (v := undef) rfl (by kernel_rfl) (by kernel_rfl) (by kernel_rfl) (fun _ _ _ h => h) hHeld (Or.inr ⟨by rfl, rfl⟩) ?_
      simp only [Act.put, List.setIfInBounds_toArray, List.set_cons_zero, List.set_cons_succ]
      refine take_at 27 (v := undef) rfl (by kernel_rfl) (by kernel_rfl) (by kernel_rfl) (fun _ _ _ h => h) hHeld (Or.inr ⟨by rfl, rfl⟩) ?_
      simp only [Act.put, List.setIfInBounds_toArray, List.set_cons_zero, List.set_cons_succ]
      refine take_at 28 (v := ?_) rfl (by kernel_rfl) (by kernel_rfl) (by kernel_rfl) (fun _ _ _ h => h) hHeld (Or.inl ⟨by rfl, ?_⟩) ?_
      rotate_left
      · (intro w hSw; (try dsimp only at hSw); go_simp; try with_reducible rfl)
      simp only [Act.put, List.setIfInBounds_toArray, List.set_cons_zero, List.set_cons_succ]
      refine take_at 29 (v := ?_) rfl (by kernel_rfl) (by kernel_rfl) (by kernel_rfl) (fun _ _ _ h => h) hHeld (Or.inl ⟨by rfl, ?_⟩) ?_
      rotate_left
      · (intro w hSw; (try dsimp only at hSw); go_simp; try with_reducible rfl)
      simp only [Act.put, List.setIfInBounds_toArray, List.set_cons_zero, List.set_cons_succ]
      refine take_at 30 (v := undef) rfl (by kernel_rfl) (by kernel_rfl) (by kernel_rfl) (fun _ _ _ h => h) hHeld (Or.inr ⟨by rfl, rfl⟩) ?_
      simp only [Act.put, List.setIfInBounds_toArray, List.set_cons_zero, List.set_cons_succ]
      refine take_at 31 (v := undef) rfl (by kernel_rfl) (by kernel_rfl) (by kernel_rfl) (fun _ _ _ h => h) hHeld (Or.inr ⟨by rfl, rfl⟩) ?_
      simp only [Act.put, List.setIfInBounds_toArray, List.set_cons_zero, List.set_cons_succ]
      refine take_at 32 (v := undef) rfl (by kernel_rfl) (by kernel_rfl) (by kernel_rfl) (fun _ _ _ h => h) hHeld (Or.inr ⟨by rfl, rfl⟩) ?_
      simp only [Act.put, List.setIfInBounds_toArray, List.set_cons_zero, List.set_cons_succ]
      refine take_at 33 (v := undef) rfl (by kernel_rfl) (by kernel_rfl) (by kernel_rfl) (fun _ _ _ h => h) hHeld (Or.inr ⟨by rfl, rfl⟩) ?_
      simp only [Act.put, List.setIfInBounds_toArray, List.set_cons_zero, List.set_cons_succ]
      refine take_at 34 (v := ?_) rfl (by kernel_rfl) (by kernel_rfl) (by kernel_rfl) (fun _ _ _ h => h) hHeld (Or.inl ⟨by rfl, ?_⟩) ?_
      rotate_left
      · (intro w hSw; (try dsimp only at hSw); go_simp; try with_reducible rfl)
      simp only [Act.put, List.setIfInBounds_toArray, List.set_cons_zero, List.set_cons_succ]
      refine wpAnyH_done (by kernel_rfl) ?_ _
      go_wp2_with fail
      go_meet
      exact ⟨rfl, z3⟩
  case rest =>
  obtain ⟨rfl, B0⟩ := hcut
  obtain ⟨v0, rfl⟩ : ∃ v0 : World, v0 = wc := ⟨_, rfl⟩
  cases BB with
  | true =>
    have BR0 : Hid (Below W10.heap.size W10 v0) := B0
    go_wp2_with fail
    first
      | (go_region_held3 (fun w' => w'.cell? ⟨w1.heap.size, 0, none⟩ = some (.slice dq1 ds.length dc1) ∧ w'.cell? ⟨w1.heap.size, 1, none⟩ = some (.slice dq2 dp.length dc2) ∧ w'.cell? ⟨w3.heap.size, 0, none⟩ = some (.slice eq1 es.length ec1) ∧ w'.cell? ⟨w3.heap.size, 1, none⟩ = some (.slice eq2 ep.length ec2) ∧ w'.cell? ⟨w5.heap.size, 0, none⟩ = some (.slice vq1 VS.length vc1) ∧ w'.cell? ⟨w5.heap.size, 1, none⟩ = some (.slice vq2 VP.length vc2) ∧ w'.cell? ⟨w5.heap.size, 2, none⟩ = some (.string VT) ∧ w'.cell? ⟨w5.heap.size, 3, none⟩ = some (.int .i64 VG) ∧ w'.cell? ⟨w5.heap.size, 4, none⟩ = some (.int .i64 VC) ∧ w'.cell? ⟨w7.heap.size, 0, none⟩ = some (.slice uq1 US.length uc1) ∧ w'.cell? ⟨w7.heap.size, 1, none⟩ = some (.slice uq2 UP.length uc2) ∧ w'.cell? ⟨w7.heap.size, 2, none⟩ = some (.string ByteArray.empty) ∧ w'.cell? ⟨w7.heap.size, 3, none⟩ = some (.int .i64 0) ∧ w'.cell? ⟨w7.heap.size, 4, none⟩ = some (.int .i64 UC) ∧ w'.cell? ⟨w9.heap.size, 0, none⟩ = some (.slice yq1 YS.length yc1) ∧ w'.cell? ⟨w9.heap.size, 1, none⟩ = some (.slice yq2 YP.length yc2) ∧ w'.cell? ⟨w9.heap.size, 2, none⟩ = some (.string ByteArray.empty) ∧ w'.cell? ⟨w9.heap.size, 3, none⟩ = some (.int .i64 0) ∧ w'.cell? ⟨w9.heap.size, 4, none⟩ = some (.int .i64 YC)) (exact HX.out _ (by first | with_reducible assumption | exact B0.out.drew)) (first
          | (go_at_call 13; have q1 := z1; with_reducible refine (QuS.out _ ?hb).mono ?_; (case hb => first | with_reducible assumption | exact z1); rintro e y2 ⟨⟨b1q, b1c, b2q, b2c, rfl, bm1, bm2, bt1, bt2⟩, z2⟩; have z2 : Below W10.heap.size W10 y2 := chainB z1 z2)
          | (go_at_call 13; with_reducible refine (QuS.out _ ?hb).mono ?_; (case hb => first | with_reducible assumption | exact B0.out | exact B0.out.drew); rintro e y1 ⟨⟨a1q, a1c, a2q, a2c, rfl, am1, am2, at1, at2⟩, z1⟩; have z1 : Below W10.heap.size W10 y1 := chainB (by first | assumption | exact B0.out | exact B0.out.drew) z1)
          | (go_at_call 18; with_reducible refine (QLu.out _ _ _ _ _ z2 bm1 bm2 bt1 bt2).mono ?_; rintro e y3 ⟨rfl, z3⟩; have z3 : Below W10.heap.size W10 y3 := chainB z2 z3)
          | (go_at_call 13; with_reducible refine (QyS.out _ z3).mono ?_; rintro e y4 ⟨⟨c1q, c1c, c2q, c2c, rfl, cm1, cm2, ct1, ct2⟩, z4⟩; have z4 : Below W10.heap.size W10 y4 := chainB z3 z4)))
      | fail
    all_goals
      have B9 : Hid (Below w.heap.size w y4) := chainB BW.out z4
      go_wp2_with fail
      go_ret
      exact ⟨rfl, B9.out⟩
  | false =>
  have hall : UC = 0 ∧ YC = 0 ∧ dp = [] := by
    have h := HBB.out
    by_cases hh : UC = 0 ∧ YC = 0 ∧ dp = []
    · exact hh
    · rw [decide_eq_false hh] at h; cases h
  obtain ⟨hu, hy, hdp⟩ := hall
  have hpu : puC ds [] tx st = 0 := by rw [← hdp, ← HUE.out.2.2]; exact hu
  have hpy : puC ds [] tx 1000 = 0 := by rw [← hdp, ← HYE.out.2.2]; exact hy
  obtain ⟨t1, t2, t3, -⟩ := put_torn L (by omega) hpu
  obtain ⟨r1, r2, -, r4⟩ := put_torn L (by omega) hpy
  have r4 := r4 (by unfold needN; have : (1000 : Int).toNat = 1000 := rfl; omega)
  have hgl := (puC_ok hpu).2.2.2.1
  have hUr : dskB US UP = true := by rw [HUE.out.1, HUE.out.2.1]; exact pu_right (by rw [hdp]; exact hpu)
  have hYr : dskB YS YP = true := by rw [HYE.out.1, HYE.out.2.1]; exact pu_right (by rw [hdp]; exact hpy)
  have eU : crS US UP L = crS (puS ds [] tx st) (puP ds [] tx st) L ∧ crP US UP L = [] := by rw [HUE.out.1, HUE.out.2.1, hdp]; exact ⟨rfl, t1⟩
  have eY : crS YS YP L = crS (puS ds [] tx 1000) (puP ds [] tx 1000) L ∧ crP YS YP L = [] := by rw [HYE.out.1, HYE.out.2.1, hdp]; exact ⟨rfl, r1⟩
  rw [← eU.1] at t2 t3
  rw [← eY.1] at r2 r4
  obtain ⟨CU, hCU⟩ : ∃ CU, CU = crS US UP L := ⟨_, rfl⟩
  obtain ⟨CY, hCY⟩ : ∃ CY, CY = crS YS YP L := ⟨_, rfl⟩
  have hCUl : CU.length ≤ 64 := by rw [hCU, (crash_of hUr L (by omega)).1, crashB_len]; omega
  have hCYl : CY.length ≤ 64 := by rw [hCY, (crash_of hYr L (by omega)).1, crashB_len]; omega
  obtain ⟨AT, hAT⟩ : ∃ AT, AT = arT CU [] := ⟨_, rfl⟩
  obtain ⟨AG, hAG⟩ : ∃ AG, AG = arG CU [] := ⟨_, rfl⟩
  obtain ⟨BG, hBG⟩ : ∃ BG, BG = arG CY [] := ⟨_, rfl⟩
  obtain ⟨NG, hNG⟩ : ∃ NG, NG = arG ds [] := ⟨_, rfl⟩
  rw [← hCU] at t2 t3
  rw [← hCY] at r2 r4
  rw [← hAT, ← hAG, ← hNG] at t3
  rw [← hNG] at hgl
  have hVG : VG = (NG : Int) := by rw [HVE.out.2.2.2.2, hdp, hNG]
  have hVT : VT = arT ds [] := by rw [HVE.out.2.2.2.1, hdp]
  rw [← hVT] at t3
  have QCu : Hid (∀ x, Below W10.heap.size W10 x → Calls Tryz.prog 19 #[.agg #[.slice uq1 US.length uc1, .slice uq2 UP.length uc2], .slice kq L.length kc] x fun e x1 => (∃ q1 c1 q2 c2, e = .returned (.agg #[.slice q1 CU.length c1, .slice q2 0 c2]) ∧ CU.length ≤ c1 ∧ TxtAt x1 q1 CU) ∧ Below x.heap.size x x1) := fun x hb => by
    have h0 := implDiskCrash_any uq1 uc1 US uq2 uc2 UP kq kc L x (Tu.out x hb).1 (Tu.out x hb).2 (TL.out x hb) (by omega) (by omega) (by omega) um1 um2 km (fun s hs => by have := (dskB_parts hUr).2.2.1 s hs; omega) (fun q hq => by have := ((dskB_parts hUr).2.2.2 q hq).2; omega)
    rw [← hCU, eU.2] at h0
    exact h0.mono (by
    rintro e x1 ⟨v1, v2, rfl, ho, h⟩
    obtain ⟨q1, c1, rfl, m1, t1⟩ := ownS_form ho.own1
    obtain ⟨q2, c2, rfl, m2, -⟩ := ownP_form ho.own2
    exact ⟨⟨q1, c1, q2, c2, rfl, m1, t1⟩, h⟩)
  have QCy : Hid (∀ x, Below W10.heap.size W10 x → Calls Tryz.prog 19 #[.agg #[.slice yq1 YS.length yc1, .slice yq2 YP.length yc2], .slice kq L.length kc] x fun e x1 => (∃ q1 c1 q2 c2, e = .returned (.agg #[.slice q1 CY.length c1, .slice q2 0 c2]) ∧ CY.length ≤ c1 ∧ TxtAt x1 q1 CY) ∧ Below x.heap.size x x1) := fun x hb => by
    have h0 := implDiskCrash_any yq1 yc1 YS yq2 yc2 YP kq kc L x (Ty.out x hb).1 (Ty.out x hb).2 (TL.out x hb) (by omega) (by omega) (by omega) ym1 ym2 km (fun s hs => by have := (dskB_parts hYr).2.2.1 s hs; omega) (fun q hq => by have := ((dskB_parts hYr).2.2.2 q hq).2; omega)
    rw [← hCY, eY.2] at h0
    exact h0.mono (by
    rintro e x1 ⟨v1, v2, rfl, ho, h⟩
    obtain ⟨q1, c1, rfl, m1, t1⟩ := ownS_form ho.own1
    obtain ⟨q2, c2, rfl, m2, -⟩ := ownP_form ho.own2
    exact ⟨⟨q1, c1, q2, c2, rfl, m1, t1⟩, h⟩)
  have QAu : Hid (∀ x q1 c1 q2 c2, Below W10.heap.size W10 x → CU.length ≤ c1 → TxtAt x q1 CU → Calls Tryz.prog 8 #[.agg #[.slice q1 CU.length c1, .slice q2 0 c2]] x fun e x1 => (∃ o1 n1 d1 o2 n2 d2, e = .returned (.agg #[.slice o1 n1 d1, .slice o2 n2 d2, .string AT, .int .i64 (AG : Int), .int .i64 0])) ∧ Below x.heap.size x x1) := fun x q1 c1 q2 c2 hb m1 h1 => by
    have h0 := implAreaRead_any q1 c1 CU q2 c2 [] ea eb ec ed x h1 (PndAt.nil _ _) (by omega) (by simp) m1 (Nat.zero_le _) (HSn.out.below (chainB BW.out hb)) (HLd.out.below (chainB BW.out hb))
    rw [← hAT, ← hAG, t2] at h0
    exact h0.mono (by
    rintro e x1 ⟨v1, v2, rfl, ho, h⟩
    obtain ⟨o1, d1, rfl, -, -⟩ := ownS_form ho.own1
    obtain ⟨o2, d2, rfl, -, -⟩ := ownP_form ho.own2
    exact ⟨⟨o1, _, d1, o2, _, d2, rfl⟩, h⟩)
  have QAy : Hid (∀ x q1 c1 q2 c2, Below W10.heap.size W10 x → CY.length ≤ c1 → TxtAt x q1 CY → Calls Tryz.prog 8 #[.agg #[.slice q1 CY.length c1, .slice q2 0 c2]] x fun e x1 => (∃ o1 n1 d1 o2 n2 d2, e = .returned (.agg #[.slice o1 n1 d1, .slice o2 n2 d2, .string tx, .int .i64 (BG : Int), .int .i64 0])) ∧ Below x.heap.size x x1) := fun x q1 c1 q2 c2 hb m1 h1 => by
    have h0 := implAreaRead_any q1 c1 CY q2 c2 [] ea eb ec ed x h1 (PndAt.nil _ _) (by omega) (by simp) m1 (Nat.zero_le _) (HSn.out.below (chainB BW.out hb)) (HLd.out.below (chainB BW.out hb))
    rw [← hBG, r2, r4] at h0
    exact h0.mono (by
    rintro e x1 ⟨v1, v2, rfl, ho, h⟩
    obtain ⟨o1, d1, rfl, -, -⟩ := ownS_form ho.own1
    obtain ⟨o2, d2, rfl, -, -⟩ := ownP_form ho.own2
    exact ⟨⟨o1, _, d1, o2, _, d2, rfl⟩, h⟩)
  have HT3 : Hid ((AT = VT ∧ AG = NG) ∨ (AT = tx ∧ AG = NG + 1)) := t3
  have k0 := (HX.out v0 B0.out).2.2.2.2.2.2.2.2.2.1
  have k1 := (HX.out v0 B0.out).2.2.2.2.2.2.2.2.2.2.1
  clear hu hy hdp hpu hpy t1 t2 t3 r1 r2 r4 hUr hYr eU eY hCU hCY hAT hAG hBG hNG hVT HBB QuS QyS QLu BR hfc hfd HUE HYE HVE
  go_wp2_with fail
  refine (QCu.out v0 B0.out).mono ?_
  rintro e x1 ⟨⟨q1, c1, q2, c2, rfl, m1, g1⟩, b1⟩
  have b1 := chainB B0.out b1
  have hA := QAu.out x1 q1 c1 q2 c2 b1 m1 g1
  have B1 : Hid (Below W10.heap.size W10 x1) := b1
  clear k0 k1 b1 g1
  go_wp2_with fail
  refine hA.mono ?_
  rintro e x2 ⟨⟨o1, n1, d1, o2, n2, d2, rfl⟩, b2⟩
  obtain ⟨V3, hV3⟩ : ∃ V3, V3 = x2.alloc (.cells #[.slice o1 n1 d1, .slice o2 n2 d2, .string AT, .int .i64 (AG : Int), .int .i64 0] 31) := ⟨_, rfl⟩
  have HV3 : Hid (V3 = x2.alloc (.cells #[.slice o1 n1 d1, .slice o2 n2 d2, .string AT, .int .i64 (AG : Int), .int .i64 0] 31)) := hV3
  have KA : Hid (Bxs V3 x2.heap.size 31 #[.slice o1 n1 d1, .slice o2 n2 d2, .string AT, .int .i64 (AG : Int), .int .i64 0]) := by rw [hV3]; exact Bxs.new _ _ _
  have B3 : Hid (Below W10.heap.size W10 V3) := by rw [hV3]; exact alB (chainB B1.out b2) _
  have k0 := (HX.out V3 B3.out).2.2.2.2.2.2.2.2.2.2.2.2.2.2.1
  have k1 := (HX.out V3 B3.out).2.2.2.2.2.2.2.2.2.2.2.2.2.2.2.1
  rw [hV3] at k0 k1
  clear hV3 hA b2 B1
  go_wp2_with fail
  rw [← HV3.out]
  refine (QCy.out V3 B3.out).mono ?_
  rintro e x4 ⟨⟨p1, f1, p2, f2, rfl, m4, g4⟩, b4⟩
  have hA := QAy.out x4 p1 f1 p2 f2 (chainB B3.out b4) m4 g4
  have S4 : Hid (Below V3.heap.size V3 x4) := b4
  clear k0 k1 b4 g4
  go_wp2_with fail
  refine hA.mono ?_
  rintro e x5 ⟨⟨u1, i1, j1, u2, i2, j2, rfl⟩, b5⟩
  obtain ⟨V6, hV6⟩ : ∃ V6, V6 = x5.alloc (.cells #[.slice u1 i1 j1, .slice u2 i2 j2, .string tx, .int .i64 (BG : Int), .int .i64 0] 31) := ⟨_, rfl⟩
  have s6 : Below V3.heap.size V3 V6 := by rw [hV6]; exact alB (chainB S4.out b5) _
  have KB : Bxs V6 x5.heap.size 31 #[.slice u1 i1 j1, .slice u2 i2 j2, .string tx, .int .i64 (BG : Int), .int .i64 0] := by rw [hV6]; exact Bxs.new _ _ _
  have B6 := chainB B3.out s6
  have a2 := (KA.out.below s6).cell 2
  have a3 := (KA.out.below s6).cell 3
  have a4 := (KA.out.below s6).cell 4
  have b2' := KB.cell 2
  have b4' := KB.cell 4
  have w2 := (HX.out V6 B6).2.2.2.2.2.2.1
  have w3 := (HX.out V6 B6).2.2.2.2.2.2.2.1
  rw [hVG] at w3
  have B9 : Hid (Below w.heap.size w V6) := chainB BW.out B6
  rw [hV6] at a2 a3 a4 b2' b4' w2 w3 B9
  have hwr : IntKind.i64.wrap ((NG : Int) + 1) = (NG : Int) + 1 := by rw [IntKind.wrap_i64]; omega
  have htt : (tx.toList == tx.toList) = true := toL_eq _ _ rfl
  have htn : (tx.toList != tx.toList) = false := by unfold bne; rw [htt]; rfl
  clear hA b5 hV6 s6 KB B6 hVG KA S4
  rcases HT3.out with ⟨q1', q2'⟩ | ⟨q1', q2'⟩
  · subst q1' q2'
    have h1 : (AT.toList == AT.toList) = true := toL_eq _ _ rfl
    have h2 : ((AG : Int) == (AG : Int)) = true := beq_self_eq_true _
    go_wp2_with fail
    go_ret
    exact ⟨rfl, B9.out⟩
  · subst q1' q2'
    have h2 : (((NG + 1 : Nat) : Int) == (NG : Int)) = false := beq_eq_false_iff_ne.2 (by omega)
    have h2i : ((NG : Int) + 1 == (NG : Int)) = false := beq_eq_false_iff_ne.2 (by omega)
    have hpc : ((NG + 1 : Nat) : Int) = (NG : Int) + 1 := by omega
    rw [hpc] at a3
    by_cases h3 : AT = VT
    · subst h3
      go_wp2_with fail
      go_ret
      exact ⟨rfl, B9.out⟩
    · have h4 : (AT.toList == VT.toList) = false := toL_neq h3
      go_wp2_with fail
      go_ret
      exact ⟨rfl, B9.out⟩
end Go.Proofs.YtkhffoailfnepabGreatDoor
