/-
  The law FnLog returns true at any two codes of at most 2^20 bytes, where errors.errorType and the two tables lie as the program's text lays them.
-/
import Derived.Test.YtepmoihgemhjcaaGreatDoorRows
import Derived.Test.YtepmoihgemhjcaaGreatDoorBytesDigMath
import Derived.Test.YtepmoihgemhjcaaGreatDoorTabsOf
import Derived.Test.YtepmoihgemhjcaaGreatDoorTreeMathSlABxKSlBOwnS
import Derived.Test.YtepmoihgemhjcaaGreatDoorTimeBPutMathPutNumJoinedPutTextFldMath
import Derived.Test.YtepmoihgemhjcaaGreatDoorFldGSrcDrawsDrawKitAppSSomeDrawTreeScanMath
import Derived.Test.YtepmoihgemhjcaaGreatDoorGetValGetTxtNumMathFldRdNumFromTmbMathFldRiseLgMath
import Derived.Test.YtepmoihgemhjcaaGreatDoorLgAtKLgAnsLgRtShwKOneKFldBlkRwBlk
import Derived.Test.YtepmoihgemhjcaaGreatDoorRowOpsLgO
import Derived.Test.YtepmoihgemhjcaaGreatDoorLtMathLaMathLfMathTakesLStepAppBlNotTakes
import Derived.Test.YtepmoihgemhjcaaGreatDoorLaITurn2
import Derived.Test.YtepmoihgemhjcaaGreatDoorLaSImplFg
import Derived.Test.YtepmoihgemhjcaaGreatDoorLfISpecPl
import Derived.Test.YtepmoihgemhjcaaGreatDoorLfSLtI
import Derived.Test.YtepmoihgemhjcaaGreatDoorSpecClLtS
import Derived.Test.YtepmoihgemhjcaaGreatDoorSpecLr
import Derived.Test.YtepmoihgemhjcaaGreatDoorLogRICopiedImplClLaB
import Derived.Test.YtepmoihgemhjcaaGreatDoorImplPlLfF
import Derived.Test.YtepmoihgemhjcaaGreatDoorLgLawLwRowLwLog
import Derived.Test.YtepmoihgemhjcaaGreatDoorDrawLkFgBoxLgaAtDrawRowX
import Derived.Test.YtepmoihgemhjcaaGreatDoorDrawSmDrawTb
import Derived.Test.YtepmoihgemhjcaaGreatDoorDrawLog
import Derived.Test.YtepmoihgemhjcaaGreatDoorDrawLgs
import Derived.Test.YtepmoihgemhjcaaGreatDoorDrawLa
import Derived.Handy
import Derived.WalkSpells
import Derived.OwnWalk
import Derived.Deep.RegionHeld3
import Derived.Deep.Cut
import Derived.Deep.CutRange
namespace Go.Proofs.YtepmoihgemhjcaaGreatDoor
open Go.RowKit Go.Lib
set_option linter.unusedVariables false
set_option maxRecDepth 20000

set_option maxHeartbeats 32000000 in
theorem fnLog_any (a0 : Option Addr) (len0 cap0 : Nat) (a1 : Option Addr) (len1 cap1 : Nat) (w : World) (hl0 : len0 ≤ 1048576) (hl1 : len1 ≤ 1048576) (c0 : CodeAt w.heap.size a0 len0 w) (c1 : CodeAt w.heap.size a1 len1 w) (hT : Tabs w) (hLd : Laid w) :
    Calls Tryz.prog 3 #[.slice a0 len0 cap0, .slice a1 len1 cap1] w fun e w' => e = .returned (.bool true) ∧ Below w.heap.size w w' := by
  have CD0 : Hid (CodeAt w.heap.size a0 len0 w) := c0
  have CD1 : Hid (CodeAt w.heap.size a1 len1 w) := c1
  have HT : Hid (Tabs w) := hT
  have HL : Hid (Laid w) := hLd
  clear c0 c1 hT hLd
  have d1 : decide (1048576 < (len0 : Int)) = false := by simp; omega
  have d2 : decide (1048576 < (len1 : Int)) = false := by simp; omega
  have B0 : Hid (Below w.heap.size w w) := Below.refl _ _
  go_enter Tryz.func3, Tryz.ntmps3
  go_wp2_with fail
  refine (drawLogAdd_any w.heap.size a0 len0 cap0 _ hl0 B0.out.size (CD0.out.below B0.out)).mono ?_
  rintro e v0 ⟨⟨q0, cq0, rs0, p0, cp0, lv0, now0, rk, ra, rf, rq, rc, rfl, hi, hf, hfr, hrc, hrz⟩, bb⟩
  obtain ⟨W1, hW⟩ : ∃ W, W = (v0.alloc (.cells #[.slice q0 rs0.length cq0, .slice p0 lv0.length cp0, .int .i64 now0] 26)).alloc (.cells #[.string rk, .int .i64 ra, .slice rq rf.length rc] 29) := ⟨_, rfl⟩
  have HW0 : Hid (W1 = (v0.alloc (.cells #[.slice q0 rs0.length cq0, .slice p0 lv0.length cp0, .int .i64 now0] 26)).alloc (.cells #[.string rk, .int .i64 ra, .slice rq rf.length rc] 29)) := hW
  obtain ⟨G0, hG⟩ : ∃ G, G = v0.heap.size := ⟨_, rfl⟩
  have HG0 : Hid (G0 = v0.heap.size) := hG
  obtain ⟨GR, hG2⟩ : ∃ G, G = v0.heap.size + 1 := ⟨_, rfl⟩
  have HGb0 : Hid (GR = v0.heap.size + 1) := hG2
  have ba : Below v0.heap.size v0 W1 := by rw [hW]; exact alB ((Below.refl _ _).alloc (Nat.le_refl _) _) _
  have N0 : Hid (Bxs W1 G0 26 #[.slice q0 rs0.length cq0, .slice p0 lv0.length cp0, .int .i64 now0]) := by rw [hW, hG]; exact (Bxs.new _ _ _).alloc _
  have NR : Hid (Bxs W1 GR 29 #[.string rk, .int .i64 ra, .slice rq rf.length rc]) := by
    rw [hW, hG2]
    have h := Bxs.new (v0.alloc (.cells #[.slice q0 rs0.length cq0, .slice p0 lv0.length cp0, .int .i64 now0] 26)) 29 #[.string rk, .int .i64 ra, .slice rq rf.length rc]
    rwa [szA] at h
  have bs := chainB bb ba
  have B1 : Hid (Below w.heap.size w W1) := chainB B0.out bs
  have K0 := N0
  have KR := NR
  have A0 : Hid (LgAt p0 lv0 cp0 q0 rs0 cq0 W1) := hi.at.below ba
  have FR : Hid (FldAt W1 rq rf) := hfr.below ba
  have hm0 := lof_m hf
  have HRZ : Hid (RwZ rk ra rf) := hrz
  clear hW hG ba bb bs N0 NR hi hf hfr hrz B0 hG2
  go_wp2_with fail
  rw [← HW0.out, ← HGb0.out, ← HG0.out]
  clear HW0 HG0 HGb0
  have hfn : rf.length ≤ 4 := HRZ.out.2.2.1
  have hCall := implLogAdd_any p0 lv0 cp0 q0 rs0 cq0 now0 rk ra rq rc rf W1 (HT.out.to B1.out) (HL.out.below B1.out) A0.out FR.out (by omega) hrc (rwZ_le HRZ.out).1 (rwZ_le HRZ.out).2
  have hSp1 := fun x (hb : Below W1.heap.size W1 x) => specLogAdd_any p0 lv0 cp0 q0 rs0 cq0 now0 rk ra rq rc rf x (A0.out.below hb) (FR.out.below hb) (by omega) hrc (rwZ_le HRZ.out).1 (rwZ_le HRZ.out).2
  have hI1 : laC rs0 lv0 now0 ⟨rk, ra, rf⟩ ≠ 0 → _ := la_ill
  have hJ1 : laC rs0 lv0 now0 ⟨rk, ra, rf⟩ = 0 → lgB (laR rs0 lv0 now0 ⟨rk, ra, rf⟩) (laL rs0 lv0 now0 ⟨rk, ra, rf⟩) (laN rs0 lv0 now0 ⟨rk, ra, rf⟩) = true := la_right
  have hLaw1 : laC rs0 lv0 now0 ⟨rk, ra, rf⟩ = 0 → stO (laR rs0 lv0 now0 ⟨rk, ra, rf⟩) (laL rs0 lv0 now0 ⟨rk, ra, rf⟩) (laN rs0 lv0 now0 ⟨rk, ra, rf⟩) (rs0.length : Int) 0 = 1 ∧ plO (laR rs0 lv0 now0 ⟨rk, ra, rf⟩) (laL rs0 lv0 now0 ⟨rk, ra, rf⟩) (laN rs0 lv0 now0 ⟨rk, ra, rf⟩) (rs0.length : Int) = (lv0.length : Int) ∧ (laL rs0 lv0 now0 ⟨rk, ra, rf⟩).take lv0.length = lv0 ∧ (laL rs0 lv0 now0 ⟨rk, ra, rf⟩).length = lv0.length + 1 := fun h => ⟨la_there h, la_place h, la_leaves h⟩
  generalize laC rs0 lv0 now0 ⟨rk, ra, rf⟩ = C1 at *
  generalize laR rs0 lv0 now0 ⟨rk, ra, rf⟩ = rs1 at *
  generalize laL rs0 lv0 now0 ⟨rk, ra, rf⟩ = lv1 at *
  generalize laN rs0 lv0 now0 ⟨rk, ra, rf⟩ = now1 at *
  have HJ1 : Hid (C1 = 0 → lgB rs1 lv1 now1 = true) := hJ1
  have HI1 : Hid (C1 ≠ 0 → rs1 = [] ∧ lv1 = [] ∧ now1 = 0) := hI1
  have HLaw1 : Hid (C1 = 0 → stO rs1 lv1 now1 (rs0.length : Int) 0 = 1 ∧ plO rs1 lv1 now1 (rs0.length : Int) = (lv0.length : Int) ∧ lv1.take lv0.length = lv0 ∧ lv1.length = lv0.length + 1) := hLaw1
  clear hI1 hJ1 hLaw1
  have S1 : Hid (Below W1.heap.size W1 W1) := Below.refl _ _
  have HS1 : Hid (∀ x, Below W1.heap.size W1 x → Calls Tryz.prog 16 #[.agg #[.slice q0 rs0.length cq0, .slice p0 lv0.length cp0, .int .i64 now0], .agg #[.string rk, .int .i64 ra, .slice rq rf.length rc]] x fun e x1 => ∃ (q : Option Addr) (cq : Nat) (p : Option Addr) (cp : Nat), e = .returned (.agg #[.slice q rs1.length cq, .slice p lv1.length cp, .int .i64 now1, .int .i64 C1]) ∧ LgAt p lv1 cp q rs1 cq x1 ∧ Below x.heap.size x x1) := fun x hb => (hSp1 x hb).mono (by rintro e x1 ⟨hA, y⟩; obtain ⟨q, cq, p, cp, rfl, hAt⟩ := lga_at hA HJ1.out HI1.out; exact ⟨q, cq, p, cp, rfl, hAt, y⟩)
  clear hSp1
  have hCall : Calls Tryz.prog 7 #[.agg #[.slice q0 rs0.length cq0, .slice p0 lv0.length cp0, .int .i64 now0], .agg #[.string rk, .int .i64 ra, .slice rq rf.length rc]] W1 _ := hCall
  refine hCall.mono ?_
  rintro e v1 ⟨hA, bb⟩
  obtain ⟨q1, cq1, p1, cp1, rfl, hAt⟩ := lga_at hA HJ1.out HI1.out
  clear hCall hA
  unfold LgV
  obtain ⟨W2, hW⟩ : ∃ W, W = v1.alloc (.cells #[.slice q1 rs1.length cq1, .slice p1 lv1.length cp1, .int .i64 now1, .int .i64 C1] 33) := ⟨_, rfl⟩
  have HW1 : Hid (W2 = v1.alloc (.cells #[.slice q1 rs1.length cq1, .slice p1 lv1.length cp1, .int .i64 now1, .int .i64 C1] 33)) := hW
  obtain ⟨G1, hG⟩ : ∃ G, G = v1.heap.size := ⟨_, rfl⟩
  have HG1 : Hid (G1 = v1.heap.size) := hG
  have ba : Below v1.heap.size v1 W2 := by rw [hW]; exact (Below.refl _ _).alloc (Nat.le_refl _) _
  have N1 : Hid (Bxs W2 G1 33 #[.slice q1 rs1.length cq1, .slice p1 lv1.length cp1, .int .i64 now1, .int .i64 C1]) := by rw [hW, hG]; exact Bxs.new _ _ _
  have bs := chainB bb ba
  have B2 : Hid (Below w.heap.size w W2) := chainB B1.out bs
  replace S1 : Hid (Below W1.heap.size W1 W2) := chainB S1.out bs
  replace K0 : Hid (Bxs W2 G0 26 #[.slice q0 rs0.length cq0, .slice p0 lv0.length cp0, .int .i64 now0]) := K0.out.below bs
  replace A0 : Hid (LgAt p0 lv0 cp0 q0 rs0 cq0 W2) := A0.out.below bs
  replace KR : Hid (Bxs W2 GR 29 #[.string rk, .int .i64 ra, .slice rq rf.length rc]) := KR.out.below bs
  replace FR : Hid (FldAt W2 rq rf) := FR.out.below bs
  have K1 := N1
  have A1 : Hid (LgAt p1 lv1 cp1 q1 rs1 cq1 W2) := hAt.below ba
  clear hW hG ba bb bs N1 hAt B1
  go_wp2_with fail
  rw [← HW1.out, ← HG1.out]
  clear HW1 HG1
  as_aux_lemma =>
    refine (drawLogForget_any w.heap.size a1 len1 cap1 _ hl1 B2.out.size (CD1.out.below B2.out)).mono ?_
    rintro e v2 ⟨⟨q2, cq2, rs2, p2, cp2, lv2, now2, i2, f2, y2, rfl, hi, hf, i20, i21, f20, f21, y20, y21⟩, bb⟩
    obtain ⟨W3, hW⟩ : ∃ W, W = v2.alloc (.cells #[.slice q2 rs2.length cq2, .slice p2 lv2.length cp2, .int .i64 now2] 26) := ⟨_, rfl⟩
    have HW2 : Hid (W3 = v2.alloc (.cells #[.slice q2 rs2.length cq2, .slice p2 lv2.length cp2, .int .i64 now2] 26)) := hW
    obtain ⟨G2, hG⟩ : ∃ G, G = v2.heap.size := ⟨_, rfl⟩
    have HG2 : Hid (G2 = v2.heap.size) := hG
    have ba : Below v2.heap.size v2 W3 := by rw [hW]; exact (Below.refl _ _).alloc (Nat.le_refl _) _
    have N2 : Hid (Bxs W3 G2 26 #[.slice q2 rs2.length cq2, .slice p2 lv2.length cp2, .int .i64 now2]) := by rw [hW, hG]; exact Bxs.new _ _ _
    have bs := chainB bb ba
    have B3 : Hid (Below w.heap.size w W3) := chainB B2.out bs
    replace S1 : Hid (Below W1.heap.size W1 W3) := chainB S1.out bs
    replace K0 : Hid (Bxs W3 G0 26 #[.slice q0 rs0.length cq0, .slice p0 lv0.length cp0, .int .i64 now0]) := K0.out.below bs
    replace A0 : Hid (LgAt p0 lv0 cp0 q0 rs0 cq0 W3) := A0.out.below bs
    replace KR : Hid (Bxs W3 GR 29 #[.string rk, .int .i64 ra, .slice rq rf.length rc]) := KR.out.below bs
    replace FR : Hid (FldAt W3 rq rf) := FR.out.below bs
    replace K1 : Hid (Bxs W3 G1 33 #[.slice q1 rs1.length cq1, .slice p1 lv1.length cp1, .int .i64 now1, .int .i64 C1]) := K1.out.below bs
    replace A1 : Hid (LgAt p1 lv1 cp1 q1 rs1 cq1 W3) := A1.out.below bs
    have K2 := N2
    have A2 : Hid (LgAt p2 lv2 cp2 q2 rs2 cq2 W3) := hi.at.below ba
    have hm2 := lof_m hf
    have hn2 : rs2.length ≤ 7 := hf.1
    clear hW hG ba bb bs N2 hi hf B2
    go_wp2_with fail
    rw [← HW2.out, ← HG2.out]
    clear HW2 HG2
    have hCall := implLogForget_any p2 lv2 cp2 q2 rs2 cq2 now2 i2 f2 y2 W3 (HT.out.to B3.out) (HL.out.below B3.out) A2.out
    have hSp3 := fun x (hb : Below W3.heap.size W3 x) => specLogForget_any p2 lv2 cp2 q2 rs2 cq2 now2 i2 f2 y2 x (A2.out.below hb)
    have hI3 : lfC rs2 lv2 now2 i2 f2 y2 ≠ 0 → _ := lf_ill
    have hJ3 : lfC rs2 lv2 now2 i2 f2 y2 = 0 → lgB (lfR rs2 lv2 now2 i2 f2 y2) (lfL rs2 lv2 now2 i2 f2 y2) (lfN rs2 lv2 now2 i2 f2 y2) = true := lf_right
    have hLaw3 : lfC rs2 lv2 now2 i2 f2 y2 = 0 → (stO (lfR rs2 lv2 now2 i2 f2 y2) (lfL rs2 lv2 now2 i2 f2 y2) (lfN rs2 lv2 now2 i2 f2 y2) i2 f2 = 2 ∧ tbO (lfR rs2 lv2 now2 i2 f2 y2) (lfL rs2 lv2 now2 i2 f2 y2) (lfN rs2 lv2 now2 i2 f2 y2) i2 f2 = (lv2.length : Int) ∧ (lfL rs2 lv2 now2 i2 f2 y2).take lv2.length = lv2 ∧ (lfL rs2 lv2 now2 i2 f2 y2).length = lv2.length + 1) ∧ ∀ i k : Nat, ((i : Int) ≠ i2 ∨ (k : Int) ≠ f2) → stO (lfR rs2 lv2 now2 i2 f2 y2) (lfL rs2 lv2 now2 i2 f2 y2) (lfN rs2 lv2 now2 i2 f2 y2) (i : Int) (k : Int) = stO rs2 lv2 now2 (i : Int) (k : Int) := fun h => ⟨⟨lf_gone h, lf_note h, (lf_leaves h).1, (lf_leaves h).2.1⟩, fun i k hne => lf_other h i k hne⟩
    generalize lfC rs2 lv2 now2 i2 f2 y2 = C3 at *
    generalize lfR rs2 lv2 now2 i2 f2 y2 = rs3 at *
    generalize lfL rs2 lv2 now2 i2 f2 y2 = lv3 at *
    generalize lfN rs2 lv2 now2 i2 f2 y2 = now3 at *
    have HJ3 : Hid (C3 = 0 → lgB rs3 lv3 now3 = true) := hJ3
    have HI3 : Hid (C3 ≠ 0 → rs3 = [] ∧ lv3 = [] ∧ now3 = 0) := hI3
    have HLaw3 : Hid (C3 = 0 → (stO rs3 lv3 now3 i2 f2 = 2 ∧ tbO rs3 lv3 now3 i2 f2 = (lv2.length : Int) ∧ lv3.take lv2.length = lv2 ∧ lv3.length = lv2.length + 1) ∧ ∀ i k : Nat, ((i : Int) ≠ i2 ∨ (k : Int) ≠ f2) → stO rs3 lv3 now3 (i : Int) (k : Int) = stO rs2 lv2 now2 (i : Int) (k : Int)) := hLaw3
    clear hI3 hJ3 hLaw3
    have S3 : Hid (Below W3.heap.size W3 W3) := Below.refl _ _
    have HS3 : Hid (∀ x, Below W3.heap.size W3 x → Calls Tryz.prog 17 #[.agg #[.slice q2 rs2.length cq2, .slice p2 lv2.length cp2, .int .i64 now2], .int .i64 i2, .int .i64 f2, .int .i64 y2] x fun e x1 => ∃ (q : Option Addr) (cq : Nat) (p : Option Addr) (cp : Nat), e = .returned (.agg #[.slice q rs3.length cq, .slice p lv3.length cp, .int .i64 now3, .int .i64 C3]) ∧ LgAt p lv3 cp q rs3 cq x1 ∧ Below x.heap.size x x1) := fun x hb => (hSp3 x hb).mono (by rintro e x1 ⟨hA, y⟩; obtain ⟨q, cq, p, cp, rfl, hAt⟩ := lga_at hA HJ3.out HI3.out; exact ⟨q, cq, p, cp, rfl, hAt, y⟩)
    clear hSp3
    refine hCall.mono ?_
    rintro e v3 ⟨hA, bb⟩
    obtain ⟨q3, cq3, p3, cp3, rfl, hAt⟩ := lga_at hA HJ3.out HI3.out
    clear hCall hA
    unfold LgV
    obtain ⟨W4, hW⟩ : ∃ W, W = v3.alloc (.cells #[.slice q3 rs3.length cq3, .slice p3 lv3.length cp3, .int .i64 now3, .int .i64 C3] 33) := ⟨_, rfl⟩
    have HW3 : Hid (W4 = v3.alloc (.cells #[.slice q3 rs3.length cq3, .slice p3 lv3.length cp3, .int .i64 now3, .int .i64 C3] 33)) := hW
    obtain ⟨G3, hG⟩ : ∃ G, G = v3.heap.size := ⟨_, rfl⟩
    have HG3 : Hid (G3 = v3.heap.size) := hG
    have ba : Below v3.heap.size v3 W4 := by rw [hW]; exact (Below.refl _ _).alloc (Nat.le_refl _) _
    have N3 : Hid (Bxs W4 G3 33 #[.slice q3 rs3.length cq3, .slice p3 lv3.length cp3, .int .i64 now3, .int .i64 C3]) := by rw [hW, hG]; exact Bxs.new _ _ _
    have bs := chainB bb ba
    have B4 : Hid (Below w.heap.size w W4) := chainB B3.out bs
    replace S3 : Hid (Below W3.heap.size W3 W4) := chainB S3.out bs
    replace S1 : Hid (Below W1.heap.size W1 W4) := chainB S1.out bs
    replace K0 : Hid (Bxs W4 G0 26 #[.slice q0 rs0.length cq0, .slice p0 lv0.length cp0, .int .i64 now0]) := K0.out.below bs
    replace A0 : Hid (LgAt p0 lv0 cp0 q0 rs0 cq0 W4) := A0.out.below bs
    replace KR : Hid (Bxs W4 GR 29 #[.string rk, .int .i64 ra, .slice rq rf.length rc]) := KR.out.below bs
    replace FR : Hid (FldAt W4 rq rf) := FR.out.below bs
    replace K1 : Hid (Bxs W4 G1 33 #[.slice q1 rs1.length cq1, .slice p1 lv1.length cp1, .int .i64 now1, .int .i64 C1]) := K1.out.below bs
    replace A1 : Hid (LgAt p1 lv1 cp1 q1 rs1 cq1 W4) := A1.out.below bs
    replace K2 : Hid (Bxs W4 G2 26 #[.slice q2 rs2.length cq2, .slice p2 lv2.length cp2, .int .i64 now2]) := K2.out.below bs
    replace A2 : Hid (LgAt p2 lv2 cp2 q2 rs2 cq2 W4) := A2.out.below bs
    have K3 := N3
    have A3 : Hid (LgAt p3 lv3 cp3 q3 rs3 cq3 W4) := hAt.below ba
    clear hW hG ba bb bs N3 hAt B3
    go_wp2_with fail
    rw [← HW3.out, ← HG3.out]
    clear HW3 HG3
    as_aux_lemma =>
      refine (drawLogTime_any w.heap.size a0 len0 cap0 _ hl0 B4.out.size (CD0.out.below B4.out)).mono ?_
      rintro e v4 ⟨⟨q4, cq4, rs4, p4, cp4, lv4, now4, t4, rfl, hi, hf, t40, t41⟩, bb⟩
      obtain ⟨W5, hW⟩ : ∃ W, W = v4.alloc (.cells #[.slice q4 rs4.length cq4, .slice p4 lv4.length cp4, .int .i64 now4] 26) := ⟨_, rfl⟩
      have HW4 : Hid (W5 = v4.alloc (.cells #[.slice q4 rs4.length cq4, .slice p4 lv4.length cp4, .int .i64 now4] 26)) := hW
      obtain ⟨G4, hG⟩ : ∃ G, G = v4.heap.size := ⟨_, rfl⟩
      have HG4 : Hid (G4 = v4.heap.size) := hG
      have ba : Below v4.heap.size v4 W5 := by rw [hW]; exact (Below.refl _ _).alloc (Nat.le_refl _) _
      have N4 : Hid (Bxs W5 G4 26 #[.slice q4 rs4.length cq4, .slice p4 lv4.length cp4, .int .i64 now4]) := by rw [hW, hG]; exact Bxs.new _ _ _
      have bs := chainB bb ba
      have B5 : Hid (Below w.heap.size w W5) := chainB B4.out bs
      replace S3 : Hid (Below W3.heap.size W3 W5) := chainB S3.out bs
      replace S1 : Hid (Below W1.heap.size W1 W5) := chainB S1.out bs
      replace K0 : Hid (Bxs W5 G0 26 #[.slice q0 rs0.length cq0, .slice p0 lv0.length cp0, .int .i64 now0]) := K0.out.below bs
      replace A0 : Hid (LgAt p0 lv0 cp0 q0 rs0 cq0 W5) := A0.out.below bs
      replace KR : Hid (Bxs W5 GR 29 #[.string rk, .int .i64 ra, .slice rq rf.length rc]) := KR.out.below bs
      replace FR : Hid (FldAt W5 rq rf) := FR.out.below bs
      replace K1 : Hid (Bxs W5 G1 33 #[.slice q1 rs1.length cq1, .slice p1 lv1.length cp1, .int .i64 now1, .int .i64 C1]) := K1.out.below bs
      replace A1 : Hid (LgAt p1 lv1 cp1 q1 rs1 cq1 W5) := A1.out.below bs
      replace K2 : Hid (Bxs W5 G2 26 #[.slice q2 rs2.length cq2, .slice p2 lv2.length cp2, .int .i64 now2]) := K2.out.below bs
      replace A2 : Hid (LgAt p2 lv2 cp2 q2 rs2 cq2 W5) := A2.out.below bs
      replace K3 : Hid (Bxs W5 G3 33 #[.slice q3 rs3.length cq3, .slice p3 lv3.length cp3, .int .i64 now3, .int .i64 C3]) := K3.out.below bs
      replace A3 : Hid (LgAt p3 lv3 cp3 q3 rs3 cq3 W5) := A3.out.below bs
      have K4 := N4
      have A4 : Hid (LgAt p4 lv4 cp4 q4 rs4 cq4 W5) := hi.at.below ba
      have hw4 : -9223372036854775808 ≤ now4 ∧ now4 ≤ 9223372036854775807 := ⟨hf.2.2.2.2.1, hf.2.2.2.2.2⟩
      clear hW hG ba bb bs N4 hi hf B4
      go_wp2_with fail
      rw [← HW4.out, ← HG4.out]
      clear HW4 HG4
      have hCall := implLogTime_any p4 lv4 cp4 q4 rs4 cq4 now4 t4 W5 (HT.out.to B5.out) (HL.out.below B5.out) A4.out hw4 ⟨t40, t41⟩
      have hSp5 := fun x (hb : Below W5.heap.size W5 x) => specLogTime_any p4 lv4 cp4 q4 rs4 cq4 now4 t4 x (A4.out.below hb) hw4 ⟨t40, t41⟩
      have hI5 : ltC rs4 lv4 now4 t4 ≠ 0 → _ := lt_ill
      have hJ5 : ltC rs4 lv4 now4 t4 = 0 → lgB (ltmR rs4 lv4 now4 t4) (ltL rs4 lv4 now4 t4) (ltN rs4 lv4 now4 t4) = true := fun h => (lt_right h).1
      have hLaw5 : ltC rs4 lv4 now4 t4 = 0 → now4 ≤ ltN rs4 lv4 now4 t4 ∧ t4 ≤ ltN rs4 lv4 now4 t4 := fun h => (lt_right h).2
      generalize ltC rs4 lv4 now4 t4 = C5 at *
      generalize ltmR rs4 lv4 now4 t4 = rs5 at *
      generalize ltL rs4 lv4 now4 t4 = lv5 at *
      generalize ltN rs4 lv4 now4 t4 = now5 at *
      have HJ5 : Hid (C5 = 0 → lgB rs5 lv5 now5 = true) := hJ5
      have HI5 : Hid (C5 ≠ 0 → rs5 = [] ∧ lv5 = [] ∧ now5 = 0) := hI5
      have HLaw5 : Hid (C5 = 0 → now4 ≤ now5 ∧ t4 ≤ now5) := hLaw5
      clear hI5 hJ5 hLaw5 hw4
      have S5 : Hid (Below W5.heap.size W5 W5) := Below.refl _ _
      have HS5 : Hid (∀ x, Below W5.heap.size W5 x → Calls Tryz.prog 18 #[.agg #[.slice q4 rs4.length cq4, .slice p4 lv4.length cp4, .int .i64 now4], .int .i64 t4] x fun e x1 => ∃ (q : Option Addr) (cq : Nat) (p : Option Addr) (cp : Nat), e = .returned (.agg #[.slice q rs5.length cq, .slice p lv5.length cp, .int .i64 now5, .int .i64 C5]) ∧ LgAt p lv5 cp q rs5 cq x1 ∧ Below x.heap.size x x1) := fun x hb => (hSp5 x hb).mono (by rintro e x1 ⟨hA, y⟩; obtain ⟨q, cq, p, cp, rfl, hAt⟩ := lga_at hA HJ5.out HI5.out; exact ⟨q, cq, p, cp, rfl, hAt, y⟩)
      clear hSp5
      refine hCall.mono ?_
      rintro e v5 ⟨hA, bb⟩
      obtain ⟨q5, cq5, p5, cp5, rfl, hAt⟩ := lga_at hA HJ5.out HI5.out
      clear hCall hA
      unfold LgV
      obtain ⟨W6, hW⟩ : ∃ W, W = v5.alloc (.cells #[.slice q5 rs5.length cq5, .slice p5 lv5.length cp5, .int .i64 now5, .int .i64 C5] 33) := ⟨_, rfl⟩
      have HW5 : Hid (W6 = v5.alloc (.cells #[.slice q5 rs5.length cq5, .slice p5 lv5.length cp5, .int .i64 now5, .int .i64 C5] 33)) := hW
      obtain ⟨G5, hG⟩ : ∃ G, G = v5.heap.size := ⟨_, rfl⟩
      have HG5 : Hid (G5 = v5.heap.size) := hG
      have ba : Below v5.heap.size v5 W6 := by rw [hW]; exact (Below.refl _ _).alloc (Nat.le_refl _) _
      have N5 : Hid (Bxs W6 G5 33 #[.slice q5 rs5.length cq5, .slice p5 lv5.length cp5, .int .i64 now5, .int .i64 C5]) := by rw [hW, hG]; exact Bxs.new _ _ _
      have bs := chainB bb ba
      have B6 : Hid (Below w.heap.size w W6) := chainB B5.out bs
      replace S5 : Hid (Below W5.heap.size W5 W6) := chainB S5.out bs
      replace S3 : Hid (Below W3.heap.size W3 W6) := chainB S3.out bs
      replace S1 : Hid (Below W1.heap.size W1 W6) := chainB S1.out bs
      replace K0 : Hid (Bxs W6 G0 26 #[.slice q0 rs0.length cq0, .slice p0 lv0.length cp0, .int .i64 now0]) := K0.out.below bs
      replace A0 : Hid (LgAt p0 lv0 cp0 q0 rs0 cq0 W6) := A0.out.below bs
      replace KR : Hid (Bxs W6 GR 29 #[.string rk, .int .i64 ra, .slice rq rf.length rc]) := KR.out.below bs
      replace FR : Hid (FldAt W6 rq rf) := FR.out.below bs
      replace K1 : Hid (Bxs W6 G1 33 #[.slice q1 rs1.length cq1, .slice p1 lv1.length cp1, .int .i64 now1, .int .i64 C1]) := K1.out.below bs
      replace A1 : Hid (LgAt p1 lv1 cp1 q1 rs1 cq1 W6) := A1.out.below bs
      replace K2 : Hid (Bxs W6 G2 26 #[.slice q2 rs2.length cq2, .slice p2 lv2.length cp2, .int .i64 now2]) := K2.out.below bs
      replace A2 : Hid (LgAt p2 lv2 cp2 q2 rs2 cq2 W6) := A2.out.below bs
      replace K3 : Hid (Bxs W6 G3 33 #[.slice q3 rs3.length cq3, .slice p3 lv3.length cp3, .int .i64 now3, .int .i64 C3]) := K3.out.below bs
      replace A3 : Hid (LgAt p3 lv3 cp3 q3 rs3 cq3 W6) := A3.out.below bs
      replace K4 : Hid (Bxs W6 G4 26 #[.slice q4 rs4.length cq4, .slice p4 lv4.length cp4, .int .i64 now4]) := K4.out.below bs
      replace A4 : Hid (LgAt p4 lv4 cp4 q4 rs4 cq4 W6) := A4.out.below bs
      have K5 := N5
      have A5 : Hid (LgAt p5 lv5 cp5 q5 rs5 cq5 W6) := hAt.below ba
      clear hW hG ba bb bs N5 hAt B5
      go_wp2_with fail
      rw [← HW5.out, ← HG5.out]
      clear HW5 HG5
      as_aux_lemma =>
        refine (drawPlaceOf_any w.heap.size a1 len1 cap1 _ hl1 B6.out.size (CD1.out.below B6.out)).mono ?_
        rintro e v6 ⟨⟨q6, cq6, rs6, p6, cp6, lv6, now6, r6, rfl, hi, hf, r60, r61⟩, bb⟩
        obtain ⟨W7, hW⟩ : ∃ W, W = v6.alloc (.cells #[.slice q6 rs6.length cq6, .slice p6 lv6.length cp6, .int .i64 now6] 26) := ⟨_, rfl⟩
        have HW6 : Hid (W7 = v6.alloc (.cells #[.slice q6 rs6.length cq6, .slice p6 lv6.length cp6, .int .i64 now6] 26)) := hW
        obtain ⟨G6, hG⟩ : ∃ G, G = v6.heap.size := ⟨_, rfl⟩
        have HG6 : Hid (G6 = v6.heap.size) := hG
        have ba : Below v6.heap.size v6 W7 := by rw [hW]; exact (Below.refl _ _).alloc (Nat.le_refl _) _
        have N6 : Hid (Bxs W7 G6 26 #[.slice q6 rs6.length cq6, .slice p6 lv6.length cp6, .int .i64 now6]) := by rw [hW, hG]; exact Bxs.new _ _ _
        have bs := chainB bb ba
        have B7 : Hid (Below w.heap.size w W7) := chainB B6.out bs
        replace S5 : Hid (Below W5.heap.size W5 W7) := chainB S5.out bs
        replace S3 : Hid (Below W3.heap.size W3 W7) := chainB S3.out bs
        replace S1 : Hid (Below W1.heap.size W1 W7) := chainB S1.out bs
        replace K0 : Hid (Bxs W7 G0 26 #[.slice q0 rs0.length cq0, .slice p0 lv0.length cp0, .int .i64 now0]) := K0.out.below bs
        replace A0 : Hid (LgAt p0 lv0 cp0 q0 rs0 cq0 W7) := A0.out.below bs
        replace KR : Hid (Bxs W7 GR 29 #[.string rk, .int .i64 ra, .slice rq rf.length rc]) := KR.out.below bs
        replace FR : Hid (FldAt W7 rq rf) := FR.out.below bs
        replace K1 : Hid (Bxs W7 G1 33 #[.slice q1 rs1.length cq1, .slice p1 lv1.length cp1, .int .i64 now1, .int .i64 C1]) := K1.out.below bs
        replace A1 : Hid (LgAt p1 lv1 cp1 q1 rs1 cq1 W7) := A1.out.below bs
        replace K2 : Hid (Bxs W7 G2 26 #[.slice q2 rs2.length cq2, .slice p2 lv2.length cp2, .int .i64 now2]) := K2.out.below bs
        replace A2 : Hid (LgAt p2 lv2 cp2 q2 rs2 cq2 W7) := A2.out.below bs
        replace K3 : Hid (Bxs W7 G3 33 #[.slice q3 rs3.length cq3, .slice p3 lv3.length cp3, .int .i64 now3, .int .i64 C3]) := K3.out.below bs
        replace A3 : Hid (LgAt p3 lv3 cp3 q3 rs3 cq3 W7) := A3.out.below bs
        replace K4 : Hid (Bxs W7 G4 26 #[.slice q4 rs4.length cq4, .slice p4 lv4.length cp4, .int .i64 now4]) := K4.out.below bs
        replace A4 : Hid (LgAt p4 lv4 cp4 q4 rs4 cq4 W7) := A4.out.below bs
        replace K5 : Hid (Bxs W7 G5 33 #[.slice q5 rs5.length cq5, .slice p5 lv5.length cp5, .int .i64 now5, .int .i64 C5]) := K5.out.below bs
        replace A5 : Hid (LgAt p5 lv5 cp5 q5 rs5 cq5 W7) := A5.out.below bs
        have K6 := N6
        have A6 : Hid (LgAt p6 lv6 cp6 q6 rs6 cq6 W7) := hi.at.below ba
        clear hW hG ba bb bs N6 hi hf B6
        go_wp2_with fail
        rw [← HW6.out, ← HG6.out]
        clear HW6 HG6
        refine (drawTombOf_any w.heap.size a0 len0 cap0 _ hl0 B7.out.size (CD0.out.below B7.out)).mono ?_
        rintro e v7 ⟨⟨q7, cq7, rs7, p7, cp7, lv7, now7, i7, k7, rfl, hi, hf, i70, i71, k70, k71⟩, bb⟩
        obtain ⟨W8, hW⟩ : ∃ W, W = v7.alloc (.cells #[.slice q7 rs7.length cq7, .slice p7 lv7.length cp7, .int .i64 now7] 26) := ⟨_, rfl⟩
        have HW7 : Hid (W8 = v7.alloc (.cells #[.slice q7 rs7.length cq7, .slice p7 lv7.length cp7, .int .i64 now7] 26)) := hW
        obtain ⟨G7, hG⟩ : ∃ G, G = v7.heap.size := ⟨_, rfl⟩
        have HG7 : Hid (G7 = v7.heap.size) := hG
        have ba : Below v7.heap.size v7 W8 := by rw [hW]; exact (Below.refl _ _).alloc (Nat.le_refl _) _
        have N7 : Hid (Bxs W8 G7 26 #[.slice q7 rs7.length cq7, .slice p7 lv7.length cp7, .int .i64 now7]) := by rw [hW, hG]; exact Bxs.new _ _ _
        have bs := chainB bb ba
        have B8 : Hid (Below w.heap.size w W8) := chainB B7.out bs
        replace S5 : Hid (Below W5.heap.size W5 W8) := chainB S5.out bs
        replace S3 : Hid (Below W3.heap.size W3 W8) := chainB S3.out bs
        replace S1 : Hid (Below W1.heap.size W1 W8) := chainB S1.out bs
        replace K0 : Hid (Bxs W8 G0 26 #[.slice q0 rs0.length cq0, .slice p0 lv0.length cp0, .int .i64 now0]) := K0.out.below bs
        replace A0 : Hid (LgAt p0 lv0 cp0 q0 rs0 cq0 W8) := A0.out.below bs
        replace KR : Hid (Bxs W8 GR 29 #[.string rk, .int .i64 ra, .slice rq rf.length rc]) := KR.out.below bs
        replace FR : Hid (FldAt W8 rq rf) := FR.out.below bs
        replace K1 : Hid (Bxs W8 G1 33 #[.slice q1 rs1.length cq1, .slice p1 lv1.length cp1, .int .i64 now1, .int .i64 C1]) := K1.out.below bs
        replace A1 : Hid (LgAt p1 lv1 cp1 q1 rs1 cq1 W8) := A1.out.below bs
        replace K2 : Hid (Bxs W8 G2 26 #[.slice q2 rs2.length cq2, .slice p2 lv2.length cp2, .int .i64 now2]) := K2.out.below bs
        replace A2 : Hid (LgAt p2 lv2 cp2 q2 rs2 cq2 W8) := A2.out.below bs
        replace K3 : Hid (Bxs W8 G3 33 #[.slice q3 rs3.length cq3, .slice p3 lv3.length cp3, .int .i64 now3, .int .i64 C3]) := K3.out.below bs
        replace A3 : Hid (LgAt p3 lv3 cp3 q3 rs3 cq3 W8) := A3.out.below bs
        replace K4 : Hid (Bxs W8 G4 26 #[.slice q4 rs4.length cq4, .slice p4 lv4.length cp4, .int .i64 now4]) := K4.out.below bs
        replace A4 : Hid (LgAt p4 lv4 cp4 q4 rs4 cq4 W8) := A4.out.below bs
        replace K5 : Hid (Bxs W8 G5 33 #[.slice q5 rs5.length cq5, .slice p5 lv5.length cp5, .int .i64 now5, .int .i64 C5]) := K5.out.below bs
        replace A5 : Hid (LgAt p5 lv5 cp5 q5 rs5 cq5 W8) := A5.out.below bs
        replace K6 : Hid (Bxs W8 G6 26 #[.slice q6 rs6.length cq6, .slice p6 lv6.length cp6, .int .i64 now6]) := K6.out.below bs
        replace A6 : Hid (LgAt p6 lv6 cp6 q6 rs6 cq6 W8) := A6.out.below bs
        have K7 := N7
        have A7 : Hid (LgAt p7 lv7 cp7 q7 rs7 cq7 W8) := hi.at.below ba
        clear hW hG ba bb bs N7 hi hf B7
        go_wp2_with fail
        rw [← HW7.out, ← HG7.out]
        clear HW7 HG7
        refine (drawStatusOf_any w.heap.size a1 len1 cap1 _ hl1 B8.out.size (CD1.out.below B8.out)).mono ?_
        rintro e v8 ⟨⟨q8, cq8, rs8, p8, cp8, lv8, now8, i8, k8, rfl, hi, hf, i80, i81, k80, k81⟩, bb⟩
        obtain ⟨W9, hW⟩ : ∃ W, W = v8.alloc (.cells #[.slice q8 rs8.length cq8, .slice p8 lv8.length cp8, .int .i64 now8] 26) := ⟨_, rfl⟩
        have HW8 : Hid (W9 = v8.alloc (.cells #[.slice q8 rs8.length cq8, .slice p8 lv8.length cp8, .int .i64 now8] 26)) := hW
        obtain ⟨G8, hG⟩ : ∃ G, G = v8.heap.size := ⟨_, rfl⟩
        have HG8 : Hid (G8 = v8.heap.size) := hG
        have ba : Below v8.heap.size v8 W9 := by rw [hW]; exact (Below.refl _ _).alloc (Nat.le_refl _) _
        have N8 : Hid (Bxs W9 G8 26 #[.slice q8 rs8.length cq8, .slice p8 lv8.length cp8, .int .i64 now8]) := by rw [hW, hG]; exact Bxs.new _ _ _
        have bs := chainB bb ba
        have B9 : Hid (Below w.heap.size w W9) := chainB B8.out bs
        replace S5 : Hid (Below W5.heap.size W5 W9) := chainB S5.out bs
        replace S3 : Hid (Below W3.heap.size W3 W9) := chainB S3.out bs
        replace S1 : Hid (Below W1.heap.size W1 W9) := chainB S1.out bs
        replace K0 : Hid (Bxs W9 G0 26 #[.slice q0 rs0.length cq0, .slice p0 lv0.length cp0, .int .i64 now0]) := K0.out.below bs
        replace A0 : Hid (LgAt p0 lv0 cp0 q0 rs0 cq0 W9) := A0.out.below bs
        replace KR : Hid (Bxs W9 GR 29 #[.string rk, .int .i64 ra, .slice rq rf.length rc]) := KR.out.below bs
        replace FR : Hid (FldAt W9 rq rf) := FR.out.below bs
        replace K1 : Hid (Bxs W9 G1 33 #[.slice q1 rs1.length cq1, .slice p1 lv1.length cp1, .int .i64 now1, .int .i64 C1]) := K1.out.below bs
        replace A1 : Hid (LgAt p1 lv1 cp1 q1 rs1 cq1 W9) := A1.out.below bs
        replace K2 : Hid (Bxs W9 G2 26 #[.slice q2 rs2.length cq2, .slice p2 lv2.length cp2, .int .i64 now2]) := K2.out.below bs
        replace A2 : Hid (LgAt p2 lv2 cp2 q2 rs2 cq2 W9) := A2.out.below bs
        replace K3 : Hid (Bxs W9 G3 33 #[.slice q3 rs3.length cq3, .slice p3 lv3.length cp3, .int .i64 now3, .int .i64 C3]) := K3.out.below bs
        replace A3 : Hid (LgAt p3 lv3 cp3 q3 rs3 cq3 W9) := A3.out.below bs
        replace K4 : Hid (Bxs W9 G4 26 #[.slice q4 rs4.length cq4, .slice p4 lv4.length cp4, .int .i64 now4]) := K4.out.below bs
        replace A4 : Hid (LgAt p4 lv4 cp4 q4 rs4 cq4 W9) := A4.out.below bs
        replace K5 : Hid (Bxs W9 G5 33 #[.slice q5 rs5.length cq5, .slice p5 lv5.length cp5, .int .i64 now5, .int .i64 C5]) := K5.out.below bs
        replace A5 : Hid (LgAt p5 lv5 cp5 q5 rs5 cq5 W9) := A5.out.below bs
        replace K6 : Hid (Bxs W9 G6 26 #[.slice q6 rs6.length cq6, .slice p6 lv6.length cp6, .int .i64 now6]) := K6.out.below bs
        replace A6 : Hid (LgAt p6 lv6 cp6 q6 rs6 cq6 W9) := A6.out.below bs
        replace K7 : Hid (Bxs W9 G7 26 #[.slice q7 rs7.length cq7, .slice p7 lv7.length cp7, .int .i64 now7]) := K7.out.below bs
        replace A7 : Hid (LgAt p7 lv7 cp7 q7 rs7 cq7 W9) := A7.out.below bs
        have K8 := N8
        have A8 : Hid (LgAt p8 lv8 cp8 q8 rs8 cq8 W9) := hi.at.below ba
        clear hW hG ba bb bs N8 hi hf B8
        go_upto_region 12 with fail
        rw [← HW8.out, ← HG8.out]
        clear HW8 HG8
        clear CD0 CD1 d1 d2 HRZ hfn hrc
        have HX : Hid (∀ x, Below W9.heap.size W9 x → x.cell? ⟨G0, 0, none⟩ = some (.slice q0 rs0.length cq0) ∧ x.cell? ⟨G0, 1, none⟩ = some (.slice p0 lv0.length cp0) ∧ x.cell? ⟨G0, 2, none⟩ = some (.int .i64 now0) ∧ x.cell? ⟨GR, 0, none⟩ = some (.string rk) ∧ x.cell? ⟨GR, 1, none⟩ = some (.int .i64 ra) ∧ x.cell? ⟨GR, 2, none⟩ = some (.slice rq rf.length rc) ∧ x.cell? ⟨G1, 0, none⟩ = some (.slice q1 rs1.length cq1) ∧ x.cell? ⟨G1, 1, none⟩ = some (.slice p1 lv1.length cp1) ∧ x.cell? ⟨G1, 2, none⟩ = some (.int .i64 now1) ∧ x.cell? ⟨G1, 3, none⟩ = some (.int .i64 C1) ∧ x.cell? ⟨G2, 0, none⟩ = some (.slice q2 rs2.length cq2) ∧ x.cell? ⟨G2, 1, none⟩ = some (.slice p2 lv2.length cp2) ∧ x.cell? ⟨G2, 2, none⟩ = some (.int .i64 now2) ∧ x.cell? ⟨G3, 0, none⟩ = some (.slice q3 rs3.length cq3) ∧ x.cell? ⟨G3, 1, none⟩ = some (.slice p3 lv3.length cp3) ∧ x.cell? ⟨G3, 2, none⟩ = some (.int .i64 now3) ∧ x.cell? ⟨G3, 3, none⟩ = some (.int .i64 C3) ∧ x.cell? ⟨G4, 0, none⟩ = some (.slice q4 rs4.length cq4) ∧ x.cell? ⟨G4, 1, none⟩ = some (.slice p4 lv4.length cp4) ∧ x.cell? ⟨G4, 2, none⟩ = some (.int .i64 now4) ∧ x.cell? ⟨G5, 0, none⟩ = some (.slice q5 rs5.length cq5) ∧ x.cell? ⟨G5, 1, none⟩ = some (.slice p5 lv5.length cp5) ∧ x.cell? ⟨G5, 2, none⟩ = some (.int .i64 now5) ∧ x.cell? ⟨G5, 3, none⟩ = some (.int .i64 C5) ∧ x.cell? ⟨G6, 0, none⟩ = some (.slice q6 rs6.length cq6) ∧ x.cell? ⟨G6, 1, none⟩ = some (.slice p6 lv6.length cp6) ∧ x.cell? ⟨G6, 2, none⟩ = some (.int .i64 now6) ∧ x.cell? ⟨G7, 0, none⟩ = some (.slice q7 rs7.length cq7) ∧ x.cell? ⟨G7, 1, none⟩ = some (.slice p7 lv7.length cp7) ∧ x.cell? ⟨G7, 2, none⟩ = some (.int .i64 now7) ∧ x.cell? ⟨G8, 0, none⟩ = some (.slice q8 rs8.length cq8) ∧ x.cell? ⟨G8, 1, none⟩ = some (.slice p8 lv8.length cp8) ∧ x.cell? ⟨G8, 2, none⟩ = some (.int .i64 now8)) := fun x hb => ⟨(K0.out.below hb).cell 0, (K0.out.below hb).cell 1, (K0.out.below hb).cell 2, (KR.out.below hb).cell 0, (KR.out.below hb).cell 1, (KR.out.below hb).cell 2, (K1.out.below hb).cell 0, (K1.out.below hb).cell 1, (K1.out.below hb).cell 2, (K1.out.below hb).cell 3, (K2.out.below hb).cell 0, (K2.out.below hb).cell 1, (K2.out.below hb).cell 2, (K3.out.below hb).cell 0, (K3.out.below hb).cell 1, (K3.out.below hb).cell 2, (K3.out.below hb).cell 3, (K4.out.below hb).cell 0, (K4.out.below hb).cell 1, (K4.out.below hb).cell 2, (K5.out.below hb).cell 0, (K5.out.below hb).cell 1, (K5.out.below hb).cell 2, (K5.out.below hb).cell 3, (K6.out.below hb).cell 0, (K6.out.below hb).cell 1, (K6.out.below hb).cell 2, (K7.out.below hb).cell 0, (K7.out.below hb).cell 1, (K7.out.below hb).cell 2, (K8.out.below hb).cell 0, (K8.out.below hb).cell 1, (K8.out.below hb).cell 2⟩
        have Q19 : Hid (∀ x, Below W9.heap.size W9 x → Calls Tryz.prog 19 #[.agg #[.slice q6 rs6.length cq6, .slice p6 lv6.length cp6, .int .i64 now6], .int .i64 r6] x fun e x1 => e = .returned (.int .i64 (plO rs6 lv6 now6 r6)) ∧ Below W9.heap.size W9 x1) := fun x hb => (implPlaceOf_any p6 lv6 cp6 q6 rs6 cq6 now6 r6 x (HT.out.to (chainB B9.out hb)) (HL.out.below (chainB B9.out hb)) (A6.out.below hb)).mono (by rintro e x1 ⟨rfl, y⟩; exact ⟨rfl, chainB hb y⟩)
        have Q20 : Hid (∀ x, Below W9.heap.size W9 x → Calls Tryz.prog 20 #[.agg #[.slice q6 rs6.length cq6, .slice p6 lv6.length cp6, .int .i64 now6], .int .i64 r6] x fun e x1 => e = .returned (.int .i64 (plO rs6 lv6 now6 r6)) ∧ Below W9.heap.size W9 x1) := fun x hb => (specPlaceOf_any p6 lv6 cp6 q6 rs6 cq6 now6 r6 x (A6.out.below hb)).mono (by rintro e x1 ⟨rfl, y⟩; exact ⟨rfl, chainB hb y⟩)
        have Q21 : Hid (∀ x, Below W9.heap.size W9 x → Calls Tryz.prog 21 #[.agg #[.slice q7 rs7.length cq7, .slice p7 lv7.length cp7, .int .i64 now7], .int .i64 i7, .int .i64 k7] x fun e x1 => e = .returned (.int .i64 (tbO rs7 lv7 now7 i7 k7)) ∧ Below W9.heap.size W9 x1) := fun x hb => (implTombOf_any p7 lv7 cp7 q7 rs7 cq7 now7 i7 k7 x (HT.out.to (chainB B9.out hb)) (HL.out.below (chainB B9.out hb)) (A7.out.below hb)).mono (by rintro e x1 ⟨rfl, y⟩; exact ⟨rfl, chainB hb y⟩)
        have Q22 : Hid (∀ x, Below W9.heap.size W9 x → Calls Tryz.prog 22 #[.agg #[.slice q7 rs7.length cq7, .slice p7 lv7.length cp7, .int .i64 now7], .int .i64 i7, .int .i64 k7] x fun e x1 => e = .returned (.int .i64 (tbO rs7 lv7 now7 i7 k7)) ∧ Below W9.heap.size W9 x1) := fun x hb => (specTombOf_any p7 lv7 cp7 q7 rs7 cq7 now7 i7 k7 x (A7.out.below hb)).mono (by rintro e x1 ⟨rfl, y⟩; exact ⟨rfl, chainB hb y⟩)
        have Q23 : Hid (∀ x, Below W9.heap.size W9 x → Calls Tryz.prog 23 #[.agg #[.slice q8 rs8.length cq8, .slice p8 lv8.length cp8, .int .i64 now8], .int .i64 i8, .int .i64 k8] x fun e x1 => e = .returned (.int .i64 (stO rs8 lv8 now8 i8 k8)) ∧ Below W9.heap.size W9 x1) := fun x hb => (implStatusOf_any p8 lv8 cp8 q8 rs8 cq8 now8 i8 k8 x (HT.out.to (chainB B9.out hb)) (HL.out.below (chainB B9.out hb)) (A8.out.below hb)).mono (by rintro e x1 ⟨rfl, y⟩; exact ⟨rfl, chainB hb y⟩)
        have Q24 : Hid (∀ x, Below W9.heap.size W9 x → Calls Tryz.prog 24 #[.agg #[.slice q8 rs8.length cq8, .slice p8 lv8.length cp8, .int .i64 now8], .int .i64 i8, .int .i64 k8] x fun e x1 => e = .returned (.int .i64 (stO rs8 lv8 now8 i8 k8)) ∧ Below W9.heap.size W9 x1) := fun x hb => (specStatusOf_any p8 lv8 cp8 q8 rs8 cq8 now8 i8 k8 x (A8.out.below hb)).mono (by rintro e x1 ⟨rfl, y⟩; exact ⟨rfl, chainB hb y⟩)
        have Q25 : Hid (∀ x, Below W9.heap.size W9 x → Calls Tryz.prog 25 #[.agg #[.slice q0 rs0.length cq0, .slice p0 lv0.length cp0, .int .i64 now0]] x fun e x1 => e = .returned (.bool (lgB rs0 lv0 now0)) ∧ Below W9.heap.size W9 x1) := fun x hb => (implLogRight_any p0 lv0 cp0 q0 rs0 cq0 now0 x (HT.out.to (chainB B9.out hb)) (HL.out.below (chainB B9.out hb)) (A0.out.below hb)).mono (by rintro e x1 ⟨rfl, y⟩; exact ⟨rfl, chainB hb y⟩)
        have Q26 : Hid (∀ x, Below W9.heap.size W9 x → Calls Tryz.prog 26 #[.agg #[.slice q0 rs0.length cq0, .slice p0 lv0.length cp0, .int .i64 now0]] x fun e x1 => e = .returned (.bool (lgB rs0 lv0 now0)) ∧ Below W9.heap.size W9 x1) := fun x hb => (specLogRight_any p0 lv0 cp0 q0 rs0 cq0 now0 x (A0.out.below hb)).mono (by rintro e x1 ⟨rfl, y⟩; exact ⟨rfl, chainB hb y⟩)
        generalize plO rs6 lv6 now6 r6 = V6 at *
        generalize tbO rs7 lv7 now7 i7 k7 = V7 at *
        generalize stO rs8 lv8 now8 i8 k8 = V8 at *
        generalize lgB rs0 lv0 now0 = V0 at *
        have P1 : Hid (∀ x, Below W9.heap.size W9 x → Calls Tryz.prog 16 #[.agg #[.slice q0 rs0.length cq0, .slice p0 lv0.length cp0, .int .i64 now0], .agg #[.string rk, .int .i64 ra, .slice rq rf.length rc]] x fun e x1 => ∃ (q : Option Addr) (cq : Nat) (p : Option Addr) (cp : Nat), e = .returned (.agg #[.slice q rs1.length cq, .slice p lv1.length cp, .int .i64 now1, .int .i64 C1]) ∧ LgAt p lv1 cp q rs1 cq x1 ∧ Below W9.heap.size W9 x1) := fun x hb => (HS1.out x (chainB S1.out hb)).mono (by rintro e x1 ⟨q, cq, p, cp, rfl, hA, y⟩; exact ⟨q, cq, p, cp, rfl, hA, chainB hb y⟩)
        have L1 : Hid (∀ x q cq p cp, Below W9.heap.size W9 x → LgAt p lv1 cp q rs1 cq x → Calls Tryz.prog 15 #[.agg #[.slice q1 rs1.length cq1, .slice p1 lv1.length cp1, .int .i64 now1, .int .i64 C1], .agg #[.slice q rs1.length cq, .slice p lv1.length cp, .int .i64 now1, .int .i64 C1]] x fun e x1 => e = .returned (.bool true) ∧ Below W9.heap.size W9 x1) := fun x q cq p cp hb hA => (lwLogs_any p1 cp1 q1 cq1 p cp q cq lv1 rs1 now1 C1 x (A1.out.below hb) hA HJ1.out).mono (by rintro e x1 ⟨rfl, y⟩; exact ⟨rfl, chainB hb y⟩)
        have P3 : Hid (∀ x, Below W9.heap.size W9 x → Calls Tryz.prog 17 #[.agg #[.slice q2 rs2.length cq2, .slice p2 lv2.length cp2, .int .i64 now2], .int .i64 i2, .int .i64 f2, .int .i64 y2] x fun e x1 => ∃ (q : Option Addr) (cq : Nat) (p : Option Addr) (cp : Nat), e = .returned (.agg #[.slice q rs3.length cq, .slice p lv3.length cp, .int .i64 now3, .int .i64 C3]) ∧ LgAt p lv3 cp q rs3 cq x1 ∧ Below W9.heap.size W9 x1) := fun x hb => (HS3.out x (chainB S3.out hb)).mono (by rintro e x1 ⟨q, cq, p, cp, rfl, hA, y⟩; exact ⟨q, cq, p, cp, rfl, hA, chainB hb y⟩)
        have L3 : Hid (∀ x q cq p cp, Below W9.heap.size W9 x → LgAt p lv3 cp q rs3 cq x → Calls Tryz.prog 15 #[.agg #[.slice q3 rs3.length cq3, .slice p3 lv3.length cp3, .int .i64 now3, .int .i64 C3], .agg #[.slice q rs3.length cq, .slice p lv3.length cp, .int .i64 now3, .int .i64 C3]] x fun e x1 => e = .returned (.bool true) ∧ Below W9.heap.size W9 x1) := fun x q cq p cp hb hA => (lwLogs_any p3 cp3 q3 cq3 p cp q cq lv3 rs3 now3 C3 x (A3.out.below hb) hA HJ3.out).mono (by rintro e x1 ⟨rfl, y⟩; exact ⟨rfl, chainB hb y⟩)
        have P5 : Hid (∀ x, Below W9.heap.size W9 x → Calls Tryz.prog 18 #[.agg #[.slice q4 rs4.length cq4, .slice p4 lv4.length cp4, .int .i64 now4], .int .i64 t4] x fun e x1 => ∃ (q : Option Addr) (cq : Nat) (p : Option Addr) (cp : Nat), e = .returned (.agg #[.slice q rs5.length cq, .slice p lv5.length cp, .int .i64 now5, .int .i64 C5]) ∧ LgAt p lv5 cp q rs5 cq x1 ∧ Below W9.heap.size W9 x1) := fun x hb => (HS5.out x (chainB S5.out hb)).mono (by rintro e x1 ⟨q, cq, p, cp, rfl, hA, y⟩; exact ⟨q, cq, p, cp, rfl, hA, chainB hb y⟩)
        have L5 : Hid (∀ x q cq p cp, Below W9.heap.size W9 x → LgAt p lv5 cp q rs5 cq x → Calls Tryz.prog 15 #[.agg #[.slice q5 rs5.length cq5, .slice p5 lv5.length cp5, .int .i64 now5, .int .i64 C5], .agg #[.slice q rs5.length cq, .slice p lv5.length cp, .int .i64 now5, .int .i64 C5]] x fun e x1 => e = .returned (.bool true) ∧ Below W9.heap.size W9 x1) := fun x q cq p cp hb hA => (lwLogs_any p5 cp5 q5 cq5 p cp q cq lv5 rs5 now5 C5 x (A5.out.below hb) hA HJ5.out).mono (by rintro e x1 ⟨rfl, y⟩; exact ⟨rfl, chainB hb y⟩)
        have BR : Hid (Below W9.heap.size W9 W9.drew) := (Below.refl _ _).drew
        clear HS1 HS3 HS5 HI1 HI3 HI5 S1 S3 S5 A4 A5 A6 A7 A8 K6 K7 K8 KR FR HJ1 HJ3 HJ5
        as_aux_lemma =>
          refine wp_region_held_drew (S := fun w' => w'.cell? ⟨G0, 0, none⟩ = some (.slice q0 rs0.length cq0) ∧ w'.cell? ⟨G0, 1, none⟩ = some (.slice p0 lv0.length cp0) ∧ w'.cell? ⟨G0, 2, none⟩ = some (.int .i64 now0) ∧ w'.cell? ⟨GR, 0, none⟩ = some (.string rk) ∧ w'.cell? ⟨GR, 1, none⟩ = some (.int .i64 ra) ∧ w'.cell? ⟨GR, 2, none⟩ = some (.slice rq rf.length rc) ∧ w'.cell? ⟨G1, 0, none⟩ = some (.slice q1 rs1.length cq1) ∧ w'.cell? ⟨G1, 1, none⟩ = some (.slice p1 lv1.length cp1) ∧ w'.cell? ⟨G1, 2, none⟩ = some (.int .i64 now1) ∧ w'.cell? ⟨G1, 3, none⟩ = some (.int .i64 C1) ∧ w'.cell? ⟨G2, 0, none⟩ = some (.slice q2 rs2.length cq2) ∧ w'.cell? ⟨G2, 1, none⟩ = some (.slice p2 lv2.length cp2) ∧ w'.cell? ⟨G2, 2, none⟩ = some (.int .i64 now2) ∧ w'.cell? ⟨G3, 0, none⟩ = some (.slice q3 rs3.length cq3) ∧ w'.cell? ⟨G3, 1, none⟩ = some (.slice p3 lv3.length cp3) ∧ w'.cell? ⟨G3, 2, none⟩ = some (.int .i64 now3) ∧ w'.cell? ⟨G3, 3, none⟩ = some (.int .i64 C3) ∧ w'.cell? ⟨G4, 0, none⟩ = some (.slice q4 rs4.length cq4) ∧ w'.cell? ⟨G4, 1, none⟩ = some (.slice p4 lv4.length cp4) ∧ w'.cell? ⟨G4, 2, none⟩ = some (.int .i64 now4) ∧ w'.cell? ⟨G5, 0, none⟩ = some (.slice q5 rs5.length cq5) ∧ w'.cell? ⟨G5, 1, none⟩ = some (.slice p5 lv5.length cp5) ∧ w'.cell? ⟨G5, 2, none⟩ = some (.int .i64 now5) ∧ w'.cell? ⟨G5, 3, none⟩ = some (.int .i64 C5) ∧ w'.cell? ⟨G6, 0, none⟩ = some (.slice q6 rs6.length cq6) ∧ w'.cell? ⟨G6, 1, none⟩ = some (.slice p6 lv6.length cp6) ∧ w'.cell? ⟨G6, 2, none⟩ = some (.int .i64 now6) ∧ w'.cell? ⟨G7, 0, none⟩ = some (.slice q7 rs7.length cq7) ∧ w'.cell? ⟨G7, 1, none⟩ = some (.slice p7 lv7.length cp7) ∧ w'.cell? ⟨G7, 2, none⟩ = some (.int .i64 now7) ∧ w'.cell? ⟨G8, 0, none⟩ = some (.slice q8 rs8.length cq8) ∧ w'.cell? ⟨G8, 1, none⟩ = some (.slice p8 lv8.length cp8) ∧ w'.cell? ⟨G8, 2, none⟩ = some (.int .i64 now8)) (by kernel_rfl) (HX.out _ BR.out) (fun hHeld => ?_)
          refine take_at 0 (v := ?_) rfl (by kernel_rfl) (by kernel_rfl) (by kernel_rfl) (fun _ _ _ h => h) hHeld (Or.inl ⟨by rfl, ?_⟩) ?_
          rotate_left
          · (intro w hSw; (try dsimp only at hSw); go_simp; try with_reducible rfl)
          simp only [Act.put, List.setIfInBounds_toArray, List.set_cons_zero, List.set_cons_succ]
          refine take_at 1 (v := ?_) rfl (by kernel_rfl) (by kernel_rfl) (by kernel_rfl) (fun _ _ _ h => h) hHeld (Or.inl ⟨by rfl, ?_⟩) ?_
          rotate_left
          · (intro w hSw; (try dsimp only at hSw); go_simp; try with_reducible rfl)
          simp only [Act.put, List.setIfInBounds_toArray, List.set_cons_zero, List.set_cons_succ]
          refine take_at 2 (v := ?_) rfl (by kernel_rfl) (by kernel_rfl) (by kernel_rfl) (fun _ _ _ h => h) hHeld (Or.inl ⟨by rfl, ?_⟩) ?_
          rotate_left
          · (intro w hSw; (try dsimp only at hSw); go_simp; try with_reducible rfl)
          simp only [Act.put, List.setIfInBounds_toArray, List.set_cons_zero, List.set_cons_succ]
          refine ready_at 3 rfl (by kernel_rfl) (fun K hK => ?_)
          go_simp
          (go_at_call 16; (with_reducible refine (P1.out _ BR.out).mono ?_); rintro e y1 ⟨u1, u2, u3, u4, rfl, hA1, z1⟩)
          refine hK.out _ _ (HX.out _ z1) (fun hHeld => ?_)
          clear hK K
          try simp only [Act.put, List.setIfInBounds_toArray, List.set_cons_zero, List.set_cons_succ]
          refine ready_at 4 rfl (by kernel_rfl) (fun K hK => ?_)
          go_simp
          (go_at_call 15; (with_reducible refine (L1.out _ u1 u2 u3 u4 z1 hA1).mono ?_); rintro e y2 ⟨rfl, z2⟩; clear hA1)
          refine hK.out _ _ (HX.out _ z2) (fun hHeld => ?_)
          clear hK K
          try simp only [Act.put, List.setIfInBounds_toArray, List.set_cons_zero, List.set_cons_succ]
          refine take_at 5 (v := ?_) rfl (by kernel_rfl) (by kernel_rfl) (by kernel_rfl) (fun _ _ _ h => h) hHeld (Or.inl ⟨by rfl, ?_⟩) ?_
          rotate_left
          · (intro w hSw; (try dsimp only at hSw); go_simp; try with_reducible rfl)
          simp only [Act.put, List.setIfInBounds_toArray, List.set_cons_zero, List.set_cons_succ]
          refine take_at 6 (v := ?_) rfl (by kernel_rfl) (by kernel_rfl) (by kernel_rfl) (fun _ _ _ h => h) hHeld (Or.inl ⟨by rfl, ?_⟩) ?_
          rotate_left
          · (intro w hSw; (try dsimp only at hSw); go_simp; try with_reducible rfl)
          simp only [Act.put, List.setIfInBounds_toArray, List.set_cons_zero, List.set_cons_succ]
          refine take_at 7 (v := ?_) rfl (by kernel_rfl) (by kernel_rfl) (by kernel_rfl) (fun _ _ _ h => h) hHeld (Or.inl ⟨by rfl, ?_⟩) ?_
          rotate_left
          · (intro w hSw; (try dsimp only at hSw); go_simp; try with_reducible rfl)
          simp only [Act.put, List.setIfInBounds_toArray, List.set_cons_zero, List.set_cons_succ]
          refine take_at 8 (v := ?_) rfl (by kernel_rfl) (by kernel_rfl) (by kernel_rfl) (fun _ _ _ h => h) hHeld (Or.inl ⟨by rfl, ?_⟩) ?_
          rotate_left
          · (intro w hSw; (try dsimp only at hSw); go_simp; try with_reducible rfl)
          simp only [Act.put, List.setIfInBounds_toArray, List.set_cons_zero, List.set_cons_succ]
          refine take_at 9 (v := ?_) rfl (by kernel_rfl) (by kernel_rfl) (by kernel_rfl) (fun _ _ _ h => h) hHeld (Or.inl ⟨by rfl, ?_⟩) ?_
          rotate_left
          · (intro w hSw; (try dsimp only at hSw); go_simp; try with_reducible rfl)
          simp only [Act.put, List.setIfInBounds_toArray, List.set_cons_zero, List.set_cons_succ]
          refine take_at 10 (v := ?_) rfl (by kernel_rfl) (by kernel_rfl) (by kernel_rfl) (fun _ _ _ h => h) hHeld (Or.inl ⟨by rfl, ?_⟩) ?_
          rotate_left
          · (intro w hSw; (try dsimp only at hSw); go_simp; try with_reducible rfl)
          simp only [Act.put, List.setIfInBounds_toArray, List.set_cons_zero, List.set_cons_succ]
          refine take_at 11 (v := ?_) rfl (by kernel_rfl) (by kernel_rfl) (by kernel_rfl) (fun _ _ _ h => h) hHeld (Or.inl ⟨by rfl, ?_⟩) ?_
          rotate_left
          · (intro w hSw; (try dsimp only at hSw); go_simp; try with_reducible rfl)
          simp only [Act.put, List.setIfInBounds_toArray, List.set_cons_zero, List.set_cons_succ]
          refine ready_at 12 rfl (by kernel_rfl) (fun K hK => ?_)
          go_simp
          (go_at_call 17; (with_reducible refine (P3.out _ z2).mono ?_); rintro e y3 ⟨u1, u2, u3, u4, rfl, hA3, z3⟩)
          refine hK.out _ _ (HX.out _ z3) (fun hHeld => ?_)
          clear hK K
          try simp only [Act.put, List.setIfInBounds_toArray, List.set_cons_zero, List.set_cons_succ]
          refine ready_at 13 rfl (by kernel_rfl) (fun K hK => ?_)
          go_simp
          (go_at_call 15; (with_reducible refine (L3.out _ u1 u2 u3 u4 z3 hA3).mono ?_); rintro e y4 ⟨rfl, z4⟩; clear hA3)
          refine hK.out _ _ (HX.out _ z4) (fun hHeld => ?_)
          clear hK K
          try simp only [Act.put, List.setIfInBounds_toArray, List.set_cons_zero, List.set_cons_succ]
          refine take_at 14 (v := ?_) rfl (by kernel_rfl) (by kernel_rfl) (by kernel_rfl) (fun _ _ _ h => h) hHeld (Or.inl ⟨by rfl, ?_⟩) ?_
          rotate_left
          · (intro w hSw; (try dsimp only at hSw); go_simp; try with_reducible rfl)
          simp only [Act.put, List.setIfInBounds_toArray, List.set_cons_zero, List.set_cons_succ]
          refine take_at 15 (v := ?_) rfl (by kernel_rfl) (by kernel_rfl) (by kernel_rfl) (fun _ _ _ h => h) hHeld (Or.inl ⟨by rfl, ?_⟩) ?_
          rotate_left
          · (intro w hSw; (try dsimp only at hSw); go_simp; try with_reducible rfl)
          simp only [Act.put, List.setIfInBounds_toArray, List.set_cons_zero, List.set_cons_succ]
          refine take_at 16 (v := ?_) rfl (by kernel_rfl) (by kernel_rfl) (by kernel_rfl) (fun _ _ _ h => h) hHeld (Or.inl ⟨by rfl, ?_⟩) ?_
          rotate_left
          · (intro w hSw; (try dsimp only at hSw); go_simp; try with_reducible rfl)
          simp only [Act.put, List.setIfInBounds_toArray, List.set_cons_zero, List.set_cons_succ]
          refine take_at 17 (v := ?_) rfl (by kernel_rfl) (by kernel_rfl) (by kernel_rfl) (fun _ _ _ h => h) hHeld (Or.inl ⟨by rfl, ?_⟩) ?_
          rotate_left
          · (intro w hSw; (try dsimp only at hSw); go_simp; try with_reducible rfl)
          simp only [Act.put, List.setIfInBounds_toArray, List.set_cons_zero, List.set_cons_succ]
          refine take_at 18 (v := ?_) rfl (by kernel_rfl) (by kernel_rfl) (by kernel_rfl) (fun _ _ _ h => h) hHeld (Or.inl ⟨by rfl, ?_⟩) ?_
          rotate_left
          · (intro w hSw; (try dsimp only at hSw); go_simp; try with_reducible rfl)
          simp only [Act.put, List.setIfInBounds_toArray, List.set_cons_zero, List.set_cons_succ]
          refine take_at 19 (v := ?_) rfl (by kernel_rfl) (by kernel_rfl) (by kernel_rfl) (fun _ _ _ h => h) hHeld (Or.inl ⟨by rfl, ?_⟩) ?_
          rotate_left
          · (intro w hSw; (try dsimp only at hSw); go_simp; try with_reducible rfl)
          simp only [Act.put, List.setIfInBounds_toArray, List.set_cons_zero, List.set_cons_succ]
          refine ready_at 20 rfl (by kernel_rfl) (fun K hK => ?_)
          go_simp
          (go_at_call 18; (with_reducible refine (P5.out _ z4).mono ?_); rintro e y5 ⟨u1, u2, u3, u4, rfl, hA5, z5⟩)
          refine hK.out _ _ (HX.out _ z5) (fun hHeld => ?_)
          clear hK K
          try simp only [Act.put, List.setIfInBounds_toArray, List.set_cons_zero, List.set_cons_succ]
          refine ready_at 21 rfl (by kernel_rfl) (fun K hK => ?_)
          go_simp
          (go_at_call 15; (with_reducible refine (L5.out _ u1 u2 u3 u4 z5 hA5).mono ?_); rintro e y6 ⟨rfl, z6⟩; clear hA5)
          refine hK.out _ _ (HX.out _ z6) (fun hHeld => ?_)
          clear hK K
          try simp only [Act.put, List.setIfInBounds_toArray, List.set_cons_zero, List.set_cons_succ]
          refine take_at 22 (v := ?_) rfl (by kernel_rfl) (by kernel_rfl) (by kernel_rfl) (fun _ _ _ h => h) hHeld (Or.inl ⟨by rfl, ?_⟩) ?_
          rotate_left
          · (intro w hSw; (try dsimp only at hSw); go_simp; try with_reducible rfl)
          simp only [Act.put, List.setIfInBounds_toArray, List.set_cons_zero, List.set_cons_succ]
          refine take_at 23 (v := ?_) rfl (by kernel_rfl) (by kernel_rfl) (by kernel_rfl) (fun _ _ _ h => h) hHeld (Or.inl ⟨by rfl, ?_⟩) ?_
          rotate_left
          · (intro w hSw; (try dsimp only at hSw); go_simp; try with_reducible rfl)
          simp only [Act.put, List.setIfInBounds_toArray, List.set_cons_zero, List.set_cons_succ]
          refine take_at 24 (v := ?_) rfl (by kernel_rfl) (by kernel_rfl) (by kernel_rfl) (fun _ _ _ h => h) hHeld (Or.inl ⟨by rfl, ?_⟩) ?_
          rotate_left
          · (intro w hSw; (try dsimp only at hSw); go_simp; try with_reducible rfl)
          simp only [Act.put, List.setIfInBounds_toArray, List.set_cons_zero, List.set_cons_succ]
          refine take_at 25 (v := ?_) rfl (by kernel_rfl) (by kernel_rfl) (by kernel_rfl) (fun _ _ _ h => h) hHeld (Or.inl ⟨by rfl, ?_⟩) ?_
          rotate_left
          · (intro w hSw; (try dsimp only at hSw); go_simp; try with_reducible rfl)
          simp only [Act.put, List.setIfInBounds_toArray, List.set_cons_zero, List.set_cons_succ]
          refine take_at 26 (v := ?_) rfl (by kernel_rfl) (by kernel_rfl) (by kernel_rfl) (fun _ _ _ h => h) hHeld (Or.inl ⟨by rfl, ?_⟩) ?_
          rotate_left
          · (intro w hSw; (try dsimp only at hSw); go_simp; try with_reducible rfl)
          simp only [Act.put, List.setIfInBounds_toArray, List.set_cons_zero, List.set_cons_succ]
          refine take_at 28 (v := ?_) rfl (by kernel_rfl) (by kernel_rfl) (by kernel_rfl) (fun _ _ _ h => h) hHeld (Or.inl ⟨by rfl, ?_⟩) ?_
          rotate_left
          · (intro w hSw; (try dsimp only at hSw); go_simp; try with_reducible rfl)
          simp only [Act.put, List.setIfInBounds_toArray, List.set_cons_zero, List.set_cons_succ]
          refine take_at 29 (v := ?_) rfl (by kernel_rfl) (by kernel_rfl) (by kernel_rfl) (fun _ _ _ h => h) hHeld (Or.inl ⟨by rfl, ?_⟩) ?_
          rotate_left
          · (intro w hSw; (try dsimp only at hSw); go_simp; try with_reducible rfl)
          simp only [Act.put, List.setIfInBounds_toArray, List.set_cons_zero, List.set_cons_succ]
          refine ready_at 27 rfl (by kernel_rfl) (fun K hK => ?_)
          go_simp
          (go_at_call 19; (with_reducible refine (Q19.out _ z6).mono ?_); rintro e y7 ⟨rfl, z7⟩)
          refine hK.out _ _ (HX.out _ z7) (fun hHeld => ?_)
          clear hK K
          try simp only [Act.put, List.setIfInBounds_toArray, List.set_cons_zero, List.set_cons_succ]
          refine ready_at 30 rfl (by kernel_rfl) (fun K hK => ?_)
          go_simp
          (go_at_call 20; (with_reducible refine (Q20.out _ z7).mono ?_); rintro e y8 ⟨rfl, z8⟩)
          refine hK.out _ _ (HX.out _ z8) (fun hHeld => ?_)
          clear hK K
          try simp only [Act.put, List.setIfInBounds_toArray, List.set_cons_zero, List.set_cons_succ]
          refine take_at 31 (v := ?_) rfl (by kernel_rfl) (by kernel_rfl) (by kernel_rfl) (fun _ _ _ h => h) hHeld (Or.inl ⟨by rfl, ?_⟩) ?_
          rotate_left
          · (intro w hSw; (try dsimp only at hSw); go_simp; try with_reducible rfl)
          simp only [Act.put, List.setIfInBounds_toArray, List.set_cons_zero, List.set_cons_succ]
          refine take_at 32 (v := ?_) rfl (by kernel_rfl) (by kernel_rfl) (by kernel_rfl) (fun _ _ _ h => h) hHeld (Or.inl ⟨by rfl, ?_⟩) ?_
          rotate_left
          · (intro w hSw; (try dsimp only at hSw); go_simp; try with_reducible rfl)
          simp only [Act.put, List.setIfInBounds_toArray, List.set_cons_zero, List.set_cons_succ]
          refine take_at 33 (v := ?_) rfl (by kernel_rfl) (by kernel_rfl) (by kernel_rfl) (fun _ _ _ h => h) hHeld (Or.inl ⟨by rfl, ?_⟩) ?_
          rotate_left
          · (intro w hSw; (try dsimp only at hSw); go_simp; try with_reducible rfl)
          simp only [Act.put, List.setIfInBounds_toArray, List.set_cons_zero, List.set_cons_succ]
          refine take_at 34 (v := ?_) rfl (by kernel_rfl) (by kernel_rfl) (by kernel_rfl) (fun _ _ _ h => h) hHeld (Or.inl ⟨by rfl, ?_⟩) ?_
          rotate_left
          · (intro w hSw; (try dsimp only at hSw); go_simp; try with_reducible rfl)
          simp only [Act.put, List.setIfInBounds_toArray, List.set_cons_zero, List.set_cons_succ]
          refine take_at 35 (v := ?_) rfl (by kernel_rfl) (by kernel_rfl) (by kernel_rfl) (fun _ _ _ h => h) hHeld (Or.inl ⟨by rfl, ?_⟩) ?_
          rotate_left
          · (intro w hSw; (try dsimp only at hSw); go_simp; try with_reducible rfl)
          simp only [Act.put, List.setIfInBounds_toArray, List.set_cons_zero, List.set_cons_succ]
          refine take_at 36 (v := ?_) rfl (by kernel_rfl) (by kernel_rfl) (by kernel_rfl) (fun _ _ _ h => h) hHeld (Or.inl ⟨by rfl, ?_⟩) ?_
          rotate_left
          · (intro w hSw; (try dsimp only at hSw); go_simp; try with_reducible rfl)
          simp only [Act.put, List.setIfInBounds_toArray, List.set_cons_zero, List.set_cons_succ]
          refine take_at 38 (v := ?_) rfl (by kernel_rfl) (by kernel_rfl) (by kernel_rfl) (fun _ _ _ h => h) hHeld (Or.inl ⟨by rfl, ?_⟩) ?_
          rotate_left
          · (intro w hSw; (try dsimp only at hSw); go_simp; try with_reducible rfl)
          simp only [Act.put, List.setIfInBounds_toArray, List.set_cons_zero, List.set_cons_succ]
          refine take_at 39 (v := ?_) rfl (by kernel_rfl) (by kernel_rfl) (by kernel_rfl) (fun _ _ _ h => h) hHeld (Or.inl ⟨by rfl, ?_⟩) ?_
          rotate_left
          · (intro w hSw; (try dsimp only at hSw); go_simp; try with_reducible rfl)
          simp only [Act.put, List.setIfInBounds_toArray, List.set_cons_zero, List.set_cons_succ]
          refine take_at 40 (v := ?_) rfl (by kernel_rfl) (by kernel_rfl) (by kernel_rfl) (fun _ _ _ h => h) hHeld (Or.inl ⟨by rfl, ?_⟩) ?_
          rotate_left
          · (intro w hSw; (try dsimp only at hSw); go_simp; try with_reducible rfl)
          simp only [Act.put, List.setIfInBounds_toArray, List.set_cons_zero, List.set_cons_succ]
          refine ready_at 37 rfl (by kernel_rfl) (fun K hK => ?_)
          go_simp
          (go_at_call 21; (with_reducible refine (Q21.out _ z8).mono ?_); rintro e y9 ⟨rfl, z9⟩)
          refine hK.out _ _ (HX.out _ z9) (fun hHeld => ?_)
          clear hK K
          try simp only [Act.put, List.setIfInBounds_toArray, List.set_cons_zero, List.set_cons_succ]
          refine ready_at 41 rfl (by kernel_rfl) (fun K hK => ?_)
          go_simp
          (go_at_call 22; (with_reducible refine (Q22.out _ z9).mono ?_); rintro e y10 ⟨rfl, z10⟩)
          refine hK.out _ _ (HX.out _ z10) (fun hHeld => ?_)
          clear hK K
          try simp only [Act.put, List.setIfInBounds_toArray, List.set_cons_zero, List.set_cons_succ]
          refine take_at 42 (v := ?_) rfl (by kernel_rfl) (by kernel_rfl) (by kernel_rfl) (fun _ _ _ h => h) hHeld (Or.inl ⟨by rfl, ?_⟩) ?_
          rotate_left
          · (intro w hSw; (try dsimp only at hSw); go_simp; try with_reducible rfl)
          simp only [Act.put, List.setIfInBounds_toArray, List.set_cons_zero, List.set_cons_succ]
          refine take_at 43 (v := ?_) rfl (by kernel_rfl) (by kernel_rfl) (by kernel_rfl) (fun _ _ _ h => h) hHeld (Or.inl ⟨by rfl, ?_⟩) ?_
          rotate_left
          · (intro w hSw; (try dsimp only at hSw); go_simp; try with_reducible rfl)
          simp only [Act.put, List.setIfInBounds_toArray, List.set_cons_zero, List.set_cons_succ]
          refine take_at 44 (v := ?_) rfl (by kernel_rfl) (by kernel_rfl) (by kernel_rfl) (fun _ _ _ h => h) hHeld (Or.inl ⟨by rfl, ?_⟩) ?_
          rotate_left
          · (intro w hSw; (try dsimp only at hSw); go_simp; try with_reducible rfl)
          simp only [Act.put, List.setIfInBounds_toArray, List.set_cons_zero, List.set_cons_succ]
          refine take_at 45 (v := ?_) rfl (by kernel_rfl) (by kernel_rfl) (by kernel_rfl) (fun _ _ _ h => h) hHeld (Or.inl ⟨by rfl, ?_⟩) ?_
          rotate_left
          · (intro w hSw; (try dsimp only at hSw); go_simp; try with_reducible rfl)
          simp only [Act.put, List.setIfInBounds_toArray, List.set_cons_zero, List.set_cons_succ]
          refine take_at 46 (v := ?_) rfl (by kernel_rfl) (by kernel_rfl) (by kernel_rfl) (fun _ _ _ h => h) hHeld (Or.inl ⟨by rfl, ?_⟩) ?_
          rotate_left
          · (intro w hSw; (try dsimp only at hSw); go_simp; try with_reducible rfl)
          simp only [Act.put, List.setIfInBounds_toArray, List.set_cons_zero, List.set_cons_succ]
          refine take_at 47 (v := ?_) rfl (by kernel_rfl) (by kernel_rfl) (by kernel_rfl) (fun _ _ _ h => h) hHeld (Or.inl ⟨by rfl, ?_⟩) ?_
          rotate_left
          · (intro w hSw; (try dsimp only at hSw); go_simp; try with_reducible rfl)
          simp only [Act.put, List.setIfInBounds_toArray, List.set_cons_zero, List.set_cons_succ]
          refine take_at 49 (v := ?_) rfl (by kernel_rfl) (by kernel_rfl) (by kernel_rfl) (fun _ _ _ h => h) hHeld (Or.inl ⟨by rfl, ?_⟩) ?_
          rotate_left
          · (intro w hSw; (try dsimp only at hSw); go_simp; try with_reducible rfl)
          simp only [Act.put, List.setIfInBounds_toArray, List.set_cons_zero, List.set_cons_succ]
          refine take_at 50 (v := ?_) rfl (by kernel_rfl) (by kernel_rfl) (by kernel_rfl) (fun _ _ _ h => h) hHeld (Or.inl ⟨by rfl, ?_⟩) ?_
          rotate_left
          · (intro w hSw; (try dsimp only at hSw); go_simp; try with_reducible rfl)
          simp only [Act.put, List.setIfInBounds_toArray, List.set_cons_zero, List.set_cons_succ]
          refine take_at 51 (v := ?_) rfl (by kernel_rfl) (by kernel_rfl) (by kernel_rfl) (fun _ _ _ h => h) hHeld (Or.inl ⟨by rfl, ?_⟩) ?_
          rotate_left
          · (intro w hSw; (try dsimp only at hSw); go_simp; try with_reducible rfl)
          simp only [Act.put, List.setIfInBounds_toArray, List.set_cons_zero, List.set_cons_succ]
          refine ready_at 48 rfl (by kernel_rfl) (fun K hK => ?_)
          go_simp
          (go_at_call 23; (with_reducible refine (Q23.out _ z10).mono ?_); rintro e y11 ⟨rfl, z11⟩)
          refine hK.out _ _ (HX.out _ z11) (fun hHeld => ?_)
          clear hK K
          try simp only [Act.put, List.setIfInBounds_toArray, List.set_cons_zero, List.set_cons_succ]
          refine ready_at 52 rfl (by kernel_rfl) (fun K hK => ?_)
          go_simp
          (go_at_call 24; (with_reducible refine (Q24.out _ z11).mono ?_); rintro e y12 ⟨rfl, z12⟩)
          refine hK.out _ _ (HX.out _ z12) (fun hHeld => ?_)
          clear hK K
          try simp only [Act.put, List.setIfInBounds_toArray, List.set_cons_zero, List.set_cons_succ]
          refine take_at 53 (v := ?_) rfl (by kernel_rfl) (by kernel_rfl) (by kernel_rfl) (fun _ _ _ h => h) hHeld (Or.inl ⟨by rfl, ?_⟩) ?_
          rotate_left
          · (intro w hSw; (try dsimp only at hSw); go_simp; try with_reducible rfl)
          simp only [Act.put, List.setIfInBounds_toArray, List.set_cons_zero, List.set_cons_succ]
          refine take_at 54 (v := ?_) rfl (by kernel_rfl) (by kernel_rfl) (by kernel_rfl) (fun _ _ _ h => h) hHeld (Or.inl ⟨by rfl, ?_⟩) ?_
          rotate_left
          · (intro w hSw; (try dsimp only at hSw); go_simp; try with_reducible rfl)
          simp only [Act.put, List.setIfInBounds_toArray, List.set_cons_zero, List.set_cons_succ]
          refine take_at 55 (v := ?_) rfl (by kernel_rfl) (by kernel_rfl) (by kernel_rfl) (fun _ _ _ h => h) hHeld (Or.inl ⟨by rfl, ?_⟩) ?_
          rotate_left
          · (intro w hSw; (try dsimp only at hSw); go_simp; try with_reducible rfl)
          simp only [Act.put, List.setIfInBounds_toArray, List.set_cons_zero, List.set_cons_succ]
          refine take_at 56 (v := ?_) rfl (by kernel_rfl) (by kernel_rfl) (by kernel_rfl) (fun _ _ _ h => h) hHeld (Or.inl ⟨by rfl, ?_⟩) ?_
          rotate_left
          · (intro w hSw; (try dsimp only at hSw); go_simp; try with_reducible rfl)
          simp only [Act.put, List.setIfInBounds_toArray, List.set_cons_zero, List.set_cons_succ]
          refine take_at 58 (v := ?_) rfl (by kernel_rfl) (by kernel_rfl) (by kernel_rfl) (fun _ _ _ h => h) hHeld (Or.inl ⟨by rfl, ?_⟩) ?_
          rotate_left
          · (intro w hSw; (try dsimp only at hSw); go_simp; try with_reducible rfl)
          simp only [Act.put, List.setIfInBounds_toArray, List.set_cons_zero, List.set_cons_succ]
          refine ready_at 57 rfl (by kernel_rfl) (fun K hK => ?_)
          go_simp
          (go_at_call 25; (with_reducible refine (Q25.out _ z12).mono ?_); rintro e y13 ⟨rfl, z13⟩)
          refine hK.out _ _ (HX.out _ z13) (fun hHeld => ?_)
          clear hK K
          try simp only [Act.put, List.setIfInBounds_toArray, List.set_cons_zero, List.set_cons_succ]
          refine ready_at 59 rfl (by kernel_rfl) (fun K hK => ?_)
          go_simp
          (go_at_call 26; (with_reducible refine (Q26.out _ z13).mono ?_); rintro e y14 ⟨rfl, z14⟩)
          refine hK.out _ _ (HX.out _ z14) (fun hHeld => ?_)
          clear hK K
          try simp only [Act.put, List.setIfInBounds_toArray, List.set_cons_zero, List.set_cons_succ]
          refine take_at 60 (v := ?_) rfl (by kernel_rfl) (by kernel_rfl) (by kernel_rfl) (fun _ _ _ h => h) hHeld (Or.inl ⟨by rfl, ?_⟩) ?_
          rotate_left
          · (intro w hSw; (try dsimp only at hSw); go_simp; try with_reducible rfl)
          simp only [Act.put, List.setIfInBounds_toArray, List.set_cons_zero, List.set_cons_succ]
          refine take_at 61 (v := ?_) rfl (by kernel_rfl) (by kernel_rfl) (by kernel_rfl) (fun _ _ _ h => h) hHeld (Or.inl ⟨by rfl, ?_⟩) ?_
          rotate_left
          · (intro w hSw; (try dsimp only at hSw); go_simp; try with_reducible rfl)
          simp only [Act.put, List.setIfInBounds_toArray, List.set_cons_zero, List.set_cons_succ]
          refine wpAnyH_done (by kernel_rfl) ?_ _
          have Z : Hid (Below W9.heap.size W9 y14) := z14
          clear z1 z2 z3 z4 z5 z6 z7 z8 z9 z10 z11 z12 z13 z14 hHeld Q19 Q20 Q21 Q22 Q23 Q24 Q25 Q26 P1 P3 P5 L1 L3 L5 BR HX
          as_aux_lemma =>
            go_upto_region 14 with fail
            go_cut [158] from 141 to 158 (fun s158 wx => s158 = .bool false ∧ Hid (Below W9.heap.size W9 wx))
            case first =>
              have x53 := (K5.out.below Z.out).cell 3
              have x52 := (K5.out.below Z.out).cell 2
              have x42 := (K4.out.below Z.out).cell 2
              by_cases h5 : C5 = 0
              · obtain ⟨l1, l2⟩ := HLaw5.out h5
                have e1 : decide (now5 < now4) = false := decide_eq_false (by omega)
                have e2 : decide (now5 < t4) = false := decide_eq_false (by omega)
                subst h5
                clear l1 l2 HLaw1 HLaw3 HLaw5
                go_wp2_with fail
                go_meet
                exact ⟨rfl, Z⟩
              · have e0 : (C5 == 0) = false := beq_eq_false_iff_ne.2 h5
                clear h5 HLaw1 HLaw3 HLaw5
                go_wp2_with fail
                go_meet
                exact ⟨rfl, Z⟩
            case rest =>
            obtain ⟨rfl, Z2⟩ := hcut
            clear Z HLaw5 K4 K5
            rename World => z2
            as_aux_lemma =>
              go_upto_region 16 with fail
              go_cut [195] from 159 to 195 (fun s195 wx => s195 = .bool false ∧ Hid (Below W9.heap.size W9 wx))
              case first =>
                have HX : Hid (∀ x, Below W9.heap.size W9 x → (x.cell? ⟨G1, 0, none⟩ = some (.slice q1 rs1.length cq1) ∧ x.cell? ⟨G1, 1, none⟩ = some (.slice p1 lv1.length cp1) ∧ x.cell? ⟨G1, 2, none⟩ = some (.int .i64 now1) ∧ x.cell? ⟨G1, 3, none⟩ = some (.int .i64 C1)) ∧ x.cell? ⟨G0, 0, none⟩ = some (.slice q0 rs0.length cq0) ∧ x.cell? ⟨G0, 1, none⟩ = some (.slice p0 lv0.length cp0) ∧ x.cell? ⟨G0, 2, none⟩ = some (.int .i64 now0)) := fun x hb => ⟨⟨(K1.out.below hb).cell 0, (K1.out.below hb).cell 1, (K1.out.below hb).cell 2, (K1.out.below hb).cell 3⟩, (K0.out.below hb).cell 0, (K0.out.below hb).cell 1, (K0.out.below hb).cell 2⟩
                have BR : Hid (Below W9.heap.size W9 z2.drew) := Z2.out.drew
                by_cases h1 : C1 = 0
                · obtain ⟨l1, l2, l3, l4⟩ := HLaw1.out h1
                  have hcp1 := A1.out.lc
                  have hln1 := A1.out.ln
                  have hcp0 := A0.out.lc
                  have M23 : Hid (∀ x, Below W9.heap.size W9 x → Calls Tryz.prog 23 #[.agg #[.slice q1 rs1.length cq1, .slice p1 lv1.length cp1, .int .i64 now1], .int .i64 (rs0.length : Int), .int .i64 0] x fun e x1 => e = .returned (.int .i64 1) ∧ Below W9.heap.size W9 x1) := fun x hb => (implStatusOf_any p1 lv1 cp1 q1 rs1 cq1 now1 (rs0.length : Int) 0 x (HT.out.to (chainB B9.out hb)) (HL.out.below (chainB B9.out hb)) (A1.out.below hb)).mono (by rintro e x1 ⟨rfl, y⟩; exact ⟨by rw [l1], chainB hb y⟩)
                  have M19 : Hid (∀ x, Below W9.heap.size W9 x → Calls Tryz.prog 19 #[.agg #[.slice q1 rs1.length cq1, .slice p1 lv1.length cp1, .int .i64 now1], .int .i64 (rs0.length : Int)] x fun e x1 => e = .returned (.int .i64 (lv0.length : Int)) ∧ Below W9.heap.size W9 x1) := fun x hb => (implPlaceOf_any p1 lv1 cp1 q1 rs1 cq1 now1 (rs0.length : Int) x (HT.out.to (chainB B9.out hb)) (HL.out.below (chainB B9.out hb)) (A1.out.below hb)).mono (by rintro e x1 ⟨rfl, y⟩; exact ⟨by rw [l2], chainB hb y⟩)
                  have M27 : Hid (∀ x, Below W9.heap.size W9 x → Calls Tryz.prog 27 #[.slice p1 lv0.length cp1, .slice p0 lv0.length cp0] x fun e x1 => e = .returned (.bool true) ∧ Below W9.heap.size W9 x1) := fun x hb => (texts_any p1 p0 cp1 cp0 lv0 lv0 x (txt_pre l3 (A1.out.below hb).tx) (A0.out.below hb).tx (by omega) (by omega) (by omega) hcp0).mono (by rintro e x1 ⟨rfl, y⟩; exact ⟨by rw [decide_eq_true rfl], chainB hb y⟩)
                  have hsl := sl_to p1 lv1.length cp1 lv0.length (by omega)
                  subst h1
                  clear l1 l2 l3 l4 hcp1 hln1 hcp0 HLaw1 HLaw3 A0 A1 K0 K1
                  as_aux_lemma =>
                    refine wp_region_held_drew (S := fun w' => (w'.cell? ⟨G1, 0, none⟩ = some (.slice q1 rs1.length cq1) ∧ w'.cell? ⟨G1, 1, none⟩ = some (.slice p1 lv1.length cp1) ∧ w'.cell? ⟨G1, 2, none⟩ = some (.int .i64 now1) ∧ w'.cell? ⟨G1, 3, none⟩ = some (.int .i64 0)) ∧ w'.cell? ⟨G0, 0, none⟩ = some (.slice q0 rs0.length cq0) ∧ w'.cell? ⟨G0, 1, none⟩ = some (.slice p0 lv0.length cp0) ∧ w'.cell? ⟨G0, 2, none⟩ = some (.int .i64 now0)) (by kernel_rfl) (HX.out _ BR.out) (fun hHeld => ?_)
                    refine take_at 0 (v := ?_) rfl (by kernel_rfl) (by kernel_rfl) (by kernel_rfl) (fun _ _ _ h => h) hHeld (Or.inl ⟨by rfl, ?_⟩) ?_
                    rotate_left
                    · (intro w hSw; (try dsimp only at hSw); go_simp; try with_reducible rfl)
                    simp only [Act.put, List.setIfInBounds_toArray, List.set_cons_zero, List.set_cons_succ]
                    refine take_at 1 (v := ?_) rfl (by kernel_rfl) (by kernel_rfl) (by kernel_rfl) (fun _ _ _ h => h) hHeld (Or.inl ⟨by rfl, ?_⟩) ?_
                    rotate_left
                    · (intro w hSw; (try dsimp only at hSw); go_simp; try with_reducible rfl)
                    simp only [Act.put, List.setIfInBounds_toArray, List.set_cons_zero, List.set_cons_succ]
                    refine take_at 2 (v := ?_) rfl (by kernel_rfl) (by kernel_rfl) (by kernel_rfl) (fun _ _ _ h => h) hHeld (Or.inl ⟨by rfl, ?_⟩) ?_
                    rotate_left
                    · (intro w hSw; (try dsimp only at hSw); go_simp; try with_reducible rfl)
                    simp only [Act.put, List.setIfInBounds_toArray, List.set_cons_zero, List.set_cons_succ]
                    refine take_at 3 (v := ?_) rfl (by kernel_rfl) (by kernel_rfl) (by kernel_rfl) (fun _ _ _ h => h) hHeld (Or.inl ⟨by rfl, ?_⟩) ?_
                    rotate_left
                    · (intro w hSw; (try dsimp only at hSw); go_simp; try with_reducible rfl)
                    simp only [Act.put, List.setIfInBounds_toArray, List.set_cons_zero, List.set_cons_succ]
                    refine take_at 4 (v := ?_) rfl (by kernel_rfl) (by kernel_rfl) (by kernel_rfl) (fun _ _ _ h => h) hHeld (Or.inl ⟨by rfl, ?_⟩) ?_
                    rotate_left
                    · (intro w hSw; (try dsimp only at hSw); go_simp; try with_reducible rfl)
                    simp only [Act.put, List.setIfInBounds_toArray, List.set_cons_zero, List.set_cons_succ]
                    refine take_at 5 (v := ?_) rfl (by kernel_rfl) (by kernel_rfl) (by kernel_rfl) (fun _ _ _ h => h) hHeld (Or.inl ⟨by rfl, ?_⟩) ?_
                    rotate_left
                    · (intro w hSw; (try dsimp only at hSw); go_simp; try with_reducible rfl)
                    simp only [Act.put, List.setIfInBounds_toArray, List.set_cons_zero, List.set_cons_succ]
                    refine take_at 6 (v := ?_) rfl (by kernel_rfl) (by kernel_rfl) (by kernel_rfl) (fun _ _ _ h => h) hHeld (Or.inl ⟨by rfl, ?_⟩) ?_
                    rotate_left
                    · (intro w hSw; (try dsimp only at hSw); go_simp; try with_reducible rfl)
                    simp only [Act.put, List.setIfInBounds_toArray, List.set_cons_zero, List.set_cons_succ]
                    refine take_at 7 (v := ?_) rfl (by kernel_rfl) (by kernel_rfl) (by kernel_rfl) (fun _ _ _ h => h) hHeld (Or.inl ⟨by rfl, ?_⟩) ?_
                    rotate_left
                    · (intro w hSw; (try dsimp only at hSw); go_simp; try with_reducible rfl)
                    simp only [Act.put, List.setIfInBounds_toArray, List.set_cons_zero, List.set_cons_succ]
                    refine take_at 8 (v := ?_) rfl (by kernel_rfl) (by kernel_rfl) (by kernel_rfl) (fun _ _ _ h => h) hHeld (Or.inl ⟨by rfl, ?_⟩) ?_
                    rotate_left
                    · (intro w hSw; (try dsimp only at hSw); go_simp; try with_reducible rfl)
                    simp only [Act.put, List.setIfInBounds_toArray, List.set_cons_zero, List.set_cons_succ]
                    refine ready_at 9 rfl (by kernel_rfl) (fun K hK => ?_)
                    go_simp
                    (go_at_call 23; (with_reducible refine (M23.out _ BR.out).mono ?_); rintro e y1 ⟨rfl, z1⟩)
                    refine hK.out _ _ (HX.out _ z1) (fun hHeld => ?_)
                    clear hK K
                    try simp only [Act.put, List.setIfInBounds_toArray, List.set_cons_zero, List.set_cons_succ]
                    refine take_at 10 (v := ?_) rfl (by kernel_rfl) (by kernel_rfl) (by kernel_rfl) (fun _ _ _ h => h) hHeld (Or.inl ⟨by rfl, ?_⟩) ?_
                    rotate_left
                    · (intro w hSw; (try dsimp only at hSw); go_simp; try with_reducible rfl)
                    simp only [Act.put, List.setIfInBounds_toArray, List.set_cons_zero, List.set_cons_succ]
                    refine take_at 11 (v := ?_) rfl (by kernel_rfl) (by kernel_rfl) (by kernel_rfl) (fun _ _ _ h => h) hHeld (Or.inl ⟨by rfl, ?_⟩) ?_
                    rotate_left
                    · (intro w hSw; (try dsimp only at hSw); go_simp; try with_reducible rfl)
                    simp only [Act.put, List.setIfInBounds_toArray, List.set_cons_zero, List.set_cons_succ]
                    refine take_at 12 (v := ?_) rfl (by kernel_rfl) (by kernel_rfl) (by kernel_rfl) (fun _ _ _ h => h) hHeld (Or.inl ⟨by rfl, ?_⟩) ?_
                    rotate_left
                    · (intro w hSw; (try dsimp only at hSw); go_simp; try with_reducible rfl)
                    simp only [Act.put, List.setIfInBounds_toArray, List.set_cons_zero, List.set_cons_succ]
                    refine take_at 13 (v := ?_) rfl (by kernel_rfl) (by kernel_rfl) (by kernel_rfl) (fun _ _ _ h => h) hHeld (Or.inl ⟨by rfl, ?_⟩) ?_
                    rotate_left
                    · (intro w hSw; (try dsimp only at hSw); go_simp; try with_reducible rfl)
                    simp only [Act.put, List.setIfInBounds_toArray, List.set_cons_zero, List.set_cons_succ]
                    refine take_at 14 (v := ?_) rfl (by kernel_rfl) (by kernel_rfl) (by kernel_rfl) (fun _ _ _ h => h) hHeld (Or.inl ⟨by rfl, ?_⟩) ?_
                    rotate_left
                    · (intro w hSw; (try dsimp only at hSw); go_simp; try with_reducible rfl)
                    simp only [Act.put, List.setIfInBounds_toArray, List.set_cons_zero, List.set_cons_succ]
                    refine take_at 15 (v := ?_) rfl (by kernel_rfl) (by kernel_rfl) (by kernel_rfl) (fun _ _ _ h => h) hHeld (Or.inl ⟨by rfl, ?_⟩) ?_
                    rotate_left
                    · (intro w hSw; (try dsimp only at hSw); go_simp; try with_reducible rfl)
                    simp only [Act.put, List.setIfInBounds_toArray, List.set_cons_zero, List.set_cons_succ]
                    refine take_at 16 (v := ?_) rfl (by kernel_rfl) (by kernel_rfl) (by kernel_rfl) (fun _ _ _ h => h) hHeld (Or.inl ⟨by rfl, ?_⟩) ?_
                    rotate_left
                    · (intro w hSw; (try dsimp only at hSw); go_simp; try with_reducible rfl)
                    simp only [Act.put, List.setIfInBounds_toArray, List.set_cons_zero, List.set_cons_succ]
                    refine take_at 18 (v := ?_) rfl (by kernel_rfl) (by kernel_rfl) (by kernel_rfl) (fun _ _ _ h => h) hHeld (Or.inl ⟨by rfl, ?_⟩) ?_
                    rotate_left
                    · (intro w hSw; (try dsimp only at hSw); go_simp; try with_reducible rfl)
                    simp only [Act.put, List.setIfInBounds_toArray, List.set_cons_zero, List.set_cons_succ]
                    refine take_at 19 (v := ?_) rfl (by kernel_rfl) (by kernel_rfl) (by kernel_rfl) (fun _ _ _ h => h) hHeld (Or.inl ⟨by rfl, ?_⟩) ?_
                    rotate_left
                    · (intro w hSw; (try dsimp only at hSw); go_simp; try with_reducible rfl)
                    simp only [Act.put, List.setIfInBounds_toArray, List.set_cons_zero, List.set_cons_succ]
                    refine take_at 20 (v := ?_) rfl (by kernel_rfl) (by kernel_rfl) (by kernel_rfl) (fun _ _ _ h => h) hHeld (Or.inl ⟨by rfl, ?_⟩) ?_
                    rotate_left
                    · (intro w hSw; (try dsimp only at hSw); go_simp; try with_reducible rfl)
                    simp only [Act.put, List.setIfInBounds_toArray, List.set_cons_zero, List.set_cons_succ]
                    refine ready_at 17 rfl (by kernel_rfl) (fun K hK => ?_)
                    go_simp
                    (go_at_call 19; (with_reducible refine (M19.out _ z1).mono ?_); rintro e y2 ⟨rfl, z3⟩)
                    refine hK.out _ _ (HX.out _ z3) (fun hHeld => ?_)
                    clear hK K
                    try simp only [Act.put, List.setIfInBounds_toArray, List.set_cons_zero, List.set_cons_succ]
                    refine take_at 21 (v := ?_) rfl (by kernel_rfl) (by kernel_rfl) (by kernel_rfl) (fun _ _ _ h => h) hHeld (Or.inl ⟨by rfl, ?_⟩) ?_
                    rotate_left
                    · (intro w hSw; (try dsimp only at hSw); go_simp; try with_reducible rfl)
                    simp only [Act.put, List.setIfInBounds_toArray, List.set_cons_zero, List.set_cons_succ]
                    refine take_at 22 (v := ?_) rfl (by kernel_rfl) (by kernel_rfl) (by kernel_rfl) (fun _ _ _ h => h) hHeld (Or.inl ⟨by rfl, ?_⟩) ?_
                    rotate_left
                    · (intro w hSw; (try dsimp only at hSw); go_simp; try with_reducible rfl)
                    simp only [Act.put, List.setIfInBounds_toArray, List.set_cons_zero, List.set_cons_succ]
                    refine take_at 23 (v := ?_) rfl (by kernel_rfl) (by kernel_rfl) (by kernel_rfl) (fun _ _ _ h => h) hHeld (Or.inl ⟨by rfl, ?_⟩) ?_
                    rotate_left
                    · (intro w hSw; (try dsimp only at hSw); go_simp; try with_reducible rfl)
                    simp only [Act.put, List.setIfInBounds_toArray, List.set_cons_zero, List.set_cons_succ]
                    refine take_at 24 (v := ?_) rfl (by kernel_rfl) (by kernel_rfl) (by kernel_rfl) (fun _ _ _ h => h) hHeld (Or.inl ⟨by rfl, ?_⟩) ?_
                    rotate_left
                    · (intro w hSw; (try dsimp only at hSw); go_simp; try with_reducible rfl)
                    simp only [Act.put, List.setIfInBounds_toArray, List.set_cons_zero, List.set_cons_succ]
                    refine take_at 25 (v := ?_) rfl (by kernel_rfl) (by kernel_rfl) (by kernel_rfl) (fun _ _ _ h => h) hHeld (Or.inl ⟨by rfl, ?_⟩) ?_
                    rotate_left
                    · (intro w hSw; (try dsimp only at hSw); go_simp; try with_reducible rfl)
                    simp only [Act.put, List.setIfInBounds_toArray, List.set_cons_zero, List.set_cons_succ]
                    refine take_at 26 (v := ?_) rfl (by kernel_rfl) (by kernel_rfl) (by kernel_rfl) (fun _ _ _ h => h) hHeld (Or.inl ⟨by rfl, ?_⟩) ?_
                    rotate_left
                    · (intro w hSw; (try dsimp only at hSw); go_simp; try with_reducible rfl)
                    simp only [Act.put, List.setIfInBounds_toArray, List.set_cons_zero, List.set_cons_succ]
                    refine take_at 27 (v := ?_) rfl (by kernel_rfl) (by kernel_rfl) (by kernel_rfl) (fun _ _ _ h => h) hHeld (Or.inl ⟨by rfl, ?_⟩) ?_
                    rotate_left
                    · (intro w hSw; (try dsimp only at hSw); go_simp; try with_reducible rfl)
                    simp only [Act.put, List.setIfInBounds_toArray, List.set_cons_zero, List.set_cons_succ]
                    refine take_at 28 (v := ?_) rfl (by kernel_rfl) (by kernel_rfl) (by kernel_rfl) (fun _ _ _ h => h) hHeld (Or.inl ⟨by rfl, ?_⟩) ?_
                    rotate_left
                    · (intro w hSw; (try dsimp only at hSw); go_simp; try with_reducible rfl)
                    simp only [Act.put, List.setIfInBounds_toArray, List.set_cons_zero, List.set_cons_succ]
                    refine take_at 29 (v := ?_) rfl (by kernel_rfl) (by kernel_rfl) (by kernel_rfl) (fun _ _ _ h => h) hHeld (Or.inl ⟨by rfl, ?_⟩) ?_
                    rotate_left
                    · (intro w hSw; (try dsimp only at hSw); go_simp; try with_reducible rfl)
                    simp only [Act.put, List.setIfInBounds_toArray, List.set_cons_zero, List.set_cons_succ]
                    refine take_at 30 (v := ?_) rfl (by kernel_rfl) (by kernel_rfl) (by kernel_rfl) (fun _ _ _ h => h) hHeld (Or.inl ⟨by rfl, ?_⟩) ?_
                    rotate_left
                    · (intro w hSw; (try dsimp only at hSw); go_simp; try with_reducible rfl)
                    simp only [Act.put, List.setIfInBounds_toArray, List.set_cons_zero, List.set_cons_succ]
                    refine take_at 31 (v := ?_) rfl (by kernel_rfl) (by kernel_rfl) (by kernel_rfl) (fun _ _ _ h => h) hHeld (Or.inl ⟨by rfl, ?_⟩) ?_
                    rotate_left
                    · (intro w hSw; (try dsimp only at hSw); go_simp; try with_reducible rfl)
                    simp only [Act.put, List.setIfInBounds_toArray, List.set_cons_zero, List.set_cons_succ]
                    refine take_at 32 (v := ?_) rfl (by kernel_rfl) (by kernel_rfl) (by kernel_rfl) (fun _ _ _ h => h) hHeld (Or.inl ⟨by rfl, ?_⟩) ?_
                    rotate_left
                    · (intro w hSw; (try dsimp only at hSw); go_simp; try with_reducible rfl)
                    simp only [Act.put, List.setIfInBounds_toArray, List.set_cons_zero, List.set_cons_succ]
                    refine ready_at 33 rfl (by kernel_rfl) (fun K hK => ?_)
                    go_simp
                    (go_at_call 27; (with_reducible refine (M27.out _ z3).mono ?_); rintro e y3 ⟨rfl, z4⟩)
                    refine hK.out _ _ (HX.out _ z4) (fun hHeld => ?_)
                    clear hK K
                    try simp only [Act.put, List.setIfInBounds_toArray, List.set_cons_zero, List.set_cons_succ]
                    refine take_at 34 (v := ?_) rfl (by kernel_rfl) (by kernel_rfl) (by kernel_rfl) (fun _ _ _ h => h) hHeld (Or.inl ⟨by rfl, ?_⟩) ?_
                    rotate_left
                    · (intro w hSw; (try dsimp only at hSw); go_simp; try with_reducible rfl)
                    simp only [Act.put, List.setIfInBounds_toArray, List.set_cons_zero, List.set_cons_succ]
                    refine take_at 35 (v := ?_) rfl (by kernel_rfl) (by kernel_rfl) (by kernel_rfl) (fun _ _ _ h => h) hHeld (Or.inl ⟨by rfl, ?_⟩) ?_
                    rotate_left
                    · (intro w hSw; (try dsimp only at hSw); go_simp; try with_reducible rfl)
                    simp only [Act.put, List.setIfInBounds_toArray, List.set_cons_zero, List.set_cons_succ]
                    refine take_at 36 (v := ?_) rfl (by kernel_rfl) (by kernel_rfl) (by kernel_rfl) (fun _ _ _ h => h) hHeld (Or.inl ⟨by rfl, ?_⟩) ?_
                    rotate_left
                    · (intro w hSw; (try dsimp only at hSw); go_simp; try with_reducible rfl)
                    simp only [Act.put, List.setIfInBounds_toArray, List.set_cons_zero, List.set_cons_succ]
                    refine wpAnyH_done (by kernel_rfl) ?_ _
                    have Z4 : Hid (Below W9.heap.size W9 y3) := z4
                    clear z1 z3 z4 hHeld M23 M19 M27 BR HX hsl
                    go_wp2_with fail
                    go_meet
                    exact ⟨rfl, Z4⟩
                · have e0 : (C1 == 0) = false := beq_eq_false_iff_ne.2 h1
                  clear h1 HLaw1 HLaw3 A0 A1 K0 K1
                  as_aux_lemma =>
                    refine wp_region_held_drew (S := fun w' => (w'.cell? ⟨G1, 0, none⟩ = some (.slice q1 rs1.length cq1) ∧ w'.cell? ⟨G1, 1, none⟩ = some (.slice p1 lv1.length cp1) ∧ w'.cell? ⟨G1, 2, none⟩ = some (.int .i64 now1) ∧ w'.cell? ⟨G1, 3, none⟩ = some (.int .i64 C1)) ∧ w'.cell? ⟨G0, 0, none⟩ = some (.slice q0 rs0.length cq0) ∧ w'.cell? ⟨G0, 1, none⟩ = some (.slice p0 lv0.length cp0) ∧ w'.cell? ⟨G0, 2, none⟩ = some (.int .i64 now0)) (by kernel_rfl) (HX.out _ BR.out) (fun hHeld => ?_)
                    refine take_at 0 (v := ?_) rfl (by kernel_rfl) (by kernel_rfl) (by kernel_rfl) (fun _ _ _ h => h) hHeld (Or.inl ⟨by rfl, ?_⟩) ?_
                    rotate_left
                    · (intro w hSw; (try dsimp only at hSw); go_simp; try with_reducible rfl)
                    simp only [Act.put, List.setIfInBounds_toArray, List.set_cons_zero, List.set_cons_succ]
                    refine take_at 1 (v := ?_) rfl (by kernel_rfl) (by kernel_rfl) (by kernel_rfl) (fun _ _ _ h => h) hHeld (Or.inl ⟨by rfl, ?_⟩) ?_
                    rotate_left
                    · (intro w hSw; (try dsimp only at hSw); go_simp; try with_reducible rfl)
                    simp only [Act.put, List.setIfInBounds_toArray, List.set_cons_zero, List.set_cons_succ]
                    refine take_at 2 (v := ?_) rfl (by kernel_rfl) (by kernel_rfl) (by kernel_rfl) (fun _ _ _ h => h) hHeld (Or.inl ⟨by rfl, ?_⟩) ?_
                    rotate_left
                    · (intro w hSw; (try dsimp only at hSw); go_simp; try with_reducible rfl)
                    simp only [Act.put, List.setIfInBounds_toArray, List.set_cons_zero, List.set_cons_succ]
                    refine take_at 3 (v := ?_) rfl (by kernel_rfl) (by kernel_rfl) (by kernel_rfl) (fun _ _ _ h => h) hHeld (Or.inl ⟨by rfl, ?_⟩) ?_
                    rotate_left
                    · (intro w hSw; (try dsimp only at hSw); go_simp; try with_reducible rfl)
                    simp only [Act.put, List.setIfInBounds_toArray, List.set_cons_zero, List.set_cons_succ]
                    refine take_at 4 (v := undef) rfl (by kernel_rfl) (by kernel_rfl) (by kernel_rfl) (fun _ _ _ h => h) hHeld (Or.inr ⟨by rfl, rfl⟩) ?_
                    simp only [Act.put, List.setIfInBounds_toArray, List.set_cons_zero, List.set_cons_succ]
                    refine take_at 5 (v := undef) rfl (by kernel_rfl) (by kernel_rfl) (by kernel_rfl) (fun _ _ _ h => h) hHeld (Or.inr ⟨by rfl, rfl⟩) ?_
                    simp only [Act.put, List.setIfInBounds_toArray, List.set_cons_zero, List.set_cons_succ]
                    refine take_at 6 (v := undef) rfl (by kernel_rfl) (by kernel_rfl) (by kernel_rfl) (fun _ _ _ h => h) hHeld (Or.inr ⟨by rfl, rfl⟩) ?_
                    simp only [Act.put, List.setIfInBounds_toArray, List.set_cons_zero, List.set_cons_succ]
                    refine take_at 7 (v := undef) rfl (by kernel_rfl) (by kernel_rfl) (by kernel_rfl) (fun _ _ _ h => h) hHeld (Or.inr ⟨by rfl, rfl⟩) ?_
                    simp only [Act.put, List.setIfInBounds_toArray, List.set_cons_zero, List.set_cons_succ]
                    refine take_at 8 (v := undef) rfl (by kernel_rfl) (by kernel_rfl) (by kernel_rfl) (fun _ _ _ h => h) hHeld (Or.inr ⟨by rfl, rfl⟩) ?_
                    simp only [Act.put, List.setIfInBounds_toArray, List.set_cons_zero, List.set_cons_succ]
                    refine take_at 9 (v := undef) rfl (by kernel_rfl) (by kernel_rfl) (by kernel_rfl) (fun _ _ _ h => h) hHeld (Or.inr ⟨by rfl, rfl⟩) ?_
                    simp only [Act.put, List.setIfInBounds_toArray, List.set_cons_zero, List.set_cons_succ]
                    refine take_at 10 (v := undef) rfl (by kernel_rfl) (by kernel_rfl) (by kernel_rfl) (fun _ _ _ h => h) hHeld (Or.inr ⟨by rfl, rfl⟩) ?_
                    simp only [Act.put, List.setIfInBounds_toArray, List.set_cons_zero, List.set_cons_succ]
                    refine take_at 11 (v := undef) rfl (by kernel_rfl) (by kernel_rfl) (by kernel_rfl) (fun _ _ _ h => h) hHeld (Or.inr ⟨by rfl, rfl⟩) ?_
                    simp only [Act.put, List.setIfInBounds_toArray, List.set_cons_zero, List.set_cons_succ]
                    refine take_at 12 (v := undef) rfl (by kernel_rfl) (by kernel_rfl) (by kernel_rfl) (fun _ _ _ h => h) hHeld (Or.inr ⟨by rfl, rfl⟩) ?_
                    simp only [Act.put, List.setIfInBounds_toArray, List.set_cons_zero, List.set_cons_succ]
                    refine take_at 13 (v := undef) rfl (by kernel_rfl) (by kernel_rfl) (by kernel_rfl) (fun _ _ _ h => h) hHeld (Or.inr ⟨by rfl, rfl⟩) ?_
                    simp only [Act.put, List.setIfInBounds_toArray, List.set_cons_zero, List.set_cons_succ]
                    refine take_at 14 (v := undef) rfl (by kernel_rfl) (by kernel_rfl) (by kernel_rfl) (fun _ _ _ h => h) hHeld (Or.inr ⟨by rfl, rfl⟩) ?_
                    simp only [Act.put, List.setIfInBounds_toArray, List.set_cons_zero, List.set_cons_succ]
                    refine take_at 15 (v := undef) rfl (by kernel_rfl) (by kernel_rfl) (by kernel_rfl) (fun _ _ _ h => h) hHeld (Or.inr ⟨by rfl, rfl⟩) ?_
                    simp only [Act.put, List.setIfInBounds_toArray, List.set_cons_zero, List.set_cons_succ]
                    refine take_at 16 (v := undef) rfl (by kernel_rfl) (by kernel_rfl) (by kernel_rfl) (fun _ _ _ h => h) hHeld (Or.inr ⟨by rfl, rfl⟩) ?_
                    simp only [Act.put, List.setIfInBounds_toArray, List.set_cons_zero, List.set_cons_succ]
                    refine take_at 17 (v := undef) rfl (by kernel_rfl) (by kernel_rfl) (by kernel_rfl) (fun _ _ _ h => h) hHeld (Or.inr ⟨by rfl, rfl⟩) ?_
                    simp only [Act.put, List.setIfInBounds_toArray, List.set_cons_zero, List.set_cons_succ]
                    refine take_at 18 (v := undef) rfl (by kernel_rfl) (by kernel_rfl) (by kernel_rfl) (fun _ _ _ h => h) hHeld (Or.inr ⟨by rfl, rfl⟩) ?_
                    simp only [Act.put, List.setIfInBounds_toArray, List.set_cons_zero, List.set_cons_succ]
                    refine take_at 19 (v := undef) rfl (by kernel_rfl) (by kernel_rfl) (by kernel_rfl) (fun _ _ _ h => h) hHeld (Or.inr ⟨by rfl, rfl⟩) ?_
                    simp only [Act.put, List.setIfInBounds_toArray, List.set_cons_zero, List.set_cons_succ]
                    refine take_at 20 (v := undef) rfl (by kernel_rfl) (by kernel_rfl) (by kernel_rfl) (fun _ _ _ h => h) hHeld (Or.inr ⟨by rfl, rfl⟩) ?_
                    simp only [Act.put, List.setIfInBounds_toArray, List.set_cons_zero, List.set_cons_succ]
                    refine take_at 21 (v := undef) rfl (by kernel_rfl) (by kernel_rfl) (by kernel_rfl) (fun _ _ _ h => h) hHeld (Or.inr ⟨by rfl, rfl⟩) ?_
                    simp only [Act.put, List.setIfInBounds_toArray, List.set_cons_zero, List.set_cons_succ]
                    refine take_at 22 (v := undef) rfl (by kernel_rfl) (by kernel_rfl) (by kernel_rfl) (fun _ _ _ h => h) hHeld (Or.inr ⟨by rfl, rfl⟩) ?_
                    simp only [Act.put, List.setIfInBounds_toArray, List.set_cons_zero, List.set_cons_succ]
                    refine take_at 23 (v := undef) rfl (by kernel_rfl) (by kernel_rfl) (by kernel_rfl) (fun _ _ _ h => h) hHeld (Or.inr ⟨by rfl, rfl⟩) ?_
                    simp only [Act.put, List.setIfInBounds_toArray, List.set_cons_zero, List.set_cons_succ]
                    refine take_at 24 (v := undef) rfl (by kernel_rfl) (by kernel_rfl) (by kernel_rfl) (fun _ _ _ h => h) hHeld (Or.inr ⟨by rfl, rfl⟩) ?_
                    simp only [Act.put, List.setIfInBounds_toArray, List.set_cons_zero, List.set_cons_succ]
                    refine take_at 25 (v := undef) rfl (by kernel_rfl) (by kernel_rfl) (by kernel_rfl) (fun _ _ _ h => h) hHeld (Or.inr ⟨by rfl, rfl⟩) ?_
                    simp only [Act.put, List.setIfInBounds_toArray, List.set_cons_zero, List.set_cons_succ]
                    refine take_at 26 (v := undef) rfl (by kernel_rfl) (by kernel_rfl) (by kernel_rfl) (fun _ _ _ h => h) hHeld (Or.inr ⟨by rfl, rfl⟩) ?_
                    simp only [Act.put, List.setIfInBounds_toArray, List.set_cons_zero, List.set_cons_succ]
                    refine take_at 27 (v := undef) rfl (by kernel_rfl) (by kernel_rfl) (by kernel_rfl) (fun _ _ _ h => h) hHeld (Or.inr ⟨by rfl, rfl⟩) ?_
                    simp only [Act.put, List.setIfInBounds_toArray, List.set_cons_zero, List.set_cons_succ]
                    refine take_at 28 (v := undef) rfl (by kernel_rfl) (by kernel_rfl) (by kernel_rfl) (fun _ _ _ h => h) hHeld (Or.inr ⟨by rfl, rfl⟩) ?_
                    simp only [Act.put, List.setIfInBounds_toArray, List.set_cons_zero, List.set_cons_succ]
                    refine take_at 29 (v := undef) rfl (by kernel_rfl) (by kernel_rfl) (by kernel_rfl) (fun _ _ _ h => h) hHeld (Or.inr ⟨by rfl, rfl⟩) ?_
                    simp only [Act.put, List.setIfInBounds_toArray, List.set_cons_zero, List.set_cons_succ]
                    refine take_at 30 (v := undef) rfl (by kernel_rfl) (by kernel_rfl) (by kernel_rfl) (fun _ _ _ h => h) hHeld (Or.inr ⟨by rfl, rfl⟩) ?_
                    simp only [Act.put, List.setIfInBounds_toArray, List.set_cons_zero, List.set_cons_succ]
                    refine take_at 31 (v := undef) rfl (by kernel_rfl) (by kernel_rfl) (by kernel_rfl) (fun _ _ _ h => h) hHeld (Or.inr ⟨by rfl, rfl⟩) ?_
                    simp only [Act.put, List.setIfInBounds_toArray, List.set_cons_zero, List.set_cons_succ]
                    refine take_at 32 (v := undef) rfl (by kernel_rfl) (by kernel_rfl) (by kernel_rfl) (fun _ _ _ h => h) hHeld (Or.inr ⟨by rfl, rfl⟩) ?_
                    simp only [Act.put, List.setIfInBounds_toArray, List.set_cons_zero, List.set_cons_succ]
                    refine take_at 33 (v := undef) rfl (by kernel_rfl) (by kernel_rfl) (by kernel_rfl) (fun _ _ _ h => h) hHeld (Or.inr ⟨by rfl, rfl⟩) ?_
                    simp only [Act.put, List.setIfInBounds_toArray, List.set_cons_zero, List.set_cons_succ]
                    refine take_at 34 (v := undef) rfl (by kernel_rfl) (by kernel_rfl) (by kernel_rfl) (fun _ _ _ h => h) hHeld (Or.inr ⟨by rfl, rfl⟩) ?_
                    simp only [Act.put, List.setIfInBounds_toArray, List.set_cons_zero, List.set_cons_succ]
                    refine take_at 35 (v := undef) rfl (by kernel_rfl) (by kernel_rfl) (by kernel_rfl) (fun _ _ _ h => h) hHeld (Or.inr ⟨by rfl, rfl⟩) ?_
                    simp only [Act.put, List.setIfInBounds_toArray, List.set_cons_zero, List.set_cons_succ]
                    refine take_at 36 (v := ?_) rfl (by kernel_rfl) (by kernel_rfl) (by kernel_rfl) (fun _ _ _ h => h) hHeld (Or.inl ⟨by rfl, ?_⟩) ?_
                    rotate_left
                    · (intro w hSw; (try dsimp only at hSw); go_simp; try with_reducible rfl)
                    simp only [Act.put, List.setIfInBounds_toArray, List.set_cons_zero, List.set_cons_succ]
                    refine wpAnyH_done (by kernel_rfl) ?_ _
                    clear hHeld HX
                    go_wp2_with fail
                    go_meet
                    exact ⟨rfl, BR⟩
              case rest =>
              obtain ⟨rfl, Z3⟩ := hcut
              clear Z2 HLaw1 A0 A1 K0 K1
              rename World => z3
              as_aux_lemma =>
                have x33 := (K3.out.below Z3.out).cell 3
                by_cases h3 : C3 = 0
                case neg =>
                  have e0 : (C3 == 0) = false := beq_eq_false_iff_ne.2 h3
                  have HE := chainB B9.out Z3.out
                  clear h3 HLaw3 A2 A3 K2 K3 Z3
                  go_wp2_with fail
                  go_ret
                  exact ⟨rfl, HE⟩
                obtain ⟨⟨l1, l2, l3, l4⟩, l5⟩ := HLaw3.out h3
                subst h3
                go_upto_region 20 with fail
                clear x33
                have hcp3 := A3.out.lc
                have hln3 := A3.out.ln
                have hcp2 := A2.out.lc
                have HX : Hid (∀ x, Below W9.heap.size W9 x → (x.cell? ⟨G3, 0, none⟩ = some (.slice q3 rs3.length cq3) ∧ x.cell? ⟨G3, 1, none⟩ = some (.slice p3 lv3.length cp3) ∧ x.cell? ⟨G3, 2, none⟩ = some (.int .i64 now3) ∧ x.cell? ⟨G3, 3, none⟩ = some (.int .i64 0)) ∧ x.cell? ⟨G2, 0, none⟩ = some (.slice q2 rs2.length cq2) ∧ x.cell? ⟨G2, 1, none⟩ = some (.slice p2 lv2.length cp2) ∧ x.cell? ⟨G2, 2, none⟩ = some (.int .i64 now2)) := fun x hb => ⟨⟨(K3.out.below hb).cell 0, (K3.out.below hb).cell 1, (K3.out.below hb).cell 2, (K3.out.below hb).cell 3⟩, (K2.out.below hb).cell 0, (K2.out.below hb).cell 1, (K2.out.below hb).cell 2⟩
                have BR : Hid (Below W9.heap.size W9 z3.drew) := Z3.out.drew
                have M23 : Hid (∀ x, Below W9.heap.size W9 x → Calls Tryz.prog 23 #[.agg #[.slice q3 rs3.length cq3, .slice p3 lv3.length cp3, .int .i64 now3], .int .i64 i2, .int .i64 f2] x fun e x1 => e = .returned (.int .i64 2) ∧ Below W9.heap.size W9 x1) := fun x hb => (implStatusOf_any p3 lv3 cp3 q3 rs3 cq3 now3 i2 f2 x (HT.out.to (chainB B9.out hb)) (HL.out.below (chainB B9.out hb)) (A3.out.below hb)).mono (by rintro e x1 ⟨rfl, y⟩; exact ⟨by rw [l1], chainB hb y⟩)
                have M21 : Hid (∀ x, Below W9.heap.size W9 x → Calls Tryz.prog 21 #[.agg #[.slice q3 rs3.length cq3, .slice p3 lv3.length cp3, .int .i64 now3], .int .i64 i2, .int .i64 f2] x fun e x1 => e = .returned (.int .i64 (lv2.length : Int)) ∧ Below W9.heap.size W9 x1) := fun x hb => (implTombOf_any p3 lv3 cp3 q3 rs3 cq3 now3 i2 f2 x (HT.out.to (chainB B9.out hb)) (HL.out.below (chainB B9.out hb)) (A3.out.below hb)).mono (by rintro e x1 ⟨rfl, y⟩; exact ⟨by rw [l2], chainB hb y⟩)
                have M27 : Hid (∀ x, Below W9.heap.size W9 x → Calls Tryz.prog 27 #[.slice p3 lv2.length cp3, .slice p2 lv2.length cp2] x fun e x1 => e = .returned (.bool true) ∧ Below W9.heap.size W9 x1) := fun x hb => (texts_any p3 p2 cp3 cp2 lv2 lv2 x (txt_pre l3 (A3.out.below hb).tx) (A2.out.below hb).tx (by omega) (by omega) (by omega) hcp2).mono (by rintro e x1 ⟨rfl, y⟩; exact ⟨by rw [decide_eq_true rfl], chainB hb y⟩)
                have hsl := sl_to p3 lv3.length cp3 lv2.length (by omega)
                have N3 : Hid (∀ x (i k : Nat), Below W9.heap.size W9 x → ((i : Int) ≠ i2 ∨ (k : Int) ≠ f2) → Calls Tryz.prog 23 #[.agg #[.slice q3 rs3.length cq3, .slice p3 lv3.length cp3, .int .i64 now3], .int .i64 (i : Int), .int .i64 (k : Int)] x fun e x1 => e = .returned (.int .i64 (stO rs2 lv2 now2 (i : Int) (k : Int))) ∧ Below W9.heap.size W9 x1) := fun x i k hb hne => (implStatusOf_any p3 lv3 cp3 q3 rs3 cq3 now3 (i : Int) (k : Int) x (HT.out.to (chainB B9.out hb)) (HL.out.below (chainB B9.out hb)) (A3.out.below hb)).mono (by rintro e x1 ⟨rfl, y⟩; exact ⟨by rw [l5 i k hne], chainB hb y⟩)
                have N2 : Hid (∀ x (i k : Nat), Below W9.heap.size W9 x → Calls Tryz.prog 23 #[.agg #[.slice q2 rs2.length cq2, .slice p2 lv2.length cp2, .int .i64 now2], .int .i64 (i : Int), .int .i64 (k : Int)] x fun e x1 => e = .returned (.int .i64 (stO rs2 lv2 now2 (i : Int) (k : Int))) ∧ Below W9.heap.size W9 x1) := fun x i k hb => (implStatusOf_any p2 lv2 cp2 q2 rs2 cq2 now2 (i : Int) (k : Int) x (HT.out.to (chainB B9.out hb)) (HL.out.below (chainB B9.out hb)) (A2.out.below hb)).mono (by rintro e x1 ⟨rfl, y⟩; exact ⟨rfl, chainB hb y⟩)
                clear l1 l2 l3 l4 l5 hcp3 hln3 hcp2 HLaw3 A2 A3 K2 K3 Z3
                as_aux_lemma =>
                  refine wp_region_held_drew (S := fun w' => (w'.cell? ⟨G3, 0, none⟩ = some (.slice q3 rs3.length cq3) ∧ w'.cell? ⟨G3, 1, none⟩ = some (.slice p3 lv3.length cp3) ∧ w'.cell? ⟨G3, 2, none⟩ = some (.int .i64 now3) ∧ w'.cell? ⟨G3, 3, none⟩ = some (.int .i64 0)) ∧ w'.cell? ⟨G2, 0, none⟩ = some (.slice q2 rs2.length cq2) ∧ w'.cell? ⟨G2, 1, none⟩ = some (.slice p2 lv2.length cp2) ∧ w'.cell? ⟨G2, 2, none⟩ = some (.int .i64 now2)) (by kernel_rfl) (HX.out _ BR.out) (fun hHeld => ?_)
                  refine take_at 0 (v := ?_) rfl (by kernel_rfl) (by kernel_rfl) (by kernel_rfl) (fun _ _ _ h => h) hHeld (Or.inl ⟨by rfl, ?_⟩) ?_
                  rotate_left
                  · (intro w hSw; (try dsimp only at hSw); go_simp; try with_reducible rfl)
                  simp only [Act.put, List.setIfInBounds_toArray, List.set_cons_zero, List.set_cons_succ]
                  refine take_at 1 (v := ?_) rfl (by kernel_rfl) (by kernel_rfl) (by kernel_rfl) (fun _ _ _ h => h) hHeld (Or.inl ⟨by rfl, ?_⟩) ?_
                  rotate_left
                  · (intro w hSw; (try dsimp only at hSw); go_simp; try with_reducible rfl)
                  simp only [Act.put, List.setIfInBounds_toArray, List.set_cons_zero, List.set_cons_succ]
                  refine take_at 2 (v := ?_) rfl (by kernel_rfl) (by kernel_rfl) (by kernel_rfl) (fun _ _ _ h => h) hHeld (Or.inl ⟨by rfl, ?_⟩) ?_
                  rotate_left
                  · (intro w hSw; (try dsimp only at hSw); go_simp; try with_reducible rfl)
                  simp only [Act.put, List.setIfInBounds_toArray, List.set_cons_zero, List.set_cons_succ]
                  refine take_at 3 (v := ?_) rfl (by kernel_rfl) (by kernel_rfl) (by kernel_rfl) (fun _ _ _ h => h) hHeld (Or.inl ⟨by rfl, ?_⟩) ?_
                  rotate_left
                  · (intro w hSw; (try dsimp only at hSw); go_simp; try with_reducible rfl)
                  simp only [Act.put, List.setIfInBounds_toArray, List.set_cons_zero, List.set_cons_succ]
                  refine ready_at 4 rfl (by kernel_rfl) (fun K hK => ?_)
                  go_simp
                  (go_at_call 23; (with_reducible refine (M23.out _ BR.out).mono ?_); rintro e y1 ⟨rfl, z1⟩)
                  refine hK.out _ _ (HX.out _ z1) (fun hHeld => ?_)
                  clear hK K
                  try simp only [Act.put, List.setIfInBounds_toArray, List.set_cons_zero, List.set_cons_succ]
                  refine take_at 5 (v := ?_) rfl (by kernel_rfl) (by kernel_rfl) (by kernel_rfl) (fun _ _ _ h => h) hHeld (Or.inl ⟨by rfl, ?_⟩) ?_
                  rotate_left
                  · (intro w hSw; (try dsimp only at hSw); go_simp; try with_reducible rfl)
                  simp only [Act.put, List.setIfInBounds_toArray, List.set_cons_zero, List.set_cons_succ]
                  refine take_at 6 (v := ?_) rfl (by kernel_rfl) (by kernel_rfl) (by kernel_rfl) (fun _ _ _ h => h) hHeld (Or.inl ⟨by rfl, ?_⟩) ?_
                  rotate_left
                  · (intro w hSw; (try dsimp only at hSw); go_simp; try with_reducible rfl)
                  simp only [Act.put, List.setIfInBounds_toArray, List.set_cons_zero, List.set_cons_succ]
                  refine take_at 7 (v := ?_) rfl (by kernel_rfl) (by kernel_rfl) (by kernel_rfl) (fun _ _ _ h => h) hHeld (Or.inl ⟨by rfl, ?_⟩) ?_
                  rotate_left
                  · (intro w hSw; (try dsimp only at hSw); go_simp; try with_reducible rfl)
                  simp only [Act.put, List.setIfInBounds_toArray, List.set_cons_zero, List.set_cons_succ]
                  refine take_at 8 (v := ?_) rfl (by kernel_rfl) (by kernel_rfl) (by kernel_rfl) (fun _ _ _ h => h) hHeld (Or.inl ⟨by rfl, ?_⟩) ?_
                  rotate_left
                  · (intro w hSw; (try dsimp only at hSw); go_simp; try with_reducible rfl)
                  simp only [Act.put, List.setIfInBounds_toArray, List.set_cons_zero, List.set_cons_succ]
                  refine take_at 9 (v := ?_) rfl (by kernel_rfl) (by kernel_rfl) (by kernel_rfl) (fun _ _ _ h => h) hHeld (Or.inl ⟨by rfl, ?_⟩) ?_
                  rotate_left
                  · (intro w hSw; (try dsimp only at hSw); go_simp; try with_reducible rfl)
                  simp only [Act.put, List.setIfInBounds_toArray, List.set_cons_zero, List.set_cons_succ]
                  refine take_at 10 (v := ?_) rfl (by kernel_rfl) (by kernel_rfl) (by kernel_rfl) (fun _ _ _ h => h) hHeld (Or.inl ⟨by rfl, ?_⟩) ?_
                  rotate_left
                  · (intro w hSw; (try dsimp only at hSw); go_simp; try with_reducible rfl)
                  simp only [Act.put, List.setIfInBounds_toArray, List.set_cons_zero, List.set_cons_succ]
                  refine take_at 12 (v := ?_) rfl (by kernel_rfl) (by kernel_rfl) (by kernel_rfl) (fun _ _ _ h => h) hHeld (Or.inl ⟨by rfl, ?_⟩) ?_
                  rotate_left
                  · (intro w hSw; (try dsimp only at hSw); go_simp; try with_reducible rfl)
                  simp only [Act.put, List.setIfInBounds_toArray, List.set_cons_zero, List.set_cons_succ]
                  refine take_at 13 (v := ?_) rfl (by kernel_rfl) (by kernel_rfl) (by kernel_rfl) (fun _ _ _ h => h) hHeld (Or.inl ⟨by rfl, ?_⟩) ?_
                  rotate_left
                  · (intro w hSw; (try dsimp only at hSw); go_simp; try with_reducible rfl)
                  simp only [Act.put, List.setIfInBounds_toArray, List.set_cons_zero, List.set_cons_succ]
                  refine take_at 14 (v := ?_) rfl (by kernel_rfl) (by kernel_rfl) (by kernel_rfl) (fun _ _ _ h => h) hHeld (Or.inl ⟨by rfl, ?_⟩) ?_
                  rotate_left
                  · (intro w hSw; (try dsimp only at hSw); go_simp; try with_reducible rfl)
                  simp only [Act.put, List.setIfInBounds_toArray, List.set_cons_zero, List.set_cons_succ]
                  refine ready_at 11 rfl (by kernel_rfl) (fun K hK => ?_)
                  go_simp
                  (go_at_call 21; (with_reducible refine (M21.out _ z1).mono ?_); rintro e y2 ⟨rfl, z4⟩)
                  refine hK.out _ _ (HX.out _ z4) (fun hHeld => ?_)
                  clear hK K
                  try simp only [Act.put, List.setIfInBounds_toArray, List.set_cons_zero, List.set_cons_succ]
                  refine take_at 15 (v := ?_) rfl (by kernel_rfl) (by kernel_rfl) (by kernel_rfl) (fun _ _ _ h => h) hHeld (Or.inl ⟨by rfl, ?_⟩) ?_
                  rotate_left
                  · (intro w hSw; (try dsimp only at hSw); go_simp; try with_reducible rfl)
                  simp only [Act.put, List.setIfInBounds_toArray, List.set_cons_zero, List.set_cons_succ]
                  refine take_at 16 (v := ?_) rfl (by kernel_rfl) (by kernel_rfl) (by kernel_rfl) (fun _ _ _ h => h) hHeld (Or.inl ⟨by rfl, ?_⟩) ?_
                  rotate_left
                  · (intro w hSw; (try dsimp only at hSw); go_simp; try with_reducible rfl)
                  simp only [Act.put, List.setIfInBounds_toArray, List.set_cons_zero, List.set_cons_succ]
                  refine take_at 17 (v := ?_) rfl (by kernel_rfl) (by kernel_rfl) (by kernel_rfl) (fun _ _ _ h => h) hHeld (Or.inl ⟨by rfl, ?_⟩) ?_
                  rotate_left
                  · (intro w hSw; (try dsimp only at hSw); go_simp; try with_reducible rfl)
                  simp only [Act.put, List.setIfInBounds_toArray, List.set_cons_zero, List.set_cons_succ]
                  refine take_at 18 (v := ?_) rfl (by kernel_rfl) (by kernel_rfl) (by kernel_rfl) (fun _ _ _ h => h) hHeld (Or.inl ⟨by rfl, ?_⟩) ?_
                  rotate_left
                  · (intro w hSw; (try dsimp only at hSw); go_simp; try with_reducible rfl)
                  simp only [Act.put, List.setIfInBounds_toArray, List.set_cons_zero, List.set_cons_succ]
                  refine take_at 19 (v := ?_) rfl (by kernel_rfl) (by kernel_rfl) (by kernel_rfl) (fun _ _ _ h => h) hHeld (Or.inl ⟨by rfl, ?_⟩) ?_
                  rotate_left
                  · (intro w hSw; (try dsimp only at hSw); go_simp; try with_reducible rfl)
                  simp only [Act.put, List.setIfInBounds_toArray, List.set_cons_zero, List.set_cons_succ]
                  refine take_at 20 (v := ?_) rfl (by kernel_rfl) (by kernel_rfl) (by kernel_rfl) (fun _ _ _ h => h) hHeld (Or.inl ⟨by rfl, ?_⟩) ?_
                  rotate_left
                  · (intro w hSw; (try dsimp only at hSw); go_simp; try with_reducible rfl)
                  simp only [Act.put, List.setIfInBounds_toArray, List.set_cons_zero, List.set_cons_succ]
                  refine take_at 21 (v := ?_) rfl (by kernel_rfl) (by kernel_rfl) (by kernel_rfl) (fun _ _ _ h => h) hHeld (Or.inl ⟨by rfl, ?_⟩) ?_
                  rotate_left
                  · (intro w hSw; (try dsimp only at hSw); go_simp; try with_reducible rfl)
                  simp only [Act.put, List.setIfInBounds_toArray, List.set_cons_zero, List.set_cons_succ]
                  refine take_at 22 (v := ?_) rfl (by kernel_rfl) (by kernel_rfl) (by kernel_rfl) (fun _ _ _ h => h) hHeld (Or.inl ⟨by rfl, ?_⟩) ?_
                  rotate_left
                  · (intro w hSw; (try dsimp only at hSw); go_simp; try with_reducible rfl)
                  simp only [Act.put, List.setIfInBounds_toArray, List.set_cons_zero, List.set_cons_succ]
                  refine take_at 23 (v := ?_) rfl (by kernel_rfl) (by kernel_rfl) (by kernel_rfl) (fun _ _ _ h => h) hHeld (Or.inl ⟨by rfl, ?_⟩) ?_
                  rotate_left
                  · (intro w hSw; (try dsimp only at hSw); go_simp; try with_reducible rfl)
                  simp only [Act.put, List.setIfInBounds_toArray, List.set_cons_zero, List.set_cons_succ]
                  refine take_at 24 (v := ?_) rfl (by kernel_rfl) (by kernel_rfl) (by kernel_rfl) (fun _ _ _ h => h) hHeld (Or.inl ⟨by rfl, ?_⟩) ?_
                  rotate_left
                  · (intro w hSw; (try dsimp only at hSw); go_simp; try with_reducible rfl)
                  simp only [Act.put, List.setIfInBounds_toArray, List.set_cons_zero, List.set_cons_succ]
                  refine take_at 25 (v := ?_) rfl (by kernel_rfl) (by kernel_rfl) (by kernel_rfl) (fun _ _ _ h => h) hHeld (Or.inl ⟨by rfl, ?_⟩) ?_
                  rotate_left
                  · (intro w hSw; (try dsimp only at hSw); go_simp; try with_reducible rfl)
                  simp only [Act.put, List.setIfInBounds_toArray, List.set_cons_zero, List.set_cons_succ]
                  refine take_at 26 (v := ?_) rfl (by kernel_rfl) (by kernel_rfl) (by kernel_rfl) (fun _ _ _ h => h) hHeld (Or.inl ⟨by rfl, ?_⟩) ?_
                  rotate_left
                  · (intro w hSw; (try dsimp only at hSw); go_simp; try with_reducible rfl)
                  simp only [Act.put, List.setIfInBounds_toArray, List.set_cons_zero, List.set_cons_succ]
                  refine ready_at 27 rfl (by kernel_rfl) (fun K hK => ?_)
                  go_simp
                  (go_at_call 27; (with_reducible refine (M27.out _ z4).mono ?_); rintro e y3 ⟨rfl, z5⟩)
                  refine hK.out _ _ (HX.out _ z5) (fun hHeld => ?_)
                  clear hK K
                  try simp only [Act.put, List.setIfInBounds_toArray, List.set_cons_zero, List.set_cons_succ]
                  refine take_at 28 (v := ?_) rfl (by kernel_rfl) (by kernel_rfl) (by kernel_rfl) (fun _ _ _ h => h) hHeld (Or.inl ⟨by rfl, ?_⟩) ?_
                  rotate_left
                  · (intro w hSw; (try dsimp only at hSw); go_simp; try with_reducible rfl)
                  simp only [Act.put, List.setIfInBounds_toArray, List.set_cons_zero, List.set_cons_succ]
                  refine take_at 29 (v := ?_) rfl (by kernel_rfl) (by kernel_rfl) (by kernel_rfl) (fun _ _ _ h => h) hHeld (Or.inl ⟨by rfl, ?_⟩) ?_
                  rotate_left
                  · (intro w hSw; (try dsimp only at hSw); go_simp; try with_reducible rfl)
                  simp only [Act.put, List.setIfInBounds_toArray, List.set_cons_zero, List.set_cons_succ]
                  refine wpAnyH_done (by kernel_rfl) ?_ _
                  have Z5 : Hid (Below W9.heap.size W9 y3) := z5
                  clear z1 z4 z5 hHeld M23 M21 M27 BR hsl
                  as_aux_lemma =>
                    go_wp2_with fail
                    go_loopw [24] (fun ii wr => ∃ i : Nat, i ≤ rs2.length ∧ ii = .int .i64 i ∧ Hid (Below W9.heap.size W9 wr)) (fun ii _ => rs2.length - (Go.RowKit.intOf ii).toNat)
                    case atStart => exact ⟨0, Nat.zero_le _, rfl, Z5⟩
                    case round =>
                      clear Z5
                      obtain ⟨i, hi, rfl, HB⟩ := hrel
                      obtain ⟨-, x0, -, -⟩ := HX.out wr HB.out
                      by_cases hlt : i < rs2.length
                      · have i1 : (i : Int) < rs2.length := by omega
                        go_wp2_with fail
                        go_loopw [25] (fun kk wk => ∃ k : Nat, k ≤ 3 ∧ kk = .int .i64 k ∧ Hid (Below W9.heap.size W9 wk)) (fun kk _ => 3 - (Go.RowKit.intOf kk).toNat)
                        case atStart => exact ⟨0, Nat.zero_le _, rfl, HB⟩
                        case round =>
                          clear HB
                          obtain ⟨k, hk, rfl, HB⟩ := hrel
                          by_cases hkt : k < 3
                          · have k1 : (k : Int) < 3 := by omega
                            have BR : Hid (Below W9.heap.size W9 wr.drew) := HB.out.drew
                            by_cases hI : (i : Int) = i2
                            · have dI : ((i : Int) != i2) = false := by rw [hI]; simp
                              by_cases hK : (k : Int) = f2
                              · have dK : ((k : Int) != f2) = false := by rw [hK]; simp
                                clear hI hK
                                as_aux_lemma =>
                                  go_upto_region 28 with fail
                                  refine wp_region_held_drew (S := fun w' => (w'.cell? ⟨G3, 0, none⟩ = some (.slice q3 rs3.length cq3) ∧ w'.cell? ⟨G3, 1, none⟩ = some (.slice p3 lv3.length cp3) ∧ w'.cell? ⟨G3, 2, none⟩ = some (.int .i64 now3) ∧ w'.cell? ⟨G3, 3, none⟩ = some (.int .i64 0)) ∧ w'.cell? ⟨G2, 0, none⟩ = some (.slice q2 rs2.length cq2) ∧ w'.cell? ⟨G2, 1, none⟩ = some (.slice p2 lv2.length cp2) ∧ w'.cell? ⟨G2, 2, none⟩ = some (.int .i64 now2)) (by kernel_rfl) (HX.out _ BR.out) (fun hHeld => ?_)
                                  refine take_at 0 (v := ?_) rfl (by kernel_rfl) (by kernel_rfl) (by kernel_rfl) (fun _ _ _ h => h) hHeld (Or.inl ⟨by rfl, ?_⟩) ?_
                                  rotate_left
                                  · (intro w hSw; (try dsimp only at hSw); go_simp; try with_reducible rfl)
                                  simp only [Act.put, List.setIfInBounds_toArray, List.set_cons_zero, List.set_cons_succ]
                                  refine take_at 1 (v := ?_) rfl (by kernel_rfl) (by kernel_rfl) (by kernel_rfl) (fun _ _ _ h => h) hHeld (Or.inl ⟨by rfl, ?_⟩) ?_
                                  rotate_left
                                  · (intro w hSw; (try dsimp only at hSw); go_simp; try with_reducible rfl)
                                  simp only [Act.put, List.setIfInBounds_toArray, List.set_cons_zero, List.set_cons_succ]
                                  refine take_at 2 (v := ?_) rfl (by kernel_rfl) (by kernel_rfl) (by kernel_rfl) (fun _ _ _ h => h) hHeld (Or.inl ⟨by rfl, ?_⟩) ?_
                                  rotate_left
                                  · (intro w hSw; (try dsimp only at hSw); go_simp; try with_reducible rfl)
                                  simp only [Act.put, List.setIfInBounds_toArray, List.set_cons_zero, List.set_cons_succ]
                                  refine take_at 3 (v := ?_) rfl (by kernel_rfl) (by kernel_rfl) (by kernel_rfl) (fun _ _ _ h => h) hHeld (Or.inl ⟨by rfl, ?_⟩) ?_
                                  rotate_left
                                  · (intro w hSw; (try dsimp only at hSw); go_simp; try with_reducible rfl)
                                  simp only [Act.put, List.setIfInBounds_toArray, List.set_cons_zero, List.set_cons_succ]
                                  refine take_at 4 (v := ?_) rfl (by kernel_rfl) (by kernel_rfl) (by kernel_rfl) (fun _ _ _ h => h) hHeld (Or.inl ⟨by rfl, ?_⟩) ?_
                                  rotate_left
                                  · (intro w hSw; (try dsimp only at hSw); go_simp; try with_reducible rfl)
                                  simp only [Act.put, List.setIfInBounds_toArray, List.set_cons_zero, List.set_cons_succ]
                                  refine take_at 5 (v := ?_) rfl (by kernel_rfl) (by kernel_rfl) (by kernel_rfl) (fun _ _ _ h => h) hHeld (Or.inl ⟨by rfl, ?_⟩) ?_
                                  rotate_left
                                  · (intro w hSw; (try dsimp only at hSw); go_simp; try with_reducible rfl)
                                  simp only [Act.put, List.setIfInBounds_toArray, List.set_cons_zero, List.set_cons_succ]
                                  refine take_at 6 (v := ?_) rfl (by kernel_rfl) (by kernel_rfl) (by kernel_rfl) (fun _ _ _ h => h) hHeld (Or.inl ⟨by rfl, ?_⟩) ?_
                                  rotate_left
                                  · (intro w hSw; (try dsimp only at hSw); go_simp; try with_reducible rfl)
                                  simp only [Act.put, List.setIfInBounds_toArray, List.set_cons_zero, List.set_cons_succ]
                                  refine take_at 7 (v := ?_) rfl (by kernel_rfl) (by kernel_rfl) (by kernel_rfl) (fun _ _ _ h => h) hHeld (Or.inl ⟨by rfl, ?_⟩) ?_
                                  rotate_left
                                  · (intro w hSw; (try dsimp only at hSw); go_simp; try with_reducible rfl)
                                  simp only [Act.put, List.setIfInBounds_toArray, List.set_cons_zero, List.set_cons_succ]
                                  refine take_at 8 (v := ?_) rfl (by kernel_rfl) (by kernel_rfl) (by kernel_rfl) (fun _ _ _ h => h) hHeld (Or.inl ⟨by rfl, ?_⟩) ?_
                                  rotate_left
                                  · (intro w hSw; (try dsimp only at hSw); go_simp; try with_reducible rfl)
                                  simp only [Act.put, List.setIfInBounds_toArray, List.set_cons_zero, List.set_cons_succ]
                                  refine take_at 9 (v := undef) rfl (by kernel_rfl) (by kernel_rfl) (by kernel_rfl) (fun _ _ _ h => h) hHeld (Or.inr ⟨by rfl, rfl⟩) ?_
                                  simp only [Act.put, List.setIfInBounds_toArray, List.set_cons_zero, List.set_cons_succ]
                                  refine take_at 10 (v := undef) rfl (by kernel_rfl) (by kernel_rfl) (by kernel_rfl) (fun _ _ _ h => h) hHeld (Or.inr ⟨by rfl, rfl⟩) ?_
                                  simp only [Act.put, List.setIfInBounds_toArray, List.set_cons_zero, List.set_cons_succ]
                                  refine take_at 11 (v := undef) rfl (by kernel_rfl) (by kernel_rfl) (by kernel_rfl) (fun _ _ _ h => h) hHeld (Or.inr ⟨by rfl, rfl⟩) ?_
                                  simp only [Act.put, List.setIfInBounds_toArray, List.set_cons_zero, List.set_cons_succ]
                                  refine take_at 12 (v := undef) rfl (by kernel_rfl) (by kernel_rfl) (by kernel_rfl) (fun _ _ _ h => h) hHeld (Or.inr ⟨by rfl, rfl⟩) ?_
                                  simp only [Act.put, List.setIfInBounds_toArray, List.set_cons_zero, List.set_cons_succ]
                                  refine take_at 14 (v := undef) rfl (by kernel_rfl) (by kernel_rfl) (by kernel_rfl) (fun _ _ _ h => h) hHeld (Or.inr ⟨by rfl, rfl⟩) ?_
                                  simp only [Act.put, List.setIfInBounds_toArray, List.set_cons_zero, List.set_cons_succ]
                                  refine take_at 15 (v := undef) rfl (by kernel_rfl) (by kernel_rfl) (by kernel_rfl) (fun _ _ _ h => h) hHeld (Or.inr ⟨by rfl, rfl⟩) ?_
                                  simp only [Act.put, List.setIfInBounds_toArray, List.set_cons_zero, List.set_cons_succ]
                                  refine take_at 16 (v := undef) rfl (by kernel_rfl) (by kernel_rfl) (by kernel_rfl) (fun _ _ _ h => h) hHeld (Or.inr ⟨by rfl, rfl⟩) ?_
                                  simp only [Act.put, List.setIfInBounds_toArray, List.set_cons_zero, List.set_cons_succ]
                                  refine take_at 13 (v := undef) rfl (by kernel_rfl) (by kernel_rfl) (by kernel_rfl) (fun _ _ _ h => h) hHeld (Or.inr ⟨by rfl, rfl⟩) ?_
                                  simp only [Act.put, List.setIfInBounds_toArray, List.set_cons_zero, List.set_cons_succ]
                                  refine take_at 17 (v := undef) rfl (by kernel_rfl) (by kernel_rfl) (by kernel_rfl) (fun _ _ _ h => h) hHeld (Or.inr ⟨by rfl, rfl⟩) ?_
                                  simp only [Act.put, List.setIfInBounds_toArray, List.set_cons_zero, List.set_cons_succ]
                                  refine take_at 18 (v := undef) rfl (by kernel_rfl) (by kernel_rfl) (by kernel_rfl) (fun _ _ _ h => h) hHeld (Or.inr ⟨by rfl, rfl⟩) ?_
                                  simp only [Act.put, List.setIfInBounds_toArray, List.set_cons_zero, List.set_cons_succ]
                                  refine take_at 19 (v := ?_) rfl (by kernel_rfl) (by kernel_rfl) (by kernel_rfl) (fun _ _ _ h => h) hHeld (Or.inl ⟨by rfl, ?_⟩) ?_
                                  rotate_left
                                  · (intro w hSw; (try dsimp only at hSw); go_simp; try with_reducible rfl)
                                  simp only [Act.put, List.setIfInBounds_toArray, List.set_cons_zero, List.set_cons_succ]
                                  refine wpAnyH_done (by kernel_rfl) ?_ _
                                  clear hHeld
                                  go_wp2_with fail
                                  go_roundw
                                  case rel => exact ⟨k + 1, by omega, by simp, BR⟩
                                  case measure => simp [Go.RowKit.intOf]; omega
                              · have dK : ((k : Int) != f2) = true := by simpa using hK
                                have HNe : Hid ((i : Int) ≠ i2 ∨ (k : Int) ≠ f2) := Or.inr hK
                                clear hI hK
                                as_aux_lemma =>
                                  go_upto_region 28 with fail
                                  refine wp_region_held_drew (S := fun w' => (w'.cell? ⟨G3, 0, none⟩ = some (.slice q3 rs3.length cq3) ∧ w'.cell? ⟨G3, 1, none⟩ = some (.slice p3 lv3.length cp3) ∧ w'.cell? ⟨G3, 2, none⟩ = some (.int .i64 now3) ∧ w'.cell? ⟨G3, 3, none⟩ = some (.int .i64 0)) ∧ w'.cell? ⟨G2, 0, none⟩ = some (.slice q2 rs2.length cq2) ∧ w'.cell? ⟨G2, 1, none⟩ = some (.slice p2 lv2.length cp2) ∧ w'.cell? ⟨G2, 2, none⟩ = some (.int .i64 now2)) (by kernel_rfl) (HX.out _ BR.out) (fun hHeld => ?_)
                                  refine take_at 0 (v := ?_) rfl (by kernel_rfl) (by kernel_rfl) (by kernel_rfl) (fun _ _ _ h => h) hHeld (Or.inl ⟨by rfl, ?_⟩) ?_
                                  rotate_left
                                  · (intro w hSw; (try dsimp only at hSw); go_simp; try with_reducible rfl)
                                  simp only [Act.put, List.setIfInBounds_toArray, List.set_cons_zero, List.set_cons_succ]
                                  refine take_at 1 (v := ?_) rfl (by kernel_rfl) (by kernel_rfl) (by kernel_rfl) (fun _ _ _ h => h) hHeld (Or.inl ⟨by rfl, ?_⟩) ?_
                                  rotate_left
                                  · (intro w hSw; (try dsimp only at hSw); go_simp; try with_reducible rfl)
                                  simp only [Act.put, List.setIfInBounds_toArray, List.set_cons_zero, List.set_cons_succ]
                                  refine take_at 2 (v := ?_) rfl (by kernel_rfl) (by kernel_rfl) (by kernel_rfl) (fun _ _ _ h => h) hHeld (Or.inl ⟨by rfl, ?_⟩) ?_
                                  rotate_left
                                  · (intro w hSw; (try dsimp only at hSw); go_simp; try with_reducible rfl)
                                  simp only [Act.put, List.setIfInBounds_toArray, List.set_cons_zero, List.set_cons_succ]
                                  refine take_at 3 (v := ?_) rfl (by kernel_rfl) (by kernel_rfl) (by kernel_rfl) (fun _ _ _ h => h) hHeld (Or.inl ⟨by rfl, ?_⟩) ?_
                                  rotate_left
                                  · (intro w hSw; (try dsimp only at hSw); go_simp; try with_reducible rfl)
                                  simp only [Act.put, List.setIfInBounds_toArray, List.set_cons_zero, List.set_cons_succ]
                                  refine take_at 4 (v := ?_) rfl (by kernel_rfl) (by kernel_rfl) (by kernel_rfl) (fun _ _ _ h => h) hHeld (Or.inl ⟨by rfl, ?_⟩) ?_
                                  rotate_left
                                  · (intro w hSw; (try dsimp only at hSw); go_simp; try with_reducible rfl)
                                  simp only [Act.put, List.setIfInBounds_toArray, List.set_cons_zero, List.set_cons_succ]
                                  refine take_at 5 (v := ?_) rfl (by kernel_rfl) (by kernel_rfl) (by kernel_rfl) (fun _ _ _ h => h) hHeld (Or.inl ⟨by rfl, ?_⟩) ?_
                                  rotate_left
                                  · (intro w hSw; (try dsimp only at hSw); go_simp; try with_reducible rfl)
                                  simp only [Act.put, List.setIfInBounds_toArray, List.set_cons_zero, List.set_cons_succ]
                                  refine take_at 6 (v := ?_) rfl (by kernel_rfl) (by kernel_rfl) (by kernel_rfl) (fun _ _ _ h => h) hHeld (Or.inl ⟨by rfl, ?_⟩) ?_
                                  rotate_left
                                  · (intro w hSw; (try dsimp only at hSw); go_simp; try with_reducible rfl)
                                  simp only [Act.put, List.setIfInBounds_toArray, List.set_cons_zero, List.set_cons_succ]
                                  refine take_at 7 (v := ?_) rfl (by kernel_rfl) (by kernel_rfl) (by kernel_rfl) (fun _ _ _ h => h) hHeld (Or.inl ⟨by rfl, ?_⟩) ?_
                                  rotate_left
                                  · (intro w hSw; (try dsimp only at hSw); go_simp; try with_reducible rfl)
                                  simp only [Act.put, List.setIfInBounds_toArray, List.set_cons_zero, List.set_cons_succ]
                                  refine take_at 8 (v := ?_) rfl (by kernel_rfl) (by kernel_rfl) (by kernel_rfl) (fun _ _ _ h => h) hHeld (Or.inl ⟨by rfl, ?_⟩) ?_
                                  rotate_left
                                  · (intro w hSw; (try dsimp only at hSw); go_simp; try with_reducible rfl)
                                  simp only [Act.put, List.setIfInBounds_toArray, List.set_cons_zero, List.set_cons_succ]
                                  refine take_at 9 (v := ?_) rfl (by kernel_rfl) (by kernel_rfl) (by kernel_rfl) (fun _ _ _ h => h) hHeld (Or.inl ⟨by rfl, ?_⟩) ?_
                                  rotate_left
                                  · (intro w hSw; (try dsimp only at hSw); go_simp; try with_reducible rfl)
                                  simp only [Act.put, List.setIfInBounds_toArray, List.set_cons_zero, List.set_cons_succ]
                                  refine take_at 10 (v := ?_) rfl (by kernel_rfl) (by kernel_rfl) (by kernel_rfl) (fun _ _ _ h => h) hHeld (Or.inl ⟨by rfl, ?_⟩) ?_
                                  rotate_left
                                  · (intro w hSw; (try dsimp only at hSw); go_simp; try with_reducible rfl)
                                  simp only [Act.put, List.setIfInBounds_toArray, List.set_cons_zero, List.set_cons_succ]
                                  refine take_at 11 (v := ?_) rfl (by kernel_rfl) (by kernel_rfl) (by kernel_rfl) (fun _ _ _ h => h) hHeld (Or.inl ⟨by rfl, ?_⟩) ?_
                                  rotate_left
                                  · (intro w hSw; (try dsimp only at hSw); go_simp; try with_reducible rfl)
                                  simp only [Act.put, List.setIfInBounds_toArray, List.set_cons_zero, List.set_cons_succ]
                                  refine take_at 12 (v := ?_) rfl (by kernel_rfl) (by kernel_rfl) (by kernel_rfl) (fun _ _ _ h => h) hHeld (Or.inl ⟨by rfl, ?_⟩) ?_
                                  rotate_left
                                  · (intro w hSw; (try dsimp only at hSw); go_simp; try with_reducible rfl)
                                  simp only [Act.put, List.setIfInBounds_toArray, List.set_cons_zero, List.set_cons_succ]
                                  refine take_at 14 (v := ?_) rfl (by kernel_rfl) (by kernel_rfl) (by kernel_rfl) (fun _ _ _ h => h) hHeld (Or.inl ⟨by rfl, ?_⟩) ?_
                                  rotate_left
                                  · (intro w hSw; (try dsimp only at hSw); go_simp; try with_reducible rfl)
                                  simp only [Act.put, List.setIfInBounds_toArray, List.set_cons_zero, List.set_cons_succ]
                                  refine take_at 15 (v := ?_) rfl (by kernel_rfl) (by kernel_rfl) (by kernel_rfl) (fun _ _ _ h => h) hHeld (Or.inl ⟨by rfl, ?_⟩) ?_
                                  rotate_left
                                  · (intro w hSw; (try dsimp only at hSw); go_simp; try with_reducible rfl)
                                  simp only [Act.put, List.setIfInBounds_toArray, List.set_cons_zero, List.set_cons_succ]
                                  refine take_at 16 (v := ?_) rfl (by kernel_rfl) (by kernel_rfl) (by kernel_rfl) (fun _ _ _ h => h) hHeld (Or.inl ⟨by rfl, ?_⟩) ?_
                                  rotate_left
                                  · (intro w hSw; (try dsimp only at hSw); go_simp; try with_reducible rfl)
                                  simp only [Act.put, List.setIfInBounds_toArray, List.set_cons_zero, List.set_cons_succ]
                                  refine ready_at 13 rfl (by kernel_rfl) (fun K hK => ?_)
                                  go_simp
                                  (go_at_call 23; (with_reducible refine (N3.out _ i k BR.out (HNe.out)).mono ?_); rintro e y1 ⟨rfl, z1⟩)
                                  refine hK.out _ _ (HX.out _ z1) (fun hHeld => ?_)
                                  clear hK K
                                  try simp only [Act.put, List.setIfInBounds_toArray, List.set_cons_zero, List.set_cons_succ]
                                  refine ready_at 17 rfl (by kernel_rfl) (fun K hK => ?_)
                                  go_simp
                                  (go_at_call 23; (with_reducible refine (N2.out _ i k z1).mono ?_); rintro e y2 ⟨rfl, z2⟩)
                                  refine hK.out _ _ (HX.out _ z2) (fun hHeld => ?_)
                                  clear hK K
                                  try simp only [Act.put, List.setIfInBounds_toArray, List.set_cons_zero, List.set_cons_succ]
                                  refine take_at 18 (v := ?_) rfl (by kernel_rfl) (by kernel_rfl) (by kernel_rfl) (fun _ _ _ h => h) hHeld (Or.inl ⟨by rfl, ?_⟩) ?_
                                  rotate_left
                                  · (intro w hSw; (try dsimp only at hSw); go_simp; try with_reducible rfl)
                                  simp only [Act.put, List.setIfInBounds_toArray, List.set_cons_zero, List.set_cons_succ]
                                  refine take_at 19 (v := ?_) rfl (by kernel_rfl) (by kernel_rfl) (by kernel_rfl) (fun _ _ _ h => h) hHeld (Or.inl ⟨by rfl, ?_⟩) ?_
                                  rotate_left
                                  · (intro w hSw; (try dsimp only at hSw); go_simp; try with_reducible rfl)
                                  simp only [Act.put, List.setIfInBounds_toArray, List.set_cons_zero, List.set_cons_succ]
                                  refine wpAnyH_done (by kernel_rfl) ?_ _
                                  have Z6 : Hid (Below W9.heap.size W9 y2) := z2
                                  clear z1 z2
                                  clear hHeld
                                  go_wp2_with fail
                                  go_roundw
                                  case rel => exact ⟨k + 1, by omega, by simp, Z6⟩
                                  case measure => simp [Go.RowKit.intOf]; omega
                            · have dI : ((i : Int) != i2) = true := by simpa using hI
                              have HNe : Hid ((i : Int) ≠ i2 ∨ (k : Int) ≠ f2) := Or.inl hI
                              clear hI
                              as_aux_lemma =>
                                go_upto_region 28 with fail
                                refine wp_region_held_drew (S := fun w' => (w'.cell? ⟨G3, 0, none⟩ = some (.slice q3 rs3.length cq3) ∧ w'.cell? ⟨G3, 1, none⟩ = some (.slice p3 lv3.length cp3) ∧ w'.cell? ⟨G3, 2, none⟩ = some (.int .i64 now3) ∧ w'.cell? ⟨G3, 3, none⟩ = some (.int .i64 0)) ∧ w'.cell? ⟨G2, 0, none⟩ = some (.slice q2 rs2.length cq2) ∧ w'.cell? ⟨G2, 1, none⟩ = some (.slice p2 lv2.length cp2) ∧ w'.cell? ⟨G2, 2, none⟩ = some (.int .i64 now2)) (by kernel_rfl) (HX.out _ BR.out) (fun hHeld => ?_)
                                refine take_at 0 (v := ?_) rfl (by kernel_rfl) (by kernel_rfl) (by kernel_rfl) (fun _ _ _ h => h) hHeld (Or.inl ⟨by rfl, ?_⟩) ?_
                                rotate_left
                                · (intro w hSw; (try dsimp only at hSw); go_simp; try with_reducible rfl)
                                simp only [Act.put, List.setIfInBounds_toArray, List.set_cons_zero, List.set_cons_succ]
                                refine take_at 1 (v := ?_) rfl (by kernel_rfl) (by kernel_rfl) (by kernel_rfl) (fun _ _ _ h => h) hHeld (Or.inl ⟨by rfl, ?_⟩) ?_
                                rotate_left
                                · (intro w hSw; (try dsimp only at hSw); go_simp; try with_reducible rfl)
                                simp only [Act.put, List.setIfInBounds_toArray, List.set_cons_zero, List.set_cons_succ]
                                refine take_at 2 (v := ?_) rfl (by kernel_rfl) (by kernel_rfl) (by kernel_rfl) (fun _ _ _ h => h) hHeld (Or.inl ⟨by rfl, ?_⟩) ?_
                                rotate_left
                                · (intro w hSw; (try dsimp only at hSw); go_simp; try with_reducible rfl)
                                simp only [Act.put, List.setIfInBounds_toArray, List.set_cons_zero, List.set_cons_succ]
                                refine take_at 3 (v := ?_) rfl (by kernel_rfl) (by kernel_rfl) (by kernel_rfl) (fun _ _ _ h => h) hHeld (Or.inl ⟨by rfl, ?_⟩) ?_
                                rotate_left
                                · (intro w hSw; (try dsimp only at hSw); go_simp; try with_reducible rfl)
                                simp only [Act.put, List.setIfInBounds_toArray, List.set_cons_zero, List.set_cons_succ]
                                refine take_at 4 (v := undef) rfl (by kernel_rfl) (by kernel_rfl) (by kernel_rfl) (fun _ _ _ h => h) hHeld (Or.inr ⟨by rfl, rfl⟩) ?_
                                simp only [Act.put, List.setIfInBounds_toArray, List.set_cons_zero, List.set_cons_succ]
                                refine take_at 5 (v := undef) rfl (by kernel_rfl) (by kernel_rfl) (by kernel_rfl) (fun _ _ _ h => h) hHeld (Or.inr ⟨by rfl, rfl⟩) ?_
                                simp only [Act.put, List.setIfInBounds_toArray, List.set_cons_zero, List.set_cons_succ]
                                refine take_at 6 (v := undef) rfl (by kernel_rfl) (by kernel_rfl) (by kernel_rfl) (fun _ _ _ h => h) hHeld (Or.inr ⟨by rfl, rfl⟩) ?_
                                simp only [Act.put, List.setIfInBounds_toArray, List.set_cons_zero, List.set_cons_succ]
                                refine take_at 7 (v := ?_) rfl (by kernel_rfl) (by kernel_rfl) (by kernel_rfl) (fun _ _ _ h => h) hHeld (Or.inl ⟨by rfl, ?_⟩) ?_
                                rotate_left
                                · (intro w hSw; (try dsimp only at hSw); go_simp; try with_reducible rfl)
                                simp only [Act.put, List.setIfInBounds_toArray, List.set_cons_zero, List.set_cons_succ]
                                refine take_at 8 (v := ?_) rfl (by kernel_rfl) (by kernel_rfl) (by kernel_rfl) (fun _ _ _ h => h) hHeld (Or.inl ⟨by rfl, ?_⟩) ?_
                                rotate_left
                                · (intro w hSw; (try dsimp only at hSw); go_simp; try with_reducible rfl)
                                simp only [Act.put, List.setIfInBounds_toArray, List.set_cons_zero, List.set_cons_succ]
                                refine take_at 9 (v := ?_) rfl (by kernel_rfl) (by kernel_rfl) (by kernel_rfl) (fun _ _ _ h => h) hHeld (Or.inl ⟨by rfl, ?_⟩) ?_
                                rotate_left
                                · (intro w hSw; (try dsimp only at hSw); go_simp; try with_reducible rfl)
                                simp only [Act.put, List.setIfInBounds_toArray, List.set_cons_zero, List.set_cons_succ]
                                refine take_at 10 (v := ?_) rfl (by kernel_rfl) (by kernel_rfl) (by kernel_rfl) (fun _ _ _ h => h) hHeld (Or.inl ⟨by rfl, ?_⟩) ?_
                                rotate_left
                                · (intro w hSw; (try dsimp only at hSw); go_simp; try with_reducible rfl)
                                simp only [Act.put, List.setIfInBounds_toArray, List.set_cons_zero, List.set_cons_succ]
                                refine take_at 11 (v := ?_) rfl (by kernel_rfl) (by kernel_rfl) (by kernel_rfl) (fun _ _ _ h => h) hHeld (Or.inl ⟨by rfl, ?_⟩) ?_
                                rotate_left
                                · (intro w hSw; (try dsimp only at hSw); go_simp; try with_reducible rfl)
                                simp only [Act.put, List.setIfInBounds_toArray, List.set_cons_zero, List.set_cons_succ]
                                refine take_at 12 (v := ?_) rfl (by kernel_rfl) (by kernel_rfl) (by kernel_rfl) (fun _ _ _ h => h) hHeld (Or.inl ⟨by rfl, ?_⟩) ?_
                                rotate_left
                                · (intro w hSw; (try dsimp only at hSw); go_simp; try with_reducible rfl)
                                simp only [Act.put, List.setIfInBounds_toArray, List.set_cons_zero, List.set_cons_succ]
                                refine take_at 14 (v := ?_) rfl (by kernel_rfl) (by kernel_rfl) (by kernel_rfl) (fun _ _ _ h => h) hHeld (Or.inl ⟨by rfl, ?_⟩) ?_
                                rotate_left
                                · (intro w hSw; (try dsimp only at hSw); go_simp; try with_reducible rfl)
                                simp only [Act.put, List.setIfInBounds_toArray, List.set_cons_zero, List.set_cons_succ]
                                refine take_at 15 (v := ?_) rfl (by kernel_rfl) (by kernel_rfl) (by kernel_rfl) (fun _ _ _ h => h) hHeld (Or.inl ⟨by rfl, ?_⟩) ?_
                                rotate_left
                                · (intro w hSw; (try dsimp only at hSw); go_simp; try with_reducible rfl)
                                simp only [Act.put, List.setIfInBounds_toArray, List.set_cons_zero, List.set_cons_succ]
                                refine take_at 16 (v := ?_) rfl (by kernel_rfl) (by kernel_rfl) (by kernel_rfl) (fun _ _ _ h => h) hHeld (Or.inl ⟨by rfl, ?_⟩) ?_
                                rotate_left
                                · (intro w hSw; (try dsimp only at hSw); go_simp; try with_reducible rfl)
                                simp only [Act.put, List.setIfInBounds_toArray, List.set_cons_zero, List.set_cons_succ]
                                refine ready_at 13 rfl (by kernel_rfl) (fun K hK => ?_)
                                go_simp
                                (go_at_call 23; (with_reducible refine (N3.out _ i k BR.out (HNe.out)).mono ?_); rintro e y1 ⟨rfl, z1⟩)
                                refine hK.out _ _ (HX.out _ z1) (fun hHeld => ?_)
                                clear hK K
                                try simp only [Act.put, List.setIfInBounds_toArray, List.set_cons_zero, List.set_cons_succ]
                                refine ready_at 17 rfl (by kernel_rfl) (fun K hK => ?_)
                                go_simp
                                (go_at_call 23; (with_reducible refine (N2.out _ i k z1).mono ?_); rintro e y2 ⟨rfl, z2⟩)
                                refine hK.out _ _ (HX.out _ z2) (fun hHeld => ?_)
                                clear hK K
                                try simp only [Act.put, List.setIfInBounds_toArray, List.set_cons_zero, List.set_cons_succ]
                                refine take_at 18 (v := ?_) rfl (by kernel_rfl) (by kernel_rfl) (by kernel_rfl) (fun _ _ _ h => h) hHeld (Or.inl ⟨by rfl, ?_⟩) ?_
                                rotate_left
                                · (intro w hSw; (try dsimp only at hSw); go_simp; try with_reducible rfl)
                                simp only [Act.put, List.setIfInBounds_toArray, List.set_cons_zero, List.set_cons_succ]
                                refine take_at 19 (v := ?_) rfl (by kernel_rfl) (by kernel_rfl) (by kernel_rfl) (fun _ _ _ h => h) hHeld (Or.inl ⟨by rfl, ?_⟩) ?_
                                rotate_left
                                · (intro w hSw; (try dsimp only at hSw); go_simp; try with_reducible rfl)
                                simp only [Act.put, List.setIfInBounds_toArray, List.set_cons_zero, List.set_cons_succ]
                                refine wpAnyH_done (by kernel_rfl) ?_ _
                                have Z6 : Hid (Below W9.heap.size W9 y2) := z2
                                clear z1 z2
                                clear hHeld
                                go_wp2_with fail
                                go_roundw
                                case rel => exact ⟨k + 1, by omega, by simp, Z6⟩
                                case measure => simp [Go.RowKit.intOf]; omega
                          · obtain rfl : k = 3 := by omega
                            rw [show ((3 : Nat) : Int) = (3 : Int) from rfl]
                            go_wp2_with fail
                            go_roundw
                            case rel => exact ⟨i + 1, by omega, by simp, HB⟩
                            case measure => simp [Go.RowKit.intOf]; omega
                      · have i1 : ¬ (i : Int) < rs2.length := by omega
                        have HE := chainB B9.out HB.out
                        clear HB
                        go_wp2_with fail
                        go_ret
                        exact ⟨rfl, HE⟩
end Go.Proofs.YtepmoihgemhjcaaGreatDoor
