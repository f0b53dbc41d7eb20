/-
  The law FnHeads returns true at any two codes of at most 2^20 bytes, where errors.errorType and the two tables lie as the program's text lays them.
-/
import Derived.Test.YtnknnfgimiljjaaGreatDoorRows
import Derived.Test.YtnknnfgimiljjaaGreatDoorBytesDigMath
import Derived.Test.YtnknnfgimiljjaaGreatDoorTabsOf
import Derived.Test.YtnknnfgimiljjaaGreatDoorTreeMathSlABxKSlBOwnSJoinedOwnB
import Derived.Test.YtnknnfgimiljjaaGreatDoorPowerHalvesTreeTree2TreeHPathMathIncMathTakerTakePathConMathTakeProofConI
import Derived.Test.YtnknnfgimiljjaaGreatDoorProofLawSrcDrawsDrawKitAppSSomeDrawTree
import Derived.Test.YtnknnfgimiljjaaGreatDoorGetValGetTxtNumMathFldRdNumFromTmbMathLgMath
import Derived.Test.YtnknnfgimiljjaaGreatDoorLgAtKLgAnsLgRtShwKOneKFldGFldBlkRwBlkRowOpsLgO
import Derived.Test.YtnknnfgimiljjaaGreatDoorLtMathLaMathLfMathTakesLStepAppGrKDigAllTimeIImplFCBlNotTakes
import Derived.Test.YtnknnfgimiljjaaGreatDoorLfIFldC
import Derived.Test.YtnknnfgimiljjaaGreatDoorSpecLr
import Derived.Test.YtnknnfgimiljjaaGreatDoorSpecRtImplRt
import Derived.Test.YtnknnfgimiljjaaGreatDoorLogRIImplPlCopiedImplClLfF
import Derived.Test.YtnknnfgimiljjaaGreatDoorLawLgLawLhLawLzLawLmPrfLs
import Derived.Test.YtnknnfgimiljjaaGreatDoorPrfLiIncIWide2Inc2
import Derived.Test.YtnknnfgimiljjaaGreatDoorProofG
import Derived.Test.YtnknnfgimiljjaaGreatDoorProof2ProofIExtLgLgLaw
import Derived.Test.YtnknnfgimiljjaaGreatDoorHeadLawLwPrfLwAtDrawLoDrawFldFldOM
import Derived.Test.YtnknnfgimiljjaaGreatDoorDrawLkFgBoxDrawLgsDrawPg
import Derived.Test.YtnknnfgimiljjaaGreatDoorTillTwoPhaseKImplCp
import Derived.Test.YtnknnfgimiljjaaGreatDoorDrawLog
import Derived.Handy
import Derived.WalkSpells
import Derived.OwnWalk
import Derived.Deep.RegionHeld3
import Derived.Deep.Cut
import Derived.Deep.CutRange
namespace Go.Proofs.YtnknnfgimiljjaaGreatDoor
open Go.RowKit Go.Lib
set_option linter.unusedVariables false
set_option maxRecDepth 20000

set_option maxHeartbeats 16000000 in
theorem fnHeads_any (a0 : Option Addr) (len0 cap0 : Nat) (a1 : Option Addr) (len1 cap1 : Nat) (w : World) (hl0 : len0 ≤ 1048576) (hl1 : len1 ≤ 1048576) (c0 : CodeAt w.heap.size a0 len0 w) (c1 : CodeAt w.heap.size a1 len1 w) (hT : Tabs w) (hLd : Laid w) :
    Calls Tryz.prog 3 #[.slice a0 len0 cap0, .slice a1 len1 cap1] w fun e w' => e = .returned (.bool true) ∧ Below w.heap.size w w' := by
  have C0 : Hid (CodeAt w.heap.size a0 len0 w) := c0
  have C1 : Hid (CodeAt w.heap.size a1 len1 w) := c1
  have HT : Hid (Tabs w) := hT
  have HL : Hid (Laid w) := hLd
  clear c0 c1 hT hLd
  have d1 : decide (1048576 < (len0 : Int)) = false := by simp; omega
  have d2 : decide (1048576 < (len1 : Int)) = false := by simp; omega
  have B0 : Hid (Below w.heap.size w w) := Below.refl _ _
  go_enter Tryz.func3, Tryz.ntmps3
  go_wp2_with fail
  refine (drawRootOf_any w.heap.size a0 len0 cap0 _ hl0 B0.out.size (C0.out.below B0.out)).mono ?_
  rintro e v0 ⟨⟨q0, cq0, rs0, p0, cp0, lv0, now0, n0, rfl, hi, hf, n00, n01⟩, bb⟩
  obtain ⟨W1, hW⟩ : ∃ W, W = v0.alloc (.cells #[.slice q0 rs0.length cq0, .slice p0 lv0.length cp0, .int .i64 now0] 26) := ⟨_, rfl⟩
  have HW0 : Hid (W1 = v0.alloc (.cells #[.slice q0 rs0.length cq0, .slice p0 lv0.length cp0, .int .i64 now0] 26)) := hW
  obtain ⟨G0, hG⟩ : ∃ G, G = v0.heap.size := ⟨_, rfl⟩
  have HG0 : Hid (G0 = v0.heap.size) := hG
  have ba : Below v0.heap.size v0 W1 := by rw [hW]; exact (Below.refl _ _).alloc (Nat.le_refl _) _
  have bs := chainB bb ba
  have B1 : Hid (Below w.heap.size w W1) := chainB B0.out bs
  have K0 : Hid (Bxs W1 G0 26 #[.slice q0 rs0.length cq0, .slice p0 lv0.length cp0, .int .i64 now0]) := by rw [hW, hG]; exact Bxs.new _ _ _
  have A0 : Hid (LgAt p0 lv0 cp0 q0 rs0 cq0 W1) := hi.at.below ba
  have hm0 := lof_m hf
  clear hW hG ba bb bs hi hf B0
  go_wp2_with fail
  rw [← HW0.out, ← HG0.out]
  clear HW0 HG0
  refine (drawProofAt_any w.heap.size a1 len1 cap1 _ hl1 B1.out.size (C1.out.below B1.out)).mono ?_
  rintro e v1 ⟨⟨q1, cq1, rs1, p1, cp1, lv1, now1, n1, rfl, hi, hf, n10, n11⟩, bb⟩
  obtain ⟨W2, hW⟩ : ∃ W, W = v1.alloc (.cells #[.slice q1 rs1.length cq1, .slice p1 lv1.length cp1, .int .i64 now1] 26) := ⟨_, rfl⟩
  have HW1 : Hid (W2 = v1.alloc (.cells #[.slice q1 rs1.length cq1, .slice p1 lv1.length cp1, .int .i64 now1] 26)) := hW
  obtain ⟨G1, hG⟩ : ∃ G, G = v1.heap.size := ⟨_, rfl⟩
  have HG1 : Hid (G1 = v1.heap.size) := hG
  have ba : Below v1.heap.size v1 W2 := by rw [hW]; exact (Below.refl _ _).alloc (Nat.le_refl _) _
  have bs := chainB bb ba
  have B2 : Hid (Below w.heap.size w W2) := chainB B1.out bs
  have K1 : Hid (Bxs W2 G1 26 #[.slice q1 rs1.length cq1, .slice p1 lv1.length cp1, .int .i64 now1]) := by rw [hW, hG]; exact Bxs.new _ _ _
  have A1 : Hid (LgAt p1 lv1 cp1 q1 rs1 cq1 W2) := hi.at.below ba
  have hm1 := lof_m hf
  replace K0 : Hid (Bxs W2 G0 26 #[.slice q0 rs0.length cq0, .slice p0 lv0.length cp0, .int .i64 now0]) := K0.out.below bs
  replace A0 : Hid (LgAt p0 lv0 cp0 q0 rs0 cq0 W2) := A0.out.below bs
  clear hW hG ba bb bs hi hf B1
  go_wp2_with fail
  rw [← HW1.out, ← HG1.out]
  clear HW1 HG1
  refine (drawProofGood_any w.heap.size a0 len0 cap0 _ hl0 B2.out.size (C0.out.below B2.out)).mono ?_
  rintro e v2 ⟨⟨lf, ix, sz, q2, c2, ss, rt, rfl, hx, hss, hsc, hlf, hix, hsz, hrt⟩, bb⟩
  obtain ⟨W3, hW⟩ : ∃ W, W = v2.alloc (.cells #[.string lf, .int .i64 ix, .int .i64 sz, .slice q2 ss.length c2] 30) := ⟨_, rfl⟩
  have HW2 : Hid (W3 = v2.alloc (.cells #[.string lf, .int .i64 ix, .int .i64 sz, .slice q2 ss.length c2] 30)) := hW
  obtain ⟨G2, hG⟩ : ∃ G, G = v2.heap.size := ⟨_, rfl⟩
  have HG2 : Hid (G2 = v2.heap.size) := hG
  have ba : Below v2.heap.size v2 W3 := by rw [hW]; exact (Below.refl _ _).alloc (Nat.le_refl _) _
  have bs := chainB bb ba
  have B3 : Hid (Below w.heap.size w W3) := chainB B2.out bs
  have K2 : Hid (Bxs W3 G2 30 #[.string lf, .int .i64 ix, .int .i64 sz, .slice q2 ss.length c2]) := by rw [hW, hG]; exact Bxs.new _ _ _
  have A2 : Hid (TxtAt W3 q2 ss) := hx.below ba
  replace K0 : Hid (Bxs W3 G0 26 #[.slice q0 rs0.length cq0, .slice p0 lv0.length cp0, .int .i64 now0]) := K0.out.below bs
  replace A0 : Hid (LgAt p0 lv0 cp0 q0 rs0 cq0 W3) := A0.out.below bs
  replace K1 : Hid (Bxs W3 G1 26 #[.slice q1 rs1.length cq1, .slice p1 lv1.length cp1, .int .i64 now1]) := K1.out.below bs
  replace A1 : Hid (LgAt p1 lv1 cp1 q1 rs1 cq1 W3) := A1.out.below bs
  clear hW hG ba bb bs hx B2
  go_wp2_with fail
  rw [← HW2.out, ← HG2.out]
  clear HW2 HG2
  refine (drawExtend_any w.heap.size a1 len1 cap1 _ hl1 B3.out.size (C1.out.below B3.out)).mono ?_
  rintro e v3 ⟨⟨q3, cq3, rs3, p3, cp3, lv3, now3, n3, rfl, hi, hf, n30, n31⟩, bb⟩
  obtain ⟨W4, hW⟩ : ∃ W, W = v3.alloc (.cells #[.slice q3 rs3.length cq3, .slice p3 lv3.length cp3, .int .i64 now3] 26) := ⟨_, rfl⟩
  have HW3 : Hid (W4 = v3.alloc (.cells #[.slice q3 rs3.length cq3, .slice p3 lv3.length cp3, .int .i64 now3] 26)) := hW
  obtain ⟨G3, hG⟩ : ∃ G, G = v3.heap.size := ⟨_, rfl⟩
  have HG3 : Hid (G3 = v3.heap.size) := hG
  have ba : Below v3.heap.size v3 W4 := by rw [hW]; exact (Below.refl _ _).alloc (Nat.le_refl _) _
  have bs := chainB bb ba
  have B4 : Hid (Below w.heap.size w W4) := chainB B3.out bs
  have K3 : Hid (Bxs W4 G3 26 #[.slice q3 rs3.length cq3, .slice p3 lv3.length cp3, .int .i64 now3]) := by rw [hW, hG]; exact Bxs.new _ _ _
  have A3 : Hid (LgAt p3 lv3 cp3 q3 rs3 cq3 W4) := hi.at.below ba
  have hm3 := lof_m hf
  replace K0 : Hid (Bxs W4 G0 26 #[.slice q0 rs0.length cq0, .slice p0 lv0.length cp0, .int .i64 now0]) := K0.out.below bs
  replace A0 : Hid (LgAt p0 lv0 cp0 q0 rs0 cq0 W4) := A0.out.below bs
  replace K1 : Hid (Bxs W4 G1 26 #[.slice q1 rs1.length cq1, .slice p1 lv1.length cp1, .int .i64 now1]) := K1.out.below bs
  replace A1 : Hid (LgAt p1 lv1 cp1 q1 rs1 cq1 W4) := A1.out.below bs
  replace K2 : Hid (Bxs W4 G2 30 #[.string lf, .int .i64 ix, .int .i64 sz, .slice q2 ss.length c2]) := K2.out.below bs
  replace A2 : Hid (TxtAt W4 q2 ss) := A2.out.below bs
  clear hW hG ba bb bs hi hf B3
  go_wp2_with fail
  rw [← HW3.out, ← HG3.out]
  clear HW3 HG3
  refine (drawHeadText_any w.heap.size a0 len0 cap0 _ hl0 B4.out.size (C0.out.below B4.out)).mono ?_
  rintro e v4 ⟨⟨q4, cq4, rs4, p4, cp4, lv4, now4, rfl, hi, hf⟩, bb⟩
  obtain ⟨W5, hW⟩ : ∃ W, W = v4.alloc (.cells #[.slice q4 rs4.length cq4, .slice p4 lv4.length cp4, .int .i64 now4] 26) := ⟨_, rfl⟩
  have HW4 : Hid (W5 = v4.alloc (.cells #[.slice q4 rs4.length cq4, .slice p4 lv4.length cp4, .int .i64 now4] 26)) := hW
  obtain ⟨G4, hG⟩ : ∃ G, G = v4.heap.size := ⟨_, rfl⟩
  have HG4 : Hid (G4 = v4.heap.size) := hG
  have ba : Below v4.heap.size v4 W5 := by rw [hW]; exact (Below.refl _ _).alloc (Nat.le_refl _) _
  have bs := chainB bb ba
  have B5 : Hid (Below w.heap.size w W5) := chainB B4.out bs
  have K4 : Hid (Bxs W5 G4 26 #[.slice q4 rs4.length cq4, .slice p4 lv4.length cp4, .int .i64 now4]) := by rw [hW, hG]; exact Bxs.new _ _ _
  have A4 : Hid (LgAt p4 lv4 cp4 q4 rs4 cq4 W5) := hi.at.below ba
  have hm4 := lof_m hf
  replace K0 : Hid (Bxs W5 G0 26 #[.slice q0 rs0.length cq0, .slice p0 lv0.length cp0, .int .i64 now0]) := K0.out.below bs
  replace A0 : Hid (LgAt p0 lv0 cp0 q0 rs0 cq0 W5) := A0.out.below bs
  replace K1 : Hid (Bxs W5 G1 26 #[.slice q1 rs1.length cq1, .slice p1 lv1.length cp1, .int .i64 now1]) := K1.out.below bs
  replace A1 : Hid (LgAt p1 lv1 cp1 q1 rs1 cq1 W5) := A1.out.below bs
  replace K2 : Hid (Bxs W5 G2 30 #[.string lf, .int .i64 ix, .int .i64 sz, .slice q2 ss.length c2]) := K2.out.below bs
  replace A2 : Hid (TxtAt W5 q2 ss) := A2.out.below bs
  replace K3 : Hid (Bxs W5 G3 26 #[.slice q3 rs3.length cq3, .slice p3 lv3.length cp3, .int .i64 now3]) := K3.out.below bs
  replace A3 : Hid (LgAt p3 lv3 cp3 q3 rs3 cq3 W5) := A3.out.below bs
  clear hW hG ba bb bs hi hf B4
  go_upto_region 8 with fail
  rw [← HW4.out, ← HG4.out]
  clear HW4 HG4
  clear C0 d1 d2
  have HX : Hid (∀ x, Below W5.heap.size W5 x → x.cell? ⟨G0, 0, none⟩ = some (.slice q0 rs0.length cq0) ∧ x.cell? ⟨G0, 1, none⟩ = some (.slice p0 lv0.length cp0) ∧ x.cell? ⟨G0, 2, none⟩ = some (.int .i64 now0) ∧ x.cell? ⟨G1, 0, none⟩ = some (.slice q1 rs1.length cq1) ∧ x.cell? ⟨G1, 1, none⟩ = some (.slice p1 lv1.length cp1) ∧ x.cell? ⟨G1, 2, none⟩ = some (.int .i64 now1) ∧ x.cell? ⟨G2, 0, none⟩ = some (.string lf) ∧ x.cell? ⟨G2, 1, none⟩ = some (.int .i64 ix) ∧ x.cell? ⟨G2, 2, none⟩ = some (.int .i64 sz) ∧ x.cell? ⟨G2, 3, none⟩ = some (.slice q2 ss.length c2) ∧ x.cell? ⟨G3, 0, none⟩ = some (.slice q3 rs3.length cq3) ∧ x.cell? ⟨G3, 1, none⟩ = some (.slice p3 lv3.length cp3) ∧ x.cell? ⟨G3, 2, none⟩ = some (.int .i64 now3) ∧ x.cell? ⟨G4, 0, none⟩ = some (.slice q4 rs4.length cq4) ∧ x.cell? ⟨G4, 1, none⟩ = some (.slice p4 lv4.length cp4) ∧ x.cell? ⟨G4, 2, none⟩ = some (.int .i64 now4)) := fun x hb => ⟨(K0.out.below hb).cell 0, (K0.out.below hb).cell 1, (K0.out.below hb).cell 2, (K1.out.below hb).cell 0, (K1.out.below hb).cell 1, (K1.out.below hb).cell 2, (K2.out.below hb).cell 0, (K2.out.below hb).cell 1, (K2.out.below hb).cell 2, (K2.out.below hb).cell 3, (K3.out.below hb).cell 0, (K3.out.below hb).cell 1, (K3.out.below hb).cell 2, (K4.out.below hb).cell 0, (K4.out.below hb).cell 1, (K4.out.below hb).cell 2⟩
  have Q33 : Hid (∀ x, Below W5.heap.size W5 x → Calls Tryz.prog 9 #[.agg #[.slice q0 rs0.length cq0, .slice p0 lv0.length cp0, .int .i64 now0], .int .i64 n0] x fun e x1 => e = .returned (.string (roO rs0 lv0 now0 n0)) ∧ Below W5.heap.size W5 x1) := fun x hb => (implRootOf_any p0 lv0 cp0 q0 rs0 cq0 now0 n0 x (HT.out.to (chainB B5.out hb)) (HL.out.below (chainB B5.out hb)) (A0.out.below hb)).mono (by rintro e x1 ⟨rfl, y⟩; exact ⟨rfl, chainB hb y⟩)
  have Q34 : Hid (∀ x, Below W5.heap.size W5 x → Calls Tryz.prog 10 #[.agg #[.slice q0 rs0.length cq0, .slice p0 lv0.length cp0, .int .i64 now0], .int .i64 n0] x fun e x1 => e = .returned (.string (roO rs0 lv0 now0 n0)) ∧ Below W5.heap.size W5 x1) := fun x hb => (specRootOf_any p0 lv0 cp0 q0 rs0 cq0 now0 n0 x (A0.out.below hb)).mono (by rintro e x1 ⟨rfl, y⟩; exact ⟨rfl, chainB hb y⟩)
  have Q36 : Hid (∀ x, Below W5.heap.size W5 x → Calls Tryz.prog 12 #[.agg #[.slice q1 rs1.length cq1, .slice p1 lv1.length cp1, .int .i64 now1], .int .i64 n1] x fun e x1 => ∃ qa ca, e = .returned (.agg #[.string (pfL rs1 lv1 now1 n1), .int .i64 (pfI rs1 lv1 now1 n1), .int .i64 (pfS rs1 lv1 now1 n1), .slice qa (pfP rs1 lv1 now1 n1).length ca]) ∧ (pfP rs1 lv1 now1 n1).length ≤ ca ∧ TxtAt x1 qa (pfP rs1 lv1 now1 n1) ∧ Below W5.heap.size W5 x1) := fun x hb => (implProofAt_any p1 lv1 cp1 q1 rs1 cq1 now1 n1 x (by omega) (by omega) (HT.out.to (chainB B5.out hb)) (HL.out.below (chainB B5.out hb)) (A1.out.below hb)).mono (by rintro e x1 ⟨v, rfl, o, y⟩; obtain ⟨qa, ca, rfl, hca, ta⟩ := ownS_form o; exact ⟨qa, ca, rfl, hca, ta, chainB hb y⟩)
  have Q37 : Hid (∀ x, Below W5.heap.size W5 x → Calls Tryz.prog 13 #[.agg #[.slice q1 rs1.length cq1, .slice p1 lv1.length cp1, .int .i64 now1], .int .i64 n1] x fun e x1 => ∃ qa ca, e = .returned (.agg #[.string (pfL rs1 lv1 now1 n1), .int .i64 (pfI rs1 lv1 now1 n1), .int .i64 (pfS rs1 lv1 now1 n1), .slice qa (pfP rs1 lv1 now1 n1).length ca]) ∧ (pfP rs1 lv1 now1 n1).length ≤ ca ∧ TxtAt x1 qa (pfP rs1 lv1 now1 n1) ∧ Below W5.heap.size W5 x1) := fun x hb => (specProofAt_any p1 lv1 cp1 q1 rs1 cq1 now1 n1 x (A1.out.below hb)).mono (by rintro e x1 ⟨v, rfl, o, y⟩; obtain ⟨qa, ca, rfl, hca, ta⟩ := ownS_form o; exact ⟨qa, ca, rfl, hca, ta, chainB hb y⟩)
  have Q37r := fun x (hb : Below W5.heap.size W5 x) => specProofAt_any p1 lv1 cp1 q1 rs1 cq1 now1 n1 x (A1.out.below hb)
  obtain ⟨-, hpn, -, -⟩ := pf_bounds rs1 lv1 now1 n1 hm1
  generalize pfL rs1 lv1 now1 n1 = L1 at *
  generalize pfI rs1 lv1 now1 n1 = I1 at *
  generalize pfS rs1 lv1 now1 n1 = S1 at *
  generalize pfP rs1 lv1 now1 n1 = P1 at *
  generalize roO rs0 lv0 now0 n0 = R0 at *
  have Q38 : Hid (∀ x, Below W5.heap.size W5 x → Calls Tryz.prog 14 #[.agg #[.string lf, .int .i64 ix, .int .i64 sz, .slice q2 ss.length c2], .string rt] x fun e x1 => e = .returned (.bool (pgB lf ix sz ss rt)) ∧ Below W5.heap.size W5 x1) := fun x hb => (implProofGood_any lf ix sz q2 c2 ss rt x (HT.out.to (chainB B5.out hb)) (A2.out.below hb) (by omega) hsc (by omega) (by omega) (by omega) (by omega)).mono (by rintro e x1 ⟨rfl, y⟩; exact ⟨rfl, chainB hb y⟩)
  have Q39 : Hid (∀ x, Below W5.heap.size W5 x → Calls Tryz.prog 15 #[.agg #[.string lf, .int .i64 ix, .int .i64 sz, .slice q2 ss.length c2], .string rt] x fun e x1 => e = .returned (.bool (pgB lf ix sz ss rt)) ∧ Below W5.heap.size W5 x1) := fun x hb => (specProofGood_any lf ix sz q2 c2 ss rt x (A2.out.below hb) (by omega) hsc (by omega) (by omega) (by omega) (by omega)).mono (by rintro e x1 ⟨rfl, y⟩; exact ⟨rfl, chainB hb y⟩)
  generalize pgB lf ix sz ss rt = GB at *
  have Q40 : Hid (∀ x, Below W5.heap.size W5 x → Calls Tryz.prog 17 #[.agg #[.slice q3 rs3.length cq3, .slice p3 lv3.length cp3, .int .i64 now3], .int .i64 n3] x fun e x1 => ∃ qa ca, e = .returned (.slice qa (exO rs3 lv3 now3 n3).length ca) ∧ (exO rs3 lv3 now3 n3).length ≤ ca ∧ TxtAt x1 qa (exO rs3 lv3 now3 n3) ∧ Below W5.heap.size W5 x1) := fun x hb => (implExtend_any p3 lv3 cp3 q3 rs3 cq3 now3 n3 x (by omega) (by omega) (HT.out.to (chainB B5.out hb)) (HL.out.below (chainB B5.out hb)) (A3.out.below hb)).mono (by rintro e x1 ⟨v, rfl, o, y⟩; obtain ⟨qa, ca, rfl, hca, ta⟩ := ownS_form o; exact ⟨qa, ca, rfl, hca, ta, chainB hb y⟩)
  have Q41 : Hid (∀ x, Below W5.heap.size W5 x → Calls Tryz.prog 18 #[.agg #[.slice q3 rs3.length cq3, .slice p3 lv3.length cp3, .int .i64 now3], .int .i64 n3] x fun e x1 => ∃ qa ca, e = .returned (.slice qa (exO rs3 lv3 now3 n3).length ca) ∧ (exO rs3 lv3 now3 n3).length ≤ ca ∧ TxtAt x1 qa (exO rs3 lv3 now3 n3) ∧ Below W5.heap.size W5 x1) := fun x hb => (specExtend_any p3 lv3 cp3 q3 rs3 cq3 now3 n3 x (by omega) (by omega) (A3.out.below hb)).mono (by rintro e x1 ⟨v, rfl, o, y⟩; obtain ⟨qa, ca, rfl, hca, ta⟩ := ownS_form o; exact ⟨qa, ca, rfl, hca, ta, chainB hb y⟩)
  have Q41r := fun x (hb : Below W5.heap.size W5 x) => specExtend_any p3 lv3 cp3 q3 rs3 cq3 now3 n3 x (by omega) (by omega) (A3.out.below hb)
  have hxn := exO_len rs3 lv3 now3 n3
  generalize exO rs3 lv3 now3 n3 = X3 at *
  have Q42 : Hid (∀ x, Below W5.heap.size W5 x → Calls Tryz.prog 19 #[.agg #[.slice q4 rs4.length cq4, .slice p4 lv4.length cp4, .int .i64 now4]] x fun e x1 => e = .returned (.string (hdO rs4 lv4 now4)) ∧ Below W5.heap.size W5 x1) := fun x hb => (implHeadText_any p4 lv4 cp4 q4 rs4 cq4 now4 x (HT.out.to (chainB B5.out hb)) (HL.out.below (chainB B5.out hb)) (A4.out.below hb)).mono (by rintro e x1 ⟨rfl, y⟩; exact ⟨rfl, chainB hb y⟩)
  have Q43 : Hid (∀ x, Below W5.heap.size W5 x → Calls Tryz.prog 20 #[.agg #[.slice q4 rs4.length cq4, .slice p4 lv4.length cp4, .int .i64 now4]] x fun e x1 => e = .returned (.string (hdO rs4 lv4 now4)) ∧ Below W5.heap.size W5 x1) := fun x hb => (specHeadText_any p4 lv4 cp4 q4 rs4 cq4 now4 x (A4.out.below hb)).mono (by rintro e x1 ⟨rfl, y⟩; exact ⟨rfl, chainB hb y⟩)
  generalize hdO rs4 lv4 now4 = H4 at *
  have QP : Hid (∀ x qa ca qb cb, Below W5.heap.size W5 x → P1.length ≤ ca → P1.length ≤ cb → TxtAt x qa P1 → TxtAt x qb P1 → Calls Tryz.prog 11 #[.agg #[.string L1, .int .i64 I1, .int .i64 S1, .slice qa P1.length ca], .agg #[.string L1, .int .i64 I1, .int .i64 S1, .slice qb P1.length cb]] x fun e x1 => e = .returned (.bool true) ∧ Below W5.heap.size W5 x1) := fun x qa ca qb cb hb h1 h2 t1 t2 => (lwProof_any L1 I1 S1 qa qb ca cb P1 x t1 t2 (by omega) h1 h2).mono (by rintro e x1 ⟨rfl, y⟩; exact ⟨rfl, chainB hb y⟩)
  have QX : Hid (∀ x qa ca qb cb, Below W5.heap.size W5 x → X3.length ≤ ca → X3.length ≤ cb → TxtAt x qa X3 → TxtAt x qb X3 → Calls Tryz.prog 16 #[.slice qa X3.length ca, .slice qb X3.length cb] x fun e x1 => e = .returned (.bool true) ∧ Below W5.heap.size W5 x1) := fun x qa ca qb cb hb h1 h2 t1 t2 => (texts_any qa qb ca cb X3 X3 x t1 t2 (by omega) (by omega) h1 h2).mono (by rintro e x1 ⟨rfl, y⟩; exact ⟨by rw [decide_eq_true rfl], chainB hb y⟩)
  have BR : Hid (Below W5.heap.size W5 W5.drew) := (Below.refl _ _).drew
  have Q37b : Hid (∀ x (qa : Option Addr) (ca : Nat), Below W5.heap.size W5 x → TxtAt x qa P1 → Calls Tryz.prog 13 #[.agg #[.slice q1 rs1.length cq1, .slice p1 lv1.length cp1, .int .i64 now1], .int .i64 n1] x fun e x1 => ∃ qb cb, e = .returned (.agg #[.string L1, .int .i64 I1, .int .i64 S1, .slice qb P1.length cb]) ∧ P1.length ≤ cb ∧ TxtAt x1 qb P1 ∧ TxtAt x1 qa P1 ∧ Below W5.heap.size W5 x1) := fun x qa ca hb ht => (Q37r x hb).mono (by rintro e x1 ⟨v, rfl, o, y⟩; obtain ⟨qb, cb, rfl, hcb, tb⟩ := ownS_form o; exact ⟨qb, cb, rfl, hcb, tb, ht.below y, chainB hb y⟩)
  have Q41b : Hid (∀ x (qa : Option Addr) (ca : Nat), Below W5.heap.size W5 x → TxtAt x qa X3 → Calls Tryz.prog 18 #[.agg #[.slice q3 rs3.length cq3, .slice p3 lv3.length cp3, .int .i64 now3], .int .i64 n3] x fun e x1 => ∃ qb cb, e = .returned (.slice qb X3.length cb) ∧ X3.length ≤ cb ∧ TxtAt x1 qb X3 ∧ TxtAt x1 qa X3 ∧ Below W5.heap.size W5 x1) := fun x qa ca hb ht => (Q41r x hb).mono (by rintro e x1 ⟨v, rfl, o, y⟩; obtain ⟨qb, cb, rfl, hcb, tb⟩ := ownS_form o; exact ⟨qb, cb, rfl, hcb, tb, ht.below y, chainB hb y⟩)
  clear Q37r Q41r Q37 Q41 A1 A2 A3 A4 K1 K2 K3 K4
  refine wp_region_held_drew (S := fun w' => w'.cell? ⟨G0, 0, none⟩ = some (.slice q0 rs0.length cq0) ∧ w'.cell? ⟨G0, 1, none⟩ = some (.slice p0 lv0.length cp0) ∧ w'.cell? ⟨G0, 2, none⟩ = some (.int .i64 now0) ∧ w'.cell? ⟨G1, 0, none⟩ = some (.slice q1 rs1.length cq1) ∧ w'.cell? ⟨G1, 1, none⟩ = some (.slice p1 lv1.length cp1) ∧ w'.cell? ⟨G1, 2, none⟩ = some (.int .i64 now1) ∧ w'.cell? ⟨G2, 0, none⟩ = some (.string lf) ∧ w'.cell? ⟨G2, 1, none⟩ = some (.int .i64 ix) ∧ w'.cell? ⟨G2, 2, none⟩ = some (.int .i64 sz) ∧ w'.cell? ⟨G2, 3, none⟩ = some (.slice q2 ss.length c2) ∧ w'.cell? ⟨G3, 0, none⟩ = some (.slice q3 rs3.length cq3) ∧ w'.cell? ⟨G3, 1, none⟩ = some (.slice p3 lv3.length cp3) ∧ w'.cell? ⟨G3, 2, none⟩ = some (.int .i64 now3) ∧ w'.cell? ⟨G4, 0, none⟩ = some (.slice q4 rs4.length cq4) ∧ w'.cell? ⟨G4, 1, none⟩ = some (.slice p4 lv4.length cp4) ∧ w'.cell? ⟨G4, 2, none⟩ = some (.int .i64 now4)) (by kernel_rfl) (HX.out _ BR.out) (fun hHeld => ?_)
  refine take_at 0 (v := ?_) rfl (by kernel_rfl) (by kernel_rfl) (by kernel_rfl) (fun _ _ _ h => h) hHeld (Or.inl ⟨by rfl, ?_⟩) ?_
  rotate_left
  · (intro w hSw; (try dsimp only at hSw); go_simp; try with_reducible rfl)
  simp only [Act.put, List.setIfInBounds_toArray, List.set_cons_zero, List.set_cons_succ]
  refine take_at 1 (v := ?_) rfl (by kernel_rfl) (by kernel_rfl) (by kernel_rfl) (fun _ _ _ h => h) hHeld (Or.inl ⟨by rfl, ?_⟩) ?_
  rotate_left
  · (intro w hSw; (try dsimp only at hSw); go_simp; try with_reducible rfl)
  simp only [Act.put, List.setIfInBounds_toArray, List.set_cons_zero, List.set_cons_succ]
  refine take_at 3 (v := ?_) rfl (by kernel_rfl) (by kernel_rfl) (by kernel_rfl) (fun _ _ _ h => h) hHeld (Or.inl ⟨by rfl, ?_⟩) ?_
  rotate_left
  · (intro w hSw; (try dsimp only at hSw); go_simp; try with_reducible rfl)
  simp only [Act.put, List.setIfInBounds_toArray, List.set_cons_zero, List.set_cons_succ]
  refine take_at 4 (v := ?_) rfl (by kernel_rfl) (by kernel_rfl) (by kernel_rfl) (fun _ _ _ h => h) hHeld (Or.inl ⟨by rfl, ?_⟩) ?_
  rotate_left
  · (intro w hSw; (try dsimp only at hSw); go_simp; try with_reducible rfl)
  simp only [Act.put, List.setIfInBounds_toArray, List.set_cons_zero, List.set_cons_succ]
  refine ready_at 2 rfl (by kernel_rfl) (fun K hK => ?_)
  go_simp
  (go_at_call 9; with_reducible refine (Q33.out _ BR.out).mono ?_; rintro e y1 ⟨rfl, z1⟩)
  refine hK.out _ _ (HX.out _ z1) (fun hHeld => ?_)
  clear hK K
  try simp only [Act.put, List.setIfInBounds_toArray, List.set_cons_zero, List.set_cons_succ]
  refine ready_at 5 rfl (by kernel_rfl) (fun K hK => ?_)
  go_simp
  (go_at_call 10; with_reducible refine (Q34.out _ z1).mono ?_; rintro e y2 ⟨rfl, z2⟩)
  refine hK.out _ _ (HX.out _ z2) (fun hHeld => ?_)
  clear hK K
  try simp only [Act.put, List.setIfInBounds_toArray, List.set_cons_zero, List.set_cons_succ]
  refine take_at 6 (v := ?_) rfl (by kernel_rfl) (by kernel_rfl) (by kernel_rfl) (fun _ _ _ h => h) hHeld (Or.inl ⟨by rfl, ?_⟩) ?_
  rotate_left
  · (intro w hSw; (try dsimp only at hSw); go_simp; try with_reducible rfl)
  simp only [Act.put, List.setIfInBounds_toArray, List.set_cons_zero, List.set_cons_succ]
  refine take_at 7 (v := ?_) rfl (by kernel_rfl) (by kernel_rfl) (by kernel_rfl) (fun _ _ _ h => h) hHeld (Or.inl ⟨by rfl, ?_⟩) ?_
  rotate_left
  · (intro w hSw; (try dsimp only at hSw); go_simp; try with_reducible rfl)
  simp only [Act.put, List.setIfInBounds_toArray, List.set_cons_zero, List.set_cons_succ]
  refine take_at 8 (v := ?_) rfl (by kernel_rfl) (by kernel_rfl) (by kernel_rfl) (fun _ _ _ h => h) hHeld (Or.inl ⟨by rfl, ?_⟩) ?_
  rotate_left
  · (intro w hSw; (try dsimp only at hSw); go_simp; try with_reducible rfl)
  simp only [Act.put, List.setIfInBounds_toArray, List.set_cons_zero, List.set_cons_succ]
  refine take_at 9 (v := ?_) rfl (by kernel_rfl) (by kernel_rfl) (by kernel_rfl) (fun _ _ _ h => h) hHeld (Or.inl ⟨by rfl, ?_⟩) ?_
  rotate_left
  · (intro w hSw; (try dsimp only at hSw); go_simp; try with_reducible rfl)
  simp only [Act.put, List.setIfInBounds_toArray, List.set_cons_zero, List.set_cons_succ]
  refine take_at 11 (v := ?_) rfl (by kernel_rfl) (by kernel_rfl) (by kernel_rfl) (fun _ _ _ h => h) hHeld (Or.inl ⟨by rfl, ?_⟩) ?_
  rotate_left
  · (intro w hSw; (try dsimp only at hSw); go_simp; try with_reducible rfl)
  simp only [Act.put, List.setIfInBounds_toArray, List.set_cons_zero, List.set_cons_succ]
  refine take_at 12 (v := ?_) rfl (by kernel_rfl) (by kernel_rfl) (by kernel_rfl) (fun _ _ _ h => h) hHeld (Or.inl ⟨by rfl, ?_⟩) ?_
  rotate_left
  · (intro w hSw; (try dsimp only at hSw); go_simp; try with_reducible rfl)
  simp only [Act.put, List.setIfInBounds_toArray, List.set_cons_zero, List.set_cons_succ]
  refine ready_at 10 rfl (by kernel_rfl) (fun K hK => ?_)
  go_simp
  (go_at_call 12; with_reducible refine (Q36.out _ z2).mono ?_; rintro e y3 ⟨qa, ca, rfl, hca, ta, z3⟩)
  refine hK.out _ _ (HX.out _ z3) (fun hHeld => ?_)
  clear hK K
  try simp only [Act.put, List.setIfInBounds_toArray, List.set_cons_zero, List.set_cons_succ]
  refine ready_at 13 rfl (by kernel_rfl) (fun K hK => ?_)
  go_simp
  (go_at_call 13; (with_reducible refine (Q37b.out _ qa ca z3 ta).mono ?_); rintro e y4 ⟨qb, cb, rfl, hcb, tb, HTA, z4⟩)
  refine hK.out _ _ (HX.out _ z4) (fun hHeld => ?_)
  clear hK K
  try simp only [Act.put, List.setIfInBounds_toArray, List.set_cons_zero, List.set_cons_succ]
  refine ready_at 14 rfl (by kernel_rfl) (fun K hK => ?_)
  go_simp
  (go_at_call 11; with_reducible refine (QP.out _ qa ca qb cb z4 hca hcb HTA tb).mono ?_; rintro e y5 ⟨rfl, z5⟩)
  refine hK.out _ _ (HX.out _ z5) (fun hHeld => ?_)
  clear hK K
  try simp only [Act.put, List.setIfInBounds_toArray, List.set_cons_zero, List.set_cons_succ]
  refine take_at 15 (v := ?_) rfl (by kernel_rfl) (by kernel_rfl) (by kernel_rfl) (fun _ _ _ h => h) hHeld (Or.inl ⟨by rfl, ?_⟩) ?_
  rotate_left
  · (intro w hSw; (try dsimp only at hSw); go_simp; try with_reducible rfl)
  simp only [Act.put, List.setIfInBounds_toArray, List.set_cons_zero, List.set_cons_succ]
  refine take_at 16 (v := ?_) rfl (by kernel_rfl) (by kernel_rfl) (by kernel_rfl) (fun _ _ _ h => h) hHeld (Or.inl ⟨by rfl, ?_⟩) ?_
  rotate_left
  · (intro w hSw; (try dsimp only at hSw); go_simp; try with_reducible rfl)
  simp only [Act.put, List.setIfInBounds_toArray, List.set_cons_zero, List.set_cons_succ]
  refine take_at 17 (v := ?_) rfl (by kernel_rfl) (by kernel_rfl) (by kernel_rfl) (fun _ _ _ h => h) hHeld (Or.inl ⟨by rfl, ?_⟩) ?_
  rotate_left
  · (intro w hSw; (try dsimp only at hSw); go_simp; try with_reducible rfl)
  simp only [Act.put, List.setIfInBounds_toArray, List.set_cons_zero, List.set_cons_succ]
  refine take_at 18 (v := ?_) rfl (by kernel_rfl) (by kernel_rfl) (by kernel_rfl) (fun _ _ _ h => h) hHeld (Or.inl ⟨by rfl, ?_⟩) ?_
  rotate_left
  · (intro w hSw; (try dsimp only at hSw); go_simp; try with_reducible rfl)
  simp only [Act.put, List.setIfInBounds_toArray, List.set_cons_zero, List.set_cons_succ]
  refine take_at 19 (v := ?_) rfl (by kernel_rfl) (by kernel_rfl) (by kernel_rfl) (fun _ _ _ h => h) hHeld (Or.inl ⟨by rfl, ?_⟩) ?_
  rotate_left
  · (intro w hSw; (try dsimp only at hSw); go_simp; try with_reducible rfl)
  simp only [Act.put, List.setIfInBounds_toArray, List.set_cons_zero, List.set_cons_succ]
  refine take_at 21 (v := ?_) rfl (by kernel_rfl) (by kernel_rfl) (by kernel_rfl) (fun _ _ _ h => h) hHeld (Or.inl ⟨by rfl, ?_⟩) ?_
  rotate_left
  · (intro w hSw; (try dsimp only at hSw); go_simp; try with_reducible rfl)
  simp only [Act.put, List.setIfInBounds_toArray, List.set_cons_zero, List.set_cons_succ]
  refine take_at 22 (v := ?_) rfl (by kernel_rfl) (by kernel_rfl) (by kernel_rfl) (fun _ _ _ h => h) hHeld (Or.inl ⟨by rfl, ?_⟩) ?_
  rotate_left
  · (intro w hSw; (try dsimp only at hSw); go_simp; try with_reducible rfl)
  simp only [Act.put, List.setIfInBounds_toArray, List.set_cons_zero, List.set_cons_succ]
  refine ready_at 20 rfl (by kernel_rfl) (fun K hK => ?_)
  go_simp
  (go_at_call 14; with_reducible refine (Q38.out _ z5).mono ?_; rintro e y6 ⟨rfl, z6⟩)
  refine hK.out _ _ (HX.out _ z6) (fun hHeld => ?_)
  clear hK K
  try simp only [Act.put, List.setIfInBounds_toArray, List.set_cons_zero, List.set_cons_succ]
  refine ready_at 23 rfl (by kernel_rfl) (fun K hK => ?_)
  go_simp
  (go_at_call 15; with_reducible refine (Q39.out _ z6).mono ?_; rintro e y7 ⟨rfl, z7⟩)
  refine hK.out _ _ (HX.out _ z7) (fun hHeld => ?_)
  clear hK K
  try simp only [Act.put, List.setIfInBounds_toArray, List.set_cons_zero, List.set_cons_succ]
  refine take_at 24 (v := ?_) rfl (by kernel_rfl) (by kernel_rfl) (by kernel_rfl) (fun _ _ _ h => h) hHeld (Or.inl ⟨by rfl, ?_⟩) ?_
  rotate_left
  · (intro w hSw; (try dsimp only at hSw); go_simp; try with_reducible rfl)
  simp only [Act.put, List.setIfInBounds_toArray, List.set_cons_zero, List.set_cons_succ]
  refine take_at 25 (v := ?_) rfl (by kernel_rfl) (by kernel_rfl) (by kernel_rfl) (fun _ _ _ h => h) hHeld (Or.inl ⟨by rfl, ?_⟩) ?_
  rotate_left
  · (intro w hSw; (try dsimp only at hSw); go_simp; try with_reducible rfl)
  simp only [Act.put, List.setIfInBounds_toArray, List.set_cons_zero, List.set_cons_succ]
  refine take_at 26 (v := ?_) rfl (by kernel_rfl) (by kernel_rfl) (by kernel_rfl) (fun _ _ _ h => h) hHeld (Or.inl ⟨by rfl, ?_⟩) ?_
  rotate_left
  · (intro w hSw; (try dsimp only at hSw); go_simp; try with_reducible rfl)
  simp only [Act.put, List.setIfInBounds_toArray, List.set_cons_zero, List.set_cons_succ]
  refine take_at 27 (v := ?_) rfl (by kernel_rfl) (by kernel_rfl) (by kernel_rfl) (fun _ _ _ h => h) hHeld (Or.inl ⟨by rfl, ?_⟩) ?_
  rotate_left
  · (intro w hSw; (try dsimp only at hSw); go_simp; try with_reducible rfl)
  simp only [Act.put, List.setIfInBounds_toArray, List.set_cons_zero, List.set_cons_succ]
  refine take_at 28 (v := ?_) rfl (by kernel_rfl) (by kernel_rfl) (by kernel_rfl) (fun _ _ _ h => h) hHeld (Or.inl ⟨by rfl, ?_⟩) ?_
  rotate_left
  · (intro w hSw; (try dsimp only at hSw); go_simp; try with_reducible rfl)
  simp only [Act.put, List.setIfInBounds_toArray, List.set_cons_zero, List.set_cons_succ]
  refine take_at 30 (v := ?_) rfl (by kernel_rfl) (by kernel_rfl) (by kernel_rfl) (fun _ _ _ h => h) hHeld (Or.inl ⟨by rfl, ?_⟩) ?_
  rotate_left
  · (intro w hSw; (try dsimp only at hSw); go_simp; try with_reducible rfl)
  simp only [Act.put, List.setIfInBounds_toArray, List.set_cons_zero, List.set_cons_succ]
  refine take_at 31 (v := ?_) rfl (by kernel_rfl) (by kernel_rfl) (by kernel_rfl) (fun _ _ _ h => h) hHeld (Or.inl ⟨by rfl, ?_⟩) ?_
  rotate_left
  · (intro w hSw; (try dsimp only at hSw); go_simp; try with_reducible rfl)
  simp only [Act.put, List.setIfInBounds_toArray, List.set_cons_zero, List.set_cons_succ]
  refine ready_at 29 rfl (by kernel_rfl) (fun K hK => ?_)
  go_simp
  (go_at_call 17; with_reducible refine (Q40.out _ z7).mono ?_; rintro e y8 ⟨qc, cc, rfl, hcc, tc, z8⟩)
  refine hK.out _ _ (HX.out _ z8) (fun hHeld => ?_)
  clear hK K
  try simp only [Act.put, List.setIfInBounds_toArray, List.set_cons_zero, List.set_cons_succ]
  refine ready_at 32 rfl (by kernel_rfl) (fun K hK => ?_)
  go_simp
  (go_at_call 18; (with_reducible refine (Q41b.out _ qc cc z8 tc).mono ?_); rintro e y9 ⟨qd, cd, rfl, hcd, td, HTC, z9⟩)
  refine hK.out _ _ (HX.out _ z9) (fun hHeld => ?_)
  clear hK K
  try simp only [Act.put, List.setIfInBounds_toArray, List.set_cons_zero, List.set_cons_succ]
  refine ready_at 33 rfl (by kernel_rfl) (fun K hK => ?_)
  go_simp
  (go_at_call 16; with_reducible refine (QX.out _ qc cc qd cd z9 hcc hcd HTC td).mono ?_; rintro e y10 ⟨rfl, z10⟩)
  refine hK.out _ _ (HX.out _ z10) (fun hHeld => ?_)
  clear hK K
  try simp only [Act.put, List.setIfInBounds_toArray, List.set_cons_zero, List.set_cons_succ]
  refine take_at 34 (v := ?_) rfl (by kernel_rfl) (by kernel_rfl) (by kernel_rfl) (fun _ _ _ h => h) hHeld (Or.inl ⟨by rfl, ?_⟩) ?_
  rotate_left
  · (intro w hSw; (try dsimp only at hSw); go_simp; try with_reducible rfl)
  simp only [Act.put, List.setIfInBounds_toArray, List.set_cons_zero, List.set_cons_succ]
  refine take_at 35 (v := ?_) rfl (by kernel_rfl) (by kernel_rfl) (by kernel_rfl) (fun _ _ _ h => h) hHeld (Or.inl ⟨by rfl, ?_⟩) ?_
  rotate_left
  · (intro w hSw; (try dsimp only at hSw); go_simp; try with_reducible rfl)
  simp only [Act.put, List.setIfInBounds_toArray, List.set_cons_zero, List.set_cons_succ]
  refine take_at 36 (v := ?_) rfl (by kernel_rfl) (by kernel_rfl) (by kernel_rfl) (fun _ _ _ h => h) hHeld (Or.inl ⟨by rfl, ?_⟩) ?_
  rotate_left
  · (intro w hSw; (try dsimp only at hSw); go_simp; try with_reducible rfl)
  simp only [Act.put, List.setIfInBounds_toArray, List.set_cons_zero, List.set_cons_succ]
  refine take_at 37 (v := ?_) rfl (by kernel_rfl) (by kernel_rfl) (by kernel_rfl) (fun _ _ _ h => h) hHeld (Or.inl ⟨by rfl, ?_⟩) ?_
  rotate_left
  · (intro w hSw; (try dsimp only at hSw); go_simp; try with_reducible rfl)
  simp only [Act.put, List.setIfInBounds_toArray, List.set_cons_zero, List.set_cons_succ]
  refine take_at 39 (v := ?_) rfl (by kernel_rfl) (by kernel_rfl) (by kernel_rfl) (fun _ _ _ h => h) hHeld (Or.inl ⟨by rfl, ?_⟩) ?_
  rotate_left
  · (intro w hSw; (try dsimp only at hSw); go_simp; try with_reducible rfl)
  simp only [Act.put, List.setIfInBounds_toArray, List.set_cons_zero, List.set_cons_succ]
  refine ready_at 38 rfl (by kernel_rfl) (fun K hK => ?_)
  go_simp
  (go_at_call 19; with_reducible refine (Q42.out _ z10).mono ?_; rintro e y11 ⟨rfl, z11⟩)
  refine hK.out _ _ (HX.out _ z11) (fun hHeld => ?_)
  clear hK K
  try simp only [Act.put, List.setIfInBounds_toArray, List.set_cons_zero, List.set_cons_succ]
  refine ready_at 40 rfl (by kernel_rfl) (fun K hK => ?_)
  go_simp
  (go_at_call 20; with_reducible refine (Q43.out _ z11).mono ?_; rintro e y12 ⟨rfl, z12⟩)
  refine hK.out _ _ (HX.out _ z12) (fun hHeld => ?_)
  clear hK K
  try simp only [Act.put, List.setIfInBounds_toArray, List.set_cons_zero, List.set_cons_succ]
  refine take_at 41 (v := ?_) rfl (by kernel_rfl) (by kernel_rfl) (by kernel_rfl) (fun _ _ _ h => h) hHeld (Or.inl ⟨by rfl, ?_⟩) ?_
  rotate_left
  · (intro w hSw; (try dsimp only at hSw); go_simp; try with_reducible rfl)
  simp only [Act.put, List.setIfInBounds_toArray, List.set_cons_zero, List.set_cons_succ]
  refine take_at 42 (v := ?_) rfl (by kernel_rfl) (by kernel_rfl) (by kernel_rfl) (fun _ _ _ h => h) hHeld (Or.inl ⟨by rfl, ?_⟩) ?_
  rotate_left
  · (intro w hSw; (try dsimp only at hSw); go_simp; try with_reducible rfl)
  simp only [Act.put, List.setIfInBounds_toArray, List.set_cons_zero, List.set_cons_succ]
  refine wpAnyH_done (by kernel_rfl) ?_ _
  have Z : Hid (Below W5.heap.size W5 y12) := z12
  clear z1 z2 z3 z4 z5 z6 z7 z8 z9 z10 z11 z12 hca hcb hcc hcd ta tb tc td HTA HTC hHeld Q33 Q34 Q36 Q37b Q38 Q39 Q40 Q41b Q42 Q43 QP QX BR HX
  have H0 : Hid (∀ x, Below W5.heap.size W5 x → x.cell? ⟨G0, 0, none⟩ = some (.slice q0 rs0.length cq0) ∧ x.cell? ⟨G0, 1, none⟩ = some (.slice p0 lv0.length cp0) ∧ x.cell? ⟨G0, 2, none⟩ = some (.int .i64 now0)) := fun x hb => ⟨(K0.out.below hb).cell 0, (K0.out.below hb).cell 1, (K0.out.below hb).cell 2⟩
  obtain ⟨g0, g1, g2⟩ := H0.out _ Z.out
  have hR := specLogRight_any p0 lv0 cp0 q0 rs0 cq0 now0 _ (A0.out.below Z.out)
  go_wp2_with fail
  refine hR.mono ?_
  clear hR
  rintro e u1 ⟨rfl, b1⟩
  have Z1 : Hid (Below W5.heap.size W5 u1) := chainB Z.out b1
  clear b1 Z g0 g1 g2
  cases hlg : lgB rs0 lv0 now0 with
  | false =>
    have HE := chainB B5.out Z1.out
    clear Z1 H0 A0 K0
    go_wp2_with fail
    go_ret
    exact ⟨rfl, HE⟩
  | true =>
    have HLG : Hid (lgB rs0 lv0 now0 = true) := hlg
    clear hlg
    by_cases hz0 : lv0.length = 0
    · have ez : ((lv0.length : Int) == 0) = true := by rw [hz0]; rfl
      have HE := chainB B5.out Z1.out
      clear Z1 H0 A0 K0 hz0
      go_wp2_with fail
      go_ret
      exact ⟨rfl, HE⟩
    have ez : ((lv0.length : Int) == 0) = false := beq_eq_false_iff_ne.2 (by omega)
    have HLn : Hid (lv0.length ≤ 64) := (lg_right HLG.out).2.1
    go_wp2_with fail
    refine (lwAt_any w.heap.size a1 len1 cap1 0 (lv0.length : Int) _ hl1 (by omega) (by have := HLn.out; omega) (C1.out.below (chainB B5.out Z1.out))).mono ?_
    rintro e u2 ⟨⟨kk, rfl, hk0, hk1, hk2⟩, hu2⟩
    subst hu2
    obtain ⟨k, rfl⟩ := Int.eq_ofNat_of_zero_le hk0
    have hk : k < lv0.length := by rcases Nat.lt_or_ge 1 lv0.length with q | q; (have := hk1 (by omega); omega); (have := hk2 (by omega); omega)
    clear hk0 hk1 hk2 ez
    have wk : IntKind.i64.wrap ((k : Int) + 1) = (k : Int) + 1 := by rw [IntKind.wrap_i64]; have := HLn.out; omega
    have M33 : Hid (∀ x (r : Int), Below W5.heap.size W5 x → Calls Tryz.prog 9 #[.agg #[.slice q0 rs0.length cq0, .slice p0 lv0.length cp0, .int .i64 now0], .int .i64 r] x fun e x1 => e = .returned (.string (roO rs0 lv0 now0 r)) ∧ Below W5.heap.size W5 x1) := fun x r hb => (implRootOf_any p0 lv0 cp0 q0 rs0 cq0 now0 r x (HT.out.to (chainB B5.out hb)) (HL.out.below (chainB B5.out hb)) (A0.out.below hb)).mono (by rintro e x1 ⟨rfl, y⟩; exact ⟨rfl, chainB hb y⟩)
    have M36 : Hid (∀ x, Below W5.heap.size W5 x → Calls Tryz.prog 12 #[.agg #[.slice q0 rs0.length cq0, .slice p0 lv0.length cp0, .int .i64 now0], .int .i64 (k : Int)] x fun e x1 => ∃ qa ca, e = .returned (.agg #[.string (pfL rs0 lv0 now0 (k : Int)), .int .i64 (pfI rs0 lv0 now0 (k : Int)), .int .i64 (pfS rs0 lv0 now0 (k : Int)), .slice qa (pfP rs0 lv0 now0 (k : Int)).length ca]) ∧ (pfP rs0 lv0 now0 (k : Int)).length ≤ ca ∧ TxtAt x1 qa (pfP rs0 lv0 now0 (k : Int)) ∧ Below W5.heap.size W5 x1) := fun x hb => (implProofAt_any p0 lv0 cp0 q0 rs0 cq0 now0 (k : Int) x (by omega) (by have := HLn.out; omega) (HT.out.to (chainB B5.out hb)) (HL.out.below (chainB B5.out hb)) (A0.out.below hb)).mono (by rintro e x1 ⟨v, rfl, o, y⟩; obtain ⟨qa, ca, rfl, hca, ta⟩ := ownS_form o; exact ⟨qa, ca, rfl, hca, ta, chainB hb y⟩)
    obtain ⟨hlf0, hpn0, hix0, hsz0⟩ := pf_bounds rs0 lv0 now0 (k : Int) hm0
    have HPg : Hid (_ = true) := hd_proof HLG.out hk
    have HCon : Hid (_ = true) := hd_ext HLG.out (m := k + 1) (by omega) (by omega)
    have hxn0 := exO_len rs0 lv0 now0 ((k : Int) + 1)
    have hrs := ro_size rs0 lv0 now0 (lv0.length : Int)
    have hrk := ro_size rs0 lv0 now0 ((k : Int) + 1)
    rw [show (((k + 1 : Nat)) : Int) = (k : Int) + 1 by omega] at HCon
    have M40 : Hid (∀ x, Below W5.heap.size W5 x → Calls Tryz.prog 17 #[.agg #[.slice q0 rs0.length cq0, .slice p0 lv0.length cp0, .int .i64 now0], .int .i64 ((k : Int) + 1)] x fun e x1 => ∃ qa ca, e = .returned (.slice qa (exO rs0 lv0 now0 ((k : Int) + 1)).length ca) ∧ (exO rs0 lv0 now0 ((k : Int) + 1)).length ≤ ca ∧ TxtAt x1 qa (exO rs0 lv0 now0 ((k : Int) + 1)) ∧ Below W5.heap.size W5 x1) := fun x hb => (implExtend_any p0 lv0 cp0 q0 rs0 cq0 now0 ((k : Int) + 1) x (by omega) (by have := HLn.out; omega) (HT.out.to (chainB B5.out hb)) (HL.out.below (chainB B5.out hb)) (A0.out.below hb)).mono (by rintro e x1 ⟨v, rfl, o, y⟩; obtain ⟨qa, ca, rfl, hca, ta⟩ := ownS_form o; exact ⟨qa, ca, rfl, hca, ta, chainB hb y⟩)
    go_upto_region 14 with fail
    have BR : Hid (Below W5.heap.size W5 u2.drew) := Z1.out.drew
    have hPgc := HPg.out
    have hConc := HCon.out
    generalize pfL rs0 lv0 now0 (k : Int) = LF at *
    generalize pfI rs0 lv0 now0 (k : Int) = IX at *
    generalize pfS rs0 lv0 now0 (k : Int) = SZ at *
    generalize pfP rs0 lv0 now0 (k : Int) = PP at *
    generalize exO rs0 lv0 now0 ((k : Int) + 1) = EX at *
    have M38 : Hid (∀ x qa ca, Below W5.heap.size W5 x → PP.length ≤ ca → TxtAt x qa PP → Calls Tryz.prog 14 #[.agg #[.string LF, .int .i64 IX, .int .i64 SZ, .slice qa PP.length ca], .string (roO rs0 lv0 now0 (lv0.length : Int))] x fun e x1 => e = .returned (.bool true) ∧ Below W5.heap.size W5 x1) := fun x qa ca hb hca hta => (implProofGood_any LF IX SZ qa ca PP (roO rs0 lv0 now0 (lv0.length : Int)) x (HT.out.to (chainB B5.out hb)) hta (by omega) hca (by omega) (by omega) (by omega) (by omega)).mono (by rintro e x1 ⟨rfl, y⟩; exact ⟨by rw [hPgc], chainB hb y⟩)
    have M45 : Hid (∀ x qa ca, Below W5.heap.size W5 x → EX.length ≤ ca → TxtAt x qa EX → Calls Tryz.prog 23 #[.int .i64 ((k : Int) + 1), .int .i64 (lv0.length : Int), .slice qa EX.length ca, .string (roO rs0 lv0 now0 ((k : Int) + 1)), .string (roO rs0 lv0 now0 (lv0.length : Int))] x fun e x1 => e = .returned (.bool true) ∧ Below W5.heap.size W5 x1) := fun x qa ca hb hca hta => (implCon_any ((k : Int) + 1) (lv0.length : Int) qa ca EX (roO rs0 lv0 now0 ((k : Int) + 1)) (roO rs0 lv0 now0 (lv0.length : Int)) x (HT.out.to (chainB B5.out hb)) hta (by omega) hca (by omega) (by have := HLn.out; omega) (by omega) (by have := HLn.out; omega)).mono (by rintro e x1 ⟨rfl, y⟩; exact ⟨by rw [hConc], chainB hb y⟩)
    have M33p : Hid (∀ x (r : Int) (qa : Option Addr), Below W5.heap.size W5 x → TxtAt x qa PP → Calls Tryz.prog 9 #[.agg #[.slice q0 rs0.length cq0, .slice p0 lv0.length cp0, .int .i64 now0], .int .i64 r] x fun e x1 => e = .returned (.string (roO rs0 lv0 now0 r)) ∧ TxtAt x1 qa PP ∧ Below W5.heap.size W5 x1) := fun x r qa hb ht => (implRootOf_any p0 lv0 cp0 q0 rs0 cq0 now0 r x (HT.out.to (chainB B5.out hb)) (HL.out.below (chainB B5.out hb)) (A0.out.below hb)).mono (by rintro e x1 ⟨rfl, y⟩; exact ⟨rfl, ht.below y, chainB hb y⟩)
    have M33e : Hid (∀ x (r : Int) (qa : Option Addr), Below W5.heap.size W5 x → TxtAt x qa EX → Calls Tryz.prog 9 #[.agg #[.slice q0 rs0.length cq0, .slice p0 lv0.length cp0, .int .i64 now0], .int .i64 r] x fun e x1 => e = .returned (.string (roO rs0 lv0 now0 r)) ∧ TxtAt x1 qa EX ∧ Below W5.heap.size W5 x1) := fun x r qa hb ht => (implRootOf_any p0 lv0 cp0 q0 rs0 cq0 now0 r x (HT.out.to (chainB B5.out hb)) (HL.out.below (chainB B5.out hb)) (A0.out.below hb)).mono (by rintro e x1 ⟨rfl, y⟩; exact ⟨rfl, ht.below y, chainB hb y⟩)
    clear hPgc hConc HPg HCon
    refine wp_region_held_drew (S := fun w' => w'.cell? ⟨G0, 0, none⟩ = some (.slice q0 rs0.length cq0) ∧ w'.cell? ⟨G0, 1, none⟩ = some (.slice p0 lv0.length cp0) ∧ w'.cell? ⟨G0, 2, none⟩ = some (.int .i64 now0)) (by kernel_rfl) (H0.out _ BR.out) (fun hHeld => ?_)
    refine take_at 0 (v := ?_) rfl (by kernel_rfl) (by kernel_rfl) (by kernel_rfl) (fun _ _ _ h => h) hHeld (Or.inl ⟨by rfl, ?_⟩) ?_
    rotate_left
    · (intro w hSw; (try dsimp only at hSw); go_simp; try with_reducible rfl)
    simp only [Act.put, List.setIfInBounds_toArray, List.set_cons_zero, List.set_cons_succ]
    refine take_at 1 (v := ?_) rfl (by kernel_rfl) (by kernel_rfl) (by kernel_rfl) (fun _ _ _ h => h) hHeld (Or.inl ⟨by rfl, ?_⟩) ?_
    rotate_left
    · (intro w hSw; (try dsimp only at hSw); go_simp; try with_reducible rfl)
    simp only [Act.put, List.setIfInBounds_toArray, List.set_cons_zero, List.set_cons_succ]
    refine take_at 3 (v := ?_) rfl (by kernel_rfl) (by kernel_rfl) (by kernel_rfl) (fun _ _ _ h => h) hHeld (Or.inl ⟨by rfl, ?_⟩) ?_
    rotate_left
    · (intro w hSw; (try dsimp only at hSw); go_simp; try with_reducible rfl)
    simp only [Act.put, List.setIfInBounds_toArray, List.set_cons_zero, List.set_cons_succ]
    refine take_at 4 (v := ?_) rfl (by kernel_rfl) (by kernel_rfl) (by kernel_rfl) (fun _ _ _ h => h) hHeld (Or.inl ⟨by rfl, ?_⟩) ?_
    rotate_left
    · (intro w hSw; (try dsimp only at hSw); go_simp; try with_reducible rfl)
    simp only [Act.put, List.setIfInBounds_toArray, List.set_cons_zero, List.set_cons_succ]
    refine ready_at 2 rfl (by kernel_rfl) (fun K hK => ?_)
    go_simp
    (go_at_call 12; (with_reducible refine (M36.out _ BR.out).mono ?_); rintro e y1 ⟨qa, ca, rfl, hca, ta, z1⟩)
    refine hK.out _ _ (H0.out _ z1) (fun hHeld => ?_)
    clear hK K
    try simp only [Act.put, List.setIfInBounds_toArray, List.set_cons_zero, List.set_cons_succ]
    refine ready_at 5 rfl (by kernel_rfl) (fun K hK => ?_)
    go_simp
    (go_at_call 9; (with_reducible refine (M33p.out _ (lv0.length : Int) qa z1 ta).mono ?_); rintro e y2 ⟨rfl, ta2, z2⟩)
    refine hK.out _ _ (H0.out _ z2) (fun hHeld => ?_)
    clear hK K
    try simp only [Act.put, List.setIfInBounds_toArray, List.set_cons_zero, List.set_cons_succ]
    refine ready_at 6 rfl (by kernel_rfl) (fun K hK => ?_)
    go_simp
    (go_at_call 14; (with_reducible refine (M38.out _ qa ca z2 hca ta2).mono ?_); rintro e y3 ⟨rfl, z3⟩)
    refine hK.out _ _ (H0.out _ z3) (fun hHeld => ?_)
    clear hK K
    try simp only [Act.put, List.setIfInBounds_toArray, List.set_cons_zero, List.set_cons_succ]
    refine take_at 7 (v := ?_) rfl (by kernel_rfl) (by kernel_rfl) (by kernel_rfl) (fun _ _ _ h => h) hHeld (Or.inl ⟨by rfl, ?_⟩) ?_
    rotate_left
    · (intro w hSw; (try dsimp only at hSw); go_simp; try with_reducible rfl)
    simp only [Act.put, List.setIfInBounds_toArray, List.set_cons_zero, List.set_cons_succ]
    refine take_at 8 (v := ?_) rfl (by kernel_rfl) (by kernel_rfl) (by kernel_rfl) (fun _ _ _ h => h) hHeld (Or.inl ⟨by rfl, ?_⟩) ?_
    rotate_left
    · (intro w hSw; (try dsimp only at hSw); go_simp; try with_reducible rfl)
    simp only [Act.put, List.setIfInBounds_toArray, List.set_cons_zero, List.set_cons_succ]
    refine take_at 9 (v := ?_) rfl (by kernel_rfl) (by kernel_rfl) (by kernel_rfl) (fun _ _ _ h => h) hHeld (Or.inl ⟨by rfl, ?_⟩) ?_
    rotate_left
    · (intro w hSw; (try dsimp only at hSw); go_simp; try with_reducible rfl)
    simp only [Act.put, List.setIfInBounds_toArray, List.set_cons_zero, List.set_cons_succ]
    refine take_at 10 (v := ?_) rfl (by kernel_rfl) (by kernel_rfl) (by kernel_rfl) (fun _ _ _ h => h) hHeld (Or.inl ⟨by rfl, ?_⟩) ?_
    rotate_left
    · (intro w hSw; (try dsimp only at hSw); go_simp; try with_reducible rfl)
    simp only [Act.put, List.setIfInBounds_toArray, List.set_cons_zero, List.set_cons_succ]
    refine take_at 11 (v := ?_) rfl (by kernel_rfl) (by kernel_rfl) (by kernel_rfl) (fun _ _ _ h => h) hHeld (Or.inl ⟨by rfl, ?_⟩) ?_
    rotate_left
    · (intro w hSw; (try dsimp only at hSw); go_simp; try with_reducible rfl)
    simp only [Act.put, List.setIfInBounds_toArray, List.set_cons_zero, List.set_cons_succ]
    refine take_at 12 (v := ?_) rfl (by kernel_rfl) (by kernel_rfl) (by kernel_rfl) (fun _ _ _ h => h) hHeld (Or.inl ⟨by rfl, ?_⟩) ?_
    rotate_left
    · (intro w hSw; (try dsimp only at hSw); go_simp; try with_reducible rfl)
    simp only [Act.put, List.setIfInBounds_toArray, List.set_cons_zero, List.set_cons_succ]
    refine take_at 13 (v := ?_) rfl (by kernel_rfl) (by kernel_rfl) (by kernel_rfl) (fun _ _ _ h => h) hHeld (Or.inl ⟨by rfl, ?_⟩) ?_
    rotate_left
    · (intro w hSw; (try dsimp only at hSw); go_simp; try with_reducible rfl)
    simp only [Act.put, List.setIfInBounds_toArray, List.set_cons_zero, List.set_cons_succ]
    refine take_at 14 (v := ?_) rfl (by kernel_rfl) (by kernel_rfl) (by kernel_rfl) (fun _ _ _ h => h) hHeld (Or.inl ⟨by rfl, ?_⟩) ?_
    rotate_left
    · (intro w hSw; (try dsimp only at hSw); go_simp; try with_reducible rfl)
    simp only [Act.put, List.setIfInBounds_toArray, List.set_cons_zero, List.set_cons_succ]
    refine take_at 16 (v := ?_) rfl (by kernel_rfl) (by kernel_rfl) (by kernel_rfl) (fun _ _ _ h => h) hHeld (Or.inl ⟨by rfl, ?_⟩) ?_
    rotate_left
    · (intro w hSw; (try dsimp only at hSw); go_simp; try with_reducible rfl)
    simp only [Act.put, List.setIfInBounds_toArray, List.set_cons_zero, List.set_cons_succ]
    refine take_at 17 (v := ?_) rfl (by kernel_rfl) (by kernel_rfl) (by kernel_rfl) (fun _ _ _ h => h) hHeld (Or.inl ⟨by rfl, ?_⟩) ?_
    rotate_left
    · (intro w hSw; (try dsimp only at hSw); go_simp; try with_reducible rfl)
    simp only [Act.put, List.setIfInBounds_toArray, List.set_cons_zero, List.set_cons_succ]
    refine take_at 18 (v := ?_) rfl (by kernel_rfl) (by kernel_rfl) (by kernel_rfl) (fun _ _ _ h => h) hHeld (Or.inl ⟨by rfl, ?_⟩) ?_
    rotate_left
    · (intro w hSw; (try dsimp only at hSw); go_simp; try with_reducible rfl)
    simp only [Act.put, List.setIfInBounds_toArray, List.set_cons_zero, List.set_cons_succ]
    refine take_at 20 (v := ?_) rfl (by kernel_rfl) (by kernel_rfl) (by kernel_rfl) (fun _ _ _ h => h) hHeld (Or.inl ⟨by rfl, ?_⟩) ?_
    rotate_left
    · (intro w hSw; (try dsimp only at hSw); go_simp; try with_reducible rfl)
    simp only [Act.put, List.setIfInBounds_toArray, List.set_cons_zero, List.set_cons_succ]
    refine take_at 21 (v := ?_) rfl (by kernel_rfl) (by kernel_rfl) (by kernel_rfl) (fun _ _ _ h => h) hHeld (Or.inl ⟨by rfl, ?_⟩) ?_
    rotate_left
    · (intro w hSw; (try dsimp only at hSw); go_simp; try with_reducible rfl)
    simp only [Act.put, List.setIfInBounds_toArray, List.set_cons_zero, List.set_cons_succ]
    refine ready_at 15 rfl (by kernel_rfl) (fun K hK => ?_)
    go_simp
    (go_at_call 17; (with_reducible refine (M40.out _ z3).mono ?_); rintro e y4 ⟨qb, cb, rfl, hcb, tb, z4⟩)
    refine hK.out _ _ (H0.out _ z4) (fun hHeld => ?_)
    clear hK K
    try simp only [Act.put, List.setIfInBounds_toArray, List.set_cons_zero, List.set_cons_succ]
    refine ready_at 19 rfl (by kernel_rfl) (fun K hK => ?_)
    go_simp
    (go_at_call 9; (with_reducible refine (M33e.out _ ((k : Int) + 1) qb z4 tb).mono ?_); rintro e y5 ⟨rfl, tb2, z5⟩)
    refine hK.out _ _ (H0.out _ z5) (fun hHeld => ?_)
    clear hK K
    try simp only [Act.put, List.setIfInBounds_toArray, List.set_cons_zero, List.set_cons_succ]
    refine ready_at 22 rfl (by kernel_rfl) (fun K hK => ?_)
    go_simp
    (go_at_call 9; (with_reducible refine (M33e.out _ (lv0.length : Int) qb z5 tb2).mono ?_); rintro e y6 ⟨rfl, tb3, z6⟩)
    refine hK.out _ _ (H0.out _ z6) (fun hHeld => ?_)
    clear hK K
    try simp only [Act.put, List.setIfInBounds_toArray, List.set_cons_zero, List.set_cons_succ]
    refine ready_at 23 rfl (by kernel_rfl) (fun K hK => ?_)
    go_simp
    (go_at_call 23; (with_reducible refine (M45.out _ qb cb z6 hcb tb3).mono ?_); rintro e y7 ⟨rfl, z7⟩)
    refine hK.out _ _ (H0.out _ z7) (fun hHeld => ?_)
    clear hK K
    try simp only [Act.put, List.setIfInBounds_toArray, List.set_cons_zero, List.set_cons_succ]
    refine take_at 24 (v := ?_) rfl (by kernel_rfl) (by kernel_rfl) (by kernel_rfl) (fun _ _ _ h => h) hHeld (Or.inl ⟨by rfl, ?_⟩) ?_
    rotate_left
    · (intro w hSw; (try dsimp only at hSw); go_simp; try with_reducible rfl)
    simp only [Act.put, List.setIfInBounds_toArray, List.set_cons_zero, List.set_cons_succ]
    refine take_at 25 (v := ?_) rfl (by kernel_rfl) (by kernel_rfl) (by kernel_rfl) (fun _ _ _ h => h) hHeld (Or.inl ⟨by rfl, ?_⟩) ?_
    rotate_left
    · (intro w hSw; (try dsimp only at hSw); go_simp; try with_reducible rfl)
    simp only [Act.put, List.setIfInBounds_toArray, List.set_cons_zero, List.set_cons_succ]
    refine wpAnyH_done (by kernel_rfl) ?_ _
    have Z2 : Hid (Below W5.heap.size W5 y7) := z7
    clear z1 z2 z3 z4 z5 z6 z7 hca hcb ta ta2 tb tb2 tb3 hHeld M36 M38 M40 M45 M33p M33e BR Z1 hlf0 hpn0 hix0 hsz0 hxn0
    go_upto_region 16 with fail
    go_cut [16] from 129 to 134 (fun s16 wx => ∃ (Y : Nat) (r f : Int), s16 = .pointer (some ⟨Y, 0, none⟩) ∧ Hid (0 ≤ r ∧ r < 3 ∧ 0 ≤ f ∧ f < 3) ∧ Hid (FgBox rs0 lv0 now0 W5 r f Y wx))
    case first =>
      have LB := Z2.out.drew
      refine region_till (fun w' => w'.cell? ⟨G0, 0, none⟩ = some (.slice q0 rs0.length cq0) ∧ w'.cell? ⟨G0, 1, none⟩ = some (.slice p0 lv0.length cp0) ∧ w'.cell? ⟨G0, 2, none⟩ = some (.int .i64 now0)) 7 (by kernel_rfl) (H0.out _ LB) (fun hHeld => ?_)
      generalize y7.drew = x0 at *
      clear Z2
      refine till_take 0 (v := ?_) rfl (by kernel_rfl) (by kernel_rfl) (by kernel_rfl) (by kernel_rfl) (fun _ _ _ h => h) hHeld (Or.inl ⟨by rfl, ?_⟩) ?_
      rotate_left
      · (intro w hSw; (try dsimp only at hSw); go_simp; try with_reducible rfl)
      simp only [Act.put, List.setIfInBounds_toArray, List.set_cons_zero, List.set_cons_succ]
      refine till_take 1 (v := ?_) rfl (by kernel_rfl) (by kernel_rfl) (by kernel_rfl) (by kernel_rfl) (fun _ _ _ h => h) hHeld (Or.inl ⟨by rfl, ?_⟩) ?_
      rotate_left
      · (intro w hSw; (try dsimp only at hSw); go_simp; try with_reducible rfl)
      simp only [Act.put, List.setIfInBounds_toArray, List.set_cons_zero, List.set_cons_succ]
      refine till_take 3 (v := ?_) rfl (by kernel_rfl) (by kernel_rfl) (by kernel_rfl) (by kernel_rfl) (fun _ _ _ h => h) hHeld (Or.inl ⟨by rfl, ?_⟩) ?_
      rotate_left
      · (intro w hSw; (try dsimp only at hSw); go_simp; try with_reducible rfl)
      simp only [Act.put, List.setIfInBounds_toArray, List.set_cons_zero, List.set_cons_succ]
      refine till_ready2 2 6 rfl rfl (by kernel_rfl) (fun K hK => ?_) (fun K hK => ?_)
      · go_simp
        (go_at_call 22; refine (lwAt_any w.heap.size a1 len1 cap1 1 3 _ hl1 (by omega) (by omega) (C1.out.below (chainB B5.out LB))).mono ?_; rintro e v_1 ⟨⟨r, rfl, r0, r1, -⟩, hy⟩)
        subst hy
        have r2 := r1 (by omega)
        clear r1
        refine hK.out _ _ (H0.out _ LB) (fun hHeld => ?_)
        clear hK K
        try simp only [Act.put, List.setIfInBounds_toArray, List.set_cons_zero, List.set_cons_succ]
        refine till_ready2 4 6 rfl rfl (by kernel_rfl) (fun K hK => ?_) (fun K hK => ?_)
        · go_simp
          (go_at_call 22; refine (lwAt_any w.heap.size a1 len1 cap1 2 3 _ hl1 (by omega) (by omega) (C1.out.below (chainB B5.out LB))).mono ?_; rintro e v_2 ⟨⟨f, rfl, f0, f1, -⟩, hy⟩)
          subst hy
          have f2 := f1 (by omega)
          clear f1
          refine hK.out _ _ (H0.out _ LB) (fun hHeld => ?_)
          clear hK K
          try simp only [Act.put, List.setIfInBounds_toArray, List.set_cons_zero, List.set_cons_succ]
          refine till_ready2 5 6 rfl rfl (by kernel_rfl) (fun K hK => ?_) (fun K hK => ?_)
          · have hLF := implLogForget_any p0 lv0 cp0 q0 rs0 cq0 now0 r f 1 v_2 (HT.out.to (chainB B5.out LB)) (HL.out.below (chainB B5.out LB)) (A0.out.below LB)
            go_simp
            (go_at_call 24; (with_reducible refine hLF.mono ?_); rintro e v_3 ⟨⟨u1, u2, xs, rfl, hxs, OL⟩, b1⟩)
            clear hLF
            replace OL := OL.lower LB.size
            replace LB := chainB LB b1
            clear b1
            refine hK.out _ _ (H0.out _ LB) (fun hHeld => ?_)
            clear hK K
            try simp only [Act.put, List.setIfInBounds_toArray, List.set_cons_zero, List.set_cons_succ]
            refine till_ready 6 rfl (by kernel_rfl) (fun K hK => ?_)
            go_simp
            have hal : Below v_3.heap.size v_3 (v_3.alloc (.cells #[.slice none 0 0, .slice none 0 0, .int .i64 0, .int .i64 0] 45)) := (Below.refl _ _).alloc (Nat.le_refl _) _
            have KE : Bxs (v_3.alloc (.cells #[.slice none 0 0, .slice none 0 0, .int .i64 0, .int .i64 0] 45)) v_3.heap.size 45 #[.slice none 0 0, .slice none 0 0, .int .i64 0, .int .i64 0] := Bxs.new _ _ _
            have hEb : W5.heap.size ≤ v_3.heap.size := LB.size
            replace LB := chainB LB hal
            replace OL := OL.below hal
            refine hK.out _ _ (H0.out _ LB) (fun hHeld => ?_)
            clear hK K
            try simp only [Act.put, List.setIfInBounds_toArray, List.set_cons_zero, List.set_cons_succ]
            generalize v_3.alloc (.cells #[.slice none 0 0, .slice none 0 0, .int .i64 0, .int .i64 0] 45) = u at *
            generalize v_3.heap.size = Eb at *
            clear hal
            have k0 := KE.cell 0
            have k1 := KE.cell 1
            have k2 := KE.cell 2
            have k3 := KE.cell 3
            have t0 := KE.fr 0
            have t1 := KE.fr 1
            have t2 := KE.fr 2
            have t3 := KE.fr 3
            have HFg := FgBox.put (W := W5) KE OL hxs LB hEb
            obtain ⟨qx, cqx, px, cpx, rfl, rfl, -, -, -, -⟩ := lo_at OL
            refine till_last rfl (by kernel_rfl) (by kernel_rfl) (fun K hK => ?_)
            go_simp
            refine hK.out _ _ ?_
            clear hK K hHeld k0 k1 k2 k3 t0 t1 t2 t3 KE OL LB hxs
            go_wp2_with fail
            go_meet
            exact ⟨Eb, r, f, rfl, ⟨r0, r2, f0, f2⟩, HFg⟩
          · go_simp
            have hal : Below v_2.heap.size v_2 (v_2.alloc (.cells #[.slice none 0 0, .slice none 0 0, .int .i64 0, .int .i64 0] 45)) := (Below.refl _ _).alloc (Nat.le_refl _) _
            have KE : Bxs (v_2.alloc (.cells #[.slice none 0 0, .slice none 0 0, .int .i64 0, .int .i64 0] 45)) v_2.heap.size 45 #[.slice none 0 0, .slice none 0 0, .int .i64 0, .int .i64 0] := Bxs.new _ _ _
            have hEb : W5.heap.size ≤ v_2.heap.size := LB.size
            replace LB := chainB LB hal
            refine hK.out _ _ (H0.out _ LB) (fun hHeld => ?_)
            clear hK K
            try simp only [Act.put, List.setIfInBounds_toArray, List.set_cons_zero, List.set_cons_succ]
            generalize v_2.alloc (.cells #[.slice none 0 0, .slice none 0 0, .int .i64 0, .int .i64 0] 45) = u at *
            generalize v_2.heap.size = Eb at *
            clear hal
            refine till_ready 5 rfl (by kernel_rfl) (fun K hK => ?_)
            have hLF := implLogForget_any p0 lv0 cp0 q0 rs0 cq0 now0 r f 1 u (HT.out.to (chainB B5.out LB)) (HL.out.below (chainB B5.out LB)) (A0.out.below LB)
            go_simp
            (go_at_call 24; (with_reducible refine hLF.mono ?_); rintro e v_4 ⟨⟨u1, u2, xs, rfl, hxs, OL⟩, b1⟩)
            clear hLF
            replace OL := OL.lower LB.size
            replace LB := chainB LB b1
            replace KE := KE.below b1
            clear b1
            refine hK.out _ _ (H0.out _ LB) (fun hHeld => ?_)
            clear hK K
            try simp only [Act.put, List.setIfInBounds_toArray, List.set_cons_zero, List.set_cons_succ]
            have k0 := KE.cell 0
            have k1 := KE.cell 1
            have k2 := KE.cell 2
            have k3 := KE.cell 3
            have t0 := KE.fr 0
            have t1 := KE.fr 1
            have t2 := KE.fr 2
            have t3 := KE.fr 3
            have HFg := FgBox.put (W := W5) KE OL hxs LB hEb
            obtain ⟨qx, cqx, px, cpx, rfl, rfl, -, -, -, -⟩ := lo_at OL
            refine till_last rfl (by kernel_rfl) (by kernel_rfl) (fun K hK => ?_)
            go_simp
            refine hK.out _ _ ?_
            clear hK K hHeld k0 k1 k2 k3 t0 t1 t2 t3 KE OL LB hxs
            go_wp2_with fail
            go_meet
            exact ⟨Eb, r, f, rfl, ⟨r0, r2, f0, f2⟩, HFg⟩
        · go_simp
          have hal : Below v_1.heap.size v_1 (v_1.alloc (.cells #[.slice none 0 0, .slice none 0 0, .int .i64 0, .int .i64 0] 45)) := (Below.refl _ _).alloc (Nat.le_refl _) _
          have KE : Bxs (v_1.alloc (.cells #[.slice none 0 0, .slice none 0 0, .int .i64 0, .int .i64 0] 45)) v_1.heap.size 45 #[.slice none 0 0, .slice none 0 0, .int .i64 0, .int .i64 0] := Bxs.new _ _ _
          have hEb : W5.heap.size ≤ v_1.heap.size := LB.size
          replace LB := chainB LB hal
          refine hK.out _ _ (H0.out _ LB) (fun hHeld => ?_)
          clear hK K
          try simp only [Act.put, List.setIfInBounds_toArray, List.set_cons_zero, List.set_cons_succ]
          generalize v_1.alloc (.cells #[.slice none 0 0, .slice none 0 0, .int .i64 0, .int .i64 0] 45) = u at *
          generalize v_1.heap.size = Eb at *
          clear hal
          refine till_ready 4 rfl (by kernel_rfl) (fun K hK => ?_)
          go_simp
          (go_at_call 22; refine (lwAt_any w.heap.size a1 len1 cap1 2 3 _ hl1 (by omega) (by omega) (C1.out.below (chainB B5.out LB))).mono ?_; rintro e v_5 ⟨⟨f, rfl, f0, f1, -⟩, hy⟩)
          subst hy
          have f2 := f1 (by omega)
          clear f1
          refine hK.out _ _ (H0.out _ LB) (fun hHeld => ?_)
          clear hK K
          try simp only [Act.put, List.setIfInBounds_toArray, List.set_cons_zero, List.set_cons_succ]
          refine till_ready 5 rfl (by kernel_rfl) (fun K hK => ?_)
          have hLF := implLogForget_any p0 lv0 cp0 q0 rs0 cq0 now0 r f 1 v_5 (HT.out.to (chainB B5.out LB)) (HL.out.below (chainB B5.out LB)) (A0.out.below LB)
          go_simp
          (go_at_call 24; (with_reducible refine hLF.mono ?_); rintro e v_6 ⟨⟨u1, u2, xs, rfl, hxs, OL⟩, b1⟩)
          clear hLF
          replace OL := OL.lower LB.size
          replace LB := chainB LB b1
          replace KE := KE.below b1
          clear b1
          refine hK.out _ _ (H0.out _ LB) (fun hHeld => ?_)
          clear hK K
          try simp only [Act.put, List.setIfInBounds_toArray, List.set_cons_zero, List.set_cons_succ]
          have k0 := KE.cell 0
          have k1 := KE.cell 1
          have k2 := KE.cell 2
          have k3 := KE.cell 3
          have t0 := KE.fr 0
          have t1 := KE.fr 1
          have t2 := KE.fr 2
          have t3 := KE.fr 3
          have HFg := FgBox.put (W := W5) KE OL hxs LB hEb
          obtain ⟨qx, cqx, px, cpx, rfl, rfl, -, -, -, -⟩ := lo_at OL
          refine till_last rfl (by kernel_rfl) (by kernel_rfl) (fun K hK => ?_)
          go_simp
          refine hK.out _ _ ?_
          clear hK K hHeld k0 k1 k2 k3 t0 t1 t2 t3 KE OL LB hxs
          go_wp2_with fail
          go_meet
          exact ⟨Eb, r, f, rfl, ⟨r0, r2, f0, f2⟩, HFg⟩
      · go_simp
        have hal : Below x0.heap.size x0 (x0.alloc (.cells #[.slice none 0 0, .slice none 0 0, .int .i64 0, .int .i64 0] 45)) := (Below.refl _ _).alloc (Nat.le_refl _) _
        have KE : Bxs (x0.alloc (.cells #[.slice none 0 0, .slice none 0 0, .int .i64 0, .int .i64 0] 45)) x0.heap.size 45 #[.slice none 0 0, .slice none 0 0, .int .i64 0, .int .i64 0] := Bxs.new _ _ _
        have hEb : W5.heap.size ≤ x0.heap.size := LB.size
        replace LB := chainB LB hal
        refine hK.out _ _ (H0.out _ LB) (fun hHeld => ?_)
        clear hK K
        try simp only [Act.put, List.setIfInBounds_toArray, List.set_cons_zero, List.set_cons_succ]
        generalize x0.alloc (.cells #[.slice none 0 0, .slice none 0 0, .int .i64 0, .int .i64 0] 45) = u at *
        generalize x0.heap.size = Eb at *
        clear hal
        refine till_ready 2 rfl (by kernel_rfl) (fun K hK => ?_)
        go_simp
        (go_at_call 22; refine (lwAt_any w.heap.size a1 len1 cap1 1 3 _ hl1 (by omega) (by omega) (C1.out.below (chainB B5.out LB))).mono ?_; rintro e v_7 ⟨⟨r, rfl, r0, r1, -⟩, hy⟩)
        subst hy
        have r2 := r1 (by omega)
        clear r1
        refine hK.out _ _ (H0.out _ LB) (fun hHeld => ?_)
        clear hK K
        try simp only [Act.put, List.setIfInBounds_toArray, List.set_cons_zero, List.set_cons_succ]
        refine till_ready 4 rfl (by kernel_rfl) (fun K hK => ?_)
        go_simp
        (go_at_call 22; refine (lwAt_any w.heap.size a1 len1 cap1 2 3 _ hl1 (by omega) (by omega) (C1.out.below (chainB B5.out LB))).mono ?_; rintro e v_8 ⟨⟨f, rfl, f0, f1, -⟩, hy⟩)
        subst hy
        have f2 := f1 (by omega)
        clear f1
        refine hK.out _ _ (H0.out _ LB) (fun hHeld => ?_)
        clear hK K
        try simp only [Act.put, List.setIfInBounds_toArray, List.set_cons_zero, List.set_cons_succ]
        refine till_ready 5 rfl (by kernel_rfl) (fun K hK => ?_)
        have hLF := implLogForget_any p0 lv0 cp0 q0 rs0 cq0 now0 r f 1 v_8 (HT.out.to (chainB B5.out LB)) (HL.out.below (chainB B5.out LB)) (A0.out.below LB)
        go_simp
        (go_at_call 24; (with_reducible refine hLF.mono ?_); rintro e v_9 ⟨⟨u1, u2, xs, rfl, hxs, OL⟩, b1⟩)
        clear hLF
        replace OL := OL.lower LB.size
        replace LB := chainB LB b1
        replace KE := KE.below b1
        clear b1
        refine hK.out _ _ (H0.out _ LB) (fun hHeld => ?_)
        clear hK K
        try simp only [Act.put, List.setIfInBounds_toArray, List.set_cons_zero, List.set_cons_succ]
        have k0 := KE.cell 0
        have k1 := KE.cell 1
        have k2 := KE.cell 2
        have k3 := KE.cell 3
        have t0 := KE.fr 0
        have t1 := KE.fr 1
        have t2 := KE.fr 2
        have t3 := KE.fr 3
        have HFg := FgBox.put (W := W5) KE OL hxs LB hEb
        obtain ⟨qx, cqx, px, cpx, rfl, rfl, -, -, -, -⟩ := lo_at OL
        refine till_last rfl (by kernel_rfl) (by kernel_rfl) (fun K hK => ?_)
        go_simp
        refine hK.out _ _ ?_
        clear hK K hHeld k0 k1 k2 k3 t0 t1 t2 t3 KE OL LB hxs
        go_wp2_with fail
        go_meet
        exact ⟨Eb, r, f, rfl, ⟨r0, r2, f0, f2⟩, HFg⟩
    case rest =>
    obtain ⟨Y, r, f, rfl, HB3, HFg⟩ := hcut
    clear Z2
    obtain ⟨q5, cq5, p5, cp5, KY, hA5, bY⟩ := HFg.out
    clear HFg
    have HRt : Hid (lfC rs0 lv0 now0 r f 1 = 0 → conA ((k : Int) + 1) ((lv0.length : Int) + 1) (exO (lfR rs0 lv0 now0 r f 1) (lfL rs0 lv0 now0 r f 1) (lfN rs0 lv0 now0 r f 1) ((k : Int) + 1)) (roO rs0 lv0 now0 ((k : Int) + 1)) (roO (lfR rs0 lv0 now0 r f 1) (lfL rs0 lv0 now0 r f 1) (lfN rs0 lv0 now0 r f 1) ((lv0.length : Int) + 1)) = true ∧ roO (lfR rs0 lv0 now0 r f 1) (lfL rs0 lv0 now0 r f 1) (lfN rs0 lv0 now0 r f 1) ((k : Int) + 1) = roO rs0 lv0 now0 ((k : Int) + 1)) := fun h => ⟨by have := hd_fgt h (m := k + 1) (by omega) (by omega); rwa [show (((k + 1 : Nat)) : Int) = (k : Int) + 1 by omega] at this, lf_root h _ (by omega)⟩
    clear HB3 HLG
    generalize lfC rs0 lv0 now0 r f 1 = C5 at *
    generalize lfR rs0 lv0 now0 r f 1 = rs5 at *
    generalize lfL rs0 lv0 now0 r f 1 = lv5 at *
    generalize lfN rs0 lv0 now0 r f 1 = now5 at *
    have k3 := KY.cell 3
    by_cases hc : C5 = 0
    case neg =>
      have dc : (C5 == 0) = false := beq_eq_false_iff_ne.2 hc
      have HE := chainB B5.out bY
      clear HRt hA5 KY bY H0 A0 hc
      go_wp2_with fail
      go_ret
      exact ⟨rfl, HE⟩
    subst hc
    obtain ⟨hcon, hroot⟩ := HRt.out rfl
    have A5 : Hid (LgAt p5 lv5 cp5 q5 rs5 cq5 _) := hA5 rfl
    have HY : Hid (Bxs _ Y _ _) := KY
    have ZY : Hid (Below W5.heap.size W5 _) := bY
    clear HRt hA5 KY bY
    rename World => wx
    go_upto_region 19 with fail
    clear k3
    have H5 : Hid (∀ x, Below wx.heap.size wx x → (x.cell? ⟨G0, 0, none⟩ = some (.slice q0 rs0.length cq0) ∧ x.cell? ⟨G0, 1, none⟩ = some (.slice p0 lv0.length cp0) ∧ x.cell? ⟨G0, 2, none⟩ = some (.int .i64 now0)) ∧ x.cell? ⟨Y, 0, none⟩ = some (.slice q5 rs5.length cq5) ∧ x.cell? ⟨Y, 1, none⟩ = some (.slice p5 lv5.length cp5) ∧ x.cell? ⟨Y, 2, none⟩ = some (.int .i64 now5)) := fun x hb => ⟨H0.out x (chainB ZY.out hb), (HY.out.below hb).cell 0, (HY.out.below hb).cell 1, (HY.out.below hb).cell 2⟩
    have N5 : Hid (∀ x (r : Int), Below wx.heap.size wx x → Calls Tryz.prog 9 #[.agg #[.slice q5 rs5.length cq5, .slice p5 lv5.length cp5, .int .i64 now5], .int .i64 r] x fun e x1 => e = .returned (.string (roO rs5 lv5 now5 r)) ∧ Below wx.heap.size wx x1) := fun x r hb => (implRootOf_any p5 lv5 cp5 q5 rs5 cq5 now5 r x (HT.out.to (chainB (chainB B5.out ZY.out) hb)) (HL.out.below (chainB (chainB B5.out ZY.out) hb)) (A5.out.below hb)).mono (by rintro e x1 ⟨rfl, y⟩; exact ⟨rfl, chainB hb y⟩)
    have N0 : Hid (∀ x (r : Int), Below wx.heap.size wx x → Calls Tryz.prog 9 #[.agg #[.slice q0 rs0.length cq0, .slice p0 lv0.length cp0, .int .i64 now0], .int .i64 r] x fun e x1 => e = .returned (.string (roO rs0 lv0 now0 r)) ∧ Below wx.heap.size wx x1) := fun x r hb => (implRootOf_any p0 lv0 cp0 q0 rs0 cq0 now0 r x (HT.out.to (chainB (chainB B5.out ZY.out) hb)) (HL.out.below (chainB (chainB B5.out ZY.out) hb)) (A0.out.below (chainB ZY.out hb))).mono (by rintro e x1 ⟨rfl, y⟩; exact ⟨rfl, chainB hb y⟩)
    have wn : IntKind.i64.wrap ((lv0.length : Int) + 1) = (lv0.length : Int) + 1 := by rw [IntKind.wrap_i64]; have := HLn.out; omega
    have M40 := fun x (hb : Below wx.heap.size wx x) => implExtend_any p5 lv5 cp5 q5 rs5 cq5 now5 ((k : Int) + 1) x (by omega) (by have := HLn.out; omega) (HT.out.to (chainB (chainB B5.out ZY.out) hb)) (HL.out.below (chainB (chainB B5.out ZY.out) hb)) (A5.out.below hb)
    have hxn := exO_len rs5 lv5 now5 ((k : Int) + 1)
    have hr1 := ro_size rs5 lv5 now5 ((lv0.length : Int) + 1)
    have hr2 := ro_size rs0 lv0 now0 ((k : Int) + 1)
    generalize exO rs5 lv5 now5 ((k : Int) + 1) = EX at *
    have N40 : Hid (∀ x, Below wx.heap.size wx x → Calls Tryz.prog 17 #[.agg #[.slice q5 rs5.length cq5, .slice p5 lv5.length cp5, .int .i64 now5], .int .i64 ((k : Int) + 1)] x fun e x1 => ∃ qa ca, e = .returned (.slice qa EX.length ca) ∧ EX.length ≤ ca ∧ TxtAt x1 qa EX ∧ Below wx.heap.size wx x1) := fun x hb => (M40 x hb).mono (by rintro e x1 ⟨v, rfl, o, y⟩; obtain ⟨qa, ca, rfl, hca, ta⟩ := ownS_form o; exact ⟨qa, ca, rfl, hca, ta, chainB hb y⟩)
    have N0t : Hid (∀ x (r : Int) (qa : Option Addr), Below wx.heap.size wx x → TxtAt x qa EX → Calls Tryz.prog 9 #[.agg #[.slice q0 rs0.length cq0, .slice p0 lv0.length cp0, .int .i64 now0], .int .i64 r] x fun e x1 => e = .returned (.string (roO rs0 lv0 now0 r)) ∧ TxtAt x1 qa EX ∧ Below wx.heap.size wx x1) := fun x r qa hb ht => (implRootOf_any p0 lv0 cp0 q0 rs0 cq0 now0 r x (HT.out.to (chainB (chainB B5.out ZY.out) hb)) (HL.out.below (chainB (chainB B5.out ZY.out) hb)) (A0.out.below (chainB ZY.out hb))).mono (by rintro e x1 ⟨rfl, y⟩; exact ⟨rfl, ht.below y, chainB hb y⟩)
    have N5t : Hid (∀ x (r : Int) (qa : Option Addr), Below wx.heap.size wx x → TxtAt x qa EX → Calls Tryz.prog 9 #[.agg #[.slice q5 rs5.length cq5, .slice p5 lv5.length cp5, .int .i64 now5], .int .i64 r] x fun e x1 => e = .returned (.string (roO rs5 lv5 now5 r)) ∧ TxtAt x1 qa EX ∧ Below wx.heap.size wx x1) := fun x r qa hb ht => (implRootOf_any p5 lv5 cp5 q5 rs5 cq5 now5 r x (HT.out.to (chainB (chainB B5.out ZY.out) hb)) (HL.out.below (chainB (chainB B5.out ZY.out) hb)) (A5.out.below hb)).mono (by rintro e x1 ⟨rfl, y⟩; exact ⟨rfl, ht.below y, chainB hb y⟩)
    have N45 : Hid (∀ x qa ca, Below wx.heap.size wx x → EX.length ≤ ca → TxtAt x qa EX → Calls Tryz.prog 23 #[.int .i64 ((k : Int) + 1), .int .i64 ((lv0.length : Int) + 1), .slice qa EX.length ca, .string (roO rs0 lv0 now0 ((k : Int) + 1)), .string (roO rs5 lv5 now5 ((lv0.length : Int) + 1))] x fun e x1 => e = .returned (.bool true) ∧ Below wx.heap.size wx x1) := fun x qa ca hb hca hta => (implCon_any ((k : Int) + 1) ((lv0.length : Int) + 1) qa ca EX (roO rs0 lv0 now0 ((k : Int) + 1)) (roO rs5 lv5 now5 ((lv0.length : Int) + 1)) x (HT.out.to (chainB (chainB B5.out ZY.out) hb)) hta (by omega) hca (by omega) (by have := HLn.out; omega) (by omega) (by have := HLn.out; omega)).mono (by rintro e x1 ⟨rfl, y⟩; exact ⟨by rw [hcon], chainB hb y⟩)
    have N5r : Hid (∀ x, Below wx.heap.size wx x → Calls Tryz.prog 9 #[.agg #[.slice q5 rs5.length cq5, .slice p5 lv5.length cp5, .int .i64 now5], .int .i64 ((k : Int) + 1)] x fun e x1 => e = .returned (.string (roO rs0 lv0 now0 ((k : Int) + 1))) ∧ Below wx.heap.size wx x1) := fun x hb => (N5.out x ((k : Int) + 1) hb).mono (by rintro e x1 ⟨rfl, y⟩; exact ⟨by rw [hroot], y⟩)
    have HE : Hid (∀ x, Below wx.heap.size wx x → Below w.heap.size w x) := fun x hx => chainB (chainB B5.out ZY.out) hx
    have BR : Hid (Below wx.heap.size wx wx.drew) := (Below.refl _ _).drew
    clear hcon hroot M40 N5 ZY HY A5 A0 H0 hxn hr1 hr2
    refine wp_region_held_drew (S := fun w' => (w'.cell? ⟨G0, 0, none⟩ = some (.slice q0 rs0.length cq0) ∧ w'.cell? ⟨G0, 1, none⟩ = some (.slice p0 lv0.length cp0) ∧ w'.cell? ⟨G0, 2, none⟩ = some (.int .i64 now0)) ∧ w'.cell? ⟨Y, 0, none⟩ = some (.slice q5 rs5.length cq5) ∧ w'.cell? ⟨Y, 1, none⟩ = some (.slice p5 lv5.length cp5) ∧ w'.cell? ⟨Y, 2, none⟩ = some (.int .i64 now5)) (by kernel_rfl) (H5.out _ BR.out) (fun hHeld => ?_)
    refine take_at 0 (v := ?_) rfl (by kernel_rfl) (by kernel_rfl) (by kernel_rfl) (fun _ _ _ h => h) hHeld (Or.inl ⟨by rfl, ?_⟩) ?_
    rotate_left
    · (intro w hSw; (try dsimp only at hSw); go_simp; try with_reducible rfl)
    simp only [Act.put, List.setIfInBounds_toArray, List.set_cons_zero, List.set_cons_succ]
    refine take_at 1 (v := ?_) rfl (by kernel_rfl) (by kernel_rfl) (by kernel_rfl) (fun _ _ _ h => h) hHeld (Or.inl ⟨by rfl, ?_⟩) ?_
    rotate_left
    · (intro w hSw; (try dsimp only at hSw); go_simp; try with_reducible rfl)
    simp only [Act.put, List.setIfInBounds_toArray, List.set_cons_zero, List.set_cons_succ]
    refine take_at 2 (v := ?_) rfl (by kernel_rfl) (by kernel_rfl) (by kernel_rfl) (fun _ _ _ h => h) hHeld (Or.inl ⟨by rfl, ?_⟩) ?_
    rotate_left
    · (intro w hSw; (try dsimp only at hSw); go_simp; try with_reducible rfl)
    simp only [Act.put, List.setIfInBounds_toArray, List.set_cons_zero, List.set_cons_succ]
    refine take_at 3 (v := ?_) rfl (by kernel_rfl) (by kernel_rfl) (by kernel_rfl) (fun _ _ _ h => h) hHeld (Or.inl ⟨by rfl, ?_⟩) ?_
    rotate_left
    · (intro w hSw; (try dsimp only at hSw); go_simp; try with_reducible rfl)
    simp only [Act.put, List.setIfInBounds_toArray, List.set_cons_zero, List.set_cons_succ]
    refine take_at 5 (v := ?_) rfl (by kernel_rfl) (by kernel_rfl) (by kernel_rfl) (fun _ _ _ h => h) hHeld (Or.inl ⟨by rfl, ?_⟩) ?_
    rotate_left
    · (intro w hSw; (try dsimp only at hSw); go_simp; try with_reducible rfl)
    simp only [Act.put, List.setIfInBounds_toArray, List.set_cons_zero, List.set_cons_succ]
    refine take_at 6 (v := ?_) rfl (by kernel_rfl) (by kernel_rfl) (by kernel_rfl) (fun _ _ _ h => h) hHeld (Or.inl ⟨by rfl, ?_⟩) ?_
    rotate_left
    · (intro w hSw; (try dsimp only at hSw); go_simp; try with_reducible rfl)
    simp only [Act.put, List.setIfInBounds_toArray, List.set_cons_zero, List.set_cons_succ]
    refine take_at 7 (v := ?_) rfl (by kernel_rfl) (by kernel_rfl) (by kernel_rfl) (fun _ _ _ h => h) hHeld (Or.inl ⟨by rfl, ?_⟩) ?_
    rotate_left
    · (intro w hSw; (try dsimp only at hSw); go_simp; try with_reducible rfl)
    simp only [Act.put, List.setIfInBounds_toArray, List.set_cons_zero, List.set_cons_succ]
    refine ready_at 4 rfl (by kernel_rfl) (fun K hK => ?_)
    go_simp
    (go_at_call 9; (with_reducible refine (N5r.out _ BR.out).mono ?_); rintro e y1 ⟨rfl, z1⟩)
    refine hK.out _ _ (H5.out _ z1) (fun hHeld => ?_)
    clear hK K
    try simp only [Act.put, List.setIfInBounds_toArray, List.set_cons_zero, List.set_cons_succ]
    refine ready_at 8 rfl (by kernel_rfl) (fun K hK => ?_)
    go_simp
    (go_at_call 9; (with_reducible refine (N0.out _ ((k : Int) + 1) z1).mono ?_); rintro e y2 ⟨rfl, z2⟩)
    refine hK.out _ _ (H5.out _ z2) (fun hHeld => ?_)
    clear hK K
    try simp only [Act.put, List.setIfInBounds_toArray, List.set_cons_zero, List.set_cons_succ]
    refine take_at 9 (v := ?_) rfl (by kernel_rfl) (by kernel_rfl) (by kernel_rfl) (fun _ _ _ h => h) hHeld (Or.inl ⟨by rfl, ?_⟩) ?_
    rotate_left
    · (intro w hSw; (try dsimp only at hSw); go_simp; try with_reducible rfl)
    simp only [Act.put, List.setIfInBounds_toArray, List.set_cons_zero, List.set_cons_succ]
    refine take_at 10 (v := ?_) rfl (by kernel_rfl) (by kernel_rfl) (by kernel_rfl) (fun _ _ _ h => h) hHeld (Or.inl ⟨by rfl, ?_⟩) ?_
    rotate_left
    · (intro w hSw; (try dsimp only at hSw); go_simp; try with_reducible rfl)
    simp only [Act.put, List.setIfInBounds_toArray, List.set_cons_zero, List.set_cons_succ]
    refine take_at 11 (v := ?_) rfl (by kernel_rfl) (by kernel_rfl) (by kernel_rfl) (fun _ _ _ h => h) hHeld (Or.inl ⟨by rfl, ?_⟩) ?_
    rotate_left
    · (intro w hSw; (try dsimp only at hSw); go_simp; try with_reducible rfl)
    simp only [Act.put, List.setIfInBounds_toArray, List.set_cons_zero, List.set_cons_succ]
    refine take_at 12 (v := ?_) rfl (by kernel_rfl) (by kernel_rfl) (by kernel_rfl) (fun _ _ _ h => h) hHeld (Or.inl ⟨by rfl, ?_⟩) ?_
    rotate_left
    · (intro w hSw; (try dsimp only at hSw); go_simp; try with_reducible rfl)
    simp only [Act.put, List.setIfInBounds_toArray, List.set_cons_zero, List.set_cons_succ]
    refine take_at 13 (v := ?_) rfl (by kernel_rfl) (by kernel_rfl) (by kernel_rfl) (fun _ _ _ h => h) hHeld (Or.inl ⟨by rfl, ?_⟩) ?_
    rotate_left
    · (intro w hSw; (try dsimp only at hSw); go_simp; try with_reducible rfl)
    simp only [Act.put, List.setIfInBounds_toArray, List.set_cons_zero, List.set_cons_succ]
    refine take_at 14 (v := ?_) rfl (by kernel_rfl) (by kernel_rfl) (by kernel_rfl) (fun _ _ _ h => h) hHeld (Or.inl ⟨by rfl, ?_⟩) ?_
    rotate_left
    · (intro w hSw; (try dsimp only at hSw); go_simp; try with_reducible rfl)
    simp only [Act.put, List.setIfInBounds_toArray, List.set_cons_zero, List.set_cons_succ]
    refine take_at 15 (v := ?_) rfl (by kernel_rfl) (by kernel_rfl) (by kernel_rfl) (fun _ _ _ h => h) hHeld (Or.inl ⟨by rfl, ?_⟩) ?_
    rotate_left
    · (intro w hSw; (try dsimp only at hSw); go_simp; try with_reducible rfl)
    simp only [Act.put, List.setIfInBounds_toArray, List.set_cons_zero, List.set_cons_succ]
    refine take_at 16 (v := ?_) rfl (by kernel_rfl) (by kernel_rfl) (by kernel_rfl) (fun _ _ _ h => h) hHeld (Or.inl ⟨by rfl, ?_⟩) ?_
    rotate_left
    · (intro w hSw; (try dsimp only at hSw); go_simp; try with_reducible rfl)
    simp only [Act.put, List.setIfInBounds_toArray, List.set_cons_zero, List.set_cons_succ]
    refine take_at 17 (v := ?_) rfl (by kernel_rfl) (by kernel_rfl) (by kernel_rfl) (fun _ _ _ h => h) hHeld (Or.inl ⟨by rfl, ?_⟩) ?_
    rotate_left
    · (intro w hSw; (try dsimp only at hSw); go_simp; try with_reducible rfl)
    simp only [Act.put, List.setIfInBounds_toArray, List.set_cons_zero, List.set_cons_succ]
    refine take_at 18 (v := ?_) rfl (by kernel_rfl) (by kernel_rfl) (by kernel_rfl) (fun _ _ _ h => h) hHeld (Or.inl ⟨by rfl, ?_⟩) ?_
    rotate_left
    · (intro w hSw; (try dsimp only at hSw); go_simp; try with_reducible rfl)
    simp only [Act.put, List.setIfInBounds_toArray, List.set_cons_zero, List.set_cons_succ]
    refine take_at 20 (v := ?_) rfl (by kernel_rfl) (by kernel_rfl) (by kernel_rfl) (fun _ _ _ h => h) hHeld (Or.inl ⟨by rfl, ?_⟩) ?_
    rotate_left
    · (intro w hSw; (try dsimp only at hSw); go_simp; try with_reducible rfl)
    simp only [Act.put, List.setIfInBounds_toArray, List.set_cons_zero, List.set_cons_succ]
    refine take_at 21 (v := ?_) rfl (by kernel_rfl) (by kernel_rfl) (by kernel_rfl) (fun _ _ _ h => h) hHeld (Or.inl ⟨by rfl, ?_⟩) ?_
    rotate_left
    · (intro w hSw; (try dsimp only at hSw); go_simp; try with_reducible rfl)
    simp only [Act.put, List.setIfInBounds_toArray, List.set_cons_zero, List.set_cons_succ]
    refine take_at 22 (v := ?_) rfl (by kernel_rfl) (by kernel_rfl) (by kernel_rfl) (fun _ _ _ h => h) hHeld (Or.inl ⟨by rfl, ?_⟩) ?_
    rotate_left
    · (intro w hSw; (try dsimp only at hSw); go_simp; try with_reducible rfl)
    simp only [Act.put, List.setIfInBounds_toArray, List.set_cons_zero, List.set_cons_succ]
    refine take_at 24 (v := ?_) rfl (by kernel_rfl) (by kernel_rfl) (by kernel_rfl) (fun _ _ _ h => h) hHeld (Or.inl ⟨by rfl, ?_⟩) ?_
    rotate_left
    · (intro w hSw; (try dsimp only at hSw); go_simp; try with_reducible rfl)
    simp only [Act.put, List.setIfInBounds_toArray, List.set_cons_zero, List.set_cons_succ]
    refine take_at 25 (v := ?_) rfl (by kernel_rfl) (by kernel_rfl) (by kernel_rfl) (fun _ _ _ h => h) hHeld (Or.inl ⟨by rfl, ?_⟩) ?_
    rotate_left
    · (intro w hSw; (try dsimp only at hSw); go_simp; try with_reducible rfl)
    simp only [Act.put, List.setIfInBounds_toArray, List.set_cons_zero, List.set_cons_succ]
    refine take_at 26 (v := ?_) rfl (by kernel_rfl) (by kernel_rfl) (by kernel_rfl) (fun _ _ _ h => h) hHeld (Or.inl ⟨by rfl, ?_⟩) ?_
    rotate_left
    · (intro w hSw; (try dsimp only at hSw); go_simp; try with_reducible rfl)
    simp only [Act.put, List.setIfInBounds_toArray, List.set_cons_zero, List.set_cons_succ]
    refine take_at 27 (v := ?_) rfl (by kernel_rfl) (by kernel_rfl) (by kernel_rfl) (fun _ _ _ h => h) hHeld (Or.inl ⟨by rfl, ?_⟩) ?_
    rotate_left
    · (intro w hSw; (try dsimp only at hSw); go_simp; try with_reducible rfl)
    simp only [Act.put, List.setIfInBounds_toArray, List.set_cons_zero, List.set_cons_succ]
    refine ready_at 19 rfl (by kernel_rfl) (fun K hK => ?_)
    go_simp
    (go_at_call 17; (with_reducible refine (N40.out _ z2).mono ?_); rintro e y3 ⟨qa, ca, rfl, hca, ta, z3⟩)
    refine hK.out _ _ (H5.out _ z3) (fun hHeld => ?_)
    clear hK K
    try simp only [Act.put, List.setIfInBounds_toArray, List.set_cons_zero, List.set_cons_succ]
    refine ready_at 23 rfl (by kernel_rfl) (fun K hK => ?_)
    go_simp
    (go_at_call 9; (with_reducible refine (N0t.out _ ((k : Int) + 1) qa z3 ta).mono ?_); rintro e y4 ⟨rfl, ta2, z4⟩)
    refine hK.out _ _ (H5.out _ z4) (fun hHeld => ?_)
    clear hK K
    try simp only [Act.put, List.setIfInBounds_toArray, List.set_cons_zero, List.set_cons_succ]
    refine ready_at 28 rfl (by kernel_rfl) (fun K hK => ?_)
    go_simp
    (go_at_call 9; (with_reducible refine (N5t.out _ ((lv0.length : Int) + 1) qa z4 ta2).mono ?_); rintro e y5 ⟨rfl, ta3, z5⟩)
    refine hK.out _ _ (H5.out _ z5) (fun hHeld => ?_)
    clear hK K
    try simp only [Act.put, List.setIfInBounds_toArray, List.set_cons_zero, List.set_cons_succ]
    refine ready_at 29 rfl (by kernel_rfl) (fun K hK => ?_)
    go_simp
    (go_at_call 23; (with_reducible refine (N45.out _ qa ca z5 hca ta3).mono ?_); rintro e y6 ⟨rfl, z6⟩)
    refine hK.out _ _ (H5.out _ z6) (fun hHeld => ?_)
    clear hK K
    try simp only [Act.put, List.setIfInBounds_toArray, List.set_cons_zero, List.set_cons_succ]
    refine take_at 30 (v := ?_) rfl (by kernel_rfl) (by kernel_rfl) (by kernel_rfl) (fun _ _ _ h => h) hHeld (Or.inl ⟨by rfl, ?_⟩) ?_
    rotate_left
    · (intro w hSw; (try dsimp only at hSw); go_simp; try with_reducible rfl)
    simp only [Act.put, List.setIfInBounds_toArray, List.set_cons_zero, List.set_cons_succ]
    refine take_at 31 (v := ?_) rfl (by kernel_rfl) (by kernel_rfl) (by kernel_rfl) (fun _ _ _ h => h) hHeld (Or.inl ⟨by rfl, ?_⟩) ?_
    rotate_left
    · (intro w hSw; (try dsimp only at hSw); go_simp; try with_reducible rfl)
    simp only [Act.put, List.setIfInBounds_toArray, List.set_cons_zero, List.set_cons_succ]
    refine wpAnyH_done (by kernel_rfl) ?_ _
    have HE6 := HE.out _ z6
    clear z1 z2 z3 z4 z5 z6 hca ta ta2 ta3 hHeld N5r N0 N40 N0t N5t N45 H5 HE
    go_wp2_with fail
    go_ret
    exact ⟨rfl, HE6⟩
end Go.Proofs.YtnknnfgimiljjaaGreatDoor
