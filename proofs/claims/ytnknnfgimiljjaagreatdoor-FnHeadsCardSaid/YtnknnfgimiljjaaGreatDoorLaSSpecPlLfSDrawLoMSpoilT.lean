/-
  Parts of one proof, laid as one text: LaS, SpecPl, LfS, DrawLoM, SpoilT; what each says stands at its head.
-/
import Derived.Test.YtnknnfgimiljjaaGreatDoorRows
import Derived.Test.YtnknnfgimiljjaaGreatDoorBytesDigMath
import Derived.Test.YtnknnfgimiljjaaGreatDoorTreeMathSlABxKSlBOwnSJoinedOwnB
import Derived.Test.YtnknnfgimiljjaaGreatDoorLtMathLaMathLfMathTakesLStepAppGrKDigAllTimeIImplFCBlNotTakes
import Derived.Test.YtnknnfgimiljjaaGreatDoorTimeBPutMathPutNumPutTextFldMathFldRiseScanMath
import Derived.Test.YtnknnfgimiljjaaGreatDoorGetValGetTxtNumMathFldRdNumFromTmbMathLgMath
import Derived.Test.YtnknnfgimiljjaaGreatDoorLgAtKLgAnsLgRtShwKOneKFldGFldBlkRwBlkRowOpsLgO
import Derived.Test.YtnknnfgimiljjaaGreatDoorFldRSpecTgFldL
import Derived.Test.YtnknnfgimiljjaaGreatDoorDrawRowFldF
import Derived.Test.YtnknnfgimiljjaaGreatDoorSpecLr
import Derived.Test.YtnknnfgimiljjaaGreatDoorSpecClLtSLaB
import Derived.Handy
import Derived.WalkSpells
import Derived.OwnWalk
import Derived.Deep.RegionHeld3
import Derived.Deep.Cut
import Derived.Test.YtnknnfgimiljjaaGreatDoorImplTbAsDAs2CodeOfSpecGNSpecGTFldNFldIs
import Derived.Test.YtnknnfgimiljjaaGreatDoorRdNumIGetNumIImplCbImplTrLeafK
import Derived.Test.YtnknnfgimiljjaaGreatDoorFldTbFldTr
import Derived.Test.YtnknnfgimiljjaaGreatDoorLogRIImplPlCopiedImplClLfF
import Derived.Test.YtnknnfgimiljjaaGreatDoorHeadLawLwPrfLwAtDrawLoDrawFldFldOM
import Derived.Test.YtnknnfgimiljjaaGreatDoorProofLawSrcDrawsDrawKitAppSSomeDrawTree
import Derived.BigQuiet
import Derived.Deep.CutRange
/-
  What the specification's LogAdd answers: 'laC' and the log, in new memory.
-/
namespace Go.Proofs.YtnknnfgimiljjaaGreatDoor
open Go.RowKit Go.Lib
set_option linter.unusedVariables false
set_option maxRecDepth 20000

set_option maxHeartbeats 8000000 in
theorem specLogAdd_any (p : Option Addr) (lv : List ByteArray) (cp : Nat) (q : Option Addr) (rs : List Rw) (cq : Nat) (now : Int) (k : ByteArray) (a : Int) (rq : Option Addr) (rc : Nat) (fs : List Fld) (w : World) (hA : LgAt p lv cp q rs cq w) (hf : FldAt w rq fs) (hfn : fs.length ≤ 1048576) (hfc : fs.length ≤ rc) (hk : k.size ≤ maxLen) (hz : FldsLe fs) :
    Calls Tryz.prog 61 #[.agg #[.slice q rs.length cq, .slice p lv.length cp, .int .i64 now], .agg #[.string k, .int .i64 a, .slice rq fs.length rc]] w fun e w' => LgA w.heap.size (laR rs lv now ⟨k, a, fs⟩) (laL rs lv now ⟨k, a, fs⟩) (laN rs lv now ⟨k, a, fs⟩) (laC rs lv now ⟨k, a, fs⟩) e w' ∧ Below w.heap.size w w' := by
  obtain ⟨W3, hW3⟩ : ∃ W3, W3 = ((w.alloc (.cells #[.slice q rs.length cq, .slice p lv.length cp, .int .i64 now] 26)).alloc (.cells #[.string k, .int .i64 a, .slice rq fs.length rc] 70)).alloc (.cells #[.slice none 0 0, .slice none 0 0, .int .i64 0, .int .i64 0] 45) := ⟨_, rfl⟩
  have HW3 : Hid (W3 = ((w.alloc (.cells #[.slice q rs.length cq, .slice p lv.length cp, .int .i64 now] 26)).alloc (.cells #[.string k, .int .i64 a, .slice rq fs.length rc] 70)).alloc (.cells #[.slice none 0 0, .slice none 0 0, .int .i64 0, .int .i64 0] 45)) := hW3
  have H3 : Hid (LaB w q rs.length cq p lv.length cp now k a rq fs.length rc W3) := la_boxes hW3
  have hR : Calls Tryz.prog 21 #[.agg #[.slice q rs.length cq, .slice p lv.length cp, .int .i64 now]] W3 fun e w' => e = .returned (.bool (lgB rs lv now)) ∧ Below W3.heap.size W3 w' := specLogRight_any p lv cp q rs cq now W3 (hA.below H3.out.bel)
  have HRR : Hid (∀ x, Below w.heap.size w x → Calls Tryz.prog 50 #[.agg #[.string k, .int .i64 a, .slice rq fs.length rc]] x fun e w' => e = .returned (.bool (rwB k a fs)) ∧ Below x.heap.size x w') := fun x hx => specRowRight_any k a rq rc fs x (hf.below hx) hfn hfc hk hz
  have HFr : Hid (∀ x, Below w.heap.size w x → Calls Tryz.prog 102 #[.agg #[.string k, .int .i64 a, .slice rq fs.length rc]] x fun e w' => e = .returned (.bool (frsB fs)) ∧ Below x.heap.size x w') := fun x hx => l09Fresh_any k a rq rc fs x (hf.below hx) hfn hfc
  have HCp : Hid (lgB rs lv now = true → ∀ x, Below w.heap.size w x → Calls Tryz.prog 104 #[.agg #[.slice q rs.length cq, .slice p lv.length cp, .int .i64 now]] x fun e w' => ∃ v1 v2 xs, e = .returned (.agg #[v1, v2, .int .i64 now]) ∧ xs.map (·.1) = rs ∧ LgO x.heap.size xs lv v1 v2 w' ∧ Below x.heap.size x w') := fun hl x hx => by
    obtain ⟨hr1, hr2, hr3⟩ := lg_right hl
    exact l09Copy_any p lv cp q rs cq now x (hA.below hx) (fun r hr => by have := rB_len (hr3 r hr); omega)
  have HCr : Hid (rwB k a fs = true → ∀ x, Below w.heap.size w x → Calls Tryz.prog 105 #[.agg #[.string k, .int .i64 a, .slice rq fs.length rc]] x fun e w' => ∃ bb cc, e = .returned (.agg #[.string k, .int .i64 a, .slice (some ⟨bb, 0, none⟩) fs.length cc]) ∧ w'.ownsRow x.heap.size 72 5 (.slice (some ⟨bb, 0, none⟩) fs.length cc) fs.length (fldRow fs) ∧ Below x.heap.size x w') := fun hr x hx => l07Copy_any k a rq rc fs x (hf.below hx) (by have := rB_len (r := ⟨k, a, fs⟩) hr; simp at this; omega) (by have := rB_len (r := ⟨k, a, fs⟩) hr; simp at this; omega)
  have HLf : Hid (rwB k a fs = true → ∀ x, Below w.heap.size w x → Calls Tryz.prog 90 #[.agg #[.string k, .int .i64 a, .slice rq fs.length rc]] x fun e w' => e = .returned (.string (lfB k a fs)) ∧ Below x.heap.size x w') := fun hr x hx => by
    have h := l07Leaf_any k a rq rc fs x (hf.below hx) hfc hr
    rwa [show one101 ++ digB (lfT k a fs) = lfB k a fs from (if_pos hr).symm] at h
  have HLn : Hid (lgB rs lv now = true → rs.length ≤ 6 ∧ lv.length ≤ 64) := fun hl => ⟨(lg_right hl).1, (lg_right hl).2.1⟩
  have HC : Hid (laC rs lv now ⟨k, a, fs⟩ = if (lgB rs lv now && (rwB k a fs && (frsB fs && (a == now)))) = true then (if rs.length = 6 then 9 else 0) else 1) := rfl
  have HBd : Hid (∀ C, laC rs lv now ⟨k, a, fs⟩ = C → C ≠ 0 → laR rs lv now ⟨k, a, fs⟩ = [] ∧ laL rs lv now ⟨k, a, fs⟩ = [] ∧ laN rs lv now ⟨k, a, fs⟩ = 0) := fun C h hC => la_bad h hC
  have HGd : Hid (laC rs lv now ⟨k, a, fs⟩ = 0 → laR rs lv now ⟨k, a, fs⟩ = rs ++ [⟨k, a, fs⟩] ∧ laL rs lv now ⟨k, a, fs⟩ = lv ++ [lfB k a fs] ∧ laN rs lv now ⟨k, a, fs⟩ = now) := fun h => la_good h
  clear hW3 hA hf hk hz
  generalize laC rs lv now ⟨k, a, fs⟩ = CC at *
  generalize laR rs lv now ⟨k, a, fs⟩ = RR at *
  generalize laL rs lv now ⟨k, a, fs⟩ = LL at *
  generalize laN rs lv now ⟨k, a, fs⟩ = NN at *
  generalize lfB k a fs = LF at *
  generalize lgB rs lv now = A at *
  generalize rwB k a fs = B at *
  generalize frsB fs = G at *
  have HZ : Hid (∀ x, LgO w.heap.size [] [] (.slice none 0 0) (.slice none 0 0) x) := fun x => LgO.nil _ _
  obtain ⟨x0, x1, x2, x3, x4, x5⟩ := H3.out.six
  obtain ⟨i0, i1, i2, i3, i4, i5, i6, i7⟩ := H3.out.res
  go_enter Tryz.func61, Tryz.ntmps61
  go_upto_region 1 with fail
  rw [← HW3.out]
  go_wp2_with fail
  with_reducible refine hR.mono ?_
  rintro e y1 ⟨rfl, z1⟩
  have H4 : Hid (LaB w q rs.length cq p lv.length cp now k a rq fs.length rc y1) := H3.out.below z1
  clear x0 x1 x2 x3 x4 x5 i0 i1 i2 i3 i4 i5 i6 i7 H3 z1 hR
  obtain ⟨x0, x1, x2, x3, x4, x5⟩ := H4.out.six
  obtain ⟨i0, i1, i2, i3, i4, i5, i6, i7⟩ := H4.out.res
  cases A
  case false =>
    have hc : CC = 1 := by rw [HC.out]; rfl
    obtain ⟨b1, b2, b3⟩ := HBd.out 1 hc (by decide)
    subst hc b1 b2 b3
    go_wp2_with fail
    with_reducible refine (l09Ill_any 1 y1).mono ?_
    rintro e yi ⟨rfl, zi⟩
    have Hi : Hid (LaB w q rs.length cq p lv.length cp now k a rq fs.length rc yi) := H4.out.below zi
    clear x0 x1 x2 x3 x4 x5 i0 i1 i2 i3 i4 i5 i6 i7 zi
    obtain ⟨i0, i1, i2, i3, i4, i5, i6, i7⟩ := Hi.out.res
    go_wp2_with fail
    obtain ⟨K, HLo, HEd⟩ := la_put Hi.out.rs (by omega) Hi.out.bel (HZ.out yi) (.slice none 0 0) (.slice none 0 0) (.int .i64 0) (.int .i64 1)
    generalize ((((yi.setCell ⟨w.heap.size + 2, 0, none⟩ (.slice none 0 0)).setCell ⟨w.heap.size + 2, 1, none⟩ (.slice none 0 0)).setCell ⟨w.heap.size + 2, 2, none⟩ (.int .i64 0)).setCell ⟨w.heap.size + 2, 3, none⟩ (.int .i64 1)) = zz at *
    have HLp : Hid (LgO _ _ _ _ _ zz) := HLo
    have HEn : Hid (Below w.heap.size w zz) := HEd
    have k0 : zz.cell? ⟨w.heap.size + 2, 0, none⟩ = some (.slice none 0 0) := K.cell 0
    have k1 : zz.cell? ⟨w.heap.size + 2, 1, none⟩ = some (.slice none 0 0) := K.cell 1
    have k2 : zz.cell? ⟨w.heap.size + 2, 2, none⟩ = some (.int .i64 0) := K.cell 2
    have k3 : zz.cell? ⟨w.heap.size + 2, 3, none⟩ = some (.int .i64 1) := K.cell 3
    refine bodyPost_ret (v := .agg #[.slice none 0 0, .slice none 0 0, .int .i64 0, .int .i64 1]) (by simp [results, Tryz.results61, go_sem, k0, k1, k2, k3]) rfl ?_
    exact ⟨⟨_, _, [], rfl, rfl, HLp.out⟩, HEn.out⟩
  have hq := HRR.out y1 H4.out.bel
  go_wp2_with fail
  with_reducible refine hq.mono ?_
  rintro e y2 ⟨rfl, zq⟩
  have H5 : Hid (LaB w q rs.length cq p lv.length cp now k a rq fs.length rc y2) := H4.out.below zq
  clear x0 x1 x2 x3 x4 x5 i0 i1 i2 i3 i4 i5 i6 i7 hq zq
  obtain ⟨x0, x1, x2, x3, x4, x5⟩ := H5.out.six
  obtain ⟨i0, i1, i2, i3, i4, i5, i6, i7⟩ := H5.out.res
  cases B
  case false =>
    have hc : CC = 1 := by rw [HC.out]; rfl
    obtain ⟨b1, b2, b3⟩ := HBd.out 1 hc (by decide)
    subst hc b1 b2 b3
    go_wp2_with fail
    with_reducible refine (l09Ill_any 1 y2).mono ?_
    rintro e yi ⟨rfl, zi⟩
    have Hi : Hid (LaB w q rs.length cq p lv.length cp now k a rq fs.length rc yi) := H5.out.below zi
    clear x0 x1 x2 x3 x4 x5 i0 i1 i2 i3 i4 i5 i6 i7 zi
    obtain ⟨i0, i1, i2, i3, i4, i5, i6, i7⟩ := Hi.out.res
    go_wp2_with fail
    obtain ⟨K, HLo, HEd⟩ := la_put Hi.out.rs (by omega) Hi.out.bel (HZ.out yi) (.slice none 0 0) (.slice none 0 0) (.int .i64 0) (.int .i64 1)
    generalize ((((yi.setCell ⟨w.heap.size + 2, 0, none⟩ (.slice none 0 0)).setCell ⟨w.heap.size + 2, 1, none⟩ (.slice none 0 0)).setCell ⟨w.heap.size + 2, 2, none⟩ (.int .i64 0)).setCell ⟨w.heap.size + 2, 3, none⟩ (.int .i64 1)) = zz at *
    have HLp : Hid (LgO _ _ _ _ _ zz) := HLo
    have HEn : Hid (Below w.heap.size w zz) := HEd
    have k0 : zz.cell? ⟨w.heap.size + 2, 0, none⟩ = some (.slice none 0 0) := K.cell 0
    have k1 : zz.cell? ⟨w.heap.size + 2, 1, none⟩ = some (.slice none 0 0) := K.cell 1
    have k2 : zz.cell? ⟨w.heap.size + 2, 2, none⟩ = some (.int .i64 0) := K.cell 2
    have k3 : zz.cell? ⟨w.heap.size + 2, 3, none⟩ = some (.int .i64 1) := K.cell 3
    refine bodyPost_ret (v := .agg #[.slice none 0 0, .slice none 0 0, .int .i64 0, .int .i64 1]) (by simp [results, Tryz.results61, go_sem, k0, k1, k2, k3]) rfl ?_
    exact ⟨⟨_, _, [], rfl, rfl, HLp.out⟩, HEn.out⟩
  have hq := HFr.out y2 H5.out.bel
  go_wp2_with fail
  with_reducible refine hq.mono ?_
  rintro e y3 ⟨rfl, zq⟩
  have H6 : Hid (LaB w q rs.length cq p lv.length cp now k a rq fs.length rc y3) := H5.out.below zq
  clear x0 x1 x2 x3 x4 x5 i0 i1 i2 i3 i4 i5 i6 i7 hq zq
  obtain ⟨x0, x1, x2, x3, x4, x5⟩ := H6.out.six
  obtain ⟨i0, i1, i2, i3, i4, i5, i6, i7⟩ := H6.out.res
  cases G
  case false =>
    have hc : CC = 1 := by rw [HC.out]; rfl
    obtain ⟨b1, b2, b3⟩ := HBd.out 1 hc (by decide)
    subst hc b1 b2 b3
    go_wp2_with fail
    with_reducible refine (l09Ill_any 1 y3).mono ?_
    rintro e yi ⟨rfl, zi⟩
    have Hi : Hid (LaB w q rs.length cq p lv.length cp now k a rq fs.length rc yi) := H6.out.below zi
    clear x0 x1 x2 x3 x4 x5 i0 i1 i2 i3 i4 i5 i6 i7 zi
    obtain ⟨i0, i1, i2, i3, i4, i5, i6, i7⟩ := Hi.out.res
    go_wp2_with fail
    obtain ⟨K, HLo, HEd⟩ := la_put Hi.out.rs (by omega) Hi.out.bel (HZ.out yi) (.slice none 0 0) (.slice none 0 0) (.int .i64 0) (.int .i64 1)
    generalize ((((yi.setCell ⟨w.heap.size + 2, 0, none⟩ (.slice none 0 0)).setCell ⟨w.heap.size + 2, 1, none⟩ (.slice none 0 0)).setCell ⟨w.heap.size + 2, 2, none⟩ (.int .i64 0)).setCell ⟨w.heap.size + 2, 3, none⟩ (.int .i64 1)) = zz at *
    have HLp : Hid (LgO _ _ _ _ _ zz) := HLo
    have HEn : Hid (Below w.heap.size w zz) := HEd
    have k0 : zz.cell? ⟨w.heap.size + 2, 0, none⟩ = some (.slice none 0 0) := K.cell 0
    have k1 : zz.cell? ⟨w.heap.size + 2, 1, none⟩ = some (.slice none 0 0) := K.cell 1
    have k2 : zz.cell? ⟨w.heap.size + 2, 2, none⟩ = some (.int .i64 0) := K.cell 2
    have k3 : zz.cell? ⟨w.heap.size + 2, 3, none⟩ = some (.int .i64 1) := K.cell 3
    refine bodyPost_ret (v := .agg #[.slice none 0 0, .slice none 0 0, .int .i64 0, .int .i64 1]) (by simp [results, Tryz.results61, go_sem, k0, k1, k2, k3]) rfl ?_
    exact ⟨⟨_, _, [], rfl, rfl, HLp.out⟩, HEn.out⟩
  cases hN : (a == now)
  case false =>
    have fN : ¬ a = now := by simpa using hN
    have hc : CC = 1 := by rw [HC.out]; rw [hN]; rfl
    obtain ⟨b1, b2, b3⟩ := HBd.out 1 hc (by decide)
    subst hc b1 b2 b3
    go_wp2_with fail
    with_reducible refine (l09Ill_any 1 y3).mono ?_
    rintro e yi ⟨rfl, zi⟩
    have Hi : Hid (LaB w q rs.length cq p lv.length cp now k a rq fs.length rc yi) := H6.out.below zi
    clear x0 x1 x2 x3 x4 x5 i0 i1 i2 i3 i4 i5 i6 i7 zi
    obtain ⟨i0, i1, i2, i3, i4, i5, i6, i7⟩ := Hi.out.res
    go_wp2_with fail
    obtain ⟨K, HLo, HEd⟩ := la_put Hi.out.rs (by omega) Hi.out.bel (HZ.out yi) (.slice none 0 0) (.slice none 0 0) (.int .i64 0) (.int .i64 1)
    generalize ((((yi.setCell ⟨w.heap.size + 2, 0, none⟩ (.slice none 0 0)).setCell ⟨w.heap.size + 2, 1, none⟩ (.slice none 0 0)).setCell ⟨w.heap.size + 2, 2, none⟩ (.int .i64 0)).setCell ⟨w.heap.size + 2, 3, none⟩ (.int .i64 1)) = zz at *
    have HLp : Hid (LgO _ _ _ _ _ zz) := HLo
    have HEn : Hid (Below w.heap.size w zz) := HEd
    have k0 : zz.cell? ⟨w.heap.size + 2, 0, none⟩ = some (.slice none 0 0) := K.cell 0
    have k1 : zz.cell? ⟨w.heap.size + 2, 1, none⟩ = some (.slice none 0 0) := K.cell 1
    have k2 : zz.cell? ⟨w.heap.size + 2, 2, none⟩ = some (.int .i64 0) := K.cell 2
    have k3 : zz.cell? ⟨w.heap.size + 2, 3, none⟩ = some (.int .i64 1) := K.cell 3
    refine bodyPost_ret (v := .agg #[.slice none 0 0, .slice none 0 0, .int .i64 0, .int .i64 1]) (by simp [results, Tryz.results61, go_sem, k0, k1, k2, k3]) rfl ?_
    exact ⟨⟨_, _, [], rfl, rfl, HLp.out⟩, HEn.out⟩
  obtain rfl : a = now := by simpa using hN
  clear hN
  by_cases h6 : rs.length = 6
  case pos =>
    have d6 : decide (6 ≤ (rs.length : Int)) = true := decide_eq_true (by omega)
    have d7 : (rs.length : Int) = 6 := by omega
    have hw : (if ((true && (true && (true && (a == a)))) : Bool) = true then (if rs.length = 6 then (9 : Int) else 0) else 1) = 9 := by simp [h6]
    have HW9 : Hid ((if ((true && (true && (true && (a == a)))) : Bool) = true then (if rs.length = 6 then (9 : Int) else 0) else 1) = 9) := hw
    clear hw h6
    have hc : CC = 9 := by rw [HC.out]; exact HW9.out
    obtain ⟨b1, b2, b3⟩ := HBd.out 9 hc (by decide)
    subst hc b1 b2 b3
    go_wp2_with fail
    with_reducible refine (l09Ill_any 9 y3).mono ?_
    rintro e yi ⟨rfl, zi⟩
    have Hi : Hid (LaB w q rs.length cq p lv.length cp a k a rq fs.length rc yi) := H6.out.below zi
    clear x0 x1 x2 x3 x4 x5 i0 i1 i2 i3 i4 i5 i6 i7 zi
    obtain ⟨i0, i1, i2, i3, i4, i5, i6, i7⟩ := Hi.out.res
    go_wp2_with fail
    obtain ⟨K, HLo, HEd⟩ := la_put Hi.out.rs (by omega) Hi.out.bel (HZ.out yi) (.slice none 0 0) (.slice none 0 0) (.int .i64 0) (.int .i64 9)
    generalize ((((yi.setCell ⟨w.heap.size + 2, 0, none⟩ (.slice none 0 0)).setCell ⟨w.heap.size + 2, 1, none⟩ (.slice none 0 0)).setCell ⟨w.heap.size + 2, 2, none⟩ (.int .i64 0)).setCell ⟨w.heap.size + 2, 3, none⟩ (.int .i64 9)) = zz at *
    have HLp : Hid (LgO _ _ _ _ _ zz) := HLo
    have HEn : Hid (Below w.heap.size w zz) := HEd
    have k0 : zz.cell? ⟨w.heap.size + 2, 0, none⟩ = some (.slice none 0 0) := K.cell 0
    have k1 : zz.cell? ⟨w.heap.size + 2, 1, none⟩ = some (.slice none 0 0) := K.cell 1
    have k2 : zz.cell? ⟨w.heap.size + 2, 2, none⟩ = some (.int .i64 0) := K.cell 2
    have k3 : zz.cell? ⟨w.heap.size + 2, 3, none⟩ = some (.int .i64 9) := K.cell 3
    refine bodyPost_ret (v := .agg #[.slice none 0 0, .slice none 0 0, .int .i64 0, .int .i64 9]) (by simp [results, Tryz.results61, go_sem, k0, k1, k2, k3]) rfl ?_
    exact ⟨⟨_, _, [], rfl, rfl, HLp.out⟩, HEn.out⟩
  obtain ⟨hn6, hn64⟩ := HLn.out (by simp)
  have d6 : decide (6 ≤ (rs.length : Int)) = false := decide_eq_false (by omega)
  have d7 : ¬ (rs.length : Int) = 6 := by omega
  have hc : CC = 0 := by rw [HC.out]; simp [h6]
  obtain ⟨b1, b2, b3⟩ := HGd.out hc
  have b4 := b3.symm
  subst hc b1 b2 b4
  have hCp := HCp.out (by simp) y3 H6.out.bel
  clear HC HBd HGd
  go_wp2_with fail
  with_reducible refine hCp.mono ?_
  rintro e y4 ⟨v1, v2, xs, rfl, hx, ho, z4⟩
  obtain ⟨z1, zc, rfl, _⟩ := ho.rws.form
  obtain ⟨z2, zd, rfl, _, _⟩ := ownS_form ho.lvs
  have hxl : xs.length = rs.length := by rw [← hx, List.length_map]
  have HX : Hid (xs.map (·.1) = rs) := hx
  have Hxs : Hid (xs.length + 1 ≤ 1048576 ∧ lv.length + 1 ≤ 1048576) := ⟨by omega, by omega⟩
  have HC5 : Hid (LgC y3 y4.heap.size xs lv a (.slice z1 xs.length zc) (.slice z2 lv.length zd) (y4.alloc (.cells #[.slice z1 xs.length zc, .slice z2 lv.length zd, .int .i64 a] 26))) := ⟨Bxs.new _ _ _, ho.below (alB (Below.refl _ _) _), z4.size, alB z4 _⟩
  have HY3 : Hid (w.heap.size + 2 < y3.heap.size) := H6.out.rs.lt
  clear x0 x1 x2 x3 x4 x5 i0 i1 i2 i3 i4 i5 i6 i7 hCp hx ho z4 hxl hn6 hn64 d6 d7 h6
  go_upto_region 6 with fail
  generalize y4.heap.size = E at *
  generalize y4.alloc (.cells #[.slice z1 xs.length zc, .slice z2 lv.length zd, .int .i64 a] 26) = y5 at *
  have HRw : Hid (∀ x, Below y3.heap.size y3 x → Bxs x (w.heap.size + 1) 70 #[.string k, .int .i64 a, .slice rq fs.length rc] ∧ Below w.heap.size w x) := fun x hb => ⟨H6.out.rw.below hb, chainB H6.out.bel hb⟩
  have hCr := HCr.out (by simp)
  have HQr : Hid (∀ x, Below y3.heap.size y3 x → Calls Tryz.prog 105 #[.agg #[.string k, .int .i64 a, .slice rq fs.length rc]] x fun e w' => ∃ bb cc, e = .returned (.agg #[.string k, .int .i64 a, .slice (some ⟨bb, 0, none⟩) fs.length cc]) ∧ w'.ownsRow x.heap.size 72 5 (.slice (some ⟨bb, 0, none⟩) fs.length cc) fs.length (fldRow fs) ∧ Below x.heap.size x w') := fun x hb => hCr x (HRw.out x hb).2
  have hLf := HLf.out (by simp)
  have HQl : Hid (∀ x, Below y3.heap.size y3 x → Calls Tryz.prog 90 #[.agg #[.string k, .int .i64 a, .slice rq fs.length rc]] x fun e w' => e = .returned (.string LF) ∧ Below x.heap.size x w') := fun x hb => hLf x (HRw.out x hb).2
  clear hCr hLf HCr HLf
  have nF : some (w.heap.size + 1) ≠ (Value.slice z1 xs.length zc).ownBlock := fun e => by have := (HC5.out.lg.rws.lt.1 _ e.symm).1; have := HY3.out; omega
  have HNF : Hid (some (w.heap.size + 1) ≠ (Value.slice z1 xs.length zc).ownBlock) := nF
  have nF2 : some (w.heap.size + 1) ≠ (Value.slice z2 lv.length zd).ownBlock := fun e => by have := (HC5.out.lg.lvs.lt _ e.symm).1; have := HY3.out; omega
  have HNF2 : Hid (some (w.heap.size + 1) ≠ (Value.slice z2 lv.length zd).ownBlock) := nF2
  clear nF nF2
  have HCd := HC5.out.below (Below.refl _ _).drew
  refine region_till (fun w' => w'.cell? ⟨E, 0, none⟩ = some (.slice z1 xs.length zc) ∧ w'.cell? ⟨w.heap.size + 1, 0, none⟩ = some (.string k) ∧ w'.cell? ⟨w.heap.size + 1, 1, none⟩ = some (.int .i64 a) ∧ w'.cell? ⟨w.heap.size + 1, 2, none⟩ = some (.slice rq fs.length rc)) 7 (by kernel_rfl) ⟨HCd.cells.1, (HRw.out _ HCd.bel).1.cell 0, (HRw.out _ HCd.bel).1.cell 1, (HRw.out _ HCd.bel).1.cell 2⟩ (fun hHeld => ?_)
  generalize y5.drew = y0 at *
  refine till_take 0 (v := ?_) rfl (by kernel_rfl) (by kernel_rfl) (by kernel_rfl) (by kernel_rfl) (fun _ _ _ h => h) hHeld (Or.inl ⟨by rfl, ?_⟩) ?_
  rotate_left
  · (intro w hSw; (try dsimp only at hSw); go_simp; try with_reducible rfl)
  simp only [Act.put, List.setIfInBounds_toArray, List.set_cons_zero, List.set_cons_succ]
  refine till_take 1 (v := ?_) rfl (by kernel_rfl) (by kernel_rfl) (by kernel_rfl) (by kernel_rfl) (fun _ _ _ h => h) hHeld (Or.inl ⟨by rfl, ?_⟩) ?_
  rotate_left
  · (intro w hSw; (try dsimp only at hSw); go_simp; try with_reducible rfl)
  simp only [Act.put, List.setIfInBounds_toArray, List.set_cons_zero, List.set_cons_succ]
  refine till_take 2 (v := ?_) rfl (by kernel_rfl) (by kernel_rfl) (by kernel_rfl) (by kernel_rfl) (fun _ _ _ h => h) hHeld (Or.inl ⟨by rfl, ?_⟩) ?_
  rotate_left
  · (intro w hSw; (try dsimp only at hSw); go_simp; try with_reducible rfl)
  simp only [Act.put, List.setIfInBounds_toArray, List.set_cons_zero, List.set_cons_succ]
  refine till_ready 3 rfl (by kernel_rfl) (fun K hK => ?_)
  go_simp
  (go_at_call 105; refine (HQr.out _ HCd.bel).mono ?_; rintro e y1 ⟨bb, cc, rfl, own1, zz1⟩)
  have HC1 := HCd.below zz1
  refine hK.out _ _ ⟨HC1.cells.1, (HRw.out _ HC1.bel).1.cell 0, (HRw.out _ HC1.bel).1.cell 1, (HRw.out _ HC1.bel).1.cell 2⟩ (fun hHeld => ?_)
  clear hK K
  try simp only [Act.put, List.setIfInBounds_toArray, List.set_cons_zero, List.set_cons_succ]
  obtain ⟨q2, d2, y2, hrun, HC2, bl2, k20, k21, gr2⟩ := HCd.app zz1 ⟨k, a, fs⟩ (some ⟨bb, 0, none⟩) cc own1 Hxs.out.1
  have HCa := HC1.below (alB (Below.refl _ _) (.cells #[.string k, .int .i64 a, .slice (some ⟨bb, 0, none⟩) fs.length cc] 70))
  refine till_ready 4 rfl (by kernel_rfl) (fun K hK => ?_)
  go_simp
  refine hK.out _ _ ⟨HCa.cells.1, (HRw.out _ HCa.bel).1.cell 0, (HRw.out _ HCa.bel).1.cell 1, (HRw.out _ HCa.bel).1.cell 2⟩ (fun hHeld => ?_)
  clear hK K
  try simp only [Act.put, List.setIfInBounds_toArray, List.set_cons_zero, List.set_cons_succ]
  refine till_ready 5 rfl (by kernel_rfl) (fun K hK => ?_)
  refine step_append_run rfl _ _ 23 rfl (.slice z1 xs.length zc) (.slice (some ⟨y1.heap.size, 0, none⟩) 1 1) _ _ rfl rfl hrun ?_
  refine hK.out _ _ ⟨k20, ((HRw.out _ HCa.bel).1.grown gr2 HNF.out).cell 0, ((HRw.out _ HCa.bel).1.grown gr2 HNF.out).cell 1, ((HRw.out _ HCa.bel).1.grown gr2 HNF.out).cell 2⟩ (fun hHeld => ?_)
  clear hK K
  try simp only [Act.put, List.setIfInBounds_toArray, List.set_cons_zero, List.set_cons_succ]
  refine till_take 6 (v := ?_) rfl (by kernel_rfl) (by kernel_rfl) (by kernel_rfl) (by kernel_rfl) (fun _ _ _ h => h) hHeld (Or.inl ⟨by rfl, ?_⟩) ?_
  rotate_left
  · (intro w hSw; (try dsimp only at hSw); go_simp; try with_reducible rfl)
  simp only [Act.put, List.setIfInBounds_toArray, List.set_cons_zero, List.set_cons_succ]
  refine till_last rfl (by kernel_rfl) (by kernel_rfl) (fun K hK => ?_)
  go_simp
  refine hK.out _ _ ?_
  clear hK K hHeld
  have HC6 : Hid (LgC y3 E (xs ++ [(⟨k, a, fs⟩, .slice (some ⟨bb, 0, none⟩) fs.length cc)]) lv a (.slice q2 (xs.length + 1) d2) (.slice z2 lv.length zd) (y2.setCell ⟨E, 0, none⟩ (.slice q2 (xs.length + 1) d2))) := HC2
  clear HC2 hrun k20 k21 bl2 own1 zz1 HC1 HCd HCa gr2 HC5
  go_upto_region 7 with fail
  generalize y2.setCell ⟨E, 0, none⟩ (.slice q2 (xs.length + 1) d2) = y6 at *
  have HCd := HC6.out.below (Below.refl _ _).drew
  refine region_till (fun w' => w'.cell? ⟨E, 1, none⟩ = some (.slice z2 lv.length zd) ∧ w'.cell? ⟨w.heap.size + 1, 0, none⟩ = some (.string k) ∧ w'.cell? ⟨w.heap.size + 1, 1, none⟩ = some (.int .i64 a) ∧ w'.cell? ⟨w.heap.size + 1, 2, none⟩ = some (.slice rq fs.length rc)) 7 (by kernel_rfl) ⟨HCd.cells.2.1, (HRw.out _ HCd.bel).1.cell 0, (HRw.out _ HCd.bel).1.cell 1, (HRw.out _ HCd.bel).1.cell 2⟩ (fun hHeld => ?_)
  generalize y6.drew = y7 at *
  refine till_take 0 (v := ?_) rfl (by kernel_rfl) (by kernel_rfl) (by kernel_rfl) (by kernel_rfl) (fun _ _ _ h => h) hHeld (Or.inl ⟨by rfl, ?_⟩) ?_
  rotate_left
  · (intro w hSw; (try dsimp only at hSw); go_simp; try with_reducible rfl)
  simp only [Act.put, List.setIfInBounds_toArray, List.set_cons_zero, List.set_cons_succ]
  refine till_take 1 (v := ?_) rfl (by kernel_rfl) (by kernel_rfl) (by kernel_rfl) (by kernel_rfl) (fun _ _ _ h => h) hHeld (Or.inl ⟨by rfl, ?_⟩) ?_
  rotate_left
  · (intro w hSw; (try dsimp only at hSw); go_simp; try with_reducible rfl)
  simp only [Act.put, List.setIfInBounds_toArray, List.set_cons_zero, List.set_cons_succ]
  refine till_take 2 (v := ?_) rfl (by kernel_rfl) (by kernel_rfl) (by kernel_rfl) (by kernel_rfl) (fun _ _ _ h => h) hHeld (Or.inl ⟨by rfl, ?_⟩) ?_
  rotate_left
  · (intro w hSw; (try dsimp only at hSw); go_simp; try with_reducible rfl)
  simp only [Act.put, List.setIfInBounds_toArray, List.set_cons_zero, List.set_cons_succ]
  refine till_ready 3 rfl (by kernel_rfl) (fun K hK => ?_)
  go_simp
  (go_at_call 90; refine (HQl.out _ HCd.bel).mono ?_; rintro e y8 ⟨rfl, zz1⟩)
  have HC1 := HCd.below zz1
  refine hK.out _ _ ⟨HC1.cells.2.1, (HRw.out _ HC1.bel).1.cell 0, (HRw.out _ HC1.bel).1.cell 1, (HRw.out _ HC1.bel).1.cell 2⟩ (fun hHeld => ?_)
  clear hK K
  try simp only [Act.put, List.setIfInBounds_toArray, List.set_cons_zero, List.set_cons_succ]
  obtain ⟨gq, d3, y9, hrun, HC2, bl2, k20, k21, gr2⟩ := HC1.leaf LF Hxs.out.2
  have HCa := HC1.below (alB (Below.refl _ _) (.cells #[.string LF] 9))
  refine till_ready 4 rfl (by kernel_rfl) (fun K hK => ?_)
  go_simp
  refine hK.out _ _ ⟨HCa.cells.2.1, (HRw.out _ HCa.bel).1.cell 0, (HRw.out _ HCa.bel).1.cell 1, (HRw.out _ HCa.bel).1.cell 2⟩ (fun hHeld => ?_)
  clear hK K
  try simp only [Act.put, List.setIfInBounds_toArray, List.set_cons_zero, List.set_cons_succ]
  refine till_ready 5 rfl (by kernel_rfl) (fun K hK => ?_)
  refine step_append_run rfl _ _ 24 rfl (.slice z2 lv.length zd) (.slice (some ⟨y8.heap.size, 0, none⟩) 1 1) _ _ rfl rfl hrun ?_
  refine hK.out _ _ ⟨k20, ((HRw.out _ HCa.bel).1.grown gr2 HNF2.out).cell 0, ((HRw.out _ HCa.bel).1.grown gr2 HNF2.out).cell 1, ((HRw.out _ HCa.bel).1.grown gr2 HNF2.out).cell 2⟩ (fun hHeld => ?_)
  clear hK K
  try simp only [Act.put, List.setIfInBounds_toArray, List.set_cons_zero, List.set_cons_succ]
  refine till_take 6 (v := ?_) rfl (by kernel_rfl) (by kernel_rfl) (by kernel_rfl) (by kernel_rfl) (fun _ _ _ h => h) hHeld (Or.inl ⟨by rfl, ?_⟩) ?_
  rotate_left
  · (intro w hSw; (try dsimp only at hSw); go_simp; try with_reducible rfl)
  simp only [Act.put, List.setIfInBounds_toArray, List.set_cons_zero, List.set_cons_succ]
  refine till_last rfl (by kernel_rfl) (by kernel_rfl) (fun K hK => ?_)
  go_simp
  refine hK.out _ _ ?_
  clear hK K hHeld
  have HC8 : Hid (LgC y3 E (xs ++ [(⟨k, a, fs⟩, .slice (some ⟨bb, 0, none⟩) fs.length cc)]) (lv ++ [LF]) a (.slice q2 (xs.length + 1) d2) (.slice (some ⟨gq, 0, none⟩) (lv.length + 1) d3) (y9.setCell ⟨E, 1, none⟩ (.slice (some ⟨gq, 0, none⟩) (lv.length + 1) d3))) := HC2
  clear HC2 hrun k20 k21 bl2 zz1 HC1 HCd HCa gr2 HC6
  go_upto_region 8 with fail
  generalize y9.setCell ⟨E, 1, none⟩ (.slice (some ⟨gq, 0, none⟩) (lv.length + 1) d3) = yA at *
  obtain ⟨p0, p1, p2, g0, g1, g2⟩ := HC8.out.cells
  have HA8 : Hid (LaB w q rs.length cq p lv.length cp a k a rq fs.length rc yA) := ⟨H6.out.lg.below HC8.out.bel, H6.out.rw.below HC8.out.bel, H6.out.rs.below HC8.out.bel, chainB H6.out.bel HC8.out.bel⟩
  have HO8 : Hid (LgO w.heap.size (xs ++ [(⟨k, a, fs⟩, .slice (some ⟨bb, 0, none⟩) fs.length cc)]) (lv ++ [LF]) (.slice q2 (xs.length + 1) d2) (.slice (some ⟨gq, 0, none⟩) (lv.length + 1) d3) yA) := HC8.out.lg.lower (by have := HY3.out; omega)
  have HM8 : Hid ((xs ++ [((⟨k, a, fs⟩ : Rw), (Value.slice (some ⟨bb, 0, none⟩) fs.length cc))]).map (·.1) = rs ++ [⟨k, a, fs⟩]) := by show _ = _; rw [List.map_append, HX.out]; rfl
  obtain ⟨i0, i1, i2, i3, i4, i5, i6, i7⟩ := HA8.out.res
  clear HC8
  go_wp2_with fail
  obtain ⟨K, HLo, HEd⟩ := la_put HA8.out.rs (by omega) HA8.out.bel HO8.out (.slice q2 (xs.length + 1) d2) (.slice (some ⟨gq, 0, none⟩) (lv.length + 1) d3) (.int .i64 a) (.int .i64 0)
  generalize ((((yA.setCell ⟨w.heap.size + 2, 0, none⟩ (.slice q2 (xs.length + 1) d2)).setCell ⟨w.heap.size + 2, 1, none⟩ (.slice (some ⟨gq, 0, none⟩) (lv.length + 1) d3)).setCell ⟨w.heap.size + 2, 2, none⟩ (.int .i64 a)).setCell ⟨w.heap.size + 2, 3, none⟩ (.int .i64 0)) = zz at *
  have HLp : Hid (LgO _ _ _ _ _ zz) := HLo
  have HEn : Hid (Below w.heap.size w zz) := HEd
  have k0 : zz.cell? ⟨w.heap.size + 2, 0, none⟩ = some (.slice q2 (xs.length + 1) d2) := K.cell 0
  have k1 : zz.cell? ⟨w.heap.size + 2, 1, none⟩ = some (.slice (some ⟨gq, 0, none⟩) (lv.length + 1) d3) := K.cell 1
  have k2 : zz.cell? ⟨w.heap.size + 2, 2, none⟩ = some (.int .i64 a) := K.cell 2
  have k3 : zz.cell? ⟨w.heap.size + 2, 3, none⟩ = some (.int .i64 0) := K.cell 3
  refine bodyPost_ret (v := .agg #[.slice q2 (xs.length + 1) d2, .slice (some ⟨gq, 0, none⟩) (lv.length + 1) d3, .int .i64 a, .int .i64 0]) (by simp [results, Tryz.results61, go_sem, k0, k1, k2, k3]) rfl ?_
  exact ⟨⟨_, _, _, rfl, HM8.out, HLp.out⟩, HEn.out⟩
end Go.Proofs.YtnknnfgimiljjaaGreatDoor
/-
  PlaceOf, TombOf and StatusOf, as the specification answers.
  Conditions: the cells hold the rows and leaves.
-/
namespace Go.Proofs.YtnknnfgimiljjaaGreatDoor
open Go.RowKit Go.Lib
set_option linter.unusedVariables false
set_option maxRecDepth 20000

theorem pl_next (lv : List ByteArray) (r : Int) (n i : Nat) (h : i < lv.length) : plFrom r n i (lv.drop i) = if (lkB lv[i] == 1) = true then (if ((n : Int) == r) = true then (i : Int) else plFrom r (n + 1) (i + 1) (lv.drop (i + 1))) else plFrom r n (i + 1) (lv.drop (i + 1)) := by
  rw [List.drop_eq_getElem_cons h, plFrom]
  have e : isRl lv[i] = (lkB lv[i] == 1) := by rw [Bool.eq_iff_iff, beq_iff_eq]; exact (lk_iff1 _).symm
  rw [e]
  simp only [beq_iff_eq]
set_option maxHeartbeats 4000000 in
theorem l09Field_any (p : Option Addr) (lv : List ByteArray) (cp : Nat) (q : Option Addr) (rs : List Rw) (cq : Nat) (now : Int) (r f : Int) (w : World) (hR : RwAt w q rs) (hn : rs.length ≤ 1048576) (hcq : rs.length ≤ cq) (hz : ∀ r ∈ rs, r.fs.length ≤ 1048576) :
    Calls Tryz.prog 110 #[.agg #[.slice q rs.length cq, .slice p lv.length cp, .int .i64 now], .int .i64 r, .int .i64 f] w fun e w' => e = .returned (.int .i64 (fcO rs r f)) ∧ Below w.heap.size w w' := by
  obtain ⟨W1, hW1⟩ : ∃ W1, W1 = w.alloc (.cells #[.slice q rs.length cq, .slice p lv.length cp, .int .i64 now] 26) := ⟨_, rfl⟩
  have HW1 : Hid (W1 = w.alloc (.cells #[.slice q rs.length cq, .slice p lv.length cp, .int .i64 now] 26)) := hW1
  have B1 : Hid (Below w.heap.size w W1) := by rw [hW1]; exact (Below.refl _ _).alloc (Nat.le_refl _) _
  have K1 : Hid (Bxs W1 w.heap.size 26 #[.slice q rs.length cq, .slice p lv.length cp, .int .i64 now]) := by rw [hW1]; exact Bxs.new _ _ _
  have HR : Hid (RwAt W1 q rs) := hR.below B1.out
  have HI1 := l07Is_any r 0 ((rs.length : Int) - 1) W1
  have x0 := K1.out.cell 0
  by_cases h1 : 0 ≤ r ∧ r ≤ (rs.length : Int) - 1
  · rw [decide_eq_true h1] at HI1
    have hrl : r.toNat < rs.length := by omega
    have hre : (r.toNat : Int) = r := Int.toNat_of_nonneg h1.1
    obtain ⟨I, rfl⟩ : ∃ I : Nat, r = (I : Int) := ⟨r.toNat, hre.symm⟩
    rw [Int.toNat_natCast] at hrl
    obtain ⟨b, off, rq, rc, rfl, hb0, c0, c1, c2, c3, c4⟩ := HR.out I hrl
    have hrI : rs.getD I rwZ = rs[I] := by rw [List.getD_eq_getElem?_getD, List.getElem?_eq_getElem hrl, Option.getD_some]
    have hfz := hz _ (List.getElem_mem hrl)
    have HI2 := l07Is_any f 0 ((rs[I].fs.length : Int) - 1) W1
    by_cases h2 : 0 ≤ f ∧ f ≤ (rs[I].fs.length : Int) - 1
    · rw [decide_eq_true h2] at HI2
      have hfl : f.toNat < rs[I].fs.length := by omega
      obtain ⟨F, rfl⟩ : ∃ F : Nat, f = (F : Int) := ⟨f.toNat, (Int.toNat_of_nonneg h2.1).symm⟩
      rw [Int.toNat_natCast] at hfl
      obtain ⟨bf, of, rfl, hbf, f0, f1, f2, f3, f4⟩ := c4 F hfl
      have HV : Hid (fcO rs (I : Int) (F : Int) = if rs[I].fs[F].g = true then 7 else 0) := by
        show _ = _
        unfold fcO fldOf
        rw [if_pos h1, Int.toNat_natCast, Int.toNat_natCast, hrI, if_pos h2, List.getD_eq_getElem?_getD, List.getElem?_eq_getElem hfl, Option.getD_some]
      clear f0 f1 f2 f3
      have iI : (I : Int) < rs.length := by omega
      have fI : (F : Int) < rs[I].fs.length := by omega
      cases hG : rs[I].fs[F].g with
      | true =>
        rw [hG] at f4
        rw [hG, if_pos rfl] at HV
        rw [HV.out]
        clear hfl c4 c0 c1 hG HV
        generalize rs[I].fs.length = FL at *
        clear hW1 hR HR hz c3 hrI h1 h2 hre hb0 hbf
        rw [HW1.out] at x0 c2 f4 HI1 HI2
        go_enter Tryz.func110, Tryz.ntmps110
        go_wp2_with (first | (go_at_call 33; with_reducible refine HI1.mono ?_; rintro e y ⟨rfl, rfl⟩) | (go_at_call 33; with_reducible refine HI2.mono ?_; rintro e y ⟨rfl, rfl⟩))
        go_ret
        rw [← HW1.out]
        exact ⟨rfl, B1.out⟩
      | false =>
        rw [hG] at f4
        rw [hG, if_neg Bool.false_ne_true] at HV
        rw [HV.out]
        clear hfl c4 c0 c1 hG HV
        generalize rs[I].fs.length = FL at *
        clear hW1 hR HR hz c3 hrI h1 h2 hre hb0 hbf
        rw [HW1.out] at x0 c2 f4 HI1 HI2
        go_enter Tryz.func110, Tryz.ntmps110
        go_wp2_with (first | (go_at_call 33; with_reducible refine HI1.mono ?_; rintro e y ⟨rfl, rfl⟩) | (go_at_call 33; with_reducible refine HI2.mono ?_; rintro e y ⟨rfl, rfl⟩))
        go_ret
        rw [← HW1.out]
        exact ⟨rfl, B1.out⟩
    · rw [decide_eq_false h2] at HI2
      have HV : Hid (fcO rs (I : Int) f = 6) := by
        show _ = _
        unfold fcO
        rw [if_pos h1, Int.toNat_natCast, hrI, if_neg h2]
      rw [HV.out]
      have iI : (I : Int) < rs.length := by omega
      generalize rs[I].fs.length = FL at *
      clear hW1 hR HR hz HV c0 c1 c3 c4 hrI h1 h2 hre hb0
      rw [HW1.out] at x0 c2 HI1 HI2
      go_enter Tryz.func110, Tryz.ntmps110
      go_wp2_with (first | (go_at_call 33; with_reducible refine HI1.mono ?_; rintro e y ⟨rfl, rfl⟩) | (go_at_call 33; with_reducible refine HI2.mono ?_; rintro e y ⟨rfl, rfl⟩))
      go_ret
      rw [← HW1.out]
      exact ⟨rfl, B1.out⟩
  · rw [decide_eq_false h1] at HI1
    have HV : Hid (fcO rs r f = 6) := by
      show _ = _
      unfold fcO
      rw [if_neg h1]
    rw [HV.out]
    clear hW1 hR HR hz HV h1
    rw [HW1.out] at x0 HI1
    go_enter Tryz.func110, Tryz.ntmps110
    go_wp2_with (first | (go_at_call 33; with_reducible refine HI1.mono ?_; rintro e y ⟨rfl, rfl⟩))
    go_ret
    rw [← HW1.out]
    exact ⟨rfl, B1.out⟩
end Go.Proofs.YtnknnfgimiljjaaGreatDoor
/-
  What the specification's LogForget answers: 'lfC' and the log, in new memory.
-/
namespace Go.Proofs.YtnknnfgimiljjaaGreatDoor
open Go.RowKit Go.Lib
set_option linter.unusedVariables false
set_option maxRecDepth 20000

set_option maxHeartbeats 8000000 in
theorem specLogForget_any (p : Option Addr) (lv : List ByteArray) (cp : Nat) (q : Option Addr) (rs : List Rw) (cq : Nat) (now r f y : Int) (w : World) (hA : LgAt p lv cp q rs cq w) :
    Calls Tryz.prog 63 #[.agg #[.slice q rs.length cq, .slice p lv.length cp, .int .i64 now], .int .i64 r, .int .i64 f, .int .i64 y] w fun e w' => LgA w.heap.size (lfR rs lv now r f y) (lfL rs lv now r f y) (lfN rs lv now r f y) (lfC rs lv now r f y) e w' ∧ Below w.heap.size w w' := by
  obtain ⟨W2, hW2⟩ : ∃ W2, W2 = (w.alloc (.cells #[.slice q rs.length cq, .slice p lv.length cp, .int .i64 now] 26)).alloc (.cells #[.slice none 0 0, .slice none 0 0, .int .i64 0, .int .i64 0] 45) := ⟨_, rfl⟩
  have HW2 : Hid (W2 = (w.alloc (.cells #[.slice q rs.length cq, .slice p lv.length cp, .int .i64 now] 26)).alloc (.cells #[.slice none 0 0, .slice none 0 0, .int .i64 0, .int .i64 0] 45)) := hW2
  have H2 : Hid (LtB w q rs.length cq p lv.length cp now W2) := lt_boxes w q rs.length cq p lv.length cp now hW2
  have hR : Calls Tryz.prog 21 #[.agg #[.slice q rs.length cq, .slice p lv.length cp, .int .i64 now]] W2 fun e w' => e = .returned (.bool (lgB rs lv now)) ∧ Below W2.heap.size W2 w' := specLogRight_any p lv cp q rs cq now W2 (hA.below H2.out.bel)
  have HIs : Hid (∀ x, Calls Tryz.prog 33 #[.int .i64 y, .int .i64 1, .int .i64 2] x fun e w' => e = .returned (.bool (decide (1 ≤ y ∧ y ≤ 2))) ∧ w' = x) := fun x => l07Is_any y 1 2 x
  have HFd : Hid (∀ x, Below w.heap.size w x → Calls Tryz.prog 110 #[.agg #[.slice q rs.length cq, .slice p lv.length cp, .int .i64 now], .int .i64 r, .int .i64 f] x fun e w' => e = .returned (.int .i64 (fcO rs r f)) ∧ Below x.heap.size x w') := fun x hx => l09Field_any p lv cp q rs cq now r f x (hA.below hx).rw hA.rn hA.rc (fun r hr => (hA.rz r hr).1)
  have HCp : Hid (lgB rs lv now = true → ∀ x, Below w.heap.size w x → Calls Tryz.prog 104 #[.agg #[.slice q rs.length cq, .slice p lv.length cp, .int .i64 now]] x fun e w' => ∃ v1 v2 xs, e = .returned (.agg #[v1, v2, .int .i64 now]) ∧ xs.map (·.1) = rs ∧ LgO x.heap.size xs lv v1 v2 w' ∧ Below x.heap.size x w') := fun hl x hx => by
    obtain ⟨hr1, hr2, hr3⟩ := lg_right hl
    exact l09Copy_any p lv cp q rs cq now x (hA.below hx) (fun r hr => by have := rB_len (hr3 r hr); omega)
  have HFg : Hid (∀ (I J : Nat) (hI : I < rs.length) (hJ : J < rs[I].fs.length), lgB rs lv now = true → rs[I].fs[J].g = false → ∀ x, Below w.heap.size w x → ∀ y q c, Below x.heap.size x y → FldAt y q rs[I].fs → rs[I].fs.length ≤ c → Calls Tryz.prog 115 #[.agg #[.string rs[I].k, .int .i64 rs[I].a, .slice q rs[I].fs.length c], .int .i64 J] y fun e w' => ∃ q' c', e = .returned (.agg #[.string rs[I].k, .int .i64 rs[I].a, .slice q' (rs[I].fs.set J (goneF rs[I].fs[J])).length c', .int .i64 0]) ∧ w'.ownsRow y.heap.size 72 5 (.slice q' (rs[I].fs.set J (goneF rs[I].fs[J])).length c') (rs[I].fs.set J (goneF rs[I].fs[J])).length (fldRow (rs[I].fs.set J (goneF rs[I].fs[J]))) ∧ Below y.heap.size y w') := fun I J hI hJ hl hg x hx yy qq c hb hF hc => by
    have hz := hA.rz _ (List.getElem_mem hI)
    have h := specForget_any rs[I].k rs[I].a qq c rs[I].fs J yy hF hz.1 hc hz.2.1 hz.2.2
    obtain ⟨e1, e2, e3, e4⟩ := forget_post (k := rs[I].k) (a := rs[I].a) ((lg_right hl).2.2 _ (List.getElem_mem hI)) hJ hg
    rw [e1, e2, e3, e4] at h
    refine h.mono ?_
    rintro e w' ⟨v, rfl, own, b⟩
    obtain ⟨q', c', rfl, _, _⟩ := ownF_form own
    exact ⟨q', c', rfl, own, b⟩
  have HTx : Hid (∀ (I J : Nat) (hI : I < rs.length) (hJ : J < rs[I].fs.length), lgB rs lv now = true → (1 ≤ y ∧ y ≤ 2) → ∀ x, Calls Tryz.prog 114 #[.agg #[.int .i64 I, .int .i64 J, .int .i64 y, .int .i64 now]] x fun e w' => e = .returned (.string (tmRaw ⟨I, J, y, now⟩)) ∧ Below x.heap.size x w') := fun I J hI hJ hl hy x => l08Text_any ⟨I, J, y, now⟩ x (lg_tomb hl hI hJ hy)
  have HLn : Hid (lgB rs lv now = true → lv.length ≤ 64) := fun hl => (lg_right hl).2.1
  have HC : Hid (lfC rs lv now r f y = if (lgB rs lv now && decide (1 ≤ y ∧ y ≤ 2)) = true then fcO rs r f else 1) := rfl
  have HBd : Hid (∀ C, lfC rs lv now r f y = C → C ≠ 0 → lfR rs lv now r f y = [] ∧ lfL rs lv now r f y = [] ∧ lfN rs lv now r f y = 0) := fun C h hC => lf_bad h hC
  have HGd : Hid (lfC rs lv now r f y = 0 → lfR rs lv now r f y = rs.set r.toNat (fgt rs r f) ∧ lfL rs lv now r f y = lv ++ [tmRaw ⟨r, f, y, now⟩] ∧ lfN rs lv now r f y = now) := fun h => lf_good h
  have HZr : Hid (fcO rs r f = 0 → ∃ (I J : Nat) (hI : I < rs.length) (hJ : J < rs[I].fs.length), r = I ∧ f = J ∧ rs[I].fs[J].g = false) := fun h => fc_zero h
  have HCs : Hid (fcO rs r f = 0 ∨ fcO rs r f = 7 ∨ fcO rs r f = 6) := fcO_cases rs r f
  clear hW2 hA
  generalize lfC rs lv now r f y = CC at *
  generalize lfR rs lv now r f y = RR at *
  generalize lfL rs lv now r f y = LL at *
  generalize lfN rs lv now r f y = NN at *
  
  generalize fcO rs r f = FC at *
  generalize lgB rs lv now = A at *
  have HZ : Hid (∀ x, LgO w.heap.size [] [] (.slice none 0 0) (.slice none 0 0) x) := fun x => LgO.nil _ _
  obtain ⟨x0, x1, x2⟩ := H2.out.thr
  obtain ⟨i0, i1, i2, i3, i4, i5, i6, i7⟩ := H2.out.res
  go_enter Tryz.func63, Tryz.ntmps63
  go_upto_region 1 with fail
  rw [← HW2.out]
  go_wp2_with fail
  with_reducible refine hR.mono ?_
  rintro e y1 ⟨rfl, z1⟩
  have H3 : Hid (LtB w q rs.length cq p lv.length cp now y1) := H2.out.below z1
  clear x0 x1 x2 i0 i1 i2 i3 i4 i5 i6 i7 H2 z1 hR
  obtain ⟨x0, x1, x2⟩ := H3.out.thr
  obtain ⟨i0, i1, i2, i3, i4, i5, i6, i7⟩ := H3.out.res
  cases A
  case false =>
    have hc : CC = 1 := by rw [HC.out]; rfl
    obtain ⟨b1, b2, b3⟩ := HBd.out 1 hc (by decide)
    subst hc b1 b2 b3
    go_wp2_with fail
    with_reducible refine (l09Ill_any 1 y1).mono ?_
    rintro e yi ⟨rfl, zi⟩
    have Hi : Hid (LtB w q rs.length cq p lv.length cp now yi) := H3.out.below zi
    clear x0 x1 x2 i0 i1 i2 i3 i4 i5 i6 i7 zi
    obtain ⟨i0, i1, i2, i3, i4, i5, i6, i7⟩ := Hi.out.res
    go_wp2_with fail
    obtain ⟨K, HLo, HEd⟩ := LtB.put (q := q) (n := 0) (cq := 0) (p := p) (m := 0) (cp := 0) (now := now) (y := w) Hi.out.rs Hi.out.bel (HZ.out yi) (.slice none 0 0) (.slice none 0 0) (.int .i64 0) (.int .i64 1)
    generalize ((((yi.setCell ⟨w.heap.size + 1, 0, none⟩ (.slice none 0 0)).setCell ⟨w.heap.size + 1, 1, none⟩ (.slice none 0 0)).setCell ⟨w.heap.size + 1, 2, none⟩ (.int .i64 0)).setCell ⟨w.heap.size + 1, 3, none⟩ (.int .i64 1)) = zz at *
    have HLp : Hid (LgO _ _ _ _ _ zz) := HLo
    have HEn : Hid (Below w.heap.size w zz) := HEd
    have k0 : zz.cell? ⟨w.heap.size + 1, 0, none⟩ = some (.slice none 0 0) := K.cell 0
    have k1 : zz.cell? ⟨w.heap.size + 1, 1, none⟩ = some (.slice none 0 0) := K.cell 1
    have k2 : zz.cell? ⟨w.heap.size + 1, 2, none⟩ = some (.int .i64 0) := K.cell 2
    have k3 : zz.cell? ⟨w.heap.size + 1, 3, none⟩ = some (.int .i64 1) := K.cell 3
    refine bodyPost_ret (v := .agg #[.slice none 0 0, .slice none 0 0, .int .i64 0, .int .i64 1]) (by simp [results, Tryz.results63, go_sem, k0, k1, k2, k3]) rfl ?_
    exact ⟨⟨_, _, [], rfl, rfl, HLp.out⟩, HEn.out⟩
  have hIs := HIs.out y1
  by_cases hy : 1 ≤ y ∧ y ≤ 2
  case neg =>
    rw [decide_eq_false hy] at hIs HC
    go_wp2_with fail
    with_reducible refine hIs.mono ?_
    rintro e y1 ⟨rfl, rfl⟩
    have hc : CC = 1 := by rw [HC.out]; rfl
    obtain ⟨b1, b2, b3⟩ := HBd.out 1 hc (by decide)
    subst hc b1 b2 b3
    go_wp2_with fail
    with_reducible refine (l09Ill_any 1 y1).mono ?_
    rintro e yi ⟨rfl, zi⟩
    have Hi : Hid (LtB w q rs.length cq p lv.length cp now yi) := H3.out.below zi
    clear x0 x1 x2 i0 i1 i2 i3 i4 i5 i6 i7 zi
    obtain ⟨i0, i1, i2, i3, i4, i5, i6, i7⟩ := Hi.out.res
    go_wp2_with fail
    obtain ⟨K, HLo, HEd⟩ := LtB.put (q := q) (n := 0) (cq := 0) (p := p) (m := 0) (cp := 0) (now := now) (y := w) Hi.out.rs Hi.out.bel (HZ.out yi) (.slice none 0 0) (.slice none 0 0) (.int .i64 0) (.int .i64 1)
    generalize ((((yi.setCell ⟨w.heap.size + 1, 0, none⟩ (.slice none 0 0)).setCell ⟨w.heap.size + 1, 1, none⟩ (.slice none 0 0)).setCell ⟨w.heap.size + 1, 2, none⟩ (.int .i64 0)).setCell ⟨w.heap.size + 1, 3, none⟩ (.int .i64 1)) = zz at *
    have HLp : Hid (LgO _ _ _ _ _ zz) := HLo
    have HEn : Hid (Below w.heap.size w zz) := HEd
    have k0 : zz.cell? ⟨w.heap.size + 1, 0, none⟩ = some (.slice none 0 0) := K.cell 0
    have k1 : zz.cell? ⟨w.heap.size + 1, 1, none⟩ = some (.slice none 0 0) := K.cell 1
    have k2 : zz.cell? ⟨w.heap.size + 1, 2, none⟩ = some (.int .i64 0) := K.cell 2
    have k3 : zz.cell? ⟨w.heap.size + 1, 3, none⟩ = some (.int .i64 1) := K.cell 3
    refine bodyPost_ret (v := .agg #[.slice none 0 0, .slice none 0 0, .int .i64 0, .int .i64 1]) (by simp [results, Tryz.results63, go_sem, k0, k1, k2, k3]) rfl ?_
    exact ⟨⟨_, _, [], rfl, rfl, HLp.out⟩, HEn.out⟩
  rw [decide_eq_true hy] at hIs HC
  have Hy : Hid (1 ≤ y ∧ y ≤ 2) := hy
  have hFd := HFd.out y1 H3.out.bel
  clear hy
  go_wp2_with fail
  with_reducible refine hIs.mono ?_
  rintro e y1 ⟨rfl, rfl⟩
  go_wp2_with fail
  with_reducible refine hFd.mono ?_
  rintro e y2 ⟨rfl, z2⟩
  have H4 : Hid (LtB w q rs.length cq p lv.length cp now y2) := H3.out.below z2
  clear x0 x1 x2 i0 i1 i2 i3 i4 i5 i6 i7 z2 hFd hIs H3
  obtain ⟨x0, x1, x2⟩ := H4.out.thr
  obtain ⟨i0, i1, i2, i3, i4, i5, i6, i7⟩ := H4.out.res
  have HC2 : Hid (CC = FC) := HC.out
  clear HC
  rcases HCs.out with h0 | h0 | h0
  rotate_left
  · subst h0
    have hc : CC = 7 := by rw [HC2.out]
    obtain ⟨b1, b2, b3⟩ := HBd.out 7 hc (by decide)
    subst hc b1 b2 b3
    go_wp2_with fail
    with_reducible refine (l09Ill_any 7 y2).mono ?_
    rintro e yi ⟨rfl, zi⟩
    have Hi : Hid (LtB w q rs.length cq p lv.length cp now yi) := H4.out.below zi
    clear x0 x1 x2 i0 i1 i2 i3 i4 i5 i6 i7 zi
    obtain ⟨i0, i1, i2, i3, i4, i5, i6, i7⟩ := Hi.out.res
    go_wp2_with fail
    obtain ⟨K, HLo, HEd⟩ := LtB.put (q := q) (n := 0) (cq := 0) (p := p) (m := 0) (cp := 0) (now := now) (y := w) Hi.out.rs Hi.out.bel (HZ.out yi) (.slice none 0 0) (.slice none 0 0) (.int .i64 0) (.int .i64 7)
    generalize ((((yi.setCell ⟨w.heap.size + 1, 0, none⟩ (.slice none 0 0)).setCell ⟨w.heap.size + 1, 1, none⟩ (.slice none 0 0)).setCell ⟨w.heap.size + 1, 2, none⟩ (.int .i64 0)).setCell ⟨w.heap.size + 1, 3, none⟩ (.int .i64 7)) = zz at *
    have HLp : Hid (LgO _ _ _ _ _ zz) := HLo
    have HEn : Hid (Below w.heap.size w zz) := HEd
    have k0 : zz.cell? ⟨w.heap.size + 1, 0, none⟩ = some (.slice none 0 0) := K.cell 0
    have k1 : zz.cell? ⟨w.heap.size + 1, 1, none⟩ = some (.slice none 0 0) := K.cell 1
    have k2 : zz.cell? ⟨w.heap.size + 1, 2, none⟩ = some (.int .i64 0) := K.cell 2
    have k3 : zz.cell? ⟨w.heap.size + 1, 3, none⟩ = some (.int .i64 7) := K.cell 3
    refine bodyPost_ret (v := .agg #[.slice none 0 0, .slice none 0 0, .int .i64 0, .int .i64 7]) (by simp [results, Tryz.results63, go_sem, k0, k1, k2, k3]) rfl ?_
    exact ⟨⟨_, _, [], rfl, rfl, HLp.out⟩, HEn.out⟩
  · subst h0
    have hc : CC = 6 := by rw [HC2.out]
    obtain ⟨b1, b2, b3⟩ := HBd.out 6 hc (by decide)
    subst hc b1 b2 b3
    go_wp2_with fail
    with_reducible refine (l09Ill_any 6 y2).mono ?_
    rintro e yi ⟨rfl, zi⟩
    have Hi : Hid (LtB w q rs.length cq p lv.length cp now yi) := H4.out.below zi
    clear x0 x1 x2 i0 i1 i2 i3 i4 i5 i6 i7 zi
    obtain ⟨i0, i1, i2, i3, i4, i5, i6, i7⟩ := Hi.out.res
    go_wp2_with fail
    obtain ⟨K, HLo, HEd⟩ := LtB.put (q := q) (n := 0) (cq := 0) (p := p) (m := 0) (cp := 0) (now := now) (y := w) Hi.out.rs Hi.out.bel (HZ.out yi) (.slice none 0 0) (.slice none 0 0) (.int .i64 0) (.int .i64 6)
    generalize ((((yi.setCell ⟨w.heap.size + 1, 0, none⟩ (.slice none 0 0)).setCell ⟨w.heap.size + 1, 1, none⟩ (.slice none 0 0)).setCell ⟨w.heap.size + 1, 2, none⟩ (.int .i64 0)).setCell ⟨w.heap.size + 1, 3, none⟩ (.int .i64 6)) = zz at *
    have HLp : Hid (LgO _ _ _ _ _ zz) := HLo
    have HEn : Hid (Below w.heap.size w zz) := HEd
    have k0 : zz.cell? ⟨w.heap.size + 1, 0, none⟩ = some (.slice none 0 0) := K.cell 0
    have k1 : zz.cell? ⟨w.heap.size + 1, 1, none⟩ = some (.slice none 0 0) := K.cell 1
    have k2 : zz.cell? ⟨w.heap.size + 1, 2, none⟩ = some (.int .i64 0) := K.cell 2
    have k3 : zz.cell? ⟨w.heap.size + 1, 3, none⟩ = some (.int .i64 6) := K.cell 3
    refine bodyPost_ret (v := .agg #[.slice none 0 0, .slice none 0 0, .int .i64 0, .int .i64 6]) (by simp [results, Tryz.results63, go_sem, k0, k1, k2, k3]) rfl ?_
    exact ⟨⟨_, _, [], rfl, rfl, HLp.out⟩, HEn.out⟩
  subst h0
  obtain ⟨I, J, hI, hJ, rfl, rfl, hgn⟩ := HZr.out rfl
  obtain ⟨b1, b2, b3⟩ := HGd.out HC2.out
  have hc := HC2.out
  rw [Int.toNat_natCast, fgt_eq hI hJ] at b1
  have b4 := b3.symm
  subst hc b1 b2 b4
  have hCp := HCp.out (by simp) y2 H4.out.bel
  have HFg2 := HFg.out I J hI hJ (by simp) hgn y2 H4.out.bel
  have HTx2 := HTx.out I J hI hJ (by simp) Hy.out
  have HLv : Hid (lv.length + 1 ≤ 1048576) := by have := HLn.out (by simp); show _ ≤ _; omega
  generalize hTXe : tmRaw ⟨(I : Int), (J : Int), y, now⟩ = TX at *
  generalize hFSe : rs[I].fs.set J (goneF rs[I].fs[J]) = FS at *
  have HTXe : Hid (tmRaw ⟨(I : Int), (J : Int), y, now⟩ = TX) := hTXe
  have HFSe : Hid (rs[I].fs.set J (goneF rs[I].fs[J]) = FS) := hFSe
  clear hTXe hFSe
  have HFg3 : Hid (∀ x q c, Below y2.heap.size y2 x → FldAt x q rs[I].fs → rs[I].fs.length ≤ c → Calls Tryz.prog 115 #[.agg #[.string rs[I].k, .int .i64 rs[I].a, .slice q rs[I].fs.length c], .int .i64 J] x fun e w' => ∃ q' c', e = .returned (.agg #[.string rs[I].k, .int .i64 rs[I].a, .slice q' FS.length c', .int .i64 0]) ∧ w'.ownsRow x.heap.size 72 5 (.slice q' FS.length c') FS.length (fldRow FS) ∧ Below x.heap.size x w') := HFg2
  have HTx3 : Hid (∀ x, Calls Tryz.prog 114 #[.agg #[.int .i64 I, .int .i64 J, .int .i64 y, .int .i64 now]] x fun e w' => e = .returned (.string TX) ∧ Below x.heap.size x w') := HTx2
  have hI1 : (I : Int) < rs.length := by omega
  clear HBd HGd HFg HTx HFg2 HTx2 HC2 HCp HZr HCs HLn HFd HIs hgn
  go_wp2_with fail
  with_reducible refine hCp.mono ?_
  rintro e y4 ⟨v1, v2, xs, rfl, hx, ho, z4⟩
  have hxl : xs.length = rs.length := by rw [← hx, List.length_map]
  obtain ⟨g, c, rfl⟩ := ho.rws.some_of (by omega)
  obtain ⟨z2, zd, rfl, _, _⟩ := ownS_form ho.lvs
  have hIx : I < xs.length := by omega
  have hIi : (I : Int) < xs.length := by omega
  have hX : xs[I].1 = rs[I] := by
    have h1 := List.getElem_of_eq hx (i := I) (by simpa using hIx)
    rwa [List.getElem_map] at h1
  have HX : Hid (xs.map (·.1) = rs) := hx
  have HC5 : Hid (LgC y2 y4.heap.size xs lv now (.slice (some ⟨g, 0, none⟩) xs.length c) (.slice z2 lv.length zd) (y4.alloc (.cells #[.slice (some ⟨g, 0, none⟩) xs.length c, .slice z2 lv.length zd, .int .i64 now] 26))) := ⟨Bxs.new _ _ _, ho.below (alB (Below.refl _ _) _), z4.size, alB z4 _⟩
  have HY2 : Hid (w.heap.size + 1 < y2.heap.size) := H4.out.rs.lt
  clear x0 x1 x2 i0 i1 i2 i3 i4 i5 i6 i7 hCp hx ho z4 hxl
  go_upto_region 7 with fail
  generalize y4.heap.size = E at *
  generalize y4.alloc (.cells #[.slice (some ⟨g, 0, none⟩) xs.length c, .slice z2 lv.length zd, .int .i64 now] 26) = y5 at *
  have hF := l09Forget_any y2 E xs lv now g c z2 zd y5 HC5.out I J hIx y rs[I] FS TX hX HLv.out HFg3.out HTx3.out
  clear HFg3 HTx3
  go_wp2_with fail
  with_reducible refine hF.mono ?_
  rintro e yA ⟨rfl, q1, c1, z3, d3, h8⟩
  have HC8 : Hid (LgC y2 E (xs.set I (⟨rs[I].k, rs[I].a, FS⟩, .slice q1 FS.length c1)) (lv ++ [TX]) now (.slice (some ⟨g, 0, none⟩) xs.length c) (.slice z3 (lv.length + 1) d3) yA) := h8
  clear h8 hF HC5
  have HM8 : Hid ((xs.set I (⟨rs[I].k, rs[I].a, FS⟩, .slice q1 FS.length c1)).map (·.1) = rs.set I ⟨rs[I].k, rs[I].a, FS⟩) := by show _ = _; rw [set_fst, HX.out]
  obtain ⟨p0, p1, p2, g0, g1, g2⟩ := HC8.out.cells
  have HA8 : Hid (LtB w q rs.length cq p lv.length cp now yA) := ⟨H4.out.lg.below HC8.out.bel, H4.out.rs.below HC8.out.bel, chainB H4.out.bel HC8.out.bel⟩
  have HO8 : Hid (LgO w.heap.size (xs.set I (⟨rs[I].k, rs[I].a, FS⟩, .slice q1 FS.length c1)) (lv ++ [TX]) (.slice (some ⟨g, 0, none⟩) xs.length c) (.slice z3 (lv.length + 1) d3) yA) := HC8.out.lg.lower (by have := HY2.out; omega)
  obtain ⟨i0, i1, i2, i3, i4, i5, i6, i7⟩ := HA8.out.res
  clear HC8
  go_wp2_with fail
  obtain ⟨K, HLo, HEd⟩ := LtB.put (q := q) (n := 0) (cq := 0) (p := p) (m := 0) (cp := 0) (now := now) (y := w) HA8.out.rs HA8.out.bel HO8.out (.slice (some ⟨g, 0, none⟩) xs.length c) (.slice z3 (lv.length + 1) d3) (.int .i64 now) (.int .i64 0)
  generalize ((((yA.setCell ⟨w.heap.size + 1, 0, none⟩ (.slice (some ⟨g, 0, none⟩) xs.length c)).setCell ⟨w.heap.size + 1, 1, none⟩ (.slice z3 (lv.length + 1) d3)).setCell ⟨w.heap.size + 1, 2, none⟩ (.int .i64 now)).setCell ⟨w.heap.size + 1, 3, none⟩ (.int .i64 0)) = zz at *
  have HLp : Hid (LgO _ _ _ _ _ zz) := HLo
  have HEn : Hid (Below w.heap.size w zz) := HEd
  have k0 : zz.cell? ⟨w.heap.size + 1, 0, none⟩ = some (.slice (some ⟨g, 0, none⟩) xs.length c) := K.cell 0
  have k1 : zz.cell? ⟨w.heap.size + 1, 1, none⟩ = some (.slice z3 (lv.length + 1) d3) := K.cell 1
  have k2 : zz.cell? ⟨w.heap.size + 1, 2, none⟩ = some (.int .i64 now) := K.cell 2
  have k3 : zz.cell? ⟨w.heap.size + 1, 3, none⟩ = some (.int .i64 0) := K.cell 3
  refine bodyPost_ret (v := .agg #[.slice (some ⟨g, 0, none⟩) xs.length c, .slice z3 (lv.length + 1) d3, .int .i64 now, .int .i64 0]) (by simp [results, Tryz.results63, go_sem, k0, k1, k2, k3]) rfl ?_
  rw [HTXe.out, HFSe.out]
  exact ⟨⟨_, _, _, rfl, HM8.out, HLp.out⟩, HEn.out⟩
end Go.Proofs.YtnknnfgimiljjaaGreatDoor
/-
  What LogAdd, LogForget and LogTime answer of a log as it is drawn is one, where the code is zero (plain).
-/
namespace Go.Proofs.YtnknnfgimiljjaaGreatDoor
open Go.RowKit Go.Lib
set_option linter.unusedVariables false
set_option maxRecDepth 20000

theorem lo_lf (k : ByteArray) (at_ : Int) (fs : List Fld) : (lfB k at_ fs).size ≤ 33 := by
  unfold lfB
  split
  · rw [ByteArray.size_append, digB_size]; decide
  · simp
theorem la_drawn {rs : List Rw} {lv : List ByteArray} {now : Int} {r : Rw} (hd : LoD 6 65 1000000 rs lv now) (hr : r.fs.length ≤ 1048576 ∧ r.k.size ≤ maxLen ∧ FldsLe r.fs) (h : laC rs lv now r = 0) : LoD 6 65 1000000 (laR rs lv now r) (laL rs lv now r) (laN rs lv now r) := by
  have e1 : laR rs lv now r = rs ++ [r] := by unfold laR; rw [if_pos h]
  have e2 : laL rs lv now r = lv ++ [lfB r.k r.a r.fs] := by unfold laL; rw [if_pos h]
  have e3 : laN rs lv now r = now := by unfold laN; rw [if_pos h]
  unfold laC at h
  split at h
  · rename_i hk
    by_cases h6 : rs.length = 6
    · rw [if_pos h6] at h; omega
    unfold laK at hk
    rw [Bool.and_eq_true] at hk
    obtain ⟨l1, l2, -⟩ := lg_right hk.1
    rw [e1, e2, e3]
    have hf1 : 1 ≤ r.fs.length := by
      have h2 := hk.2
      rw [Bool.and_eq_true] at h2
      exact (rwB_parts h2.1).2.2.1.1
    refine ⟨by simp; omega, by simp; omega, fun x hx => ?_, fun x hx => ?_, hd.t0, hd.t1, fun x hx => ?_⟩
    · rcases List.mem_append.1 hx with g | g
      · exact hd.le x g
      · rw [List.mem_singleton.1 g]; exact hr
    · rcases List.mem_append.1 hx with g | g
      · exact hd.lz x g
      · rw [List.mem_singleton.1 g]
        have := lo_lf r.k r.a r.fs
        unfold maxLen; omega
    · rcases List.mem_append.1 hx with g | g
      · exact hd.f1 x g
      · rw [List.mem_singleton.1 g]; exact hf1
  · omega
theorem lf_drawn {rs : List Rw} {lv : List ByteArray} {now r f y : Int} (hd : LoD 6 65 1000000 rs lv now) (h : lfC rs lv now r f y = 0) : LoD 6 65 1000000 (lfR rs lv now r f y) (lfL rs lv now r f y) (lfN rs lv now r f y) := by
  obtain ⟨e1, e2, e3⟩ := lf_good h
  unfold lfC at h
  split at h
  · rename_i hk
    rw [Bool.and_eq_true] at hk
    obtain ⟨l1, l2, -⟩ := lg_right hk.1
    obtain ⟨I, J, hI, hJ, rfl, rfl, -⟩ := fc_zero h
    have hrI : rs.getD (I : Int).toNat rwZ = rs[I] := by rw [Int.toNat_natCast, List.getD_eq_getElem?_getD, List.getElem?_eq_getElem hI, Option.getD_some]
    have hz := hd.le _ (List.getElem_mem hI)
    rw [e1, e2, e3]
    refine ⟨by simpa using l1, by simp; omega, fun x hx => ?_, fun x hx => ?_, hd.t0, hd.t1, fun x hx => ?_⟩
    · rcases List.mem_or_eq_of_mem_set hx with g | rfl
      · exact hd.le x g
      · unfold fgt
        rw [hrI]
        refine ⟨by simpa using hz.1, hz.2.1, fun g hg => ?_⟩
        rcases List.mem_or_eq_of_mem_set hg with q | rfl
        · exact hz.2.2 g q
        · have hJ2 : rs[I].fs.getD (J : Int).toNat fldD = rs[I].fs[J] := by rw [Int.toNat_natCast, List.getD_eq_getElem?_getD, List.getElem?_eq_getElem hJ, Option.getD_some]
          have := hz.2.2 _ (List.getElem_mem hJ)
          rw [hJ2]
          exact ⟨this.1, this.2.1, Nat.zero_le _, Nat.zero_le _⟩
    · rcases List.mem_append.1 hx with g | g
      · exact hd.lz x g
      · rw [List.mem_singleton.1 g]
        have := (tmRaw_size ⟨(I : Int), (J : Int), y, now⟩).2
        unfold maxLen; omega
    · rcases List.mem_or_eq_of_mem_set hx with g | rfl
      · exact hd.f1 x g
      · unfold fgt
        rw [hrI]
        simpa using hd.f1 _ (List.getElem_mem hI)
  · omega
theorem lt_drawn {rs : List Rw} {lv : List ByteArray} {now t : Int} (hd : LoD 6 65 1000000 rs lv now) (h : ltC rs lv now t = 0) : LoD 6 65 1000000 (ltmR rs lv now t) (ltL rs lv now t) (ltN rs lv now t) := by
  unfold ltC at h
  split at h
  · rename_i hk
    have e1 : ltmR rs lv now t = rs := by unfold ltmR; rw [if_pos hk]
    have e2 : ltL rs lv now t = lv := by unfold ltL; rw [if_pos hk]
    have e3 : ltN rs lv now t = mxB now t := by unfold ltN; rw [if_pos hk]
    unfold ltB at hk
    rw [Bool.and_eq_true] at hk
    have ht := hk.2
    unfold timeB at ht
    have ht2 := of_decide_eq_true ht
    have a0 := hd.t0
    have a1 := hd.t1
    rw [e1, e2, e3]
    refine ⟨hd.n, hd.m, hd.le, hd.lz, ?_, ?_, hd.f1⟩ <;> (unfold mxB; split <;> omega)
  · omega
end Go.Proofs.YtnknnfgimiljjaaGreatDoor
/-
  What spoil draws of a text: some text that is at most one byte longer.
-/
namespace Go.Proofs.YtnknnfgimiljjaaGreatDoor
open Go.RowKit Go.Lib
set_option linter.unusedVariables false
set_option maxRecDepth 20000

theorem conv_oneB (n : Int) (w : World) : (convert 22 9 (.slice (some ⟨w.heap.size, 0, none⟩) 1 1)).run Tryz.prog (w.alloc (.cells #[.int .u8 n] 5)) = .ok (.string (strOfNums [n])) (w.alloc (.cells #[.int .u8 n] 5)) :=
  own_convD (base := w.heap.size) (xs := [n]) ⟨by simp, .inr ⟨w.heap.size, 1, #[.int .u8 n], rfl, Nat.le_refl _, heap_alloc_new w _, Nat.le_refl _, by unfold maxLen; omega, rfl, by simp⟩⟩ rfl
theorem size_app3 (a b c : ByteArray) : (a ++ b ++ c).size = a.size + b.size + c.size := by simp [ByteArray.size_append]
theorem belowDN {B : Nat} {a w : World} (h : Below B a w) (n : Nat) : Below B a (w.drewN n) := ⟨h.os, h.tape, h.output, h.size, h.block⟩
def SpoiltT (B p : Nat) (a : Option Addr) (len cap : Nat) (t : ByteArray) (w : World) (e : Ending) (w' : World) : Prop :=
  (∃ u : ByteArray, e = .returned (.string u) ∧ u.size ≤ t.size + 1) ∧ Src 91 B p a len cap w' ∧ w.grownBy w' (some p)
set_option maxHeartbeats 4000000 in
theorem spoilT_any (B p : Nat) (a : Option Addr) (len cap : Nat) (t : ByteArray) (w : World) (hs : Src 91 B p a len cap w) (ht : t.size ≤ 1000) :
    Calls Tryz.prog 29 #[.pointer (some ⟨p, 0, none⟩), .string t] w (SpoiltT B p a len cap t w) := by
  go_enter Tryz.func29, Tryz.ntmps29
  go_wp2_with fail
  refine (n_any B p a len cap ((t.size : Int) + 1) w hs (by omega)).mono ?_
  rintro e w2 ⟨⟨r, rfl, hr0, hr1, hr2⟩, hs2, G2⟩
  obtain ⟨K, rfl⟩ := Int.eq_ofNat_of_zero_le hr0
  have hK : K ≤ t.size := by
    rcases Nat.eq_zero_or_pos t.size with h | h
    · have := hr2 (by omega); omega
    · have := hr1 (by omega); omega
  clear hr0 hr1 hr2 hs
  go_wp2_with fail
  refine (n_any B p a len cap 17 w2 hs2 (by omega)).mono ?_
  rintro e w3 ⟨⟨r, rfl, hr0, hr1, -⟩, hs3, G3⟩
  obtain ⟨R, rfl⟩ := Int.eq_ofNat_of_zero_le hr0
  have hR : R < 17 := by have := hr1 (by omega); omega
  have G3' : Hid (w.grownBy w3 (some p)) := touch_trans G2 G3
  have H3 : Hid (Src 91 B p a len cap w3) := hs3
  clear hr0 hr1 hs2 hs3 G2 G3
  have hcv := fun n => conv_oneB n w3
  obtain ⟨W4, hW4⟩ : ∃ W4, W4 = fun n : Int => w3.alloc (.cells #[.int .u8 n] 5) := ⟨_, rfl⟩
  have HB : Hid (∀ n, Src 91 B p a len cap (W4 n) ∧ w.grownBy (W4 n) (some p)) := fun n => by
    rw [hW4]
    have b : Below w3.heap.size w3 (w3.alloc (.cells #[.int .u8 n] 5)) := (Below.refl _ _).alloc (Nat.le_refl _) _
    exact ⟨H3.out.below b, touch_below G3'.out b⟩
  have HW4 : Hid (∀ n, w3.alloc (.cells #[.int .u8 n] 5) = W4 n) := fun n => by rw [hW4]
  have hz1 : ∀ n : Int, (strOfNums [n]).size = 1 := fun n => by rw [strOfNums_size]; rfl
  clear hW4 H3 G3'
  go_upto_region 3 with fail
  rw [HW4.out]
  generalize (⟨#[32, 10, 48, 97, 45, 110, 44, 58, 93, 255, 40, 120, 126, 49, 128, 225, 59]⟩ : ByteArray)[R] = cb at *
  obtain ⟨x4, hx4⟩ : ∃ x4, x4 = W4 (cb.toNat : Int) := ⟨_, rfl⟩
  obtain ⟨hs4, hg4⟩ := HB.out (cb.toNat : Int)
  obtain ⟨c1, hc1⟩ : ∃ c1, c1 = strOfNums [(cb.toNat : Int)] := ⟨_, rfl⟩
  have hzc := hz1 (cb.toNat : Int)
  rw [← hx4] at hs4 hg4 ⊢
  rw [← hc1] at hzc ⊢
  clear hx4 HB HW4 hz1 hc1 hcv
  have HK : Hid (K ≤ t.size) := hK
  have hKi : (K : Int) ≤ (t.size : Int) := by omega
  have HZ : Hid (c1.size = 1) := hzc
  have HEnd : Hid (∀ (x : World) (u : ByteArray) (m : Nat), Src 91 B p a len cap x → w.grownBy x (some p) → u.size ≤ t.size + 1 → SpoiltT B p a len cap t w (.returned (.string u)) (x.drewN m)) := fun x u m h1 h2 h3 => ⟨⟨u, rfl, h3⟩, h1.below (belowDN (Below.refl _ _) m), touch_below h2 (belowDN (Below.refl _ _) m)⟩
  have hmz : t.size ≤ 9223372036854775807 := by omega
  have v1 : (t.extract 0 K).size ≤ 1000 := by simp; omega
  have v2 : c1.size ≤ 10 := by omega
  have v3 : (t.extract 0 K ++ c1).size ≤ 1010 := by rw [ByteArray.size_append]; omega
  have v4 : (t.extract K t.size).size ≤ 1000 := by simp; omega
  have v5 : (t.extract (K + 1) t.size).size ≤ 1000 := by simp; omega
  clear hzc
  by_cases hk : K = t.size
  · have e1 : ((K : Int) == (t.size : Int)) = true := beq_iff_eq.2 (by omega)
    have HE : Hid _ := fun m => HEnd.out x4 (t.extract 0 K ++ c1 ++ t.extract K t.size) m hs4 hg4 (by rw [size_app3, HZ.out]; simp; omega)
    clear HEnd hs4 hg4 hk
    go_wp2_with fail
    go_quiet (fail)
    go_wp2_with fail
    go_ret
    exact HE.out _
  have e1 : ((K : Int) == (t.size : Int)) = false := beq_eq_false_iff_ne.2 (by omega)
  have hlt : K < t.size := by omega
  have H4 : Hid (Src 91 B p a len cap x4) := hs4
  have G4 : Hid (w.grownBy x4 (some p)) := hg4
  clear hs4 hg4 hk
  go_wp2_with fail
  refine (one_any B p a len cap 3 x4 H4.out (by omega)).mono ?_
  rintro e x5 ⟨⟨bo, rfl⟩, hs5, hg5⟩
  have hg5 := touch_trans G4.out hg5
  cases bo
  · have H5 : Hid (Src 91 B p a len cap x5) := hs5
    have G5 : Hid (w.grownBy x5 (some p)) := hg5
    clear hs5 hg5 H4 G4
    go_wp2_with fail
    refine (one_any B p a len cap 2 x5 H5.out (by omega)).mono ?_
    rintro e x6 ⟨⟨bo, rfl⟩, hs6, hg6⟩
    have hg6 := touch_trans G5.out hg6
    have hw1 : IntKind.i64.wrap ((K : Int) + 1) = (K : Int) + 1 := by rw [IntKind.wrap_i64]; omega
    have hk1 : (K : Int) + 1 ≤ (t.size : Int) := by omega
    have hk2 : K + 1 ≤ t.size := by omega
    cases bo
    · have HE : Hid _ := fun m => HEnd.out x6 (t.extract 0 K ++ c1 ++ t.extract (K + 1) t.size) m hs6 hg6 (by rw [size_app3, HZ.out]; simp; omega)
      clear HEnd hs6 hg6 H5 G5
      go_wp2_with fail
      go_quiet (fail)
      go_wp2_with fail
      go_ret
      exact HE.out _
    · have HE : Hid _ := fun m => HEnd.out x6 (t.extract 0 K ++ t.extract (K + 1) t.size) m hs6 hg6 (by simp [ByteArray.size_append]; omega)
      clear HEnd hs6 hg6 H5 G5
      go_wp2_with fail
      go_quiet (fail)
      go_wp2_with fail
      go_ret
      exact HE.out _
  · have HE : Hid _ := fun m => HEnd.out x5 (t.extract 0 K ++ c1 ++ t.extract K t.size) m hs5 hg5 (by rw [size_app3, HZ.out]; simp; omega)
    clear HEnd hs5 hg5 H4 G4
    go_wp2_with fail
    go_quiet (fail)
    go_wp2_with fail
    go_ret
    exact HE.out _
end Go.Proofs.YtnknnfgimiljjaaGreatDoor
