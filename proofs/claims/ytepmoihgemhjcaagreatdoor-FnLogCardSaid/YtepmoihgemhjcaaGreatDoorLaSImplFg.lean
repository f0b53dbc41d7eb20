/-
  Parts of one proof, laid as one text: LaS, ImplFg; what each says stands at its head.
-/
import Derived.Test.YtepmoihgemhjcaaGreatDoorRows
import Derived.Test.YtepmoihgemhjcaaGreatDoorBytesDigMath
import Derived.Test.YtepmoihgemhjcaaGreatDoorTreeMathSlABxKSlBOwnS
import Derived.Test.YtepmoihgemhjcaaGreatDoorLtMathLaMathLfMathTakesLStepAppBlNotTakes
import Derived.Test.YtepmoihgemhjcaaGreatDoorTimeBPutMathPutNumJoinedPutTextFldMath
import Derived.Test.YtepmoihgemhjcaaGreatDoorGetValGetTxtNumMathFldRdNumFromTmbMathFldRiseLgMath
import Derived.Test.YtepmoihgemhjcaaGreatDoorLgAtKLgAnsLgRtShwKOneKFldBlkRwBlk
import Derived.Test.YtepmoihgemhjcaaGreatDoorRowOpsLgO
import Derived.Test.YtepmoihgemhjcaaGreatDoorFldR
import Derived.Test.YtepmoihgemhjcaaGreatDoorFldFFldLSpecTg
import Derived.Test.YtepmoihgemhjcaaGreatDoorSpecLr
import Derived.Test.YtepmoihgemhjcaaGreatDoorSpecClLtS
import Derived.Test.YtepmoihgemhjcaaGreatDoorLogRICopiedImplClLaB
import Derived.Handy
import Derived.WalkSpells
import Derived.OwnWalk
import Derived.Deep.RegionHeld3
import Derived.Deep.Cut
import Derived.Test.YtepmoihgemhjcaaGreatDoorGrKImplFT
import Derived.Test.YtepmoihgemhjcaaGreatDoorFldGSrcDrawsDrawKitAppSSomeDrawTreeScanMath
import Derived.Test.YtepmoihgemhjcaaGreatDoorOwnBPadIDigIDigAllTimeIImplFC
import Derived.Test.YtepmoihgemhjcaaGreatDoorImplFR
import Derived.Test.YtepmoihgemhjcaaGreatDoorTillTwoPhaseKImplCp
import Derived.Test.YtepmoihgemhjcaaGreatDoorImplOnImplFkAsDAs2CodeOf
/-
  What the specification's LogAdd answers: 'laC' and the log, in new memory.
-/
namespace Go.Proofs.YtepmoihgemhjcaaGreatDoor
open Go.RowKit Go.Lib
set_option linter.unusedVariables false
set_option maxRecDepth 20000

set_option maxHeartbeats 8000000 in
theorem specLogAdd_any (p : Option Addr) (lv : List ByteArray) (cp : Nat) (q : Option Addr) (rs : List Rw) (cq : Nat) (now : Int) (k : ByteArray) (a : Int) (rq : Option Addr) (rc : Nat) (fs : List Fld) (w : World) (hA : LgAt p lv cp q rs cq w) (hf : FldAt w rq fs) (hfn : fs.length ≤ 1048576) (hfc : fs.length ≤ rc) (hk : k.size ≤ maxLen) (hz : FldsLe fs) :
    Calls Tryz.prog 16 #[.agg #[.slice q rs.length cq, .slice p lv.length cp, .int .i64 now], .agg #[.string k, .int .i64 a, .slice rq fs.length rc]] w fun e w' => LgA w.heap.size (laR rs lv now ⟨k, a, fs⟩) (laL rs lv now ⟨k, a, fs⟩) (laN rs lv now ⟨k, a, fs⟩) (laC rs lv now ⟨k, a, fs⟩) e w' ∧ Below w.heap.size w w' := by
  obtain ⟨W3, hW3⟩ : ∃ W3, W3 = ((w.alloc (.cells #[.slice q rs.length cq, .slice p lv.length cp, .int .i64 now] 26)).alloc (.cells #[.string k, .int .i64 a, .slice rq fs.length rc] 29)).alloc (.cells #[.slice none 0 0, .slice none 0 0, .int .i64 0, .int .i64 0] 33) := ⟨_, rfl⟩
  have HW3 : Hid (W3 = ((w.alloc (.cells #[.slice q rs.length cq, .slice p lv.length cp, .int .i64 now] 26)).alloc (.cells #[.string k, .int .i64 a, .slice rq fs.length rc] 29)).alloc (.cells #[.slice none 0 0, .slice none 0 0, .int .i64 0, .int .i64 0] 33)) := hW3
  have H3 : Hid (LaB w q rs.length cq p lv.length cp now k a rq fs.length rc W3) := la_boxes hW3
  have hR : Calls Tryz.prog 26 #[.agg #[.slice q rs.length cq, .slice p lv.length cp, .int .i64 now]] W3 fun e w' => e = .returned (.bool (lgB rs lv now)) ∧ Below W3.heap.size W3 w' := specLogRight_any p lv cp q rs cq now W3 (hA.below H3.out.bel)
  have HRR : Hid (∀ x, Below w.heap.size w x → Calls Tryz.prog 72 #[.agg #[.string k, .int .i64 a, .slice rq fs.length rc]] x fun e w' => e = .returned (.bool (rwB k a fs)) ∧ Below x.heap.size x w') := fun x hx => specRowRight_any k a rq rc fs x (hf.below hx) hfn hfc hk hz
  have HFr : Hid (∀ x, Below w.heap.size w x → Calls Tryz.prog 73 #[.agg #[.string k, .int .i64 a, .slice rq fs.length rc]] x fun e w' => e = .returned (.bool (frsB fs)) ∧ Below x.heap.size x w') := fun x hx => l09Fresh_any k a rq rc fs x (hf.below hx) hfn hfc
  have HCp : Hid (lgB rs lv now = true → ∀ x, Below w.heap.size w x → Calls Tryz.prog 75 #[.agg #[.slice q rs.length cq, .slice p lv.length cp, .int .i64 now]] x fun e w' => ∃ v1 v2 xs, e = .returned (.agg #[v1, v2, .int .i64 now]) ∧ xs.map (·.1) = rs ∧ LgO x.heap.size xs lv v1 v2 w' ∧ Below x.heap.size x w') := fun hl x hx => by
    obtain ⟨hr1, hr2, hr3⟩ := lg_right hl
    exact l09Copy_any p lv cp q rs cq now x (hA.below hx) (fun r hr => by have := rB_len (hr3 r hr); omega)
  have HCr : Hid (rwB k a fs = true → ∀ x, Below w.heap.size w x → Calls Tryz.prog 76 #[.agg #[.string k, .int .i64 a, .slice rq fs.length rc]] x fun e w' => ∃ bb cc, e = .returned (.agg #[.string k, .int .i64 a, .slice (some ⟨bb, 0, none⟩) fs.length cc]) ∧ w'.ownsRow x.heap.size 103 5 (.slice (some ⟨bb, 0, none⟩) fs.length cc) fs.length (fldRow fs) ∧ Below x.heap.size x w') := fun hr x hx => l07Copy_any k a rq rc fs x (hf.below hx) (by have := rB_len (r := ⟨k, a, fs⟩) hr; simp at this; omega) (by have := rB_len (r := ⟨k, a, fs⟩) hr; simp at this; omega)
  have HLf : Hid (rwB k a fs = true → ∀ x, Below w.heap.size w x → Calls Tryz.prog 77 #[.agg #[.string k, .int .i64 a, .slice rq fs.length rc]] x fun e w' => e = .returned (.string (lfB k a fs)) ∧ Below x.heap.size x w') := fun hr x hx => by
    have h := l07Leaf_any k a rq rc fs x (hf.below hx) hfc hr
    rwa [show one101 ++ digB (lfT k a fs) = lfB k a fs from (if_pos hr).symm] at h
  have HLn : Hid (lgB rs lv now = true → rs.length ≤ 6 ∧ lv.length ≤ 64) := fun hl => ⟨(lg_right hl).1, (lg_right hl).2.1⟩
  have HC : Hid (laC rs lv now ⟨k, a, fs⟩ = if (lgB rs lv now && (rwB k a fs && (frsB fs && (a == now)))) = true then (if rs.length = 6 then 9 else 0) else 1) := rfl
  have HBd : Hid (∀ C, laC rs lv now ⟨k, a, fs⟩ = C → C ≠ 0 → laR rs lv now ⟨k, a, fs⟩ = [] ∧ laL rs lv now ⟨k, a, fs⟩ = [] ∧ laN rs lv now ⟨k, a, fs⟩ = 0) := fun C h hC => la_bad h hC
  have HGd : Hid (laC rs lv now ⟨k, a, fs⟩ = 0 → laR rs lv now ⟨k, a, fs⟩ = rs ++ [⟨k, a, fs⟩] ∧ laL rs lv now ⟨k, a, fs⟩ = lv ++ [lfB k a fs] ∧ laN rs lv now ⟨k, a, fs⟩ = now) := fun h => la_good h
  clear hW3 hA hf hk hz
  generalize laC rs lv now ⟨k, a, fs⟩ = CC at *
  generalize laR rs lv now ⟨k, a, fs⟩ = RR at *
  generalize laL rs lv now ⟨k, a, fs⟩ = LL at *
  generalize laN rs lv now ⟨k, a, fs⟩ = NN at *
  generalize lfB k a fs = LF at *
  generalize lgB rs lv now = A at *
  generalize rwB k a fs = B at *
  generalize frsB fs = G at *
  have HZ : Hid (∀ x, LgO w.heap.size [] [] (.slice none 0 0) (.slice none 0 0) x) := fun x => LgO.nil _ _
  obtain ⟨x0, x1, x2, x3, x4, x5⟩ := H3.out.six
  obtain ⟨i0, i1, i2, i3, i4, i5, i6, i7⟩ := H3.out.res
  go_enter Tryz.func16, Tryz.ntmps16
  go_upto_region 1 with fail
  rw [← HW3.out]
  go_wp2_with fail
  with_reducible refine hR.mono ?_
  rintro e y1 ⟨rfl, z1⟩
  have H4 : Hid (LaB w q rs.length cq p lv.length cp now k a rq fs.length rc y1) := H3.out.below z1
  clear x0 x1 x2 x3 x4 x5 i0 i1 i2 i3 i4 i5 i6 i7 H3 z1 hR
  obtain ⟨x0, x1, x2, x3, x4, x5⟩ := H4.out.six
  obtain ⟨i0, i1, i2, i3, i4, i5, i6, i7⟩ := H4.out.res
  cases A
  case false =>
    have hc : CC = 1 := by rw [HC.out]; rfl
    obtain ⟨b1, b2, b3⟩ := HBd.out 1 hc (by decide)
    subst hc b1 b2 b3
    go_wp2_with fail
    with_reducible refine (l09Ill_any 1 y1).mono ?_
    rintro e yi ⟨rfl, zi⟩
    have Hi : Hid (LaB w q rs.length cq p lv.length cp now k a rq fs.length rc yi) := H4.out.below zi
    clear x0 x1 x2 x3 x4 x5 i0 i1 i2 i3 i4 i5 i6 i7 zi
    obtain ⟨i0, i1, i2, i3, i4, i5, i6, i7⟩ := Hi.out.res
    go_wp2_with fail
    obtain ⟨K, HLo, HEd⟩ := la_put Hi.out.rs (by omega) Hi.out.bel (HZ.out yi) (.slice none 0 0) (.slice none 0 0) (.int .i64 0) (.int .i64 1)
    generalize ((((yi.setCell ⟨w.heap.size + 2, 0, none⟩ (.slice none 0 0)).setCell ⟨w.heap.size + 2, 1, none⟩ (.slice none 0 0)).setCell ⟨w.heap.size + 2, 2, none⟩ (.int .i64 0)).setCell ⟨w.heap.size + 2, 3, none⟩ (.int .i64 1)) = zz at *
    have HLp : Hid (LgO _ _ _ _ _ zz) := HLo
    have HEn : Hid (Below w.heap.size w zz) := HEd
    have k0 : zz.cell? ⟨w.heap.size + 2, 0, none⟩ = some (.slice none 0 0) := K.cell 0
    have k1 : zz.cell? ⟨w.heap.size + 2, 1, none⟩ = some (.slice none 0 0) := K.cell 1
    have k2 : zz.cell? ⟨w.heap.size + 2, 2, none⟩ = some (.int .i64 0) := K.cell 2
    have k3 : zz.cell? ⟨w.heap.size + 2, 3, none⟩ = some (.int .i64 1) := K.cell 3
    refine bodyPost_ret (v := .agg #[.slice none 0 0, .slice none 0 0, .int .i64 0, .int .i64 1]) (by simp [results, Tryz.results16, go_sem, k0, k1, k2, k3]) rfl ?_
    exact ⟨⟨_, _, [], rfl, rfl, HLp.out⟩, HEn.out⟩
  have hq := HRR.out y1 H4.out.bel
  go_wp2_with fail
  with_reducible refine hq.mono ?_
  rintro e y2 ⟨rfl, zq⟩
  have H5 : Hid (LaB w q rs.length cq p lv.length cp now k a rq fs.length rc y2) := H4.out.below zq
  clear x0 x1 x2 x3 x4 x5 i0 i1 i2 i3 i4 i5 i6 i7 hq zq
  obtain ⟨x0, x1, x2, x3, x4, x5⟩ := H5.out.six
  obtain ⟨i0, i1, i2, i3, i4, i5, i6, i7⟩ := H5.out.res
  cases B
  case false =>
    have hc : CC = 1 := by rw [HC.out]; rfl
    obtain ⟨b1, b2, b3⟩ := HBd.out 1 hc (by decide)
    subst hc b1 b2 b3
    go_wp2_with fail
    with_reducible refine (l09Ill_any 1 y2).mono ?_
    rintro e yi ⟨rfl, zi⟩
    have Hi : Hid (LaB w q rs.length cq p lv.length cp now k a rq fs.length rc yi) := H5.out.below zi
    clear x0 x1 x2 x3 x4 x5 i0 i1 i2 i3 i4 i5 i6 i7 zi
    obtain ⟨i0, i1, i2, i3, i4, i5, i6, i7⟩ := Hi.out.res
    go_wp2_with fail
    obtain ⟨K, HLo, HEd⟩ := la_put Hi.out.rs (by omega) Hi.out.bel (HZ.out yi) (.slice none 0 0) (.slice none 0 0) (.int .i64 0) (.int .i64 1)
    generalize ((((yi.setCell ⟨w.heap.size + 2, 0, none⟩ (.slice none 0 0)).setCell ⟨w.heap.size + 2, 1, none⟩ (.slice none 0 0)).setCell ⟨w.heap.size + 2, 2, none⟩ (.int .i64 0)).setCell ⟨w.heap.size + 2, 3, none⟩ (.int .i64 1)) = zz at *
    have HLp : Hid (LgO _ _ _ _ _ zz) := HLo
    have HEn : Hid (Below w.heap.size w zz) := HEd
    have k0 : zz.cell? ⟨w.heap.size + 2, 0, none⟩ = some (.slice none 0 0) := K.cell 0
    have k1 : zz.cell? ⟨w.heap.size + 2, 1, none⟩ = some (.slice none 0 0) := K.cell 1
    have k2 : zz.cell? ⟨w.heap.size + 2, 2, none⟩ = some (.int .i64 0) := K.cell 2
    have k3 : zz.cell? ⟨w.heap.size + 2, 3, none⟩ = some (.int .i64 1) := K.cell 3
    refine bodyPost_ret (v := .agg #[.slice none 0 0, .slice none 0 0, .int .i64 0, .int .i64 1]) (by simp [results, Tryz.results16, go_sem, k0, k1, k2, k3]) rfl ?_
    exact ⟨⟨_, _, [], rfl, rfl, HLp.out⟩, HEn.out⟩
  have hq := HFr.out y2 H5.out.bel
  go_wp2_with fail
  with_reducible refine hq.mono ?_
  rintro e y3 ⟨rfl, zq⟩
  have H6 : Hid (LaB w q rs.length cq p lv.length cp now k a rq fs.length rc y3) := H5.out.below zq
  clear x0 x1 x2 x3 x4 x5 i0 i1 i2 i3 i4 i5 i6 i7 hq zq
  obtain ⟨x0, x1, x2, x3, x4, x5⟩ := H6.out.six
  obtain ⟨i0, i1, i2, i3, i4, i5, i6, i7⟩ := H6.out.res
  cases G
  case false =>
    have hc : CC = 1 := by rw [HC.out]; rfl
    obtain ⟨b1, b2, b3⟩ := HBd.out 1 hc (by decide)
    subst hc b1 b2 b3
    go_wp2_with fail
    with_reducible refine (l09Ill_any 1 y3).mono ?_
    rintro e yi ⟨rfl, zi⟩
    have Hi : Hid (LaB w q rs.length cq p lv.length cp now k a rq fs.length rc yi) := H6.out.below zi
    clear x0 x1 x2 x3 x4 x5 i0 i1 i2 i3 i4 i5 i6 i7 zi
    obtain ⟨i0, i1, i2, i3, i4, i5, i6, i7⟩ := Hi.out.res
    go_wp2_with fail
    obtain ⟨K, HLo, HEd⟩ := la_put Hi.out.rs (by omega) Hi.out.bel (HZ.out yi) (.slice none 0 0) (.slice none 0 0) (.int .i64 0) (.int .i64 1)
    generalize ((((yi.setCell ⟨w.heap.size + 2, 0, none⟩ (.slice none 0 0)).setCell ⟨w.heap.size + 2, 1, none⟩ (.slice none 0 0)).setCell ⟨w.heap.size + 2, 2, none⟩ (.int .i64 0)).setCell ⟨w.heap.size + 2, 3, none⟩ (.int .i64 1)) = zz at *
    have HLp : Hid (LgO _ _ _ _ _ zz) := HLo
    have HEn : Hid (Below w.heap.size w zz) := HEd
    have k0 : zz.cell? ⟨w.heap.size + 2, 0, none⟩ = some (.slice none 0 0) := K.cell 0
    have k1 : zz.cell? ⟨w.heap.size + 2, 1, none⟩ = some (.slice none 0 0) := K.cell 1
    have k2 : zz.cell? ⟨w.heap.size + 2, 2, none⟩ = some (.int .i64 0) := K.cell 2
    have k3 : zz.cell? ⟨w.heap.size + 2, 3, none⟩ = some (.int .i64 1) := K.cell 3
    refine bodyPost_ret (v := .agg #[.slice none 0 0, .slice none 0 0, .int .i64 0, .int .i64 1]) (by simp [results, Tryz.results16, go_sem, k0, k1, k2, k3]) rfl ?_
    exact ⟨⟨_, _, [], rfl, rfl, HLp.out⟩, HEn.out⟩
  cases hN : (a == now)
  case false =>
    have fN : ¬ a = now := by simpa using hN
    have hc : CC = 1 := by rw [HC.out]; rw [hN]; rfl
    obtain ⟨b1, b2, b3⟩ := HBd.out 1 hc (by decide)
    subst hc b1 b2 b3
    go_wp2_with fail
    with_reducible refine (l09Ill_any 1 y3).mono ?_
    rintro e yi ⟨rfl, zi⟩
    have Hi : Hid (LaB w q rs.length cq p lv.length cp now k a rq fs.length rc yi) := H6.out.below zi
    clear x0 x1 x2 x3 x4 x5 i0 i1 i2 i3 i4 i5 i6 i7 zi
    obtain ⟨i0, i1, i2, i3, i4, i5, i6, i7⟩ := Hi.out.res
    go_wp2_with fail
    obtain ⟨K, HLo, HEd⟩ := la_put Hi.out.rs (by omega) Hi.out.bel (HZ.out yi) (.slice none 0 0) (.slice none 0 0) (.int .i64 0) (.int .i64 1)
    generalize ((((yi.setCell ⟨w.heap.size + 2, 0, none⟩ (.slice none 0 0)).setCell ⟨w.heap.size + 2, 1, none⟩ (.slice none 0 0)).setCell ⟨w.heap.size + 2, 2, none⟩ (.int .i64 0)).setCell ⟨w.heap.size + 2, 3, none⟩ (.int .i64 1)) = zz at *
    have HLp : Hid (LgO _ _ _ _ _ zz) := HLo
    have HEn : Hid (Below w.heap.size w zz) := HEd
    have k0 : zz.cell? ⟨w.heap.size + 2, 0, none⟩ = some (.slice none 0 0) := K.cell 0
    have k1 : zz.cell? ⟨w.heap.size + 2, 1, none⟩ = some (.slice none 0 0) := K.cell 1
    have k2 : zz.cell? ⟨w.heap.size + 2, 2, none⟩ = some (.int .i64 0) := K.cell 2
    have k3 : zz.cell? ⟨w.heap.size + 2, 3, none⟩ = some (.int .i64 1) := K.cell 3
    refine bodyPost_ret (v := .agg #[.slice none 0 0, .slice none 0 0, .int .i64 0, .int .i64 1]) (by simp [results, Tryz.results16, go_sem, k0, k1, k2, k3]) rfl ?_
    exact ⟨⟨_, _, [], rfl, rfl, HLp.out⟩, HEn.out⟩
  obtain rfl : a = now := by simpa using hN
  clear hN
  by_cases h6 : rs.length = 6
  case pos =>
    have d6 : decide (6 ≤ (rs.length : Int)) = true := decide_eq_true (by omega)
    have d7 : (rs.length : Int) = 6 := by omega
    have hw : (if ((true && (true && (true && (a == a)))) : Bool) = true then (if rs.length = 6 then (9 : Int) else 0) else 1) = 9 := by simp [h6]
    have HW9 : Hid ((if ((true && (true && (true && (a == a)))) : Bool) = true then (if rs.length = 6 then (9 : Int) else 0) else 1) = 9) := hw
    clear hw h6
    have hc : CC = 9 := by rw [HC.out]; exact HW9.out
    obtain ⟨b1, b2, b3⟩ := HBd.out 9 hc (by decide)
    subst hc b1 b2 b3
    go_wp2_with fail
    with_reducible refine (l09Ill_any 9 y3).mono ?_
    rintro e yi ⟨rfl, zi⟩
    have Hi : Hid (LaB w q rs.length cq p lv.length cp a k a rq fs.length rc yi) := H6.out.below zi
    clear x0 x1 x2 x3 x4 x5 i0 i1 i2 i3 i4 i5 i6 i7 zi
    obtain ⟨i0, i1, i2, i3, i4, i5, i6, i7⟩ := Hi.out.res
    go_wp2_with fail
    obtain ⟨K, HLo, HEd⟩ := la_put Hi.out.rs (by omega) Hi.out.bel (HZ.out yi) (.slice none 0 0) (.slice none 0 0) (.int .i64 0) (.int .i64 9)
    generalize ((((yi.setCell ⟨w.heap.size + 2, 0, none⟩ (.slice none 0 0)).setCell ⟨w.heap.size + 2, 1, none⟩ (.slice none 0 0)).setCell ⟨w.heap.size + 2, 2, none⟩ (.int .i64 0)).setCell ⟨w.heap.size + 2, 3, none⟩ (.int .i64 9)) = zz at *
    have HLp : Hid (LgO _ _ _ _ _ zz) := HLo
    have HEn : Hid (Below w.heap.size w zz) := HEd
    have k0 : zz.cell? ⟨w.heap.size + 2, 0, none⟩ = some (.slice none 0 0) := K.cell 0
    have k1 : zz.cell? ⟨w.heap.size + 2, 1, none⟩ = some (.slice none 0 0) := K.cell 1
    have k2 : zz.cell? ⟨w.heap.size + 2, 2, none⟩ = some (.int .i64 0) := K.cell 2
    have k3 : zz.cell? ⟨w.heap.size + 2, 3, none⟩ = some (.int .i64 9) := K.cell 3
    refine bodyPost_ret (v := .agg #[.slice none 0 0, .slice none 0 0, .int .i64 0, .int .i64 9]) (by simp [results, Tryz.results16, go_sem, k0, k1, k2, k3]) rfl ?_
    exact ⟨⟨_, _, [], rfl, rfl, HLp.out⟩, HEn.out⟩
  obtain ⟨hn6, hn64⟩ := HLn.out (by simp)
  have d6 : decide (6 ≤ (rs.length : Int)) = false := decide_eq_false (by omega)
  have d7 : ¬ (rs.length : Int) = 6 := by omega
  have hc : CC = 0 := by rw [HC.out]; simp [h6]
  obtain ⟨b1, b2, b3⟩ := HGd.out hc
  have b4 := b3.symm
  subst hc b1 b2 b4
  have hCp := HCp.out (by simp) y3 H6.out.bel
  clear HC HBd HGd
  go_wp2_with fail
  with_reducible refine hCp.mono ?_
  rintro e y4 ⟨v1, v2, xs, rfl, hx, ho, z4⟩
  obtain ⟨z1, zc, rfl, _⟩ := ho.rws.form
  obtain ⟨z2, zd, rfl, _, _⟩ := ownS_form ho.lvs
  have hxl : xs.length = rs.length := by rw [← hx, List.length_map]
  have HX : Hid (xs.map (·.1) = rs) := hx
  have Hxs : Hid (xs.length + 1 ≤ 1048576 ∧ lv.length + 1 ≤ 1048576) := ⟨by omega, by omega⟩
  have HC5 : Hid (LgC y3 y4.heap.size xs lv a (.slice z1 xs.length zc) (.slice z2 lv.length zd) (y4.alloc (.cells #[.slice z1 xs.length zc, .slice z2 lv.length zd, .int .i64 a] 26))) := ⟨Bxs.new _ _ _, ho.below (alB (Below.refl _ _) _), z4.size, alB z4 _⟩
  have HY3 : Hid (w.heap.size + 2 < y3.heap.size) := H6.out.rs.lt
  clear x0 x1 x2 x3 x4 x5 i0 i1 i2 i3 i4 i5 i6 i7 hCp hx ho z4 hxl hn6 hn64 d6 d7 h6
  go_upto_region 6 with fail
  generalize y4.heap.size = E at *
  generalize y4.alloc (.cells #[.slice z1 xs.length zc, .slice z2 lv.length zd, .int .i64 a] 26) = y5 at *
  have HRw : Hid (∀ x, Below y3.heap.size y3 x → Bxs x (w.heap.size + 1) 29 #[.string k, .int .i64 a, .slice rq fs.length rc] ∧ Below w.heap.size w x) := fun x hb => ⟨H6.out.rw.below hb, chainB H6.out.bel hb⟩
  have hCr := HCr.out (by simp)
  have HQr : Hid (∀ x, Below y3.heap.size y3 x → Calls Tryz.prog 76 #[.agg #[.string k, .int .i64 a, .slice rq fs.length rc]] x fun e w' => ∃ bb cc, e = .returned (.agg #[.string k, .int .i64 a, .slice (some ⟨bb, 0, none⟩) fs.length cc]) ∧ w'.ownsRow x.heap.size 103 5 (.slice (some ⟨bb, 0, none⟩) fs.length cc) fs.length (fldRow fs) ∧ Below x.heap.size x w') := fun x hb => hCr x (HRw.out x hb).2
  have hLf := HLf.out (by simp)
  have HQl : Hid (∀ x, Below y3.heap.size y3 x → Calls Tryz.prog 77 #[.agg #[.string k, .int .i64 a, .slice rq fs.length rc]] x fun e w' => e = .returned (.string LF) ∧ Below x.heap.size x w') := fun x hb => hLf x (HRw.out x hb).2
  clear hCr hLf HCr HLf
  have nF : some (w.heap.size + 1) ≠ (Value.slice z1 xs.length zc).ownBlock := fun e => by have := (HC5.out.lg.rws.lt.1 _ e.symm).1; have := HY3.out; omega
  have HNF : Hid (some (w.heap.size + 1) ≠ (Value.slice z1 xs.length zc).ownBlock) := nF
  have nF2 : some (w.heap.size + 1) ≠ (Value.slice z2 lv.length zd).ownBlock := fun e => by have := (HC5.out.lg.lvs.lt _ e.symm).1; have := HY3.out; omega
  have HNF2 : Hid (some (w.heap.size + 1) ≠ (Value.slice z2 lv.length zd).ownBlock) := nF2
  clear nF nF2
  have HCd := HC5.out.below (Below.refl _ _).drew
  refine region_till (fun w' => w'.cell? ⟨E, 0, none⟩ = some (.slice z1 xs.length zc) ∧ w'.cell? ⟨w.heap.size + 1, 0, none⟩ = some (.string k) ∧ w'.cell? ⟨w.heap.size + 1, 1, none⟩ = some (.int .i64 a) ∧ w'.cell? ⟨w.heap.size + 1, 2, none⟩ = some (.slice rq fs.length rc)) 7 (by kernel_rfl) ⟨HCd.cells.1, (HRw.out _ HCd.bel).1.cell 0, (HRw.out _ HCd.bel).1.cell 1, (HRw.out _ HCd.bel).1.cell 2⟩ (fun hHeld => ?_)
  generalize y5.drew = y0 at *
  refine till_take 0 (v := ?_) rfl (by kernel_rfl) (by kernel_rfl) (by kernel_rfl) (by kernel_rfl) (fun _ _ _ h => h) hHeld (Or.inl ⟨by rfl, ?_⟩) ?_
  rotate_left
  · (intro w hSw; (try dsimp only at hSw); go_simp; try with_reducible rfl)
  simp only [Act.put, List.setIfInBounds_toArray, List.set_cons_zero, List.set_cons_succ]
  refine till_take 1 (v := ?_) rfl (by kernel_rfl) (by kernel_rfl) (by kernel_rfl) (by kernel_rfl) (fun _ _ _ h => h) hHeld (Or.inl ⟨by rfl, ?_⟩) ?_
  rotate_left
  · (intro w hSw; (try dsimp only at hSw); go_simp; try with_reducible rfl)
  simp only [Act.put, List.setIfInBounds_toArray, List.set_cons_zero, List.set_cons_succ]
  refine till_take 2 (v := ?_) rfl (by kernel_rfl) (by kernel_rfl) (by kernel_rfl) (by kernel_rfl) (fun _ _ _ h => h) hHeld (Or.inl ⟨by rfl, ?_⟩) ?_
  rotate_left
  · (intro w hSw; (try dsimp only at hSw); go_simp; try with_reducible rfl)
  simp only [Act.put, List.setIfInBounds_toArray, List.set_cons_zero, List.set_cons_succ]
  refine till_ready 3 rfl (by kernel_rfl) (fun K hK => ?_)
  go_simp
  (go_at_call 76; refine (HQr.out _ HCd.bel).mono ?_; rintro e y1 ⟨bb, cc, rfl, own1, zz1⟩)
  have HC1 := HCd.below zz1
  refine hK.out _ _ ⟨HC1.cells.1, (HRw.out _ HC1.bel).1.cell 0, (HRw.out _ HC1.bel).1.cell 1, (HRw.out _ HC1.bel).1.cell 2⟩ (fun hHeld => ?_)
  clear hK K
  try simp only [Act.put, List.setIfInBounds_toArray, List.set_cons_zero, List.set_cons_succ]
  obtain ⟨q2, d2, y2, hrun, HC2, bl2, k20, k21, gr2⟩ := HCd.app zz1 ⟨k, a, fs⟩ (some ⟨bb, 0, none⟩) cc own1 Hxs.out.1
  have HCa := HC1.below (alB (Below.refl _ _) (.cells #[.string k, .int .i64 a, .slice (some ⟨bb, 0, none⟩) fs.length cc] 29))
  refine till_ready 4 rfl (by kernel_rfl) (fun K hK => ?_)
  go_simp
  refine hK.out _ _ ⟨HCa.cells.1, (HRw.out _ HCa.bel).1.cell 0, (HRw.out _ HCa.bel).1.cell 1, (HRw.out _ HCa.bel).1.cell 2⟩ (fun hHeld => ?_)
  clear hK K
  try simp only [Act.put, List.setIfInBounds_toArray, List.set_cons_zero, List.set_cons_succ]
  refine till_ready 5 rfl (by kernel_rfl) (fun K hK => ?_)
  refine step_append_run rfl _ _ 23 rfl (.slice z1 xs.length zc) (.slice (some ⟨y1.heap.size, 0, none⟩) 1 1) _ _ rfl rfl hrun ?_
  refine hK.out _ _ ⟨k20, ((HRw.out _ HCa.bel).1.grown gr2 HNF.out).cell 0, ((HRw.out _ HCa.bel).1.grown gr2 HNF.out).cell 1, ((HRw.out _ HCa.bel).1.grown gr2 HNF.out).cell 2⟩ (fun hHeld => ?_)
  clear hK K
  try simp only [Act.put, List.setIfInBounds_toArray, List.set_cons_zero, List.set_cons_succ]
  refine till_take 6 (v := ?_) rfl (by kernel_rfl) (by kernel_rfl) (by kernel_rfl) (by kernel_rfl) (fun _ _ _ h => h) hHeld (Or.inl ⟨by rfl, ?_⟩) ?_
  rotate_left
  · (intro w hSw; (try dsimp only at hSw); go_simp; try with_reducible rfl)
  simp only [Act.put, List.setIfInBounds_toArray, List.set_cons_zero, List.set_cons_succ]
  refine till_last rfl (by kernel_rfl) (by kernel_rfl) (fun K hK => ?_)
  go_simp
  refine hK.out _ _ ?_
  clear hK K hHeld
  have HC6 : Hid (LgC y3 E (xs ++ [(⟨k, a, fs⟩, .slice (some ⟨bb, 0, none⟩) fs.length cc)]) lv a (.slice q2 (xs.length + 1) d2) (.slice z2 lv.length zd) (y2.setCell ⟨E, 0, none⟩ (.slice q2 (xs.length + 1) d2))) := HC2
  clear HC2 hrun k20 k21 bl2 own1 zz1 HC1 HCd HCa gr2 HC5
  go_upto_region 7 with fail
  generalize y2.setCell ⟨E, 0, none⟩ (.slice q2 (xs.length + 1) d2) = y6 at *
  have HCd := HC6.out.below (Below.refl _ _).drew
  refine region_till (fun w' => w'.cell? ⟨E, 1, none⟩ = some (.slice z2 lv.length zd) ∧ w'.cell? ⟨w.heap.size + 1, 0, none⟩ = some (.string k) ∧ w'.cell? ⟨w.heap.size + 1, 1, none⟩ = some (.int .i64 a) ∧ w'.cell? ⟨w.heap.size + 1, 2, none⟩ = some (.slice rq fs.length rc)) 7 (by kernel_rfl) ⟨HCd.cells.2.1, (HRw.out _ HCd.bel).1.cell 0, (HRw.out _ HCd.bel).1.cell 1, (HRw.out _ HCd.bel).1.cell 2⟩ (fun hHeld => ?_)
  generalize y6.drew = y7 at *
  refine till_take 0 (v := ?_) rfl (by kernel_rfl) (by kernel_rfl) (by kernel_rfl) (by kernel_rfl) (fun _ _ _ h => h) hHeld (Or.inl ⟨by rfl, ?_⟩) ?_
  rotate_left
  · (intro w hSw; (try dsimp only at hSw); go_simp; try with_reducible rfl)
  simp only [Act.put, List.setIfInBounds_toArray, List.set_cons_zero, List.set_cons_succ]
  refine till_take 1 (v := ?_) rfl (by kernel_rfl) (by kernel_rfl) (by kernel_rfl) (by kernel_rfl) (fun _ _ _ h => h) hHeld (Or.inl ⟨by rfl, ?_⟩) ?_
  rotate_left
  · (intro w hSw; (try dsimp only at hSw); go_simp; try with_reducible rfl)
  simp only [Act.put, List.setIfInBounds_toArray, List.set_cons_zero, List.set_cons_succ]
  refine till_take 2 (v := ?_) rfl (by kernel_rfl) (by kernel_rfl) (by kernel_rfl) (by kernel_rfl) (fun _ _ _ h => h) hHeld (Or.inl ⟨by rfl, ?_⟩) ?_
  rotate_left
  · (intro w hSw; (try dsimp only at hSw); go_simp; try with_reducible rfl)
  simp only [Act.put, List.setIfInBounds_toArray, List.set_cons_zero, List.set_cons_succ]
  refine till_ready 3 rfl (by kernel_rfl) (fun K hK => ?_)
  go_simp
  (go_at_call 77; refine (HQl.out _ HCd.bel).mono ?_; rintro e y8 ⟨rfl, zz1⟩)
  have HC1 := HCd.below zz1
  refine hK.out _ _ ⟨HC1.cells.2.1, (HRw.out _ HC1.bel).1.cell 0, (HRw.out _ HC1.bel).1.cell 1, (HRw.out _ HC1.bel).1.cell 2⟩ (fun hHeld => ?_)
  clear hK K
  try simp only [Act.put, List.setIfInBounds_toArray, List.set_cons_zero, List.set_cons_succ]
  obtain ⟨gq, d3, y9, hrun, HC2, bl2, k20, k21, gr2⟩ := HC1.leaf LF Hxs.out.2
  have HCa := HC1.below (alB (Below.refl _ _) (.cells #[.string LF] 9))
  refine till_ready 4 rfl (by kernel_rfl) (fun K hK => ?_)
  go_simp
  refine hK.out _ _ ⟨HCa.cells.2.1, (HRw.out _ HCa.bel).1.cell 0, (HRw.out _ HCa.bel).1.cell 1, (HRw.out _ HCa.bel).1.cell 2⟩ (fun hHeld => ?_)
  clear hK K
  try simp only [Act.put, List.setIfInBounds_toArray, List.set_cons_zero, List.set_cons_succ]
  refine till_ready 5 rfl (by kernel_rfl) (fun K hK => ?_)
  refine step_append_run rfl _ _ 24 rfl (.slice z2 lv.length zd) (.slice (some ⟨y8.heap.size, 0, none⟩) 1 1) _ _ rfl rfl hrun ?_
  refine hK.out _ _ ⟨k20, ((HRw.out _ HCa.bel).1.grown gr2 HNF2.out).cell 0, ((HRw.out _ HCa.bel).1.grown gr2 HNF2.out).cell 1, ((HRw.out _ HCa.bel).1.grown gr2 HNF2.out).cell 2⟩ (fun hHeld => ?_)
  clear hK K
  try simp only [Act.put, List.setIfInBounds_toArray, List.set_cons_zero, List.set_cons_succ]
  refine till_take 6 (v := ?_) rfl (by kernel_rfl) (by kernel_rfl) (by kernel_rfl) (by kernel_rfl) (fun _ _ _ h => h) hHeld (Or.inl ⟨by rfl, ?_⟩) ?_
  rotate_left
  · (intro w hSw; (try dsimp only at hSw); go_simp; try with_reducible rfl)
  simp only [Act.put, List.setIfInBounds_toArray, List.set_cons_zero, List.set_cons_succ]
  refine till_last rfl (by kernel_rfl) (by kernel_rfl) (fun K hK => ?_)
  go_simp
  refine hK.out _ _ ?_
  clear hK K hHeld
  have HC8 : Hid (LgC y3 E (xs ++ [(⟨k, a, fs⟩, .slice (some ⟨bb, 0, none⟩) fs.length cc)]) (lv ++ [LF]) a (.slice q2 (xs.length + 1) d2) (.slice (some ⟨gq, 0, none⟩) (lv.length + 1) d3) (y9.setCell ⟨E, 1, none⟩ (.slice (some ⟨gq, 0, none⟩) (lv.length + 1) d3))) := HC2
  clear HC2 hrun k20 k21 bl2 zz1 HC1 HCd HCa gr2 HC6
  go_upto_region 8 with fail
  generalize y9.setCell ⟨E, 1, none⟩ (.slice (some ⟨gq, 0, none⟩) (lv.length + 1) d3) = yA at *
  obtain ⟨p0, p1, p2, g0, g1, g2⟩ := HC8.out.cells
  have HA8 : Hid (LaB w q rs.length cq p lv.length cp a k a rq fs.length rc yA) := ⟨H6.out.lg.below HC8.out.bel, H6.out.rw.below HC8.out.bel, H6.out.rs.below HC8.out.bel, chainB H6.out.bel HC8.out.bel⟩
  have HO8 : Hid (LgO w.heap.size (xs ++ [(⟨k, a, fs⟩, .slice (some ⟨bb, 0, none⟩) fs.length cc)]) (lv ++ [LF]) (.slice q2 (xs.length + 1) d2) (.slice (some ⟨gq, 0, none⟩) (lv.length + 1) d3) yA) := HC8.out.lg.lower (by have := HY3.out; omega)
  have HM8 : Hid ((xs ++ [((⟨k, a, fs⟩ : Rw), (Value.slice (some ⟨bb, 0, none⟩) fs.length cc))]).map (·.1) = rs ++ [⟨k, a, fs⟩]) := by show _ = _; rw [List.map_append, HX.out]; rfl
  obtain ⟨i0, i1, i2, i3, i4, i5, i6, i7⟩ := HA8.out.res
  clear HC8
  go_wp2_with fail
  obtain ⟨K, HLo, HEd⟩ := la_put HA8.out.rs (by omega) HA8.out.bel HO8.out (.slice q2 (xs.length + 1) d2) (.slice (some ⟨gq, 0, none⟩) (lv.length + 1) d3) (.int .i64 a) (.int .i64 0)
  generalize ((((yA.setCell ⟨w.heap.size + 2, 0, none⟩ (.slice q2 (xs.length + 1) d2)).setCell ⟨w.heap.size + 2, 1, none⟩ (.slice (some ⟨gq, 0, none⟩) (lv.length + 1) d3)).setCell ⟨w.heap.size + 2, 2, none⟩ (.int .i64 a)).setCell ⟨w.heap.size + 2, 3, none⟩ (.int .i64 0)) = zz at *
  have HLp : Hid (LgO _ _ _ _ _ zz) := HLo
  have HEn : Hid (Below w.heap.size w zz) := HEd
  have k0 : zz.cell? ⟨w.heap.size + 2, 0, none⟩ = some (.slice q2 (xs.length + 1) d2) := K.cell 0
  have k1 : zz.cell? ⟨w.heap.size + 2, 1, none⟩ = some (.slice (some ⟨gq, 0, none⟩) (lv.length + 1) d3) := K.cell 1
  have k2 : zz.cell? ⟨w.heap.size + 2, 2, none⟩ = some (.int .i64 a) := K.cell 2
  have k3 : zz.cell? ⟨w.heap.size + 2, 3, none⟩ = some (.int .i64 0) := K.cell 3
  refine bodyPost_ret (v := .agg #[.slice q2 (xs.length + 1) d2, .slice (some ⟨gq, 0, none⟩) (lv.length + 1) d3, .int .i64 a, .int .i64 0]) (by simp [results, Tryz.results16, go_sem, k0, k1, k2, k3]) rfl ?_
  exact ⟨⟨_, _, _, rfl, HM8.out, HLp.out⟩, HEn.out⟩
end Go.Proofs.YtepmoihgemhjcaaGreatDoor
/-
  What the program's Forget answers.
  Conditions: the cells of Fields hold the fields; the two tables of the digest lie as laid.
-/
namespace Go.Proofs.YtepmoihgemhjcaaGreatDoor
open Go.RowKit Go.Lib
set_option linter.unusedVariables false
set_option maxRecDepth 20000

set_option maxHeartbeats 8000000 in
theorem implForget_any (k : ByteArray) (at_ : Int) (q : Option Addr) (c : Nat) (fs : List Fld) (ix : Int) (w : World) (hT : Tabs w) (hf : FldAt w q fs) (hn : fs.length ≤ 1048576) (hc : fs.length ≤ c) (hk : k.size ≤ maxLen) (hz : FldsLe fs) :
    Calls Tryz.prog 67 #[.agg #[.string k, .int .i64 at_, .slice q fs.length c], .int .i64 ix] w fun e w' => ∃ v, e = .returned (.agg #[.string (fgK k at_ fs ix), .int .i64 (fgA k at_ fs ix), v, .int .i64 (fgC k at_ fs ix)]) ∧ w'.ownsRow w.heap.size 103 5 v (fgF k at_ fs ix).length (fldRow (fgF k at_ fs ix)) ∧ Below w.heap.size w w' := by
  obtain ⟨W2, hW2⟩ : ∃ W2, W2 = (w.alloc (.cells #[.string k, .int .i64 at_, .slice q fs.length c] 29)).alloc (.cells #[.string ⟨#[]⟩, .int .i64 0, .slice none 0 0, .int .i64 0] 89) := ⟨_, rfl⟩
  have HW2 : Hid (W2 = (w.alloc (.cells #[.string k, .int .i64 at_, .slice q fs.length c] 29)).alloc (.cells #[.string ⟨#[]⟩, .int .i64 0, .slice none 0 0, .int .i64 0] 89)) := hW2
  have hs1 : (w.alloc (.cells #[.string k, .int .i64 at_, .slice q fs.length c] 29)).heap.size = w.heap.size + 1 := by simp
  have HS2 : Hid (W2.heap.size = w.heap.size + 2) := by rw [hW2]; show _ = _; simp
  have K0 : Hid (Bxs W2 w.heap.size 29 #[.string k, .int .i64 at_, .slice q fs.length c]) := by rw [hW2]; exact (Bxs.new _ _ _).alloc _
  have K1 : Hid (Bxs W2 (w.heap.size + 1) 89 #[.string ByteArray.empty, .int .i64 0, .slice none 0 0, .int .i64 0]) := by rw [hW2, ← hs1]; exact Bxs.new _ _ _
  have B2 : Hid (Below w.heap.size w W2) := by rw [hW2]; exact ((Below.refl _ _).alloc (Nat.le_refl _) _).alloc (by rw [hs1]; omega) _
  have HT : Hid (FldAt W2 q fs) := hf.below B2.out
  have HX : Hid (∀ x, Below W2.heap.size W2 x → x.cell? ⟨w.heap.size, 0, none⟩ = some (.string k) ∧ x.cell? ⟨w.heap.size, 1, none⟩ = some (.int .i64 at_) ∧ x.cell? ⟨w.heap.size, 2, none⟩ = some (.slice q fs.length c)) := fun x hb => ⟨(K0.out.below hb).cell 0, (K0.out.below hb).cell 1, (K0.out.below hb).cell 2⟩
  have HR : Hid (∀ x, Bxs x (w.heap.size + 1) 89 #[.string ByteArray.empty, .int .i64 0, .slice none 0 0, .int .i64 0] → x.cell? ⟨w.heap.size + 1, 0, none⟩ = some (.string ByteArray.empty) ∧ x.cell? ⟨w.heap.size + 1, 1, none⟩ = some (.int .i64 0) ∧ x.cell? ⟨w.heap.size + 1, 2, none⟩ = some (.slice none 0 0) ∧ x.cell? ⟨w.heap.size + 1, 3, none⟩ = some (.int .i64 0) ∧ x.frozen? ⟨w.heap.size + 1, 0, none⟩ = false ∧ x.frozen? ⟨w.heap.size + 1, 1, none⟩ = false ∧ x.frozen? ⟨w.heap.size + 1, 2, none⟩ = false ∧ x.frozen? ⟨w.heap.size + 1, 3, none⟩ = false) := fun x hb => ⟨hb.cell 0, hb.cell 1, hb.cell 2, hb.cell 3, hb.fr 0, hb.fr 1, hb.fr 2, hb.fr 3⟩
  have hF := fieldCode_any k at_ q c fs ix 7 W2 (hT.to B2.out) HT.out hn hc hk hz
  have HFC : Hid (fgC k at_ fs ix = fcC k at_ fs ix 7) := rfl
  obtain ⟨t0, t1, t2⟩ := HX.out W2 (Below.refl _ _)
  rw [HW2.out] at t0 t1 t2
  clear hW2 hf hs1 hT hz
  by_cases hcd : fcC k at_ fs ix 7 = 0
  case neg =>
    have HEr : Hid (∀ (y : World) (x0 x1 x2 x3 : Value), Below W2.heap.size W2 y → ∃ v, Ending.returned (.agg #[.string ByteArray.empty, .int .i64 0, .slice none 0 0, .int .i64 (fcC k at_ fs ix 7)]) = .returned (.agg #[.string (fgK k at_ fs ix), .int .i64 (fgA k at_ fs ix), v, .int .i64 (fgC k at_ fs ix)]) ∧ ((((y.setCell ⟨w.heap.size + 1, 0, none⟩ x0).setCell ⟨w.heap.size + 1, 1, none⟩ x1).setCell ⟨w.heap.size + 1, 2, none⟩ x2).setCell ⟨w.heap.size + 1, 3, none⟩ x3).ownsRow w.heap.size 103 5 v (fgF k at_ fs ix).length (fldRow (fgF k at_ fs ix)) ∧ Below w.heap.size w ((((y.setCell ⟨w.heap.size + 1, 0, none⟩ x0).setCell ⟨w.heap.size + 1, 1, none⟩ x1).setCell ⟨w.heap.size + 1, 2, none⟩ x2).setCell ⟨w.heap.size + 1, 3, none⟩ x3)) := by
      intro y x0 x1 x2 x3 hb
      have hn' : ¬ fgC k at_ fs ix = 0 := by rw [HFC.out]; exact hcd
      rw [show fgK k at_ fs ix = ByteArray.empty from if_neg hn', show fgA k at_ fs ix = 0 from if_neg hn', show fgF k at_ fs ix = [] from if_neg hn', HFC.out]
      exact ⟨_, rfl, World.ownsRow_nil _ _ _ _, below_set4 (chainB B2.out hb) (by omega) _ _ _ _⟩
    obtain ⟨cd, hcde⟩ : ∃ cd, cd = fcC k at_ fs ix 7 := ⟨_, rfl⟩
    rw [← hcde] at hF HEr hcd
    have d1 : (cd == 0) = false := beq_eq_false_iff_ne.2 hcd
    have d2 : (cd != 0) = true := bne_iff_ne.2 hcd
    clear hcde hcd HFC
    go_enter Tryz.func67, Tryz.ntmps67
    go_wp2_with fail
    rw [← HW2.out]
    refine hF.mono ?_
    rintro e y1 ⟨rfl, b1⟩
    have HE := fun x0 x1 x2 x3 => HEr.out y1 x0 x1 x2 x3 b1
    obtain ⟨r0, r1, r2, r3, f0, f1, f2, f3⟩ := HR.out y1 (K1.out.below b1)
    clear b1 HEr HR HX t0 t1 t2
    go_wp2_with fail
    refine bodyPost_ret (v := .agg #[.string ByteArray.empty, .int .i64 0, .slice none 0 0, .int .i64 cd]) (by simp [results, Tryz.results67, go_sem, r0, r1, r2, r3] <;> rfl) rfl ?_
    exact HE _ _ _ _
  have hC : Hid (fgC k at_ fs ix = 0) := HFC.out.trans hcd
  obtain ⟨hr, hin, hg0⟩ := fcC_zero (by omega) hcd
  obtain ⟨-, -, ⟨l1, l3⟩, -, -⟩ := rwB_parts hr
  rw [hcd] at hF
  have HK2 : Hid (fgK k at_ fs ix = k) := if_pos hC.out
  have HA2 : Hid (fgA k at_ fs ix = at_) := if_pos hC.out
  obtain ⟨I, hI⟩ := Int.eq_ofNat_of_zero_le hin.1
  subst hI
  have hIl : I < fs.length := by omega
  have i1 : (I : Int) < fs.length := by omega
  have HG : Hid (fs.getD I fldD = fs[I]) := by show _ = _; rw [List.getD_eq_getElem?_getD, List.getElem?_eq_getElem hIl]; rfl
  have HF2 : Hid (fgF k at_ fs I = fs.set I (goneF fs[I])) := by
    show (if _ then _ else _) = _
    rw [if_pos hC.out, Int.toNat_natCast, HG.out]
  have HGF : Hid (goneF fs[I] = ⟨fs[I].n, fs[I].c, ByteArray.empty, ByteArray.empty, true⟩) := rfl
  have HCp : Hid (∀ x, Below W2.heap.size W2 x → Calls Tryz.prog 61 #[.agg #[.string k, .int .i64 at_, .slice q fs.length c]] x fun e w' => ∃ b cc, e = .returned (.agg #[.string k, .int .i64 at_, .slice (some ⟨b, 0, none⟩) fs.length cc]) ∧ w'.ownsRow x.heap.size 103 5 (.slice (some ⟨b, 0, none⟩) fs.length cc) fs.length (fldRow fs) ∧ Below x.heap.size x w') := fun x hx => copiedRow_any k at_ q c fs x (HT.out.below hx) hc hr
  have HRow := fldRow_at fs I hIl
  clear hcd hr hg0 hin HG HFC hk
  generalize fs[I].n = fn at *
  generalize fs[I].c = fc at *
  generalize fs[I].s = fss at *
  generalize fs[I].v = fv at *
  generalize fs[I].g = fg at *
  generalize goneF fs[I] = GF at *
  have HRow2 : Hid ((fldRow fs)[I * 5]? = some (.string fn) ∧ (fldRow fs)[I * 5 + 1]? = some (.string fc) ∧ (fldRow fs)[I * 5 + 2]? = some (.string fss) ∧ (fldRow fs)[I * 5 + 3]? = some (.string fv) ∧ (fldRow fs)[I * 5 + 4]? = some (.bool fg)) := HRow
  clear HRow
  go_enter Tryz.func67, Tryz.ntmps67
  go_wp2_with fail
  rw [← HW2.out]
  refine hF.mono ?_
  rintro e y1 ⟨rfl, b1⟩
  clear t0 t1 t2
  obtain ⟨t0, t1, t2⟩ := HX.out y1 b1
  go_wp2_with fail
  refine (HCp.out y1 b1).mono ?_
  rintro e y4 ⟨bb, cc, rfl, own4, b4⟩
  have hbl : Hid (y1.heap.size ≤ bb) := (own4.lt bb rfl).1
  clear t0 t1 t2 HCp hF
  have HRw : Hid (∀ x : World, x.ownsRow y1.heap.size 103 5 (.slice (some ⟨bb, 0, none⟩) fs.length cc) fs.length (fldRow fs) → (x.cell? ⟨bb, I * 5, none⟩ = some (.string fn) ∧ x.cell? ⟨bb, I * 5 + 1, none⟩ = some (.string fc) ∧ x.cell? ⟨bb, I * 5 + 2, none⟩ = some (.string fss) ∧ x.cell? ⟨bb, I * 5 + 3, none⟩ = some (.string fv) ∧ x.cell? ⟨bb, I * 5 + 4, none⟩ = some (.bool fg)) ∧ x.frozen? ⟨bb, I * 5, none⟩ = false ∧ x.frozen? ⟨bb, I * 5 + 1, none⟩ = false ∧ x.frozen? ⟨bb, I * 5 + 2, none⟩ = false ∧ x.frozen? ⟨bb, I * 5 + 3, none⟩ = false ∧ x.frozen? ⟨bb, I * 5 + 4, none⟩ = false) := fun x ho => by
    have hr := HRow2.out
    rw [← ho.cellAt (I * 5) (by omega), ← ho.cellAt (I * 5 + 1) (by omega), ← ho.cellAt (I * 5 + 2) (by omega), ← ho.cellAt (I * 5 + 3) (by omega), ← ho.cellAt (I * 5 + 4) (by omega)] at hr
    exact ⟨hr, ho.frozenAt _, ho.frozenAt _, ho.frozenAt _, ho.frozenAt _, ho.frozenAt _⟩
  go_upto_region 5 with fail
  obtain ⟨y3, hy3⟩ : ∃ y3, y3 = y4.alloc (.cells #[.string k, .int .i64 at_, .slice (some ⟨bb, 0, none⟩) fs.length cc] 29) := ⟨_, rfl⟩
  rw [← hy3]
  have b3 : Hid (Below y4.heap.size y4 y3) := by rw [hy3]; exact (Below.refl _ _).alloc (Nat.le_refl _) _
  have s3 : Hid (y3.heap.size = y4.heap.size + 1) := by rw [hy3]; exact szA _ _
  have KZ : Hid (Bxs y3 y4.heap.size 29 #[.string k, .int .i64 at_, .slice (some ⟨bb, 0, none⟩) fs.length cc]) := by rw [hy3]; exact Bxs.new _ _ _
  obtain ⟨v0, v1, v2⟩ : y3.cell? ⟨y4.heap.size, 0, none⟩ = some (.string k) ∧ y3.cell? ⟨y4.heap.size, 1, none⟩ = some (.int .i64 at_) ∧ y3.cell? ⟨y4.heap.size, 2, none⟩ = some (.slice (some ⟨bb, 0, none⟩) fs.length cc) := ⟨KZ.out.cell 0, KZ.out.cell 1, KZ.out.cell 2⟩
  obtain ⟨⟨k0, k1, k2, k3, k4⟩, -⟩ := HRw.out y3 (ownS_below own4 b3.out)
  clear hy3
  go_upto_region 6 with fail
  obtain ⟨YF, hYF⟩ : ∃ YF, YF = y3.heap.size := ⟨_, rfl⟩
  obtain ⟨y5, hy5⟩ : ∃ y5, y5 = y3.alloc (.cells #[.string fn, .string fc, .string fss, .string fv, .bool fg] 103) := ⟨_, rfl⟩
  rw [← hy5, ← hYF]
  have b5 : Hid (Below y3.heap.size y3 y5) := by rw [hy5]; exact (Below.refl _ _).alloc (Nat.le_refl _) _
  have KY : Hid (Bxs y5 YF 103 #[.string fn, .string fc, .string fss, .string fv, .bool fg]) := by rw [hy5, hYF]; exact Bxs.new _ _ _
  have KZ5 : Hid (Bxs y5 y4.heap.size 29 #[.string k, .int .i64 at_, .slice (some ⟨bb, 0, none⟩) fs.length cc]) := KZ.out.below b5.out
  have own5 : Hid (y5.ownsRow y1.heap.size 103 5 (.slice (some ⟨bb, 0, none⟩) fs.length cc) fs.length (fldRow fs)) := ownS_below (ownS_below own4 b3.out) b5.out
  have b25 : Hid (Below W2.heap.size W2 y5) := chainB b1 (chainB b4 (chainB b3.out b5.out))
  have BR5 : Hid (Below y5.heap.size y5 y5.drew) := (Below.refl _ _).drew
  have HH : Hid (∀ x, Below y5.heap.size y5 x → x.cell? ⟨y4.heap.size, 2, none⟩ = some (.slice (some ⟨bb, 0, none⟩) fs.length cc) ∧ x.cell? ⟨YF, 0, none⟩ = some (.string fn) ∧ x.cell? ⟨YF, 1, none⟩ = some (.string fc)) := fun x hx => ⟨(KZ5.out.below hx).cell 2, (KY.out.below hx).cell 0, (KY.out.below hx).cell 1⟩
  have HCL : Hid (∀ x, Below y5.heap.size y5 x → (x.cell? ⟨bb, I * 5, none⟩ = some (.string fn) ∧ x.cell? ⟨bb, I * 5 + 1, none⟩ = some (.string fc) ∧ x.cell? ⟨bb, I * 5 + 2, none⟩ = some (.string fss) ∧ x.cell? ⟨bb, I * 5 + 3, none⟩ = some (.string fv) ∧ x.cell? ⟨bb, I * 5 + 4, none⟩ = some (.bool fg)) ∧ x.frozen? ⟨bb, I * 5, none⟩ = false ∧ x.frozen? ⟨bb, I * 5 + 1, none⟩ = false ∧ x.frozen? ⟨bb, I * 5 + 2, none⟩ = false ∧ x.frozen? ⟨bb, I * 5 + 3, none⟩ = false ∧ x.frozen? ⟨bb, I * 5 + 4, none⟩ = false) := fun x hx => HRw.out x (ownS_below own5.out hx)
  have HO : Hid (∀ (y : World) (x0 x1 x2 x3 : Value), Below y5.heap.size y5 y → (((((set5 y bb (I * 5) GF).setCell ⟨w.heap.size + 1, 0, none⟩ x0).setCell ⟨w.heap.size + 1, 1, none⟩ x1).setCell ⟨w.heap.size + 1, 2, none⟩ x2).setCell ⟨w.heap.size + 1, 3, none⟩ x3).ownsRow w.heap.size 103 5 (.slice (some ⟨bb, 0, none⟩) fs.length cc) (fs.set I GF).length (fldRow (fs.set I GF)) ∧ Below w.heap.size w (((((set5 y bb (I * 5) GF).setCell ⟨w.heap.size + 1, 0, none⟩ x0).setCell ⟨w.heap.size + 1, 1, none⟩ x1).setCell ⟨w.heap.size + 1, 2, none⟩ x2).setCell ⟨w.heap.size + 1, 3, none⟩ x3)) := by
    intro y x0 x1 x2 x3 hy
    have h6 := own_set5 (ownS_below own5.out hy) I GF
    have hl := hbl.out
    have hs1 := b1.size
    have hs2 := HS2.out
    have n2 : (Value.slice (some ⟨bb, 0, none⟩) fs.length cc).ownBlock ≠ some (w.heap.size + 1) := by simp [Value.ownBlock]; omega
    rw [List.length_set]
    exact ⟨ownS_mono (ownsRow_setCell_other (ownsRow_setCell_other (ownsRow_setCell_other (ownsRow_setCell_other h6 n2 _) n2 _) n2 _) n2 _) (by omega), below_set4 (set5_below (chainB B2.out (chainB b25.out hy)) (by omega) _ _) (by omega) _ _ _ _⟩
  have HK6 : Hid (∀ y, Below y5.heap.size y5 y → Bxs (set5 y bb (I * 5) GF) y4.heap.size 29 #[.string k, .int .i64 at_, .slice (some ⟨bb, 0, none⟩) fs.length cc] ∧ Bxs (set5 y bb (I * 5) GF) (w.heap.size + 1) 89 #[.string ByteArray.empty, .int .i64 0, .slice none 0 0, .int .i64 0]) := by
    intro y hy
    have e1 := ownR_ne (ownS_below own5.out hy) (KZ5.out.below hy) (by decide)
    have e2 := ownR_ne (ownS_below own5.out hy) (K1.out.below (chainB b25.out hy)) (by decide)
    exact ⟨set5_other (KZ5.out.below hy) (by simpa [Value.ownBlock] using e1) _, set5_other (K1.out.below (chainB b25.out hy)) (by simpa [Value.ownBlock] using e2) _⟩
  have HSt : Hid (∀ y, set5 y bb (I * 5) GF = ((((y.setCell ⟨bb, I * 5, none⟩ (.string fn)).setCell ⟨bb, I * 5 + 1, none⟩ (.string fc)).setCell ⟨bb, I * 5 + 2, none⟩ (.string ByteArray.empty)).setCell ⟨bb, I * 5 + 3, none⟩ (.string ByteArray.empty)).setCell ⟨bb, I * 5 + 4, none⟩ (.bool true)) := by intro y; rw [HGF.out]; rfl
  clear hy5 hYF k0 k1 k2 k3 k4 v0 v1 v2 own4 b4
  refine region_till ((fun w' => w'.cell? ⟨y4.heap.size, 2, none⟩ = some (.slice (some ⟨bb, 0, none⟩) fs.length cc) ∧ w'.cell? ⟨YF, 0, none⟩ = some (.string fn) ∧ w'.cell? ⟨YF, 1, none⟩ = some (.string fc))) 9 (by kernel_rfl) (HH.out _ BR5.out) (fun hHeld => ?_)
  refine till_take 0 (v := ?_) rfl (by kernel_rfl) (by kernel_rfl) (by kernel_rfl) (by kernel_rfl) (fun _ _ _ h => h) hHeld (Or.inl ⟨by rfl, ?_⟩) ?_
  rotate_left
  · (intro w hSw; (try dsimp only at hSw); go_simp; try with_reducible rfl)
  simp only [Act.put, List.setIfInBounds_toArray, List.set_cons_zero, List.set_cons_succ]
  refine till_take 1 (v := ?_) rfl (by kernel_rfl) (by kernel_rfl) (by kernel_rfl) (by kernel_rfl) (fun _ _ _ h => h) hHeld (Or.inl ⟨by rfl, ?_⟩) ?_
  rotate_left
  · (intro w hSw; (try dsimp only at hSw); go_simp; try with_reducible rfl)
  simp only [Act.put, List.setIfInBounds_toArray, List.set_cons_zero, List.set_cons_succ]
  refine till_take 2 (v := ?_) rfl (by kernel_rfl) (by kernel_rfl) (by kernel_rfl) (by kernel_rfl) (fun _ _ _ h => h) hHeld (Or.inl ⟨by rfl, ?_⟩) ?_
  rotate_left
  · (intro w hSw; (try dsimp only at hSw); go_simp; try with_reducible rfl)
  simp only [Act.put, List.setIfInBounds_toArray, List.set_cons_zero, List.set_cons_succ]
  refine till_take 3 (v := ?_) rfl (by kernel_rfl) (by kernel_rfl) (by kernel_rfl) (by kernel_rfl) (fun _ _ _ h => h) hHeld (Or.inl ⟨by rfl, ?_⟩) ?_
  rotate_left
  · (intro w hSw; (try dsimp only at hSw); go_simp; try with_reducible rfl)
  simp only [Act.put, List.setIfInBounds_toArray, List.set_cons_zero, List.set_cons_succ]
  refine till_take 4 (v := ?_) rfl (by kernel_rfl) (by kernel_rfl) (by kernel_rfl) (by kernel_rfl) (fun _ _ _ h => h) hHeld (Or.inl ⟨by rfl, ?_⟩) ?_
  rotate_left
  · (intro w hSw; (try dsimp only at hSw); go_simp; try with_reducible rfl)
  simp only [Act.put, List.setIfInBounds_toArray, List.set_cons_zero, List.set_cons_succ]
  refine till_take 5 (v := ?_) rfl (by kernel_rfl) (by kernel_rfl) (by kernel_rfl) (by kernel_rfl) (fun _ _ _ h => h) hHeld (Or.inl ⟨by rfl, ?_⟩) ?_
  rotate_left
  · (intro w hSw; (try dsimp only at hSw); go_simp; try with_reducible rfl)
  simp only [Act.put, List.setIfInBounds_toArray, List.set_cons_zero, List.set_cons_succ]
  refine till_take 6 (v := ?_) rfl (by kernel_rfl) (by kernel_rfl) (by kernel_rfl) (by kernel_rfl) (fun _ _ _ h => h) hHeld (Or.inl ⟨by rfl, ?_⟩) ?_
  rotate_left
  · (intro w hSw; (try dsimp only at hSw); go_simp; try with_reducible rfl)
  simp only [Act.put, List.setIfInBounds_toArray, List.set_cons_zero, List.set_cons_succ]
  refine till_ready 7 rfl (by kernel_rfl) (fun K hK => ?_)
  go_simp
  (go_at_call 131; with_reducible refine (goneField_any fn fc _).mono ?_; rintro e y6 ⟨rfl, zq⟩)
  have b6 : Hid (Below y5.heap.size y5 y6) := chainB BR5.out zq
  refine hK.out _ _ (HH.out _ b6.out) (fun hHeld => ?_)
  clear hK K
  try simp only [Act.put, List.setIfInBounds_toArray, List.set_cons_zero, List.set_cons_succ]
  refine till_take 8 (v := ?_) rfl (by kernel_rfl) (by kernel_rfl) (by kernel_rfl) (by kernel_rfl) (fun _ _ _ h => h) hHeld (Or.inl ⟨by rfl, ?_⟩) ?_
  rotate_left
  · (intro w hSw; (try dsimp only at hSw); go_simp; try with_reducible rfl)
  simp only [Act.put, List.setIfInBounds_toArray, List.set_cons_zero, List.set_cons_succ]
  refine till_last rfl (by kernel_rfl) (by kernel_rfl) (fun K hK => ?_)
  obtain ⟨⟨k0, k1, k2, k3, k4⟩, g0, g1, g2, g3, g4⟩ := HCL.out y6 b6.out
  go_simp
  refine hK.out _ _ ?_
  clear hK K
  rw [← HSt.out]
  obtain ⟨r0, r1, r2, r3, f0, f1, f2, f3⟩ := HR.out _ (HK6.out y6 b6.out).2
  obtain ⟨x0, x1, x2⟩ : (set5 y6 bb (I * 5) GF).cell? ⟨y4.heap.size, 0, none⟩ = some (.string k) ∧ (set5 y6 bb (I * 5) GF).cell? ⟨y4.heap.size, 1, none⟩ = some (.int .i64 at_) ∧ (set5 y6 bb (I * 5) GF).cell? ⟨y4.heap.size, 2, none⟩ = some (.slice (some ⟨bb, 0, none⟩) fs.length cc) := ⟨(HK6.out y6 b6.out).1.cell 0, (HK6.out y6 b6.out).1.cell 1, (HK6.out y6 b6.out).1.cell 2⟩
  have HO2 : Hid _ := fun x0 x1 x2 x3 => HO.out y6 x0 x1 x2 x3 b6.out
  clear HSt HK6 HCL HH HO hHeld k0 k1 k2 k3 k4 g0 g1 g2 g3 g4
  generalize set5 y6 bb (I * 5) GF = y7 at *
  go_wp2_with fail
  refine bodyPost_ret (v := .agg #[.string k, .int .i64 at_, .slice (some ⟨bb, 0, none⟩) fs.length cc, .int .i64 0]) (by simp [results, Tryz.results67, go_sem, r0, r1, r2, r3]) rfl ?_
  rw [HK2.out, HA2.out, HF2.out, hC.out]
  exact ⟨_, rfl, HO2.out _ _ _ _⟩
end Go.Proofs.YtepmoihgemhjcaaGreatDoor
