/-
  Parts of one proof, laid as one text: LaS, SpecPl, LfF; what each says stands at its head.
-/
import Derived.Test.YtonleickhincgaaGreatDoorRows
import Derived.Test.YtonleickhincgaaGreatDoorBytesDigMath
import Derived.Test.YtonleickhincgaaGreatDoorTreeMathSlABxKSlBOwnS
import Derived.Test.YtonleickhincgaaGreatDoorLgLawTakesTakesLPutterPathI
import Derived.Test.YtonleickhincgaaGreatDoorMac2AppSSrcDrawsDrawKitSomeIsInSignSSignDWide2StepAppPath2DigestDrawTreeSpoil
import Derived.Test.YtonleickhincgaaGreatDoorTimeBPutMathPutNumJoinedPutTextFldMath
import Derived.Test.YtonleickhincgaaGreatDoorGetValGetTxtNumMathFldRdNumFromTmbMathLgMath
import Derived.Test.YtonleickhincgaaGreatDoorLgAtKLgAnsLgRtAudMathHdMathClaMathHearMathFldGOneKFldBlkRwBlkRowOps
import Derived.Test.YtonleickhincgaaGreatDoorLgOLtMathLfMathLaMath
import Derived.Test.YtonleickhincgaaGreatDoorFldRSpecTgFldL
import Derived.Test.YtonleickhincgaaGreatDoorDrawRowFldF
import Derived.Test.YtonleickhincgaaGreatDoorSpecLr
import Derived.Test.YtonleickhincgaaGreatDoorSpecClLtSLaB
import Derived.Handy
import Derived.WalkSpells
import Derived.OwnWalk
import Derived.Deep.RegionHeld3
import Derived.Deep.Cut
import Derived.Test.YtonleickhincgaaGreatDoorFldIsTimeIGrKSpecGNSpecGTTillTwoFldN
import Derived.Test.YtonleickhincgaaGreatDoorRdNumIGetNumIImplTbImplCbImplTrLeafK
/-
  What the specification's LogAdd answers: 'laC' and the log, in new memory.
-/
namespace Go.Proofs.YtonleickhincgaaGreatDoor
open Go.RowKit Go.Lib
set_option linter.unusedVariables false
set_option maxRecDepth 20000

set_option maxHeartbeats 8000000 in
theorem specLogAdd_any (p : Option Addr) (lv : List ByteArray) (cp : Nat) (q : Option Addr) (rs : List Rw) (cq : Nat) (now : Int) (k : ByteArray) (a : Int) (rq : Option Addr) (rc : Nat) (fs : List Fld) (w : World) (hA : LgAt p lv cp q rs cq w) (hf : FldAt w rq fs) (hfn : fs.length ≤ 1048576) (hfc : fs.length ≤ rc) (hk : k.size ≤ maxLen) (hz : FldsLe fs) :
    Calls Tryz.prog 86 #[.agg #[.slice q rs.length cq, .slice p lv.length cp, .int .i64 now], .agg #[.string k, .int .i64 a, .slice rq fs.length rc]] w fun e w' => LgA w.heap.size (laR rs lv now ⟨k, a, fs⟩) (laL rs lv now ⟨k, a, fs⟩) (laN rs lv now ⟨k, a, fs⟩) (laC rs lv now ⟨k, a, fs⟩) e w' ∧ Below w.heap.size w w' := by
  obtain ⟨W3, hW3⟩ : ∃ W3, W3 = ((w.alloc (.cells #[.slice q rs.length cq, .slice p lv.length cp, .int .i64 now] 41)).alloc (.cells #[.string k, .int .i64 a, .slice rq fs.length rc] 100)).alloc (.cells #[.slice none 0 0, .slice none 0 0, .int .i64 0, .int .i64 0] 136) := ⟨_, rfl⟩
  have HW3 : Hid (W3 = ((w.alloc (.cells #[.slice q rs.length cq, .slice p lv.length cp, .int .i64 now] 41)).alloc (.cells #[.string k, .int .i64 a, .slice rq fs.length rc] 100)).alloc (.cells #[.slice none 0 0, .slice none 0 0, .int .i64 0, .int .i64 0] 136)) := hW3
  have H3 : Hid (LaB w q rs.length cq p lv.length cp now k a rq fs.length rc W3) := la_boxes hW3
  have hR : Calls Tryz.prog 23 #[.agg #[.slice q rs.length cq, .slice p lv.length cp, .int .i64 now]] W3 fun e w' => e = .returned (.bool (lgB rs lv now)) ∧ Below W3.heap.size W3 w' := specLogRight_any p lv cp q rs cq now W3 (hA.below H3.out.bel)
  have HRR : Hid (∀ x, Below w.heap.size w x → Calls Tryz.prog 73 #[.agg #[.string k, .int .i64 a, .slice rq fs.length rc]] x fun e w' => e = .returned (.bool (rwB k a fs)) ∧ Below x.heap.size x w') := fun x hx => specRowRight_any k a rq rc fs x (hf.below hx) hfn hfc hk hz
  have HFr : Hid (∀ x, Below w.heap.size w x → Calls Tryz.prog 134 #[.agg #[.string k, .int .i64 a, .slice rq fs.length rc]] x fun e w' => e = .returned (.bool (frsB fs)) ∧ Below x.heap.size x w') := fun x hx => l09Fresh_any k a rq rc fs x (hf.below hx) hfn hfc
  have HCp : Hid (lgB rs lv now = true → ∀ x, Below w.heap.size w x → Calls Tryz.prog 136 #[.agg #[.slice q rs.length cq, .slice p lv.length cp, .int .i64 now]] x fun e w' => ∃ v1 v2 xs, e = .returned (.agg #[v1, v2, .int .i64 now]) ∧ xs.map (·.1) = rs ∧ LgO x.heap.size xs lv v1 v2 w' ∧ Below x.heap.size x w') := fun hl x hx => by
    obtain ⟨hr1, hr2, hr3⟩ := lg_right hl
    exact l09Copy_any p lv cp q rs cq now x (hA.below hx) (fun r hr => by have := rB_len (hr3 r hr); omega)
  have HCr : Hid (rwB k a fs = true → ∀ x, Below w.heap.size w x → Calls Tryz.prog 137 #[.agg #[.string k, .int .i64 a, .slice rq fs.length rc]] x fun e w' => ∃ bb cc, e = .returned (.agg #[.string k, .int .i64 a, .slice (some ⟨bb, 0, none⟩) fs.length cc]) ∧ w'.ownsRow x.heap.size 122 5 (.slice (some ⟨bb, 0, none⟩) fs.length cc) fs.length (fldRow fs) ∧ Below x.heap.size x w') := fun hr x hx => l07Copy_any k a rq rc fs x (hf.below hx) (by have := rB_len (r := ⟨k, a, fs⟩) hr; simp at this; omega) (by have := rB_len (r := ⟨k, a, fs⟩) hr; simp at this; omega)
  have HLf : Hid (rwB k a fs = true → ∀ x, Below w.heap.size w x → Calls Tryz.prog 118 #[.agg #[.string k, .int .i64 a, .slice rq fs.length rc]] x fun e w' => e = .returned (.string (lfB k a fs)) ∧ Below x.heap.size x w') := fun hr x hx => by
    have h := l07Leaf_any k a rq rc fs x (hf.below hx) hfc hr
    rwa [show one101 ++ digB (lfT k a fs) = lfB k a fs from (if_pos hr).symm] at h
  have HLn : Hid (lgB rs lv now = true → rs.length ≤ 6 ∧ lv.length ≤ 64) := fun hl => ⟨(lg_right hl).1, (lg_right hl).2.1⟩
  have HC : Hid (laC rs lv now ⟨k, a, fs⟩ = if (lgB rs lv now && (rwB k a fs && (frsB fs && (a == now)))) = true then (if rs.length = 6 then 9 else 0) else 1) := rfl
  have HBd : Hid (∀ C, laC rs lv now ⟨k, a, fs⟩ = C → C ≠ 0 → laR rs lv now ⟨k, a, fs⟩ = [] ∧ laL rs lv now ⟨k, a, fs⟩ = [] ∧ laN rs lv now ⟨k, a, fs⟩ = 0) := fun C h hC => la_bad h hC
  have HGd : Hid (laC rs lv now ⟨k, a, fs⟩ = 0 → laR rs lv now ⟨k, a, fs⟩ = rs ++ [⟨k, a, fs⟩] ∧ laL rs lv now ⟨k, a, fs⟩ = lv ++ [lfB k a fs] ∧ laN rs lv now ⟨k, a, fs⟩ = now) := fun h => la_good h
  clear hW3 hA hf hk hz
  generalize laC rs lv now ⟨k, a, fs⟩ = CC at *
  generalize laR rs lv now ⟨k, a, fs⟩ = RR at *
  generalize laL rs lv now ⟨k, a, fs⟩ = LL at *
  generalize laN rs lv now ⟨k, a, fs⟩ = NN at *
  generalize lfB k a fs = LF at *
  generalize lgB rs lv now = A at *
  generalize rwB k a fs = B at *
  generalize frsB fs = G at *
  have HZ : Hid (∀ x, LgO w.heap.size [] [] (.slice none 0 0) (.slice none 0 0) x) := fun x => LgO.nil _ _
  obtain ⟨x0, x1, x2, x3, x4, x5⟩ := H3.out.six
  obtain ⟨i0, i1, i2, i3, i4, i5, i6, i7⟩ := H3.out.res
  go_enter Tryz.func86, Tryz.ntmps86
  go_upto_region 1 with fail
  rw [← HW3.out]
  go_wp2_with fail
  with_reducible refine hR.mono ?_
  rintro e y1 ⟨rfl, z1⟩
  have H4 : Hid (LaB w q rs.length cq p lv.length cp now k a rq fs.length rc y1) := H3.out.below z1
  clear x0 x1 x2 x3 x4 x5 i0 i1 i2 i3 i4 i5 i6 i7 H3 z1 hR
  obtain ⟨x0, x1, x2, x3, x4, x5⟩ := H4.out.six
  obtain ⟨i0, i1, i2, i3, i4, i5, i6, i7⟩ := H4.out.res
  cases A
  case false =>
    have hc : CC = 1 := by rw [HC.out]; rfl
    obtain ⟨b1, b2, b3⟩ := HBd.out 1 hc (by decide)
    subst hc b1 b2 b3
    go_wp2_with fail
    with_reducible refine (l09Ill_any 1 y1).mono ?_
    rintro e yi ⟨rfl, zi⟩
    have Hi : Hid (LaB w q rs.length cq p lv.length cp now k a rq fs.length rc yi) := H4.out.below zi
    clear x0 x1 x2 x3 x4 x5 i0 i1 i2 i3 i4 i5 i6 i7 zi
    obtain ⟨i0, i1, i2, i3, i4, i5, i6, i7⟩ := Hi.out.res
    go_wp2_with fail
    obtain ⟨K, HLo, HEd⟩ := la_put Hi.out.rs (by omega) Hi.out.bel (HZ.out yi) (.slice none 0 0) (.slice none 0 0) (.int .i64 0) (.int .i64 1)
    generalize ((((yi.setCell ⟨w.heap.size + 2, 0, none⟩ (.slice none 0 0)).setCell ⟨w.heap.size + 2, 1, none⟩ (.slice none 0 0)).setCell ⟨w.heap.size + 2, 2, none⟩ (.int .i64 0)).setCell ⟨w.heap.size + 2, 3, none⟩ (.int .i64 1)) = zz at *
    have HLp : Hid (LgO _ _ _ _ _ zz) := HLo
    have HEn : Hid (Below w.heap.size w zz) := HEd
    have k0 : zz.cell? ⟨w.heap.size + 2, 0, none⟩ = some (.slice none 0 0) := K.cell 0
    have k1 : zz.cell? ⟨w.heap.size + 2, 1, none⟩ = some (.slice none 0 0) := K.cell 1
    have k2 : zz.cell? ⟨w.heap.size + 2, 2, none⟩ = some (.int .i64 0) := K.cell 2
    have k3 : zz.cell? ⟨w.heap.size + 2, 3, none⟩ = some (.int .i64 1) := K.cell 3
    refine bodyPost_ret (v := .agg #[.slice none 0 0, .slice none 0 0, .int .i64 0, .int .i64 1]) (by simp [results, Tryz.results86, go_sem, k0, k1, k2, k3]) rfl ?_
    exact ⟨⟨_, _, [], rfl, rfl, HLp.out⟩, HEn.out⟩
  have hq := HRR.out y1 H4.out.bel
  go_wp2_with fail
  with_reducible refine hq.mono ?_
  rintro e y2 ⟨rfl, zq⟩
  have H5 : Hid (LaB w q rs.length cq p lv.length cp now k a rq fs.length rc y2) := H4.out.below zq
  clear x0 x1 x2 x3 x4 x5 i0 i1 i2 i3 i4 i5 i6 i7 hq zq
  obtain ⟨x0, x1, x2, x3, x4, x5⟩ := H5.out.six
  obtain ⟨i0, i1, i2, i3, i4, i5, i6, i7⟩ := H5.out.res
  cases B
  case false =>
    have hc : CC = 1 := by rw [HC.out]; rfl
    obtain ⟨b1, b2, b3⟩ := HBd.out 1 hc (by decide)
    subst hc b1 b2 b3
    go_wp2_with fail
    with_reducible refine (l09Ill_any 1 y2).mono ?_
    rintro e yi ⟨rfl, zi⟩
    have Hi : Hid (LaB w q rs.length cq p lv.length cp now k a rq fs.length rc yi) := H5.out.below zi
    clear x0 x1 x2 x3 x4 x5 i0 i1 i2 i3 i4 i5 i6 i7 zi
    obtain ⟨i0, i1, i2, i3, i4, i5, i6, i7⟩ := Hi.out.res
    go_wp2_with fail
    obtain ⟨K, HLo, HEd⟩ := la_put Hi.out.rs (by omega) Hi.out.bel (HZ.out yi) (.slice none 0 0) (.slice none 0 0) (.int .i64 0) (.int .i64 1)
    generalize ((((yi.setCell ⟨w.heap.size + 2, 0, none⟩ (.slice none 0 0)).setCell ⟨w.heap.size + 2, 1, none⟩ (.slice none 0 0)).setCell ⟨w.heap.size + 2, 2, none⟩ (.int .i64 0)).setCell ⟨w.heap.size + 2, 3, none⟩ (.int .i64 1)) = zz at *
    have HLp : Hid (LgO _ _ _ _ _ zz) := HLo
    have HEn : Hid (Below w.heap.size w zz) := HEd
    have k0 : zz.cell? ⟨w.heap.size + 2, 0, none⟩ = some (.slice none 0 0) := K.cell 0
    have k1 : zz.cell? ⟨w.heap.size + 2, 1, none⟩ = some (.slice none 0 0) := K.cell 1
    have k2 : zz.cell? ⟨w.heap.size + 2, 2, none⟩ = some (.int .i64 0) := K.cell 2
    have k3 : zz.cell? ⟨w.heap.size + 2, 3, none⟩ = some (.int .i64 1) := K.cell 3
    refine bodyPost_ret (v := .agg #[.slice none 0 0, .slice none 0 0, .int .i64 0, .int .i64 1]) (by simp [results, Tryz.results86, go_sem, k0, k1, k2, k3]) rfl ?_
    exact ⟨⟨_, _, [], rfl, rfl, HLp.out⟩, HEn.out⟩
  have hq := HFr.out y2 H5.out.bel
  go_wp2_with fail
  with_reducible refine hq.mono ?_
  rintro e y3 ⟨rfl, zq⟩
  have H6 : Hid (LaB w q rs.length cq p lv.length cp now k a rq fs.length rc y3) := H5.out.below zq
  clear x0 x1 x2 x3 x4 x5 i0 i1 i2 i3 i4 i5 i6 i7 hq zq
  obtain ⟨x0, x1, x2, x3, x4, x5⟩ := H6.out.six
  obtain ⟨i0, i1, i2, i3, i4, i5, i6, i7⟩ := H6.out.res
  cases G
  case false =>
    have hc : CC = 1 := by rw [HC.out]; rfl
    obtain ⟨b1, b2, b3⟩ := HBd.out 1 hc (by decide)
    subst hc b1 b2 b3
    go_wp2_with fail
    with_reducible refine (l09Ill_any 1 y3).mono ?_
    rintro e yi ⟨rfl, zi⟩
    have Hi : Hid (LaB w q rs.length cq p lv.length cp now k a rq fs.length rc yi) := H6.out.below zi
    clear x0 x1 x2 x3 x4 x5 i0 i1 i2 i3 i4 i5 i6 i7 zi
    obtain ⟨i0, i1, i2, i3, i4, i5, i6, i7⟩ := Hi.out.res
    go_wp2_with fail
    obtain ⟨K, HLo, HEd⟩ := la_put Hi.out.rs (by omega) Hi.out.bel (HZ.out yi) (.slice none 0 0) (.slice none 0 0) (.int .i64 0) (.int .i64 1)
    generalize ((((yi.setCell ⟨w.heap.size + 2, 0, none⟩ (.slice none 0 0)).setCell ⟨w.heap.size + 2, 1, none⟩ (.slice none 0 0)).setCell ⟨w.heap.size + 2, 2, none⟩ (.int .i64 0)).setCell ⟨w.heap.size + 2, 3, none⟩ (.int .i64 1)) = zz at *
    have HLp : Hid (LgO _ _ _ _ _ zz) := HLo
    have HEn : Hid (Below w.heap.size w zz) := HEd
    have k0 : zz.cell? ⟨w.heap.size + 2, 0, none⟩ = some (.slice none 0 0) := K.cell 0
    have k1 : zz.cell? ⟨w.heap.size + 2, 1, none⟩ = some (.slice none 0 0) := K.cell 1
    have k2 : zz.cell? ⟨w.heap.size + 2, 2, none⟩ = some (.int .i64 0) := K.cell 2
    have k3 : zz.cell? ⟨w.heap.size + 2, 3, none⟩ = some (.int .i64 1) := K.cell 3
    refine bodyPost_ret (v := .agg #[.slice none 0 0, .slice none 0 0, .int .i64 0, .int .i64 1]) (by simp [results, Tryz.results86, go_sem, k0, k1, k2, k3]) rfl ?_
    exact ⟨⟨_, _, [], rfl, rfl, HLp.out⟩, HEn.out⟩
  cases hN : (a == now)
  case false =>
    have fN : ¬ a = now := by simpa using hN
    have hc : CC = 1 := by rw [HC.out]; rw [hN]; rfl
    obtain ⟨b1, b2, b3⟩ := HBd.out 1 hc (by decide)
    subst hc b1 b2 b3
    go_wp2_with fail
    with_reducible refine (l09Ill_any 1 y3).mono ?_
    rintro e yi ⟨rfl, zi⟩
    have Hi : Hid (LaB w q rs.length cq p lv.length cp now k a rq fs.length rc yi) := H6.out.below zi
    clear x0 x1 x2 x3 x4 x5 i0 i1 i2 i3 i4 i5 i6 i7 zi
    obtain ⟨i0, i1, i2, i3, i4, i5, i6, i7⟩ := Hi.out.res
    go_wp2_with fail
    obtain ⟨K, HLo, HEd⟩ := la_put Hi.out.rs (by omega) Hi.out.bel (HZ.out yi) (.slice none 0 0) (.slice none 0 0) (.int .i64 0) (.int .i64 1)
    generalize ((((yi.setCell ⟨w.heap.size + 2, 0, none⟩ (.slice none 0 0)).setCell ⟨w.heap.size + 2, 1, none⟩ (.slice none 0 0)).setCell ⟨w.heap.size + 2, 2, none⟩ (.int .i64 0)).setCell ⟨w.heap.size + 2, 3, none⟩ (.int .i64 1)) = zz at *
    have HLp : Hid (LgO _ _ _ _ _ zz) := HLo
    have HEn : Hid (Below w.heap.size w zz) := HEd
    have k0 : zz.cell? ⟨w.heap.size + 2, 0, none⟩ = some (.slice none 0 0) := K.cell 0
    have k1 : zz.cell? ⟨w.heap.size + 2, 1, none⟩ = some (.slice none 0 0) := K.cell 1
    have k2 : zz.cell? ⟨w.heap.size + 2, 2, none⟩ = some (.int .i64 0) := K.cell 2
    have k3 : zz.cell? ⟨w.heap.size + 2, 3, none⟩ = some (.int .i64 1) := K.cell 3
    refine bodyPost_ret (v := .agg #[.slice none 0 0, .slice none 0 0, .int .i64 0, .int .i64 1]) (by simp [results, Tryz.results86, go_sem, k0, k1, k2, k3]) rfl ?_
    exact ⟨⟨_, _, [], rfl, rfl, HLp.out⟩, HEn.out⟩
  obtain rfl : a = now := by simpa using hN
  clear hN
  by_cases h6 : rs.length = 6
  case pos =>
    have d6 : decide (6 ≤ (rs.length : Int)) = true := decide_eq_true (by omega)
    have d7 : (rs.length : Int) = 6 := by omega
    have hw : (if ((true && (true && (true && (a == a)))) : Bool) = true then (if rs.length = 6 then (9 : Int) else 0) else 1) = 9 := by simp [h6]
    have HW9 : Hid ((if ((true && (true && (true && (a == a)))) : Bool) = true then (if rs.length = 6 then (9 : Int) else 0) else 1) = 9) := hw
    clear hw h6
    have hc : CC = 9 := by rw [HC.out]; exact HW9.out
    obtain ⟨b1, b2, b3⟩ := HBd.out 9 hc (by decide)
    subst hc b1 b2 b3
    go_wp2_with fail
    with_reducible refine (l09Ill_any 9 y3).mono ?_
    rintro e yi ⟨rfl, zi⟩
    have Hi : Hid (LaB w q rs.length cq p lv.length cp a k a rq fs.length rc yi) := H6.out.below zi
    clear x0 x1 x2 x3 x4 x5 i0 i1 i2 i3 i4 i5 i6 i7 zi
    obtain ⟨i0, i1, i2, i3, i4, i5, i6, i7⟩ := Hi.out.res
    go_wp2_with fail
    obtain ⟨K, HLo, HEd⟩ := la_put Hi.out.rs (by omega) Hi.out.bel (HZ.out yi) (.slice none 0 0) (.slice none 0 0) (.int .i64 0) (.int .i64 9)
    generalize ((((yi.setCell ⟨w.heap.size + 2, 0, none⟩ (.slice none 0 0)).setCell ⟨w.heap.size + 2, 1, none⟩ (.slice none 0 0)).setCell ⟨w.heap.size + 2, 2, none⟩ (.int .i64 0)).setCell ⟨w.heap.size + 2, 3, none⟩ (.int .i64 9)) = zz at *
    have HLp : Hid (LgO _ _ _ _ _ zz) := HLo
    have HEn : Hid (Below w.heap.size w zz) := HEd
    have k0 : zz.cell? ⟨w.heap.size + 2, 0, none⟩ = some (.slice none 0 0) := K.cell 0
    have k1 : zz.cell? ⟨w.heap.size + 2, 1, none⟩ = some (.slice none 0 0) := K.cell 1
    have k2 : zz.cell? ⟨w.heap.size + 2, 2, none⟩ = some (.int .i64 0) := K.cell 2
    have k3 : zz.cell? ⟨w.heap.size + 2, 3, none⟩ = some (.int .i64 9) := K.cell 3
    refine bodyPost_ret (v := .agg #[.slice none 0 0, .slice none 0 0, .int .i64 0, .int .i64 9]) (by simp [results, Tryz.results86, go_sem, k0, k1, k2, k3]) rfl ?_
    exact ⟨⟨_, _, [], rfl, rfl, HLp.out⟩, HEn.out⟩
  obtain ⟨hn6, hn64⟩ := HLn.out (by simp)
  have d6 : decide (6 ≤ (rs.length : Int)) = false := decide_eq_false (by omega)
  have d7 : ¬ (rs.length : Int) = 6 := by omega
  have hc : CC = 0 := by rw [HC.out]; simp [h6]
  obtain ⟨b1, b2, b3⟩ := HGd.out hc
  have b4 := b3.symm
  subst hc b1 b2 b4
  have hCp := HCp.out (by simp) y3 H6.out.bel
  clear HC HBd HGd
  go_wp2_with fail
  with_reducible refine hCp.mono ?_
  rintro e y4 ⟨v1, v2, xs, rfl, hx, ho, z4⟩
  obtain ⟨z1, zc, rfl, _⟩ := ho.rws.form
  obtain ⟨z2, zd, rfl, _, _⟩ := ownS_form ho.lvs
  have hxl : xs.length = rs.length := by rw [← hx, List.length_map]
  have HX : Hid (xs.map (·.1) = rs) := hx
  have Hxs : Hid (xs.length + 1 ≤ 1048576 ∧ lv.length + 1 ≤ 1048576) := ⟨by omega, by omega⟩
  have HC5 : Hid (LgC y3 y4.heap.size xs lv a (.slice z1 xs.length zc) (.slice z2 lv.length zd) (y4.alloc (.cells #[.slice z1 xs.length zc, .slice z2 lv.length zd, .int .i64 a] 41))) := ⟨Bxs.new _ _ _, ho.below (alB (Below.refl _ _) _), z4.size, alB z4 _⟩
  have HY3 : Hid (w.heap.size + 2 < y3.heap.size) := H6.out.rs.lt
  clear x0 x1 x2 x3 x4 x5 i0 i1 i2 i3 i4 i5 i6 i7 hCp hx ho z4 hxl hn6 hn64 d6 d7 h6
  go_upto_region 6 with fail
  generalize y4.heap.size = E at *
  generalize y4.alloc (.cells #[.slice z1 xs.length zc, .slice z2 lv.length zd, .int .i64 a] 41) = y5 at *
  have HRw : Hid (∀ x, Below y3.heap.size y3 x → Bxs x (w.heap.size + 1) 100 #[.string k, .int .i64 a, .slice rq fs.length rc] ∧ Below w.heap.size w x) := fun x hb => ⟨H6.out.rw.below hb, chainB H6.out.bel hb⟩
  have hCr := HCr.out (by simp)
  have HQr : Hid (∀ x, Below y3.heap.size y3 x → Calls Tryz.prog 137 #[.agg #[.string k, .int .i64 a, .slice rq fs.length rc]] x fun e w' => ∃ bb cc, e = .returned (.agg #[.string k, .int .i64 a, .slice (some ⟨bb, 0, none⟩) fs.length cc]) ∧ w'.ownsRow x.heap.size 122 5 (.slice (some ⟨bb, 0, none⟩) fs.length cc) fs.length (fldRow fs) ∧ Below x.heap.size x w') := fun x hb => hCr x (HRw.out x hb).2
  have hLf := HLf.out (by simp)
  have HQl : Hid (∀ x, Below y3.heap.size y3 x → Calls Tryz.prog 118 #[.agg #[.string k, .int .i64 a, .slice rq fs.length rc]] x fun e w' => e = .returned (.string LF) ∧ Below x.heap.size x w') := fun x hb => hLf x (HRw.out x hb).2
  clear hCr hLf HCr HLf
  have nF : some (w.heap.size + 1) ≠ (Value.slice z1 xs.length zc).ownBlock := fun e => by have := (HC5.out.lg.rws.lt.1 _ e.symm).1; have := HY3.out; omega
  have HNF : Hid (some (w.heap.size + 1) ≠ (Value.slice z1 xs.length zc).ownBlock) := nF
  have nF2 : some (w.heap.size + 1) ≠ (Value.slice z2 lv.length zd).ownBlock := fun e => by have := (HC5.out.lg.lvs.lt _ e.symm).1; have := HY3.out; omega
  have HNF2 : Hid (some (w.heap.size + 1) ≠ (Value.slice z2 lv.length zd).ownBlock) := nF2
  clear nF nF2
  have HCd := HC5.out.below (Below.refl _ _).drew
  refine region_till (fun w' => w'.cell? ⟨E, 0, none⟩ = some (.slice z1 xs.length zc) ∧ w'.cell? ⟨w.heap.size + 1, 0, none⟩ = some (.string k) ∧ w'.cell? ⟨w.heap.size + 1, 1, none⟩ = some (.int .i64 a) ∧ w'.cell? ⟨w.heap.size + 1, 2, none⟩ = some (.slice rq fs.length rc)) 7 (by kernel_rfl) ⟨HCd.cells.1, (HRw.out _ HCd.bel).1.cell 0, (HRw.out _ HCd.bel).1.cell 1, (HRw.out _ HCd.bel).1.cell 2⟩ (fun hHeld => ?_)
  generalize y5.drew = y0 at *
  refine till_take 0 (v := ?_) rfl (by kernel_rfl) (by kernel_rfl) (by kernel_rfl) (by kernel_rfl) (fun _ _ _ h => h) hHeld (Or.inl ⟨by rfl, ?_⟩) ?_
  rotate_left
  · (intro w hSw; (try dsimp only at hSw); go_simp; try with_reducible rfl)
  simp only [Act.put, List.setIfInBounds_toArray, List.set_cons_zero, List.set_cons_succ]
  refine till_take 1 (v := ?_) rfl (by kernel_rfl) (by kernel_rfl) (by kernel_rfl) (by kernel_rfl) (fun _ _ _ h => h) hHeld (Or.inl ⟨by rfl, ?_⟩) ?_
  rotate_left
  · (intro w hSw; (try dsimp only at hSw); go_simp; try with_reducible rfl)
  simp only [Act.put, List.setIfInBounds_toArray, List.set_cons_zero, List.set_cons_succ]
  refine till_take 2 (v := ?_) rfl (by kernel_rfl) (by kernel_rfl) (by kernel_rfl) (by kernel_rfl) (fun _ _ _ h => h) hHeld (Or.inl ⟨by rfl, ?_⟩) ?_
  rotate_left
  · (intro w hSw; (try dsimp only at hSw); go_simp; try with_reducible rfl)
  simp only [Act.put, List.setIfInBounds_toArray, List.set_cons_zero, List.set_cons_succ]
  refine till_ready 3 rfl (by kernel_rfl) (fun K hK => ?_)
  go_simp
  (go_at_call 137; refine (HQr.out _ HCd.bel).mono ?_; rintro e y1 ⟨bb, cc, rfl, own1, zz1⟩)
  have HC1 := HCd.below zz1
  refine hK.out _ _ ⟨HC1.cells.1, (HRw.out _ HC1.bel).1.cell 0, (HRw.out _ HC1.bel).1.cell 1, (HRw.out _ HC1.bel).1.cell 2⟩ (fun hHeld => ?_)
  clear hK K
  try simp only [Act.put, List.setIfInBounds_toArray, List.set_cons_zero, List.set_cons_succ]
  obtain ⟨q2, d2, y2, hrun, HC2, bl2, k20, k21, gr2⟩ := HCd.app zz1 ⟨k, a, fs⟩ (some ⟨bb, 0, none⟩) cc own1 Hxs.out.1
  have HCa := HC1.below (alB (Below.refl _ _) (.cells #[.string k, .int .i64 a, .slice (some ⟨bb, 0, none⟩) fs.length cc] 100))
  refine till_ready 4 rfl (by kernel_rfl) (fun K hK => ?_)
  go_simp
  refine hK.out _ _ ⟨HCa.cells.1, (HRw.out _ HCa.bel).1.cell 0, (HRw.out _ HCa.bel).1.cell 1, (HRw.out _ HCa.bel).1.cell 2⟩ (fun hHeld => ?_)
  clear hK K
  try simp only [Act.put, List.setIfInBounds_toArray, List.set_cons_zero, List.set_cons_succ]
  refine till_ready 5 rfl (by kernel_rfl) (fun K hK => ?_)
  refine step_append_run rfl _ _ 39 rfl (.slice z1 xs.length zc) (.slice (some ⟨y1.heap.size, 0, none⟩) 1 1) _ _ rfl rfl hrun ?_
  refine hK.out _ _ ⟨k20, ((HRw.out _ HCa.bel).1.grown gr2 HNF.out).cell 0, ((HRw.out _ HCa.bel).1.grown gr2 HNF.out).cell 1, ((HRw.out _ HCa.bel).1.grown gr2 HNF.out).cell 2⟩ (fun hHeld => ?_)
  clear hK K
  try simp only [Act.put, List.setIfInBounds_toArray, List.set_cons_zero, List.set_cons_succ]
  refine till_take 6 (v := ?_) rfl (by kernel_rfl) (by kernel_rfl) (by kernel_rfl) (by kernel_rfl) (fun _ _ _ h => h) hHeld (Or.inl ⟨by rfl, ?_⟩) ?_
  rotate_left
  · (intro w hSw; (try dsimp only at hSw); go_simp; try with_reducible rfl)
  simp only [Act.put, List.setIfInBounds_toArray, List.set_cons_zero, List.set_cons_succ]
  refine till_last rfl (by kernel_rfl) (by kernel_rfl) (fun K hK => ?_)
  go_simp
  refine hK.out _ _ ?_
  clear hK K hHeld
  have HC6 : Hid (LgC y3 E (xs ++ [(⟨k, a, fs⟩, .slice (some ⟨bb, 0, none⟩) fs.length cc)]) lv a (.slice q2 (xs.length + 1) d2) (.slice z2 lv.length zd) (y2.setCell ⟨E, 0, none⟩ (.slice q2 (xs.length + 1) d2))) := HC2
  clear HC2 hrun k20 k21 bl2 own1 zz1 HC1 HCd HCa gr2 HC5
  go_upto_region 7 with fail
  generalize y2.setCell ⟨E, 0, none⟩ (.slice q2 (xs.length + 1) d2) = y6 at *
  have HCd := HC6.out.below (Below.refl _ _).drew
  refine region_till (fun w' => w'.cell? ⟨E, 1, none⟩ = some (.slice z2 lv.length zd) ∧ w'.cell? ⟨w.heap.size + 1, 0, none⟩ = some (.string k) ∧ w'.cell? ⟨w.heap.size + 1, 1, none⟩ = some (.int .i64 a) ∧ w'.cell? ⟨w.heap.size + 1, 2, none⟩ = some (.slice rq fs.length rc)) 7 (by kernel_rfl) ⟨HCd.cells.2.1, (HRw.out _ HCd.bel).1.cell 0, (HRw.out _ HCd.bel).1.cell 1, (HRw.out _ HCd.bel).1.cell 2⟩ (fun hHeld => ?_)
  generalize y6.drew = y7 at *
  refine till_take 0 (v := ?_) rfl (by kernel_rfl) (by kernel_rfl) (by kernel_rfl) (by kernel_rfl) (fun _ _ _ h => h) hHeld (Or.inl ⟨by rfl, ?_⟩) ?_
  rotate_left
  · (intro w hSw; (try dsimp only at hSw); go_simp; try with_reducible rfl)
  simp only [Act.put, List.setIfInBounds_toArray, List.set_cons_zero, List.set_cons_succ]
  refine till_take 1 (v := ?_) rfl (by kernel_rfl) (by kernel_rfl) (by kernel_rfl) (by kernel_rfl) (fun _ _ _ h => h) hHeld (Or.inl ⟨by rfl, ?_⟩) ?_
  rotate_left
  · (intro w hSw; (try dsimp only at hSw); go_simp; try with_reducible rfl)
  simp only [Act.put, List.setIfInBounds_toArray, List.set_cons_zero, List.set_cons_succ]
  refine till_take 2 (v := ?_) rfl (by kernel_rfl) (by kernel_rfl) (by kernel_rfl) (by kernel_rfl) (fun _ _ _ h => h) hHeld (Or.inl ⟨by rfl, ?_⟩) ?_
  rotate_left
  · (intro w hSw; (try dsimp only at hSw); go_simp; try with_reducible rfl)
  simp only [Act.put, List.setIfInBounds_toArray, List.set_cons_zero, List.set_cons_succ]
  refine till_ready 3 rfl (by kernel_rfl) (fun K hK => ?_)
  go_simp
  (go_at_call 118; refine (HQl.out _ HCd.bel).mono ?_; rintro e y8 ⟨rfl, zz1⟩)
  have HC1 := HCd.below zz1
  refine hK.out _ _ ⟨HC1.cells.2.1, (HRw.out _ HC1.bel).1.cell 0, (HRw.out _ HC1.bel).1.cell 1, (HRw.out _ HC1.bel).1.cell 2⟩ (fun hHeld => ?_)
  clear hK K
  try simp only [Act.put, List.setIfInBounds_toArray, List.set_cons_zero, List.set_cons_succ]
  obtain ⟨gq, d3, y9, hrun, HC2, bl2, k20, k21, gr2⟩ := HC1.leaf LF Hxs.out.2
  have HCa := HC1.below (alB (Below.refl _ _) (.cells #[.string LF] 9))
  refine till_ready 4 rfl (by kernel_rfl) (fun K hK => ?_)
  go_simp
  refine hK.out _ _ ⟨HCa.cells.2.1, (HRw.out _ HCa.bel).1.cell 0, (HRw.out _ HCa.bel).1.cell 1, (HRw.out _ HCa.bel).1.cell 2⟩ (fun hHeld => ?_)
  clear hK K
  try simp only [Act.put, List.setIfInBounds_toArray, List.set_cons_zero, List.set_cons_succ]
  refine till_ready 5 rfl (by kernel_rfl) (fun K hK => ?_)
  refine step_append_run rfl _ _ 25 rfl (.slice z2 lv.length zd) (.slice (some ⟨y8.heap.size, 0, none⟩) 1 1) _ _ rfl rfl hrun ?_
  refine hK.out _ _ ⟨k20, ((HRw.out _ HCa.bel).1.grown gr2 HNF2.out).cell 0, ((HRw.out _ HCa.bel).1.grown gr2 HNF2.out).cell 1, ((HRw.out _ HCa.bel).1.grown gr2 HNF2.out).cell 2⟩ (fun hHeld => ?_)
  clear hK K
  try simp only [Act.put, List.setIfInBounds_toArray, List.set_cons_zero, List.set_cons_succ]
  refine till_take 6 (v := ?_) rfl (by kernel_rfl) (by kernel_rfl) (by kernel_rfl) (by kernel_rfl) (fun _ _ _ h => h) hHeld (Or.inl ⟨by rfl, ?_⟩) ?_
  rotate_left
  · (intro w hSw; (try dsimp only at hSw); go_simp; try with_reducible rfl)
  simp only [Act.put, List.setIfInBounds_toArray, List.set_cons_zero, List.set_cons_succ]
  refine till_last rfl (by kernel_rfl) (by kernel_rfl) (fun K hK => ?_)
  go_simp
  refine hK.out _ _ ?_
  clear hK K hHeld
  have HC8 : Hid (LgC y3 E (xs ++ [(⟨k, a, fs⟩, .slice (some ⟨bb, 0, none⟩) fs.length cc)]) (lv ++ [LF]) a (.slice q2 (xs.length + 1) d2) (.slice (some ⟨gq, 0, none⟩) (lv.length + 1) d3) (y9.setCell ⟨E, 1, none⟩ (.slice (some ⟨gq, 0, none⟩) (lv.length + 1) d3))) := HC2
  clear HC2 hrun k20 k21 bl2 zz1 HC1 HCd HCa gr2 HC6
  go_upto_region 8 with fail
  generalize y9.setCell ⟨E, 1, none⟩ (.slice (some ⟨gq, 0, none⟩) (lv.length + 1) d3) = yA at *
  obtain ⟨p0, p1, p2, g0, g1, g2⟩ := HC8.out.cells
  have HA8 : Hid (LaB w q rs.length cq p lv.length cp a k a rq fs.length rc yA) := ⟨H6.out.lg.below HC8.out.bel, H6.out.rw.below HC8.out.bel, H6.out.rs.below HC8.out.bel, chainB H6.out.bel HC8.out.bel⟩
  have HO8 : Hid (LgO w.heap.size (xs ++ [(⟨k, a, fs⟩, .slice (some ⟨bb, 0, none⟩) fs.length cc)]) (lv ++ [LF]) (.slice q2 (xs.length + 1) d2) (.slice (some ⟨gq, 0, none⟩) (lv.length + 1) d3) yA) := HC8.out.lg.lower (by have := HY3.out; omega)
  have HM8 : Hid ((xs ++ [((⟨k, a, fs⟩ : Rw), (Value.slice (some ⟨bb, 0, none⟩) fs.length cc))]).map (·.1) = rs ++ [⟨k, a, fs⟩]) := by show _ = _; rw [List.map_append, HX.out]; rfl
  obtain ⟨i0, i1, i2, i3, i4, i5, i6, i7⟩ := HA8.out.res
  clear HC8
  go_wp2_with fail
  obtain ⟨K, HLo, HEd⟩ := la_put HA8.out.rs (by omega) HA8.out.bel HO8.out (.slice q2 (xs.length + 1) d2) (.slice (some ⟨gq, 0, none⟩) (lv.length + 1) d3) (.int .i64 a) (.int .i64 0)
  generalize ((((yA.setCell ⟨w.heap.size + 2, 0, none⟩ (.slice q2 (xs.length + 1) d2)).setCell ⟨w.heap.size + 2, 1, none⟩ (.slice (some ⟨gq, 0, none⟩) (lv.length + 1) d3)).setCell ⟨w.heap.size + 2, 2, none⟩ (.int .i64 a)).setCell ⟨w.heap.size + 2, 3, none⟩ (.int .i64 0)) = zz at *
  have HLp : Hid (LgO _ _ _ _ _ zz) := HLo
  have HEn : Hid (Below w.heap.size w zz) := HEd
  have k0 : zz.cell? ⟨w.heap.size + 2, 0, none⟩ = some (.slice q2 (xs.length + 1) d2) := K.cell 0
  have k1 : zz.cell? ⟨w.heap.size + 2, 1, none⟩ = some (.slice (some ⟨gq, 0, none⟩) (lv.length + 1) d3) := K.cell 1
  have k2 : zz.cell? ⟨w.heap.size + 2, 2, none⟩ = some (.int .i64 a) := K.cell 2
  have k3 : zz.cell? ⟨w.heap.size + 2, 3, none⟩ = some (.int .i64 0) := K.cell 3
  refine bodyPost_ret (v := .agg #[.slice q2 (xs.length + 1) d2, .slice (some ⟨gq, 0, none⟩) (lv.length + 1) d3, .int .i64 a, .int .i64 0]) (by simp [results, Tryz.results86, go_sem, k0, k1, k2, k3]) rfl ?_
  exact ⟨⟨_, _, _, rfl, HM8.out, HLp.out⟩, HEn.out⟩
end Go.Proofs.YtonleickhincgaaGreatDoor
/-
  PlaceOf, TombOf and StatusOf, as the specification answers.
  Conditions: the cells hold the rows and leaves.
-/
namespace Go.Proofs.YtonleickhincgaaGreatDoor
open Go.RowKit Go.Lib
set_option linter.unusedVariables false
set_option maxRecDepth 20000

theorem pl_next (lv : List ByteArray) (r : Int) (n i : Nat) (h : i < lv.length) : plFrom r n i (lv.drop i) = if (lkB lv[i] == 1) = true then (if ((n : Int) == r) = true then (i : Int) else plFrom r (n + 1) (i + 1) (lv.drop (i + 1))) else plFrom r n (i + 1) (lv.drop (i + 1)) := by
  rw [List.drop_eq_getElem_cons h, plFrom]
  have e : isRl lv[i] = (lkB lv[i] == 1) := by rw [Bool.eq_iff_iff, beq_iff_eq]; exact (lk_iff1 _).symm
  rw [e]
  simp only [beq_iff_eq]
set_option maxHeartbeats 4000000 in
theorem l09Place_any (p : Option Addr) (lv : List ByteArray) (cp : Nat) (q : Option Addr) (rs : List Rw) (cq : Nat) (now r : Int) (w : World) (hL : TxtAt w p lv) (hl : lv.length ≤ 1048576) (hc : lv.length ≤ cp) (hz : TxtsLe lv) :
    Calls Tryz.prog 62 #[.agg #[.slice q rs.length cq, .slice p lv.length cp, .int .i64 now], .int .i64 r] w fun e w' => e = .returned (.int .i64 (plB lv r)) ∧ Below w.heap.size w w' := by
  obtain ⟨W1, hW1⟩ : ∃ W1, W1 = w.alloc (.cells #[.slice q rs.length cq, .slice p lv.length cp, .int .i64 now] 41) := ⟨_, rfl⟩
  have HW1 : Hid (W1 = w.alloc (.cells #[.slice q rs.length cq, .slice p lv.length cp, .int .i64 now] 41)) := hW1
  have B1 : Hid (Below w.heap.size w W1) := by rw [hW1]; exact (Below.refl _ _).alloc (Nat.le_refl _) _
  have K1 : Hid (Bxs W1 w.heap.size 41 #[.slice q rs.length cq, .slice p lv.length cp, .int .i64 now]) := by rw [hW1]; exact Bxs.new _ _ _
  have HL : Hid (TxtAt W1 p lv) := hL.below B1.out
  have HZ : Hid (TxtsLe lv) := hz
  clear hW1 hL hz
  go_enter Tryz.func62, Tryz.ntmps62
  go_wp2_with fail
  rw [← HW1.out]
  clear HW1
  go_loopw [6, 5] (fun ii nn wr => ∃ i n : Nat, i ≤ lv.length ∧ n ≤ i ∧ ii = .int .i64 i ∧ nn = .int .i64 n ∧ Hid (Below W1.heap.size W1 wr) ∧ Hid (plB lv r = plFrom r n i (lv.drop i))) (fun ii _ _ => lv.length - (Go.RowKit.intOf ii).toNat)
  case atStart => exact ⟨0, 0, Nat.zero_le _, Nat.le_refl _, rfl, rfl, Below.refl _ _, rfl⟩
  case round =>
    obtain ⟨i, n, hi, hni, rfl, rfl, HB, HV⟩ := hrel
    have x1 := (K1.out.below HB.out).cell 1
    by_cases hlt : i < lv.length
    · have i1 : (i : Int) < lv.length := by omega
      obtain ⟨b, off, rfl, hb0, c0⟩ := (HL.out.below HB.out) i hlt
      have hK := specLeafKind_any lv[i] wr (HZ.out _ (List.getElem_mem hlt))
      have HS : Hid (plB lv r = _) := HV.out.trans (pl_next lv r n i hlt)
      clear HV hb0
      generalize lv[i] = t at *
      generalize lkB t = C at *
      cases hC : (C == 1) with
      | false =>
        have hC' : (C != 1) = true := by rw [bne, hC]; rfl
        rw [hC, if_neg Bool.false_ne_true] at HS
        go_wp2_with fail
        refine hK.mono ?_
        rintro e y ⟨rfl, by_⟩
        have HB2 : Hid (Below W1.heap.size W1 y) := chainB HB.out by_
        clear hK x1 c0
        go_wp2_with fail
        go_roundw
        case rel => exact ⟨i + 1, n, by omega, by omega, by simp, rfl, HB2.out, HS.out⟩
        case measure => simp [Go.RowKit.intOf]; omega
      | true =>
        have hC' : (C != 1) = false := by rw [bne, hC]; rfl
        rw [hC, if_pos rfl] at HS
        cases hr : ((n : Int) == r) with
        | true =>
          rw [hr, if_pos rfl] at HS
          go_wp2_with fail
          refine hK.mono ?_
          rintro e y ⟨rfl, by_⟩
          clear hK x1 c0
          go_wp2_with fail
          go_ret
          exact ⟨by rw [HS.out]; rfl, chainB (chainB B1.out HB.out) by_⟩
        | false =>
          rw [hr, if_neg Bool.false_ne_true] at HS
          go_wp2_with fail
          refine hK.mono ?_
          rintro e y ⟨rfl, by_⟩
          have HB2 : Hid (Below W1.heap.size W1 y) := chainB HB.out by_
          clear hK x1 c0
          go_wp2_with fail
          go_roundw
          case rel => exact ⟨i + 1, n + 1, by omega, by omega, by simp, by simp, HB2.out, HS.out⟩
          case measure => simp [Go.RowKit.intOf]; omega
    · obtain rfl : i = lv.length := by omega
      have HE : Hid (plB lv r = -1) := by show _ = _; rw [HV.out, List.drop_length]; rfl
      clear HV
      go_wp2_with fail
      go_ret
      exact ⟨by rw [HE.out]; rfl, chainB B1.out HB.out⟩
set_option maxHeartbeats 4000000 in
theorem l09Field_any (p : Option Addr) (lv : List ByteArray) (cp : Nat) (q : Option Addr) (rs : List Rw) (cq : Nat) (now : Int) (r f : Int) (w : World) (hR : RwAt w q rs) (hn : rs.length ≤ 1048576) (hcq : rs.length ≤ cq) (hz : ∀ r ∈ rs, r.fs.length ≤ 1048576) :
    Calls Tryz.prog 107 #[.agg #[.slice q rs.length cq, .slice p lv.length cp, .int .i64 now], .int .i64 r, .int .i64 f] w fun e w' => e = .returned (.int .i64 (fcO rs r f)) ∧ Below w.heap.size w w' := by
  obtain ⟨W1, hW1⟩ : ∃ W1, W1 = w.alloc (.cells #[.slice q rs.length cq, .slice p lv.length cp, .int .i64 now] 41) := ⟨_, rfl⟩
  have HW1 : Hid (W1 = w.alloc (.cells #[.slice q rs.length cq, .slice p lv.length cp, .int .i64 now] 41)) := hW1
  have B1 : Hid (Below w.heap.size w W1) := by rw [hW1]; exact (Below.refl _ _).alloc (Nat.le_refl _) _
  have K1 : Hid (Bxs W1 w.heap.size 41 #[.slice q rs.length cq, .slice p lv.length cp, .int .i64 now]) := by rw [hW1]; exact Bxs.new _ _ _
  have HR : Hid (RwAt W1 q rs) := hR.below B1.out
  have HI1 := l07Is_any r 0 ((rs.length : Int) - 1) W1
  have x0 := K1.out.cell 0
  by_cases h1 : 0 ≤ r ∧ r ≤ (rs.length : Int) - 1
  · rw [decide_eq_true h1] at HI1
    have hrl : r.toNat < rs.length := by omega
    have hre : (r.toNat : Int) = r := Int.toNat_of_nonneg h1.1
    obtain ⟨I, rfl⟩ : ∃ I : Nat, r = (I : Int) := ⟨r.toNat, hre.symm⟩
    rw [Int.toNat_natCast] at hrl
    obtain ⟨b, off, rq, rc, rfl, hb0, c0, c1, c2, c3, c4⟩ := HR.out I hrl
    have hrI : rs.getD I rwZ = rs[I] := by rw [List.getD_eq_getElem?_getD, List.getElem?_eq_getElem hrl, Option.getD_some]
    have hfz := hz _ (List.getElem_mem hrl)
    have HI2 := l07Is_any f 0 ((rs[I].fs.length : Int) - 1) W1
    by_cases h2 : 0 ≤ f ∧ f ≤ (rs[I].fs.length : Int) - 1
    · rw [decide_eq_true h2] at HI2
      have hfl : f.toNat < rs[I].fs.length := by omega
      obtain ⟨F, rfl⟩ : ∃ F : Nat, f = (F : Int) := ⟨f.toNat, (Int.toNat_of_nonneg h2.1).symm⟩
      rw [Int.toNat_natCast] at hfl
      obtain ⟨bf, of, rfl, hbf, f0, f1, f2, f3, f4⟩ := c4 F hfl
      have HV : Hid (fcO rs (I : Int) (F : Int) = if rs[I].fs[F].g = true then 7 else 0) := by
        show _ = _
        unfold fcO fldOf
        rw [if_pos h1, Int.toNat_natCast, Int.toNat_natCast, hrI, if_pos h2, List.getD_eq_getElem?_getD, List.getElem?_eq_getElem hfl, Option.getD_some]
      clear f0 f1 f2 f3
      have iI : (I : Int) < rs.length := by omega
      have fI : (F : Int) < rs[I].fs.length := by omega
      cases hG : rs[I].fs[F].g with
      | true =>
        rw [hG] at f4
        rw [hG, if_pos rfl] at HV
        rw [HV.out]
        clear hfl c4 c0 c1 hG HV
        generalize rs[I].fs.length = FL at *
        clear hW1 hR HR hz c3 hrI h1 h2 hre hb0 hbf
        rw [HW1.out] at x0 c2 f4 HI1 HI2
        go_enter Tryz.func107, Tryz.ntmps107
        go_wp2_with (first | (go_at_call 45; with_reducible refine HI1.mono ?_; rintro e y ⟨rfl, rfl⟩) | (go_at_call 45; with_reducible refine HI2.mono ?_; rintro e y ⟨rfl, rfl⟩))
        go_ret
        rw [← HW1.out]
        exact ⟨rfl, B1.out⟩
      | false =>
        rw [hG] at f4
        rw [hG, if_neg Bool.false_ne_true] at HV
        rw [HV.out]
        clear hfl c4 c0 c1 hG HV
        generalize rs[I].fs.length = FL at *
        clear hW1 hR HR hz c3 hrI h1 h2 hre hb0 hbf
        rw [HW1.out] at x0 c2 f4 HI1 HI2
        go_enter Tryz.func107, Tryz.ntmps107
        go_wp2_with (first | (go_at_call 45; with_reducible refine HI1.mono ?_; rintro e y ⟨rfl, rfl⟩) | (go_at_call 45; with_reducible refine HI2.mono ?_; rintro e y ⟨rfl, rfl⟩))
        go_ret
        rw [← HW1.out]
        exact ⟨rfl, B1.out⟩
    · rw [decide_eq_false h2] at HI2
      have HV : Hid (fcO rs (I : Int) f = 6) := by
        show _ = _
        unfold fcO
        rw [if_pos h1, Int.toNat_natCast, hrI, if_neg h2]
      rw [HV.out]
      have iI : (I : Int) < rs.length := by omega
      generalize rs[I].fs.length = FL at *
      clear hW1 hR HR hz HV c0 c1 c3 c4 hrI h1 h2 hre hb0
      rw [HW1.out] at x0 c2 HI1 HI2
      go_enter Tryz.func107, Tryz.ntmps107
      go_wp2_with (first | (go_at_call 45; with_reducible refine HI1.mono ?_; rintro e y ⟨rfl, rfl⟩) | (go_at_call 45; with_reducible refine HI2.mono ?_; rintro e y ⟨rfl, rfl⟩))
      go_ret
      rw [← HW1.out]
      exact ⟨rfl, B1.out⟩
  · rw [decide_eq_false h1] at HI1
    have HV : Hid (fcO rs r f = 6) := by
      show _ = _
      unfold fcO
      rw [if_neg h1]
    rw [HV.out]
    clear hW1 hR HR hz HV h1
    rw [HW1.out] at x0 HI1
    go_enter Tryz.func107, Tryz.ntmps107
    go_wp2_with (first | (go_at_call 45; with_reducible refine HI1.mono ?_; rintro e y ⟨rfl, rfl⟩))
    go_ret
    rw [← HW1.out]
    exact ⟨rfl, B1.out⟩
set_option maxHeartbeats 2000000 in
theorem l09Status_any (p : Option Addr) (lv : List ByteArray) (cp : Nat) (q : Option Addr) (rs : List Rw) (cq : Nat) (now : Int) (r f : Int) (w : World) (hR : RwAt w q rs) (hn : rs.length ≤ 1048576) (hcq : rs.length ≤ cq) (hz : ∀ r ∈ rs, r.fs.length ≤ 1048576) :
    Calls Tryz.prog 60 #[.agg #[.slice q rs.length cq, .slice p lv.length cp, .int .i64 now], .int .i64 r, .int .i64 f] w fun e w' => e = .returned (.int .i64 (stC (fcO rs r f))) ∧ Below w.heap.size w w' := by
  obtain ⟨W1, hW1⟩ : ∃ W1, W1 = w.alloc (.cells #[.slice q rs.length cq, .slice p lv.length cp, .int .i64 now] 41) := ⟨_, rfl⟩
  have HW1 : Hid (W1 = w.alloc (.cells #[.slice q rs.length cq, .slice p lv.length cp, .int .i64 now] 41)) := hW1
  have B1 : Hid (Below w.heap.size w W1) := by rw [hW1]; exact (Below.refl _ _).alloc (Nat.le_refl _) _
  have hF := l09Field_any p lv cp q rs cq now r f W1 (hR.below B1.out) hn hcq hz
  rcases fcO_cases rs r f with h | h | h
  all_goals
    rw [h] at hF ⊢
    clear hW1 hR hz h
    go_enter Tryz.func60, Tryz.ntmps60
    go_wp2_with fail
    rw [← HW1.out]
    refine hF.mono ?_
    rintro e y ⟨rfl, by_⟩
    clear hF
    go_wp2_with fail
    go_ret
    exact ⟨rfl, chainB B1.out by_⟩
set_option maxHeartbeats 2000000 in
theorem specStatusOf_any (p : Option Addr) (lv : List ByteArray) (cp : Nat) (q : Option Addr) (rs : List Rw) (cq : Nat) (now r f : Int) (w : World) (hA : LgAt p lv cp q rs cq w) :
    Calls Tryz.prog 26 #[.agg #[.slice q rs.length cq, .slice p lv.length cp, .int .i64 now], .int .i64 r, .int .i64 f] w fun e w' => e = .returned (.int .i64 (stO rs lv now r f)) ∧ Below w.heap.size w w' := by
  obtain ⟨W1, hW1⟩ : ∃ W1, W1 = w.alloc (.cells #[.slice q rs.length cq, .slice p lv.length cp, .int .i64 now] 41) := ⟨_, rfl⟩
  have HW1 : Hid (W1 = w.alloc (.cells #[.slice q rs.length cq, .slice p lv.length cp, .int .i64 now] 41)) := hW1
  have B1 : Hid (Below w.heap.size w W1) := by rw [hW1]; exact (Below.refl _ _).alloc (Nat.le_refl _) _
  have K1 : Hid (Bxs W1 w.heap.size 41 #[.slice q rs.length cq, .slice p lv.length cp, .int .i64 now]) := by rw [hW1]; exact Bxs.new _ _ _
  have hR := specLogRight_any p lv cp q rs cq now W1 (hA.below B1.out)
  have HP : Hid (∀ x, Below w.heap.size w x → Calls Tryz.prog 60 #[.agg #[.slice q rs.length cq, .slice p lv.length cp, .int .i64 now], .int .i64 r, .int .i64 f] x fun e w' => e = .returned (.int .i64 (stC (fcO rs r f))) ∧ Below x.heap.size x w') := fun x hb => l09Status_any p lv cp q rs cq now r f x (hA.rw.below hb) hA.rn hA.rc (fun r hr => (hA.rz r hr).1)
  have HV : Hid (stO rs lv now r f = if lgB rs lv now = true then stC (fcO rs r f) else 0) := rfl
  generalize stC (fcO rs r f) = SC at *
  have x0 := K1.out.cell 0
  have x1 := K1.out.cell 1
  have x2 := K1.out.cell 2
  rw [HW1.out] at x0 x1 x2
  clear hW1 hA
  cases hg : lgB rs lv now with
  | false =>
    rw [hg] at hR
    rw [hg, if_neg Bool.false_ne_true] at HV
    rw [HV.out]
    go_enter Tryz.func26, Tryz.ntmps26
    go_wp2_with fail
    rw [← HW1.out]
    refine hR.mono ?_
    rintro e y ⟨rfl, by_⟩
    go_wp2_with fail
    go_ret
    exact ⟨rfl, chainB B1.out by_⟩
  | true =>
    rw [hg] at hR
    rw [hg, if_pos rfl] at HV
    rw [HV.out]
    go_enter Tryz.func26, Tryz.ntmps26
    go_wp2_with fail
    rw [← HW1.out]
    refine hR.mono ?_
    rintro e y ⟨rfl, by_⟩
    clear hR x0 x1 x2
    have x0 := (K1.out.below by_).cell 0
    have x1 := (K1.out.below by_).cell 1
    have x2 := (K1.out.below by_).cell 2
    have hP := HP.out y (chainB B1.out by_)
    go_wp2_with fail
    refine hP.mono ?_
    rintro e y2 ⟨rfl, by2⟩
    go_wp2_with fail
    go_ret
    exact ⟨rfl, chainB (chainB B1.out by_) by2⟩
end Go.Proofs.YtonleickhincgaaGreatDoor
/-
  The specification's l09Forget: a field of a log of its own is forgotten.
-/
namespace Go.Proofs.YtonleickhincgaaGreatDoor
open Go.RowKit Go.Lib
set_option linter.unusedVariables false
set_option maxRecDepth 20000

theorem field_row (q1 : Option Addr) (k : ByteArray) (a : Int) (n c : Nat) (x : World) : (Instr.field 187 (.agg #[.string k, .int .i64 a, .slice q1 n c, .int .i64 0]) 0).run Tryz.prog x = .ok (.agg #[.string k, .int .i64 a, .slice q1 n c]) x := by first | rfl | kernel_rfl
set_option maxHeartbeats 8000000 in
theorem l09Forget_any (W : World) (E : Nat) (xs : List (Rw × Value)) (lv : List ByteArray) (now : Int) (g c : Nat) (z2 : Option Addr) (zd : Nat) (w : World) (h : LgC W E xs lv now (.slice (some ⟨g, 0, none⟩) xs.length c) (.slice z2 lv.length zd) w) (I J : Nat) (hI : I < xs.length) (y : Int) (X : Rw) (FS : List Fld) (TX : ByteArray) (hX : xs[I].1 = X) (hl : lv.length + 1 ≤ 1048576)
    (hFg : ∀ x q c, Below W.heap.size W x → FldAt x q X.fs → X.fs.length ≤ c → Calls Tryz.prog 146 #[.agg #[.string X.k, .int .i64 X.a, .slice q X.fs.length c], .int .i64 J] x fun e w' => ∃ q' c', e = .returned (.agg #[.string X.k, .int .i64 X.a, .slice q' FS.length c', .int .i64 0]) ∧ w'.ownsRow x.heap.size 122 5 (.slice q' FS.length c') FS.length (fldRow FS) ∧ Below x.heap.size x w') (hTx : ∀ x, Calls Tryz.prog 145 #[.agg #[.int .i64 I, .int .i64 J, .int .i64 y, .int .i64 now]] x fun e w' => e = .returned (.string TX) ∧ Below x.heap.size x w') :
    Calls Tryz.prog 142 #[.pointer (some ⟨E, 0, none⟩), .int .i64 I, .int .i64 J, .int .i64 y] w fun e w' => e = .returned (.tuple #[]) ∧ ∃ q1 c1 z3 d3, LgC W E (xs.set I (⟨X.k, X.a, FS⟩, .slice q1 FS.length c1)) (lv ++ [TX]) now (.slice (some ⟨g, 0, none⟩) xs.length c) (.slice z3 (lv.length + 1) d3) w' := by
  obtain ⟨q0, c0, hv, hc0⟩ := h.rowv I hI
  rw [hX] at hv hc0
  have HC : Hid (LgC W E xs lv now (.slice (some ⟨g, 0, none⟩) xs.length c) (.slice z2 lv.length zd) w) := h
  have HFg : Hid (∀ x q c, Below W.heap.size W x → FldAt x q X.fs → X.fs.length ≤ c → Calls Tryz.prog 146 #[.agg #[.string X.k, .int .i64 X.a, .slice q X.fs.length c], .int .i64 J] x fun e w' => ∃ q' c', e = .returned (.agg #[.string X.k, .int .i64 X.a, .slice q' FS.length c', .int .i64 0]) ∧ w'.ownsRow x.heap.size 122 5 (.slice q' FS.length c') FS.length (fldRow FS) ∧ Below x.heap.size x w') := hFg
  have HTx : Hid (∀ x, Calls Tryz.prog 145 #[.agg #[.int .i64 I, .int .i64 J, .int .i64 y, .int .i64 now]] x fun e w' => e = .returned (.string TX) ∧ Below x.heap.size x w') := hTx
  have Hlv : Hid (lv.length + 1 ≤ 1048576) := hl
  clear h hFg hTx hl
  have i1 : (I : Int) < xs.length := by omega
  go_enter Tryz.func142, Tryz.ntmps142
  go_upto_region 0 with fail
  have HCd := HC.out.below (Below.refl _ _).drew
  have hFg := HFg.out w.drew q0 c0 HCd.bel (HCd.row I hI hX hv).2.2.2.2 hc0
  refine region_till (fun w' => w'.cell? ⟨E, 0, none⟩ = some (.slice (some ⟨g, 0, none⟩) xs.length c) ∧ w'.cell? ⟨g, I * 3, none⟩ = some (.string X.k) ∧ w'.cell? ⟨g, I * 3 + 1, none⟩ = some (.int .i64 X.a) ∧ w'.cell? ⟨g, I * 3 + 2, none⟩ = some (.slice q0 X.fs.length c0)) 16 (by kernel_rfl) ⟨HCd.cells.1, (HCd.row I hI hX hv).1⟩ (fun hHeld => ?_)
  generalize w.drew = y0 at *
  refine till_take 0 (v := ?_) rfl (by kernel_rfl) (by kernel_rfl) (by kernel_rfl) (by kernel_rfl) (fun _ _ _ h => h) hHeld (Or.inl ⟨by rfl, ?_⟩) ?_
  rotate_left
  · (intro w hSw; (try dsimp only at hSw); go_simp; try with_reducible rfl)
  simp only [Act.put, List.setIfInBounds_toArray, List.set_cons_zero, List.set_cons_succ]
  refine till_take 1 (v := ?_) rfl (by kernel_rfl) (by kernel_rfl) (by kernel_rfl) (by kernel_rfl) (fun _ _ _ h => h) hHeld (Or.inl ⟨by rfl, ?_⟩) ?_
  rotate_left
  · (intro w hSw; (try dsimp only at hSw); go_simp; try with_reducible rfl)
  simp only [Act.put, List.setIfInBounds_toArray, List.set_cons_zero, List.set_cons_succ]
  refine till_take 2 (v := ?_) rfl (by kernel_rfl) (by kernel_rfl) (by kernel_rfl) (by kernel_rfl) (fun _ _ _ h => h) hHeld (Or.inl ⟨by rfl, ?_⟩) ?_
  rotate_left
  · (intro w hSw; (try dsimp only at hSw); go_simp; try with_reducible rfl)
  simp only [Act.put, List.setIfInBounds_toArray, List.set_cons_zero, List.set_cons_succ]
  refine till_take 3 (v := ?_) rfl (by kernel_rfl) (by kernel_rfl) (by kernel_rfl) (by kernel_rfl) (fun _ _ _ h => h) hHeld (Or.inl ⟨by rfl, ?_⟩) ?_
  rotate_left
  · (intro w hSw; (try dsimp only at hSw); go_simp; try with_reducible rfl)
  simp only [Act.put, List.setIfInBounds_toArray, List.set_cons_zero, List.set_cons_succ]
  refine till_take 4 (v := ?_) rfl (by kernel_rfl) (by kernel_rfl) (by kernel_rfl) (by kernel_rfl) (fun _ _ _ h => h) hHeld (Or.inl ⟨by rfl, ?_⟩) ?_
  rotate_left
  · (intro w hSw; (try dsimp only at hSw); go_simp; try with_reducible rfl)
  simp only [Act.put, List.setIfInBounds_toArray, List.set_cons_zero, List.set_cons_succ]
  refine till_take 5 (v := ?_) rfl (by kernel_rfl) (by kernel_rfl) (by kernel_rfl) (by kernel_rfl) (fun _ _ _ h => h) hHeld (Or.inl ⟨by rfl, ?_⟩) ?_
  rotate_left
  · (intro w hSw; (try dsimp only at hSw); go_simp; try with_reducible rfl)
  simp only [Act.put, List.setIfInBounds_toArray, List.set_cons_zero, List.set_cons_succ]
  refine till_take 6 (v := ?_) rfl (by kernel_rfl) (by kernel_rfl) (by kernel_rfl) (by kernel_rfl) (fun _ _ _ h => h) hHeld (Or.inl ⟨by rfl, ?_⟩) ?_
  rotate_left
  · (intro w hSw; (try dsimp only at hSw); go_simp; try with_reducible rfl)
  simp only [Act.put, List.setIfInBounds_toArray, List.set_cons_zero, List.set_cons_succ]
  refine till_take 7 (v := ?_) rfl (by kernel_rfl) (by kernel_rfl) (by kernel_rfl) (by kernel_rfl) (fun _ _ _ h => h) hHeld (Or.inl ⟨by rfl, ?_⟩) ?_
  rotate_left
  · (intro w hSw; (try dsimp only at hSw); go_simp; try with_reducible rfl)
  simp only [Act.put, List.setIfInBounds_toArray, List.set_cons_zero, List.set_cons_succ]
  refine till_take 8 (v := ?_) rfl (by kernel_rfl) (by kernel_rfl) (by kernel_rfl) (by kernel_rfl) (fun _ _ _ h => h) hHeld (Or.inl ⟨by rfl, ?_⟩) ?_
  rotate_left
  · (intro w hSw; (try dsimp only at hSw); go_simp; try with_reducible rfl)
  simp only [Act.put, List.setIfInBounds_toArray, List.set_cons_zero, List.set_cons_succ]
  refine till_take 9 (v := ?_) rfl (by kernel_rfl) (by kernel_rfl) (by kernel_rfl) (by kernel_rfl) (fun _ _ _ h => h) hHeld (Or.inl ⟨by rfl, ?_⟩) ?_
  rotate_left
  · (intro w hSw; (try dsimp only at hSw); go_simp; try with_reducible rfl)
  simp only [Act.put, List.setIfInBounds_toArray, List.set_cons_zero, List.set_cons_succ]
  refine till_take 10 (v := ?_) rfl (by kernel_rfl) (by kernel_rfl) (by kernel_rfl) (by kernel_rfl) (fun _ _ _ h => h) hHeld (Or.inl ⟨by rfl, ?_⟩) ?_
  rotate_left
  · (intro w hSw; (try dsimp only at hSw); go_simp; try with_reducible rfl)
  simp only [Act.put, List.setIfInBounds_toArray, List.set_cons_zero, List.set_cons_succ]
  refine till_take 11 (v := ?_) rfl (by kernel_rfl) (by kernel_rfl) (by kernel_rfl) (by kernel_rfl) (fun _ _ _ h => h) hHeld (Or.inl ⟨by rfl, ?_⟩) ?_
  rotate_left
  · (intro w hSw; (try dsimp only at hSw); go_simp; try with_reducible rfl)
  simp only [Act.put, List.setIfInBounds_toArray, List.set_cons_zero, List.set_cons_succ]
  refine till_take 12 (v := ?_) rfl (by kernel_rfl) (by kernel_rfl) (by kernel_rfl) (by kernel_rfl) (fun _ _ _ h => h) hHeld (Or.inl ⟨by rfl, ?_⟩) ?_
  rotate_left
  · (intro w hSw; (try dsimp only at hSw); go_simp; try with_reducible rfl)
  simp only [Act.put, List.setIfInBounds_toArray, List.set_cons_zero, List.set_cons_succ]
  refine till_ready 13 rfl (by kernel_rfl) (fun K hK => ?_)
  go_simp
  (go_at_call 146; refine hFg.mono ?_; rintro e y1 ⟨q1, c1, rfl, own1, zz1⟩)
  have HC1 := HCd.below zz1
  refine hK.out _ _ ⟨HC1.cells.1, (HC1.row I hI hX hv).1⟩ (fun hHeld => ?_)
  clear hK K
  try simp only [Act.put, List.setIfInBounds_toArray, List.set_cons_zero, List.set_cons_succ]
  have fdR := field_row q1 X.k X.a FS.length c1
  refine till_take 14 (v := ?_) rfl (by kernel_rfl) (by kernel_rfl) (by kernel_rfl) (by kernel_rfl) (fun _ _ _ h => h) hHeld (Or.inl ⟨by rfl, ?_⟩) ?_
  rotate_left
  · (intro w hSw; (try dsimp only at hSw); have fdw := fdR w; go_simp; try with_reducible rfl)
  simp only [Act.put, List.setIfInBounds_toArray, List.set_cons_zero, List.set_cons_succ]
  refine till_take 15 (v := ?_) rfl (by kernel_rfl) (by kernel_rfl) (by kernel_rfl) (by kernel_rfl) (fun _ _ _ h => h) hHeld (Or.inl ⟨by rfl, ?_⟩) ?_
  rotate_left
  · (intro w hSw; (try dsimp only at hSw); go_simp; try with_reducible rfl)
  simp only [Act.put, List.setIfInBounds_toArray, List.set_cons_zero, List.set_cons_succ]
  obtain ⟨-, fz0, fz1, fz2, -⟩ := HC1.row I hI hX hv
  obtain ⟨cz, cz0, cz1, cz2⟩ := hHeld
  refine till_last rfl (by kernel_rfl) (by kernel_rfl) (fun K hK => ?_)
  go_simp
  refine hK.out _ _ ?_
  clear hK K cz cz0 cz1 cz2 fz0 fz1 fz2
  have HC6 : Hid (LgC W E (xs.set I (⟨X.k, X.a, FS⟩, .slice q1 FS.length c1)) lv now (.slice (some ⟨g, 0, none⟩) xs.length c) (.slice z2 lv.length zd) (((y1.setCell ⟨g, I * 3, none⟩ (.string X.k)).setCell ⟨g, I * 3 + 1, none⟩ (.int .i64 X.a)).setCell ⟨g, I * 3 + 2, none⟩ (.slice q1 FS.length c1))) := HCd.setRow zz1 I hI ⟨X.k, X.a, FS⟩ q1 c1 own1
  clear own1 zz1 HC1 HCd hFg fdR
  go_upto_region 1 with fail
  generalize ((y1.setCell ⟨g, I * 3, none⟩ (.string X.k)).setCell ⟨g, I * 3 + 1, none⟩ (.int .i64 X.a)).setCell ⟨g, I * 3 + 2, none⟩ (.slice q1 FS.length c1) = y6 at *
  have HCd := HC6.out.below (Below.refl _ _).drew
  have hTx := HTx.out y6.drew
  refine region_till (fun w' => w'.cell? ⟨E, 1, none⟩ = some (.slice z2 lv.length zd) ∧ w'.cell? ⟨E, 2, none⟩ = some (.int .i64 now)) 18 (by kernel_rfl) ⟨HCd.cells.2.1, HCd.cells.2.2.1⟩ (fun hHeld => ?_)
  generalize y6.drew = y7 at *
  refine till_take 0 (v := ?_) rfl (by kernel_rfl) (by kernel_rfl) (by kernel_rfl) (by kernel_rfl) (fun _ _ _ h => h) hHeld (Or.inl ⟨by rfl, ?_⟩) ?_
  rotate_left
  · (intro w hSw; (try dsimp only at hSw); go_simp; try with_reducible rfl)
  simp only [Act.put, List.setIfInBounds_toArray, List.set_cons_zero, List.set_cons_succ]
  refine till_take 1 (v := ?_) rfl (by kernel_rfl) (by kernel_rfl) (by kernel_rfl) (by kernel_rfl) (fun _ _ _ h => h) hHeld (Or.inl ⟨by rfl, ?_⟩) ?_
  rotate_left
  · (intro w hSw; (try dsimp only at hSw); go_simp; try with_reducible rfl)
  simp only [Act.put, List.setIfInBounds_toArray, List.set_cons_zero, List.set_cons_succ]
  refine till_take 2 (v := ?_) rfl (by kernel_rfl) (by kernel_rfl) (by kernel_rfl) (by kernel_rfl) (fun _ _ _ h => h) hHeld (Or.inl ⟨by rfl, ?_⟩) ?_
  rotate_left
  · (intro w hSw; (try dsimp only at hSw); go_simp; try with_reducible rfl)
  simp only [Act.put, List.setIfInBounds_toArray, List.set_cons_zero, List.set_cons_succ]
  refine till_take 3 (v := ?_) rfl (by kernel_rfl) (by kernel_rfl) (by kernel_rfl) (by kernel_rfl) (fun _ _ _ h => h) hHeld (Or.inl ⟨by rfl, ?_⟩) ?_
  rotate_left
  · (intro w hSw; (try dsimp only at hSw); go_simp; try with_reducible rfl)
  simp only [Act.put, List.setIfInBounds_toArray, List.set_cons_zero, List.set_cons_succ]
  refine till_take 4 (v := ?_) rfl (by kernel_rfl) (by kernel_rfl) (by kernel_rfl) (by kernel_rfl) (fun _ _ _ h => h) hHeld (Or.inl ⟨by rfl, ?_⟩) ?_
  rotate_left
  · (intro w hSw; (try dsimp only at hSw); go_simp; try with_reducible rfl)
  simp only [Act.put, List.setIfInBounds_toArray, List.set_cons_zero, List.set_cons_succ]
  refine till_take 5 (v := ?_) rfl (by kernel_rfl) (by kernel_rfl) (by kernel_rfl) (by kernel_rfl) (fun _ _ _ h => h) hHeld (Or.inl ⟨by rfl, ?_⟩) ?_
  rotate_left
  · (intro w hSw; (try dsimp only at hSw); go_simp; try with_reducible rfl)
  simp only [Act.put, List.setIfInBounds_toArray, List.set_cons_zero, List.set_cons_succ]
  refine till_take 6 (v := ?_) rfl (by kernel_rfl) (by kernel_rfl) (by kernel_rfl) (by kernel_rfl) (fun _ _ _ h => h) hHeld (Or.inl ⟨by rfl, ?_⟩) ?_
  rotate_left
  · (intro w hSw; (try dsimp only at hSw); go_simp; try with_reducible rfl)
  simp only [Act.put, List.setIfInBounds_toArray, List.set_cons_zero, List.set_cons_succ]
  refine till_take 7 (v := ?_) rfl (by kernel_rfl) (by kernel_rfl) (by kernel_rfl) (by kernel_rfl) (fun _ _ _ h => h) hHeld (Or.inl ⟨by rfl, ?_⟩) ?_
  rotate_left
  · (intro w hSw; (try dsimp only at hSw); go_simp; try with_reducible rfl)
  simp only [Act.put, List.setIfInBounds_toArray, List.set_cons_zero, List.set_cons_succ]
  refine till_take 8 (v := ?_) rfl (by kernel_rfl) (by kernel_rfl) (by kernel_rfl) (by kernel_rfl) (fun _ _ _ h => h) hHeld (Or.inl ⟨by rfl, ?_⟩) ?_
  rotate_left
  · (intro w hSw; (try dsimp only at hSw); go_simp; try with_reducible rfl)
  simp only [Act.put, List.setIfInBounds_toArray, List.set_cons_zero, List.set_cons_succ]
  refine till_take 9 (v := ?_) rfl (by kernel_rfl) (by kernel_rfl) (by kernel_rfl) (by kernel_rfl) (fun _ _ _ h => h) hHeld (Or.inl ⟨by rfl, ?_⟩) ?_
  rotate_left
  · (intro w hSw; (try dsimp only at hSw); go_simp; try with_reducible rfl)
  simp only [Act.put, List.setIfInBounds_toArray, List.set_cons_zero, List.set_cons_succ]
  refine till_take 10 (v := ?_) rfl (by kernel_rfl) (by kernel_rfl) (by kernel_rfl) (by kernel_rfl) (fun _ _ _ h => h) hHeld (Or.inl ⟨by rfl, ?_⟩) ?_
  rotate_left
  · (intro w hSw; (try dsimp only at hSw); go_simp; try with_reducible rfl)
  simp only [Act.put, List.setIfInBounds_toArray, List.set_cons_zero, List.set_cons_succ]
  refine till_take 11 (v := ?_) rfl (by kernel_rfl) (by kernel_rfl) (by kernel_rfl) (by kernel_rfl) (fun _ _ _ h => h) hHeld (Or.inl ⟨by rfl, ?_⟩) ?_
  rotate_left
  · (intro w hSw; (try dsimp only at hSw); go_simp; try with_reducible rfl)
  simp only [Act.put, List.setIfInBounds_toArray, List.set_cons_zero, List.set_cons_succ]
  refine till_take 12 (v := ?_) rfl (by kernel_rfl) (by kernel_rfl) (by kernel_rfl) (by kernel_rfl) (fun _ _ _ h => h) hHeld (Or.inl ⟨by rfl, ?_⟩) ?_
  rotate_left
  · (intro w hSw; (try dsimp only at hSw); go_simp; try with_reducible rfl)
  simp only [Act.put, List.setIfInBounds_toArray, List.set_cons_zero, List.set_cons_succ]
  refine till_ready 13 rfl (by kernel_rfl) (fun K hK => ?_)
  go_simp
  (go_at_call 145; refine hTx.mono ?_; rintro e y8 ⟨rfl, zz1⟩)
  have HC1 := HCd.below zz1
  refine hK.out _ _ ⟨HC1.cells.2.1, HC1.cells.2.2.1⟩ (fun hHeld => ?_)
  clear hK K
  try simp only [Act.put, List.setIfInBounds_toArray, List.set_cons_zero, List.set_cons_succ]
  obtain ⟨gq, d3, y9, hrun, HC2, bl2, k20, k21, gr2⟩ := HC1.leaf TX Hlv.out
  have HCa := HC1.below (alB (Below.refl _ _) (.cells #[.string TX] 9))
  refine till_ready 14 rfl (by kernel_rfl) (fun K hK => ?_)
  go_simp
  refine hK.out _ _ ⟨HCa.cells.2.1, HCa.cells.2.2.1⟩ (fun hHeld => ?_)
  clear hK K
  try simp only [Act.put, List.setIfInBounds_toArray, List.set_cons_zero, List.set_cons_succ]
  refine till_ready 15 rfl (by kernel_rfl) (fun K hK => ?_)
  refine step_append_run rfl _ _ 25 rfl (.slice z2 lv.length zd) (.slice (some ⟨y8.heap.size, 0, none⟩) 1 1) _ _ rfl rfl hrun ?_
  have kE2 := (HCa.box.grown gr2 (fun e => own_box HCa.lg.lvs HCa.box (by decide) e.symm)).cell 2
  refine hK.out _ _ ⟨k20, kE2⟩ (fun hHeld => ?_)
  clear hK K
  try simp only [Act.put, List.setIfInBounds_toArray, List.set_cons_zero, List.set_cons_succ]
  refine till_ready 16 rfl (by kernel_rfl) (fun K hK => ?_)
  go_simp
  refine hK.out _ _ ⟨k20, kE2⟩ (fun hHeld => ?_)
  clear hK K
  try simp only [Act.put, List.setIfInBounds_toArray, List.set_cons_zero, List.set_cons_succ]
  refine till_take 17 (v := ?_) rfl (by kernel_rfl) (by kernel_rfl) (by kernel_rfl) (by kernel_rfl) (fun _ _ _ h => h) hHeld (Or.inl ⟨by rfl, ?_⟩) ?_
  rotate_left
  · (intro w hSw; (try dsimp only at hSw); go_simp; try with_reducible rfl)
  simp only [Act.put, List.setIfInBounds_toArray, List.set_cons_zero, List.set_cons_succ]
  refine till_last rfl (by kernel_rfl) (by kernel_rfl) (fun K hK => ?_)
  go_simp
  refine hK.out _ _ ?_
  clear hK K hHeld
  have HC8 : Hid (LgC W E (xs.set I (⟨X.k, X.a, FS⟩, .slice q1 FS.length c1)) (lv ++ [TX]) now (.slice (some ⟨g, 0, none⟩) xs.length c) (.slice (some ⟨gq, 0, none⟩) (lv.length + 1) d3) (y9.setCell ⟨E, 1, none⟩ (.slice (some ⟨gq, 0, none⟩) (lv.length + 1) d3))) := HC2
  clear HC2 hrun k20 k21 bl2 zz1 HC1 HCd HCa gr2 HC6
  go_wp2_with fail
  go_end0
  exact ⟨rfl, q1, c1, _, d3, HC8.out⟩
end Go.Proofs.YtonleickhincgaaGreatDoor
