/-
  Parts of one proof, laid as one text: LaI, Turn2; what each says stands at its head.
-/
import Derived.Test.YtepmoihgemhjcaaGreatDoorRows
import Derived.Test.YtepmoihgemhjcaaGreatDoorBytesDigMath
import Derived.Test.YtepmoihgemhjcaaGreatDoorTreeMathSlABxKSlBOwnS
import Derived.Test.YtepmoihgemhjcaaGreatDoorLtMathLaMathLfMathTakesLStepAppBlNotTakes
import Derived.Test.YtepmoihgemhjcaaGreatDoorTimeBPutMathPutNumJoinedPutTextFldMath
import Derived.Test.YtepmoihgemhjcaaGreatDoorGetValGetTxtNumMathFldRdNumFromTmbMathFldRiseLgMath
import Derived.Test.YtepmoihgemhjcaaGreatDoorLgAtKLgAnsLgRtShwKOneKFldBlkRwBlk
import Derived.Test.YtepmoihgemhjcaaGreatDoorRowOpsLgO
import Derived.Test.YtepmoihgemhjcaaGreatDoorImplFR
import Derived.Test.YtepmoihgemhjcaaGreatDoorTillTwoPhaseKImplCp
import Derived.Test.YtepmoihgemhjcaaGreatDoorImplOnImplFkAsDAs2CodeOf
import Derived.Test.YtepmoihgemhjcaaGreatDoorLogRICopiedImplClLaB
import Derived.Handy
import Derived.WalkSpells
import Derived.OwnWalk
import Derived.Deep.RegionHeld3
import Derived.Deep.Cut
/-
  What the program's LogAdd answers: 'laC' and the log, in new memory.
-/
namespace Go.Proofs.YtepmoihgemhjcaaGreatDoor
open Go.RowKit Go.Lib
set_option linter.unusedVariables false
set_option maxRecDepth 20000

set_option maxHeartbeats 8000000 in
theorem implLogAdd_any (p : Option Addr) (lv : List ByteArray) (cp : Nat) (q : Option Addr) (rs : List Rw) (cq : Nat) (now : Int) (k : ByteArray) (a : Int) (rq : Option Addr) (rc : Nat) (fs : List Fld) (w : World) (hT : Tabs w) (hg : Laid w) (hA : LgAt p lv cp q rs cq w) (hf : FldAt w rq fs) (hfn : fs.length ≤ 1048576) (hfc : fs.length ≤ rc) (hk : k.size ≤ maxLen) (hz : FldsLe fs) :
    Calls Tryz.prog 7 #[.agg #[.slice q rs.length cq, .slice p lv.length cp, .int .i64 now], .agg #[.string k, .int .i64 a, .slice rq fs.length rc]] w fun e w' => LgA w.heap.size (laR rs lv now ⟨k, a, fs⟩) (laL rs lv now ⟨k, a, fs⟩) (laN rs lv now ⟨k, a, fs⟩) (laC rs lv now ⟨k, a, fs⟩) e w' ∧ Below w.heap.size w w' := by
  obtain ⟨W3, hW3⟩ : ∃ W3, W3 = ((w.alloc (.cells #[.slice q rs.length cq, .slice p lv.length cp, .int .i64 now] 26)).alloc (.cells #[.string k, .int .i64 a, .slice rq fs.length rc] 29)).alloc (.cells #[.slice none 0 0, .slice none 0 0, .int .i64 0, .int .i64 0] 33) := ⟨_, rfl⟩
  have HW3 : Hid (W3 = ((w.alloc (.cells #[.slice q rs.length cq, .slice p lv.length cp, .int .i64 now] 26)).alloc (.cells #[.string k, .int .i64 a, .slice rq fs.length rc] 29)).alloc (.cells #[.slice none 0 0, .slice none 0 0, .int .i64 0, .int .i64 0] 33)) := hW3
  have H3 : Hid (LaB w q rs.length cq p lv.length cp now k a rq fs.length rc W3) := la_boxes hW3
  have hR : Calls Tryz.prog 25 #[.agg #[.slice q rs.length cq, .slice p lv.length cp, .int .i64 now]] W3 fun e w' => e = .returned (.bool (lgB rs lv now)) ∧ Below W3.heap.size W3 w' := implLogRight_any p lv cp q rs cq now W3 (hT.to H3.out.bel) (hg.below H3.out.bel) (hA.below H3.out.bel)
  have HRR : Hid (∀ x, Below w.heap.size w x → Calls Tryz.prog 58 #[.agg #[.string k, .int .i64 a, .slice rq fs.length rc]] x fun e w' => e = .returned (.bool (rwB k a fs)) ∧ Below x.heap.size x w') := fun x hx => implRowRight_any k a rq rc fs x (hT.to hx) (hf.below hx) hfn hfc hk hz
  have HFr : Hid (∀ x, Below w.heap.size w x → Calls Tryz.prog 59 #[.agg #[.string k, .int .i64 a, .slice rq fs.length rc]] x fun e w' => e = .returned (.bool (!frsB fs)) ∧ Below x.heap.size x w') := fun x hx => anyGone_any k a rq rc fs x (hf.below hx) hfn hfc
  have HCp : Hid (lgB rs lv now = true → ∀ x, Below w.heap.size w x → Calls Tryz.prog 60 #[.agg #[.slice q rs.length cq, .slice p lv.length cp, .int .i64 now]] x fun e w' => ∃ v1 v2 xs, e = .returned (.agg #[v1, v2, .int .i64 now]) ∧ xs.map (·.1) = rs ∧ LgO x.heap.size xs lv v1 v2 w' ∧ Below x.heap.size x w') := fun hl x hx => by
    obtain ⟨hr1, hr2, hr3⟩ := lg_right hl
    exact copiedLog_any p lv cp q rs cq now x (hA.below hx) hr3 (fun s hs => by have := lg_small hl s hs; omega)
  have HCr : Hid (rwB k a fs = true → ∀ x, Below w.heap.size w x → Calls Tryz.prog 61 #[.agg #[.string k, .int .i64 a, .slice rq fs.length rc]] x fun e w' => ∃ bb cc, e = .returned (.agg #[.string k, .int .i64 a, .slice (some ⟨bb, 0, none⟩) fs.length cc]) ∧ w'.ownsRow x.heap.size 103 5 (.slice (some ⟨bb, 0, none⟩) fs.length cc) fs.length (fldRow fs) ∧ Below x.heap.size x w') := fun hr x hx => copiedRow_any k a rq rc fs x (hf.below hx) hfc hr
  have HLf : Hid (rwB k a fs = true → ∀ x, Below w.heap.size w x → Calls Tryz.prog 62 #[.agg #[.string k, .int .i64 a, .slice rq fs.length rc]] x fun e w' => e = .returned (.string (lfB k a fs)) ∧ Below x.heap.size x w') := fun hr x hx => implRowLeaf_any k a rq rc fs x (hT.to hx) (hf.below hx) hfn hfc hk hz
  have HLn : Hid (lgB rs lv now = true → rs.length ≤ 6 ∧ lv.length ≤ 64) := fun hl => ⟨(lg_right hl).1, (lg_right hl).2.1⟩
  have HC : Hid (laC rs lv now ⟨k, a, fs⟩ = if (lgB rs lv now && (rwB k a fs && (frsB fs && (a == now)))) = true then (if rs.length = 6 then 9 else 0) else 1) := rfl
  have HBd : Hid (∀ C, laC rs lv now ⟨k, a, fs⟩ = C → C ≠ 0 → laR rs lv now ⟨k, a, fs⟩ = [] ∧ laL rs lv now ⟨k, a, fs⟩ = [] ∧ laN rs lv now ⟨k, a, fs⟩ = 0) := fun C h hC => la_bad h hC
  have HGd : Hid (laC rs lv now ⟨k, a, fs⟩ = 0 → laR rs lv now ⟨k, a, fs⟩ = rs ++ [⟨k, a, fs⟩] ∧ laL rs lv now ⟨k, a, fs⟩ = lv ++ [lfB k a fs] ∧ laN rs lv now ⟨k, a, fs⟩ = now) := fun h => la_good h
  clear hW3 hA hf hk hz hT hg
  generalize laC rs lv now ⟨k, a, fs⟩ = CC at *
  generalize laR rs lv now ⟨k, a, fs⟩ = RR at *
  generalize laL rs lv now ⟨k, a, fs⟩ = LL at *
  generalize laN rs lv now ⟨k, a, fs⟩ = NN at *
  generalize lfB k a fs = LF at *
  generalize lgB rs lv now = A at *
  generalize rwB k a fs = B at *
  generalize frsB fs = G at *
  have HZ : Hid (∀ x, LgO w.heap.size [] [] (.slice none 0 0) (.slice none 0 0) x) := fun x => LgO.nil _ _
  obtain ⟨x0, x1, x2, x3, x4, x5⟩ := H3.out.six
  obtain ⟨i0, i1, i2, i3, i4, i5, i6, i7⟩ := H3.out.res
  go_enter Tryz.func7, Tryz.ntmps7
  go_upto_region 1 with fail
  rw [← HW3.out]
  go_wp2_with fail
  with_reducible refine hR.mono ?_
  rintro e y1 ⟨rfl, z1⟩
  have H4 : Hid (LaB w q rs.length cq p lv.length cp now k a rq fs.length rc y1) := H3.out.below z1
  clear x0 x1 x2 x3 x4 x5 i0 i1 i2 i3 i4 i5 i6 i7 H3 z1 hR
  obtain ⟨x0, x1, x2, x3, x4, x5⟩ := H4.out.six
  obtain ⟨i0, i1, i2, i3, i4, i5, i6, i7⟩ := H4.out.res
  cases A
  case false =>
    have hc : CC = 1 := by rw [HC.out]; rfl
    obtain ⟨b1, b2, b3⟩ := HBd.out 1 hc (by decide)
    subst hc b1 b2 b3
    go_wp2_with fail
    obtain ⟨K, HLo, HEd⟩ := la_put H4.out.rs (by omega) H4.out.bel (HZ.out y1) (.slice none 0 0) (.slice none 0 0) (.int .i64 0) (.int .i64 1)
    generalize ((((y1.setCell ⟨w.heap.size + 2, 0, none⟩ (.slice none 0 0)).setCell ⟨w.heap.size + 2, 1, none⟩ (.slice none 0 0)).setCell ⟨w.heap.size + 2, 2, none⟩ (.int .i64 0)).setCell ⟨w.heap.size + 2, 3, none⟩ (.int .i64 1)) = zz at *
    have HLp : Hid (LgO _ _ _ _ _ zz) := HLo
    have HEn : Hid (Below w.heap.size w zz) := HEd
    have k0 : zz.cell? ⟨w.heap.size + 2, 0, none⟩ = some (.slice none 0 0) := K.cell 0
    have k1 : zz.cell? ⟨w.heap.size + 2, 1, none⟩ = some (.slice none 0 0) := K.cell 1
    have k2 : zz.cell? ⟨w.heap.size + 2, 2, none⟩ = some (.int .i64 0) := K.cell 2
    have k3 : zz.cell? ⟨w.heap.size + 2, 3, none⟩ = some (.int .i64 1) := K.cell 3
    refine bodyPost_ret (v := .agg #[.slice none 0 0, .slice none 0 0, .int .i64 0, .int .i64 1]) (by simp [results, Tryz.results7, go_sem, k0, k1, k2, k3]) rfl ?_
    exact ⟨⟨_, _, [], rfl, rfl, HLp.out⟩, HEn.out⟩
  have hq := HRR.out y1 H4.out.bel
  go_wp2_with fail
  with_reducible refine hq.mono ?_
  rintro e y2 ⟨rfl, zq⟩
  have H5 : Hid (LaB w q rs.length cq p lv.length cp now k a rq fs.length rc y2) := H4.out.below zq
  clear x0 x1 x2 x3 x4 x5 i0 i1 i2 i3 i4 i5 i6 i7 hq zq
  obtain ⟨x0, x1, x2, x3, x4, x5⟩ := H5.out.six
  obtain ⟨i0, i1, i2, i3, i4, i5, i6, i7⟩ := H5.out.res
  cases B
  case false =>
    have hc : CC = 1 := by rw [HC.out]; rfl
    obtain ⟨b1, b2, b3⟩ := HBd.out 1 hc (by decide)
    subst hc b1 b2 b3
    go_wp2_with fail
    obtain ⟨K, HLo, HEd⟩ := la_put H5.out.rs (by omega) H5.out.bel (HZ.out y2) (.slice none 0 0) (.slice none 0 0) (.int .i64 0) (.int .i64 1)
    generalize ((((y2.setCell ⟨w.heap.size + 2, 0, none⟩ (.slice none 0 0)).setCell ⟨w.heap.size + 2, 1, none⟩ (.slice none 0 0)).setCell ⟨w.heap.size + 2, 2, none⟩ (.int .i64 0)).setCell ⟨w.heap.size + 2, 3, none⟩ (.int .i64 1)) = zz at *
    have HLp : Hid (LgO _ _ _ _ _ zz) := HLo
    have HEn : Hid (Below w.heap.size w zz) := HEd
    have k0 : zz.cell? ⟨w.heap.size + 2, 0, none⟩ = some (.slice none 0 0) := K.cell 0
    have k1 : zz.cell? ⟨w.heap.size + 2, 1, none⟩ = some (.slice none 0 0) := K.cell 1
    have k2 : zz.cell? ⟨w.heap.size + 2, 2, none⟩ = some (.int .i64 0) := K.cell 2
    have k3 : zz.cell? ⟨w.heap.size + 2, 3, none⟩ = some (.int .i64 1) := K.cell 3
    refine bodyPost_ret (v := .agg #[.slice none 0 0, .slice none 0 0, .int .i64 0, .int .i64 1]) (by simp [results, Tryz.results7, go_sem, k0, k1, k2, k3]) rfl ?_
    exact ⟨⟨_, _, [], rfl, rfl, HLp.out⟩, HEn.out⟩
  have hq := HFr.out y2 H5.out.bel
  go_wp2_with fail
  with_reducible refine hq.mono ?_
  rintro e y3 ⟨rfl, zq⟩
  have H6 : Hid (LaB w q rs.length cq p lv.length cp now k a rq fs.length rc y3) := H5.out.below zq
  clear x0 x1 x2 x3 x4 x5 i0 i1 i2 i3 i4 i5 i6 i7 hq zq
  obtain ⟨x0, x1, x2, x3, x4, x5⟩ := H6.out.six
  obtain ⟨i0, i1, i2, i3, i4, i5, i6, i7⟩ := H6.out.res
  cases G
  case false =>
    have hc : CC = 1 := by rw [HC.out]; rfl
    obtain ⟨b1, b2, b3⟩ := HBd.out 1 hc (by decide)
    subst hc b1 b2 b3
    go_wp2_with fail
    obtain ⟨K, HLo, HEd⟩ := la_put H6.out.rs (by omega) H6.out.bel (HZ.out y3) (.slice none 0 0) (.slice none 0 0) (.int .i64 0) (.int .i64 1)
    generalize ((((y3.setCell ⟨w.heap.size + 2, 0, none⟩ (.slice none 0 0)).setCell ⟨w.heap.size + 2, 1, none⟩ (.slice none 0 0)).setCell ⟨w.heap.size + 2, 2, none⟩ (.int .i64 0)).setCell ⟨w.heap.size + 2, 3, none⟩ (.int .i64 1)) = zz at *
    have HLp : Hid (LgO _ _ _ _ _ zz) := HLo
    have HEn : Hid (Below w.heap.size w zz) := HEd
    have k0 : zz.cell? ⟨w.heap.size + 2, 0, none⟩ = some (.slice none 0 0) := K.cell 0
    have k1 : zz.cell? ⟨w.heap.size + 2, 1, none⟩ = some (.slice none 0 0) := K.cell 1
    have k2 : zz.cell? ⟨w.heap.size + 2, 2, none⟩ = some (.int .i64 0) := K.cell 2
    have k3 : zz.cell? ⟨w.heap.size + 2, 3, none⟩ = some (.int .i64 1) := K.cell 3
    refine bodyPost_ret (v := .agg #[.slice none 0 0, .slice none 0 0, .int .i64 0, .int .i64 1]) (by simp [results, Tryz.results7, go_sem, k0, k1, k2, k3]) rfl ?_
    exact ⟨⟨_, _, [], rfl, rfl, HLp.out⟩, HEn.out⟩
  cases hN : (a == now)
  case false =>
    have fN : ¬ a = now := by simpa using hN
    have hc : CC = 1 := by rw [HC.out]; rw [hN]; rfl
    obtain ⟨b1, b2, b3⟩ := HBd.out 1 hc (by decide)
    subst hc b1 b2 b3
    go_wp2_with fail
    obtain ⟨K, HLo, HEd⟩ := la_put H6.out.rs (by omega) H6.out.bel (HZ.out y3) (.slice none 0 0) (.slice none 0 0) (.int .i64 0) (.int .i64 1)
    generalize ((((y3.setCell ⟨w.heap.size + 2, 0, none⟩ (.slice none 0 0)).setCell ⟨w.heap.size + 2, 1, none⟩ (.slice none 0 0)).setCell ⟨w.heap.size + 2, 2, none⟩ (.int .i64 0)).setCell ⟨w.heap.size + 2, 3, none⟩ (.int .i64 1)) = zz at *
    have HLp : Hid (LgO _ _ _ _ _ zz) := HLo
    have HEn : Hid (Below w.heap.size w zz) := HEd
    have k0 : zz.cell? ⟨w.heap.size + 2, 0, none⟩ = some (.slice none 0 0) := K.cell 0
    have k1 : zz.cell? ⟨w.heap.size + 2, 1, none⟩ = some (.slice none 0 0) := K.cell 1
    have k2 : zz.cell? ⟨w.heap.size + 2, 2, none⟩ = some (.int .i64 0) := K.cell 2
    have k3 : zz.cell? ⟨w.heap.size + 2, 3, none⟩ = some (.int .i64 1) := K.cell 3
    refine bodyPost_ret (v := .agg #[.slice none 0 0, .slice none 0 0, .int .i64 0, .int .i64 1]) (by simp [results, Tryz.results7, go_sem, k0, k1, k2, k3]) rfl ?_
    exact ⟨⟨_, _, [], rfl, rfl, HLp.out⟩, HEn.out⟩
  obtain rfl : a = now := by simpa using hN
  clear hN
  by_cases h6 : rs.length = 6
  case pos =>
    have d6 : ((rs.length : Int) == 6) = true := beq_iff_eq.2 (by omega)
    have d7 : (rs.length : Int) = 6 := by omega
    have hw : (if ((true && (true && (true && (a == a)))) : Bool) = true then (if rs.length = 6 then (9 : Int) else 0) else 1) = 9 := by simp [h6]
    have HW9 : Hid ((if ((true && (true && (true && (a == a)))) : Bool) = true then (if rs.length = 6 then (9 : Int) else 0) else 1) = 9) := hw
    clear hw h6
    have hc : CC = 9 := by rw [HC.out]; exact HW9.out
    obtain ⟨b1, b2, b3⟩ := HBd.out 9 hc (by decide)
    subst hc b1 b2 b3
    go_wp2_with fail
    obtain ⟨K, HLo, HEd⟩ := la_put H6.out.rs (by omega) H6.out.bel (HZ.out y3) (.slice none 0 0) (.slice none 0 0) (.int .i64 0) (.int .i64 9)
    generalize ((((y3.setCell ⟨w.heap.size + 2, 0, none⟩ (.slice none 0 0)).setCell ⟨w.heap.size + 2, 1, none⟩ (.slice none 0 0)).setCell ⟨w.heap.size + 2, 2, none⟩ (.int .i64 0)).setCell ⟨w.heap.size + 2, 3, none⟩ (.int .i64 9)) = zz at *
    have HLp : Hid (LgO _ _ _ _ _ zz) := HLo
    have HEn : Hid (Below w.heap.size w zz) := HEd
    have k0 : zz.cell? ⟨w.heap.size + 2, 0, none⟩ = some (.slice none 0 0) := K.cell 0
    have k1 : zz.cell? ⟨w.heap.size + 2, 1, none⟩ = some (.slice none 0 0) := K.cell 1
    have k2 : zz.cell? ⟨w.heap.size + 2, 2, none⟩ = some (.int .i64 0) := K.cell 2
    have k3 : zz.cell? ⟨w.heap.size + 2, 3, none⟩ = some (.int .i64 9) := K.cell 3
    refine bodyPost_ret (v := .agg #[.slice none 0 0, .slice none 0 0, .int .i64 0, .int .i64 9]) (by simp [results, Tryz.results7, go_sem, k0, k1, k2, k3]) rfl ?_
    exact ⟨⟨_, _, [], rfl, rfl, HLp.out⟩, HEn.out⟩
  obtain ⟨hn6, hn64⟩ := HLn.out (by simp)
  have d6 : ((rs.length : Int) == 6) = false := beq_eq_false_iff_ne.2 (by omega)
  have d7 : ¬ (rs.length : Int) = 6 := by omega
  have hc : CC = 0 := by rw [HC.out]; simp [h6]
  obtain ⟨b1, b2, b3⟩ := HGd.out hc
  have b4 := b3.symm
  subst hc b1 b2 b4
  have hCp := HCp.out (by simp) y3 H6.out.bel
  clear HC HBd HGd
  go_wp2_with fail
  with_reducible refine hCp.mono ?_
  rintro e y4 ⟨v1, v2, xs, rfl, hx, ho, z4⟩
  obtain ⟨z1, zc, rfl, _⟩ := ho.rws.form
  obtain ⟨z2, zd, rfl, _, _⟩ := ownS_form ho.lvs
  have hxl : xs.length = rs.length := by rw [← hx, List.length_map]
  have HX : Hid (xs.map (·.1) = rs) := hx
  have Hxs : Hid (xs.length + 1 ≤ 1048576 ∧ lv.length + 1 ≤ 1048576) := ⟨by omega, by omega⟩
  have HC5 : Hid (LgC y3 y4.heap.size xs lv a (.slice z1 xs.length zc) (.slice z2 lv.length zd) (y4.alloc (.cells #[.slice z1 xs.length zc, .slice z2 lv.length zd, .int .i64 a] 26))) := ⟨Bxs.new _ _ _, ho.below (alB (Below.refl _ _) _), z4.size, alB z4 _⟩
  have HY3 : Hid (w.heap.size + 2 < y3.heap.size) := H6.out.rs.lt
  clear x0 x1 x2 x3 x4 x5 i0 i1 i2 i3 i4 i5 i6 i7 hCp hx ho z4 hxl hn6 hn64 d6 d7 h6
  go_upto_region 6 with fail
  generalize y4.heap.size = E at *
  generalize y4.alloc (.cells #[.slice z1 xs.length zc, .slice z2 lv.length zd, .int .i64 a] 26) = y5 at *
  have HRw : Hid (∀ x, Below y3.heap.size y3 x → Bxs x (w.heap.size + 1) 29 #[.string k, .int .i64 a, .slice rq fs.length rc] ∧ Below w.heap.size w x) := fun x hb => ⟨H6.out.rw.below hb, chainB H6.out.bel hb⟩
  have hCr := HCr.out (by simp)
  have HQr : Hid (∀ x, Below y3.heap.size y3 x → Calls Tryz.prog 61 #[.agg #[.string k, .int .i64 a, .slice rq fs.length rc]] x fun e w' => ∃ bb cc, e = .returned (.agg #[.string k, .int .i64 a, .slice (some ⟨bb, 0, none⟩) fs.length cc]) ∧ w'.ownsRow x.heap.size 103 5 (.slice (some ⟨bb, 0, none⟩) fs.length cc) fs.length (fldRow fs) ∧ Below x.heap.size x w') := fun x hb => hCr x (HRw.out x hb).2
  have hLf := HLf.out (by simp)
  have HQl : Hid (∀ x, Below y3.heap.size y3 x → Calls Tryz.prog 62 #[.agg #[.string k, .int .i64 a, .slice rq fs.length rc]] x fun e w' => e = .returned (.string LF) ∧ Below x.heap.size x w') := fun x hb => hLf x (HRw.out x hb).2
  clear hCr hLf HCr HLf
  have nF : some (w.heap.size + 1) ≠ (Value.slice z1 xs.length zc).ownBlock := fun e => by have := (HC5.out.lg.rws.lt.1 _ e.symm).1; have := HY3.out; omega
  have HNF : Hid (some (w.heap.size + 1) ≠ (Value.slice z1 xs.length zc).ownBlock) := nF
  have nF2 : some (w.heap.size + 1) ≠ (Value.slice z2 lv.length zd).ownBlock := fun e => by have := (HC5.out.lg.lvs.lt _ e.symm).1; have := HY3.out; omega
  have HNF2 : Hid (some (w.heap.size + 1) ≠ (Value.slice z2 lv.length zd).ownBlock) := nF2
  clear nF nF2
  have HCd := HC5.out.below (Below.refl _ _).drew
  refine region_till (fun w' => w'.cell? ⟨E, 0, none⟩ = some (.slice z1 xs.length zc) ∧ w'.cell? ⟨w.heap.size + 1, 0, none⟩ = some (.string k) ∧ w'.cell? ⟨w.heap.size + 1, 1, none⟩ = some (.int .i64 a) ∧ w'.cell? ⟨w.heap.size + 1, 2, none⟩ = some (.slice rq fs.length rc)) 7 (by kernel_rfl) ⟨HCd.cells.1, (HRw.out _ HCd.bel).1.cell 0, (HRw.out _ HCd.bel).1.cell 1, (HRw.out _ HCd.bel).1.cell 2⟩ (fun hHeld => ?_)
  generalize y5.drew = y0 at *
  refine till_take 0 (v := ?_) rfl (by kernel_rfl) (by kernel_rfl) (by kernel_rfl) (by kernel_rfl) (fun _ _ _ h => h) hHeld (Or.inl ⟨by rfl, ?_⟩) ?_
  rotate_left
  · (intro w hSw; (try dsimp only at hSw); go_simp; try with_reducible rfl)
  simp only [Act.put, List.setIfInBounds_toArray, List.set_cons_zero, List.set_cons_succ]
  refine till_take 1 (v := ?_) rfl (by kernel_rfl) (by kernel_rfl) (by kernel_rfl) (by kernel_rfl) (fun _ _ _ h => h) hHeld (Or.inl ⟨by rfl, ?_⟩) ?_
  rotate_left
  · (intro w hSw; (try dsimp only at hSw); go_simp; try with_reducible rfl)
  simp only [Act.put, List.setIfInBounds_toArray, List.set_cons_zero, List.set_cons_succ]
  refine till_take 2 (v := ?_) rfl (by kernel_rfl) (by kernel_rfl) (by kernel_rfl) (by kernel_rfl) (fun _ _ _ h => h) hHeld (Or.inl ⟨by rfl, ?_⟩) ?_
  rotate_left
  · (intro w hSw; (try dsimp only at hSw); go_simp; try with_reducible rfl)
  simp only [Act.put, List.setIfInBounds_toArray, List.set_cons_zero, List.set_cons_succ]
  refine till_ready 3 rfl (by kernel_rfl) (fun K hK => ?_)
  go_simp
  (go_at_call 61; refine (HQr.out _ HCd.bel).mono ?_; rintro e y1 ⟨bb, cc, rfl, own1, zz1⟩)
  have HC1 := HCd.below zz1
  refine hK.out _ _ ⟨HC1.cells.1, (HRw.out _ HC1.bel).1.cell 0, (HRw.out _ HC1.bel).1.cell 1, (HRw.out _ HC1.bel).1.cell 2⟩ (fun hHeld => ?_)
  clear hK K
  try simp only [Act.put, List.setIfInBounds_toArray, List.set_cons_zero, List.set_cons_succ]
  obtain ⟨q2, d2, y2, hrun, HC2, bl2, k20, k21, gr2⟩ := HCd.app zz1 ⟨k, a, fs⟩ (some ⟨bb, 0, none⟩) cc own1 Hxs.out.1
  have HCa := HC1.below (alB (Below.refl _ _) (.cells #[.string k, .int .i64 a, .slice (some ⟨bb, 0, none⟩) fs.length cc] 29))
  refine till_ready 4 rfl (by kernel_rfl) (fun K hK => ?_)
  go_simp
  refine hK.out _ _ ⟨HCa.cells.1, (HRw.out _ HCa.bel).1.cell 0, (HRw.out _ HCa.bel).1.cell 1, (HRw.out _ HCa.bel).1.cell 2⟩ (fun hHeld => ?_)
  clear hK K
  try simp only [Act.put, List.setIfInBounds_toArray, List.set_cons_zero, List.set_cons_succ]
  refine till_ready 5 rfl (by kernel_rfl) (fun K hK => ?_)
  refine step_append_run rfl _ _ 23 rfl (.slice z1 xs.length zc) (.slice (some ⟨y1.heap.size, 0, none⟩) 1 1) _ _ rfl rfl hrun ?_
  refine hK.out _ _ ⟨k20, ((HRw.out _ HCa.bel).1.grown gr2 HNF.out).cell 0, ((HRw.out _ HCa.bel).1.grown gr2 HNF.out).cell 1, ((HRw.out _ HCa.bel).1.grown gr2 HNF.out).cell 2⟩ (fun hHeld => ?_)
  clear hK K
  try simp only [Act.put, List.setIfInBounds_toArray, List.set_cons_zero, List.set_cons_succ]
  refine till_take 6 (v := ?_) rfl (by kernel_rfl) (by kernel_rfl) (by kernel_rfl) (by kernel_rfl) (fun _ _ _ h => h) hHeld (Or.inl ⟨by rfl, ?_⟩) ?_
  rotate_left
  · (intro w hSw; (try dsimp only at hSw); go_simp; try with_reducible rfl)
  simp only [Act.put, List.setIfInBounds_toArray, List.set_cons_zero, List.set_cons_succ]
  refine till_last rfl (by kernel_rfl) (by kernel_rfl) (fun K hK => ?_)
  go_simp
  refine hK.out _ _ ?_
  clear hK K hHeld
  have HC6 : Hid (LgC y3 E (xs ++ [(⟨k, a, fs⟩, .slice (some ⟨bb, 0, none⟩) fs.length cc)]) lv a (.slice q2 (xs.length + 1) d2) (.slice z2 lv.length zd) (y2.setCell ⟨E, 0, none⟩ (.slice q2 (xs.length + 1) d2))) := HC2
  clear HC2 hrun k20 k21 bl2 own1 zz1 HC1 HCd HCa gr2 HC5
  go_upto_region 7 with fail
  generalize y2.setCell ⟨E, 0, none⟩ (.slice q2 (xs.length + 1) d2) = y6 at *
  have HCd := HC6.out.below (Below.refl _ _).drew
  refine region_till (fun w' => w'.cell? ⟨E, 1, none⟩ = some (.slice z2 lv.length zd) ∧ w'.cell? ⟨w.heap.size + 1, 0, none⟩ = some (.string k) ∧ w'.cell? ⟨w.heap.size + 1, 1, none⟩ = some (.int .i64 a) ∧ w'.cell? ⟨w.heap.size + 1, 2, none⟩ = some (.slice rq fs.length rc)) 7 (by kernel_rfl) ⟨HCd.cells.2.1, (HRw.out _ HCd.bel).1.cell 0, (HRw.out _ HCd.bel).1.cell 1, (HRw.out _ HCd.bel).1.cell 2⟩ (fun hHeld => ?_)
  generalize y6.drew = y7 at *
  refine till_take 0 (v := ?_) rfl (by kernel_rfl) (by kernel_rfl) (by kernel_rfl) (by kernel_rfl) (fun _ _ _ h => h) hHeld (Or.inl ⟨by rfl, ?_⟩) ?_
  rotate_left
  · (intro w hSw; (try dsimp only at hSw); go_simp; try with_reducible rfl)
  simp only [Act.put, List.setIfInBounds_toArray, List.set_cons_zero, List.set_cons_succ]
  refine till_take 1 (v := ?_) rfl (by kernel_rfl) (by kernel_rfl) (by kernel_rfl) (by kernel_rfl) (fun _ _ _ h => h) hHeld (Or.inl ⟨by rfl, ?_⟩) ?_
  rotate_left
  · (intro w hSw; (try dsimp only at hSw); go_simp; try with_reducible rfl)
  simp only [Act.put, List.setIfInBounds_toArray, List.set_cons_zero, List.set_cons_succ]
  refine till_take 2 (v := ?_) rfl (by kernel_rfl) (by kernel_rfl) (by kernel_rfl) (by kernel_rfl) (fun _ _ _ h => h) hHeld (Or.inl ⟨by rfl, ?_⟩) ?_
  rotate_left
  · (intro w hSw; (try dsimp only at hSw); go_simp; try with_reducible rfl)
  simp only [Act.put, List.setIfInBounds_toArray, List.set_cons_zero, List.set_cons_succ]
  refine till_ready 3 rfl (by kernel_rfl) (fun K hK => ?_)
  go_simp
  (go_at_call 62; refine (HQl.out _ HCd.bel).mono ?_; rintro e y8 ⟨rfl, zz1⟩)
  have HC1 := HCd.below zz1
  refine hK.out _ _ ⟨HC1.cells.2.1, (HRw.out _ HC1.bel).1.cell 0, (HRw.out _ HC1.bel).1.cell 1, (HRw.out _ HC1.bel).1.cell 2⟩ (fun hHeld => ?_)
  clear hK K
  try simp only [Act.put, List.setIfInBounds_toArray, List.set_cons_zero, List.set_cons_succ]
  obtain ⟨gq, d3, y9, hrun, HC2, bl2, k20, k21, gr2⟩ := HC1.leaf LF Hxs.out.2
  have HCa := HC1.below (alB (Below.refl _ _) (.cells #[.string LF] 9))
  refine till_ready 4 rfl (by kernel_rfl) (fun K hK => ?_)
  go_simp
  refine hK.out _ _ ⟨HCa.cells.2.1, (HRw.out _ HCa.bel).1.cell 0, (HRw.out _ HCa.bel).1.cell 1, (HRw.out _ HCa.bel).1.cell 2⟩ (fun hHeld => ?_)
  clear hK K
  try simp only [Act.put, List.setIfInBounds_toArray, List.set_cons_zero, List.set_cons_succ]
  refine till_ready 5 rfl (by kernel_rfl) (fun K hK => ?_)
  refine step_append_run rfl _ _ 24 rfl (.slice z2 lv.length zd) (.slice (some ⟨y8.heap.size, 0, none⟩) 1 1) _ _ rfl rfl hrun ?_
  refine hK.out _ _ ⟨k20, ((HRw.out _ HCa.bel).1.grown gr2 HNF2.out).cell 0, ((HRw.out _ HCa.bel).1.grown gr2 HNF2.out).cell 1, ((HRw.out _ HCa.bel).1.grown gr2 HNF2.out).cell 2⟩ (fun hHeld => ?_)
  clear hK K
  try simp only [Act.put, List.setIfInBounds_toArray, List.set_cons_zero, List.set_cons_succ]
  refine till_take 6 (v := ?_) rfl (by kernel_rfl) (by kernel_rfl) (by kernel_rfl) (by kernel_rfl) (fun _ _ _ h => h) hHeld (Or.inl ⟨by rfl, ?_⟩) ?_
  rotate_left
  · (intro w hSw; (try dsimp only at hSw); go_simp; try with_reducible rfl)
  simp only [Act.put, List.setIfInBounds_toArray, List.set_cons_zero, List.set_cons_succ]
  refine till_last rfl (by kernel_rfl) (by kernel_rfl) (fun K hK => ?_)
  go_simp
  refine hK.out _ _ ?_
  clear hK K hHeld
  have HC8 : Hid (LgC y3 E (xs ++ [(⟨k, a, fs⟩, .slice (some ⟨bb, 0, none⟩) fs.length cc)]) (lv ++ [LF]) a (.slice q2 (xs.length + 1) d2) (.slice (some ⟨gq, 0, none⟩) (lv.length + 1) d3) (y9.setCell ⟨E, 1, none⟩ (.slice (some ⟨gq, 0, none⟩) (lv.length + 1) d3))) := HC2
  clear HC2 hrun k20 k21 bl2 zz1 HC1 HCd HCa gr2 HC6
  go_upto_region 8 with fail
  generalize y9.setCell ⟨E, 1, none⟩ (.slice (some ⟨gq, 0, none⟩) (lv.length + 1) d3) = yA at *
  obtain ⟨p0, p1, p2, g0, g1, g2⟩ := HC8.out.cells
  have HA8 : Hid (LaB w q rs.length cq p lv.length cp a k a rq fs.length rc yA) := ⟨H6.out.lg.below HC8.out.bel, H6.out.rw.below HC8.out.bel, H6.out.rs.below HC8.out.bel, chainB H6.out.bel HC8.out.bel⟩
  have HO8 : Hid (LgO w.heap.size (xs ++ [(⟨k, a, fs⟩, .slice (some ⟨bb, 0, none⟩) fs.length cc)]) (lv ++ [LF]) (.slice q2 (xs.length + 1) d2) (.slice (some ⟨gq, 0, none⟩) (lv.length + 1) d3) yA) := HC8.out.lg.lower (by have := HY3.out; omega)
  have HM8 : Hid ((xs ++ [((⟨k, a, fs⟩ : Rw), (Value.slice (some ⟨bb, 0, none⟩) fs.length cc))]).map (·.1) = rs ++ [⟨k, a, fs⟩]) := by show _ = _; rw [List.map_append, HX.out]; rfl
  obtain ⟨i0, i1, i2, i3, i4, i5, i6, i7⟩ := HA8.out.res
  clear HC8
  go_wp2_with fail
  obtain ⟨K, HLo, HEd⟩ := la_put HA8.out.rs (by omega) HA8.out.bel HO8.out (.slice q2 (xs.length + 1) d2) (.slice (some ⟨gq, 0, none⟩) (lv.length + 1) d3) (.int .i64 a) (.int .i64 0)
  generalize ((((yA.setCell ⟨w.heap.size + 2, 0, none⟩ (.slice q2 (xs.length + 1) d2)).setCell ⟨w.heap.size + 2, 1, none⟩ (.slice (some ⟨gq, 0, none⟩) (lv.length + 1) d3)).setCell ⟨w.heap.size + 2, 2, none⟩ (.int .i64 a)).setCell ⟨w.heap.size + 2, 3, none⟩ (.int .i64 0)) = zz at *
  have HLp : Hid (LgO _ _ _ _ _ zz) := HLo
  have HEn : Hid (Below w.heap.size w zz) := HEd
  have k0 : zz.cell? ⟨w.heap.size + 2, 0, none⟩ = some (.slice q2 (xs.length + 1) d2) := K.cell 0
  have k1 : zz.cell? ⟨w.heap.size + 2, 1, none⟩ = some (.slice (some ⟨gq, 0, none⟩) (lv.length + 1) d3) := K.cell 1
  have k2 : zz.cell? ⟨w.heap.size + 2, 2, none⟩ = some (.int .i64 a) := K.cell 2
  have k3 : zz.cell? ⟨w.heap.size + 2, 3, none⟩ = some (.int .i64 0) := K.cell 3
  refine bodyPost_ret (v := .agg #[.slice q2 (xs.length + 1) d2, .slice (some ⟨gq, 0, none⟩) (lv.length + 1) d3, .int .i64 a, .int .i64 0]) (by simp [results, Tryz.results7, go_sem, k0, k1, k2, k3]) rfl ?_
  exact ⟨⟨_, _, _, rfl, HM8.out, HLp.out⟩, HEn.out⟩
end Go.Proofs.YtepmoihgemhjcaaGreatDoor
/-
  The specification's small parts of SHA-256: a number of 32 bits turned right ('turnR x k'), the keys of the rounds and the first state, each in new memory.
  Conditions: the number is from 0 to 2^32 - 1, k from 0 to 32.
-/
namespace Go.Proofs.YtepmoihgemhjcaaGreatDoor
open Go.RowKit Go.Lib
set_option linter.unusedVariables false

set_option maxHeartbeats 400000 in
theorem specTurn_any (x : Int) (k : Nat) (w : World) (h0 : 0 ≤ x) (h1 : x ≤ 4294967295) (hk : k ≤ 32) :
    Calls Tryz.prog 208 #[.int .u32 x, .int .u64 k] w fun e w' => e = .returned (.int .u32 (turnR x k)) ∧ w' = w := by
  go_enter Tryz.func208, Tryz.ntmps208
  go_wp2
  go_ret
  exact ⟨rfl, rfl⟩

theorem specTurn_c (x c : Int) (w : World) (h0 : 0 ≤ x) (h1 : x ≤ 4294967295) (c0 : 0 ≤ c) (c1 : c ≤ 32) :
    Calls Tryz.prog 208 #[.int .u32 x, .int .u64 c] w fun e w' => e = .returned (.int .u32 (turnR x c.toNat)) ∧ w' = w := by
  obtain ⟨k, rfl⟩ : ∃ k : Nat, c = k := ⟨c.toNat, by omega⟩
  exact specTurn_any x k w h0 h1 (by omega)

set_option maxHeartbeats 1000000 in
set_option maxRecDepth 20000 in
theorem specStart_any (w : World) :
    Calls Tryz.prog 182 #[] w fun e w' => e = .returned (.slice (some ⟨w.heap.size, 0, none⟩) 8 8) ∧ w' = w.alloc (.cells (startN.map (Value.int .i64)).toArray 2) := by
  go_enter Tryz.func182, Tryz.ntmps182
  go_wp2
  go_ret
  exact ⟨rfl, rfl⟩

set_option maxHeartbeats 4000000 in
set_option maxRecDepth 20000 in
theorem specKeys_any (w : World) :
    Calls Tryz.prog 209 #[] w fun e w' => e = .returned (.slice (some ⟨w.heap.size, 0, none⟩) 64 64) ∧ w' = w.alloc (.cells (keysN.map (Value.int .u32)).toArray 135) := by
  go_enter Tryz.func209, Tryz.ntmps209
  go_wp2
  go_ret
  exact ⟨rfl, rfl⟩
end Go.Proofs.YtepmoihgemhjcaaGreatDoor
