/-
  Parts of one proof, laid as one text: LfI, SpecPl; what each says stands at its head.
-/
import Derived.Test.YtepmoihgemhjcaaGreatDoorRows
import Derived.Test.YtepmoihgemhjcaaGreatDoorBytesDigMath
import Derived.Test.YtepmoihgemhjcaaGreatDoorTreeMathSlABxKSlBOwnS
import Derived.Test.YtepmoihgemhjcaaGreatDoorLtMathLaMathLfMathTakesLStepAppBlNotTakes
import Derived.Test.YtepmoihgemhjcaaGreatDoorTimeBPutMathPutNumJoinedPutTextFldMath
import Derived.Test.YtepmoihgemhjcaaGreatDoorFldGSrcDrawsDrawKitAppSSomeDrawTreeScanMath
import Derived.Test.YtepmoihgemhjcaaGreatDoorGetValGetTxtNumMathFldRdNumFromTmbMathFldRiseLgMath
import Derived.Test.YtepmoihgemhjcaaGreatDoorLgAtKLgAnsLgRtShwKOneKFldBlkRwBlk
import Derived.Test.YtepmoihgemhjcaaGreatDoorRowOpsLgO
import Derived.Test.YtepmoihgemhjcaaGreatDoorLaSImplFg
import Derived.Test.YtepmoihgemhjcaaGreatDoorRdNumIGetNumIImplTbImplCb
import Derived.Test.YtepmoihgemhjcaaGreatDoorImplPlLfF
import Derived.Test.YtepmoihgemhjcaaGreatDoorLogRICopiedImplClLaB
import Derived.Test.YtepmoihgemhjcaaGreatDoorImplLg
import Derived.Handy
import Derived.WalkSpells
import Derived.OwnWalk
import Derived.Deep.RegionHeld3
import Derived.Deep.Cut
import Derived.Test.YtepmoihgemhjcaaGreatDoorSpecGNSpecGTFldNFldIsFldTbFldTr
import Derived.Test.YtepmoihgemhjcaaGreatDoorImplTrLeafK
import Derived.Test.YtepmoihgemhjcaaGreatDoorFldFFldLSpecTg
import Derived.Test.YtepmoihgemhjcaaGreatDoorSpecLr
/-
  What the program's LogForget answers: 'lfC' and the log, in new memory.
-/
namespace Go.Proofs.YtepmoihgemhjcaaGreatDoor
open Go.RowKit Go.Lib
set_option linter.unusedVariables false
set_option maxRecDepth 20000

set_option maxHeartbeats 8000000 in
theorem implLogForget_any (p : Option Addr) (lv : List ByteArray) (cp : Nat) (q : Option Addr) (rs : List Rw) (cq : Nat) (now r f y : Int) (w : World) (hT : Tabs w) (hg : Laid w) (hA : LgAt p lv cp q rs cq w) :
    Calls Tryz.prog 9 #[.agg #[.slice q rs.length cq, .slice p lv.length cp, .int .i64 now], .int .i64 r, .int .i64 f, .int .i64 y] w fun e w' => LgA w.heap.size (lfR rs lv now r f y) (lfL rs lv now r f y) (lfN rs lv now r f y) (lfC rs lv now r f y) e w' ∧ Below w.heap.size w w' := by
  obtain ⟨W2, hW2⟩ : ∃ W2, W2 = (w.alloc (.cells #[.slice q rs.length cq, .slice p lv.length cp, .int .i64 now] 26)).alloc (.cells #[.slice none 0 0, .slice none 0 0, .int .i64 0, .int .i64 0] 33) := ⟨_, rfl⟩
  have HW2 : Hid (W2 = (w.alloc (.cells #[.slice q rs.length cq, .slice p lv.length cp, .int .i64 now] 26)).alloc (.cells #[.slice none 0 0, .slice none 0 0, .int .i64 0, .int .i64 0] 33)) := hW2
  have H2 : Hid (LtB w q rs.length cq p lv.length cp now W2) := lt_boxes w q rs.length cq p lv.length cp now hW2
  have HIs : Hid (∀ x, Calls Tryz.prog 64 #[.int .i64 y] x fun e w' => e = .returned (.bool (decide (1 ≤ y ∧ y ≤ 2))) ∧ w' = x) := fun x => whyRight_any y x
  have HWo : Hid (∀ x, Calls Tryz.prog 65 #[.agg #[.slice q rs.length cq, .slice p lv.length cp, .int .i64 now]] x fun e w' => e = .returned (.agg #[.slice p lv.length cp, .slice q rs.length cq, .int .i64 now]) ∧ Below x.heap.size x w') := fun x => by
    have h := workOn_any p lv cp q rs cq now x
    unfold lgC wkC at h
    exact h
  have HFd : Hid (∀ x, Below w.heap.size w x → Calls Tryz.prog 66 #[.agg #[.slice p lv.length cp, .slice q rs.length cq, .int .i64 now], .int .i64 r, .int .i64 f] x fun e w' => e = .returned (.int .i64 (gcO rs lv now r f)) ∧ Below x.heap.size x w') := fun x hx => goneCode_any p lv cp q rs cq now r f x (hT.to hx) (hg.below hx) (hA.below hx)
  have HGc : Hid (gcO rs lv now r f = if lgB rs lv now = true then fcO rs r f else 1) := rfl
  have HCp : Hid (lgB rs lv now = true → ∀ x, Below w.heap.size w x → Calls Tryz.prog 60 #[.agg #[.slice q rs.length cq, .slice p lv.length cp, .int .i64 now]] x fun e w' => ∃ v1 v2 xs, e = .returned (.agg #[v1, v2, .int .i64 now]) ∧ xs.map (·.1) = rs ∧ LgO x.heap.size xs lv v1 v2 w' ∧ Below x.heap.size x w') := fun hl x hx => by
    obtain ⟨hr1, hr2, hr3⟩ := lg_right hl
    exact copiedLog_any p lv cp q rs cq now x (hA.below hx) hr3 (fun s hs => by have := lg_small hl s hs; omega)
  have HFg : Hid (∀ (I J : Nat) (hI : I < rs.length) (hJ : J < rs[I].fs.length), lgB rs lv now = true → rs[I].fs[J].g = false → ∀ x, Below w.heap.size w x → ∀ y q c, Below x.heap.size x y → FldAt y q rs[I].fs → rs[I].fs.length ≤ c → Calls Tryz.prog 67 #[.agg #[.string rs[I].k, .int .i64 rs[I].a, .slice q rs[I].fs.length c], .int .i64 J] y fun e w' => ∃ q' c', e = .returned (.agg #[.string rs[I].k, .int .i64 rs[I].a, .slice q' (rs[I].fs.set J (goneF rs[I].fs[J])).length c', .int .i64 0]) ∧ w'.ownsRow y.heap.size 103 5 (.slice q' (rs[I].fs.set J (goneF rs[I].fs[J])).length c') (rs[I].fs.set J (goneF rs[I].fs[J])).length (fldRow (rs[I].fs.set J (goneF rs[I].fs[J]))) ∧ Below y.heap.size y w') := fun I J hI hJ hl hg x hx yy qq c hb hF hc => by
    have hz := hA.rz _ (List.getElem_mem hI)
    have h := implForget_any rs[I].k rs[I].a qq c rs[I].fs J yy ((hT.to hx).to hb) hF hz.1 hc hz.2.1 hz.2.2
    obtain ⟨e1, e2, e3, e4⟩ := forget_post (k := rs[I].k) (a := rs[I].a) ((lg_right hl).2.2 _ (List.getElem_mem hI)) hJ hg
    rw [e1, e2, e3, e4] at h
    refine h.mono ?_
    rintro e w' ⟨v, rfl, own, b⟩
    obtain ⟨q', c', rfl, _, _⟩ := ownF_form own
    exact ⟨q', c', rfl, own, b⟩
  have HTx : Hid (∀ (I J : Nat) (hI : I < rs.length) (hJ : J < rs[I].fs.length), lgB rs lv now = true → (1 ≤ y ∧ y ≤ 2) → ∀ x, Calls Tryz.prog 68 #[.agg #[.int .i64 I, .int .i64 J, .int .i64 y, .int .i64 now]] x fun e w' => e = .returned (.string (tmRaw ⟨I, J, y, now⟩)) ∧ Below x.heap.size x w') := fun I J hI hJ hl hy x => by
    have h := implTombText_any ⟨I, J, y, now⟩ x
    rwa [show tmT ⟨I, J, y, now⟩ = tmRaw ⟨I, J, y, now⟩ from if_pos (lg_tomb hl hI hJ hy)] at h
  have HLn : Hid (lgB rs lv now = true → lv.length ≤ 64) := fun hl => (lg_right hl).2.1
  have HC : Hid (lfC rs lv now r f y = if (lgB rs lv now && decide (1 ≤ y ∧ y ≤ 2)) = true then fcO rs r f else 1) := rfl
  have HBd : Hid (∀ C, lfC rs lv now r f y = C → C ≠ 0 → lfR rs lv now r f y = [] ∧ lfL rs lv now r f y = [] ∧ lfN rs lv now r f y = 0) := fun C h hC => lf_bad h hC
  have HGd : Hid (lfC rs lv now r f y = 0 → lfR rs lv now r f y = rs.set r.toNat (fgt rs r f) ∧ lfL rs lv now r f y = lv ++ [tmRaw ⟨r, f, y, now⟩] ∧ lfN rs lv now r f y = now) := fun h => lf_good h
  have HZr : Hid (fcO rs r f = 0 → ∃ (I J : Nat) (hI : I < rs.length) (hJ : J < rs[I].fs.length), r = I ∧ f = J ∧ rs[I].fs[J].g = false) := fun h => fc_zero h
  have HCs : Hid (fcO rs r f = 0 ∨ fcO rs r f = 7 ∨ fcO rs r f = 6) := fcO_cases rs r f
  clear hW2 hA hT hg
  generalize lfC rs lv now r f y = CC at *
  generalize lfR rs lv now r f y = RR at *
  generalize lfL rs lv now r f y = LL at *
  generalize lfN rs lv now r f y = NN at *
  generalize gcO rs lv now r f = GC at *
  generalize fcO rs r f = FC at *
  generalize lgB rs lv now = A at *
  have HZ : Hid (∀ x, LgO w.heap.size [] [] (.slice none 0 0) (.slice none 0 0) x) := fun x => LgO.nil _ _
  obtain ⟨x0, x1, x2⟩ := H2.out.thr
  obtain ⟨i0, i1, i2, i3, i4, i5, i6, i7⟩ := H2.out.res
  go_enter Tryz.func9, Tryz.ntmps9
  go_upto_region 1 with fail
  rw [← HW2.out]
  have hIs := HIs.out W2
  by_cases hy : 1 ≤ y ∧ y ≤ 2
  case neg =>
    rw [decide_eq_false hy] at hIs HC
    go_wp2_with fail
    with_reducible refine hIs.mono ?_
    rintro e W2 ⟨rfl, rfl⟩
    have hc : CC = 1 := by rw [HC.out]; cases A <;> rfl
    obtain ⟨b1, b2, b3⟩ := HBd.out 1 hc (by decide)
    subst hc b1 b2 b3
    go_wp2_with fail
    obtain ⟨K, HLo, HEd⟩ := LtB.put (q := q) (n := 0) (cq := 0) (p := p) (m := 0) (cp := 0) (now := now) (y := w) H2.out.rs H2.out.bel (HZ.out W2) (.slice none 0 0) (.slice none 0 0) (.int .i64 0) (.int .i64 1)
    generalize ((((W2.setCell ⟨w.heap.size + 1, 0, none⟩ (.slice none 0 0)).setCell ⟨w.heap.size + 1, 1, none⟩ (.slice none 0 0)).setCell ⟨w.heap.size + 1, 2, none⟩ (.int .i64 0)).setCell ⟨w.heap.size + 1, 3, none⟩ (.int .i64 1)) = zz at *
    have HLp : Hid (LgO _ _ _ _ _ zz) := HLo
    have HEn : Hid (Below w.heap.size w zz) := HEd
    have k0 : zz.cell? ⟨w.heap.size + 1, 0, none⟩ = some (.slice none 0 0) := K.cell 0
    have k1 : zz.cell? ⟨w.heap.size + 1, 1, none⟩ = some (.slice none 0 0) := K.cell 1
    have k2 : zz.cell? ⟨w.heap.size + 1, 2, none⟩ = some (.int .i64 0) := K.cell 2
    have k3 : zz.cell? ⟨w.heap.size + 1, 3, none⟩ = some (.int .i64 1) := K.cell 3
    refine bodyPost_ret (v := .agg #[.slice none 0 0, .slice none 0 0, .int .i64 0, .int .i64 1]) (by simp [results, Tryz.results9, go_sem, k0, k1, k2, k3]) rfl ?_
    exact ⟨⟨_, _, [], rfl, rfl, HLp.out⟩, HEn.out⟩
  rw [decide_eq_true hy] at hIs HC
  have Hy : Hid (1 ≤ y ∧ y ≤ 2) := hy
  clear hy
  go_wp2_with fail
  with_reducible refine hIs.mono ?_
  rintro e W2 ⟨rfl, rfl⟩
  go_wp2_with fail
  with_reducible refine (HWo.out W2).mono ?_
  rintro e y1 ⟨rfl, z1⟩
  have H3 : Hid (LtB w q rs.length cq p lv.length cp now y1) := H2.out.below z1
  have hFd := HFd.out y1 H3.out.bel
  clear x0 x1 x2 i0 i1 i2 i3 i4 i5 i6 i7 z1 hIs H2
  obtain ⟨x0, x1, x2⟩ := H3.out.thr
  obtain ⟨i0, i1, i2, i3, i4, i5, i6, i7⟩ := H3.out.res
  go_wp2_with fail
  with_reducible refine hFd.mono ?_
  rintro e y2 ⟨rfl, z2⟩
  have H4 : Hid (LtB w q rs.length cq p lv.length cp now y2) := H3.out.below z2
  clear x0 x1 x2 i0 i1 i2 i3 i4 i5 i6 i7 z2 hFd H3
  obtain ⟨x0, x1, x2⟩ := H4.out.thr
  obtain ⟨i0, i1, i2, i3, i4, i5, i6, i7⟩ := H4.out.res
  cases A
  case false =>
    have hG : GC = 1 := by rw [HGc.out]; rfl
    subst hG
    have hc : CC = 1 := by rw [HC.out]; rfl
    obtain ⟨b1, b2, b3⟩ := HBd.out 1 hc (by decide)
    subst hc b1 b2 b3
    go_wp2_with fail
    obtain ⟨K, HLo, HEd⟩ := LtB.put (q := q) (n := 0) (cq := 0) (p := p) (m := 0) (cp := 0) (now := now) (y := w) H4.out.rs H4.out.bel (HZ.out y2) (.slice none 0 0) (.slice none 0 0) (.int .i64 0) (.int .i64 1)
    generalize ((((y2.setCell ⟨w.heap.size + 1, 0, none⟩ (.slice none 0 0)).setCell ⟨w.heap.size + 1, 1, none⟩ (.slice none 0 0)).setCell ⟨w.heap.size + 1, 2, none⟩ (.int .i64 0)).setCell ⟨w.heap.size + 1, 3, none⟩ (.int .i64 1)) = zz at *
    have HLp : Hid (LgO _ _ _ _ _ zz) := HLo
    have HEn : Hid (Below w.heap.size w zz) := HEd
    have k0 : zz.cell? ⟨w.heap.size + 1, 0, none⟩ = some (.slice none 0 0) := K.cell 0
    have k1 : zz.cell? ⟨w.heap.size + 1, 1, none⟩ = some (.slice none 0 0) := K.cell 1
    have k2 : zz.cell? ⟨w.heap.size + 1, 2, none⟩ = some (.int .i64 0) := K.cell 2
    have k3 : zz.cell? ⟨w.heap.size + 1, 3, none⟩ = some (.int .i64 1) := K.cell 3
    refine bodyPost_ret (v := .agg #[.slice none 0 0, .slice none 0 0, .int .i64 0, .int .i64 1]) (by simp [results, Tryz.results9, go_sem, k0, k1, k2, k3]) rfl ?_
    exact ⟨⟨_, _, [], rfl, rfl, HLp.out⟩, HEn.out⟩
  have hG : GC = FC := by rw [HGc.out]; rfl
  subst hG
  have HC2 : Hid (CC = GC) := HC.out
  clear HC
  rcases HCs.out with h0 | h0 | h0
  rotate_left
  · subst h0
    have hc : CC = 7 := by rw [HC2.out]
    obtain ⟨b1, b2, b3⟩ := HBd.out 7 hc (by decide)
    subst hc b1 b2 b3
    go_wp2_with fail
    obtain ⟨K, HLo, HEd⟩ := LtB.put (q := q) (n := 0) (cq := 0) (p := p) (m := 0) (cp := 0) (now := now) (y := w) H4.out.rs H4.out.bel (HZ.out y2) (.slice none 0 0) (.slice none 0 0) (.int .i64 0) (.int .i64 7)
    generalize ((((y2.setCell ⟨w.heap.size + 1, 0, none⟩ (.slice none 0 0)).setCell ⟨w.heap.size + 1, 1, none⟩ (.slice none 0 0)).setCell ⟨w.heap.size + 1, 2, none⟩ (.int .i64 0)).setCell ⟨w.heap.size + 1, 3, none⟩ (.int .i64 7)) = zz at *
    have HLp : Hid (LgO _ _ _ _ _ zz) := HLo
    have HEn : Hid (Below w.heap.size w zz) := HEd
    have k0 : zz.cell? ⟨w.heap.size + 1, 0, none⟩ = some (.slice none 0 0) := K.cell 0
    have k1 : zz.cell? ⟨w.heap.size + 1, 1, none⟩ = some (.slice none 0 0) := K.cell 1
    have k2 : zz.cell? ⟨w.heap.size + 1, 2, none⟩ = some (.int .i64 0) := K.cell 2
    have k3 : zz.cell? ⟨w.heap.size + 1, 3, none⟩ = some (.int .i64 7) := K.cell 3
    refine bodyPost_ret (v := .agg #[.slice none 0 0, .slice none 0 0, .int .i64 0, .int .i64 7]) (by simp [results, Tryz.results9, go_sem, k0, k1, k2, k3]) rfl ?_
    exact ⟨⟨_, _, [], rfl, rfl, HLp.out⟩, HEn.out⟩
  · subst h0
    have hc : CC = 6 := by rw [HC2.out]
    obtain ⟨b1, b2, b3⟩ := HBd.out 6 hc (by decide)
    subst hc b1 b2 b3
    go_wp2_with fail
    obtain ⟨K, HLo, HEd⟩ := LtB.put (q := q) (n := 0) (cq := 0) (p := p) (m := 0) (cp := 0) (now := now) (y := w) H4.out.rs H4.out.bel (HZ.out y2) (.slice none 0 0) (.slice none 0 0) (.int .i64 0) (.int .i64 6)
    generalize ((((y2.setCell ⟨w.heap.size + 1, 0, none⟩ (.slice none 0 0)).setCell ⟨w.heap.size + 1, 1, none⟩ (.slice none 0 0)).setCell ⟨w.heap.size + 1, 2, none⟩ (.int .i64 0)).setCell ⟨w.heap.size + 1, 3, none⟩ (.int .i64 6)) = zz at *
    have HLp : Hid (LgO _ _ _ _ _ zz) := HLo
    have HEn : Hid (Below w.heap.size w zz) := HEd
    have k0 : zz.cell? ⟨w.heap.size + 1, 0, none⟩ = some (.slice none 0 0) := K.cell 0
    have k1 : zz.cell? ⟨w.heap.size + 1, 1, none⟩ = some (.slice none 0 0) := K.cell 1
    have k2 : zz.cell? ⟨w.heap.size + 1, 2, none⟩ = some (.int .i64 0) := K.cell 2
    have k3 : zz.cell? ⟨w.heap.size + 1, 3, none⟩ = some (.int .i64 6) := K.cell 3
    refine bodyPost_ret (v := .agg #[.slice none 0 0, .slice none 0 0, .int .i64 0, .int .i64 6]) (by simp [results, Tryz.results9, go_sem, k0, k1, k2, k3]) rfl ?_
    exact ⟨⟨_, _, [], rfl, rfl, HLp.out⟩, HEn.out⟩
  subst h0
  obtain ⟨I, J, hI, hJ, rfl, rfl, hgn⟩ := HZr.out rfl
  obtain ⟨b1, b2, b3⟩ := HGd.out HC2.out
  have hc := HC2.out
  rw [Int.toNat_natCast, fgt_eq hI hJ] at b1
  have b4 := b3.symm
  subst hc b1 b2 b4
  have hCp := HCp.out (by simp) y2 H4.out.bel
  have HFg2 := HFg.out I J hI hJ (by simp) hgn y2 H4.out.bel
  have HTx2 := HTx.out I J hI hJ (by simp) Hy.out
  have HLv : Hid (lv.length + 1 ≤ 1048576) := by have := HLn.out (by simp); show _ ≤ _; omega
  generalize hTXe : tmRaw ⟨(I : Int), (J : Int), y, now⟩ = TX at *
  generalize hFSe : rs[I].fs.set J (goneF rs[I].fs[J]) = FS at *
  have HTXe : Hid (tmRaw ⟨(I : Int), (J : Int), y, now⟩ = TX) := hTXe
  have HFSe : Hid (rs[I].fs.set J (goneF rs[I].fs[J]) = FS) := hFSe
  clear hTXe hFSe
  have HFg3 : Hid (∀ x q c, Below y2.heap.size y2 x → FldAt x q rs[I].fs → rs[I].fs.length ≤ c → Calls Tryz.prog 67 #[.agg #[.string rs[I].k, .int .i64 rs[I].a, .slice q rs[I].fs.length c], .int .i64 J] x fun e w' => ∃ q' c', e = .returned (.agg #[.string rs[I].k, .int .i64 rs[I].a, .slice q' FS.length c', .int .i64 0]) ∧ w'.ownsRow x.heap.size 103 5 (.slice q' FS.length c') FS.length (fldRow FS) ∧ Below x.heap.size x w') := HFg2
  have HTx3 : Hid (∀ x, Calls Tryz.prog 68 #[.agg #[.int .i64 I, .int .i64 J, .int .i64 y, .int .i64 now]] x fun e w' => e = .returned (.string TX) ∧ Below x.heap.size x w') := HTx2
  have hI1 : (I : Int) < rs.length := by omega
  clear HBd HGd HFg HTx HFg2 HTx2 HC2 HCp HZr HCs HLn HFd HIs hgn
  go_wp2_with fail
  with_reducible refine hCp.mono ?_
  rintro e y4 ⟨v1, v2, xs, rfl, hx, ho, z4⟩
  have hxl : xs.length = rs.length := by rw [← hx, List.length_map]
  obtain ⟨g, c, rfl⟩ := ho.rws.some_of (by omega)
  obtain ⟨z2, zd, rfl, _, _⟩ := ownS_form ho.lvs
  have hIx : I < xs.length := by omega
  have hIi : (I : Int) < xs.length := by omega
  have hX : xs[I].1 = rs[I] := by
    have h1 := List.getElem_of_eq hx (i := I) (by simpa using hIx)
    rwa [List.getElem_map] at h1
  have HX : Hid (xs.map (·.1) = rs) := hx
  have HC5 : Hid (LgC y2 y4.heap.size xs lv now (.slice (some ⟨g, 0, none⟩) xs.length c) (.slice z2 lv.length zd) (y4.alloc (.cells #[.slice (some ⟨g, 0, none⟩) xs.length c, .slice z2 lv.length zd, .int .i64 now] 26))) := ⟨Bxs.new _ _ _, ho.below (alB (Below.refl _ _) _), z4.size, alB z4 _⟩
  have HY2 : Hid (w.heap.size + 1 < y2.heap.size) := H4.out.rs.lt
  clear x0 x1 x2 i0 i1 i2 i3 i4 i5 i6 i7 hCp hx ho z4 hxl
  go_upto_region 7 with fail
  generalize y4.heap.size = E at *
  generalize y4.alloc (.cells #[.slice (some ⟨g, 0, none⟩) xs.length c, .slice z2 lv.length zd, .int .i64 now] 26) = y5 at *
  have HC : Hid (LgC y2 E xs lv now (.slice (some ⟨g, 0, none⟩) xs.length c) (.slice z2 lv.length zd) y5) := HC5.out
  have Hlv : Hid (lv.length + 1 ≤ 1048576) := HLv.out
  obtain ⟨q0, c0, hv, hc0⟩ := HC.out.rowv I hIx
  have hI := hIx
  generalize hXr : rs[I] = X at *
  rw [hX] at hv hc0
  have HFg : Hid (∀ x q c, Below y2.heap.size y2 x → FldAt x q X.fs → X.fs.length ≤ c → Calls Tryz.prog 67 #[.agg #[.string X.k, .int .i64 X.a, .slice q X.fs.length c], .int .i64 J] x fun e w' => ∃ q' c', e = .returned (.agg #[.string X.k, .int .i64 X.a, .slice q' FS.length c', .int .i64 0]) ∧ w'.ownsRow x.heap.size 103 5 (.slice q' FS.length c') FS.length (fldRow FS) ∧ Below x.heap.size x w') := HFg3.out
  have HTx : Hid (∀ x, Calls Tryz.prog 68 #[.agg #[.int .i64 I, .int .i64 J, .int .i64 y, .int .i64 now]] x fun e w' => e = .returned (.string TX) ∧ Below x.heap.size x w') := HTx3.out
  have HXr : Hid (rs[I] = X) := hXr
  clear HFg3 HTx3 HC5 HLv hXr
  have HCd := HC.out.below (Below.refl _ _).drew
  have hFg := HFg.out y5.drew q0 c0 HCd.bel (HCd.row I hI hX hv).2.2.2.2 hc0
  refine region_till (fun w' => w'.cell? ⟨E, 0, none⟩ = some (.slice (some ⟨g, 0, none⟩) xs.length c) ∧ w'.cell? ⟨g, I * 3, none⟩ = some (.string X.k) ∧ w'.cell? ⟨g, I * 3 + 1, none⟩ = some (.int .i64 X.a) ∧ w'.cell? ⟨g, I * 3 + 2, none⟩ = some (.slice q0 X.fs.length c0)) 12 (by kernel_rfl) ⟨HCd.cells.1, (HCd.row I hI hX hv).1⟩ (fun hHeld => ?_)
  generalize y5.drew = y0 at *
  refine till_take 0 (v := ?_) rfl (by kernel_rfl) (by kernel_rfl) (by kernel_rfl) (by kernel_rfl) (fun _ _ _ h => h) hHeld (Or.inl ⟨by rfl, ?_⟩) ?_
  rotate_left
  · (intro w hSw; (try dsimp only at hSw); go_simp; try with_reducible rfl)
  simp only [Act.put, List.setIfInBounds_toArray, List.set_cons_zero, List.set_cons_succ]
  refine till_take 1 (v := ?_) rfl (by kernel_rfl) (by kernel_rfl) (by kernel_rfl) (by kernel_rfl) (fun _ _ _ h => h) hHeld (Or.inl ⟨by rfl, ?_⟩) ?_
  rotate_left
  · (intro w hSw; (try dsimp only at hSw); go_simp; try with_reducible rfl)
  simp only [Act.put, List.setIfInBounds_toArray, List.set_cons_zero, List.set_cons_succ]
  refine till_take 2 (v := ?_) rfl (by kernel_rfl) (by kernel_rfl) (by kernel_rfl) (by kernel_rfl) (fun _ _ _ h => h) hHeld (Or.inl ⟨by rfl, ?_⟩) ?_
  rotate_left
  · (intro w hSw; (try dsimp only at hSw); go_simp; try with_reducible rfl)
  simp only [Act.put, List.setIfInBounds_toArray, List.set_cons_zero, List.set_cons_succ]
  refine till_take 3 (v := ?_) rfl (by kernel_rfl) (by kernel_rfl) (by kernel_rfl) (by kernel_rfl) (fun _ _ _ h => h) hHeld (Or.inl ⟨by rfl, ?_⟩) ?_
  rotate_left
  · (intro w hSw; (try dsimp only at hSw); go_simp; try with_reducible rfl)
  simp only [Act.put, List.setIfInBounds_toArray, List.set_cons_zero, List.set_cons_succ]
  refine till_take 4 (v := ?_) rfl (by kernel_rfl) (by kernel_rfl) (by kernel_rfl) (by kernel_rfl) (fun _ _ _ h => h) hHeld (Or.inl ⟨by rfl, ?_⟩) ?_
  rotate_left
  · (intro w hSw; (try dsimp only at hSw); go_simp; try with_reducible rfl)
  simp only [Act.put, List.setIfInBounds_toArray, List.set_cons_zero, List.set_cons_succ]
  refine till_take 5 (v := ?_) rfl (by kernel_rfl) (by kernel_rfl) (by kernel_rfl) (by kernel_rfl) (fun _ _ _ h => h) hHeld (Or.inl ⟨by rfl, ?_⟩) ?_
  rotate_left
  · (intro w hSw; (try dsimp only at hSw); go_simp; try with_reducible rfl)
  simp only [Act.put, List.setIfInBounds_toArray, List.set_cons_zero, List.set_cons_succ]
  refine till_take 6 (v := ?_) rfl (by kernel_rfl) (by kernel_rfl) (by kernel_rfl) (by kernel_rfl) (fun _ _ _ h => h) hHeld (Or.inl ⟨by rfl, ?_⟩) ?_
  rotate_left
  · (intro w hSw; (try dsimp only at hSw); go_simp; try with_reducible rfl)
  simp only [Act.put, List.setIfInBounds_toArray, List.set_cons_zero, List.set_cons_succ]
  refine till_take 7 (v := ?_) rfl (by kernel_rfl) (by kernel_rfl) (by kernel_rfl) (by kernel_rfl) (fun _ _ _ h => h) hHeld (Or.inl ⟨by rfl, ?_⟩) ?_
  rotate_left
  · (intro w hSw; (try dsimp only at hSw); go_simp; try with_reducible rfl)
  simp only [Act.put, List.setIfInBounds_toArray, List.set_cons_zero, List.set_cons_succ]
  refine till_take 8 (v := ?_) rfl (by kernel_rfl) (by kernel_rfl) (by kernel_rfl) (by kernel_rfl) (fun _ _ _ h => h) hHeld (Or.inl ⟨by rfl, ?_⟩) ?_
  rotate_left
  · (intro w hSw; (try dsimp only at hSw); go_simp; try with_reducible rfl)
  simp only [Act.put, List.setIfInBounds_toArray, List.set_cons_zero, List.set_cons_succ]
  refine till_ready 9 rfl (by kernel_rfl) (fun K hK => ?_)
  go_simp
  (go_at_call 67; refine hFg.mono ?_; rintro e y1 ⟨q1, c1, rfl, own1, zz1⟩)
  have HC1 := HCd.below zz1
  refine hK.out _ _ ⟨HC1.cells.1, (HC1.row I hI hX hv).1⟩ (fun hHeld => ?_)
  clear hK K
  try simp only [Act.put, List.setIfInBounds_toArray, List.set_cons_zero, List.set_cons_succ]
  have fdR := field_row q1 X.k X.a FS.length c1
  refine till_take 10 (v := ?_) rfl (by kernel_rfl) (by kernel_rfl) (by kernel_rfl) (by kernel_rfl) (fun _ _ _ h => h) hHeld (Or.inl ⟨by rfl, ?_⟩) ?_
  rotate_left
  · (intro w hSw; (try dsimp only at hSw); have fdw := fdR w; go_simp; try with_reducible rfl)
  simp only [Act.put, List.setIfInBounds_toArray, List.set_cons_zero, List.set_cons_succ]
  refine till_take 11 (v := ?_) rfl (by kernel_rfl) (by kernel_rfl) (by kernel_rfl) (by kernel_rfl) (fun _ _ _ h => h) hHeld (Or.inl ⟨by rfl, ?_⟩) ?_
  rotate_left
  · (intro w hSw; (try dsimp only at hSw); go_simp; try with_reducible rfl)
  simp only [Act.put, List.setIfInBounds_toArray, List.set_cons_zero, List.set_cons_succ]
  obtain ⟨-, fz0, fz1, fz2, -⟩ := HC1.row I hI hX hv
  obtain ⟨cz, cz0, cz1, cz2⟩ := hHeld
  refine till_last rfl (by kernel_rfl) (by kernel_rfl) (fun K hK => ?_)
  go_simp
  refine hK.out _ _ ?_
  clear hK K cz cz0 cz1 cz2 fz0 fz1 fz2
  have HC6 : Hid (LgC y2 E (xs.set I (⟨X.k, X.a, FS⟩, .slice q1 FS.length c1)) lv now (.slice (some ⟨g, 0, none⟩) xs.length c) (.slice z2 lv.length zd) (((y1.setCell ⟨g, I * 3, none⟩ (.string X.k)).setCell ⟨g, I * 3 + 1, none⟩ (.int .i64 X.a)).setCell ⟨g, I * 3 + 2, none⟩ (.slice q1 FS.length c1))) := HCd.setRow zz1 I hI ⟨X.k, X.a, FS⟩ q1 c1 own1
  clear own1 zz1 HC1 HCd hFg fdR
  go_upto_region 8 with fail
  generalize ((y1.setCell ⟨g, I * 3, none⟩ (.string X.k)).setCell ⟨g, I * 3 + 1, none⟩ (.int .i64 X.a)).setCell ⟨g, I * 3 + 2, none⟩ (.slice q1 FS.length c1) = y6 at *
  have HLg : Hid (∀ x, Below y2.heap.size y2 x → x.cell? ⟨w.heap.size, 2, none⟩ = some (.int .i64 now)) := fun x hb => (H4.out.lg.below hb).cell 2
  have HCd := HC6.out.below (Below.refl _ _).drew
  have hTx := HTx.out y6.drew
  refine region_till (fun w' => w'.cell? ⟨E, 1, none⟩ = some (.slice z2 lv.length zd) ∧ w'.cell? ⟨w.heap.size, 2, none⟩ = some (.int .i64 now)) 12 (by kernel_rfl) ⟨HCd.cells.2.1, HLg.out _ HCd.bel⟩ (fun hHeld => ?_)
  generalize y6.drew = y7 at *
  refine till_take 0 (v := ?_) rfl (by kernel_rfl) (by kernel_rfl) (by kernel_rfl) (by kernel_rfl) (fun _ _ _ h => h) hHeld (Or.inl ⟨by rfl, ?_⟩) ?_
  rotate_left
  · (intro w hSw; (try dsimp only at hSw); go_simp; try with_reducible rfl)
  simp only [Act.put, List.setIfInBounds_toArray, List.set_cons_zero, List.set_cons_succ]
  refine till_take 1 (v := ?_) rfl (by kernel_rfl) (by kernel_rfl) (by kernel_rfl) (by kernel_rfl) (fun _ _ _ h => h) hHeld (Or.inl ⟨by rfl, ?_⟩) ?_
  rotate_left
  · (intro w hSw; (try dsimp only at hSw); go_simp; try with_reducible rfl)
  simp only [Act.put, List.setIfInBounds_toArray, List.set_cons_zero, List.set_cons_succ]
  refine till_take 2 (v := ?_) rfl (by kernel_rfl) (by kernel_rfl) (by kernel_rfl) (by kernel_rfl) (fun _ _ _ h => h) hHeld (Or.inl ⟨by rfl, ?_⟩) ?_
  rotate_left
  · (intro w hSw; (try dsimp only at hSw); go_simp; try with_reducible rfl)
  simp only [Act.put, List.setIfInBounds_toArray, List.set_cons_zero, List.set_cons_succ]
  refine till_take 3 (v := ?_) rfl (by kernel_rfl) (by kernel_rfl) (by kernel_rfl) (by kernel_rfl) (fun _ _ _ h => h) hHeld (Or.inl ⟨by rfl, ?_⟩) ?_
  rotate_left
  · (intro w hSw; (try dsimp only at hSw); go_simp; try with_reducible rfl)
  simp only [Act.put, List.setIfInBounds_toArray, List.set_cons_zero, List.set_cons_succ]
  refine till_take 4 (v := ?_) rfl (by kernel_rfl) (by kernel_rfl) (by kernel_rfl) (by kernel_rfl) (fun _ _ _ h => h) hHeld (Or.inl ⟨by rfl, ?_⟩) ?_
  rotate_left
  · (intro w hSw; (try dsimp only at hSw); go_simp; try with_reducible rfl)
  simp only [Act.put, List.setIfInBounds_toArray, List.set_cons_zero, List.set_cons_succ]
  refine till_take 5 (v := ?_) rfl (by kernel_rfl) (by kernel_rfl) (by kernel_rfl) (by kernel_rfl) (fun _ _ _ h => h) hHeld (Or.inl ⟨by rfl, ?_⟩) ?_
  rotate_left
  · (intro w hSw; (try dsimp only at hSw); go_simp; try with_reducible rfl)
  simp only [Act.put, List.setIfInBounds_toArray, List.set_cons_zero, List.set_cons_succ]
  refine till_take 6 (v := ?_) rfl (by kernel_rfl) (by kernel_rfl) (by kernel_rfl) (by kernel_rfl) (fun _ _ _ h => h) hHeld (Or.inl ⟨by rfl, ?_⟩) ?_
  rotate_left
  · (intro w hSw; (try dsimp only at hSw); go_simp; try with_reducible rfl)
  simp only [Act.put, List.setIfInBounds_toArray, List.set_cons_zero, List.set_cons_succ]
  refine till_take 7 (v := ?_) rfl (by kernel_rfl) (by kernel_rfl) (by kernel_rfl) (by kernel_rfl) (fun _ _ _ h => h) hHeld (Or.inl ⟨by rfl, ?_⟩) ?_
  rotate_left
  · (intro w hSw; (try dsimp only at hSw); go_simp; try with_reducible rfl)
  simp only [Act.put, List.setIfInBounds_toArray, List.set_cons_zero, List.set_cons_succ]
  refine till_ready 8 rfl (by kernel_rfl) (fun K hK => ?_)
  go_simp
  (go_at_call 68; refine hTx.mono ?_; rintro e y8 ⟨rfl, zz1⟩)
  have HC1 := HCd.below zz1
  refine hK.out _ _ ⟨HC1.cells.2.1, HLg.out _ HC1.bel⟩ (fun hHeld => ?_)
  clear hK K
  try simp only [Act.put, List.setIfInBounds_toArray, List.set_cons_zero, List.set_cons_succ]
  obtain ⟨gq, d3, y9, hrun, HC2, bl2, k20, k21, gr2⟩ := HC1.leaf TX Hlv.out
  have HCa := HC1.below (alB (Below.refl _ _) (.cells #[.string TX] 9))
  refine till_ready 9 rfl (by kernel_rfl) (fun K hK => ?_)
  go_simp
  refine hK.out _ _ ⟨HCa.cells.2.1, HLg.out _ HCa.bel⟩ (fun hHeld => ?_)
  clear hK K
  try simp only [Act.put, List.setIfInBounds_toArray, List.set_cons_zero, List.set_cons_succ]
  refine till_ready 10 rfl (by kernel_rfl) (fun K hK => ?_)
  refine step_append_run rfl _ _ 24 rfl (.slice z2 lv.length zd) (.slice (some ⟨y8.heap.size, 0, none⟩) 1 1) _ _ rfl rfl hrun ?_
  refine hK.out _ _ ⟨k20, HLg.out _ bl2⟩ (fun hHeld => ?_)
  clear hK K
  try simp only [Act.put, List.setIfInBounds_toArray, List.set_cons_zero, List.set_cons_succ]
  refine till_take 11 (v := ?_) rfl (by kernel_rfl) (by kernel_rfl) (by kernel_rfl) (by kernel_rfl) (fun _ _ _ h => h) hHeld (Or.inl ⟨by rfl, ?_⟩) ?_
  rotate_left
  · (intro w hSw; (try dsimp only at hSw); go_simp; try with_reducible rfl)
  simp only [Act.put, List.setIfInBounds_toArray, List.set_cons_zero, List.set_cons_succ]
  refine till_last rfl (by kernel_rfl) (by kernel_rfl) (fun K hK => ?_)
  go_simp
  refine hK.out _ _ ?_
  clear hK K hHeld
  have HC8 : Hid (LgC y2 E (xs.set I (⟨X.k, X.a, FS⟩, .slice q1 FS.length c1)) (lv ++ [TX]) now (.slice (some ⟨g, 0, none⟩) xs.length c) (.slice (some ⟨gq, 0, none⟩) (lv.length + 1) d3) (y9.setCell ⟨E, 1, none⟩ (.slice (some ⟨gq, 0, none⟩) (lv.length + 1) d3))) := HC2
  clear HC2 hrun k20 k21 bl2 zz1 HC1 HCd HCa gr2 HC6 HLg
  go_upto_region 9 with fail
  generalize y9.setCell ⟨E, 1, none⟩ (.slice (some ⟨gq, 0, none⟩) (lv.length + 1) d3) = yA at *
  have HM8 : Hid ((xs.set I (⟨X.k, X.a, FS⟩, .slice q1 FS.length c1)).map (·.1) = rs.set I ⟨X.k, X.a, FS⟩) := by show _ = _; rw [set_fst, HX.out]
  obtain ⟨p0, p1, p2, g0, g1, g2⟩ := HC8.out.cells
  have HA8 : Hid (LtB w q rs.length cq p lv.length cp now yA) := ⟨H4.out.lg.below HC8.out.bel, H4.out.rs.below HC8.out.bel, chainB H4.out.bel HC8.out.bel⟩
  have HO8 : Hid (LgO w.heap.size (xs.set I (⟨X.k, X.a, FS⟩, .slice q1 FS.length c1)) (lv ++ [TX]) (.slice (some ⟨g, 0, none⟩) xs.length c) (.slice (some ⟨gq, 0, none⟩) (lv.length + 1) d3) yA) := HC8.out.lg.lower (by have := HY2.out; omega)
  obtain ⟨i0, i1, i2, i3, i4, i5, i6, i7⟩ := HA8.out.res
  clear HC8 HC
  go_wp2_with fail
  obtain ⟨K, HLo, HEd⟩ := LtB.put (q := q) (n := 0) (cq := 0) (p := p) (m := 0) (cp := 0) (now := now) (y := w) HA8.out.rs HA8.out.bel HO8.out (.slice (some ⟨g, 0, none⟩) xs.length c) (.slice (some ⟨gq, 0, none⟩) (lv.length + 1) d3) (.int .i64 now) (.int .i64 0)
  generalize ((((yA.setCell ⟨w.heap.size + 1, 0, none⟩ (.slice (some ⟨g, 0, none⟩) xs.length c)).setCell ⟨w.heap.size + 1, 1, none⟩ (.slice (some ⟨gq, 0, none⟩) (lv.length + 1) d3)).setCell ⟨w.heap.size + 1, 2, none⟩ (.int .i64 now)).setCell ⟨w.heap.size + 1, 3, none⟩ (.int .i64 0)) = zz at *
  have HLp : Hid (LgO _ _ _ _ _ zz) := HLo
  have HEn : Hid (Below w.heap.size w zz) := HEd
  have k0 : zz.cell? ⟨w.heap.size + 1, 0, none⟩ = some (.slice (some ⟨g, 0, none⟩) xs.length c) := K.cell 0
  have k1 : zz.cell? ⟨w.heap.size + 1, 1, none⟩ = some (.slice (some ⟨gq, 0, none⟩) (lv.length + 1) d3) := K.cell 1
  have k2 : zz.cell? ⟨w.heap.size + 1, 2, none⟩ = some (.int .i64 now) := K.cell 2
  have k3 : zz.cell? ⟨w.heap.size + 1, 3, none⟩ = some (.int .i64 0) := K.cell 3
  refine bodyPost_ret (v := .agg #[.slice (some ⟨g, 0, none⟩) xs.length c, .slice (some ⟨gq, 0, none⟩) (lv.length + 1) d3, .int .i64 now, .int .i64 0]) (by simp [results, Tryz.results9, go_sem, k0, k1, k2, k3]) rfl ?_
  rw [HTXe.out, HFSe.out]
  exact ⟨⟨_, _, _, rfl, HM8.out, HLp.out⟩, HEn.out⟩
end Go.Proofs.YtepmoihgemhjcaaGreatDoor
/-
  PlaceOf, TombOf and StatusOf, as the specification answers.
  Conditions: the cells hold the rows and leaves.
-/
namespace Go.Proofs.YtepmoihgemhjcaaGreatDoor
open Go.RowKit Go.Lib
set_option linter.unusedVariables false
set_option maxRecDepth 20000

theorem pl_next (lv : List ByteArray) (r : Int) (n i : Nat) (h : i < lv.length) : plFrom r n i (lv.drop i) = if (lkB lv[i] == 1) = true then (if ((n : Int) == r) = true then (i : Int) else plFrom r (n + 1) (i + 1) (lv.drop (i + 1))) else plFrom r n (i + 1) (lv.drop (i + 1)) := by
  rw [List.drop_eq_getElem_cons h, plFrom]
  have e : isRl lv[i] = (lkB lv[i] == 1) := by rw [Bool.eq_iff_iff, beq_iff_eq]; exact (lk_iff1 _).symm
  rw [e]
  simp only [beq_iff_eq]
set_option maxHeartbeats 4000000 in
theorem l09Place_any (p : Option Addr) (lv : List ByteArray) (cp : Nat) (q : Option Addr) (rs : List Rw) (cq : Nat) (now r : Int) (w : World) (hL : TxtAt w p lv) (hl : lv.length ≤ 1048576) (hc : lv.length ≤ cp) (hz : TxtsLe lv) :
    Calls Tryz.prog 85 #[.agg #[.slice q rs.length cq, .slice p lv.length cp, .int .i64 now], .int .i64 r] w fun e w' => e = .returned (.int .i64 (plB lv r)) ∧ Below w.heap.size w w' := by
  obtain ⟨W1, hW1⟩ : ∃ W1, W1 = w.alloc (.cells #[.slice q rs.length cq, .slice p lv.length cp, .int .i64 now] 26) := ⟨_, rfl⟩
  have HW1 : Hid (W1 = w.alloc (.cells #[.slice q rs.length cq, .slice p lv.length cp, .int .i64 now] 26)) := hW1
  have B1 : Hid (Below w.heap.size w W1) := by rw [hW1]; exact (Below.refl _ _).alloc (Nat.le_refl _) _
  have K1 : Hid (Bxs W1 w.heap.size 26 #[.slice q rs.length cq, .slice p lv.length cp, .int .i64 now]) := by rw [hW1]; exact Bxs.new _ _ _
  have HL : Hid (TxtAt W1 p lv) := hL.below B1.out
  have HZ : Hid (TxtsLe lv) := hz
  clear hW1 hL hz
  go_enter Tryz.func85, Tryz.ntmps85
  go_wp2_with fail
  rw [← HW1.out]
  clear HW1
  go_loopw [6, 5] (fun ii nn wr => ∃ i n : Nat, i ≤ lv.length ∧ n ≤ i ∧ ii = .int .i64 i ∧ nn = .int .i64 n ∧ Hid (Below W1.heap.size W1 wr) ∧ Hid (plB lv r = plFrom r n i (lv.drop i))) (fun ii _ _ => lv.length - (Go.RowKit.intOf ii).toNat)
  case atStart => exact ⟨0, 0, Nat.zero_le _, Nat.le_refl _, rfl, rfl, Below.refl _ _, rfl⟩
  case round =>
    obtain ⟨i, n, hi, hni, rfl, rfl, HB, HV⟩ := hrel
    have x1 := (K1.out.below HB.out).cell 1
    by_cases hlt : i < lv.length
    · have i1 : (i : Int) < lv.length := by omega
      obtain ⟨b, off, rfl, hb0, c0⟩ := (HL.out.below HB.out) i hlt
      have hK := specLeafKind_any lv[i] wr (HZ.out _ (List.getElem_mem hlt))
      have HS : Hid (plB lv r = _) := HV.out.trans (pl_next lv r n i hlt)
      clear HV hb0
      generalize lv[i] = t at *
      generalize lkB t = C at *
      cases hC : (C == 1) with
      | false =>
        have hC' : (C != 1) = true := by rw [bne, hC]; rfl
        rw [hC, if_neg Bool.false_ne_true] at HS
        go_wp2_with fail
        refine hK.mono ?_
        rintro e y ⟨rfl, by_⟩
        have HB2 : Hid (Below W1.heap.size W1 y) := chainB HB.out by_
        clear hK x1 c0
        go_wp2_with fail
        go_roundw
        case rel => exact ⟨i + 1, n, by omega, by omega, by simp, rfl, HB2.out, HS.out⟩
        case measure => simp [Go.RowKit.intOf]; omega
      | true =>
        have hC' : (C != 1) = false := by rw [bne, hC]; rfl
        rw [hC, if_pos rfl] at HS
        cases hr : ((n : Int) == r) with
        | true =>
          rw [hr, if_pos rfl] at HS
          go_wp2_with fail
          refine hK.mono ?_
          rintro e y ⟨rfl, by_⟩
          clear hK x1 c0
          go_wp2_with fail
          go_ret
          exact ⟨by rw [HS.out]; rfl, chainB (chainB B1.out HB.out) by_⟩
        | false =>
          rw [hr, if_neg Bool.false_ne_true] at HS
          go_wp2_with fail
          refine hK.mono ?_
          rintro e y ⟨rfl, by_⟩
          have HB2 : Hid (Below W1.heap.size W1 y) := chainB HB.out by_
          clear hK x1 c0
          go_wp2_with fail
          go_roundw
          case rel => exact ⟨i + 1, n + 1, by omega, by omega, by simp, by simp, HB2.out, HS.out⟩
          case measure => simp [Go.RowKit.intOf]; omega
    · obtain rfl : i = lv.length := by omega
      have HE : Hid (plB lv r = -1) := by show _ = _; rw [HV.out, List.drop_length]; rfl
      clear HV
      go_wp2_with fail
      go_ret
      exact ⟨by rw [HE.out]; rfl, chainB B1.out HB.out⟩
set_option maxHeartbeats 2000000 in
theorem specPlaceOf_any (p : Option Addr) (lv : List ByteArray) (cp : Nat) (q : Option Addr) (rs : List Rw) (cq : Nat) (now r : Int) (w : World) (hA : LgAt p lv cp q rs cq w) :
    Calls Tryz.prog 20 #[.agg #[.slice q rs.length cq, .slice p lv.length cp, .int .i64 now], .int .i64 r] w fun e w' => e = .returned (.int .i64 (plO rs lv now r)) ∧ Below w.heap.size w w' := by
  obtain ⟨W1, hW1⟩ : ∃ W1, W1 = w.alloc (.cells #[.slice q rs.length cq, .slice p lv.length cp, .int .i64 now] 26) := ⟨_, rfl⟩
  have HW1 : Hid (W1 = w.alloc (.cells #[.slice q rs.length cq, .slice p lv.length cp, .int .i64 now] 26)) := hW1
  have B1 : Hid (Below w.heap.size w W1) := by rw [hW1]; exact (Below.refl _ _).alloc (Nat.le_refl _) _
  have K1 : Hid (Bxs W1 w.heap.size 26 #[.slice q rs.length cq, .slice p lv.length cp, .int .i64 now]) := by rw [hW1]; exact Bxs.new _ _ _
  have hR := specLogRight_any p lv cp q rs cq now W1 (hA.below B1.out)
  have HP : Hid (∀ x, Below w.heap.size w x → Calls Tryz.prog 85 #[.agg #[.slice q rs.length cq, .slice p lv.length cp, .int .i64 now], .int .i64 r] x fun e w' => e = .returned (.int .i64 (plB lv r)) ∧ Below x.heap.size x w') := fun x hb => l09Place_any p lv cp q rs cq now r x (hA.tx.below hb) hA.ln hA.lc hA.lz
  have HV : Hid (plO rs lv now r = if lgB rs lv now = true then plB lv r else -1) := rfl
  have x0 := K1.out.cell 0
  have x1 := K1.out.cell 1
  have x2 := K1.out.cell 2
  rw [HW1.out] at x0 x1 x2
  clear hW1 hA
  cases hg : lgB rs lv now with
  | false =>
    rw [hg] at hR
    rw [hg, if_neg Bool.false_ne_true] at HV
    rw [HV.out]
    go_enter Tryz.func20, Tryz.ntmps20
    go_wp2_with fail
    rw [← HW1.out]
    refine hR.mono ?_
    rintro e y ⟨rfl, by_⟩
    go_wp2_with fail
    go_ret
    exact ⟨rfl, chainB B1.out by_⟩
  | true =>
    rw [hg] at hR
    rw [hg, if_pos rfl] at HV
    rw [HV.out]
    go_enter Tryz.func20, Tryz.ntmps20
    go_wp2_with fail
    rw [← HW1.out]
    refine hR.mono ?_
    rintro e y ⟨rfl, by_⟩
    clear hR x0 x1 x2
    have x0 := (K1.out.below by_).cell 0
    have x1 := (K1.out.below by_).cell 1
    have x2 := (K1.out.below by_).cell 2
    have hP := HP.out y (chainB B1.out by_)
    go_wp2_with fail
    refine hP.mono ?_
    rintro e y2 ⟨rfl, by2⟩
    go_wp2_with fail
    go_ret
    exact ⟨rfl, chainB (chainB B1.out by_) by2⟩
set_option maxHeartbeats 2000000 in
theorem specTombOf_any (p : Option Addr) (lv : List ByteArray) (cp : Nat) (q : Option Addr) (rs : List Rw) (cq : Nat) (now r f : Int) (w : World) (hA : LgAt p lv cp q rs cq w) :
    Calls Tryz.prog 22 #[.agg #[.slice q rs.length cq, .slice p lv.length cp, .int .i64 now], .int .i64 r, .int .i64 f] w fun e w' => e = .returned (.int .i64 (tbO rs lv now r f)) ∧ Below w.heap.size w w' := by
  obtain ⟨W1, hW1⟩ : ∃ W1, W1 = w.alloc (.cells #[.slice q rs.length cq, .slice p lv.length cp, .int .i64 now] 26) := ⟨_, rfl⟩
  have HW1 : Hid (W1 = w.alloc (.cells #[.slice q rs.length cq, .slice p lv.length cp, .int .i64 now] 26)) := hW1
  have B1 : Hid (Below w.heap.size w W1) := by rw [hW1]; exact (Below.refl _ _).alloc (Nat.le_refl _) _
  have K1 : Hid (Bxs W1 w.heap.size 26 #[.slice q rs.length cq, .slice p lv.length cp, .int .i64 now]) := by rw [hW1]; exact Bxs.new _ _ _
  have hR := specLogRight_any p lv cp q rs cq now W1 (hA.below B1.out)
  have HP : Hid (∀ x, Below w.heap.size w x → Calls Tryz.prog 87 #[.slice p lv.length cp, .int .i64 r, .int .i64 f] x fun e w' => e = .returned (.int .i64 (tbAt lv r f)) ∧ Below x.heap.size x w') := fun x hb => l09Tomb_any p lv cp r f x (hA.tx.below hb) hA.ln hA.lc hA.lz
  have HV : Hid (tbO rs lv now r f = if lgB rs lv now = true then tbAt lv r f else -1) := rfl
  have x0 := K1.out.cell 0
  have x1 := K1.out.cell 1
  have x2 := K1.out.cell 2
  rw [HW1.out] at x0 x1 x2
  clear hW1 hA
  cases hg : lgB rs lv now with
  | false =>
    rw [hg] at hR
    rw [hg, if_neg Bool.false_ne_true] at HV
    rw [HV.out]
    go_enter Tryz.func22, Tryz.ntmps22
    go_wp2_with fail
    rw [← HW1.out]
    refine hR.mono ?_
    rintro e y ⟨rfl, by_⟩
    go_wp2_with fail
    go_ret
    exact ⟨rfl, chainB B1.out by_⟩
  | true =>
    rw [hg] at hR
    rw [hg, if_pos rfl] at HV
    rw [HV.out]
    go_enter Tryz.func22, Tryz.ntmps22
    go_wp2_with fail
    rw [← HW1.out]
    refine hR.mono ?_
    rintro e y ⟨rfl, by_⟩
    clear hR x0 x1 x2
    have x1 := (K1.out.below by_).cell 1
    have hP := HP.out y (chainB B1.out by_)
    go_wp2_with fail
    refine hP.mono ?_
    rintro e y2 ⟨rfl, by2⟩
    go_wp2_with fail
    go_ret
    exact ⟨rfl, chainB (chainB B1.out by_) by2⟩
set_option maxHeartbeats 4000000 in
theorem l09Field_any (p : Option Addr) (lv : List ByteArray) (cp : Nat) (q : Option Addr) (rs : List Rw) (cq : Nat) (now : Int) (r f : Int) (w : World) (hR : RwAt w q rs) (hn : rs.length ≤ 1048576) (hcq : rs.length ≤ cq) (hz : ∀ r ∈ rs, r.fs.length ≤ 1048576) :
    Calls Tryz.prog 79 #[.agg #[.slice q rs.length cq, .slice p lv.length cp, .int .i64 now], .int .i64 r, .int .i64 f] w fun e w' => e = .returned (.int .i64 (fcO rs r f)) ∧ Below w.heap.size w w' := by
  obtain ⟨W1, hW1⟩ : ∃ W1, W1 = w.alloc (.cells #[.slice q rs.length cq, .slice p lv.length cp, .int .i64 now] 26) := ⟨_, rfl⟩
  have HW1 : Hid (W1 = w.alloc (.cells #[.slice q rs.length cq, .slice p lv.length cp, .int .i64 now] 26)) := hW1
  have B1 : Hid (Below w.heap.size w W1) := by rw [hW1]; exact (Below.refl _ _).alloc (Nat.le_refl _) _
  have K1 : Hid (Bxs W1 w.heap.size 26 #[.slice q rs.length cq, .slice p lv.length cp, .int .i64 now]) := by rw [hW1]; exact Bxs.new _ _ _
  have HR : Hid (RwAt W1 q rs) := hR.below B1.out
  have HI1 := l07Is_any r 0 ((rs.length : Int) - 1) W1
  have x0 := K1.out.cell 0
  by_cases h1 : 0 ≤ r ∧ r ≤ (rs.length : Int) - 1
  · rw [decide_eq_true h1] at HI1
    have hrl : r.toNat < rs.length := by omega
    have hre : (r.toNat : Int) = r := Int.toNat_of_nonneg h1.1
    obtain ⟨I, rfl⟩ : ∃ I : Nat, r = (I : Int) := ⟨r.toNat, hre.symm⟩
    rw [Int.toNat_natCast] at hrl
    obtain ⟨b, off, rq, rc, rfl, hb0, c0, c1, c2, c3, c4⟩ := HR.out I hrl
    have hrI : rs.getD I rwZ = rs[I] := by rw [List.getD_eq_getElem?_getD, List.getElem?_eq_getElem hrl, Option.getD_some]
    have hfz := hz _ (List.getElem_mem hrl)
    have HI2 := l07Is_any f 0 ((rs[I].fs.length : Int) - 1) W1
    by_cases h2 : 0 ≤ f ∧ f ≤ (rs[I].fs.length : Int) - 1
    · rw [decide_eq_true h2] at HI2
      have hfl : f.toNat < rs[I].fs.length := by omega
      obtain ⟨F, rfl⟩ : ∃ F : Nat, f = (F : Int) := ⟨f.toNat, (Int.toNat_of_nonneg h2.1).symm⟩
      rw [Int.toNat_natCast] at hfl
      obtain ⟨bf, of, rfl, hbf, f0, f1, f2, f3, f4⟩ := c4 F hfl
      have HV : Hid (fcO rs (I : Int) (F : Int) = if rs[I].fs[F].g = true then 7 else 0) := by
        show _ = _
        unfold fcO fldOf
        rw [if_pos h1, Int.toNat_natCast, Int.toNat_natCast, hrI, if_pos h2, List.getD_eq_getElem?_getD, List.getElem?_eq_getElem hfl, Option.getD_some]
      clear f0 f1 f2 f3
      have iI : (I : Int) < rs.length := by omega
      have fI : (F : Int) < rs[I].fs.length := by omega
      cases hG : rs[I].fs[F].g with
      | true =>
        rw [hG] at f4
        rw [hG, if_pos rfl] at HV
        rw [HV.out]
        clear hfl c4 c0 c1 hG HV
        generalize rs[I].fs.length = FL at *
        clear hW1 hR HR hz c3 hrI h1 h2 hre hb0 hbf
        rw [HW1.out] at x0 c2 f4 HI1 HI2
        go_enter Tryz.func79, Tryz.ntmps79
        go_wp2_with (first | (go_at_call 78; with_reducible refine HI1.mono ?_; rintro e y ⟨rfl, rfl⟩) | (go_at_call 78; with_reducible refine HI2.mono ?_; rintro e y ⟨rfl, rfl⟩))
        go_ret
        rw [← HW1.out]
        exact ⟨rfl, B1.out⟩
      | false =>
        rw [hG] at f4
        rw [hG, if_neg Bool.false_ne_true] at HV
        rw [HV.out]
        clear hfl c4 c0 c1 hG HV
        generalize rs[I].fs.length = FL at *
        clear hW1 hR HR hz c3 hrI h1 h2 hre hb0 hbf
        rw [HW1.out] at x0 c2 f4 HI1 HI2
        go_enter Tryz.func79, Tryz.ntmps79
        go_wp2_with (first | (go_at_call 78; with_reducible refine HI1.mono ?_; rintro e y ⟨rfl, rfl⟩) | (go_at_call 78; with_reducible refine HI2.mono ?_; rintro e y ⟨rfl, rfl⟩))
        go_ret
        rw [← HW1.out]
        exact ⟨rfl, B1.out⟩
    · rw [decide_eq_false h2] at HI2
      have HV : Hid (fcO rs (I : Int) f = 6) := by
        show _ = _
        unfold fcO
        rw [if_pos h1, Int.toNat_natCast, hrI, if_neg h2]
      rw [HV.out]
      have iI : (I : Int) < rs.length := by omega
      generalize rs[I].fs.length = FL at *
      clear hW1 hR HR hz HV c0 c1 c3 c4 hrI h1 h2 hre hb0
      rw [HW1.out] at x0 c2 HI1 HI2
      go_enter Tryz.func79, Tryz.ntmps79
      go_wp2_with (first | (go_at_call 78; with_reducible refine HI1.mono ?_; rintro e y ⟨rfl, rfl⟩) | (go_at_call 78; with_reducible refine HI2.mono ?_; rintro e y ⟨rfl, rfl⟩))
      go_ret
      rw [← HW1.out]
      exact ⟨rfl, B1.out⟩
  · rw [decide_eq_false h1] at HI1
    have HV : Hid (fcO rs r f = 6) := by
      show _ = _
      unfold fcO
      rw [if_neg h1]
    rw [HV.out]
    clear hW1 hR HR hz HV h1
    rw [HW1.out] at x0 HI1
    go_enter Tryz.func79, Tryz.ntmps79
    go_wp2_with (first | (go_at_call 78; with_reducible refine HI1.mono ?_; rintro e y ⟨rfl, rfl⟩))
    go_ret
    rw [← HW1.out]
    exact ⟨rfl, B1.out⟩
set_option maxHeartbeats 2000000 in
theorem l09Status_any (p : Option Addr) (lv : List ByteArray) (cp : Nat) (q : Option Addr) (rs : List Rw) (cq : Nat) (now : Int) (r f : Int) (w : World) (hR : RwAt w q rs) (hn : rs.length ≤ 1048576) (hcq : rs.length ≤ cq) (hz : ∀ r ∈ rs, r.fs.length ≤ 1048576) :
    Calls Tryz.prog 88 #[.agg #[.slice q rs.length cq, .slice p lv.length cp, .int .i64 now], .int .i64 r, .int .i64 f] w fun e w' => e = .returned (.int .i64 (stC (fcO rs r f))) ∧ Below w.heap.size w w' := by
  obtain ⟨W1, hW1⟩ : ∃ W1, W1 = w.alloc (.cells #[.slice q rs.length cq, .slice p lv.length cp, .int .i64 now] 26) := ⟨_, rfl⟩
  have HW1 : Hid (W1 = w.alloc (.cells #[.slice q rs.length cq, .slice p lv.length cp, .int .i64 now] 26)) := hW1
  have B1 : Hid (Below w.heap.size w W1) := by rw [hW1]; exact (Below.refl _ _).alloc (Nat.le_refl _) _
  have hF := l09Field_any p lv cp q rs cq now r f W1 (hR.below B1.out) hn hcq hz
  rcases fcO_cases rs r f with h | h | h
  all_goals
    rw [h] at hF ⊢
    clear hW1 hR hz h
    go_enter Tryz.func88, Tryz.ntmps88
    go_wp2_with fail
    rw [← HW1.out]
    refine hF.mono ?_
    rintro e y ⟨rfl, by_⟩
    clear hF
    go_wp2_with fail
    go_ret
    exact ⟨rfl, chainB B1.out by_⟩
set_option maxHeartbeats 2000000 in
theorem specStatusOf_any (p : Option Addr) (lv : List ByteArray) (cp : Nat) (q : Option Addr) (rs : List Rw) (cq : Nat) (now r f : Int) (w : World) (hA : LgAt p lv cp q rs cq w) :
    Calls Tryz.prog 24 #[.agg #[.slice q rs.length cq, .slice p lv.length cp, .int .i64 now], .int .i64 r, .int .i64 f] w fun e w' => e = .returned (.int .i64 (stO rs lv now r f)) ∧ Below w.heap.size w w' := by
  obtain ⟨W1, hW1⟩ : ∃ W1, W1 = w.alloc (.cells #[.slice q rs.length cq, .slice p lv.length cp, .int .i64 now] 26) := ⟨_, rfl⟩
  have HW1 : Hid (W1 = w.alloc (.cells #[.slice q rs.length cq, .slice p lv.length cp, .int .i64 now] 26)) := hW1
  have B1 : Hid (Below w.heap.size w W1) := by rw [hW1]; exact (Below.refl _ _).alloc (Nat.le_refl _) _
  have K1 : Hid (Bxs W1 w.heap.size 26 #[.slice q rs.length cq, .slice p lv.length cp, .int .i64 now]) := by rw [hW1]; exact Bxs.new _ _ _
  have hR := specLogRight_any p lv cp q rs cq now W1 (hA.below B1.out)
  have HP : Hid (∀ x, Below w.heap.size w x → Calls Tryz.prog 88 #[.agg #[.slice q rs.length cq, .slice p lv.length cp, .int .i64 now], .int .i64 r, .int .i64 f] x fun e w' => e = .returned (.int .i64 (stC (fcO rs r f))) ∧ Below x.heap.size x w') := fun x hb => l09Status_any p lv cp q rs cq now r f x (hA.rw.below hb) hA.rn hA.rc (fun r hr => (hA.rz r hr).1)
  have HV : Hid (stO rs lv now r f = if lgB rs lv now = true then stC (fcO rs r f) else 0) := rfl
  generalize stC (fcO rs r f) = SC at *
  have x0 := K1.out.cell 0
  have x1 := K1.out.cell 1
  have x2 := K1.out.cell 2
  rw [HW1.out] at x0 x1 x2
  clear hW1 hA
  cases hg : lgB rs lv now with
  | false =>
    rw [hg] at hR
    rw [hg, if_neg Bool.false_ne_true] at HV
    rw [HV.out]
    go_enter Tryz.func24, Tryz.ntmps24
    go_wp2_with fail
    rw [← HW1.out]
    refine hR.mono ?_
    rintro e y ⟨rfl, by_⟩
    go_wp2_with fail
    go_ret
    exact ⟨rfl, chainB B1.out by_⟩
  | true =>
    rw [hg] at hR
    rw [hg, if_pos rfl] at HV
    rw [HV.out]
    go_enter Tryz.func24, Tryz.ntmps24
    go_wp2_with fail
    rw [← HW1.out]
    refine hR.mono ?_
    rintro e y ⟨rfl, by_⟩
    clear hR x0 x1 x2
    have x0 := (K1.out.below by_).cell 0
    have x1 := (K1.out.below by_).cell 1
    have x2 := (K1.out.below by_).cell 2
    have hP := HP.out y (chainB B1.out by_)
    go_wp2_with fail
    refine hP.mono ?_
    rintro e y2 ⟨rfl, by2⟩
    go_wp2_with fail
    go_ret
    exact ⟨rfl, chainB (chainB B1.out by_) by2⟩
end Go.Proofs.YtepmoihgemhjcaaGreatDoor
