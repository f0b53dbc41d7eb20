/-
  Parts of one proof, laid as one text: LfS, LtI; what each says stands at its head.
-/
import Derived.Test.YtepmoihgemhjcaaGreatDoorRows
import Derived.Test.YtepmoihgemhjcaaGreatDoorBytesDigMath
import Derived.Test.YtepmoihgemhjcaaGreatDoorTreeMathSlABxKSlBOwnS
import Derived.Test.YtepmoihgemhjcaaGreatDoorLtMathLaMathLfMathTakesLStepAppBlNotTakes
import Derived.Test.YtepmoihgemhjcaaGreatDoorTimeBPutMathPutNumJoinedPutTextFldMath
import Derived.Test.YtepmoihgemhjcaaGreatDoorFldGSrcDrawsDrawKitAppSSomeDrawTreeScanMath
import Derived.Test.YtepmoihgemhjcaaGreatDoorGetValGetTxtNumMathFldRdNumFromTmbMathFldRiseLgMath
import Derived.Test.YtepmoihgemhjcaaGreatDoorLgAtKLgAnsLgRtShwKOneKFldBlkRwBlk
import Derived.Test.YtepmoihgemhjcaaGreatDoorRowOpsLgO
import Derived.Test.YtepmoihgemhjcaaGreatDoorFldFFldLSpecTg
import Derived.Test.YtepmoihgemhjcaaGreatDoorSpecGNSpecGTFldNFldIsFldTbFldTr
import Derived.Test.YtepmoihgemhjcaaGreatDoorSpecLr
import Derived.Test.YtepmoihgemhjcaaGreatDoorLfISpecPl
import Derived.Test.YtepmoihgemhjcaaGreatDoorSpecClLtS
import Derived.Test.YtepmoihgemhjcaaGreatDoorImplPlLfF
import Derived.Handy
import Derived.WalkSpells
import Derived.OwnWalk
import Derived.Deep.RegionHeld3
import Derived.Deep.Cut
import Derived.Test.YtepmoihgemhjcaaGreatDoorLogRICopiedImplClLaB
import Derived.Test.YtepmoihgemhjcaaGreatDoorOwnBPadIDigIDigAllTimeIImplFC
/-
  What the specification's LogForget answers: 'lfC' and the log, in new memory.
-/
namespace Go.Proofs.YtepmoihgemhjcaaGreatDoor
open Go.RowKit Go.Lib
set_option linter.unusedVariables false
set_option maxRecDepth 20000

set_option maxHeartbeats 8000000 in
theorem specLogForget_any (p : Option Addr) (lv : List ByteArray) (cp : Nat) (q : Option Addr) (rs : List Rw) (cq : Nat) (now r f y : Int) (w : World) (hA : LgAt p lv cp q rs cq w) :
    Calls Tryz.prog 17 #[.agg #[.slice q rs.length cq, .slice p lv.length cp, .int .i64 now], .int .i64 r, .int .i64 f, .int .i64 y] w fun e w' => LgA w.heap.size (lfR rs lv now r f y) (lfL rs lv now r f y) (lfN rs lv now r f y) (lfC rs lv now r f y) e w' ∧ Below w.heap.size w w' := by
  obtain ⟨W2, hW2⟩ : ∃ W2, W2 = (w.alloc (.cells #[.slice q rs.length cq, .slice p lv.length cp, .int .i64 now] 26)).alloc (.cells #[.slice none 0 0, .slice none 0 0, .int .i64 0, .int .i64 0] 33) := ⟨_, rfl⟩
  have HW2 : Hid (W2 = (w.alloc (.cells #[.slice q rs.length cq, .slice p lv.length cp, .int .i64 now] 26)).alloc (.cells #[.slice none 0 0, .slice none 0 0, .int .i64 0, .int .i64 0] 33)) := hW2
  have H2 : Hid (LtB w q rs.length cq p lv.length cp now W2) := lt_boxes w q rs.length cq p lv.length cp now hW2
  have hR : Calls Tryz.prog 26 #[.agg #[.slice q rs.length cq, .slice p lv.length cp, .int .i64 now]] W2 fun e w' => e = .returned (.bool (lgB rs lv now)) ∧ Below W2.heap.size W2 w' := specLogRight_any p lv cp q rs cq now W2 (hA.below H2.out.bel)
  have HIs : Hid (∀ x, Calls Tryz.prog 78 #[.int .i64 y, .int .i64 1, .int .i64 2] x fun e w' => e = .returned (.bool (decide (1 ≤ y ∧ y ≤ 2))) ∧ w' = x) := fun x => l07Is_any y 1 2 x
  have HFd : Hid (∀ x, Below w.heap.size w x → Calls Tryz.prog 79 #[.agg #[.slice q rs.length cq, .slice p lv.length cp, .int .i64 now], .int .i64 r, .int .i64 f] x fun e w' => e = .returned (.int .i64 (fcO rs r f)) ∧ Below x.heap.size x w') := fun x hx => l09Field_any p lv cp q rs cq now r f x (hA.below hx).rw hA.rn hA.rc (fun r hr => (hA.rz r hr).1)
  have HCp : Hid (lgB rs lv now = true → ∀ x, Below w.heap.size w x → Calls Tryz.prog 75 #[.agg #[.slice q rs.length cq, .slice p lv.length cp, .int .i64 now]] x fun e w' => ∃ v1 v2 xs, e = .returned (.agg #[v1, v2, .int .i64 now]) ∧ xs.map (·.1) = rs ∧ LgO x.heap.size xs lv v1 v2 w' ∧ Below x.heap.size x w') := fun hl x hx => by
    obtain ⟨hr1, hr2, hr3⟩ := lg_right hl
    exact l09Copy_any p lv cp q rs cq now x (hA.below hx) (fun r hr => by have := rB_len (hr3 r hr); omega)
  have HFg : Hid (∀ (I J : Nat) (hI : I < rs.length) (hJ : J < rs[I].fs.length), lgB rs lv now = true → rs[I].fs[J].g = false → ∀ x, Below w.heap.size w x → ∀ y q c, Below x.heap.size x y → FldAt y q rs[I].fs → rs[I].fs.length ≤ c → Calls Tryz.prog 120 #[.agg #[.string rs[I].k, .int .i64 rs[I].a, .slice q rs[I].fs.length c], .int .i64 J] y fun e w' => ∃ q' c', e = .returned (.agg #[.string rs[I].k, .int .i64 rs[I].a, .slice q' (rs[I].fs.set J (goneF rs[I].fs[J])).length c', .int .i64 0]) ∧ w'.ownsRow y.heap.size 103 5 (.slice q' (rs[I].fs.set J (goneF rs[I].fs[J])).length c') (rs[I].fs.set J (goneF rs[I].fs[J])).length (fldRow (rs[I].fs.set J (goneF rs[I].fs[J]))) ∧ Below y.heap.size y w') := fun I J hI hJ hl hg x hx yy qq c hb hF hc => by
    have hz := hA.rz _ (List.getElem_mem hI)
    have h := specForget_any rs[I].k rs[I].a qq c rs[I].fs J yy hF hz.1 hc hz.2.1 hz.2.2
    obtain ⟨e1, e2, e3, e4⟩ := forget_post (k := rs[I].k) (a := rs[I].a) ((lg_right hl).2.2 _ (List.getElem_mem hI)) hJ hg
    rw [e1, e2, e3, e4] at h
    refine h.mono ?_
    rintro e w' ⟨v, rfl, own, b⟩
    obtain ⟨q', c', rfl, _, _⟩ := ownF_form own
    exact ⟨q', c', rfl, own, b⟩
  have HTx : Hid (∀ (I J : Nat) (hI : I < rs.length) (hJ : J < rs[I].fs.length), lgB rs lv now = true → (1 ≤ y ∧ y ≤ 2) → ∀ x, Calls Tryz.prog 139 #[.agg #[.int .i64 I, .int .i64 J, .int .i64 y, .int .i64 now]] x fun e w' => e = .returned (.string (tmRaw ⟨I, J, y, now⟩)) ∧ Below x.heap.size x w') := fun I J hI hJ hl hy x => l08Text_any ⟨I, J, y, now⟩ x (lg_tomb hl hI hJ hy)
  have HLn : Hid (lgB rs lv now = true → lv.length ≤ 64) := fun hl => (lg_right hl).2.1
  have HC : Hid (lfC rs lv now r f y = if (lgB rs lv now && decide (1 ≤ y ∧ y ≤ 2)) = true then fcO rs r f else 1) := rfl
  have HBd : Hid (∀ C, lfC rs lv now r f y = C → C ≠ 0 → lfR rs lv now r f y = [] ∧ lfL rs lv now r f y = [] ∧ lfN rs lv now r f y = 0) := fun C h hC => lf_bad h hC
  have HGd : Hid (lfC rs lv now r f y = 0 → lfR rs lv now r f y = rs.set r.toNat (fgt rs r f) ∧ lfL rs lv now r f y = lv ++ [tmRaw ⟨r, f, y, now⟩] ∧ lfN rs lv now r f y = now) := fun h => lf_good h
  have HZr : Hid (fcO rs r f = 0 → ∃ (I J : Nat) (hI : I < rs.length) (hJ : J < rs[I].fs.length), r = I ∧ f = J ∧ rs[I].fs[J].g = false) := fun h => fc_zero h
  have HCs : Hid (fcO rs r f = 0 ∨ fcO rs r f = 7 ∨ fcO rs r f = 6) := fcO_cases rs r f
  clear hW2 hA
  generalize lfC rs lv now r f y = CC at *
  generalize lfR rs lv now r f y = RR at *
  generalize lfL rs lv now r f y = LL at *
  generalize lfN rs lv now r f y = NN at *
  
  generalize fcO rs r f = FC at *
  generalize lgB rs lv now = A at *
  have HZ : Hid (∀ x, LgO w.heap.size [] [] (.slice none 0 0) (.slice none 0 0) x) := fun x => LgO.nil _ _
  obtain ⟨x0, x1, x2⟩ := H2.out.thr
  obtain ⟨i0, i1, i2, i3, i4, i5, i6, i7⟩ := H2.out.res
  go_enter Tryz.func17, Tryz.ntmps17
  go_upto_region 1 with fail
  rw [← HW2.out]
  go_wp2_with fail
  with_reducible refine hR.mono ?_
  rintro e y1 ⟨rfl, z1⟩
  have H3 : Hid (LtB w q rs.length cq p lv.length cp now y1) := H2.out.below z1
  clear x0 x1 x2 i0 i1 i2 i3 i4 i5 i6 i7 H2 z1 hR
  obtain ⟨x0, x1, x2⟩ := H3.out.thr
  obtain ⟨i0, i1, i2, i3, i4, i5, i6, i7⟩ := H3.out.res
  cases A
  case false =>
    have hc : CC = 1 := by rw [HC.out]; rfl
    obtain ⟨b1, b2, b3⟩ := HBd.out 1 hc (by decide)
    subst hc b1 b2 b3
    go_wp2_with fail
    with_reducible refine (l09Ill_any 1 y1).mono ?_
    rintro e yi ⟨rfl, zi⟩
    have Hi : Hid (LtB w q rs.length cq p lv.length cp now yi) := H3.out.below zi
    clear x0 x1 x2 i0 i1 i2 i3 i4 i5 i6 i7 zi
    obtain ⟨i0, i1, i2, i3, i4, i5, i6, i7⟩ := Hi.out.res
    go_wp2_with fail
    obtain ⟨K, HLo, HEd⟩ := LtB.put (q := q) (n := 0) (cq := 0) (p := p) (m := 0) (cp := 0) (now := now) (y := w) Hi.out.rs Hi.out.bel (HZ.out yi) (.slice none 0 0) (.slice none 0 0) (.int .i64 0) (.int .i64 1)
    generalize ((((yi.setCell ⟨w.heap.size + 1, 0, none⟩ (.slice none 0 0)).setCell ⟨w.heap.size + 1, 1, none⟩ (.slice none 0 0)).setCell ⟨w.heap.size + 1, 2, none⟩ (.int .i64 0)).setCell ⟨w.heap.size + 1, 3, none⟩ (.int .i64 1)) = zz at *
    have HLp : Hid (LgO _ _ _ _ _ zz) := HLo
    have HEn : Hid (Below w.heap.size w zz) := HEd
    have k0 : zz.cell? ⟨w.heap.size + 1, 0, none⟩ = some (.slice none 0 0) := K.cell 0
    have k1 : zz.cell? ⟨w.heap.size + 1, 1, none⟩ = some (.slice none 0 0) := K.cell 1
    have k2 : zz.cell? ⟨w.heap.size + 1, 2, none⟩ = some (.int .i64 0) := K.cell 2
    have k3 : zz.cell? ⟨w.heap.size + 1, 3, none⟩ = some (.int .i64 1) := K.cell 3
    refine bodyPost_ret (v := .agg #[.slice none 0 0, .slice none 0 0, .int .i64 0, .int .i64 1]) (by simp [results, Tryz.results17, go_sem, k0, k1, k2, k3]) rfl ?_
    exact ⟨⟨_, _, [], rfl, rfl, HLp.out⟩, HEn.out⟩
  have hIs := HIs.out y1
  by_cases hy : 1 ≤ y ∧ y ≤ 2
  case neg =>
    rw [decide_eq_false hy] at hIs HC
    go_wp2_with fail
    with_reducible refine hIs.mono ?_
    rintro e y1 ⟨rfl, rfl⟩
    have hc : CC = 1 := by rw [HC.out]; rfl
    obtain ⟨b1, b2, b3⟩ := HBd.out 1 hc (by decide)
    subst hc b1 b2 b3
    go_wp2_with fail
    with_reducible refine (l09Ill_any 1 y1).mono ?_
    rintro e yi ⟨rfl, zi⟩
    have Hi : Hid (LtB w q rs.length cq p lv.length cp now yi) := H3.out.below zi
    clear x0 x1 x2 i0 i1 i2 i3 i4 i5 i6 i7 zi
    obtain ⟨i0, i1, i2, i3, i4, i5, i6, i7⟩ := Hi.out.res
    go_wp2_with fail
    obtain ⟨K, HLo, HEd⟩ := LtB.put (q := q) (n := 0) (cq := 0) (p := p) (m := 0) (cp := 0) (now := now) (y := w) Hi.out.rs Hi.out.bel (HZ.out yi) (.slice none 0 0) (.slice none 0 0) (.int .i64 0) (.int .i64 1)
    generalize ((((yi.setCell ⟨w.heap.size + 1, 0, none⟩ (.slice none 0 0)).setCell ⟨w.heap.size + 1, 1, none⟩ (.slice none 0 0)).setCell ⟨w.heap.size + 1, 2, none⟩ (.int .i64 0)).setCell ⟨w.heap.size + 1, 3, none⟩ (.int .i64 1)) = zz at *
    have HLp : Hid (LgO _ _ _ _ _ zz) := HLo
    have HEn : Hid (Below w.heap.size w zz) := HEd
    have k0 : zz.cell? ⟨w.heap.size + 1, 0, none⟩ = some (.slice none 0 0) := K.cell 0
    have k1 : zz.cell? ⟨w.heap.size + 1, 1, none⟩ = some (.slice none 0 0) := K.cell 1
    have k2 : zz.cell? ⟨w.heap.size + 1, 2, none⟩ = some (.int .i64 0) := K.cell 2
    have k3 : zz.cell? ⟨w.heap.size + 1, 3, none⟩ = some (.int .i64 1) := K.cell 3
    refine bodyPost_ret (v := .agg #[.slice none 0 0, .slice none 0 0, .int .i64 0, .int .i64 1]) (by simp [results, Tryz.results17, go_sem, k0, k1, k2, k3]) rfl ?_
    exact ⟨⟨_, _, [], rfl, rfl, HLp.out⟩, HEn.out⟩
  rw [decide_eq_true hy] at hIs HC
  have Hy : Hid (1 ≤ y ∧ y ≤ 2) := hy
  have hFd := HFd.out y1 H3.out.bel
  clear hy
  go_wp2_with fail
  with_reducible refine hIs.mono ?_
  rintro e y1 ⟨rfl, rfl⟩
  go_wp2_with fail
  with_reducible refine hFd.mono ?_
  rintro e y2 ⟨rfl, z2⟩
  have H4 : Hid (LtB w q rs.length cq p lv.length cp now y2) := H3.out.below z2
  clear x0 x1 x2 i0 i1 i2 i3 i4 i5 i6 i7 z2 hFd hIs H3
  obtain ⟨x0, x1, x2⟩ := H4.out.thr
  obtain ⟨i0, i1, i2, i3, i4, i5, i6, i7⟩ := H4.out.res
  have HC2 : Hid (CC = FC) := HC.out
  clear HC
  rcases HCs.out with h0 | h0 | h0
  rotate_left
  · subst h0
    have hc : CC = 7 := by rw [HC2.out]
    obtain ⟨b1, b2, b3⟩ := HBd.out 7 hc (by decide)
    subst hc b1 b2 b3
    go_wp2_with fail
    with_reducible refine (l09Ill_any 7 y2).mono ?_
    rintro e yi ⟨rfl, zi⟩
    have Hi : Hid (LtB w q rs.length cq p lv.length cp now yi) := H4.out.below zi
    clear x0 x1 x2 i0 i1 i2 i3 i4 i5 i6 i7 zi
    obtain ⟨i0, i1, i2, i3, i4, i5, i6, i7⟩ := Hi.out.res
    go_wp2_with fail
    obtain ⟨K, HLo, HEd⟩ := LtB.put (q := q) (n := 0) (cq := 0) (p := p) (m := 0) (cp := 0) (now := now) (y := w) Hi.out.rs Hi.out.bel (HZ.out yi) (.slice none 0 0) (.slice none 0 0) (.int .i64 0) (.int .i64 7)
    generalize ((((yi.setCell ⟨w.heap.size + 1, 0, none⟩ (.slice none 0 0)).setCell ⟨w.heap.size + 1, 1, none⟩ (.slice none 0 0)).setCell ⟨w.heap.size + 1, 2, none⟩ (.int .i64 0)).setCell ⟨w.heap.size + 1, 3, none⟩ (.int .i64 7)) = zz at *
    have HLp : Hid (LgO _ _ _ _ _ zz) := HLo
    have HEn : Hid (Below w.heap.size w zz) := HEd
    have k0 : zz.cell? ⟨w.heap.size + 1, 0, none⟩ = some (.slice none 0 0) := K.cell 0
    have k1 : zz.cell? ⟨w.heap.size + 1, 1, none⟩ = some (.slice none 0 0) := K.cell 1
    have k2 : zz.cell? ⟨w.heap.size + 1, 2, none⟩ = some (.int .i64 0) := K.cell 2
    have k3 : zz.cell? ⟨w.heap.size + 1, 3, none⟩ = some (.int .i64 7) := K.cell 3
    refine bodyPost_ret (v := .agg #[.slice none 0 0, .slice none 0 0, .int .i64 0, .int .i64 7]) (by simp [results, Tryz.results17, go_sem, k0, k1, k2, k3]) rfl ?_
    exact ⟨⟨_, _, [], rfl, rfl, HLp.out⟩, HEn.out⟩
  · subst h0
    have hc : CC = 6 := by rw [HC2.out]
    obtain ⟨b1, b2, b3⟩ := HBd.out 6 hc (by decide)
    subst hc b1 b2 b3
    go_wp2_with fail
    with_reducible refine (l09Ill_any 6 y2).mono ?_
    rintro e yi ⟨rfl, zi⟩
    have Hi : Hid (LtB w q rs.length cq p lv.length cp now yi) := H4.out.below zi
    clear x0 x1 x2 i0 i1 i2 i3 i4 i5 i6 i7 zi
    obtain ⟨i0, i1, i2, i3, i4, i5, i6, i7⟩ := Hi.out.res
    go_wp2_with fail
    obtain ⟨K, HLo, HEd⟩ := LtB.put (q := q) (n := 0) (cq := 0) (p := p) (m := 0) (cp := 0) (now := now) (y := w) Hi.out.rs Hi.out.bel (HZ.out yi) (.slice none 0 0) (.slice none 0 0) (.int .i64 0) (.int .i64 6)
    generalize ((((yi.setCell ⟨w.heap.size + 1, 0, none⟩ (.slice none 0 0)).setCell ⟨w.heap.size + 1, 1, none⟩ (.slice none 0 0)).setCell ⟨w.heap.size + 1, 2, none⟩ (.int .i64 0)).setCell ⟨w.heap.size + 1, 3, none⟩ (.int .i64 6)) = zz at *
    have HLp : Hid (LgO _ _ _ _ _ zz) := HLo
    have HEn : Hid (Below w.heap.size w zz) := HEd
    have k0 : zz.cell? ⟨w.heap.size + 1, 0, none⟩ = some (.slice none 0 0) := K.cell 0
    have k1 : zz.cell? ⟨w.heap.size + 1, 1, none⟩ = some (.slice none 0 0) := K.cell 1
    have k2 : zz.cell? ⟨w.heap.size + 1, 2, none⟩ = some (.int .i64 0) := K.cell 2
    have k3 : zz.cell? ⟨w.heap.size + 1, 3, none⟩ = some (.int .i64 6) := K.cell 3
    refine bodyPost_ret (v := .agg #[.slice none 0 0, .slice none 0 0, .int .i64 0, .int .i64 6]) (by simp [results, Tryz.results17, go_sem, k0, k1, k2, k3]) rfl ?_
    exact ⟨⟨_, _, [], rfl, rfl, HLp.out⟩, HEn.out⟩
  subst h0
  obtain ⟨I, J, hI, hJ, rfl, rfl, hgn⟩ := HZr.out rfl
  obtain ⟨b1, b2, b3⟩ := HGd.out HC2.out
  have hc := HC2.out
  rw [Int.toNat_natCast, fgt_eq hI hJ] at b1
  have b4 := b3.symm
  subst hc b1 b2 b4
  have hCp := HCp.out (by simp) y2 H4.out.bel
  have HFg2 := HFg.out I J hI hJ (by simp) hgn y2 H4.out.bel
  have HTx2 := HTx.out I J hI hJ (by simp) Hy.out
  have HLv : Hid (lv.length + 1 ≤ 1048576) := by have := HLn.out (by simp); show _ ≤ _; omega
  generalize hTXe : tmRaw ⟨(I : Int), (J : Int), y, now⟩ = TX at *
  generalize hFSe : rs[I].fs.set J (goneF rs[I].fs[J]) = FS at *
  have HTXe : Hid (tmRaw ⟨(I : Int), (J : Int), y, now⟩ = TX) := hTXe
  have HFSe : Hid (rs[I].fs.set J (goneF rs[I].fs[J]) = FS) := hFSe
  clear hTXe hFSe
  have HFg3 : Hid (∀ x q c, Below y2.heap.size y2 x → FldAt x q rs[I].fs → rs[I].fs.length ≤ c → Calls Tryz.prog 120 #[.agg #[.string rs[I].k, .int .i64 rs[I].a, .slice q rs[I].fs.length c], .int .i64 J] x fun e w' => ∃ q' c', e = .returned (.agg #[.string rs[I].k, .int .i64 rs[I].a, .slice q' FS.length c', .int .i64 0]) ∧ w'.ownsRow x.heap.size 103 5 (.slice q' FS.length c') FS.length (fldRow FS) ∧ Below x.heap.size x w') := HFg2
  have HTx3 : Hid (∀ x, Calls Tryz.prog 139 #[.agg #[.int .i64 I, .int .i64 J, .int .i64 y, .int .i64 now]] x fun e w' => e = .returned (.string TX) ∧ Below x.heap.size x w') := HTx2
  have hI1 : (I : Int) < rs.length := by omega
  clear HBd HGd HFg HTx HFg2 HTx2 HC2 HCp HZr HCs HLn HFd HIs hgn
  go_wp2_with fail
  with_reducible refine hCp.mono ?_
  rintro e y4 ⟨v1, v2, xs, rfl, hx, ho, z4⟩
  have hxl : xs.length = rs.length := by rw [← hx, List.length_map]
  obtain ⟨g, c, rfl⟩ := ho.rws.some_of (by omega)
  obtain ⟨z2, zd, rfl, _, _⟩ := ownS_form ho.lvs
  have hIx : I < xs.length := by omega
  have hIi : (I : Int) < xs.length := by omega
  have hX : xs[I].1 = rs[I] := by
    have h1 := List.getElem_of_eq hx (i := I) (by simpa using hIx)
    rwa [List.getElem_map] at h1
  have HX : Hid (xs.map (·.1) = rs) := hx
  have HC5 : Hid (LgC y2 y4.heap.size xs lv now (.slice (some ⟨g, 0, none⟩) xs.length c) (.slice z2 lv.length zd) (y4.alloc (.cells #[.slice (some ⟨g, 0, none⟩) xs.length c, .slice z2 lv.length zd, .int .i64 now] 26))) := ⟨Bxs.new _ _ _, ho.below (alB (Below.refl _ _) _), z4.size, alB z4 _⟩
  have HY2 : Hid (w.heap.size + 1 < y2.heap.size) := H4.out.rs.lt
  clear x0 x1 x2 i0 i1 i2 i3 i4 i5 i6 i7 hCp hx ho z4 hxl
  go_upto_region 7 with fail
  generalize y4.heap.size = E at *
  generalize y4.alloc (.cells #[.slice (some ⟨g, 0, none⟩) xs.length c, .slice z2 lv.length zd, .int .i64 now] 26) = y5 at *
  have hF := l09Forget_any y2 E xs lv now g c z2 zd y5 HC5.out I J hIx y rs[I] FS TX hX HLv.out HFg3.out HTx3.out
  clear HFg3 HTx3
  go_wp2_with fail
  with_reducible refine hF.mono ?_
  rintro e yA ⟨rfl, q1, c1, z3, d3, h8⟩
  have HC8 : Hid (LgC y2 E (xs.set I (⟨rs[I].k, rs[I].a, FS⟩, .slice q1 FS.length c1)) (lv ++ [TX]) now (.slice (some ⟨g, 0, none⟩) xs.length c) (.slice z3 (lv.length + 1) d3) yA) := h8
  clear h8 hF HC5
  have HM8 : Hid ((xs.set I (⟨rs[I].k, rs[I].a, FS⟩, .slice q1 FS.length c1)).map (·.1) = rs.set I ⟨rs[I].k, rs[I].a, FS⟩) := by show _ = _; rw [set_fst, HX.out]
  obtain ⟨p0, p1, p2, g0, g1, g2⟩ := HC8.out.cells
  have HA8 : Hid (LtB w q rs.length cq p lv.length cp now yA) := ⟨H4.out.lg.below HC8.out.bel, H4.out.rs.below HC8.out.bel, chainB H4.out.bel HC8.out.bel⟩
  have HO8 : Hid (LgO w.heap.size (xs.set I (⟨rs[I].k, rs[I].a, FS⟩, .slice q1 FS.length c1)) (lv ++ [TX]) (.slice (some ⟨g, 0, none⟩) xs.length c) (.slice z3 (lv.length + 1) d3) yA) := HC8.out.lg.lower (by have := HY2.out; omega)
  obtain ⟨i0, i1, i2, i3, i4, i5, i6, i7⟩ := HA8.out.res
  clear HC8
  go_wp2_with fail
  obtain ⟨K, HLo, HEd⟩ := LtB.put (q := q) (n := 0) (cq := 0) (p := p) (m := 0) (cp := 0) (now := now) (y := w) HA8.out.rs HA8.out.bel HO8.out (.slice (some ⟨g, 0, none⟩) xs.length c) (.slice z3 (lv.length + 1) d3) (.int .i64 now) (.int .i64 0)
  generalize ((((yA.setCell ⟨w.heap.size + 1, 0, none⟩ (.slice (some ⟨g, 0, none⟩) xs.length c)).setCell ⟨w.heap.size + 1, 1, none⟩ (.slice z3 (lv.length + 1) d3)).setCell ⟨w.heap.size + 1, 2, none⟩ (.int .i64 now)).setCell ⟨w.heap.size + 1, 3, none⟩ (.int .i64 0)) = zz at *
  have HLp : Hid (LgO _ _ _ _ _ zz) := HLo
  have HEn : Hid (Below w.heap.size w zz) := HEd
  have k0 : zz.cell? ⟨w.heap.size + 1, 0, none⟩ = some (.slice (some ⟨g, 0, none⟩) xs.length c) := K.cell 0
  have k1 : zz.cell? ⟨w.heap.size + 1, 1, none⟩ = some (.slice z3 (lv.length + 1) d3) := K.cell 1
  have k2 : zz.cell? ⟨w.heap.size + 1, 2, none⟩ = some (.int .i64 now) := K.cell 2
  have k3 : zz.cell? ⟨w.heap.size + 1, 3, none⟩ = some (.int .i64 0) := K.cell 3
  refine bodyPost_ret (v := .agg #[.slice (some ⟨g, 0, none⟩) xs.length c, .slice z3 (lv.length + 1) d3, .int .i64 now, .int .i64 0]) (by simp [results, Tryz.results17, go_sem, k0, k1, k2, k3]) rfl ?_
  rw [HTXe.out, HFSe.out]
  exact ⟨⟨_, _, _, rfl, HM8.out, HLp.out⟩, HEn.out⟩
end Go.Proofs.YtepmoihgemhjcaaGreatDoor
/-
  What the program's LogTime answers: 'ltC' and the log, in new memory.
-/
namespace Go.Proofs.YtepmoihgemhjcaaGreatDoor
open Go.RowKit Go.Lib
set_option linter.unusedVariables false
set_option maxRecDepth 20000

set_option maxHeartbeats 4000000 in
theorem implLogTime_any (p : Option Addr) (lv : List ByteArray) (cp : Nat) (q : Option Addr) (rs : List Rw) (cq : Nat) (now t : Int) (w : World) (hT : Tabs w) (hg : Laid w) (hA : LgAt p lv cp q rs cq w) (hn : -9223372036854775808 ≤ now ∧ now ≤ 9223372036854775807) (ht : -9223372036854775808 ≤ t ∧ t ≤ 9223372036854775807) :
    Calls Tryz.prog 11 #[.agg #[.slice q rs.length cq, .slice p lv.length cp, .int .i64 now], .int .i64 t] w fun e w' => LgA w.heap.size (ltmR rs lv now t) (ltL rs lv now t) (ltN rs lv now t) (ltC rs lv now t) e w' ∧ Below w.heap.size w w' := by
  obtain ⟨W2, hW2⟩ : ∃ W2, W2 = (w.alloc (.cells #[.slice q rs.length cq, .slice p lv.length cp, .int .i64 now] 26)).alloc (.cells #[.slice none 0 0, .slice none 0 0, .int .i64 0, .int .i64 0] 33) := ⟨_, rfl⟩
  have HW2 : Hid (W2 = (w.alloc (.cells #[.slice q rs.length cq, .slice p lv.length cp, .int .i64 now] 26)).alloc (.cells #[.slice none 0 0, .slice none 0 0, .int .i64 0, .int .i64 0] 33)) := hW2
  have H2 : Hid (LtB w q rs.length cq p lv.length cp now W2) := lt_boxes w q rs.length cq p lv.length cp now hW2
  have hR : Calls Tryz.prog 25 #[.agg #[.slice q rs.length cq, .slice p lv.length cp, .int .i64 now]] W2 fun e w' => e = .returned (.bool (lgB rs lv now)) ∧ Below W2.heap.size W2 w' := implLogRight_any p lv cp q rs cq now W2 (hT.to H2.out.bel) (hg.below H2.out.bel) (hA.below H2.out.bel)
  have HTi : Hid (∀ x, Calls Tryz.prog 70 #[.int .i64 t] x fun e w' => e = .returned (.bool (timeB t)) ∧ w' = x) := fun x => timeRight_any t x
  have HCp : Hid (lgB rs lv now = true → ∀ x, Below w.heap.size w x → Calls Tryz.prog 60 #[.agg #[.slice q rs.length cq, .slice p lv.length cp, .int .i64 now]] x fun e w' => ∃ v1 v2 xs, e = .returned (.agg #[v1, v2, .int .i64 now]) ∧ xs.map (·.1) = rs ∧ LgO x.heap.size xs lv v1 v2 w' ∧ Below x.heap.size x w') := fun hl x hx => by
    obtain ⟨hr1, hr2, hr3⟩ := lg_right hl
    exact copiedLog_any p lv cp q rs cq now x (hA.below hx) hr3 (fun s hs => by have := lg_small hl s hs; omega)
  have HB0 : Hid (ltB rs lv now t = (lgB rs lv now && timeB t)) := rfl
  unfold ltmR ltL ltN ltC
  clear hW2 hA hT hg
  generalize ltB rs lv now t = LB at *
  generalize lgB rs lv now = A at *
  generalize timeB t = B at *
  have HM1 : Hid (now < t → mxB now t = t) := fun h => if_pos h
  have HM2 : Hid (¬ now < t → mxB now t = now) := fun h => if_neg h
  generalize mxB now t = M at *
  have HZ : Hid (∀ x, LgO w.heap.size [] [] (.slice none 0 0) (.slice none 0 0) x) := fun x => LgO.nil _ _
  obtain ⟨x0, x1, x2⟩ := H2.out.thr
  obtain ⟨i0, i1, i2, i3, i4, i5, i6, i7⟩ := H2.out.res
  go_enter Tryz.func11, Tryz.ntmps11
  go_upto_region 1 with fail
  rw [← HW2.out]
  go_wp2_with fail
  with_reducible refine hR.mono ?_
  rintro e y1 ⟨rfl, z1⟩
  have H3 : Hid (LtB w q rs.length cq p lv.length cp now y1) := H2.out.below z1
  clear x0 x1 x2 i0 i1 i2 i3 i4 i5 i6 i7 H2 z1 hR
  obtain ⟨x0, x1, x2⟩ := H3.out.thr
  obtain ⟨i0, i1, i2, i3, i4, i5, i6, i7⟩ := H3.out.res
  have hTi := HTi.out y1
  cases A
  case false =>
    have hb : LB = false := by rw [HB0.out]; rfl
    subst hb
    go_wp2_with fail
    obtain ⟨K, HLo, HEd⟩ := LtB.put (q := q) (n := 0) (cq := 0) (p := p) (m := 0) (cp := 0) (now := now) (y := w) H3.out.rs H3.out.bel (HZ.out y1) (.slice none 0 0) (.slice none 0 0) (.int .i64 0) (.int .i64 1)
    generalize ((((y1.setCell ⟨w.heap.size + 1, 0, none⟩ (.slice none 0 0)).setCell ⟨w.heap.size + 1, 1, none⟩ (.slice none 0 0)).setCell ⟨w.heap.size + 1, 2, none⟩ (.int .i64 0)).setCell ⟨w.heap.size + 1, 3, none⟩ (.int .i64 1)) = zz at *
    have HLp : Hid (LgO _ _ _ _ _ zz) := HLo
    have HEn : Hid (Below w.heap.size w zz) := HEd
    have k0 : zz.cell? ⟨w.heap.size + 1, 0, none⟩ = some (.slice none 0 0) := K.cell 0
    have k1 : zz.cell? ⟨w.heap.size + 1, 1, none⟩ = some (.slice none 0 0) := K.cell 1
    have k2 : zz.cell? ⟨w.heap.size + 1, 2, none⟩ = some (.int .i64 0) := K.cell 2
    have k3 : zz.cell? ⟨w.heap.size + 1, 3, none⟩ = some (.int .i64 1) := K.cell 3
    refine bodyPost_ret (v := .agg #[.slice none 0 0, .slice none 0 0, .int .i64 0, .int .i64 1]) (by simp [results, Tryz.results11, go_sem, k0, k1, k2, k3]) rfl ?_
    exact ⟨⟨_, _, [], rfl, rfl, HLp.out⟩, HEn.out⟩
  cases B
  case false =>
    have hb : LB = false := by rw [HB0.out]; rfl
    subst hb
    go_wp2_with fail
    with_reducible refine hTi.mono ?_
    rintro e y1 ⟨rfl, rfl⟩
    go_wp2_with fail
    obtain ⟨K, HLo, HEd⟩ := LtB.put (q := q) (n := 0) (cq := 0) (p := p) (m := 0) (cp := 0) (now := now) (y := w) H3.out.rs H3.out.bel (HZ.out y1) (.slice none 0 0) (.slice none 0 0) (.int .i64 0) (.int .i64 1)
    generalize ((((y1.setCell ⟨w.heap.size + 1, 0, none⟩ (.slice none 0 0)).setCell ⟨w.heap.size + 1, 1, none⟩ (.slice none 0 0)).setCell ⟨w.heap.size + 1, 2, none⟩ (.int .i64 0)).setCell ⟨w.heap.size + 1, 3, none⟩ (.int .i64 1)) = zz at *
    have HLp : Hid (LgO _ _ _ _ _ zz) := HLo
    have HEn : Hid (Below w.heap.size w zz) := HEd
    have k0 : zz.cell? ⟨w.heap.size + 1, 0, none⟩ = some (.slice none 0 0) := K.cell 0
    have k1 : zz.cell? ⟨w.heap.size + 1, 1, none⟩ = some (.slice none 0 0) := K.cell 1
    have k2 : zz.cell? ⟨w.heap.size + 1, 2, none⟩ = some (.int .i64 0) := K.cell 2
    have k3 : zz.cell? ⟨w.heap.size + 1, 3, none⟩ = some (.int .i64 1) := K.cell 3
    refine bodyPost_ret (v := .agg #[.slice none 0 0, .slice none 0 0, .int .i64 0, .int .i64 1]) (by simp [results, Tryz.results11, go_sem, k0, k1, k2, k3]) rfl ?_
    exact ⟨⟨_, _, [], rfl, rfl, HLp.out⟩, HEn.out⟩
  have hb : LB = true := by rw [HB0.out]; rfl
  subst hb
  have hCp := HCp.out rfl y1 H3.out.bel
  go_wp2_with fail
  with_reducible refine hTi.mono ?_
  rintro e y1 ⟨rfl, rfl⟩
  go_wp2_with fail
  with_reducible refine hCp.mono ?_
  rintro e y4 ⟨v1, v2, xs, rfl, hx, ho, z4⟩
  have HX : Hid (xs.map (·.1) = rs) := hx
  have H4 : Hid (LtB w q rs.length cq p lv.length cp now (y4.alloc (.cells #[v1, v2, .int .i64 now] 26))) := H3.out.below (alB z4 _)
  have X4 : Hid (Bxs (y4.alloc (.cells #[v1, v2, .int .i64 now] 26)) y4.heap.size 26 #[v1, v2, .int .i64 now]) := Bxs.new _ _ _
  have O4 : Hid (LgO w.heap.size xs lv v1 v2 (y4.alloc (.cells #[v1, v2, .int .i64 now] 26))) := (ho.below (alB (Below.refl _ _) _)).lower H3.out.bel.size
  have hE : w.heap.size + 1 < y4.heap.size := by
    have := H3.out.rs.lt
    have := z4.size
    omega
  have HEE : Hid (w.heap.size + 1 < y4.heap.size) := hE
  obtain ⟨a1, b1, d1, hv1⟩ : ∃ a b c, v1 = .slice a b c := by
    obtain ⟨pp, cc, h, _⟩ := ho.rws.form
    exact ⟨pp, _, cc, h⟩
  obtain ⟨a2, b2, d2, hv2⟩ : ∃ a b c, v2 = .slice a b c := by
    obtain ⟨pp, cc, h, _⟩ := ownS_form ho.lvs
    exact ⟨pp, _, cc, h⟩
  subst hv1 hv2
  clear x0 x1 x2 i0 i1 i2 i3 i4 i5 i6 i7 H3 hx ho z4 hE hTi hCp
  go_upto_region 4 with fail
  generalize y4.heap.size = E at *
  generalize y4.alloc (.cells #[.slice a1 b1 d1, .slice a2 b2 d2, .int .i64 now] 26) = y5 at *
  obtain ⟨x0, x1, x2⟩ := H4.out.thr
  have c2 : y5.cell? ⟨E, 2, none⟩ = some (.int .i64 now) := X4.out.cell 2
  have g2 := X4.out.fr 2
  have H5 : Hid (Bxs (y5.setCell ⟨E, 2, none⟩ (.int .i64 M)) E 26 #[.slice a1 b1 d1, .slice a2 b2 d2, .int .i64 M] ∧ LgO w.heap.size xs lv (.slice a1 b1 d1) (.slice a2 b2 d2) (y5.setCell ⟨E, 2, none⟩ (.int .i64 M)) ∧ Bxs (y5.setCell ⟨E, 2, none⟩ (.int .i64 M)) (w.heap.size + 1) 33 #[.slice none 0 0, .slice none 0 0, .int .i64 0, .int .i64 0] ∧ Below w.heap.size w (y5.setCell ⟨E, 2, none⟩ (.int .i64 M))) := ⟨X4.out.set 2 _, O4.out.box X4.out (by decide) (by decide) (by decide) (set_grw _ _ 2 _), H4.out.rs.other E 2 (by have := HEE.out; omega) _, H4.out.bel.setCell (p := ⟨E, 2, none⟩) (by have := HEE.out; show _ ≤ E; omega) _⟩
  by_cases hmx : now < t
  case pos =>
    have e := HM1.out (by omega)
    subst e
    have f1 : decide (now < M) = true := decide_eq_true hmx
    have f2 : decide (M < now) = false := decide_eq_false (by omega)
    have f3 : decide (M ≤ now) = false := decide_eq_false (by omega)
    have f4 : decide (now ≤ M) = true := decide_eq_true (by omega)
    go_upto_region 5 with fail
    all_goals generalize y5.setCell ⟨E, 2, none⟩ (.int .i64 M) = y6 at *
    clear x0 x1 x2 c2 g2
    obtain ⟨e0, e1, e2⟩ : y6.cell? ⟨E, 0, none⟩ = some (.slice a1 b1 d1) ∧ y6.cell? ⟨E, 1, none⟩ = some (.slice a2 b2 d2) ∧ y6.cell? ⟨E, 2, none⟩ = some (.int .i64 M) := ⟨H5.out.1.cell 0, H5.out.1.cell 1, H5.out.1.cell 2⟩
    have HR6 : Hid (Bxs y6 (w.heap.size + 1) 33 #[.slice none 0 0, .slice none 0 0, .int .i64 0, .int .i64 0]) := H5.out.2.2.1
    obtain ⟨i0, i1, i2, i3, i4, i5, i6, i7⟩ : y6.cell? ⟨w.heap.size + 1, 0, none⟩ = some (.slice none 0 0) ∧ y6.cell? ⟨w.heap.size + 1, 1, none⟩ = some (.slice none 0 0) ∧ y6.cell? ⟨w.heap.size + 1, 2, none⟩ = some (.int .i64 0) ∧ y6.cell? ⟨w.heap.size + 1, 3, none⟩ = some (.int .i64 0) ∧ y6.frozen? ⟨w.heap.size + 1, 0, none⟩ = false ∧ y6.frozen? ⟨w.heap.size + 1, 1, none⟩ = false ∧ y6.frozen? ⟨w.heap.size + 1, 2, none⟩ = false ∧ y6.frozen? ⟨w.heap.size + 1, 3, none⟩ = false := ⟨HR6.out.cell 0, HR6.out.cell 1, HR6.out.cell 2, HR6.out.cell 3, HR6.out.fr 0, HR6.out.fr 1, HR6.out.fr 2, HR6.out.fr 3⟩
    go_wp2_with fail
    obtain ⟨K, HLo, HEd⟩ := LtB.put (q := q) (n := 0) (cq := 0) (p := p) (m := 0) (cp := 0) (now := 0) (y := w) HR6.out H5.out.2.2.2 H5.out.2.1 (.slice a1 b1 d1) (.slice a2 b2 d2) (.int .i64 M) (.int .i64 0)
    generalize ((((y6.setCell ⟨w.heap.size + 1, 0, none⟩ (.slice a1 b1 d1)).setCell ⟨w.heap.size + 1, 1, none⟩ (.slice a2 b2 d2)).setCell ⟨w.heap.size + 1, 2, none⟩ (.int .i64 M)).setCell ⟨w.heap.size + 1, 3, none⟩ (.int .i64 0)) = zz at *
    have HLp : Hid (LgO _ _ _ _ _ zz) := HLo
    have HEn : Hid (Below w.heap.size w zz) := HEd
    have k0 : zz.cell? ⟨w.heap.size + 1, 0, none⟩ = some (.slice a1 b1 d1) := K.cell 0
    have k1 : zz.cell? ⟨w.heap.size + 1, 1, none⟩ = some (.slice a2 b2 d2) := K.cell 1
    have k2 : zz.cell? ⟨w.heap.size + 1, 2, none⟩ = some (.int .i64 M) := K.cell 2
    have k3 : zz.cell? ⟨w.heap.size + 1, 3, none⟩ = some (.int .i64 0) := K.cell 3
    refine bodyPost_ret (v := .agg #[.slice a1 b1 d1, .slice a2 b2 d2, .int .i64 M, .int .i64 0]) (by simp [results, Tryz.results11, go_sem, k0, k1, k2, k3]) rfl ?_
    exact ⟨⟨_, _, xs, rfl, HX.out, HLp.out⟩, HEn.out⟩
  case neg =>
    have e := HM2.out (by omega)
    subst e
    have f1 : decide (M < t) = false := decide_eq_false hmx
    have f3 : decide (t ≤ M) = true := decide_eq_true (by omega)
    go_upto_region 5 with fail
    all_goals generalize y5.setCell ⟨E, 2, none⟩ (.int .i64 M) = y6 at *
    clear x0 x1 x2 c2 g2
    obtain ⟨e0, e1, e2⟩ : y6.cell? ⟨E, 0, none⟩ = some (.slice a1 b1 d1) ∧ y6.cell? ⟨E, 1, none⟩ = some (.slice a2 b2 d2) ∧ y6.cell? ⟨E, 2, none⟩ = some (.int .i64 M) := ⟨H5.out.1.cell 0, H5.out.1.cell 1, H5.out.1.cell 2⟩
    have HR6 : Hid (Bxs y6 (w.heap.size + 1) 33 #[.slice none 0 0, .slice none 0 0, .int .i64 0, .int .i64 0]) := H5.out.2.2.1
    obtain ⟨i0, i1, i2, i3, i4, i5, i6, i7⟩ : y6.cell? ⟨w.heap.size + 1, 0, none⟩ = some (.slice none 0 0) ∧ y6.cell? ⟨w.heap.size + 1, 1, none⟩ = some (.slice none 0 0) ∧ y6.cell? ⟨w.heap.size + 1, 2, none⟩ = some (.int .i64 0) ∧ y6.cell? ⟨w.heap.size + 1, 3, none⟩ = some (.int .i64 0) ∧ y6.frozen? ⟨w.heap.size + 1, 0, none⟩ = false ∧ y6.frozen? ⟨w.heap.size + 1, 1, none⟩ = false ∧ y6.frozen? ⟨w.heap.size + 1, 2, none⟩ = false ∧ y6.frozen? ⟨w.heap.size + 1, 3, none⟩ = false := ⟨HR6.out.cell 0, HR6.out.cell 1, HR6.out.cell 2, HR6.out.cell 3, HR6.out.fr 0, HR6.out.fr 1, HR6.out.fr 2, HR6.out.fr 3⟩
    go_wp2_with fail
    obtain ⟨K, HLo, HEd⟩ := LtB.put (q := q) (n := 0) (cq := 0) (p := p) (m := 0) (cp := 0) (now := 0) (y := w) HR6.out H5.out.2.2.2 H5.out.2.1 (.slice a1 b1 d1) (.slice a2 b2 d2) (.int .i64 M) (.int .i64 0)
    generalize ((((y6.setCell ⟨w.heap.size + 1, 0, none⟩ (.slice a1 b1 d1)).setCell ⟨w.heap.size + 1, 1, none⟩ (.slice a2 b2 d2)).setCell ⟨w.heap.size + 1, 2, none⟩ (.int .i64 M)).setCell ⟨w.heap.size + 1, 3, none⟩ (.int .i64 0)) = zz at *
    have HLp : Hid (LgO _ _ _ _ _ zz) := HLo
    have HEn : Hid (Below w.heap.size w zz) := HEd
    have k0 : zz.cell? ⟨w.heap.size + 1, 0, none⟩ = some (.slice a1 b1 d1) := K.cell 0
    have k1 : zz.cell? ⟨w.heap.size + 1, 1, none⟩ = some (.slice a2 b2 d2) := K.cell 1
    have k2 : zz.cell? ⟨w.heap.size + 1, 2, none⟩ = some (.int .i64 M) := K.cell 2
    have k3 : zz.cell? ⟨w.heap.size + 1, 3, none⟩ = some (.int .i64 0) := K.cell 3
    refine bodyPost_ret (v := .agg #[.slice a1 b1 d1, .slice a2 b2 d2, .int .i64 M, .int .i64 0]) (by simp [results, Tryz.results11, go_sem, k0, k1, k2, k3]) rfl ?_
    exact ⟨⟨_, _, xs, rfl, HX.out, HLp.out⟩, HEn.out⟩
end Go.Proofs.YtepmoihgemhjcaaGreatDoor
