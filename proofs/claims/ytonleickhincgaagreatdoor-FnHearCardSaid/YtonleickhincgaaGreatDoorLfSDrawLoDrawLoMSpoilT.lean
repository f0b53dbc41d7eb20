/-
  Parts of one proof, laid as one text: LfS, DrawLo, DrawLoM, SpoilT; what each says stands at its head.
-/
import Derived.Test.YtonleickhincgaaGreatDoorRows
import Derived.Test.YtonleickhincgaaGreatDoorBytesDigMath
import Derived.Test.YtonleickhincgaaGreatDoorTreeMathSlABxKSlBOwnS
import Derived.Test.YtonleickhincgaaGreatDoorLgLawTakesTakesLPutterPathI
import Derived.Test.YtonleickhincgaaGreatDoorMac2AppSSrcDrawsDrawKitSomeIsInSignSSignDWide2StepAppPath2DigestDrawTreeSpoil
import Derived.Test.YtonleickhincgaaGreatDoorTimeBPutMathPutNumJoinedPutTextFldMath
import Derived.Test.YtonleickhincgaaGreatDoorLgAtKLgAnsLgRtAudMathHdMathClaMathHearMathFldGOneKFldBlkRwBlkRowOps
import Derived.Test.YtonleickhincgaaGreatDoorGetValGetTxtNumMathFldRdNumFromTmbMathLgMath
import Derived.Test.YtonleickhincgaaGreatDoorLgOLtMathLfMathLaMath
import Derived.Test.YtonleickhincgaaGreatDoorDrawRowFldF
import Derived.Test.YtonleickhincgaaGreatDoorFldIsTimeIGrKSpecGNSpecGTTillTwoFldN
import Derived.Test.YtonleickhincgaaGreatDoorFldTbFldTrImplFCBlNot
import Derived.Test.YtonleickhincgaaGreatDoorSpecLr
import Derived.Test.YtonleickhincgaaGreatDoorLaSSpecPlLfF
import Derived.Test.YtonleickhincgaaGreatDoorSpecClLtSLaB
import Derived.Handy
import Derived.WalkSpells
import Derived.OwnWalk
import Derived.Deep.RegionHeld3
import Derived.Deep.Cut
import Derived.Test.YtonleickhincgaaGreatDoorShwKOwnBPadIMacMathSgnBDigITurn2
import Derived.Laws.OwnMore
import Derived.BigQuiet
import Derived.Deep.CutRange
/-
  What the specification's LogForget answers: 'lfC' and the log, in new memory.
-/
namespace Go.Proofs.YtonleickhincgaaGreatDoor
open Go.RowKit Go.Lib
set_option linter.unusedVariables false
set_option maxRecDepth 20000

set_option maxHeartbeats 8000000 in
theorem specLogForget_any (p : Option Addr) (lv : List ByteArray) (cp : Nat) (q : Option Addr) (rs : List Rw) (cq : Nat) (now r f y : Int) (w : World) (hA : LgAt p lv cp q rs cq w) :
    Calls Tryz.prog 88 #[.agg #[.slice q rs.length cq, .slice p lv.length cp, .int .i64 now], .int .i64 r, .int .i64 f, .int .i64 y] w fun e w' => LgA w.heap.size (lfR rs lv now r f y) (lfL rs lv now r f y) (lfN rs lv now r f y) (lfC rs lv now r f y) e w' ∧ Below w.heap.size w w' := by
  obtain ⟨W2, hW2⟩ : ∃ W2, W2 = (w.alloc (.cells #[.slice q rs.length cq, .slice p lv.length cp, .int .i64 now] 41)).alloc (.cells #[.slice none 0 0, .slice none 0 0, .int .i64 0, .int .i64 0] 136) := ⟨_, rfl⟩
  have HW2 : Hid (W2 = (w.alloc (.cells #[.slice q rs.length cq, .slice p lv.length cp, .int .i64 now] 41)).alloc (.cells #[.slice none 0 0, .slice none 0 0, .int .i64 0, .int .i64 0] 136)) := hW2
  have H2 : Hid (LtB w q rs.length cq p lv.length cp now W2) := lt_boxes w q rs.length cq p lv.length cp now hW2
  have hR : Calls Tryz.prog 23 #[.agg #[.slice q rs.length cq, .slice p lv.length cp, .int .i64 now]] W2 fun e w' => e = .returned (.bool (lgB rs lv now)) ∧ Below W2.heap.size W2 w' := specLogRight_any p lv cp q rs cq now W2 (hA.below H2.out.bel)
  have HIs : Hid (∀ x, Calls Tryz.prog 45 #[.int .i64 y, .int .i64 1, .int .i64 2] x fun e w' => e = .returned (.bool (decide (1 ≤ y ∧ y ≤ 2))) ∧ w' = x) := fun x => l07Is_any y 1 2 x
  have HFd : Hid (∀ x, Below w.heap.size w x → Calls Tryz.prog 107 #[.agg #[.slice q rs.length cq, .slice p lv.length cp, .int .i64 now], .int .i64 r, .int .i64 f] x fun e w' => e = .returned (.int .i64 (fcO rs r f)) ∧ Below x.heap.size x w') := fun x hx => l09Field_any p lv cp q rs cq now r f x (hA.below hx).rw hA.rn hA.rc (fun r hr => (hA.rz r hr).1)
  have HCp : Hid (lgB rs lv now = true → ∀ x, Below w.heap.size w x → Calls Tryz.prog 136 #[.agg #[.slice q rs.length cq, .slice p lv.length cp, .int .i64 now]] x fun e w' => ∃ v1 v2 xs, e = .returned (.agg #[v1, v2, .int .i64 now]) ∧ xs.map (·.1) = rs ∧ LgO x.heap.size xs lv v1 v2 w' ∧ Below x.heap.size x w') := fun hl x hx => by
    obtain ⟨hr1, hr2, hr3⟩ := lg_right hl
    exact l09Copy_any p lv cp q rs cq now x (hA.below hx) (fun r hr => by have := rB_len (hr3 r hr); omega)
  have HFg : Hid (∀ (I J : Nat) (hI : I < rs.length) (hJ : J < rs[I].fs.length), lgB rs lv now = true → rs[I].fs[J].g = false → ∀ x, Below w.heap.size w x → ∀ y q c, Below x.heap.size x y → FldAt y q rs[I].fs → rs[I].fs.length ≤ c → Calls Tryz.prog 146 #[.agg #[.string rs[I].k, .int .i64 rs[I].a, .slice q rs[I].fs.length c], .int .i64 J] y fun e w' => ∃ q' c', e = .returned (.agg #[.string rs[I].k, .int .i64 rs[I].a, .slice q' (rs[I].fs.set J (goneF rs[I].fs[J])).length c', .int .i64 0]) ∧ w'.ownsRow y.heap.size 122 5 (.slice q' (rs[I].fs.set J (goneF rs[I].fs[J])).length c') (rs[I].fs.set J (goneF rs[I].fs[J])).length (fldRow (rs[I].fs.set J (goneF rs[I].fs[J]))) ∧ Below y.heap.size y w') := fun I J hI hJ hl hg x hx yy qq c hb hF hc => by
    have hz := hA.rz _ (List.getElem_mem hI)
    have h := specForget_any rs[I].k rs[I].a qq c rs[I].fs J yy hF hz.1 hc hz.2.1 hz.2.2
    obtain ⟨e1, e2, e3, e4⟩ := forget_post (k := rs[I].k) (a := rs[I].a) ((lg_right hl).2.2 _ (List.getElem_mem hI)) hJ hg
    rw [e1, e2, e3, e4] at h
    refine h.mono ?_
    rintro e w' ⟨v, rfl, own, b⟩
    obtain ⟨q', c', rfl, _, _⟩ := ownF_form own
    exact ⟨q', c', rfl, own, b⟩
  have HTx : Hid (∀ (I J : Nat) (hI : I < rs.length) (hJ : J < rs[I].fs.length), lgB rs lv now = true → (1 ≤ y ∧ y ≤ 2) → ∀ x, Calls Tryz.prog 145 #[.agg #[.int .i64 I, .int .i64 J, .int .i64 y, .int .i64 now]] x fun e w' => e = .returned (.string (tmRaw ⟨I, J, y, now⟩)) ∧ Below x.heap.size x w') := fun I J hI hJ hl hy x => l08Text_any ⟨I, J, y, now⟩ x (lg_tomb hl hI hJ hy)
  have HLn : Hid (lgB rs lv now = true → lv.length ≤ 64) := fun hl => (lg_right hl).2.1
  have HC : Hid (lfC rs lv now r f y = if (lgB rs lv now && decide (1 ≤ y ∧ y ≤ 2)) = true then fcO rs r f else 1) := rfl
  have HBd : Hid (∀ C, lfC rs lv now r f y = C → C ≠ 0 → lfR rs lv now r f y = [] ∧ lfL rs lv now r f y = [] ∧ lfN rs lv now r f y = 0) := fun C h hC => lf_bad h hC
  have HGd : Hid (lfC rs lv now r f y = 0 → lfR rs lv now r f y = rs.set r.toNat (fgt rs r f) ∧ lfL rs lv now r f y = lv ++ [tmRaw ⟨r, f, y, now⟩] ∧ lfN rs lv now r f y = now) := fun h => lf_good h
  have HZr : Hid (fcO rs r f = 0 → ∃ (I J : Nat) (hI : I < rs.length) (hJ : J < rs[I].fs.length), r = I ∧ f = J ∧ rs[I].fs[J].g = false) := fun h => fc_zero h
  have HCs : Hid (fcO rs r f = 0 ∨ fcO rs r f = 7 ∨ fcO rs r f = 6) := fcO_cases rs r f
  clear hW2 hA
  generalize lfC rs lv now r f y = CC at *
  generalize lfR rs lv now r f y = RR at *
  generalize lfL rs lv now r f y = LL at *
  generalize lfN rs lv now r f y = NN at *
  
  generalize fcO rs r f = FC at *
  generalize lgB rs lv now = A at *
  have HZ : Hid (∀ x, LgO w.heap.size [] [] (.slice none 0 0) (.slice none 0 0) x) := fun x => LgO.nil _ _
  obtain ⟨x0, x1, x2⟩ := H2.out.thr
  obtain ⟨i0, i1, i2, i3, i4, i5, i6, i7⟩ := H2.out.res
  go_enter Tryz.func88, Tryz.ntmps88
  go_upto_region 1 with fail
  rw [← HW2.out]
  go_wp2_with fail
  with_reducible refine hR.mono ?_
  rintro e y1 ⟨rfl, z1⟩
  have H3 : Hid (LtB w q rs.length cq p lv.length cp now y1) := H2.out.below z1
  clear x0 x1 x2 i0 i1 i2 i3 i4 i5 i6 i7 H2 z1 hR
  obtain ⟨x0, x1, x2⟩ := H3.out.thr
  obtain ⟨i0, i1, i2, i3, i4, i5, i6, i7⟩ := H3.out.res
  cases A
  case false =>
    have hc : CC = 1 := by rw [HC.out]; rfl
    obtain ⟨b1, b2, b3⟩ := HBd.out 1 hc (by decide)
    subst hc b1 b2 b3
    go_wp2_with fail
    with_reducible refine (l09Ill_any 1 y1).mono ?_
    rintro e yi ⟨rfl, zi⟩
    have Hi : Hid (LtB w q rs.length cq p lv.length cp now yi) := H3.out.below zi
    clear x0 x1 x2 i0 i1 i2 i3 i4 i5 i6 i7 zi
    obtain ⟨i0, i1, i2, i3, i4, i5, i6, i7⟩ := Hi.out.res
    go_wp2_with fail
    obtain ⟨K, HLo, HEd⟩ := LtB.put (q := q) (n := 0) (cq := 0) (p := p) (m := 0) (cp := 0) (now := now) (y := w) Hi.out.rs Hi.out.bel (HZ.out yi) (.slice none 0 0) (.slice none 0 0) (.int .i64 0) (.int .i64 1)
    generalize ((((yi.setCell ⟨w.heap.size + 1, 0, none⟩ (.slice none 0 0)).setCell ⟨w.heap.size + 1, 1, none⟩ (.slice none 0 0)).setCell ⟨w.heap.size + 1, 2, none⟩ (.int .i64 0)).setCell ⟨w.heap.size + 1, 3, none⟩ (.int .i64 1)) = zz at *
    have HLp : Hid (LgO _ _ _ _ _ zz) := HLo
    have HEn : Hid (Below w.heap.size w zz) := HEd
    have k0 : zz.cell? ⟨w.heap.size + 1, 0, none⟩ = some (.slice none 0 0) := K.cell 0
    have k1 : zz.cell? ⟨w.heap.size + 1, 1, none⟩ = some (.slice none 0 0) := K.cell 1
    have k2 : zz.cell? ⟨w.heap.size + 1, 2, none⟩ = some (.int .i64 0) := K.cell 2
    have k3 : zz.cell? ⟨w.heap.size + 1, 3, none⟩ = some (.int .i64 1) := K.cell 3
    refine bodyPost_ret (v := .agg #[.slice none 0 0, .slice none 0 0, .int .i64 0, .int .i64 1]) (by simp [results, Tryz.results88, go_sem, k0, k1, k2, k3]) rfl ?_
    exact ⟨⟨_, _, [], rfl, rfl, HLp.out⟩, HEn.out⟩
  have hIs := HIs.out y1
  by_cases hy : 1 ≤ y ∧ y ≤ 2
  case neg =>
    rw [decide_eq_false hy] at hIs HC
    go_wp2_with fail
    with_reducible refine hIs.mono ?_
    rintro e y1 ⟨rfl, rfl⟩
    have hc : CC = 1 := by rw [HC.out]; rfl
    obtain ⟨b1, b2, b3⟩ := HBd.out 1 hc (by decide)
    subst hc b1 b2 b3
    go_wp2_with fail
    with_reducible refine (l09Ill_any 1 y1).mono ?_
    rintro e yi ⟨rfl, zi⟩
    have Hi : Hid (LtB w q rs.length cq p lv.length cp now yi) := H3.out.below zi
    clear x0 x1 x2 i0 i1 i2 i3 i4 i5 i6 i7 zi
    obtain ⟨i0, i1, i2, i3, i4, i5, i6, i7⟩ := Hi.out.res
    go_wp2_with fail
    obtain ⟨K, HLo, HEd⟩ := LtB.put (q := q) (n := 0) (cq := 0) (p := p) (m := 0) (cp := 0) (now := now) (y := w) Hi.out.rs Hi.out.bel (HZ.out yi) (.slice none 0 0) (.slice none 0 0) (.int .i64 0) (.int .i64 1)
    generalize ((((yi.setCell ⟨w.heap.size + 1, 0, none⟩ (.slice none 0 0)).setCell ⟨w.heap.size + 1, 1, none⟩ (.slice none 0 0)).setCell ⟨w.heap.size + 1, 2, none⟩ (.int .i64 0)).setCell ⟨w.heap.size + 1, 3, none⟩ (.int .i64 1)) = zz at *
    have HLp : Hid (LgO _ _ _ _ _ zz) := HLo
    have HEn : Hid (Below w.heap.size w zz) := HEd
    have k0 : zz.cell? ⟨w.heap.size + 1, 0, none⟩ = some (.slice none 0 0) := K.cell 0
    have k1 : zz.cell? ⟨w.heap.size + 1, 1, none⟩ = some (.slice none 0 0) := K.cell 1
    have k2 : zz.cell? ⟨w.heap.size + 1, 2, none⟩ = some (.int .i64 0) := K.cell 2
    have k3 : zz.cell? ⟨w.heap.size + 1, 3, none⟩ = some (.int .i64 1) := K.cell 3
    refine bodyPost_ret (v := .agg #[.slice none 0 0, .slice none 0 0, .int .i64 0, .int .i64 1]) (by simp [results, Tryz.results88, go_sem, k0, k1, k2, k3]) rfl ?_
    exact ⟨⟨_, _, [], rfl, rfl, HLp.out⟩, HEn.out⟩
  rw [decide_eq_true hy] at hIs HC
  have Hy : Hid (1 ≤ y ∧ y ≤ 2) := hy
  have hFd := HFd.out y1 H3.out.bel
  clear hy
  go_wp2_with fail
  with_reducible refine hIs.mono ?_
  rintro e y1 ⟨rfl, rfl⟩
  go_wp2_with fail
  with_reducible refine hFd.mono ?_
  rintro e y2 ⟨rfl, z2⟩
  have H4 : Hid (LtB w q rs.length cq p lv.length cp now y2) := H3.out.below z2
  clear x0 x1 x2 i0 i1 i2 i3 i4 i5 i6 i7 z2 hFd hIs H3
  obtain ⟨x0, x1, x2⟩ := H4.out.thr
  obtain ⟨i0, i1, i2, i3, i4, i5, i6, i7⟩ := H4.out.res
  have HC2 : Hid (CC = FC) := HC.out
  clear HC
  rcases HCs.out with h0 | h0 | h0
  rotate_left
  · subst h0
    have hc : CC = 7 := by rw [HC2.out]
    obtain ⟨b1, b2, b3⟩ := HBd.out 7 hc (by decide)
    subst hc b1 b2 b3
    go_wp2_with fail
    with_reducible refine (l09Ill_any 7 y2).mono ?_
    rintro e yi ⟨rfl, zi⟩
    have Hi : Hid (LtB w q rs.length cq p lv.length cp now yi) := H4.out.below zi
    clear x0 x1 x2 i0 i1 i2 i3 i4 i5 i6 i7 zi
    obtain ⟨i0, i1, i2, i3, i4, i5, i6, i7⟩ := Hi.out.res
    go_wp2_with fail
    obtain ⟨K, HLo, HEd⟩ := LtB.put (q := q) (n := 0) (cq := 0) (p := p) (m := 0) (cp := 0) (now := now) (y := w) Hi.out.rs Hi.out.bel (HZ.out yi) (.slice none 0 0) (.slice none 0 0) (.int .i64 0) (.int .i64 7)
    generalize ((((yi.setCell ⟨w.heap.size + 1, 0, none⟩ (.slice none 0 0)).setCell ⟨w.heap.size + 1, 1, none⟩ (.slice none 0 0)).setCell ⟨w.heap.size + 1, 2, none⟩ (.int .i64 0)).setCell ⟨w.heap.size + 1, 3, none⟩ (.int .i64 7)) = zz at *
    have HLp : Hid (LgO _ _ _ _ _ zz) := HLo
    have HEn : Hid (Below w.heap.size w zz) := HEd
    have k0 : zz.cell? ⟨w.heap.size + 1, 0, none⟩ = some (.slice none 0 0) := K.cell 0
    have k1 : zz.cell? ⟨w.heap.size + 1, 1, none⟩ = some (.slice none 0 0) := K.cell 1
    have k2 : zz.cell? ⟨w.heap.size + 1, 2, none⟩ = some (.int .i64 0) := K.cell 2
    have k3 : zz.cell? ⟨w.heap.size + 1, 3, none⟩ = some (.int .i64 7) := K.cell 3
    refine bodyPost_ret (v := .agg #[.slice none 0 0, .slice none 0 0, .int .i64 0, .int .i64 7]) (by simp [results, Tryz.results88, go_sem, k0, k1, k2, k3]) rfl ?_
    exact ⟨⟨_, _, [], rfl, rfl, HLp.out⟩, HEn.out⟩
  · subst h0
    have hc : CC = 6 := by rw [HC2.out]
    obtain ⟨b1, b2, b3⟩ := HBd.out 6 hc (by decide)
    subst hc b1 b2 b3
    go_wp2_with fail
    with_reducible refine (l09Ill_any 6 y2).mono ?_
    rintro e yi ⟨rfl, zi⟩
    have Hi : Hid (LtB w q rs.length cq p lv.length cp now yi) := H4.out.below zi
    clear x0 x1 x2 i0 i1 i2 i3 i4 i5 i6 i7 zi
    obtain ⟨i0, i1, i2, i3, i4, i5, i6, i7⟩ := Hi.out.res
    go_wp2_with fail
    obtain ⟨K, HLo, HEd⟩ := LtB.put (q := q) (n := 0) (cq := 0) (p := p) (m := 0) (cp := 0) (now := now) (y := w) Hi.out.rs Hi.out.bel (HZ.out yi) (.slice none 0 0) (.slice none 0 0) (.int .i64 0) (.int .i64 6)
    generalize ((((yi.setCell ⟨w.heap.size + 1, 0, none⟩ (.slice none 0 0)).setCell ⟨w.heap.size + 1, 1, none⟩ (.slice none 0 0)).setCell ⟨w.heap.size + 1, 2, none⟩ (.int .i64 0)).setCell ⟨w.heap.size + 1, 3, none⟩ (.int .i64 6)) = zz at *
    have HLp : Hid (LgO _ _ _ _ _ zz) := HLo
    have HEn : Hid (Below w.heap.size w zz) := HEd
    have k0 : zz.cell? ⟨w.heap.size + 1, 0, none⟩ = some (.slice none 0 0) := K.cell 0
    have k1 : zz.cell? ⟨w.heap.size + 1, 1, none⟩ = some (.slice none 0 0) := K.cell 1
    have k2 : zz.cell? ⟨w.heap.size + 1, 2, none⟩ = some (.int .i64 0) := K.cell 2
    have k3 : zz.cell? ⟨w.heap.size + 1, 3, none⟩ = some (.int .i64 6) := K.cell 3
    refine bodyPost_ret (v := .agg #[.slice none 0 0, .slice none 0 0, .int .i64 0, .int .i64 6]) (by simp [results, Tryz.results88, go_sem, k0, k1, k2, k3]) rfl ?_
    exact ⟨⟨_, _, [], rfl, rfl, HLp.out⟩, HEn.out⟩
  subst h0
  obtain ⟨I, J, hI, hJ, rfl, rfl, hgn⟩ := HZr.out rfl
  obtain ⟨b1, b2, b3⟩ := HGd.out HC2.out
  have hc := HC2.out
  rw [Int.toNat_natCast, fgt_eq hI hJ] at b1
  have b4 := b3.symm
  subst hc b1 b2 b4
  have hCp := HCp.out (by simp) y2 H4.out.bel
  have HFg2 := HFg.out I J hI hJ (by simp) hgn y2 H4.out.bel
  have HTx2 := HTx.out I J hI hJ (by simp) Hy.out
  have HLv : Hid (lv.length + 1 ≤ 1048576) := by have := HLn.out (by simp); show _ ≤ _; omega
  generalize hTXe : tmRaw ⟨(I : Int), (J : Int), y, now⟩ = TX at *
  generalize hFSe : rs[I].fs.set J (goneF rs[I].fs[J]) = FS at *
  have HTXe : Hid (tmRaw ⟨(I : Int), (J : Int), y, now⟩ = TX) := hTXe
  have HFSe : Hid (rs[I].fs.set J (goneF rs[I].fs[J]) = FS) := hFSe
  clear hTXe hFSe
  have HFg3 : Hid (∀ x q c, Below y2.heap.size y2 x → FldAt x q rs[I].fs → rs[I].fs.length ≤ c → Calls Tryz.prog 146 #[.agg #[.string rs[I].k, .int .i64 rs[I].a, .slice q rs[I].fs.length c], .int .i64 J] x fun e w' => ∃ q' c', e = .returned (.agg #[.string rs[I].k, .int .i64 rs[I].a, .slice q' FS.length c', .int .i64 0]) ∧ w'.ownsRow x.heap.size 122 5 (.slice q' FS.length c') FS.length (fldRow FS) ∧ Below x.heap.size x w') := HFg2
  have HTx3 : Hid (∀ x, Calls Tryz.prog 145 #[.agg #[.int .i64 I, .int .i64 J, .int .i64 y, .int .i64 now]] x fun e w' => e = .returned (.string TX) ∧ Below x.heap.size x w') := HTx2
  have hI1 : (I : Int) < rs.length := by omega
  clear HBd HGd HFg HTx HFg2 HTx2 HC2 HCp HZr HCs HLn HFd HIs hgn
  go_wp2_with fail
  with_reducible refine hCp.mono ?_
  rintro e y4 ⟨v1, v2, xs, rfl, hx, ho, z4⟩
  have hxl : xs.length = rs.length := by rw [← hx, List.length_map]
  obtain ⟨g, c, rfl⟩ := ho.rws.some_of (by omega)
  obtain ⟨z2, zd, rfl, _, _⟩ := ownS_form ho.lvs
  have hIx : I < xs.length := by omega
  have hIi : (I : Int) < xs.length := by omega
  have hX : xs[I].1 = rs[I] := by
    have h1 := List.getElem_of_eq hx (i := I) (by simpa using hIx)
    rwa [List.getElem_map] at h1
  have HX : Hid (xs.map (·.1) = rs) := hx
  have HC5 : Hid (LgC y2 y4.heap.size xs lv now (.slice (some ⟨g, 0, none⟩) xs.length c) (.slice z2 lv.length zd) (y4.alloc (.cells #[.slice (some ⟨g, 0, none⟩) xs.length c, .slice z2 lv.length zd, .int .i64 now] 41))) := ⟨Bxs.new _ _ _, ho.below (alB (Below.refl _ _) _), z4.size, alB z4 _⟩
  have HY2 : Hid (w.heap.size + 1 < y2.heap.size) := H4.out.rs.lt
  clear x0 x1 x2 i0 i1 i2 i3 i4 i5 i6 i7 hCp hx ho z4 hxl
  go_upto_region 7 with fail
  generalize y4.heap.size = E at *
  generalize y4.alloc (.cells #[.slice (some ⟨g, 0, none⟩) xs.length c, .slice z2 lv.length zd, .int .i64 now] 41) = y5 at *
  have hF := l09Forget_any y2 E xs lv now g c z2 zd y5 HC5.out I J hIx y rs[I] FS TX hX HLv.out HFg3.out HTx3.out
  clear HFg3 HTx3
  go_wp2_with fail
  with_reducible refine hF.mono ?_
  rintro e yA ⟨rfl, q1, c1, z3, d3, h8⟩
  have HC8 : Hid (LgC y2 E (xs.set I (⟨rs[I].k, rs[I].a, FS⟩, .slice q1 FS.length c1)) (lv ++ [TX]) now (.slice (some ⟨g, 0, none⟩) xs.length c) (.slice z3 (lv.length + 1) d3) yA) := h8
  clear h8 hF HC5
  have HM8 : Hid ((xs.set I (⟨rs[I].k, rs[I].a, FS⟩, .slice q1 FS.length c1)).map (·.1) = rs.set I ⟨rs[I].k, rs[I].a, FS⟩) := by show _ = _; rw [set_fst, HX.out]
  obtain ⟨p0, p1, p2, g0, g1, g2⟩ := HC8.out.cells
  have HA8 : Hid (LtB w q rs.length cq p lv.length cp now yA) := ⟨H4.out.lg.below HC8.out.bel, H4.out.rs.below HC8.out.bel, chainB H4.out.bel HC8.out.bel⟩
  have HO8 : Hid (LgO w.heap.size (xs.set I (⟨rs[I].k, rs[I].a, FS⟩, .slice q1 FS.length c1)) (lv ++ [TX]) (.slice (some ⟨g, 0, none⟩) xs.length c) (.slice z3 (lv.length + 1) d3) yA) := HC8.out.lg.lower (by have := HY2.out; omega)
  obtain ⟨i0, i1, i2, i3, i4, i5, i6, i7⟩ := HA8.out.res
  clear HC8
  go_wp2_with fail
  obtain ⟨K, HLo, HEd⟩ := LtB.put (q := q) (n := 0) (cq := 0) (p := p) (m := 0) (cp := 0) (now := now) (y := w) HA8.out.rs HA8.out.bel HO8.out (.slice (some ⟨g, 0, none⟩) xs.length c) (.slice z3 (lv.length + 1) d3) (.int .i64 now) (.int .i64 0)
  generalize ((((yA.setCell ⟨w.heap.size + 1, 0, none⟩ (.slice (some ⟨g, 0, none⟩) xs.length c)).setCell ⟨w.heap.size + 1, 1, none⟩ (.slice z3 (lv.length + 1) d3)).setCell ⟨w.heap.size + 1, 2, none⟩ (.int .i64 now)).setCell ⟨w.heap.size + 1, 3, none⟩ (.int .i64 0)) = zz at *
  have HLp : Hid (LgO _ _ _ _ _ zz) := HLo
  have HEn : Hid (Below w.heap.size w zz) := HEd
  have k0 : zz.cell? ⟨w.heap.size + 1, 0, none⟩ = some (.slice (some ⟨g, 0, none⟩) xs.length c) := K.cell 0
  have k1 : zz.cell? ⟨w.heap.size + 1, 1, none⟩ = some (.slice z3 (lv.length + 1) d3) := K.cell 1
  have k2 : zz.cell? ⟨w.heap.size + 1, 2, none⟩ = some (.int .i64 now) := K.cell 2
  have k3 : zz.cell? ⟨w.heap.size + 1, 3, none⟩ = some (.int .i64 0) := K.cell 3
  refine bodyPost_ret (v := .agg #[.slice (some ⟨g, 0, none⟩) xs.length c, .slice z3 (lv.length + 1) d3, .int .i64 now, .int .i64 0]) (by simp [results, Tryz.results88, go_sem, k0, k1, k2, k3]) rfl ?_
  rw [HTXe.out, HFSe.out]
  exact ⟨⟨_, _, _, rfl, HM8.out, HLp.out⟩, HEn.out⟩
end Go.Proofs.YtonleickhincgaaGreatDoor
/-
  A log in a box beside a source, and what a LogOut that was drawn holds: what l09Log's draw carries.
-/
namespace Go.Proofs.YtonleickhincgaaGreatDoor
open Go.RowKit Go.Lib
set_option linter.unusedVariables false
set_option maxRecDepth 20000

theorem lo_row {w : World} {base g : Nat} {e T : TypeId} {s : Nat} {v : Value} {n : Nat} {xs : List Value} {cs : Array Value} (h : w.ownsRow base e s v n xs) (hb : Bxs w g T cs) (hne : T ≠ e) : some g ≠ v.ownBlock := fun he => own_box h hb hne he.symm
theorem lo_box {w : World} {X Y : Nat} {T U : TypeId} {cs ds : Array Value} (h : Bxs w X T cs) (k : Bxs w Y U ds) (hne : T ≠ U) : X ≠ Y := fun e => by
  subst e
  unfold Bxs at h k
  rw [h] at k
  injection k with h1
  injection h1 with h2 h3
  exact hne h3
/-- A block below all of the log's own is written. -/
theorem LgO.touch {base : Nat} {xs : List (Rw × Value)} {lv : List ByteArray} {v1 v2 : Value} {w w' : World} {g : Nat} (h : LgO base xs lv v1 v2 w) (hg : w.grownBy w' (some g)) (hlt : g < base) : LgO base xs lv v1 v2 w' :=
  ⟨h.rws.kept hg (.inr (fun e => by have := (h.rws.lt.1 g e).1; omega)) (fun y hy => .inr (fun e => by have := (h.rws.lt.2 y hy g e).1; omega)), h.lvs.kept hg (.inr (fun e => by have := (h.lvs.lt g e).1; omega))⟩
/-- A log as it is drawn: of few rows and leaves, early. -/
structure LoD (n m : Nat) (t : Int) (rs : List Rw) (lv : List ByteArray) (now : Int) : Prop where
  n : rs.length ≤ n
  m : lv.length ≤ m
  le : RwsLe rs
  lz : TxtsLe lv
  t0 : 0 ≤ now
  t1 : now ≤ t
  f1 : ∀ r ∈ rs, 1 ≤ r.fs.length
theorem LoD.nil (n m : Nat) (t : Int) (ht : 0 ≤ t) : LoD n m t [] [] 0 := ⟨Nat.zero_le _, Nat.zero_le _, (fun r hr => by cases hr), (fun x hx => by cases hx), Int.le_refl _, ht, (fun r hr => by cases hr)⟩
section
variable {w0 x x' : World} {B p : Nat} {a : Option Addr} {len cap X Y : Nat} {v1 v2 u1 u2 : Value} {xs ys : List (Rw × Value)} {lv lu : List ByteArray} {now nu c : Int}
/-- A log in a box at X, beside the source at p. -/
structure LoS (w0 : World) (B p : Nat) (a : Option Addr) (len cap X : Nat) (v1 v2 : Value) (xs : List (Rw × Value)) (lv : List ByteArray) (now : Int) (x : World) : Prop where
  src : Src 126 B p a len cap x
  gr : w0.grownBy x (some p)
  hp : p < w0.heap.size
  hX : w0.heap.size ≤ X
  box : Bxs x X 41 #[v1, v2, .int .i64 now]
  lg : LgO w0.heap.size xs lv v1 v2 x
theorem LoS.below (h : LoS w0 B p a len cap X v1 v2 xs lv now x) (hb : Below x.heap.size x x') : LoS w0 B p a len cap X v1 v2 xs lv now x' := ⟨h.src.below hb, touch_below h.gr hb, h.hp, h.hX, h.box.below hb, h.lg.below hb⟩
theorem LoS.drew (h : LoS w0 B p a len cap X v1 v2 xs lv now x) : LoS w0 B p a len cap X v1 v2 xs lv now x.drew := h.below (Below.refl _ _).drew
theorem LoS.step (h : LoS w0 B p a len cap X v1 v2 xs lv now x) (hs' : Src 126 B p a len cap x') (hg : x.grownBy x' (some p)) : LoS w0 B p a len cap X v1 v2 xs lv now x' := by
  have hp := h.hp
  have hX := h.hX
  exact ⟨hs', touch_trans h.gr hg, hp, hX, (hg.block X h.box.lt (fun e => by cases e; omega)).trans h.box, h.lg.touch hg hp⟩
theorem LoS.cells (h : LoS w0 B p a len cap X v1 v2 xs lv now x) : x.cell? ⟨X, 0, none⟩ = some v1 ∧ x.cell? ⟨X, 1, none⟩ = some v2 ∧ x.cell? ⟨X, 2, none⟩ = some (.int .i64 now) ∧ x.frozen? ⟨X, 0, none⟩ = false ∧ x.frozen? ⟨X, 1, none⟩ = false ∧ x.frozen? ⟨X, 2, none⟩ = false := ⟨h.box.cell 0, h.box.cell 1, h.box.cell 2, h.box.fr 0, h.box.fr 1, h.box.fr 2⟩
/-- The log can be read. -/
theorem LoS.at {q : Option Addr} {p' : Option Addr} {cq cp n m : Nat} {t : Int} (h : LoS w0 B p a len cap X (.slice q xs.length cq) (.slice p' lv.length cp) xs lv now x) (hd : LoD n m t (xs.map (·.1)) lv now) (hn : n ≤ 1048576) (hm : m ≤ 1048576) : LgAt p' lv cp q (xs.map (·.1)) cq x := by
  obtain ⟨_, _, e1, hc1⟩ := h.lg.rws.form
  obtain ⟨_, _, e2, hc2, ht⟩ := ownS_form h.lg.lvs
  cases e1; cases e2
  have h1 := hd.n
  have h2 := hd.m
  have h3 : (xs.map (·.1)).length = xs.length := List.length_map _
  exact ⟨ht, hc2, by omega, hd.lz, h.lg.rws.at, by omega, by omega, hd.le⟩
/-- A box of another type, made since, is written: the source and the log stay. -/
theorem LoS.wrote {T : TypeId} {cs : Array Value} (h : LoS w0 B p a len cap X v1 v2 xs lv now x) (hY : w0.heap.size ≤ Y) (k : Bxs x Y T cs) (n0 : T ≠ 41) (n1 : T ≠ 100) (n2 : T ≠ 122) (n3 : T ≠ 9) (g : x.grownBy x' (some Y)) : LoS w0 B p a len cap X v1 v2 xs lv now x' := by
  have hp := h.hp
  have ne := lo_box k h.box n0
  exact ⟨h.src.other g (fun j hj => by cases hj; omega), touch_own h.gr g (fun j hj => by cases hj; exact hY), hp, h.hX, (g.block X h.box.lt (fun e => by cases e; exact ne rfl)).trans h.box, h.lg.box k n1 n2 n3 g⟩
/-- Another log of memory of its own is put into the box. -/
theorem LoS.put (h : LoS w0 B p a len cap X v1 v2 xs lv now x) (ho : LgO w0.heap.size ys lu u1 u2 x) (nu : Int) : LoS w0 B p a len cap X u1 u2 ys lu nu (((x.setCell ⟨X, 0, none⟩ u1).setCell ⟨X, 1, none⟩ u2).setCell ⟨X, 2, none⟩ (.int .i64 nu)) := by
  have hp := h.hp
  have hX := h.hX
  have g : x.grownBy (((x.setCell ⟨X, 0, none⟩ u1).setCell ⟨X, 1, none⟩ u2).setCell ⟨X, 2, none⟩ (.int .i64 nu)) (some X) := touch_set (touch_set (set_grw x X 0 u1) 1 u2) 2 _
  exact ⟨h.src.other g (fun j hj => by cases hj; omega), touch_own h.gr g (fun j hj => by cases hj; exact hX), hp, hX, ((h.box.set 0 _).set 1 _).set 2 _, ho.box h.box (by decide) (by decide) (by decide) g⟩
/-- The leaves grow by one text. -/
theorem LoS.appL (h : LoS w0 B p a len cap X v1 v2 xs lv now x) (t : ByteArray) (hl : lv.length + 1 ≤ 1048576) :
    ∃ q d y, (Builtin.append_ #[25, 25] 25 #[v2, .slice (some ⟨x.heap.size, 0, none⟩) 1 1]).run Tryz.prog (x.alloc (.cells #[.string t] 9)) = .ok (.slice q (lv.length + 1) d) y ∧
      LoS w0 B p a len cap X v1 (.slice q (lv.length + 1) d) xs (lv ++ [t]) now (y.setCell ⟨X, 1, none⟩ (.slice q (lv.length + 1) d)) ∧ (y.cell? ⟨X, 0, none⟩ = some v1 ∧ y.cell? ⟨X, 1, none⟩ = some v2 ∧ y.cell? ⟨X, 2, none⟩ = some (.int .i64 now)) ∧ y.frozen? ⟨X, 1, none⟩ = false := by
  have hp := h.hp
  have hX := h.hX
  have H := h.below ((Below.refl _ _).alloc (Nat.le_refl _) (.cells #[.string t] 9))
  obtain ⟨g, d, y, h1, h2, h3, -⟩ := app_str x w0.heap.size v2 lv h.lg.lvs t hl h.gr.size
  have hrow : ∀ j, v2.ownBlock = some j → w0.heap.size ≤ j := fun j hj => (H.lg.lvs.lt j hj).1
  have kb : Bxs y X 41 #[v1, v2, .int .i64 now] := H.box.grown h3 (lo_row H.lg.lvs H.box (by decide))
  have sy : Src 126 B p a len cap y := H.src.other h3 (fun j hj => by have := hrow j hj; omega)
  have gy : w0.grownBy y (some p) := touch_own H.gr h3 hrow
  have ho : LgO w0.heap.size xs (lv ++ [t]) v1 (.slice (some ⟨g, 0, none⟩) (lv.length + 1) d) y := ⟨H.lg.rws.kept h3 (own_apart H.lg.rws.own H.lg.lvs (by decide)) (fun z hz => own_apart (H.lg.rws.fld z hz) H.lg.lvs (by decide)), h2⟩
  have k := set_grw y X 1 (.slice (some ⟨g, 0, none⟩) (lv.length + 1) d)
  exact ⟨some ⟨g, 0, none⟩, d, y, h1, ⟨sy.other k (fun j hj => by cases hj; omega), touch_own gy k (fun j hj => by cases hj; exact hX), hp, hX, kb.set 1 _, ho.box kb (by decide) (by decide) (by decide) k⟩, ⟨kb.cell 0, kb.cell 1, kb.cell 2⟩, kb.fr 1⟩
/-- The rows grow by one, whose fields came later than all that is there. -/
theorem LoS.appR {xf : World} (h0 : LoS w0 B p a len cap X v1 v2 xs lv now xf) (h : LoS w0 B p a len cap X v1 v2 xs lv now x) (r : Rw) (q : Option Addr) (d : Nat) (hf : x.ownsRow xf.heap.size 122 5 (.slice q r.fs.length d) r.fs.length (fldRow r.fs)) (hl : xs.length + 1 ≤ 1048576) :
    ∃ q2 d2 y, (Builtin.append_ #[39, 39] 39 #[v1, .slice (some ⟨x.heap.size, 0, none⟩) 1 1]).run Tryz.prog (x.alloc (.cells #[.string r.k, .int .i64 r.a, .slice q r.fs.length d] 100)) = .ok (.slice q2 (xs.length + 1) d2) y ∧
      LoS w0 B p a len cap X (.slice q2 (xs.length + 1) d2) v2 (xs ++ [(r, .slice q r.fs.length d)]) lv now (y.setCell ⟨X, 0, none⟩ (.slice q2 (xs.length + 1) d2)) ∧ (y.cell? ⟨X, 0, none⟩ = some v1 ∧ y.cell? ⟨X, 1, none⟩ = some v2 ∧ y.cell? ⟨X, 2, none⟩ = some (.int .i64 now)) ∧ y.frozen? ⟨X, 0, none⟩ = false := by
  have hp := h.hp
  have hX := h.hX
  have hal := (Below.refl x.heap.size x).alloc (Nat.le_refl _) (.cells #[.string r.k, .int .i64 r.a, .slice q r.fs.length d] 100)
  have H := h.below hal
  have hc : CelAt (x.alloc (.cells #[.string r.k, .int .i64 r.a, .slice q r.fs.length d] 100)) (some ⟨x.heap.size, 0, none⟩) (rcRow [rcV (r, .slice q r.fs.length d)]) := fun j hj => ⟨x.heap.size, 0, rfl, by simp, by
    rw [Nat.zero_add, (Bxs.new x 100 #[.string r.k, .int .i64 r.a, .slice q r.fs.length d]).cell j]
    have hj3 : j < 3 := by simpa [rcRow, rcCells] using hj
    match j, hj3 with
    | 0, _ => rfl
    | 1, _ => rfl
    | 2, _ => rfl⟩
  obtain ⟨q2, d2, y, h1, h2, h3, h4⟩ := H.lg.rws.app (r, .slice q r.fs.length d) (some ⟨x.heap.size, 0, none⟩) 1 rfl hc (own_low (ownS_below hf hal) h0.gr.size) (fun z hz => by
    cases hy2 : z.2.ownBlock with
    | none => exact .inl rfl
    | some j =>
      refine .inr (fun e => ?_)
      have a := ((h0.lg.rws.lt.2 z hz) j hy2).2
      have b := (hf.lt j e.symm).1
      omega) hl H.gr.size
  have hrow : ∀ j, v1.ownBlock = some j → w0.heap.size ≤ j := fun j hj => (H.lg.rws.lt.1 j hj).1
  have kb : Bxs y X 41 #[v1, v2, .int .i64 now] := H.box.grown h3 (lo_row H.lg.rws.own H.box (by decide))
  have hl2 : y.ownsRow w0.heap.size 9 1 v2 lv.length (strRow lv) := H.lg.lvs.kept h3 (own_apart H.lg.lvs H.lg.rws.own (by decide))
  have sy : Src 126 B p a len cap y := H.src.other h3 (fun j hj => by have := hrow j hj; omega)
  have gy : w0.grownBy y (some p) := touch_own H.gr h3 hrow
  have ho : LgO w0.heap.size (xs ++ [(r, .slice q r.fs.length d)]) lv (.slice q2 (xs.length + 1) d2) v2 y := ⟨h2, hl2⟩
  have k := set_grw y X 0 (.slice q2 (xs.length + 1) d2)
  exact ⟨q2, d2, y, h1, ⟨sy.other k (fun j hj => by cases hj; omega), touch_own gy k (fun j hj => by cases hj; exact hX), hp, hX, kb.set 0 _, ho.box kb (by decide) (by decide) (by decide) k⟩, ⟨kb.cell 0, kb.cell 1, kb.cell 2⟩, kb.fr 0⟩
/-- The first row's first field's Gone is turned. -/
theorem LoS.flip {k : ByteArray} {at_ : Int} {f0 : Fld} {fr : List Fld} {fb fc : Nat} {xr : List (Rw × Value)} (h : LoS w0 B p a len cap X v1 v2 ((⟨k, at_, f0 :: fr⟩, .slice (some ⟨fb, 0, none⟩) (f0 :: fr).length fc) :: xr) lv now x) (g : Bool) :
    Src 126 B p a len cap (x.setCell ⟨fb, 4, none⟩ (.bool g)) ∧ w0.grownBy (x.setCell ⟨fb, 4, none⟩ (.bool g)) (some p) ∧ LgO w0.heap.size ((⟨k, at_, ⟨f0.n, f0.c, f0.s, f0.v, g⟩ :: fr⟩, .slice (some ⟨fb, 0, none⟩) (f0 :: fr).length fc) :: xr) lv v1 v2 (x.setCell ⟨fb, 4, none⟩ (.bool g)) ∧ Bxs (x.setCell ⟨fb, 4, none⟩ (.bool g)) X 41 #[v1, v2, .int .i64 now] := by
  have hp := h.hp
  have hf := h.lg.rws.fld _ (List.mem_cons_self ..)
  have hfb := (hf.lt fb rfl).1
  have kg := set_grw x fb 4 (.bool g)
  refine ⟨h.src.other kg (fun j hj => by cases hj; omega), touch_own h.gr kg (fun j hj => by cases hj; exact hfb), ⟨⟨?_, fun y hy => ?_, ?_⟩, ?_⟩, ?_⟩
  · have o := h.lg.rws.own.kept kg (by have := own_apart h.lg.rws.own hf (by decide); exact this)
    exact o
  · rcases List.mem_cons.1 hy with rfl | hy
    · have o := World.ownsRow.stored hf 4 (.bool g)
      exact o.1
    · have ne := (List.pairwise_cons.1 h.lg.rws.ne).1 y hy
      refine (h.lg.rws.fld y (List.mem_cons_of_mem _ hy)).kept kg (.inr (fun e => ?_))
      rcases ne with q | q
      · cases q
      · exact q e.symm
  · have ne := List.pairwise_cons.1 h.lg.rws.ne
    exact List.pairwise_cons.2 ⟨ne.1, ne.2⟩
  · exact h.lg.lvs.kept kg (by have := own_apart h.lg.lvs hf (by decide); exact this)
  · exact (kg.block X h.box.lt (fun e => by cases e; exact own_box hf h.box (by decide) rfl)).trans h.box
/-- A LogOut in its box: a log of memory of its own; right where the code is zero. -/
def LoV (w0 : World) (n m : Nat) (t : Int) (Y : Nat) (x : World) : Prop := w0.heap.size ≤ Y ∧ ∃ (u1 u2 : Value) (ys : List (Rw × Value)) (lu : List ByteArray) (nu c : Int), Bxs x Y 136 #[u1, u2, .int .i64 nu, .int .i64 c] ∧ LgO w0.heap.size ys lu u1 u2 x ∧ (c = 0 → LoD n m t (ys.map (·.1)) lu nu)
theorem LoV.below {n m : Nat} {t : Int} (h : LoV w0 n m t Y x) (hb : Below x.heap.size x x') : LoV w0 n m t Y x' := by
  obtain ⟨hY, u1, u2, ys, lu, nu, c, k, o, d⟩ := h
  exact ⟨hY, u1, u2, ys, lu, nu, c, k.below hb, o.below hb, d⟩
theorem LoV.touch {n m : Nat} {t : Int} (h : LoV w0 n m t Y x) (hg : x.grownBy x' (some p)) (hp : p < w0.heap.size) : LoV w0 n m t Y x' := by
  obtain ⟨hY, u1, u2, ys, lu, nu, c, k, o, d⟩ := h
  exact ⟨hY, u1, u2, ys, lu, nu, c, (hg.block Y k.lt (fun e => by cases e; omega)).trans k, o.touch hg hp, d⟩
/-- An answer of memory of its own is put into a LogOut's box. -/
theorem LoV.put {n m : Nat} {t : Int} {cs : Array Value} (hY : w0.heap.size ≤ Y) (k : Bxs x Y 136 cs) (hcs : cs.size = 4) (ho : LgO w0.heap.size ys lu u1 u2 x) (nu c : Int) (hd : c = 0 → LoD n m t (ys.map (·.1)) lu nu) :
    LoV w0 n m t Y ((((x.setCell ⟨Y, 0, none⟩ u1).setCell ⟨Y, 1, none⟩ u2).setCell ⟨Y, 2, none⟩ (.int .i64 nu)).setCell ⟨Y, 3, none⟩ (.int .i64 c)) := by
  have g : x.grownBy ((((x.setCell ⟨Y, 0, none⟩ u1).setCell ⟨Y, 1, none⟩ u2).setCell ⟨Y, 2, none⟩ (.int .i64 nu)).setCell ⟨Y, 3, none⟩ (.int .i64 c)) (some Y) := touch_set (touch_set (touch_set (set_grw x Y 0 u1) 1 u2) 2 _) 3 _
  match cs, hcs with
  | ⟨[a0, a1, a2, a3]⟩, _ => exact ⟨hY, u1, u2, ys, lu, nu, c, (((k.set 0 _).set 1 _).set 2 _).set 3 _, ho.box k (by decide) (by decide) (by decide) g, hd⟩
end
end Go.Proofs.YtonleickhincgaaGreatDoor
/-
  What LogAdd, LogForget and LogTime answer of a log as it is drawn is one, where the code is zero (plain).
-/
namespace Go.Proofs.YtonleickhincgaaGreatDoor
open Go.RowKit Go.Lib
set_option linter.unusedVariables false
set_option maxRecDepth 20000

theorem lo_lf (k : ByteArray) (at_ : Int) (fs : List Fld) : (lfB k at_ fs).size ≤ 33 := by
  unfold lfB
  split
  · rw [ByteArray.size_append, digB_size]; decide
  · simp
theorem la_drawn {rs : List Rw} {lv : List ByteArray} {now : Int} {r : Rw} (hd : LoD 6 65 1000000 rs lv now) (hr : r.fs.length ≤ 1048576 ∧ r.k.size ≤ maxLen ∧ FldsLe r.fs) (h : laC rs lv now r = 0) : LoD 6 65 1000000 (laR rs lv now r) (laL rs lv now r) (laN rs lv now r) := by
  have e1 : laR rs lv now r = rs ++ [r] := by unfold laR; rw [if_pos h]
  have e2 : laL rs lv now r = lv ++ [lfB r.k r.a r.fs] := by unfold laL; rw [if_pos h]
  have e3 : laN rs lv now r = now := by unfold laN; rw [if_pos h]
  unfold laC at h
  split at h
  · rename_i hk
    by_cases h6 : rs.length = 6
    · rw [if_pos h6] at h; omega
    unfold laK at hk
    rw [Bool.and_eq_true] at hk
    obtain ⟨l1, l2, -⟩ := lg_right hk.1
    rw [e1, e2, e3]
    have hf1 : 1 ≤ r.fs.length := by
      have h2 := hk.2
      rw [Bool.and_eq_true] at h2
      exact (rwB_parts h2.1).2.2.1.1
    refine ⟨by simp; omega, by simp; omega, fun x hx => ?_, fun x hx => ?_, hd.t0, hd.t1, fun x hx => ?_⟩
    · rcases List.mem_append.1 hx with g | g
      · exact hd.le x g
      · rw [List.mem_singleton.1 g]; exact hr
    · rcases List.mem_append.1 hx with g | g
      · exact hd.lz x g
      · rw [List.mem_singleton.1 g]
        have := lo_lf r.k r.a r.fs
        unfold maxLen; omega
    · rcases List.mem_append.1 hx with g | g
      · exact hd.f1 x g
      · rw [List.mem_singleton.1 g]; exact hf1
  · omega
theorem lf_drawn {rs : List Rw} {lv : List ByteArray} {now r f y : Int} (hd : LoD 6 65 1000000 rs lv now) (h : lfC rs lv now r f y = 0) : LoD 6 65 1000000 (lfR rs lv now r f y) (lfL rs lv now r f y) (lfN rs lv now r f y) := by
  obtain ⟨e1, e2, e3⟩ := lf_good h
  unfold lfC at h
  split at h
  · rename_i hk
    rw [Bool.and_eq_true] at hk
    obtain ⟨l1, l2, -⟩ := lg_right hk.1
    obtain ⟨I, J, hI, hJ, rfl, rfl, -⟩ := fc_zero h
    have hrI : rs.getD (I : Int).toNat rwZ = rs[I] := by rw [Int.toNat_natCast, List.getD_eq_getElem?_getD, List.getElem?_eq_getElem hI, Option.getD_some]
    have hz := hd.le _ (List.getElem_mem hI)
    rw [e1, e2, e3]
    refine ⟨by simpa using l1, by simp; omega, fun x hx => ?_, fun x hx => ?_, hd.t0, hd.t1, fun x hx => ?_⟩
    · rcases List.mem_or_eq_of_mem_set hx with g | rfl
      · exact hd.le x g
      · unfold fgt
        rw [hrI]
        refine ⟨by simpa using hz.1, hz.2.1, fun g hg => ?_⟩
        rcases List.mem_or_eq_of_mem_set hg with q | rfl
        · exact hz.2.2 g q
        · have hJ2 : rs[I].fs.getD (J : Int).toNat fldD = rs[I].fs[J] := by rw [Int.toNat_natCast, List.getD_eq_getElem?_getD, List.getElem?_eq_getElem hJ, Option.getD_some]
          have := hz.2.2 _ (List.getElem_mem hJ)
          rw [hJ2]
          exact ⟨this.1, this.2.1, Nat.zero_le _, Nat.zero_le _⟩
    · rcases List.mem_append.1 hx with g | g
      · exact hd.lz x g
      · rw [List.mem_singleton.1 g]
        have := (tmRaw_size ⟨(I : Int), (J : Int), y, now⟩).2
        unfold maxLen; omega
    · rcases List.mem_or_eq_of_mem_set hx with g | rfl
      · exact hd.f1 x g
      · unfold fgt
        rw [hrI]
        simpa using hd.f1 _ (List.getElem_mem hI)
  · omega
theorem lt_drawn {rs : List Rw} {lv : List ByteArray} {now t : Int} (hd : LoD 6 65 1000000 rs lv now) (h : ltC rs lv now t = 0) : LoD 6 65 1000000 (ltmR rs lv now t) (ltL rs lv now t) (ltN rs lv now t) := by
  unfold ltC at h
  split at h
  · rename_i hk
    have e1 : ltmR rs lv now t = rs := by unfold ltmR; rw [if_pos hk]
    have e2 : ltL rs lv now t = lv := by unfold ltL; rw [if_pos hk]
    have e3 : ltN rs lv now t = mxB now t := by unfold ltN; rw [if_pos hk]
    unfold ltB at hk
    rw [Bool.and_eq_true] at hk
    have ht := hk.2
    unfold timeB at ht
    have ht2 := of_decide_eq_true ht
    have a0 := hd.t0
    have a1 := hd.t1
    rw [e1, e2, e3]
    refine ⟨hd.n, hd.m, hd.le, hd.lz, ?_, ?_, hd.f1⟩ <;> (unfold mxB; split <;> omega)
  · omega
end Go.Proofs.YtonleickhincgaaGreatDoor
/-
  What spoil draws of a text: some text that is at most one byte longer.
-/
namespace Go.Proofs.YtonleickhincgaaGreatDoor
open Go.RowKit Go.Lib
set_option linter.unusedVariables false
set_option maxRecDepth 20000

theorem conv_oneB (n : Int) (w : World) : (convert 22 9 (.slice (some ⟨w.heap.size, 0, none⟩) 1 1)).run Tryz.prog (w.alloc (.cells #[.int .u8 n] 5)) = .ok (.string (strOfNums [n])) (w.alloc (.cells #[.int .u8 n] 5)) :=
  own_convD (base := w.heap.size) (xs := [n]) ⟨by simp, .inr ⟨w.heap.size, 1, #[.int .u8 n], rfl, Nat.le_refl _, heap_alloc_new w _, Nat.le_refl _, by unfold maxLen; omega, rfl, by simp⟩⟩ rfl
theorem size_app3 (a b c : ByteArray) : (a ++ b ++ c).size = a.size + b.size + c.size := by simp [ByteArray.size_append]
theorem belowDN {B : Nat} {a w : World} (h : Below B a w) (n : Nat) : Below B a (w.drewN n) := ⟨h.os, h.tape, h.output, h.size, h.block⟩
def SpoiltT (B p : Nat) (a : Option Addr) (len cap : Nat) (t : ByteArray) (w : World) (e : Ending) (w' : World) : Prop :=
  (∃ u : ByteArray, e = .returned (.string u) ∧ u.size ≤ t.size + 1) ∧ Src 126 B p a len cap w' ∧ w.grownBy w' (some p)
set_option maxHeartbeats 4000000 in
theorem spoilT_any (B p : Nat) (a : Option Addr) (len cap : Nat) (t : ByteArray) (w : World) (hs : Src 126 B p a len cap w) (ht : t.size ≤ 1000) :
    Calls Tryz.prog 35 #[.pointer (some ⟨p, 0, none⟩), .string t] w (SpoiltT B p a len cap t w) := by
  go_enter Tryz.func35, Tryz.ntmps35
  go_wp2_with fail
  refine (n_any B p a len cap ((t.size : Int) + 1) w hs (by omega)).mono ?_
  rintro e w2 ⟨⟨r, rfl, hr0, hr1, hr2⟩, hs2, G2⟩
  obtain ⟨K, rfl⟩ := Int.eq_ofNat_of_zero_le hr0
  have hK : K ≤ t.size := by
    rcases Nat.eq_zero_or_pos t.size with h | h
    · have := hr2 (by omega); omega
    · have := hr1 (by omega); omega
  clear hr0 hr1 hr2 hs
  go_wp2_with fail
  refine (n_any B p a len cap 17 w2 hs2 (by omega)).mono ?_
  rintro e w3 ⟨⟨r, rfl, hr0, hr1, -⟩, hs3, G3⟩
  obtain ⟨R, rfl⟩ := Int.eq_ofNat_of_zero_le hr0
  have hR : R < 17 := by have := hr1 (by omega); omega
  have G3' : Hid (w.grownBy w3 (some p)) := touch_trans G2 G3
  have H3 : Hid (Src 126 B p a len cap w3) := hs3
  clear hr0 hr1 hs2 hs3 G2 G3
  have hcv := fun n => conv_oneB n w3
  obtain ⟨W4, hW4⟩ : ∃ W4, W4 = fun n : Int => w3.alloc (.cells #[.int .u8 n] 5) := ⟨_, rfl⟩
  have HB : Hid (∀ n, Src 126 B p a len cap (W4 n) ∧ w.grownBy (W4 n) (some p)) := fun n => by
    rw [hW4]
    have b : Below w3.heap.size w3 (w3.alloc (.cells #[.int .u8 n] 5)) := (Below.refl _ _).alloc (Nat.le_refl _) _
    exact ⟨H3.out.below b, touch_below G3'.out b⟩
  have HW4 : Hid (∀ n, w3.alloc (.cells #[.int .u8 n] 5) = W4 n) := fun n => by rw [hW4]
  have hz1 : ∀ n : Int, (strOfNums [n]).size = 1 := fun n => by rw [strOfNums_size]; rfl
  clear hW4 H3 G3'
  go_upto_region 3 with fail
  rw [HW4.out]
  generalize (⟨#[32, 10, 48, 97, 45, 110, 44, 58, 93, 255, 40, 120, 126, 49, 128, 225, 59]⟩ : ByteArray)[R] = cb at *
  obtain ⟨x4, hx4⟩ : ∃ x4, x4 = W4 (cb.toNat : Int) := ⟨_, rfl⟩
  obtain ⟨hs4, hg4⟩ := HB.out (cb.toNat : Int)
  obtain ⟨c1, hc1⟩ : ∃ c1, c1 = strOfNums [(cb.toNat : Int)] := ⟨_, rfl⟩
  have hzc := hz1 (cb.toNat : Int)
  rw [← hx4] at hs4 hg4 ⊢
  rw [← hc1] at hzc ⊢
  clear hx4 HB HW4 hz1 hc1 hcv
  have HK : Hid (K ≤ t.size) := hK
  have hKi : (K : Int) ≤ (t.size : Int) := by omega
  have HZ : Hid (c1.size = 1) := hzc
  have HEnd : Hid (∀ (x : World) (u : ByteArray) (m : Nat), Src 126 B p a len cap x → w.grownBy x (some p) → u.size ≤ t.size + 1 → SpoiltT B p a len cap t w (.returned (.string u)) (x.drewN m)) := fun x u m h1 h2 h3 => ⟨⟨u, rfl, h3⟩, h1.below (belowDN (Below.refl _ _) m), touch_below h2 (belowDN (Below.refl _ _) m)⟩
  have hmz : t.size ≤ 9223372036854775807 := by omega
  have v1 : (t.extract 0 K).size ≤ 1000 := by simp; omega
  have v2 : c1.size ≤ 10 := by omega
  have v3 : (t.extract 0 K ++ c1).size ≤ 1010 := by rw [ByteArray.size_append]; omega
  have v4 : (t.extract K t.size).size ≤ 1000 := by simp; omega
  have v5 : (t.extract (K + 1) t.size).size ≤ 1000 := by simp; omega
  clear hzc
  by_cases hk : K = t.size
  · have e1 : ((K : Int) == (t.size : Int)) = true := beq_iff_eq.2 (by omega)
    have HE : Hid _ := fun m => HEnd.out x4 (t.extract 0 K ++ c1 ++ t.extract K t.size) m hs4 hg4 (by rw [size_app3, HZ.out]; simp; omega)
    clear HEnd hs4 hg4 hk
    go_wp2_with fail
    go_quiet (fail)
    go_wp2_with fail
    go_ret
    exact HE.out _
  have e1 : ((K : Int) == (t.size : Int)) = false := beq_eq_false_iff_ne.2 (by omega)
  have hlt : K < t.size := by omega
  have H4 : Hid (Src 126 B p a len cap x4) := hs4
  have G4 : Hid (w.grownBy x4 (some p)) := hg4
  clear hs4 hg4 hk
  go_wp2_with fail
  refine (one_any B p a len cap 3 x4 H4.out (by omega)).mono ?_
  rintro e x5 ⟨⟨bo, rfl⟩, hs5, hg5⟩
  have hg5 := touch_trans G4.out hg5
  cases bo
  · have H5 : Hid (Src 126 B p a len cap x5) := hs5
    have G5 : Hid (w.grownBy x5 (some p)) := hg5
    clear hs5 hg5 H4 G4
    go_wp2_with fail
    refine (one_any B p a len cap 2 x5 H5.out (by omega)).mono ?_
    rintro e x6 ⟨⟨bo, rfl⟩, hs6, hg6⟩
    have hg6 := touch_trans G5.out hg6
    have hw1 : IntKind.i64.wrap ((K : Int) + 1) = (K : Int) + 1 := by rw [IntKind.wrap_i64]; omega
    have hk1 : (K : Int) + 1 ≤ (t.size : Int) := by omega
    have hk2 : K + 1 ≤ t.size := by omega
    cases bo
    · have HE : Hid _ := fun m => HEnd.out x6 (t.extract 0 K ++ c1 ++ t.extract (K + 1) t.size) m hs6 hg6 (by rw [size_app3, HZ.out]; simp; omega)
      clear HEnd hs6 hg6 H5 G5
      go_wp2_with fail
      go_quiet (fail)
      go_wp2_with fail
      go_ret
      exact HE.out _
    · have HE : Hid _ := fun m => HEnd.out x6 (t.extract 0 K ++ t.extract (K + 1) t.size) m hs6 hg6 (by simp [ByteArray.size_append]; omega)
      clear HEnd hs6 hg6 H5 G5
      go_wp2_with fail
      go_quiet (fail)
      go_wp2_with fail
      go_ret
      exact HE.out _
  · have HE : Hid _ := fun m => HEnd.out x5 (t.extract 0 K ++ c1 ++ t.extract K t.size) m hs5 hg5 (by rw [size_app3, HZ.out]; simp; omega)
    clear HEnd hs5 hg5 H4 G4
    go_wp2_with fail
    go_quiet (fail)
    go_wp2_with fail
    go_ret
    exact HE.out _
end Go.Proofs.YtonleickhincgaaGreatDoor
