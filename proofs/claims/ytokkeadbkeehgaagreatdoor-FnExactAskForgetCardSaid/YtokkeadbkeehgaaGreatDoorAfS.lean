/-
  What the specification's AskForget answers, in new memory.
-/
import Derived.Test.YtokkeadbkeehgaaGreatDoorRows
import Derived.Test.YtokkeadbkeehgaaGreatDoorBytesDigMathTreeMathSlASlBBxKOwnSTakesLTillTwo
import Derived.Test.YtokkeadbkeehgaaGreatDoorPolAnsKeepMAfMathLawAfStepAppOwnBTurn2
import Derived.Test.YtokkeadbkeehgaaGreatDoorTimeBPutMathPutNumJoinedPutTextFldMathFldRiseScanMath
import Derived.Test.YtokkeadbkeehgaaGreatDoorLgAtKShwKOneKFldGFldBlkRwBlkIntKLawILawOGLawImBlNotRulMathAppS
import Derived.Test.YtokkeadbkeehgaaGreatDoorGetValGetTxtNumMathFldRdNumFromTmbMathLgMath
import Derived.Test.YtokkeadbkeehgaaGreatDoorLawLqLgAnsLgRtLtMathLawLtLawFXLawLa
import Derived.Test.YtokkeadbkeehgaaGreatDoorLawLkRowOpsLgOLawLo
import Derived.Test.YtokkeadbkeehgaaGreatDoorLawSwLfMathLaMathLfSumPolMathPolIdxRulIdxPolO
import Derived.Test.YtokkeadbkeehgaaGreatDoorFldOMFldOFldFFldTbGrKSpecGNSpecGTFldN
import Derived.Test.YtokkeadbkeehgaaGreatDoorSpecLr
import Derived.Test.YtokkeadbkeehgaaGreatDoorImplTrLeafKSpecPl
import Derived.Test.YtokkeadbkeehgaaGreatDoorSpecCl
import Derived.Test.YtokkeadbkeehgaaGreatDoorLtSLfF
import Derived.Test.YtokkeadbkeehgaaGreatDoorLfS
import Derived.Test.YtokkeadbkeehgaaGreatDoorRulBlkLawRlLawPoLawSLawM
import Derived.Test.YtokkeadbkeehgaaGreatDoorSpecMf
import Derived.Test.YtokkeadbkeehgaaGreatDoorAfB
import Derived.Handy
import Derived.WalkSpells
import Derived.OwnWalk
import Derived.Deep.RegionHeld3
import Derived.Deep.Cut
namespace Go.Proofs.YtokkeadbkeehgaaGreatDoor
open Go.RowKit Go.Lib
set_option linter.unusedVariables false
set_option maxRecDepth 20000

set_option maxHeartbeats 8000000 in
theorem specAskForget_any (p : Option Addr) (lv : List ByteArray) (cp : Nat) (q : Option Addr) (rs : List Rw) (cq : Nat) (now : Int) (p1 p2 : Option Addr) (c1 c2 : Nat) (us : List Rul) (hs : List Int) (r f : Int) (w : World) (hA : LgAt p lv cp q rs cq w) (hr : RulAt w p1 us) (hh : IntAt w p2 hs) (m1 : us.length ≤ c1) (m2 : hs.length ≤ c2) (hz : RulsLe us) (hu : us.length ≤ 1048576) (hhl : hs.length ≤ 1048576) :
    Calls Tryz.prog 19 #[.agg #[.slice q rs.length cq, .slice p lv.length cp, .int .i64 now], .agg #[.slice p1 us.length c1, .slice p2 hs.length c2], .int .i64 r, .int .i64 f] w fun e w' => SwA w.heap.size (afR rs lv now us hs r f) (afL rs lv now us hs r f) (afN rs lv now us hs r f) (afK rs lv now us hs r f) (mfO rs lv now us hs r f) e w' ∧ Below w.heap.size w w' := by
  obtain ⟨W3, hW3⟩ : ∃ W3, W3 = ((w.alloc (.cells #[.slice q rs.length cq, .slice p lv.length cp, .int .i64 now] 36)).alloc (.cells #[.slice p1 us.length c1, .slice p2 hs.length c2] 40)).alloc (.cells #[.slice none 0 0, .slice none 0 0, .int .i64 0, .int .i64 0, .int .i64 0] 50) := ⟨_, rfl⟩
  have HW3 : Hid (W3 = ((w.alloc (.cells #[.slice q rs.length cq, .slice p lv.length cp, .int .i64 now] 36)).alloc (.cells #[.slice p1 us.length c1, .slice p2 hs.length c2] 40)).alloc (.cells #[.slice none 0 0, .slice none 0 0, .int .i64 0, .int .i64 0, .int .i64 0] 50)) := hW3
  have H3 : Hid (AfB w q rs.length cq p lv.length cp now p1 us.length c1 p2 hs.length c2 W3) := af_boxes hW3
  have hMf : Calls Tryz.prog 51 #[.agg #[.slice q rs.length cq, .slice p lv.length cp, .int .i64 now], .agg #[.slice p1 us.length c1, .slice p2 hs.length c2], .int .i64 r, .int .i64 f] W3 fun e w' => e = .returned (.int .i64 (mfO rs lv now us hs r f)) ∧ Below W3.heap.size W3 w' := specMayForget_any p lv cp q rs cq now p1 p2 c1 c2 us hs r f W3 (hA.below H3.out.bel) (hr.below H3.out.bel) (hh.below H3.out.bel) m1 m2 hz hu hhl
  have HCp : Hid (lgB rs lv now = true → ∀ x, Below w.heap.size w x → Calls Tryz.prog 52 #[.agg #[.slice q rs.length cq, .slice p lv.length cp, .int .i64 now]] x fun e w' => ∃ v1 v2 xs, e = .returned (.agg #[v1, v2, .int .i64 now]) ∧ xs.map (·.1) = rs ∧ LgO x.heap.size xs lv v1 v2 w' ∧ Below x.heap.size x w') := fun hl x hx => by
    obtain ⟨hr1, hr2, hr3⟩ := lg_right hl
    exact l09Copy_any p lv cp q rs cq now x (hA.below hx) (fun r hr => by have := rB_len (hr3 r hr); omega)
  have HFg : Hid (∀ (I J : Nat) (hI : I < rs.length) (hJ : J < rs[I].fs.length), lgB rs lv now = true → rs[I].fs[J].g = false → ∀ x, Below w.heap.size w x → ∀ y q c, Below x.heap.size x y → FldAt y q rs[I].fs → rs[I].fs.length ≤ c → Calls Tryz.prog 87 #[.agg #[.string rs[I].k, .int .i64 rs[I].a, .slice q rs[I].fs.length c], .int .i64 J] y fun e w' => ∃ q' c', e = .returned (.agg #[.string rs[I].k, .int .i64 rs[I].a, .slice q' (rs[I].fs.set J (goneF rs[I].fs[J])).length c', .int .i64 0]) ∧ w'.ownsRow y.heap.size 98 5 (.slice q' (rs[I].fs.set J (goneF rs[I].fs[J])).length c') (rs[I].fs.set J (goneF rs[I].fs[J])).length (fldRow (rs[I].fs.set J (goneF rs[I].fs[J]))) ∧ Below y.heap.size y w') := fun I J hI hJ hl hg x hx yy qq c hb hF hc => by
    have hz := hA.rz _ (List.getElem_mem hI)
    have h := specForget_any rs[I].k rs[I].a qq c rs[I].fs J yy hF hz.1 hc hz.2.1 hz.2.2
    obtain ⟨e1, e2, e3, e4⟩ := forget_post (k := rs[I].k) (a := rs[I].a) ((lg_right hl).2.2 _ (List.getElem_mem hI)) hJ hg
    rw [e1, e2, e3, e4] at h
    refine h.mono ?_
    rintro e w' ⟨v, rfl, own, b⟩
    obtain ⟨q', c', rfl, _, _⟩ := ownF_form own
    exact ⟨q', c', rfl, own, b⟩
  have HTx : Hid (∀ (I J : Nat) (hI : I < rs.length) (hJ : J < rs[I].fs.length), lgB rs lv now = true → ∀ x, Calls Tryz.prog 88 #[.agg #[.int .i64 I, .int .i64 J, .int .i64 1, .int .i64 now]] x fun e w' => e = .returned (.string (tmRaw ⟨I, J, 1, now⟩)) ∧ Below x.heap.size x w') := fun I J hI hJ hl x => l08Text_any ⟨I, J, 1, now⟩ x (lg_tomb hl hI hJ (by omega))
  have HLn : Hid (lgB rs lv now = true → lv.length ≤ 64) := fun hl => (lg_right hl).2.1
  have HBd : Hid (¬ mfO rs lv now us hs r f = 0 → afR rs lv now us hs r f = [] ∧ afL rs lv now us hs r f = [] ∧ afN rs lv now us hs r f = 0 ∧ afK rs lv now us hs r f = 0) := fun h => af_bad h
  have HGd : Hid (mfO rs lv now us hs r f = 0 → (afR rs lv now us hs r f = rs.set r.toNat (fgt rs r f) ∧ afL rs lv now us hs r f = lv ++ [tmRaw ⟨r, f, 1, now⟩] ∧ afN rs lv now us hs r f = now ∧ afK rs lv now us hs r f = 1) ∧ lgB rs lv now = true ∧ fcO rs r f = 0) := fun h => ⟨af_good h, (mf_zero h).1, (mf_zero h).2.1⟩
  clear hW3 hA hr hh hz
  generalize mfO rs lv now us hs r f = M at *
  generalize afR rs lv now us hs r f = RR at *
  generalize afL rs lv now us hs r f = LL at *
  generalize afN rs lv now us hs r f = NN at *
  generalize afK rs lv now us hs r f = KK at *
  have HZ : Hid (∀ x, LgO w.heap.size [] [] (.slice none 0 0) (.slice none 0 0) x) := fun x => LgO.nil _ _
  obtain ⟨x0, x1, x2, x3, x4⟩ := H3.out.five
  obtain ⟨i0, i1, i2, i3, i4, i5, i6, i7, i8, i9⟩ := H3.out.res
  go_enter Tryz.func19, Tryz.ntmps19
  go_upto_region 1 with fail
  rw [← HW3.out]
  go_wp2_with fail
  with_reducible refine hMf.mono ?_
  rintro e y2 ⟨rfl, z1⟩
  have H4 : Hid (AfB w q rs.length cq p lv.length cp now p1 us.length c1 p2 hs.length c2 y2) := H3.out.below z1
  clear x0 x1 x2 x3 x4 i0 i1 i2 i3 i4 i5 i6 i7 i8 i9 H3 z1 hMf
  obtain ⟨x0, x1, x2, x3, x4⟩ := H4.out.five
  obtain ⟨i0, i1, i2, i3, i4, i5, i6, i7, i8, i9⟩ := H4.out.res
  by_cases hM : M = 0
  case neg =>
    obtain ⟨b1, b2, b3, b4⟩ := HBd.out hM
    have e0 : (M != 0) = true := by simpa using hM
    have e0b : (M == 0) = false := by simpa using hM
    subst b1 b2 b3 b4
    clear hM HBd HGd
    go_wp2_with fail
    obtain ⟨K, HLo, HEd⟩ := sw_put H4.out.rs (by omega) H4.out.bel (HZ.out y2) (.slice none 0 0) (.slice none 0 0) (.int .i64 0) (.int .i64 0) (.int .i64 M)
    generalize (((((y2.setCell ⟨w.heap.size + 2, 0, none⟩ (.slice none 0 0)).setCell ⟨w.heap.size + 2, 1, none⟩ (.slice none 0 0)).setCell ⟨w.heap.size + 2, 2, none⟩ (.int .i64 0)).setCell ⟨w.heap.size + 2, 3, none⟩ (.int .i64 0)).setCell ⟨w.heap.size + 2, 4, none⟩ (.int .i64 M)) = zz at *
    have HLp : Hid (LgO _ _ _ _ _ zz) := HLo
    have HEn : Hid (Below w.heap.size w zz) := HEd
    have k0 : zz.cell? ⟨w.heap.size + 2, 0, none⟩ = some (.slice none 0 0) := K.cell 0
    have k1 : zz.cell? ⟨w.heap.size + 2, 1, none⟩ = some (.slice none 0 0) := K.cell 1
    have k2 : zz.cell? ⟨w.heap.size + 2, 2, none⟩ = some (.int .i64 0) := K.cell 2
    have k3 : zz.cell? ⟨w.heap.size + 2, 3, none⟩ = some (.int .i64 0) := K.cell 3
    have k4 : zz.cell? ⟨w.heap.size + 2, 4, none⟩ = some (.int .i64 M) := K.cell 4
    refine bodyPost_ret (v := .agg #[.slice none 0 0, .slice none 0 0, .int .i64 0, .int .i64 0, .int .i64 M]) (by simp [results, Tryz.results19, go_sem, k0, k1, k2, k3, k4]) rfl ?_
    exact ⟨⟨_, _, [], rfl, rfl, HLp.out⟩, HEn.out⟩
  obtain ⟨⟨b1, b2, b3, b4⟩, hl, hf0⟩ := HGd.out hM
  obtain ⟨I, J, hI, hJ, rfl, rfl, hgn⟩ := fc_zero hf0
  rw [Int.toNat_natCast, fgt_eq hI hJ] at b1
  have b5 := b3.symm
  subst hM b1 b2 b5 b4
  have hCp := HCp.out hl y2 H4.out.bel
  have HFg2 := HFg.out I J hI hJ hl hgn y2 H4.out.bel
  have HTx2 := HTx.out I J hI hJ hl
  have HLv : Hid (lv.length + 1 ≤ 1048576) := by have := HLn.out hl; show _ ≤ _; omega
  generalize hTXe : tmRaw ⟨(I : Int), (J : Int), 1, now⟩ = TX at *
  generalize hFSe : rs[I].fs.set J (goneF rs[I].fs[J]) = FS at *
  have HTXe : Hid (tmRaw ⟨(I : Int), (J : Int), 1, now⟩ = TX) := hTXe
  have HFSe : Hid (rs[I].fs.set J (goneF rs[I].fs[J]) = FS) := hFSe
  clear hTXe hFSe
  have HFg3 : Hid (∀ x q c, Below y2.heap.size y2 x → FldAt x q rs[I].fs → rs[I].fs.length ≤ c → Calls Tryz.prog 87 #[.agg #[.string rs[I].k, .int .i64 rs[I].a, .slice q rs[I].fs.length c], .int .i64 J] x fun e w' => ∃ q' c', e = .returned (.agg #[.string rs[I].k, .int .i64 rs[I].a, .slice q' FS.length c', .int .i64 0]) ∧ w'.ownsRow x.heap.size 98 5 (.slice q' FS.length c') FS.length (fldRow FS) ∧ Below x.heap.size x w') := HFg2
  have HTx3 : Hid (∀ x, Calls Tryz.prog 88 #[.agg #[.int .i64 I, .int .i64 J, .int .i64 1, .int .i64 now]] x fun e w' => e = .returned (.string TX) ∧ Below x.heap.size x w') := HTx2
  have hI1 : (I : Int) < rs.length := by omega
  clear HBd HGd HFg HTx HFg2 HTx2 HCp HLn hgn hf0 hl
  go_wp2_with fail
  with_reducible refine hCp.mono ?_
  rintro e y4 ⟨v1, v2, xs, rfl, hx, ho, z4⟩
  have hxl : xs.length = rs.length := by rw [← hx, List.length_map]
  obtain ⟨g, c, rfl⟩ := ho.rws.some_of (by omega)
  obtain ⟨z2, zd, rfl, _, _⟩ := ownS_form ho.lvs
  have hIx : I < xs.length := by omega
  have hX : xs[I].1 = rs[I] := by
    have h1 := List.getElem_of_eq hx (i := I) (by simpa using hIx)
    rwa [List.getElem_map] at h1
  have HX : Hid (xs.map (·.1) = rs) := hx
  have HC5 : Hid (LgC y2 y4.heap.size xs lv now (.slice (some ⟨g, 0, none⟩) xs.length c) (.slice z2 lv.length zd) (y4.alloc (.cells #[.slice (some ⟨g, 0, none⟩) xs.length c, .slice z2 lv.length zd, .int .i64 now] 36))) := ⟨Bxs.new _ _ _, ho.below (alB (Below.refl _ _) _), z4.size, alB z4 _⟩
  have HY2 : Hid (w.heap.size + 2 < y2.heap.size) := H4.out.rs.lt
  clear x0 x1 x2 x3 x4 i0 i1 i2 i3 i4 i5 i6 i7 i8 i9 hCp hx ho z4 hxl
  go_upto_region 5 with fail
  generalize y4.heap.size = E at *
  generalize y4.alloc (.cells #[.slice (some ⟨g, 0, none⟩) xs.length c, .slice z2 lv.length zd, .int .i64 now] 36) = y5 at *
  have hF := l09Forget_any y2 E xs lv now g c z2 zd y5 HC5.out I J hIx 1 rs[I] FS TX hX HLv.out HFg3.out HTx3.out
  clear HFg3 HTx3
  go_wp2_with fail
  with_reducible refine hF.mono ?_
  rintro e yA ⟨rfl, q1, cc1, z3, d3, h8⟩
  have HC8 : Hid (LgC y2 E (xs.set I (⟨rs[I].k, rs[I].a, FS⟩, .slice q1 FS.length cc1)) (lv ++ [TX]) now (.slice (some ⟨g, 0, none⟩) xs.length c) (.slice z3 (lv.length + 1) d3) yA) := h8
  clear h8 hF HC5
  have HM8 : Hid ((xs.set I ((⟨rs[I].k, rs[I].a, FS⟩ : Rw), Value.slice q1 FS.length cc1)).map (·.1) = rs.set I ⟨rs[I].k, rs[I].a, FS⟩) := by show _ = _; rw [set_fst, HX.out]
  obtain ⟨t0, t1, t2, g0, g1, g2⟩ := HC8.out.cells
  have HA8 : Hid (AfB w q rs.length cq p lv.length cp now p1 us.length c1 p2 hs.length c2 yA) := ⟨H4.out.lg.below HC8.out.bel, H4.out.po.below HC8.out.bel, H4.out.rs.below HC8.out.bel, chainB H4.out.bel HC8.out.bel⟩
  have HO8 : Hid (LgO w.heap.size (xs.set I (⟨rs[I].k, rs[I].a, FS⟩, .slice q1 FS.length cc1)) (lv ++ [TX]) (.slice (some ⟨g, 0, none⟩) xs.length c) (.slice z3 (lv.length + 1) d3) yA) := HC8.out.lg.lower (by have := HY2.out; omega)
  obtain ⟨i0, i1, i2, i3, i4, i5, i6, i7, i8, i9⟩ := HA8.out.res
  clear HC8
  go_wp2_with fail
  obtain ⟨K, HLo, HEd⟩ := sw_put HA8.out.rs (by omega) HA8.out.bel HO8.out (.slice (some ⟨g, 0, none⟩) xs.length c) (.slice z3 (lv.length + 1) d3) (.int .i64 now) (.int .i64 1) (.int .i64 0)
  generalize (((((yA.setCell ⟨w.heap.size + 2, 0, none⟩ (.slice (some ⟨g, 0, none⟩) xs.length c)).setCell ⟨w.heap.size + 2, 1, none⟩ (.slice z3 (lv.length + 1) d3)).setCell ⟨w.heap.size + 2, 2, none⟩ (.int .i64 now)).setCell ⟨w.heap.size + 2, 3, none⟩ (.int .i64 1)).setCell ⟨w.heap.size + 2, 4, none⟩ (.int .i64 0)) = zz at *
  have HLp : Hid (LgO _ _ _ _ _ zz) := HLo
  have HEn : Hid (Below w.heap.size w zz) := HEd
  have k0 : zz.cell? ⟨w.heap.size + 2, 0, none⟩ = some (.slice (some ⟨g, 0, none⟩) xs.length c) := K.cell 0
  have k1 : zz.cell? ⟨w.heap.size + 2, 1, none⟩ = some (.slice z3 (lv.length + 1) d3) := K.cell 1
  have k2 : zz.cell? ⟨w.heap.size + 2, 2, none⟩ = some (.int .i64 now) := K.cell 2
  have k3 : zz.cell? ⟨w.heap.size + 2, 3, none⟩ = some (.int .i64 1) := K.cell 3
  have k4 : zz.cell? ⟨w.heap.size + 2, 4, none⟩ = some (.int .i64 0) := K.cell 4
  refine bodyPost_ret (v := .agg #[.slice (some ⟨g, 0, none⟩) xs.length c, .slice z3 (lv.length + 1) d3, .int .i64 now, .int .i64 1, .int .i64 0]) (by simp [results, Tryz.results19, go_sem, k0, k1, k2, k3, k4]) rfl ?_
  rw [HTXe.out, HFSe.out]
  exact ⟨⟨_, _, _, rfl, HM8.out, HLp.out⟩, HEn.out⟩
end Go.Proofs.YtokkeadbkeehgaaGreatDoor
