/-
  What the program's Forget answers.
  Conditions: the cells of Fields hold the fields; the two tables of the digest lie as laid.
-/
import Derived.Test.YtokkeadbkeehgaaGreatDoorRows
import Derived.Test.YtokkeadbkeehgaaGreatDoorBytesDigMathTreeMathSlASlBBxKOwnSTakesLTillTwo
import Derived.Test.YtokkeadbkeehgaaGreatDoorFldOMFldOFldFFldTbGrKSpecGNSpecGTFldN
import Derived.Test.YtokkeadbkeehgaaGreatDoorLgAtKShwKOneKFldGFldBlkRwBlkIntKLawILawOGLawImBlNotRulMathAppS
import Derived.Test.YtokkeadbkeehgaaGreatDoorTimeBPutMathPutNumJoinedPutTextFldMathFldRiseScanMath
import Derived.Test.YtokkeadbkeehgaaGreatDoorPadIDigIDigAllImplFC
import Derived.Test.YtokkeadbkeehgaaGreatDoorImplFR
import Derived.Test.YtokkeadbkeehgaaGreatDoorImplCp
import Derived.Test.YtokkeadbkeehgaaGreatDoorImplFTImplOnImplFk
import Derived.Handy
import Derived.WalkSpells
import Derived.OwnWalk
import Derived.Deep.RegionHeld3
namespace Go.Proofs.YtokkeadbkeehgaaGreatDoor
open Go.RowKit Go.Lib
set_option linter.unusedVariables false
set_option maxRecDepth 20000

set_option maxHeartbeats 8000000 in
theorem implForget_any (k : ByteArray) (at_ : Int) (q : Option Addr) (c : Nat) (fs : List Fld) (ix : Int) (w : World) (hT : Tabs w) (hf : FldAt w q fs) (hn : fs.length ≤ 1048576) (hc : fs.length ≤ c) (hk : k.size ≤ maxLen) (hz : FldsLe fs) :
    Calls Tryz.prog 130 #[.agg #[.string k, .int .i64 at_, .slice q fs.length c], .int .i64 ix] w fun e w' => ∃ v, e = .returned (.agg #[.string (fgK k at_ fs ix), .int .i64 (fgA k at_ fs ix), v, .int .i64 (fgC k at_ fs ix)]) ∧ w'.ownsRow w.heap.size 98 5 v (fgF k at_ fs ix).length (fldRow (fgF k at_ fs ix)) ∧ Below w.heap.size w w' := by
  obtain ⟨W2, hW2⟩ : ∃ W2, W2 = (w.alloc (.cells #[.string k, .int .i64 at_, .slice q fs.length c] 96)).alloc (.cells #[.string ⟨#[]⟩, .int .i64 0, .slice none 0 0, .int .i64 0] 130) := ⟨_, rfl⟩
  have HW2 : Hid (W2 = (w.alloc (.cells #[.string k, .int .i64 at_, .slice q fs.length c] 96)).alloc (.cells #[.string ⟨#[]⟩, .int .i64 0, .slice none 0 0, .int .i64 0] 130)) := hW2
  have hs1 : (w.alloc (.cells #[.string k, .int .i64 at_, .slice q fs.length c] 96)).heap.size = w.heap.size + 1 := by simp
  have HS2 : Hid (W2.heap.size = w.heap.size + 2) := by rw [hW2]; show _ = _; simp
  have K0 : Hid (Bxs W2 w.heap.size 96 #[.string k, .int .i64 at_, .slice q fs.length c]) := by rw [hW2]; exact (Bxs.new _ _ _).alloc _
  have K1 : Hid (Bxs W2 (w.heap.size + 1) 130 #[.string ByteArray.empty, .int .i64 0, .slice none 0 0, .int .i64 0]) := by rw [hW2, ← hs1]; exact Bxs.new _ _ _
  have B2 : Hid (Below w.heap.size w W2) := by rw [hW2]; exact ((Below.refl _ _).alloc (Nat.le_refl _) _).alloc (by rw [hs1]; omega) _
  have HT : Hid (FldAt W2 q fs) := hf.below B2.out
  have HX : Hid (∀ x, Below W2.heap.size W2 x → x.cell? ⟨w.heap.size, 0, none⟩ = some (.string k) ∧ x.cell? ⟨w.heap.size, 1, none⟩ = some (.int .i64 at_) ∧ x.cell? ⟨w.heap.size, 2, none⟩ = some (.slice q fs.length c)) := fun x hb => ⟨(K0.out.below hb).cell 0, (K0.out.below hb).cell 1, (K0.out.below hb).cell 2⟩
  have HR : Hid (∀ x, Bxs x (w.heap.size + 1) 130 #[.string ByteArray.empty, .int .i64 0, .slice none 0 0, .int .i64 0] → x.cell? ⟨w.heap.size + 1, 0, none⟩ = some (.string ByteArray.empty) ∧ x.cell? ⟨w.heap.size + 1, 1, none⟩ = some (.int .i64 0) ∧ x.cell? ⟨w.heap.size + 1, 2, none⟩ = some (.slice none 0 0) ∧ x.cell? ⟨w.heap.size + 1, 3, none⟩ = some (.int .i64 0) ∧ x.frozen? ⟨w.heap.size + 1, 0, none⟩ = false ∧ x.frozen? ⟨w.heap.size + 1, 1, none⟩ = false ∧ x.frozen? ⟨w.heap.size + 1, 2, none⟩ = false ∧ x.frozen? ⟨w.heap.size + 1, 3, none⟩ = false) := fun x hb => ⟨hb.cell 0, hb.cell 1, hb.cell 2, hb.cell 3, hb.fr 0, hb.fr 1, hb.fr 2, hb.fr 3⟩
  have hF := fieldCode_any k at_ q c fs ix 7 W2 (hT.to B2.out) HT.out hn hc hk hz
  have HFC : Hid (fgC k at_ fs ix = fcC k at_ fs ix 7) := rfl
  obtain ⟨t0, t1, t2⟩ := HX.out W2 (Below.refl _ _)
  rw [HW2.out] at t0 t1 t2
  clear hW2 hf hs1 hT hz
  by_cases hcd : fcC k at_ fs ix 7 = 0
  case neg =>
    have HEr : Hid (∀ (y : World) (x0 x1 x2 x3 : Value), Below W2.heap.size W2 y → ∃ v, Ending.returned (.agg #[.string ByteArray.empty, .int .i64 0, .slice none 0 0, .int .i64 (fcC k at_ fs ix 7)]) = .returned (.agg #[.string (fgK k at_ fs ix), .int .i64 (fgA k at_ fs ix), v, .int .i64 (fgC k at_ fs ix)]) ∧ ((((y.setCell ⟨w.heap.size + 1, 0, none⟩ x0).setCell ⟨w.heap.size + 1, 1, none⟩ x1).setCell ⟨w.heap.size + 1, 2, none⟩ x2).setCell ⟨w.heap.size + 1, 3, none⟩ x3).ownsRow w.heap.size 98 5 v (fgF k at_ fs ix).length (fldRow (fgF k at_ fs ix)) ∧ Below w.heap.size w ((((y.setCell ⟨w.heap.size + 1, 0, none⟩ x0).setCell ⟨w.heap.size + 1, 1, none⟩ x1).setCell ⟨w.heap.size + 1, 2, none⟩ x2).setCell ⟨w.heap.size + 1, 3, none⟩ x3)) := by
      intro y x0 x1 x2 x3 hb
      have hn' : ¬ fgC k at_ fs ix = 0 := by rw [HFC.out]; exact hcd
      rw [show fgK k at_ fs ix = ByteArray.empty from if_neg hn', show fgA k at_ fs ix = 0 from if_neg hn', show fgF k at_ fs ix = [] from if_neg hn', HFC.out]
      exact ⟨_, rfl, World.ownsRow_nil _ _ _ _, below_set4 (chainB B2.out hb) (by omega) _ _ _ _⟩
    obtain ⟨cd, hcde⟩ : ∃ cd, cd = fcC k at_ fs ix 7 := ⟨_, rfl⟩
    rw [← hcde] at hF HEr hcd
    have d1 : (cd == 0) = false := beq_eq_false_iff_ne.2 hcd
    have d2 : (cd != 0) = true := bne_iff_ne.2 hcd
    clear hcde hcd HFC
    go_enter Tryz.func130, Tryz.ntmps130
    go_wp2_with fail
    rw [← HW2.out]
    refine hF.mono ?_
    rintro e y1 ⟨rfl, b1⟩
    have HE := fun x0 x1 x2 x3 => HEr.out y1 x0 x1 x2 x3 b1
    obtain ⟨r0, r1, r2, r3, f0, f1, f2, f3⟩ := HR.out y1 (K1.out.below b1)
    clear b1 HEr HR HX t0 t1 t2
    go_wp2_with fail
    refine bodyPost_ret (v := .agg #[.string ByteArray.empty, .int .i64 0, .slice none 0 0, .int .i64 cd]) (by simp [results, Tryz.results130, go_sem, r0, r1, r2, r3] <;> rfl) rfl ?_
    exact HE _ _ _ _
  have hC : Hid (fgC k at_ fs ix = 0) := HFC.out.trans hcd
  obtain ⟨hr, hin, hg0⟩ := fcC_zero (by omega) hcd
  obtain ⟨-, -, ⟨l1, l3⟩, -, -⟩ := rwB_parts hr
  rw [hcd] at hF
  have HK2 : Hid (fgK k at_ fs ix = k) := if_pos hC.out
  have HA2 : Hid (fgA k at_ fs ix = at_) := if_pos hC.out
  obtain ⟨I, hI⟩ := Int.eq_ofNat_of_zero_le hin.1
  subst hI
  have hIl : I < fs.length := by omega
  have i1 : (I : Int) < fs.length := by omega
  have HG : Hid (fs.getD I fldD = fs[I]) := by show _ = _; rw [List.getD_eq_getElem?_getD, List.getElem?_eq_getElem hIl]; rfl
  have HF2 : Hid (fgF k at_ fs I = fs.set I (goneF fs[I])) := by
    show (if _ then _ else _) = _
    rw [if_pos hC.out, Int.toNat_natCast, HG.out]
  have HGF : Hid (goneF fs[I] = ⟨fs[I].n, fs[I].c, ByteArray.empty, ByteArray.empty, true⟩) := rfl
  have HCp : Hid (∀ x, Below W2.heap.size W2 x → Calls Tryz.prog 128 #[.agg #[.string k, .int .i64 at_, .slice q fs.length c]] x fun e w' => ∃ b cc, e = .returned (.agg #[.string k, .int .i64 at_, .slice (some ⟨b, 0, none⟩) fs.length cc]) ∧ w'.ownsRow x.heap.size 98 5 (.slice (some ⟨b, 0, none⟩) fs.length cc) fs.length (fldRow fs) ∧ Below x.heap.size x w') := fun x hx => copiedRow_any k at_ q c fs x (HT.out.below hx) hc hr
  have HRow := fldRow_at fs I hIl
  clear hcd hr hg0 hin HG HFC hk
  generalize fs[I].n = fn at *
  generalize fs[I].c = fc at *
  generalize fs[I].s = fss at *
  generalize fs[I].v = fv at *
  generalize fs[I].g = fg at *
  generalize goneF fs[I] = GF at *
  have HRow2 : Hid ((fldRow fs)[I * 5]? = some (.string fn) ∧ (fldRow fs)[I * 5 + 1]? = some (.string fc) ∧ (fldRow fs)[I * 5 + 2]? = some (.string fss) ∧ (fldRow fs)[I * 5 + 3]? = some (.string fv) ∧ (fldRow fs)[I * 5 + 4]? = some (.bool fg)) := HRow
  clear HRow
  go_enter Tryz.func130, Tryz.ntmps130
  go_wp2_with fail
  rw [← HW2.out]
  refine hF.mono ?_
  rintro e y1 ⟨rfl, b1⟩
  clear t0 t1 t2
  obtain ⟨t0, t1, t2⟩ := HX.out y1 b1
  go_wp2_with fail
  refine (HCp.out y1 b1).mono ?_
  rintro e y4 ⟨bb, cc, rfl, own4, b4⟩
  have hbl : Hid (y1.heap.size ≤ bb) := (own4.lt bb rfl).1
  clear t0 t1 t2 HCp hF
  have HRw : Hid (∀ x : World, x.ownsRow y1.heap.size 98 5 (.slice (some ⟨bb, 0, none⟩) fs.length cc) fs.length (fldRow fs) → (x.cell? ⟨bb, I * 5, none⟩ = some (.string fn) ∧ x.cell? ⟨bb, I * 5 + 1, none⟩ = some (.string fc) ∧ x.cell? ⟨bb, I * 5 + 2, none⟩ = some (.string fss) ∧ x.cell? ⟨bb, I * 5 + 3, none⟩ = some (.string fv) ∧ x.cell? ⟨bb, I * 5 + 4, none⟩ = some (.bool fg)) ∧ x.frozen? ⟨bb, I * 5, none⟩ = false ∧ x.frozen? ⟨bb, I * 5 + 1, none⟩ = false ∧ x.frozen? ⟨bb, I * 5 + 2, none⟩ = false ∧ x.frozen? ⟨bb, I * 5 + 3, none⟩ = false ∧ x.frozen? ⟨bb, I * 5 + 4, none⟩ = false) := fun x ho => by
    have hr := HRow2.out
    rw [← ho.cellAt (I * 5) (by omega), ← ho.cellAt (I * 5 + 1) (by omega), ← ho.cellAt (I * 5 + 2) (by omega), ← ho.cellAt (I * 5 + 3) (by omega), ← ho.cellAt (I * 5 + 4) (by omega)] at hr
    exact ⟨hr, ho.frozenAt _, ho.frozenAt _, ho.frozenAt _, ho.frozenAt _, ho.frozenAt _⟩
  go_upto_region 5 with fail
  obtain ⟨y3, hy3⟩ : ∃ y3, y3 = y4.alloc (.cells #[.string k, .int .i64 at_, .slice (some ⟨bb, 0, none⟩) fs.length cc] 96) := ⟨_, rfl⟩
  rw [← hy3]
  have b3 : Hid (Below y4.heap.size y4 y3) := by rw [hy3]; exact (Below.refl _ _).alloc (Nat.le_refl _) _
  have s3 : Hid (y3.heap.size = y4.heap.size + 1) := by rw [hy3]; exact szA _ _
  have KZ : Hid (Bxs y3 y4.heap.size 96 #[.string k, .int .i64 at_, .slice (some ⟨bb, 0, none⟩) fs.length cc]) := by rw [hy3]; exact Bxs.new _ _ _
  obtain ⟨v0, v1, v2⟩ : y3.cell? ⟨y4.heap.size, 0, none⟩ = some (.string k) ∧ y3.cell? ⟨y4.heap.size, 1, none⟩ = some (.int .i64 at_) ∧ y3.cell? ⟨y4.heap.size, 2, none⟩ = some (.slice (some ⟨bb, 0, none⟩) fs.length cc) := ⟨KZ.out.cell 0, KZ.out.cell 1, KZ.out.cell 2⟩
  obtain ⟨⟨k0, k1, k2, k3, k4⟩, -⟩ := HRw.out y3 (ownS_below own4 b3.out)
  clear hy3
  go_upto_region 6 with fail
  obtain ⟨YF, hYF⟩ : ∃ YF, YF = y3.heap.size := ⟨_, rfl⟩
  obtain ⟨y5, hy5⟩ : ∃ y5, y5 = y3.alloc (.cells #[.string fn, .string fc, .string fss, .string fv, .bool fg] 98) := ⟨_, rfl⟩
  rw [← hy5, ← hYF]
  have b5 : Hid (Below y3.heap.size y3 y5) := by rw [hy5]; exact (Below.refl _ _).alloc (Nat.le_refl _) _
  have KY : Hid (Bxs y5 YF 98 #[.string fn, .string fc, .string fss, .string fv, .bool fg]) := by rw [hy5, hYF]; exact Bxs.new _ _ _
  have KZ5 : Hid (Bxs y5 y4.heap.size 96 #[.string k, .int .i64 at_, .slice (some ⟨bb, 0, none⟩) fs.length cc]) := KZ.out.below b5.out
  have own5 : Hid (y5.ownsRow y1.heap.size 98 5 (.slice (some ⟨bb, 0, none⟩) fs.length cc) fs.length (fldRow fs)) := ownS_below (ownS_below own4 b3.out) b5.out
  have b25 : Hid (Below W2.heap.size W2 y5) := chainB b1 (chainB b4 (chainB b3.out b5.out))
  have BR5 : Hid (Below y5.heap.size y5 y5.drew) := (Below.refl _ _).drew
  have HH : Hid (∀ x, Below y5.heap.size y5 x → x.cell? ⟨y4.heap.size, 2, none⟩ = some (.slice (some ⟨bb, 0, none⟩) fs.length cc) ∧ x.cell? ⟨YF, 0, none⟩ = some (.string fn) ∧ x.cell? ⟨YF, 1, none⟩ = some (.string fc)) := fun x hx => ⟨(KZ5.out.below hx).cell 2, (KY.out.below hx).cell 0, (KY.out.below hx).cell 1⟩
  have HCL : Hid (∀ x, Below y5.heap.size y5 x → (x.cell? ⟨bb, I * 5, none⟩ = some (.string fn) ∧ x.cell? ⟨bb, I * 5 + 1, none⟩ = some (.string fc) ∧ x.cell? ⟨bb, I * 5 + 2, none⟩ = some (.string fss) ∧ x.cell? ⟨bb, I * 5 + 3, none⟩ = some (.string fv) ∧ x.cell? ⟨bb, I * 5 + 4, none⟩ = some (.bool fg)) ∧ x.frozen? ⟨bb, I * 5, none⟩ = false ∧ x.frozen? ⟨bb, I * 5 + 1, none⟩ = false ∧ x.frozen? ⟨bb, I * 5 + 2, none⟩ = false ∧ x.frozen? ⟨bb, I * 5 + 3, none⟩ = false ∧ x.frozen? ⟨bb, I * 5 + 4, none⟩ = false) := fun x hx => HRw.out x (ownS_below own5.out hx)
  have HO : Hid (∀ (y : World) (x0 x1 x2 x3 : Value), Below y5.heap.size y5 y → (((((set5 y bb (I * 5) GF).setCell ⟨w.heap.size + 1, 0, none⟩ x0).setCell ⟨w.heap.size + 1, 1, none⟩ x1).setCell ⟨w.heap.size + 1, 2, none⟩ x2).setCell ⟨w.heap.size + 1, 3, none⟩ x3).ownsRow w.heap.size 98 5 (.slice (some ⟨bb, 0, none⟩) fs.length cc) (fs.set I GF).length (fldRow (fs.set I GF)) ∧ Below w.heap.size w (((((set5 y bb (I * 5) GF).setCell ⟨w.heap.size + 1, 0, none⟩ x0).setCell ⟨w.heap.size + 1, 1, none⟩ x1).setCell ⟨w.heap.size + 1, 2, none⟩ x2).setCell ⟨w.heap.size + 1, 3, none⟩ x3)) := by
    intro y x0 x1 x2 x3 hy
    have h6 := own_set5 (ownS_below own5.out hy) I GF
    have hl := hbl.out
    have hs1 := b1.size
    have hs2 := HS2.out
    have n2 : (Value.slice (some ⟨bb, 0, none⟩) fs.length cc).ownBlock ≠ some (w.heap.size + 1) := by simp [Value.ownBlock]; omega
    rw [List.length_set]
    exact ⟨ownS_mono (ownsRow_setCell_other (ownsRow_setCell_other (ownsRow_setCell_other (ownsRow_setCell_other h6 n2 _) n2 _) n2 _) n2 _) (by omega), below_set4 (set5_below (chainB B2.out (chainB b25.out hy)) (by omega) _ _) (by omega) _ _ _ _⟩
  have HK6 : Hid (∀ y, Below y5.heap.size y5 y → Bxs (set5 y bb (I * 5) GF) y4.heap.size 96 #[.string k, .int .i64 at_, .slice (some ⟨bb, 0, none⟩) fs.length cc] ∧ Bxs (set5 y bb (I * 5) GF) (w.heap.size + 1) 130 #[.string ByteArray.empty, .int .i64 0, .slice none 0 0, .int .i64 0]) := by
    intro y hy
    have e1 := ownR_ne (ownS_below own5.out hy) (KZ5.out.below hy) (by decide)
    have e2 := ownR_ne (ownS_below own5.out hy) (K1.out.below (chainB b25.out hy)) (by decide)
    exact ⟨set5_other (KZ5.out.below hy) (by simpa [Value.ownBlock] using e1) _, set5_other (K1.out.below (chainB b25.out hy)) (by simpa [Value.ownBlock] using e2) _⟩
  have HSt : Hid (∀ y, set5 y bb (I * 5) GF = ((((y.setCell ⟨bb, I * 5, none⟩ (.string fn)).setCell ⟨bb, I * 5 + 1, none⟩ (.string fc)).setCell ⟨bb, I * 5 + 2, none⟩ (.string ByteArray.empty)).setCell ⟨bb, I * 5 + 3, none⟩ (.string ByteArray.empty)).setCell ⟨bb, I * 5 + 4, none⟩ (.bool true)) := by intro y; rw [HGF.out]; rfl
  clear hy5 hYF k0 k1 k2 k3 k4 v0 v1 v2 own4 b4
  refine region_till ((fun w' => w'.cell? ⟨y4.heap.size, 2, none⟩ = some (.slice (some ⟨bb, 0, none⟩) fs.length cc) ∧ w'.cell? ⟨YF, 0, none⟩ = some (.string fn) ∧ w'.cell? ⟨YF, 1, none⟩ = some (.string fc))) 9 (by kernel_rfl) (HH.out _ BR5.out) (fun hHeld => ?_)
  refine till_take 0 (v := ?_) rfl (by kernel_rfl) (by kernel_rfl) (by kernel_rfl) (by kernel_rfl) (fun _ _ _ h => h) hHeld (Or.inl ⟨by rfl, ?_⟩) ?_
  rotate_left
  · (intro w hSw; (try dsimp only at hSw); go_simp; try with_reducible rfl)
  simp only [Act.put, List.setIfInBounds_toArray, List.set_cons_zero, List.set_cons_succ]
  refine till_take 1 (v := ?_) rfl (by kernel_rfl) (by kernel_rfl) (by kernel_rfl) (by kernel_rfl) (fun _ _ _ h => h) hHeld (Or.inl ⟨by rfl, ?_⟩) ?_
  rotate_left
  · (intro w hSw; (try dsimp only at hSw); go_simp; try with_reducible rfl)
  simp only [Act.put, List.setIfInBounds_toArray, List.set_cons_zero, List.set_cons_succ]
  refine till_take 2 (v := ?_) rfl (by kernel_rfl) (by kernel_rfl) (by kernel_rfl) (by kernel_rfl) (fun _ _ _ h => h) hHeld (Or.inl ⟨by rfl, ?_⟩) ?_
  rotate_left
  · (intro w hSw; (try dsimp only at hSw); go_simp; try with_reducible rfl)
  simp only [Act.put, List.setIfInBounds_toArray, List.set_cons_zero, List.set_cons_succ]
  refine till_take 3 (v := ?_) rfl (by kernel_rfl) (by kernel_rfl) (by kernel_rfl) (by kernel_rfl) (fun _ _ _ h => h) hHeld (Or.inl ⟨by rfl, ?_⟩) ?_
  rotate_left
  · (intro w hSw; (try dsimp only at hSw); go_simp; try with_reducible rfl)
  simp only [Act.put, List.setIfInBounds_toArray, List.set_cons_zero, List.set_cons_succ]
  refine till_take 4 (v := ?_) rfl (by kernel_rfl) (by kernel_rfl) (by kernel_rfl) (by kernel_rfl) (fun _ _ _ h => h) hHeld (Or.inl ⟨by rfl, ?_⟩) ?_
  rotate_left
  · (intro w hSw; (try dsimp only at hSw); go_simp; try with_reducible rfl)
  simp only [Act.put, List.setIfInBounds_toArray, List.set_cons_zero, List.set_cons_succ]
  refine till_take 5 (v := ?_) rfl (by kernel_rfl) (by kernel_rfl) (by kernel_rfl) (by kernel_rfl) (fun _ _ _ h => h) hHeld (Or.inl ⟨by rfl, ?_⟩) ?_
  rotate_left
  · (intro w hSw; (try dsimp only at hSw); go_simp; try with_reducible rfl)
  simp only [Act.put, List.setIfInBounds_toArray, List.set_cons_zero, List.set_cons_succ]
  refine till_take 6 (v := ?_) rfl (by kernel_rfl) (by kernel_rfl) (by kernel_rfl) (by kernel_rfl) (fun _ _ _ h => h) hHeld (Or.inl ⟨by rfl, ?_⟩) ?_
  rotate_left
  · (intro w hSw; (try dsimp only at hSw); go_simp; try with_reducible rfl)
  simp only [Act.put, List.setIfInBounds_toArray, List.set_cons_zero, List.set_cons_succ]
  refine till_ready 7 rfl (by kernel_rfl) (fun K hK => ?_)
  go_simp
  (go_at_call 159; with_reducible refine (goneField_any fn fc _).mono ?_; rintro e y6 ⟨rfl, zq⟩)
  have b6 : Hid (Below y5.heap.size y5 y6) := chainB BR5.out zq
  refine hK.out _ _ (HH.out _ b6.out) (fun hHeld => ?_)
  clear hK K
  try simp only [Act.put, List.setIfInBounds_toArray, List.set_cons_zero, List.set_cons_succ]
  refine till_take 8 (v := ?_) rfl (by kernel_rfl) (by kernel_rfl) (by kernel_rfl) (by kernel_rfl) (fun _ _ _ h => h) hHeld (Or.inl ⟨by rfl, ?_⟩) ?_
  rotate_left
  · (intro w hSw; (try dsimp only at hSw); go_simp; try with_reducible rfl)
  simp only [Act.put, List.setIfInBounds_toArray, List.set_cons_zero, List.set_cons_succ]
  refine till_last rfl (by kernel_rfl) (by kernel_rfl) (fun K hK => ?_)
  obtain ⟨⟨k0, k1, k2, k3, k4⟩, g0, g1, g2, g3, g4⟩ := HCL.out y6 b6.out
  go_simp
  refine hK.out _ _ ?_
  clear hK K
  rw [← HSt.out]
  obtain ⟨r0, r1, r2, r3, f0, f1, f2, f3⟩ := HR.out _ (HK6.out y6 b6.out).2
  obtain ⟨x0, x1, x2⟩ : (set5 y6 bb (I * 5) GF).cell? ⟨y4.heap.size, 0, none⟩ = some (.string k) ∧ (set5 y6 bb (I * 5) GF).cell? ⟨y4.heap.size, 1, none⟩ = some (.int .i64 at_) ∧ (set5 y6 bb (I * 5) GF).cell? ⟨y4.heap.size, 2, none⟩ = some (.slice (some ⟨bb, 0, none⟩) fs.length cc) := ⟨(HK6.out y6 b6.out).1.cell 0, (HK6.out y6 b6.out).1.cell 1, (HK6.out y6 b6.out).1.cell 2⟩
  have HO2 : Hid _ := fun x0 x1 x2 x3 => HO.out y6 x0 x1 x2 x3 b6.out
  clear HSt HK6 HCL HH HO hHeld k0 k1 k2 k3 k4 g0 g1 g2 g3 g4
  generalize set5 y6 bb (I * 5) GF = y7 at *
  go_wp2_with fail
  refine bodyPost_ret (v := .agg #[.string k, .int .i64 at_, .slice (some ⟨bb, 0, none⟩) fs.length cc, .int .i64 0]) (by simp [results, Tryz.results130, go_sem, r0, r1, r2, r3]) rfl ?_
  rw [HK2.out, HA2.out, HF2.out, hC.out]
  exact ⟨_, rfl, HO2.out _ _ _ _⟩
end Go.Proofs.YtokkeadbkeehgaaGreatDoor
