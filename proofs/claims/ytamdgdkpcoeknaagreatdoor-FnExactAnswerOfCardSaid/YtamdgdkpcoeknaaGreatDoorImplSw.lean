/-
  What the program's Show answers.
  Conditions: the cells of Fields hold the fields; the two tables of the digest lie as laid.
-/
import Derived.Test.YtamdgdkpcoeknaaGreatDoorRows
import Derived.Test.YtamdgdkpcoeknaaGreatDoorBytesDigMath
import Derived.Test.YtamdgdkpcoeknaaGreatDoorTreeMathSlASlBBxKOwnS
import Derived.Test.YtamdgdkpcoeknaaGreatDoorAppSStepAppImplFT
import Derived.Test.YtamdgdkpcoeknaaGreatDoorFldIsTimeIGrKSpecGNSpecGTTillTwoFldN
import Derived.Test.YtamdgdkpcoeknaaGreatDoorFldGShwKFldHPathMathFldRiseScanMath
import Derived.Test.YtamdgdkpcoeknaaGreatDoorLgMathLgAtKOneKFldBlkRwBlkTakes
import Derived.Test.YtamdgdkpcoeknaaGreatDoorTimeBPutMathPutNumJoinedPutTextFldMath
import Derived.Test.YtamdgdkpcoeknaaGreatDoorImplFCBlNot
import Derived.Test.YtamdgdkpcoeknaaGreatDoorImplFR
import Derived.Test.YtamdgdkpcoeknaaGreatDoorImplCp
import Derived.Test.YtamdgdkpcoeknaaGreatDoorImplOnImplFk
import Derived.Handy
import Derived.WalkSpells
import Derived.OwnWalk
import Derived.Deep.AppendLies
import Derived.Deep.RegionHeld3
import Derived.Deep.Cut
import Derived.Deep.CutRange
namespace Go.Proofs.YtamdgdkpcoeknaaGreatDoor
open Go.RowKit Go.Lib
set_option linter.unusedVariables false
set_option maxRecDepth 20000

set_option maxHeartbeats 8000000 in
theorem implShow_any (k : ByteArray) (at_ : Int) (q : Option Addr) (c : Nat) (fs : List Fld) (ix : Int) (w : World) (hT : Tabs w) (hf : FldAt w q fs) (hn : fs.length ≤ 1048576) (hc : fs.length ≤ c) (hk : k.size ≤ maxLen) (hz : FldsLe fs) :
    Calls Tryz.prog 34 #[.agg #[.string k, .int .i64 at_, .slice q fs.length c], .int .i64 ix] w fun e w' => ∃ v1 v2, e = .returned (.agg #[.string (shO k at_ fs ix).k, .int .i64 (shO k at_ fs ix).at_, v1, v2, .int .i64 (shO k at_ fs ix).ix, .string (shO k at_ fs ix).s, .string (shO k at_ fs ix).v, .int .i64 (shC k at_ fs ix)]) ∧ ShwO w.heap.size (shO k at_ fs ix) v1 v2 w' ∧ Below w.heap.size w w' := by
  obtain ⟨W2, hW2⟩ : ∃ W2, W2 = (w.alloc (.cells #[.string k, .int .i64 at_, .slice q fs.length c] 67)).alloc (.cells #[.string ⟨#[]⟩, .int .i64 0, .slice none 0 0, .slice none 0 0, .int .i64 0, .string ⟨#[]⟩, .string ⟨#[]⟩, .int .i64 0] 63) := ⟨_, rfl⟩
  have HW2 : Hid (W2 = (w.alloc (.cells #[.string k, .int .i64 at_, .slice q fs.length c] 67)).alloc (.cells #[.string ⟨#[]⟩, .int .i64 0, .slice none 0 0, .slice none 0 0, .int .i64 0, .string ⟨#[]⟩, .string ⟨#[]⟩, .int .i64 0] 63)) := hW2
  have hs1 : (w.alloc (.cells #[.string k, .int .i64 at_, .slice q fs.length c] 67)).heap.size = w.heap.size + 1 := by simp
  have HS2 : Hid (W2.heap.size = w.heap.size + 2) := by rw [hW2]; show _ = _; simp
  have K0 : Hid (Bxs W2 w.heap.size 67 #[.string k, .int .i64 at_, .slice q fs.length c]) := by rw [hW2]; exact (Bxs.new _ _ _).alloc _
  have K1 : Hid (Bxs W2 (w.heap.size + 1) 63 #[.string ByteArray.empty, .int .i64 0, .slice none 0 0, .slice none 0 0, .int .i64 0, .string ByteArray.empty, .string ByteArray.empty, .int .i64 0]) := by rw [hW2, ← hs1]; exact Bxs.new _ _ _
  have B2 : Hid (Below w.heap.size w W2) := by rw [hW2]; exact ((Below.refl _ _).alloc (Nat.le_refl _) _).alloc (by rw [hs1]; omega) _
  have HT : Hid (FldAt W2 q fs) := hf.below B2.out
  have HX : Hid (∀ x, Below W2.heap.size W2 x → x.cell? ⟨w.heap.size, 0, none⟩ = some (.string k) ∧ x.cell? ⟨w.heap.size, 1, none⟩ = some (.int .i64 at_) ∧ x.cell? ⟨w.heap.size, 2, none⟩ = some (.slice q fs.length c)) := fun x hb => ⟨(K0.out.below hb).cell 0, (K0.out.below hb).cell 1, (K0.out.below hb).cell 2⟩
  have hF := fieldCode_any k at_ q c fs ix 10 W2 (hT.to B2.out) HT.out hn hc hk hz
  have HFC : Hid (shC k at_ fs ix = fcC k at_ fs ix 10) := rfl
  obtain ⟨t0, t1, t2⟩ := HX.out W2 (Below.refl _ _)
  rw [HW2.out] at t0 t1 t2
  clear hW2 hf hs1 hT hz
  by_cases hcd : fcC k at_ fs ix 10 = 0
  case neg =>
    have HEr : Hid (∀ (y : World) (x0 x1 x2 x3 x4 x5 x6 x7 : Value), Below W2.heap.size W2 y → ∃ v1 v2, Ending.returned (.agg #[.string ByteArray.empty, .int .i64 0, .slice none 0 0, .slice none 0 0, .int .i64 0, .string ByteArray.empty, .string ByteArray.empty, .int .i64 (fcC k at_ fs ix 10)]) = .returned (.agg #[.string (shO k at_ fs ix).k, .int .i64 (shO k at_ fs ix).at_, v1, v2, .int .i64 (shO k at_ fs ix).ix, .string (shO k at_ fs ix).s, .string (shO k at_ fs ix).v, .int .i64 (shC k at_ fs ix)]) ∧ ShwO w.heap.size (shO k at_ fs ix) v1 v2 (set8 y (w.heap.size + 1) x0 x1 x2 x3 x4 x5 x6 x7) ∧ Below w.heap.size w (set8 y (w.heap.size + 1) x0 x1 x2 x3 x4 x5 x6 x7)) := by
      intro y x0 x1 x2 x3 x4 x5 x6 x7 hb
      have hn' : ¬ shC k at_ fs ix = 0 := by rw [HFC.out]; exact hcd
      rw [show shO k at_ fs ix = shwZ from if_neg hn', HFC.out]
      exact ⟨_, _, rfl, ShwO.nil _ _, below_set8 (chainB B2.out hb) (by omega) _ _ _ _ _ _ _ _⟩
    obtain ⟨cd, hcde⟩ : ∃ cd, cd = fcC k at_ fs ix 10 := ⟨_, rfl⟩
    rw [← hcde] at hF HEr hcd
    have d1 : (cd == 0) = false := beq_eq_false_iff_ne.2 hcd
    have d2 : (cd != 0) = true := bne_iff_ne.2 hcd
    clear hcde hcd HFC
    go_enter Tryz.func34, Tryz.ntmps34
    go_wp2_with fail
    rw [← HW2.out]
    refine hF.mono ?_
    rintro e y1 ⟨rfl, b1⟩
    have HE := fun x0 x1 x2 x3 x4 x5 x6 x7 => HEr.out y1 x0 x1 x2 x3 x4 x5 x6 x7 b1
    obtain ⟨r0, r1, r2, r3, r4, r5, r6, r7⟩ := (K1.out.below b1).eight
    obtain ⟨f0, f1, f2, f3, f4, f5, f6, f7⟩ := (K1.out.below b1).free8
    clear b1 HEr HX K0 K1 t0 t1 t2
    go_wp2_with fail
    refine bodyPost_ret (v := .agg #[.string ByteArray.empty, .int .i64 0, .slice none 0 0, .slice none 0 0, .int .i64 0, .string ByteArray.empty, .string ByteArray.empty, .int .i64 cd]) (by simp [results, Tryz.results34, go_sem, r0, r1, r2, r3, r4, r5, r6, r7] <;> rfl) rfl ?_
    exact HE _ _ _ _ _ _ _ _
  have hC : Hid (shC k at_ fs ix = 0) := HFC.out.trans hcd
  obtain ⟨hr, hin, hg0⟩ := fcC_zero (by omega) hcd
  obtain ⟨-, -, ⟨l1, l3⟩, -, -⟩ := rwB_parts hr
  rw [hcd] at hF
  obtain ⟨I, hI⟩ := Int.eq_ofNat_of_zero_le hin.1
  subst hI
  have hIl : I < fs.length := by omega
  have i1 : (I : Int) < fs.length := by omega
  have HG : Hid (fs.getD I fld0 = fs[I]) := by show _ = _; rw [List.getD_eq_getElem?_getD, List.getElem?_eq_getElem hIl]; rfl
  have HF2 : Hid (shO k at_ fs I = ⟨k, at_, fs.map (fun f => f.n), fs.map (fun f => f.c), I, fs[I].s, fs[I].v⟩) := by
    show (if _ then _ else _) = _
    rw [if_pos hC.out, Int.toNat_natCast, HG.out]
  have HCp : Hid (∀ x, Below W2.heap.size W2 x → Calls Tryz.prog 72 #[.agg #[.string k, .int .i64 at_, .slice q fs.length c]] x fun e w' => ∃ b cc, e = .returned (.agg #[.string k, .int .i64 at_, .slice (some ⟨b, 0, none⟩) fs.length cc]) ∧ w'.ownsRow x.heap.size 112 5 (.slice (some ⟨b, 0, none⟩) fs.length cc) fs.length (fldRow fs) ∧ Below x.heap.size x w') := fun x hx => copiedRow_any k at_ q c fs x (HT.out.below hx) hc hr
  have HAI : Hid (∀ (x : World) (bb : Nat), FldAt x (some ⟨bb, 0, none⟩) fs → x.cell? ⟨bb, I * 5, none⟩ = some (.string fs[I].n) ∧ x.cell? ⟨bb, I * 5 + 1, none⟩ = some (.string fs[I].c) ∧ x.cell? ⟨bb, I * 5 + 2, none⟩ = some (.string fs[I].s) ∧ x.cell? ⟨bb, I * 5 + 3, none⟩ = some (.string fs[I].v) ∧ x.cell? ⟨bb, I * 5 + 4, none⟩ = some (.bool fs[I].g)) := fun x bb hx => by have h := hx.at I hIl; simpa using h
  clear hcd hr hg0 hin HG HFC hk
  generalize fs[I].n = fn at *
  generalize fs[I].c = fc at *
  generalize fs[I].s = fss at *
  generalize fs[I].v = fv at *
  generalize fs[I].g = fg at *
  go_enter Tryz.func34, Tryz.ntmps34
  go_wp2_with fail
  rw [← HW2.out]
  refine hF.mono ?_
  rintro e y1 ⟨rfl, b1⟩
  clear t0 t1 t2
  obtain ⟨t0, t1, t2⟩ := HX.out y1 b1
  go_wp2_with fail
  refine (HCp.out y1 b1).mono ?_
  rintro e y4 ⟨bb, cc, rfl, own4, b4⟩
  clear t0 t1 t2 HCp hF
  have HFA : Hid (FldAt y4 (some ⟨bb, 0, none⟩) fs) := by
    obtain ⟨p, cap, h1, -, h2⟩ := ownF_form own4
    cases h1; exact h2
  go_upto_region 5 with fail
  obtain ⟨y3, hy3⟩ : ∃ y3, y3 = y4.alloc (.cells #[.string k, .int .i64 at_, .slice (some ⟨bb, 0, none⟩) fs.length cc] 67) := ⟨_, rfl⟩
  rw [← hy3]
  have b3 : Hid (Below y4.heap.size y4 y3) := by rw [hy3]; exact (Below.refl _ _).alloc (Nat.le_refl _) _
  have KZ : Hid (Bxs y3 y4.heap.size 67 #[.string k, .int .i64 at_, .slice (some ⟨bb, 0, none⟩) fs.length cc]) := by rw [hy3]; exact Bxs.new _ _ _
  obtain ⟨v0, v1, v2⟩ : y3.cell? ⟨y4.heap.size, 0, none⟩ = some (.string k) ∧ y3.cell? ⟨y4.heap.size, 1, none⟩ = some (.int .i64 at_) ∧ y3.cell? ⟨y4.heap.size, 2, none⟩ = some (.slice (some ⟨bb, 0, none⟩) fs.length cc) := ⟨KZ.out.cell 0, KZ.out.cell 1, KZ.out.cell 2⟩
  obtain ⟨k0, k1, k2, k3, k4⟩ := HAI.out y3 bb (HFA.out.below b3.out)
  clear hy3
  go_upto_region 6 with fail
  obtain ⟨YF, hYF⟩ : ∃ YF, YF = y3.heap.size := ⟨_, rfl⟩
  obtain ⟨y5, hy5⟩ : ∃ y5, y5 = y3.alloc (.cells #[.string fn, .string fc, .string fss, .string fv, .bool fg] 112) := ⟨_, rfl⟩
  rw [← hy5, ← hYF]
  have b5 : Hid (Below y3.heap.size y3 y5) := by rw [hy5]; exact (Below.refl _ _).alloc (Nat.le_refl _) _
  have KY : Hid (Bxs y5 YF 112 #[.string fn, .string fc, .string fss, .string fv, .bool fg]) := by rw [hy5, hYF]; exact Bxs.new _ _ _
  have b25 : Hid (Below W2.heap.size W2 y5) := chainB b1 (chainB b4 (chainB b3.out b5.out))
  have HFA5 : Hid (FldAt y5 (some ⟨bb, 0, none⟩) fs) := (HFA.out.below b3.out).below b5.out
  have KZ5 : Hid (Bxs y5 y4.heap.size 67 #[.string k, .int .i64 at_, .slice (some ⟨bb, 0, none⟩) fs.length cc]) := KZ.out.below b5.out
  clear hy5 hYF k0 k1 k2 k3 k4 v0 v1 v2
  obtain ⟨v0, v1, v2⟩ : y5.cell? ⟨y4.heap.size, 0, none⟩ = some (.string k) ∧ y5.cell? ⟨y4.heap.size, 1, none⟩ = some (.int .i64 at_) ∧ y5.cell? ⟨y4.heap.size, 2, none⟩ = some (.slice (some ⟨bb, 0, none⟩) fs.length cc) := ⟨KZ5.out.cell 0, KZ5.out.cell 1, KZ5.out.cell 2⟩
  obtain ⟨u2, u3⟩ : y5.cell? ⟨YF, 2, none⟩ = some (.string fss) ∧ y5.cell? ⟨YF, 3, none⟩ = some (.string fv) := ⟨KY.out.cell 2, KY.out.cell 3⟩
  go_upto_region 7 with fail
  obtain ⟨Z, hZ⟩ : ∃ Z, Z = y5.heap.size := ⟨_, rfl⟩
  obtain ⟨y6, hy6⟩ : ∃ y6, y6 = y5.alloc (.cells #[.string k, .int .i64 at_, .slice none 0 0, .slice none 0 0, .int .i64 (I : Int), .string fss, .string fv] 30) := ⟨_, rfl⟩
  rw [← hy6, ← hZ]
  have S6 : Hid (Two y5 Z 30 #[.string k, .int .i64 at_, .slice none 0 0, .slice none 0 0, .int .i64 (I : Int), .string fss, .string fv] (.slice none 0 0) (.slice none 0 0) ((fs.take 0).map (fun f => f.n)) ((fs.take 0).map (fun f => f.c)) y6) := by
    rw [hy6, hZ]
    exact ⟨(Below.refl _ _).alloc (Nat.le_refl _) _, Nat.le_refl _, by decide, Bxs.new _ _ _, World.ownsRow_nil _ _ _ _, World.ownsRow_nil _ _ _ _, fun g hg => by cases hg⟩
  clear hy6 v0 v1 v2 u2 u3
  have v2 : y6.cell? ⟨y4.heap.size, 2, none⟩ = some (.slice (some ⟨bb, 0, none⟩) fs.length cc) := (KZ5.out.below S6.out.bel).cell 2
  have HZ5 : Hid (Z = y5.heap.size) := hZ
  clear hZ
  go_wp2_with fail
  go_loopw [38] (fun i wr => ∃ (j : Nat) (v1 v2 : Value), j ≤ fs.length ∧ i = .int .i64 j ∧ Hid (Two y5 Z 30 #[.string k, .int .i64 at_, v1, v2, .int .i64 (I : Int), .string fss, .string fv] v1 v2 ((fs.take j).map (fun f => f.n)) ((fs.take j).map (fun f => f.c)) wr)) (fun i _ => fs.length - (intOf i).toNat)
  case atStart => exact ⟨0, _, _, Nat.zero_le _, rfl, S6⟩
  case round =>
    clear S6 v2
    obtain ⟨j, v1, v2, hj, rfl, hS⟩ := hrel
    by_cases hlt : j < fs.length
    · have j1 : (j : Int) < fs.length := by omega
      have HN : Hid (((fs.take (j + 1)).map (fun f => f.n)) = ((fs.take j).map (fun f => f.n)) ++ [fs[j].n]) := map_take_succ _ fs j hlt
      have HM : Hid (((fs.take (j + 1)).map (fun f => f.c)) = ((fs.take j).map (fun f => f.c)) ++ [fs[j].c]) := map_take_succ _ fs j hlt
      have HLj : Hid (((fs.take j).map (fun f => f.n)).length = j ∧ ((fs.take j).map (fun f => f.c)).length = j) := by constructor <;> (simp; omega)
      have hcell : wr.cell? ⟨bb, j * 5, none⟩ = some (.string fs[j].n) ∧ wr.cell? ⟨bb, j * 5 + 1, none⟩ = some (.string fs[j].c) ∧ wr.cell? ⟨bb, j * 5 + 2, none⟩ = some (.string fs[j].s) ∧ wr.cell? ⟨bb, j * 5 + 3, none⟩ = some (.string fs[j].v) ∧ wr.cell? ⟨bb, j * 5 + 4, none⟩ = some (.bool fs[j].g) := by have h := (HFA5.out.below hS.out.bel).at j hlt; simpa using h
      generalize ((fs.take j).map (fun f => f.n)) = NS at *
      generalize ((fs.take j).map (fun f => f.c)) = CS at *
      generalize fs[j].n = gn at *
      generalize fs[j].c = gc at *
      generalize fs[j].s = gs at *
      generalize fs[j].v = gv at *
      generalize fs[j].g = gg at *
      obtain ⟨c0, c1, c2, c3, c4⟩ := hcell
      go_upto_region 10 with fail
      obtain ⟨x0, hx0⟩ : ∃ x0, x0 = wr.alloc (.cells #[.string gn, .string gc, .string gs, .string gv, .bool gg] 112) := ⟨_, rfl⟩
      obtain ⟨XF, hXF⟩ : ∃ XF, XF = wr.heap.size := ⟨_, rfl⟩
      rw [← hx0, ← hXF]
      have KF : Hid (Bxs x0 XF 112 #[.string gn, .string gc, .string gs, .string gv, .bool gg]) := by rw [hx0, hXF]; exact Bxs.new _ _ _
      have S0 : Hid (Two y5 Z 30 #[.string k, .int .i64 at_, v1, v2, .int .i64 (I : Int), .string fss, .string fv] v1 v2 NS CS x0) := hS.out.below (by rw [hx0]; exact (Below.refl _ _).alloc (Nat.le_refl _) _)
      have hXZ : Hid (XF ≠ Z) := fun he => by have := hS.out.box.lt; omega
      clear hx0 hXF c0 c1 c2 c3 c4 hS
      obtain ⟨g, cp, y, hrun, T8, c7, f7, B7, HKp⟩ := S0.out.app2 2 gn rfl (by have := HLj.out.1; omega)
      rw [HLj.out.1] at hrun T8 HKp
      have z2 : x0.cell? ⟨Z, 2, none⟩ = some v1 := S0.out.box.cell 2
      have z2a : (x0.alloc (.cells #[.string gn] 9)).cell? ⟨Z, 2, none⟩ = some v1 := (S0.out.box.alloc _).cell 2
      have u0 : x0.cell? ⟨XF, 0, none⟩ = some (.string gn) := KF.out.cell 0
      have KF1 := (HKp XF _ _ (by decide) hXZ.out KF.out).2
      have S1 : Hid (Two y5 Z 30 #[.string k, .int .i64 at_, (.slice (some ⟨g, 0, none⟩) (j + 1) cp), v2, .int .i64 (I : Int), .string fss, .string fv] (.slice (some ⟨g, 0, none⟩) (j + 1) cp) v2 ((fs.take (j + 1)).map (fun f => f.n)) CS (y.setCell ⟨Z, 2, none⟩ (.slice (some ⟨g, 0, none⟩) (j + 1) cp))) := by
        show Two _ _ _ _ _ _ _ _ _
        rw [HN.out]; exact T8
      have KF1 : Hid (Bxs (y.setCell ⟨Z, 2, none⟩ (.slice (some ⟨g, 0, none⟩) (j + 1) cp)) XF 112 #[.string gn, .string gc, .string gs, .string gv, .bool gg]) := KF1
      clear T8 HKp B7 S0 KF HN
      go_upto_region 11 with (at_builtin; refine wpList_append_run rfl _ _ _ rfl _ _ _ _ rfl rfl hrun ?_)
      generalize y.setCell ⟨Z, 2, none⟩ (.slice (some ⟨g, 0, none⟩) (j + 1) cp) = x1 at *
      clear hrun c7 f7 z2 z2a u0
      obtain ⟨g2, cp2, y2, hrun, T8, c7, f7, B7, -⟩ := S1.out.swap.app2 3 gc rfl (by have := HLj.out.2; omega)
      rw [HLj.out.2] at hrun T8
      have z3 : x1.cell? ⟨Z, 3, none⟩ = some v2 := S1.out.box.cell 3
      have z3a : (x1.alloc (.cells #[.string gc] 9)).cell? ⟨Z, 3, none⟩ = some v2 := (S1.out.box.alloc _).cell 3
      have u1 : x1.cell? ⟨XF, 1, none⟩ = some (.string gc) := KF1.out.cell 1
      have S9 : Hid (Two y5 Z 30 #[.string k, .int .i64 at_, (.slice (some ⟨g, 0, none⟩) (j + 1) cp), (.slice (some ⟨g2, 0, none⟩) (j + 1) cp2), .int .i64 (I : Int), .string fss, .string fv] (.slice (some ⟨g, 0, none⟩) (j + 1) cp) (.slice (some ⟨g2, 0, none⟩) (j + 1) cp2) ((fs.take (j + 1)).map (fun f => f.n)) ((fs.take (j + 1)).map (fun f => f.c)) (y2.setCell ⟨Z, 3, none⟩ (.slice (some ⟨g2, 0, none⟩) (j + 1) cp2))) := by
        show Two _ _ _ _ _ _ _ _ _
        rw [HM.out]; exact T8.swap
      clear T8 B7 S1 KF1 HM
      go_wp2_with (at_builtin; refine wpList_append_run rfl _ _ _ rfl _ _ _ _ rfl rfl hrun ?_)
      go_roundw
      case rel => exact ⟨j + 1, _, _, by omega, by go_num, S9⟩
      case measure => simp [intOf]; omega
    · obtain rfl : j = fs.length := by omega
      have hS2 : Two y5 Z 30 #[.string k, .int .i64 at_, v1, v2, .int .i64 (I : Int), .string fss, .string fv] v1 v2 (fs.map (fun f => f.n)) (fs.map (fun f => f.c)) wr := by
        have h := hS.out
        rw [List.take_length] at h
        exact h
      obtain ⟨p1, k1, rfl, -, -⟩ := ownS_form hS2.own1
      obtain ⟨p2, k2, rfl, -, -⟩ := ownS_form hS2.own2
      have HD : Hid (∀ x0 x1 x2 x3 x4 x5 x6 x7 : Value, ShwO w.heap.size ⟨k, at_, fs.map (fun f => f.n), fs.map (fun f => f.c), I, fss, fv⟩ (.slice p1 (fs.map (fun f => f.n)).length k1) (.slice p2 (fs.map (fun f => f.c)).length k2) (set8 wr (w.heap.size + 1) x0 x1 x2 x3 x4 x5 x6 x7) ∧ Below w.heap.size w (set8 wr (w.heap.size + 1) x0 x1 x2 x3 x4 x5 x6 x7)) := by
        intro x0 x1 x2 x3 x4 x5 x6 x7
        have hs2 := HS2.out
        have hs5 := b25.out.size
        exact ⟨⟨ownS_mono (own_set8 hS2.own1 (by omega) _ _ _ _ _ _ _ _) (by omega), ownS_mono (own_set8 hS2.own2 (by omega) _ _ _ _ _ _ _ _) (by omega), hS2.ap⟩, below_set8 (chainB B2.out (chainB b25.out hS2.bel)) (by omega) _ _ _ _ _ _ _ _⟩
      obtain ⟨r0, r1, r2, r3, r4, r5, r6, r7⟩ := (K1.out.below (chainB b25.out hS2.bel)).eight
      obtain ⟨f0, f1, f2, f3, f4, f5, f6, f7⟩ := (K1.out.below (chainB b25.out hS2.bel)).free8
      obtain ⟨x0, x1, x2, x3, x4, x5, x6⟩ : wr.cell? ⟨Z, 0, none⟩ = some (.string k) ∧ wr.cell? ⟨Z, 1, none⟩ = some (.int .i64 at_) ∧ wr.cell? ⟨Z, 2, none⟩ = some (.slice p1 (fs.map (fun f => f.n)).length k1) ∧ wr.cell? ⟨Z, 3, none⟩ = some (.slice p2 (fs.map (fun f => f.c)).length k2) ∧ wr.cell? ⟨Z, 4, none⟩ = some (.int .i64 (I : Int)) ∧ wr.cell? ⟨Z, 5, none⟩ = some (.string fss) ∧ wr.cell? ⟨Z, 6, none⟩ = some (.string fv) := ⟨hS2.box.cell 0, hS2.box.cell 1, hS2.box.cell 2, hS2.box.cell 3, hS2.box.cell 4, hS2.box.cell 5, hS2.box.cell 6⟩
      clear hS2 hS
      generalize fs.map (fun f => f.n) = NS at *
      generalize fs.map (fun f => f.c) = CS at *
      go_wp2_with fail
      refine bodyPost_ret (v := .agg #[.string k, .int .i64 at_, .slice p1 NS.length k1, .slice p2 CS.length k2, .int .i64 (I : Int), .string fss, .string fv, .int .i64 0]) (by simp [results, Tryz.results34, go_sem, r0, r1, r2, r3, r4, r5, r6, r7]) rfl ?_
      rw [HF2.out, hC.out]
      exact ⟨_, _, rfl, HD.out _ _ _ _ _ _ _ _⟩
end Go.Proofs.YtamdgdkpcoeknaaGreatDoor
