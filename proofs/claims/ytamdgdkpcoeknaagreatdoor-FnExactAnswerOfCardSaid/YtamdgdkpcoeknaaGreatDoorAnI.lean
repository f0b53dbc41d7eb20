/-
  What the program's AnswerOf answers: 'anO', in new memory.
-/
import Derived.Test.YtamdgdkpcoeknaaGreatDoorRows
import Derived.Test.YtamdgdkpcoeknaaGreatDoorBytesDigMath
import Derived.Test.YtamdgdkpcoeknaaGreatDoorTreeMathSlASlBBxKOwnS
import Derived.Test.YtamdgdkpcoeknaaGreatDoorLawLmLgAnsLgRtTakesL
import Derived.Test.YtamdgdkpcoeknaaGreatDoorFldIsTimeIGrKSpecGNSpecGTTillTwoFldN
import Derived.Test.YtamdgdkpcoeknaaGreatDoorTimeBPutMathPutNumJoinedPutTextFldMath
import Derived.Test.YtamdgdkpcoeknaaGreatDoorFldGShwKFldHPathMathFldRiseScanMath
import Derived.Test.YtamdgdkpcoeknaaGreatDoorGetValGetTxtNumMathFldRdNumFromTmbMath
import Derived.Test.YtamdgdkpcoeknaaGreatDoorLgMathLgAtKOneKFldBlkRwBlkTakes
import Derived.Test.YtamdgdkpcoeknaaGreatDoorPrfLs
import Derived.Test.YtamdgdkpcoeknaaGreatDoorPrfLi
import Derived.Test.YtamdgdkpcoeknaaGreatDoorSpecLr
import Derived.Test.YtamdgdkpcoeknaaGreatDoorSpecPlImplPlPhaseK
import Derived.Test.YtamdgdkpcoeknaaGreatDoorSpecTgFldL
import Derived.Test.YtamdgdkpcoeknaaGreatDoorLogRITreeHImplRt
import Derived.Test.YtamdgdkpcoeknaaGreatDoorImplLg
import Derived.Test.YtamdgdkpcoeknaaGreatDoorPlaceIEq18ImplGn
import Derived.Test.YtamdgdkpcoeknaaGreatDoorImplSw
import Derived.Test.YtamdgdkpcoeknaaGreatDoorFldS
import Derived.Test.YtamdgdkpcoeknaaGreatDoorAnMath
import Derived.Test.YtamdgdkpcoeknaaGreatDoorAnS
import Derived.Handy
import Derived.WalkSpells
import Derived.OwnWalk
import Derived.Deep.RegionHeld3
import Derived.Deep.Cut
namespace Go.Proofs.YtamdgdkpcoeknaaGreatDoor
open Go.RowKit Go.Lib
set_option linter.unusedVariables false
set_option maxRecDepth 20000

structure AnW (w : World) (q : Option Addr) (n cq : Nat) (p : Option Addr) (m cp : Nat) (now : Int) (E : Nat) (x : World) : Prop where
  ab : AnB w q n cq p m cp now x
  wk : Bxs x E 73 #[.slice p m cp, .slice q n cq, .int .i64 now]
theorem AnW.below {w x y : World} {q : Option Addr} {n cq : Nat} {p : Option Addr} {m cp : Nat} {now : Int} {E : Nat} (h : AnW w q n cq p m cp now E x) (hb : Below x.heap.size x y) : AnW w q n cq p m cp now E y := ⟨h.ab.below hb, h.wk.below hb⟩
set_option maxHeartbeats 16000000 in
theorem implAnswerOf_any (p : Option Addr) (lv : List ByteArray) (cp : Nat) (q : Option Addr) (rs : List Rw) (cq : Nat) (now r f : Int) (w : World) (hT : Tabs w) (hg : Laid w) (hA : LgAt p lv cp q rs cq w) :
    Calls Tryz.prog 8 #[.agg #[.slice q rs.length cq, .slice p lv.length cp, .int .i64 now], .int .i64 r, .int .i64 f] w fun e w' => AnA w.heap.size (anO rs lv now r f) e w' ∧ Below w.heap.size w w' := by
  obtain ⟨W2, hW2⟩ : ∃ W2, W2 = (w.alloc (.cells #[.slice q rs.length cq, .slice p lv.length cp, .int .i64 now] 36)).alloc (.cells #[.string ⟨#[]⟩, .int .i64 0, .int .i64 0, .slice none 0 0, .string ⟨#[]⟩, .int .i64 0, .slice none 0 0, .slice none 0 0, .int .i64 0, .string ⟨#[]⟩, .string ⟨#[]⟩, .string ⟨#[]⟩, .int .i64 0, .int .i64 0, .slice none 0 0] 32) := ⟨_, rfl⟩
  have HW2 : Hid (W2 = (w.alloc (.cells #[.slice q rs.length cq, .slice p lv.length cp, .int .i64 now] 36)).alloc (.cells #[.string ⟨#[]⟩, .int .i64 0, .int .i64 0, .slice none 0 0, .string ⟨#[]⟩, .int .i64 0, .slice none 0 0, .slice none 0 0, .int .i64 0, .string ⟨#[]⟩, .string ⟨#[]⟩, .string ⟨#[]⟩, .int .i64 0, .int .i64 0, .slice none 0 0] 32)) := hW2
  have H2 : Hid (AnB w q rs.length cq p lv.length cp now W2) := an_boxes w q rs.length cq p lv.length cp now hW2
  have HPf : ∀ (hl : lgB rs lv now = true) (x : Int) (K : Nat), x = (K : Int) → K < lv.length → ∀ y, Below w.heap.size w y → Calls Tryz.prog 32 #[.slice p lv.length cp, .int .i64 (x)] y fun e w' => ∃ pa ca, e = .returned (.agg #[.string (pfL rs lv now (x)), .int .i64 (pfI rs lv now (x)), .int .i64 (pfS rs lv now (x)), .slice pa (pfP rs lv now (x)).length ca]) ∧ StrO y.heap.size (pfP rs lv now (x)) (.slice pa (pfP rs lv now (x)).length ca) w' ∧ Below y.heap.size y w' := fun hl x K hK hlt y hb => by
    subst hK
    have hlen := (lg_right hl).2.1
    have h := proofAt_any p lv cp rs now (K : Int) y (hT.to hb) hl (hA.tx.below hb) hA.lc (by omega) (by omega)
    refine h.mono ?_; rintro e z ⟨v, rfl, own, zz⟩; obtain ⟨pa, ca, rfl, -, -⟩ := ownS_form own; exact ⟨pa, ca, rfl, own, zz⟩
  have HP1 : Hid (lgB rs lv now = true → (fcO rs r f = 0 ∨ fcO rs r f = 7) → ∀ y, Below w.heap.size w y → Calls Tryz.prog 32 #[.slice p lv.length cp, .int .i64 (plB lv r)] y fun e w' => ∃ pa ca, e = .returned (.agg #[.string (pfL rs lv now (plB lv r)), .int .i64 (pfI rs lv now (plB lv r)), .int .i64 (pfS rs lv now (plB lv r)), .slice pa (pfP rs lv now (plB lv r)).length ca]) ∧ StrO y.heap.size (pfP rs lv now (plB lv r)) (.slice pa (pfP rs lv now (plB lv r)).length ca) w' ∧ Below y.heap.size y w') := fun hl hf y hb => by
    obtain ⟨I, J, hI, rfl, rfl, -⟩ := fc_in hf
    obtain ⟨K, hK, hlt⟩ := pl_there hl hI
    exact HPf hl _ K hK hlt y hb
  have HP4 : Hid (lgB rs lv now = true → fcO rs r f = 7 → ∀ y, Below w.heap.size w y → Calls Tryz.prog 32 #[.slice p lv.length cp, .int .i64 (tbAt lv r f)] y fun e w' => ∃ pa ca, e = .returned (.agg #[.string (pfL rs lv now (tbAt lv r f)), .int .i64 (pfI rs lv now (tbAt lv r f)), .int .i64 (pfS rs lv now (tbAt lv r f)), .slice pa (pfP rs lv now (tbAt lv r f)).length ca]) ∧ StrO y.heap.size (pfP rs lv now (tbAt lv r f)) (.slice pa (pfP rs lv now (tbAt lv r f)).length ca) w' ∧ Below y.heap.size y w') := fun hl hf y hb => by
    obtain ⟨I, J, hI, rfl, rfl, hgn⟩ := fc_in (Or.inr hf)
    obtain ⟨K, hK, hlt⟩ := tb_there hl (hgn hf)
    exact HPf hl _ K hK hlt y hb
  have HPl : Hid (∀ y, Below w.heap.size w y → Calls Tryz.prog 33 #[.slice p lv.length cp, .int .i64 r] y fun e w' => e = .returned (.int .i64 (plB lv r)) ∧ Below y.heap.size y w') := fun y hb => placeOf_any p cp lv r y (hA.tx.below hb) hA.ln hA.lc hA.lz (hg.below hb)
  have HTb : Hid (∀ y, Below w.heap.size w y → Calls Tryz.prog 35 #[.slice p lv.length cp, .int .i64 r, .int .i64 f] y fun e w' => e = .returned (.int .i64 (tbAt lv r f)) ∧ Below y.heap.size y w') := fun y hb => tombOf_any p cp lv r f y (hA.tx.below hb) hA.ln hA.lc hA.lz (hg.below hb)
  have HRow : Hid (fcO rs r f = 0 → ∃ (I : Nat) (b off : Nat) (q0 : Option Addr) (n0 c0 : Nat) (k : ByteArray) (a : Int), r = (I : Int) ∧ (I : Int) < rs.length ∧ q = some ⟨b, off, none⟩ ∧ ∀ y, Below w.heap.size w y → (y.cell? ⟨b, off + I * 3, none⟩ = some (.string k) ∧ y.cell? ⟨b, off + I * 3 + 1, none⟩ = some (.int .i64 a) ∧ y.cell? ⟨b, off + I * 3 + 2, none⟩ = some (.slice q0 n0 c0)) ∧ Calls Tryz.prog 34 #[.agg #[.string k, .int .i64 a, .slice q0 n0 c0], .int .i64 f] y fun e w' => ∃ pb cb pc cc, e = .returned (.agg #[.string (shO (rs.getD r.toNat rwZ).k (rs.getD r.toNat rwZ).a (rs.getD r.toNat rwZ).fs f).k, .int .i64 (shO (rs.getD r.toNat rwZ).k (rs.getD r.toNat rwZ).a (rs.getD r.toNat rwZ).fs f).at_, .slice pb (shO (rs.getD r.toNat rwZ).k (rs.getD r.toNat rwZ).a (rs.getD r.toNat rwZ).fs f).ns.length cb, .slice pc (shO (rs.getD r.toNat rwZ).k (rs.getD r.toNat rwZ).a (rs.getD r.toNat rwZ).fs f).cs.length cc, .int .i64 (shO (rs.getD r.toNat rwZ).k (rs.getD r.toNat rwZ).a (rs.getD r.toNat rwZ).fs f).ix, .string (shO (rs.getD r.toNat rwZ).k (rs.getD r.toNat rwZ).a (rs.getD r.toNat rwZ).fs f).s, .string (shO (rs.getD r.toNat rwZ).k (rs.getD r.toNat rwZ).a (rs.getD r.toNat rwZ).fs f).v, .int .i64 (shC (rs.getD r.toNat rwZ).k (rs.getD r.toNat rwZ).a (rs.getD r.toNat rwZ).fs f)]) ∧ StrO y.heap.size (shO (rs.getD r.toNat rwZ).k (rs.getD r.toNat rwZ).a (rs.getD r.toNat rwZ).fs f).ns (.slice pb (shO (rs.getD r.toNat rwZ).k (rs.getD r.toNat rwZ).a (rs.getD r.toNat rwZ).fs f).ns.length cb) w' ∧ StrO y.heap.size (shO (rs.getD r.toNat rwZ).k (rs.getD r.toNat rwZ).a (rs.getD r.toNat rwZ).fs f).cs (.slice pc (shO (rs.getD r.toNat rwZ).k (rs.getD r.toNat rwZ).a (rs.getD r.toNat rwZ).fs f).cs.length cc) w' ∧ Aprt (.slice pb (shO (rs.getD r.toNat rwZ).k (rs.getD r.toNat rwZ).a (rs.getD r.toNat rwZ).fs f).ns.length cb) (.slice pc (shO (rs.getD r.toNat rwZ).k (rs.getD r.toNat rwZ).a (rs.getD r.toNat rwZ).fs f).cs.length cc) ∧ Below y.heap.size y w') := fun hf => by
    obtain ⟨I, J, hI, rfl, rfl, -⟩ := fc_in (Or.inl hf)
    have hrI : rs.getD (I : Int).toNat rwZ = rs[I] := by rw [Int.toNat_natCast, List.getD_eq_getElem?_getD, List.getElem?_eq_getElem hI, Option.getD_some]
    rw [hrI]
    obtain ⟨b, off, q0, c0, rfl, hb0, k0, k1, k2, k3, k4⟩ := hA.rw I hI
    obtain ⟨z1, z2, z3⟩ := hA.rz _ (List.getElem_mem hI)
    refine ⟨I, b, off, q0, rs[I].fs.length, c0, rs[I].k, rs[I].a, rfl, by omega, rfl, fun y hb => ⟨⟨(hb.cell (p := ⟨b, off + I * 3, none⟩) hb0).trans k0, (hb.cell (p := ⟨b, off + I * 3 + 1, none⟩) hb0).trans k1, (hb.cell (p := ⟨b, off + I * 3 + 2, none⟩) hb0).trans k2⟩, ?_⟩⟩
    generalize rs[I].k = k at *
    generalize rs[I].a = a at *
    generalize hfs : rs[I].fs = fs at *
    have h := implShow_any k a q0 c0 fs (J : Int) y (hT.to hb) (k4.below hb) z1 k3 z2 z3
    refine h.mono ?_
    rintro e z ⟨v1, v2, rfl, ⟨own1, own2, apt⟩, zz⟩
    obtain ⟨pb, cb, rfl, -, -⟩ := ownS_form own1
    obtain ⟨pc, cc, rfl, -, -⟩ := ownS_form own2
    exact ⟨pb, cb, pc, cc, rfl, own1, own2, apt, zz⟩
  have HAn : Hid (anO rs lv now r f = if lgB rs lv now = true then (if fcO rs r f = 0 then (⟨pfL rs lv now (plB lv r), pfI rs lv now (plB lv r), pfS rs lv now (plB lv r), pfP rs lv now (plB lv r), shO (rs.getD r.toNat rwZ).k (rs.getD r.toNat rwZ).a (rs.getD r.toNat rwZ).fs f, ⟨#[]⟩, 0, 0, []⟩ : Ans) else if fcO rs r f = 7 then (⟨pfL rs lv now (plB lv r), pfI rs lv now (plB lv r), pfS rs lv now (plB lv r), pfP rs lv now (plB lv r), shwN, pfL rs lv now (tbAt lv r f), pfI rs lv now (tbAt lv r f), pfS rs lv now (tbAt lv r f), pfP rs lv now (tbAt lv r f)⟩ : Ans) else ansZ) else ansZ) := rfl
  have HCs : Hid (fcO rs r f = 0 ∨ fcO rs r f = 7 ∨ fcO rs r f = 6) := fcO_cases rs r f
  have hWk : Calls Tryz.prog 30 #[.agg #[.slice q rs.length cq, .slice p lv.length cp, .int .i64 now]] W2 fun e w' => e = .returned (.agg #[.slice p lv.length cp, .slice q rs.length cq, .int .i64 now]) ∧ Below W2.heap.size W2 w' := workOn_any p lv cp q rs cq now W2
  have HGc : Hid (∀ y, Below w.heap.size w y → Calls Tryz.prog 31 #[.agg #[.slice p lv.length cp, .slice q rs.length cq, .int .i64 now], .int .i64 r, .int .i64 f] y fun e w' => e = .returned (.int .i64 (gcO rs lv now r f)) ∧ Below y.heap.size y w') := fun y hb => goneCode_any p lv cp q rs cq now r f y (hT.to hb) (hg.below hb) (hA.below hb)
  have HGd : Hid (gcO rs lv now r f = if lgB rs lv now = true then fcO rs r f else 1) := rfl
  clear HPf hW2 hA hT hg
  generalize anO rs lv now r f = O at *
  generalize shC (rs.getD r.toNat rwZ).k (rs.getD r.toNat rwZ).a (rs.getD r.toNat rwZ).fs f = SC at *
  generalize shO (rs.getD r.toNat rwZ).k (rs.getD r.toNat rwZ).a (rs.getD r.toNat rwZ).fs f = SH at *
  generalize pfL rs lv now (plB lv r) = L1 at *
  generalize pfL rs lv now (tbAt lv r f) = L4 at *
  generalize pfI rs lv now (plB lv r) = I1 at *
  generalize pfI rs lv now (tbAt lv r f) = I4 at *
  generalize pfS rs lv now (plB lv r) = S1 at *
  generalize pfS rs lv now (tbAt lv r f) = S4 at *
  generalize pfP rs lv now (plB lv r) = P1 at *
  generalize pfP rs lv now (tbAt lv r f) = P4 at *
  generalize plB lv r = PL at *
  generalize tbAt lv r f = TB at *
  generalize gcO rs lv now r f = GC at *
  generalize fcO rs r f = FC at *
  generalize lgB rs lv now = A at *
  obtain ⟨x0, x1, x2⟩ := H2.out.thr
  go_enter Tryz.func8, Tryz.ntmps8
  go_upto_region 1 with fail
  rw [← HW2.out]
  go_wp2_with fail
  with_reducible refine hWk.mono ?_
  rintro e y1 ⟨rfl, z1⟩
  have H3 : Hid (AnB w q rs.length cq p lv.length cp now y1) := H2.out.below z1
  clear x0 x1 x2 H2 z1 hWk HW2
  obtain ⟨Y2, hY2⟩ : ∃ Y2, Y2 = y1.alloc (.cells #[.slice p lv.length cp, .slice q rs.length cq, .int .i64 now] 73) := ⟨_, rfl⟩
  have HY2 : Hid (Y2 = y1.alloc (.cells #[.slice p lv.length cp, .slice q rs.length cq, .int .i64 now] 73)) := hY2
  have KY : Hid (Bxs Y2 y1.heap.size 73 #[.slice p lv.length cp, .slice q rs.length cq, .int .i64 now]) := by rw [hY2]; exact Bxs.new _ _ _
  have HW : Hid (AnW w q rs.length cq p lv.length cp now y1.heap.size Y2) := by rw [hY2]; exact ⟨H3.out.below (alB (Below.refl _ _) _), hY2 ▸ KY.out⟩
  have hG := HGc.out Y2 HW.out.ab.bel
  obtain ⟨x0, x1, x2⟩ := KY.out.three
  rw [HY2.out] at x0 x1 x2
  clear hY2 H3 HGc KY
  go_wp2_with fail
  rw [← HY2.out]
  generalize y1.heap.size = E at *
  clear x0 x1 x2 HY2
  with_reducible refine hG.mono ?_
  rintro e y3 ⟨rfl, z3⟩
  have H4 : Hid (AnW w q rs.length cq p lv.length cp now E y3) := HW.out.below z3
  clear HW z3 hG
  obtain ⟨x0, x1, x2⟩ := H4.out.ab.thr
  cases A
  case false =>
    have ho : O = ansZ := HAn.out
    have hgc : GC = 1 := HGd.out
    subst ho hgc
    clear HP1 HP4 HPl HTb HRow HAn HCs HGd
    obtain ⟨c0, c1, c2, c3, c4, c5, c6, c7, c8, c9, c10, c11, c12, c13, c14, f0, f1, f2, f3, f4, f5, f6, f7, f8, f9, f10, f11, f12, f13, f14⟩ := H4.out.ab.res
    go_wp2_with fail
    clear c0 f0 c1 f1 c2 f2 c3 f3 c4 f4 c5 f5 c6 f6 c7 f7 c8 f8 c9 f9 c10 f10 c11 f11 c12 f12 c13 f13 c14 f14
    obtain ⟨K, HAo, HEd⟩ := AnB.put H4.out.ab (AnsO.nil _ _) (.string ⟨#[]⟩) (.int .i64 0) (.int .i64 0) (.slice none 0 0) (.string ⟨#[]⟩) (.int .i64 0) (.slice none 0 0) (.slice none 0 0) (.int .i64 0) (.string ⟨#[]⟩) (.string ⟨#[]⟩) (.string ⟨#[]⟩) (.int .i64 0) (.int .i64 0) (.slice none 0 0)
    generalize (((((((((((((((y3.setCell ⟨w.heap.size + 1, 0, none⟩ (.string ⟨#[]⟩)).setCell ⟨w.heap.size + 1, 1, none⟩ (.int .i64 0)).setCell ⟨w.heap.size + 1, 2, none⟩ (.int .i64 0)).setCell ⟨w.heap.size + 1, 3, none⟩ (.slice none 0 0)).setCell ⟨w.heap.size + 1, 4, none⟩ (.string ⟨#[]⟩)).setCell ⟨w.heap.size + 1, 5, none⟩ (.int .i64 0)).setCell ⟨w.heap.size + 1, 6, none⟩ (.slice none 0 0)).setCell ⟨w.heap.size + 1, 7, none⟩ (.slice none 0 0)).setCell ⟨w.heap.size + 1, 8, none⟩ (.int .i64 0)).setCell ⟨w.heap.size + 1, 9, none⟩ (.string ⟨#[]⟩)).setCell ⟨w.heap.size + 1, 10, none⟩ (.string ⟨#[]⟩)).setCell ⟨w.heap.size + 1, 11, none⟩ (.string ⟨#[]⟩)).setCell ⟨w.heap.size + 1, 12, none⟩ (.int .i64 0)).setCell ⟨w.heap.size + 1, 13, none⟩ (.int .i64 0)).setCell ⟨w.heap.size + 1, 14, none⟩ (.slice none 0 0)) = zz at *
    have HAp : Hid (AnsO _ _ _ _ _ _ zz) := HAo
    have HEn : Hid (Below w.heap.size w zz) := HEd
    have k0 : zz.cell? ⟨w.heap.size + 1, 0, none⟩ = some (.string ⟨#[]⟩) := K.cell 0
    have k1 : zz.cell? ⟨w.heap.size + 1, 1, none⟩ = some (.int .i64 0) := K.cell 1
    have k2 : zz.cell? ⟨w.heap.size + 1, 2, none⟩ = some (.int .i64 0) := K.cell 2
    have k3 : zz.cell? ⟨w.heap.size + 1, 3, none⟩ = some (.slice none 0 0) := K.cell 3
    have k4 : zz.cell? ⟨w.heap.size + 1, 4, none⟩ = some (.string ⟨#[]⟩) := K.cell 4
    have k5 : zz.cell? ⟨w.heap.size + 1, 5, none⟩ = some (.int .i64 0) := K.cell 5
    have k6 : zz.cell? ⟨w.heap.size + 1, 6, none⟩ = some (.slice none 0 0) := K.cell 6
    have k7 : zz.cell? ⟨w.heap.size + 1, 7, none⟩ = some (.slice none 0 0) := K.cell 7
    have k8 : zz.cell? ⟨w.heap.size + 1, 8, none⟩ = some (.int .i64 0) := K.cell 8
    have k9 : zz.cell? ⟨w.heap.size + 1, 9, none⟩ = some (.string ⟨#[]⟩) := K.cell 9
    have k10 : zz.cell? ⟨w.heap.size + 1, 10, none⟩ = some (.string ⟨#[]⟩) := K.cell 10
    have k11 : zz.cell? ⟨w.heap.size + 1, 11, none⟩ = some (.string ⟨#[]⟩) := K.cell 11
    have k12 : zz.cell? ⟨w.heap.size + 1, 12, none⟩ = some (.int .i64 0) := K.cell 12
    have k13 : zz.cell? ⟨w.heap.size + 1, 13, none⟩ = some (.int .i64 0) := K.cell 13
    have k14 : zz.cell? ⟨w.heap.size + 1, 14, none⟩ = some (.slice none 0 0) := K.cell 14
    refine bodyPost_ret (v := .agg #[.string ⟨#[]⟩, .int .i64 0, .int .i64 0, .slice none 0 0, .string ⟨#[]⟩, .int .i64 0, .slice none 0 0, .slice none 0 0, .int .i64 0, .string ⟨#[]⟩, .string ⟨#[]⟩, .string ⟨#[]⟩, .int .i64 0, .int .i64 0, .slice none 0 0]) (by simp [results, Tryz.results8, go_sem, k0, k1, k2, k3, k4, k5, k6, k7, k8, k9, k10, k11, k12, k13, k14]) rfl ?_
    exact ⟨⟨_, _, _, _, rfl, HAp.out⟩, HEn.out⟩
  have hgc : GC = FC := HGd.out
  subst hgc
  clear HGd
  rcases HCs.out with h0 | h0 | h0
  · subst h0
    have ho : O = _ := HAn.out
    subst ho
    clear HAn HCs HP4 HTb
    have hP1 := HP1.out (by simp) (Or.inl rfl)
    obtain ⟨I, b, off, q0, n0, c0, k, a, rfl, hI, rfl, HRo⟩ := HRow.out rfl
    have HX : Hid (∀ y, AnW w (some ⟨b, off, none⟩) rs.length cq p lv.length cp now E y → (y.cell? ⟨w.heap.size, 0, none⟩ = some (.slice (some ⟨b, off, none⟩) rs.length cq) ∧ y.cell? ⟨w.heap.size, 1, none⟩ = some (.slice p lv.length cp) ∧ y.cell? ⟨w.heap.size, 2, none⟩ = some (.int .i64 now)) ∧ (y.cell? ⟨E, 0, none⟩ = some (.slice p lv.length cp) ∧ y.cell? ⟨E, 1, none⟩ = some (.slice (some ⟨b, off, none⟩) rs.length cq) ∧ y.cell? ⟨E, 2, none⟩ = some (.int .i64 now)) ∧ y.cell? ⟨b, off + I * 3, none⟩ = some (.string k) ∧ y.cell? ⟨b, off + I * 3 + 1, none⟩ = some (.int .i64 a) ∧ y.cell? ⟨b, off + I * 3 + 2, none⟩ = some (.slice q0 n0 c0)) := fun y H => ⟨⟨H.ab.thr.1, H.ab.thr.2.1, H.ab.thr.2.2⟩, H.wk.three, (HRo y H.ab.bel).1⟩
    have HSw := fun y hb => (HRo y hb).2
    clear HRow HRo HP1
    go_upto_region 4 with fail
    clear x0 x1 x2
    have Hd := H4.out.below (Below.refl _ _).drew
    have HBd : Hid (AnW w (some ⟨b, off, none⟩) rs.length cq p lv.length cp now E y3.drew) := Hd
    refine region_till (fun w' => (w'.cell? ⟨w.heap.size, 0, none⟩ = some (.slice (some ⟨b, off, none⟩) rs.length cq) ∧ w'.cell? ⟨w.heap.size, 1, none⟩ = some (.slice p lv.length cp) ∧ w'.cell? ⟨w.heap.size, 2, none⟩ = some (.int .i64 now)) ∧ (w'.cell? ⟨E, 0, none⟩ = some (.slice p lv.length cp) ∧ w'.cell? ⟨E, 1, none⟩ = some (.slice (some ⟨b, off, none⟩) rs.length cq) ∧ w'.cell? ⟨E, 2, none⟩ = some (.int .i64 now)) ∧ w'.cell? ⟨b, off + I * 3, none⟩ = some (.string k) ∧ w'.cell? ⟨b, off + I * 3 + 1, none⟩ = some (.int .i64 a) ∧ w'.cell? ⟨b, off + I * 3 + 2, none⟩ = some (.slice q0 n0 c0)) 16 (by kernel_rfl) (HX.out _ HBd) (fun hHeld => ?_)
    generalize y3.drew = x0 at *
    clear Hd
    refine till_take 0 (v := ?_) rfl (by kernel_rfl) (by kernel_rfl) (by kernel_rfl) (by kernel_rfl) (fun _ _ _ h => h) hHeld (Or.inl ⟨by rfl, ?_⟩) ?_
    rotate_left
    · (intro w hSw; (try dsimp only at hSw); go_simp; try with_reducible rfl)
    simp only [Act.put, List.setIfInBounds_toArray, List.set_cons_zero, List.set_cons_succ]
    refine till_take 1 (v := ?_) rfl (by kernel_rfl) (by kernel_rfl) (by kernel_rfl) (by kernel_rfl) (fun _ _ _ h => h) hHeld (Or.inl ⟨by rfl, ?_⟩) ?_
    rotate_left
    · (intro w hSw; (try dsimp only at hSw); go_simp; try with_reducible rfl)
    simp only [Act.put, List.setIfInBounds_toArray, List.set_cons_zero, List.set_cons_succ]
    refine till_take 2 (v := ?_) rfl (by kernel_rfl) (by kernel_rfl) (by kernel_rfl) (by kernel_rfl) (fun _ _ _ h => h) hHeld (Or.inl ⟨by rfl, ?_⟩) ?_
    rotate_left
    · (intro w hSw; (try dsimp only at hSw); go_simp; try with_reducible rfl)
    simp only [Act.put, List.setIfInBounds_toArray, List.set_cons_zero, List.set_cons_succ]
    refine till_take 3 (v := ?_) rfl (by kernel_rfl) (by kernel_rfl) (by kernel_rfl) (by kernel_rfl) (fun _ _ _ h => h) hHeld (Or.inl ⟨by rfl, ?_⟩) ?_
    rotate_left
    · (intro w hSw; (try dsimp only at hSw); go_simp; try with_reducible rfl)
    simp only [Act.put, List.setIfInBounds_toArray, List.set_cons_zero, List.set_cons_succ]
    refine till_take 4 (v := ?_) rfl (by kernel_rfl) (by kernel_rfl) (by kernel_rfl) (by kernel_rfl) (fun _ _ _ h => h) hHeld (Or.inl ⟨by rfl, ?_⟩) ?_
    rotate_left
    · (intro w hSw; (try dsimp only at hSw); go_simp; try with_reducible rfl)
    simp only [Act.put, List.setIfInBounds_toArray, List.set_cons_zero, List.set_cons_succ]
    refine till_take 7 (v := ?_) rfl (by kernel_rfl) (by kernel_rfl) (by kernel_rfl) (by kernel_rfl) (fun _ _ _ h => h) hHeld (Or.inl ⟨by rfl, ?_⟩) ?_
    rotate_left
    · (intro w hSw; (try dsimp only at hSw); go_simp; try with_reducible rfl)
    simp only [Act.put, List.setIfInBounds_toArray, List.set_cons_zero, List.set_cons_succ]
    refine till_take 8 (v := ?_) rfl (by kernel_rfl) (by kernel_rfl) (by kernel_rfl) (by kernel_rfl) (fun _ _ _ h => h) hHeld (Or.inl ⟨by rfl, ?_⟩) ?_
    rotate_left
    · (intro w hSw; (try dsimp only at hSw); go_simp; try with_reducible rfl)
    simp only [Act.put, List.setIfInBounds_toArray, List.set_cons_zero, List.set_cons_succ]
    refine till_take 9 (v := ?_) rfl (by kernel_rfl) (by kernel_rfl) (by kernel_rfl) (by kernel_rfl) (fun _ _ _ h => h) hHeld (Or.inl ⟨by rfl, ?_⟩) ?_
    rotate_left
    · (intro w hSw; (try dsimp only at hSw); go_simp; try with_reducible rfl)
    simp only [Act.put, List.setIfInBounds_toArray, List.set_cons_zero, List.set_cons_succ]
    refine till_take 10 (v := ?_) rfl (by kernel_rfl) (by kernel_rfl) (by kernel_rfl) (by kernel_rfl) (fun _ _ _ h => h) hHeld (Or.inl ⟨by rfl, ?_⟩) ?_
    rotate_left
    · (intro w hSw; (try dsimp only at hSw); go_simp; try with_reducible rfl)
    simp only [Act.put, List.setIfInBounds_toArray, List.set_cons_zero, List.set_cons_succ]
    refine till_take 11 (v := ?_) rfl (by kernel_rfl) (by kernel_rfl) (by kernel_rfl) (by kernel_rfl) (fun _ _ _ h => h) hHeld (Or.inl ⟨by rfl, ?_⟩) ?_
    rotate_left
    · (intro w hSw; (try dsimp only at hSw); go_simp; try with_reducible rfl)
    simp only [Act.put, List.setIfInBounds_toArray, List.set_cons_zero, List.set_cons_succ]
    refine till_take 12 (v := ?_) rfl (by kernel_rfl) (by kernel_rfl) (by kernel_rfl) (by kernel_rfl) (fun _ _ _ h => h) hHeld (Or.inl ⟨by rfl, ?_⟩) ?_
    rotate_left
    · (intro w hSw; (try dsimp only at hSw); go_simp; try with_reducible rfl)
    simp only [Act.put, List.setIfInBounds_toArray, List.set_cons_zero, List.set_cons_succ]
    refine till_ready 5 rfl (by kernel_rfl) (fun K hK => ?_)
    go_simp
    have hc := HPl.out x0 HBd.out.ab.bel
    (go_at_call 33; refine hc.mono ?_; rintro e y_1 ⟨rfl, zz⟩)
    clear hc
    have HB_1 : Hid (AnW w (some ⟨b, off, none⟩) rs.length cq p lv.length cp now E y_1) := HBd.out.below zz
    refine hK.out _ _ (HX.out _ HB_1) (fun hHeld => ?_)
    clear hK K zz
    try simp only [Act.put, List.setIfInBounds_toArray, List.set_cons_zero, List.set_cons_succ]
    refine till_ready 6 rfl (by kernel_rfl) (fun K hK => ?_)
    go_simp
    have hc := hP1 y_1 HB_1.out.ab.bel
    (go_at_call 32; refine hc.mono ?_; rintro e y_2 ⟨pa1, ca1, rfl, n1, zz⟩)
    clear hc
    have HB_2 : Hid (AnW w (some ⟨b, off, none⟩) rs.length cq p lv.length cp now E y_2) := HB_1.out.below zz
    have o1 := n1.mono HB_1.out.ab.big
    clear n1
    refine hK.out _ _ (HX.out _ HB_2) (fun hHeld => ?_)
    clear hK K zz
    try simp only [Act.put, List.setIfInBounds_toArray, List.set_cons_zero, List.set_cons_succ]
    refine till_ready 13 rfl (by kernel_rfl) (fun K hK => ?_)
    go_simp
    have hc := HSw y_2 HB_2.out.ab.bel
    (go_at_call 34; refine hc.mono ?_; rintro e y_3 ⟨pb, cb, pc, cc, rfl, n2, n3, m23, zz⟩)
    clear hc
    have HB_3 : Hid (AnW w (some ⟨b, off, none⟩) rs.length cq p lv.length cp now E y_3) := HB_2.out.below zz
    have m12 := StrO.apart o1 n2
    have m13 := StrO.apart o1 n3
    replace o1 := o1.below zz
    have o2 := n2.mono HB_2.out.ab.big
    clear n2
    have o3 := n3.mono HB_2.out.ab.big
    clear n3
    refine hK.out _ _ (HX.out _ HB_3) (fun hHeld => ?_)
    clear hK K zz
    try simp only [Act.put, List.setIfInBounds_toArray, List.set_cons_zero, List.set_cons_succ]
    refine till_take 14 (v := ?_) rfl (by kernel_rfl) (by kernel_rfl) (by kernel_rfl) (by kernel_rfl) (fun _ _ _ h => h) hHeld (Or.inl ⟨by rfl, ?_⟩) ?_
    rotate_left
    · (intro w hSw; (try dsimp only at hSw); have fdw := shown_row SH.k SH.at_ (.slice pb SH.ns.length cb) (.slice pc SH.cs.length cc) SH.ix SH.s SH.v SC w; go_simp; try with_reducible rfl)
    simp only [Act.put, List.setIfInBounds_toArray, List.set_cons_zero, List.set_cons_succ]
    refine till_take 15 (v := ?_) rfl (by kernel_rfl) (by kernel_rfl) (by kernel_rfl) (by kernel_rfl) (fun _ _ _ h => h) hHeld (Or.inl ⟨by rfl, ?_⟩) ?_
    rotate_left
    · (intro w hSw; (try dsimp only at hSw); go_simp; try with_reducible rfl)
    simp only [Act.put, List.setIfInBounds_toArray, List.set_cons_zero, List.set_cons_succ]
    obtain ⟨c0, c1, c2, c3, c4, c5, c6, c7, c8, c9, c10, c11, c12, c13, c14, f0, f1, f2, f3, f4, f5, f6, f7, f8, f9, f10, f11, f12, f13, f14⟩ := HB_3.out.ab.res
    refine till_last rfl (by kernel_rfl) (by kernel_rfl) (fun K hK => ?_)
    go_simp
    refine hK.out _ _ ?_
    clear hK K hHeld c0 f0 c1 f1 c2 f2 c3 f3 c4 f4 c5 f5 c6 f6 c7 f7 c8 f8 c9 f9 c10 f10 c11 f11 c12 f12 c13 f13 c14 f14
    go_wp2_with fail
    obtain ⟨K, HAo, HEd⟩ := AnB.put HB_3.out.ab (show AnsO (w.heap.size + 2) (⟨L1, I1, S1, P1, SH, ⟨#[]⟩, 0, 0, []⟩ : Ans) (.slice pa1 P1.length ca1) (.slice pb SH.ns.length cb) (.slice pc SH.cs.length cc) (.slice none 0 0) y_3 from ⟨o1, o2, o3, .nil _ _, m12, m13, .nil _, m23, .nil _, .nil _⟩) (.string L1) (.int .i64 I1) (.int .i64 S1) (.slice pa1 P1.length ca1) (.string SH.k) (.int .i64 SH.at_) (.slice pb SH.ns.length cb) (.slice pc SH.cs.length cc) (.int .i64 SH.ix) (.string SH.s) (.string SH.v) (.string ⟨#[]⟩) (.int .i64 0) (.int .i64 0) (.slice none 0 0)
    generalize (((((((((((((((y_3.setCell ⟨w.heap.size + 1, 0, none⟩ (.string L1)).setCell ⟨w.heap.size + 1, 1, none⟩ (.int .i64 I1)).setCell ⟨w.heap.size + 1, 2, none⟩ (.int .i64 S1)).setCell ⟨w.heap.size + 1, 3, none⟩ (.slice pa1 P1.length ca1)).setCell ⟨w.heap.size + 1, 4, none⟩ (.string SH.k)).setCell ⟨w.heap.size + 1, 5, none⟩ (.int .i64 SH.at_)).setCell ⟨w.heap.size + 1, 6, none⟩ (.slice pb SH.ns.length cb)).setCell ⟨w.heap.size + 1, 7, none⟩ (.slice pc SH.cs.length cc)).setCell ⟨w.heap.size + 1, 8, none⟩ (.int .i64 SH.ix)).setCell ⟨w.heap.size + 1, 9, none⟩ (.string SH.s)).setCell ⟨w.heap.size + 1, 10, none⟩ (.string SH.v)).setCell ⟨w.heap.size + 1, 11, none⟩ (.string ⟨#[]⟩)).setCell ⟨w.heap.size + 1, 12, none⟩ (.int .i64 0)).setCell ⟨w.heap.size + 1, 13, none⟩ (.int .i64 0)).setCell ⟨w.heap.size + 1, 14, none⟩ (.slice none 0 0)) = zz at *
    have HAp : Hid (AnsO _ _ _ _ _ _ zz) := HAo
    have HEn : Hid (Below w.heap.size w zz) := HEd
    have k0 : zz.cell? ⟨w.heap.size + 1, 0, none⟩ = some (.string L1) := K.cell 0
    have k1 : zz.cell? ⟨w.heap.size + 1, 1, none⟩ = some (.int .i64 I1) := K.cell 1
    have k2 : zz.cell? ⟨w.heap.size + 1, 2, none⟩ = some (.int .i64 S1) := K.cell 2
    have k3 : zz.cell? ⟨w.heap.size + 1, 3, none⟩ = some (.slice pa1 P1.length ca1) := K.cell 3
    have k4 : zz.cell? ⟨w.heap.size + 1, 4, none⟩ = some (.string SH.k) := K.cell 4
    have k5 : zz.cell? ⟨w.heap.size + 1, 5, none⟩ = some (.int .i64 SH.at_) := K.cell 5
    have k6 : zz.cell? ⟨w.heap.size + 1, 6, none⟩ = some (.slice pb SH.ns.length cb) := K.cell 6
    have k7 : zz.cell? ⟨w.heap.size + 1, 7, none⟩ = some (.slice pc SH.cs.length cc) := K.cell 7
    have k8 : zz.cell? ⟨w.heap.size + 1, 8, none⟩ = some (.int .i64 SH.ix) := K.cell 8
    have k9 : zz.cell? ⟨w.heap.size + 1, 9, none⟩ = some (.string SH.s) := K.cell 9
    have k10 : zz.cell? ⟨w.heap.size + 1, 10, none⟩ = some (.string SH.v) := K.cell 10
    have k11 : zz.cell? ⟨w.heap.size + 1, 11, none⟩ = some (.string ⟨#[]⟩) := K.cell 11
    have k12 : zz.cell? ⟨w.heap.size + 1, 12, none⟩ = some (.int .i64 0) := K.cell 12
    have k13 : zz.cell? ⟨w.heap.size + 1, 13, none⟩ = some (.int .i64 0) := K.cell 13
    have k14 : zz.cell? ⟨w.heap.size + 1, 14, none⟩ = some (.slice none 0 0) := K.cell 14
    refine bodyPost_ret (v := .agg #[.string L1, .int .i64 I1, .int .i64 S1, .slice pa1 P1.length ca1, .string SH.k, .int .i64 SH.at_, .slice pb SH.ns.length cb, .slice pc SH.cs.length cc, .int .i64 SH.ix, .string SH.s, .string SH.v, .string ⟨#[]⟩, .int .i64 0, .int .i64 0, .slice none 0 0]) (by simp [results, Tryz.results8, go_sem, k0, k1, k2, k3, k4, k5, k6, k7, k8, k9, k10, k11, k12, k13, k14]) rfl ?_
    exact ⟨⟨_, _, _, _, rfl, HAp.out⟩, HEn.out⟩
  · subst h0
    have ho : O = _ := HAn.out
    subst ho
    have hP1 := HP1.out (by simp) (Or.inr rfl)
    have hP4 := HP4.out (by simp) rfl
    clear HAn HCs HP1 HP4 HRow
    have HX : Hid (∀ y, AnW w q rs.length cq p lv.length cp now E y → y.cell? ⟨E, 0, none⟩ = some (.slice p lv.length cp) ∧ y.cell? ⟨E, 1, none⟩ = some (.slice q rs.length cq) ∧ y.cell? ⟨E, 2, none⟩ = some (.int .i64 now)) := fun y H => H.wk.three
    go_upto_region 6 with fail
    clear x0 x1 x2
    have Hd := H4.out.below (Below.refl _ _).drew
    have HBd : Hid (AnW w q rs.length cq p lv.length cp now E y3.drew) := Hd
    refine region_till (fun w' => w'.cell? ⟨E, 0, none⟩ = some (.slice p lv.length cp) ∧ w'.cell? ⟨E, 1, none⟩ = some (.slice q rs.length cq) ∧ w'.cell? ⟨E, 2, none⟩ = some (.int .i64 now)) 16 (by kernel_rfl) (HX.out _ HBd) (fun hHeld => ?_)
    generalize y3.drew = x0 at *
    clear Hd
    refine till_take 0 (v := ?_) rfl (by kernel_rfl) (by kernel_rfl) (by kernel_rfl) (by kernel_rfl) (fun _ _ _ h => h) hHeld (Or.inl ⟨by rfl, ?_⟩) ?_
    rotate_left
    · (intro w hSw; (try dsimp only at hSw); go_simp; try with_reducible rfl)
    simp only [Act.put, List.setIfInBounds_toArray, List.set_cons_zero, List.set_cons_succ]
    refine till_take 1 (v := ?_) rfl (by kernel_rfl) (by kernel_rfl) (by kernel_rfl) (by kernel_rfl) (fun _ _ _ h => h) hHeld (Or.inl ⟨by rfl, ?_⟩) ?_
    rotate_left
    · (intro w hSw; (try dsimp only at hSw); go_simp; try with_reducible rfl)
    simp only [Act.put, List.setIfInBounds_toArray, List.set_cons_zero, List.set_cons_succ]
    refine till_take 2 (v := ?_) rfl (by kernel_rfl) (by kernel_rfl) (by kernel_rfl) (by kernel_rfl) (fun _ _ _ h => h) hHeld (Or.inl ⟨by rfl, ?_⟩) ?_
    rotate_left
    · (intro w hSw; (try dsimp only at hSw); go_simp; try with_reducible rfl)
    simp only [Act.put, List.setIfInBounds_toArray, List.set_cons_zero, List.set_cons_succ]
    refine till_take 3 (v := ?_) rfl (by kernel_rfl) (by kernel_rfl) (by kernel_rfl) (by kernel_rfl) (fun _ _ _ h => h) hHeld (Or.inl ⟨by rfl, ?_⟩) ?_
    rotate_left
    · (intro w hSw; (try dsimp only at hSw); go_simp; try with_reducible rfl)
    simp only [Act.put, List.setIfInBounds_toArray, List.set_cons_zero, List.set_cons_succ]
    refine till_take 4 (v := ?_) rfl (by kernel_rfl) (by kernel_rfl) (by kernel_rfl) (by kernel_rfl) (fun _ _ _ h => h) hHeld (Or.inl ⟨by rfl, ?_⟩) ?_
    rotate_left
    · (intro w hSw; (try dsimp only at hSw); go_simp; try with_reducible rfl)
    simp only [Act.put, List.setIfInBounds_toArray, List.set_cons_zero, List.set_cons_succ]
    refine till_take 7 (v := ?_) rfl (by kernel_rfl) (by kernel_rfl) (by kernel_rfl) (by kernel_rfl) (fun _ _ _ h => h) hHeld (Or.inl ⟨by rfl, ?_⟩) ?_
    rotate_left
    · (intro w hSw; (try dsimp only at hSw); go_simp; try with_reducible rfl)
    simp only [Act.put, List.setIfInBounds_toArray, List.set_cons_zero, List.set_cons_succ]
    refine till_take 8 (v := ?_) rfl (by kernel_rfl) (by kernel_rfl) (by kernel_rfl) (by kernel_rfl) (fun _ _ _ h => h) hHeld (Or.inl ⟨by rfl, ?_⟩) ?_
    rotate_left
    · (intro w hSw; (try dsimp only at hSw); go_simp; try with_reducible rfl)
    simp only [Act.put, List.setIfInBounds_toArray, List.set_cons_zero, List.set_cons_succ]
    refine till_take 9 (v := ?_) rfl (by kernel_rfl) (by kernel_rfl) (by kernel_rfl) (by kernel_rfl) (fun _ _ _ h => h) hHeld (Or.inl ⟨by rfl, ?_⟩) ?_
    rotate_left
    · (intro w hSw; (try dsimp only at hSw); go_simp; try with_reducible rfl)
    simp only [Act.put, List.setIfInBounds_toArray, List.set_cons_zero, List.set_cons_succ]
    refine till_take 10 (v := ?_) rfl (by kernel_rfl) (by kernel_rfl) (by kernel_rfl) (by kernel_rfl) (fun _ _ _ h => h) hHeld (Or.inl ⟨by rfl, ?_⟩) ?_
    rotate_left
    · (intro w hSw; (try dsimp only at hSw); go_simp; try with_reducible rfl)
    simp only [Act.put, List.setIfInBounds_toArray, List.set_cons_zero, List.set_cons_succ]
    refine till_take 11 (v := ?_) rfl (by kernel_rfl) (by kernel_rfl) (by kernel_rfl) (by kernel_rfl) (fun _ _ _ h => h) hHeld (Or.inl ⟨by rfl, ?_⟩) ?_
    rotate_left
    · (intro w hSw; (try dsimp only at hSw); go_simp; try with_reducible rfl)
    simp only [Act.put, List.setIfInBounds_toArray, List.set_cons_zero, List.set_cons_succ]
    refine till_take 12 (v := ?_) rfl (by kernel_rfl) (by kernel_rfl) (by kernel_rfl) (by kernel_rfl) (fun _ _ _ h => h) hHeld (Or.inl ⟨by rfl, ?_⟩) ?_
    rotate_left
    · (intro w hSw; (try dsimp only at hSw); go_simp; try with_reducible rfl)
    simp only [Act.put, List.setIfInBounds_toArray, List.set_cons_zero, List.set_cons_succ]
    refine till_ready 5 rfl (by kernel_rfl) (fun K hK => ?_)
    go_simp
    have hc := HPl.out x0 HBd.out.ab.bel
    (go_at_call 33; refine hc.mono ?_; rintro e y_4 ⟨rfl, zz⟩)
    clear hc
    have HB_4 : Hid (AnW w q rs.length cq p lv.length cp now E y_4) := HBd.out.below zz
    refine hK.out _ _ (HX.out _ HB_4) (fun hHeld => ?_)
    clear hK K zz
    try simp only [Act.put, List.setIfInBounds_toArray, List.set_cons_zero, List.set_cons_succ]
    refine till_ready 6 rfl (by kernel_rfl) (fun K hK => ?_)
    go_simp
    have hc := hP1 y_4 HB_4.out.ab.bel
    (go_at_call 32; refine hc.mono ?_; rintro e y_5 ⟨pa1, ca1, rfl, n1, zz⟩)
    clear hc
    have HB_5 : Hid (AnW w q rs.length cq p lv.length cp now E y_5) := HB_4.out.below zz
    have o1 := n1.mono HB_4.out.ab.big
    clear n1
    refine hK.out _ _ (HX.out _ HB_5) (fun hHeld => ?_)
    clear hK K zz
    try simp only [Act.put, List.setIfInBounds_toArray, List.set_cons_zero, List.set_cons_succ]
    refine till_ready 13 rfl (by kernel_rfl) (fun K hK => ?_)
    go_simp
    have hc := HTb.out y_5 HB_5.out.ab.bel
    (go_at_call 35; refine hc.mono ?_; rintro e y_6 ⟨rfl, zz⟩)
    clear hc
    have HB_6 : Hid (AnW w q rs.length cq p lv.length cp now E y_6) := HB_5.out.below zz
    replace o1 := o1.below zz
    refine hK.out _ _ (HX.out _ HB_6) (fun hHeld => ?_)
    clear hK K zz
    try simp only [Act.put, List.setIfInBounds_toArray, List.set_cons_zero, List.set_cons_succ]
    refine till_ready 14 rfl (by kernel_rfl) (fun K hK => ?_)
    go_simp
    have hc := hP4 y_6 HB_6.out.ab.bel
    (go_at_call 32; refine hc.mono ?_; rintro e y_7 ⟨pa4, ca4, rfl, n4, zz⟩)
    clear hc
    have HB_7 : Hid (AnW w q rs.length cq p lv.length cp now E y_7) := HB_6.out.below zz
    have m14 := StrO.apart o1 n4
    replace o1 := o1.below zz
    have o4 := n4.mono HB_6.out.ab.big
    clear n4
    refine hK.out _ _ (HX.out _ HB_7) (fun hHeld => ?_)
    clear hK K zz
    try simp only [Act.put, List.setIfInBounds_toArray, List.set_cons_zero, List.set_cons_succ]
    refine till_take 15 (v := ?_) rfl (by kernel_rfl) (by kernel_rfl) (by kernel_rfl) (by kernel_rfl) (fun _ _ _ h => h) hHeld (Or.inl ⟨by rfl, ?_⟩) ?_
    rotate_left
    · (intro w hSw; (try dsimp only at hSw); go_simp; try with_reducible rfl)
    simp only [Act.put, List.setIfInBounds_toArray, List.set_cons_zero, List.set_cons_succ]
    obtain ⟨c0, c1, c2, c3, c4, c5, c6, c7, c8, c9, c10, c11, c12, c13, c14, f0, f1, f2, f3, f4, f5, f6, f7, f8, f9, f10, f11, f12, f13, f14⟩ := HB_7.out.ab.res
    refine till_last rfl (by kernel_rfl) (by kernel_rfl) (fun K hK => ?_)
    go_simp
    refine hK.out _ _ ?_
    clear hK K hHeld c0 f0 c1 f1 c2 f2 c3 f3 c4 f4 c5 f5 c6 f6 c7 f7 c8 f8 c9 f9 c10 f10 c11 f11 c12 f12 c13 f13 c14 f14
    go_wp2_with fail
    obtain ⟨K, HAo, HEd⟩ := AnB.put HB_7.out.ab (show AnsO (w.heap.size + 2) (⟨L1, I1, S1, P1, shwN, L4, I4, S4, P4⟩ : Ans) (.slice pa1 P1.length ca1) (.slice none 0 0) (.slice none 0 0) (.slice pa4 P4.length ca4) y_7 from ⟨o1, .nil _ _, .nil _ _, o4, .nil _, .nil _, m14, .nil _, Aprt.symm (.nil _), Aprt.symm (.nil _)⟩) (.string L1) (.int .i64 I1) (.int .i64 S1) (.slice pa1 P1.length ca1) (.string ⟨#[]⟩) (.int .i64 0) (.slice none 0 0) (.slice none 0 0) (.int .i64 0) (.string ⟨#[]⟩) (.string ⟨#[]⟩) (.string L4) (.int .i64 I4) (.int .i64 S4) (.slice pa4 P4.length ca4)
    generalize (((((((((((((((y_7.setCell ⟨w.heap.size + 1, 0, none⟩ (.string L1)).setCell ⟨w.heap.size + 1, 1, none⟩ (.int .i64 I1)).setCell ⟨w.heap.size + 1, 2, none⟩ (.int .i64 S1)).setCell ⟨w.heap.size + 1, 3, none⟩ (.slice pa1 P1.length ca1)).setCell ⟨w.heap.size + 1, 4, none⟩ (.string ⟨#[]⟩)).setCell ⟨w.heap.size + 1, 5, none⟩ (.int .i64 0)).setCell ⟨w.heap.size + 1, 6, none⟩ (.slice none 0 0)).setCell ⟨w.heap.size + 1, 7, none⟩ (.slice none 0 0)).setCell ⟨w.heap.size + 1, 8, none⟩ (.int .i64 0)).setCell ⟨w.heap.size + 1, 9, none⟩ (.string ⟨#[]⟩)).setCell ⟨w.heap.size + 1, 10, none⟩ (.string ⟨#[]⟩)).setCell ⟨w.heap.size + 1, 11, none⟩ (.string L4)).setCell ⟨w.heap.size + 1, 12, none⟩ (.int .i64 I4)).setCell ⟨w.heap.size + 1, 13, none⟩ (.int .i64 S4)).setCell ⟨w.heap.size + 1, 14, none⟩ (.slice pa4 P4.length ca4)) = zz at *
    have HAp : Hid (AnsO _ _ _ _ _ _ zz) := HAo
    have HEn : Hid (Below w.heap.size w zz) := HEd
    have k0 : zz.cell? ⟨w.heap.size + 1, 0, none⟩ = some (.string L1) := K.cell 0
    have k1 : zz.cell? ⟨w.heap.size + 1, 1, none⟩ = some (.int .i64 I1) := K.cell 1
    have k2 : zz.cell? ⟨w.heap.size + 1, 2, none⟩ = some (.int .i64 S1) := K.cell 2
    have k3 : zz.cell? ⟨w.heap.size + 1, 3, none⟩ = some (.slice pa1 P1.length ca1) := K.cell 3
    have k4 : zz.cell? ⟨w.heap.size + 1, 4, none⟩ = some (.string ⟨#[]⟩) := K.cell 4
    have k5 : zz.cell? ⟨w.heap.size + 1, 5, none⟩ = some (.int .i64 0) := K.cell 5
    have k6 : zz.cell? ⟨w.heap.size + 1, 6, none⟩ = some (.slice none 0 0) := K.cell 6
    have k7 : zz.cell? ⟨w.heap.size + 1, 7, none⟩ = some (.slice none 0 0) := K.cell 7
    have k8 : zz.cell? ⟨w.heap.size + 1, 8, none⟩ = some (.int .i64 0) := K.cell 8
    have k9 : zz.cell? ⟨w.heap.size + 1, 9, none⟩ = some (.string ⟨#[]⟩) := K.cell 9
    have k10 : zz.cell? ⟨w.heap.size + 1, 10, none⟩ = some (.string ⟨#[]⟩) := K.cell 10
    have k11 : zz.cell? ⟨w.heap.size + 1, 11, none⟩ = some (.string L4) := K.cell 11
    have k12 : zz.cell? ⟨w.heap.size + 1, 12, none⟩ = some (.int .i64 I4) := K.cell 12
    have k13 : zz.cell? ⟨w.heap.size + 1, 13, none⟩ = some (.int .i64 S4) := K.cell 13
    have k14 : zz.cell? ⟨w.heap.size + 1, 14, none⟩ = some (.slice pa4 P4.length ca4) := K.cell 14
    refine bodyPost_ret (v := .agg #[.string L1, .int .i64 I1, .int .i64 S1, .slice pa1 P1.length ca1, .string ⟨#[]⟩, .int .i64 0, .slice none 0 0, .slice none 0 0, .int .i64 0, .string ⟨#[]⟩, .string ⟨#[]⟩, .string L4, .int .i64 I4, .int .i64 S4, .slice pa4 P4.length ca4]) (by simp [results, Tryz.results8, go_sem, k0, k1, k2, k3, k4, k5, k6, k7, k8, k9, k10, k11, k12, k13, k14]) rfl ?_
    exact ⟨⟨_, _, _, _, rfl, HAp.out⟩, HEn.out⟩
  · subst h0
    have ho : O = ansZ := HAn.out
    subst ho
    clear HP1 HP4 HPl HTb HRow HAn HCs
    obtain ⟨c0, c1, c2, c3, c4, c5, c6, c7, c8, c9, c10, c11, c12, c13, c14, f0, f1, f2, f3, f4, f5, f6, f7, f8, f9, f10, f11, f12, f13, f14⟩ := H4.out.ab.res
    go_wp2_with fail
    clear c0 f0 c1 f1 c2 f2 c3 f3 c4 f4 c5 f5 c6 f6 c7 f7 c8 f8 c9 f9 c10 f10 c11 f11 c12 f12 c13 f13 c14 f14
    obtain ⟨K, HAo, HEd⟩ := AnB.put H4.out.ab (AnsO.nil _ _) (.string ⟨#[]⟩) (.int .i64 0) (.int .i64 0) (.slice none 0 0) (.string ⟨#[]⟩) (.int .i64 0) (.slice none 0 0) (.slice none 0 0) (.int .i64 0) (.string ⟨#[]⟩) (.string ⟨#[]⟩) (.string ⟨#[]⟩) (.int .i64 0) (.int .i64 0) (.slice none 0 0)
    generalize (((((((((((((((y3.setCell ⟨w.heap.size + 1, 0, none⟩ (.string ⟨#[]⟩)).setCell ⟨w.heap.size + 1, 1, none⟩ (.int .i64 0)).setCell ⟨w.heap.size + 1, 2, none⟩ (.int .i64 0)).setCell ⟨w.heap.size + 1, 3, none⟩ (.slice none 0 0)).setCell ⟨w.heap.size + 1, 4, none⟩ (.string ⟨#[]⟩)).setCell ⟨w.heap.size + 1, 5, none⟩ (.int .i64 0)).setCell ⟨w.heap.size + 1, 6, none⟩ (.slice none 0 0)).setCell ⟨w.heap.size + 1, 7, none⟩ (.slice none 0 0)).setCell ⟨w.heap.size + 1, 8, none⟩ (.int .i64 0)).setCell ⟨w.heap.size + 1, 9, none⟩ (.string ⟨#[]⟩)).setCell ⟨w.heap.size + 1, 10, none⟩ (.string ⟨#[]⟩)).setCell ⟨w.heap.size + 1, 11, none⟩ (.string ⟨#[]⟩)).setCell ⟨w.heap.size + 1, 12, none⟩ (.int .i64 0)).setCell ⟨w.heap.size + 1, 13, none⟩ (.int .i64 0)).setCell ⟨w.heap.size + 1, 14, none⟩ (.slice none 0 0)) = zz at *
    have HAp : Hid (AnsO _ _ _ _ _ _ zz) := HAo
    have HEn : Hid (Below w.heap.size w zz) := HEd
    have k0 : zz.cell? ⟨w.heap.size + 1, 0, none⟩ = some (.string ⟨#[]⟩) := K.cell 0
    have k1 : zz.cell? ⟨w.heap.size + 1, 1, none⟩ = some (.int .i64 0) := K.cell 1
    have k2 : zz.cell? ⟨w.heap.size + 1, 2, none⟩ = some (.int .i64 0) := K.cell 2
    have k3 : zz.cell? ⟨w.heap.size + 1, 3, none⟩ = some (.slice none 0 0) := K.cell 3
    have k4 : zz.cell? ⟨w.heap.size + 1, 4, none⟩ = some (.string ⟨#[]⟩) := K.cell 4
    have k5 : zz.cell? ⟨w.heap.size + 1, 5, none⟩ = some (.int .i64 0) := K.cell 5
    have k6 : zz.cell? ⟨w.heap.size + 1, 6, none⟩ = some (.slice none 0 0) := K.cell 6
    have k7 : zz.cell? ⟨w.heap.size + 1, 7, none⟩ = some (.slice none 0 0) := K.cell 7
    have k8 : zz.cell? ⟨w.heap.size + 1, 8, none⟩ = some (.int .i64 0) := K.cell 8
    have k9 : zz.cell? ⟨w.heap.size + 1, 9, none⟩ = some (.string ⟨#[]⟩) := K.cell 9
    have k10 : zz.cell? ⟨w.heap.size + 1, 10, none⟩ = some (.string ⟨#[]⟩) := K.cell 10
    have k11 : zz.cell? ⟨w.heap.size + 1, 11, none⟩ = some (.string ⟨#[]⟩) := K.cell 11
    have k12 : zz.cell? ⟨w.heap.size + 1, 12, none⟩ = some (.int .i64 0) := K.cell 12
    have k13 : zz.cell? ⟨w.heap.size + 1, 13, none⟩ = some (.int .i64 0) := K.cell 13
    have k14 : zz.cell? ⟨w.heap.size + 1, 14, none⟩ = some (.slice none 0 0) := K.cell 14
    refine bodyPost_ret (v := .agg #[.string ⟨#[]⟩, .int .i64 0, .int .i64 0, .slice none 0 0, .string ⟨#[]⟩, .int .i64 0, .slice none 0 0, .slice none 0 0, .int .i64 0, .string ⟨#[]⟩, .string ⟨#[]⟩, .string ⟨#[]⟩, .int .i64 0, .int .i64 0, .slice none 0 0]) (by simp [results, Tryz.results8, go_sem, k0, k1, k2, k3, k4, k5, k6, k7, k8, k9, k10, k11, k12, k13, k14]) rfl ?_
    exact ⟨⟨_, _, _, _, rfl, HAp.out⟩, HEn.out⟩
end Go.Proofs.YtamdgdkpcoeknaaGreatDoor
