/-
  What the program's AskForget answers, in new memory; allForgotten.
-/
import Derived.Test.YtokkeadbkeehgaaGreatDoorRows
import Derived.Test.YtokkeadbkeehgaaGreatDoorBytesDigMathTreeMathSlASlBBxKOwnSTakesLTillTwo
import Derived.Test.YtokkeadbkeehgaaGreatDoorTimeBPutMathPutNumJoinedPutTextFldMathFldRiseScanMath
import Derived.Test.YtokkeadbkeehgaaGreatDoorLgAtKShwKOneKFldGFldBlkRwBlkIntKLawILawOGLawImBlNotRulMathAppS
import Derived.Test.YtokkeadbkeehgaaGreatDoorGetValGetTxtNumMathFldRdNumFromTmbMathLgMath
import Derived.Test.YtokkeadbkeehgaaGreatDoorLawLqLgAnsLgRtLtMathLawLtLawFXLawLa
import Derived.Test.YtokkeadbkeehgaaGreatDoorLawLkRowOpsLgOLawLo
import Derived.Test.YtokkeadbkeehgaaGreatDoorLawSwLfMathLaMathLfSumPolMathPolIdxRulIdxPolO
import Derived.Test.YtokkeadbkeehgaaGreatDoorLogRIImplPlCopiedPhaseK
import Derived.Test.YtokkeadbkeehgaaGreatDoorImplLgRngX
import Derived.Test.YtokkeadbkeehgaaGreatDoorImplCl
import Derived.Test.YtokkeadbkeehgaaGreatDoorLfI
import Derived.Test.YtokkeadbkeehgaaGreatDoorRulBlkLawRlLawPoLawSLawM
import Derived.Test.YtokkeadbkeehgaaGreatDoorPolAnsKeepMAfMathLawAfStepAppOwnBTurn2
import Derived.Test.YtokkeadbkeehgaaGreatDoorImplMf
import Derived.Test.YtokkeadbkeehgaaGreatDoorAfB
import Derived.Handy
import Derived.WalkSpells
import Derived.OwnWalk
import Derived.Deep.RegionHeld3
import Derived.Deep.Cut
namespace Go.Proofs.YtokkeadbkeehgaaGreatDoor
open Go.RowKit Go.Lib
set_option linter.unusedVariables false
set_option maxRecDepth 20000

/-- The cells of a slice of dues hold these (of none nothing is asked). -/
def DuAt (w : World) (p : Option Addr) (ds : List (Int × Int)) : Prop := ∀ i (h : i < ds.length), ∃ b off a, p = some ⟨b, off, none⟩ ∧ b < w.heap.size ∧ w.cell? ⟨b, off + i * 3, none⟩ = some (.int .i64 ds[i].1) ∧ w.cell? ⟨b, off + i * 3 + 1, none⟩ = some (.int .i64 ds[i].2) ∧ w.cell? ⟨b, off + i * 3 + 2, none⟩ = some (.int .i64 a)
theorem DuAt.below {w w' : World} {p : Option Addr} {ds : List (Int × Int)} (h : DuAt w p ds) (hb : Below w.heap.size w w') : DuAt w' p ds := by
  intro i hi
  obtain ⟨b, off, a, rfl, h1, h2, h3, h4⟩ := h i hi
  exact ⟨b, off, a, rfl, Nat.lt_of_lt_of_le h1 hb.size, (hb.cell (p := ⟨b, off + i * 3, none⟩) h1).trans h2, (hb.cell (p := ⟨b, off + i * 3 + 1, none⟩) h1).trans h3, (hb.cell (p := ⟨b, off + i * 3 + 2, none⟩) h1).trans h4⟩
/-- A log of new memory in a box, at some step. -/
def AfS (W : World) (E : Nat) (rs : List Rw) (lv : List ByteArray) (now : Int) (x : World) : Prop := ∃ v1 v2 xs, Bxs x E 36 #[v1, v2, .int .i64 now] ∧ xs.map (·.1) = rs ∧ LgO W.heap.size xs lv v1 v2 x ∧ W.heap.size ≤ E ∧ Below W.heap.size W x
theorem AfS.open {W x : World} {E : Nat} {rs : List Rw} {lv : List ByteArray} {now : Int} (h : AfS W E rs lv now x) (hz : RwsLe rs ∧ TxtsLe lv ∧ rs.length ≤ 1048576 ∧ lv.length ≤ 1048576) : ∃ q cq p cp xs, x.cell? ⟨E, 0, none⟩ = some (.slice q rs.length cq) ∧ x.cell? ⟨E, 1, none⟩ = some (.slice p lv.length cp) ∧ x.cell? ⟨E, 2, none⟩ = some (.int .i64 now) ∧ x.frozen? ⟨E, 0, none⟩ = false ∧ x.frozen? ⟨E, 1, none⟩ = false ∧ x.frozen? ⟨E, 2, none⟩ = false ∧ LgAt p lv cp q rs cq x ∧ xs.map (·.1) = rs ∧ LgO W.heap.size xs lv (.slice q rs.length cq) (.slice p lv.length cp) x := by
  obtain ⟨v1, v2, xs, hb, hx, ho, -, -⟩ := h
  obtain ⟨z1, zc, e1, hc1⟩ := ho.rws.form
  subst e1
  obtain ⟨z2, zd, e2, hc2, ht⟩ := ownS_form ho.lvs
  subst e2
  have hl : xs.length = rs.length := by rw [← hx, List.length_map]
  have hat : RwAt x z1 rs := by rw [← hx]; exact ho.rws.at
  rw [hl] at hb hc1 ho
  exact ⟨z1, zc, z2, zd, xs, hb.cell 0, hb.cell 1, hb.cell 2, hb.fr 0, hb.fr 1, hb.fr 2, ⟨ht, hc2, hz.2.2.2, hz.2.1, hat, hc1, hz.2.2.1, hz.1⟩, hx, ho⟩
theorem AfS.belw {W x y : World} {E : Nat} {rs : List Rw} {lv : List ByteArray} {now : Int} (h : AfS W E rs lv now x) (hb : Below x.heap.size x y) : AfS W E rs lv now y := by
  obtain ⟨v1, v2, xs, h1, h2, h3, h4, h5⟩ := h
  exact ⟨v1, v2, xs, h1.below hb, h2, h3.below hb, h4, chainB h5 hb⟩
/-- The next log is put into the box. -/
theorem AfS.put {W x : World} {E : Nat} {rs rs' : List Rw} {lv lv' : List ByteArray} {now : Int} {v1 v2 : Value} {xs : List (Rw × Value)} {b : Nat} (h : AfS W E rs lv now x) (hx : xs.map (·.1) = rs') (ho : LgO b xs lv' v1 v2 x) (hb : W.heap.size ≤ b) : AfS W E rs' lv' now (((x.setCell ⟨E, 0, none⟩ v1).setCell ⟨E, 1, none⟩ v2).setCell ⟨E, 2, none⟩ (.int .i64 now)) := by
  obtain ⟨u1, u2, ys, h1, h2, h3, h4, h5⟩ := h
  have hc := LgC.put (now := now) h1 h4 h5 (ho.lower hb)
  exact ⟨v1, v2, xs, hc.box, hx, hc.lg, hc.eb, hc.bel⟩
set_option maxHeartbeats 8000000 in
theorem allForgotten_any (p : Option Addr) (lv : List ByteArray) (cp : Nat) (q : Option Addr) (rs : List Rw) (cq : Nat) (now : Int) (pd : Option Addr) (cd : Nat) (ds : List (Int × Int)) (why : Int) (R : Nat → List Rw) (L : Nat → List ByteArray) (w : World) (hT : Tabs w) (hg : Laid w) (hA : LgAt p lv cp q rs cq w) (hl : lgB rs lv now = true) (hd : DuAt w pd ds) (hdl : ds.length ≤ 1048576) (hdc : ds.length ≤ cd) (hR : R 0 = rs) (hL : L 0 = lv)
    (hst : ∀ k (h : k < ds.length), lfC (R k) (L k) now ds[k].1 ds[k].2 why = 0 ∧ R (k + 1) = lfR (R k) (L k) now ds[k].1 ds[k].2 why ∧ L (k + 1) = lfL (R k) (L k) now ds[k].1 ds[k].2 why) (hle : ∀ k, k ≤ ds.length → RwsLe (R k) ∧ TxtsLe (L k) ∧ (R k).length ≤ 1048576 ∧ (L k).length ≤ 1048576) :
    Calls Tryz.prog 55 #[.agg #[.slice q rs.length cq, .slice p lv.length cp, .int .i64 now], .slice pd ds.length cd, .int .i64 why] w fun e w' => SwA w.heap.size (R ds.length) (L ds.length) now ds.length 0 e w' ∧ Below w.heap.size w w' := by
  obtain ⟨W2, hW2⟩ : ∃ W2, W2 = (w.alloc (.cells #[.slice q rs.length cq, .slice p lv.length cp, .int .i64 now] 36)).alloc (.cells #[.slice none 0 0, .slice none 0 0, .int .i64 0, .int .i64 0, .int .i64 0] 50) := ⟨_, rfl⟩
  have HW2 : Hid (W2 = (w.alloc (.cells #[.slice q rs.length cq, .slice p lv.length cp, .int .i64 now] 36)).alloc (.cells #[.slice none 0 0, .slice none 0 0, .int .i64 0, .int .i64 0, .int .i64 0] 50)) := hW2
  have K0 : Bxs W2 w.heap.size 36 #[.slice q rs.length cq, .slice p lv.length cp, .int .i64 now] := by rw [hW2]; exact (Bxs.new _ _ _).alloc _
  have K1 : Hid (Bxs W2 (w.heap.size + 1) 50 #[.slice none 0 0, .slice none 0 0, .int .i64 0, .int .i64 0, .int .i64 0]) := by
    rw [hW2]
    have h := Bxs.new (w.alloc (.cells #[.slice q rs.length cq, .slice p lv.length cp, .int .i64 now] 36)) 50 #[.slice none 0 0, .slice none 0 0, .int .i64 0, .int .i64 0, .int .i64 0]
    rwa [szA] at h
  have B2 : Hid (Below w.heap.size w W2) := by rw [hW2]; exact alB ((Below.refl _ _).alloc (Nat.le_refl _) _) _
  have hCp := copiedLog_any p lv cp q rs cq now W2 (hA.below B2.out) (lg_right hl).2.2 (fun s hs => by have := lg_small hl s hs; omega)
  have HD : Hid (∀ x, Below w.heap.size w x → DuAt x pd ds) := fun x hx => hd.below hx
  have HF : Hid (∀ k x qq cc pp dd, k < ds.length → Below w.heap.size w x → LgAt pp (L k) dd qq (R k) cc x → (h : k < ds.length) → Calls Tryz.prog 91 #[.agg #[.slice qq (R k).length cc, .slice pp (L k).length dd, .int .i64 now], .int .i64 ds[k].1, .int .i64 ds[k].2, .int .i64 why] x fun e w' => LgA x.heap.size (R (k + 1)) (L (k + 1)) now 0 e w' ∧ Below x.heap.size x w') := fun k x qq cc pp dd hk hx hAt h => by
    obtain ⟨s1, s2, s3⟩ := hst k h
    have k1 := implLogForget_any pp (L k) dd qq (R k) cc now ds[k].1 ds[k].2 why x (hT.to hx) (hg.below hx) hAt
    have k2 := (lf_good s1).2.2
    rw [s1, k2, ← s2, ← s3] at k1
    exact k1
  have HLe : Hid (∀ k, k ≤ ds.length → RwsLe (R k) ∧ TxtsLe (L k) ∧ (R k).length ≤ 1048576 ∧ (L k).length ≤ 1048576) := hle
  have HR0 : Hid (R 0 = rs ∧ L 0 = lv) := ⟨hR, hL⟩
  obtain ⟨x0, x1, x2⟩ : W2.cell? ⟨w.heap.size, 0, none⟩ = some (.slice q rs.length cq) ∧ W2.cell? ⟨w.heap.size, 1, none⟩ = some (.slice p lv.length cp) ∧ W2.cell? ⟨w.heap.size, 2, none⟩ = some (.int .i64 now) := ⟨K0.cell 0, K0.cell 1, K0.cell 2⟩
  rw [HW2.out] at x0 x1 x2
  clear hW2 K0 hT hg hA hd hst hle hR hL hl
  go_enter Tryz.func55, Tryz.ntmps55
  go_wp2_with fail
  rw [← HW2.out] at x0 x1 x2 ⊢
  with_reducible refine hCp.mono ?_
  rintro e y4 ⟨v1, v2, xs, rfl, hx, ho, z4⟩
  obtain ⟨z1, zc, rfl, _⟩ := ho.rws.form
  obtain ⟨z2, zd, rfl, _, _⟩ := ownS_form ho.lvs
  have HS5 : Hid (AfS W2 y4.heap.size rs lv now (y4.alloc (.cells #[.slice z1 xs.length zc, .slice z2 lv.length zd, .int .i64 now] 36))) := ⟨_, _, xs, Bxs.new _ _ _, hx, ho.below (alB (Below.refl _ _) _), z4.size, alB z4 _⟩
  clear x0 x1 x2 hCp hx ho z4
  go_upto_region 2 with fail
  generalize y4.heap.size = E at *
  generalize y4.alloc (.cells #[.slice z1 xs.length zc, .slice z2 lv.length zd, .int .i64 now] 36) = y5 at *
  go_wp2_with fail
  go_loopw [15] (fun i wr => ∃ k : Nat, k ≤ ds.length ∧ i = .int .i64 (k : Int) ∧ Hid (AfS W2 E (R k) (L k) now wr)) (fun i _ => ds.length - (Go.RowKit.intOf i).toNat)
  case atStart => exact ⟨0, Nat.zero_le _, rfl, by rw [HR0.out.1, HR0.out.2]; exact HS5⟩
  case round =>
    obtain ⟨k, hk, rfl, HK⟩ := hrel
    by_cases hlt : k < ds.length
    · have i1 : (k : Int) < ds.length := by omega
      have HBw : Hid (∀ x, Below wr.heap.size wr x → Below w.heap.size w x) := fun x hx => by
        obtain ⟨_, _, _, _, _, _, _, h5⟩ := HK.out
        exact chainB (chainB B2.out h5) hx
      have HDb : Hid (∀ x, Below wr.heap.size wr x → DuAt x pd ds) := fun x hx => HD.out x (HBw.out x hx)
      obtain ⟨b, off, da, rfl, hb, c0, c1, c2⟩ := HD.out wr (HBw.out _ (Below.refl _ _)) k hlt
      obtain ⟨W6, hW6⟩ : ∃ W6, W6 = wr.alloc (.cells #[.int .i64 ds[k].1, .int .i64 ds[k].2, .int .i64 da] 70) := ⟨_, rfl⟩
      have HW6 : Hid (W6 = wr.alloc (.cells #[.int .i64 ds[k].1, .int .i64 ds[k].2, .int .i64 da] 70)) := hW6
      have b6 : Below wr.heap.size wr W6 := by rw [hW6]; exact (Below.refl _ _).alloc (Nat.le_refl _) _
      have K6 : Bxs W6 wr.heap.size 70 #[.int .i64 ds[k].1, .int .i64 ds[k].2, .int .i64 da] := by rw [hW6]; exact Bxs.new _ _ _
      have HK6 : Hid (AfS W2 E (R k) (L k) now W6) := HK.out.belw b6
      obtain ⟨qq, cc, pp, dd, xk, e0, e1, e2, f0, f1, f2, hAt, -, -⟩ := HK6.out.open (HLe.out k hk)
      have hF := HF.out k W6 qq cc pp dd hlt (HBw.out _ b6) hAt hlt
      have u0 := K6.cell 0
      have u1 := K6.cell 1
      have HRk : Hid (W2.heap.size ≤ W6.heap.size ∧ E < W6.heap.size) := by
        obtain ⟨_, _, _, h1, _, _, _, h5⟩ := HK6.out
        exact ⟨h5.size, h1.lt⟩
      rw [hW6] at e0 e1 e2 u0 u1
      clear hW6 b6 K6 f0 f1 f2 hAt
      go_wp2_with fail
      rw [← HW6.out] at e0 e1 e2 u0 u1 ⊢
      with_reducible refine hF.mono ?_
      rintro e y7 ⟨⟨v1', v2', xs', rfl, hx', ho'⟩, z7⟩
      obtain ⟨w1, wc, rfl, _⟩ := ho'.rws.form
      obtain ⟨w2, wd, rfl, _, _⟩ := ownS_form ho'.lvs
      obtain ⟨W8, hW8⟩ : ∃ W8, W8 = y7.alloc (.cells #[.slice w1 xs'.length wc, .slice w2 (L (k + 1)).length wd, .int .i64 now, .int .i64 0] 137) := ⟨_, rfl⟩
      have HW8 : Hid (W8 = y7.alloc (.cells #[.slice w1 xs'.length wc, .slice w2 (L (k + 1)).length wd, .int .i64 now, .int .i64 0] 137)) := hW8
      have b8 : Below W6.heap.size W6 W8 := by rw [hW8]; exact alB z7 _
      have K8 : Bxs W8 y7.heap.size 137 #[.slice w1 xs'.length wc, .slice w2 (L (k + 1)).length wd, .int .i64 now, .int .i64 0] := by rw [hW8]; exact Bxs.new _ _ _
      have HK8 : AfS W2 E (R k) (L k) now W8 := HK6.out.belw b8
      have ho8 : LgO W6.heap.size xs' (L (k + 1)) (.slice w1 xs'.length wc) (.slice w2 (L (k + 1)).length wd) W8 := by rw [hW8]; exact ho'.below ((Below.refl _ _).alloc (Nat.le_refl _) _)
      have HP : Hid (AfS W2 E (R (k + 1)) (L (k + 1)) now (((W8.setCell ⟨E, 0, none⟩ (.slice w1 xs'.length wc)).setCell ⟨E, 1, none⟩ (.slice w2 (L (k + 1)).length wd)).setCell ⟨E, 2, none⟩ (.int .i64 now))) := HK8.put hx' ho8 HRk.out.1
      obtain ⟨_, _, _, hbx, _⟩ := HK8
      have f0 := hbx.fr 0
      have f1 := hbx.fr 1
      have f2 := hbx.fr 2
      have s0 := hbx.cell 0
      have s1 := hbx.cell 1
      have s2 := hbx.cell 2
      have t0 := K8.cell 0
      have t1 := K8.cell 1
      have t2 := K8.cell 2
      have t3 := K8.cell 3
      rw [hW8] at f0 f1 f2 s0 s1 s2 t0 t1 t2 t3
      clear e0 e1 e2 u0 u1 hF z7 hx' ho' hW8 b8 K8 ho8 hbx
      go_wp2_with fail
      go_roundw
      case rel =>
        refine ⟨k + 1, by omega, by go_num, ?_⟩
        rw [← HW8.out]
        exact HP
      case measure => simp [Go.RowKit.intOf]; omega
    · obtain rfl : k = ds.length := by omega
      obtain ⟨qq, cc, pp, dd, xk, e0, e1, e2, f0, f1, f2, -, hxk, hok⟩ := HK.out.open (HLe.out _ (Nat.le_refl _))
      have HXK : Hid (xk.map (·.1) = R ds.length) := hxk
      have hbl : Below W2.heap.size W2 wr := by
        obtain ⟨_, _, _, _, _, _, _, h5⟩ := HK.out
        exact h5
      have HOk : Hid (LgO w.heap.size xk (L ds.length) (.slice qq (R ds.length).length cc) (.slice pp (L ds.length).length dd) wr) := hok.lower B2.out.size
      have K1w : Hid (Bxs wr (w.heap.size + 1) 50 #[.slice none 0 0, .slice none 0 0, .int .i64 0, .int .i64 0, .int .i64 0]) := K1.out.below hbl
      have HBl : Hid (Below w.heap.size w wr) := chainB B2.out hbl
      clear f0 f1 f2 hxk hok hbl
      obtain ⟨i0, i1, i2, i3, i4⟩ : wr.cell? ⟨w.heap.size + 1, 0, none⟩ = some (.slice none 0 0) ∧ wr.cell? ⟨w.heap.size + 1, 1, none⟩ = some (.slice none 0 0) ∧ wr.cell? ⟨w.heap.size + 1, 2, none⟩ = some (.int .i64 0) ∧ wr.cell? ⟨w.heap.size + 1, 3, none⟩ = some (.int .i64 0) ∧ wr.cell? ⟨w.heap.size + 1, 4, none⟩ = some (.int .i64 0) := ⟨K1w.out.cell 0, K1w.out.cell 1, K1w.out.cell 2, K1w.out.cell 3, K1w.out.cell 4⟩
      have i5 := K1w.out.fr 0
      have i6 := K1w.out.fr 1
      have i7 := K1w.out.fr 2
      have i8 := K1w.out.fr 3
      have i9 := K1w.out.fr 4
      go_wp2_with fail
      obtain ⟨K, HLo, HEd⟩ := sw_put K1w.out (by omega) HBl.out HOk.out (.slice qq (R ds.length).length cc) (.slice pp (L ds.length).length dd) (.int .i64 now) (.int .i64 (ds.length : Int)) (.int .i64 0)
      generalize (((((wr.setCell ⟨w.heap.size + 1, 0, none⟩ (.slice qq (R ds.length).length cc)).setCell ⟨w.heap.size + 1, 1, none⟩ (.slice pp (L ds.length).length dd)).setCell ⟨w.heap.size + 1, 2, none⟩ (.int .i64 now)).setCell ⟨w.heap.size + 1, 3, none⟩ (.int .i64 (ds.length : Int))).setCell ⟨w.heap.size + 1, 4, none⟩ (.int .i64 0)) = zz at *
      have HLp : Hid (LgO _ _ _ _ _ zz) := HLo
      have HEn : Hid (Below w.heap.size w zz) := HEd
      have k0 : zz.cell? ⟨w.heap.size + 1, 0, none⟩ = some (.slice qq (R ds.length).length cc) := K.cell 0
      have k1 : zz.cell? ⟨w.heap.size + 1, 1, none⟩ = some (.slice pp (L ds.length).length dd) := K.cell 1
      have k2 : zz.cell? ⟨w.heap.size + 1, 2, none⟩ = some (.int .i64 now) := K.cell 2
      have k3 : zz.cell? ⟨w.heap.size + 1, 3, none⟩ = some (.int .i64 (ds.length : Int)) := K.cell 3
      have k4 : zz.cell? ⟨w.heap.size + 1, 4, none⟩ = some (.int .i64 0) := K.cell 4
      refine bodyPost_ret (v := .agg #[.slice qq (R ds.length).length cc, .slice pp (L ds.length).length dd, .int .i64 now, .int .i64 (ds.length : Int), .int .i64 0]) (by simp [results, Tryz.results55, go_sem, k0, k1, k2, k3, k4]) rfl ?_
      exact ⟨⟨_, _, xk, rfl, HXK.out, HLp.out⟩, HEn.out⟩
set_option maxHeartbeats 8000000 in
theorem implAskForget_any (p : Option Addr) (lv : List ByteArray) (cp : Nat) (q : Option Addr) (rs : List Rw) (cq : Nat) (now : Int) (p1 p2 : Option Addr) (c1 c2 : Nat) (us : List Rul) (hs : List Int) (r f : Int) (w : World) (hT : Tabs w) (hg : Laid w) (hA : LgAt p lv cp q rs cq w) (hr : RulAt w p1 us) (hh : IntAt w p2 hs) (m1 : us.length ≤ c1) (m2 : hs.length ≤ c2) (hz : RulsLe us) (hu : us.length ≤ 1048576) (hhl : hs.length ≤ 1048576) :
    Calls Tryz.prog 20 #[.agg #[.slice q rs.length cq, .slice p lv.length cp, .int .i64 now], .agg #[.slice p1 us.length c1, .slice p2 hs.length c2], .int .i64 r, .int .i64 f] w fun e w' => SwA w.heap.size (afR rs lv now us hs r f) (afL rs lv now us hs r f) (afN rs lv now us hs r f) (afK rs lv now us hs r f) (mfO rs lv now us hs r f) e w' ∧ Below w.heap.size w w' := by
  obtain ⟨W3, hW3⟩ : ∃ W3, W3 = ((w.alloc (.cells #[.slice q rs.length cq, .slice p lv.length cp, .int .i64 now] 36)).alloc (.cells #[.slice p1 us.length c1, .slice p2 hs.length c2] 40)).alloc (.cells #[.slice none 0 0, .slice none 0 0, .int .i64 0, .int .i64 0, .int .i64 0] 50) := ⟨_, rfl⟩
  have HW3 : Hid (W3 = ((w.alloc (.cells #[.slice q rs.length cq, .slice p lv.length cp, .int .i64 now] 36)).alloc (.cells #[.slice p1 us.length c1, .slice p2 hs.length c2] 40)).alloc (.cells #[.slice none 0 0, .slice none 0 0, .int .i64 0, .int .i64 0, .int .i64 0] 50)) := hW3
  have H3 : Hid (AfB w q rs.length cq p lv.length cp now p1 us.length c1 p2 hs.length c2 W3) := af_boxes hW3
  have hMf : Calls Tryz.prog 54 #[.agg #[.slice q rs.length cq, .slice p lv.length cp, .int .i64 now], .agg #[.slice p1 us.length c1, .slice p2 hs.length c2], .int .i64 r, .int .i64 f] W3 fun e w' => e = .returned (.int .i64 (mfO rs lv now us hs r f)) ∧ Below W3.heap.size W3 w' := implMayForget_any p lv cp q rs cq now p1 p2 c1 c2 us hs r f W3 (hT.to H3.out.bel) (hg.below H3.out.bel) (hA.below H3.out.bel) (hr.below H3.out.bel) (hh.below H3.out.bel) m1 m2 hz hu hhl
  have HAll : Hid (mfO rs lv now us hs r f = 0 → ∀ x g, Below w.heap.size w x → Bxs x g 70 #[.int .i64 r, .int .i64 f, .int .i64 0] → Calls Tryz.prog 55 #[.agg #[.slice q rs.length cq, .slice p lv.length cp, .int .i64 now], .slice (some ⟨g, 0, none⟩) 1 1, .int .i64 1] x fun e w' => SwA x.heap.size (afR rs lv now us hs r f) (afL rs lv now us hs r f) now 1 0 e w' ∧ Below x.heap.size x w') := fun h0 x g hx hb => by
    obtain ⟨hl, hf0, hc⟩ := mf_zero h0
    have e1 : afR rs lv now us hs r f = lfR rs lv now r f 1 := if_pos h0
    have e2 : afL rs lv now us hs r f = lfL rs lv now r f 1 := if_pos h0
    rw [e1, e2]
    obtain ⟨g1, g2, -⟩ := lf_good hc
    obtain ⟨I, J, hI, hJ, rfl, rfl, -⟩ := fc_zero hf0
    have hD : DuAt x (some ⟨g, 0, none⟩) [((I : Int), (J : Int))] := fun i hi => by
      have : i = 0 := by simpa using hi
      subst this
      exact ⟨g, 0, 0, rfl, hb.lt, hb.cell 0, hb.cell 1, hb.cell 2⟩
    exact allForgotten_any p lv cp q rs cq now (some ⟨g, 0, none⟩) 1 [((I : Int), (J : Int))] 1 (fun k => if k = 0 then rs else lfR rs lv now I J 1) (fun k => if k = 0 then lv else lfL rs lv now I J 1) x (hT.to hx) (hg.below hx) (hA.below hx) hl hD (by simp) (by simp) rfl rfl
      (fun k hk => by
        have : k = 0 := by simpa using hk
        subst this
        exact ⟨hc, rfl, rfl⟩)
      (fun k hk => by
        by_cases h : k = 0
        · subst h; exact ⟨hA.rz, hA.lz, hA.rn, hA.ln⟩
        · simp only [if_neg h]
          rw [g1, g2, Int.toNat_natCast, fgt_eq hI hJ]
          refine ⟨fun z hz => ?_, fun z hz => ?_, by rw [List.length_set]; exact hA.rn, by have := (lg_right hl).2.1; simp; omega⟩
          · rcases List.mem_or_eq_of_mem_set hz with hz | rfl
            · exact hA.rz z hz
            · have k1 := hA.rz _ (List.getElem_mem hI)
              refine ⟨by simpa using k1.1, k1.2.1, fun y hy => ?_⟩
              rcases List.mem_or_eq_of_mem_set hy with hy | rfl
              · exact k1.2.2 y hy
              · have k2 := k1.2.2 _ (List.getElem_mem hJ)
                exact ⟨k2.1, k2.2.1, by show ByteArray.empty.size ≤ _; simp, by show ByteArray.empty.size ≤ _; simp⟩
          · rcases List.mem_append.1 hz with hz | hz
            · exact hA.lz z hz
            · rw [List.mem_singleton.1 hz]; have := (tmRaw_size ⟨(I : Int), (J : Int), 1, now⟩).2; unfold maxLen; omega)
  have HBd : Hid (¬ mfO rs lv now us hs r f = 0 → afR rs lv now us hs r f = [] ∧ afL rs lv now us hs r f = [] ∧ afN rs lv now us hs r f = 0 ∧ afK rs lv now us hs r f = 0) := fun h => af_bad h
  have HGd : Hid (mfO rs lv now us hs r f = 0 → afN rs lv now us hs r f = now ∧ afK rs lv now us hs r f = 1) := fun h => ⟨if_pos h, if_pos h⟩
  clear hW3 hA hr hh hz hT hg
  generalize mfO rs lv now us hs r f = M at *
  generalize afR rs lv now us hs r f = RR at *
  generalize afL rs lv now us hs r f = LL at *
  generalize afN rs lv now us hs r f = NN at *
  generalize afK rs lv now us hs r f = KK at *
  have HZ : Hid (∀ x, LgO w.heap.size [] [] (.slice none 0 0) (.slice none 0 0) x) := fun x => LgO.nil _ _
  obtain ⟨x0, x1, x2, x3, x4⟩ := H3.out.five
  obtain ⟨i0, i1, i2, i3, i4, i5, i6, i7, i8, i9⟩ := H3.out.res
  go_enter Tryz.func20, Tryz.ntmps20
  go_upto_region 1 with fail
  rw [← HW3.out]
  go_wp2_with fail
  with_reducible refine hMf.mono ?_
  rintro e y2 ⟨rfl, z1⟩
  have H4 : Hid (AfB w q rs.length cq p lv.length cp now p1 us.length c1 p2 hs.length c2 y2) := H3.out.below z1
  clear x0 x1 x2 x3 x4 i0 i1 i2 i3 i4 i5 i6 i7 i8 i9 H3 z1 hMf
  obtain ⟨x0, x1, x2, x3, x4⟩ := H4.out.five
  obtain ⟨i0, i1, i2, i3, i4, i5, i6, i7, i8, i9⟩ := H4.out.res
  by_cases hM : M = 0
  case neg =>
    obtain ⟨b1, b2, b3, b4⟩ := HBd.out hM
    have e0 : (M != 0) = true := by simpa using hM
    have e0b : (M == 0) = false := by simpa using hM
    subst b1 b2 b3 b4
    clear hM HBd HGd
    go_wp2_with fail
    obtain ⟨K, HLo, HEd⟩ := sw_put H4.out.rs (by omega) H4.out.bel (HZ.out y2) (.slice none 0 0) (.slice none 0 0) (.int .i64 0) (.int .i64 0) (.int .i64 M)
    generalize (((((y2.setCell ⟨w.heap.size + 2, 0, none⟩ (.slice none 0 0)).setCell ⟨w.heap.size + 2, 1, none⟩ (.slice none 0 0)).setCell ⟨w.heap.size + 2, 2, none⟩ (.int .i64 0)).setCell ⟨w.heap.size + 2, 3, none⟩ (.int .i64 0)).setCell ⟨w.heap.size + 2, 4, none⟩ (.int .i64 M)) = zz at *
    have HLp : Hid (LgO _ _ _ _ _ zz) := HLo
    have HEn : Hid (Below w.heap.size w zz) := HEd
    have k0 : zz.cell? ⟨w.heap.size + 2, 0, none⟩ = some (.slice none 0 0) := K.cell 0
    have k1 : zz.cell? ⟨w.heap.size + 2, 1, none⟩ = some (.slice none 0 0) := K.cell 1
    have k2 : zz.cell? ⟨w.heap.size + 2, 2, none⟩ = some (.int .i64 0) := K.cell 2
    have k3 : zz.cell? ⟨w.heap.size + 2, 3, none⟩ = some (.int .i64 0) := K.cell 3
    have k4 : zz.cell? ⟨w.heap.size + 2, 4, none⟩ = some (.int .i64 M) := K.cell 4
    refine bodyPost_ret (v := .agg #[.slice none 0 0, .slice none 0 0, .int .i64 0, .int .i64 0, .int .i64 M]) (by simp [results, Tryz.results20, go_sem, k0, k1, k2, k3, k4]) rfl ?_
    exact ⟨⟨_, _, [], rfl, rfl, HLp.out⟩, HEn.out⟩
  obtain ⟨b3, b4⟩ := HGd.out hM
  have b5 := b3.symm
  have HAl : Hid (∀ x g, Below w.heap.size w x → Bxs x g 70 #[.int .i64 r, .int .i64 f, .int .i64 0] → Calls Tryz.prog 55 #[.agg #[.slice q rs.length cq, .slice p lv.length cp, .int .i64 now], .slice (some ⟨g, 0, none⟩) 1 1, .int .i64 1] x fun e w' => SwA x.heap.size RR LL now 1 0 e w' ∧ Below x.heap.size x w') := HAll.out hM
  subst hM b5 b4
  clear HBd HGd HAll
  have hAl := HAl.out (y2.alloc (.cells #[.int .i64 r, .int .i64 f, .int .i64 0] 70)) y2.heap.size (alB H4.out.bel _) (Bxs.new _ _ _)
  go_wp2_with fail
  with_reducible refine hAl.mono ?_
  rintro e yA ⟨⟨v1, v2, xs, rfl, hx, ho⟩, zA⟩
  obtain ⟨z1, zc, rfl, _⟩ := ho.rws.form
  obtain ⟨z2, zd, rfl, _, _⟩ := ownS_form ho.lvs
  have HX : Hid (xs.map (·.1) = RR) := hx
  have HA8 : Hid (AfB w q rs.length cq p lv.length cp now p1 us.length c1 p2 hs.length c2 yA) := (H4.out.below ((Below.refl _ _).alloc (Nat.le_refl _) _)).below zA
  have HO8 : Hid (LgO w.heap.size xs LL (.slice z1 xs.length zc) (.slice z2 LL.length zd) yA) := ho.lower (Nat.le_trans H4.out.bel.size (by simp))
  clear x0 x1 x2 x3 x4 i0 i1 i2 i3 i4 i5 i6 i7 i8 i9 hAl hx ho zA
  obtain ⟨i0, i1, i2, i3, i4, i5, i6, i7, i8, i9⟩ := HA8.out.res
  go_wp2_with fail
  obtain ⟨K, HLo, HEd⟩ := sw_put HA8.out.rs (by omega) HA8.out.bel HO8.out (.slice z1 xs.length zc) (.slice z2 LL.length zd) (.int .i64 now) (.int .i64 1) (.int .i64 0)
  generalize (((((yA.setCell ⟨w.heap.size + 2, 0, none⟩ (.slice z1 xs.length zc)).setCell ⟨w.heap.size + 2, 1, none⟩ (.slice z2 LL.length zd)).setCell ⟨w.heap.size + 2, 2, none⟩ (.int .i64 now)).setCell ⟨w.heap.size + 2, 3, none⟩ (.int .i64 1)).setCell ⟨w.heap.size + 2, 4, none⟩ (.int .i64 0)) = zz at *
  have HLp : Hid (LgO _ _ _ _ _ zz) := HLo
  have HEn : Hid (Below w.heap.size w zz) := HEd
  have k0 : zz.cell? ⟨w.heap.size + 2, 0, none⟩ = some (.slice z1 xs.length zc) := K.cell 0
  have k1 : zz.cell? ⟨w.heap.size + 2, 1, none⟩ = some (.slice z2 LL.length zd) := K.cell 1
  have k2 : zz.cell? ⟨w.heap.size + 2, 2, none⟩ = some (.int .i64 now) := K.cell 2
  have k3 : zz.cell? ⟨w.heap.size + 2, 3, none⟩ = some (.int .i64 1) := K.cell 3
  have k4 : zz.cell? ⟨w.heap.size + 2, 4, none⟩ = some (.int .i64 0) := K.cell 4
  refine bodyPost_ret (v := .agg #[.slice z1 xs.length zc, .slice z2 LL.length zd, .int .i64 now, .int .i64 1, .int .i64 0]) (by simp [results, Tryz.results20, go_sem, k0, k1, k2, k3, k4]) rfl ?_
  exact ⟨⟨_, _, xs, rfl, HX.out, HLp.out⟩, HEn.out⟩
end Go.Proofs.YtokkeadbkeehgaaGreatDoor
