/-
  The law FnShow returns true: what Show, ShownLeaf, ShownBytes and ShownRead answer of drawn codes; what shows a field leads to the row's leaf, also when all others are forgotten; it comes back from its bytes.
  Conditions: the codes lie there; the two tables of the digest lie as laid.
-/
import Derived.Test.YtnomkcbcjaagmabGreatDoorRows
import Derived.Test.YtnomkcbcjaagmabGreatDoorBytesDigMath
import Derived.Test.YtnomkcbcjaagmabGreatDoorSlASlBOwnS
import Derived.Test.YtnomkcbcjaagmabGreatDoorBxKGrKTakesSrc
import Derived.Test.YtnomkcbcjaagmabGreatDoorDrawsDrawKit
import Derived.Test.YtnomkcbcjaagmabGreatDoorJoinedPutTextFldMath
import Derived.Test.YtnomkcbcjaagmabGreatDoorFldRiseFldGShwK
import Derived.Test.YtnomkcbcjaagmabGreatDoorFldHStepAppTakesLOwnBTurn2
import Derived.Test.YtnomkcbcjaagmabGreatDoorFldO
import Derived.Test.YtnomkcbcjaagmabGreatDoorFldS
import Derived.Test.YtnomkcbcjaagmabGreatDoorFldV
import Derived.Test.YtnomkcbcjaagmabGreatDoorFldB
import Derived.Test.YtnomkcbcjaagmabGreatDoorFldP
import Derived.Test.YtnomkcbcjaagmabGreatDoorNumMathNumFromFldK
import Derived.Test.YtnomkcbcjaagmabGreatDoorFldWTurnIWholeR
import Derived.Test.YtnomkcbcjaagmabGreatDoorImplFkPhaseK
import Derived.Test.YtnomkcbcjaagmabGreatDoorImplFg
import Derived.Test.YtnomkcbcjaagmabGreatDoorImplSwFldBlk
import Derived.Test.YtnomkcbcjaagmabGreatDoorImplSh
import Derived.Test.YtnomkcbcjaagmabGreatDoorImplSr
import Derived.Test.YtnomkcbcjaagmabGreatDoorLwShwSomeDrawFld
import Derived.Test.YtnomkcbcjaagmabGreatDoorDrawRow
import Derived.Test.YtnomkcbcjaagmabGreatDoorDrawSm
import Derived.Test.YtnomkcbcjaagmabGreatDoorDrawRwDrawPut
import Derived.Test.YtnomkcbcjaagmabGreatDoorDrawSh
import Derived.Test.YtnomkcbcjaagmabGreatDoorSpoilTDrawSw
import Derived.Handy
import Derived.WalkSpells
import Derived.OwnWalk
import Derived.Deep.RegionHeld3
import Derived.Deep.Cut
import Derived.Deep.CutRange
namespace Go.Proofs.YtnomkcbcjaagmabGreatDoor
open Go.RowKit Go.Lib
set_option linter.unusedVariables false
set_option maxRecDepth 20000

theorem field_scode (k : ByteArray) (t : Int) (q1 : Option Addr) (n1 c1 : Nat) (q2 : Option Addr) (n2 c2 : Nat) (i : Int) (s v : ByteArray) (e : Int) (x : World) : (Instr.field 50 (.agg #[.string k, .int .i64 t, .slice q1 n1 c1, .slice q2 n2 c2, .int .i64 i, .string s, .string v, .int .i64 e]) 1).run Tryz.prog x = .ok (.int .i64 e) x := by kernel_rfl
theorem sr_sound {t : ByteArray} (h : srC t = 0) : sbB (srO t) = t := by
  have ho : srO t = srP t := if_pos h
  unfold srC at h
  split at h
  · cases h
  · split at h
    · cases h
    · rename_i hb
      rw [ho]
      have h3 : ¬ ((sbB (srP t)).toList == t.toList) = false := fun e => hb (.inr (.inr e))
      have h4 : ((sbB (srP t)).toList == t.toList) = true := by cases e : ((sbB (srP t)).toList == t.toList) with
        | true => rfl
        | false => exact absurd e h3
      exact (toL_iff _ _).1 h4
theorem sr_le (t : ByteArray) (ht : t.size ≤ 991) : ShwLe (srO t) ∧ (srO t).ns.length ≤ 4 ∧ (srO t).cs.length ≤ 4 := by
  by_cases h : srC t = 0
  · have e := sr_sound h
    have hok : sbOk (srO t) = true := by
      cases q : sbOk (srO t) with
      | true => rfl
      | false =>
        exfalso
        unfold sbB at e
        rw [q, if_neg Bool.false_ne_true] at e
        subst e
        have : srC ByteArray.empty = 3 := by
          unfold srC
          rw [if_neg (by show ¬ 8000 < 0; omega), if_pos (.inr (.inl (by rw [ByteArray.toList_eq]; rfl)))]
        rw [this] at h; cases h
    obtain ⟨p1, p2, p3, p4, p5, p6, p7, p8, p9⟩ := sbOk_parts hok
    refine ⟨⟨by unfold maxLen; omega, fun x hx => ?_, fun x hx => ?_, by unfold maxLen; omega, by unfold maxLen; omega⟩, by omega, by omega⟩
    · obtain ⟨i, hi, rfl⟩ := List.getElem_of_mem hx
      have := (p9 i hi (by omega)).1
      unfold maxLen; omega
    · obtain ⟨i, hi, rfl⟩ := List.getElem_of_mem hx
      have := (p9 i (by omega) hi).2
      unfold maxLen; omega
  · have e : srO t = shwZ := if_neg h
    rw [e]
    exact ⟨ShkOk.zero.le, Nat.zero_le _, Nat.zero_le _⟩
theorem sb_back (o : Shw) : (sbB o).toList.isEmpty = false → srC (sbB o) = 0 ∧ srO (sbB o) = o ∧ (sbB o).size ≤ 8000 := fun h => by
  cases q : sbOk o with
  | true =>
    have e : sbB o = sbT o := if_pos q
    rw [e]
    exact ⟨(shown_code o q).1, (shown_code o q).2, (shown_back o q).2.2⟩
  | false =>
    have e : sbB o = ByteArray.empty := if_neg (by rw [q]; exact Bool.false_ne_true)
    rw [e, ByteArray.toList_eq] at h
    cases h
theorem field_rrow (k : ByteArray) (t : Int) (q : Option Addr) (n c : Nat) (e : Int) (x : World) : (Instr.field 61 (.agg #[.string k, .int .i64 t, .slice q n c, .int .i64 e]) 0).run Tryz.prog x = .ok (.agg #[.string k, .int .i64 t, .slice q n c]) x := by kernel_rfl
theorem getD_fl {fs : List Fld} {Q : Nat} (h : Q < fs.length) : fs.getD Q fldD = fs[Q] := by rw [List.getD_eq_getElem?_getD, List.getElem?_eq_getElem h]; rfl
theorem fg_one {k : ByteArray} {at_ : Int} {fs : List Fld} {j : Nat} (hr : rwB k at_ fs = true) (hj : j < fs.length) (hg : fs[j].g = false) : fgC k at_ fs (j : Int) = 0 ∧ fgK k at_ fs (j : Int) = k ∧ fgA k at_ fs (j : Int) = at_ ∧ fgF k at_ fs (j : Int) = fs.set j (goneF fs[j]) := by
  have hC : fgC k at_ fs (j : Int) = 0 := by
    unfold fgC
    rw [if_pos hr, if_pos ⟨by omega, by omega⟩, Int.toNat_natCast, getD_fl hj, if_neg (by rw [hg]; exact Bool.false_ne_true)]
  refine ⟨hC, if_pos hC, if_pos hC, ?_⟩
  unfold fgF
  rw [if_pos hC, Int.toNat_natCast, getD_fl hj]
theorem le_gone {fs : List Fld} (h : FldsLe fs) {j : Nat} (hj : j < fs.length) : FldsLe (fs.set j (goneF fs[j])) := fun f hf => by
  rcases List.mem_or_eq_of_mem_set hf with h1 | rfl
  · exact h f h1
  · have := h _ (List.getElem_mem hj)
    exact ⟨this.1, this.2.1, Nat.zero_le _, Nat.zero_le _⟩
/-- Both rows of what is shown can be read. -/
theorem ShwO.read {base : Nat} {o : Shw} {q1 q2 : Option Addr} {c1 c2 : Nat} {x : World} (h : ShwO base o (.slice q1 o.ns.length c1) (.slice q2 o.cs.length c2) x) : (TxtAt x q1 o.ns ∧ o.ns.length ≤ c1) ∧ TxtAt x q2 o.cs ∧ o.cs.length ≤ c2 := by
  obtain ⟨e1, d1, r1, m1, t1⟩ := ownS_form h.1
  obtain ⟨e2, d2, r2, m2, t2⟩ := ownS_form h.2.1
  cases r1
  cases r2
  exact ⟨⟨t1, m1⟩, t2, m2⟩
theorem ShwO.below {base : Nat} {o : Shw} {v1 v2 : Value} {x y : World} (h : ShwO base o v1 v2 x) (b : Below x.heap.size x y) : ShwO base o v1 v2 y := ⟨ownS_below h.1 b, ownS_below h.2.1 b, h.2.2⟩
theorem ShwO.mono {base base' : Nat} {o : Shw} {v1 v2 : Value} {x : World} (h : ShwO base o v1 v2 x) (hb : base' ≤ base) : ShwO base' o v1 v2 x := ⟨ownS_mono h.1 hb, ownS_mono h.2.1 hb, h.2.2⟩
theorem ShwO.slices {base : Nat} {o : Shw} {v1 v2 : Value} {x : World} (h : ShwO base o v1 v2 x) : ∃ q1 c1 q2 c2, v1 = .slice q1 o.ns.length c1 ∧ v2 = .slice q2 o.cs.length c2 := by
  obtain ⟨q1, c1, e1, -, -⟩ := ownS_form h.1
  obtain ⟨q2, c2, e2, -, -⟩ := ownS_form h.2.1
  exact ⟨q1, c1, q2, c2, e1, e2⟩
/-- What the loop keeps: the row's box, its fields of its own, and what was shown. -/
structure FsS (w : World) (Z5 Z7 : Nat) (k : ByteArray) (at_ : Int) (vr : Value) (fs : List Fld) (XO : Shw) (qa : Option Addr) (ca : Nat) (qb : Option Addr) (cb : Nat) (C : Int) (x : World) : Prop where
  bel : Below w.heap.size w x
  box : Bxs x Z5 44 #[.string k, .int .i64 at_, vr]
  own : x.ownsRow w.heap.size 59 5 vr fs.length (fldRow fs)
  bx7 : Bxs x Z7 50 #[.string XO.k, .int .i64 XO.at_, .slice qa XO.ns.length ca, .slice qb XO.cs.length cb, .int .i64 XO.ix, .string XO.s, .string XO.v, .int .i64 C]
  shw : ShwO w.heap.size XO (.slice qa XO.ns.length ca) (.slice qb XO.cs.length cb) x
  hZ5 : w.heap.size ≤ Z5
  ne : Z5 ≠ Z7
section
variable {w : World} {Z5 Z7 : Nat} {k : ByteArray} {at_ : Int} {vr vr' : Value} {fs gs : List Fld} {XO : Shw} {qa : Option Addr} {ca : Nat} {qb : Option Addr} {cb : Nat} {C : Int} {x y : World}
theorem FsS.below (h : FsS w Z5 Z7 k at_ vr fs XO qa ca qb cb C x) (b : Below x.heap.size x y) : FsS w Z5 Z7 k at_ vr fs XO qa ca qb cb C y := ⟨chainB h.bel b, h.box.below b, ownS_below h.own b, h.bx7.below b, h.shw.below b, h.hZ5, h.ne⟩
theorem FsS.put (h : FsS w Z5 Z7 k at_ vr fs XO qa ca qb cb C x) (own : x.ownsRow w.heap.size 59 5 vr' gs.length (fldRow gs)) : FsS w Z5 Z7 k at_ vr' gs XO qa ca qb cb C (((x.setCell ⟨Z5, 0, none⟩ (.string k)).setCell ⟨Z5, 1, none⟩ (.int .i64 at_)).setCell ⟨Z5, 2, none⟩ vr') := by
  have n0 := ownF_ne own h.box (by decide)
  have n1 := ownR_ne h.shw.1 h.box (by decide)
  have n2 := ownR_ne h.shw.2.1 h.box (by decide)
  have hne := h.ne
  exact ⟨below_set3 h.bel h.hZ5 _ _ _, ((h.box.set 0 _).set 1 _).set 2 _, ownsRow_setCell_other (ownsRow_setCell_other (ownsRow_setCell_other own n0 _) n0 _) n0 _, ((h.bx7.other Z5 0 hne _).other Z5 1 hne _).other Z5 2 hne _, ⟨ownsRow_setCell_other (ownsRow_setCell_other (ownsRow_setCell_other h.shw.1 n1 _) n1 _) n1 _, ownsRow_setCell_other (ownsRow_setCell_other (ownsRow_setCell_other h.shw.2.1 n2 _) n2 _) n2 _, h.shw.2.2⟩, h.hZ5, hne⟩
end
set_option maxHeartbeats 8000000 in
theorem fnShow_any (a0 : Option Addr) (len0 cap0 : Nat) (a1 : Option Addr) (len1 cap1 : Nat) (w : World) (hl0 : len0 ≤ 1048576) (hl1 : len1 ≤ 1048576)
    (hc0 : CodeAt w.heap.size a0 len0 w) (hc1 : CodeAt w.heap.size a1 len1 w) (hg : Tabs w) :
    Calls Tryz.prog 5 #[.slice a0 len0 cap0, .slice a1 len1 cap1] w fun e w' => e = .returned (.bool true) ∧ Below w.heap.size w w' := by
  have HC0 : Hid (CodeAt w.heap.size a0 len0 w) := hc0
  have HC1 : Hid (CodeAt w.heap.size a1 len1 w) := hc1
  have HG : Hid (Tabs w) := hg
  clear hc0 hc1 hg
  have d1 : decide (1048576 < (len0 : Int)) = false := by simp; omega
  have d2 : decide (1048576 < (len1 : Int)) = false := by simp; omega
  go_enter Tryz.func5, Tryz.ntmps5
  go_wp2_with fail
  refine (drawShow_any w.heap.size a0 len0 cap0 w hl0 (Nat.le_refl _) HC0.out).mono ?_
  rintro e w1 ⟨⟨k, at_, fs, vr, q, rfl, orw, ok, q0, q3⟩, b1⟩
  obtain ⟨qr, cr, rfl, hcr, -⟩ := ownF_form orw
  go_upto_region 4 with fail
  obtain ⟨v1, hv1⟩ : ∃ v1, v1 = w1.alloc (.cells #[.string k, .int .i64 at_, .slice qr fs.length cr] 44) := ⟨_, rfl⟩
  rw [← hv1]
  obtain ⟨Z5, hZ5⟩ : ∃ Z5, Z5 = w1.heap.size := ⟨_, rfl⟩
  rw [← hZ5]
  have Av1 : Below w1.heap.size w1 v1 := by rw [hv1]; exact (Below.refl _ _).alloc (Nat.le_refl _) _
  have X5a : Hid (Bxs v1 Z5 44 #[.string k, .int .i64 at_, .slice qr fs.length cr]) := by rw [hv1, hZ5]; exact Bxs.new _ _ _
  have B1 : Hid (Below w.heap.size w v1) := chainB b1 Av1
  have O5a : Hid (v1.ownsRow w.heap.size 59 5 (.slice qr fs.length cr) fs.length (fldRow fs)) := ownS_below orw Av1
  have hZ5w : Hid (w.heap.size ≤ Z5 ∧ Z5 < v1.heap.size) := ⟨by rw [hZ5]; exact b1.size, by rw [hv1, szA, hZ5]; omega⟩
  have HRok : Hid (SmOk 4 k at_ fs) := ok
  have hkz : k.size ≤ maxLen := by have := ok.1; unfold maxLen; omega
  have hfl : fs.length ≤ 4 := ok.2.2.1.2
  have HRle : Hid (FldsLe fs) := ok.le
  clear hv1 hZ5 Av1 orw b1 ok
  have FRa : Hid (FldAt v1 qr fs) := by
    obtain ⟨pp, c9, e9, -, f9⟩ := ownF_form O5a.out
    cases e9
    exact f9
  have hSh := implShow_any k at_ qr cr fs q v1 (HG.out.to B1.out) FRa.out (by omega) hcr hkz HRle.out
  have QSh : Hid (∀ x, Below v1.heap.size v1 x → Calls Tryz.prog 29 #[.agg #[.string k, .int .i64 at_, .slice qr fs.length cr], .int .i64 q] x fun e w' => ∃ v1 v2, e = .returned (.agg #[.string (shO k at_ fs q).k, .int .i64 (shO k at_ fs q).at_, v1, v2, .int .i64 (shO k at_ fs q).ix, .string (shO k at_ fs q).s, .string (shO k at_ fs q).v, .int .i64 (shC k at_ fs q)]) ∧ ShwO x.heap.size (shO k at_ fs q) v1 v2 w' ∧ Below x.heap.size x w') := fun x hx => specShow_any k at_ qr cr fs q x (FRa.out.below hx) (by omega) hcr hkz HRle.out
  have HXok : Hid (ShkOk (shO k at_ fs q)) := (show_ok HRok.out).1
  obtain ⟨XO, hXO⟩ : ∃ XO, XO = shO k at_ fs q := ⟨_, rfl⟩
  obtain ⟨C, hC⟩ : ∃ C, C = shC k at_ fs q := ⟨_, rfl⟩
  have HXO : Hid (shO k at_ fs q = XO) := hXO.symm
  have HCe : Hid (shC k at_ fs q = C) := hC.symm
  rw [← hXO, ← hC] at hSh
  rw [← hXO] at HXok
  rw [HXO.out, HCe.out] at QSh
  clear hXO hC
  obtain ⟨r0, r1, r2⟩ : v1.cell? ⟨Z5, 0, none⟩ = some (.string k) ∧ v1.cell? ⟨Z5, 1, none⟩ = some (.int .i64 at_) ∧ v1.cell? ⟨Z5, 2, none⟩ = some (.slice qr fs.length cr) := ⟨X5a.out.cell 0, X5a.out.cell 1, X5a.out.cell 2⟩
  go_wp2_with fail
  refine hSh.mono ?_
  rintro e w2 ⟨va, vb, rfl, owx, b2⟩
  obtain ⟨qa, ca, qb, cb, rfl, rfl⟩ := owx.slices
  clear r0 r1 r2
  go_upto_region 5 with fail
  obtain ⟨v2, hv2⟩ : ∃ v2, v2 = w2.alloc (.cells #[.string XO.k, .int .i64 XO.at_, .slice qa XO.ns.length ca, .slice qb XO.cs.length cb, .int .i64 XO.ix, .string XO.s, .string XO.v, .int .i64 C] 50) := ⟨_, rfl⟩
  rw [← hv2]
  obtain ⟨Z7, hZ7⟩ : ∃ Z7, Z7 = w2.heap.size := ⟨_, rfl⟩
  rw [← hZ7]
  have Av2 : Below w2.heap.size w2 v2 := by rw [hv2]; exact (Below.refl _ _).alloc (Nat.le_refl _) _
  have X7a : Hid (Bxs v2 Z7 50 #[.string XO.k, .int .i64 XO.at_, .slice qa XO.ns.length ca, .slice qb XO.cs.length cb, .int .i64 XO.ix, .string XO.s, .string XO.v, .int .i64 C]) := by rw [hv2, hZ7]; exact Bxs.new _ _ _
  have C12 : Hid (Below v1.heap.size v1 v2) := chainB b2 Av2
  have B2 : Hid (Below w.heap.size w v2) := chainB B1.out C12.out
  have OXa : Hid (ShwO w.heap.size XO (.slice qa XO.ns.length ca) (.slice qb XO.cs.length cb) v2) := (owx.below Av2).mono B1.out.size
  have hZ7w : Hid (v1.heap.size ≤ Z7) := by rw [hZ7]; exact b2.size
  clear hv2 hZ7 Av2 b2 owx hSh
  go_wp2_with fail
  refine (drawShownLeaf_any w.heap.size a1 len1 cap1 v2 hl1 B2.out.size (HC1.out.below B2.out)).mono ?_
  rintro e w3 ⟨⟨SO, qc, cc, qd, cd, rfl, ows, oks⟩, b3⟩
  go_upto_region 6 with fail
  obtain ⟨v3, hv3⟩ : ∃ v3, v3 = w3.alloc (.cells #[.string SO.k, .int .i64 SO.at_, .slice qc SO.ns.length cc, .slice qd SO.cs.length cd, .int .i64 SO.ix, .string SO.s, .string SO.v] 48) := ⟨_, rfl⟩
  rw [← hv3]
  obtain ⟨Z8, hZ8⟩ : ∃ Z8, Z8 = w3.heap.size := ⟨_, rfl⟩
  rw [← hZ8]
  have Av3 : Below w3.heap.size w3 v3 := by rw [hv3]; exact (Below.refl _ _).alloc (Nat.le_refl _) _
  have X8a : Hid (Bxs v3 Z8 48 #[.string SO.k, .int .i64 SO.at_, .slice qc SO.ns.length cc, .slice qd SO.cs.length cd, .int .i64 SO.ix, .string SO.s, .string SO.v]) := by rw [hv3, hZ8]; exact Bxs.new _ _ _
  have C23 : Hid (Below v2.heap.size v2 v3) := chainB b3 Av3
  have B3 : Hid (Below w.heap.size w v3) := chainB B2.out C23.out
  have OSa : Hid ((TxtAt v3 qc SO.ns ∧ SO.ns.length ≤ cc) ∧ TxtAt v3 qd SO.cs ∧ SO.cs.length ≤ cd) := (ows.below Av3).read
  have HSok : Hid (ShkOk SO) := oks
  clear hv3 hZ8 Av3 b3 ows oks
  go_wp2_with fail
  refine (drawShownBytes_any w.heap.size a0 len0 cap0 v3 hl0 B3.out.size (HC0.out.below B3.out)).mono ?_
  rintro e w4 ⟨⟨BO, qe, ce, qf, cf, rfl, owb, okb⟩, b4⟩
  go_upto_region 7 with fail
  obtain ⟨v4, hv4⟩ : ∃ v4, v4 = w4.alloc (.cells #[.string BO.k, .int .i64 BO.at_, .slice qe BO.ns.length ce, .slice qf BO.cs.length cf, .int .i64 BO.ix, .string BO.s, .string BO.v] 48) := ⟨_, rfl⟩
  rw [← hv4]
  obtain ⟨Z9, hZ9⟩ : ∃ Z9, Z9 = w4.heap.size := ⟨_, rfl⟩
  rw [← hZ9]
  have Av4 : Below w4.heap.size w4 v4 := by rw [hv4]; exact (Below.refl _ _).alloc (Nat.le_refl _) _
  have X9a : Hid (Bxs v4 Z9 48 #[.string BO.k, .int .i64 BO.at_, .slice qe BO.ns.length ce, .slice qf BO.cs.length cf, .int .i64 BO.ix, .string BO.s, .string BO.v]) := by rw [hv4, hZ9]; exact Bxs.new _ _ _
  have C34 : Hid (Below v3.heap.size v3 v4) := chainB b4 Av4
  have B4 : Hid (Below w.heap.size w v4) := chainB B3.out C34.out
  have OBa : Hid ((TxtAt v4 qe BO.ns ∧ BO.ns.length ≤ ce) ∧ TxtAt v4 qf BO.cs ∧ BO.cs.length ≤ cf) := (owb.below Av4).read
  have HBok : Hid (ShkOk BO) := okb
  clear hv4 hZ9 Av4 b4 owb okb
  have hBy := implShownBytes_any BO qe ce qf cf v4 (HG.out.to B4.out) OBa.out.1.1 OBa.out.2.1 (by have := HBok.out.2.2.2.2.2.1; omega) (by have := HBok.out.2.2.2.2.2.2; omega) OBa.out.1.2 OBa.out.2.2 HBok.out.le
  obtain ⟨s0, s1, s2, s3, s4, s5, s6⟩ : v4.cell? ⟨Z9, 0, none⟩ = some (.string BO.k) ∧ v4.cell? ⟨Z9, 1, none⟩ = some (.int .i64 BO.at_) ∧ v4.cell? ⟨Z9, 2, none⟩ = some (.slice qe BO.ns.length ce) ∧ v4.cell? ⟨Z9, 3, none⟩ = some (.slice qf BO.cs.length cf) ∧ v4.cell? ⟨Z9, 4, none⟩ = some (.int .i64 BO.ix) ∧ v4.cell? ⟨Z9, 5, none⟩ = some (.string BO.s) ∧ v4.cell? ⟨Z9, 6, none⟩ = some (.string BO.v) := ⟨X9a.out.cell 0, X9a.out.cell 1, X9a.out.cell 2, X9a.out.cell 3, X9a.out.cell 4, X9a.out.cell 5, X9a.out.cell 6⟩
  go_wp2_with fail
  refine hBy.mono ?_
  rintro e w5 ⟨rfl, b5⟩
  have C45 : Hid (Below v4.heap.size v4 w5) := b5
  have B5 : Hid (Below w.heap.size w w5) := chainB B4.out b5
  clear s0 s1 s2 s3 s4 s5 s6 hBy b5
  go_wp2_with fail
  refine (drawShownRead_any w.heap.size a1 len1 cap1 w5 hl1 B5.out.size (HC1.out.below B5.out)).mono ?_
  rintro e w6 ⟨⟨u, rfl, hu⟩, b6⟩
  have C56 : Hid (Below w5.heap.size w5 w6) := b6
  have B6 : Hid (Below w.heap.size w w6) := chainB B5.out b6
  clear b6
  have hR := implShownRead_any u w6 (HG.out.to B6.out) (by unfold maxLen; omega)
  have hR2 := fun x => specShownRead_any u x (by unfold maxLen; omega)
  have HYs : Hid (srC u = 0 → sbB (srO u) = u) := sr_sound
  obtain ⟨yle, yl1, yl2⟩ := sr_le u hu
  have HYle : Hid (ShwLe (srO u) ∧ (srO u).ns.length ≤ 4 ∧ (srO u).cs.length ≤ 4) := ⟨yle, yl1, yl2⟩
  clear yle yl1 yl2
  generalize srC u = yC at *
  generalize srO u = YO at *
  go_wp2_with fail
  refine hR.mono ?_
  rintro e w7 ⟨vg, vh, rfl, owy, b7⟩
  obtain ⟨qg, cg, qh, ch, rfl, rfl⟩ := owy.slices
  go_upto_region 10 with fail
  obtain ⟨v7, hv7⟩ : ∃ v7, v7 = w7.alloc (.cells #[.string YO.k, .int .i64 YO.at_, .slice qg YO.ns.length cg, .slice qh YO.cs.length ch, .int .i64 YO.ix, .string YO.s, .string YO.v, .int .i64 yC] 50) := ⟨_, rfl⟩
  rw [← hv7]
  obtain ⟨Z12, hZ12⟩ : ∃ Z12, Z12 = w7.heap.size := ⟨_, rfl⟩
  rw [← hZ12]
  have Av7 : Below w7.heap.size w7 v7 := by rw [hv7]; exact (Below.refl _ _).alloc (Nat.le_refl _) _
  have X12a : Hid (Bxs v7 Z12 50 #[.string YO.k, .int .i64 YO.at_, .slice qg YO.ns.length cg, .slice qh YO.cs.length ch, .int .i64 YO.ix, .string YO.s, .string YO.v, .int .i64 yC]) := by rw [hv7, hZ12]; exact Bxs.new _ _ _
  have C67 : Hid (Below w6.heap.size w6 v7) := chainB b7 Av7
  have B7 : Hid (Below w.heap.size w v7) := chainB B6.out C67.out
  have OYa : Hid ((TxtAt v7 qg YO.ns ∧ YO.ns.length ≤ cg) ∧ TxtAt v7 qh YO.cs ∧ YO.cs.length ≤ ch) := (owy.below Av7).read
  clear hv7 hZ12 Av7 b7 owy hR
  go_wp2_with fail
  refine (hR2 v7).mono ?_
  rintro e w8 ⟨vi, vj, rfl, owz, b8⟩
  obtain ⟨qi, ci, qj, cj, rfl, rfl⟩ := owz.slices
  go_upto_region 11 with fail
  obtain ⟨V, hV⟩ : ∃ V, V = w8.alloc (.cells #[.string YO.k, .int .i64 YO.at_, .slice qi YO.ns.length ci, .slice qj YO.cs.length cj, .int .i64 YO.ix, .string YO.s, .string YO.v, .int .i64 yC] 50) := ⟨_, rfl⟩
  rw [← hV]
  obtain ⟨Z13, hZ13⟩ : ∃ Z13, Z13 = w8.heap.size := ⟨_, rfl⟩
  rw [← hZ13]
  have AV : Below w8.heap.size w8 V := by rw [hV]; exact (Below.refl _ _).alloc (Nat.le_refl _) _
  have X13a : Hid (Bxs V Z13 50 #[.string YO.k, .int .i64 YO.at_, .slice qi YO.ns.length ci, .slice qj YO.cs.length cj, .int .i64 YO.ix, .string YO.s, .string YO.v, .int .i64 yC]) := by rw [hV, hZ13]; exact Bxs.new _ _ _
  have C78 : Hid (Below v7.heap.size v7 V) := chainB b8 AV
  have BV : Hid (Below w.heap.size w V) := chainB B7.out C78.out
  have OZa : Hid ((TxtAt V qi YO.ns ∧ YO.ns.length ≤ ci) ∧ TxtAt V qj YO.cs ∧ YO.cs.length ≤ cj) := (owz.below AV).read
  clear hV hZ13 AV b8 owz hR2
  have D6 : Hid (Below w6.heap.size w6 V) := chainB C67.out C78.out
  have D5 : Hid (Below w5.heap.size w5 V) := chainB C56.out D6.out
  have D4 : Hid (Below v4.heap.size v4 V) := chainB C45.out D5.out
  have D3 : Hid (Below v3.heap.size v3 V) := chainB C34.out D4.out
  have D2 : Hid (Below v2.heap.size v2 V) := chainB C23.out D3.out
  have D1 : Hid (Below v1.heap.size v1 V) := chainB C12.out D2.out
  have HTb : Hid (∀ x, Below V.heap.size V x → Tabs x) := fun x hx => (HG.out.to BV.out).to hx
  have TX : Hid (∀ x, Below V.heap.size V x → (TxtAt x qa XO.ns ∧ XO.ns.length ≤ ca) ∧ TxtAt x qb XO.cs ∧ XO.cs.length ≤ cb) := fun x hx => ((OXa.out.below D2.out).below hx).read
  have TS : Hid (∀ x, Below V.heap.size V x → TxtAt x qc SO.ns ∧ TxtAt x qd SO.cs) := fun x hx => ⟨(OSa.out.1.1.below D3.out).below hx, (OSa.out.2.1.below D3.out).below hx⟩
  have TB : Hid (∀ x, Below V.heap.size V x → TxtAt x qe BO.ns ∧ TxtAt x qf BO.cs) := fun x hx => ⟨(OBa.out.1.1.below D4.out).below hx, (OBa.out.2.1.below D4.out).below hx⟩
  have TY : Hid (∀ x, Below V.heap.size V x → TxtAt x qg YO.ns ∧ TxtAt x qh YO.cs) := fun x hx => ⟨(OYa.out.1.1.below C78.out).below hx, (OYa.out.2.1.below C78.out).below hx⟩
  have TZ : Hid (∀ x, Below V.heap.size V x → TxtAt x qi YO.ns ∧ TxtAt x qj YO.cs) := fun x hx => ⟨OZa.out.1.1.below hx, OZa.out.2.1.below hx⟩
  have BRV : Hid (Below V.heap.size V V.drew) := (Below.refl _ _).drew
  have HX : Hid (∀ x, Below V.heap.size V x → (x.cell? ⟨Z5, 0, none⟩ = some (.string k) ∧ x.cell? ⟨Z5, 1, none⟩ = some (.int .i64 at_) ∧ x.cell? ⟨Z5, 2, none⟩ = some (.slice qr fs.length cr)) ∧ (x.cell? ⟨Z7, 0, none⟩ = some (.string XO.k) ∧ x.cell? ⟨Z7, 1, none⟩ = some (.int .i64 XO.at_) ∧ x.cell? ⟨Z7, 2, none⟩ = some (.slice qa XO.ns.length ca) ∧ x.cell? ⟨Z7, 3, none⟩ = some (.slice qb XO.cs.length cb) ∧ x.cell? ⟨Z7, 4, none⟩ = some (.int .i64 XO.ix) ∧ x.cell? ⟨Z7, 5, none⟩ = some (.string XO.s) ∧ x.cell? ⟨Z7, 6, none⟩ = some (.string XO.v) ∧ x.cell? ⟨Z7, 7, none⟩ = some (.int .i64 C)) ∧ (x.cell? ⟨Z8, 0, none⟩ = some (.string SO.k) ∧ x.cell? ⟨Z8, 1, none⟩ = some (.int .i64 SO.at_) ∧ x.cell? ⟨Z8, 2, none⟩ = some (.slice qc SO.ns.length cc) ∧ x.cell? ⟨Z8, 3, none⟩ = some (.slice qd SO.cs.length cd) ∧ x.cell? ⟨Z8, 4, none⟩ = some (.int .i64 SO.ix) ∧ x.cell? ⟨Z8, 5, none⟩ = some (.string SO.s) ∧ x.cell? ⟨Z8, 6, none⟩ = some (.string SO.v)) ∧ (x.cell? ⟨Z9, 0, none⟩ = some (.string BO.k) ∧ x.cell? ⟨Z9, 1, none⟩ = some (.int .i64 BO.at_) ∧ x.cell? ⟨Z9, 2, none⟩ = some (.slice qe BO.ns.length ce) ∧ x.cell? ⟨Z9, 3, none⟩ = some (.slice qf BO.cs.length cf) ∧ x.cell? ⟨Z9, 4, none⟩ = some (.int .i64 BO.ix) ∧ x.cell? ⟨Z9, 5, none⟩ = some (.string BO.s) ∧ x.cell? ⟨Z9, 6, none⟩ = some (.string BO.v)) ∧ (x.cell? ⟨Z12, 0, none⟩ = some (.string YO.k) ∧ x.cell? ⟨Z12, 1, none⟩ = some (.int .i64 YO.at_) ∧ x.cell? ⟨Z12, 2, none⟩ = some (.slice qg YO.ns.length cg) ∧ x.cell? ⟨Z12, 3, none⟩ = some (.slice qh YO.cs.length ch) ∧ x.cell? ⟨Z12, 4, none⟩ = some (.int .i64 YO.ix) ∧ x.cell? ⟨Z12, 5, none⟩ = some (.string YO.s) ∧ x.cell? ⟨Z12, 6, none⟩ = some (.string YO.v) ∧ x.cell? ⟨Z12, 7, none⟩ = some (.int .i64 yC)) ∧ (x.cell? ⟨Z13, 0, none⟩ = some (.string YO.k) ∧ x.cell? ⟨Z13, 1, none⟩ = some (.int .i64 YO.at_) ∧ x.cell? ⟨Z13, 2, none⟩ = some (.slice qi YO.ns.length ci) ∧ x.cell? ⟨Z13, 3, none⟩ = some (.slice qj YO.cs.length cj) ∧ x.cell? ⟨Z13, 4, none⟩ = some (.int .i64 YO.ix) ∧ x.cell? ⟨Z13, 5, none⟩ = some (.string YO.s) ∧ x.cell? ⟨Z13, 6, none⟩ = some (.string YO.v) ∧ x.cell? ⟨Z13, 7, none⟩ = some (.int .i64 yC))) := fun x hx => ⟨⟨((X5a.out.below D1.out).below hx).cell 0, ((X5a.out.below D1.out).below hx).cell 1, ((X5a.out.below D1.out).below hx).cell 2⟩, ⟨((X7a.out.below D2.out).below hx).cell 0, ((X7a.out.below D2.out).below hx).cell 1, ((X7a.out.below D2.out).below hx).cell 2, ((X7a.out.below D2.out).below hx).cell 3, ((X7a.out.below D2.out).below hx).cell 4, ((X7a.out.below D2.out).below hx).cell 5, ((X7a.out.below D2.out).below hx).cell 6, ((X7a.out.below D2.out).below hx).cell 7⟩, ⟨((X8a.out.below D3.out).below hx).cell 0, ((X8a.out.below D3.out).below hx).cell 1, ((X8a.out.below D3.out).below hx).cell 2, ((X8a.out.below D3.out).below hx).cell 3, ((X8a.out.below D3.out).below hx).cell 4, ((X8a.out.below D3.out).below hx).cell 5, ((X8a.out.below D3.out).below hx).cell 6⟩, ⟨((X9a.out.below D4.out).below hx).cell 0, ((X9a.out.below D4.out).below hx).cell 1, ((X9a.out.below D4.out).below hx).cell 2, ((X9a.out.below D4.out).below hx).cell 3, ((X9a.out.below D4.out).below hx).cell 4, ((X9a.out.below D4.out).below hx).cell 5, ((X9a.out.below D4.out).below hx).cell 6⟩, ⟨((X12a.out.below C78.out).below hx).cell 0, ((X12a.out.below C78.out).below hx).cell 1, ((X12a.out.below C78.out).below hx).cell 2, ((X12a.out.below C78.out).below hx).cell 3, ((X12a.out.below C78.out).below hx).cell 4, ((X12a.out.below C78.out).below hx).cell 5, ((X12a.out.below C78.out).below hx).cell 6, ((X12a.out.below C78.out).below hx).cell 7⟩, ⟨(X13a.out.below hx).cell 0, (X13a.out.below hx).cell 1, (X13a.out.below hx).cell 2, (X13a.out.below hx).cell 3, (X13a.out.below hx).cell 4, (X13a.out.below hx).cell 5, (X13a.out.below hx).cell 6, (X13a.out.below hx).cell 7⟩⟩
  have QSl : Hid (∀ x, Below V.heap.size V x → Calls Tryz.prog 31 #[.agg #[.string SO.k, .int .i64 SO.at_, .slice qc SO.ns.length cc, .slice qd SO.cs.length cd, .int .i64 SO.ix, .string SO.s, .string SO.v]] x fun e x1 => e = .returned (.string (svB SO)) ∧ Below V.heap.size V x1) := fun x hb => (implShownLeaf_any SO qc cc qd cd x (HTb.out x hb) (TS.out x hb).1 (TS.out x hb).2 (by have := HSok.out.2.2.2.2.2.1; omega) (by have := HSok.out.2.2.2.2.2.2; omega) OSa.out.1.2 OSa.out.2.2 HSok.out.le).mono (by rintro e x1 ⟨rfl, b⟩; exact ⟨rfl, chainB hb b⟩)
  have QSm : Hid (∀ x, Below V.heap.size V x → Calls Tryz.prog 32 #[.agg #[.string SO.k, .int .i64 SO.at_, .slice qc SO.ns.length cc, .slice qd SO.cs.length cd, .int .i64 SO.ix, .string SO.s, .string SO.v]] x fun e x1 => e = .returned (.string (svB SO)) ∧ Below V.heap.size V x1) := fun x hb => (specShownLeaf_any SO qc cc qd cd x (TS.out x hb).1 (TS.out x hb).2 (by have := HSok.out.2.2.2.2.2.1; omega) (by have := HSok.out.2.2.2.2.2.2; omega) OSa.out.1.2 OSa.out.2.2 HSok.out.le).mono (by rintro e x1 ⟨rfl, b⟩; exact ⟨rfl, chainB hb b⟩)
  have QBb : Hid (∀ x, Below V.heap.size V x → Calls Tryz.prog 33 #[.agg #[.string BO.k, .int .i64 BO.at_, .slice qe BO.ns.length ce, .slice qf BO.cs.length cf, .int .i64 BO.ix, .string BO.s, .string BO.v]] x fun e x1 => e = .returned (.string (sbB BO)) ∧ Below V.heap.size V x1) := fun x hb => (specShownBytes_any BO qe ce qf cf x (TB.out x hb).1 (TB.out x hb).2 (by have := HBok.out.2.2.2.2.2.1; omega) (by have := HBok.out.2.2.2.2.2.2; omega) OBa.out.1.2 OBa.out.2.2 HBok.out.le).mono (by rintro e x1 ⟨rfl, b⟩; exact ⟨rfl, chainB hb b⟩)
  have QYb : Hid (∀ x, Below V.heap.size V x → Calls Tryz.prog 25 #[.agg #[.string YO.k, .int .i64 YO.at_, .slice qg YO.ns.length cg, .slice qh YO.cs.length ch, .int .i64 YO.ix, .string YO.s, .string YO.v]] x fun e x1 => e = .returned (.string (sbB YO)) ∧ Below V.heap.size V x1) := fun x hb => (implShownBytes_any YO qg cg qh ch x (HTb.out x hb) (TY.out x hb).1 (TY.out x hb).2 (by have := HYle.out.2.1; omega) (by have := HYle.out.2.2; omega) OYa.out.1.2 OYa.out.2.2 HYle.out.1).mono (by rintro e x1 ⟨rfl, b⟩; exact ⟨rfl, chainB hb b⟩)
  have QYZ : Hid (∀ x, Below V.heap.size V x → Calls Tryz.prog 30 #[.agg #[.string YO.k, .int .i64 YO.at_, .slice qg YO.ns.length cg, .slice qh YO.cs.length ch, .int .i64 YO.ix, .string YO.s, .string YO.v], .agg #[.string YO.k, .int .i64 YO.at_, .slice qi YO.ns.length ci, .slice qj YO.cs.length cj, .int .i64 YO.ix, .string YO.s, .string YO.v]] x fun e x1 => e = .returned (.bool true) ∧ Below V.heap.size V x1) := fun x hb => (lwShown_any YO qg qh qi qj cg ch ci cj x (TY.out x hb).1 (TY.out x hb).2 (TZ.out x hb).1 (TZ.out x hb).2 (by have := HYle.out.2.1; omega) (by have := HYle.out.2.2; omega) OYa.out.1.2 OYa.out.2.2 OZa.out.1.2 OZa.out.2.2).mono (by rintro e x1 ⟨rfl, b⟩; exact ⟨rfl, chainB hb b⟩)
  have QSx : Hid (∀ x, Below V.heap.size V x → Calls Tryz.prog 29 #[.agg #[.string k, .int .i64 at_, .slice qr fs.length cr], .int .i64 q] x fun e x1 => ∃ q9 c9 q8 c8, e = .returned (.agg #[.string XO.k, .int .i64 XO.at_, .slice q9 XO.ns.length c9, .slice q8 XO.cs.length c8, .int .i64 XO.ix, .string XO.s, .string XO.v, .int .i64 C]) ∧ ((TxtAt x1 q9 XO.ns ∧ XO.ns.length ≤ c9) ∧ TxtAt x1 q8 XO.cs ∧ XO.cs.length ≤ c8) ∧ Below V.heap.size V x1) := fun x hb => (QSh.out x (chainB D1.out hb)).mono (by
    rintro e x1 ⟨v9, v8, rfl, o9, b⟩
    obtain ⟨q9, c9, q8, c8, rfl, rfl⟩ := o9.slices
    exact ⟨q9, c9, q8, c8, rfl, o9.read, chainB hb b⟩)
  have QWx : Hid (∀ (q9 : Option Addr) (c9 : Nat) (q8 : Option Addr) (c8 : Nat) x, Below V.heap.size V x → ((TxtAt x q9 XO.ns ∧ XO.ns.length ≤ c9) ∧ TxtAt x q8 XO.cs ∧ XO.cs.length ≤ c8) → Calls Tryz.prog 30 #[.agg #[.string XO.k, .int .i64 XO.at_, .slice qa XO.ns.length ca, .slice qb XO.cs.length cb, .int .i64 XO.ix, .string XO.s, .string XO.v], .agg #[.string XO.k, .int .i64 XO.at_, .slice q9 XO.ns.length c9, .slice q8 XO.cs.length c8, .int .i64 XO.ix, .string XO.s, .string XO.v]] x fun e x1 => e = .returned (.bool true) ∧ Below V.heap.size V x1) := fun q9 c9 q8 c8 x hb h9 => (lwShown_any XO qa qb q9 q8 ca cb c9 c8 x (TX.out x hb).1.1 (TX.out x hb).2.1 h9.1.1 h9.2.1 (by have := HXok.out.2.2.2.2.2.1; omega) (by have := HXok.out.2.2.2.2.2.2; omega) (TX.out x hb).1.2 (TX.out x hb).2.2 h9.1.2 h9.2.2).mono (by rintro e x1 ⟨rfl, b⟩; exact ⟨rfl, chainB hb b⟩)
  have hf1 := field_scode
  have hf0 := field_shown
  generalize svB SO = LS at *
  clear X8a X9a X12a X13a QSh C12 C23 C34 C45 C56 C67 D6 D5 D3 B1 B2 B3 B4 B5 B6 B7
  refine wp_region_held_drew (S := fun w' => (w'.cell? ⟨Z5, 0, none⟩ = some (.string k) ∧ w'.cell? ⟨Z5, 1, none⟩ = some (.int .i64 at_) ∧ w'.cell? ⟨Z5, 2, none⟩ = some (.slice qr fs.length cr)) ∧ (w'.cell? ⟨Z7, 0, none⟩ = some (.string XO.k) ∧ w'.cell? ⟨Z7, 1, none⟩ = some (.int .i64 XO.at_) ∧ w'.cell? ⟨Z7, 2, none⟩ = some (.slice qa XO.ns.length ca) ∧ w'.cell? ⟨Z7, 3, none⟩ = some (.slice qb XO.cs.length cb) ∧ w'.cell? ⟨Z7, 4, none⟩ = some (.int .i64 XO.ix) ∧ w'.cell? ⟨Z7, 5, none⟩ = some (.string XO.s) ∧ w'.cell? ⟨Z7, 6, none⟩ = some (.string XO.v) ∧ w'.cell? ⟨Z7, 7, none⟩ = some (.int .i64 C)) ∧ (w'.cell? ⟨Z8, 0, none⟩ = some (.string SO.k) ∧ w'.cell? ⟨Z8, 1, none⟩ = some (.int .i64 SO.at_) ∧ w'.cell? ⟨Z8, 2, none⟩ = some (.slice qc SO.ns.length cc) ∧ w'.cell? ⟨Z8, 3, none⟩ = some (.slice qd SO.cs.length cd) ∧ w'.cell? ⟨Z8, 4, none⟩ = some (.int .i64 SO.ix) ∧ w'.cell? ⟨Z8, 5, none⟩ = some (.string SO.s) ∧ w'.cell? ⟨Z8, 6, none⟩ = some (.string SO.v)) ∧ (w'.cell? ⟨Z9, 0, none⟩ = some (.string BO.k) ∧ w'.cell? ⟨Z9, 1, none⟩ = some (.int .i64 BO.at_) ∧ w'.cell? ⟨Z9, 2, none⟩ = some (.slice qe BO.ns.length ce) ∧ w'.cell? ⟨Z9, 3, none⟩ = some (.slice qf BO.cs.length cf) ∧ w'.cell? ⟨Z9, 4, none⟩ = some (.int .i64 BO.ix) ∧ w'.cell? ⟨Z9, 5, none⟩ = some (.string BO.s) ∧ w'.cell? ⟨Z9, 6, none⟩ = some (.string BO.v)) ∧ (w'.cell? ⟨Z12, 0, none⟩ = some (.string YO.k) ∧ w'.cell? ⟨Z12, 1, none⟩ = some (.int .i64 YO.at_) ∧ w'.cell? ⟨Z12, 2, none⟩ = some (.slice qg YO.ns.length cg) ∧ w'.cell? ⟨Z12, 3, none⟩ = some (.slice qh YO.cs.length ch) ∧ w'.cell? ⟨Z12, 4, none⟩ = some (.int .i64 YO.ix) ∧ w'.cell? ⟨Z12, 5, none⟩ = some (.string YO.s) ∧ w'.cell? ⟨Z12, 6, none⟩ = some (.string YO.v) ∧ w'.cell? ⟨Z12, 7, none⟩ = some (.int .i64 yC)) ∧ (w'.cell? ⟨Z13, 0, none⟩ = some (.string YO.k) ∧ w'.cell? ⟨Z13, 1, none⟩ = some (.int .i64 YO.at_) ∧ w'.cell? ⟨Z13, 2, none⟩ = some (.slice qi YO.ns.length ci) ∧ w'.cell? ⟨Z13, 3, none⟩ = some (.slice qj YO.cs.length cj) ∧ w'.cell? ⟨Z13, 4, none⟩ = some (.int .i64 YO.ix) ∧ w'.cell? ⟨Z13, 5, none⟩ = some (.string YO.s) ∧ w'.cell? ⟨Z13, 6, none⟩ = some (.string YO.v) ∧ w'.cell? ⟨Z13, 7, none⟩ = some (.int .i64 yC))) (by kernel_rfl) (HX.out _ BRV.out) (fun hHeld => ?_)
  refine take_at 0 (v := ?_) rfl (by kernel_rfl) (by kernel_rfl) (by kernel_rfl) (fun _ _ _ h => h) hHeld (Or.inl ⟨by rfl, ?_⟩) ?_
  rotate_left
  · (intro w hSw; (try dsimp only at hSw); go_simp; try with_reducible rfl)
  simp only [Act.put, List.setIfInBounds_toArray, List.set_cons_zero, List.set_cons_succ]
  refine take_at 1 (v := ?_) rfl (by kernel_rfl) (by kernel_rfl) (by kernel_rfl) (fun _ _ _ h => h) hHeld (Or.inl ⟨by rfl, ?_⟩) ?_
  rotate_left
  · (intro w hSw; (try dsimp only at hSw); go_simp; try with_reducible rfl)
  simp only [Act.put, List.setIfInBounds_toArray, List.set_cons_zero, List.set_cons_succ]
  refine take_at 2 (v := ?_) rfl (by kernel_rfl) (by kernel_rfl) (by kernel_rfl) (fun _ _ _ h => h) hHeld (Or.inl ⟨by rfl, ?_⟩) ?_
  rotate_left
  · (intro w hSw; (try dsimp only at hSw); go_simp; try with_reducible rfl)
  simp only [Act.put, List.setIfInBounds_toArray, List.set_cons_zero, List.set_cons_succ]
  refine take_at 3 (v := ?_) rfl (by kernel_rfl) (by kernel_rfl) (by kernel_rfl) (fun _ _ _ h => h) hHeld (Or.inl ⟨by rfl, ?_⟩) ?_
  rotate_left
  · (intro w hSw; (try dsimp only at hSw); go_simp; try with_reducible rfl)
  simp only [Act.put, List.setIfInBounds_toArray, List.set_cons_zero, List.set_cons_succ]
  refine ready_at 4 rfl (by kernel_rfl) (fun K hK => ?_)
  go_simp
  (go_at_call 29; with_reducible refine (QSx.out _ BRV.out).mono ?_; rintro e x1 ⟨q9, c9, q8, c8, rfl, h9, z1⟩)
  refine hK.out _ _ (HX.out _ z1) (fun hHeld => ?_)
  clear hK K
  try simp only [Act.put, List.setIfInBounds_toArray, List.set_cons_zero, List.set_cons_succ]
  refine take_at 5 (v := ?_) rfl (by kernel_rfl) (by kernel_rfl) (by kernel_rfl) (fun _ _ _ h => h) hHeld (Or.inl ⟨by rfl, ?_⟩) ?_
  rotate_left
  · (intro w hSw; (try dsimp only at hSw); go_simp; try with_reducible rfl)
  simp only [Act.put, List.setIfInBounds_toArray, List.set_cons_zero, List.set_cons_succ]
  refine take_at 6 (v := ?_) rfl (by kernel_rfl) (by kernel_rfl) (by kernel_rfl) (fun _ _ _ h => h) hHeld (Or.inl ⟨by rfl, ?_⟩) ?_
  rotate_left
  · (intro w hSw; (try dsimp only at hSw); go_simp; try with_reducible rfl)
  simp only [Act.put, List.setIfInBounds_toArray, List.set_cons_zero, List.set_cons_succ]
  refine take_at 7 (v := ?_) rfl (by kernel_rfl) (by kernel_rfl) (by kernel_rfl) (fun _ _ _ h => h) hHeld (Or.inl ⟨by rfl, ?_⟩) ?_
  rotate_left
  · (intro w hSw; (try dsimp only at hSw); go_simp; try with_reducible rfl)
  simp only [Act.put, List.setIfInBounds_toArray, List.set_cons_zero, List.set_cons_succ]
  refine take_at 8 (v := ?_) rfl (by kernel_rfl) (by kernel_rfl) (by kernel_rfl) (fun _ _ _ h => h) hHeld (Or.inl ⟨by rfl, ?_⟩) ?_
  rotate_left
  · (intro w hSw; (try dsimp only at hSw); go_simp; try with_reducible rfl)
  simp only [Act.put, List.setIfInBounds_toArray, List.set_cons_zero, List.set_cons_succ]
  refine take_at 9 (v := ?_) rfl (by kernel_rfl) (by kernel_rfl) (by kernel_rfl) (fun _ _ _ h => h) hHeld (Or.inl ⟨by rfl, ?_⟩) ?_
  rotate_left
  · (intro w hSw; (try dsimp only at hSw); go_simp; try with_reducible rfl)
  simp only [Act.put, List.setIfInBounds_toArray, List.set_cons_zero, List.set_cons_succ]
  refine take_at 10 (v := ?_) rfl (by kernel_rfl) (by kernel_rfl) (by kernel_rfl) (fun _ _ _ h => h) hHeld (Or.inl ⟨by rfl, ?_⟩) ?_
  rotate_left
  · (intro w hSw; (try dsimp only at hSw); go_simp; try with_reducible rfl)
  simp only [Act.put, List.setIfInBounds_toArray, List.set_cons_zero, List.set_cons_succ]
  refine take_at 11 (v := ?_) rfl (by kernel_rfl) (by kernel_rfl) (by kernel_rfl) (fun _ _ _ h => h) hHeld (Or.inl ⟨by rfl, ?_⟩) ?_
  rotate_left
  · (intro w hSw; (try dsimp only at hSw); go_simp; try with_reducible rfl)
  simp only [Act.put, List.setIfInBounds_toArray, List.set_cons_zero, List.set_cons_succ]
  refine ready_at 12 rfl (by kernel_rfl) (fun K hK => ?_)
  go_simp
  (go_at_call 29; with_reducible refine (QSx.out _ z1).mono ?_; rintro e x2 ⟨q7, c7, q6, c6, rfl, h7, z2⟩)
  refine hK.out _ _ (HX.out _ z2) (fun hHeld => ?_)
  clear hK K
  try simp only [Act.put, List.setIfInBounds_toArray, List.set_cons_zero, List.set_cons_succ]
  refine take_at 13 (v := ?_) rfl (by kernel_rfl) (by kernel_rfl) (by kernel_rfl) (fun _ _ _ h => h) hHeld (Or.inl ⟨by rfl, ?_⟩) ?_
  rotate_left
  · (intro w hSw; (try dsimp only at hSw); go_simp; try with_reducible rfl)
  simp only [Act.put, List.setIfInBounds_toArray, List.set_cons_zero, List.set_cons_succ]
  refine ready_at 14 rfl (by kernel_rfl) (fun K hK => ?_)
  go_simp
  (go_at_call 30; with_reducible refine (QWx.out _ _ _ _ _ z2 h7).mono ?_; rintro e x3 ⟨rfl, z3⟩)
  refine hK.out _ _ (HX.out _ z3) (fun hHeld => ?_)
  clear hK K
  try simp only [Act.put, List.setIfInBounds_toArray, List.set_cons_zero, List.set_cons_succ]
  refine take_at 15 (v := ?_) rfl (by kernel_rfl) (by kernel_rfl) (by kernel_rfl) (fun _ _ _ h => h) hHeld (Or.inl ⟨by rfl, ?_⟩) ?_
  rotate_left
  · (intro w hSw; (try dsimp only at hSw); go_simp; try with_reducible rfl)
  simp only [Act.put, List.setIfInBounds_toArray, List.set_cons_zero, List.set_cons_succ]
  refine take_at 16 (v := ?_) rfl (by kernel_rfl) (by kernel_rfl) (by kernel_rfl) (fun _ _ _ h => h) hHeld (Or.inl ⟨by rfl, ?_⟩) ?_
  rotate_left
  · (intro w hSw; (try dsimp only at hSw); go_simp; try with_reducible rfl)
  simp only [Act.put, List.setIfInBounds_toArray, List.set_cons_zero, List.set_cons_succ]
  refine take_at 17 (v := ?_) rfl (by kernel_rfl) (by kernel_rfl) (by kernel_rfl) (fun _ _ _ h => h) hHeld (Or.inl ⟨by rfl, ?_⟩) ?_
  rotate_left
  · (intro w hSw; (try dsimp only at hSw); go_simp; try with_reducible rfl)
  simp only [Act.put, List.setIfInBounds_toArray, List.set_cons_zero, List.set_cons_succ]
  refine take_at 18 (v := ?_) rfl (by kernel_rfl) (by kernel_rfl) (by kernel_rfl) (fun _ _ _ h => h) hHeld (Or.inl ⟨by rfl, ?_⟩) ?_
  rotate_left
  · (intro w hSw; (try dsimp only at hSw); go_simp; try with_reducible rfl)
  simp only [Act.put, List.setIfInBounds_toArray, List.set_cons_zero, List.set_cons_succ]
  refine take_at 20 (v := ?_) rfl (by kernel_rfl) (by kernel_rfl) (by kernel_rfl) (fun _ _ _ h => h) hHeld (Or.inl ⟨by rfl, ?_⟩) ?_
  rotate_left
  · (intro w hSw; (try dsimp only at hSw); go_simp; try with_reducible rfl)
  simp only [Act.put, List.setIfInBounds_toArray, List.set_cons_zero, List.set_cons_succ]
  refine ready_at 19 rfl (by kernel_rfl) (fun K hK => ?_)
  go_simp
  (go_at_call 31; with_reducible refine (QSl.out _ z3).mono ?_; rintro e x4 ⟨rfl, z4⟩)
  refine hK.out _ _ (HX.out _ z4) (fun hHeld => ?_)
  clear hK K
  try simp only [Act.put, List.setIfInBounds_toArray, List.set_cons_zero, List.set_cons_succ]
  refine ready_at 21 rfl (by kernel_rfl) (fun K hK => ?_)
  go_simp
  (go_at_call 32; with_reducible refine (QSm.out _ z4).mono ?_; rintro e x5 ⟨rfl, z5⟩)
  refine hK.out _ _ (HX.out _ z5) (fun hHeld => ?_)
  clear hK K
  try simp only [Act.put, List.setIfInBounds_toArray, List.set_cons_zero, List.set_cons_succ]
  refine take_at 22 (v := ?_) rfl (by kernel_rfl) (by kernel_rfl) (by kernel_rfl) (fun _ _ _ h => h) hHeld (Or.inl ⟨by rfl, ?_⟩) ?_
  rotate_left
  · (intro w hSw; (try dsimp only at hSw); go_simp; try with_reducible rfl)
  simp only [Act.put, List.setIfInBounds_toArray, List.set_cons_zero, List.set_cons_succ]
  refine take_at 23 (v := ?_) rfl (by kernel_rfl) (by kernel_rfl) (by kernel_rfl) (fun _ _ _ h => h) hHeld (Or.inl ⟨by rfl, ?_⟩) ?_
  rotate_left
  · (intro w hSw; (try dsimp only at hSw); go_simp; try with_reducible rfl)
  simp only [Act.put, List.setIfInBounds_toArray, List.set_cons_zero, List.set_cons_succ]
  refine take_at 24 (v := ?_) rfl (by kernel_rfl) (by kernel_rfl) (by kernel_rfl) (fun _ _ _ h => h) hHeld (Or.inl ⟨by rfl, ?_⟩) ?_
  rotate_left
  · (intro w hSw; (try dsimp only at hSw); go_simp; try with_reducible rfl)
  simp only [Act.put, List.setIfInBounds_toArray, List.set_cons_zero, List.set_cons_succ]
  refine take_at 25 (v := ?_) rfl (by kernel_rfl) (by kernel_rfl) (by kernel_rfl) (fun _ _ _ h => h) hHeld (Or.inl ⟨by rfl, ?_⟩) ?_
  rotate_left
  · (intro w hSw; (try dsimp only at hSw); go_simp; try with_reducible rfl)
  simp only [Act.put, List.setIfInBounds_toArray, List.set_cons_zero, List.set_cons_succ]
  refine take_at 26 (v := ?_) rfl (by kernel_rfl) (by kernel_rfl) (by kernel_rfl) (fun _ _ _ h => h) hHeld (Or.inl ⟨by rfl, ?_⟩) ?_
  rotate_left
  · (intro w hSw; (try dsimp only at hSw); go_simp; try with_reducible rfl)
  simp only [Act.put, List.setIfInBounds_toArray, List.set_cons_zero, List.set_cons_succ]
  refine ready_at 27 rfl (by kernel_rfl) (fun K hK => ?_)
  go_simp
  (go_at_call 33; with_reducible refine (QBb.out _ z5).mono ?_; rintro e x6 ⟨rfl, z6⟩)
  refine hK.out _ _ (HX.out _ z6) (fun hHeld => ?_)
  clear hK K
  try simp only [Act.put, List.setIfInBounds_toArray, List.set_cons_zero, List.set_cons_succ]
  refine take_at 28 (v := ?_) rfl (by kernel_rfl) (by kernel_rfl) (by kernel_rfl) (fun _ _ _ h => h) hHeld (Or.inl ⟨by rfl, ?_⟩) ?_
  rotate_left
  · (intro w hSw; (try dsimp only at hSw); go_simp; try with_reducible rfl)
  simp only [Act.put, List.setIfInBounds_toArray, List.set_cons_zero, List.set_cons_succ]
  refine take_at 29 (v := ?_) rfl (by kernel_rfl) (by kernel_rfl) (by kernel_rfl) (fun _ _ _ h => h) hHeld (Or.inl ⟨by rfl, ?_⟩) ?_
  rotate_left
  · (intro w hSw; (try dsimp only at hSw); go_simp; try with_reducible rfl)
  simp only [Act.put, List.setIfInBounds_toArray, List.set_cons_zero, List.set_cons_succ]
  refine take_at 30 (v := ?_) rfl (by kernel_rfl) (by kernel_rfl) (by kernel_rfl) (fun _ _ _ h => h) hHeld (Or.inl ⟨by rfl, ?_⟩) ?_
  rotate_left
  · (intro w hSw; (try dsimp only at hSw); go_simp; try with_reducible rfl)
  simp only [Act.put, List.setIfInBounds_toArray, List.set_cons_zero, List.set_cons_succ]
  refine take_at 31 (v := ?_) rfl (by kernel_rfl) (by kernel_rfl) (by kernel_rfl) (fun _ _ _ h => h) hHeld (Or.inl ⟨by rfl, ?_⟩) ?_
  rotate_left
  · (intro w hSw; (try dsimp only at hSw); go_simp; try with_reducible rfl)
  simp only [Act.put, List.setIfInBounds_toArray, List.set_cons_zero, List.set_cons_succ]
  refine take_at 32 (v := ?_) rfl (by kernel_rfl) (by kernel_rfl) (by kernel_rfl) (fun _ _ _ h => h) hHeld (Or.inl ⟨by rfl, ?_⟩) ?_
  rotate_left
  · (intro w hSw; (try dsimp only at hSw); go_simp; try with_reducible rfl)
  simp only [Act.put, List.setIfInBounds_toArray, List.set_cons_zero, List.set_cons_succ]
  refine take_at 33 (v := ?_) rfl (by kernel_rfl) (by kernel_rfl) (by kernel_rfl) (fun _ _ _ h => h) hHeld (Or.inl ⟨by rfl, ?_⟩) ?_
  rotate_left
  · (intro w hSw; (try dsimp only at hSw); go_simp; try with_reducible rfl)
  simp only [Act.put, List.setIfInBounds_toArray, List.set_cons_zero, List.set_cons_succ]
  refine take_at 34 (v := ?_) rfl (by kernel_rfl) (by kernel_rfl) (by kernel_rfl) (fun _ _ _ h => h) hHeld (Or.inl ⟨by rfl, ?_⟩) ?_
  rotate_left
  · (intro w hSw; (try dsimp only at hSw); go_simp; try with_reducible rfl)
  simp only [Act.put, List.setIfInBounds_toArray, List.set_cons_zero, List.set_cons_succ]
  refine take_at 35 (v := ?_) rfl (by kernel_rfl) (by kernel_rfl) (by kernel_rfl) (fun _ _ _ h => h) hHeld (Or.inl ⟨by rfl, ?_⟩) ?_
  rotate_left
  · (intro w hSw; (try dsimp only at hSw); go_simp; try with_reducible rfl)
  simp only [Act.put, List.setIfInBounds_toArray, List.set_cons_zero, List.set_cons_succ]
  refine take_at 36 (v := ?_) rfl (by kernel_rfl) (by kernel_rfl) (by kernel_rfl) (fun _ _ _ h => h) hHeld (Or.inl ⟨by rfl, ?_⟩) ?_
  rotate_left
  · (intro w hSw; (try dsimp only at hSw); go_simp; try with_reducible rfl)
  simp only [Act.put, List.setIfInBounds_toArray, List.set_cons_zero, List.set_cons_succ]
  refine take_at 37 (v := ?_) rfl (by kernel_rfl) (by kernel_rfl) (by kernel_rfl) (fun _ _ _ h => h) hHeld (Or.inl ⟨by rfl, ?_⟩) ?_
  rotate_left
  · (intro w hSw; (try dsimp only at hSw); go_simp; try with_reducible rfl)
  simp only [Act.put, List.setIfInBounds_toArray, List.set_cons_zero, List.set_cons_succ]
  refine take_at 38 (v := ?_) rfl (by kernel_rfl) (by kernel_rfl) (by kernel_rfl) (fun _ _ _ h => h) hHeld (Or.inl ⟨by rfl, ?_⟩) ?_
  rotate_left
  · (intro w hSw; (try dsimp only at hSw); go_simp; try with_reducible rfl)
  simp only [Act.put, List.setIfInBounds_toArray, List.set_cons_zero, List.set_cons_succ]
  refine take_at 39 (v := ?_) rfl (by kernel_rfl) (by kernel_rfl) (by kernel_rfl) (fun _ _ _ h => h) hHeld (Or.inl ⟨by rfl, ?_⟩) ?_
  rotate_left
  · (intro w hSw; (try dsimp only at hSw); go_simp; try with_reducible rfl)
  simp only [Act.put, List.setIfInBounds_toArray, List.set_cons_zero, List.set_cons_succ]
  refine take_at 40 (v := ?_) rfl (by kernel_rfl) (by kernel_rfl) (by kernel_rfl) (fun _ _ _ h => h) hHeld (Or.inl ⟨by rfl, ?_⟩) ?_
  rotate_left
  · (intro w hSw; (try dsimp only at hSw); go_simp; try with_reducible rfl)
  simp only [Act.put, List.setIfInBounds_toArray, List.set_cons_zero, List.set_cons_succ]
  refine take_at 41 (v := ?_) rfl (by kernel_rfl) (by kernel_rfl) (by kernel_rfl) (fun _ _ _ h => h) hHeld (Or.inl ⟨by rfl, ?_⟩) ?_
  rotate_left
  · (intro w hSw; (try dsimp only at hSw); go_simp; try with_reducible rfl)
  simp only [Act.put, List.setIfInBounds_toArray, List.set_cons_zero, List.set_cons_succ]
  refine ready_at 42 rfl (by kernel_rfl) (fun K hK => ?_)
  go_simp
  (go_at_call 30; with_reducible refine (QYZ.out _ z6).mono ?_; rintro e x7 ⟨rfl, z7⟩)
  refine hK.out _ _ (HX.out _ z7) (fun hHeld => ?_)
  clear hK K
  try simp only [Act.put, List.setIfInBounds_toArray, List.set_cons_zero, List.set_cons_succ]
  refine take_at 43 (v := ?_) rfl (by kernel_rfl) (by kernel_rfl) (by kernel_rfl) (fun _ _ _ h => h) hHeld (Or.inl ⟨by rfl, ?_⟩) ?_
  rotate_left
  · (intro w hSw; (try dsimp only at hSw); go_simp; try with_reducible rfl)
  simp only [Act.put, List.setIfInBounds_toArray, List.set_cons_zero, List.set_cons_succ]
  refine take_at 44 (v := ?_) rfl (by kernel_rfl) (by kernel_rfl) (by kernel_rfl) (fun _ _ _ h => h) hHeld (Or.inl ⟨by rfl, ?_⟩) ?_
  rotate_left
  · (intro w hSw; (try dsimp only at hSw); go_simp; try with_reducible rfl)
  simp only [Act.put, List.setIfInBounds_toArray, List.set_cons_zero, List.set_cons_succ]
  refine wpAnyH_done (by kernel_rfl) ?_ _
  clear hHeld QSx QWx QSl QSm QBb QYZ h9 h7 z1 z2 z3 z4 z5 z6
  have Z7b : Hid (Below V.heap.size V x7) := z7
  clear z7
  have TAIL : Hid (∀ x, Below V.heap.size V x → Below w.heap.size w x) := fun x hx => chainB BV.out hx
  have HT := sb_back BO
  generalize sbB BO = T at *
  generalize sbB YO = UY at *
  have HT : Hid (T.toList.isEmpty = false → srC T = 0 ∧ srO T = BO ∧ T.size ≤ 8000) := HT
  have QTr : Hid (T.toList.isEmpty = false → ∀ x, Below V.heap.size V x → Calls Tryz.prog 27 #[.string T] x fun e x1 => ∃ q9 c9 q8 c8, e = .returned (.agg #[.string BO.k, .int .i64 BO.at_, .slice q9 BO.ns.length c9, .slice q8 BO.cs.length c8, .int .i64 BO.ix, .string BO.s, .string BO.v, .int .i64 0]) ∧ ((TxtAt x1 q9 BO.ns ∧ BO.ns.length ≤ c9) ∧ TxtAt x1 q8 BO.cs ∧ BO.cs.length ≤ c8) ∧ Below V.heap.size V x1) := fun h0 x hb => by
    obtain ⟨h1, h2, h3⟩ := HT.out h0
    have h := implShownRead_any T x (HTb.out x hb) (by unfold maxLen; omega)
    rw [h1, h2] at h
    refine h.mono ?_
    rintro e x1 ⟨v9, v8, rfl, o9, b⟩
    obtain ⟨q9, c9, q8, c8, rfl, rfl⟩ := o9.slices
    exact ⟨q9, c9, q8, c8, rfl, o9.read, chainB hb b⟩
  have QTw : Hid (∀ (q9 : Option Addr) (c9 : Nat) (q8 : Option Addr) (c8 : Nat) x, Below V.heap.size V x → ((TxtAt x q9 BO.ns ∧ BO.ns.length ≤ c9) ∧ TxtAt x q8 BO.cs ∧ BO.cs.length ≤ c8) → Calls Tryz.prog 30 #[.agg #[.string BO.k, .int .i64 BO.at_, .slice q9 BO.ns.length c9, .slice q8 BO.cs.length c8, .int .i64 BO.ix, .string BO.s, .string BO.v], .agg #[.string BO.k, .int .i64 BO.at_, .slice qe BO.ns.length ce, .slice qf BO.cs.length cf, .int .i64 BO.ix, .string BO.s, .string BO.v]] x fun e x1 => e = .returned (.bool true) ∧ Below V.heap.size V x1) := fun q9 c9 q8 c8 x hb h9 => (lwShown_any BO q9 q8 qe qf c9 c8 ce cf x h9.1.1 h9.2.1 (TB.out x hb).1 (TB.out x hb).2 (by have := HBok.out.2.2.2.2.2.1; omega) (by have := HBok.out.2.2.2.2.2.2; omega) h9.1.2 h9.2.2 OBa.out.1.2 OBa.out.2.2).mono (by rintro e x1 ⟨rfl, b⟩; exact ⟨rfl, chainB hb b⟩)
  go_upto_region 13 with fail
  have BR7 : Hid (Below V.heap.size V x7.drew) := Z7b.out.drew
  go_cut [110] from 89 to 110 (fun s wx => s = .bool false ∧ Hid (Below V.heap.size V wx))
  case first =>
    cases hm : T.toList.isEmpty with
    | true =>
      cases hy : (yC == 0) with
      | false =>
        refine wp_region_held_drew (S := fun w' => (w'.cell? ⟨Z5, 0, none⟩ = some (.string k) ∧ w'.cell? ⟨Z5, 1, none⟩ = some (.int .i64 at_) ∧ w'.cell? ⟨Z5, 2, none⟩ = some (.slice qr fs.length cr)) ∧ (w'.cell? ⟨Z7, 0, none⟩ = some (.string XO.k) ∧ w'.cell? ⟨Z7, 1, none⟩ = some (.int .i64 XO.at_) ∧ w'.cell? ⟨Z7, 2, none⟩ = some (.slice qa XO.ns.length ca) ∧ w'.cell? ⟨Z7, 3, none⟩ = some (.slice qb XO.cs.length cb) ∧ w'.cell? ⟨Z7, 4, none⟩ = some (.int .i64 XO.ix) ∧ w'.cell? ⟨Z7, 5, none⟩ = some (.string XO.s) ∧ w'.cell? ⟨Z7, 6, none⟩ = some (.string XO.v) ∧ w'.cell? ⟨Z7, 7, none⟩ = some (.int .i64 C)) ∧ (w'.cell? ⟨Z8, 0, none⟩ = some (.string SO.k) ∧ w'.cell? ⟨Z8, 1, none⟩ = some (.int .i64 SO.at_) ∧ w'.cell? ⟨Z8, 2, none⟩ = some (.slice qc SO.ns.length cc) ∧ w'.cell? ⟨Z8, 3, none⟩ = some (.slice qd SO.cs.length cd) ∧ w'.cell? ⟨Z8, 4, none⟩ = some (.int .i64 SO.ix) ∧ w'.cell? ⟨Z8, 5, none⟩ = some (.string SO.s) ∧ w'.cell? ⟨Z8, 6, none⟩ = some (.string SO.v)) ∧ (w'.cell? ⟨Z9, 0, none⟩ = some (.string BO.k) ∧ w'.cell? ⟨Z9, 1, none⟩ = some (.int .i64 BO.at_) ∧ w'.cell? ⟨Z9, 2, none⟩ = some (.slice qe BO.ns.length ce) ∧ w'.cell? ⟨Z9, 3, none⟩ = some (.slice qf BO.cs.length cf) ∧ w'.cell? ⟨Z9, 4, none⟩ = some (.int .i64 BO.ix) ∧ w'.cell? ⟨Z9, 5, none⟩ = some (.string BO.s) ∧ w'.cell? ⟨Z9, 6, none⟩ = some (.string BO.v)) ∧ (w'.cell? ⟨Z12, 0, none⟩ = some (.string YO.k) ∧ w'.cell? ⟨Z12, 1, none⟩ = some (.int .i64 YO.at_) ∧ w'.cell? ⟨Z12, 2, none⟩ = some (.slice qg YO.ns.length cg) ∧ w'.cell? ⟨Z12, 3, none⟩ = some (.slice qh YO.cs.length ch) ∧ w'.cell? ⟨Z12, 4, none⟩ = some (.int .i64 YO.ix) ∧ w'.cell? ⟨Z12, 5, none⟩ = some (.string YO.s) ∧ w'.cell? ⟨Z12, 6, none⟩ = some (.string YO.v) ∧ w'.cell? ⟨Z12, 7, none⟩ = some (.int .i64 yC)) ∧ (w'.cell? ⟨Z13, 0, none⟩ = some (.string YO.k) ∧ w'.cell? ⟨Z13, 1, none⟩ = some (.int .i64 YO.at_) ∧ w'.cell? ⟨Z13, 2, none⟩ = some (.slice qi YO.ns.length ci) ∧ w'.cell? ⟨Z13, 3, none⟩ = some (.slice qj YO.cs.length cj) ∧ w'.cell? ⟨Z13, 4, none⟩ = some (.int .i64 YO.ix) ∧ w'.cell? ⟨Z13, 5, none⟩ = some (.string YO.s) ∧ w'.cell? ⟨Z13, 6, none⟩ = some (.string YO.v) ∧ w'.cell? ⟨Z13, 7, none⟩ = some (.int .i64 yC))) (by kernel_rfl) (HX.out _ BR7.out) (fun hHeld => ?_)
        refine take_at 0 (v := ?_) rfl (by kernel_rfl) (by kernel_rfl) (by kernel_rfl) (fun _ _ _ h => h) hHeld (Or.inl ⟨by rfl, ?_⟩) ?_
        rotate_left
        · (intro w hSw; (try dsimp only at hSw); go_simp; try with_reducible rfl)
        simp only [Act.put, List.setIfInBounds_toArray, List.set_cons_zero, List.set_cons_succ]
        refine take_at 1 (v := ?_) rfl (by kernel_rfl) (by kernel_rfl) (by kernel_rfl) (fun _ _ _ h => h) hHeld (Or.inl ⟨by rfl, ?_⟩) ?_
        rotate_left
        · (intro w hSw; (try dsimp only at hSw); go_simp; try with_reducible rfl)
        simp only [Act.put, List.setIfInBounds_toArray, List.set_cons_zero, List.set_cons_succ]
        refine take_at 2 (v := ?_) rfl (by kernel_rfl) (by kernel_rfl) (by kernel_rfl) (fun _ _ _ h => h) hHeld (Or.inl ⟨by rfl, ?_⟩) ?_
        rotate_left
        · (intro w hSw; (try dsimp only at hSw); go_simp; try with_reducible rfl)
        simp only [Act.put, List.setIfInBounds_toArray, List.set_cons_zero, List.set_cons_succ]
        refine take_at 3 (v := undef) rfl (by kernel_rfl) (by kernel_rfl) (by kernel_rfl) (fun _ _ _ h => h) hHeld (Or.inr ⟨by rfl, rfl⟩) ?_
        simp only [Act.put, List.setIfInBounds_toArray, List.set_cons_zero, List.set_cons_succ]
        refine take_at 4 (v := undef) rfl (by kernel_rfl) (by kernel_rfl) (by kernel_rfl) (fun _ _ _ h => h) hHeld (Or.inr ⟨by rfl, rfl⟩) ?_
        simp only [Act.put, List.setIfInBounds_toArray, List.set_cons_zero, List.set_cons_succ]
        refine take_at 5 (v := undef) rfl (by kernel_rfl) (by kernel_rfl) (by kernel_rfl) (fun _ _ _ h => h) hHeld (Or.inr ⟨by rfl, rfl⟩) ?_
        simp only [Act.put, List.setIfInBounds_toArray, List.set_cons_zero, List.set_cons_succ]
        refine take_at 6 (v := undef) rfl (by kernel_rfl) (by kernel_rfl) (by kernel_rfl) (fun _ _ _ h => h) hHeld (Or.inr ⟨by rfl, rfl⟩) ?_
        simp only [Act.put, List.setIfInBounds_toArray, List.set_cons_zero, List.set_cons_succ]
        refine take_at 7 (v := undef) rfl (by kernel_rfl) (by kernel_rfl) (by kernel_rfl) (fun _ _ _ h => h) hHeld (Or.inr ⟨by rfl, rfl⟩) ?_
        simp only [Act.put, List.setIfInBounds_toArray, List.set_cons_zero, List.set_cons_succ]
        refine take_at 8 (v := undef) rfl (by kernel_rfl) (by kernel_rfl) (by kernel_rfl) (fun _ _ _ h => h) hHeld (Or.inr ⟨by rfl, rfl⟩) ?_
        simp only [Act.put, List.setIfInBounds_toArray, List.set_cons_zero, List.set_cons_succ]
        refine take_at 9 (v := ?_) rfl (by kernel_rfl) (by kernel_rfl) (by kernel_rfl) (fun _ _ _ h => h) hHeld (Or.inl ⟨by rfl, ?_⟩) ?_
        rotate_left
        · (intro w hSw; (try dsimp only at hSw); go_simp; try with_reducible rfl)
        simp only [Act.put, List.setIfInBounds_toArray, List.set_cons_zero, List.set_cons_succ]
        refine take_at 10 (v := ?_) rfl (by kernel_rfl) (by kernel_rfl) (by kernel_rfl) (fun _ _ _ h => h) hHeld (Or.inl ⟨by rfl, ?_⟩) ?_
        rotate_left
        · (intro w hSw; (try dsimp only at hSw); go_simp; try with_reducible rfl)
        simp only [Act.put, List.setIfInBounds_toArray, List.set_cons_zero, List.set_cons_succ]
        refine take_at 11 (v := ?_) rfl (by kernel_rfl) (by kernel_rfl) (by kernel_rfl) (fun _ _ _ h => h) hHeld (Or.inl ⟨by rfl, ?_⟩) ?_
        rotate_left
        · (intro w hSw; (try dsimp only at hSw); go_simp; try with_reducible rfl)
        simp only [Act.put, List.setIfInBounds_toArray, List.set_cons_zero, List.set_cons_succ]
        refine take_at 12 (v := ?_) rfl (by kernel_rfl) (by kernel_rfl) (by kernel_rfl) (fun _ _ _ h => h) hHeld (Or.inl ⟨by rfl, ?_⟩) ?_
        rotate_left
        · (intro w hSw; (try dsimp only at hSw); go_simp; try with_reducible rfl)
        simp only [Act.put, List.setIfInBounds_toArray, List.set_cons_zero, List.set_cons_succ]
        refine take_at 13 (v := ?_) rfl (by kernel_rfl) (by kernel_rfl) (by kernel_rfl) (fun _ _ _ h => h) hHeld (Or.inl ⟨by rfl, ?_⟩) ?_
        rotate_left
        · (intro w hSw; (try dsimp only at hSw); go_simp; try with_reducible rfl)
        simp only [Act.put, List.setIfInBounds_toArray, List.set_cons_zero, List.set_cons_succ]
        refine take_at 14 (v := ?_) rfl (by kernel_rfl) (by kernel_rfl) (by kernel_rfl) (fun _ _ _ h => h) hHeld (Or.inl ⟨by rfl, ?_⟩) ?_
        rotate_left
        · (intro w hSw; (try dsimp only at hSw); go_simp; try with_reducible rfl)
        simp only [Act.put, List.setIfInBounds_toArray, List.set_cons_zero, List.set_cons_succ]
        refine take_at 15 (v := undef) rfl (by kernel_rfl) (by kernel_rfl) (by kernel_rfl) (fun _ _ _ h => h) hHeld (Or.inr ⟨by rfl, rfl⟩) ?_
        simp only [Act.put, List.setIfInBounds_toArray, List.set_cons_zero, List.set_cons_succ]
        refine take_at 16 (v := undef) rfl (by kernel_rfl) (by kernel_rfl) (by kernel_rfl) (fun _ _ _ h => h) hHeld (Or.inr ⟨by rfl, rfl⟩) ?_
        simp only [Act.put, List.setIfInBounds_toArray, List.set_cons_zero, List.set_cons_succ]
        refine take_at 17 (v := undef) rfl (by kernel_rfl) (by kernel_rfl) (by kernel_rfl) (fun _ _ _ h => h) hHeld (Or.inr ⟨by rfl, rfl⟩) ?_
        simp only [Act.put, List.setIfInBounds_toArray, List.set_cons_zero, List.set_cons_succ]
        refine take_at 18 (v := undef) rfl (by kernel_rfl) (by kernel_rfl) (by kernel_rfl) (fun _ _ _ h => h) hHeld (Or.inr ⟨by rfl, rfl⟩) ?_
        simp only [Act.put, List.setIfInBounds_toArray, List.set_cons_zero, List.set_cons_succ]
        refine take_at 19 (v := undef) rfl (by kernel_rfl) (by kernel_rfl) (by kernel_rfl) (fun _ _ _ h => h) hHeld (Or.inr ⟨by rfl, rfl⟩) ?_
        simp only [Act.put, List.setIfInBounds_toArray, List.set_cons_zero, List.set_cons_succ]
        refine take_at 20 (v := ?_) rfl (by kernel_rfl) (by kernel_rfl) (by kernel_rfl) (fun _ _ _ h => h) hHeld (Or.inl ⟨by rfl, ?_⟩) ?_
        rotate_left
        · (intro w hSw; (try dsimp only at hSw); go_simp; try with_reducible rfl)
        simp only [Act.put, List.setIfInBounds_toArray, List.set_cons_zero, List.set_cons_succ]
        refine take_at 21 (v := ?_) rfl (by kernel_rfl) (by kernel_rfl) (by kernel_rfl) (fun _ _ _ h => h) hHeld (Or.inl ⟨by rfl, ?_⟩) ?_
        rotate_left
        · (intro w hSw; (try dsimp only at hSw); go_simp; try with_reducible rfl)
        simp only [Act.put, List.setIfInBounds_toArray, List.set_cons_zero, List.set_cons_succ]
        refine wpAnyH_done (by kernel_rfl) ?_ _
        clear hHeld
        go_wp2_with fail
        go_meet
        exact ⟨rfl, BR7⟩
      | true =>
        obtain rfl := HYs.out (by simpa using hy)
        refine wp_region_held_drew (S := fun w' => (w'.cell? ⟨Z5, 0, none⟩ = some (.string k) ∧ w'.cell? ⟨Z5, 1, none⟩ = some (.int .i64 at_) ∧ w'.cell? ⟨Z5, 2, none⟩ = some (.slice qr fs.length cr)) ∧ (w'.cell? ⟨Z7, 0, none⟩ = some (.string XO.k) ∧ w'.cell? ⟨Z7, 1, none⟩ = some (.int .i64 XO.at_) ∧ w'.cell? ⟨Z7, 2, none⟩ = some (.slice qa XO.ns.length ca) ∧ w'.cell? ⟨Z7, 3, none⟩ = some (.slice qb XO.cs.length cb) ∧ w'.cell? ⟨Z7, 4, none⟩ = some (.int .i64 XO.ix) ∧ w'.cell? ⟨Z7, 5, none⟩ = some (.string XO.s) ∧ w'.cell? ⟨Z7, 6, none⟩ = some (.string XO.v) ∧ w'.cell? ⟨Z7, 7, none⟩ = some (.int .i64 C)) ∧ (w'.cell? ⟨Z8, 0, none⟩ = some (.string SO.k) ∧ w'.cell? ⟨Z8, 1, none⟩ = some (.int .i64 SO.at_) ∧ w'.cell? ⟨Z8, 2, none⟩ = some (.slice qc SO.ns.length cc) ∧ w'.cell? ⟨Z8, 3, none⟩ = some (.slice qd SO.cs.length cd) ∧ w'.cell? ⟨Z8, 4, none⟩ = some (.int .i64 SO.ix) ∧ w'.cell? ⟨Z8, 5, none⟩ = some (.string SO.s) ∧ w'.cell? ⟨Z8, 6, none⟩ = some (.string SO.v)) ∧ (w'.cell? ⟨Z9, 0, none⟩ = some (.string BO.k) ∧ w'.cell? ⟨Z9, 1, none⟩ = some (.int .i64 BO.at_) ∧ w'.cell? ⟨Z9, 2, none⟩ = some (.slice qe BO.ns.length ce) ∧ w'.cell? ⟨Z9, 3, none⟩ = some (.slice qf BO.cs.length cf) ∧ w'.cell? ⟨Z9, 4, none⟩ = some (.int .i64 BO.ix) ∧ w'.cell? ⟨Z9, 5, none⟩ = some (.string BO.s) ∧ w'.cell? ⟨Z9, 6, none⟩ = some (.string BO.v)) ∧ (w'.cell? ⟨Z12, 0, none⟩ = some (.string YO.k) ∧ w'.cell? ⟨Z12, 1, none⟩ = some (.int .i64 YO.at_) ∧ w'.cell? ⟨Z12, 2, none⟩ = some (.slice qg YO.ns.length cg) ∧ w'.cell? ⟨Z12, 3, none⟩ = some (.slice qh YO.cs.length ch) ∧ w'.cell? ⟨Z12, 4, none⟩ = some (.int .i64 YO.ix) ∧ w'.cell? ⟨Z12, 5, none⟩ = some (.string YO.s) ∧ w'.cell? ⟨Z12, 6, none⟩ = some (.string YO.v) ∧ w'.cell? ⟨Z12, 7, none⟩ = some (.int .i64 yC)) ∧ (w'.cell? ⟨Z13, 0, none⟩ = some (.string YO.k) ∧ w'.cell? ⟨Z13, 1, none⟩ = some (.int .i64 YO.at_) ∧ w'.cell? ⟨Z13, 2, none⟩ = some (.slice qi YO.ns.length ci) ∧ w'.cell? ⟨Z13, 3, none⟩ = some (.slice qj YO.cs.length cj) ∧ w'.cell? ⟨Z13, 4, none⟩ = some (.int .i64 YO.ix) ∧ w'.cell? ⟨Z13, 5, none⟩ = some (.string YO.s) ∧ w'.cell? ⟨Z13, 6, none⟩ = some (.string YO.v) ∧ w'.cell? ⟨Z13, 7, none⟩ = some (.int .i64 yC))) (by kernel_rfl) (HX.out _ BR7.out) (fun hHeld => ?_)
        refine take_at 0 (v := ?_) rfl (by kernel_rfl) (by kernel_rfl) (by kernel_rfl) (fun _ _ _ h => h) hHeld (Or.inl ⟨by rfl, ?_⟩) ?_
        rotate_left
        · (intro w hSw; (try dsimp only at hSw); go_simp; try with_reducible rfl)
        simp only [Act.put, List.setIfInBounds_toArray, List.set_cons_zero, List.set_cons_succ]
        refine take_at 1 (v := ?_) rfl (by kernel_rfl) (by kernel_rfl) (by kernel_rfl) (fun _ _ _ h => h) hHeld (Or.inl ⟨by rfl, ?_⟩) ?_
        rotate_left
        · (intro w hSw; (try dsimp only at hSw); go_simp; try with_reducible rfl)
        simp only [Act.put, List.setIfInBounds_toArray, List.set_cons_zero, List.set_cons_succ]
        refine take_at 2 (v := ?_) rfl (by kernel_rfl) (by kernel_rfl) (by kernel_rfl) (fun _ _ _ h => h) hHeld (Or.inl ⟨by rfl, ?_⟩) ?_
        rotate_left
        · (intro w hSw; (try dsimp only at hSw); go_simp; try with_reducible rfl)
        simp only [Act.put, List.setIfInBounds_toArray, List.set_cons_zero, List.set_cons_succ]
        refine take_at 3 (v := undef) rfl (by kernel_rfl) (by kernel_rfl) (by kernel_rfl) (fun _ _ _ h => h) hHeld (Or.inr ⟨by rfl, rfl⟩) ?_
        simp only [Act.put, List.setIfInBounds_toArray, List.set_cons_zero, List.set_cons_succ]
        refine take_at 6 (v := undef) rfl (by kernel_rfl) (by kernel_rfl) (by kernel_rfl) (fun _ _ _ h => h) hHeld (Or.inr ⟨by rfl, rfl⟩) ?_
        simp only [Act.put, List.setIfInBounds_toArray, List.set_cons_zero, List.set_cons_succ]
        refine take_at 4 (v := undef) rfl (by kernel_rfl) (by kernel_rfl) (by kernel_rfl) (fun _ _ _ h => h) hHeld (Or.inr ⟨by rfl, rfl⟩) ?_
        simp only [Act.put, List.setIfInBounds_toArray, List.set_cons_zero, List.set_cons_succ]
        refine take_at 5 (v := undef) rfl (by kernel_rfl) (by kernel_rfl) (by kernel_rfl) (fun _ _ _ h => h) hHeld (Or.inr ⟨by rfl, rfl⟩) ?_
        simp only [Act.put, List.setIfInBounds_toArray, List.set_cons_zero, List.set_cons_succ]
        refine take_at 7 (v := undef) rfl (by kernel_rfl) (by kernel_rfl) (by kernel_rfl) (fun _ _ _ h => h) hHeld (Or.inr ⟨by rfl, rfl⟩) ?_
        simp only [Act.put, List.setIfInBounds_toArray, List.set_cons_zero, List.set_cons_succ]
        refine take_at 8 (v := undef) rfl (by kernel_rfl) (by kernel_rfl) (by kernel_rfl) (fun _ _ _ h => h) hHeld (Or.inr ⟨by rfl, rfl⟩) ?_
        simp only [Act.put, List.setIfInBounds_toArray, List.set_cons_zero, List.set_cons_succ]
        refine take_at 9 (v := ?_) rfl (by kernel_rfl) (by kernel_rfl) (by kernel_rfl) (fun _ _ _ h => h) hHeld (Or.inl ⟨by rfl, ?_⟩) ?_
        rotate_left
        · (intro w hSw; (try dsimp only at hSw); go_simp; try with_reducible rfl)
        simp only [Act.put, List.setIfInBounds_toArray, List.set_cons_zero, List.set_cons_succ]
        refine take_at 10 (v := ?_) rfl (by kernel_rfl) (by kernel_rfl) (by kernel_rfl) (fun _ _ _ h => h) hHeld (Or.inl ⟨by rfl, ?_⟩) ?_
        rotate_left
        · (intro w hSw; (try dsimp only at hSw); go_simp; try with_reducible rfl)
        simp only [Act.put, List.setIfInBounds_toArray, List.set_cons_zero, List.set_cons_succ]
        refine take_at 11 (v := ?_) rfl (by kernel_rfl) (by kernel_rfl) (by kernel_rfl) (fun _ _ _ h => h) hHeld (Or.inl ⟨by rfl, ?_⟩) ?_
        rotate_left
        · (intro w hSw; (try dsimp only at hSw); go_simp; try with_reducible rfl)
        simp only [Act.put, List.setIfInBounds_toArray, List.set_cons_zero, List.set_cons_succ]
        refine take_at 12 (v := ?_) rfl (by kernel_rfl) (by kernel_rfl) (by kernel_rfl) (fun _ _ _ h => h) hHeld (Or.inl ⟨by rfl, ?_⟩) ?_
        rotate_left
        · (intro w hSw; (try dsimp only at hSw); go_simp; try with_reducible rfl)
        simp only [Act.put, List.setIfInBounds_toArray, List.set_cons_zero, List.set_cons_succ]
        refine take_at 13 (v := ?_) rfl (by kernel_rfl) (by kernel_rfl) (by kernel_rfl) (fun _ _ _ h => h) hHeld (Or.inl ⟨by rfl, ?_⟩) ?_
        rotate_left
        · (intro w hSw; (try dsimp only at hSw); go_simp; try with_reducible rfl)
        simp only [Act.put, List.setIfInBounds_toArray, List.set_cons_zero, List.set_cons_succ]
        refine take_at 14 (v := ?_) rfl (by kernel_rfl) (by kernel_rfl) (by kernel_rfl) (fun _ _ _ h => h) hHeld (Or.inl ⟨by rfl, ?_⟩) ?_
        rotate_left
        · (intro w hSw; (try dsimp only at hSw); go_simp; try with_reducible rfl)
        simp only [Act.put, List.setIfInBounds_toArray, List.set_cons_zero, List.set_cons_succ]
        refine take_at 15 (v := ?_) rfl (by kernel_rfl) (by kernel_rfl) (by kernel_rfl) (fun _ _ _ h => h) hHeld (Or.inl ⟨by rfl, ?_⟩) ?_
        rotate_left
        · (intro w hSw; (try dsimp only at hSw); go_simp; try with_reducible rfl)
        simp only [Act.put, List.setIfInBounds_toArray, List.set_cons_zero, List.set_cons_succ]
        refine take_at 16 (v := ?_) rfl (by kernel_rfl) (by kernel_rfl) (by kernel_rfl) (fun _ _ _ h => h) hHeld (Or.inl ⟨by rfl, ?_⟩) ?_
        rotate_left
        · (intro w hSw; (try dsimp only at hSw); go_simp; try with_reducible rfl)
        simp only [Act.put, List.setIfInBounds_toArray, List.set_cons_zero, List.set_cons_succ]
        refine take_at 18 (v := ?_) rfl (by kernel_rfl) (by kernel_rfl) (by kernel_rfl) (fun _ _ _ h => h) hHeld (Or.inl ⟨by rfl, ?_⟩) ?_
        rotate_left
        · (intro w hSw; (try dsimp only at hSw); go_simp; try with_reducible rfl)
        simp only [Act.put, List.setIfInBounds_toArray, List.set_cons_zero, List.set_cons_succ]
        refine ready_at 17 rfl (by kernel_rfl) (fun K hK => ?_)
        go_simp
        (go_at_call 25; with_reducible refine (QYb.out _ BR7.out).mono ?_; rintro e y3 ⟨rfl, t3⟩)
        refine hK.out _ _ (HX.out _ t3) (fun hHeld => ?_)
        clear hK K
        try simp only [Act.put, List.setIfInBounds_toArray, List.set_cons_zero, List.set_cons_succ]
        refine take_at 19 (v := ?_) rfl (by kernel_rfl) (by kernel_rfl) (by kernel_rfl) (fun _ _ _ h => h) hHeld (Or.inl ⟨by rfl, ?_⟩) ?_
        rotate_left
        · (intro w hSw; (try dsimp only at hSw); go_simp; try with_reducible rfl)
        simp only [Act.put, List.setIfInBounds_toArray, List.set_cons_zero, List.set_cons_succ]
        refine take_at 20 (v := ?_) rfl (by kernel_rfl) (by kernel_rfl) (by kernel_rfl) (fun _ _ _ h => h) hHeld (Or.inl ⟨by rfl, ?_⟩) ?_
        rotate_left
        · (intro w hSw; (try dsimp only at hSw); go_simp; try with_reducible rfl)
        simp only [Act.put, List.setIfInBounds_toArray, List.set_cons_zero, List.set_cons_succ]
        refine take_at 21 (v := ?_) rfl (by kernel_rfl) (by kernel_rfl) (by kernel_rfl) (fun _ _ _ h => h) hHeld (Or.inl ⟨by rfl, ?_⟩) ?_
        rotate_left
        · (intro w hSw; (try dsimp only at hSw); go_simp; try with_reducible rfl)
        simp only [Act.put, List.setIfInBounds_toArray, List.set_cons_zero, List.set_cons_succ]
        refine wpAnyH_done (by kernel_rfl) ?_ _
        clear hHeld
        go_wp2_with fail
        go_meet
        exact ⟨rfl, t3⟩
    | false =>
      cases hy : (yC == 0) with
      | false =>
        refine wp_region_held_drew (S := fun w' => (w'.cell? ⟨Z5, 0, none⟩ = some (.string k) ∧ w'.cell? ⟨Z5, 1, none⟩ = some (.int .i64 at_) ∧ w'.cell? ⟨Z5, 2, none⟩ = some (.slice qr fs.length cr)) ∧ (w'.cell? ⟨Z7, 0, none⟩ = some (.string XO.k) ∧ w'.cell? ⟨Z7, 1, none⟩ = some (.int .i64 XO.at_) ∧ w'.cell? ⟨Z7, 2, none⟩ = some (.slice qa XO.ns.length ca) ∧ w'.cell? ⟨Z7, 3, none⟩ = some (.slice qb XO.cs.length cb) ∧ w'.cell? ⟨Z7, 4, none⟩ = some (.int .i64 XO.ix) ∧ w'.cell? ⟨Z7, 5, none⟩ = some (.string XO.s) ∧ w'.cell? ⟨Z7, 6, none⟩ = some (.string XO.v) ∧ w'.cell? ⟨Z7, 7, none⟩ = some (.int .i64 C)) ∧ (w'.cell? ⟨Z8, 0, none⟩ = some (.string SO.k) ∧ w'.cell? ⟨Z8, 1, none⟩ = some (.int .i64 SO.at_) ∧ w'.cell? ⟨Z8, 2, none⟩ = some (.slice qc SO.ns.length cc) ∧ w'.cell? ⟨Z8, 3, none⟩ = some (.slice qd SO.cs.length cd) ∧ w'.cell? ⟨Z8, 4, none⟩ = some (.int .i64 SO.ix) ∧ w'.cell? ⟨Z8, 5, none⟩ = some (.string SO.s) ∧ w'.cell? ⟨Z8, 6, none⟩ = some (.string SO.v)) ∧ (w'.cell? ⟨Z9, 0, none⟩ = some (.string BO.k) ∧ w'.cell? ⟨Z9, 1, none⟩ = some (.int .i64 BO.at_) ∧ w'.cell? ⟨Z9, 2, none⟩ = some (.slice qe BO.ns.length ce) ∧ w'.cell? ⟨Z9, 3, none⟩ = some (.slice qf BO.cs.length cf) ∧ w'.cell? ⟨Z9, 4, none⟩ = some (.int .i64 BO.ix) ∧ w'.cell? ⟨Z9, 5, none⟩ = some (.string BO.s) ∧ w'.cell? ⟨Z9, 6, none⟩ = some (.string BO.v)) ∧ (w'.cell? ⟨Z12, 0, none⟩ = some (.string YO.k) ∧ w'.cell? ⟨Z12, 1, none⟩ = some (.int .i64 YO.at_) ∧ w'.cell? ⟨Z12, 2, none⟩ = some (.slice qg YO.ns.length cg) ∧ w'.cell? ⟨Z12, 3, none⟩ = some (.slice qh YO.cs.length ch) ∧ w'.cell? ⟨Z12, 4, none⟩ = some (.int .i64 YO.ix) ∧ w'.cell? ⟨Z12, 5, none⟩ = some (.string YO.s) ∧ w'.cell? ⟨Z12, 6, none⟩ = some (.string YO.v) ∧ w'.cell? ⟨Z12, 7, none⟩ = some (.int .i64 yC)) ∧ (w'.cell? ⟨Z13, 0, none⟩ = some (.string YO.k) ∧ w'.cell? ⟨Z13, 1, none⟩ = some (.int .i64 YO.at_) ∧ w'.cell? ⟨Z13, 2, none⟩ = some (.slice qi YO.ns.length ci) ∧ w'.cell? ⟨Z13, 3, none⟩ = some (.slice qj YO.cs.length cj) ∧ w'.cell? ⟨Z13, 4, none⟩ = some (.int .i64 YO.ix) ∧ w'.cell? ⟨Z13, 5, none⟩ = some (.string YO.s) ∧ w'.cell? ⟨Z13, 6, none⟩ = some (.string YO.v) ∧ w'.cell? ⟨Z13, 7, none⟩ = some (.int .i64 yC))) (by kernel_rfl) (HX.out _ BR7.out) (fun hHeld => ?_)
        refine take_at 0 (v := ?_) rfl (by kernel_rfl) (by kernel_rfl) (by kernel_rfl) (fun _ _ _ h => h) hHeld (Or.inl ⟨by rfl, ?_⟩) ?_
        rotate_left
        · (intro w hSw; (try dsimp only at hSw); go_simp; try with_reducible rfl)
        simp only [Act.put, List.setIfInBounds_toArray, List.set_cons_zero, List.set_cons_succ]
        refine take_at 1 (v := ?_) rfl (by kernel_rfl) (by kernel_rfl) (by kernel_rfl) (fun _ _ _ h => h) hHeld (Or.inl ⟨by rfl, ?_⟩) ?_
        rotate_left
        · (intro w hSw; (try dsimp only at hSw); go_simp; try with_reducible rfl)
        simp only [Act.put, List.setIfInBounds_toArray, List.set_cons_zero, List.set_cons_succ]
        refine take_at 2 (v := ?_) rfl (by kernel_rfl) (by kernel_rfl) (by kernel_rfl) (fun _ _ _ h => h) hHeld (Or.inl ⟨by rfl, ?_⟩) ?_
        rotate_left
        · (intro w hSw; (try dsimp only at hSw); go_simp; try with_reducible rfl)
        simp only [Act.put, List.setIfInBounds_toArray, List.set_cons_zero, List.set_cons_succ]
        refine take_at 3 (v := ?_) rfl (by kernel_rfl) (by kernel_rfl) (by kernel_rfl) (fun _ _ _ h => h) hHeld (Or.inl ⟨by rfl, ?_⟩) ?_
        rotate_left
        · (intro w hSw; (try dsimp only at hSw); go_simp; try with_reducible rfl)
        simp only [Act.put, List.setIfInBounds_toArray, List.set_cons_zero, List.set_cons_succ]
        refine take_at 6 (v := ?_) rfl (by kernel_rfl) (by kernel_rfl) (by kernel_rfl) (fun _ _ _ h => h) hHeld (Or.inl ⟨by rfl, ?_⟩) ?_
        rotate_left
        · (intro w hSw; (try dsimp only at hSw); go_simp; try with_reducible rfl)
        simp only [Act.put, List.setIfInBounds_toArray, List.set_cons_zero, List.set_cons_succ]
        refine ready_at 4 rfl (by kernel_rfl) (fun K hK => ?_)
        go_simp
        (go_at_call 27; with_reducible refine (QTr.out hm _ BR7.out).mono ?_; rintro e y1 ⟨q9, c9, q8, c8, rfl, h9, t1⟩)
        refine hK.out _ _ (HX.out _ t1) (fun hHeld => ?_)
        clear hK K
        try simp only [Act.put, List.setIfInBounds_toArray, List.set_cons_zero, List.set_cons_succ]
        refine take_at 5 (v := ?_) rfl (by kernel_rfl) (by kernel_rfl) (by kernel_rfl) (fun _ _ _ h => h) hHeld (Or.inl ⟨by rfl, ?_⟩) ?_
        rotate_left
        · (intro w hSw; (try dsimp only at hSw); go_simp; try with_reducible rfl)
        simp only [Act.put, List.setIfInBounds_toArray, List.set_cons_zero, List.set_cons_succ]
        refine ready_at 7 rfl (by kernel_rfl) (fun K hK => ?_)
        go_simp
        (go_at_call 30; with_reducible refine (QTw.out _ _ _ _ _ t1 h9).mono ?_; rintro e y2 ⟨rfl, t2⟩)
        refine hK.out _ _ (HX.out _ t2) (fun hHeld => ?_)
        clear hK K
        try simp only [Act.put, List.setIfInBounds_toArray, List.set_cons_zero, List.set_cons_succ]
        refine take_at 8 (v := ?_) rfl (by kernel_rfl) (by kernel_rfl) (by kernel_rfl) (fun _ _ _ h => h) hHeld (Or.inl ⟨by rfl, ?_⟩) ?_
        rotate_left
        · (intro w hSw; (try dsimp only at hSw); go_simp; try with_reducible rfl)
        simp only [Act.put, List.setIfInBounds_toArray, List.set_cons_zero, List.set_cons_succ]
        refine take_at 9 (v := ?_) rfl (by kernel_rfl) (by kernel_rfl) (by kernel_rfl) (fun _ _ _ h => h) hHeld (Or.inl ⟨by rfl, ?_⟩) ?_
        rotate_left
        · (intro w hSw; (try dsimp only at hSw); go_simp; try with_reducible rfl)
        simp only [Act.put, List.setIfInBounds_toArray, List.set_cons_zero, List.set_cons_succ]
        refine take_at 10 (v := ?_) rfl (by kernel_rfl) (by kernel_rfl) (by kernel_rfl) (fun _ _ _ h => h) hHeld (Or.inl ⟨by rfl, ?_⟩) ?_
        rotate_left
        · (intro w hSw; (try dsimp only at hSw); go_simp; try with_reducible rfl)
        simp only [Act.put, List.setIfInBounds_toArray, List.set_cons_zero, List.set_cons_succ]
        refine take_at 11 (v := ?_) rfl (by kernel_rfl) (by kernel_rfl) (by kernel_rfl) (fun _ _ _ h => h) hHeld (Or.inl ⟨by rfl, ?_⟩) ?_
        rotate_left
        · (intro w hSw; (try dsimp only at hSw); go_simp; try with_reducible rfl)
        simp only [Act.put, List.setIfInBounds_toArray, List.set_cons_zero, List.set_cons_succ]
        refine take_at 12 (v := ?_) rfl (by kernel_rfl) (by kernel_rfl) (by kernel_rfl) (fun _ _ _ h => h) hHeld (Or.inl ⟨by rfl, ?_⟩) ?_
        rotate_left
        · (intro w hSw; (try dsimp only at hSw); go_simp; try with_reducible rfl)
        simp only [Act.put, List.setIfInBounds_toArray, List.set_cons_zero, List.set_cons_succ]
        refine take_at 13 (v := ?_) rfl (by kernel_rfl) (by kernel_rfl) (by kernel_rfl) (fun _ _ _ h => h) hHeld (Or.inl ⟨by rfl, ?_⟩) ?_
        rotate_left
        · (intro w hSw; (try dsimp only at hSw); go_simp; try with_reducible rfl)
        simp only [Act.put, List.setIfInBounds_toArray, List.set_cons_zero, List.set_cons_succ]
        refine take_at 14 (v := ?_) rfl (by kernel_rfl) (by kernel_rfl) (by kernel_rfl) (fun _ _ _ h => h) hHeld (Or.inl ⟨by rfl, ?_⟩) ?_
        rotate_left
        · (intro w hSw; (try dsimp only at hSw); go_simp; try with_reducible rfl)
        simp only [Act.put, List.setIfInBounds_toArray, List.set_cons_zero, List.set_cons_succ]
        refine take_at 15 (v := undef) rfl (by kernel_rfl) (by kernel_rfl) (by kernel_rfl) (fun _ _ _ h => h) hHeld (Or.inr ⟨by rfl, rfl⟩) ?_
        simp only [Act.put, List.setIfInBounds_toArray, List.set_cons_zero, List.set_cons_succ]
        refine take_at 16 (v := undef) rfl (by kernel_rfl) (by kernel_rfl) (by kernel_rfl) (fun _ _ _ h => h) hHeld (Or.inr ⟨by rfl, rfl⟩) ?_
        simp only [Act.put, List.setIfInBounds_toArray, List.set_cons_zero, List.set_cons_succ]
        refine take_at 18 (v := undef) rfl (by kernel_rfl) (by kernel_rfl) (by kernel_rfl) (fun _ _ _ h => h) hHeld (Or.inr ⟨by rfl, rfl⟩) ?_
        simp only [Act.put, List.setIfInBounds_toArray, List.set_cons_zero, List.set_cons_succ]
        refine take_at 17 (v := undef) rfl (by kernel_rfl) (by kernel_rfl) (by kernel_rfl) (fun _ _ _ h => h) hHeld (Or.inr ⟨by rfl, rfl⟩) ?_
        simp only [Act.put, List.setIfInBounds_toArray, List.set_cons_zero, List.set_cons_succ]
        refine take_at 19 (v := undef) rfl (by kernel_rfl) (by kernel_rfl) (by kernel_rfl) (fun _ _ _ h => h) hHeld (Or.inr ⟨by rfl, rfl⟩) ?_
        simp only [Act.put, List.setIfInBounds_toArray, List.set_cons_zero, List.set_cons_succ]
        refine take_at 20 (v := ?_) rfl (by kernel_rfl) (by kernel_rfl) (by kernel_rfl) (fun _ _ _ h => h) hHeld (Or.inl ⟨by rfl, ?_⟩) ?_
        rotate_left
        · (intro w hSw; (try dsimp only at hSw); go_simp; try with_reducible rfl)
        simp only [Act.put, List.setIfInBounds_toArray, List.set_cons_zero, List.set_cons_succ]
        refine take_at 21 (v := ?_) rfl (by kernel_rfl) (by kernel_rfl) (by kernel_rfl) (fun _ _ _ h => h) hHeld (Or.inl ⟨by rfl, ?_⟩) ?_
        rotate_left
        · (intro w hSw; (try dsimp only at hSw); go_simp; try with_reducible rfl)
        simp only [Act.put, List.setIfInBounds_toArray, List.set_cons_zero, List.set_cons_succ]
        refine wpAnyH_done (by kernel_rfl) ?_ _
        clear hHeld
        go_wp2_with fail
        go_meet
        exact ⟨rfl, t2⟩
      | true =>
        obtain rfl := HYs.out (by simpa using hy)
        refine wp_region_held_drew (S := fun w' => (w'.cell? ⟨Z5, 0, none⟩ = some (.string k) ∧ w'.cell? ⟨Z5, 1, none⟩ = some (.int .i64 at_) ∧ w'.cell? ⟨Z5, 2, none⟩ = some (.slice qr fs.length cr)) ∧ (w'.cell? ⟨Z7, 0, none⟩ = some (.string XO.k) ∧ w'.cell? ⟨Z7, 1, none⟩ = some (.int .i64 XO.at_) ∧ w'.cell? ⟨Z7, 2, none⟩ = some (.slice qa XO.ns.length ca) ∧ w'.cell? ⟨Z7, 3, none⟩ = some (.slice qb XO.cs.length cb) ∧ w'.cell? ⟨Z7, 4, none⟩ = some (.int .i64 XO.ix) ∧ w'.cell? ⟨Z7, 5, none⟩ = some (.string XO.s) ∧ w'.cell? ⟨Z7, 6, none⟩ = some (.string XO.v) ∧ w'.cell? ⟨Z7, 7, none⟩ = some (.int .i64 C)) ∧ (w'.cell? ⟨Z8, 0, none⟩ = some (.string SO.k) ∧ w'.cell? ⟨Z8, 1, none⟩ = some (.int .i64 SO.at_) ∧ w'.cell? ⟨Z8, 2, none⟩ = some (.slice qc SO.ns.length cc) ∧ w'.cell? ⟨Z8, 3, none⟩ = some (.slice qd SO.cs.length cd) ∧ w'.cell? ⟨Z8, 4, none⟩ = some (.int .i64 SO.ix) ∧ w'.cell? ⟨Z8, 5, none⟩ = some (.string SO.s) ∧ w'.cell? ⟨Z8, 6, none⟩ = some (.string SO.v)) ∧ (w'.cell? ⟨Z9, 0, none⟩ = some (.string BO.k) ∧ w'.cell? ⟨Z9, 1, none⟩ = some (.int .i64 BO.at_) ∧ w'.cell? ⟨Z9, 2, none⟩ = some (.slice qe BO.ns.length ce) ∧ w'.cell? ⟨Z9, 3, none⟩ = some (.slice qf BO.cs.length cf) ∧ w'.cell? ⟨Z9, 4, none⟩ = some (.int .i64 BO.ix) ∧ w'.cell? ⟨Z9, 5, none⟩ = some (.string BO.s) ∧ w'.cell? ⟨Z9, 6, none⟩ = some (.string BO.v)) ∧ (w'.cell? ⟨Z12, 0, none⟩ = some (.string YO.k) ∧ w'.cell? ⟨Z12, 1, none⟩ = some (.int .i64 YO.at_) ∧ w'.cell? ⟨Z12, 2, none⟩ = some (.slice qg YO.ns.length cg) ∧ w'.cell? ⟨Z12, 3, none⟩ = some (.slice qh YO.cs.length ch) ∧ w'.cell? ⟨Z12, 4, none⟩ = some (.int .i64 YO.ix) ∧ w'.cell? ⟨Z12, 5, none⟩ = some (.string YO.s) ∧ w'.cell? ⟨Z12, 6, none⟩ = some (.string YO.v) ∧ w'.cell? ⟨Z12, 7, none⟩ = some (.int .i64 yC)) ∧ (w'.cell? ⟨Z13, 0, none⟩ = some (.string YO.k) ∧ w'.cell? ⟨Z13, 1, none⟩ = some (.int .i64 YO.at_) ∧ w'.cell? ⟨Z13, 2, none⟩ = some (.slice qi YO.ns.length ci) ∧ w'.cell? ⟨Z13, 3, none⟩ = some (.slice qj YO.cs.length cj) ∧ w'.cell? ⟨Z13, 4, none⟩ = some (.int .i64 YO.ix) ∧ w'.cell? ⟨Z13, 5, none⟩ = some (.string YO.s) ∧ w'.cell? ⟨Z13, 6, none⟩ = some (.string YO.v) ∧ w'.cell? ⟨Z13, 7, none⟩ = some (.int .i64 yC))) (by kernel_rfl) (HX.out _ BR7.out) (fun hHeld => ?_)
        refine take_at 0 (v := ?_) rfl (by kernel_rfl) (by kernel_rfl) (by kernel_rfl) (fun _ _ _ h => h) hHeld (Or.inl ⟨by rfl, ?_⟩) ?_
        rotate_left
        · (intro w hSw; (try dsimp only at hSw); go_simp; try with_reducible rfl)
        simp only [Act.put, List.setIfInBounds_toArray, List.set_cons_zero, List.set_cons_succ]
        refine take_at 1 (v := ?_) rfl (by kernel_rfl) (by kernel_rfl) (by kernel_rfl) (fun _ _ _ h => h) hHeld (Or.inl ⟨by rfl, ?_⟩) ?_
        rotate_left
        · (intro w hSw; (try dsimp only at hSw); go_simp; try with_reducible rfl)
        simp only [Act.put, List.setIfInBounds_toArray, List.set_cons_zero, List.set_cons_succ]
        refine take_at 2 (v := ?_) rfl (by kernel_rfl) (by kernel_rfl) (by kernel_rfl) (fun _ _ _ h => h) hHeld (Or.inl ⟨by rfl, ?_⟩) ?_
        rotate_left
        · (intro w hSw; (try dsimp only at hSw); go_simp; try with_reducible rfl)
        simp only [Act.put, List.setIfInBounds_toArray, List.set_cons_zero, List.set_cons_succ]
        refine take_at 3 (v := ?_) rfl (by kernel_rfl) (by kernel_rfl) (by kernel_rfl) (fun _ _ _ h => h) hHeld (Or.inl ⟨by rfl, ?_⟩) ?_
        rotate_left
        · (intro w hSw; (try dsimp only at hSw); go_simp; try with_reducible rfl)
        simp only [Act.put, List.setIfInBounds_toArray, List.set_cons_zero, List.set_cons_succ]
        refine take_at 6 (v := ?_) rfl (by kernel_rfl) (by kernel_rfl) (by kernel_rfl) (fun _ _ _ h => h) hHeld (Or.inl ⟨by rfl, ?_⟩) ?_
        rotate_left
        · (intro w hSw; (try dsimp only at hSw); go_simp; try with_reducible rfl)
        simp only [Act.put, List.setIfInBounds_toArray, List.set_cons_zero, List.set_cons_succ]
        refine ready_at 4 rfl (by kernel_rfl) (fun K hK => ?_)
        go_simp
        (go_at_call 27; with_reducible refine (QTr.out hm _ BR7.out).mono ?_; rintro e y1 ⟨q9, c9, q8, c8, rfl, h9, t1⟩)
        refine hK.out _ _ (HX.out _ t1) (fun hHeld => ?_)
        clear hK K
        try simp only [Act.put, List.setIfInBounds_toArray, List.set_cons_zero, List.set_cons_succ]
        refine take_at 5 (v := ?_) rfl (by kernel_rfl) (by kernel_rfl) (by kernel_rfl) (fun _ _ _ h => h) hHeld (Or.inl ⟨by rfl, ?_⟩) ?_
        rotate_left
        · (intro w hSw; (try dsimp only at hSw); go_simp; try with_reducible rfl)
        simp only [Act.put, List.setIfInBounds_toArray, List.set_cons_zero, List.set_cons_succ]
        refine ready_at 7 rfl (by kernel_rfl) (fun K hK => ?_)
        go_simp
        (go_at_call 30; with_reducible refine (QTw.out _ _ _ _ _ t1 h9).mono ?_; rintro e y2 ⟨rfl, t2⟩)
        refine hK.out _ _ (HX.out _ t2) (fun hHeld => ?_)
        clear hK K
        try simp only [Act.put, List.setIfInBounds_toArray, List.set_cons_zero, List.set_cons_succ]
        refine take_at 8 (v := ?_) rfl (by kernel_rfl) (by kernel_rfl) (by kernel_rfl) (fun _ _ _ h => h) hHeld (Or.inl ⟨by rfl, ?_⟩) ?_
        rotate_left
        · (intro w hSw; (try dsimp only at hSw); go_simp; try with_reducible rfl)
        simp only [Act.put, List.setIfInBounds_toArray, List.set_cons_zero, List.set_cons_succ]
        refine take_at 9 (v := ?_) rfl (by kernel_rfl) (by kernel_rfl) (by kernel_rfl) (fun _ _ _ h => h) hHeld (Or.inl ⟨by rfl, ?_⟩) ?_
        rotate_left
        · (intro w hSw; (try dsimp only at hSw); go_simp; try with_reducible rfl)
        simp only [Act.put, List.setIfInBounds_toArray, List.set_cons_zero, List.set_cons_succ]
        refine take_at 10 (v := ?_) rfl (by kernel_rfl) (by kernel_rfl) (by kernel_rfl) (fun _ _ _ h => h) hHeld (Or.inl ⟨by rfl, ?_⟩) ?_
        rotate_left
        · (intro w hSw; (try dsimp only at hSw); go_simp; try with_reducible rfl)
        simp only [Act.put, List.setIfInBounds_toArray, List.set_cons_zero, List.set_cons_succ]
        refine take_at 11 (v := ?_) rfl (by kernel_rfl) (by kernel_rfl) (by kernel_rfl) (fun _ _ _ h => h) hHeld (Or.inl ⟨by rfl, ?_⟩) ?_
        rotate_left
        · (intro w hSw; (try dsimp only at hSw); go_simp; try with_reducible rfl)
        simp only [Act.put, List.setIfInBounds_toArray, List.set_cons_zero, List.set_cons_succ]
        refine take_at 12 (v := ?_) rfl (by kernel_rfl) (by kernel_rfl) (by kernel_rfl) (fun _ _ _ h => h) hHeld (Or.inl ⟨by rfl, ?_⟩) ?_
        rotate_left
        · (intro w hSw; (try dsimp only at hSw); go_simp; try with_reducible rfl)
        simp only [Act.put, List.setIfInBounds_toArray, List.set_cons_zero, List.set_cons_succ]
        refine take_at 13 (v := ?_) rfl (by kernel_rfl) (by kernel_rfl) (by kernel_rfl) (fun _ _ _ h => h) hHeld (Or.inl ⟨by rfl, ?_⟩) ?_
        rotate_left
        · (intro w hSw; (try dsimp only at hSw); go_simp; try with_reducible rfl)
        simp only [Act.put, List.setIfInBounds_toArray, List.set_cons_zero, List.set_cons_succ]
        refine take_at 14 (v := ?_) rfl (by kernel_rfl) (by kernel_rfl) (by kernel_rfl) (fun _ _ _ h => h) hHeld (Or.inl ⟨by rfl, ?_⟩) ?_
        rotate_left
        · (intro w hSw; (try dsimp only at hSw); go_simp; try with_reducible rfl)
        simp only [Act.put, List.setIfInBounds_toArray, List.set_cons_zero, List.set_cons_succ]
        refine take_at 15 (v := ?_) rfl (by kernel_rfl) (by kernel_rfl) (by kernel_rfl) (fun _ _ _ h => h) hHeld (Or.inl ⟨by rfl, ?_⟩) ?_
        rotate_left
        · (intro w hSw; (try dsimp only at hSw); go_simp; try with_reducible rfl)
        simp only [Act.put, List.setIfInBounds_toArray, List.set_cons_zero, List.set_cons_succ]
        refine take_at 16 (v := ?_) rfl (by kernel_rfl) (by kernel_rfl) (by kernel_rfl) (fun _ _ _ h => h) hHeld (Or.inl ⟨by rfl, ?_⟩) ?_
        rotate_left
        · (intro w hSw; (try dsimp only at hSw); go_simp; try with_reducible rfl)
        simp only [Act.put, List.setIfInBounds_toArray, List.set_cons_zero, List.set_cons_succ]
        refine take_at 18 (v := ?_) rfl (by kernel_rfl) (by kernel_rfl) (by kernel_rfl) (fun _ _ _ h => h) hHeld (Or.inl ⟨by rfl, ?_⟩) ?_
        rotate_left
        · (intro w hSw; (try dsimp only at hSw); go_simp; try with_reducible rfl)
        simp only [Act.put, List.setIfInBounds_toArray, List.set_cons_zero, List.set_cons_succ]
        refine ready_at 17 rfl (by kernel_rfl) (fun K hK => ?_)
        go_simp
        (go_at_call 25; with_reducible refine (QYb.out _ t2).mono ?_; rintro e y3 ⟨rfl, t3⟩)
        refine hK.out _ _ (HX.out _ t3) (fun hHeld => ?_)
        clear hK K
        try simp only [Act.put, List.setIfInBounds_toArray, List.set_cons_zero, List.set_cons_succ]
        refine take_at 19 (v := ?_) rfl (by kernel_rfl) (by kernel_rfl) (by kernel_rfl) (fun _ _ _ h => h) hHeld (Or.inl ⟨by rfl, ?_⟩) ?_
        rotate_left
        · (intro w hSw; (try dsimp only at hSw); go_simp; try with_reducible rfl)
        simp only [Act.put, List.setIfInBounds_toArray, List.set_cons_zero, List.set_cons_succ]
        refine take_at 20 (v := ?_) rfl (by kernel_rfl) (by kernel_rfl) (by kernel_rfl) (fun _ _ _ h => h) hHeld (Or.inl ⟨by rfl, ?_⟩) ?_
        rotate_left
        · (intro w hSw; (try dsimp only at hSw); go_simp; try with_reducible rfl)
        simp only [Act.put, List.setIfInBounds_toArray, List.set_cons_zero, List.set_cons_succ]
        refine take_at 21 (v := ?_) rfl (by kernel_rfl) (by kernel_rfl) (by kernel_rfl) (fun _ _ _ h => h) hHeld (Or.inl ⟨by rfl, ?_⟩) ?_
        rotate_left
        · (intro w hSw; (try dsimp only at hSw); go_simp; try with_reducible rfl)
        simp only [Act.put, List.setIfInBounds_toArray, List.set_cons_zero, List.set_cons_succ]
        refine wpAnyH_done (by kernel_rfl) ?_ _
        clear hHeld
        go_wp2_with fail
        go_meet
        exact ⟨rfl, t3⟩
  case rest =>
    obtain ⟨rfl, HZc⟩ := hcut
    obtain ⟨w9, rfl⟩ : ∃ w9 : World, w9 = wc := ⟨_, rfl⟩
    clear Z7b BR7 QTr QTw QYb HYs HT
    obtain ⟨-, ⟨g0, g1, g2, g3, g4, g5, g6, g7⟩, -⟩ := HX.out _ HZc.out
    cases hC : (C != 0) with
    | true =>
      have HE : Hid (Below w.heap.size w w9) := TAIL.out _ HZc.out
      go_wp2_with fail
      go_ret
      exact ⟨rfl, HE.out⟩
    | false =>
      have HCz : Hid (C = 0) := by show C = 0; simpa using hC
      have hxz : XO.v.size ≤ 100 := HXok.out.2.2.2.2.1
      have u1 : ∀ w, (Op.stringOp .add XO.v ⟨#[120]⟩).run Tryz.prog w = .ok (.string (XO.v ++ ⟨#[120]⟩)) w := fun w => run_string_add w _ _ (by omega) (by show 1 ≤ _; omega)
      have HXz : Hid (XO.v.size ≤ 100) := hxz
      go_upto_region 18 with fail
      obtain ⟨v9, hv9⟩ : ∃ v9, v9 = w9.alloc (.cells #[.string XO.k, .int .i64 XO.at_, .slice qa XO.ns.length ca, .slice qb XO.cs.length cb, .int .i64 XO.ix, .string XO.s, .string XO.v] 48) := ⟨_, rfl⟩
      rw [← hv9]
      obtain ⟨Z14, hZ14⟩ : ∃ Z14, Z14 = w9.heap.size := ⟨_, rfl⟩
      rw [← hZ14]
      have Av9 : Below w9.heap.size w9 v9 := by rw [hv9]; exact (Below.refl _ _).alloc (Nat.le_refl _) _
      have X14 : Hid (Bxs v9 Z14 48 #[.string XO.k, .int .i64 XO.at_, .slice qa XO.ns.length ca, .slice qb XO.cs.length cb, .int .i64 XO.ix, .string XO.s, .string XO.v]) := by rw [hv9, hZ14]; exact Bxs.new _ _ _
      have hZ14w : Hid (V.heap.size ≤ Z14) := by rw [hZ14]; exact HZc.out.size
      have B9 : Hid (Below V.heap.size V v9) := chainB HZc.out Av9
      clear hv9 hZ14 Av9 g0 g1 g2 g3 g4 g5 g6 g7
      have r6 : v9.cell? ⟨Z14, 6, none⟩ = some (.string XO.v) := X14.out.cell 6
      have fr6 : v9.frozen? ⟨Z14, 6, none⟩ = false := X14.out.fr 6
      go_upto_region 19 with fail
      obtain ⟨PV, hPV⟩ : ∃ PV : ByteArray, PV = XO.v ++ ⟨#[120]⟩ := ⟨_, rfl⟩
      have hPz : PV.size ≤ 101 := by rw [hPV, ByteArray.size_append]; have : (⟨#[120]⟩ : ByteArray).size = 1 := rfl; omega
      rw [← hPV]
      obtain ⟨U, hU⟩ : ∃ U, U = v9.setCell ⟨Z14, 6, none⟩ (.string PV) := ⟨_, rfl⟩
      rw [← hU]
      have XU : Hid (Bxs U Z14 48 #[.string XO.k, .int .i64 XO.at_, .slice qa XO.ns.length ca, .slice qb XO.cs.length cb, .int .i64 XO.ix, .string XO.s, .string PV]) := by rw [hU]; exact X14.out.set 6 _
      have BU : Hid (Below V.heap.size V U) := by rw [hU]; exact B9.out.setCell hZ14w.out _
      have HPle : Hid (ShwLe ⟨XO.k, XO.at_, XO.ns, XO.cs, XO.ix, XO.s, PV⟩) := ⟨HXok.out.le.1, HXok.out.le.2.1, HXok.out.le.2.2.1, HXok.out.le.2.2.2.1, by show PV.size ≤ _; unfold maxLen; omega⟩
      have hLF : svB XO = lfB k at_ fs := by
        have h := (show_leaf (k := k) (at_ := at_) (fs := fs) (i := q) (by rw [HCe.out, HCz.out])).1
        rw [HXO.out] at h
        exact h
      clear hU hPV hPz r6 fr6 u1 X14 B9 hxz
      have QXl : Hid (∀ x, Below U.heap.size U x → Calls Tryz.prog 31 #[.agg #[.string XO.k, .int .i64 XO.at_, .slice qa XO.ns.length ca, .slice qb XO.cs.length cb, .int .i64 XO.ix, .string XO.s, .string XO.v]] x fun e x1 => e = .returned (.string (svB XO)) ∧ Below U.heap.size U x1) := fun x hb => (implShownLeaf_any XO qa ca qb cb x (HTb.out x (chainB BU.out hb)) (TX.out x (chainB BU.out hb)).1.1 (TX.out x (chainB BU.out hb)).2.1 (by have := HXok.out.2.2.2.2.2.1; omega) (by have := HXok.out.2.2.2.2.2.2; omega) (TX.out x (chainB BU.out hb)).1.2 (TX.out x (chainB BU.out hb)).2.2 HXok.out.le).mono (by rintro e x1 ⟨rfl, b⟩; exact ⟨rfl, chainB hb b⟩)
      have QRl : Hid (∀ x, Below U.heap.size U x → Calls Tryz.prog 34 #[.agg #[.string k, .int .i64 at_, .slice qr fs.length cr]] x fun e x1 => e = .returned (.string (lfB k at_ fs)) ∧ Below U.heap.size U x1) := fun x hb => (implRowLeaf_any k at_ qr cr fs x (HTb.out x (chainB BU.out hb)) ((FRa.out.below D1.out).below (chainB BU.out hb)) (by omega) hcr hkz HRle.out).mono (by rintro e x1 ⟨rfl, b⟩; exact ⟨rfl, chainB hb b⟩)
      have QPl : Hid (∀ x, Below U.heap.size U x → Calls Tryz.prog 31 #[.agg #[.string XO.k, .int .i64 XO.at_, .slice qa XO.ns.length ca, .slice qb XO.cs.length cb, .int .i64 XO.ix, .string XO.s, .string PV]] x fun e x1 => e = .returned (.string (svB ⟨XO.k, XO.at_, XO.ns, XO.cs, XO.ix, XO.s, PV⟩)) ∧ Below U.heap.size U x1) := fun x hb => (implShownLeaf_any ⟨XO.k, XO.at_, XO.ns, XO.cs, XO.ix, XO.s, PV⟩ qa ca qb cb x (HTb.out x (chainB BU.out hb)) (TX.out x (chainB BU.out hb)).1.1 (TX.out x (chainB BU.out hb)).2.1 (by have := HXok.out.2.2.2.2.2.1; show XO.ns.length ≤ _; omega) (by have := HXok.out.2.2.2.2.2.2; show XO.cs.length ≤ _; omega) (TX.out x (chainB BU.out hb)).1.2 (TX.out x (chainB BU.out hb)).2.2 HPle.out).mono (by rintro e x1 ⟨rfl, b⟩; exact ⟨rfl, chainB hb b⟩)
      have QPm : Hid (∀ x, Below U.heap.size U x → Calls Tryz.prog 32 #[.agg #[.string XO.k, .int .i64 XO.at_, .slice qa XO.ns.length ca, .slice qb XO.cs.length cb, .int .i64 XO.ix, .string XO.s, .string PV]] x fun e x1 => e = .returned (.string (svB ⟨XO.k, XO.at_, XO.ns, XO.cs, XO.ix, XO.s, PV⟩)) ∧ Below U.heap.size U x1) := fun x hb => (specShownLeaf_any ⟨XO.k, XO.at_, XO.ns, XO.cs, XO.ix, XO.s, PV⟩ qa ca qb cb x (TX.out x (chainB BU.out hb)).1.1 (TX.out x (chainB BU.out hb)).2.1 (by have := HXok.out.2.2.2.2.2.1; show XO.ns.length ≤ _; omega) (by have := HXok.out.2.2.2.2.2.2; show XO.cs.length ≤ _; omega) (TX.out x (chainB BU.out hb)).1.2 (TX.out x (chainB BU.out hb)).2.2 HPle.out).mono (by rintro e x1 ⟨rfl, b⟩; exact ⟨rfl, chainB hb b⟩)
      rw [hLF] at QXl
      clear hLF
      generalize svB ⟨XO.k, XO.at_, XO.ns, XO.cs, XO.ix, XO.s, PV⟩ = LP at *
      generalize lfB k at_ fs = LF at *
      have HU : Hid (∀ x, Below U.heap.size U x → ((x.cell? ⟨Z5, 0, none⟩ = some (.string k) ∧ x.cell? ⟨Z5, 1, none⟩ = some (.int .i64 at_) ∧ x.cell? ⟨Z5, 2, none⟩ = some (.slice qr fs.length cr)) ∧ (x.cell? ⟨Z7, 0, none⟩ = some (.string XO.k) ∧ x.cell? ⟨Z7, 1, none⟩ = some (.int .i64 XO.at_) ∧ x.cell? ⟨Z7, 2, none⟩ = some (.slice qa XO.ns.length ca) ∧ x.cell? ⟨Z7, 3, none⟩ = some (.slice qb XO.cs.length cb) ∧ x.cell? ⟨Z7, 4, none⟩ = some (.int .i64 XO.ix) ∧ x.cell? ⟨Z7, 5, none⟩ = some (.string XO.s) ∧ x.cell? ⟨Z7, 6, none⟩ = some (.string XO.v) ∧ x.cell? ⟨Z7, 7, none⟩ = some (.int .i64 C)) ∧ (x.cell? ⟨Z8, 0, none⟩ = some (.string SO.k) ∧ x.cell? ⟨Z8, 1, none⟩ = some (.int .i64 SO.at_) ∧ x.cell? ⟨Z8, 2, none⟩ = some (.slice qc SO.ns.length cc) ∧ x.cell? ⟨Z8, 3, none⟩ = some (.slice qd SO.cs.length cd) ∧ x.cell? ⟨Z8, 4, none⟩ = some (.int .i64 SO.ix) ∧ x.cell? ⟨Z8, 5, none⟩ = some (.string SO.s) ∧ x.cell? ⟨Z8, 6, none⟩ = some (.string SO.v)) ∧ (x.cell? ⟨Z9, 0, none⟩ = some (.string BO.k) ∧ x.cell? ⟨Z9, 1, none⟩ = some (.int .i64 BO.at_) ∧ x.cell? ⟨Z9, 2, none⟩ = some (.slice qe BO.ns.length ce) ∧ x.cell? ⟨Z9, 3, none⟩ = some (.slice qf BO.cs.length cf) ∧ x.cell? ⟨Z9, 4, none⟩ = some (.int .i64 BO.ix) ∧ x.cell? ⟨Z9, 5, none⟩ = some (.string BO.s) ∧ x.cell? ⟨Z9, 6, none⟩ = some (.string BO.v)) ∧ (x.cell? ⟨Z12, 0, none⟩ = some (.string YO.k) ∧ x.cell? ⟨Z12, 1, none⟩ = some (.int .i64 YO.at_) ∧ x.cell? ⟨Z12, 2, none⟩ = some (.slice qg YO.ns.length cg) ∧ x.cell? ⟨Z12, 3, none⟩ = some (.slice qh YO.cs.length ch) ∧ x.cell? ⟨Z12, 4, none⟩ = some (.int .i64 YO.ix) ∧ x.cell? ⟨Z12, 5, none⟩ = some (.string YO.s) ∧ x.cell? ⟨Z12, 6, none⟩ = some (.string YO.v) ∧ x.cell? ⟨Z12, 7, none⟩ = some (.int .i64 yC)) ∧ (x.cell? ⟨Z13, 0, none⟩ = some (.string YO.k) ∧ x.cell? ⟨Z13, 1, none⟩ = some (.int .i64 YO.at_) ∧ x.cell? ⟨Z13, 2, none⟩ = some (.slice qi YO.ns.length ci) ∧ x.cell? ⟨Z13, 3, none⟩ = some (.slice qj YO.cs.length cj) ∧ x.cell? ⟨Z13, 4, none⟩ = some (.int .i64 YO.ix) ∧ x.cell? ⟨Z13, 5, none⟩ = some (.string YO.s) ∧ x.cell? ⟨Z13, 6, none⟩ = some (.string YO.v) ∧ x.cell? ⟨Z13, 7, none⟩ = some (.int .i64 yC))) ∧ (x.cell? ⟨Z14, 0, none⟩ = some (.string XO.k) ∧ x.cell? ⟨Z14, 1, none⟩ = some (.int .i64 XO.at_) ∧ x.cell? ⟨Z14, 2, none⟩ = some (.slice qa XO.ns.length ca) ∧ x.cell? ⟨Z14, 3, none⟩ = some (.slice qb XO.cs.length cb) ∧ x.cell? ⟨Z14, 4, none⟩ = some (.int .i64 XO.ix) ∧ x.cell? ⟨Z14, 5, none⟩ = some (.string XO.s) ∧ x.cell? ⟨Z14, 6, none⟩ = some (.string PV))) := fun x hx => ⟨HX.out _ (chainB BU.out hx), (XU.out.below hx).cell 0, (XU.out.below hx).cell 1, (XU.out.below hx).cell 2, (XU.out.below hx).cell 3, (XU.out.below hx).cell 4, (XU.out.below hx).cell 5, (XU.out.below hx).cell 6⟩
      have BRU : Hid (Below U.heap.size U U.drew) := (Below.refl _ _).drew
      refine wp_region_held_drew (S := fun w' => ((w'.cell? ⟨Z5, 0, none⟩ = some (.string k) ∧ w'.cell? ⟨Z5, 1, none⟩ = some (.int .i64 at_) ∧ w'.cell? ⟨Z5, 2, none⟩ = some (.slice qr fs.length cr)) ∧ (w'.cell? ⟨Z7, 0, none⟩ = some (.string XO.k) ∧ w'.cell? ⟨Z7, 1, none⟩ = some (.int .i64 XO.at_) ∧ w'.cell? ⟨Z7, 2, none⟩ = some (.slice qa XO.ns.length ca) ∧ w'.cell? ⟨Z7, 3, none⟩ = some (.slice qb XO.cs.length cb) ∧ w'.cell? ⟨Z7, 4, none⟩ = some (.int .i64 XO.ix) ∧ w'.cell? ⟨Z7, 5, none⟩ = some (.string XO.s) ∧ w'.cell? ⟨Z7, 6, none⟩ = some (.string XO.v) ∧ w'.cell? ⟨Z7, 7, none⟩ = some (.int .i64 C)) ∧ (w'.cell? ⟨Z8, 0, none⟩ = some (.string SO.k) ∧ w'.cell? ⟨Z8, 1, none⟩ = some (.int .i64 SO.at_) ∧ w'.cell? ⟨Z8, 2, none⟩ = some (.slice qc SO.ns.length cc) ∧ w'.cell? ⟨Z8, 3, none⟩ = some (.slice qd SO.cs.length cd) ∧ w'.cell? ⟨Z8, 4, none⟩ = some (.int .i64 SO.ix) ∧ w'.cell? ⟨Z8, 5, none⟩ = some (.string SO.s) ∧ w'.cell? ⟨Z8, 6, none⟩ = some (.string SO.v)) ∧ (w'.cell? ⟨Z9, 0, none⟩ = some (.string BO.k) ∧ w'.cell? ⟨Z9, 1, none⟩ = some (.int .i64 BO.at_) ∧ w'.cell? ⟨Z9, 2, none⟩ = some (.slice qe BO.ns.length ce) ∧ w'.cell? ⟨Z9, 3, none⟩ = some (.slice qf BO.cs.length cf) ∧ w'.cell? ⟨Z9, 4, none⟩ = some (.int .i64 BO.ix) ∧ w'.cell? ⟨Z9, 5, none⟩ = some (.string BO.s) ∧ w'.cell? ⟨Z9, 6, none⟩ = some (.string BO.v)) ∧ (w'.cell? ⟨Z12, 0, none⟩ = some (.string YO.k) ∧ w'.cell? ⟨Z12, 1, none⟩ = some (.int .i64 YO.at_) ∧ w'.cell? ⟨Z12, 2, none⟩ = some (.slice qg YO.ns.length cg) ∧ w'.cell? ⟨Z12, 3, none⟩ = some (.slice qh YO.cs.length ch) ∧ w'.cell? ⟨Z12, 4, none⟩ = some (.int .i64 YO.ix) ∧ w'.cell? ⟨Z12, 5, none⟩ = some (.string YO.s) ∧ w'.cell? ⟨Z12, 6, none⟩ = some (.string YO.v) ∧ w'.cell? ⟨Z12, 7, none⟩ = some (.int .i64 yC)) ∧ (w'.cell? ⟨Z13, 0, none⟩ = some (.string YO.k) ∧ w'.cell? ⟨Z13, 1, none⟩ = some (.int .i64 YO.at_) ∧ w'.cell? ⟨Z13, 2, none⟩ = some (.slice qi YO.ns.length ci) ∧ w'.cell? ⟨Z13, 3, none⟩ = some (.slice qj YO.cs.length cj) ∧ w'.cell? ⟨Z13, 4, none⟩ = some (.int .i64 YO.ix) ∧ w'.cell? ⟨Z13, 5, none⟩ = some (.string YO.s) ∧ w'.cell? ⟨Z13, 6, none⟩ = some (.string YO.v) ∧ w'.cell? ⟨Z13, 7, none⟩ = some (.int .i64 yC))) ∧ (w'.cell? ⟨Z14, 0, none⟩ = some (.string XO.k) ∧ w'.cell? ⟨Z14, 1, none⟩ = some (.int .i64 XO.at_) ∧ w'.cell? ⟨Z14, 2, none⟩ = some (.slice qa XO.ns.length ca) ∧ w'.cell? ⟨Z14, 3, none⟩ = some (.slice qb XO.cs.length cb) ∧ w'.cell? ⟨Z14, 4, none⟩ = some (.int .i64 XO.ix) ∧ w'.cell? ⟨Z14, 5, none⟩ = some (.string XO.s) ∧ w'.cell? ⟨Z14, 6, none⟩ = some (.string PV))) (by kernel_rfl) (HU.out _ BRU.out) (fun hHeld => ?_)
      refine take_at 0 (v := ?_) rfl (by kernel_rfl) (by kernel_rfl) (by kernel_rfl) (fun _ _ _ h => h) hHeld (Or.inl ⟨by rfl, ?_⟩) ?_
      rotate_left
      · (intro w hSw; (try dsimp only at hSw); go_simp; try with_reducible rfl)
      simp only [Act.put, List.setIfInBounds_toArray, List.set_cons_zero, List.set_cons_succ]
      refine take_at 1 (v := ?_) rfl (by kernel_rfl) (by kernel_rfl) (by kernel_rfl) (fun _ _ _ h => h) hHeld (Or.inl ⟨by rfl, ?_⟩) ?_
      rotate_left
      · (intro w hSw; (try dsimp only at hSw); go_simp; try with_reducible rfl)
      simp only [Act.put, List.setIfInBounds_toArray, List.set_cons_zero, List.set_cons_succ]
      refine take_at 3 (v := ?_) rfl (by kernel_rfl) (by kernel_rfl) (by kernel_rfl) (fun _ _ _ h => h) hHeld (Or.inl ⟨by rfl, ?_⟩) ?_
      rotate_left
      · (intro w hSw; (try dsimp only at hSw); go_simp; try with_reducible rfl)
      simp only [Act.put, List.setIfInBounds_toArray, List.set_cons_zero, List.set_cons_succ]
      refine ready_at 2 rfl (by kernel_rfl) (fun K hK => ?_)
      go_simp
      (go_at_call 31; with_reducible refine (QXl.out _ BRU.out).mono ?_; rintro e y1 ⟨rfl, t1⟩)
      refine hK.out _ _ (HU.out _ t1) (fun hHeld => ?_)
      clear hK K
      try simp only [Act.put, List.setIfInBounds_toArray, List.set_cons_zero, List.set_cons_succ]
      refine ready_at 4 rfl (by kernel_rfl) (fun K hK => ?_)
      go_simp
      (go_at_call 34; with_reducible refine (QRl.out _ t1).mono ?_; rintro e y2 ⟨rfl, t2⟩)
      refine hK.out _ _ (HU.out _ t2) (fun hHeld => ?_)
      clear hK K
      try simp only [Act.put, List.setIfInBounds_toArray, List.set_cons_zero, List.set_cons_succ]
      refine take_at 5 (v := ?_) rfl (by kernel_rfl) (by kernel_rfl) (by kernel_rfl) (fun _ _ _ h => h) hHeld (Or.inl ⟨by rfl, ?_⟩) ?_
      rotate_left
      · (intro w hSw; (try dsimp only at hSw); go_simp; try with_reducible rfl)
      simp only [Act.put, List.setIfInBounds_toArray, List.set_cons_zero, List.set_cons_succ]
      refine take_at 6 (v := ?_) rfl (by kernel_rfl) (by kernel_rfl) (by kernel_rfl) (fun _ _ _ h => h) hHeld (Or.inl ⟨by rfl, ?_⟩) ?_
      rotate_left
      · (intro w hSw; (try dsimp only at hSw); go_simp; try with_reducible rfl)
      simp only [Act.put, List.setIfInBounds_toArray, List.set_cons_zero, List.set_cons_succ]
      refine take_at 7 (v := ?_) rfl (by kernel_rfl) (by kernel_rfl) (by kernel_rfl) (fun _ _ _ h => h) hHeld (Or.inl ⟨by rfl, ?_⟩) ?_
      rotate_left
      · (intro w hSw; (try dsimp only at hSw); go_simp; try with_reducible rfl)
      simp only [Act.put, List.setIfInBounds_toArray, List.set_cons_zero, List.set_cons_succ]
      refine take_at 9 (v := ?_) rfl (by kernel_rfl) (by kernel_rfl) (by kernel_rfl) (fun _ _ _ h => h) hHeld (Or.inl ⟨by rfl, ?_⟩) ?_
      rotate_left
      · (intro w hSw; (try dsimp only at hSw); go_simp; try with_reducible rfl)
      simp only [Act.put, List.setIfInBounds_toArray, List.set_cons_zero, List.set_cons_succ]
      refine ready_at 8 rfl (by kernel_rfl) (fun K hK => ?_)
      go_simp
      (go_at_call 31; with_reducible refine (QPl.out _ t2).mono ?_; rintro e y3 ⟨rfl, t3⟩)
      refine hK.out _ _ (HU.out _ t3) (fun hHeld => ?_)
      clear hK K
      try simp only [Act.put, List.setIfInBounds_toArray, List.set_cons_zero, List.set_cons_succ]
      refine ready_at 10 rfl (by kernel_rfl) (fun K hK => ?_)
      go_simp
      (go_at_call 32; with_reducible refine (QPm.out _ t3).mono ?_; rintro e y4 ⟨rfl, t4⟩)
      refine hK.out _ _ (HU.out _ t4) (fun hHeld => ?_)
      clear hK K
      try simp only [Act.put, List.setIfInBounds_toArray, List.set_cons_zero, List.set_cons_succ]
      refine take_at 11 (v := ?_) rfl (by kernel_rfl) (by kernel_rfl) (by kernel_rfl) (fun _ _ _ h => h) hHeld (Or.inl ⟨by rfl, ?_⟩) ?_
      rotate_left
      · (intro w hSw; (try dsimp only at hSw); go_simp; try with_reducible rfl)
      simp only [Act.put, List.setIfInBounds_toArray, List.set_cons_zero, List.set_cons_succ]
      refine take_at 12 (v := ?_) rfl (by kernel_rfl) (by kernel_rfl) (by kernel_rfl) (fun _ _ _ h => h) hHeld (Or.inl ⟨by rfl, ?_⟩) ?_
      rotate_left
      · (intro w hSw; (try dsimp only at hSw); go_simp; try with_reducible rfl)
      simp only [Act.put, List.setIfInBounds_toArray, List.set_cons_zero, List.set_cons_succ]
      refine wpAnyH_done (by kernel_rfl) ?_ _
      have B4 : Hid (Below V.heap.size V y4) := chainB BU.out t4
      have F0 : Hid (FsS w Z5 Z7 k at_ (.slice qr fs.length cr) fs XO qa ca qb cb C y4) := ⟨TAIL.out _ B4.out, (X5a.out.below D1.out).below B4.out, ownS_below (ownS_below O5a.out D1.out) B4.out, (X7a.out.below D2.out).below B4.out, (OXa.out.below D2.out).below B4.out, hZ5w.out.1, by have := hZ5w.out.2; have := hZ7w.out; omega⟩
      have S0 : Hid (shC k at_ fs q = 0 ∧ shO k at_ fs q = XO) := ⟨by rw [HCe.out, HCz.out], HXO.out⟩
      have hrr := field_rrow
      clear hHeld t1 t2 t3 t4 HU HX TX TS TB TY TZ HTb QXl QRl QPl QPm BRU XU BU B4 HZc HCe HXO HCz hC
      go_wp2_with fail
      go_loopw [15] (fun i wr => ∃ (j : Nat) (gs : List Fld) (vr : Value), i = .int .i64 j ∧ Hid (gs.length = fs.length ∧ j ≤ gs.length) ∧ Hid (FsS w Z5 Z7 k at_ vr gs XO qa ca qb cb C wr) ∧ Hid (shC k at_ gs q = 0 ∧ shO k at_ gs q = XO) ∧ Hid (FldsLe gs)) (fun i _ => fs.length - (intOf i).toNat)
      case atStart => exact ⟨0, fs, _, rfl, ⟨rfl, Nat.zero_le _⟩, F0, S0, HRle⟩
      case round =>
        clear F0 S0
        obtain ⟨j, gs, vr, rfl, HGl, HF, HS, HGz⟩ := hrel
        obtain ⟨qv, cv, rfl, hcv, fv⟩ := ownF_form HF.out.own
        obtain ⟨r0, r1, r2⟩ : wr.cell? ⟨Z5, 0, none⟩ = some (.string k) ∧ wr.cell? ⟨Z5, 1, none⟩ = some (.int .i64 at_) ∧ wr.cell? ⟨Z5, 2, none⟩ = some (.slice qv gs.length cv) := ⟨HF.out.box.cell 0, HF.out.box.cell 1, HF.out.box.cell 2⟩
        have hgl : gs.length ≤ 4 := by have := HGl.out.1; omega
        by_cases hj : j < gs.length
        · have i0 : (0 : Int) ≤ (j : Int) := by omega
          have i1 : (j : Int) < (gs.length : Int) := by omega
          have HJ : Hid (j < fs.length) := by show j < fs.length; have := HGl.out.1; omega
          obtain ⟨yb, yo, rfl, -⟩ := fv j hj
          have hgg := (fv.at j hj).2.2.2.2
          have HFV : Hid (FldAt wr (some ⟨yb, yo, none⟩) gs) := fv
          have HCV : Hid (gs.length ≤ cv) := hcv
          clear fv hcv
          cases hq : ((j : Int) != q) with
          | false =>
            go_wp2_with fail
            go_roundw
            case rel => exact ⟨j + 1, gs, _, by go_num, ⟨HGl.out.1, hj⟩, HF, HS, HGz⟩
            case measure => have := HJ.out; simp [intOf]; omega
          | true =>
            have HQ : Hid ((j : Int) ≠ q) := by show (j : Int) ≠ q; simpa using hq
            cases hgo : gs[j].g with
            | true =>
              rw [hgo] at hgg
              go_wp2_with fail
              go_roundw
              case rel => exact ⟨j + 1, gs, _, by go_num, ⟨HGl.out.1, hj⟩, HF, HS, HGz⟩
              case measure => have := HJ.out; simp [intOf]; omega
            | false =>
              rw [hgo] at hgg
              obtain ⟨-, f1, f2, f3⟩ := fg_one (shC_parts HS.out.1).1 hj hgo
              have hFG := implForget_any k at_ (some ⟨yb, yo, none⟩) cv gs (j : Int) wr (HG.out.to HF.out.bel) HFV.out (by omega) HCV.out hkz HGz.out
              rw [f1, f2, f3] at hFG
              have HS2 : Hid (shC k at_ (gs.set j (goneF gs[j])) q = 0 ∧ shO k at_ (gs.set j (goneF gs[j])) q = XO) := ⟨(show_other HS.out.1 j hj HQ.out).1, (show_other HS.out.1 j hj HQ.out).2.trans HS.out.2⟩
              have HG2 : Hid (FldsLe (gs.set j (goneF gs[j]))) := le_gone HGz.out hj
              have HL2 : Hid ((gs.set j (goneF gs[j])).length = gs.length) := by show _ = _; simp
              have HJg : Hid (j < gs.length) := hj
              generalize gs.set j (goneF gs[j]) = hs at *
              generalize fgC k at_ gs (j : Int) = c7 at *
              clear f1 f2 f3
              go_wp2_with fail
              refine hFG.mono ?_
              rintro e y1 ⟨v9, rfl, o9, b9⟩
              obtain ⟨q9, c9, rfl, h9, -⟩ := ownF_form o9
              have F1 : Hid (FsS w Z5 Z7 k at_ (.slice q9 hs.length c9) hs XO qa ca qb cb C (((y1.setCell ⟨Z5, 0, none⟩ (.string k)).setCell ⟨Z5, 1, none⟩ (.int .i64 at_)).setCell ⟨Z5, 2, none⟩ (.slice q9 hs.length c9))) := (HF.out.below b9).put (ownS_mono o9 HF.out.bel.size)
              have hb9 := (HF.out.below b9).box
              obtain ⟨p0, p1, p2⟩ : y1.cell? ⟨Z5, 0, none⟩ = some (.string k) ∧ y1.cell? ⟨Z5, 1, none⟩ = some (.int .i64 at_) ∧ y1.cell? ⟨Z5, 2, none⟩ = some (.slice (some ⟨yb, yo, none⟩) gs.length cv) := ⟨hb9.cell 0, hb9.cell 1, hb9.cell 2⟩
              have k0 := hb9.fr 0
              have k1 := hb9.fr 1
              have k2 := hb9.fr 2
              clear hb9 o9 b9 hFG r0 r1 r2 hgg HFV
              go_wp2_with fail
              go_roundw
              case rel => exact ⟨j + 1, hs, _, by go_num, ⟨HL2.out.trans HGl.out.1, by have := HL2.out; have := HJg.out; omega⟩, F1, HS2, HG2⟩
              case measure => have := HJ.out; simp [intOf]; omega
        · have n1 : ¬ (j : Int) < (gs.length : Int) := by omega
          have n2 : decide ((j : Int) < (gs.length : Int)) = false := decide_eq_false n1
          have HH : Hid (∀ x, Below wr.heap.size wr x → (x.cell? ⟨Z5, 0, none⟩ = some (.string k) ∧ x.cell? ⟨Z5, 1, none⟩ = some (.int .i64 at_) ∧ x.cell? ⟨Z5, 2, none⟩ = some (.slice qv gs.length cv)) ∧ (x.cell? ⟨Z7, 0, none⟩ = some (.string XO.k) ∧ x.cell? ⟨Z7, 1, none⟩ = some (.int .i64 XO.at_) ∧ x.cell? ⟨Z7, 2, none⟩ = some (.slice qa XO.ns.length ca) ∧ x.cell? ⟨Z7, 3, none⟩ = some (.slice qb XO.cs.length cb) ∧ x.cell? ⟨Z7, 4, none⟩ = some (.int .i64 XO.ix) ∧ x.cell? ⟨Z7, 5, none⟩ = some (.string XO.s) ∧ x.cell? ⟨Z7, 6, none⟩ = some (.string XO.v) ∧ x.cell? ⟨Z7, 7, none⟩ = some (.int .i64 C))) := fun x hx => ⟨⟨(HF.out.box.below hx).cell 0, (HF.out.box.below hx).cell 1, (HF.out.box.below hx).cell 2⟩, (HF.out.bx7.below hx).cell 0, (HF.out.bx7.below hx).cell 1, (HF.out.bx7.below hx).cell 2, (HF.out.bx7.below hx).cell 3, (HF.out.bx7.below hx).cell 4, (HF.out.bx7.below hx).cell 5, (HF.out.bx7.below hx).cell 6, (HF.out.bx7.below hx).cell 7⟩
          have QS : Hid (∀ x, Below wr.heap.size wr x → Calls Tryz.prog 22 #[.agg #[.string k, .int .i64 at_, .slice qv gs.length cv], .int .i64 q] x fun e x1 => ∃ q9 c9 q8 c8, e = .returned (.agg #[.string XO.k, .int .i64 XO.at_, .slice q9 XO.ns.length c9, .slice q8 XO.cs.length c8, .int .i64 XO.ix, .string XO.s, .string XO.v, .int .i64 0]) ∧ ((TxtAt x1 q9 XO.ns ∧ XO.ns.length ≤ c9) ∧ TxtAt x1 q8 XO.cs ∧ XO.cs.length ≤ c8) ∧ Below wr.heap.size wr x1) := fun x hb => by
            have h := implShow_any k at_ qv cv gs q x (HG.out.to (chainB HF.out.bel hb)) (fv.below hb) (by omega) hcv hkz HGz.out
            rw [HS.out.1, HS.out.2] at h
            refine h.mono ?_
            rintro e x1 ⟨v9, v8, rfl, o9, b⟩
            obtain ⟨q9, c9, q8, c8, rfl, rfl⟩ := o9.slices
            exact ⟨q9, c9, q8, c8, rfl, o9.read, chainB hb b⟩
          have QW : Hid (∀ (q9 : Option Addr) (c9 : Nat) (q8 : Option Addr) (c8 : Nat) x, Below wr.heap.size wr x → ((TxtAt x q9 XO.ns ∧ XO.ns.length ≤ c9) ∧ TxtAt x q8 XO.cs ∧ XO.cs.length ≤ c8) → Calls Tryz.prog 30 #[.agg #[.string XO.k, .int .i64 XO.at_, .slice q9 XO.ns.length c9, .slice q8 XO.cs.length c8, .int .i64 XO.ix, .string XO.s, .string XO.v], .agg #[.string XO.k, .int .i64 XO.at_, .slice qa XO.ns.length ca, .slice qb XO.cs.length cb, .int .i64 XO.ix, .string XO.s, .string XO.v]] x fun e x1 => e = .returned (.bool true) ∧ Below wr.heap.size wr x1) := fun q9 c9 q8 c8 x hb h9 => by
            have hr := (HF.out.shw.below hb).read
            exact (lwShown_any XO q9 q8 qa qb c9 c8 ca cb x h9.1.1 h9.2.1 hr.1.1 hr.2.1 (by have := HXok.out.2.2.2.2.2.1; omega) (by have := HXok.out.2.2.2.2.2.2; omega) h9.1.2 h9.2.2 hr.1.2 hr.2.2).mono (by rintro e x1 ⟨rfl, b⟩; exact ⟨rfl, chainB hb b⟩)
          have BRW : Hid (Below wr.heap.size wr wr.drew) := (Below.refl _ _).drew
          have HE0 : Hid (∀ x, Below wr.heap.size wr x → Below w.heap.size w x) := fun x hx => chainB HF.out.bel hx
          go_upto_region 26 with fail
          refine wp_region_held_drew (S := fun w' => (w'.cell? ⟨Z5, 0, none⟩ = some (.string k) ∧ w'.cell? ⟨Z5, 1, none⟩ = some (.int .i64 at_) ∧ w'.cell? ⟨Z5, 2, none⟩ = some (.slice qv gs.length cv)) ∧ (w'.cell? ⟨Z7, 0, none⟩ = some (.string XO.k) ∧ w'.cell? ⟨Z7, 1, none⟩ = some (.int .i64 XO.at_) ∧ w'.cell? ⟨Z7, 2, none⟩ = some (.slice qa XO.ns.length ca) ∧ w'.cell? ⟨Z7, 3, none⟩ = some (.slice qb XO.cs.length cb) ∧ w'.cell? ⟨Z7, 4, none⟩ = some (.int .i64 XO.ix) ∧ w'.cell? ⟨Z7, 5, none⟩ = some (.string XO.s) ∧ w'.cell? ⟨Z7, 6, none⟩ = some (.string XO.v) ∧ w'.cell? ⟨Z7, 7, none⟩ = some (.int .i64 C))) (by kernel_rfl) (HH.out _ BRW.out) (fun hHeld => ?_)
          refine take_at 0 (v := ?_) rfl (by kernel_rfl) (by kernel_rfl) (by kernel_rfl) (fun _ _ _ h => h) hHeld (Or.inl ⟨by rfl, ?_⟩) ?_
          rotate_left
          · (intro w hSw; (try dsimp only at hSw); go_simp; try with_reducible rfl)
          simp only [Act.put, List.setIfInBounds_toArray, List.set_cons_zero, List.set_cons_succ]
          refine take_at 1 (v := ?_) rfl (by kernel_rfl) (by kernel_rfl) (by kernel_rfl) (fun _ _ _ h => h) hHeld (Or.inl ⟨by rfl, ?_⟩) ?_
          rotate_left
          · (intro w hSw; (try dsimp only at hSw); go_simp; try with_reducible rfl)
          simp only [Act.put, List.setIfInBounds_toArray, List.set_cons_zero, List.set_cons_succ]
          refine take_at 4 (v := ?_) rfl (by kernel_rfl) (by kernel_rfl) (by kernel_rfl) (fun _ _ _ h => h) hHeld (Or.inl ⟨by rfl, ?_⟩) ?_
          rotate_left
          · (intro w hSw; (try dsimp only at hSw); go_simp; try with_reducible rfl)
          simp only [Act.put, List.setIfInBounds_toArray, List.set_cons_zero, List.set_cons_succ]
          refine take_at 5 (v := ?_) rfl (by kernel_rfl) (by kernel_rfl) (by kernel_rfl) (fun _ _ _ h => h) hHeld (Or.inl ⟨by rfl, ?_⟩) ?_
          rotate_left
          · (intro w hSw; (try dsimp only at hSw); go_simp; try with_reducible rfl)
          simp only [Act.put, List.setIfInBounds_toArray, List.set_cons_zero, List.set_cons_succ]
          refine ready_at 2 rfl (by kernel_rfl) (fun K hK => ?_)
          go_simp
          (go_at_call 22; with_reducible refine (QS.out _ BRW.out).mono ?_; rintro e y1 ⟨q9, c9, q8, c8, rfl, h9, t1⟩)
          refine hK.out _ _ (HH.out _ t1) (fun hHeld => ?_)
          clear hK K
          try simp only [Act.put, List.setIfInBounds_toArray, List.set_cons_zero, List.set_cons_succ]
          refine take_at 3 (v := ?_) rfl (by kernel_rfl) (by kernel_rfl) (by kernel_rfl) (fun _ _ _ h => h) hHeld (Or.inl ⟨by rfl, ?_⟩) ?_
          rotate_left
          · (intro w hSw; (try dsimp only at hSw); go_simp; try with_reducible rfl)
          simp only [Act.put, List.setIfInBounds_toArray, List.set_cons_zero, List.set_cons_succ]
          refine ready_at 6 rfl (by kernel_rfl) (fun K hK => ?_)
          go_simp
          (go_at_call 30; with_reducible refine (QW.out _ _ _ _ _ t1 h9).mono ?_; rintro e y2 ⟨rfl, t2⟩)
          refine hK.out _ _ (HH.out _ t2) (fun hHeld => ?_)
          clear hK K
          try simp only [Act.put, List.setIfInBounds_toArray, List.set_cons_zero, List.set_cons_succ]
          refine take_at 7 (v := ?_) rfl (by kernel_rfl) (by kernel_rfl) (by kernel_rfl) (fun _ _ _ h => h) hHeld (Or.inl ⟨by rfl, ?_⟩) ?_
          rotate_left
          · (intro w hSw; (try dsimp only at hSw); go_simp; try with_reducible rfl)
          simp only [Act.put, List.setIfInBounds_toArray, List.set_cons_zero, List.set_cons_succ]
          refine wpAnyH_done (by kernel_rfl) ?_ _
          have HE : Hid (Below w.heap.size w y2) := HE0.out _ t2
          clear hHeld
          go_wp2_with fail
          go_ret
          exact ⟨rfl, HE.out⟩
end Go.Proofs.YtnomkcbcjaagmabGreatDoor
