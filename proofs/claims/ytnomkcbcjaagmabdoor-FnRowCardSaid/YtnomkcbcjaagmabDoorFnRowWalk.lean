/-
  The law FnRow returns true: what CommitOf, FieldRight, RowOf, Forget, RowLeaf and RowRight answer of drawn codes; a row's leaf is what it was, whatever of it is forgotten.
  Conditions: the codes lie there; the two tables of the digest lie as laid.
-/
import Derived.Test.YtnomkcbcjaagmabDoorRows
import Derived.Test.YtnomkcbcjaagmabDoorBytesDigMath
import Derived.Test.YtnomkcbcjaagmabDoorSlASlBOwnS
import Derived.Test.YtnomkcbcjaagmabDoorBxKGrKTakesSrc
import Derived.Test.YtnomkcbcjaagmabDoorDrawsDrawKit
import Derived.Test.YtnomkcbcjaagmabDoorFldMath
import Derived.Test.YtnomkcbcjaagmabDoorFldRiseOwnBTurn2
import Derived.Test.YtnomkcbcjaagmabDoorFldIsFldC
import Derived.Test.YtnomkcbcjaagmabDoorFldR
import Derived.Test.YtnomkcbcjaagmabDoorFldL
import Derived.Test.YtnomkcbcjaagmabDoorFldGStepAppTakesL
import Derived.Test.YtnomkcbcjaagmabDoorFldO
import Derived.Test.YtnomkcbcjaagmabDoorFldF
import Derived.Test.YtnomkcbcjaagmabDoorImplFC
import Derived.Test.YtnomkcbcjaagmabDoorImplFR
import Derived.Test.YtnomkcbcjaagmabDoorImplFkTillTwo
import Derived.Test.YtnomkcbcjaagmabDoorImplFg
import Derived.Test.YtnomkcbcjaagmabDoorImplRo
import Derived.Test.YtnomkcbcjaagmabDoorLwRow
import Derived.Test.YtnomkcbcjaagmabDoorDrawRow
import Derived.Test.YtnomkcbcjaagmabDoorDrawSm
import Derived.Test.YtnomkcbcjaagmabDoorDrawRw
import Derived.Test.YtnomkcbcjaagmabDoorDrawFr
import Derived.Test.YtnomkcbcjaagmabDoorDrawRo
import Derived.Test.YtnomkcbcjaagmabDoorDrawTb
import Derived.Handy
import Derived.WalkSpells
import Derived.OwnWalk
import Derived.Deep.RegionHeld3
import Derived.Deep.Cut
namespace Go.Proofs.YtnomkcbcjaagmabDoor
open Go.RowKit Go.Lib
set_option linter.unusedVariables false
set_option maxRecDepth 20000

theorem getD_fld {fs : List Fld} {Q : Nat} (h : Q < fs.length) : fs.getD Q fldD = fs[Q] := by rw [List.getD_eq_getElem?_getD, List.getElem?_eq_getElem h]; rfl
/-- What forgetting that went well says. -/
theorem fg_facts {k : ByteArray} {at_ : Int} {fs : List Fld} {q : Int} (hC : fgC k at_ fs q = 0) : ∃ (Q : Nat) (hQ : Q < fs.length), q = (Q : Int) ∧ fgK k at_ fs q = k ∧ fgA k at_ fs q = at_ ∧ fgF k at_ fs q = fs.set Q (goneF fs[Q]) ∧ rwB k at_ fs = true := by
  have h0 := hC
  unfold fgC at h0
  split at h0
  · rename_i hr
    split at h0
    · rename_i hi
      refine ⟨q.toNat, by omega, by omega, if_pos hC, if_pos hC, ?_, hr⟩
      unfold fgF
      rw [if_pos hC, getD_fld (show q.toNat < fs.length by omega)]
    · cases h0
  · cases h0
theorem fg_nil {k : ByteArray} {at_ : Int} {fs : List Fld} {q : Int} (hC : ¬ fgC k at_ fs q = 0) : fgF k at_ fs q = [] := if_neg hC
theorem fgF_le {k : ByteArray} {at_ : Int} {fs : List Fld} {q : Int} (h : FldsLe fs) : FldsLe (fgF k at_ fs q) ∧ (fgF k at_ fs q).length ≤ fs.length ∧ (fgK k at_ fs q).size ≤ k.size := by
  by_cases hC : fgC k at_ fs q = 0
  · obtain ⟨Q, hQ, -, e1, -, e2, -⟩ := fg_facts hC
    rw [e1, e2]
    refine ⟨fun f hf => ?_, by simp, Nat.le_refl _⟩
    rcases List.mem_or_eq_of_mem_set hf with h1 | rfl
    · exact h f h1
    · have := h _ (List.getElem_mem hQ)
      exact ⟨this.1, this.2.1, Nat.zero_le _, Nat.zero_le _⟩
  · rw [fg_nil hC]
    refine ⟨(fun f hf => by cases hf), by simp, ?_⟩
    unfold fgK; rw [if_neg hC]; exact Nat.zero_le _
theorem fg_right {k : ByteArray} {at_ : Int} {fs : List Fld} {q : Int} (hC : fgC k at_ fs q = 0) : rwB (fgK k at_ fs q) (fgA k at_ fs q) (fgF k at_ fs q) = true := by
  obtain ⟨Q, hQ, -, e1, e2, e3, hr⟩ := fg_facts hC
  rw [e1, e2, e3]; exact forget_right hr Q hQ
theorem fg_again {k : ByteArray} {at_ : Int} {fs : List Fld} {Q : Nat} (hQ : Q < fs.length) (hr : rwB k at_ fs = true) : fgC k at_ (fs.set Q (goneF fs[Q])) (Q : Int) = 7 := by
  unfold fgC
  rw [if_pos (forget_right hr Q hQ), if_pos ⟨by omega, by rw [List.length_set]; omega⟩, Int.toNat_natCast, getD_fld (by rw [List.length_set]; exact hQ), List.getElem_set_self]
  rfl
theorem ro_len {k : ByteArray} {at_ : Int} {ns ss vs : List ByteArray} (h : roC k at_ ns ss vs = 0) : (roF k at_ ns ss vs).length = ns.length := by
  have e : roF k at_ ns ss vs = rfTo ns ss vs ns.length := if_pos h
  rw [e, rfTo_len]
theorem ro_le {k : ByteArray} {at_ : Int} {ns ss vs : List ByteArray} (z1 : ∀ x ∈ ns, x.size ≤ maxLen) (z2 : ∀ x ∈ ss, x.size ≤ maxLen) (z3 : ∀ x ∈ vs, x.size ≤ maxLen) (hk : k.size ≤ maxLen) : FldsLe (roF k at_ ns ss vs) ∧ (roF k at_ ns ss vs).length ≤ ns.length ∧ (roK k at_ ns ss vs).size ≤ maxLen := by
  by_cases h : roC k at_ ns ss vs = 0
  · have e : roF k at_ ns ss vs = rfTo ns ss vs ns.length := if_pos h
    rw [e, rfTo_len]
    exact ⟨rfTo_le z1 z2 z3 _, Nat.le_refl _, by unfold roK; rw [if_pos h]; exact hk⟩
  · have e : roF k at_ ns ss vs = [] := if_neg h
    rw [e]
    exact ⟨(fun f hf => by cases hf), Nat.zero_le _, by unfold roK; rw [if_neg h]; exact Nat.zero_le _⟩
theorem lf33 {k : ByteArray} {at_ : Int} {fs : List Fld} (h : rwB k at_ fs = true) : (lfB k at_ fs).size = 33 := by
  unfold lfB; rw [if_pos h, ByteArray.size_append, digB_size]; rfl
theorem field_rcode (k : ByteArray) (t : Int) (q : Option Addr) (n c : Nat) (e : Int) (x : World) : (Instr.field 35 (.agg #[.string k, .int .i64 t, .slice q n c, .int .i64 e]) 1).run Tryd.prog x = .ok (.int .i64 e) x := by kernel_rfl
set_option maxHeartbeats 8000000 in
theorem fnRow_any (a0 : Option Addr) (len0 cap0 : Nat) (a1 : Option Addr) (len1 cap1 : Nat) (w : World) (hl0 : len0 ≤ 1048576) (hl1 : len1 ≤ 1048576)
    (hc0 : CodeAt w.heap.size a0 len0 w) (hc1 : CodeAt w.heap.size a1 len1 w) (hg : Tabs w) :
    Calls Tryd.prog 3 #[.slice a0 len0 cap0, .slice a1 len1 cap1] w fun e w' => e = .returned (.bool true) ∧ Below w.heap.size w w' := by
  have HC0 : Hid (CodeAt w.heap.size a0 len0 w) := hc0
  have HC1 : Hid (CodeAt w.heap.size a1 len1 w) := hc1
  have HG : Hid (Tabs w) := hg
  clear hc0 hc1 hg
  have d1 : decide (1048576 < (len0 : Int)) = false := by simp; omega
  have d2 : decide (1048576 < (len1 : Int)) = false := by simp; omega
  go_enter Tryd.func3, Tryd.ntmps3
  go_wp2_with fail
  refine (drawCommitOf_any w.heap.size a0 len0 cap0 w hl0 (Nat.le_refl _) HC0.out).mono ?_
  rintro e w1 ⟨⟨n, s, v, rfl, hn, hs, hv⟩, b1⟩
  have B1 : Hid (Below w.heap.size w w1) := b1
  clear b1
  go_wp2_with fail
  refine (drawFieldRight_any w.heap.size a1 len1 cap1 w1 hl1 B1.out.size (HC1.out.below B1.out)).mono ?_
  rintro e w2 ⟨⟨f, rfl, hf⟩, b2⟩
  go_upto_region 5 with fail
  obtain ⟨v2, hv2⟩ : ∃ v2, v2 = w2.alloc (.cells #[.string f.n, .string f.c, .string f.s, .string f.v, .bool f.g] 26) := ⟨_, rfl⟩
  rw [← hv2]
  obtain ⟨Z8, hZ8⟩ : ∃ Z8, Z8 = w2.heap.size := ⟨_, rfl⟩
  rw [← hZ8]
  have B2 : Hid (Below w.heap.size w v2) := by rw [hv2]; exact alB (chainB B1.out b2) _
  have X8a : Hid (Bxs v2 Z8 26 #[.string f.n, .string f.c, .string f.s, .string f.v, .bool f.g]) := by rw [hv2, hZ8]; exact Bxs.new _ _ _
  have HFo : Hid (FldOk f) := hf
  clear hv2 hZ8 b2 B1 hf
  go_wp2_with fail
  refine (drawRowOf_any w.heap.size a0 len0 cap0 v2 hl0 B2.out.size (HC0.out.below B2.out)).mono ?_
  rintro e w3 ⟨kd, rat, p1, c1, ns, p2, c2, ss, p3, c3, vs, rfl, ⟨t1, t2, t3⟩, ⟨m1, m2, m3⟩, ⟨y1, y2, y3, y4⟩, ⟨l1, l2, l3⟩, -, b3⟩
  have z1 : ∀ x ∈ ns, x.size ≤ maxLen := fun x hx => by have := y1 x hx; unfold maxLen; omega
  have z2 : ∀ x ∈ ss, x.size ≤ maxLen := fun x hx => by have := y2 x hx; unfold maxLen; omega
  have z3 : ∀ x ∈ vs, x.size ≤ maxLen := fun x hx => by have := y3 x hx; unfold maxLen; omega
  have z4 : kd.size ≤ maxLen := by unfold maxLen; omega
  have B3 : Hid (Below w.heap.size w w3) := chainB B2.out b3
  have hRO := implRowOf_any kd rat p1 c1 ns p2 c2 ss p3 c3 vs w3 (HG.out.to B3.out) t1 t2 t3 m1 m2 m3 z4 z1 z2 z3
  have QRO : Hid (∀ x, Below w3.heap.size w3 x → Calls Tryd.prog 17 #[.string kd, .int .i64 rat, .slice p1 ns.length c1, .slice p2 ss.length c2, .slice p3 vs.length c3] x fun e w' => ∃ v, e = .returned (.agg #[.string (roK kd rat ns ss vs), .int .i64 (roA kd rat ns ss vs), v, .int .i64 (roC kd rat ns ss vs)]) ∧ w'.ownsRow x.heap.size 26 5 v (roF kd rat ns ss vs).length (fldRow (roF kd rat ns ss vs)) ∧ Below x.heap.size x w') := fun x hx => specRowOf_any kd rat p1 c1 ns p2 c2 ss p3 c3 vs x (t1.below hx) (t2.below hx) (t3.below hx) m1 m2 m3 z4 z1 z2 z3
  have X8b : Hid (Bxs w3 Z8 26 #[.string f.n, .string f.c, .string f.s, .string f.v, .bool f.g]) := X8a.out.below b3
  have HXL : Hid (roC kd rat ns ss vs = 0 → (roF kd rat ns ss vs).length = ns.length ∧ rwB (roK kd rat ns ss vs) (roA kd rat ns ss vs) (roF kd rat ns ss vs) = true) := fun h => by
    obtain ⟨r1, r2, r3⟩ := ro_right h
    rw [r2, r3]; exact ⟨ro_len h, r1.1⟩
  obtain ⟨xle, xll, xkl⟩ := ro_le (at_ := rat) z1 z2 z3 z4
  have HXle : Hid (FldsLe (roF kd rat ns ss vs)) := xle
  have HXll : Hid ((roF kd rat ns ss vs).length ≤ 4) := Nat.le_trans xll l1
  have HXkl : Hid ((roK kd rat ns ss vs).size ≤ maxLen) := xkl
  clear t1 t2 t3 z1 z2 z3 z4 y1 y2 y3 y4 b3 B2 X8a xle xll xkl l1 l2 l3 m1 m2 m3
  generalize roC kd rat ns ss vs = xC at *
  generalize roK kd rat ns ss vs = xk at *
  generalize roA kd rat ns ss vs = xa at *
  generalize roF kd rat ns ss vs = XF at *
  go_wp2_with fail
  refine hRO.mono ?_
  rintro e w4 ⟨vx, rfl, ox, b4⟩
  obtain ⟨qx, cx, rfl, hcx, fx⟩ := ownF_form ox
  go_upto_region 7 with fail
  obtain ⟨v4, hv4⟩ : ∃ v4, v4 = w4.alloc (.cells #[.string xk, .int .i64 xa, .slice qx XF.length cx, .int .i64 xC] 35) := ⟨_, rfl⟩
  rw [← hv4]
  obtain ⟨Z14, hZ14⟩ : ∃ Z14, Z14 = w4.heap.size := ⟨_, rfl⟩
  rw [← hZ14]
  have B34 : Hid (Below w3.heap.size w3 v4) := by rw [hv4]; exact alB b4 _
  have X14a : Hid (Bxs v4 Z14 35 #[.string xk, .int .i64 xa, .slice qx XF.length cx, .int .i64 xC]) := by rw [hv4, hZ14]; exact Bxs.new _ _ _
  have FXa : Hid (FldAt v4 qx XF) := by rw [hv4]; exact fx.below ((Below.refl _ _).alloc (Nat.le_refl _) _)
  have B4 : Hid (Below w.heap.size w v4) := chainB B3.out B34.out
  have X8c : Hid (Bxs v4 Z8 26 #[.string f.n, .string f.c, .string f.s, .string f.v, .bool f.g]) := X8b.out.below B34.out
  clear hv4 hZ14 ox fx b4 hRO X8b
  go_wp2_with fail
  refine (drawForget_any w.heap.size a1 len1 cap1 v4 hl1 B4.out.size (HC1.out.below B4.out)).mono ?_
  rintro e w5 ⟨⟨k, at_, fs, vr, q, rfl, orw, ok, q0, q3⟩, b5⟩
  obtain ⟨qr, cr, rfl, hcr, fr⟩ := ownF_form orw
  go_upto_region 8 with fail
  obtain ⟨v5, hv5⟩ : ∃ v5, v5 = w5.alloc (.cells #[.string k, .int .i64 at_, .slice qr fs.length cr] 33) := ⟨_, rfl⟩
  rw [← hv5]
  obtain ⟨Z15, hZ15⟩ : ∃ Z15, Z15 = w5.heap.size := ⟨_, rfl⟩
  rw [← hZ15]
  have B45 : Hid (Below v4.heap.size v4 v5) := by rw [hv5]; exact alB b5 _
  have X15a : Hid (Bxs v5 Z15 33 #[.string k, .int .i64 at_, .slice qr fs.length cr]) := by rw [hv5, hZ15]; exact Bxs.new _ _ _
  have FRa : Hid (FldAt v5 qr fs) := by rw [hv5]; exact fr.below ((Below.refl _ _).alloc (Nat.le_refl _) _)
  have B5 : Hid (Below w.heap.size w v5) := chainB B4.out B45.out
  have hkz : k.size ≤ maxLen := by have := ok.1; unfold maxLen; omega
  have hfl : fs.length ≤ 4 := ok.2.2.1.2
  have HRle : Hid (FldsLe fs) := ok.le
  have hFG := implForget_any k at_ qr cr fs q v5 (HG.out.to B5.out) FRa.out (by omega) hcr hkz HRle.out
  obtain ⟨yle, yll, ykl⟩ := fgF_le (k := k) (at_ := at_) (q := q) HRle.out
  have HYle : Hid (FldsLe (fgF k at_ fs q)) := yle
  have HYll : Hid ((fgF k at_ fs q).length ≤ 4) := Nat.le_trans yll hfl
  have HYkl : Hid ((fgK k at_ fs q).size ≤ maxLen) := Nat.le_trans ykl hkz
  have HYr : Hid (fgC k at_ fs q = 0 → rwB (fgK k at_ fs q) (fgA k at_ fs q) (fgF k at_ fs q) = true) := fg_right
  have HYf : Hid (fgC k at_ fs q = 0 → ∃ (Q : Nat) (hQ : Q < fs.length), q = (Q : Int) ∧ fgK k at_ fs q = k ∧ fgA k at_ fs q = at_ ∧ fgF k at_ fs q = fs.set Q (goneF fs[Q]) ∧ rwB k at_ fs = true) := fg_facts
  have QFG : Hid (∀ x, Below v5.heap.size v5 x → Calls Tryd.prog 18 #[.agg #[.string k, .int .i64 at_, .slice qr fs.length cr], .int .i64 q] x fun e w' => ∃ v, e = .returned (.agg #[.string (fgK k at_ fs q), .int .i64 (fgA k at_ fs q), v, .int .i64 (fgC k at_ fs q)]) ∧ w'.ownsRow x.heap.size 26 5 v (fgF k at_ fs q).length (fldRow (fgF k at_ fs q)) ∧ Below x.heap.size x w') := fun x hx => specForget_any k at_ qr cr fs q x (FRa.out.below hx) (by omega) hcr hkz HRle.out
  clear hv5 hZ15 orw fr b5 yle yll ykl ok
  generalize fgC k at_ fs q = yC at *
  generalize fgK k at_ fs q = yk at *
  generalize fgA k at_ fs q = ya at *
  generalize fgF k at_ fs q = YF at *
  obtain ⟨r0, r1, r2⟩ : v5.cell? ⟨Z15, 0, none⟩ = some (.string k) ∧ v5.cell? ⟨Z15, 1, none⟩ = some (.int .i64 at_) ∧ v5.cell? ⟨Z15, 2, none⟩ = some (.slice qr fs.length cr) := ⟨X15a.out.cell 0, X15a.out.cell 1, X15a.out.cell 2⟩
  go_wp2_with fail
  refine hFG.mono ?_
  rintro e w6 ⟨vy, rfl, oy, b6⟩
  obtain ⟨qy, cy, rfl, hcy, fy⟩ := ownF_form oy
  clear r0 r1 r2
  go_upto_region 9 with fail
  obtain ⟨v6, hv6⟩ : ∃ v6, v6 = w6.alloc (.cells #[.string yk, .int .i64 ya, .slice qy YF.length cy, .int .i64 yC] 35) := ⟨_, rfl⟩
  rw [← hv6]
  obtain ⟨Z17, hZ17⟩ : ∃ Z17, Z17 = w6.heap.size := ⟨_, rfl⟩
  rw [← hZ17]
  have B56 : Hid (Below v5.heap.size v5 v6) := by rw [hv6]; exact alB b6 _
  have X17a : Hid (Bxs v6 Z17 35 #[.string yk, .int .i64 ya, .slice qy YF.length cy, .int .i64 yC]) := by rw [hv6, hZ17]; exact Bxs.new _ _ _
  have FYa : Hid (FldAt v6 qy YF) := by rw [hv6]; exact fy.below ((Below.refl _ _).alloc (Nat.le_refl _) _)
  have B6 : Hid (Below w.heap.size w v6) := chainB B5.out B56.out
  clear hv6 hZ17 oy fy b6 hFG
  go_wp2_with fail
  refine (drawRowLeaf_any w.heap.size a0 len0 cap0 v6 hl0 B6.out.size (HC0.out.below B6.out)).mono ?_
  rintro e w7 ⟨⟨lk, la, LF, vl, rfl, ol, okl⟩, b7⟩
  obtain ⟨ql, cl, rfl, hcl, fl⟩ := ownF_form ol
  go_upto_region 10 with fail
  obtain ⟨V, hV⟩ : ∃ V, V = w7.alloc (.cells #[.string lk, .int .i64 la, .slice ql LF.length cl] 33) := ⟨_, rfl⟩
  rw [← hV]
  obtain ⟨Z18, hZ18⟩ : ∃ Z18, Z18 = w7.heap.size := ⟨_, rfl⟩
  rw [← hZ18]
  have B67 : Hid (Below v6.heap.size v6 V) := by rw [hV]; exact alB b7 _
  have B57 : Hid (Below v5.heap.size v5 V) := chainB B56.out B67.out
  have B47 : Hid (Below v4.heap.size v4 V) := chainB B45.out B57.out
  have B37 : Hid (Below w3.heap.size w3 V) := chainB B34.out B47.out
  have BV : Hid (Below w.heap.size w V) := chainB B6.out B67.out
  have X18a : Hid (Bxs V Z18 33 #[.string lk, .int .i64 la, .slice ql LF.length cl]) := by rw [hV, hZ18]; exact Bxs.new _ _ _
  have FLa : Hid (FldAt V ql LF) := by rw [hV]; exact fl.below ((Below.refl _ _).alloc (Nat.le_refl _) _)
  have hlz : lk.size ≤ maxLen := by have := okl.1; unfold maxLen; omega
  have hll : LF.length ≤ 4 := okl.2.2.1.2
  have HLle : Hid (FldsLe LF) := okl.le
  clear hV hZ18 ol fl b7 okl B6 B5 B4 B3
  have HX : Hid (∀ x, Below V.heap.size V x → (x.cell? ⟨Z8, 0, none⟩ = some (.string f.n) ∧ x.cell? ⟨Z8, 1, none⟩ = some (.string f.c) ∧ x.cell? ⟨Z8, 2, none⟩ = some (.string f.s) ∧ x.cell? ⟨Z8, 3, none⟩ = some (.string f.v) ∧ x.cell? ⟨Z8, 4, none⟩ = some (.bool f.g)) ∧ (x.cell? ⟨Z14, 0, none⟩ = some (.string xk) ∧ x.cell? ⟨Z14, 1, none⟩ = some (.int .i64 xa) ∧ x.cell? ⟨Z14, 2, none⟩ = some (.slice qx XF.length cx) ∧ x.cell? ⟨Z14, 3, none⟩ = some (.int .i64 xC)) ∧ (x.cell? ⟨Z15, 0, none⟩ = some (.string k) ∧ x.cell? ⟨Z15, 1, none⟩ = some (.int .i64 at_) ∧ x.cell? ⟨Z15, 2, none⟩ = some (.slice qr fs.length cr)) ∧ (x.cell? ⟨Z17, 0, none⟩ = some (.string yk) ∧ x.cell? ⟨Z17, 1, none⟩ = some (.int .i64 ya) ∧ x.cell? ⟨Z17, 2, none⟩ = some (.slice qy YF.length cy) ∧ x.cell? ⟨Z17, 3, none⟩ = some (.int .i64 yC)) ∧ (x.cell? ⟨Z18, 0, none⟩ = some (.string lk) ∧ x.cell? ⟨Z18, 1, none⟩ = some (.int .i64 la) ∧ x.cell? ⟨Z18, 2, none⟩ = some (.slice ql LF.length cl))) := fun x hx => ⟨⟨(((X8c.out.below B47.out)).below hx).cell 0, (((X8c.out.below B47.out)).below hx).cell 1, (((X8c.out.below B47.out)).below hx).cell 2, (((X8c.out.below B47.out)).below hx).cell 3, (((X8c.out.below B47.out)).below hx).cell 4⟩, ⟨((X14a.out.below B47.out).below hx).cell 0, ((X14a.out.below B47.out).below hx).cell 1, ((X14a.out.below B47.out).below hx).cell 2, ((X14a.out.below B47.out).below hx).cell 3⟩, ⟨((X15a.out.below B57.out).below hx).cell 0, ((X15a.out.below B57.out).below hx).cell 1, ((X15a.out.below B57.out).below hx).cell 2⟩, ⟨((X17a.out.below B67.out).below hx).cell 0, ((X17a.out.below B67.out).below hx).cell 1, ((X17a.out.below B67.out).below hx).cell 2, ((X17a.out.below B67.out).below hx).cell 3⟩, ⟨(X18a.out.below hx).cell 0, (X18a.out.below hx).cell 1, (X18a.out.below hx).cell 2⟩⟩
  have HTb : Hid (∀ x, Below V.heap.size V x → Tabs x) := fun x hx => (HG.out.to BV.out).to hx
  have FX : Hid (∀ x, Below V.heap.size V x → FldAt x qx XF) := fun x hx => (FXa.out.below B47.out).below hx
  have FR : Hid (∀ x, Below V.heap.size V x → FldAt x qr fs) := fun x hx => (FRa.out.below B57.out).below hx
  have FY : Hid (∀ x, Below V.heap.size V x → FldAt x qy YF) := fun x hx => (FYa.out.below B67.out).below hx
  have BRV : Hid (Below V.heap.size V V.drew) := (Below.refl _ _).drew
  have QC : Hid (∀ x, Below V.heap.size V x → Calls Tryd.prog 12 #[.string n, .string s, .string v] x fun e x1 => e = .returned (.string (cmB n s v)) ∧ Below V.heap.size V x1) := fun x hb => (implCommitOf_any n s v x (HTb.out x hb) (by unfold maxLen; omega) (by unfold maxLen; omega) (by unfold maxLen; omega)).mono (by rintro e x1 ⟨rfl, b⟩; exact ⟨rfl, chainB hb b⟩)
  have QD : Hid (∀ x, Below V.heap.size V x → Calls Tryd.prog 13 #[.string n, .string s, .string v] x fun e x1 => e = .returned (.string (cmB n s v)) ∧ Below V.heap.size V x1) := fun x hb => (specCommitOf_any n s v x (by unfold maxLen; omega) (by unfold maxLen; omega) (by unfold maxLen; omega)).mono (by rintro e x1 ⟨rfl, b⟩; exact ⟨rfl, chainB hb b⟩)
  have QE : Hid (∀ x, Below V.heap.size V x → Calls Tryd.prog 14 #[.agg #[.string f.n, .string f.c, .string f.s, .string f.v, .bool f.g]] x fun e x1 => e = .returned (.bool (fdB f)) ∧ Below V.heap.size V x1) := fun x hb => (implFieldRight_any f x (HTb.out x hb) (by have := HFo.out.1; unfold maxLen; omega) (by have := HFo.out.2.1; unfold maxLen; omega) (by have := HFo.out.2.2.1; unfold maxLen; omega) (by have := HFo.out.2.2.2; unfold maxLen; omega)).mono (by rintro e x1 ⟨rfl, b⟩; exact ⟨rfl, chainB hb b⟩)
  have QF : Hid (∀ x, Below V.heap.size V x → Calls Tryd.prog 15 #[.agg #[.string f.n, .string f.c, .string f.s, .string f.v, .bool f.g]] x fun e x1 => e = .returned (.bool (fdB f)) ∧ Below V.heap.size V x1) := fun x hb => (specFieldRight_any f x (by have := HFo.out.1; unfold maxLen; omega) (by have := HFo.out.2.1; unfold maxLen; omega) (by have := HFo.out.2.2.1; unfold maxLen; omega) (by have := HFo.out.2.2.2; unfold maxLen; omega)).mono (by rintro e x1 ⟨rfl, b⟩; exact ⟨rfl, chainB hb b⟩)
  have QL : Hid (∀ x, Below V.heap.size V x → Calls Tryd.prog 19 #[.agg #[.string lk, .int .i64 la, .slice ql LF.length cl]] x fun e x1 => e = .returned (.string (lfB lk la LF)) ∧ Below V.heap.size V x1) := fun x hb => (implRowLeaf_any lk la ql cl LF x (HTb.out x hb) (FLa.out.below hb) (by omega) hcl hlz HLle.out).mono (by rintro e x1 ⟨rfl, b⟩; exact ⟨rfl, chainB hb b⟩)
  have QM : Hid (∀ x, Below V.heap.size V x → Calls Tryd.prog 20 #[.agg #[.string lk, .int .i64 la, .slice ql LF.length cl]] x fun e x1 => e = .returned (.string (lfB lk la LF)) ∧ Below V.heap.size V x1) := fun x hb => (specRowLeaf_any lk la ql cl LF x (FLa.out.below hb) (by omega) hcl hlz HLle.out).mono (by rintro e x1 ⟨rfl, b⟩; exact ⟨rfl, chainB hb b⟩)
  have QN : Hid (∀ x, Below V.heap.size V x → Calls Tryd.prog 21 #[.agg #[.string lk, .int .i64 la, .slice ql LF.length cl]] x fun e x1 => e = .returned (.bool (rwB lk la LF)) ∧ Below V.heap.size V x1) := fun x hb => (implRowRight_any lk la ql cl LF x (HTb.out x hb) (FLa.out.below hb) (by omega) hcl hlz HLle.out).mono (by rintro e x1 ⟨rfl, b⟩; exact ⟨rfl, chainB hb b⟩)
  have QP : Hid (∀ x, Below V.heap.size V x → Calls Tryd.prog 22 #[.agg #[.string lk, .int .i64 la, .slice ql LF.length cl]] x fun e x1 => e = .returned (.bool (rwB lk la LF)) ∧ Below V.heap.size V x1) := fun x hb => (specRowRight_any lk la ql cl LF x (FLa.out.below hb) (by omega) hcl hlz HLle.out).mono (by rintro e x1 ⟨rfl, b⟩; exact ⟨rfl, chainB hb b⟩)
  have QX : Hid (∀ x, Below V.heap.size V x → Calls Tryd.prog 19 #[.agg #[.string xk, .int .i64 xa, .slice qx XF.length cx]] x fun e x1 => e = .returned (.string (lfB xk xa XF)) ∧ Below V.heap.size V x1) := fun x hb => (implRowLeaf_any xk xa qx cx XF x (HTb.out x hb) (FX.out x hb) (by have := HXll.out; omega) hcx HXkl.out HXle.out).mono (by rintro e x1 ⟨rfl, b⟩; exact ⟨rfl, chainB hb b⟩)
  have QY : Hid (∀ x, Below V.heap.size V x → Calls Tryd.prog 19 #[.agg #[.string yk, .int .i64 ya, .slice qy YF.length cy]] x fun e x1 => e = .returned (.string (lfB yk ya YF)) ∧ Below V.heap.size V x1) := fun x hb => (implRowLeaf_any yk ya qy cy YF x (HTb.out x hb) (FY.out x hb) (by have := HYll.out; omega) hcy HYkl.out HYle.out).mono (by rintro e x1 ⟨rfl, b⟩; exact ⟨rfl, chainB hb b⟩)
  have QR : Hid (∀ x, Below V.heap.size V x → Calls Tryd.prog 19 #[.agg #[.string k, .int .i64 at_, .slice qr fs.length cr]] x fun e x1 => e = .returned (.string (lfB k at_ fs)) ∧ Below V.heap.size V x1) := fun x hb => (implRowLeaf_any k at_ qr cr fs x (HTb.out x hb) (FR.out x hb) (by omega) hcr hkz HRle.out).mono (by rintro e x1 ⟨rfl, b⟩; exact ⟨rfl, chainB hb b⟩)
  have QRx : Hid (∀ x, Below V.heap.size V x → Calls Tryd.prog 17 #[.string kd, .int .i64 rat, .slice p1 ns.length c1, .slice p2 ss.length c2, .slice p3 vs.length c3] x fun e x1 => ∃ q9 c9, e = .returned (.agg #[.string xk, .int .i64 xa, .slice q9 XF.length c9, .int .i64 xC]) ∧ XF.length ≤ c9 ∧ FldAt x1 q9 XF ∧ Below V.heap.size V x1) := fun x hb => (QRO.out x (chainB B37.out hb)).mono (by
    rintro e x1 ⟨v9, rfl, o9, b⟩
    obtain ⟨q9, c9, rfl, h9, f9⟩ := ownF_form o9
    exact ⟨q9, c9, rfl, h9, f9, chainB hb b⟩)
  have QFx : Hid (∀ x, Below V.heap.size V x → Calls Tryd.prog 18 #[.agg #[.string k, .int .i64 at_, .slice qr fs.length cr], .int .i64 q] x fun e x1 => ∃ q9 c9, e = .returned (.agg #[.string yk, .int .i64 ya, .slice q9 YF.length c9, .int .i64 yC]) ∧ YF.length ≤ c9 ∧ FldAt x1 q9 YF ∧ Below V.heap.size V x1) := fun x hb => (QFG.out x (chainB B57.out hb)).mono (by
    rintro e x1 ⟨v9, rfl, o9, b⟩
    obtain ⟨q9, c9, rfl, h9, f9⟩ := ownF_form o9
    exact ⟨q9, c9, rfl, h9, f9, chainB hb b⟩)
  have QWx : Hid (∀ (q9 : Option Addr) (c9 : Nat) x, Below V.heap.size V x → XF.length ≤ c9 → FldAt x q9 XF → Calls Tryd.prog 16 #[.agg #[.string xk, .int .i64 xa, .slice qx XF.length cx, .int .i64 xC], .agg #[.string xk, .int .i64 xa, .slice q9 XF.length c9, .int .i64 xC]] x fun e x1 => e = .returned (.bool true) ∧ Below V.heap.size V x1) := fun q9 c9 x hb h9 f9 => (lwRows_any xk xa xC qx q9 cx c9 XF x (FX.out x hb) f9 (by have := HXll.out; omega) hcx h9 HXkl.out HXle.out (fun h => (HXL.out h).2)).mono (by rintro e x1 ⟨rfl, b⟩; exact ⟨rfl, chainB hb b⟩)
  have QWy : Hid (∀ (q9 : Option Addr) (c9 : Nat) x, Below V.heap.size V x → YF.length ≤ c9 → FldAt x q9 YF → Calls Tryd.prog 16 #[.agg #[.string yk, .int .i64 ya, .slice qy YF.length cy, .int .i64 yC], .agg #[.string yk, .int .i64 ya, .slice q9 YF.length c9, .int .i64 yC]] x fun e x1 => e = .returned (.bool true) ∧ Below V.heap.size V x1) := fun q9 c9 x hb h9 f9 => (lwRows_any yk ya yC qy q9 cy c9 YF x (FY.out x hb) f9 (by have := HYll.out; omega) hcy h9 HYkl.out HYle.out HYr.out).mono (by rintro e x1 ⟨rfl, b⟩; exact ⟨rfl, chainB hb b⟩)
  generalize cmB n s v = CM at *
  generalize fdB f = FB at *
  generalize rwB lk la LF = RB at *
  generalize lfB lk la LF = LB at *
  clear QRO QFG X8c X14a X15a X17a X18a FXa FRa FYa B34 B45 B56 B67 B57 B47 B37
  refine wp_region_held_drew (S := fun w' => (w'.cell? ⟨Z8, 0, none⟩ = some (.string f.n) ∧ w'.cell? ⟨Z8, 1, none⟩ = some (.string f.c) ∧ w'.cell? ⟨Z8, 2, none⟩ = some (.string f.s) ∧ w'.cell? ⟨Z8, 3, none⟩ = some (.string f.v) ∧ w'.cell? ⟨Z8, 4, none⟩ = some (.bool f.g)) ∧ (w'.cell? ⟨Z14, 0, none⟩ = some (.string xk) ∧ w'.cell? ⟨Z14, 1, none⟩ = some (.int .i64 xa) ∧ w'.cell? ⟨Z14, 2, none⟩ = some (.slice qx XF.length cx) ∧ w'.cell? ⟨Z14, 3, none⟩ = some (.int .i64 xC)) ∧ (w'.cell? ⟨Z15, 0, none⟩ = some (.string k) ∧ w'.cell? ⟨Z15, 1, none⟩ = some (.int .i64 at_) ∧ w'.cell? ⟨Z15, 2, none⟩ = some (.slice qr fs.length cr)) ∧ (w'.cell? ⟨Z17, 0, none⟩ = some (.string yk) ∧ w'.cell? ⟨Z17, 1, none⟩ = some (.int .i64 ya) ∧ w'.cell? ⟨Z17, 2, none⟩ = some (.slice qy YF.length cy) ∧ w'.cell? ⟨Z17, 3, none⟩ = some (.int .i64 yC)) ∧ (w'.cell? ⟨Z18, 0, none⟩ = some (.string lk) ∧ w'.cell? ⟨Z18, 1, none⟩ = some (.int .i64 la) ∧ w'.cell? ⟨Z18, 2, none⟩ = some (.slice ql LF.length cl))) (by kernel_rfl) (HX.out _ BRV.out) (fun hHeld => ?_)
  refine take_at 0 (v := ?_) rfl (by kernel_rfl) (by kernel_rfl) (by kernel_rfl) (fun _ _ _ h => h) hHeld (Or.inl ⟨by rfl, ?_⟩) ?_
  rotate_left
  · (intro w hSw; (try dsimp only at hSw); go_simp; try with_reducible rfl)
  simp only [Act.put, List.setIfInBounds_toArray, List.set_cons_zero, List.set_cons_succ]
  refine take_at 1 (v := ?_) rfl (by kernel_rfl) (by kernel_rfl) (by kernel_rfl) (fun _ _ _ h => h) hHeld (Or.inl ⟨by rfl, ?_⟩) ?_
  rotate_left
  · (intro w hSw; (try dsimp only at hSw); go_simp; try with_reducible rfl)
  simp only [Act.put, List.setIfInBounds_toArray, List.set_cons_zero, List.set_cons_succ]
  refine take_at 2 (v := ?_) rfl (by kernel_rfl) (by kernel_rfl) (by kernel_rfl) (fun _ _ _ h => h) hHeld (Or.inl ⟨by rfl, ?_⟩) ?_
  rotate_left
  · (intro w hSw; (try dsimp only at hSw); go_simp; try with_reducible rfl)
  simp only [Act.put, List.setIfInBounds_toArray, List.set_cons_zero, List.set_cons_succ]
  refine take_at 4 (v := ?_) rfl (by kernel_rfl) (by kernel_rfl) (by kernel_rfl) (fun _ _ _ h => h) hHeld (Or.inl ⟨by rfl, ?_⟩) ?_
  rotate_left
  · (intro w hSw; (try dsimp only at hSw); go_simp; try with_reducible rfl)
  simp only [Act.put, List.setIfInBounds_toArray, List.set_cons_zero, List.set_cons_succ]
  refine take_at 5 (v := ?_) rfl (by kernel_rfl) (by kernel_rfl) (by kernel_rfl) (fun _ _ _ h => h) hHeld (Or.inl ⟨by rfl, ?_⟩) ?_
  rotate_left
  · (intro w hSw; (try dsimp only at hSw); go_simp; try with_reducible rfl)
  simp only [Act.put, List.setIfInBounds_toArray, List.set_cons_zero, List.set_cons_succ]
  refine take_at 6 (v := ?_) rfl (by kernel_rfl) (by kernel_rfl) (by kernel_rfl) (fun _ _ _ h => h) hHeld (Or.inl ⟨by rfl, ?_⟩) ?_
  rotate_left
  · (intro w hSw; (try dsimp only at hSw); go_simp; try with_reducible rfl)
  simp only [Act.put, List.setIfInBounds_toArray, List.set_cons_zero, List.set_cons_succ]
  refine ready_at 3 rfl (by kernel_rfl) (fun K hK => ?_)
  go_simp
  (go_at_call 12; with_reducible refine (QC.out _ BRV.out).mono ?_; rintro e x1 ⟨rfl, z1⟩)
  refine hK.out _ _ (HX.out _ z1) (fun hHeld => ?_)
  clear hK K
  try simp only [Act.put, List.setIfInBounds_toArray, List.set_cons_zero, List.set_cons_succ]
  refine ready_at 7 rfl (by kernel_rfl) (fun K hK => ?_)
  go_simp
  (go_at_call 13; with_reducible refine (QD.out _ z1).mono ?_; rintro e x2 ⟨rfl, z2⟩)
  refine hK.out _ _ (HX.out _ z2) (fun hHeld => ?_)
  clear hK K
  try simp only [Act.put, List.setIfInBounds_toArray, List.set_cons_zero, List.set_cons_succ]
  refine take_at 8 (v := ?_) rfl (by kernel_rfl) (by kernel_rfl) (by kernel_rfl) (fun _ _ _ h => h) hHeld (Or.inl ⟨by rfl, ?_⟩) ?_
  rotate_left
  · (intro w hSw; (try dsimp only at hSw); go_simp; try with_reducible rfl)
  simp only [Act.put, List.setIfInBounds_toArray, List.set_cons_zero, List.set_cons_succ]
  refine take_at 9 (v := ?_) rfl (by kernel_rfl) (by kernel_rfl) (by kernel_rfl) (fun _ _ _ h => h) hHeld (Or.inl ⟨by rfl, ?_⟩) ?_
  rotate_left
  · (intro w hSw; (try dsimp only at hSw); go_simp; try with_reducible rfl)
  simp only [Act.put, List.setIfInBounds_toArray, List.set_cons_zero, List.set_cons_succ]
  refine take_at 10 (v := ?_) rfl (by kernel_rfl) (by kernel_rfl) (by kernel_rfl) (fun _ _ _ h => h) hHeld (Or.inl ⟨by rfl, ?_⟩) ?_
  rotate_left
  · (intro w hSw; (try dsimp only at hSw); go_simp; try with_reducible rfl)
  simp only [Act.put, List.setIfInBounds_toArray, List.set_cons_zero, List.set_cons_succ]
  refine take_at 12 (v := ?_) rfl (by kernel_rfl) (by kernel_rfl) (by kernel_rfl) (fun _ _ _ h => h) hHeld (Or.inl ⟨by rfl, ?_⟩) ?_
  rotate_left
  · (intro w hSw; (try dsimp only at hSw); go_simp; try with_reducible rfl)
  simp only [Act.put, List.setIfInBounds_toArray, List.set_cons_zero, List.set_cons_succ]
  refine ready_at 11 rfl (by kernel_rfl) (fun K hK => ?_)
  go_simp
  (go_at_call 14; with_reducible refine (QE.out _ z2).mono ?_; rintro e x3 ⟨rfl, z3⟩)
  refine hK.out _ _ (HX.out _ z3) (fun hHeld => ?_)
  clear hK K
  try simp only [Act.put, List.setIfInBounds_toArray, List.set_cons_zero, List.set_cons_succ]
  refine ready_at 13 rfl (by kernel_rfl) (fun K hK => ?_)
  go_simp
  (go_at_call 15; with_reducible refine (QF.out _ z3).mono ?_; rintro e x4 ⟨rfl, z4⟩)
  refine hK.out _ _ (HX.out _ z4) (fun hHeld => ?_)
  clear hK K
  try simp only [Act.put, List.setIfInBounds_toArray, List.set_cons_zero, List.set_cons_succ]
  refine take_at 14 (v := ?_) rfl (by kernel_rfl) (by kernel_rfl) (by kernel_rfl) (fun _ _ _ h => h) hHeld (Or.inl ⟨by rfl, ?_⟩) ?_
  rotate_left
  · (intro w hSw; (try dsimp only at hSw); go_simp; try with_reducible rfl)
  simp only [Act.put, List.setIfInBounds_toArray, List.set_cons_zero, List.set_cons_succ]
  refine take_at 15 (v := ?_) rfl (by kernel_rfl) (by kernel_rfl) (by kernel_rfl) (fun _ _ _ h => h) hHeld (Or.inl ⟨by rfl, ?_⟩) ?_
  rotate_left
  · (intro w hSw; (try dsimp only at hSw); go_simp; try with_reducible rfl)
  simp only [Act.put, List.setIfInBounds_toArray, List.set_cons_zero, List.set_cons_succ]
  refine take_at 16 (v := ?_) rfl (by kernel_rfl) (by kernel_rfl) (by kernel_rfl) (fun _ _ _ h => h) hHeld (Or.inl ⟨by rfl, ?_⟩) ?_
  rotate_left
  · (intro w hSw; (try dsimp only at hSw); go_simp; try with_reducible rfl)
  simp only [Act.put, List.setIfInBounds_toArray, List.set_cons_zero, List.set_cons_succ]
  refine take_at 17 (v := ?_) rfl (by kernel_rfl) (by kernel_rfl) (by kernel_rfl) (fun _ _ _ h => h) hHeld (Or.inl ⟨by rfl, ?_⟩) ?_
  rotate_left
  · (intro w hSw; (try dsimp only at hSw); go_simp; try with_reducible rfl)
  simp only [Act.put, List.setIfInBounds_toArray, List.set_cons_zero, List.set_cons_succ]
  refine take_at 18 (v := ?_) rfl (by kernel_rfl) (by kernel_rfl) (by kernel_rfl) (fun _ _ _ h => h) hHeld (Or.inl ⟨by rfl, ?_⟩) ?_
  rotate_left
  · (intro w hSw; (try dsimp only at hSw); go_simp; try with_reducible rfl)
  simp only [Act.put, List.setIfInBounds_toArray, List.set_cons_zero, List.set_cons_succ]
  refine take_at 19 (v := ?_) rfl (by kernel_rfl) (by kernel_rfl) (by kernel_rfl) (fun _ _ _ h => h) hHeld (Or.inl ⟨by rfl, ?_⟩) ?_
  rotate_left
  · (intro w hSw; (try dsimp only at hSw); go_simp; try with_reducible rfl)
  simp only [Act.put, List.setIfInBounds_toArray, List.set_cons_zero, List.set_cons_succ]
  refine take_at 20 (v := ?_) rfl (by kernel_rfl) (by kernel_rfl) (by kernel_rfl) (fun _ _ _ h => h) hHeld (Or.inl ⟨by rfl, ?_⟩) ?_
  rotate_left
  · (intro w hSw; (try dsimp only at hSw); go_simp; try with_reducible rfl)
  simp only [Act.put, List.setIfInBounds_toArray, List.set_cons_zero, List.set_cons_succ]
  refine take_at 21 (v := ?_) rfl (by kernel_rfl) (by kernel_rfl) (by kernel_rfl) (fun _ _ _ h => h) hHeld (Or.inl ⟨by rfl, ?_⟩) ?_
  rotate_left
  · (intro w hSw; (try dsimp only at hSw); go_simp; try with_reducible rfl)
  simp only [Act.put, List.setIfInBounds_toArray, List.set_cons_zero, List.set_cons_succ]
  refine take_at 22 (v := ?_) rfl (by kernel_rfl) (by kernel_rfl) (by kernel_rfl) (fun _ _ _ h => h) hHeld (Or.inl ⟨by rfl, ?_⟩) ?_
  rotate_left
  · (intro w hSw; (try dsimp only at hSw); go_simp; try with_reducible rfl)
  simp only [Act.put, List.setIfInBounds_toArray, List.set_cons_zero, List.set_cons_succ]
  refine ready_at 23 rfl (by kernel_rfl) (fun K hK => ?_)
  go_simp
  (go_at_call 17; with_reducible refine (QRx.out _ z4).mono ?_; rintro e x5 ⟨q5, c5', rfl, h5, f5', z5⟩)
  refine hK.out _ _ (HX.out _ z5) (fun hHeld => ?_)
  clear hK K
  try simp only [Act.put, List.setIfInBounds_toArray, List.set_cons_zero, List.set_cons_succ]
  refine ready_at 24 rfl (by kernel_rfl) (fun K hK => ?_)
  go_simp
  (go_at_call 16; with_reducible refine (QWx.out _ _ _ z5 h5 f5').mono ?_; rintro e x6 ⟨rfl, z6⟩)
  refine hK.out _ _ (HX.out _ z6) (fun hHeld => ?_)
  clear hK K
  try simp only [Act.put, List.setIfInBounds_toArray, List.set_cons_zero, List.set_cons_succ]
  refine take_at 25 (v := ?_) rfl (by kernel_rfl) (by kernel_rfl) (by kernel_rfl) (fun _ _ _ h => h) hHeld (Or.inl ⟨by rfl, ?_⟩) ?_
  rotate_left
  · (intro w hSw; (try dsimp only at hSw); go_simp; try with_reducible rfl)
  simp only [Act.put, List.setIfInBounds_toArray, List.set_cons_zero, List.set_cons_succ]
  refine take_at 26 (v := ?_) rfl (by kernel_rfl) (by kernel_rfl) (by kernel_rfl) (fun _ _ _ h => h) hHeld (Or.inl ⟨by rfl, ?_⟩) ?_
  rotate_left
  · (intro w hSw; (try dsimp only at hSw); go_simp; try with_reducible rfl)
  simp only [Act.put, List.setIfInBounds_toArray, List.set_cons_zero, List.set_cons_succ]
  refine take_at 27 (v := ?_) rfl (by kernel_rfl) (by kernel_rfl) (by kernel_rfl) (fun _ _ _ h => h) hHeld (Or.inl ⟨by rfl, ?_⟩) ?_
  rotate_left
  · (intro w hSw; (try dsimp only at hSw); go_simp; try with_reducible rfl)
  simp only [Act.put, List.setIfInBounds_toArray, List.set_cons_zero, List.set_cons_succ]
  refine take_at 28 (v := ?_) rfl (by kernel_rfl) (by kernel_rfl) (by kernel_rfl) (fun _ _ _ h => h) hHeld (Or.inl ⟨by rfl, ?_⟩) ?_
  rotate_left
  · (intro w hSw; (try dsimp only at hSw); go_simp; try with_reducible rfl)
  simp only [Act.put, List.setIfInBounds_toArray, List.set_cons_zero, List.set_cons_succ]
  refine take_at 29 (v := ?_) rfl (by kernel_rfl) (by kernel_rfl) (by kernel_rfl) (fun _ _ _ h => h) hHeld (Or.inl ⟨by rfl, ?_⟩) ?_
  rotate_left
  · (intro w hSw; (try dsimp only at hSw); go_simp; try with_reducible rfl)
  simp only [Act.put, List.setIfInBounds_toArray, List.set_cons_zero, List.set_cons_succ]
  refine take_at 30 (v := ?_) rfl (by kernel_rfl) (by kernel_rfl) (by kernel_rfl) (fun _ _ _ h => h) hHeld (Or.inl ⟨by rfl, ?_⟩) ?_
  rotate_left
  · (intro w hSw; (try dsimp only at hSw); go_simp; try with_reducible rfl)
  simp only [Act.put, List.setIfInBounds_toArray, List.set_cons_zero, List.set_cons_succ]
  refine ready_at 31 rfl (by kernel_rfl) (fun K hK => ?_)
  go_simp
  (go_at_call 18; with_reducible refine (QFx.out _ z6).mono ?_; rintro e x7 ⟨q7, c7', rfl, h7, f7', z7⟩)
  refine hK.out _ _ (HX.out _ z7) (fun hHeld => ?_)
  clear hK K
  try simp only [Act.put, List.setIfInBounds_toArray, List.set_cons_zero, List.set_cons_succ]
  refine ready_at 32 rfl (by kernel_rfl) (fun K hK => ?_)
  go_simp
  (go_at_call 16; with_reducible refine (QWy.out _ _ _ z7 h7 f7').mono ?_; rintro e x8 ⟨rfl, z8⟩)
  refine hK.out _ _ (HX.out _ z8) (fun hHeld => ?_)
  clear hK K
  try simp only [Act.put, List.setIfInBounds_toArray, List.set_cons_zero, List.set_cons_succ]
  refine take_at 33 (v := ?_) rfl (by kernel_rfl) (by kernel_rfl) (by kernel_rfl) (fun _ _ _ h => h) hHeld (Or.inl ⟨by rfl, ?_⟩) ?_
  rotate_left
  · (intro w hSw; (try dsimp only at hSw); go_simp; try with_reducible rfl)
  simp only [Act.put, List.setIfInBounds_toArray, List.set_cons_zero, List.set_cons_succ]
  refine take_at 34 (v := ?_) rfl (by kernel_rfl) (by kernel_rfl) (by kernel_rfl) (fun _ _ _ h => h) hHeld (Or.inl ⟨by rfl, ?_⟩) ?_
  rotate_left
  · (intro w hSw; (try dsimp only at hSw); go_simp; try with_reducible rfl)
  simp only [Act.put, List.setIfInBounds_toArray, List.set_cons_zero, List.set_cons_succ]
  refine take_at 35 (v := ?_) rfl (by kernel_rfl) (by kernel_rfl) (by kernel_rfl) (fun _ _ _ h => h) hHeld (Or.inl ⟨by rfl, ?_⟩) ?_
  rotate_left
  · (intro w hSw; (try dsimp only at hSw); go_simp; try with_reducible rfl)
  simp only [Act.put, List.setIfInBounds_toArray, List.set_cons_zero, List.set_cons_succ]
  refine take_at 36 (v := ?_) rfl (by kernel_rfl) (by kernel_rfl) (by kernel_rfl) (fun _ _ _ h => h) hHeld (Or.inl ⟨by rfl, ?_⟩) ?_
  rotate_left
  · (intro w hSw; (try dsimp only at hSw); go_simp; try with_reducible rfl)
  simp only [Act.put, List.setIfInBounds_toArray, List.set_cons_zero, List.set_cons_succ]
  refine take_at 38 (v := ?_) rfl (by kernel_rfl) (by kernel_rfl) (by kernel_rfl) (fun _ _ _ h => h) hHeld (Or.inl ⟨by rfl, ?_⟩) ?_
  rotate_left
  · (intro w hSw; (try dsimp only at hSw); go_simp; try with_reducible rfl)
  simp only [Act.put, List.setIfInBounds_toArray, List.set_cons_zero, List.set_cons_succ]
  refine ready_at 37 rfl (by kernel_rfl) (fun K hK => ?_)
  go_simp
  (go_at_call 19; with_reducible refine (QL.out _ z8).mono ?_; rintro e x9 ⟨rfl, z9⟩)
  refine hK.out _ _ (HX.out _ z9) (fun hHeld => ?_)
  clear hK K
  try simp only [Act.put, List.setIfInBounds_toArray, List.set_cons_zero, List.set_cons_succ]
  refine ready_at 39 rfl (by kernel_rfl) (fun K hK => ?_)
  go_simp
  (go_at_call 20; with_reducible refine (QM.out _ z9).mono ?_; rintro e x10 ⟨rfl, z10⟩)
  refine hK.out _ _ (HX.out _ z10) (fun hHeld => ?_)
  clear hK K
  try simp only [Act.put, List.setIfInBounds_toArray, List.set_cons_zero, List.set_cons_succ]
  refine take_at 40 (v := ?_) rfl (by kernel_rfl) (by kernel_rfl) (by kernel_rfl) (fun _ _ _ h => h) hHeld (Or.inl ⟨by rfl, ?_⟩) ?_
  rotate_left
  · (intro w hSw; (try dsimp only at hSw); go_simp; try with_reducible rfl)
  simp only [Act.put, List.setIfInBounds_toArray, List.set_cons_zero, List.set_cons_succ]
  refine take_at 41 (v := ?_) rfl (by kernel_rfl) (by kernel_rfl) (by kernel_rfl) (fun _ _ _ h => h) hHeld (Or.inl ⟨by rfl, ?_⟩) ?_
  rotate_left
  · (intro w hSw; (try dsimp only at hSw); go_simp; try with_reducible rfl)
  simp only [Act.put, List.setIfInBounds_toArray, List.set_cons_zero, List.set_cons_succ]
  refine take_at 42 (v := ?_) rfl (by kernel_rfl) (by kernel_rfl) (by kernel_rfl) (fun _ _ _ h => h) hHeld (Or.inl ⟨by rfl, ?_⟩) ?_
  rotate_left
  · (intro w hSw; (try dsimp only at hSw); go_simp; try with_reducible rfl)
  simp only [Act.put, List.setIfInBounds_toArray, List.set_cons_zero, List.set_cons_succ]
  refine take_at 43 (v := ?_) rfl (by kernel_rfl) (by kernel_rfl) (by kernel_rfl) (fun _ _ _ h => h) hHeld (Or.inl ⟨by rfl, ?_⟩) ?_
  rotate_left
  · (intro w hSw; (try dsimp only at hSw); go_simp; try with_reducible rfl)
  simp only [Act.put, List.setIfInBounds_toArray, List.set_cons_zero, List.set_cons_succ]
  refine take_at 45 (v := ?_) rfl (by kernel_rfl) (by kernel_rfl) (by kernel_rfl) (fun _ _ _ h => h) hHeld (Or.inl ⟨by rfl, ?_⟩) ?_
  rotate_left
  · (intro w hSw; (try dsimp only at hSw); go_simp; try with_reducible rfl)
  simp only [Act.put, List.setIfInBounds_toArray, List.set_cons_zero, List.set_cons_succ]
  refine ready_at 44 rfl (by kernel_rfl) (fun K hK => ?_)
  go_simp
  (go_at_call 21; with_reducible refine (QN.out _ z10).mono ?_; rintro e x11 ⟨rfl, z11⟩)
  refine hK.out _ _ (HX.out _ z11) (fun hHeld => ?_)
  clear hK K
  try simp only [Act.put, List.setIfInBounds_toArray, List.set_cons_zero, List.set_cons_succ]
  refine ready_at 46 rfl (by kernel_rfl) (fun K hK => ?_)
  go_simp
  (go_at_call 22; with_reducible refine (QP.out _ z11).mono ?_; rintro e x12 ⟨rfl, z12⟩)
  refine hK.out _ _ (HX.out _ z12) (fun hHeld => ?_)
  clear hK K
  try simp only [Act.put, List.setIfInBounds_toArray, List.set_cons_zero, List.set_cons_succ]
  refine take_at 47 (v := ?_) rfl (by kernel_rfl) (by kernel_rfl) (by kernel_rfl) (fun _ _ _ h => h) hHeld (Or.inl ⟨by rfl, ?_⟩) ?_
  rotate_left
  · (intro w hSw; (try dsimp only at hSw); go_simp; try with_reducible rfl)
  simp only [Act.put, List.setIfInBounds_toArray, List.set_cons_zero, List.set_cons_succ]
  refine take_at 48 (v := ?_) rfl (by kernel_rfl) (by kernel_rfl) (by kernel_rfl) (fun _ _ _ h => h) hHeld (Or.inl ⟨by rfl, ?_⟩) ?_
  rotate_left
  · (intro w hSw; (try dsimp only at hSw); go_simp; try with_reducible rfl)
  simp only [Act.put, List.setIfInBounds_toArray, List.set_cons_zero, List.set_cons_succ]
  refine wpAnyH_done (by kernel_rfl) ?_ _
  clear hHeld QC QD QE QF QL QM QN QP QRx QFx QWx QWy
  have Z12 : Hid (Below V.heap.size V x12) := z12
  have TAIL : Hid (∀ x, Below V.heap.size V x → Below w.heap.size w x) := fun x hx => chainB BV.out hx
  clear z1 z2 z3 z4 z5 z6 z7 z8 z9 z10 z11 z12 h5 f5' h7 f7'
  go_upto_region 12 with fail
  go_cut [126] from 108 to 126 (fun s wx => s = .bool false ∧ Hid (Below V.heap.size V wx))
  case first =>
    obtain ⟨-, ⟨e0, e1, e2, e3⟩, -⟩ := HX.out _ Z12.out
    cases hxC : (xC == 0) with
    | false =>
      go_wp2_with fail
      go_meet
      exact ⟨rfl, Z12⟩
    | true =>
      obtain ⟨hxl, hxr⟩ := HXL.out (by simpa using hxC)
      have h33 := lf33 hxr
      have nn : (((XF.length : Nat) : Int) != ((ns.length : Nat) : Int)) = false := by rw [hxl]; simp
      have HXl : Hid (XF.length = ns.length) := hxl
      clear hxl hxr
      generalize lfB xk xa XF = LX at *
      have n33 : (((LX.size : Nat) : Int) != 33) = false := by rw [h33]; rfl
      have H33 : Hid (LX.size = 33) := h33
      clear h33
      go_wp2_with fail
      refine (QX.out _ Z12.out).mono ?_
      rintro e y1 ⟨rfl, zy⟩
      have ZY : Hid (Below V.heap.size V y1) := zy
      clear zy
      go_wp2_with fail
      go_meet
      exact ⟨rfl, ZY⟩
  case rest =>
    obtain ⟨rfl, HZc⟩ := hcut
    obtain ⟨w8, rfl⟩ : ∃ w8 : World, w8 = wc := ⟨_, rfl⟩
    clear Z12 QX
    have BR8 : Hid (Below V.heap.size V w8.drew) := HZc.out.drew
    go_upto_region 14 with fail
    cases hyC : (yC != 0) with
    | true =>
      refine wp_region_held_drew (S := fun w' => (w'.cell? ⟨Z8, 0, none⟩ = some (.string f.n) ∧ w'.cell? ⟨Z8, 1, none⟩ = some (.string f.c) ∧ w'.cell? ⟨Z8, 2, none⟩ = some (.string f.s) ∧ w'.cell? ⟨Z8, 3, none⟩ = some (.string f.v) ∧ w'.cell? ⟨Z8, 4, none⟩ = some (.bool f.g)) ∧ (w'.cell? ⟨Z14, 0, none⟩ = some (.string xk) ∧ w'.cell? ⟨Z14, 1, none⟩ = some (.int .i64 xa) ∧ w'.cell? ⟨Z14, 2, none⟩ = some (.slice qx XF.length cx) ∧ w'.cell? ⟨Z14, 3, none⟩ = some (.int .i64 xC)) ∧ (w'.cell? ⟨Z15, 0, none⟩ = some (.string k) ∧ w'.cell? ⟨Z15, 1, none⟩ = some (.int .i64 at_) ∧ w'.cell? ⟨Z15, 2, none⟩ = some (.slice qr fs.length cr)) ∧ (w'.cell? ⟨Z17, 0, none⟩ = some (.string yk) ∧ w'.cell? ⟨Z17, 1, none⟩ = some (.int .i64 ya) ∧ w'.cell? ⟨Z17, 2, none⟩ = some (.slice qy YF.length cy) ∧ w'.cell? ⟨Z17, 3, none⟩ = some (.int .i64 yC)) ∧ (w'.cell? ⟨Z18, 0, none⟩ = some (.string lk) ∧ w'.cell? ⟨Z18, 1, none⟩ = some (.int .i64 la) ∧ w'.cell? ⟨Z18, 2, none⟩ = some (.slice ql LF.length cl))) (by kernel_rfl) (HX.out _ BR8.out) (fun hHeld => ?_)
      refine take_at 0 (v := ?_) rfl (by kernel_rfl) (by kernel_rfl) (by kernel_rfl) (fun _ _ _ h => h) hHeld (Or.inl ⟨by rfl, ?_⟩) ?_
      rotate_left
      · (intro w hSw; (try dsimp only at hSw); go_simp; try with_reducible rfl)
      simp only [Act.put, List.setIfInBounds_toArray, List.set_cons_zero, List.set_cons_succ]
      refine take_at 1 (v := ?_) rfl (by kernel_rfl) (by kernel_rfl) (by kernel_rfl) (fun _ _ _ h => h) hHeld (Or.inl ⟨by rfl, ?_⟩) ?_
      rotate_left
      · (intro w hSw; (try dsimp only at hSw); go_simp; try with_reducible rfl)
      simp only [Act.put, List.setIfInBounds_toArray, List.set_cons_zero, List.set_cons_succ]
      refine take_at 2 (v := ?_) rfl (by kernel_rfl) (by kernel_rfl) (by kernel_rfl) (fun _ _ _ h => h) hHeld (Or.inl ⟨by rfl, ?_⟩) ?_
      rotate_left
      · (intro w hSw; (try dsimp only at hSw); go_simp; try with_reducible rfl)
      simp only [Act.put, List.setIfInBounds_toArray, List.set_cons_zero, List.set_cons_succ]
      refine take_at 3 (v := ?_) rfl (by kernel_rfl) (by kernel_rfl) (by kernel_rfl) (fun _ _ _ h => h) hHeld (Or.inl ⟨by rfl, ?_⟩) ?_
      rotate_left
      · (intro w hSw; (try dsimp only at hSw); go_simp; try with_reducible rfl)
      simp only [Act.put, List.setIfInBounds_toArray, List.set_cons_zero, List.set_cons_succ]
      refine take_at 4 (v := undef) rfl (by kernel_rfl) (by kernel_rfl) (by kernel_rfl) (fun _ _ _ h => h) hHeld (Or.inr ⟨by rfl, rfl⟩) ?_
      simp only [Act.put, List.setIfInBounds_toArray, List.set_cons_zero, List.set_cons_succ]
      refine take_at 5 (v := undef) rfl (by kernel_rfl) (by kernel_rfl) (by kernel_rfl) (fun _ _ _ h => h) hHeld (Or.inr ⟨by rfl, rfl⟩) ?_
      simp only [Act.put, List.setIfInBounds_toArray, List.set_cons_zero, List.set_cons_succ]
      refine take_at 6 (v := undef) rfl (by kernel_rfl) (by kernel_rfl) (by kernel_rfl) (fun _ _ _ h => h) hHeld (Or.inr ⟨by rfl, rfl⟩) ?_
      simp only [Act.put, List.setIfInBounds_toArray, List.set_cons_zero, List.set_cons_succ]
      refine take_at 7 (v := undef) rfl (by kernel_rfl) (by kernel_rfl) (by kernel_rfl) (fun _ _ _ h => h) hHeld (Or.inr ⟨by rfl, rfl⟩) ?_
      simp only [Act.put, List.setIfInBounds_toArray, List.set_cons_zero, List.set_cons_succ]
      refine take_at 8 (v := undef) rfl (by kernel_rfl) (by kernel_rfl) (by kernel_rfl) (fun _ _ _ h => h) hHeld (Or.inr ⟨by rfl, rfl⟩) ?_
      simp only [Act.put, List.setIfInBounds_toArray, List.set_cons_zero, List.set_cons_succ]
      refine take_at 9 (v := undef) rfl (by kernel_rfl) (by kernel_rfl) (by kernel_rfl) (fun _ _ _ h => h) hHeld (Or.inr ⟨by rfl, rfl⟩) ?_
      simp only [Act.put, List.setIfInBounds_toArray, List.set_cons_zero, List.set_cons_succ]
      refine take_at 10 (v := undef) rfl (by kernel_rfl) (by kernel_rfl) (by kernel_rfl) (fun _ _ _ h => h) hHeld (Or.inr ⟨by rfl, rfl⟩) ?_
      simp only [Act.put, List.setIfInBounds_toArray, List.set_cons_zero, List.set_cons_succ]
      refine take_at 11 (v := undef) rfl (by kernel_rfl) (by kernel_rfl) (by kernel_rfl) (fun _ _ _ h => h) hHeld (Or.inr ⟨by rfl, rfl⟩) ?_
      simp only [Act.put, List.setIfInBounds_toArray, List.set_cons_zero, List.set_cons_succ]
      refine take_at 12 (v := undef) rfl (by kernel_rfl) (by kernel_rfl) (by kernel_rfl) (fun _ _ _ h => h) hHeld (Or.inr ⟨by rfl, rfl⟩) ?_
      simp only [Act.put, List.setIfInBounds_toArray, List.set_cons_zero, List.set_cons_succ]
      refine take_at 13 (v := undef) rfl (by kernel_rfl) (by kernel_rfl) (by kernel_rfl) (fun _ _ _ h => h) hHeld (Or.inr ⟨by rfl, rfl⟩) ?_
      simp only [Act.put, List.setIfInBounds_toArray, List.set_cons_zero, List.set_cons_succ]
      refine take_at 14 (v := undef) rfl (by kernel_rfl) (by kernel_rfl) (by kernel_rfl) (fun _ _ _ h => h) hHeld (Or.inr ⟨by rfl, rfl⟩) ?_
      simp only [Act.put, List.setIfInBounds_toArray, List.set_cons_zero, List.set_cons_succ]
      refine take_at 15 (v := undef) rfl (by kernel_rfl) (by kernel_rfl) (by kernel_rfl) (fun _ _ _ h => h) hHeld (Or.inr ⟨by rfl, rfl⟩) ?_
      simp only [Act.put, List.setIfInBounds_toArray, List.set_cons_zero, List.set_cons_succ]
      refine take_at 16 (v := undef) rfl (by kernel_rfl) (by kernel_rfl) (by kernel_rfl) (fun _ _ _ h => h) hHeld (Or.inr ⟨by rfl, rfl⟩) ?_
      simp only [Act.put, List.setIfInBounds_toArray, List.set_cons_zero, List.set_cons_succ]
      refine take_at 17 (v := undef) rfl (by kernel_rfl) (by kernel_rfl) (by kernel_rfl) (fun _ _ _ h => h) hHeld (Or.inr ⟨by rfl, rfl⟩) ?_
      simp only [Act.put, List.setIfInBounds_toArray, List.set_cons_zero, List.set_cons_succ]
      refine take_at 18 (v := undef) rfl (by kernel_rfl) (by kernel_rfl) (by kernel_rfl) (fun _ _ _ h => h) hHeld (Or.inr ⟨by rfl, rfl⟩) ?_
      simp only [Act.put, List.setIfInBounds_toArray, List.set_cons_zero, List.set_cons_succ]
      refine take_at 19 (v := undef) rfl (by kernel_rfl) (by kernel_rfl) (by kernel_rfl) (fun _ _ _ h => h) hHeld (Or.inr ⟨by rfl, rfl⟩) ?_
      simp only [Act.put, List.setIfInBounds_toArray, List.set_cons_zero, List.set_cons_succ]
      refine take_at 20 (v := undef) rfl (by kernel_rfl) (by kernel_rfl) (by kernel_rfl) (fun _ _ _ h => h) hHeld (Or.inr ⟨by rfl, rfl⟩) ?_
      simp only [Act.put, List.setIfInBounds_toArray, List.set_cons_zero, List.set_cons_succ]
      refine take_at 21 (v := undef) rfl (by kernel_rfl) (by kernel_rfl) (by kernel_rfl) (fun _ _ _ h => h) hHeld (Or.inr ⟨by rfl, rfl⟩) ?_
      simp only [Act.put, List.setIfInBounds_toArray, List.set_cons_zero, List.set_cons_succ]
      refine take_at 22 (v := undef) rfl (by kernel_rfl) (by kernel_rfl) (by kernel_rfl) (fun _ _ _ h => h) hHeld (Or.inr ⟨by rfl, rfl⟩) ?_
      simp only [Act.put, List.setIfInBounds_toArray, List.set_cons_zero, List.set_cons_succ]
      refine take_at 23 (v := undef) rfl (by kernel_rfl) (by kernel_rfl) (by kernel_rfl) (fun _ _ _ h => h) hHeld (Or.inr ⟨by rfl, rfl⟩) ?_
      simp only [Act.put, List.setIfInBounds_toArray, List.set_cons_zero, List.set_cons_succ]
      refine take_at 24 (v := undef) rfl (by kernel_rfl) (by kernel_rfl) (by kernel_rfl) (fun _ _ _ h => h) hHeld (Or.inr ⟨by rfl, rfl⟩) ?_
      simp only [Act.put, List.setIfInBounds_toArray, List.set_cons_zero, List.set_cons_succ]
      refine take_at 25 (v := undef) rfl (by kernel_rfl) (by kernel_rfl) (by kernel_rfl) (fun _ _ _ h => h) hHeld (Or.inr ⟨by rfl, rfl⟩) ?_
      simp only [Act.put, List.setIfInBounds_toArray, List.set_cons_zero, List.set_cons_succ]
      refine take_at 26 (v := undef) rfl (by kernel_rfl) (by kernel_rfl) (by kernel_rfl) (fun _ _ _ h => h) hHeld (Or.inr ⟨by rfl, rfl⟩) ?_
      simp only [Act.put, List.setIfInBounds_toArray, List.set_cons_zero, List.set_cons_succ]
      refine take_at 27 (v := undef) rfl (by kernel_rfl) (by kernel_rfl) (by kernel_rfl) (fun _ _ _ h => h) hHeld (Or.inr ⟨by rfl, rfl⟩) ?_
      simp only [Act.put, List.setIfInBounds_toArray, List.set_cons_zero, List.set_cons_succ]
      refine take_at 28 (v := undef) rfl (by kernel_rfl) (by kernel_rfl) (by kernel_rfl) (fun _ _ _ h => h) hHeld (Or.inr ⟨by rfl, rfl⟩) ?_
      simp only [Act.put, List.setIfInBounds_toArray, List.set_cons_zero, List.set_cons_succ]
      refine take_at 29 (v := undef) rfl (by kernel_rfl) (by kernel_rfl) (by kernel_rfl) (fun _ _ _ h => h) hHeld (Or.inr ⟨by rfl, rfl⟩) ?_
      simp only [Act.put, List.setIfInBounds_toArray, List.set_cons_zero, List.set_cons_succ]
      refine take_at 30 (v := undef) rfl (by kernel_rfl) (by kernel_rfl) (by kernel_rfl) (fun _ _ _ h => h) hHeld (Or.inr ⟨by rfl, rfl⟩) ?_
      simp only [Act.put, List.setIfInBounds_toArray, List.set_cons_zero, List.set_cons_succ]
      refine take_at 31 (v := undef) rfl (by kernel_rfl) (by kernel_rfl) (by kernel_rfl) (fun _ _ _ h => h) hHeld (Or.inr ⟨by rfl, rfl⟩) ?_
      simp only [Act.put, List.setIfInBounds_toArray, List.set_cons_zero, List.set_cons_succ]
      refine take_at 32 (v := undef) rfl (by kernel_rfl) (by kernel_rfl) (by kernel_rfl) (fun _ _ _ h => h) hHeld (Or.inr ⟨by rfl, rfl⟩) ?_
      simp only [Act.put, List.setIfInBounds_toArray, List.set_cons_zero, List.set_cons_succ]
      refine take_at 33 (v := undef) rfl (by kernel_rfl) (by kernel_rfl) (by kernel_rfl) (fun _ _ _ h => h) hHeld (Or.inr ⟨by rfl, rfl⟩) ?_
      simp only [Act.put, List.setIfInBounds_toArray, List.set_cons_zero, List.set_cons_succ]
      refine take_at 34 (v := undef) rfl (by kernel_rfl) (by kernel_rfl) (by kernel_rfl) (fun _ _ _ h => h) hHeld (Or.inr ⟨by rfl, rfl⟩) ?_
      simp only [Act.put, List.setIfInBounds_toArray, List.set_cons_zero, List.set_cons_succ]
      refine take_at 35 (v := undef) rfl (by kernel_rfl) (by kernel_rfl) (by kernel_rfl) (fun _ _ _ h => h) hHeld (Or.inr ⟨by rfl, rfl⟩) ?_
      simp only [Act.put, List.setIfInBounds_toArray, List.set_cons_zero, List.set_cons_succ]
      refine take_at 36 (v := undef) rfl (by kernel_rfl) (by kernel_rfl) (by kernel_rfl) (fun _ _ _ h => h) hHeld (Or.inr ⟨by rfl, rfl⟩) ?_
      simp only [Act.put, List.setIfInBounds_toArray, List.set_cons_zero, List.set_cons_succ]
      refine take_at 37 (v := undef) rfl (by kernel_rfl) (by kernel_rfl) (by kernel_rfl) (fun _ _ _ h => h) hHeld (Or.inr ⟨by rfl, rfl⟩) ?_
      simp only [Act.put, List.setIfInBounds_toArray, List.set_cons_zero, List.set_cons_succ]
      refine take_at 38 (v := ?_) rfl (by kernel_rfl) (by kernel_rfl) (by kernel_rfl) (fun _ _ _ h => h) hHeld (Or.inl ⟨by rfl, ?_⟩) ?_
      rotate_left
      · (intro w hSw; (try dsimp only at hSw); go_simp; try with_reducible rfl)
      simp only [Act.put, List.setIfInBounds_toArray, List.set_cons_zero, List.set_cons_succ]
      refine take_at 39 (v := ?_) rfl (by kernel_rfl) (by kernel_rfl) (by kernel_rfl) (fun _ _ _ h => h) hHeld (Or.inl ⟨by rfl, ?_⟩) ?_
      rotate_left
      · (intro w hSw; (try dsimp only at hSw); go_simp; try with_reducible rfl)
      simp only [Act.put, List.setIfInBounds_toArray, List.set_cons_zero, List.set_cons_succ]
      refine wpAnyH_done (by kernel_rfl) ?_ _
      have HE : Hid (Below w.heap.size w w8.drew) := TAIL.out _ BR8.out
      clear hHeld
      go_wp2_with fail
      go_ret
      exact ⟨rfl, HE.out⟩
    | false =>
      obtain ⟨Q, hQ, rfl, hk1, ha1, hf1, hr1⟩ := HYf.out (by simpa using hyC)
      subst hk1 ha1
      have hlf : lfB yk ya YF = lfB yk ya fs := by rw [hf1]; exact forget_leaf hr1 Q hQ
      have hyl : Q < YF.length := by rw [hf1, List.length_set]; exact hQ
      have hag := fg_again hQ hr1
      rw [← hf1] at hag
      obtain ⟨yb, yo, hqy, -⟩ := (FY.out V (Below.refl _ _)) Q hyl
      subst hqy
      have HFc : Hid (∀ x, Below V.heap.size V x → x.cell? ⟨yb, yo + Q * 5 + 2, none⟩ = some (.string ByteArray.empty) ∧ x.cell? ⟨yb, yo + Q * 5 + 3, none⟩ = some (.string ByteArray.empty)) := fun x hx => by
        have h := (FY.out x hx).at Q hyl
        have e : YF[Q] = goneF fs[Q] := by subst hf1; simp
        rw [e] at h
        exact ⟨h.2.2.1, h.2.2.2.1⟩
      have QZ : Hid (∀ x, Below V.heap.size V x → Calls Tryd.prog 10 #[.agg #[.string yk, .int .i64 ya, .slice (some ⟨yb, yo, none⟩) YF.length cy], .int .i64 (Q : Int)] x fun e x1 => ∃ k9 a9 q9 n9 c9, e = .returned (.agg #[.string k9, .int .i64 a9, .slice q9 n9 c9, .int .i64 7]) ∧ Below V.heap.size V x1) := fun x hb => (implForget_any yk ya (some ⟨yb, yo, none⟩) cy YF (Q : Int) x (HTb.out x hb) (FY.out x hb) (by have := HYll.out; omega) hcy hkz HYle.out).mono (by
        rintro e x1 ⟨v9, rfl, o9, b⟩
        obtain ⟨q9, c9, rfl, -, -⟩ := ownF_form o9
        rw [hag]
        exact ⟨_, _, q9, _, c9, rfl, chainB hb b⟩)
      rw [hlf] at QY
      generalize lfB yk ya fs = LR at *
      have i1 : (Q : Int) < YF.length := by omega
      have i0 : (0 : Int) ≤ Q := by omega
      have e1 : ByteArray.empty.toList.isEmpty = true := by rw [ByteArray.toList_eq]; rfl
      have e2 : ByteArray.empty.toList = ([] : List UInt8) := by rw [ByteArray.toList_eq]; rfl
      have hfc := field_rcode
      have HXF : Hid (∀ x, Below V.heap.size V x → ((x.cell? ⟨Z8, 0, none⟩ = some (.string f.n) ∧ x.cell? ⟨Z8, 1, none⟩ = some (.string f.c) ∧ x.cell? ⟨Z8, 2, none⟩ = some (.string f.s) ∧ x.cell? ⟨Z8, 3, none⟩ = some (.string f.v) ∧ x.cell? ⟨Z8, 4, none⟩ = some (.bool f.g)) ∧ (x.cell? ⟨Z14, 0, none⟩ = some (.string xk) ∧ x.cell? ⟨Z14, 1, none⟩ = some (.int .i64 xa) ∧ x.cell? ⟨Z14, 2, none⟩ = some (.slice qx XF.length cx) ∧ x.cell? ⟨Z14, 3, none⟩ = some (.int .i64 xC)) ∧ (x.cell? ⟨Z15, 0, none⟩ = some (.string yk) ∧ x.cell? ⟨Z15, 1, none⟩ = some (.int .i64 ya) ∧ x.cell? ⟨Z15, 2, none⟩ = some (.slice qr fs.length cr)) ∧ (x.cell? ⟨Z17, 0, none⟩ = some (.string yk) ∧ x.cell? ⟨Z17, 1, none⟩ = some (.int .i64 ya) ∧ x.cell? ⟨Z17, 2, none⟩ = some (.slice (some ⟨yb, yo, none⟩) YF.length cy) ∧ x.cell? ⟨Z17, 3, none⟩ = some (.int .i64 yC)) ∧ (x.cell? ⟨Z18, 0, none⟩ = some (.string lk) ∧ x.cell? ⟨Z18, 1, none⟩ = some (.int .i64 la) ∧ x.cell? ⟨Z18, 2, none⟩ = some (.slice ql LF.length cl))) ∧ (x.cell? ⟨yb, yo + Q * 5 + 2, none⟩ = some (.string ByteArray.empty) ∧ x.cell? ⟨yb, yo + Q * 5 + 3, none⟩ = some (.string ByteArray.empty))) := fun x hx => ⟨HX.out x hx, HFc.out x hx⟩
      clear hlf hag hf1 hr1 HYf FY FR FX HXL HYr
      refine wp_region_held_drew (S := fun w' => ((w'.cell? ⟨Z8, 0, none⟩ = some (.string f.n) ∧ w'.cell? ⟨Z8, 1, none⟩ = some (.string f.c) ∧ w'.cell? ⟨Z8, 2, none⟩ = some (.string f.s) ∧ w'.cell? ⟨Z8, 3, none⟩ = some (.string f.v) ∧ w'.cell? ⟨Z8, 4, none⟩ = some (.bool f.g)) ∧ (w'.cell? ⟨Z14, 0, none⟩ = some (.string xk) ∧ w'.cell? ⟨Z14, 1, none⟩ = some (.int .i64 xa) ∧ w'.cell? ⟨Z14, 2, none⟩ = some (.slice qx XF.length cx) ∧ w'.cell? ⟨Z14, 3, none⟩ = some (.int .i64 xC)) ∧ (w'.cell? ⟨Z15, 0, none⟩ = some (.string yk) ∧ w'.cell? ⟨Z15, 1, none⟩ = some (.int .i64 ya) ∧ w'.cell? ⟨Z15, 2, none⟩ = some (.slice qr fs.length cr)) ∧ (w'.cell? ⟨Z17, 0, none⟩ = some (.string yk) ∧ w'.cell? ⟨Z17, 1, none⟩ = some (.int .i64 ya) ∧ w'.cell? ⟨Z17, 2, none⟩ = some (.slice (some ⟨yb, yo, none⟩) YF.length cy) ∧ w'.cell? ⟨Z17, 3, none⟩ = some (.int .i64 yC)) ∧ (w'.cell? ⟨Z18, 0, none⟩ = some (.string lk) ∧ w'.cell? ⟨Z18, 1, none⟩ = some (.int .i64 la) ∧ w'.cell? ⟨Z18, 2, none⟩ = some (.slice ql LF.length cl))) ∧ (w'.cell? ⟨yb, yo + Q * 5 + 2, none⟩ = some (.string ByteArray.empty) ∧ w'.cell? ⟨yb, yo + Q * 5 + 3, none⟩ = some (.string ByteArray.empty))) (by kernel_rfl) (HXF.out _ BR8.out) (fun hHeld => ?_)
      refine take_at 0 (v := ?_) rfl (by kernel_rfl) (by kernel_rfl) (by kernel_rfl) (fun _ _ _ h => h) hHeld (Or.inl ⟨by rfl, ?_⟩) ?_
      rotate_left
      · (intro w hSw; (try dsimp only at hSw); go_simp; try with_reducible rfl)
      simp only [Act.put, List.setIfInBounds_toArray, List.set_cons_zero, List.set_cons_succ]
      refine take_at 1 (v := ?_) rfl (by kernel_rfl) (by kernel_rfl) (by kernel_rfl) (fun _ _ _ h => h) hHeld (Or.inl ⟨by rfl, ?_⟩) ?_
      rotate_left
      · (intro w hSw; (try dsimp only at hSw); go_simp; try with_reducible rfl)
      simp only [Act.put, List.setIfInBounds_toArray, List.set_cons_zero, List.set_cons_succ]
      refine take_at 2 (v := ?_) rfl (by kernel_rfl) (by kernel_rfl) (by kernel_rfl) (fun _ _ _ h => h) hHeld (Or.inl ⟨by rfl, ?_⟩) ?_
      rotate_left
      · (intro w hSw; (try dsimp only at hSw); go_simp; try with_reducible rfl)
      simp only [Act.put, List.setIfInBounds_toArray, List.set_cons_zero, List.set_cons_succ]
      refine take_at 3 (v := ?_) rfl (by kernel_rfl) (by kernel_rfl) (by kernel_rfl) (fun _ _ _ h => h) hHeld (Or.inl ⟨by rfl, ?_⟩) ?_
      rotate_left
      · (intro w hSw; (try dsimp only at hSw); go_simp; try with_reducible rfl)
      simp only [Act.put, List.setIfInBounds_toArray, List.set_cons_zero, List.set_cons_succ]
      refine take_at 4 (v := ?_) rfl (by kernel_rfl) (by kernel_rfl) (by kernel_rfl) (fun _ _ _ h => h) hHeld (Or.inl ⟨by rfl, ?_⟩) ?_
      rotate_left
      · (intro w hSw; (try dsimp only at hSw); go_simp; try with_reducible rfl)
      simp only [Act.put, List.setIfInBounds_toArray, List.set_cons_zero, List.set_cons_succ]
      refine take_at 5 (v := ?_) rfl (by kernel_rfl) (by kernel_rfl) (by kernel_rfl) (fun _ _ _ h => h) hHeld (Or.inl ⟨by rfl, ?_⟩) ?_
      rotate_left
      · (intro w hSw; (try dsimp only at hSw); go_simp; try with_reducible rfl)
      simp only [Act.put, List.setIfInBounds_toArray, List.set_cons_zero, List.set_cons_succ]
      refine take_at 7 (v := ?_) rfl (by kernel_rfl) (by kernel_rfl) (by kernel_rfl) (fun _ _ _ h => h) hHeld (Or.inl ⟨by rfl, ?_⟩) ?_
      rotate_left
      · (intro w hSw; (try dsimp only at hSw); go_simp; try with_reducible rfl)
      simp only [Act.put, List.setIfInBounds_toArray, List.set_cons_zero, List.set_cons_succ]
      refine ready_at 6 rfl (by kernel_rfl) (fun K hK => ?_)
      go_simp
      (go_at_call 19; with_reducible refine (QY.out _ BR8.out).mono ?_; rintro e u1 ⟨rfl, t1⟩)
      refine hK.out _ _ (HXF.out _ t1) (fun hHeld => ?_)
      clear hK K
      try simp only [Act.put, List.setIfInBounds_toArray, List.set_cons_zero, List.set_cons_succ]
      refine ready_at 8 rfl (by kernel_rfl) (fun K hK => ?_)
      go_simp
      (go_at_call 19; with_reducible refine (QR.out _ t1).mono ?_; rintro e u2 ⟨rfl, t2⟩)
      refine hK.out _ _ (HXF.out _ t2) (fun hHeld => ?_)
      clear hK K
      try simp only [Act.put, List.setIfInBounds_toArray, List.set_cons_zero, List.set_cons_succ]
      refine take_at 9 (v := ?_) rfl (by kernel_rfl) (by kernel_rfl) (by kernel_rfl) (fun _ _ _ h => h) hHeld (Or.inl ⟨by rfl, ?_⟩) ?_
      rotate_left
      · (intro w hSw; (try dsimp only at hSw); go_simp; try with_reducible rfl)
      simp only [Act.put, List.setIfInBounds_toArray, List.set_cons_zero, List.set_cons_succ]
      refine take_at 10 (v := ?_) rfl (by kernel_rfl) (by kernel_rfl) (by kernel_rfl) (fun _ _ _ h => h) hHeld (Or.inl ⟨by rfl, ?_⟩) ?_
      rotate_left
      · (intro w hSw; (try dsimp only at hSw); go_simp; try with_reducible rfl)
      simp only [Act.put, List.setIfInBounds_toArray, List.set_cons_zero, List.set_cons_succ]
      refine take_at 11 (v := ?_) rfl (by kernel_rfl) (by kernel_rfl) (by kernel_rfl) (fun _ _ _ h => h) hHeld (Or.inl ⟨by rfl, ?_⟩) ?_
      rotate_left
      · (intro w hSw; (try dsimp only at hSw); go_simp; try with_reducible rfl)
      simp only [Act.put, List.setIfInBounds_toArray, List.set_cons_zero, List.set_cons_succ]
      refine take_at 12 (v := ?_) rfl (by kernel_rfl) (by kernel_rfl) (by kernel_rfl) (fun _ _ _ h => h) hHeld (Or.inl ⟨by rfl, ?_⟩) ?_
      rotate_left
      · (intro w hSw; (try dsimp only at hSw); go_simp; try with_reducible rfl)
      simp only [Act.put, List.setIfInBounds_toArray, List.set_cons_zero, List.set_cons_succ]
      refine take_at 13 (v := ?_) rfl (by kernel_rfl) (by kernel_rfl) (by kernel_rfl) (fun _ _ _ h => h) hHeld (Or.inl ⟨by rfl, ?_⟩) ?_
      rotate_left
      · (intro w hSw; (try dsimp only at hSw); go_simp; try with_reducible rfl)
      simp only [Act.put, List.setIfInBounds_toArray, List.set_cons_zero, List.set_cons_succ]
      refine ready_at 14 rfl (by kernel_rfl) (fun K hK => ?_)
      go_simp
      (go_at_call 10; with_reducible refine (QZ.out _ t2).mono ?_; rintro e u3 ⟨k9, a9, q9, n9, c9, rfl, t3⟩)
      refine hK.out _ _ (HXF.out _ t3) (fun hHeld => ?_)
      clear hK K
      try simp only [Act.put, List.setIfInBounds_toArray, List.set_cons_zero, List.set_cons_succ]
      refine take_at 15 (v := ?_) rfl (by kernel_rfl) (by kernel_rfl) (by kernel_rfl) (fun _ _ _ h => h) hHeld (Or.inl ⟨by rfl, ?_⟩) ?_
      rotate_left
      · (intro w hSw; (try dsimp only at hSw); go_simp; try with_reducible rfl)
      simp only [Act.put, List.setIfInBounds_toArray, List.set_cons_zero, List.set_cons_succ]
      refine take_at 16 (v := ?_) rfl (by kernel_rfl) (by kernel_rfl) (by kernel_rfl) (fun _ _ _ h => h) hHeld (Or.inl ⟨by rfl, ?_⟩) ?_
      rotate_left
      · (intro w hSw; (try dsimp only at hSw); go_simp; try with_reducible rfl)
      simp only [Act.put, List.setIfInBounds_toArray, List.set_cons_zero, List.set_cons_succ]
      refine take_at 17 (v := ?_) rfl (by kernel_rfl) (by kernel_rfl) (by kernel_rfl) (fun _ _ _ h => h) hHeld (Or.inl ⟨by rfl, ?_⟩) ?_
      rotate_left
      · (intro w hSw; (try dsimp only at hSw); go_simp; try with_reducible rfl)
      simp only [Act.put, List.setIfInBounds_toArray, List.set_cons_zero, List.set_cons_succ]
      refine take_at 18 (v := ?_) rfl (by kernel_rfl) (by kernel_rfl) (by kernel_rfl) (fun _ _ _ h => h) hHeld (Or.inl ⟨by rfl, ?_⟩) ?_
      rotate_left
      · (intro w hSw; (try dsimp only at hSw); go_simp; try with_reducible rfl)
      simp only [Act.put, List.setIfInBounds_toArray, List.set_cons_zero, List.set_cons_succ]
      refine take_at 19 (v := ?_) rfl (by kernel_rfl) (by kernel_rfl) (by kernel_rfl) (fun _ _ _ h => h) hHeld (Or.inl ⟨by rfl, ?_⟩) ?_
      rotate_left
      · (intro w hSw; (try dsimp only at hSw); go_simp; try with_reducible rfl)
      simp only [Act.put, List.setIfInBounds_toArray, List.set_cons_zero, List.set_cons_succ]
      refine take_at 20 (v := ?_) rfl (by kernel_rfl) (by kernel_rfl) (by kernel_rfl) (fun _ _ _ h => h) hHeld (Or.inl ⟨by rfl, ?_⟩) ?_
      rotate_left
      · (intro w hSw; (try dsimp only at hSw); go_simp; try with_reducible rfl)
      simp only [Act.put, List.setIfInBounds_toArray, List.set_cons_zero, List.set_cons_succ]
      refine take_at 21 (v := ?_) rfl (by kernel_rfl) (by kernel_rfl) (by kernel_rfl) (fun _ _ _ h => h) hHeld (Or.inl ⟨by rfl, ?_⟩) ?_
      rotate_left
      · (intro w hSw; (try dsimp only at hSw); go_simp; try with_reducible rfl)
      simp only [Act.put, List.setIfInBounds_toArray, List.set_cons_zero, List.set_cons_succ]
      refine take_at 22 (v := ?_) rfl (by kernel_rfl) (by kernel_rfl) (by kernel_rfl) (fun _ _ _ h => h) hHeld (Or.inl ⟨by rfl, ?_⟩) ?_
      rotate_left
      · (intro w hSw; (try dsimp only at hSw); go_simp; try with_reducible rfl)
      simp only [Act.put, List.setIfInBounds_toArray, List.set_cons_zero, List.set_cons_succ]
      refine take_at 23 (v := ?_) rfl (by kernel_rfl) (by kernel_rfl) (by kernel_rfl) (fun _ _ _ h => h) hHeld (Or.inl ⟨by rfl, ?_⟩) ?_
      rotate_left
      · (intro w hSw; (try dsimp only at hSw); go_simp; try with_reducible rfl)
      simp only [Act.put, List.setIfInBounds_toArray, List.set_cons_zero, List.set_cons_succ]
      refine take_at 24 (v := ?_) rfl (by kernel_rfl) (by kernel_rfl) (by kernel_rfl) (fun _ _ _ h => h) hHeld (Or.inl ⟨by rfl, ?_⟩) ?_
      rotate_left
      · (intro w hSw; (try dsimp only at hSw); go_simp; try with_reducible rfl)
      simp only [Act.put, List.setIfInBounds_toArray, List.set_cons_zero, List.set_cons_succ]
      refine take_at 25 (v := ?_) rfl (by kernel_rfl) (by kernel_rfl) (by kernel_rfl) (fun _ _ _ h => h) hHeld (Or.inl ⟨by rfl, ?_⟩) ?_
      rotate_left
      · (intro w hSw; (try dsimp only at hSw); go_simp; try with_reducible rfl)
      simp only [Act.put, List.setIfInBounds_toArray, List.set_cons_zero, List.set_cons_succ]
      refine take_at 26 (v := ?_) rfl (by kernel_rfl) (by kernel_rfl) (by kernel_rfl) (fun _ _ _ h => h) hHeld (Or.inl ⟨by rfl, ?_⟩) ?_
      rotate_left
      · (intro w hSw; (try dsimp only at hSw); go_simp; try with_reducible rfl)
      simp only [Act.put, List.setIfInBounds_toArray, List.set_cons_zero, List.set_cons_succ]
      refine take_at 27 (v := ?_) rfl (by kernel_rfl) (by kernel_rfl) (by kernel_rfl) (fun _ _ _ h => h) hHeld (Or.inl ⟨by rfl, ?_⟩) ?_
      rotate_left
      · (intro w hSw; (try dsimp only at hSw); go_simp; try with_reducible rfl)
      simp only [Act.put, List.setIfInBounds_toArray, List.set_cons_zero, List.set_cons_succ]
      refine take_at 28 (v := ?_) rfl (by kernel_rfl) (by kernel_rfl) (by kernel_rfl) (fun _ _ _ h => h) hHeld (Or.inl ⟨by rfl, ?_⟩) ?_
      rotate_left
      · (intro w hSw; (try dsimp only at hSw); go_simp; try with_reducible rfl)
      simp only [Act.put, List.setIfInBounds_toArray, List.set_cons_zero, List.set_cons_succ]
      refine take_at 29 (v := ?_) rfl (by kernel_rfl) (by kernel_rfl) (by kernel_rfl) (fun _ _ _ h => h) hHeld (Or.inl ⟨by rfl, ?_⟩) ?_
      rotate_left
      · (intro w hSw; (try dsimp only at hSw); go_simp; try with_reducible rfl)
      simp only [Act.put, List.setIfInBounds_toArray, List.set_cons_zero, List.set_cons_succ]
      refine take_at 30 (v := ?_) rfl (by kernel_rfl) (by kernel_rfl) (by kernel_rfl) (fun _ _ _ h => h) hHeld (Or.inl ⟨by rfl, ?_⟩) ?_
      rotate_left
      · (intro w hSw; (try dsimp only at hSw); go_simp; try with_reducible rfl)
      simp only [Act.put, List.setIfInBounds_toArray, List.set_cons_zero, List.set_cons_succ]
      refine take_at 31 (v := ?_) rfl (by kernel_rfl) (by kernel_rfl) (by kernel_rfl) (fun _ _ _ h => h) hHeld (Or.inl ⟨by rfl, ?_⟩) ?_
      rotate_left
      · (intro w hSw; (try dsimp only at hSw); go_simp; try with_reducible rfl)
      simp only [Act.put, List.setIfInBounds_toArray, List.set_cons_zero, List.set_cons_succ]
      refine take_at 32 (v := ?_) rfl (by kernel_rfl) (by kernel_rfl) (by kernel_rfl) (fun _ _ _ h => h) hHeld (Or.inl ⟨by rfl, ?_⟩) ?_
      rotate_left
      · (intro w hSw; (try dsimp only at hSw); go_simp; try with_reducible rfl)
      simp only [Act.put, List.setIfInBounds_toArray, List.set_cons_zero, List.set_cons_succ]
      refine take_at 33 (v := ?_) rfl (by kernel_rfl) (by kernel_rfl) (by kernel_rfl) (fun _ _ _ h => h) hHeld (Or.inl ⟨by rfl, ?_⟩) ?_
      rotate_left
      · (intro w hSw; (try dsimp only at hSw); go_simp; try with_reducible rfl)
      simp only [Act.put, List.setIfInBounds_toArray, List.set_cons_zero, List.set_cons_succ]
      refine take_at 34 (v := ?_) rfl (by kernel_rfl) (by kernel_rfl) (by kernel_rfl) (fun _ _ _ h => h) hHeld (Or.inl ⟨by rfl, ?_⟩) ?_
      rotate_left
      · (intro w hSw; (try dsimp only at hSw); go_simp; try with_reducible rfl)
      simp only [Act.put, List.setIfInBounds_toArray, List.set_cons_zero, List.set_cons_succ]
      refine take_at 35 (v := ?_) rfl (by kernel_rfl) (by kernel_rfl) (by kernel_rfl) (fun _ _ _ h => h) hHeld (Or.inl ⟨by rfl, ?_⟩) ?_
      rotate_left
      · (intro w hSw; (try dsimp only at hSw); go_simp; try with_reducible rfl)
      simp only [Act.put, List.setIfInBounds_toArray, List.set_cons_zero, List.set_cons_succ]
      refine take_at 36 (v := ?_) rfl (by kernel_rfl) (by kernel_rfl) (by kernel_rfl) (fun _ _ _ h => h) hHeld (Or.inl ⟨by rfl, ?_⟩) ?_
      rotate_left
      · (intro w hSw; (try dsimp only at hSw); go_simp; try with_reducible rfl)
      simp only [Act.put, List.setIfInBounds_toArray, List.set_cons_zero, List.set_cons_succ]
      refine take_at 37 (v := ?_) rfl (by kernel_rfl) (by kernel_rfl) (by kernel_rfl) (fun _ _ _ h => h) hHeld (Or.inl ⟨by rfl, ?_⟩) ?_
      rotate_left
      · (intro w hSw; (try dsimp only at hSw); go_simp; try with_reducible rfl)
      simp only [Act.put, List.setIfInBounds_toArray, List.set_cons_zero, List.set_cons_succ]
      refine take_at 38 (v := ?_) rfl (by kernel_rfl) (by kernel_rfl) (by kernel_rfl) (fun _ _ _ h => h) hHeld (Or.inl ⟨by rfl, ?_⟩) ?_
      rotate_left
      · (intro w hSw; (try dsimp only at hSw); go_simp; try with_reducible rfl)
      simp only [Act.put, List.setIfInBounds_toArray, List.set_cons_zero, List.set_cons_succ]
      refine take_at 39 (v := ?_) rfl (by kernel_rfl) (by kernel_rfl) (by kernel_rfl) (fun _ _ _ h => h) hHeld (Or.inl ⟨by rfl, ?_⟩) ?_
      rotate_left
      · (intro w hSw; (try dsimp only at hSw); go_simp; try with_reducible rfl)
      simp only [Act.put, List.setIfInBounds_toArray, List.set_cons_zero, List.set_cons_succ]
      refine wpAnyH_done (by kernel_rfl) ?_ _
      have HE : Hid (Below w.heap.size w u3) := TAIL.out _ t3
      clear hHeld
      go_wp2_with fail
      go_ret
      exact ⟨rfl, HE.out⟩
end Go.Proofs.YtnomkcbcjaagmabDoor
