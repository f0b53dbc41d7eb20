/-
  Parts of one proof, laid as one text: ImplPl, LfF; what each says stands at its head.
-/
import Derived.Test.YtepmoihgemhjcaaGreatDoorRows
import Derived.Test.YtepmoihgemhjcaaGreatDoorBytesDigMath
import Derived.Test.YtepmoihgemhjcaaGreatDoorTreeMathSlABxKSlBOwnS
import Derived.Test.YtepmoihgemhjcaaGreatDoorImplOnImplFkAsDAs2CodeOf
import Derived.Test.YtepmoihgemhjcaaGreatDoorTimeBPutMathPutNumJoinedPutTextFldMath
import Derived.Test.YtepmoihgemhjcaaGreatDoorGetValGetTxtNumMathFldRdNumFromTmbMathFldRiseLgMath
import Derived.Test.YtepmoihgemhjcaaGreatDoorOwnBPadIDigIDigAllTimeIImplFC
import Derived.Test.YtepmoihgemhjcaaGreatDoorLgAtKLgAnsLgRtShwKOneKFldBlkRwBlk
import Derived.Test.YtepmoihgemhjcaaGreatDoorImplLg
import Derived.Test.YtepmoihgemhjcaaGreatDoorPlaceIEq18ImplGn
import Derived.Test.YtepmoihgemhjcaaGreatDoorLogRICopiedImplClLaB
import Derived.Handy
import Derived.WalkSpells
import Derived.OwnWalk
import Derived.Deep.Cut
import Derived.Test.YtepmoihgemhjcaaGreatDoorLtMathLaMathLfMathTakesLStepAppBlNotTakes
import Derived.Test.YtepmoihgemhjcaaGreatDoorFldGSrcDrawsDrawKitAppSSomeDrawTreeScanMath
import Derived.Test.YtepmoihgemhjcaaGreatDoorRowOpsLgO
import Derived.Deep.RegionHeld3
/-
  PlaceOf, TombOf and StatusOf, as the program answers.
  Conditions: the cells hold the rows and leaves; the tables of the digest and errors.errorType are laid.
-/
namespace Go.Proofs.YtepmoihgemhjcaaGreatDoor
open Go.RowKit Go.Lib
set_option linter.unusedVariables false
set_option maxRecDepth 20000

set_option maxHeartbeats 2000000 in
theorem implPlaceOf_any (p : Option Addr) (lv : List ByteArray) (cp : Nat) (q : Option Addr) (rs : List Rw) (cq : Nat) (now : Int) (r : Int) (w : World) (hT : Tabs w) (hg : Laid w) (hA : LgAt p lv cp q rs cq w) :
    Calls Tryz.prog 19 #[.agg #[.slice q rs.length cq, .slice p lv.length cp, .int .i64 now], .int .i64 r] w fun e w' => e = .returned (.int .i64 (plO rs lv now r)) ∧ Below w.heap.size w w' := by
  obtain ⟨W1, hW1⟩ : ∃ W1, W1 = w.alloc (.cells #[.slice q rs.length cq, .slice p lv.length cp, .int .i64 now] 26) := ⟨_, rfl⟩
  have HW1 : Hid (W1 = w.alloc (.cells #[.slice q rs.length cq, .slice p lv.length cp, .int .i64 now] 26)) := hW1
  have B1 : Hid (Below w.heap.size w W1) := by rw [hW1]; exact (Below.refl _ _).alloc (Nat.le_refl _) _
  have hWk := workOn_any p lv cp q rs cq now W1
  have HR : Hid (∀ x, Below w.heap.size w x → Calls Tryz.prog 83 #[.agg #[.slice p lv.length cp, .slice q rs.length cq, .int .i64 now]] x fun e w' => e = .returned (.bool (lgB rs lv now)) ∧ Below x.heap.size x w') := fun x hb => right_any p lv cp q rs cq now x (hT.to hb) (hg.below hb) (hA.below hb)
  have HP : Hid (∀ x, Below w.heap.size w x → Calls Tryz.prog 84 #[.slice p lv.length cp, .int .i64 r] x fun e w' => e = .returned (.int .i64 (plB lv r)) ∧ Below x.heap.size x w') := fun x hb => placeOf_any p cp lv r x (hA.tx.below hb) hA.ln hA.lc hA.lz (hg.below hb)
  have HV : Hid (plO rs lv now r = if lgB rs lv now = true then plB lv r else -1) := rfl
  unfold lgC wkC at hWk
  clear hW1 hT hg hA
  generalize plB lv r = PV at *
  go_enter Tryz.func19, Tryz.ntmps19
  go_wp2_with fail
  rw [← HW1.out]
  refine hWk.mono ?_
  rintro e y ⟨rfl, by_⟩
  clear hWk
  obtain ⟨Y2, hY2⟩ : ∃ Y2, Y2 = y.alloc (.cells #[.slice p lv.length cp, .slice q rs.length cq, .int .i64 now] 85) := ⟨_, rfl⟩
  have HY2 : Hid (Y2 = y.alloc (.cells #[.slice p lv.length cp, .slice q rs.length cq, .int .i64 now] 85)) := hY2
  have KY : Hid (Bxs Y2 y.heap.size 85 #[.slice p lv.length cp, .slice q rs.length cq, .int .i64 now]) := by rw [hY2]; exact Bxs.new _ _ _
  have BY : Hid (Below w.heap.size w Y2) := by rw [hY2]; exact alB (chainB B1.out by_) _
  have hR := HR.out Y2 BY.out
  obtain ⟨x0, x1, x2⟩ := KY.out.three
  rw [HY2.out] at x0 x1 x2
  clear hY2 by_ HR
  cases hgg : lgB rs lv now with
  | false =>
    rw [hgg] at hR
    rw [hgg, if_neg Bool.false_ne_true] at HV
    go_wp2_with fail
    rw [← HY2.out]
    refine hR.mono ?_
    rintro e y3 ⟨rfl, b3⟩
    go_wp2_with fail
    go_ret
    exact ⟨by rw [HV.out]; rfl, chainB BY.out b3⟩
  | true =>
    rw [hgg] at hR
    rw [hgg, if_pos rfl] at HV
    go_wp2_with fail
    rw [← HY2.out]
    refine hR.mono ?_
    rintro e y3 ⟨rfl, b3⟩
    clear hR x0 x1 x2
    have x0 := (KY.out.below b3).cell 0
    have hP := HP.out y3 (chainB BY.out b3)
    go_wp2_with fail
    refine hP.mono ?_
    rintro e y4 ⟨rfl, b4⟩
    go_wp2_with fail
    go_ret
    exact ⟨by rw [HV.out]; rfl, chainB (chainB BY.out b3) b4⟩
set_option maxHeartbeats 2000000 in
theorem implTombOf_any (p : Option Addr) (lv : List ByteArray) (cp : Nat) (q : Option Addr) (rs : List Rw) (cq : Nat) (now : Int) (r : Int) (f : Int) (w : World) (hT : Tabs w) (hg : Laid w) (hA : LgAt p lv cp q rs cq w) :
    Calls Tryz.prog 21 #[.agg #[.slice q rs.length cq, .slice p lv.length cp, .int .i64 now], .int .i64 r, .int .i64 f] w fun e w' => e = .returned (.int .i64 (tbO rs lv now r f)) ∧ Below w.heap.size w w' := by
  obtain ⟨W1, hW1⟩ : ∃ W1, W1 = w.alloc (.cells #[.slice q rs.length cq, .slice p lv.length cp, .int .i64 now] 26) := ⟨_, rfl⟩
  have HW1 : Hid (W1 = w.alloc (.cells #[.slice q rs.length cq, .slice p lv.length cp, .int .i64 now] 26)) := hW1
  have B1 : Hid (Below w.heap.size w W1) := by rw [hW1]; exact (Below.refl _ _).alloc (Nat.le_refl _) _
  have hWk := workOn_any p lv cp q rs cq now W1
  have HR : Hid (∀ x, Below w.heap.size w x → Calls Tryz.prog 83 #[.agg #[.slice p lv.length cp, .slice q rs.length cq, .int .i64 now]] x fun e w' => e = .returned (.bool (lgB rs lv now)) ∧ Below x.heap.size x w') := fun x hb => right_any p lv cp q rs cq now x (hT.to hb) (hg.below hb) (hA.below hb)
  have HP : Hid (∀ x, Below w.heap.size w x → Calls Tryz.prog 86 #[.slice p lv.length cp, .int .i64 r, .int .i64 f] x fun e w' => e = .returned (.int .i64 (tbAt lv r f)) ∧ Below x.heap.size x w') := fun x hb => tombOf_any p cp lv r f x (hA.tx.below hb) hA.ln hA.lc hA.lz (hg.below hb)
  have HV : Hid (tbO rs lv now r f = if lgB rs lv now = true then tbAt lv r f else -1) := rfl
  unfold lgC wkC at hWk
  clear hW1 hT hg hA
  generalize tbAt lv r f = PV at *
  go_enter Tryz.func21, Tryz.ntmps21
  go_wp2_with fail
  rw [← HW1.out]
  refine hWk.mono ?_
  rintro e y ⟨rfl, by_⟩
  clear hWk
  obtain ⟨Y2, hY2⟩ : ∃ Y2, Y2 = y.alloc (.cells #[.slice p lv.length cp, .slice q rs.length cq, .int .i64 now] 85) := ⟨_, rfl⟩
  have HY2 : Hid (Y2 = y.alloc (.cells #[.slice p lv.length cp, .slice q rs.length cq, .int .i64 now] 85)) := hY2
  have KY : Hid (Bxs Y2 y.heap.size 85 #[.slice p lv.length cp, .slice q rs.length cq, .int .i64 now]) := by rw [hY2]; exact Bxs.new _ _ _
  have BY : Hid (Below w.heap.size w Y2) := by rw [hY2]; exact alB (chainB B1.out by_) _
  have hR := HR.out Y2 BY.out
  obtain ⟨x0, x1, x2⟩ := KY.out.three
  rw [HY2.out] at x0 x1 x2
  clear hY2 by_ HR
  cases hgg : lgB rs lv now with
  | false =>
    rw [hgg] at hR
    rw [hgg, if_neg Bool.false_ne_true] at HV
    go_wp2_with fail
    rw [← HY2.out]
    refine hR.mono ?_
    rintro e y3 ⟨rfl, b3⟩
    go_wp2_with fail
    go_ret
    exact ⟨by rw [HV.out]; rfl, chainB BY.out b3⟩
  | true =>
    rw [hgg] at hR
    rw [hgg, if_pos rfl] at HV
    go_wp2_with fail
    rw [← HY2.out]
    refine hR.mono ?_
    rintro e y3 ⟨rfl, b3⟩
    clear hR x0 x1 x2
    have x0 := (KY.out.below b3).cell 0
    have hP := HP.out y3 (chainB BY.out b3)
    go_wp2_with fail
    refine hP.mono ?_
    rintro e y4 ⟨rfl, b4⟩
    go_wp2_with fail
    go_ret
    exact ⟨by rw [HV.out]; rfl, chainB (chainB BY.out b3) b4⟩
theorem fc_row {rs : List Rw} {r f : Int} (h1 : 0 ≤ r ∧ r ≤ (rs.length : Int) - 1) (hr : rB (rs.getD r.toNat rwZ) = true) : fcC (rs.getD r.toNat rwZ).k (rs.getD r.toNat rwZ).a (rs.getD r.toNat rwZ).fs f 7 = fcO rs r f := by
  unfold fcC fcO fldOf
  unfold rB at hr
  rw [if_pos hr, if_pos h1]
  rfl
set_option maxHeartbeats 4000000 in
theorem goneCode_any (p : Option Addr) (lv : List ByteArray) (cp : Nat) (q : Option Addr) (rs : List Rw) (cq : Nat) (now r f : Int) (w : World) (hT : Tabs w) (hg : Laid w) (hA : LgAt p lv cp q rs cq w) :
    Calls Tryz.prog 66 #[.agg #[.slice p lv.length cp, .slice q rs.length cq, .int .i64 now], .int .i64 r, .int .i64 f] w fun e w' => e = .returned (.int .i64 (gcO rs lv now r f)) ∧ Below w.heap.size w w' := by
  obtain ⟨W1, hW1⟩ : ∃ W1, W1 = w.alloc (.cells #[.slice p lv.length cp, .slice q rs.length cq, .int .i64 now] 85) := ⟨_, rfl⟩
  have HW1 : Hid (W1 = w.alloc (.cells #[.slice p lv.length cp, .slice q rs.length cq, .int .i64 now] 85)) := hW1
  have B1 : Hid (Below w.heap.size w W1) := by rw [hW1]; exact (Below.refl _ _).alloc (Nat.le_refl _) _
  have K1 : Hid (Bxs W1 w.heap.size 85 #[.slice p lv.length cp, .slice q rs.length cq, .int .i64 now]) := by rw [hW1]; exact Bxs.new _ _ _
  have hR := right_any p lv cp q rs cq now W1 (hT.to B1.out) (hg.below B1.out) (hA.below B1.out)
  have HV : Hid (gcO rs lv now r f = if lgB rs lv now = true then fcO rs r f else 1) := rfl
  have HA : Hid (LgAt p lv cp q rs cq w) := hA
  have HT : Hid (Tabs w) := hT
  have hrn := hA.rn
  unfold wkC at hR
  obtain ⟨x0, x1, x2⟩ := K1.out.three
  rw [HW1.out] at x0 x1 x2
  clear hW1 hT hg hA
  cases hgg : lgB rs lv now with
  | false =>
    rw [hgg] at hR
    rw [hgg, if_neg Bool.false_ne_true] at HV
    rw [HV.out]
    go_enter Tryz.func66, Tryz.ntmps66
    go_wp2_with fail
    rw [← HW1.out]
    refine hR.mono ?_
    rintro e y ⟨rfl, by_⟩
    go_wp2_with fail
    go_ret
    exact ⟨rfl, chainB B1.out by_⟩
  | true =>
    rw [hgg] at hR
    rw [hgg, if_pos rfl] at HV
    obtain ⟨-, -, hrr⟩ := lg_right hgg
    by_cases h0 : r < 0
    · have d0 : decide (r < 0) = true := decide_eq_true h0
      have HE : Hid (fcO rs r f = 6) := by show _ = _; unfold fcO; rw [if_neg (by omega)]
      rw [HV.out, HE.out]
      clear hgg hrr h0
      go_enter Tryz.func66, Tryz.ntmps66
      go_wp2_with fail
      rw [← HW1.out]
      refine hR.mono ?_
      rintro e y ⟨rfl, by_⟩
      go_wp2_with fail
      go_ret
      exact ⟨rfl, chainB B1.out by_⟩
    · have d0 : decide (r < 0) = false := decide_eq_false h0
      by_cases h1 : (rs.length : Int) ≤ r
      · have d1 : decide ((rs.length : Int) ≤ r) = true := decide_eq_true h1
        have HE : Hid (fcO rs r f = 6) := by show _ = _; unfold fcO; rw [if_neg (by omega)]
        rw [HV.out, HE.out]
        clear hgg hrr h0 h1
        go_enter Tryz.func66, Tryz.ntmps66
        go_wp2_with fail
        rw [← HW1.out]
        refine hR.mono ?_
        rintro e y ⟨rfl, by_⟩
        clear x0 x1 x2
        have x1 := (K1.out.below by_).cell 1
        go_wp2_with fail
        go_ret
        exact ⟨rfl, chainB B1.out by_⟩
      · have d1 : decide ((rs.length : Int) ≤ r) = false := decide_eq_false h1
        obtain ⟨I, rfl⟩ : ∃ I : Nat, r = (I : Int) := ⟨r.toNat, by omega⟩
        have hI : I < rs.length := by omega
        have hrI : rs.getD I rwZ = rs[I] := by rw [List.getD_eq_getElem?_getD, List.getElem?_eq_getElem hI, Option.getD_some]
        have hE := fc_row (rs := rs) (r := (I : Int)) (f := f) (by omega) (by rw [Int.toNat_natCast, hrI]; exact hrr _ (List.getElem_mem hI))
        rw [Int.toNat_natCast, hrI] at hE
        rw [HV.out]
        have iI : (I : Int) < rs.length := by omega
        clear hgg h0 h1
        go_enter Tryz.func66, Tryz.ntmps66
        go_wp2_with fail
        rw [← HW1.out]
        refine hR.mono ?_
        rintro e y ⟨rfl, by_⟩
        clear x0 x1 x2 hR
        have x1 := (K1.out.below by_).cell 1
        have hB := chainB B1.out by_
        obtain ⟨b, off, rq, rc, rfl, hb0, c0, c1, c2, c3, c4⟩ := (HA.out.rw.below hB) I hI
        have hzz := HA.out.rz _ (List.getElem_mem hI)
        have hF := fieldCode_any rs[I].k rs[I].a rq rc rs[I].fs f 7 y (HT.out.to hB) c4 hzz.1 c3 hzz.2.1 hzz.2.2
        rw [hE] at hF
        clear hzz c3 c4 hE hrI hrr
        obtain ⟨FC, hFC⟩ : ∃ FC, FC = fcO rs (I : Int) f := ⟨_, rfl⟩
        rw [← hFC] at hF
        have HFC : Hid (FC = fcO rs (I : Int) f) := hFC
        clear hFC
        generalize rs[I].k = rk at *
        generalize rs[I].a = ra at *
        generalize rs[I].fs.length = fl at *
        go_wp2_with fail
        refine hF.mono ?_
        rintro e y4 ⟨rfl, b4⟩
        go_wp2_with fail
        go_ret
        exact ⟨by rw [← HFC.out]; rfl, chainB hB b4⟩
theorem gcO_cases (rs : List Rw) (lv : List ByteArray) (now r f : Int) : gcO rs lv now r f = 0 ∨ gcO rs lv now r f = 7 ∨ gcO rs lv now r f = 6 ∨ gcO rs lv now r f = 1 := by
  unfold gcO
  split
  · rcases fcO_cases rs r f with h | h | h
    · exact .inl h
    · exact .inr (.inl h)
    · exact .inr (.inr (.inl h))
  · exact .inr (.inr (.inr rfl))
set_option maxHeartbeats 2000000 in
theorem implStatusOf_any (p : Option Addr) (lv : List ByteArray) (cp : Nat) (q : Option Addr) (rs : List Rw) (cq : Nat) (now r f : Int) (w : World) (hT : Tabs w) (hg : Laid w) (hA : LgAt p lv cp q rs cq w) :
    Calls Tryz.prog 23 #[.agg #[.slice q rs.length cq, .slice p lv.length cp, .int .i64 now], .int .i64 r, .int .i64 f] w fun e w' => e = .returned (.int .i64 (stO rs lv now r f)) ∧ Below w.heap.size w w' := by
  obtain ⟨W1, hW1⟩ : ∃ W1, W1 = w.alloc (.cells #[.slice q rs.length cq, .slice p lv.length cp, .int .i64 now] 26) := ⟨_, rfl⟩
  have HW1 : Hid (W1 = w.alloc (.cells #[.slice q rs.length cq, .slice p lv.length cp, .int .i64 now] 26)) := hW1
  have B1 : Hid (Below w.heap.size w W1) := by rw [hW1]; exact (Below.refl _ _).alloc (Nat.le_refl _) _
  have hWk := workOn_any p lv cp q rs cq now W1
  have HG : Hid (∀ x, Below w.heap.size w x → Calls Tryz.prog 66 #[.agg #[.slice p lv.length cp, .slice q rs.length cq, .int .i64 now], .int .i64 r, .int .i64 f] x fun e w' => e = .returned (.int .i64 (gcO rs lv now r f)) ∧ Below x.heap.size x w') := fun x hb => goneCode_any p lv cp q rs cq now r f x (hT.to hb) (hg.below hb) (hA.below hb)
  rw [stO_gc]
  unfold lgC wkC at hWk
  clear hT hg hA hW1
  rcases gcO_cases rs lv now r f with h | h | h | h
  all_goals
    rw [h] at HG ⊢
    clear h
    go_enter Tryz.func23, Tryz.ntmps23
    go_wp2_with fail
    rw [← HW1.out]
    refine hWk.mono ?_
    rintro e y ⟨rfl, by_⟩
    have hG := HG.out y (chainB B1.out by_)
    clear hWk HG
    go_wp2_with fail
    refine hG.mono ?_
    rintro e y2 ⟨rfl, b2⟩
    clear hG
    go_wp2_with fail
    go_ret
    exact ⟨rfl, chainB (chainB B1.out by_) b2⟩
end Go.Proofs.YtepmoihgemhjcaaGreatDoor
/-
  The specification's l09Forget: a field of a log of its own is forgotten.
-/
namespace Go.Proofs.YtepmoihgemhjcaaGreatDoor
open Go.RowKit Go.Lib
set_option linter.unusedVariables false
set_option maxRecDepth 20000

theorem field_row (q1 : Option Addr) (k : ByteArray) (a : Int) (n c : Nat) (x : World) : (Instr.field 89 (.agg #[.string k, .int .i64 a, .slice q1 n c, .int .i64 0]) 0).run Tryz.prog x = .ok (.agg #[.string k, .int .i64 a, .slice q1 n c]) x := by first | rfl | kernel_rfl
set_option maxHeartbeats 8000000 in
theorem l09Forget_any (W : World) (E : Nat) (xs : List (Rw × Value)) (lv : List ByteArray) (now : Int) (g c : Nat) (z2 : Option Addr) (zd : Nat) (w : World) (h : LgC W E xs lv now (.slice (some ⟨g, 0, none⟩) xs.length c) (.slice z2 lv.length zd) w) (I J : Nat) (hI : I < xs.length) (y : Int) (X : Rw) (FS : List Fld) (TX : ByteArray) (hX : xs[I].1 = X) (hl : lv.length + 1 ≤ 1048576)
    (hFg : ∀ x q c, Below W.heap.size W x → FldAt x q X.fs → X.fs.length ≤ c → Calls Tryz.prog 120 #[.agg #[.string X.k, .int .i64 X.a, .slice q X.fs.length c], .int .i64 J] x fun e w' => ∃ q' c', e = .returned (.agg #[.string X.k, .int .i64 X.a, .slice q' FS.length c', .int .i64 0]) ∧ w'.ownsRow x.heap.size 103 5 (.slice q' FS.length c') FS.length (fldRow FS) ∧ Below x.heap.size x w') (hTx : ∀ x, Calls Tryz.prog 139 #[.agg #[.int .i64 I, .int .i64 J, .int .i64 y, .int .i64 now]] x fun e w' => e = .returned (.string TX) ∧ Below x.heap.size x w') :
    Calls Tryz.prog 80 #[.pointer (some ⟨E, 0, none⟩), .int .i64 I, .int .i64 J, .int .i64 y] w fun e w' => e = .returned (.tuple #[]) ∧ ∃ q1 c1 z3 d3, LgC W E (xs.set I (⟨X.k, X.a, FS⟩, .slice q1 FS.length c1)) (lv ++ [TX]) now (.slice (some ⟨g, 0, none⟩) xs.length c) (.slice z3 (lv.length + 1) d3) w' := by
  obtain ⟨q0, c0, hv, hc0⟩ := h.rowv I hI
  rw [hX] at hv hc0
  have HC : Hid (LgC W E xs lv now (.slice (some ⟨g, 0, none⟩) xs.length c) (.slice z2 lv.length zd) w) := h
  have HFg : Hid (∀ x q c, Below W.heap.size W x → FldAt x q X.fs → X.fs.length ≤ c → Calls Tryz.prog 120 #[.agg #[.string X.k, .int .i64 X.a, .slice q X.fs.length c], .int .i64 J] x fun e w' => ∃ q' c', e = .returned (.agg #[.string X.k, .int .i64 X.a, .slice q' FS.length c', .int .i64 0]) ∧ w'.ownsRow x.heap.size 103 5 (.slice q' FS.length c') FS.length (fldRow FS) ∧ Below x.heap.size x w') := hFg
  have HTx : Hid (∀ x, Calls Tryz.prog 139 #[.agg #[.int .i64 I, .int .i64 J, .int .i64 y, .int .i64 now]] x fun e w' => e = .returned (.string TX) ∧ Below x.heap.size x w') := hTx
  have Hlv : Hid (lv.length + 1 ≤ 1048576) := hl
  clear h hFg hTx hl
  have i1 : (I : Int) < xs.length := by omega
  go_enter Tryz.func80, Tryz.ntmps80
  go_upto_region 0 with fail
  have HCd := HC.out.below (Below.refl _ _).drew
  have hFg := HFg.out w.drew q0 c0 HCd.bel (HCd.row I hI hX hv).2.2.2.2 hc0
  refine region_till (fun w' => w'.cell? ⟨E, 0, none⟩ = some (.slice (some ⟨g, 0, none⟩) xs.length c) ∧ w'.cell? ⟨g, I * 3, none⟩ = some (.string X.k) ∧ w'.cell? ⟨g, I * 3 + 1, none⟩ = some (.int .i64 X.a) ∧ w'.cell? ⟨g, I * 3 + 2, none⟩ = some (.slice q0 X.fs.length c0)) 16 (by kernel_rfl) ⟨HCd.cells.1, (HCd.row I hI hX hv).1⟩ (fun hHeld => ?_)
  generalize w.drew = y0 at *
  refine till_take 0 (v := ?_) rfl (by kernel_rfl) (by kernel_rfl) (by kernel_rfl) (by kernel_rfl) (fun _ _ _ h => h) hHeld (Or.inl ⟨by rfl, ?_⟩) ?_
  rotate_left
  · (intro w hSw; (try dsimp only at hSw); go_simp; try with_reducible rfl)
  simp only [Act.put, List.setIfInBounds_toArray, List.set_cons_zero, List.set_cons_succ]
  refine till_take 1 (v := ?_) rfl (by kernel_rfl) (by kernel_rfl) (by kernel_rfl) (by kernel_rfl) (fun _ _ _ h => h) hHeld (Or.inl ⟨by rfl, ?_⟩) ?_
  rotate_left
  · (intro w hSw; (try dsimp only at hSw); go_simp; try with_reducible rfl)
  simp only [Act.put, List.setIfInBounds_toArray, List.set_cons_zero, List.set_cons_succ]
  refine till_take 2 (v := ?_) rfl (by kernel_rfl) (by kernel_rfl) (by kernel_rfl) (by kernel_rfl) (fun _ _ _ h => h) hHeld (Or.inl ⟨by rfl, ?_⟩) ?_
  rotate_left
  · (intro w hSw; (try dsimp only at hSw); go_simp; try with_reducible rfl)
  simp only [Act.put, List.setIfInBounds_toArray, List.set_cons_zero, List.set_cons_succ]
  refine till_take 3 (v := ?_) rfl (by kernel_rfl) (by kernel_rfl) (by kernel_rfl) (by kernel_rfl) (fun _ _ _ h => h) hHeld (Or.inl ⟨by rfl, ?_⟩) ?_
  rotate_left
  · (intro w hSw; (try dsimp only at hSw); go_simp; try with_reducible rfl)
  simp only [Act.put, List.setIfInBounds_toArray, List.set_cons_zero, List.set_cons_succ]
  refine till_take 4 (v := ?_) rfl (by kernel_rfl) (by kernel_rfl) (by kernel_rfl) (by kernel_rfl) (fun _ _ _ h => h) hHeld (Or.inl ⟨by rfl, ?_⟩) ?_
  rotate_left
  · (intro w hSw; (try dsimp only at hSw); go_simp; try with_reducible rfl)
  simp only [Act.put, List.setIfInBounds_toArray, List.set_cons_zero, List.set_cons_succ]
  refine till_take 5 (v := ?_) rfl (by kernel_rfl) (by kernel_rfl) (by kernel_rfl) (by kernel_rfl) (fun _ _ _ h => h) hHeld (Or.inl ⟨by rfl, ?_⟩) ?_
  rotate_left
  · (intro w hSw; (try dsimp only at hSw); go_simp; try with_reducible rfl)
  simp only [Act.put, List.setIfInBounds_toArray, List.set_cons_zero, List.set_cons_succ]
  refine till_take 6 (v := ?_) rfl (by kernel_rfl) (by kernel_rfl) (by kernel_rfl) (by kernel_rfl) (fun _ _ _ h => h) hHeld (Or.inl ⟨by rfl, ?_⟩) ?_
  rotate_left
  · (intro w hSw; (try dsimp only at hSw); go_simp; try with_reducible rfl)
  simp only [Act.put, List.setIfInBounds_toArray, List.set_cons_zero, List.set_cons_succ]
  refine till_take 7 (v := ?_) rfl (by kernel_rfl) (by kernel_rfl) (by kernel_rfl) (by kernel_rfl) (fun _ _ _ h => h) hHeld (Or.inl ⟨by rfl, ?_⟩) ?_
  rotate_left
  · (intro w hSw; (try dsimp only at hSw); go_simp; try with_reducible rfl)
  simp only [Act.put, List.setIfInBounds_toArray, List.set_cons_zero, List.set_cons_succ]
  refine till_take 8 (v := ?_) rfl (by kernel_rfl) (by kernel_rfl) (by kernel_rfl) (by kernel_rfl) (fun _ _ _ h => h) hHeld (Or.inl ⟨by rfl, ?_⟩) ?_
  rotate_left
  · (intro w hSw; (try dsimp only at hSw); go_simp; try with_reducible rfl)
  simp only [Act.put, List.setIfInBounds_toArray, List.set_cons_zero, List.set_cons_succ]
  refine till_take 9 (v := ?_) rfl (by kernel_rfl) (by kernel_rfl) (by kernel_rfl) (by kernel_rfl) (fun _ _ _ h => h) hHeld (Or.inl ⟨by rfl, ?_⟩) ?_
  rotate_left
  · (intro w hSw; (try dsimp only at hSw); go_simp; try with_reducible rfl)
  simp only [Act.put, List.setIfInBounds_toArray, List.set_cons_zero, List.set_cons_succ]
  refine till_take 10 (v := ?_) rfl (by kernel_rfl) (by kernel_rfl) (by kernel_rfl) (by kernel_rfl) (fun _ _ _ h => h) hHeld (Or.inl ⟨by rfl, ?_⟩) ?_
  rotate_left
  · (intro w hSw; (try dsimp only at hSw); go_simp; try with_reducible rfl)
  simp only [Act.put, List.setIfInBounds_toArray, List.set_cons_zero, List.set_cons_succ]
  refine till_take 11 (v := ?_) rfl (by kernel_rfl) (by kernel_rfl) (by kernel_rfl) (by kernel_rfl) (fun _ _ _ h => h) hHeld (Or.inl ⟨by rfl, ?_⟩) ?_
  rotate_left
  · (intro w hSw; (try dsimp only at hSw); go_simp; try with_reducible rfl)
  simp only [Act.put, List.setIfInBounds_toArray, List.set_cons_zero, List.set_cons_succ]
  refine till_take 12 (v := ?_) rfl (by kernel_rfl) (by kernel_rfl) (by kernel_rfl) (by kernel_rfl) (fun _ _ _ h => h) hHeld (Or.inl ⟨by rfl, ?_⟩) ?_
  rotate_left
  · (intro w hSw; (try dsimp only at hSw); go_simp; try with_reducible rfl)
  simp only [Act.put, List.setIfInBounds_toArray, List.set_cons_zero, List.set_cons_succ]
  refine till_ready 13 rfl (by kernel_rfl) (fun K hK => ?_)
  go_simp
  (go_at_call 120; refine hFg.mono ?_; rintro e y1 ⟨q1, c1, rfl, own1, zz1⟩)
  have HC1 := HCd.below zz1
  refine hK.out _ _ ⟨HC1.cells.1, (HC1.row I hI hX hv).1⟩ (fun hHeld => ?_)
  clear hK K
  try simp only [Act.put, List.setIfInBounds_toArray, List.set_cons_zero, List.set_cons_succ]
  have fdR := field_row q1 X.k X.a FS.length c1
  refine till_take 14 (v := ?_) rfl (by kernel_rfl) (by kernel_rfl) (by kernel_rfl) (by kernel_rfl) (fun _ _ _ h => h) hHeld (Or.inl ⟨by rfl, ?_⟩) ?_
  rotate_left
  · (intro w hSw; (try dsimp only at hSw); have fdw := fdR w; go_simp; try with_reducible rfl)
  simp only [Act.put, List.setIfInBounds_toArray, List.set_cons_zero, List.set_cons_succ]
  refine till_take 15 (v := ?_) rfl (by kernel_rfl) (by kernel_rfl) (by kernel_rfl) (by kernel_rfl) (fun _ _ _ h => h) hHeld (Or.inl ⟨by rfl, ?_⟩) ?_
  rotate_left
  · (intro w hSw; (try dsimp only at hSw); go_simp; try with_reducible rfl)
  simp only [Act.put, List.setIfInBounds_toArray, List.set_cons_zero, List.set_cons_succ]
  obtain ⟨-, fz0, fz1, fz2, -⟩ := HC1.row I hI hX hv
  obtain ⟨cz, cz0, cz1, cz2⟩ := hHeld
  refine till_last rfl (by kernel_rfl) (by kernel_rfl) (fun K hK => ?_)
  go_simp
  refine hK.out _ _ ?_
  clear hK K cz cz0 cz1 cz2 fz0 fz1 fz2
  have HC6 : Hid (LgC W E (xs.set I (⟨X.k, X.a, FS⟩, .slice q1 FS.length c1)) lv now (.slice (some ⟨g, 0, none⟩) xs.length c) (.slice z2 lv.length zd) (((y1.setCell ⟨g, I * 3, none⟩ (.string X.k)).setCell ⟨g, I * 3 + 1, none⟩ (.int .i64 X.a)).setCell ⟨g, I * 3 + 2, none⟩ (.slice q1 FS.length c1))) := HCd.setRow zz1 I hI ⟨X.k, X.a, FS⟩ q1 c1 own1
  clear own1 zz1 HC1 HCd hFg fdR
  go_upto_region 1 with fail
  generalize ((y1.setCell ⟨g, I * 3, none⟩ (.string X.k)).setCell ⟨g, I * 3 + 1, none⟩ (.int .i64 X.a)).setCell ⟨g, I * 3 + 2, none⟩ (.slice q1 FS.length c1) = y6 at *
  have HCd := HC6.out.below (Below.refl _ _).drew
  have hTx := HTx.out y6.drew
  refine region_till (fun w' => w'.cell? ⟨E, 1, none⟩ = some (.slice z2 lv.length zd) ∧ w'.cell? ⟨E, 2, none⟩ = some (.int .i64 now)) 18 (by kernel_rfl) ⟨HCd.cells.2.1, HCd.cells.2.2.1⟩ (fun hHeld => ?_)
  generalize y6.drew = y7 at *
  refine till_take 0 (v := ?_) rfl (by kernel_rfl) (by kernel_rfl) (by kernel_rfl) (by kernel_rfl) (fun _ _ _ h => h) hHeld (Or.inl ⟨by rfl, ?_⟩) ?_
  rotate_left
  · (intro w hSw; (try dsimp only at hSw); go_simp; try with_reducible rfl)
  simp only [Act.put, List.setIfInBounds_toArray, List.set_cons_zero, List.set_cons_succ]
  refine till_take 1 (v := ?_) rfl (by kernel_rfl) (by kernel_rfl) (by kernel_rfl) (by kernel_rfl) (fun _ _ _ h => h) hHeld (Or.inl ⟨by rfl, ?_⟩) ?_
  rotate_left
  · (intro w hSw; (try dsimp only at hSw); go_simp; try with_reducible rfl)
  simp only [Act.put, List.setIfInBounds_toArray, List.set_cons_zero, List.set_cons_succ]
  refine till_take 2 (v := ?_) rfl (by kernel_rfl) (by kernel_rfl) (by kernel_rfl) (by kernel_rfl) (fun _ _ _ h => h) hHeld (Or.inl ⟨by rfl, ?_⟩) ?_
  rotate_left
  · (intro w hSw; (try dsimp only at hSw); go_simp; try with_reducible rfl)
  simp only [Act.put, List.setIfInBounds_toArray, List.set_cons_zero, List.set_cons_succ]
  refine till_take 3 (v := ?_) rfl (by kernel_rfl) (by kernel_rfl) (by kernel_rfl) (by kernel_rfl) (fun _ _ _ h => h) hHeld (Or.inl ⟨by rfl, ?_⟩) ?_
  rotate_left
  · (intro w hSw; (try dsimp only at hSw); go_simp; try with_reducible rfl)
  simp only [Act.put, List.setIfInBounds_toArray, List.set_cons_zero, List.set_cons_succ]
  refine till_take 4 (v := ?_) rfl (by kernel_rfl) (by kernel_rfl) (by kernel_rfl) (by kernel_rfl) (fun _ _ _ h => h) hHeld (Or.inl ⟨by rfl, ?_⟩) ?_
  rotate_left
  · (intro w hSw; (try dsimp only at hSw); go_simp; try with_reducible rfl)
  simp only [Act.put, List.setIfInBounds_toArray, List.set_cons_zero, List.set_cons_succ]
  refine till_take 5 (v := ?_) rfl (by kernel_rfl) (by kernel_rfl) (by kernel_rfl) (by kernel_rfl) (fun _ _ _ h => h) hHeld (Or.inl ⟨by rfl, ?_⟩) ?_
  rotate_left
  · (intro w hSw; (try dsimp only at hSw); go_simp; try with_reducible rfl)
  simp only [Act.put, List.setIfInBounds_toArray, List.set_cons_zero, List.set_cons_succ]
  refine till_take 6 (v := ?_) rfl (by kernel_rfl) (by kernel_rfl) (by kernel_rfl) (by kernel_rfl) (fun _ _ _ h => h) hHeld (Or.inl ⟨by rfl, ?_⟩) ?_
  rotate_left
  · (intro w hSw; (try dsimp only at hSw); go_simp; try with_reducible rfl)
  simp only [Act.put, List.setIfInBounds_toArray, List.set_cons_zero, List.set_cons_succ]
  refine till_take 7 (v := ?_) rfl (by kernel_rfl) (by kernel_rfl) (by kernel_rfl) (by kernel_rfl) (fun _ _ _ h => h) hHeld (Or.inl ⟨by rfl, ?_⟩) ?_
  rotate_left
  · (intro w hSw; (try dsimp only at hSw); go_simp; try with_reducible rfl)
  simp only [Act.put, List.setIfInBounds_toArray, List.set_cons_zero, List.set_cons_succ]
  refine till_take 8 (v := ?_) rfl (by kernel_rfl) (by kernel_rfl) (by kernel_rfl) (by kernel_rfl) (fun _ _ _ h => h) hHeld (Or.inl ⟨by rfl, ?_⟩) ?_
  rotate_left
  · (intro w hSw; (try dsimp only at hSw); go_simp; try with_reducible rfl)
  simp only [Act.put, List.setIfInBounds_toArray, List.set_cons_zero, List.set_cons_succ]
  refine till_take 9 (v := ?_) rfl (by kernel_rfl) (by kernel_rfl) (by kernel_rfl) (by kernel_rfl) (fun _ _ _ h => h) hHeld (Or.inl ⟨by rfl, ?_⟩) ?_
  rotate_left
  · (intro w hSw; (try dsimp only at hSw); go_simp; try with_reducible rfl)
  simp only [Act.put, List.setIfInBounds_toArray, List.set_cons_zero, List.set_cons_succ]
  refine till_take 10 (v := ?_) rfl (by kernel_rfl) (by kernel_rfl) (by kernel_rfl) (by kernel_rfl) (fun _ _ _ h => h) hHeld (Or.inl ⟨by rfl, ?_⟩) ?_
  rotate_left
  · (intro w hSw; (try dsimp only at hSw); go_simp; try with_reducible rfl)
  simp only [Act.put, List.setIfInBounds_toArray, List.set_cons_zero, List.set_cons_succ]
  refine till_take 11 (v := ?_) rfl (by kernel_rfl) (by kernel_rfl) (by kernel_rfl) (by kernel_rfl) (fun _ _ _ h => h) hHeld (Or.inl ⟨by rfl, ?_⟩) ?_
  rotate_left
  · (intro w hSw; (try dsimp only at hSw); go_simp; try with_reducible rfl)
  simp only [Act.put, List.setIfInBounds_toArray, List.set_cons_zero, List.set_cons_succ]
  refine till_take 12 (v := ?_) rfl (by kernel_rfl) (by kernel_rfl) (by kernel_rfl) (by kernel_rfl) (fun _ _ _ h => h) hHeld (Or.inl ⟨by rfl, ?_⟩) ?_
  rotate_left
  · (intro w hSw; (try dsimp only at hSw); go_simp; try with_reducible rfl)
  simp only [Act.put, List.setIfInBounds_toArray, List.set_cons_zero, List.set_cons_succ]
  refine till_ready 13 rfl (by kernel_rfl) (fun K hK => ?_)
  go_simp
  (go_at_call 139; refine hTx.mono ?_; rintro e y8 ⟨rfl, zz1⟩)
  have HC1 := HCd.below zz1
  refine hK.out _ _ ⟨HC1.cells.2.1, HC1.cells.2.2.1⟩ (fun hHeld => ?_)
  clear hK K
  try simp only [Act.put, List.setIfInBounds_toArray, List.set_cons_zero, List.set_cons_succ]
  obtain ⟨gq, d3, y9, hrun, HC2, bl2, k20, k21, gr2⟩ := HC1.leaf TX Hlv.out
  have HCa := HC1.below (alB (Below.refl _ _) (.cells #[.string TX] 9))
  refine till_ready 14 rfl (by kernel_rfl) (fun K hK => ?_)
  go_simp
  refine hK.out _ _ ⟨HCa.cells.2.1, HCa.cells.2.2.1⟩ (fun hHeld => ?_)
  clear hK K
  try simp only [Act.put, List.setIfInBounds_toArray, List.set_cons_zero, List.set_cons_succ]
  refine till_ready 15 rfl (by kernel_rfl) (fun K hK => ?_)
  refine step_append_run rfl _ _ 24 rfl (.slice z2 lv.length zd) (.slice (some ⟨y8.heap.size, 0, none⟩) 1 1) _ _ rfl rfl hrun ?_
  have kE2 := (HCa.box.grown gr2 (fun e => own_box HCa.lg.lvs HCa.box (by decide) e.symm)).cell 2
  refine hK.out _ _ ⟨k20, kE2⟩ (fun hHeld => ?_)
  clear hK K
  try simp only [Act.put, List.setIfInBounds_toArray, List.set_cons_zero, List.set_cons_succ]
  refine till_ready 16 rfl (by kernel_rfl) (fun K hK => ?_)
  go_simp
  refine hK.out _ _ ⟨k20, kE2⟩ (fun hHeld => ?_)
  clear hK K
  try simp only [Act.put, List.setIfInBounds_toArray, List.set_cons_zero, List.set_cons_succ]
  refine till_take 17 (v := ?_) rfl (by kernel_rfl) (by kernel_rfl) (by kernel_rfl) (by kernel_rfl) (fun _ _ _ h => h) hHeld (Or.inl ⟨by rfl, ?_⟩) ?_
  rotate_left
  · (intro w hSw; (try dsimp only at hSw); go_simp; try with_reducible rfl)
  simp only [Act.put, List.setIfInBounds_toArray, List.set_cons_zero, List.set_cons_succ]
  refine till_last rfl (by kernel_rfl) (by kernel_rfl) (fun K hK => ?_)
  go_simp
  refine hK.out _ _ ?_
  clear hK K hHeld
  have HC8 : Hid (LgC W E (xs.set I (⟨X.k, X.a, FS⟩, .slice q1 FS.length c1)) (lv ++ [TX]) now (.slice (some ⟨g, 0, none⟩) xs.length c) (.slice (some ⟨gq, 0, none⟩) (lv.length + 1) d3) (y9.setCell ⟨E, 1, none⟩ (.slice (some ⟨gq, 0, none⟩) (lv.length + 1) d3))) := HC2
  clear HC2 hrun k20 k21 bl2 zz1 HC1 HCd HCa gr2 HC6
  go_wp2_with fail
  go_end0
  exact ⟨rfl, q1, c1, _, d3, HC8.out⟩
end Go.Proofs.YtepmoihgemhjcaaGreatDoor
