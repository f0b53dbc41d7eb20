/-
  Parts of one proof, laid as one text: LawSw, LfMath, LaMath, LfSum, PolMath, PolIdx, RulIdx, PolO; what each says stands at its head.
-/
import Derived.Test.YtokkeadbkeehgaaGreatDoorRows
import Derived.Test.YtokkeadbkeehgaaGreatDoorLawLqLgAnsLgRtLtMathLawLtLawFXLawLa
import Derived.Test.YtokkeadbkeehgaaGreatDoorBytesDigMathTreeMathSlASlBBxKOwnSTakesLTillTwo
import Derived.Test.YtokkeadbkeehgaaGreatDoorRulBlkLawRlLawPoLawSLawM
import Derived.Test.YtokkeadbkeehgaaGreatDoorLawLzLawMGLawFMLawLm
import Derived.Test.YtokkeadbkeehgaaGreatDoorTimeBPutMathPutNumJoinedPutTextFldMathFldRiseScanMath
import Derived.Test.YtokkeadbkeehgaaGreatDoorGetValGetTxtNumMathFldRdNumFromTmbMathLgMath
import Derived.Test.YtokkeadbkeehgaaGreatDoorLgAtKShwKOneKFldGFldBlkRwBlkIntKLawILawOGLawImBlNotRulMathAppS
import Derived.Test.YtokkeadbkeehgaaGreatDoorLawLgLawLh
import Derived.Test.YtokkeadbkeehgaaGreatDoorLawLkRowOpsLgOLawLo
import Derived.Handy
import Derived.WalkSpells
import Derived.OwnWalk
import Derived.Deep.Cut
/-
  The laws' helpers for a SweepOut of its own memory: eq, mark, held.
-/
namespace Go.Proofs.YtokkeadbkeehgaaGreatDoor
open Go.RowKit Go.Lib
set_option linter.unusedVariables false
set_option maxRecDepth 20000

set_option maxHeartbeats 2000000 in
theorem markSweepOutO_any (base : Nat) (xs : List (Rw × Value)) (lv : List ByteArray) (v1 v2 : Value) (now N C : Int) (w : World) (h : LgO base xs lv v1 v2 w) (hn : xs.length ≤ 1048576) (hb : mkT xs + lv.length ≤ 16777210) :
    Calls Tryz.prog 22 #[.agg #[v1, v2, .int .i64 now, .int .i64 N, .int .i64 C], .int .i64 1] w fun e w' => e = .returned (.int .i64 ((mkT xs + lv.length : Nat) : Int)) ∧ LgM base xs lv.length v1 v2 w' ∧ But (lqS xs v1 v2) w w' := by
  obtain ⟨W1, hW1⟩ : ∃ W1, W1 = w.alloc (.cells #[v1, v2, .int .i64 now, .int .i64 N, .int .i64 C] 50) := ⟨_, rfl⟩
  have HW1 : Hid (W1 = w.alloc (.cells #[v1, v2, .int .i64 now, .int .i64 N, .int .i64 C] 50)) := hW1
  have b1 : Below w.heap.size w W1 := by rw [hW1]; exact (Below.refl _ _).alloc (Nat.le_refl _) _
  have K1 : Bxs W1 w.heap.size 50 #[v1, v2, .int .i64 now, .int .i64 N, .int .i64 C] := by rw [hW1]; exact Bxs.new _ _ _
  have hM := markLogO_any base xs lv v1 v2 now W1 (h.below b1) hn hb
  have HB : Hid (∀ y, But (lqS xs v1 v2) W1 y → But (lqS xs v1 v2) w y) := fun y hy => ((But.refl _ w).more b1).trans hy
  obtain ⟨c0, c1, c2, c3, c4⟩ := K1.five
  obtain ⟨q, cq, p, cp, e1, e2, _⟩ := h.at rfl
  rw [List.length_map] at e1
  subst e1 e2
  clear hW1 b1 h K1 hb hn
  generalize mkT xs = T at *
  go_enter Tryz.func22, Tryz.ntmps22
  go_upto_region 1 with fail
  rw [← HW1.out]
  go_wp2_with fail
  with_reducible refine hM.mono ?_
  rintro e z ⟨rfl, hl, hbz⟩
  have HL : Hid _ := hl
  have HBz : Hid _ := HB.out z hbz
  clear hl hbz hM c0 c1 c2 c3 c4
  go_wp2_with fail
  go_ret
  exact ⟨rfl, HL.out, HBz.out⟩
set_option maxHeartbeats 2000000 in
theorem heldSweepOutO_any (base : Nat) (xs : List (Rw × Value)) (m : Nat) (v1 v2 : Value) (now N C : Int) (w : World) (h : LgM base xs m v1 v2 w) (hn : xs.length ≤ 1048576) (hb : mkT xs + m ≤ 16777210) :
    Calls Tryz.prog 23 #[.agg #[v1, v2, .int .i64 now, .int .i64 N, .int .i64 C], .int .i64 1] w fun e w' => e = .returned (.int .i64 ((mkT xs + m : Nat) : Int)) ∧ Below w.heap.size w w' := by
  have HLg : Hid (∀ x, Below w.heap.size w x → Calls Tryz.prog 56 #[.agg #[v1, v2, .int .i64 now], .int .i64 1] x fun e w' => e = .returned (.int .i64 ((mkT xs + m : Nat) : Int)) ∧ Below x.heap.size x w') := fun x hx => by
    have h' := h.below hx
    obtain ⟨q, cq, p, cp, rfl, rfl, h1, h2, h3, h4⟩ := h'.at
    obtain ⟨W1, hW1⟩ : ∃ W1, W1 = x.alloc (.cells #[.slice q xs.length cq, .slice p m cp, .int .i64 now] 36) := ⟨_, rfl⟩
    have HW1 : Hid (W1 = x.alloc (.cells #[.slice q xs.length cq, .slice p m cp, .int .i64 now] 36)) := hW1
    have b1 : Below x.heap.size x W1 := by rw [hW1]; exact (Below.refl _ _).alloc (Nat.le_refl _) _
    have B1 : Hid (Below x.heap.size x W1) := b1
    have K1 : Hid (Bxs W1 x.heap.size 36 #[.slice q xs.length cq, .slice p m cp, .int .i64 now]) := by rw [hW1]; exact Bxs.new _ _ _
    have hR : Calls Tryz.prog 92 #[.slice q xs.length cq, .int .i64 1] W1 fun e w' => e = .returned (.int .i64 ((mkT xs : Nat) : Int)) ∧ Below W1.heap.size W1 w' := heldRowO_any q cq xs 1 W1 (h1.below b1) h2 (Nat.le_refl _) hn (by unfold mkT at hb; omega)
    have HS : Hid (∀ y, Below W1.heap.size W1 y → Calls Tryz.prog 93 #[.slice p m cp, .int .i64 ((mkT xs : Nat) : Int)] y fun e w' => e = .returned (.int .i64 ((mkT xs + m : Nat) : Int)) ∧ Below y.heap.size y w') := fun y hy => by
      refine (heldG_any (mkT xs) (by unfold mkT; omega) p cp m y ((h3.below b1).below hy) (by omega) h4).mono ?_
      rintro e z ⟨rfl, hz⟩
      exact ⟨by rw [show ((m : Int) + (mkT xs : Nat)) = ((mkT xs + m : Nat) : Int) by omega], hz⟩
    have d1 : decide (((mkT xs : Nat) : Int) < 0) = false := decide_eq_false (by omega)
    have d2 : decide (((mkT xs + m : Nat) : Int) < 0) = false := decide_eq_false (by omega)
    have c0 : W1.cell? ⟨x.heap.size, 0, none⟩ = some (.slice q xs.length cq) := K1.out.cell 0
    clear hW1 b1 h h' h1 h2 h3 h4 hx hb hn
    generalize mkT xs = T at *
    go_enter Tryz.func56, Tryz.ntmps56
    go_upto_region 1 with fail
    rw [← HW1.out]
    go_wp2_with fail
    with_reducible refine hR.mono ?_
    rintro e y ⟨rfl, by1⟩
    have c1 : y.cell? ⟨x.heap.size, 1, none⟩ = some (.slice p m cp) := (K1.out.below by1).cell 1
    have hS := HS.out y by1
    have BY : Hid (Below x.heap.size x y) := chainB B1.out by1
    clear hR c0 by1
    go_wp2_with fail
    with_reducible refine hS.mono ?_
    rintro e z ⟨rfl, bz⟩
    go_wp2_with fail
    go_ret
    exact ⟨rfl, chainB BY.out bz⟩
  obtain ⟨W1, hW1⟩ : ∃ W1, W1 = w.alloc (.cells #[v1, v2, .int .i64 now, .int .i64 N, .int .i64 C] 50) := ⟨_, rfl⟩
  have HW1 : Hid (W1 = w.alloc (.cells #[v1, v2, .int .i64 now, .int .i64 N, .int .i64 C] 50)) := hW1
  have b1 : Below w.heap.size w W1 := by rw [hW1]; exact (Below.refl _ _).alloc (Nat.le_refl _) _
  have B1 : Hid (Below w.heap.size w W1) := b1
  have K1 : Bxs W1 w.heap.size 50 #[v1, v2, .int .i64 now, .int .i64 N, .int .i64 C] := by rw [hW1]; exact Bxs.new _ _ _
  obtain ⟨c0, c1, c2, c3, c4⟩ := K1.five
  have hL := HLg.out W1 b1
  have d2 : decide (((mkT xs + m : Nat) : Int) < 0) = false := decide_eq_false (by omega)
  obtain ⟨q, cq, p, cp, e1, e2, _⟩ := h.at
  subst e1 e2
  clear hW1 b1 h K1 hb hn HLg
  generalize mkT xs + m = T at *
  go_enter Tryz.func23, Tryz.ntmps23
  go_upto_region 1 with fail
  rw [← HW1.out]
  go_wp2_with fail
  with_reducible refine hL.mono ?_
  rintro e z ⟨rfl, bz⟩
  clear c0 c1 c2 c3 c4
  go_wp2_with fail
  go_ret
  exact ⟨rfl, chainB B1.out bz⟩
set_option maxHeartbeats 2000000 in
theorem eqSweepOut_any (base base' : Nat) (xs xs' : List (Rw × Value)) (rs : List Rw) (lv : List ByteArray) (v1 v2 u1 u2 : Value) (now N C : Int) (w : World) (h : LgO base xs lv v1 v2 w) (h' : LgO base' xs' lv u1 u2 w) (hx : xs.map (·.1) = rs) (hx' : xs'.map (·.1) = rs) (hn : rs.length ≤ 1048576) (hf : ∀ x ∈ rs, x.fs.length ≤ 1048576) (hl : lv.length ≤ 1048576) :
    Calls Tryz.prog 21 #[.agg #[v1, v2, .int .i64 now, .int .i64 N, .int .i64 C], .agg #[u1, u2, .int .i64 now, .int .i64 N, .int .i64 C]] w fun e w' => e = .returned (.bool true) ∧ Below w.heap.size w w' := by
  obtain ⟨q, cq, p, cp, rfl, rfl, a1, a2, a3, a4⟩ := h.at hx
  obtain ⟨q', cq', p', cp', rfl, rfl, b1, b2, b3, b4⟩ := h'.at hx'
  obtain ⟨W2, hW2⟩ : ∃ W2, W2 = (w.alloc (.cells #[.slice q rs.length cq, .slice p lv.length cp, .int .i64 now, .int .i64 N, .int .i64 C] 50)).alloc (.cells #[.slice q' rs.length cq', .slice p' lv.length cp', .int .i64 now, .int .i64 N, .int .i64 C] 50) := ⟨_, rfl⟩
  have HW2 : Hid (W2 = (w.alloc (.cells #[.slice q rs.length cq, .slice p lv.length cp, .int .i64 now, .int .i64 N, .int .i64 C] 50)).alloc (.cells #[.slice q' rs.length cq', .slice p' lv.length cp', .int .i64 now, .int .i64 N, .int .i64 C] 50)) := hW2
  have bb : Below w.heap.size w W2 := by rw [hW2]; exact alB ((Below.refl _ _).alloc (Nat.le_refl _) _) _
  have B2 : Hid (Below w.heap.size w W2) := bb
  have K1 : Hid (Bxs W2 w.heap.size 50 #[.slice q rs.length cq, .slice p lv.length cp, .int .i64 now, .int .i64 N, .int .i64 C]) := by rw [hW2]; exact (Bxs.new _ _ _).alloc _
  have K2 : Hid (Bxs W2 (w.heap.size + 1) 50 #[.slice q' rs.length cq', .slice p' lv.length cp', .int .i64 now, .int .i64 N, .int .i64 C]) := by
    rw [hW2]
    have h := Bxs.new (w.alloc (.cells #[.slice q rs.length cq, .slice p lv.length cp, .int .i64 now, .int .i64 N, .int .i64 C] 50)) 50 #[.slice q' rs.length cq', .slice p' lv.length cp', .int .i64 now, .int .i64 N, .int .i64 C]
    rwa [szA] at h
  have hE := eqLog_any q q' cq cq' rs p p' cp cp' lv now W2 (a1.below bb) (b1.below bb) hn a2 b2 hf (a3.below bb) (b3.below bb) hl a4 b4
  clear hW2 bb h h' hx hx' a1 a2 a3 a4 b1 b2 b3 b4 hf
  obtain ⟨x0, x1, x2, x3, x4⟩ := K1.out.five
  obtain ⟨y0, y1, y2, y3, y4⟩ := K2.out.five
  go_enter Tryz.func21, Tryz.ntmps21
  go_upto_region 1 with fail
  rw [← HW2.out]
  go_wp2_with fail
  with_reducible refine hE.mono ?_
  rintro e z ⟨rfl, bz⟩
  clear x0 x1 x2 x3 x4 y0 y1 y2 y3 y4
  obtain ⟨x0, x1, x2, x3, x4⟩ := (K1.out.below bz).five
  obtain ⟨y0, y1, y2, y3, y4⟩ := (K2.out.below bz).five
  go_wp2_with fail
  go_ret
  exact ⟨rfl, chainB B2.out bz⟩
end Go.Proofs.YtokkeadbkeehgaaGreatDoor
/-
  What LogForget answers (plain); a row of a log of its own is written.
-/
namespace Go.Proofs.YtokkeadbkeehgaaGreatDoor
open Go.RowKit Go.Lib
set_option linter.unusedVariables false
set_option maxRecDepth 20000

/-- The row with that field forgotten. -/
def fgt (rs : List Rw) (r f : Int) : Rw := ⟨(rs.getD r.toNat rwZ).k, (rs.getD r.toNat rwZ).a, (rs.getD r.toNat rwZ).fs.set f.toNat (goneF ((rs.getD r.toNat rwZ).fs.getD f.toNat fldD))⟩
def lfC (rs : List Rw) (lv : List ByteArray) (now r f y : Int) : Int := if (lgB rs lv now && decide (1 ≤ y ∧ y ≤ 2)) = true then fcO rs r f else 1
def lfR (rs : List Rw) (lv : List ByteArray) (now r f y : Int) : List Rw := if lfC rs lv now r f y = 0 then rs.set r.toNat (fgt rs r f) else []
def lfL (rs : List Rw) (lv : List ByteArray) (now r f y : Int) : List ByteArray := if lfC rs lv now r f y = 0 then lv ++ [tmRaw ⟨r, f, y, now⟩] else []
def lfN (rs : List Rw) (lv : List ByteArray) (now r f y : Int) : Int := if lfC rs lv now r f y = 0 then now else 0
theorem lf_bad {rs : List Rw} {lv : List ByteArray} {now r f y C : Int} (h : lfC rs lv now r f y = C) (hC : C ≠ 0) : lfR rs lv now r f y = [] ∧ lfL rs lv now r f y = [] ∧ lfN rs lv now r f y = 0 := by
  unfold lfR lfL lfN
  rw [h]
  exact ⟨if_neg hC, if_neg hC, if_neg hC⟩
theorem lf_good {rs : List Rw} {lv : List ByteArray} {now r f y : Int} (h : lfC rs lv now r f y = 0) : lfR rs lv now r f y = rs.set r.toNat (fgt rs r f) ∧ lfL rs lv now r f y = lv ++ [tmRaw ⟨r, f, y, now⟩] ∧ lfN rs lv now r f y = now := by
  unfold lfR lfL lfN
  rw [h]
  exact ⟨if_pos rfl, if_pos rfl, if_pos rfl⟩
theorem getD_row {rs : List Rw} {I : Nat} (hI : I < rs.length) : rs.getD (I : Int).toNat rwZ = rs[I] := by
  rw [Int.toNat_natCast, List.getD_eq_getElem?_getD, List.getElem?_eq_getElem hI]; rfl
theorem fc_zero {rs : List Rw} {r f : Int} (h : fcO rs r f = 0) : ∃ (I J : Nat) (hI : I < rs.length) (hJ : J < rs[I].fs.length), r = I ∧ f = J ∧ rs[I].fs[J].g = false := by
  unfold fcO at h
  by_cases h1 : 0 ≤ r ∧ r ≤ (rs.length : Int) - 1
  · rw [if_pos h1] at h
    obtain ⟨I, rfl⟩ := Int.eq_ofNat_of_zero_le h1.1
    have hI : I < rs.length := by omega
    by_cases h2 : 0 ≤ f ∧ f ≤ ((rs.getD (I : Int).toNat rwZ).fs.length : Int) - 1
    · rw [if_pos h2] at h
      rw [getD_row hI] at h2
      obtain ⟨J, rfl⟩ := Int.eq_ofNat_of_zero_le h2.1
      have hJ : J < rs[I].fs.length := by omega
      refine ⟨I, J, hI, hJ, rfl, rfl, ?_⟩
      have e2 : fldOf rs I J = rs[I].fs[J] := by
        unfold fldOf
        rw [getD_row hI, Int.toNat_natCast, List.getD_eq_getElem?_getD, List.getElem?_eq_getElem hJ]; rfl
      rw [e2] at h
      cases hg : rs[I].fs[J].g with
      | false => rfl
      | true => rw [hg] at h; simp at h
    · rw [if_neg h2] at h; omega
  · rw [if_neg h1] at h; omega
theorem fgt_eq {rs : List Rw} {I J : Nat} (hI : I < rs.length) (hJ : J < rs[I].fs.length) : fgt rs I J = ⟨rs[I].k, rs[I].a, rs[I].fs.set J (goneF rs[I].fs[J])⟩ := by
  unfold fgt
  rw [getD_row hI, Int.toNat_natCast, List.getD_eq_getElem?_getD, List.getElem?_eq_getElem hJ]; rfl
theorem forget_post {k : ByteArray} {a : Int} {fs : List Fld} {J : Nat} (hr : rwB k a fs = true) (hJ : J < fs.length) (hg : fs[J].g = false) : fgC k a fs J = 0 ∧ fgK k a fs J = k ∧ fgA k a fs J = a ∧ fgF k a fs J = fs.set J (goneF fs[J]) := by
  have e : fs.getD (J : Int).toNat fldD = fs[J] := by rw [Int.toNat_natCast, List.getD_eq_getElem?_getD, List.getElem?_eq_getElem hJ]; rfl
  have hC : fgC k a fs J = 0 := by
    unfold fgC
    rw [if_pos hr, if_pos (by omega), e, hg]; rfl
  refine ⟨hC, ?_, ?_, ?_⟩
  · unfold fgK; rw [hC]; rfl
  · unfold fgA; rw [hC]; rfl
  · unfold fgF; rw [hC, e, Int.toNat_natCast]; rfl
theorem lg_tomb {rs : List Rw} {lv : List ByteArray} {now y : Int} {I J : Nat} (h : lgB rs lv now = true) (hI : I < rs.length) (hJ : J < rs[I].fs.length) (hy : 1 ≤ y ∧ y ≤ 2) : tmB ⟨I, J, y, now⟩ = true := by
  obtain ⟨h1, h2, h3⟩ := lg_right h
  have h4 := (rwB_parts (k := rs[I].k) (at_ := rs[I].a) (fs := rs[I].fs) (h3 _ (List.getElem_mem hI))).2.2.1
  unfold lgB timeB at h
  simp only [Bool.and_eq_true, decide_eq_true_iff] at h
  rw [tmB_iff]
  show ((0 : Int) ≤ I ∧ (I : Int) ≤ 63) ∧ ((0 : Int) ≤ J ∧ (J : Int) ≤ 2) ∧ (1 ≤ y ∧ y ≤ 2) ∧ (0 ≤ now ∧ now ≤ 1000000)
  exact ⟨by omega, by omega, hy, h.2.2.1⟩
theorem own_set3 {w : World} {base b n cc : Nat} {l : List Rc} (h : w.ownsRow base 96 3 (.slice (some ⟨b, 0, none⟩) n cc) n (rcRow l)) (i : Nat) (x : Rc) : (set3 w b (i * 3) x).ownsRow base 96 3 (.slice (some ⟨b, 0, none⟩) n cc) n (rcRow (l.set i x)) := by
  have h1 := (h.stored (i * 3) (.string x.k)).1
  have h2 := (h1.stored (i * 3 + 1) (.int .i64 x.a)).1
  have h3 := (h2.stored (i * 3 + 2) x.v).1
  rw [rcRow_set] at h3
  exact h3
theorem set3_grw (x : World) (g i : Nat) (v : Rc) : x.grownBy (set3 x g i v) (some g) := by
  refine ⟨rfl, rfl, rfl, by simp [set3, World.setCell], fun q hq hne => ?_⟩
  have hq' : g ≠ q := fun e => hne (by rw [e])
  simp [set3, World.setCell, Array.getElem?_modify, hq']
theorem RwsO.some_of {base : Nat} {xs : List (Rw × Value)} {v : Value} {w : World} (h : RwsO base xs v w) (h0 : 0 < xs.length) : ∃ g c, v = .slice (some ⟨g, 0, none⟩) xs.length c := by
  rcases h.own.2 with ⟨h1, h2⟩ | ⟨g, cap, cur, h1, _⟩
  · omega
  · exact ⟨g, cap, h1⟩
theorem set_fst (xs : List (Rw × Value)) (I : Nat) (r : Rw) (v : Value) : (xs.set I (r, v)).map (·.1) = (xs.map (·.1)).set I r := by rw [List.map_set]
section
variable {W x x' : World} {E g c : Nat} {xs : List (Rw × Value)} {lv : List ByteArray} {now : Int} {v2 : Value}
theorem LgC.rowv (h : LgC W E xs lv now (.slice (some ⟨g, 0, none⟩) xs.length c) v2 x) (I : Nat) (hI : I < xs.length) : ∃ q0 c0, xs[I].2 = .slice q0 xs[I].1.fs.length c0 ∧ xs[I].1.fs.length ≤ c0 := by
  obtain ⟨q', c', hq, hcc, hf⟩ := ownF_form (h.lg.rws.fld _ (List.getElem_mem hI))
  exact ⟨q', c', hq, hcc⟩
theorem LgC.row (h : LgC W E xs lv now (.slice (some ⟨g, 0, none⟩) xs.length c) v2 x) (I : Nat) (hI : I < xs.length) {q0 : Option Addr} {c0 : Nat} {X : Rw} (hX : xs[I].1 = X) (hv : xs[I].2 = .slice q0 X.fs.length c0) : (x.cell? ⟨g, I * 3, none⟩ = some (.string X.k) ∧ x.cell? ⟨g, I * 3 + 1, none⟩ = some (.int .i64 X.a) ∧ x.cell? ⟨g, I * 3 + 2, none⟩ = some (.slice q0 X.fs.length c0)) ∧ x.frozen? ⟨g, I * 3, none⟩ = false ∧ x.frozen? ⟨g, I * 3 + 1, none⟩ = false ∧ x.frozen? ⟨g, I * 3 + 2, none⟩ = false ∧ FldAt x q0 X.fs := by
  subst hX
  have own := h.lg.rws.own
  have hl := rcV_len xs
  have hr := rcRow_at (xs.map rcV) I (by simpa using hI)
  rw [← own.cellAt (I * 3) (by omega), ← own.cellAt (I * 3 + 1) (by omega), ← own.cellAt (I * 3 + 2) (by omega)] at hr
  have ev : (xs.map rcV)[I]'(by simpa using hI) = ⟨xs[I].1.k, xs[I].1.a, .slice q0 xs[I].1.fs.length c0⟩ := by rw [List.getElem_map]; unfold rcV; rw [hv]
  rw [ev] at hr
  obtain ⟨q', c', hq, hcc, hf⟩ := ownF_form (h.lg.rws.fld _ (List.getElem_mem hI))
  rw [hv] at hq
  cases hq
  exact ⟨hr, own.frozenAt _, own.frozenAt _, own.frozenAt _, hf⟩
/-- A row of it is written: its fields came later than all that is there. -/
theorem LgC.setRow (h : LgC W E xs lv now (.slice (some ⟨g, 0, none⟩) xs.length c) v2 x) (hx : Below x.heap.size x x') (I : Nat) (hI : I < xs.length) (r : Rw) (q : Option Addr) (d : Nat) (hf : x'.ownsRow x.heap.size 98 5 (.slice q r.fs.length d) r.fs.length (fldRow r.fs)) : LgC W E (xs.set I (r, .slice q r.fs.length d)) lv now (.slice (some ⟨g, 0, none⟩) xs.length c) v2 (set3 x' g (I * 3) ⟨r.k, r.a, .slice q r.fs.length d⟩) := by
  have H := h.below hx
  have hg := (H.lg.rws.own.lt g rfl).1
  have gr := set3_grw x' g (I * 3) ⟨r.k, r.a, .slice q r.fs.length d⟩
  have own2 := own_set3 H.lg.rws.own I ⟨r.k, r.a, .slice q r.fs.length d⟩
  have e0 : (xs.map rcV).set I ⟨r.k, r.a, .slice q r.fs.length d⟩ = (xs.set I (r, .slice q r.fs.length d)).map rcV := by rw [List.map_set]; rfl
  rw [e0] at own2
  have hW := h.bel.size
  have hxz := hx.size
  have old : ∀ z ∈ xs, ∀ j, z.2.ownBlock = some j → j < x.heap.size := fun z hz j hj => ((h.lg.rws.lt.2 z hz) j hj).2
  have new : ∀ j, (Value.slice q r.fs.length d).ownBlock = some j → x.heap.size ≤ j := fun j hj => (hf.lt j hj).1
  refine ⟨set3_other H.box (fun e => own_box H.lg.rws.own H.box (by decide) (by rw [e]; rfl)) _, ⟨⟨by rw [List.length_set]; exact own2, fun z hz => ?_, ?_⟩, H.lg.lvs.kept gr (own_apart H.lg.lvs H.lg.rws.own (by decide))⟩, h.eb, set3_below H.bel hg _ _⟩
  · rcases List.mem_or_eq_of_mem_set hz with hz | rfl
    · exact (H.lg.rws.fld z hz).kept gr (own_apart (H.lg.rws.fld z hz) H.lg.rws.own (by decide))
    · exact (own_low hf hW).kept gr (own_apart hf H.lg.rws.own (by decide))
  · rw [List.pairwise_iff_getElem]
    intro i j hi hj hij
    rw [List.length_set] at hi hj
    have hp := List.pairwise_iff_getElem.1 H.lg.rws.ne i j hi hj hij
    rw [List.getElem_set, List.getElem_set]
    split
    · rename_i h1
      rw [if_neg (by omega)]
      cases hb : (Value.slice q r.fs.length d).ownBlock with
      | none => exact .inl rfl
      | some b =>
        refine .inr (fun e => ?_)
        have := new b hb
        have := old _ (List.getElem_mem hj) b e.symm
        omega
    · split
      · rename_i h1 h2
        cases hb : (xs[i]).2.ownBlock with
        | none => exact .inl rfl
        | some b =>
          refine .inr (fun e => ?_)
          have := old _ (List.getElem_mem hi) b hb
          have := new b e.symm
          omega
      · exact hp
end
end Go.Proofs.YtokkeadbkeehgaaGreatDoor
/-
  What LogAdd answers (plain); a leaf more in a log of its own; is a row fresh.
-/
namespace Go.Proofs.YtokkeadbkeehgaaGreatDoor
open Go.RowKit Go.Lib
set_option linter.unusedVariables false
set_option maxRecDepth 20000

/-- Nothing of it is gone. -/
def frsB (fs : List Fld) : Bool := fs.all fun f => !f.g
theorem frs_true {fs : List Fld} (h : ∀ j (h : j < fs.length), fs[j].g = false) : frsB fs = true := by
  unfold frsB
  rw [List.all_eq_true]
  intro x hx
  obtain ⟨j, hj, rfl⟩ := List.getElem_of_mem hx
  rw [h j hj]; rfl
theorem frs_false {fs : List Fld} {k : Nat} (hk : k < fs.length) (h : fs[k].g = true) : frsB fs = false := by
  unfold frsB
  rw [List.all_eq_false]
  exact ⟨_, List.getElem_mem hk, by rw [h]; simp⟩
def laK (rs : List Rw) (lv : List ByteArray) (now : Int) (r : Rw) : Bool := lgB rs lv now && (rwB r.k r.a r.fs && (frsB r.fs && (r.a == now)))
def laC (rs : List Rw) (lv : List ByteArray) (now : Int) (r : Rw) : Int := if laK rs lv now r = true then (if rs.length = 6 then 9 else 0) else 1
def laR (rs : List Rw) (lv : List ByteArray) (now : Int) (r : Rw) : List Rw := if laC rs lv now r = 0 then rs ++ [r] else []
def laL (rs : List Rw) (lv : List ByteArray) (now : Int) (r : Rw) : List ByteArray := if laC rs lv now r = 0 then lv ++ [lfB r.k r.a r.fs] else []
def laN (rs : List Rw) (lv : List ByteArray) (now : Int) (r : Rw) : Int := if laC rs lv now r = 0 then now else 0
theorem la_bad {rs : List Rw} {lv : List ByteArray} {now : Int} {r : Rw} {C : Int} (h : laC rs lv now r = C) (hC : C ≠ 0) : laR rs lv now r = [] ∧ laL rs lv now r = [] ∧ laN rs lv now r = 0 := by
  unfold laR laL laN
  rw [h]
  exact ⟨if_neg hC, if_neg hC, if_neg hC⟩
theorem la_good {rs : List Rw} {lv : List ByteArray} {now : Int} {r : Rw} (h : laC rs lv now r = 0) : laR rs lv now r = rs ++ [r] ∧ laL rs lv now r = lv ++ [lfB r.k r.a r.fs] ∧ laN rs lv now r = now := by
  unfold laR laL laN
  rw [h]
  exact ⟨if_pos rfl, if_pos rfl, if_pos rfl⟩
/-- One more leaf. -/
theorem LgC.leaf {W : World} {E : Nat} {xs : List (Rw × Value)} {lv : List ByteArray} {now : Int} {v1 v2 : Value} {x : World} (h : LgC W E xs lv now v1 v2 x) (t : ByteArray) (hl : lv.length + 1 ≤ 1048576) :
    ∃ g c y, (Builtin.append_ #[23, 23] 23 #[v2, .slice (some ⟨x.heap.size, 0, none⟩) 1 1]).run Tryz.prog (x.alloc (.cells #[.string t] 9)) = .ok (.slice (some ⟨g, 0, none⟩) (lv.length + 1) c) y ∧ LgC W E xs (lv ++ [t]) now v1 (.slice (some ⟨g, 0, none⟩) (lv.length + 1) c) (y.setCell ⟨E, 1, none⟩ (.slice (some ⟨g, 0, none⟩) (lv.length + 1) c)) ∧ Below W.heap.size W y ∧ y.cell? ⟨E, 1, none⟩ = some v2 ∧ y.frozen? ⟨E, 1, none⟩ = false ∧ (x.alloc (.cells #[.string t] 9)).grownBy y v2.ownBlock := by
  have hal := (Below.refl x.heap.size x).alloc (Nat.le_refl _) (.cells #[.string t] 9)
  have H := h.below hal
  obtain ⟨g, c, y, h1, h2, h3, h4⟩ := app_str x W.heap.size v2 lv h.lg.lvs t hl h.bel.size
  have kb : Bxs y E 36 #[v1, v2, .int .i64 now] := H.box.grown h3 (fun e => own_box H.lg.lvs H.box (by decide) e.symm)
  have hr : RwsO W.heap.size xs v1 y := H.lg.rws.kept h3 (own_apart H.lg.rws.own H.lg.lvs (by decide)) (fun z hz => own_apart (H.lg.rws.fld z hz) H.lg.lvs (by decide))
  have hby : Below W.heap.size W y := H.bel.grown h3 H.bel.size (fun j hj => (H.lg.lvs.lt j hj).1)
  have ho : LgO W.heap.size xs (lv ++ [t]) v1 (.slice (some ⟨g, 0, none⟩) (lv.length + 1) c) y := ⟨hr, by simpa using h2⟩
  exact ⟨g, c, y, h1, ⟨kb.set 1 _, ho.box kb (by decide) (by decide) (by decide) (set_grw y E 1 _), h.eb, below_cel hby h.eb 1 _⟩, hby, kb.cell 1, kb.fr 1, h3⟩
end Go.Proofs.YtokkeadbkeehgaaGreatDoor
/-
  What LogAdd, LogForget answer is not too long to be marked (plain).
-/
namespace Go.Proofs.YtokkeadbkeehgaaGreatDoor
open Go.RowKit Go.Lib
set_option linter.unusedVariables false

theorem fsN_three : ∀ (rs : List Rw), (∀ r ∈ rs, r.fs.length ≤ 3) → fsN rs ≤ 3 * rs.length
  | [], _ => by simp [fsN]
  | r :: rs, h => by
    have ih := fsN_three rs (fun x hx => h x (List.mem_cons_of_mem _ hx))
    have h0 := h r (List.mem_cons_self ..)
    unfold fsN at ih ⊢
    simp only [List.map_cons, List.sum_cons, List.length_cons]
    omega
theorem lg_three {rs : List Rw} {lv : List ByteArray} {now : Int} (h : lgB rs lv now = true) : ∀ r ∈ rs, r.fs.length ≤ 3 := fun r hr => (rwB_parts (k := r.k) (at_ := r.a) (fs := r.fs) ((lg_right h).2.2 r hr)).2.2.1.2
theorem lf_sum {rs : List Rw} {lv : List ByteArray} {now r f y : Int} : (lfR rs lv now r f y).length + fsN (lfR rs lv now r f y) + (lfL rs lv now r f y).length ≤ 1048576 := by
  unfold lfR lfL
  by_cases hc : lfC rs lv now r f y = 0
  · rw [if_pos hc, if_pos hc]
    have hl : lgB rs lv now = true := by
      unfold lfC at hc
      by_cases h : (lgB rs lv now && decide (1 ≤ y ∧ y ≤ 2)) = true
      · exact (Bool.and_eq_true_iff.1 h).1
      · rw [if_neg h] at hc; omega
    obtain ⟨h1, h2, -⟩ := lg_right hl
    have h3 := lg_three hl
    have h4 : ∀ x ∈ rs.set r.toNat (fgt rs r f), x.fs.length ≤ 3 := fun x hx => by
      rcases List.mem_or_eq_of_mem_set hx with hx | rfl
      · exact h3 x hx
      · unfold fgt
        rw [List.length_set, List.getD_eq_getElem?_getD]
        by_cases hi : r.toNat < rs.length
        · rw [List.getElem?_eq_getElem hi]; exact h3 _ (List.getElem_mem hi)
        · rw [List.getElem?_eq_none (by omega)]; simp [rwZ]
    have h5 := fsN_three _ h4
    rw [List.length_set] at h5 ⊢
    rw [List.length_append, List.length_singleton]
    omega
  · rw [if_neg hc, if_neg hc]
    simp [fsN]
theorem la_sum {rs : List Rw} {lv : List ByteArray} {now : Int} {r : Rw} : (laR rs lv now r).length + fsN (laR rs lv now r) + (laL rs lv now r).length ≤ 1048576 := by
  unfold laR laL
  by_cases hc : laC rs lv now r = 0
  · rw [if_pos hc, if_pos hc]
    have hl : lgB rs lv now = true ∧ rwB r.k r.a r.fs = true := by
      unfold laC at hc
      by_cases h : laK rs lv now r = true
      · unfold laK at h
        rw [Bool.and_eq_true_iff, Bool.and_eq_true_iff] at h
        exact ⟨h.1, h.2.1⟩
      · rw [if_neg h] at hc; omega
    obtain ⟨h1, h2, -⟩ := lg_right hl.1
    have h3 := lg_three hl.1
    have h4 : ∀ x ∈ rs ++ [r], x.fs.length ≤ 3 := fun x hx => by
      rcases List.mem_append.1 hx with hx | hx
      · exact h3 x hx
      · rw [List.mem_singleton.1 hx]; exact (rwB_parts hl.2).2.2.1.2
    have h5 := fsN_three _ h4
    rw [List.length_append, List.length_singleton] at h5 ⊢
    rw [List.length_append, List.length_singleton]
    omega
  · rw [if_neg hc, if_neg hc]
    simp [fsN]
end Go.Proofs.YtokkeadbkeehgaaGreatDoor
/-
  Policies as plain functions: which is right. A list all of whose elements are right, each ahead of the next.
-/
namespace Go.Proofs.YtokkeadbkeehgaaGreatDoor
open Go.RowKit Go.Lib
set_option linter.unusedVariables false

def riseBy {α : Type} (lt : α → α → Bool) : List α → Bool
  | a :: b :: r => lt a b && riseBy lt (b :: r)
  | _ => true
theorem riseBy_iff {α : Type} (lt : α → α → Bool) : ∀ (l : List α), riseBy lt l = true ↔ ∀ j (h0 : 0 < j) (h : j < l.length), lt (l[j - 1]'(by omega)) l[j] = true
  | [] => ⟨fun _ j h0 h => by simp at h, fun _ => rfl⟩
  | [a] => ⟨fun _ j h0 h => by simp at h; omega, fun _ => rfl⟩
  | a :: b :: r => by
    have ih := riseBy_iff lt (b :: r)
    show (lt a b && riseBy lt (b :: r)) = true ↔ _
    rw [Bool.and_eq_true, ih]
    constructor
    · rintro ⟨h1, h2⟩ j h0 h
      match j, h0 with
      | 1, _ => exact h1
      | j + 2, _ => exact h2 (j + 1) (by omega) (by simpa using h)
    · intro h
      exact ⟨h 1 (by omega) (by simp), fun j h0 hj => by
        obtain ⟨m, rfl⟩ : ∃ m, j = m + 1 := ⟨j - 1, by omega⟩
        exact h (m + 1 + 1) (by omega) (by simpa using hj)⟩
def okL {α : Type} (p : α → Bool) (lt : α → α → Bool) (l : List α) : Bool := l.all p && riseBy lt l
theorem okL_not_all {α : Type} {p : α → Bool} {lt : α → α → Bool} {l : List α} {i : Nat} (hi : i < l.length) (h : p l[i] = false) : okL p lt l = false := by
  cases hr : l.all p with
  | false => unfold okL; rw [hr]; rfl
  | true =>
    have := List.all_eq_true.1 hr _ (List.getElem_mem hi)
    rw [h] at this; cases this
theorem okL_not_rise {α : Type} {p : α → Bool} {lt : α → α → Bool} {l : List α} {i : Nat} (h0 : 0 < i) (hi : i < l.length) (h : lt (l[i - 1]'(by omega)) l[i] = false) : okL p lt l = false := by
  cases hr : riseBy lt l with
  | false => unfold okL; rw [hr]; simp
  | true =>
    have := (riseBy_iff lt l).1 hr i h0 hi
    rw [h] at this; cases this
theorem okL_true {α : Type} {p : α → Bool} {lt : α → α → Bool} {l : List α} (h1 : ∀ j (h : j < l.length), p l[j] = true) (h2 : ∀ j (h0 : 0 < j) (h : j < l.length), lt (l[j - 1]'(by omega)) l[j] = true) : okL p lt l = true := by
  unfold okL
  rw [List.all_eq_true.2 (fun f hf => by obtain ⟨j, hj, rfl⟩ := List.getElem_of_mem hf; exact h1 j hj), Bool.true_and]
  exact (riseBy_iff lt l).2 h2
theorem okL_parts {α : Type} {p : α → Bool} {lt : α → α → Bool} {l : List α} (h : okL p lt l = true) : (∀ x ∈ l, p x = true) ∧ ∀ j (h0 : 0 < j) (h : j < l.length), lt (l[j - 1]'(by omega)) l[j] = true := by
  unfold okL at h
  rw [Bool.and_eq_true] at h
  exact ⟨List.all_eq_true.1 h.1, (riseBy_iff lt l).1 h.2⟩
def ruB (r : Rul) : Bool := rulB r.k r.f r.l r.m
def ruLt (a b : Rul) : Bool := rlLess a.k a.f b.k b.f
def heB (n : Int) : Bool := decide (0 ≤ n ∧ n ≤ 5)
def heLt (a b : Int) : Bool := decide (a < b)
/-- A policy is right. -/
def polB (rs : List Rul) (hs : List Int) : Bool := decide (rs.length ≤ 6) && (okL ruB ruLt rs && okL heB heLt hs)
theorem held_ge {hs : List Int} (h : okL heB heLt hs = true) : ∀ i (hi : i < hs.length), (i : Int) ≤ hs[i] := by
  obtain ⟨h1, h2⟩ := okL_parts h
  intro i
  induction i with
  | zero => intro hi; have := h1 _ (List.getElem_mem hi); unfold heB at this; simp at this; exact this.1
  | succ i ih =>
    intro hi
    have a := ih (by omega)
    have b := h2 (i + 1) (by omega) hi
    unfold heLt at b
    simp at b
    omega
theorem held_len {hs : List Int} (h : okL heB heLt hs = true) : hs.length ≤ 6 := by
  by_cases h0 : hs.length = 0
  · omega
  · have a := held_ge h (hs.length - 1) (by omega)
    have b := (okL_parts h).1 _ (List.getElem_mem (show hs.length - 1 < hs.length by omega))
    unfold heB at b
    simp at b
    omega
/-- No text of a rule is too long to be read. -/
def RulsLe (rs : List Rul) : Prop := ∀ r ∈ rs, r.k.size ≤ maxLen ∧ r.f.size ≤ maxLen
theorem RulAt.some_of {w : World} {p : Option Addr} {rs : List Rul} (h : RulAt w p rs) (h0 : 0 < rs.length) : ∃ b off, p = some ⟨b, off, none⟩ ∧ b < w.heap.size := by
  obtain ⟨b, off, e, hb, -⟩ := h 0 h0
  exact ⟨b, off, e, hb⟩
theorem RulAt.at {w : World} {b off : Nat} {rs : List Rul} (h : RulAt w (some ⟨b, off, none⟩) rs) (i : Nat) (hi : i < rs.length) : w.cell? ⟨b, off + i * 4, none⟩ = some (.string rs[i].k) ∧ w.cell? ⟨b, off + i * 4 + 1, none⟩ = some (.string rs[i].f) ∧ w.cell? ⟨b, off + i * 4 + 2, none⟩ = some (.int .i64 rs[i].l) ∧ w.cell? ⟨b, off + i * 4 + 3, none⟩ = some (.int .i64 rs[i].m) := by
  obtain ⟨b', off', e, hb, h⟩ := h i hi
  cases e
  exact h
theorem IntAt.some_of {w : World} {p : Option Addr} {ks : List Int} (h : IntAt w p ks) (h0 : 0 < ks.length) : ∃ b off, p = some ⟨b, off, none⟩ ∧ b < w.heap.size := by
  obtain ⟨b, off, e, hb, -⟩ := h 0 h0
  exact ⟨b, off, e, hb⟩
theorem IntAt.at {w : World} {b off : Nat} {ks : List Int} (h : IntAt w (some ⟨b, off, none⟩) ks) (i : Nat) (hi : i < ks.length) : w.cell? ⟨b, off + i, none⟩ = some (.int .i64 ks[i]) := by
  obtain ⟨b', off', e, hb, h⟩ := h i hi
  cases e
  exact h
end Go.Proofs.YtokkeadbkeehgaaGreatDoor
/-
  Where in a list that is in order something stands, or would stand.
-/
namespace Go.Proofs.YtokkeadbkeehgaaGreatDoor
open Go.RowKit Go.Lib
set_option linter.unusedVariables false

/-- How many at a list's head are such. -/
def twI {α : Type} (p : α → Bool) (l : List α) : Nat := (l.takeWhile p).length
theorem tw_le {α : Type} (p : α → Bool) (l : List α) : twI p l ≤ l.length := (List.takeWhile_prefix p).length_le
theorem tw_lt {α : Type} (p : α → Bool) : ∀ (l : List α) (j : Nat) (h : j < twI p l), p (l[j]'(Nat.lt_of_lt_of_le h (tw_le p l))) = true
  | [], j, h => by simp [twI] at h
  | a :: l, j, h => by
    unfold twI at h
    cases ha : p a with
    | false => rw [List.takeWhile_cons, ha] at h; simp at h
    | true =>
      match j with
      | 0 => exact ha
      | j + 1 =>
        rw [List.takeWhile_cons, ha] at h
        exact tw_lt p l j (by simpa [twI] using h)
theorem tw_at {α : Type} (p : α → Bool) : ∀ (l : List α) (h : twI p l < l.length), p l[twI p l] = false
  | [], h => by simp at h
  | a :: l, h => by
    cases ha : p a with
    | false =>
      have e : twI p (a :: l) = 0 := by unfold twI; rw [List.takeWhile_cons, ha]; rfl
      simp only [e, List.getElem_cons_zero]; exact ha
    | true =>
      have e : twI p (a :: l) = twI p l + 1 := by unfold twI; rw [List.takeWhile_cons, ha]; rfl
      simp only [e, List.getElem_cons_succ]
      exact tw_at p l (by rw [e] at h; simpa using h)
theorem tw_eq {α : Type} (p : α → Bool) (l : List α) (k : Nat) (hk : k ≤ l.length) (h1 : ∀ j (h : j < l.length), j < k → p l[j] = true) (h2 : ∀ h : k < l.length, p l[k] = false) : twI p l = k := by
  rcases Nat.lt_trichotomy (twI p l) k with h | h | h
  · have a := tw_at p l (by omega)
    rw [h1 _ (by omega) h] at a; cases a
  · exact h
  · have hl := tw_le p l
    have a := tw_lt p l k h
    rw [h2 (by omega)] at a; cases a
/-- The first that is such: its place; -1: there is none. -/
def fstI {α : Type} (q : α → Bool) (l : List α) : Int := if twI (fun x => !q x) l < l.length then (twI (fun x => !q x) l : Int) else -1
theorem fst_at {α : Type} {q : α → Bool} {l : List α} {k : Nat} (hk : k < l.length) (h1 : ∀ j (h : j < l.length), j < k → q l[j] = false) (h2 : q l[k] = true) : fstI q l = k := by
  have e := tw_eq (fun x => !q x) l k (by omega) (fun j h hj => by show (!q l[j]) = true; rw [h1 j h hj]; rfl) (fun h => by show (!q l[k]) = false; rw [h2]; rfl)
  unfold fstI
  rw [e, if_pos hk]
theorem fst_none {α : Type} {q : α → Bool} {l : List α} (h1 : ∀ j (h : j < l.length), q l[j] = false) : fstI q l = -1 := by
  have e := tw_eq (fun x => !q x) l l.length (Nat.le_refl _) (fun j h hj => by show (!q l[j]) = true; rw [h1 j h]; rfl) (fun h => by omega)
  unfold fstI
  rw [e, if_neg (by omega)]
/-- It is there, at the place where it would stand. -/
def thereB {α : Type} (lt q : α → Bool) (l : List α) : Bool := if h : twI lt l < l.length then q l[twI lt l] else false
theorem fst_there {α : Type} {lt q : α → Bool} {l : List α} (C : ∀ j (h : j < l.length), q l[j] = true → lt l[j] = false ∧ ∀ i (hi : i < j), lt (l[i]'(by omega)) = true) : fstI q l = if thereB lt q l = true then (twI lt l : Int) else -1 := by
  by_cases ht : thereB lt q l = true
  · rw [if_pos ht]
    unfold thereB at ht
    split at ht
    · rename_i hk
      refine fst_at hk (fun j h hj => ?_) ht
      cases hq : q l[j] with
      | false => rfl
      | true => have := (C j h hq).1; rw [tw_lt lt l j hj] at this; cases this
    · cases ht
  · rw [if_neg ht]
    refine fst_none (fun j h => ?_)
    cases hq : q l[j] with
    | false => rfl
    | true =>
      exfalso
      apply ht
      have e : twI lt l = j := tw_eq lt l j (by omega) (fun i _ hi => (C j h hq).2 i hi) (fun _ => (C j h hq).1)
      unfold thereB
      rw [dif_pos (by omega)]
      simp only [e]; exact hq
/-- What stands ahead of a target, and what is the target: numbers. -/
def ltI (r : Int) (x : Int) : Bool := decide (x < r)
def eqI (r : Int) (x : Int) : Bool := x == r
theorem rise_lt {hs : List Int} (h : okL heB heLt hs = true) : ∀ (j i : Nat) (hj : j < hs.length) (hi : i < j), hs[i]'(by omega) < hs[j]
  | j + 1, i, hj, hi => by
    have a := (okL_parts h).2 (j + 1) (by omega) hj
    unfold heLt at a
    simp at a
    by_cases he : i = j
    · subst he; exact a
    · have := rise_lt h j i (by omega) (by omega); omega
theorem condI {hs : List Int} (h : okL heB heLt hs = true) (r : Int) : ∀ j (hj : j < hs.length), eqI r hs[j] = true → ltI r hs[j] = false ∧ ∀ i (hi : i < j), ltI r (hs[i]'(by omega)) = true := fun j hj hq => by
  have e : hs[j] = r := by simpa [eqI] using hq
  refine ⟨by unfold ltI; exact decide_eq_false (by omega), fun i hi => ?_⟩
  have := rise_lt h j i hj hi
  unfold ltI; exact decide_eq_true (by omega)
theorem monoI {hs : List Int} (h : okL heB heLt hs = true) (r : Int) : ∀ j (hj : j < hs.length) i (hi : i ≤ j), ltI r hs[j] = true → ltI r (hs[i]'(by omega)) = true := fun j hj i hi hq => by
  by_cases he : i = j
  · subst he; exact hq
  · have := rise_lt h j i hj (by omega)
    unfold ltI at *
    simp at *
    omega
end Go.Proofs.YtokkeadbkeehgaaGreatDoor
/-
  Rules in order: where one of a kind and field stands, or would stand.
-/
namespace Go.Proofs.YtokkeadbkeehgaaGreatDoor
open Go.RowKit Go.Lib
set_option linter.unusedVariables false

theorem bl_irr : ∀ (x : List UInt8), Op.bytesLess x x = false
  | [] => rfl
  | a :: x => by simp [Op.bytesLess, bl_irr x]
theorem bl_trans : ∀ (x y z : List UInt8), Op.bytesLess x y = true → Op.bytesLess y z = true → Op.bytesLess x z = true
  | [], _, [], _, h2 => by cases ‹List UInt8› <;> simp [Op.bytesLess] at h2
  | [], _, c :: z, _, _ => by simp [Op.bytesLess]
  | a :: x, [], z, h1, _ => by simp [Op.bytesLess] at h1
  | a :: x, b :: y, [], _, h2 => by simp [Op.bytesLess] at h2
  | a :: x, b :: y, c :: z, h1, h2 => by
    simp only [Op.bytesLess, Bool.or_eq_true, Bool.and_eq_true, decide_eq_true_eq, beq_iff_eq] at h1 h2 ⊢
    rcases h1 with h1 | ⟨rfl, h1⟩
    · rcases h2 with h2 | ⟨rfl, h2⟩
      · exact .inl (UInt8.lt_trans h1 h2)
      · exact .inl h1
    · rcases h2 with h2 | ⟨rfl, h2⟩
      · exact .inl h2
      · exact .inr ⟨rfl, bl_trans x y z h1 h2⟩
theorem rl_trans (ak af bk bf ck cf : ByteArray) (h1 : rlLess ak af bk bf = true) (h2 : rlLess bk bf ck cf = true) : rlLess ak af ck cf = true := by
  unfold rlLess at *
  simp only [Bool.or_eq_true, Bool.and_eq_true, beq_iff_eq] at h1 h2 ⊢
  rcases h1 with h1 | ⟨e1, h1⟩
  · rcases h2 with h2 | ⟨e2, h2⟩
    · exact .inl (bl_trans _ _ _ h1 h2)
    · exact .inl (by rw [← e2]; exact h1)
  · rcases h2 with h2 | ⟨e2, h2⟩
    · exact .inl (by rw [e1]; exact h2)
    · exact .inr ⟨e1.trans e2, bl_trans _ _ _ h1 h2⟩
/-- What stands ahead of a rule of this kind and field, and what is it. -/
def ltR (k f : ByteArray) (x : Rul) : Bool := rlLess x.k x.f k f
def eqR (k f : ByteArray) (x : Rul) : Bool := (x.k.toList == k.toList) && (x.f.toList == f.toList)
theorem crI_zero (ak af bk bf : ByteArray) : (crI ak af bk bf == 0) = ((ak.toList == bk.toList) && (af.toList == bf.toList)) := by
  unfold crI
  rcases cmpI_cases ak bk with ⟨h1, h2⟩ | ⟨h1, h3, h4, h2⟩ | ⟨h1, h4, h2⟩
  · rw [h2]
    have h4 : (ak.toList == bk.toList) = false := by
      cases h : (ak.toList == bk.toList) with
      | false => rfl
      | true =>
        have e : ak.toList = bk.toList := by simpa using h
        rw [e, bl_irr] at h1; cases h1
    rw [h4]; rfl
  · rw [h2, h4]; rfl
  · rw [h2, h4]
    rcases cmpI_cases af bf with ⟨g1, g2⟩ | ⟨g1, g3, g4, g2⟩ | ⟨g1, g4, g2⟩
    · rw [if_pos rfl, g2]
      have g4 : (af.toList == bf.toList) = false := by
        cases h : (af.toList == bf.toList) with
        | false => rfl
        | true =>
          have e : af.toList = bf.toList := by simpa using h
          rw [e, bl_irr] at g1; cases g1
      rw [g4]; rfl
    · rw [if_pos rfl, g2, g4]; rfl
    · rw [if_pos rfl, g2, g4]; rfl
theorem crI_neg (ak af bk bf : ByteArray) : decide (crI ak af bk bf < 0) = rlLess ak af bk bf := by
  have h := crI_less ak af bk bf
  cases hr : rlLess ak af bk bf with
  | true => rw [hr] at h; simp at h; exact decide_eq_true (by omega)
  | false => rw [hr] at h; simp at h; exact decide_eq_false (by omega)
theorem riseR {rs : List Rul} (h : okL ruB ruLt rs = true) : ∀ (j i : Nat) (hj : j < rs.length) (hi : i < j), ruLt (rs[i]'(by omega)) rs[j] = true
  | j + 1, i, hj, hi => by
    have a := (okL_parts h).2 (j + 1) (by omega) hj
    by_cases he : i = j
    · subst he; exact a
    · exact rl_trans _ _ _ _ _ _ (riseR h j i (by omega) (by omega)) a
theorem monoR {rs : List Rul} (h : okL ruB ruLt rs = true) (k f : ByteArray) : ∀ j (hj : j < rs.length) i (hi : i ≤ j), ltR k f rs[j] = true → ltR k f (rs[i]'(by omega)) = true := fun j hj i hi hq => by
  by_cases he : i = j
  · subst he; exact hq
  · exact rl_trans _ _ _ _ _ _ (riseR h j i hj (by omega)) hq
theorem condR {rs : List Rul} (h : okL ruB ruLt rs = true) (k f : ByteArray) : ∀ j (hj : j < rs.length), eqR k f rs[j] = true → ltR k f rs[j] = false ∧ ∀ i (hi : i < j), ltR k f (rs[i]'(by omega)) = true := fun j hj hq => by
  unfold eqR at hq
  simp only [Bool.and_eq_true, beq_iff_eq] at hq
  obtain ⟨e1, e2⟩ := hq
  refine ⟨by unfold ltR rlLess; rw [e1, e2, bl_irr, bl_irr]; simp, fun i hi => ?_⟩
  have := riseR h j i hj hi
  unfold ruLt rlLess at this
  unfold ltR rlLess
  rw [← e1, ← e2]; exact this
end Go.Proofs.YtokkeadbkeehgaaGreatDoor
/-
  A policy of its own two rows; what stays while other memory is written.
-/
namespace Go.Proofs.YtokkeadbkeehgaaGreatDoor
open Go.RowKit Go.Lib
set_option linter.unusedVariables false

theorem intRow_len (ks : List Int) : (intRow ks).length = ks.length := by simp [intRow]
theorem IntAt.cel {w : World} {p : Option Addr} {ks : List Int} (h : IntAt w p ks) : CelAt w p (intRow ks) := fun j hj => by
  obtain ⟨b, off, e, h1, h2⟩ := h j (by simpa [intRow] using hj)
  exact ⟨b, off, e, h1, by rw [h2]; simp [intRow]⟩
theorem intAt_cel {w : World} {p : Option Addr} {ks : List Int} (h : CelAt w p (intRow ks)) : IntAt w p ks := fun j hj => by
  obtain ⟨b, off, e, h1, h2⟩ := h j (by simpa [intRow] using hj)
  exact ⟨b, off, e, h1, by rw [h2]; simp [intRow]⟩
theorem rulRow_get (rs : List Rul) (j : Nat) (hj : j < (rulRow rs).length) : ∃ v, (rulRow rs)[j]? = some v := ⟨_, List.getElem?_eq_getElem hj⟩
theorem RulAt.cel {w : World} {p : Option Addr} {rs : List Rul} (h : RulAt w p rs) : CelAt w p (rulRow rs) := fun j hj => by
  have hl : j < rs.length * 4 := by rwa [rulRow_len] at hj
  obtain ⟨b, off, e, h1, h2, h3, h4, h5⟩ := h (j / 4) (by omega)
  refine ⟨b, off, e, h1, ?_⟩
  have hr := rulRow_at rs (j / 4) (by omega)
  rw [← List.getElem?_eq_getElem hj]
  have hm : j % 4 < 4 := Nat.mod_lt _ (by omega)
  have hd : j = j / 4 * 4 + j % 4 := by omega
  have key : ∀ t, t < 4 → w.cell? ⟨b, off + (j / 4 * 4 + t), none⟩ = (rulRow rs)[j / 4 * 4 + t]? := fun t ht => by
    match t, ht with
    | 0, _ => rw [Nat.add_zero, h2, hr.1]
    | 1, _ => rw [← Nat.add_assoc, h3, hr.2.1]
    | 2, _ => rw [← Nat.add_assoc, h4, hr.2.2.1]
    | 3, _ => rw [← Nat.add_assoc, h5, hr.2.2.2]
  have k := key (j % 4) hm
  rwa [← hd] at k
theorem rulAt_cel {w : World} {p : Option Addr} {rs : List Rul} (h : CelAt w p (rulRow rs)) : RulAt w p rs := fun i hi => by
  have hl := rulRow_len rs
  have hr := rulRow_at rs i hi
  obtain ⟨b, off, rfl, h1, h2⟩ := h (i * 4) (by omega)
  have g : ∀ j (hj : j < (rulRow rs).length), w.cell? ⟨b, off + j, none⟩ = (rulRow rs)[j]? := fun j hj => by
    obtain ⟨b', off', e, _, h3⟩ := h j hj
    cases e
    rw [h3, List.getElem?_eq_getElem hj]
  exact ⟨b, off, rfl, h1, (g (i * 4) (by omega)).trans hr.1, by rw [Nat.add_assoc]; exact (g (i * 4 + 1) (by omega)).trans hr.2.1, by rw [Nat.add_assoc]; exact (g (i * 4 + 2) (by omega)).trans hr.2.2.1, by rw [Nat.add_assoc]; exact (g (i * 4 + 3) (by omega)).trans hr.2.2.2⟩
theorem oneI (ks : List Int) : ∀ u ∈ intRow ks, u.oneCell' = true := fun u hu => by
  obtain ⟨x, _, rfl⟩ := List.mem_map.1 hu; rfl
theorem oneR (rs : List Rul) : ∀ u ∈ rulRow rs, u.oneCell' = true := fun u hu => by
  unfold rulRow at hu
  obtain ⟨r, _, h⟩ := List.mem_flatMap.1 hu
  simp [rulCells] at h
  rcases h with rfl | rfl | rfl | rfl <;> rfl
theorem rulRow_take (rs : List Rul) : ∀ k, (rulRow rs).take (k * 4) = rulRow (rs.take k) := by
  induction rs with
  | nil => intro k; simp [rulRow]
  | cons r rs ih =>
    intro k
    match k with
    | 0 => simp [rulRow]
    | k + 1 =>
      have e : rulRow (r :: rs) = .string r.k :: .string r.f :: .int .i64 r.l :: .int .i64 r.m :: rulRow rs := rfl
      rw [e, show (k + 1) * 4 = k * 4 + 1 + 1 + 1 + 1 by omega]
      simp only [List.take_succ_cons]
      rw [ih k]; rfl
theorem rulRow_drop (rs : List Rul) : ∀ k, (rulRow rs).drop (k * 4) = rulRow (rs.drop k) := by
  induction rs with
  | nil => intro k; simp [rulRow]
  | cons r rs ih =>
    intro k
    match k with
    | 0 => simp
    | k + 1 =>
      have e : rulRow (r :: rs) = .string r.k :: .string r.f :: .int .i64 r.l :: .int .i64 r.m :: rulRow rs := rfl
      rw [e, show (k + 1) * 4 = k * 4 + 1 + 1 + 1 + 1 by omega]
      simp only [List.drop_succ_cons]
      exact ih k
theorem intRow_take (ks : List Int) (k : Nat) : (intRow ks).take (k * 1) = intRow (ks.take k) := by rw [Nat.mul_one]; simp [intRow, List.map_take]
theorem intRow_drop (ks : List Int) (k : Nat) : (intRow ks).drop (k * 1) = intRow (ks.drop k) := by rw [Nat.mul_one]; simp [intRow, List.map_drop]
theorem intRow_app (a b : List Int) : intRow (a ++ b) = intRow a ++ intRow b := by simp [intRow]
theorem own_lower {w : World} {base base' : Nat} {e : TypeId} {s n : Nat} {v : Value} {xs : List Value} (h : w.ownsRow base e s v n xs) (hb : base' ≤ base) : w.ownsRow base' e s v n xs := by
  refine ⟨h.1, ?_⟩
  rcases h.2 with h0 | ⟨g, cap, cur, h1, h2, h3⟩
  · exact .inl h0
  · exact .inr ⟨g, cap, cur, h1, Nat.le_trans hb h2, h3⟩
theorem own_setO {w : World} {base : Nat} {e : TypeId} {s n : Nat} {v : Value} {xs : List Value} (h : w.ownsRow base e s v n xs) (g j : Nat) (hn : some g ≠ v.ownBlock) (x : Value) : (w.setCell ⟨g, j, none⟩ x).ownsRow base e s v n xs := by
  refine ⟨h.1, ?_⟩
  rcases h.2 with h0 | ⟨g', cap, cur, rfl, h2, h3, h4⟩
  · exact .inl h0
  · have hne : g ≠ g' := fun e => hn (by rw [e]; rfl)
    exact .inr ⟨g', cap, cur, rfl, h2, Bxs.other h3 g j hne x, h4⟩
theorem own_form {w : World} {base : Nat} {e : TypeId} {s n : Nat} {v : Value} {xs : List Value} (h : w.ownsRow base e s v n xs) : ∃ p c, v = .slice p n c ∧ n ≤ c := by
  rcases h.2 with ⟨h0, h1⟩ | ⟨g, cap, cur, h1, _, _, h4, _⟩
  · exact ⟨none, 0, by rw [h0, h1], by omega⟩
  · exact ⟨_, _, h1, h4⟩
/-- A policy of its own two rows. -/
structure PolO (base : Nat) (rs : List Rul) (hs : List Int) (v1 v2 : Value) (w : World) : Prop where
  own1 : w.ownsRow base 101 4 v1 rs.length (rulRow rs)
  own2 : w.ownsRow base 2 1 v2 hs.length (intRow hs)
  ne : v1.ownBlock = none ∨ v1.ownBlock ≠ v2.ownBlock
theorem PolO.nil (base : Nat) (w : World) : PolO base [] [] (.slice none 0 0) (.slice none 0 0) w := ⟨World.ownsRow_nil _ _ _ _, World.ownsRow_nil _ _ _ _, .inl rfl⟩
theorem PolO.below {base : Nat} {rs : List Rul} {hs : List Int} {v1 v2 : Value} {w w' : World} (h : PolO base rs hs v1 v2 w) (hb : Below w.heap.size w w') : PolO base rs hs v1 v2 w' := ⟨ownS_below h.own1 hb, ownS_below h.own2 hb, h.ne⟩
theorem PolO.lower {base base' : Nat} {rs : List Rul} {hs : List Int} {v1 v2 : Value} {w : World} (h : PolO base rs hs v1 v2 w) (hb : base' ≤ base) : PolO base' rs hs v1 v2 w := ⟨own_lower h.own1 hb, own_lower h.own2 hb, h.ne⟩
theorem PolO.lt {base : Nat} {rs : List Rul} {hs : List Int} {v1 v2 : Value} {w : World} (h : PolO base rs hs v1 v2 w) : (∀ j, v1.ownBlock = some j → base ≤ j ∧ j < w.heap.size) ∧ ∀ j, v2.ownBlock = some j → base ≤ j ∧ j < w.heap.size := ⟨fun j hj => h.own1.lt j hj, fun j hj => h.own2.lt j hj⟩
theorem PolO.set {base : Nat} {rs : List Rul} {hs : List Int} {v1 v2 : Value} {w : World} (h : PolO base rs hs v1 v2 w) {g : Nat} (hg : g < base) (j : Nat) (x : Value) : PolO base rs hs v1 v2 (w.setCell ⟨g, j, none⟩ x) := ⟨own_setO h.own1 g j (fun e => by have := (h.lt.1 g e.symm).1; omega) x, own_setO h.own2 g j (fun e => by have := (h.lt.2 g e.symm).1; omega) x, h.ne⟩
theorem PolO.setN {base : Nat} {rs : List Rul} {hs : List Int} {v1 v2 : Value} {w : World} (h : PolO base rs hs v1 v2 w) {g : Nat} (h1 : some g ≠ v1.ownBlock) (h2 : some g ≠ v2.ownBlock) (j : Nat) (x : Value) : PolO base rs hs v1 v2 (w.setCell ⟨g, j, none⟩ x) := ⟨own_setO h.own1 g j h1 x, own_setO h.own2 g j h2 x, h.ne⟩
theorem PolO.form {base : Nat} {rs : List Rul} {hs : List Int} {v1 v2 : Value} {w : World} (h : PolO base rs hs v1 v2 w) : ∃ p1 c1 p2 c2, v1 = .slice p1 rs.length c1 ∧ v2 = .slice p2 hs.length c2 ∧ rs.length ≤ c1 ∧ hs.length ≤ c2 := by
  obtain ⟨p1, c1, e1, m1⟩ := own_form h.own1
  obtain ⟨p2, c2, e2, m2⟩ := own_form h.own2
  exact ⟨p1, c1, p2, c2, e1, e2, m1, m2⟩
theorem PolO.read {base : Nat} {rs : List Rul} {hs : List Int} {p1 p2 : Option Addr} {c1 c2 : Nat} {w : World} (h : PolO base rs hs (.slice p1 rs.length c1) (.slice p2 hs.length c2) w) : RulAt w p1 rs ∧ IntAt w p2 hs := ⟨rulAt_cel (own_cel h.own1), intAt_cel (own_cel h.own2)⟩
end Go.Proofs.YtokkeadbkeehgaaGreatDoor
