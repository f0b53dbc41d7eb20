/-
  What the program's LogTime answers: 'ltC' and the log, in new memory.
-/
import Derived.Test.YtnahmddbmmnilaaGreatDoorRows
import Derived.Test.YtnahmddbmmnilaaGreatDoorBytesDigMath
import Derived.Test.YtnahmddbmmnilaaGreatDoorSlASlBBxKOwnS
import Derived.Test.YtnahmddbmmnilaaGreatDoorJoinedPutTextFldMathFldRiseScanMath
import Derived.Test.YtnahmddbmmnilaaGreatDoorTimeBPutMathPutNum
import Derived.Test.YtnahmddbmmnilaaGreatDoorLgMathLgAtKShwK
import Derived.Test.YtnahmddbmmnilaaGreatDoorLgAnsLgRtLtMathLawLtFldIsOwnBTurn2
import Derived.Test.YtnahmddbmmnilaaGreatDoorOneKFldGFldBlkRwBlkTakes
import Derived.Test.YtnahmddbmmnilaaGreatDoorLawLkRowOpsLgO
import Derived.Test.YtnahmddbmmnilaaGreatDoorLogRICopiedPhaseK
import Derived.Test.YtnahmddbmmnilaaGreatDoorLtSAsDAs2CodeOfTimeITurnIWholeR
import Derived.Test.YtnahmddbmmnilaaGreatDoorImplCl
import Derived.Handy
import Derived.WalkSpells
import Derived.OwnWalk
import Derived.Deep.Cut
namespace Go.Proofs.YtnahmddbmmnilaaGreatDoor
open Go.RowKit Go.Lib
set_option linter.unusedVariables false
set_option maxRecDepth 20000

set_option maxHeartbeats 4000000 in
theorem implLogTime_any (p : Option Addr) (lv : List ByteArray) (cp : Nat) (q : Option Addr) (rs : List Rw) (cq : Nat) (now t : Int) (w : World) (hT : Tabs w) (hg : Laid w) (hA : LgAt p lv cp q rs cq w) (hn : -9223372036854775808 ≤ now ∧ now ≤ 9223372036854775807) (ht : -9223372036854775808 ≤ t ∧ t ≤ 9223372036854775807) :
    Calls Tryz.prog 14 #[.agg #[.slice q rs.length cq, .slice p lv.length cp, .int .i64 now], .int .i64 t] w fun e w' => LgA w.heap.size (ltR rs lv now t) (ltL rs lv now t) (ltN rs lv now t) (ltC rs lv now t) e w' ∧ Below w.heap.size w w' := by
  obtain ⟨W2, hW2⟩ : ∃ W2, W2 = (w.alloc (.cells #[.slice q rs.length cq, .slice p lv.length cp, .int .i64 now] 26)).alloc (.cells #[.slice none 0 0, .slice none 0 0, .int .i64 0, .int .i64 0] 33) := ⟨_, rfl⟩
  have HW2 : Hid (W2 = (w.alloc (.cells #[.slice q rs.length cq, .slice p lv.length cp, .int .i64 now] 26)).alloc (.cells #[.slice none 0 0, .slice none 0 0, .int .i64 0, .int .i64 0] 33)) := hW2
  have H2 : Hid (LtB w q rs.length cq p lv.length cp now W2) := lt_boxes w q rs.length cq p lv.length cp now hW2
  have hR : Calls Tryz.prog 28 #[.agg #[.slice q rs.length cq, .slice p lv.length cp, .int .i64 now]] W2 fun e w' => e = .returned (.bool (lgB rs lv now)) ∧ Below W2.heap.size W2 w' := implLogRight_any p lv cp q rs cq now W2 (hT.to H2.out.bel) (hg.below H2.out.bel) (hA.below H2.out.bel)
  have HTi : Hid (∀ x, Calls Tryz.prog 84 #[.int .i64 t] x fun e w' => e = .returned (.bool (timeB t)) ∧ w' = x) := fun x => timeRight_any t x
  have HCp : Hid (lgB rs lv now = true → ∀ x, Below w.heap.size w x → Calls Tryz.prog 74 #[.agg #[.slice q rs.length cq, .slice p lv.length cp, .int .i64 now]] x fun e w' => ∃ v1 v2 xs, e = .returned (.agg #[v1, v2, .int .i64 now]) ∧ xs.map (·.1) = rs ∧ LgO x.heap.size xs lv v1 v2 w' ∧ Below x.heap.size x w') := fun hl x hx => by
    obtain ⟨hr1, hr2, hr3⟩ := lg_right hl
    exact copiedLog_any p lv cp q rs cq now x (hA.below hx) hr3 (fun s hs => by have := lg_small hl s hs; omega)
  have HB0 : Hid (ltB rs lv now t = (lgB rs lv now && timeB t)) := rfl
  unfold ltR ltL ltN ltC
  clear hW2 hA hT hg
  generalize ltB rs lv now t = LB at *
  generalize lgB rs lv now = A at *
  generalize timeB t = B at *
  have HM1 : Hid (now < t → mxB now t = t) := fun h => if_pos h
  have HM2 : Hid (¬ now < t → mxB now t = now) := fun h => if_neg h
  generalize mxB now t = M at *
  have HZ : Hid (∀ x, LgO w.heap.size [] [] (.slice none 0 0) (.slice none 0 0) x) := fun x => LgO.nil _ _
  obtain ⟨x0, x1, x2⟩ := H2.out.thr
  obtain ⟨i0, i1, i2, i3, i4, i5, i6, i7⟩ := H2.out.res
  go_enter Tryz.func14, Tryz.ntmps14
  go_upto_region 1 with fail
  rw [← HW2.out]
  go_wp2_with fail
  with_reducible refine hR.mono ?_
  rintro e y1 ⟨rfl, z1⟩
  have H3 : Hid (LtB w q rs.length cq p lv.length cp now y1) := H2.out.below z1
  clear x0 x1 x2 i0 i1 i2 i3 i4 i5 i6 i7 H2 z1 hR
  obtain ⟨x0, x1, x2⟩ := H3.out.thr
  obtain ⟨i0, i1, i2, i3, i4, i5, i6, i7⟩ := H3.out.res
  have hTi := HTi.out y1
  cases A
  case false =>
    have hb : LB = false := by rw [HB0.out]; rfl
    subst hb
    go_wp2_with fail
    obtain ⟨K, HLo, HEd⟩ := LtB.put (q := q) (n := 0) (cq := 0) (p := p) (m := 0) (cp := 0) (now := now) (y := w) H3.out.rs H3.out.bel (HZ.out y1) (.slice none 0 0) (.slice none 0 0) (.int .i64 0) (.int .i64 1)
    generalize ((((y1.setCell ⟨w.heap.size + 1, 0, none⟩ (.slice none 0 0)).setCell ⟨w.heap.size + 1, 1, none⟩ (.slice none 0 0)).setCell ⟨w.heap.size + 1, 2, none⟩ (.int .i64 0)).setCell ⟨w.heap.size + 1, 3, none⟩ (.int .i64 1)) = zz at *
    have HLp : Hid (LgO _ _ _ _ _ zz) := HLo
    have HEn : Hid (Below w.heap.size w zz) := HEd
    have k0 : zz.cell? ⟨w.heap.size + 1, 0, none⟩ = some (.slice none 0 0) := K.cell 0
    have k1 : zz.cell? ⟨w.heap.size + 1, 1, none⟩ = some (.slice none 0 0) := K.cell 1
    have k2 : zz.cell? ⟨w.heap.size + 1, 2, none⟩ = some (.int .i64 0) := K.cell 2
    have k3 : zz.cell? ⟨w.heap.size + 1, 3, none⟩ = some (.int .i64 1) := K.cell 3
    refine bodyPost_ret (v := .agg #[.slice none 0 0, .slice none 0 0, .int .i64 0, .int .i64 1]) (by simp [results, Tryz.results14, go_sem, k0, k1, k2, k3]) rfl ?_
    exact ⟨⟨_, _, [], rfl, rfl, HLp.out⟩, HEn.out⟩
  cases B
  case false =>
    have hb : LB = false := by rw [HB0.out]; rfl
    subst hb
    go_wp2_with fail
    with_reducible refine hTi.mono ?_
    rintro e y1 ⟨rfl, rfl⟩
    go_wp2_with fail
    obtain ⟨K, HLo, HEd⟩ := LtB.put (q := q) (n := 0) (cq := 0) (p := p) (m := 0) (cp := 0) (now := now) (y := w) H3.out.rs H3.out.bel (HZ.out y1) (.slice none 0 0) (.slice none 0 0) (.int .i64 0) (.int .i64 1)
    generalize ((((y1.setCell ⟨w.heap.size + 1, 0, none⟩ (.slice none 0 0)).setCell ⟨w.heap.size + 1, 1, none⟩ (.slice none 0 0)).setCell ⟨w.heap.size + 1, 2, none⟩ (.int .i64 0)).setCell ⟨w.heap.size + 1, 3, none⟩ (.int .i64 1)) = zz at *
    have HLp : Hid (LgO _ _ _ _ _ zz) := HLo
    have HEn : Hid (Below w.heap.size w zz) := HEd
    have k0 : zz.cell? ⟨w.heap.size + 1, 0, none⟩ = some (.slice none 0 0) := K.cell 0
    have k1 : zz.cell? ⟨w.heap.size + 1, 1, none⟩ = some (.slice none 0 0) := K.cell 1
    have k2 : zz.cell? ⟨w.heap.size + 1, 2, none⟩ = some (.int .i64 0) := K.cell 2
    have k3 : zz.cell? ⟨w.heap.size + 1, 3, none⟩ = some (.int .i64 1) := K.cell 3
    refine bodyPost_ret (v := .agg #[.slice none 0 0, .slice none 0 0, .int .i64 0, .int .i64 1]) (by simp [results, Tryz.results14, go_sem, k0, k1, k2, k3]) rfl ?_
    exact ⟨⟨_, _, [], rfl, rfl, HLp.out⟩, HEn.out⟩
  have hb : LB = true := by rw [HB0.out]; rfl
  subst hb
  have hCp := HCp.out rfl y1 H3.out.bel
  go_wp2_with fail
  with_reducible refine hTi.mono ?_
  rintro e y1 ⟨rfl, rfl⟩
  go_wp2_with fail
  with_reducible refine hCp.mono ?_
  rintro e y4 ⟨v1, v2, xs, rfl, hx, ho, z4⟩
  have HX : Hid (xs.map (·.1) = rs) := hx
  have H4 : Hid (LtB w q rs.length cq p lv.length cp now (y4.alloc (.cells #[v1, v2, .int .i64 now] 26))) := H3.out.below (alB z4 _)
  have X4 : Hid (Bxs (y4.alloc (.cells #[v1, v2, .int .i64 now] 26)) y4.heap.size 26 #[v1, v2, .int .i64 now]) := Bxs.new _ _ _
  have O4 : Hid (LgO w.heap.size xs lv v1 v2 (y4.alloc (.cells #[v1, v2, .int .i64 now] 26))) := (ho.below (alB (Below.refl _ _) _)).lower H3.out.bel.size
  have hE : w.heap.size + 1 < y4.heap.size := by
    have := H3.out.rs.lt
    have := z4.size
    omega
  have HEE : Hid (w.heap.size + 1 < y4.heap.size) := hE
  obtain ⟨a1, b1, d1, hv1⟩ : ∃ a b c, v1 = .slice a b c := by
    obtain ⟨pp, cc, h, _⟩ := ho.rws.form
    exact ⟨pp, _, cc, h⟩
  obtain ⟨a2, b2, d2, hv2⟩ : ∃ a b c, v2 = .slice a b c := by
    obtain ⟨pp, cc, h, _⟩ := ownS_form ho.lvs
    exact ⟨pp, _, cc, h⟩
  subst hv1 hv2
  clear x0 x1 x2 i0 i1 i2 i3 i4 i5 i6 i7 H3 hx ho z4 hE hTi hCp
  go_upto_region 4 with fail
  generalize y4.heap.size = E at *
  generalize y4.alloc (.cells #[.slice a1 b1 d1, .slice a2 b2 d2, .int .i64 now] 26) = y5 at *
  obtain ⟨x0, x1, x2⟩ := H4.out.thr
  have c2 : y5.cell? ⟨E, 2, none⟩ = some (.int .i64 now) := X4.out.cell 2
  have g2 := X4.out.fr 2
  have H5 : Hid (Bxs (y5.setCell ⟨E, 2, none⟩ (.int .i64 M)) E 26 #[.slice a1 b1 d1, .slice a2 b2 d2, .int .i64 M] ∧ LgO w.heap.size xs lv (.slice a1 b1 d1) (.slice a2 b2 d2) (y5.setCell ⟨E, 2, none⟩ (.int .i64 M)) ∧ Bxs (y5.setCell ⟨E, 2, none⟩ (.int .i64 M)) (w.heap.size + 1) 33 #[.slice none 0 0, .slice none 0 0, .int .i64 0, .int .i64 0] ∧ Below w.heap.size w (y5.setCell ⟨E, 2, none⟩ (.int .i64 M))) := ⟨X4.out.set 2 _, O4.out.box X4.out (by decide) (by decide) (by decide) (set_grw _ _ 2 _), H4.out.rs.other E 2 (by have := HEE.out; omega) _, H4.out.bel.setCell (p := ⟨E, 2, none⟩) (by have := HEE.out; show _ ≤ E; omega) _⟩
  by_cases hmx : now < t
  case pos =>
    have e := HM1.out (by omega)
    subst e
    have f1 : decide (now < M) = true := decide_eq_true hmx
    have f2 : decide (M < now) = false := decide_eq_false (by omega)
    have f3 : decide (M ≤ now) = false := decide_eq_false (by omega)
    have f4 : decide (now ≤ M) = true := decide_eq_true (by omega)
    go_upto_region 5 with fail
    all_goals generalize y5.setCell ⟨E, 2, none⟩ (.int .i64 M) = y6 at *
    clear x0 x1 x2 c2 g2
    obtain ⟨e0, e1, e2⟩ : y6.cell? ⟨E, 0, none⟩ = some (.slice a1 b1 d1) ∧ y6.cell? ⟨E, 1, none⟩ = some (.slice a2 b2 d2) ∧ y6.cell? ⟨E, 2, none⟩ = some (.int .i64 M) := ⟨H5.out.1.cell 0, H5.out.1.cell 1, H5.out.1.cell 2⟩
    have HR6 : Hid (Bxs y6 (w.heap.size + 1) 33 #[.slice none 0 0, .slice none 0 0, .int .i64 0, .int .i64 0]) := H5.out.2.2.1
    obtain ⟨i0, i1, i2, i3, i4, i5, i6, i7⟩ : y6.cell? ⟨w.heap.size + 1, 0, none⟩ = some (.slice none 0 0) ∧ y6.cell? ⟨w.heap.size + 1, 1, none⟩ = some (.slice none 0 0) ∧ y6.cell? ⟨w.heap.size + 1, 2, none⟩ = some (.int .i64 0) ∧ y6.cell? ⟨w.heap.size + 1, 3, none⟩ = some (.int .i64 0) ∧ y6.frozen? ⟨w.heap.size + 1, 0, none⟩ = false ∧ y6.frozen? ⟨w.heap.size + 1, 1, none⟩ = false ∧ y6.frozen? ⟨w.heap.size + 1, 2, none⟩ = false ∧ y6.frozen? ⟨w.heap.size + 1, 3, none⟩ = false := ⟨HR6.out.cell 0, HR6.out.cell 1, HR6.out.cell 2, HR6.out.cell 3, HR6.out.fr 0, HR6.out.fr 1, HR6.out.fr 2, HR6.out.fr 3⟩
    go_wp2_with fail
    obtain ⟨K, HLo, HEd⟩ := LtB.put (q := q) (n := 0) (cq := 0) (p := p) (m := 0) (cp := 0) (now := 0) (y := w) HR6.out H5.out.2.2.2 H5.out.2.1 (.slice a1 b1 d1) (.slice a2 b2 d2) (.int .i64 M) (.int .i64 0)
    generalize ((((y6.setCell ⟨w.heap.size + 1, 0, none⟩ (.slice a1 b1 d1)).setCell ⟨w.heap.size + 1, 1, none⟩ (.slice a2 b2 d2)).setCell ⟨w.heap.size + 1, 2, none⟩ (.int .i64 M)).setCell ⟨w.heap.size + 1, 3, none⟩ (.int .i64 0)) = zz at *
    have HLp : Hid (LgO _ _ _ _ _ zz) := HLo
    have HEn : Hid (Below w.heap.size w zz) := HEd
    have k0 : zz.cell? ⟨w.heap.size + 1, 0, none⟩ = some (.slice a1 b1 d1) := K.cell 0
    have k1 : zz.cell? ⟨w.heap.size + 1, 1, none⟩ = some (.slice a2 b2 d2) := K.cell 1
    have k2 : zz.cell? ⟨w.heap.size + 1, 2, none⟩ = some (.int .i64 M) := K.cell 2
    have k3 : zz.cell? ⟨w.heap.size + 1, 3, none⟩ = some (.int .i64 0) := K.cell 3
    refine bodyPost_ret (v := .agg #[.slice a1 b1 d1, .slice a2 b2 d2, .int .i64 M, .int .i64 0]) (by simp [results, Tryz.results14, go_sem, k0, k1, k2, k3]) rfl ?_
    exact ⟨⟨_, _, xs, rfl, HX.out, HLp.out⟩, HEn.out⟩
  case neg =>
    have e := HM2.out (by omega)
    subst e
    have f1 : decide (M < t) = false := decide_eq_false hmx
    have f3 : decide (t ≤ M) = true := decide_eq_true (by omega)
    go_upto_region 5 with fail
    all_goals generalize y5.setCell ⟨E, 2, none⟩ (.int .i64 M) = y6 at *
    clear x0 x1 x2 c2 g2
    obtain ⟨e0, e1, e2⟩ : y6.cell? ⟨E, 0, none⟩ = some (.slice a1 b1 d1) ∧ y6.cell? ⟨E, 1, none⟩ = some (.slice a2 b2 d2) ∧ y6.cell? ⟨E, 2, none⟩ = some (.int .i64 M) := ⟨H5.out.1.cell 0, H5.out.1.cell 1, H5.out.1.cell 2⟩
    have HR6 : Hid (Bxs y6 (w.heap.size + 1) 33 #[.slice none 0 0, .slice none 0 0, .int .i64 0, .int .i64 0]) := H5.out.2.2.1
    obtain ⟨i0, i1, i2, i3, i4, i5, i6, i7⟩ : y6.cell? ⟨w.heap.size + 1, 0, none⟩ = some (.slice none 0 0) ∧ y6.cell? ⟨w.heap.size + 1, 1, none⟩ = some (.slice none 0 0) ∧ y6.cell? ⟨w.heap.size + 1, 2, none⟩ = some (.int .i64 0) ∧ y6.cell? ⟨w.heap.size + 1, 3, none⟩ = some (.int .i64 0) ∧ y6.frozen? ⟨w.heap.size + 1, 0, none⟩ = false ∧ y6.frozen? ⟨w.heap.size + 1, 1, none⟩ = false ∧ y6.frozen? ⟨w.heap.size + 1, 2, none⟩ = false ∧ y6.frozen? ⟨w.heap.size + 1, 3, none⟩ = false := ⟨HR6.out.cell 0, HR6.out.cell 1, HR6.out.cell 2, HR6.out.cell 3, HR6.out.fr 0, HR6.out.fr 1, HR6.out.fr 2, HR6.out.fr 3⟩
    go_wp2_with fail
    obtain ⟨K, HLo, HEd⟩ := LtB.put (q := q) (n := 0) (cq := 0) (p := p) (m := 0) (cp := 0) (now := 0) (y := w) HR6.out H5.out.2.2.2 H5.out.2.1 (.slice a1 b1 d1) (.slice a2 b2 d2) (.int .i64 M) (.int .i64 0)
    generalize ((((y6.setCell ⟨w.heap.size + 1, 0, none⟩ (.slice a1 b1 d1)).setCell ⟨w.heap.size + 1, 1, none⟩ (.slice a2 b2 d2)).setCell ⟨w.heap.size + 1, 2, none⟩ (.int .i64 M)).setCell ⟨w.heap.size + 1, 3, none⟩ (.int .i64 0)) = zz at *
    have HLp : Hid (LgO _ _ _ _ _ zz) := HLo
    have HEn : Hid (Below w.heap.size w zz) := HEd
    have k0 : zz.cell? ⟨w.heap.size + 1, 0, none⟩ = some (.slice a1 b1 d1) := K.cell 0
    have k1 : zz.cell? ⟨w.heap.size + 1, 1, none⟩ = some (.slice a2 b2 d2) := K.cell 1
    have k2 : zz.cell? ⟨w.heap.size + 1, 2, none⟩ = some (.int .i64 M) := K.cell 2
    have k3 : zz.cell? ⟨w.heap.size + 1, 3, none⟩ = some (.int .i64 0) := K.cell 3
    refine bodyPost_ret (v := .agg #[.slice a1 b1 d1, .slice a2 b2 d2, .int .i64 M, .int .i64 0]) (by simp [results, Tryz.results14, go_sem, k0, k1, k2, k3]) rfl ?_
    exact ⟨⟨_, _, xs, rfl, HX.out, HLp.out⟩, HEn.out⟩
end Go.Proofs.YtnahmddbmmnilaaGreatDoor
