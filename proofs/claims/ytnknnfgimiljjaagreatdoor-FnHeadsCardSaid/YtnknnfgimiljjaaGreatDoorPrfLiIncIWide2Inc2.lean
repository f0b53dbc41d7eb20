/-
  Parts of one proof, laid as one text: PrfLi, IncI, Wide2, Inc2; what each says stands at its head.
-/
import Derived.Test.YtnknnfgimiljjaaGreatDoorRows
import Derived.Test.YtnknnfgimiljjaaGreatDoorBytesDigMath
import Derived.Test.YtnknnfgimiljjaaGreatDoorTreeMathSlABxKSlBOwnSJoinedOwnB
import Derived.Test.YtnknnfgimiljjaaGreatDoorLtMathLaMathLfMathTakesLStepAppGrKDigAllTimeIImplFCBlNotTakes
import Derived.Test.YtnknnfgimiljjaaGreatDoorPowerHalvesTreeTree2TreeHPathMathIncMathTakerTakePathConMathTakeProofConI
import Derived.Test.YtnknnfgimiljjaaGreatDoorPath2PutterPathILawSLawMLawMGLawFLawFMLawFRLawSG
import Derived.Test.YtnknnfgimiljjaaGreatDoorImplTbAsDAs2CodeOfSpecGNSpecGTFldNFldIs
import Derived.Test.YtnknnfgimiljjaaGreatDoorGetValGetTxtNumMathFldRdNumFromTmbMathLgMath
import Derived.Test.YtnknnfgimiljjaaGreatDoorLgAtKLgAnsLgRtShwKOneKFldGFldBlkRwBlkRowOpsLgO
import Derived.Test.YtnknnfgimiljjaaGreatDoorImplLg
import Derived.Test.YtnknnfgimiljjaaGreatDoorSpecLr
import Derived.Test.YtnknnfgimiljjaaGreatDoorLogRIImplPlCopiedImplClLfF
import Derived.Test.YtnknnfgimiljjaaGreatDoorSpecRtImplRt
import Derived.Test.YtnknnfgimiljjaaGreatDoorLawLgLawLhLawLzLawLmPrfLs
import Derived.Handy
import Derived.WalkSpells
import Derived.OwnWalk
import Derived.Deep.RegionHeld3
import Derived.Deep.Cut
import Derived.Test.YtnknnfgimiljjaaGreatDoorAll2LeafNode
/-
  What the specification's l09Proof and ProofAt and the program's proofAt and ProofAt answer: of a right log and a leaf that is there the proof of it, else nothing; the answer owns its memory.
-/
namespace Go.Proofs.YtnknnfgimiljjaaGreatDoor
open Go.RowKit Go.Lib
set_option linter.unusedVariables false
set_option maxRecDepth 20000

set_option maxHeartbeats 1000000 in
theorem proofAt_any (p : Option Addr) (lv : List ByteArray) (cp : Nat) (rs : List Rw) (now : Int) (i : Int) (w : World) (hT : Tabs w) (hg : lgB rs lv now = true) (hL : TxtAt w p lv) (hc : lv.length ≤ cp) (i0 : -9223372036854775808 ≤ i) (i1 : i ≤ 9223372036854775807) :
    Calls Tryz.prog 35 #[.slice p lv.length cp, .int .i64 i] w fun e w' => ∃ v, e = .returned (.agg #[.string (pfL rs lv now i), .int .i64 (pfI rs lv now i), .int .i64 (pfS rs lv now i), v]) ∧ w'.ownsRow w.heap.size 9 1 v (pfP rs lv now i).length (strRow (pfP rs lv now i)) ∧ Below w.heap.size w w' := by
  have hl := (lg_right hg).2.1
  obtain ⟨W2, hW2⟩ : ∃ W2, W2 = w.alloc (.cells #[.string ⟨#[]⟩, .int .i64 0, .int .i64 0, .slice none 0 0] 30) := ⟨_, rfl⟩
  have HW2 : Hid (W2 = w.alloc (.cells #[.string ⟨#[]⟩, .int .i64 0, .int .i64 0, .slice none 0 0] 30)) := hW2
  have B2 : Hid (Below w.heap.size w W2) := by rw [hW2]; exact (Below.refl _ _).alloc (Nat.le_refl _) _
  have K2 : Hid (Bxs W2 w.heap.size 30 #[.string ⟨#[]⟩, .int .i64 0, .int .i64 0, .slice none 0 0]) := by rw [hW2]; exact Bxs.new _ _ _
  have HK : Hid (∀ y, Below W2.heap.size W2 y → (y.cell? ⟨w.heap.size, 0, none⟩ = some (.string ⟨#[]⟩) ∧ y.cell? ⟨w.heap.size, 1, none⟩ = some (.int .i64 0) ∧ y.cell? ⟨w.heap.size, 2, none⟩ = some (.int .i64 0) ∧ y.cell? ⟨w.heap.size, 3, none⟩ = some (.slice none 0 0)) ∧ y.frozen? ⟨w.heap.size, 0, none⟩ = false ∧ y.frozen? ⟨w.heap.size, 1, none⟩ = false ∧ y.frozen? ⟨w.heap.size, 2, none⟩ = false ∧ y.frozen? ⟨w.heap.size, 3, none⟩ = false) := fun y hb => ⟨⟨(K2.out.below hb).cell 0, (K2.out.below hb).cell 1, (K2.out.below hb).cell 2, (K2.out.below hb).cell 3⟩, (K2.out.below hb).fr 0, (K2.out.below hb).fr 1, (K2.out.below hb).fr 2, (K2.out.below hb).fr 3⟩
  have HZ : Hid (w.heap.size < W2.heap.size) := K2.out.lt
  have hC := fun x => count_any p lv.length cp x
  clear hW2 K2
  by_cases h0 : i < 0
  · have d0 : decide (i < 0) = true := decide_eq_true h0
    obtain ⟨e1, e2, e3, e4⟩ := pf_no (rs := rs) (lv := lv) (now := now) (i := i) (fun h => by have := h.2.1; omega)
    rw [e1, e2, e3, e4]
    clear e1 e2 e3 e4 hC
    obtain ⟨⟨r0, r1, r2, r3⟩, f0, f1, f2, f3⟩ := HK.out W2 (Below.refl _ _)
    rw [HW2.out] at r0 r1 r2 r3 f0 f1 f2 f3
    go_enter Tryz.func35, Tryz.ntmps35
    go_wp2_with fail
    refine bodyPost_ret (v := .agg #[.string ⟨#[]⟩, .int .i64 0, .int .i64 0, .slice none 0 0]) (by simp [results, Tryz.results35, go_sem, r0, r1, r2, r3]) rfl ?_
    rw [← HW2.out]
    exact ⟨_, rfl, prf_none _ _, B2.out⟩
  · have d0 : decide (i < 0) = false := decide_eq_false h0
    by_cases h1 : (lv.length : Int) ≤ i
    · have d1 : decide ((lv.length : Int) ≤ i) = true := decide_eq_true h1
      obtain ⟨e1, e2, e3, e4⟩ := pf_no (rs := rs) (lv := lv) (now := now) (i := i) (fun h => by have := h.2.2; omega)
      rw [e1, e2, e3, e4]
      clear e1 e2 e3 e4
      have hC1 := hC W2
      go_enter Tryz.func35, Tryz.ntmps35
      go_wp2_with fail
      rw [← HW2.out]
      refine hC1.mono ?_
      rintro e y ⟨rfl, hy⟩
      rw [hy]
      clear hC hC1 HW2 hy
      obtain ⟨⟨r0, r1, r2, r3⟩, f0, f1, f2, f3⟩ := HK.out _ (Below.refl _ _)
      have HB : Hid (∀ a b c d : Value, Below w.heap.size w ((((W2.setCell ⟨w.heap.size, 0, none⟩ a).setCell ⟨w.heap.size, 1, none⟩ b).setCell ⟨w.heap.size, 2, none⟩ c).setCell ⟨w.heap.size, 3, none⟩ d)) := fun a b c d => below_set4 (chainB B2.out (Below.refl _ _)) (by omega) _ _ _ _
      clear HK B2
      go_wp2_with fail
      refine bodyPost_ret (v := .agg #[.string ⟨#[]⟩, .int .i64 0, .int .i64 0, .slice none 0 0]) (by simp [results, Tryz.results35, go_sem, r0, r1, r2, r3]) rfl ?_
      exact ⟨_, rfl, prf_none _ _, HB.out _ _ _ _⟩
    · have d1 : decide ((lv.length : Int) ≤ i) = false := decide_eq_false h1
      obtain ⟨I, rfl⟩ : ∃ I : Nat, i = (I : Int) := ⟨i.toNat, by omega⟩
      have hI : I < lv.length := by omega
      obtain ⟨e1, e2, e3, e4⟩ := pf_yes (rs := rs) (now := now) ⟨hg, by omega, by omega⟩ hI
      rw [e1, e2, e3, e4]
      obtain ⟨b, off, rfl, hb0, hc0⟩ := hL I hI
      have HC : Hid (∀ x, Below w.heap.size w x → x.cell? ⟨b, off + I, none⟩ = some (.string lv[I])) := fun x hb => (hb.cell (p := ⟨b, off + I, none⟩) hb0).trans hc0
      have hts := lg_small hg lv[I] (List.getElem_mem hI)
      have HP : Hid (∀ x, Below w.heap.size w x → Calls Tryz.prog 76 #[.slice (some ⟨b, off, none⟩) lv.length cp, .int .i64 (I : Int)] x fun e w' => ∃ v, e = .returned v ∧ w'.ownsRow x.heap.size 9 1 v (pathB lv I).length (strRow (pathB lv I)) ∧ Below x.heap.size x w') := fun x hb => by
        have := implPath_any (some ⟨b, off, none⟩) cp lv (I : Int) x (hT.to hb) (hL.below hb) (by omega) hc i0 i1
        unfold pathA at this
        rwa [if_pos ⟨entB_true hl (fun j h => lg_small hg _ (List.getElem_mem h)), by omega, by omega⟩, Int.toNat_natCast] at this
      have HJ : Hid (∀ x, Calls Tryz.prog 44 #[.slice (some ⟨x.heap.size, 0, none⟩) 1 1] (x.alloc (.cells #[.string lv[I]] 9)) fun e w' => e = .returned (.string lv[I]) ∧ Below x.heap.size x w') := fun x => by
        have hB : Bxs (x.alloc (.cells #[.string lv[I]] 9)) x.heap.size 9 #[.string lv[I]] := Bxs.new _ _ _
        have := joined_any x.heap.size 0 1 1 [lv[I]] (x.alloc (.cells #[.string lv[I]] 9)) rfl hB.lt (by omega) (by omega) (fun i hi => by
          match i, hi with
          | 0, _ => exact hB.cell 0) (by simp [sumN, catN]; omega)
        rw [cat_one] at this
        exact this.mono (by rintro e y ⟨rfl, b⟩; exact ⟨rfl, chainB ((Below.refl _ _).alloc (Nat.le_refl _) _) b⟩)
      have hC1 := hC W2
      have j1 : (I : Int) < lv.length := by omega
      generalize lv[I] = t at *
      generalize pathB lv I = PB at *
      clear e1 e2 e3 e4 hb0 hc0 hts hL hg hT h1 h0
      go_enter Tryz.func35, Tryz.ntmps35
      go_wp2_with fail
      rw [← HW2.out]
      refine hC1.mono ?_
      rintro e y ⟨rfl, hy⟩
      rw [hy]
      clear hC1 HW2 hy
      have cI := HC.out _ B2.out
      have hJ := HJ.out W2
      go_wp2_with fail
      refine hJ.mono ?_
      rintro e y1 ⟨rfl, b1⟩
      have hC2 := hC y1
      clear hJ HJ cI
      go_wp2_with fail
      refine hC2.mono ?_
      rintro e y2 ⟨rfl, hy⟩
      rw [hy]
      clear hy
      have hP := HP.out _ (chainB B2.out b1)
      clear hC2 hC HP
      go_wp2_with fail
      refine hP.mono ?_
      rintro e y3 ⟨v, rfl, o1, b3⟩
      obtain ⟨pv, cv, rfl, mv, -⟩ := ownS_form o1
      have by2 : Below W2.heap.size W2 y3 := chainB b1 b3
      obtain ⟨⟨r0, r1, r2, r3⟩, f0, f1, f2, f3⟩ := HK.out y3 by2
      have hz := HZ.out
      have hz2 := b1.size
      clear hP b3
      have HO : Hid (∀ a b c d : Value, _) := fun a b c d => prf_out (chainB B2.out by2) (g := w.heap.size) (by omega) (by omega) o1 a b c d
      clear HK B2 o1
      go_wp2_with fail
      refine bodyPost_ret (v := .agg #[.string t, .int .i64 (I : Int), .int .i64 (lv.length : Int), .slice pv PB.length cv]) (by simp [results, Tryz.results35, go_sem, r0, r1, r2, r3]) rfl ?_
      obtain ⟨h1, h3⟩ := HO.out (.string t) (.int .i64 (I : Int)) (.int .i64 (lv.length : Int)) (.slice pv PB.length cv)
      exact ⟨_, rfl, h1, h3⟩
set_option maxHeartbeats 1000000 in
theorem implProofAt_any (p : Option Addr) (lv : List ByteArray) (cp : Nat) (q : Option Addr) (rs : List Rw) (cq : Nat) (now : Int) (i : Int) (w : World) (i0 : -9223372036854775808 ≤ i) (i1 : i ≤ 9223372036854775807) (hT : Tabs w) (hg : Laid w) (hA : LgAt p lv cp q rs cq w) :
    Calls Tryz.prog 12 #[.agg #[.slice q rs.length cq, .slice p lv.length cp, .int .i64 now], .int .i64 i] w fun e w' => ∃ v, e = .returned (.agg #[.string (pfL rs lv now i), .int .i64 (pfI rs lv now i), .int .i64 (pfS rs lv now i), v]) ∧ w'.ownsRow w.heap.size 9 1 v (pfP rs lv now i).length (strRow (pfP rs lv now i)) ∧ Below w.heap.size w w' := by
  obtain ⟨W2, hW2⟩ : ∃ W2, W2 = (w.alloc (.cells #[.slice q rs.length cq, .slice p lv.length cp, .int .i64 now] 26)).alloc (.cells #[.string ⟨#[]⟩, .int .i64 0, .int .i64 0, .slice none 0 0] 30) := ⟨_, rfl⟩
  have HW2 : Hid (W2 = (w.alloc (.cells #[.slice q rs.length cq, .slice p lv.length cp, .int .i64 now] 26)).alloc (.cells #[.string ⟨#[]⟩, .int .i64 0, .int .i64 0, .slice none 0 0] 30)) := hW2
  have B2 : Hid (Below w.heap.size w W2) := by rw [hW2]; exact ((Below.refl _ _).alloc (Nat.le_refl _) _).alloc (by simp) _
  have K1 : Hid (Bxs W2 w.heap.size 26 #[.slice q rs.length cq, .slice p lv.length cp, .int .i64 now]) := by rw [hW2]; exact (Bxs.new _ _ _).alloc _
  have K2 : Hid (Bxs W2 (w.heap.size + 1) 30 #[.string ⟨#[]⟩, .int .i64 0, .int .i64 0, .slice none 0 0]) := by
    rw [hW2]
    have := Bxs.new (w.alloc (.cells #[.slice q rs.length cq, .slice p lv.length cp, .int .i64 now] 26)) 30 #[.string ⟨#[]⟩, .int .i64 0, .int .i64 0, .slice none 0 0]
    rwa [szA] at this
  have HK : Hid (∀ y, Below W2.heap.size W2 y → (y.cell? ⟨w.heap.size + 1, 0, none⟩ = some (.string ⟨#[]⟩) ∧ y.cell? ⟨w.heap.size + 1, 1, none⟩ = some (.int .i64 0) ∧ y.cell? ⟨w.heap.size + 1, 2, none⟩ = some (.int .i64 0) ∧ y.cell? ⟨w.heap.size + 1, 3, none⟩ = some (.slice none 0 0)) ∧ y.frozen? ⟨w.heap.size + 1, 0, none⟩ = false ∧ y.frozen? ⟨w.heap.size + 1, 1, none⟩ = false ∧ y.frozen? ⟨w.heap.size + 1, 2, none⟩ = false ∧ y.frozen? ⟨w.heap.size + 1, 3, none⟩ = false) := fun y hb => ⟨⟨(K2.out.below hb).cell 0, (K2.out.below hb).cell 1, (K2.out.below hb).cell 2, (K2.out.below hb).cell 3⟩, (K2.out.below hb).fr 0, (K2.out.below hb).fr 1, (K2.out.below hb).fr 2, (K2.out.below hb).fr 3⟩
  have HZ : Hid (w.heap.size + 1 < W2.heap.size) := K2.out.lt
  have hWk := workOn_any p lv cp q rs cq now W2
  have HR : Hid (∀ x, Below w.heap.size w x → Calls Tryz.prog 31 #[.agg #[.slice p lv.length cp, .slice q rs.length cq, .int .i64 now]] x fun e w' => e = .returned (.bool (lgB rs lv now)) ∧ Below x.heap.size x w') := fun x hb => right_any p lv cp q rs cq now x (hT.to hb) (hg.below hb) (hA.below hb)
  have HP : Hid (lgB rs lv now = true → ∀ x, Below w.heap.size w x → Calls Tryz.prog 35 #[.slice p lv.length cp, .int .i64 i] x fun e w' => ∃ v, e = .returned (.agg #[.string (pfL rs lv now i), .int .i64 (pfI rs lv now i), .int .i64 (pfS rs lv now i), v]) ∧ w'.ownsRow x.heap.size 9 1 v (pfP rs lv now i).length (strRow (pfP rs lv now i)) ∧ Below x.heap.size x w') := fun hh x hb => proofAt_any p lv cp rs now i x (hT.to hb) hh (hA.tx.below hb) hA.lc i0 i1
  unfold lgC wkC at hWk
  obtain ⟨x0, x1, x2⟩ : W2.cell? ⟨w.heap.size, 0, none⟩ = some (.slice q rs.length cq) ∧ W2.cell? ⟨w.heap.size, 1, none⟩ = some (.slice p lv.length cp) ∧ W2.cell? ⟨w.heap.size, 2, none⟩ = some (.int .i64 now) := ⟨K1.out.cell 0, K1.out.cell 1, K1.out.cell 2⟩
  rw [HW2.out] at x0 x1 x2
  clear hW2 hT hg hA K1 K2
  cases hgg : lgB rs lv now with
  | false =>
    rw [hgg] at HR
    obtain ⟨e1, e2, e3, e4⟩ := pf_no (rs := rs) (lv := lv) (now := now) (i := i) (fun h => by have := h.1; rw [hgg] at this; cases this)
    rw [e1, e2, e3, e4]
    clear e1 e2 e3 e4 HP hgg
    go_enter Tryz.func12, Tryz.ntmps12
    go_wp2_with fail
    rw [← HW2.out]
    refine hWk.mono ?_
    rintro e y ⟨rfl, by_⟩
    clear hWk x0 x1 x2 HW2
    obtain ⟨Y2, hY2⟩ : ∃ Y2, Y2 = y.alloc (.cells #[.slice p lv.length cp, .slice q rs.length cq, .int .i64 now] 56) := ⟨_, rfl⟩
    have HY2 : Hid (Y2 = y.alloc (.cells #[.slice p lv.length cp, .slice q rs.length cq, .int .i64 now] 56)) := hY2
    have KY : Hid (Bxs Y2 y.heap.size 56 #[.slice p lv.length cp, .slice q rs.length cq, .int .i64 now]) := by rw [hY2]; exact Bxs.new _ _ _
    have BY : Hid (Below W2.heap.size W2 Y2) := by rw [hY2]; exact alB by_ _
    have hR := HR.out Y2 (chainB B2.out BY.out)
    obtain ⟨x0, x1, x2⟩ := KY.out.three
    rw [HY2.out] at x0 x1 x2
    clear hY2 by_ HR
    go_wp2_with fail
    rw [← HY2.out]
    refine hR.mono ?_
    rintro e y3 ⟨rfl, b3⟩
    have by3 : Below W2.heap.size W2 y3 := chainB BY.out b3
    clear hR x0 x1 x2 HY2 KY BY b3
    obtain ⟨⟨r0, r1, r2, r3⟩, f0, f1, f2, f3⟩ := HK.out y3 by3
    have HB : Hid (∀ a b c d : Value, Below w.heap.size w ((((y3.setCell ⟨w.heap.size + 1, 0, none⟩ a).setCell ⟨w.heap.size + 1, 1, none⟩ b).setCell ⟨w.heap.size + 1, 2, none⟩ c).setCell ⟨w.heap.size + 1, 3, none⟩ d)) := fun a b c d => below_set4 (chainB B2.out by3) (by omega) _ _ _ _
    clear HK B2
    go_wp2_with fail
    refine bodyPost_ret (v := .agg #[.string ⟨#[]⟩, .int .i64 0, .int .i64 0, .slice none 0 0]) (by simp [results, Tryz.results12, go_sem, r0, r1, r2, r3]) rfl ?_
    exact ⟨_, rfl, prf_none _ _, HB.out _ _ _ _⟩
  | true =>
    rw [hgg] at HR
    have HP2 := HP.out hgg
    clear HP hgg
    generalize pfL rs lv now i = t at *
    generalize pfI rs lv now i = ix at *
    generalize pfS rs lv now i = sz at *
    generalize pfP rs lv now i = PB at *
    go_enter Tryz.func12, Tryz.ntmps12
    go_wp2_with fail
    rw [← HW2.out]
    refine hWk.mono ?_
    rintro e y ⟨rfl, by_⟩
    clear hWk x0 x1 x2 HW2
    obtain ⟨Y2, hY2⟩ : ∃ Y2, Y2 = y.alloc (.cells #[.slice p lv.length cp, .slice q rs.length cq, .int .i64 now] 56) := ⟨_, rfl⟩
    have HY2 : Hid (Y2 = y.alloc (.cells #[.slice p lv.length cp, .slice q rs.length cq, .int .i64 now] 56)) := hY2
    have KY : Hid (Bxs Y2 y.heap.size 56 #[.slice p lv.length cp, .slice q rs.length cq, .int .i64 now]) := by rw [hY2]; exact Bxs.new _ _ _
    have BY : Hid (Below W2.heap.size W2 Y2) := by rw [hY2]; exact alB by_ _
    have hR := HR.out Y2 (chainB B2.out BY.out)
    obtain ⟨x0, x1, x2⟩ := KY.out.three
    rw [HY2.out] at x0 x1 x2
    clear hY2 by_ HR
    go_wp2_with fail
    rw [← HY2.out]
    refine hR.mono ?_
    rintro e y3 ⟨rfl, b3⟩
    have by3 : Below W2.heap.size W2 y3 := chainB BY.out b3
    have c0 := (KY.out.below b3).cell 0
    have hP := HP2 y3 (chainB B2.out by3)
    clear hR x0 x1 x2 HY2 KY BY b3 HP2
    go_wp2_with fail
    refine hP.mono ?_
    rintro e y4 ⟨v, rfl, o1, b4⟩
    obtain ⟨pv, cv, rfl, mv, -⟩ := ownS_form o1
    have by2 : Below W2.heap.size W2 y4 := chainB by3 b4
    obtain ⟨⟨r0, r1, r2, r3⟩, f0, f1, f2, f3⟩ := HK.out y4 by2
    have hz := HZ.out
    have hz2 := by3.size
    clear hP b4 c0
    have HO : Hid (∀ a b c d : Value, _) := fun a b c d => prf_out (chainB B2.out by2) (g := w.heap.size + 1) (by omega) (by omega) o1 a b c d
    clear HK B2 o1
    go_wp2_with fail
    refine bodyPost_ret (v := .agg #[.string t, .int .i64 ix, .int .i64 sz, .slice pv PB.length cv]) (by simp [results, Tryz.results12, go_sem, r0, r1, r2, r3]) rfl ?_
    obtain ⟨h1, h3⟩ := HO.out (.string t) (.int .i64 ix) (.int .i64 sz) (.slice pv PB.length cv)
    exact ⟨_, rfl, h1, h3⟩
end Go.Proofs.YtnknnfgimiljjaaGreatDoor
/-
  What the program's Included answers: 'incA'.
  Conditions: index and size are int64; the path's cells hold the texts; the two tables lie as the program's text lays them.
-/
namespace Go.Proofs.YtnknnfgimiljjaaGreatDoor
open Go.RowKit Go.Lib
set_option linter.unusedVariables false
set_option maxRecDepth 20000

set_option maxHeartbeats 2000000 in
theorem implInc_any (leaf : ByteArray) (i n : Int) (p : Option Addr) (cap : Nat) (ss : List ByteArray) (root : ByteArray) (w : World) (hT : Tabs w) (hp : TxtAt w p ss) (hn : ss.length ≤ 140737488355328) (hcap : ss.length ≤ cap)
    (i0 : -9223372036854775808 ≤ i) (i1 : i ≤ 9223372036854775807) (n0 : -9223372036854775808 ≤ n) (n1 : n ≤ 9223372036854775807) :
    Calls Tryz.prog 37 #[.string leaf, .int .i64 i, .int .i64 n, .slice p ss.length cap, .string root] w fun e w' => e = .returned (.bool (incA leaf i n ss root)) ∧ Below w.heap.size w w' := by
  have HT : Hid (Tabs w) := hT
  have HP : Hid (TxtAt w p ss) := hp
  clear hT hp
  have H0 : Hid (incA leaf i n ss root = if 0 ≤ i ∧ i < n ∧ ss.length ≤ 63 ∧ leaf.size = 32 ∧ root.size = 32 ∧ wideB ss = true then decide (cl leaf (dirs i.toNat n.toNat) ss = some root) else false) := rfl
  by_cases c1 : 0 ≤ i
  case neg =>
    have d1 : decide (i < 0) = true := by simp; omega
    have H : Hid (incA leaf i n ss root = false) := H0.out.trans (if_neg fun h => c1 h.1)
    go_enter Tryz.func37, Tryz.ntmps37
    go_wp2_with fail
    go_ret
    exact ⟨ret_bool H.out.symm, Below.refl _ _⟩
  have d1 : decide (i < 0) = false := by simp; omega
  by_cases c2 : i < n
  case neg =>
    have d2 : decide (n ≤ i) = true := by simp; omega
    have H : Hid (incA leaf i n ss root = false) := H0.out.trans (if_neg fun h => c2 h.2.1)
    go_enter Tryz.func37, Tryz.ntmps37
    go_wp2_with fail
    go_ret
    exact ⟨ret_bool H.out.symm, Below.refl _ _⟩
  have d2 : decide (n ≤ i) = false := by simp; omega
  by_cases c3 : ss.length ≤ 63
  case neg =>
    have d3 : decide (63 < (ss.length : Int)) = true := by simp; omega
    have H : Hid (incA leaf i n ss root = false) := H0.out.trans (if_neg fun h => c3 h.2.2.1)
    go_enter Tryz.func37, Tryz.ntmps37
    go_wp2_with fail
    go_ret
    exact ⟨ret_bool H.out.symm, Below.refl _ _⟩
  have d3 : decide (63 < (ss.length : Int)) = false := by simp; omega
  have B0 : Hid (Below w.heap.size w (w.alloc (.cells #[.string leaf, .string root] 9))) := (Below.refl _ _).alloc (Nat.le_refl _) _
  have HA := areD_any _ 2 [leaf, root] _ (two_texts w leaf root 9) (by simp) (by simp)
  by_cases c4 : leaf.size = 32 ∧ root.size = 32
  case neg =>
    have H : Hid (incA leaf i n ss root = false) := H0.out.trans (if_neg fun h => c4 ⟨h.2.2.2.1, h.2.2.2.2.1⟩)
    have HW : Hid (wideB [leaf, root] = false) := by show _ = _; simp only [wideB, List.all_cons, List.all_nil, Bool.and_true]; simpa [Bool.and_eq_false_iff] using fun a b => c4 ⟨a, b⟩
    rw [HW.out] at HA
    clear c4
    go_enter Tryz.func37, Tryz.ntmps37
    go_wp2_with fail
    refine HA.mono ?_
    rintro e w1 ⟨rfl, hw1⟩
    subst hw1
    go_wp2_with fail
    go_ret
    exact ⟨ret_bool H.out.symm, B0.out⟩
  obtain ⟨c4, c5⟩ := c4
  have HW : Hid (wideB [leaf, root] = true) := by show _ = _; simp [wideB, c4, c5]
  rw [HW.out] at HA
  clear HW
  obtain ⟨W1, hW1⟩ : ∃ W1, W1 = w.alloc (.cells #[.string leaf, .string root] 9) := ⟨_, rfl⟩
  rw [← hW1] at HA B0
  have HWA : Hid (W1 = w.alloc (.cells #[.string leaf, .string root] 9)) := hW1
  clear hW1
  have HD := areD_any p cap ss W1 (HP.out.below B0.out) hn hcap
  cases c6 : wideB ss
  · have H : Hid (incA leaf i n ss root = false) := H0.out.trans (if_neg fun h => by rw [c6] at h; exact absurd h.2.2.2.2.2 (by simp))
    rw [c6] at HD
    clear c6
    go_enter Tryz.func37, Tryz.ntmps37
    go_wp2_with fail
    rw [← HWA.out]
    refine HA.mono ?_
    rintro e w1 ⟨rfl, hw1⟩
    subst hw1
    go_wp2_with fail
    refine HD.mono ?_
    rintro e w1 ⟨rfl, hw1⟩
    subst hw1
    go_wp2_with fail
    go_ret
    exact ⟨ret_bool H.out.symm, B0.out⟩
  · have H : Hid (incA leaf i n ss root = decide (cl leaf (dirs i.toNat n.toNat) ss = some root)) := H0.out.trans (if_pos ⟨c1, c2, c3, c4, c5, c6⟩)
    rw [c6] at HD
    have h32 := wideB_all c6
    have HE : Hid (∀ a, a = (dirs i.toNat n.toNat).foldl (stepP ss) (leaf, 0) → ((a.1 = root ∧ a.2 = ss.length) ↔ cl leaf (dirs i.toNat n.toNat) ss = some root)) := by
      rintro a rfl
      have := foldP h32 c5 (dirs i.toNat n.toNat) leaf 0 c4 (Nat.zero_le _)
      rwa [List.drop_zero] at this
    clear c6 H0
    obtain ⟨I, rfl⟩ := Int.eq_ofNat_of_zero_le c1
    obtain ⟨M, rfl⟩ := Int.eq_ofNat_of_zero_le (show 0 ≤ n by omega)
    have HTK := taker_any p ss cap W1
    have HTP := fun w' => takePath_any M W1 W1.heap.size (W1.heap.size + 1) p ss cap 0 I leaf w' (HT.out.below B0.out HT.out.1) (HP.out.below B0.out) (by omega) hcap h32 (by omega) (by omega) (by omega)
    simp only [Int.toNat_natCast] at HE H
    generalize hS : (dirs I M).foldl (stepP ss) (leaf, 0) = S at *
    have HE2 : Hid ((S.1 = root ∧ S.2 = ss.length) ↔ cl leaf (dirs I M) ss = some root) := HE.out S rfl
    clear hS HE h32
    obtain ⟨X, a⟩ := S
    have HTP' : Hid (∀ w', TkS W1 W1.heap.size (W1.heap.size + 1) p ss cap 0 w' → Calls Tryz.prog 78 #[.string leaf, .int .i64 (I : Int), .int .i64 (M : Int), takeF W1.heap.size (W1.heap.size + 1)] w' fun e w'' => e = .returned (.string X) ∧ TkS W1 W1.heap.size (W1.heap.size + 1) p ss cap a w'') := HTP
    clear HTP
    dsimp only at HE2
    unfold takeF at HTP' HTK
    unfold leftF at HTK
    by_cases hx : X = root
    · have q1 : (X.toList == root.toList) = true := by rw [hx]; simp
      clear hx
      have hx : Hid (X = root) := toList_inj' q1
      by_cases ha : a = ss.length
      · have HR : Hid (decide (cl leaf (dirs I M) ss = some root) = true) := decide_eq_true (HE2.out.1 ⟨hx.out, ha⟩)
        go_enter Tryz.func37, Tryz.ntmps37
        go_wp2_with fail
        rw [← HWA.out]
        refine HA.mono ?_
        rintro e w1 ⟨rfl, hw1⟩
        subst hw1
        go_wp2_with fail
        refine HD.mono ?_
        rintro e w1 ⟨rfl, hw1⟩
        subst hw1
        go_wp2_with fail
        refine HTK.mono ?_
        rintro e w2 ⟨rfl, K2⟩
        have HK2 : Hid _ := K2
        clear K2
        go_wp2_with fail
        refine (HTP'.out _ HK2.out).mono ?_
        rintro e w3 ⟨rfl, K3⟩
        have HK3 : Hid (TkS w1 w1.heap.size (w1.heap.size + 1) p ss cap a w3) := K3
        clear K3
        go_wp2_with fail
        refine (left_any w1 w1.heap.size (w1.heap.size + 1) p ss cap a w3 (by omega) HK3.out).mono ?_
        rintro e w4 ⟨rfl, hw4⟩
        subst hw4
        go_wp2_with fail
        go_ret
        exact ⟨ret_bool (by rw [H.out, HR.out]; try (simp <;> omega)), B0.out.trans (HK3.out.bel.mono B0.out.size)⟩
      · have HR : Hid (decide (cl leaf (dirs I M) ss = some root) = false) := decide_eq_false fun h => ha (HE2.out.2 h).2
        go_enter Tryz.func37, Tryz.ntmps37
        go_wp2_with fail
        rw [← HWA.out]
        refine HA.mono ?_
        rintro e w1 ⟨rfl, hw1⟩
        subst hw1
        go_wp2_with fail
        refine HD.mono ?_
        rintro e w1 ⟨rfl, hw1⟩
        subst hw1
        go_wp2_with fail
        refine HTK.mono ?_
        rintro e w2 ⟨rfl, K2⟩
        have HK2 : Hid _ := K2
        clear K2
        go_wp2_with fail
        refine (HTP'.out _ HK2.out).mono ?_
        rintro e w3 ⟨rfl, K3⟩
        have HK3 : Hid (TkS w1 w1.heap.size (w1.heap.size + 1) p ss cap a w3) := K3
        clear K3
        go_wp2_with fail
        refine (left_any w1 w1.heap.size (w1.heap.size + 1) p ss cap a w3 (by omega) HK3.out).mono ?_
        rintro e w4 ⟨rfl, hw4⟩
        subst hw4
        go_wp2_with fail
        go_ret
        exact ⟨ret_bool (by rw [H.out, HR.out]; try (simp <;> omega)), B0.out.trans (HK3.out.bel.mono B0.out.size)⟩
    · have HR : Hid (decide (cl leaf (dirs I M) ss = some root) = false) := decide_eq_false fun h => hx (HE2.out.2 h).1
      have q1 : (X.toList == root.toList) = false := by rw [beq_eq_false_iff_ne]; exact fun h => hx (toList_inj' (by rw [h]; simp))
      clear hx
      go_enter Tryz.func37, Tryz.ntmps37
      go_wp2_with fail
      rw [← HWA.out]
      refine HA.mono ?_
      rintro e w1 ⟨rfl, hw1⟩
      subst hw1
      go_wp2_with fail
      refine HD.mono ?_
      rintro e w1 ⟨rfl, hw1⟩
      subst hw1
      go_wp2_with fail
      refine HTK.mono ?_
      rintro e w2 ⟨rfl, K2⟩
      have HK2 : Hid _ := K2
      clear K2
      go_wp2_with fail
      refine (HTP'.out _ HK2.out).mono ?_
      rintro e w3 ⟨rfl, K3⟩
      have HK3 : Hid (TkS w1 w1.heap.size (w1.heap.size + 1) p ss cap a w3) := K3
      clear K3
      go_wp2_with fail
      go_ret
      exact ⟨ret_bool (by rw [H.out, HR.out]), B0.out.trans (HK3.out.bel.mono B0.out.size)⟩
end Go.Proofs.YtnknnfgimiljjaaGreatDoor
/-
  What the specification's l03Wide answers.
  Conditions: the slice's cells hold those texts; it is at most 2^47 long.
-/
namespace Go.Proofs.YtnknnfgimiljjaaGreatDoor
open Go.RowKit Go.Lib
set_option linter.unusedVariables false

set_option maxHeartbeats 400000 in
theorem wide2_any (p : Option Addr) (cap : Nat) (ss : List ByteArray) (w : World) (hp : TxtAt w p ss) (hn : ss.length ≤ 140737488355328) (hcap : ss.length ≤ cap) :
    Calls Tryz.prog 80 #[.slice p ss.length cap] w fun e w' => e = .returned (.bool (wideB ss)) ∧ w' = w := by
  have HP : Hid (TxtAt w p ss) := hp
  clear hp
  go_enter Tryz.func80, Tryz.ntmps80
  go_wp2
  go_loop [3] (fun i => ∃ k : Nat, k ≤ ss.length ∧ i = .int .i64 k ∧ Hid (∀ j (h : j < ss.length), j < k → ss[j].size = 32)) (fun i => ss.length - (Go.RowKit.intOf i).toNat)
  case atStart => exact ⟨0, Nat.zero_le _, rfl, fun j h hk => by omega⟩
  case round =>
    obtain ⟨k, hk, rfl, HK⟩ := hrel
    by_cases hlt : k < ss.length
    · obtain ⟨b, off, rfl, hb, hck⟩ := HP.out k hlt
      by_cases h32 : ss[k].size = 32
      · have HK2 : Hid (∀ j (h : j < ss.length), j < k + 1 → ss[j].size = 32) := fun j h hj => if he : j = k then by subst he; exact h32 else HK.out j h (by omega)
        generalize ss[k] = q at *
        have h33 : (q.size : Int) = 32 := by omega
        go_wp2
        go_round
        case rel => exact ⟨k + 1, by omega, by go_num, HK2⟩
        case measure => simp [Go.RowKit.intOf]; omega
      · have HF : Hid (wideB ss = false) := wideB_false hlt h32
        generalize ss[k] = q at *
        have h33 : ¬ (q.size : Int) = 32 := by omega
        go_wp2
        go_ret
        exact ⟨ret_bool HF.out.symm, rfl⟩
    · have HF : Hid (wideB ss = true) := wideB_true fun j h => HK.out j h (by omega)
      go_wp2
      go_ret
      exact ⟨ret_bool HF.out.symm, rfl⟩

end Go.Proofs.YtnknnfgimiljjaaGreatDoor
/-
  What the specification's Included answers: 'incA'.
  Conditions: index and size are int64; the path's cells hold the texts.
-/
namespace Go.Proofs.YtnknnfgimiljjaaGreatDoor
open Go.RowKit Go.Lib
set_option linter.unusedVariables false
set_option maxRecDepth 20000

set_option maxHeartbeats 4000000 in
theorem specInc_main (leaf : ByteArray) (I M : Nat) (p : Option Addr) (cap : Nat) (ss : List ByteArray) (root : ByteArray) (w : World) (hp : TxtAt w p ss) (hn : ss.length ≤ 63) (hcap : ss.length ≤ cap)
    (hi : I < M) (hM : M ≤ 9223372036854775807) (h32 : leaf.size = 32) (hr32 : root.size = 32) (hw : wideB ss = true) :
    Calls Tryz.prog 39 #[.string leaf, .int .i64 (I : Int), .int .i64 (M : Int), .slice p ss.length cap, .string root] w fun e w' => e = .returned (.bool (decide (cl leaf (dirs I M) ss = some root))) ∧ Below w.heap.size w w' := by
  have HP : Hid (TxtAt w p ss) := hp
  have HX : Hid (∀ x ∈ ss, x.size = 32) := wideB_all hw
  have HD := wide2_any p cap ss w hp (by omega) hcap
  rw [hw] at HD
  have H0 : Hid (cl leaf (dirs I M) ss = cl leaf (itd I (M - 1)) (ss.drop 0)) := by show _ = _; rw [dirs_eq hi, List.drop_zero]
  generalize cl leaf (dirs I M) ss = G at *
  have d1 : decide (63 < (ss.length : Int)) = false := decide_eq_false (by omega)
  have d2 : ((leaf.size : Int) != 32) = false := by simp; omega
  have d3 : ((root.size : Int) != 32) = false := by simp; omega
  have d4 : decide ((I : Int) < 0) = false := decide_eq_false (by omega)
  have d5 : decide ((M : Int) ≤ (I : Int)) = false := decide_eq_false (by omega)
  have d6 : decide (M ≤ I) = false := decide_eq_false (by omega)
  clear hp hw
  have HL : Hid (leaf.size = 32) := h32
  clear h32 hr32
  go_enter Tryz.func39, Tryz.ntmps39
  go_wp2_with fail
  refine HD.mono ?_
  rintro e w1 ⟨rfl, hw1⟩
  subst hw1
  go_wp2_with fail
  clear d1 d2 d3 d4 d5 d6 HD
  go_loopw [14, 11, 12, 13] (fun vi va vl vh wr => ∃ (k a l : Nat) (h : ByteArray), k ≤ ss.length ∧ vi = .int .i64 k ∧ va = .int .i64 a ∧ vl = .int .i64 l ∧ vh = .string h ∧ a ≤ l ∧ l ≤ 9223372036854775807 ∧ Hid (h.size = 32) ∧ Hid (G = cl h (itd a l) (ss.drop k)) ∧ Hid (Below w1.heap.size w1 wr)) (fun vi _ _ _ _ => ss.length - (Go.RowKit.intOf vi).toNat)
  case atStart => exact ⟨0, I, M - 1, leaf, Nat.zero_le _, rfl, rfl, by go_num, rfl, by omega, by omega, HL, H0, Below.refl _ _⟩
  case round =>
    clear H0 HL
    obtain ⟨k, a, l, h, hk, rfl, rfl, rfl, rfl, hal, hl, hh, hG, hB⟩ := hrel
    by_cases hlt : k < ss.length
    · have hdrop : Hid (ss.drop k = ss[k] :: ss.drop (k + 1)) := List.drop_eq_getElem_cons hlt
      obtain ⟨b, off, rfl, hb, hck⟩ := HP.out k hlt
      have hc1 : wr.cell? ⟨b, off + k, none⟩ = some (.string ss[k]) := (hB.out.cell (p := ⟨b, off + k, none⟩) hb).trans hck
      have hq32 := HX.out ss[k] (List.getElem_mem hlt)
      clear hck
      generalize ss[k] = q at *
      by_cases hz : l = 0
      · subst hz
        have HF : Hid (decide (G = some root) = false) := by
          refine decide_eq_false ?_
          rw [hG.out, itd_zero, hdrop.out]; simp [cl]
        go_wp2
        go_ret
        exact ⟨ret_bool HF.out.symm, hB.out⟩
      · have n1 := specL03Node_any q h wr (by omega) (by have := hh.out; omega)
        have n2 := specL03Node_any h q wr (by have := hh.out; omega) (by omega)
        by_cases hodd : a % 2 = 1 ∨ a = l
        · have hpos : 0 < a := by omega
          have hG2 : Hid (G = cl h (itd a l) (q :: ss.drop (k + 1))) := by show _ = _; rw [hG.out, hdrop.out]
          have hfst : (((a : Int) % 2 == 1) = true) ∨ (((a : Int) % 2 == 1) = false ∧ ((a : Int) == (l : Int)) = true) := by
            rcases hodd with h1 | h1
            · exact .inl (by simp; omega)
            · by_cases h3 : a % 2 = 1
              · exact .inl (by simp; omega)
              · exact .inr ⟨by simp; omega, by simp; omega⟩
          have hsz : Hid ((nodeB q h).size = 32) := nodeB_size q h
          have hcl : Hid (∀ T, cl h (true :: T) (q :: ss.drop (k + 1)) = cl (nodeB q h) T (ss.drop (k + 1))) := fun T => by show cl h (true :: T) (q :: _) = _; simp [cl]
          generalize nodeB q h = N at *
          clear hG n2
          rcases hfst with h1 | ⟨h1, h2⟩
          all_goals (
            go_wp2_with fail
            refine n1.mono ?_
            rintro e w2 ⟨rfl, b2⟩
            have HB2 : Hid (Below w1.heap.size w1 w2) := chainB hB.out b2
            clear b2
            go_wp2_with fail
            clear hc1
            have HI : Hid (itd a l = itd a l) := rfl
            rename World => W2
            go_loopw [11, 12] (fun va vl wr => ∃ (x y : Nat), va = .int .i64 x ∧ vl = .int .i64 y ∧ 0 < x ∧ x ≤ y ∧ y ≤ 9223372036854775807 ∧ (x % 2 = 1 ∨ x = y) ∧ Hid (G = cl h (itd x y) (q :: ss.drop (k + 1))) ∧ wr = W2) (fun va _ _ => (Go.RowKit.intOf va).toNat)
            case atStart => exact ⟨a, l, rfl, rfl, hpos, hal, hl, hodd, hG2, rfl⟩
            case round =>
              clear HI hG2 h1
              obtain ⟨x, y, rfl, rfl, hx0, hxy, hy, hor, hI, rfl⟩ := hrel
              by_cases he : x % 2 = 0
              · have e1 : ((x : Int) % 2 == 0) = true := by simp; omega
                obtain rfl : x = y := by omega
                have HI2 : Hid (G = cl h (itd (x / 2) (x / 2)) (q :: ss.drop (k + 1))) := by show _ = _; rw [hI.out, itd_last (by omega) he]
                go_wp2
                go_roundw
                case rel => exact ⟨x / 2, x / 2, by go_num, by go_num, by omega, by omega, by omega, by omega, HI2, trivial⟩
                case measure => simp [Go.RowKit.intOf]; omega
              · have e1 : ((x : Int) % 2 == 0) = false := by simp; omega
                have HI2 : Hid (G = cl N (itd (x / 2) (y / 2)) (ss.drop (k + 1))) := by show _ = _; rw [hI.out, itd_odd (by omega) (by omega), hcl.out]
                go_wp2
                go_roundw
                case rel => exact ⟨k + 1, x / 2, y / 2, N, by omega, by go_num, by go_num, by go_num, rfl, by omega, by omega, hsz, HI2, HB2⟩
                case measure => simp [Go.RowKit.intOf]; omega)
        · have e1 : ((a : Int) % 2 == 1) = false := by simp; omega
          have e2 : ((a : Int) == (l : Int)) = false := by simp; omega
          have hsz : Hid ((nodeB h q).size = 32) := nodeB_size h q
          have HI2 : Hid (G = cl (nodeB h q) (itd (a / 2) (l / 2)) (ss.drop (k + 1))) := by
            show _ = _
            rw [hG.out, hdrop.out, itd_even hz (by omega) (by omega)]; simp [cl]
          generalize nodeB h q = N at *
          clear hG n1
          go_wp2_with fail
          refine n2.mono ?_
          rintro e w2 ⟨rfl, b2⟩
          have HB2 : Hid (Below w1.heap.size w1 w2) := chainB hB.out b2
          clear b2
          go_wp2_with fail
          go_roundw
          case rel => exact ⟨k + 1, a / 2, l / 2, N, by omega, by go_num, by go_num, by go_num, rfl, by omega, by omega, hsz, HI2, HB2⟩
          case measure => simp [Go.RowKit.intOf]; omega
    · have hkk : k = ss.length := by omega
      subst hkk
      rw [List.drop_of_length_le (Nat.le_refl _)] at hG
      by_cases hz : l = 0
      · subst hz
        have e1 : (((0 : Nat) : Int) == 0) = true := by simp
        have HF : Hid (decide (G = some root) = (h.toList == root.toList)) := by
          show _ = _
          rw [hG.out, itd_zero]
          by_cases hq : h = root
          · subst hq; simp [cl]
          · rw [decide_eq_false (by simp [cl, hq])]
            exact (beq_eq_false_iff_ne.2 fun hh => hq (toList_inj' (by rw [hh]; simp))).symm
        go_wp2
        go_ret
        exact ⟨ret_bool HF.out.symm, hB.out⟩
      · have e1 : ((l : Int) == 0) = false := by simp; omega
        have HF : Hid (decide (G = some root) = false) := by
          refine decide_eq_false ?_
          rw [hG.out]
          cases hc : itd a l with
          | nil => exact absurd hc (itd_nil hal hz)
          | cons d ds => simp [cl]
        go_wp2
        go_ret
        exact ⟨ret_bool HF.out.symm, hB.out⟩

set_option maxHeartbeats 2000000 in
theorem specInc_any (leaf : ByteArray) (i n : Int) (p : Option Addr) (cap : Nat) (ss : List ByteArray) (root : ByteArray) (w : World) (hp : TxtAt w p ss) (hn : ss.length ≤ 140737488355328) (hcap : ss.length ≤ cap)
    (hls : leaf.size ≤ maxLen) (hrs : root.size ≤ maxLen) (i0 : -9223372036854775808 ≤ i) (i1 : i ≤ 9223372036854775807) (n0 : -9223372036854775808 ≤ n) (n1 : n ≤ 9223372036854775807) :
    Calls Tryz.prog 39 #[.string leaf, .int .i64 i, .int .i64 n, .slice p ss.length cap, .string root] w fun e w' => e = .returned (.bool (incA leaf i n ss root)) ∧ Below w.heap.size w w' := by
  unfold maxLen at hls hrs
  have H0 : Hid (incA leaf i n ss root = if 0 ≤ i ∧ i < n ∧ ss.length ≤ 63 ∧ leaf.size = 32 ∧ root.size = 32 ∧ wideB ss = true then decide (cl leaf (dirs i.toNat n.toNat) ss = some root) else false) := rfl
  by_cases c3 : ss.length ≤ 63
  case neg =>
    have d1 : decide (63 < (ss.length : Int)) = true := decide_eq_true (by omega)
    have H : Hid (incA leaf i n ss root = false) := H0.out.trans (if_neg fun h => c3 h.2.2.1)
    go_enter Tryz.func39, Tryz.ntmps39
    go_wp2_with fail
    go_ret
    exact ⟨ret_bool H.out.symm, Below.refl _ _⟩
  have d1 : decide (63 < (ss.length : Int)) = false := decide_eq_false (by omega)
  have HD := wide2_any p cap ss w hp (by omega) hcap
  cases c6 : wideB ss
  · have H : Hid (incA leaf i n ss root = false) := H0.out.trans (if_neg fun h => by rw [c6] at h; exact absurd h.2.2.2.2.2 (by simp))
    rw [c6] at HD
    clear c6 hp
    go_enter Tryz.func39, Tryz.ntmps39
    go_wp2_with fail
    refine HD.mono ?_
    rintro e w1 ⟨rfl, hw1⟩
    subst hw1
    go_wp2_with fail
    go_ret
    exact ⟨ret_bool H.out.symm, Below.refl _ _⟩
  by_cases c4 : leaf.size = 32
  case neg =>
    have d2 : ((leaf.size : Int) != 32) = true := by simp; omega
    have H : Hid (incA leaf i n ss root = false) := H0.out.trans (if_neg fun h => c4 h.2.2.2.1)
    rw [c6] at HD
    clear c6 hp
    go_enter Tryz.func39, Tryz.ntmps39
    go_wp2_with fail
    refine HD.mono ?_
    rintro e w1 ⟨rfl, hw1⟩
    subst hw1
    go_wp2_with fail
    go_ret
    exact ⟨ret_bool H.out.symm, Below.refl _ _⟩
  have d2 : ((leaf.size : Int) != 32) = false := by simp; omega
  by_cases c5 : root.size = 32
  case neg =>
    have d3 : ((root.size : Int) != 32) = true := by simp; omega
    have H : Hid (incA leaf i n ss root = false) := H0.out.trans (if_neg fun h => c5 h.2.2.2.2.1)
    rw [c6] at HD
    clear c6 hp
    go_enter Tryz.func39, Tryz.ntmps39
    go_wp2_with fail
    refine HD.mono ?_
    rintro e w1 ⟨rfl, hw1⟩
    subst hw1
    go_wp2_with fail
    go_ret
    exact ⟨ret_bool H.out.symm, Below.refl _ _⟩
  have d3 : ((root.size : Int) != 32) = false := by simp; omega
  by_cases c1 : 0 ≤ i
  case neg =>
    have d4 : decide (i < 0) = true := decide_eq_true (by omega)
    have H : Hid (incA leaf i n ss root = false) := H0.out.trans (if_neg fun h => c1 h.1)
    rw [c6] at HD
    clear c6 hp c4 c5
    go_enter Tryz.func39, Tryz.ntmps39
    go_wp2_with fail
    refine HD.mono ?_
    rintro e w1 ⟨rfl, hw1⟩
    subst hw1
    go_wp2_with fail
    go_ret
    exact ⟨ret_bool H.out.symm, Below.refl _ _⟩
  have d4 : decide (i < 0) = false := decide_eq_false (by omega)
  by_cases c2 : i < n
  case neg =>
    have d5 : decide (n ≤ i) = true := decide_eq_true (by omega)
    have H : Hid (incA leaf i n ss root = false) := H0.out.trans (if_neg fun h => c2 h.2.1)
    rw [c6] at HD
    clear c6 hp c4 c5
    go_enter Tryz.func39, Tryz.ntmps39
    go_wp2_with fail
    refine HD.mono ?_
    rintro e w1 ⟨rfl, hw1⟩
    subst hw1
    go_wp2_with fail
    go_ret
    exact ⟨ret_bool H.out.symm, Below.refl _ _⟩
  rw [H0.out, if_pos ⟨c1, c2, c3, c4, c5, c6⟩]
  obtain ⟨I, rfl⟩ := Int.eq_ofNat_of_zero_le c1
  obtain ⟨M, rfl⟩ := Int.eq_ofNat_of_zero_le (show 0 ≤ n by omega)
  simp only [Int.toNat_natCast]
  exact specInc_main leaf I M p cap ss root w hp c3 hcap (by omega) (by omega) c4 c5 c6
end Go.Proofs.YtnknnfgimiljjaaGreatDoor
