/-
  Parts of one proof, laid as one text: PrfLi, TabsOf, TabEt; what each says stands at its head.
-/
import Derived.Test.YtnkcigobjaplkabGreatDoorRows
import Derived.Test.YtnkcigobjaplkabGreatDoorBytesDigMath
import Derived.Test.YtnkcigobjaplkabGreatDoorTreeMath
import Derived.Test.YtnkcigobjaplkabGreatDoorSlASlBBxKOwnSTakes
import Derived.Test.YtnkcigobjaplkabGreatDoorJoinedPutTextFldMath
import Derived.Test.YtnkcigobjaplkabGreatDoorTakesLTree2Path2
import Derived.Test.YtnkcigobjaplkabGreatDoorPathMathOwnBTurnIWholeR
import Derived.Test.YtnkcigobjaplkabGreatDoorPathIFldIsTimeIGrKSpecGNSpecGT
import Derived.Test.YtnkcigobjaplkabGreatDoorLgMath
import Derived.Test.YtnkcigobjaplkabGreatDoorLgAtKShwK
import Derived.Test.YtnkcigobjaplkabGreatDoorOpFOpLgLgAnsLgRt
import Derived.Test.YtnkcigobjaplkabGreatDoorImplLg
import Derived.Test.YtnkcigobjaplkabGreatDoorSpecLr
import Derived.Test.YtnkcigobjaplkabGreatDoorLogRITreeHImplRtPrfLs
import Derived.Test.YtnkcigobjaplkabGreatDoorLawFMLawLm
import Derived.Handy
import Derived.WalkSpells
import Derived.OwnWalk
import Derived.Deep.RegionHeld3
import Derived.Deep.Cut
import Derived.Test.YtnkcigobjaplkabGreatDoorBlockI
import Derived.Lib.LaidTab
import Derived.Lib.LaidU8
import Derived.Test.YtnkcigobjaplkabGreatDoorAsDAs2CodeOfRngXScopes
import Derived.LaidHandle
/-
  What the specification's l09Proof and ProofAt and the program's proofAt and ProofAt answer: of a right log and a leaf that is there the proof of it, else nothing; the answer owns its memory.
-/
namespace Go.Proofs.YtnkcigobjaplkabGreatDoor
open Go.RowKit Go.Lib
set_option linter.unusedVariables false
set_option maxRecDepth 20000

set_option maxHeartbeats 1000000 in
theorem proofAt_any (p : Option Addr) (lv : List ByteArray) (cp : Nat) (rs : List Rw) (now : Int) (i : Int) (w : World) (hT : Tabs w) (hg : lgB rs lv now = true) (hL : TxtAt w p lv) (hc : lv.length ≤ cp) (i0 : -9223372036854775808 ≤ i) (i1 : i ≤ 9223372036854775807) :
    Calls Tryz.prog 68 #[.slice p lv.length cp, .int .i64 i] w fun e w' => ∃ v, e = .returned (.agg #[.string (pfL rs lv now i), .int .i64 (pfI rs lv now i), .int .i64 (pfS rs lv now i), v]) ∧ w'.ownsRow w.heap.size 9 1 v (pfP rs lv now i).length (strRow (pfP rs lv now i)) ∧ Below w.heap.size w w' := by
  have hl := (lg_right hg).2.1
  obtain ⟨W2, hW2⟩ : ∃ W2, W2 = w.alloc (.cells #[.string ⟨#[]⟩, .int .i64 0, .int .i64 0, .slice none 0 0] 54) := ⟨_, rfl⟩
  have HW2 : Hid (W2 = w.alloc (.cells #[.string ⟨#[]⟩, .int .i64 0, .int .i64 0, .slice none 0 0] 54)) := hW2
  have B2 : Hid (Below w.heap.size w W2) := by rw [hW2]; exact (Below.refl _ _).alloc (Nat.le_refl _) _
  have K2 : Hid (Bxs W2 w.heap.size 54 #[.string ⟨#[]⟩, .int .i64 0, .int .i64 0, .slice none 0 0]) := by rw [hW2]; exact Bxs.new _ _ _
  have HK : Hid (∀ y, Below W2.heap.size W2 y → (y.cell? ⟨w.heap.size, 0, none⟩ = some (.string ⟨#[]⟩) ∧ y.cell? ⟨w.heap.size, 1, none⟩ = some (.int .i64 0) ∧ y.cell? ⟨w.heap.size, 2, none⟩ = some (.int .i64 0) ∧ y.cell? ⟨w.heap.size, 3, none⟩ = some (.slice none 0 0)) ∧ y.frozen? ⟨w.heap.size, 0, none⟩ = false ∧ y.frozen? ⟨w.heap.size, 1, none⟩ = false ∧ y.frozen? ⟨w.heap.size, 2, none⟩ = false ∧ y.frozen? ⟨w.heap.size, 3, none⟩ = false) := fun y hb => ⟨⟨(K2.out.below hb).cell 0, (K2.out.below hb).cell 1, (K2.out.below hb).cell 2, (K2.out.below hb).cell 3⟩, (K2.out.below hb).fr 0, (K2.out.below hb).fr 1, (K2.out.below hb).fr 2, (K2.out.below hb).fr 3⟩
  have HZ : Hid (w.heap.size < W2.heap.size) := K2.out.lt
  have hC := fun x => count_any p lv.length cp x
  clear hW2 K2
  by_cases h0 : i < 0
  · have d0 : decide (i < 0) = true := decide_eq_true h0
    obtain ⟨e1, e2, e3, e4⟩ := pf_no (rs := rs) (lv := lv) (now := now) (i := i) (fun h => by have := h.2.1; omega)
    rw [e1, e2, e3, e4]
    clear e1 e2 e3 e4 hC
    obtain ⟨⟨r0, r1, r2, r3⟩, f0, f1, f2, f3⟩ := HK.out W2 (Below.refl _ _)
    rw [HW2.out] at r0 r1 r2 r3 f0 f1 f2 f3
    go_enter Tryz.func68, Tryz.ntmps68
    go_wp2_with fail
    refine bodyPost_ret (v := .agg #[.string ⟨#[]⟩, .int .i64 0, .int .i64 0, .slice none 0 0]) (by simp [results, Tryz.results68, go_sem, r0, r1, r2, r3]) rfl ?_
    rw [← HW2.out]
    exact ⟨_, rfl, prf_none _ _, B2.out⟩
  · have d0 : decide (i < 0) = false := decide_eq_false h0
    by_cases h1 : (lv.length : Int) ≤ i
    · have d1 : decide ((lv.length : Int) ≤ i) = true := decide_eq_true h1
      obtain ⟨e1, e2, e3, e4⟩ := pf_no (rs := rs) (lv := lv) (now := now) (i := i) (fun h => by have := h.2.2; omega)
      rw [e1, e2, e3, e4]
      clear e1 e2 e3 e4
      have hC1 := hC W2
      go_enter Tryz.func68, Tryz.ntmps68
      go_wp2_with fail
      rw [← HW2.out]
      refine hC1.mono ?_
      rintro e y ⟨rfl, hy⟩
      rw [hy]
      clear hC hC1 HW2 hy
      obtain ⟨⟨r0, r1, r2, r3⟩, f0, f1, f2, f3⟩ := HK.out _ (Below.refl _ _)
      have HB : Hid (∀ a b c d : Value, Below w.heap.size w ((((W2.setCell ⟨w.heap.size, 0, none⟩ a).setCell ⟨w.heap.size, 1, none⟩ b).setCell ⟨w.heap.size, 2, none⟩ c).setCell ⟨w.heap.size, 3, none⟩ d)) := fun a b c d => below_set4 (chainB B2.out (Below.refl _ _)) (by omega) _ _ _ _
      clear HK B2
      go_wp2_with fail
      refine bodyPost_ret (v := .agg #[.string ⟨#[]⟩, .int .i64 0, .int .i64 0, .slice none 0 0]) (by simp [results, Tryz.results68, go_sem, r0, r1, r2, r3]) rfl ?_
      exact ⟨_, rfl, prf_none _ _, HB.out _ _ _ _⟩
    · have d1 : decide ((lv.length : Int) ≤ i) = false := decide_eq_false h1
      obtain ⟨I, rfl⟩ : ∃ I : Nat, i = (I : Int) := ⟨i.toNat, by omega⟩
      have hI : I < lv.length := by omega
      obtain ⟨e1, e2, e3, e4⟩ := pf_yes (rs := rs) (now := now) ⟨hg, by omega, by omega⟩ hI
      rw [e1, e2, e3, e4]
      obtain ⟨b, off, rfl, hb0, hc0⟩ := hL I hI
      have HC : Hid (∀ x, Below w.heap.size w x → x.cell? ⟨b, off + I, none⟩ = some (.string lv[I])) := fun x hb => (hb.cell (p := ⟨b, off + I, none⟩) hb0).trans hc0
      have hts := lg_small hg lv[I] (List.getElem_mem hI)
      have HP : Hid (∀ x, Below w.heap.size w x → Calls Tryz.prog 97 #[.slice (some ⟨b, off, none⟩) lv.length cp, .int .i64 (I : Int)] x fun e w' => ∃ v, e = .returned v ∧ w'.ownsRow x.heap.size 9 1 v (pathB lv I).length (strRow (pathB lv I)) ∧ Below x.heap.size x w') := fun x hb => by
        have := implPath_any (some ⟨b, off, none⟩) cp lv (I : Int) x (hT.to hb) (hL.below hb) (by omega) hc i0 i1
        unfold pathA at this
        rwa [if_pos ⟨entB_true hl (fun j h => lg_small hg _ (List.getElem_mem h)), by omega, by omega⟩, Int.toNat_natCast] at this
      have HJ : Hid (∀ x, Calls Tryz.prog 82 #[.slice (some ⟨x.heap.size, 0, none⟩) 1 1] (x.alloc (.cells #[.string lv[I]] 9)) fun e w' => e = .returned (.string lv[I]) ∧ Below x.heap.size x w') := fun x => by
        have hB : Bxs (x.alloc (.cells #[.string lv[I]] 9)) x.heap.size 9 #[.string lv[I]] := Bxs.new _ _ _
        have := joined_any x.heap.size 0 1 1 [lv[I]] (x.alloc (.cells #[.string lv[I]] 9)) rfl hB.lt (by omega) (by omega) (fun i hi => by
          match i, hi with
          | 0, _ => exact hB.cell 0) (by simp [sumN, catN]; omega)
        rw [cat_one] at this
        exact this.mono (by rintro e y ⟨rfl, b⟩; exact ⟨rfl, chainB ((Below.refl _ _).alloc (Nat.le_refl _) _) b⟩)
      have hC1 := hC W2
      have j1 : (I : Int) < lv.length := by omega
      generalize lv[I] = t at *
      generalize pathB lv I = PB at *
      clear e1 e2 e3 e4 hb0 hc0 hts hL hg hT h1 h0
      go_enter Tryz.func68, Tryz.ntmps68
      go_wp2_with fail
      rw [← HW2.out]
      refine hC1.mono ?_
      rintro e y ⟨rfl, hy⟩
      rw [hy]
      clear hC1 HW2 hy
      have cI := HC.out _ B2.out
      have hJ := HJ.out W2
      go_wp2_with fail
      refine hJ.mono ?_
      rintro e y1 ⟨rfl, b1⟩
      have hC2 := hC y1
      clear hJ HJ cI
      go_wp2_with fail
      refine hC2.mono ?_
      rintro e y2 ⟨rfl, hy⟩
      rw [hy]
      clear hy
      have hP := HP.out _ (chainB B2.out b1)
      clear hC2 hC HP
      go_wp2_with fail
      refine hP.mono ?_
      rintro e y3 ⟨v, rfl, o1, b3⟩
      obtain ⟨pv, cv, rfl, mv, -⟩ := ownS_form o1
      have by2 : Below W2.heap.size W2 y3 := chainB b1 b3
      obtain ⟨⟨r0, r1, r2, r3⟩, f0, f1, f2, f3⟩ := HK.out y3 by2
      have hz := HZ.out
      have hz2 := b1.size
      clear hP b3
      have HO : Hid (∀ a b c d : Value, _) := fun a b c d => prf_out (chainB B2.out by2) (g := w.heap.size) (by omega) (by omega) o1 a b c d
      clear HK B2 o1
      go_wp2_with fail
      refine bodyPost_ret (v := .agg #[.string t, .int .i64 (I : Int), .int .i64 (lv.length : Int), .slice pv PB.length cv]) (by simp [results, Tryz.results68, go_sem, r0, r1, r2, r3]) rfl ?_
      obtain ⟨h1, h3⟩ := HO.out (.string t) (.int .i64 (I : Int)) (.int .i64 (lv.length : Int)) (.slice pv PB.length cv)
      exact ⟨_, rfl, h1, h3⟩
set_option maxHeartbeats 1000000 in
theorem implProofAt_any (p : Option Addr) (lv : List ByteArray) (cp : Nat) (q : Option Addr) (rs : List Rw) (cq : Nat) (now : Int) (i : Int) (w : World) (i0 : -9223372036854775808 ≤ i) (i1 : i ≤ 9223372036854775807) (hT : Tabs w) (hg : Laid w) (hA : LgAt p lv cp q rs cq w) :
    Calls Tryz.prog 25 #[.agg #[.slice q rs.length cq, .slice p lv.length cp, .int .i64 now], .int .i64 i] w fun e w' => ∃ v, e = .returned (.agg #[.string (pfL rs lv now i), .int .i64 (pfI rs lv now i), .int .i64 (pfS rs lv now i), v]) ∧ w'.ownsRow w.heap.size 9 1 v (pfP rs lv now i).length (strRow (pfP rs lv now i)) ∧ Below w.heap.size w w' := by
  obtain ⟨W2, hW2⟩ : ∃ W2, W2 = (w.alloc (.cells #[.slice q rs.length cq, .slice p lv.length cp, .int .i64 now] 33)).alloc (.cells #[.string ⟨#[]⟩, .int .i64 0, .int .i64 0, .slice none 0 0] 54) := ⟨_, rfl⟩
  have HW2 : Hid (W2 = (w.alloc (.cells #[.slice q rs.length cq, .slice p lv.length cp, .int .i64 now] 33)).alloc (.cells #[.string ⟨#[]⟩, .int .i64 0, .int .i64 0, .slice none 0 0] 54)) := hW2
  have B2 : Hid (Below w.heap.size w W2) := by rw [hW2]; exact ((Below.refl _ _).alloc (Nat.le_refl _) _).alloc (by simp) _
  have K1 : Hid (Bxs W2 w.heap.size 33 #[.slice q rs.length cq, .slice p lv.length cp, .int .i64 now]) := by rw [hW2]; exact (Bxs.new _ _ _).alloc _
  have K2 : Hid (Bxs W2 (w.heap.size + 1) 54 #[.string ⟨#[]⟩, .int .i64 0, .int .i64 0, .slice none 0 0]) := by
    rw [hW2]
    have := Bxs.new (w.alloc (.cells #[.slice q rs.length cq, .slice p lv.length cp, .int .i64 now] 33)) 54 #[.string ⟨#[]⟩, .int .i64 0, .int .i64 0, .slice none 0 0]
    rwa [szA] at this
  have HK : Hid (∀ y, Below W2.heap.size W2 y → (y.cell? ⟨w.heap.size + 1, 0, none⟩ = some (.string ⟨#[]⟩) ∧ y.cell? ⟨w.heap.size + 1, 1, none⟩ = some (.int .i64 0) ∧ y.cell? ⟨w.heap.size + 1, 2, none⟩ = some (.int .i64 0) ∧ y.cell? ⟨w.heap.size + 1, 3, none⟩ = some (.slice none 0 0)) ∧ y.frozen? ⟨w.heap.size + 1, 0, none⟩ = false ∧ y.frozen? ⟨w.heap.size + 1, 1, none⟩ = false ∧ y.frozen? ⟨w.heap.size + 1, 2, none⟩ = false ∧ y.frozen? ⟨w.heap.size + 1, 3, none⟩ = false) := fun y hb => ⟨⟨(K2.out.below hb).cell 0, (K2.out.below hb).cell 1, (K2.out.below hb).cell 2, (K2.out.below hb).cell 3⟩, (K2.out.below hb).fr 0, (K2.out.below hb).fr 1, (K2.out.below hb).fr 2, (K2.out.below hb).fr 3⟩
  have HZ : Hid (w.heap.size + 1 < W2.heap.size) := K2.out.lt
  have hWk := workOn_any p lv cp q rs cq now W2
  have HR : Hid (∀ x, Below w.heap.size w x → Calls Tryz.prog 67 #[.agg #[.slice p lv.length cp, .slice q rs.length cq, .int .i64 now]] x fun e w' => e = .returned (.bool (lgB rs lv now)) ∧ Below x.heap.size x w') := fun x hb => right_any p lv cp q rs cq now x (hT.to hb) (hg.below hb) (hA.below hb)
  have HP : Hid (lgB rs lv now = true → ∀ x, Below w.heap.size w x → Calls Tryz.prog 68 #[.slice p lv.length cp, .int .i64 i] x fun e w' => ∃ v, e = .returned (.agg #[.string (pfL rs lv now i), .int .i64 (pfI rs lv now i), .int .i64 (pfS rs lv now i), v]) ∧ w'.ownsRow x.heap.size 9 1 v (pfP rs lv now i).length (strRow (pfP rs lv now i)) ∧ Below x.heap.size x w') := fun hh x hb => proofAt_any p lv cp rs now i x (hT.to hb) hh (hA.tx.below hb) hA.lc i0 i1
  unfold lgC wkC at hWk
  obtain ⟨x0, x1, x2⟩ : W2.cell? ⟨w.heap.size, 0, none⟩ = some (.slice q rs.length cq) ∧ W2.cell? ⟨w.heap.size, 1, none⟩ = some (.slice p lv.length cp) ∧ W2.cell? ⟨w.heap.size, 2, none⟩ = some (.int .i64 now) := ⟨K1.out.cell 0, K1.out.cell 1, K1.out.cell 2⟩
  rw [HW2.out] at x0 x1 x2
  clear hW2 hT hg hA K1 K2
  cases hgg : lgB rs lv now with
  | false =>
    rw [hgg] at HR
    obtain ⟨e1, e2, e3, e4⟩ := pf_no (rs := rs) (lv := lv) (now := now) (i := i) (fun h => by have := h.1; rw [hgg] at this; cases this)
    rw [e1, e2, e3, e4]
    clear e1 e2 e3 e4 HP hgg
    go_enter Tryz.func25, Tryz.ntmps25
    go_wp2_with fail
    rw [← HW2.out]
    refine hWk.mono ?_
    rintro e y ⟨rfl, by_⟩
    clear hWk x0 x1 x2 HW2
    obtain ⟨Y2, hY2⟩ : ∃ Y2, Y2 = y.alloc (.cells #[.slice p lv.length cp, .slice q rs.length cq, .int .i64 now] 82) := ⟨_, rfl⟩
    have HY2 : Hid (Y2 = y.alloc (.cells #[.slice p lv.length cp, .slice q rs.length cq, .int .i64 now] 82)) := hY2
    have KY : Hid (Bxs Y2 y.heap.size 82 #[.slice p lv.length cp, .slice q rs.length cq, .int .i64 now]) := by rw [hY2]; exact Bxs.new _ _ _
    have BY : Hid (Below W2.heap.size W2 Y2) := by rw [hY2]; exact alB by_ _
    have hR := HR.out Y2 (chainB B2.out BY.out)
    obtain ⟨x0, x1, x2⟩ := KY.out.three
    rw [HY2.out] at x0 x1 x2
    clear hY2 by_ HR
    go_wp2_with fail
    rw [← HY2.out]
    refine hR.mono ?_
    rintro e y3 ⟨rfl, b3⟩
    have by3 : Below W2.heap.size W2 y3 := chainB BY.out b3
    clear hR x0 x1 x2 HY2 KY BY b3
    obtain ⟨⟨r0, r1, r2, r3⟩, f0, f1, f2, f3⟩ := HK.out y3 by3
    have HB : Hid (∀ a b c d : Value, Below w.heap.size w ((((y3.setCell ⟨w.heap.size + 1, 0, none⟩ a).setCell ⟨w.heap.size + 1, 1, none⟩ b).setCell ⟨w.heap.size + 1, 2, none⟩ c).setCell ⟨w.heap.size + 1, 3, none⟩ d)) := fun a b c d => below_set4 (chainB B2.out by3) (by omega) _ _ _ _
    clear HK B2
    go_wp2_with fail
    refine bodyPost_ret (v := .agg #[.string ⟨#[]⟩, .int .i64 0, .int .i64 0, .slice none 0 0]) (by simp [results, Tryz.results25, go_sem, r0, r1, r2, r3]) rfl ?_
    exact ⟨_, rfl, prf_none _ _, HB.out _ _ _ _⟩
  | true =>
    rw [hgg] at HR
    have HP2 := HP.out hgg
    clear HP hgg
    generalize pfL rs lv now i = t at *
    generalize pfI rs lv now i = ix at *
    generalize pfS rs lv now i = sz at *
    generalize pfP rs lv now i = PB at *
    go_enter Tryz.func25, Tryz.ntmps25
    go_wp2_with fail
    rw [← HW2.out]
    refine hWk.mono ?_
    rintro e y ⟨rfl, by_⟩
    clear hWk x0 x1 x2 HW2
    obtain ⟨Y2, hY2⟩ : ∃ Y2, Y2 = y.alloc (.cells #[.slice p lv.length cp, .slice q rs.length cq, .int .i64 now] 82) := ⟨_, rfl⟩
    have HY2 : Hid (Y2 = y.alloc (.cells #[.slice p lv.length cp, .slice q rs.length cq, .int .i64 now] 82)) := hY2
    have KY : Hid (Bxs Y2 y.heap.size 82 #[.slice p lv.length cp, .slice q rs.length cq, .int .i64 now]) := by rw [hY2]; exact Bxs.new _ _ _
    have BY : Hid (Below W2.heap.size W2 Y2) := by rw [hY2]; exact alB by_ _
    have hR := HR.out Y2 (chainB B2.out BY.out)
    obtain ⟨x0, x1, x2⟩ := KY.out.three
    rw [HY2.out] at x0 x1 x2
    clear hY2 by_ HR
    go_wp2_with fail
    rw [← HY2.out]
    refine hR.mono ?_
    rintro e y3 ⟨rfl, b3⟩
    have by3 : Below W2.heap.size W2 y3 := chainB BY.out b3
    have c0 := (KY.out.below b3).cell 0
    have hP := HP2 y3 (chainB B2.out by3)
    clear hR x0 x1 x2 HY2 KY BY b3 HP2
    go_wp2_with fail
    refine hP.mono ?_
    rintro e y4 ⟨v, rfl, o1, b4⟩
    obtain ⟨pv, cv, rfl, mv, -⟩ := ownS_form o1
    have by2 : Below W2.heap.size W2 y4 := chainB by3 b4
    obtain ⟨⟨r0, r1, r2, r3⟩, f0, f1, f2, f3⟩ := HK.out y4 by2
    have hz := HZ.out
    have hz2 := by3.size
    clear hP b4 c0
    have HO : Hid (∀ a b c d : Value, _) := fun a b c d => prf_out (chainB B2.out by2) (g := w.heap.size + 1) (by omega) (by omega) o1 a b c d
    clear HK B2 o1
    go_wp2_with fail
    refine bodyPost_ret (v := .agg #[.string t, .int .i64 ix, .int .i64 sz, .slice pv PB.length cv]) (by simp [results, Tryz.results25, go_sem, r0, r1, r2, r3]) rfl ?_
    obtain ⟨h1, h3⟩ := HO.out (.string t) (.int .i64 ix) (.int .i64 sz) (.slice pv PB.length cv)
    exact ⟨_, rfl, h1, h3⟩
end Go.Proofs.YtnkcigobjaplkabGreatDoor
/-
  What the two listed tables give a walk: 'Tabs'.
-/
namespace Go.Proofs.YtnkcigobjaplkabGreatDoor
open Go.RowKit Go.Lib
set_option linter.unusedVariables false

theorem g0 : Tryz.prog.globalNamed "loop.example/g00633/impl.firstState" = some 0 := by kernel_rfl
theorem g1 : Tryz.prog.globalNamed "loop.example/g00633/impl.roundNums" = some 1 := by kernel_rfl
theorem tab_of {W : World} {name : String} {zs : List Int} {g : Nat} {t : TypeId} {n : Nat} (hg : Tryz.prog.globalNamed name = some g) (hty : (Tryz.prog.globals[g]?).map (·.type) = some t) (ht : Tryz.prog.underlying t = some (.array n 108)) (hct : Tryz.prog.cellsOf t = n)
    (h : VarReads Tryz.prog W name (tabData .u32 zs)) (i : Nat) (hi : i < zs.length) : W.cell? ⟨g, i, none⟩ = some (.int .u32 (zs.getD i 0)) := by
  obtain ⟨g', t', cs, fuel, p, h1, h2, h3, h4⟩ := h
  obtain rfl := Option.some.inj (hg.symm.trans h1)
  obtain rfl := Option.some.inj (hty.symm.trans h2)
  refine TabIs.cell (P := Tryz.prog) (name := name) ?_ hg i hi
  unfold TabIs
  rw [h3, ← cells_of_tab ht Tryz.underlying108 (by kernel_rfl) hct h4]
theorem tabs_of {W : World} (h : laidMet Tryz.prog [("loop.example/g00633/impl.firstState", Rows.laid_loop_example_g00633_impl_firstState), ("loop.example/g00633/impl.roundNums", Rows.laid_loop_example_g00633_impl_roundNums)] W) : Tabs W := by
  have r0 : VarReads Tryz.prog W "loop.example/g00633/impl.firstState" (tabData .u32 startN) := laidMet.reads h (.head _)
  have r1 : VarReads Tryz.prog W "loop.example/g00633/impl.roundNums" (tabData .u32 keysN) := laidMet.reads h (.tail _ (.head _))
  have c0 := tab_of g0 (by kernel_rfl) (t := 184) (n := 8) (by kernel_rfl) (by kernel_rfl) r0
  have c1 := tab_of g1 (by kernel_rfl) (t := 192) (n := 64) (by kernel_rfl) (by kernel_rfl) r1
  exact ⟨World.block_lt_of_cell? W ⟨1, 0, none⟩ (c1 0 (by decide)), fun i hi => c1 i hi, fun i hi => c0 i hi⟩
end Go.Proofs.YtnkcigobjaplkabGreatDoor
/-
  What the three listed variables give a walk: errors.errorType and the two tables of the digest.
-/
namespace Go.Proofs.YtnkcigobjaplkabGreatDoor
open Go.RowKit
set_option linter.unusedVariables false

theorem et3 : Tryz.prog.globalNamed "errors.errorType" = some 2 := by kernel_rfl
theorem rt3 : (Tryz.prog.cutTypes.find? (·.1 == "internal/reflectlite.rtype")).map (·.2) = some 231 := by kernel_rfl
theorem oneRow3 : ((List.range 272).filter fun t => Tryz.prog.rowNamed t [101, 114, 114, 111, 114]) = [206] := by kernel_rfl
theorem size3 : Tryz.prog.types.size = 272 := by kernel_rfl
theorem laid3_of {W : World} (h : laidMetH Tryz.prog [("errors.errorType", Rows.laid_errors_errorType), ("loop.example/g00633/impl.firstState", Rows.laid_loop_example_g00633_impl_firstState), ("loop.example/g00633/impl.roundNums", Rows.laid_loop_example_g00633_impl_roundNums)] W) : Tabs W ∧ Laid W := by
  have h' : laidMet Tryz.prog [("loop.example/g00633/impl.firstState", Rows.laid_loop_example_g00633_impl_firstState), ("loop.example/g00633/impl.roundNums", Rows.laid_loop_example_g00633_impl_roundNums)] W ∧ handlesMet Tryz.prog [("errors.errorType", Rows.laid_errors_errorType)] W := h
  refine ⟨tabs_of h'.1, ?_⟩
  obtain ⟨name, u, ty, e1, e2, e3, e4, e5⟩ := h'.2 _ (List.mem_singleton.2 rfl)
  have en : name = [101, 114, 114, 111, 114] := (Option.some.inj e1).symm
  subst en
  obtain rfl := Option.some.inj (rt3.symm.trans e2)
  have hm : ty ∈ (List.range 272).filter fun t => Tryz.prog.rowNamed t [101, 114, 114, 111, 114] := List.mem_filter.2 ⟨List.mem_range.2 (by rw [← size3]; exact e3), e4⟩
  rw [oneRow3] at hm
  obtain rfl := List.mem_singleton.1 hm
  have hh : typeHandle Tryz.prog 206 = .pointer (some ⟨3, 206, none⟩) := by kernel_rfl
  rw [hh] at e5
  show W.cell? ⟨2, 0, none⟩ = _
  simpa using World.var?_cell et3 e5 0
end Go.Proofs.YtnkcigobjaplkabGreatDoor
