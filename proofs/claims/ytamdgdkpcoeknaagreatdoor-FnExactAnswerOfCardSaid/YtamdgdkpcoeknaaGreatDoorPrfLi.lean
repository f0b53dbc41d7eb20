/-
  What the specification's l09Proof and ProofAt and the program's proofAt and ProofAt answer: of a right log and a leaf that is there the proof of it, else nothing; the answer owns its memory.
-/
import Derived.Test.YtamdgdkpcoeknaaGreatDoorRows
import Derived.Test.YtamdgdkpcoeknaaGreatDoorBytesDigMath
import Derived.Test.YtamdgdkpcoeknaaGreatDoorTreeMathSlASlBBxKOwnS
import Derived.Test.YtamdgdkpcoeknaaGreatDoorTimeBPutMathPutNumJoinedPutTextFldMath
import Derived.Test.YtamdgdkpcoeknaaGreatDoorLgMathLgAtKOneKFldBlkRwBlkTakes
import Derived.Test.YtamdgdkpcoeknaaGreatDoorLawLmLgAnsLgRtTakesL
import Derived.Test.YtamdgdkpcoeknaaGreatDoorFldGShwKFldHPathMathFldRiseScanMath
import Derived.Test.YtamdgdkpcoeknaaGreatDoorAll2LeafNodeTree2Path2
import Derived.Test.YtamdgdkpcoeknaaGreatDoorHalvesTreePutterPathI
import Derived.Test.YtamdgdkpcoeknaaGreatDoorFldIsTimeIGrKSpecGNSpecGTTillTwoFldN
import Derived.Test.YtamdgdkpcoeknaaGreatDoorImplLg
import Derived.Test.YtamdgdkpcoeknaaGreatDoorSpecLr
import Derived.Test.YtamdgdkpcoeknaaGreatDoorLogRITreeHImplRt
import Derived.Test.YtamdgdkpcoeknaaGreatDoorPrfLs
import Derived.Handy
import Derived.WalkSpells
import Derived.OwnWalk
import Derived.Deep.RegionHeld3
import Derived.Deep.Cut
namespace Go.Proofs.YtamdgdkpcoeknaaGreatDoor
open Go.RowKit Go.Lib
set_option linter.unusedVariables false
set_option maxRecDepth 20000

set_option maxHeartbeats 1000000 in
theorem proofAt_any (p : Option Addr) (lv : List ByteArray) (cp : Nat) (rs : List Rw) (now : Int) (i : Int) (w : World) (hT : Tabs w) (hg : lgB rs lv now = true) (hL : TxtAt w p lv) (hc : lv.length ≤ cp) (i0 : -9223372036854775808 ≤ i) (i1 : i ≤ 9223372036854775807) :
    Calls Tryz.prog 32 #[.slice p lv.length cp, .int .i64 i] w fun e w' => ∃ v, e = .returned (.agg #[.string (pfL rs lv now i), .int .i64 (pfI rs lv now i), .int .i64 (pfS rs lv now i), v]) ∧ w'.ownsRow w.heap.size 9 1 v (pfP rs lv now i).length (strRow (pfP rs lv now i)) ∧ Below w.heap.size w w' := by
  have hl := (lg_right hg).2.1
  obtain ⟨W2, hW2⟩ : ∃ W2, W2 = w.alloc (.cells #[.string ⟨#[]⟩, .int .i64 0, .int .i64 0, .slice none 0 0] 28) := ⟨_, rfl⟩
  have HW2 : Hid (W2 = w.alloc (.cells #[.string ⟨#[]⟩, .int .i64 0, .int .i64 0, .slice none 0 0] 28)) := hW2
  have B2 : Hid (Below w.heap.size w W2) := by rw [hW2]; exact (Below.refl _ _).alloc (Nat.le_refl _) _
  have K2 : Hid (Bxs W2 w.heap.size 28 #[.string ⟨#[]⟩, .int .i64 0, .int .i64 0, .slice none 0 0]) := by rw [hW2]; exact Bxs.new _ _ _
  have HK : Hid (∀ y, Below W2.heap.size W2 y → (y.cell? ⟨w.heap.size, 0, none⟩ = some (.string ⟨#[]⟩) ∧ y.cell? ⟨w.heap.size, 1, none⟩ = some (.int .i64 0) ∧ y.cell? ⟨w.heap.size, 2, none⟩ = some (.int .i64 0) ∧ y.cell? ⟨w.heap.size, 3, none⟩ = some (.slice none 0 0)) ∧ y.frozen? ⟨w.heap.size, 0, none⟩ = false ∧ y.frozen? ⟨w.heap.size, 1, none⟩ = false ∧ y.frozen? ⟨w.heap.size, 2, none⟩ = false ∧ y.frozen? ⟨w.heap.size, 3, none⟩ = false) := fun y hb => ⟨⟨(K2.out.below hb).cell 0, (K2.out.below hb).cell 1, (K2.out.below hb).cell 2, (K2.out.below hb).cell 3⟩, (K2.out.below hb).fr 0, (K2.out.below hb).fr 1, (K2.out.below hb).fr 2, (K2.out.below hb).fr 3⟩
  have HZ : Hid (w.heap.size < W2.heap.size) := K2.out.lt
  have hC := fun x => count_any p lv.length cp x
  clear hW2 K2
  by_cases h0 : i < 0
  · have d0 : decide (i < 0) = true := decide_eq_true h0
    obtain ⟨e1, e2, e3, e4⟩ := pf_no (rs := rs) (lv := lv) (now := now) (i := i) (fun h => by have := h.2.1; omega)
    rw [e1, e2, e3, e4]
    clear e1 e2 e3 e4 hC
    obtain ⟨⟨r0, r1, r2, r3⟩, f0, f1, f2, f3⟩ := HK.out W2 (Below.refl _ _)
    rw [HW2.out] at r0 r1 r2 r3 f0 f1 f2 f3
    go_enter Tryz.func32, Tryz.ntmps32
    go_wp2_with fail
    refine bodyPost_ret (v := .agg #[.string ⟨#[]⟩, .int .i64 0, .int .i64 0, .slice none 0 0]) (by simp [results, Tryz.results32, go_sem, r0, r1, r2, r3]) rfl ?_
    rw [← HW2.out]
    exact ⟨_, rfl, prf_none _ _, B2.out⟩
  · have d0 : decide (i < 0) = false := decide_eq_false h0
    by_cases h1 : (lv.length : Int) ≤ i
    · have d1 : decide ((lv.length : Int) ≤ i) = true := decide_eq_true h1
      obtain ⟨e1, e2, e3, e4⟩ := pf_no (rs := rs) (lv := lv) (now := now) (i := i) (fun h => by have := h.2.2; omega)
      rw [e1, e2, e3, e4]
      clear e1 e2 e3 e4
      have hC1 := hC W2
      go_enter Tryz.func32, Tryz.ntmps32
      go_wp2_with fail
      rw [← HW2.out]
      refine hC1.mono ?_
      rintro e y ⟨rfl, hy⟩
      rw [hy]
      clear hC hC1 HW2 hy
      obtain ⟨⟨r0, r1, r2, r3⟩, f0, f1, f2, f3⟩ := HK.out _ (Below.refl _ _)
      have HB : Hid (∀ a b c d : Value, Below w.heap.size w ((((W2.setCell ⟨w.heap.size, 0, none⟩ a).setCell ⟨w.heap.size, 1, none⟩ b).setCell ⟨w.heap.size, 2, none⟩ c).setCell ⟨w.heap.size, 3, none⟩ d)) := fun a b c d => below_set4 (chainB B2.out (Below.refl _ _)) (by omega) _ _ _ _
      clear HK B2
      go_wp2_with fail
      refine bodyPost_ret (v := .agg #[.string ⟨#[]⟩, .int .i64 0, .int .i64 0, .slice none 0 0]) (by simp [results, Tryz.results32, go_sem, r0, r1, r2, r3]) rfl ?_
      exact ⟨_, rfl, prf_none _ _, HB.out _ _ _ _⟩
    · have d1 : decide ((lv.length : Int) ≤ i) = false := decide_eq_false h1
      obtain ⟨I, rfl⟩ : ∃ I : Nat, i = (I : Int) := ⟨i.toNat, by omega⟩
      have hI : I < lv.length := by omega
      obtain ⟨e1, e2, e3, e4⟩ := pf_yes (rs := rs) (now := now) ⟨hg, by omega, by omega⟩ hI
      rw [e1, e2, e3, e4]
      obtain ⟨b, off, rfl, hb0, hc0⟩ := hL I hI
      have HC : Hid (∀ x, Below w.heap.size w x → x.cell? ⟨b, off + I, none⟩ = some (.string lv[I])) := fun x hb => (hb.cell (p := ⟨b, off + I, none⟩) hb0).trans hc0
      have hts := lg_small hg lv[I] (List.getElem_mem hI)
      have HP : Hid (∀ x, Below w.heap.size w x → Calls Tryz.prog 70 #[.slice (some ⟨b, off, none⟩) lv.length cp, .int .i64 (I : Int)] x fun e w' => ∃ v, e = .returned v ∧ w'.ownsRow x.heap.size 9 1 v (pathB lv I).length (strRow (pathB lv I)) ∧ Below x.heap.size x w') := fun x hb => by
        have := implPath_any (some ⟨b, off, none⟩) cp lv (I : Int) x (hT.to hb) (hL.below hb) (by omega) hc i0 i1
        unfold pathA at this
        rwa [if_pos ⟨entB_true hl (fun j h => lg_small hg _ (List.getElem_mem h)), by omega, by omega⟩, Int.toNat_natCast] at this
      have HJ : Hid (∀ x, Calls Tryz.prog 69 #[.slice (some ⟨x.heap.size, 0, none⟩) 1 1] (x.alloc (.cells #[.string lv[I]] 9)) fun e w' => e = .returned (.string lv[I]) ∧ Below x.heap.size x w') := fun x => by
        have hB : Bxs (x.alloc (.cells #[.string lv[I]] 9)) x.heap.size 9 #[.string lv[I]] := Bxs.new _ _ _
        have := joined_any x.heap.size 0 1 1 [lv[I]] (x.alloc (.cells #[.string lv[I]] 9)) rfl hB.lt (by omega) (by omega) (fun i hi => by
          match i, hi with
          | 0, _ => exact hB.cell 0) (by simp [sumN, catN]; omega)
        rw [cat_one] at this
        exact this.mono (by rintro e y ⟨rfl, b⟩; exact ⟨rfl, chainB ((Below.refl _ _).alloc (Nat.le_refl _) _) b⟩)
      have hC1 := hC W2
      have j1 : (I : Int) < lv.length := by omega
      generalize lv[I] = t at *
      generalize pathB lv I = PB at *
      clear e1 e2 e3 e4 hb0 hc0 hts hL hg hT h1 h0
      go_enter Tryz.func32, Tryz.ntmps32
      go_wp2_with fail
      rw [← HW2.out]
      refine hC1.mono ?_
      rintro e y ⟨rfl, hy⟩
      rw [hy]
      clear hC1 HW2 hy
      have cI := HC.out _ B2.out
      have hJ := HJ.out W2
      go_wp2_with fail
      refine hJ.mono ?_
      rintro e y1 ⟨rfl, b1⟩
      have hC2 := hC y1
      clear hJ HJ cI
      go_wp2_with fail
      refine hC2.mono ?_
      rintro e y2 ⟨rfl, hy⟩
      rw [hy]
      clear hy
      have hP := HP.out _ (chainB B2.out b1)
      clear hC2 hC HP
      go_wp2_with fail
      refine hP.mono ?_
      rintro e y3 ⟨v, rfl, o1, b3⟩
      obtain ⟨pv, cv, rfl, mv, -⟩ := ownS_form o1
      have by2 : Below W2.heap.size W2 y3 := chainB b1 b3
      obtain ⟨⟨r0, r1, r2, r3⟩, f0, f1, f2, f3⟩ := HK.out y3 by2
      have hz := HZ.out
      have hz2 := b1.size
      clear hP b3
      have HO : Hid (∀ a b c d : Value, _) := fun a b c d => prf_out (chainB B2.out by2) (g := w.heap.size) (by omega) (by omega) o1 a b c d
      clear HK B2 o1
      go_wp2_with fail
      refine bodyPost_ret (v := .agg #[.string t, .int .i64 (I : Int), .int .i64 (lv.length : Int), .slice pv PB.length cv]) (by simp [results, Tryz.results32, go_sem, r0, r1, r2, r3]) rfl ?_
      obtain ⟨h1, h3⟩ := HO.out (.string t) (.int .i64 (I : Int)) (.int .i64 (lv.length : Int)) (.slice pv PB.length cv)
      exact ⟨_, rfl, h1, h3⟩
end Go.Proofs.YtamdgdkpcoeknaaGreatDoor
