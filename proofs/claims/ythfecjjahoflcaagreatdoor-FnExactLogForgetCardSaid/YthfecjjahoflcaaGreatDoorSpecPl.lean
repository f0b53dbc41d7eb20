/-
  PlaceOf, TombOf and StatusOf, as the specification answers.
  Conditions: the cells hold the rows and leaves.
-/
import Derived.Test.YthfecjjahoflcaaGreatDoorRows
import Derived.Test.YthfecjjahoflcaaGreatDoorBytesDigMathTreeMath
import Derived.Test.YthfecjjahoflcaaGreatDoorSlASlBBxKOwnSTakesLTillTwo
import Derived.Test.YthfecjjahoflcaaGreatDoorAll2FldIsFldC
import Derived.Test.YthfecjjahoflcaaGreatDoorJoinedPutTextFldMathFldGShwK
import Derived.Test.YthfecjjahoflcaaGreatDoorOneKFldBlkFldRiseScanMathGetValGetTxtNumMathFldRdNumFromTmbMath
import Derived.Test.YthfecjjahoflcaaGreatDoorImplTrLeafK
import Derived.Test.YthfecjjahoflcaaGreatDoorLgMathLgAtKRwBlkLawF
import Derived.Test.YthfecjjahoflcaaGreatDoorLawLoLawLqLgAnsLgRtLtMathLawLt
import Derived.Test.YthfecjjahoflcaaGreatDoorFldTbFldTrSpecTg
import Derived.Test.YthfecjjahoflcaaGreatDoorSpecLr
import Derived.Handy
import Derived.WalkSpells
import Derived.OwnWalk
import Derived.Deep.Cut
namespace Go.Proofs.YthfecjjahoflcaaGreatDoor
open Go.RowKit Go.Lib
set_option linter.unusedVariables false
set_option maxRecDepth 20000

theorem pl_next (lv : List ByteArray) (r : Int) (n i : Nat) (h : i < lv.length) : plFrom r n i (lv.drop i) = if (lkB lv[i] == 1) = true then (if ((n : Int) == r) = true then (i : Int) else plFrom r (n + 1) (i + 1) (lv.drop (i + 1))) else plFrom r n (i + 1) (lv.drop (i + 1)) := by
  rw [List.drop_eq_getElem_cons h, plFrom]
  have e : isRl lv[i] = (lkB lv[i] == 1) := by rw [Bool.eq_iff_iff, beq_iff_eq]; exact (lk_iff1 _).symm
  rw [e]
  simp only [beq_iff_eq]
set_option maxHeartbeats 4000000 in
theorem l09Field_any (p : Option Addr) (lv : List ByteArray) (cp : Nat) (q : Option Addr) (rs : List Rw) (cq : Nat) (now : Int) (r f : Int) (w : World) (hR : RwAt w q rs) (hn : rs.length ≤ 1048576) (hcq : rs.length ≤ cq) (hz : ∀ r ∈ rs, r.fs.length ≤ 1048576) :
    Calls Tryz.prog 47 #[.agg #[.slice q rs.length cq, .slice p lv.length cp, .int .i64 now], .int .i64 r, .int .i64 f] w fun e w' => e = .returned (.int .i64 (fcO rs r f)) ∧ Below w.heap.size w w' := by
  obtain ⟨W1, hW1⟩ : ∃ W1, W1 = w.alloc (.cells #[.slice q rs.length cq, .slice p lv.length cp, .int .i64 now] 33) := ⟨_, rfl⟩
  have HW1 : Hid (W1 = w.alloc (.cells #[.slice q rs.length cq, .slice p lv.length cp, .int .i64 now] 33)) := hW1
  have B1 : Hid (Below w.heap.size w W1) := by rw [hW1]; exact (Below.refl _ _).alloc (Nat.le_refl _) _
  have K1 : Hid (Bxs W1 w.heap.size 33 #[.slice q rs.length cq, .slice p lv.length cp, .int .i64 now]) := by rw [hW1]; exact Bxs.new _ _ _
  have HR : Hid (RwAt W1 q rs) := hR.below B1.out
  have HI1 := l07Is_any r 0 ((rs.length : Int) - 1) W1
  have x0 := K1.out.cell 0
  by_cases h1 : 0 ≤ r ∧ r ≤ (rs.length : Int) - 1
  · rw [decide_eq_true h1] at HI1
    have hrl : r.toNat < rs.length := by omega
    have hre : (r.toNat : Int) = r := Int.toNat_of_nonneg h1.1
    obtain ⟨I, rfl⟩ : ∃ I : Nat, r = (I : Int) := ⟨r.toNat, hre.symm⟩
    rw [Int.toNat_natCast] at hrl
    obtain ⟨b, off, rq, rc, rfl, hb0, c0, c1, c2, c3, c4⟩ := HR.out I hrl
    have hrI : rs.getD I rwZ = rs[I] := by rw [List.getD_eq_getElem?_getD, List.getElem?_eq_getElem hrl, Option.getD_some]
    have hfz := hz _ (List.getElem_mem hrl)
    have HI2 := l07Is_any f 0 ((rs[I].fs.length : Int) - 1) W1
    by_cases h2 : 0 ≤ f ∧ f ≤ (rs[I].fs.length : Int) - 1
    · rw [decide_eq_true h2] at HI2
      have hfl : f.toNat < rs[I].fs.length := by omega
      obtain ⟨F, rfl⟩ : ∃ F : Nat, f = (F : Int) := ⟨f.toNat, (Int.toNat_of_nonneg h2.1).symm⟩
      rw [Int.toNat_natCast] at hfl
      obtain ⟨bf, of, rfl, hbf, f0, f1, f2, f3, f4⟩ := c4 F hfl
      have HV : Hid (fcO rs (I : Int) (F : Int) = if rs[I].fs[F].g = true then 7 else 0) := by
        show _ = _
        unfold fcO fldOf
        rw [if_pos h1, Int.toNat_natCast, Int.toNat_natCast, hrI, if_pos h2, List.getD_eq_getElem?_getD, List.getElem?_eq_getElem hfl, Option.getD_some]
      clear f0 f1 f2 f3
      have iI : (I : Int) < rs.length := by omega
      have fI : (F : Int) < rs[I].fs.length := by omega
      cases hG : rs[I].fs[F].g with
      | true =>
        rw [hG] at f4
        rw [hG, if_pos rfl] at HV
        rw [HV.out]
        clear hfl c4 c0 c1 hG HV
        generalize rs[I].fs.length = FL at *
        clear hW1 hR HR hz c3 hrI h1 h2 hre hb0 hbf
        rw [HW1.out] at x0 c2 f4 HI1 HI2
        go_enter Tryz.func47, Tryz.ntmps47
        go_wp2_with (first | (go_at_call 46; with_reducible refine HI1.mono ?_; rintro e y ⟨rfl, rfl⟩) | (go_at_call 46; with_reducible refine HI2.mono ?_; rintro e y ⟨rfl, rfl⟩))
        go_ret
        rw [← HW1.out]
        exact ⟨rfl, B1.out⟩
      | false =>
        rw [hG] at f4
        rw [hG, if_neg Bool.false_ne_true] at HV
        rw [HV.out]
        clear hfl c4 c0 c1 hG HV
        generalize rs[I].fs.length = FL at *
        clear hW1 hR HR hz c3 hrI h1 h2 hre hb0 hbf
        rw [HW1.out] at x0 c2 f4 HI1 HI2
        go_enter Tryz.func47, Tryz.ntmps47
        go_wp2_with (first | (go_at_call 46; with_reducible refine HI1.mono ?_; rintro e y ⟨rfl, rfl⟩) | (go_at_call 46; with_reducible refine HI2.mono ?_; rintro e y ⟨rfl, rfl⟩))
        go_ret
        rw [← HW1.out]
        exact ⟨rfl, B1.out⟩
    · rw [decide_eq_false h2] at HI2
      have HV : Hid (fcO rs (I : Int) f = 6) := by
        show _ = _
        unfold fcO
        rw [if_pos h1, Int.toNat_natCast, hrI, if_neg h2]
      rw [HV.out]
      have iI : (I : Int) < rs.length := by omega
      generalize rs[I].fs.length = FL at *
      clear hW1 hR HR hz HV c0 c1 c3 c4 hrI h1 h2 hre hb0
      rw [HW1.out] at x0 c2 HI1 HI2
      go_enter Tryz.func47, Tryz.ntmps47
      go_wp2_with (first | (go_at_call 46; with_reducible refine HI1.mono ?_; rintro e y ⟨rfl, rfl⟩) | (go_at_call 46; with_reducible refine HI2.mono ?_; rintro e y ⟨rfl, rfl⟩))
      go_ret
      rw [← HW1.out]
      exact ⟨rfl, B1.out⟩
  · rw [decide_eq_false h1] at HI1
    have HV : Hid (fcO rs r f = 6) := by
      show _ = _
      unfold fcO
      rw [if_neg h1]
    rw [HV.out]
    clear hW1 hR HR hz HV h1
    rw [HW1.out] at x0 HI1
    go_enter Tryz.func47, Tryz.ntmps47
    go_wp2_with (first | (go_at_call 46; with_reducible refine HI1.mono ?_; rintro e y ⟨rfl, rfl⟩))
    go_ret
    rw [← HW1.out]
    exact ⟨rfl, B1.out⟩
end Go.Proofs.YthfecjjahoflcaaGreatDoor
