/-
  Parts of one proof, laid as one text: SpecPl, ImplPl, PhaseK; what each says stands at its head.
-/
import Derived.Test.YtamdgdkpcoeknaaGreatDoorRows
import Derived.Test.YtamdgdkpcoeknaaGreatDoorBytesDigMath
import Derived.Test.YtamdgdkpcoeknaaGreatDoorTreeMathSlASlBBxKOwnS
import Derived.Test.YtamdgdkpcoeknaaGreatDoorFldIsTimeIGrKSpecGNSpecGTTillTwoFldN
import Derived.Test.YtamdgdkpcoeknaaGreatDoorTimeBPutMathPutNumJoinedPutTextFldMath
import Derived.Test.YtamdgdkpcoeknaaGreatDoorGetValGetTxtNumMathFldRdNumFromTmbMath
import Derived.Test.YtamdgdkpcoeknaaGreatDoorImplTrLeafK
import Derived.Test.YtamdgdkpcoeknaaGreatDoorLgMathLgAtKOneKFldBlkRwBlkTakes
import Derived.Test.YtamdgdkpcoeknaaGreatDoorLawLmLgAnsLgRtTakesL
import Derived.Test.YtamdgdkpcoeknaaGreatDoorSpecTgFldL
import Derived.Test.YtamdgdkpcoeknaaGreatDoorSpecLr
import Derived.Handy
import Derived.WalkSpells
import Derived.OwnWalk
import Derived.Deep.Cut
import Derived.Test.YtamdgdkpcoeknaaGreatDoorAsDAs2CodeOfRngXScopesReadBits
import Derived.Test.YtamdgdkpcoeknaaGreatDoorFldGShwKFldHPathMathFldRiseScanMath
import Derived.Test.YtamdgdkpcoeknaaGreatDoorImplFCBlNot
import Derived.Test.YtamdgdkpcoeknaaGreatDoorImplOnImplFk
import Derived.Test.YtamdgdkpcoeknaaGreatDoorImplLg
import Derived.Test.YtamdgdkpcoeknaaGreatDoorPlaceIEq18ImplGn
import Derived.Test.YtamdgdkpcoeknaaGreatDoorLogRITreeHImplRt
import Derived.Deep.RegionHeld3
/-
  PlaceOf, TombOf and StatusOf, as the specification answers.
  Conditions: the cells hold the rows and leaves.
-/
namespace Go.Proofs.YtamdgdkpcoeknaaGreatDoor
open Go.RowKit Go.Lib
set_option linter.unusedVariables false
set_option maxRecDepth 20000

theorem pl_next (lv : List ByteArray) (r : Int) (n i : Nat) (h : i < lv.length) : plFrom r n i (lv.drop i) = if (lkB lv[i] == 1) = true then (if ((n : Int) == r) = true then (i : Int) else plFrom r (n + 1) (i + 1) (lv.drop (i + 1))) else plFrom r n (i + 1) (lv.drop (i + 1)) := by
  rw [List.drop_eq_getElem_cons h, plFrom]
  have e : isRl lv[i] = (lkB lv[i] == 1) := by rw [Bool.eq_iff_iff, beq_iff_eq]; exact (lk_iff1 _).symm
  rw [e]
  simp only [beq_iff_eq]
set_option maxHeartbeats 4000000 in
theorem l09Place_any (p : Option Addr) (lv : List ByteArray) (cp : Nat) (q : Option Addr) (rs : List Rw) (cq : Nat) (now r : Int) (w : World) (hL : TxtAt w p lv) (hl : lv.length ≤ 1048576) (hc : lv.length ≤ cp) (hz : TxtsLe lv) :
    Calls Tryz.prog 25 #[.agg #[.slice q rs.length cq, .slice p lv.length cp, .int .i64 now], .int .i64 r] w fun e w' => e = .returned (.int .i64 (plB lv r)) ∧ Below w.heap.size w w' := by
  obtain ⟨W1, hW1⟩ : ∃ W1, W1 = w.alloc (.cells #[.slice q rs.length cq, .slice p lv.length cp, .int .i64 now] 36) := ⟨_, rfl⟩
  have HW1 : Hid (W1 = w.alloc (.cells #[.slice q rs.length cq, .slice p lv.length cp, .int .i64 now] 36)) := hW1
  have B1 : Hid (Below w.heap.size w W1) := by rw [hW1]; exact (Below.refl _ _).alloc (Nat.le_refl _) _
  have K1 : Hid (Bxs W1 w.heap.size 36 #[.slice q rs.length cq, .slice p lv.length cp, .int .i64 now]) := by rw [hW1]; exact Bxs.new _ _ _
  have HL : Hid (TxtAt W1 p lv) := hL.below B1.out
  have HZ : Hid (TxtsLe lv) := hz
  clear hW1 hL hz
  go_enter Tryz.func25, Tryz.ntmps25
  go_wp2_with fail
  rw [← HW1.out]
  clear HW1
  go_loopw [6, 5] (fun ii nn wr => ∃ i n : Nat, i ≤ lv.length ∧ n ≤ i ∧ ii = .int .i64 i ∧ nn = .int .i64 n ∧ Hid (Below W1.heap.size W1 wr) ∧ Hid (plB lv r = plFrom r n i (lv.drop i))) (fun ii _ _ => lv.length - (intOf ii).toNat)
  case atStart => exact ⟨0, 0, Nat.zero_le _, Nat.le_refl _, rfl, rfl, Below.refl _ _, rfl⟩
  case round =>
    obtain ⟨i, n, hi, hni, rfl, rfl, HB, HV⟩ := hrel
    have x1 := (K1.out.below HB.out).cell 1
    by_cases hlt : i < lv.length
    · have i1 : (i : Int) < lv.length := by omega
      obtain ⟨b, off, rfl, hb0, c0⟩ := (HL.out.below HB.out) i hlt
      have hK := specLeafKind_any lv[i] wr (HZ.out _ (List.getElem_mem hlt))
      have HS : Hid (plB lv r = _) := HV.out.trans (pl_next lv r n i hlt)
      clear HV hb0
      generalize lv[i] = t at *
      generalize lkB t = C at *
      cases hC : (C == 1) with
      | false =>
        have hC' : (C != 1) = true := by rw [bne, hC]; rfl
        rw [hC, if_neg Bool.false_ne_true] at HS
        go_wp2_with fail
        refine hK.mono ?_
        rintro e y ⟨rfl, by_⟩
        have HB2 : Hid (Below W1.heap.size W1 y) := chainB HB.out by_
        clear hK x1 c0
        go_wp2_with fail
        go_roundw
        case rel => exact ⟨i + 1, n, by omega, by omega, by simp, rfl, HB2.out, HS.out⟩
        case measure => simp [intOf]; omega
      | true =>
        have hC' : (C != 1) = false := by rw [bne, hC]; rfl
        rw [hC, if_pos rfl] at HS
        cases hr : ((n : Int) == r) with
        | true =>
          rw [hr, if_pos rfl] at HS
          go_wp2_with fail
          refine hK.mono ?_
          rintro e y ⟨rfl, by_⟩
          clear hK x1 c0
          go_wp2_with fail
          go_ret
          exact ⟨by rw [HS.out]; rfl, chainB (chainB B1.out HB.out) by_⟩
        | false =>
          rw [hr, if_neg Bool.false_ne_true] at HS
          go_wp2_with fail
          refine hK.mono ?_
          rintro e y ⟨rfl, by_⟩
          have HB2 : Hid (Below W1.heap.size W1 y) := chainB HB.out by_
          clear hK x1 c0
          go_wp2_with fail
          go_roundw
          case rel => exact ⟨i + 1, n + 1, by omega, by omega, by simp, by simp, HB2.out, HS.out⟩
          case measure => simp [intOf]; omega
    · obtain rfl : i = lv.length := by omega
      have HE : Hid (plB lv r = -1) := by show _ = _; rw [HV.out, List.drop_length]; rfl
      clear HV
      go_wp2_with fail
      go_ret
      exact ⟨by rw [HE.out]; rfl, chainB B1.out HB.out⟩
set_option maxHeartbeats 4000000 in
theorem l09Field_any (p : Option Addr) (lv : List ByteArray) (cp : Nat) (q : Option Addr) (rs : List Rw) (cq : Nat) (now : Int) (r f : Int) (w : World) (hR : RwAt w q rs) (hn : rs.length ≤ 1048576) (hcq : rs.length ≤ cq) (hz : ∀ r ∈ rs, r.fs.length ≤ 1048576) :
    Calls Tryz.prog 61 #[.agg #[.slice q rs.length cq, .slice p lv.length cp, .int .i64 now], .int .i64 r, .int .i64 f] w fun e w' => e = .returned (.int .i64 (fcO rs r f)) ∧ Below w.heap.size w w' := by
  obtain ⟨W1, hW1⟩ : ∃ W1, W1 = w.alloc (.cells #[.slice q rs.length cq, .slice p lv.length cp, .int .i64 now] 36) := ⟨_, rfl⟩
  have HW1 : Hid (W1 = w.alloc (.cells #[.slice q rs.length cq, .slice p lv.length cp, .int .i64 now] 36)) := hW1
  have B1 : Hid (Below w.heap.size w W1) := by rw [hW1]; exact (Below.refl _ _).alloc (Nat.le_refl _) _
  have K1 : Hid (Bxs W1 w.heap.size 36 #[.slice q rs.length cq, .slice p lv.length cp, .int .i64 now]) := by rw [hW1]; exact Bxs.new _ _ _
  have HR : Hid (RwAt W1 q rs) := hR.below B1.out
  have HI1 := l07Is_any r 0 ((rs.length : Int) - 1) W1
  have x0 := K1.out.cell 0
  by_cases h1 : 0 ≤ r ∧ r ≤ (rs.length : Int) - 1
  · rw [decide_eq_true h1] at HI1
    have hrl : r.toNat < rs.length := by omega
    have hre : (r.toNat : Int) = r := Int.toNat_of_nonneg h1.1
    obtain ⟨I, rfl⟩ : ∃ I : Nat, r = (I : Int) := ⟨r.toNat, hre.symm⟩
    rw [Int.toNat_natCast] at hrl
    obtain ⟨b, off, rq, rc, rfl, hb0, c0, c1, c2, c3, c4⟩ := HR.out I hrl
    have hrI : rs.getD I rwZ = rs[I] := by rw [List.getD_eq_getElem?_getD, List.getElem?_eq_getElem hrl, Option.getD_some]
    have hfz := hz _ (List.getElem_mem hrl)
    have HI2 := l07Is_any f 0 ((rs[I].fs.length : Int) - 1) W1
    by_cases h2 : 0 ≤ f ∧ f ≤ (rs[I].fs.length : Int) - 1
    · rw [decide_eq_true h2] at HI2
      have hfl : f.toNat < rs[I].fs.length := by omega
      obtain ⟨F, rfl⟩ : ∃ F : Nat, f = (F : Int) := ⟨f.toNat, (Int.toNat_of_nonneg h2.1).symm⟩
      rw [Int.toNat_natCast] at hfl
      obtain ⟨bf, of, rfl, hbf, f0, f1, f2, f3, f4⟩ := c4 F hfl
      have HV : Hid (fcO rs (I : Int) (F : Int) = if rs[I].fs[F].g = true then 7 else 0) := by
        show _ = _
        unfold fcO fldOf
        rw [if_pos h1, Int.toNat_natCast, Int.toNat_natCast, hrI, if_pos h2, List.getD_eq_getElem?_getD, List.getElem?_eq_getElem hfl, Option.getD_some]
      clear f0 f1 f2 f3
      have iI : (I : Int) < rs.length := by omega
      have fI : (F : Int) < rs[I].fs.length := by omega
      cases hG : rs[I].fs[F].g with
      | true =>
        rw [hG] at f4
        rw [hG, if_pos rfl] at HV
        rw [HV.out]
        clear hfl c4 c0 c1 hG HV
        generalize rs[I].fs.length = FL at *
        clear hW1 hR HR hz c3 hrI h1 h2 hre hb0 hbf
        rw [HW1.out] at x0 c2 f4 HI1 HI2
        go_enter Tryz.func61, Tryz.ntmps61
        go_wp2_with (first | (go_at_call 64; with_reducible refine HI1.mono ?_; rintro e y ⟨rfl, rfl⟩) | (go_at_call 64; with_reducible refine HI2.mono ?_; rintro e y ⟨rfl, rfl⟩))
        go_ret
        rw [← HW1.out]
        exact ⟨rfl, B1.out⟩
      | false =>
        rw [hG] at f4
        rw [hG, if_neg Bool.false_ne_true] at HV
        rw [HV.out]
        clear hfl c4 c0 c1 hG HV
        generalize rs[I].fs.length = FL at *
        clear hW1 hR HR hz c3 hrI h1 h2 hre hb0 hbf
        rw [HW1.out] at x0 c2 f4 HI1 HI2
        go_enter Tryz.func61, Tryz.ntmps61
        go_wp2_with (first | (go_at_call 64; with_reducible refine HI1.mono ?_; rintro e y ⟨rfl, rfl⟩) | (go_at_call 64; with_reducible refine HI2.mono ?_; rintro e y ⟨rfl, rfl⟩))
        go_ret
        rw [← HW1.out]
        exact ⟨rfl, B1.out⟩
    · rw [decide_eq_false h2] at HI2
      have HV : Hid (fcO rs (I : Int) f = 6) := by
        show _ = _
        unfold fcO
        rw [if_pos h1, Int.toNat_natCast, hrI, if_neg h2]
      rw [HV.out]
      have iI : (I : Int) < rs.length := by omega
      generalize rs[I].fs.length = FL at *
      clear hW1 hR HR hz HV c0 c1 c3 c4 hrI h1 h2 hre hb0
      rw [HW1.out] at x0 c2 HI1 HI2
      go_enter Tryz.func61, Tryz.ntmps61
      go_wp2_with (first | (go_at_call 64; with_reducible refine HI1.mono ?_; rintro e y ⟨rfl, rfl⟩) | (go_at_call 64; with_reducible refine HI2.mono ?_; rintro e y ⟨rfl, rfl⟩))
      go_ret
      rw [← HW1.out]
      exact ⟨rfl, B1.out⟩
  · rw [decide_eq_false h1] at HI1
    have HV : Hid (fcO rs r f = 6) := by
      show _ = _
      unfold fcO
      rw [if_neg h1]
    rw [HV.out]
    clear hW1 hR HR hz HV h1
    rw [HW1.out] at x0 HI1
    go_enter Tryz.func61, Tryz.ntmps61
    go_wp2_with (first | (go_at_call 64; with_reducible refine HI1.mono ?_; rintro e y ⟨rfl, rfl⟩))
    go_ret
    rw [← HW1.out]
    exact ⟨rfl, B1.out⟩
set_option maxHeartbeats 2000000 in
theorem l09Status_any (p : Option Addr) (lv : List ByteArray) (cp : Nat) (q : Option Addr) (rs : List Rw) (cq : Nat) (now : Int) (r f : Int) (w : World) (hR : RwAt w q rs) (hn : rs.length ≤ 1048576) (hcq : rs.length ≤ cq) (hz : ∀ r ∈ rs, r.fs.length ≤ 1048576) :
    Calls Tryz.prog 23 #[.agg #[.slice q rs.length cq, .slice p lv.length cp, .int .i64 now], .int .i64 r, .int .i64 f] w fun e w' => e = .returned (.int .i64 (stC (fcO rs r f))) ∧ Below w.heap.size w w' := by
  obtain ⟨W1, hW1⟩ : ∃ W1, W1 = w.alloc (.cells #[.slice q rs.length cq, .slice p lv.length cp, .int .i64 now] 36) := ⟨_, rfl⟩
  have HW1 : Hid (W1 = w.alloc (.cells #[.slice q rs.length cq, .slice p lv.length cp, .int .i64 now] 36)) := hW1
  have B1 : Hid (Below w.heap.size w W1) := by rw [hW1]; exact (Below.refl _ _).alloc (Nat.le_refl _) _
  have hF := l09Field_any p lv cp q rs cq now r f W1 (hR.below B1.out) hn hcq hz
  rcases fcO_cases rs r f with h | h | h
  all_goals
    rw [h] at hF ⊢
    clear hW1 hR hz h
    go_enter Tryz.func23, Tryz.ntmps23
    go_wp2_with fail
    rw [← HW1.out]
    refine hF.mono ?_
    rintro e y ⟨rfl, by_⟩
    clear hF
    go_wp2_with fail
    go_ret
    exact ⟨rfl, chainB B1.out by_⟩
end Go.Proofs.YtamdgdkpcoeknaaGreatDoor
/-
  PlaceOf, TombOf and StatusOf, as the program answers.
  Conditions: the cells hold the rows and leaves; the tables of the digest and errors.errorType are laid.
-/
namespace Go.Proofs.YtamdgdkpcoeknaaGreatDoor
open Go.RowKit Go.Lib
set_option linter.unusedVariables false
set_option maxRecDepth 20000

theorem fc_row {rs : List Rw} {r f : Int} (h1 : 0 ≤ r ∧ r ≤ (rs.length : Int) - 1) (hr : rB (rs.getD r.toNat rwZ) = true) : fcC (rs.getD r.toNat rwZ).k (rs.getD r.toNat rwZ).a (rs.getD r.toNat rwZ).fs f 7 = fcO rs r f := by
  unfold fcC fcO fldOf
  unfold rB at hr
  rw [if_pos hr, if_pos h1]
  rfl
set_option maxHeartbeats 4000000 in
theorem goneCode_any (p : Option Addr) (lv : List ByteArray) (cp : Nat) (q : Option Addr) (rs : List Rw) (cq : Nat) (now r f : Int) (w : World) (hT : Tabs w) (hg : Laid w) (hA : LgAt p lv cp q rs cq w) :
    Calls Tryz.prog 31 #[.agg #[.slice p lv.length cp, .slice q rs.length cq, .int .i64 now], .int .i64 r, .int .i64 f] w fun e w' => e = .returned (.int .i64 (gcO rs lv now r f)) ∧ Below w.heap.size w w' := by
  obtain ⟨W1, hW1⟩ : ∃ W1, W1 = w.alloc (.cells #[.slice p lv.length cp, .slice q rs.length cq, .int .i64 now] 73) := ⟨_, rfl⟩
  have HW1 : Hid (W1 = w.alloc (.cells #[.slice p lv.length cp, .slice q rs.length cq, .int .i64 now] 73)) := hW1
  have B1 : Hid (Below w.heap.size w W1) := by rw [hW1]; exact (Below.refl _ _).alloc (Nat.le_refl _) _
  have K1 : Hid (Bxs W1 w.heap.size 73 #[.slice p lv.length cp, .slice q rs.length cq, .int .i64 now]) := by rw [hW1]; exact Bxs.new _ _ _
  have hR := right_any p lv cp q rs cq now W1 (hT.to B1.out) (hg.below B1.out) (hA.below B1.out)
  have HV : Hid (gcO rs lv now r f = if lgB rs lv now = true then fcO rs r f else 1) := rfl
  have HA : Hid (LgAt p lv cp q rs cq w) := hA
  have HT : Hid (Tabs w) := hT
  have hrn := hA.rn
  unfold wkC at hR
  obtain ⟨x0, x1, x2⟩ := K1.out.three
  rw [HW1.out] at x0 x1 x2
  clear hW1 hT hg hA
  cases hgg : lgB rs lv now with
  | false =>
    rw [hgg] at hR
    rw [hgg, if_neg Bool.false_ne_true] at HV
    rw [HV.out]
    go_enter Tryz.func31, Tryz.ntmps31
    go_wp2_with fail
    rw [← HW1.out]
    refine hR.mono ?_
    rintro e y ⟨rfl, by_⟩
    go_wp2_with fail
    go_ret
    exact ⟨rfl, chainB B1.out by_⟩
  | true =>
    rw [hgg] at hR
    rw [hgg, if_pos rfl] at HV
    obtain ⟨-, -, hrr⟩ := lg_right hgg
    by_cases h0 : r < 0
    · have d0 : decide (r < 0) = true := decide_eq_true h0
      have HE : Hid (fcO rs r f = 6) := by show _ = _; unfold fcO; rw [if_neg (by omega)]
      rw [HV.out, HE.out]
      clear hgg hrr h0
      go_enter Tryz.func31, Tryz.ntmps31
      go_wp2_with fail
      rw [← HW1.out]
      refine hR.mono ?_
      rintro e y ⟨rfl, by_⟩
      go_wp2_with fail
      go_ret
      exact ⟨rfl, chainB B1.out by_⟩
    · have d0 : decide (r < 0) = false := decide_eq_false h0
      by_cases h1 : (rs.length : Int) ≤ r
      · have d1 : decide ((rs.length : Int) ≤ r) = true := decide_eq_true h1
        have HE : Hid (fcO rs r f = 6) := by show _ = _; unfold fcO; rw [if_neg (by omega)]
        rw [HV.out, HE.out]
        clear hgg hrr h0 h1
        go_enter Tryz.func31, Tryz.ntmps31
        go_wp2_with fail
        rw [← HW1.out]
        refine hR.mono ?_
        rintro e y ⟨rfl, by_⟩
        clear x0 x1 x2
        have x1 := (K1.out.below by_).cell 1
        go_wp2_with fail
        go_ret
        exact ⟨rfl, chainB B1.out by_⟩
      · have d1 : decide ((rs.length : Int) ≤ r) = false := decide_eq_false h1
        obtain ⟨I, rfl⟩ : ∃ I : Nat, r = (I : Int) := ⟨r.toNat, by omega⟩
        have hI : I < rs.length := by omega
        have hrI : rs.getD I rwZ = rs[I] := by rw [List.getD_eq_getElem?_getD, List.getElem?_eq_getElem hI, Option.getD_some]
        have hE := fc_row (rs := rs) (r := (I : Int)) (f := f) (by omega) (by rw [Int.toNat_natCast, hrI]; exact hrr _ (List.getElem_mem hI))
        rw [Int.toNat_natCast, hrI] at hE
        rw [HV.out]
        have iI : (I : Int) < rs.length := by omega
        clear hgg h0 h1
        go_enter Tryz.func31, Tryz.ntmps31
        go_wp2_with fail
        rw [← HW1.out]
        refine hR.mono ?_
        rintro e y ⟨rfl, by_⟩
        clear x0 x1 x2 hR
        have x1 := (K1.out.below by_).cell 1
        have hB := chainB B1.out by_
        obtain ⟨b, off, rq, rc, rfl, hb0, c0, c1, c2, c3, c4⟩ := (HA.out.rw.below hB) I hI
        have hzz := HA.out.rz _ (List.getElem_mem hI)
        have hF := fieldCode_any rs[I].k rs[I].a rq rc rs[I].fs f 7 y (HT.out.to hB) c4 hzz.1 c3 hzz.2.1 hzz.2.2
        rw [hE] at hF
        clear hzz c3 c4 hE hrI hrr
        obtain ⟨FC, hFC⟩ : ∃ FC, FC = fcO rs (I : Int) f := ⟨_, rfl⟩
        rw [← hFC] at hF
        have HFC : Hid (FC = fcO rs (I : Int) f) := hFC
        clear hFC
        generalize rs[I].k = rk at *
        generalize rs[I].a = ra at *
        generalize rs[I].fs.length = fl at *
        go_wp2_with fail
        refine hF.mono ?_
        rintro e y4 ⟨rfl, b4⟩
        go_wp2_with fail
        go_ret
        exact ⟨by rw [← HFC.out]; rfl, chainB hB b4⟩
theorem gcO_cases (rs : List Rw) (lv : List ByteArray) (now r f : Int) : gcO rs lv now r f = 0 ∨ gcO rs lv now r f = 7 ∨ gcO rs lv now r f = 6 ∨ gcO rs lv now r f = 1 := by
  unfold gcO
  split
  · rcases fcO_cases rs r f with h | h | h
    · exact .inl h
    · exact .inr (.inl h)
    · exact .inr (.inr (.inl h))
  · exact .inr (.inr (.inr rfl))
end Go.Proofs.YtamdgdkpcoeknaaGreatDoor
/-
  Operations of a drawing region that may come in many orders (rows built, calls), taken all together: what holds when some of them are done (J) is kept by each that is ready; and what lies in the frame then.
-/
namespace Go.Proofs.YtamdgdkpcoeknaaGreatDoor
open Go.RowKit Go.Lib
set_option linter.unusedVariables false

section
variable {P : Program} {ops : Array Oper} {Q : Exit → Act → World → Prop} {md : Region.Mode} {S : World → Prop} {l : Nat}
theorem AnyTill.phase {σ : Type} (lst : σ → Array Bool) (cnt : σ → Nat) (J : σ → Act → World → Prop) (f0 : Nat)
    (step : ∀ s a w, J s a w → cnt s ≠ 0 → Region.ready md ops (lst s) ≠ [] ∧ ∀ i ∈ Region.ready md ops (lst s), wpOp P ops Q i (fun a' w' => ∃ s', cnt s = cnt s' + 1 ∧ lst s' = (lst s).setIfInBounds i true ∧ (i ≠ l → S w') ∧ J s' a' w') a w)
    (fin : ∀ s, cnt s = 0 → ∀ a w, J s a w → AnyTill P md ops Q S l f0 (lst s) a w) :
    ∀ (n : Nat) (s : σ), cnt s = n → ∀ a w, J s a w → AnyTill P md ops Q S l (f0 + n) (lst s) a w
  | 0, s, h, a, w, hJ => fin s h a w hJ
  | n + 1, s, h, a, w, hJ => by
    obtain ⟨hne, hs⟩ := step s a w hJ (by omega)
    refine ⟨fun h0 => absurd h0 hne, fun i hi => wpOp_mono (fun a' w' hk => ?_) (hs i hi)⟩
    obtain ⟨s', h1, h2, h3, h4⟩ := hk
    refine ⟨h3, ?_⟩
    rw [← h2]
    exact AnyTill.phase lst cnt J f0 step fin n s' (by omega) a' w' h4
/-- The frame's slots by a name. -/
theorem cap_act {fuel : Nat} {listed : Array Bool} {T0 : Array Value} {D : List Deferred} {w : World} (h : ∀ T, T = T0 → AnyTill P md ops Q S l fuel listed ⟨T, D⟩ w) : AnyTill P md ops Q S l fuel listed ⟨T0, D⟩ w := h _ rfl
theorem step_go {w : World} {o : Oper} {a : Act} {K : Act → World → Prop} {E : Prop} (hgd : o.guard = none) (f : Nat) (x : Operand) (tys : Array TypeId)
    (ho : o.op = .call { callee := .value (.func f), args := #[x], argTypes := tys }) (v : Value) (hx : a.eval x = v) (hcf : (callFunc f #[v]).run P w = .ok (.enter f #[v]) w) {R : Ending → World → Prop} (hc : Calls P f #[v] w R)
    (h : ∀ e w', R e w' → ∃ r, e = .returned r ∧ K (a.put o.dst r) w') :
    if Region.wanted o (yielded ops a.tmps) = true then Oper.wp P o a w K Q else E := by
  have hw : Region.wanted o (yielded ops a.tmps) = true := by simp [Region.wanted, hgd]
  rw [if_pos hw]
  unfold Oper.wp execOp
  have hf : a.eval (.func f) = .func (.func f) #[] #[] := rfl
  simp only [ho, resolve, List.map_toArray, List.map_cons, List.map_nil, hx, hf, Deferred.ofValue, Sem.run_bind, Sem.run_pure, Result.andThen_ok, invoke, Array.append_empty, Array.empty_append, hcf, Oper.upon_enter]
  refine Calls.mono hc (fun e w' he => ?_)
  obtain ⟨r, rfl, hk⟩ := h e w' he
  exact hk
theorem step_build1 {w : World} {o : Oper} {a : Act} {K : Act → World → Prop} {E : Prop} (hgd : o.guard = none) (ty : TypeId) (x : Operand)
    (ho : o.op = .buildSlice ty 1 #[(0, x)]) (v : Value) (hx : a.eval x = v) (v' : Value) (w' : World) (hr : (Instr.buildSlice ty 1 #[(0, v)]).run P w = .ok v' w') (h : K (a.put o.dst v') w') :
    if Region.wanted o (yielded ops a.tmps) = true then Oper.wp P o a w K Q else E := by
  have hw : Region.wanted o (yielded ops a.tmps) = true := by simp [Region.wanted, hgd]
  rw [if_pos hw]
  unfold Oper.wp execOp
  simp only [ho, Sem.run_bind, List.map_toArray, List.map_cons, List.map_nil, hx, hr, Result.andThen_ok, Sem.run_pure]
  exact h
end
/-- Slots that may have been written. -/
def ovl (T : Array Value) : List (Nat × Option Value) → Array Value
  | [] => T
  | (k, some v) :: r => ovl (T.setIfInBounds k v) r
  | (_, none) :: r => ovl T r
theorem ovl_set : ∀ (l : List (Nat × Option Value)) (T : Array Value) (k : Nat) (v : Value), k ∉ l.map (·.1) → (ovl T l).setIfInBounds k v = ovl (T.setIfInBounds k v) l
  | [], T, k, v, _ => rfl
  | (j, none) :: r, T, k, v, h => ovl_set r T k v (fun h1 => h (List.mem_cons_of_mem _ h1))
  | (j, some u) :: r, T, k, v, h => by
    have hne : j ≠ k := fun e => h (by rw [e]; exact List.mem_cons_self ..)
    show (ovl (T.setIfInBounds j u) r).setIfInBounds k v = ovl ((T.setIfInBounds k v).setIfInBounds j u) r
    rw [ovl_set r _ k v (fun h1 => h (List.mem_cons_of_mem _ h1)), Array.setIfInBounds_comm _ _ hne]
theorem ovl_put : ∀ (l1 : List (Nat × Option Value)) (T : Array Value) (l2 : List (Nat × Option Value)) (k : Nat) (v : Value), k ∉ l2.map (·.1) → (ovl T (l1 ++ (k, none) :: l2)).setIfInBounds k v = ovl T (l1 ++ (k, some v) :: l2)
  | [], T, l2, k, v, h => ovl_set l2 T k v h
  | (j, none) :: r, T, l2, k, v, h => ovl_put r T l2 k v h
  | (j, some u) :: r, T, l2, k, v, h => ovl_put r _ l2 k v h
theorem ovl_size : ∀ (l : List (Nat × Option Value)) (T : Array Value), (ovl T l).size = T.size
  | [], T => rfl
  | (j, none) :: r, T => ovl_size r T
  | (j, some u) :: r, T => by show (ovl (T.setIfInBounds j u) r).size = _; rw [ovl_size r]; simp
theorem ovl_old : ∀ (l : List (Nat × Option Value)) (T : Array Value) (k : Nat), k ∉ l.map (·.1) → (ovl T l).getD k undef = T.getD k undef
  | [], T, k, _ => rfl
  | (j, none) :: r, T, k, h => ovl_old r T k (fun h1 => h (List.mem_cons_of_mem _ h1))
  | (j, some u) :: r, T, k, h => by
    have hne : j ≠ k := fun e => h (by rw [e]; exact List.mem_cons_self ..)
    show (ovl (T.setIfInBounds j u) r).getD k undef = _
    rw [ovl_old r _ k (fun h1 => h (List.mem_cons_of_mem _ h1))]
    simp [Array.getD_eq_getD_getElem?, hne]
theorem ovl_new : ∀ (l1 : List (Nat × Option Value)) (T : Array Value) (l2 : List (Nat × Option Value)) (k : Nat) (v : Value), k ∉ l2.map (·.1) → k < T.size → (ovl T (l1 ++ (k, some v) :: l2)).getD k undef = v
  | [], T, l2, k, v, h, hk => by
    show (ovl (T.setIfInBounds k v) l2).getD k undef = v
    rw [ovl_old l2 _ k h]
    simp [Array.getD_eq_getD_getElem?, hk]
  | (j, none) :: r, T, l2, k, v, h, hk => ovl_new r T l2 k v h hk
  | (j, some u) :: r, T, l2, k, v, h, hk => ovl_new r _ l2 k v h (by simpa using hk)
/-- A row of one text, wherever it lies. -/
def Sl1 (w : World) (v : Value) (t : ByteArray) : Prop := ∃ g, v = .slice (some ⟨g, 0, none⟩) 1 1 ∧ g < w.heap.size ∧ w.cell? ⟨g, 0, none⟩ = some (.string t)
theorem Sl1.below {w w' : World} {v : Value} {t : ByteArray} (h : Sl1 w v t) (hb : Below w.heap.size w w') : Sl1 w' v t := by
  obtain ⟨g, rfl, h1, h2⟩ := h
  exact ⟨g, rfl, Nat.lt_of_lt_of_le h1 hb.size, (hb.cell (p := ⟨g, 0, none⟩) h1).trans h2⟩
theorem Sl1.new (w : World) (t : ByteArray) : Sl1 (w.alloc (.cells #[.string t] 9)) (.slice (some ⟨w.heap.size, 0, none⟩) 1 1) t := ⟨w.heap.size, rfl, by simp, by rw [World.cell?_alloc_mark]; rfl⟩
theorem run_build1 (t : ByteArray) (w : World) : (Instr.buildSlice 23 1 #[(0, .string t)]).run Tryz.prog w = .ok (.slice (some ⟨w.heap.size, 0, none⟩) 1 1) (w.alloc (.cells #[.string t] 9)) := by
  go_simp
theorem enter_joined (v : Value) (w : World) : (callFunc 69 #[v]).run Tryz.prog w = .ok (.enter 69 #[v]) w := by
  go_simp
/-- Which of eight operations are done, and what each left. -/
structure St8 where
  o1 : Option Value
  o2 : Option Value
  o3 : Option Value
  o4 : Option Value
  o5 : Option Value
  o6 : Option Value
  o7 : Option Value
  o8 : Option Value
def bitN (b : Bool) : Nat := if b = true then 0 else 1
def St8.cnt (s : St8) : Nat := bitN s.o1.isSome + bitN s.o2.isSome + bitN s.o3.isSome + bitN s.o4.isSome + bitN s.o5.isSome + bitN s.o6.isSome + bitN s.o7.isSome + bitN s.o8.isSome
def all8 (p : Bool → Bool → Bool → Bool → Bool → Bool → Bool → Bool → Bool) : Bool := [true, false].all fun b1 => [true, false].all fun b2 => [true, false].all fun b3 => [true, false].all fun b4 => [true, false].all fun b5 => [true, false].all fun b6 => [true, false].all fun b7 => [true, false].all fun b8 => p b1 b2 b3 b4 b5 b6 b7 b8
theorem all8_spec {p : Bool → Bool → Bool → Bool → Bool → Bool → Bool → Bool → Bool} (h : all8 p = true) (b1 b2 b3 b4 b5 b6 b7 b8 : Bool) : p b1 b2 b3 b4 b5 b6 b7 b8 = true := by
  have hm : ∀ b : Bool, b ∈ [true, false] := by intro b; cases b <;> simp
  unfold all8 at h
  have h1 := List.all_eq_true.1 h b1 (hm b1)
  have h2 := List.all_eq_true.1 h1 b2 (hm b2)
  have h3 := List.all_eq_true.1 h2 b3 (hm b3)
  have h4 := List.all_eq_true.1 h3 b4 (hm b4)
  have h5 := List.all_eq_true.1 h4 b5 (hm b5)
  have h6 := List.all_eq_true.1 h5 b6 (hm b6)
  have h7 := List.all_eq_true.1 h6 b7 (hm b7)
  exact List.all_eq_true.1 h7 b8 (hm b8)
theorem some_of_bit {o : Option Value} (h : bitN o.isSome = 0) : ∃ v, o = some v := by
  cases o with
  | none => cases h
  | some v => exact ⟨v, rfl⟩
section
variable {P : Program} {ops : Array Oper} {Q : Exit → Act → World → Prop} {md : Region.Mode} {S : World → Prop} {l : Nat}
theorem wpOp_at (i : Nat) {o : Oper} {K : Act → World → Prop} {a : Act} {w : World} (hi : ops.toList[i]? = some o)
    (h : ∀ K' : Act → World → Prop, (∀ a w, K a w → K' a w) → if Region.wanted o (yielded ops a.tmps) = true then Oper.wp P o a w K' Q else K' (a.put o.dst undef) w) : wpOp P ops Q i K a w := wpOp_step (by rw [← hi]; simp) h
theorem AnyTill.phase8 (L : Bool → Bool → Bool → Bool → Bool → Bool → Bool → Bool → Array Bool) (chk : Nat → Bool → Bool → Bool → Bool → Bool → Bool → Bool → Bool → Bool) (ok : Bool → Bool → Bool → Bool → Bool → Bool → Bool → Bool → Bool)
    (hR : all8 (fun b1 b2 b3 b4 b5 b6 b7 b8 => !(ok b1 b2 b3 b4 b5 b6 b7 b8) || ((b1 && (b2 && (b3 && (b4 && (b5 && (b6 && (b7 && b8))))))) || (!(Region.ready md ops (L b1 b2 b3 b4 b5 b6 b7 b8)).isEmpty && (Region.ready md ops (L b1 b2 b3 b4 b5 b6 b7 b8)).all (fun i => chk i b1 b2 b3 b4 b5 b6 b7 b8)))) = true)
    (J : St8 → Act → World → Prop) (hok : ∀ (s : St8) (a : Act) (w : World), J s a w → ok s.o1.isSome s.o2.isSome s.o3.isSome s.o4.isSome s.o5.isSome s.o6.isSome s.o7.isSome s.o8.isSome = true) (f0 : Nat)
    (step : ∀ (i : Nat) (s : St8) (a : Act) (w : World), chk i s.o1.isSome s.o2.isSome s.o3.isSome s.o4.isSome s.o5.isSome s.o6.isSome s.o7.isSome s.o8.isSome = true → J s a w → wpOp P ops Q i (fun a' w' => ∃ s' : St8, s.cnt = s'.cnt + 1 ∧ L s'.o1.isSome s'.o2.isSome s'.o3.isSome s'.o4.isSome s'.o5.isSome s'.o6.isSome s'.o7.isSome s'.o8.isSome = (L s.o1.isSome s.o2.isSome s.o3.isSome s.o4.isSome s.o5.isSome s.o6.isSome s.o7.isSome s.o8.isSome).setIfInBounds i true ∧ S w' ∧ J s' a' w') a w)
    (fin : ∀ v1 v2 v3 v4 v5 v6 v7 v8 a w, J ⟨some v1, some v2, some v3, some v4, some v5, some v6, some v7, some v8⟩ a w → AnyTill P md ops Q S l f0 (L true true true true true true true true) a w)
    (a : Act) (w : World) (hJ : J ⟨none, none, none, none, none, none, none, none⟩ a w) : AnyTill P md ops Q S l (f0 + 8) (L false false false false false false false false) a w := by
  refine AnyTill.phase (fun s : St8 => L s.o1.isSome s.o2.isSome s.o3.isSome s.o4.isSome s.o5.isSome s.o6.isSome s.o7.isSome s.o8.isSome) St8.cnt J f0 ?_ ?_ 8 ⟨none, none, none, none, none, none, none, none⟩ rfl a w hJ
  · intro s a w hJ hs
    have h := all8_spec hR s.o1.isSome s.o2.isSome s.o3.isSome s.o4.isSome s.o5.isSome s.o6.isSome s.o7.isSome s.o8.isSome
    rw [hok s a w hJ, Bool.not_true, Bool.false_or, Bool.or_eq_true] at h
    have hn : ¬ (s.o1.isSome && (s.o2.isSome && (s.o3.isSome && (s.o4.isSome && (s.o5.isSome && (s.o6.isSome && (s.o7.isSome && s.o8.isSome))))))) = true := by
      intro hh
      simp only [Bool.and_eq_true] at hh
      obtain ⟨h1, h2, h3, h4, h5, h6, h7, h8⟩ := hh
      exact hs (by unfold St8.cnt; rw [h1, h2, h3, h4, h5, h6, h7, h8]; rfl)
    rcases h with h | h
    · exact absurd h hn
    rw [Bool.and_eq_true] at h
    refine ⟨fun he => by rw [he] at h; simp at h, fun i hi => ?_⟩
    refine wpOp_mono (fun a' w' hk => ?_) (step i s a w (List.all_eq_true.1 h.2 i hi) hJ)
    obtain ⟨s', h1, h2, h3, h4⟩ := hk
    exact ⟨s', h1, h2, fun _ => h3, h4⟩
  · intro s hs a w hJ
    obtain ⟨o1, o2, o3, o4, o5, o6, o7, o8⟩ := s
    have hs : bitN o1.isSome + bitN o2.isSome + bitN o3.isSome + bitN o4.isSome + bitN o5.isSome + bitN o6.isSome + bitN o7.isSome + bitN o8.isSome = 0 := hs
    obtain ⟨v1, rfl⟩ := some_of_bit (o := o1) (by omega)
    obtain ⟨v2, rfl⟩ := some_of_bit (o := o2) (by omega)
    obtain ⟨v3, rfl⟩ := some_of_bit (o := o3) (by omega)
    obtain ⟨v4, rfl⟩ := some_of_bit (o := o4) (by omega)
    obtain ⟨v5, rfl⟩ := some_of_bit (o := o5) (by omega)
    obtain ⟨v6, rfl⟩ := some_of_bit (o := o6) (by omega)
    obtain ⟨v7, rfl⟩ := some_of_bit (o := o7) (by omega)
    obtain ⟨v8, rfl⟩ := some_of_bit (o := o8) (by omega)
    exact fin v1 v2 v3 v4 v5 v6 v7 v8 a w hJ
end
theorem joinedAt {w : World} {v : Value} {t : ByteArray} (h : Sl1 w v t) (ht : t.size ≤ 70368744177664) : Calls Tryz.prog 69 #[v] w fun e w' => e = .returned (.string t) ∧ Below w.heap.size w w' := by
  obtain ⟨g, rfl, h1, h2⟩ := h
  have hJ := joined_any g 0 1 1 [t] w rfl h1 (by omega) (Nat.le_refl _) (fun i hi => by
    have : i = 0 := by simp at hi; exact hi
    subst this; exact h2) (by rw [← cat_size, cat_one]; exact ht)
  rw [cat_one] at hJ
  exact hJ
end Go.Proofs.YtamdgdkpcoeknaaGreatDoor
