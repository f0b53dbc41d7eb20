/-
  What the program's MayForget answers.
  Conditions: a log and a policy that lie in memory; the two tables and the types' handles lie as the program's text lays them.
-/
import Derived.Test.YtokkeadbkeehgaaGreatDoorRows
import Derived.Test.YtokkeadbkeehgaaGreatDoorBytesDigMathTreeMathSlASlBBxKOwnSTakesLTillTwo
import Derived.Test.YtokkeadbkeehgaaGreatDoorLgAtKShwKOneKFldGFldBlkRwBlkIntKLawILawOGLawImBlNotRulMathAppS
import Derived.Test.YtokkeadbkeehgaaGreatDoorNameRight
import Derived.Test.YtokkeadbkeehgaaGreatDoorTimeBPutMathPutNumJoinedPutTextFldMathFldRiseScanMath
import Derived.Test.YtokkeadbkeehgaaGreatDoorGetValGetTxtNumMathFldRdNumFromTmbMathLgMath
import Derived.Test.YtokkeadbkeehgaaGreatDoorLawLqLgAnsLgRtLtMathLawLtLawFXLawLa
import Derived.Test.YtokkeadbkeehgaaGreatDoorRulBlkLawRlLawPoLawSLawM
import Derived.Test.YtokkeadbkeehgaaGreatDoorLawSwLfMathLaMathLfSumPolMathPolIdxRulIdxPolO
import Derived.Test.YtokkeadbkeehgaaGreatDoorPolAnsKeepMAfMathLawAfStepAppOwnBTurn2
import Derived.Test.YtokkeadbkeehgaaGreatDoorTabsOfRulICmpSCmpRPolI
import Derived.Test.YtokkeadbkeehgaaGreatDoorImplLgRngX
import Derived.Test.YtokkeadbkeehgaaGreatDoorLogRIImplPlCopiedPhaseK
import Derived.Test.YtokkeadbkeehgaaGreatDoorSrchR
import Derived.Test.YtokkeadbkeehgaaGreatDoorImplKp
import Derived.Handy
import Derived.Laws.EntriesVeiled
import Derived.WalkSpells
import Derived.OwnWalk
import Derived.Deep.RegionWith
import Derived.Deep.Cut
import Derived.Deep.CutRange
import Derived.Deep.QuietTactic
import Derived.BigQuiet
namespace Go.Proofs.YtokkeadbkeehgaaGreatDoor
open Go.RowKit Go.Lib
set_option linter.unusedVariables false
set_option maxRecDepth 20000

theorem mf_gc {rs : List Rw} {lv : List ByteArray} {now : Int} {us : List Rul} {hs : List Int} {r f : Int} (hp : polB us hs = true) : mfO rs lv now us hs r f = if gcO rs lv now r f = 0 then (if heldB hs r = true then 11 else if lateB us (rs.getD r.toNat rwZ).k (fldOf rs r f).n (rs.getD r.toNat rwZ).a now = true then 8 else 0) else gcO rs lv now r f := by
  unfold mfO gcO
  cases h : lgB rs lv now
  · simp
  · simp [hp]
theorem field_st (n : Int) (fv : Fn) (a b : Array Value) (x : World) : (Instr.field 117 (.agg #[.int .i64 n, .func fv a b]) 1).run Tryz.prog x = .ok (.func fv a b) x := by first | rfl | kernel_rfl
set_option maxHeartbeats 8000000 in
theorem implMayForget_any (p : Option Addr) (lv : List ByteArray) (cp : Nat) (q : Option Addr) (rs : List Rw) (cq : Nat) (now : Int) (p1 p2 : Option Addr) (c1 c2 : Nat) (us : List Rul) (hs : List Int) (r f : Int) (w : World) (hT : Tabs w) (hg : Laid w) (hA : LgAt p lv cp q rs cq w) (hr : RulAt w p1 us) (hh : IntAt w p2 hs) (m1 : us.length ≤ c1) (m2 : hs.length ≤ c2) (hz : RulsLe us) (hu : us.length ≤ 1048576) (hhl : hs.length ≤ 1048576) :
    Calls Tryz.prog 54 #[.agg #[.slice q rs.length cq, .slice p lv.length cp, .int .i64 now], .agg #[.slice p1 us.length c1, .slice p2 hs.length c2], .int .i64 r, .int .i64 f] w fun e w' => e = .returned (.int .i64 (mfO rs lv now us hs r f)) ∧ Below w.heap.size w w' := by
  obtain ⟨W2, hW2⟩ : ∃ W2, W2 = (w.alloc (.cells #[.slice q rs.length cq, .slice p lv.length cp, .int .i64 now] 36)).alloc (.cells #[.slice p1 us.length c1, .slice p2 hs.length c2] 40) := ⟨_, rfl⟩
  have HW2 : Hid (W2 = (w.alloc (.cells #[.slice q rs.length cq, .slice p lv.length cp, .int .i64 now] 36)).alloc (.cells #[.slice p1 us.length c1, .slice p2 hs.length c2] 40)) := hW2
  have hs1 : (w.alloc (.cells #[.slice q rs.length cq, .slice p lv.length cp, .int .i64 now] 36)).heap.size = w.heap.size + 1 := by simp
  have B2 : Hid (Below w.heap.size w W2) := by rw [hW2]; exact ((Below.refl _ _).alloc (Nat.le_refl _) _).alloc (by rw [hs1]; omega) _
  have K0 : Hid (Bxs W2 w.heap.size 36 #[.slice q rs.length cq, .slice p lv.length cp, .int .i64 now]) := by rw [hW2]; exact (Bxs.new _ _ _).alloc _
  have K1 : Hid (Bxs W2 (w.heap.size + 1) 40 #[.slice p1 us.length c1, .slice p2 hs.length c2]) := by rw [hW2, ← hs1]; exact Bxs.new _ _ _
  have HX : Hid (∀ x, Below W2.heap.size W2 x → x.cell? ⟨w.heap.size, 0, none⟩ = some (.slice q rs.length cq) ∧ x.cell? ⟨w.heap.size, 1, none⟩ = some (.slice p lv.length cp) ∧ x.cell? ⟨w.heap.size, 2, none⟩ = some (.int .i64 now) ∧ x.cell? ⟨w.heap.size + 1, 0, none⟩ = some (.slice p1 us.length c1) ∧ x.cell? ⟨w.heap.size + 1, 1, none⟩ = some (.slice p2 hs.length c2)) := fun x hb => ⟨(K0.out.below hb).cell 0, (K0.out.below hb).cell 1, (K0.out.below hb).cell 2, (K1.out.below hb).cell 0, (K1.out.below hb).cell 1⟩
  have HA : Hid (∀ x, Below W2.heap.size W2 x → LgAt p lv cp q rs cq x) := fun x hb => hA.below (chainB B2.out hb)
  have HU : Hid (∀ x, Below W2.heap.size W2 x → RulAt x p1 us ∧ IntAt x p2 hs) := fun x hb => ⟨hr.below (chainB B2.out hb), hh.below (chainB B2.out hb)⟩
  have hPR := implPolicyRight_any p1 p2 c1 c2 us hs W2 (HU.out W2 (Below.refl _ _)).1 (HU.out W2 (Below.refl _ _)).2 hu hhl m1 m2 hz
  have hGC := (fun x hb => goneCode_any p lv cp q rs cq now r f x (hT.to (chainB B2.out hb)) (hg.below (chainB B2.out hb)) (HA.out x hb) : ∀ x, Below W2.heap.size W2 x → Calls Tryz.prog 89 #[.agg #[.slice p lv.length cp, .slice q rs.length cq, .int .i64 now], .int .i64 r, .int .i64 f] x fun e w' => e = .returned (.int .i64 (gcO rs lv now r f)) ∧ Below x.heap.size x w')
  have hWk := (fun x => workOn_any p lv cp q rs cq now x : ∀ x, Calls Tryz.prog 71 #[.agg #[.slice q rs.length cq, .slice p lv.length cp, .int .i64 now]] x fun e w' => e = .returned (.agg #[.slice p lv.length cp, .slice q rs.length cq, .int .i64 now]) ∧ Below x.heap.size x w')
  have hHe := (fun x hb => isHeld_any p1 p2 us.length c1 c2 hs r x (HU.out x hb).2 hhl m2 : ∀ x, Below W2.heap.size W2 x → Calls Tryz.prog 75 #[.agg #[.slice p1 us.length c1, .slice p2 hs.length c2], .int .i64 r] x fun e w' => e = .returned (.bool (heldB hs r)) ∧ Below x.heap.size x w')
  obtain ⟨x0, x1, x2, x3, x4⟩ := HX.out W2 (Below.refl _ _)
  rw [hW2] at x0 x1 x2 x3 x4
  have HGC : Hid _ := hGC
  have HWk : Hid _ := hWk
  have HHe : Hid _ := hHe
  clear hW2 hs1 hr hh hGC hWk hHe hT hg
  cases hp : polB us hs
  · have HV : Hid (mfO rs lv now us hs r f = 1) := if_neg (by rw [hp]; simp)
    rw [hp] at hPR
    clear HGC HWk HHe hp hA
    go_enter Tryz.func54, Tryz.ntmps54
    go_wp2_with fail
    rw [← HW2.out]
    refine hPR.mono ?_
    rintro e y1 ⟨rfl, b1⟩
    clear hPR x0 x1 x2 x3 x4
    go_wp2_with fail
    go_ret
    exact ⟨by rw [HV.out]; rfl, chainB B2.out b1⟩
  · have hM := mf_gc (rs := rs) (lv := lv) (now := now) (r := r) (f := f) hp
    rw [hp] at hPR
    by_cases hc : gcO rs lv now r f = 0
    · rw [if_pos hc] at hM
      have hGC := HGC.out
      rw [hc] at hGC
      have HG2 : Hid _ := hGC
      have hlg : lgB rs lv now = true := by
        cases hl : lgB rs lv now with
        | true => rfl
        | false => unfold gcO at hc; rw [hl] at hc; simp at hc
      have hf0 : fcO rs r f = 0 := by unfold gcO at hc; rw [if_pos hlg] at hc; exact hc
      clear HGC hGC hc
      cases hh1 : heldB hs r
      · rw [if_neg (by rw [hh1]; simp)] at hM
        have hHe := HHe.out
        rw [hh1] at hHe
        have HH2 : Hid _ := hHe
        obtain ⟨hu6, ho, -, -, -⟩ := polB_parts hp
        have hlm := rule_times hp
        have hrr := (lg_right hlg).2.2
        obtain ⟨R, F, hR, hFl, rfl, rfl, e1, e2, -⟩ := fc_there hf0
        rw [e1, e2] at hM
        have hrow := hrr rs[R] (List.getElem_mem hR)
        obtain ⟨b, off, rq, rc, rfl, hb0, -⟩ := hA.rw R hR
        obtain ⟨b', off', rq, rc, hq, -, c0, c1', c2', c3, c4⟩ := (HA.out W2 (Below.refl _ _)).rw R hR
        cases hq
        obtain ⟨w0, hw0⟩ : ∃ G, G = rs[R] := ⟨_, rfl⟩
        have hFl0 : F < w0.fs.length := by rw [hw0]; exact hFl
        have hM2 : mfO rs lv now us hs (R : Int) (F : Int) = if lateB us w0.k w0.fs[F].n w0.a now = true then 8 else 0 := by subst hw0; exact hM
        rw [← hw0] at c0 c1' c2' c3 c4 hrow
        have hrp := rwB_parts hrow
        have HB0 : Hid (b < W2.heap.size) := Nat.lt_of_lt_of_le hb0 B2.out.size
        have HRc : Hid (∀ x, Below W2.heap.size W2 x → x.cell? ⟨b, off + R * 3, none⟩ = some (.string w0.k) ∧ x.cell? ⟨b, off + R * 3 + 1, none⟩ = some (.int .i64 w0.a) ∧ x.cell? ⟨b, off + R * 3 + 2, none⟩ = some (.slice rq w0.fs.length rc)) := fun x hb => ⟨(hb.cell (p := ⟨b, off + R * 3, none⟩) HB0.out).trans c0, (hb.cell (p := ⟨b, off + R * 3 + 1, none⟩) HB0.out).trans c1', (hb.cell (p := ⟨b, off + R * 3 + 2, none⟩) HB0.out).trans c2'⟩
        have hKo := (fun x hb => keepOf_any p1 p2 c1 hs.length c2 us w0.k w0.a rq rc w0.fs F hFl0 x (HU.out x hb).1 (c4.below hb) m1 (by omega) c3 ho hlm hrp.2.1 : ∀ x, Below W2.heap.size W2 x → _)
        have iR : (R : Int) < rs.length := by omega
        have HLt : Hid (lateB us w0.k w0.fs[F].n w0.a now = (decide (0 ≤ ruI us w0.k w0.fs[F].n) && decide (now < w0.a + (ruO us w0.k w0.fs[F].n).l))) := rfl
        have hrg := fst_range (eqR w0.k w0.fs[F].n) us
        have hri : ruI us w0.k w0.fs[F].n = fstI (eqR w0.k w0.fs[F].n) us := rfl
        rw [← hri] at hrg
        have HM : Hid _ := hM2
        have HK : Hid _ := hKo
        clear hM hM2 hw0 hrow hrp c0 c1' c2' c3 c4 hb0 hrr e1 e2 hFl hlm ho hKo hri HHe hHe hh1 hp hlg hf0 hA hz
        generalize w0.fs[F].n = N at *
        generalize ruI us w0.k N = J at *
        generalize (ruO us w0.k N).l = ll at *
        generalize (ruO us w0.k N).m = mm at *
        rcases hrg with hJ | ⟨hJ0, -⟩
        · have HV : Hid (mfO rs lv now us hs (R : Int) (F : Int) = 0) := by
            show _ = _
            rw [HM.out, HLt.out, hJ]
            simp
          have HK1 : Hid (∀ x, Below W2.heap.size W2 x → Calls Tryz.prog 76 #[.agg #[.slice p1 us.length c1, .slice p2 hs.length c2], .agg #[.string w0.k, .int .i64 w0.a, .slice rq w0.fs.length rc], .int .i64 (F : Int)] x fun e w' => e = .returned (.agg #[.int .i64 0, .func (.func 149) #[] #[]]) ∧ Below x.heap.size x w') := fun x hb => (HK.out x hb).mono (by
            rintro e w' ⟨⟨-, h⟩ | ⟨h, -⟩, hb2⟩
            · exact ⟨h, hb2⟩
            · omega)
          clear HM HLt hJ HK
          go_enter Tryz.func54, Tryz.ntmps54
          go_wp2_with fail
          rw [← HW2.out]
          refine hPR.mono ?_
          rintro e y1 ⟨rfl, b1⟩
          obtain ⟨y0, y1', y2, y3, y4⟩ := HX.out y1 b1
          clear hPR x0 x1 x2 x3 x4
          go_wp2_with fail
          refine (HWk.out _).mono ?_
          rintro e y5 ⟨rfl, b5⟩
          have b5 := chainB b1 b5
          clear y0 y1' y2 y3 y4
          go_wp2_with fail
          refine (HG2.out _ b5).mono ?_
          rintro e y6 ⟨rfl, b6⟩
          have b6 := chainB b5 b6
          obtain ⟨y0, y1', y2, y3, y4⟩ := HX.out y6 b6
          go_wp2_with fail
          refine (HH2.out _ b6).mono ?_
          rintro e y7 ⟨rfl, b7⟩
          have b7 := chainB b6 b7
          clear y0 y1' y2 y3 y4
          obtain ⟨y0, y1', y2, y3, y4⟩ := HX.out y7 b7
          obtain ⟨r0, r1, r2⟩ := HRc.out y7 b7
          have BD : Hid (Below W2.heap.size W2 y7) := b7
          have HXR : Hid (∀ x, Below W2.heap.size W2 x → (x.cell? ⟨w.heap.size, 0, none⟩ = some (.slice (some ⟨b, off, none⟩) rs.length cq) ∧ x.cell? ⟨w.heap.size, 2, none⟩ = some (.int .i64 now) ∧ x.cell? ⟨w.heap.size + 1, 0, none⟩ = some (.slice p1 us.length c1) ∧ x.cell? ⟨w.heap.size + 1, 1, none⟩ = some (.slice p2 hs.length c2)) ∧ x.cell? ⟨b, off + R * 3, none⟩ = some (.string w0.k) ∧ x.cell? ⟨b, off + R * 3 + 1, none⟩ = some (.int .i64 w0.a) ∧ x.cell? ⟨b, off + R * 3 + 2, none⟩ = some (.slice rq w0.fs.length rc)) := fun x hb => ⟨⟨(HX.out x hb).1, (HX.out x hb).2.2.1, (HX.out x hb).2.2.2.1, (HX.out x hb).2.2.2.2⟩, HRc.out x hb⟩
          go_wp2_with fail
          have fst0 := fun (x : World) => field_st 0 (.func 149) #[] #[] x
          go_region_held3 (fun w' => (w'.cell? ⟨w.heap.size, 0, none⟩ = some (.slice (some ⟨b, off, none⟩) rs.length cq) ∧ w'.cell? ⟨w.heap.size, 2, none⟩ = some (.int .i64 now) ∧ w'.cell? ⟨w.heap.size + 1, 0, none⟩ = some (.slice p1 us.length c1) ∧ w'.cell? ⟨w.heap.size + 1, 1, none⟩ = some (.slice p2 hs.length c2)) ∧ w'.cell? ⟨b, off + R * 3, none⟩ = some (.string w0.k) ∧ w'.cell? ⟨b, off + R * 3 + 1, none⟩ = some (.int .i64 w0.a) ∧ w'.cell? ⟨b, off + R * 3 + 2, none⟩ = some (.slice rq w0.fs.length rc)) ((refine HXR.out _ ?hT; (case hT => (with_reducible repeat (first | assumption | exact BD.out | refine Below.drew ?_ | refine alB ?_ _))))) (first
            | (go_at_call 76; with_reducible refine (HK1.out _ ?hB).mono ?_; (case hB => first | exact BD.out.drew | exact BD.out); rintro e z1 ⟨rfl, zb⟩; have zb := chainB BD.out.drew zb)
            | (go_at_call 149; refine (byNone_any now z1).mono ?_; rintro e z2 ⟨rfl, zb2⟩; have zb2 := chainB zb zb2))
          all_goals
            go_wp2_with fail
            go_ret
            exact ⟨by rw [HV.out]; rfl, chainB B2.out zb2⟩
        · have HK1 : Hid (∀ x, Below W2.heap.size W2 x → Calls Tryz.prog 76 #[.agg #[.slice p1 us.length c1, .slice p2 hs.length c2], .agg #[.string w0.k, .int .i64 w0.a, .slice rq w0.fs.length rc], .int .i64 (F : Int)] x fun e w' => (∃ LL EE, e = .returned (.agg #[.int .i64 (w0.a + mm), .func (.func 150) #[] #[.pointer (some ⟨LL, 0, none⟩), .pointer (some ⟨EE, 0, none⟩)]]) ∧ Bxs w' LL 2 #[.int .i64 (w0.a + ll)] ∧ Bxs w' EE 2 #[.int .i64 (w0.a + mm)]) ∧ Below x.heap.size x w') := fun x hb => (HK.out x hb).mono (by
            rintro e w' ⟨⟨h, -⟩ | ⟨-, h⟩, hb2⟩
            · omega
            · exact ⟨h, hb2⟩)
          have dJ : decide ((0 : Int) ≤ J) = true := decide_eq_true hJ0
          rw [dJ] at HLt
          by_cases hlt : now < w0.a + ll
          · have HV : Hid (mfO rs lv now us hs (R : Int) (F : Int) = 8) := by
              show _ = _
              rw [HM.out, HLt.out]
              simp [hlt]
            have dst : (stI (w0.a + ll) (w0.a + mm) now == 1) = true := by unfold stI; rw [if_pos hlt]; rfl
            clear HM HLt HK hlt dJ hJ0
            go_enter Tryz.func54, Tryz.ntmps54
            go_wp2_with fail
            rw [← HW2.out]
            refine hPR.mono ?_
            rintro e y1 ⟨rfl, b1⟩
            obtain ⟨y0, y1', y2, y3, y4⟩ := HX.out y1 b1
            clear hPR x0 x1 x2 x3 x4
            go_wp2_with fail
            refine (HWk.out _).mono ?_
            rintro e y5 ⟨rfl, b5⟩
            have b5 := chainB b1 b5
            clear y0 y1' y2 y3 y4
            go_wp2_with fail
            refine (HG2.out _ b5).mono ?_
            rintro e y6 ⟨rfl, b6⟩
            have b6 := chainB b5 b6
            obtain ⟨y0, y1', y2, y3, y4⟩ := HX.out y6 b6
            go_wp2_with fail
            refine (HH2.out _ b6).mono ?_
            rintro e y7 ⟨rfl, b7⟩
            have b7 := chainB b6 b7
            clear y0 y1' y2 y3 y4
            obtain ⟨y0, y1', y2, y3, y4⟩ := HX.out y7 b7
            obtain ⟨r0, r1, r2⟩ := HRc.out y7 b7
            have BD : Hid (Below W2.heap.size W2 y7) := b7
            have HXR : Hid (∀ x, Below W2.heap.size W2 x → (x.cell? ⟨w.heap.size, 0, none⟩ = some (.slice (some ⟨b, off, none⟩) rs.length cq) ∧ x.cell? ⟨w.heap.size, 2, none⟩ = some (.int .i64 now) ∧ x.cell? ⟨w.heap.size + 1, 0, none⟩ = some (.slice p1 us.length c1) ∧ x.cell? ⟨w.heap.size + 1, 1, none⟩ = some (.slice p2 hs.length c2)) ∧ x.cell? ⟨b, off + R * 3, none⟩ = some (.string w0.k) ∧ x.cell? ⟨b, off + R * 3 + 1, none⟩ = some (.int .i64 w0.a) ∧ x.cell? ⟨b, off + R * 3 + 2, none⟩ = some (.slice rq w0.fs.length rc)) := fun x hb => ⟨⟨(HX.out x hb).1, (HX.out x hb).2.2.1, (HX.out x hb).2.2.2.1, (HX.out x hb).2.2.2.2⟩, HRc.out x hb⟩
            go_wp2_with fail
            go_region_held3 (fun w' => (w'.cell? ⟨w.heap.size, 0, none⟩ = some (.slice (some ⟨b, off, none⟩) rs.length cq) ∧ w'.cell? ⟨w.heap.size, 2, none⟩ = some (.int .i64 now) ∧ w'.cell? ⟨w.heap.size + 1, 0, none⟩ = some (.slice p1 us.length c1) ∧ w'.cell? ⟨w.heap.size + 1, 1, none⟩ = some (.slice p2 hs.length c2)) ∧ w'.cell? ⟨b, off + R * 3, none⟩ = some (.string w0.k) ∧ w'.cell? ⟨b, off + R * 3 + 1, none⟩ = some (.int .i64 w0.a) ∧ w'.cell? ⟨b, off + R * 3 + 2, none⟩ = some (.slice rq w0.fs.length rc)) ((refine HXR.out _ ?hT; (case hT => (with_reducible repeat (first | assumption | exact BD.out | refine Below.drew ?_ | refine alB ?_ _))))) (first
              | (go_at_call 76; with_reducible refine (HK1.out _ ?hB).mono ?_; (case hB => first | exact BD.out.drew | exact BD.out); rintro e z1 ⟨⟨LL, EE, rfl, kL, kE⟩, zb⟩; have zb := chainB BD.out.drew zb; have fst1 := fun x : World => field_st (w0.a + mm) (.func 150) #[] #[.pointer (some ⟨LL, 0, none⟩), .pointer (some ⟨EE, 0, none⟩)] x)
              | (go_at_call 150; refine (by_any now LL EE (w0.a + ll) (w0.a + mm) z1 kL kE).mono ?_; rintro e z2 ⟨rfl, zb2⟩; have zb2 := chainB zb zb2))
            all_goals
              go_wp2_with fail
              go_ret
              exact ⟨by rw [HV.out]; rfl, chainB B2.out zb2⟩
          · have HV : Hid (mfO rs lv now us hs (R : Int) (F : Int) = 0) := by
              show _ = _
              rw [HM.out, HLt.out]
              simp [hlt]
            have dst : (stI (w0.a + ll) (w0.a + mm) now == 1) = false := by
              unfold stI
              rw [if_neg hlt]
              split <;> rfl
            clear HM HLt HK hlt dJ hJ0
            go_enter Tryz.func54, Tryz.ntmps54
            go_wp2_with fail
            rw [← HW2.out]
            refine hPR.mono ?_
            rintro e y1 ⟨rfl, b1⟩
            obtain ⟨y0, y1', y2, y3, y4⟩ := HX.out y1 b1
            clear hPR x0 x1 x2 x3 x4
            go_wp2_with fail
            refine (HWk.out _).mono ?_
            rintro e y5 ⟨rfl, b5⟩
            have b5 := chainB b1 b5
            clear y0 y1' y2 y3 y4
            go_wp2_with fail
            refine (HG2.out _ b5).mono ?_
            rintro e y6 ⟨rfl, b6⟩
            have b6 := chainB b5 b6
            obtain ⟨y0, y1', y2, y3, y4⟩ := HX.out y6 b6
            go_wp2_with fail
            refine (HH2.out _ b6).mono ?_
            rintro e y7 ⟨rfl, b7⟩
            have b7 := chainB b6 b7
            clear y0 y1' y2 y3 y4
            obtain ⟨y0, y1', y2, y3, y4⟩ := HX.out y7 b7
            obtain ⟨r0, r1, r2⟩ := HRc.out y7 b7
            have BD : Hid (Below W2.heap.size W2 y7) := b7
            have HXR : Hid (∀ x, Below W2.heap.size W2 x → (x.cell? ⟨w.heap.size, 0, none⟩ = some (.slice (some ⟨b, off, none⟩) rs.length cq) ∧ x.cell? ⟨w.heap.size, 2, none⟩ = some (.int .i64 now) ∧ x.cell? ⟨w.heap.size + 1, 0, none⟩ = some (.slice p1 us.length c1) ∧ x.cell? ⟨w.heap.size + 1, 1, none⟩ = some (.slice p2 hs.length c2)) ∧ x.cell? ⟨b, off + R * 3, none⟩ = some (.string w0.k) ∧ x.cell? ⟨b, off + R * 3 + 1, none⟩ = some (.int .i64 w0.a) ∧ x.cell? ⟨b, off + R * 3 + 2, none⟩ = some (.slice rq w0.fs.length rc)) := fun x hb => ⟨⟨(HX.out x hb).1, (HX.out x hb).2.2.1, (HX.out x hb).2.2.2.1, (HX.out x hb).2.2.2.2⟩, HRc.out x hb⟩
            go_wp2_with fail
            go_region_held3 (fun w' => (w'.cell? ⟨w.heap.size, 0, none⟩ = some (.slice (some ⟨b, off, none⟩) rs.length cq) ∧ w'.cell? ⟨w.heap.size, 2, none⟩ = some (.int .i64 now) ∧ w'.cell? ⟨w.heap.size + 1, 0, none⟩ = some (.slice p1 us.length c1) ∧ w'.cell? ⟨w.heap.size + 1, 1, none⟩ = some (.slice p2 hs.length c2)) ∧ w'.cell? ⟨b, off + R * 3, none⟩ = some (.string w0.k) ∧ w'.cell? ⟨b, off + R * 3 + 1, none⟩ = some (.int .i64 w0.a) ∧ w'.cell? ⟨b, off + R * 3 + 2, none⟩ = some (.slice rq w0.fs.length rc)) ((refine HXR.out _ ?hT; (case hT => (with_reducible repeat (first | assumption | exact BD.out | refine Below.drew ?_ | refine alB ?_ _))))) (first
              | (go_at_call 76; with_reducible refine (HK1.out _ ?hB).mono ?_; (case hB => first | exact BD.out.drew | exact BD.out); rintro e z1 ⟨⟨LL, EE, rfl, kL, kE⟩, zb⟩; have zb := chainB BD.out.drew zb; have fst1 := fun x : World => field_st (w0.a + mm) (.func 150) #[] #[.pointer (some ⟨LL, 0, none⟩), .pointer (some ⟨EE, 0, none⟩)] x)
              | (go_at_call 150; refine (by_any now LL EE (w0.a + ll) (w0.a + mm) z1 kL kE).mono ?_; rintro e z2 ⟨rfl, zb2⟩; have zb2 := chainB zb zb2))
            all_goals
              go_wp2_with fail
              go_ret
              exact ⟨by rw [HV.out]; rfl, chainB B2.out zb2⟩
      · rw [if_pos hh1] at hM
        have HV : Hid _ := hM
        have hHe := HHe.out
        rw [hh1] at hHe
        have HH2 : Hid _ := hHe
        clear hM HHe hHe hh1 hp hlg hf0 hA
        go_enter Tryz.func54, Tryz.ntmps54
        go_wp2_with fail
        rw [← HW2.out]
        refine hPR.mono ?_
        rintro e y1 ⟨rfl, b1⟩
        obtain ⟨y0, y1', y2, y3, y4⟩ := HX.out y1 b1
        clear hPR x0 x1 x2 x3 x4
        go_wp2_with fail
        refine (HWk.out _).mono ?_
        rintro e y5 ⟨rfl, b5⟩
        have b5 := chainB b1 b5
        clear y0 y1' y2 y3 y4
        go_wp2_with fail
        refine (HG2.out _ b5).mono ?_
        rintro e y6 ⟨rfl, b6⟩
        have b6 := chainB b5 b6
        obtain ⟨y0, y1', y2, y3, y4⟩ := HX.out y6 b6
        go_wp2_with fail
        refine (HH2.out _ b6).mono ?_
        rintro e y7 ⟨rfl, b7⟩
        go_wp2_with fail
        go_ret
        exact ⟨by rw [HV.out]; rfl, chainB B2.out (chainB b6 b7)⟩
    · rw [if_neg hc] at hM
      have HV : Hid (mfO rs lv now us hs r f = gcO rs lv now r f) := hM
      have bne : (gcO rs lv now r f != 0) = true := bne_iff_ne.2 hc
      generalize gcO rs lv now r f = C at *
      clear hM hc HHe hp hA
      go_enter Tryz.func54, Tryz.ntmps54
      go_wp2_with fail
      rw [← HW2.out]
      refine hPR.mono ?_
      rintro e y1 ⟨rfl, b1⟩
      obtain ⟨y0, y1', y2, y3, y4⟩ := HX.out y1 b1
      clear hPR x0 x1 x2 x3 x4
      go_wp2_with fail
      refine (HWk.out _).mono ?_
      rintro e y5 ⟨rfl, b5⟩
      have b5 := chainB b1 b5
      clear y0 y1' y2 y3 y4
      go_wp2_with fail
      refine (HGC.out _ b5).mono ?_
      rintro e y6 ⟨rfl, b6⟩
      have b6 := chainB b5 b6
      go_wp2_with fail
      go_ret
      exact ⟨by rw [HV.out]; rfl, chainB B2.out b6⟩
end Go.Proofs.YtokkeadbkeehgaaGreatDoor
