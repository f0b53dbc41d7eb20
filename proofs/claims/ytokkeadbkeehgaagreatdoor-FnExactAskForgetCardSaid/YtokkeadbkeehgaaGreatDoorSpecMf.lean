/-
  What the specification's l10May and MayForget answer.
  Conditions: a log and a policy that lie in memory.
-/
import Derived.Test.YtokkeadbkeehgaaGreatDoorRows
import Derived.Test.YtokkeadbkeehgaaGreatDoorBytesDigMathTreeMathSlASlBBxKOwnSTakesLTillTwo
import Derived.Test.YtokkeadbkeehgaaGreatDoorLgAtKShwKOneKFldGFldBlkRwBlkIntKLawILawOGLawImBlNotRulMathAppS
import Derived.Test.YtokkeadbkeehgaaGreatDoorNameRight
import Derived.Test.YtokkeadbkeehgaaGreatDoorTimeBPutMathPutNumJoinedPutTextFldMathFldRiseScanMath
import Derived.Test.YtokkeadbkeehgaaGreatDoorGetValGetTxtNumMathFldRdNumFromTmbMathLgMath
import Derived.Test.YtokkeadbkeehgaaGreatDoorLawLqLgAnsLgRtLtMathLawLtLawFXLawLa
import Derived.Test.YtokkeadbkeehgaaGreatDoorRulBlkLawRlLawPoLawSLawM
import Derived.Test.YtokkeadbkeehgaaGreatDoorLawSwLfMathLaMathLfSumPolMathPolIdxRulIdxPolO
import Derived.Test.YtokkeadbkeehgaaGreatDoorPolAnsKeepMAfMathLawAfStepAppOwnBTurn2
import Derived.Test.YtokkeadbkeehgaaGreatDoorSpecLr
import Derived.Test.YtokkeadbkeehgaaGreatDoorImplTrLeafKSpecPl
import Derived.Test.YtokkeadbkeehgaaGreatDoorPolS
import Derived.Test.YtokkeadbkeehgaaGreatDoorDelIDelRSpecHe
import Derived.Test.YtokkeadbkeehgaaGreatDoorLawRmLawPoMTakesLawFLawFRLawSG
import Derived.Handy
import Derived.WalkSpells
import Derived.OwnWalk
import Derived.Deep.RegionWith
import Derived.Deep.Cut
import Derived.Deep.CutRange
import Derived.Deep.QuietTactic
import Derived.BigQuiet
namespace Go.Proofs.YtokkeadbkeehgaaGreatDoor
open Go.RowKit Go.Lib
set_option linter.unusedVariables false
set_option maxRecDepth 20000

set_option maxHeartbeats 4000000 in
theorem l10May_any (p : Option Addr) (lv : List ByteArray) (cp : Nat) (q : Option Addr) (rs : List Rw) (cq : Nat) (now : Int) (p1 p2 : Option Addr) (c1 c2 : Nat) (us : List Rul) (hs : List Int) (r f : Int) (w : World) (hA : LgAt p lv cp q rs cq w) (hr : RulAt w p1 us) (hh : IntAt w p2 hs) (m1 : us.length ≤ c1) (m2 : hs.length ≤ c2) (hl : lgB rs lv now = true) (hp : polB us hs = true) :
    Calls Tryz.prog 85 #[.agg #[.slice q rs.length cq, .slice p lv.length cp, .int .i64 now], .agg #[.slice p1 us.length c1, .slice p2 hs.length c2], .int .i64 r, .int .i64 f] w fun e w' => e = .returned (.int .i64 (mfO rs lv now us hs r f)) ∧ Below w.heap.size w w' := by
  have hM : mfO rs lv now us hs r f = if fcO rs r f = 0 then (if heldB hs r = true then 11 else if lateB us (rs.getD r.toNat rwZ).k (fldOf rs r f).n (rs.getD r.toNat rwZ).a now = true then 8 else 0) else fcO rs r f := if_pos ⟨hl, hp⟩
  obtain ⟨hu6, -, -, hh6, -⟩ := polB_parts hp
  have hrr := (lg_right hl).2.2
  have hlm := rule_times hp
  obtain ⟨W2, hW2⟩ : ∃ W2, W2 = (w.alloc (.cells #[.slice q rs.length cq, .slice p lv.length cp, .int .i64 now] 36)).alloc (.cells #[.slice p1 us.length c1, .slice p2 hs.length c2] 40) := ⟨_, rfl⟩
  have HW2 : Hid (W2 = (w.alloc (.cells #[.slice q rs.length cq, .slice p lv.length cp, .int .i64 now] 36)).alloc (.cells #[.slice p1 us.length c1, .slice p2 hs.length c2] 40)) := hW2
  have hs1 : (w.alloc (.cells #[.slice q rs.length cq, .slice p lv.length cp, .int .i64 now] 36)).heap.size = w.heap.size + 1 := by simp
  have B2 : Hid (Below w.heap.size w W2) := by rw [hW2]; exact ((Below.refl _ _).alloc (Nat.le_refl _) _).alloc (by rw [hs1]; omega) _
  have K0 : Hid (Bxs W2 w.heap.size 36 #[.slice q rs.length cq, .slice p lv.length cp, .int .i64 now]) := by rw [hW2]; exact (Bxs.new _ _ _).alloc _
  have K1 : Hid (Bxs W2 (w.heap.size + 1) 40 #[.slice p1 us.length c1, .slice p2 hs.length c2]) := by rw [hW2, ← hs1]; exact Bxs.new _ _ _
  have HX : Hid (∀ x, Below W2.heap.size W2 x → x.cell? ⟨w.heap.size, 0, none⟩ = some (.slice q rs.length cq) ∧ x.cell? ⟨w.heap.size, 1, none⟩ = some (.slice p lv.length cp) ∧ x.cell? ⟨w.heap.size, 2, none⟩ = some (.int .i64 now) ∧ x.cell? ⟨w.heap.size + 1, 0, none⟩ = some (.slice p1 us.length c1) ∧ x.cell? ⟨w.heap.size + 1, 1, none⟩ = some (.slice p2 hs.length c2)) := fun x hb => ⟨(K0.out.below hb).cell 0, (K0.out.below hb).cell 1, (K0.out.below hb).cell 2, (K1.out.below hb).cell 0, (K1.out.below hb).cell 1⟩
  have HA : Hid (∀ x, Below W2.heap.size W2 x → LgAt p lv cp q rs cq x) := fun x hb => hA.below (chainB B2.out hb)
  have HU : Hid (∀ x, Below W2.heap.size W2 x → RulAt x p1 us ∧ IntAt x p2 hs) := fun x hb => ⟨hr.below (chainB B2.out hb), hh.below (chainB B2.out hb)⟩
  have hF := (fun x hb => l09Field_any p lv cp q rs cq now r f x (HA.out x hb).rw hA.rn hA.rc (fun y hy => (hA.rz y hy).1) : ∀ x, Below W2.heap.size W2 x → Calls Tryz.prog 123 #[.agg #[.slice q rs.length cq, .slice p lv.length cp, .int .i64 now], .int .i64 r, .int .i64 f] x fun e w' => e = .returned (.int .i64 (fcO rs r f)) ∧ Below x.heap.size x w')
  have hH := (fun x hb => l10Held_any p1 p2 us.length c1 c2 hs r x (HU.out x hb).2 (by omega) m2 : ∀ x, Below W2.heap.size W2 x → Calls Tryz.prog 66 #[.agg #[.slice p1 us.length c1, .slice p2 hs.length c2], .int .i64 r] x fun e w' => e = .returned (.int .i64 (fstI (eqI r) hs)) ∧ Below x.heap.size x w')
  obtain ⟨x0, x1, x2, x3, x4⟩ := HX.out W2 (Below.refl _ _)
  rw [hW2] at x0 x1 x2 x3 x4
  clear hW2 hs1 hr hh
  by_cases hf0 : fcO rs r f = 0
  · rw [if_pos hf0] at hM
    rw [hf0] at hF
    obtain ⟨R, F, hR, hFl, rfl, rfl, e1, e2, -⟩ := fc_there hf0
    have HHe : Hid (heldB hs (R : Int) = decide (0 ≤ fstI (eqI (R : Int)) hs)) := rfl
    generalize fstI (eqI (R : Int)) hs = I at *
    have hF2 := hF W2 (Below.refl _ _)
    have HH : Hid _ := hH
    clear hf0 hF hH
    by_cases hI : 0 ≤ I
    · have hV : mfO rs lv now us hs (R : Int) (F : Int) = 11 := by rw [hM, HHe.out, if_pos (decide_eq_true hI)]
      have dI : decide (0 ≤ I) = true := decide_eq_true hI
      have HV : Hid _ := hV
      clear hM hV hI HHe e1 e2
      go_enter Tryz.func85, Tryz.ntmps85
      go_wp2_with fail
      rw [← HW2.out]
      refine hF2.mono ?_
      rintro e y1 ⟨rfl, b1⟩
      obtain ⟨y0, y1', y2, y3, y4⟩ := HX.out y1 b1
      have hh1 := HH.out y1 b1
      clear hF2 x0 x1 x2 x3 x4
      go_wp2_with fail
      refine hh1.mono ?_
      rintro e y5 ⟨rfl, b5⟩
      go_wp2_with fail
      go_ret
      exact ⟨by rw [HV.out]; rfl, chainB B2.out (chainB b1 b5)⟩
    · have dI : decide (0 ≤ I) = false := decide_eq_false hI
      rw [e1, e2] at hM
      rw [HHe.out, if_neg (by rw [dI]; simp)] at hM
      have hrow := hrr rs[R] (List.getElem_mem hR)
      obtain ⟨b, off, rq, rc, rfl, hb0, -⟩ := hA.rw R hR
      obtain ⟨b', off', rq, rc, hq, -, c0, c1', c2', c3, c4⟩ := (HA.out W2 (Below.refl _ _)).rw R hR
      cases hq
      obtain ⟨fb, fo, rfl, hfb, f0, -⟩ := c4 F hFl
      generalize rs[R].fs[F].n = N at *
      obtain ⟨w0, hw0⟩ : ∃ G, G = rs[R] := ⟨_, rfl⟩
      rw [← hw0] at c0 c1' c2' c3 c4 hFl hM hrow
      have hrp := rwB_parts hrow
      have HB0 : Hid (b < W2.heap.size) := Nat.lt_of_lt_of_le hb0 B2.out.size
      have HRc : Hid (∀ x, Below W2.heap.size W2 x → x.cell? ⟨b, off + R * 3, none⟩ = some (.string w0.k) ∧ x.cell? ⟨b, off + R * 3 + 1, none⟩ = some (.int .i64 w0.a) ∧ x.cell? ⟨b, off + R * 3 + 2, none⟩ = some (.slice (some ⟨fb, fo, none⟩) w0.fs.length rc) ∧ x.cell? ⟨fb, fo + F * 5, none⟩ = some (.string N)) := fun x hb => ⟨(hb.cell (p := ⟨b, off + R * 3, none⟩) HB0.out).trans c0, (hb.cell (p := ⟨b, off + R * 3 + 1, none⟩) HB0.out).trans c1', (hb.cell (p := ⟨b, off + R * 3 + 2, none⟩) HB0.out).trans c2', (hb.cell (p := ⟨fb, fo + F * 5, none⟩) hfb).trans f0⟩
      have HO := (fun x hb => l10Of_any p1 p2 hs.length c1 c2 us w0.k N x (HU.out x hb).1 (by omega) m1 : ∀ x, Below W2.heap.size W2 x → Calls Tryz.prog 67 #[.agg #[.slice p1 us.length c1, .slice p2 hs.length c2], .string w0.k, .string N] x fun e w' => e = .returned (.int .i64 (fstI (eqR w0.k N) us)) ∧ Below x.heap.size x w')
      have HO : Hid _ := HO
      have iR : (R : Int) < rs.length := by omega
      have iF : (F : Int) < w0.fs.length := by omega
      have HLt : Hid (lateB us w0.k N w0.a now = (decide (0 ≤ fstI (eqR w0.k N) us) && decide (now < w0.a + (us.getD (fstI (eqR w0.k N) us).toNat rulZ).l))) := rfl
      have hrg := fst_range (eqR w0.k N) us
      have HM : Hid _ := hM
      have HRP : Hid (0 ≤ w0.a ∧ w0.a ≤ 1000000) := hrp.2.1
      have HLM : Hid (∀ r ∈ us, (0 ≤ r.l ∧ r.l ≤ 1000000) ∧ 0 ≤ r.m ∧ r.m ≤ 1000000) := hlm
      clear hM hw0 hrow hrp c0 c1' c2' c3 c4 f0 hfb hb0 hrr HHe e1 e2 hI hlm
      generalize fstI (eqR w0.k N) us = J at *
      rcases hrg with rfl | ⟨hJ0, hJl0, -⟩
      · have dJ : decide ((0 : Int) ≤ -1) = false := by decide
        have HV : Hid (mfO rs lv now us hs (R : Int) (F : Int) = 0) := by
          show _ = _
          rw [HM.out, HLt.out]
          simp
        clear HM HLt
        go_enter Tryz.func85, Tryz.ntmps85
        go_wp2_with fail
        rw [← HW2.out]
        refine hF2.mono ?_
        rintro e y1 ⟨rfl, b1⟩
        obtain ⟨y0, y1', y2, y3, y4⟩ := HX.out y1 b1
        have hh1 := HH.out y1 b1
        clear hF2 x0 x1 x2 x3 x4
        go_wp2_with fail
        refine hh1.mono ?_
        rintro e y5 ⟨rfl, b5⟩
        have b5 := chainB b1 b5
        clear y0 y1' y2 y3 y4 hh1
        obtain ⟨W6, hW6⟩ : ∃ W6, W6 = y5.alloc (.cells #[.string w0.k, .int .i64 w0.a, .slice (some ⟨fb, fo, none⟩) w0.fs.length rc] 96) := ⟨_, rfl⟩
        have HW6 : Hid (W6 = y5.alloc (.cells #[.string w0.k, .int .i64 w0.a, .slice (some ⟨fb, fo, none⟩) w0.fs.length rc] 96)) := hW6
        have b6 : Below W2.heap.size W2 W6 := by rw [hW6]; exact alB b5 _
        have K6 : Hid (Bxs W6 y5.heap.size 96 #[.string w0.k, .int .i64 w0.a, .slice (some ⟨fb, fo, none⟩) w0.fs.length rc]) := by rw [hW6]; exact Bxs.new _ _ _
        obtain ⟨y0, y1', y2, y3, y4⟩ := HX.out y5 b5
        obtain ⟨r0, r1, r2, r3⟩ := HRc.out y5 b5
        clear hW6
        go_upto_region 7 with fail
        rw [← HW6.out]
        clear y0 y1' y2 y3 y4 r0 r1 r2 r3
        obtain ⟨F7, hF7⟩ : ∃ G, G = y5.heap.size := ⟨_, rfl⟩
        rw [← hF7] at K6 ⊢
        obtain ⟨y0, y1', y2, y3, y4⟩ := HX.out W6 b6
        obtain ⟨r0, r1, r2, r3⟩ := HRc.out W6 b6
        have k0 : W6.cell? ⟨F7, 0, none⟩ = some (.string w0.k) := K6.out.cell 0
        have k1 : W6.cell? ⟨F7, 1, none⟩ = some (.int .i64 w0.a) := K6.out.cell 1
        have k2 : W6.cell? ⟨F7, 2, none⟩ = some (.slice (some ⟨fb, fo, none⟩) w0.fs.length rc) := K6.out.cell 2
        clear hF7
        have BR6 : Below W6.heap.size W6 W6.drew := (Below.refl _ _).drew
        go_cut [11] from 28 to 37 (fun s11 wx => s11 = .int .i64 (-1) ∧ Hid (Below W6.heap.size W6 wx))
        case first =>
          go_region_with (first
            | (go_at_call 67; refine (HO.out _ (chainB b6 BR6)).mono ?_; rintro e z1 ⟨rfl, zb⟩; have zb := chainB BR6 zb))
          all_goals
            go_wp2_with fail
            go_meet
            exact ⟨rfl, zb⟩
        case rest =>
          obtain ⟨rfl, BX⟩ := hcut
          obtain ⟨w8, rfl⟩ : ∃ w8 : World, w8 = wc := ⟨_, rfl⟩
          have b8 := chainB b6 BX.out
          clear y0 y1' y2 y3 y4 r0 r1 r2 r3 k0 k1 k2 BR6
          obtain ⟨y0, y1', y2, y3, y4⟩ := HX.out w8 b8
          have k1 : w8.cell? ⟨F7, 1, none⟩ = some (.int .i64 w0.a) := (K6.out.below BX.out).cell 1
          clear HX HRc HU HA HO HH K6
          go_wp2_with fail
          go_quiet (fail)
          go_wp2_with fail
          go_ret
          exact ⟨by rw [HV.out]; rfl, chainB B2.out (by first | exact b8 | exact b8.drew | exact belowDi b8 _)⟩
      · obtain ⟨J, rfl⟩ := Int.eq_ofNat_of_zero_le hJ0
        rw [Int.toNat_natCast] at hJl0
        have hJl : J < us.length := hJl0
        have hg : us.getD (J : Int).toNat rulZ = us[J] := by rw [Int.toNat_natCast, List.getD_eq_getElem?_getD, List.getElem?_eq_getElem hJl]; rfl
        have dJ : decide ((0 : Int) ≤ J) = true := decide_eq_true (by omega)
        rw [hg, dJ] at HLt
        by_cases hlt : now < w0.a + us[J].l
        · have HV : Hid (mfO rs lv now us hs (R : Int) (F : Int) = 8) := by
            show _ = _
            rw [HM.out, HLt.out]
            simp [hlt]
          have dl : decide (now < w0.a + us[J].l) = true := decide_eq_true hlt
          clear HM HLt hg hlt hJl0 hJ0
          go_enter Tryz.func85, Tryz.ntmps85
          go_wp2_with fail
          rw [← HW2.out]
          refine hF2.mono ?_
          rintro e y1 ⟨rfl, b1⟩
          obtain ⟨y0, y1', y2, y3, y4⟩ := HX.out y1 b1
          have hh1 := HH.out y1 b1
          clear hF2 x0 x1 x2 x3 x4
          go_wp2_with fail
          refine hh1.mono ?_
          rintro e y5 ⟨rfl, b5⟩
          have b5 := chainB b1 b5
          clear y0 y1' y2 y3 y4 hh1
          obtain ⟨W6, hW6⟩ : ∃ W6, W6 = y5.alloc (.cells #[.string w0.k, .int .i64 w0.a, .slice (some ⟨fb, fo, none⟩) w0.fs.length rc] 96) := ⟨_, rfl⟩
          have HW6 : Hid (W6 = y5.alloc (.cells #[.string w0.k, .int .i64 w0.a, .slice (some ⟨fb, fo, none⟩) w0.fs.length rc] 96)) := hW6
          have b6 : Below W2.heap.size W2 W6 := by rw [hW6]; exact alB b5 _
          have K6 : Hid (Bxs W6 y5.heap.size 96 #[.string w0.k, .int .i64 w0.a, .slice (some ⟨fb, fo, none⟩) w0.fs.length rc]) := by rw [hW6]; exact Bxs.new _ _ _
          obtain ⟨y0, y1', y2, y3, y4⟩ := HX.out y5 b5
          obtain ⟨r0, r1, r2, r3⟩ := HRc.out y5 b5
          clear hW6
          go_upto_region 7 with fail
          rw [← HW6.out]
          clear y0 y1' y2 y3 y4 r0 r1 r2 r3
          obtain ⟨F7, hF7⟩ : ∃ G, G = y5.heap.size := ⟨_, rfl⟩
          rw [← hF7] at K6 ⊢
          obtain ⟨y0, y1', y2, y3, y4⟩ := HX.out W6 b6
          obtain ⟨r0, r1, r2, r3⟩ := HRc.out W6 b6
          have k0 : W6.cell? ⟨F7, 0, none⟩ = some (.string w0.k) := K6.out.cell 0
          have k1 : W6.cell? ⟨F7, 1, none⟩ = some (.int .i64 w0.a) := K6.out.cell 1
          have k2 : W6.cell? ⟨F7, 2, none⟩ = some (.slice (some ⟨fb, fo, none⟩) w0.fs.length rc) := K6.out.cell 2
          clear hF7
          have BR6 : Below W6.heap.size W6 W6.drew := (Below.refl _ _).drew
          go_cut [11] from 28 to 37 (fun s11 wx => s11 = .int .i64 J ∧ Hid (Below W6.heap.size W6 wx))
          case first =>
            go_region_with (first
              | (go_at_call 67; refine (HO.out _ (chainB b6 BR6)).mono ?_; rintro e z1 ⟨rfl, zb⟩; have zb := chainB BR6 zb))
            all_goals
              go_wp2_with fail
              go_meet
              exact ⟨rfl, zb⟩
          case rest =>
            obtain ⟨rfl, BX⟩ := hcut
            obtain ⟨w8, rfl⟩ : ∃ w8 : World, w8 = wc := ⟨_, rfl⟩
            have b8 := chainB b6 BX.out
            clear y0 y1' y2 y3 y4 r0 r1 r2 r3 k0 k1 k2 BR6
            obtain ⟨y0, y1', y2, y3, y4⟩ := HX.out w8 b8
            have k1 : w8.cell? ⟨F7, 1, none⟩ = some (.int .i64 w0.a) := (K6.out.below BX.out).cell 1
            obtain ⟨rb, ro, hp1, hrb, u0, u1, u2, u3⟩ := (HU.out w8 b8).1 J hJl
            cases hp1
            have iJ : (J : Int) < us.length := by omega
            have hsum : IntKind.i64.wrap (w0.a + us[J].l) = w0.a + us[J].l := by rw [IntKind.wrap_i64]; have := HRP.out; have := (HLM.out us[J] (List.getElem_mem hJl)).1; omega
            clear HX HRc HU HA HO HH K6 u0 u1 u3
            generalize us[J].l = ll at *
            go_wp2_with fail
            go_quiet (fail)
            go_wp2_with fail
            go_ret
            exact ⟨by rw [HV.out]; rfl, chainB B2.out (by first | exact b8 | exact b8.drew | exact belowDi b8 _)⟩
        · have HV : Hid (mfO rs lv now us hs (R : Int) (F : Int) = 0) := by
            show _ = _
            rw [HM.out, HLt.out]
            simp [hlt]
          have dl : decide (now < w0.a + us[J].l) = false := decide_eq_false hlt
          clear HM HLt hg hlt hJl0 hJ0
          go_enter Tryz.func85, Tryz.ntmps85
          go_wp2_with fail
          rw [← HW2.out]
          refine hF2.mono ?_
          rintro e y1 ⟨rfl, b1⟩
          obtain ⟨y0, y1', y2, y3, y4⟩ := HX.out y1 b1
          have hh1 := HH.out y1 b1
          clear hF2 x0 x1 x2 x3 x4
          go_wp2_with fail
          refine hh1.mono ?_
          rintro e y5 ⟨rfl, b5⟩
          have b5 := chainB b1 b5
          clear y0 y1' y2 y3 y4 hh1
          obtain ⟨W6, hW6⟩ : ∃ W6, W6 = y5.alloc (.cells #[.string w0.k, .int .i64 w0.a, .slice (some ⟨fb, fo, none⟩) w0.fs.length rc] 96) := ⟨_, rfl⟩
          have HW6 : Hid (W6 = y5.alloc (.cells #[.string w0.k, .int .i64 w0.a, .slice (some ⟨fb, fo, none⟩) w0.fs.length rc] 96)) := hW6
          have b6 : Below W2.heap.size W2 W6 := by rw [hW6]; exact alB b5 _
          have K6 : Hid (Bxs W6 y5.heap.size 96 #[.string w0.k, .int .i64 w0.a, .slice (some ⟨fb, fo, none⟩) w0.fs.length rc]) := by rw [hW6]; exact Bxs.new _ _ _
          obtain ⟨y0, y1', y2, y3, y4⟩ := HX.out y5 b5
          obtain ⟨r0, r1, r2, r3⟩ := HRc.out y5 b5
          clear hW6
          go_upto_region 7 with fail
          rw [← HW6.out]
          clear y0 y1' y2 y3 y4 r0 r1 r2 r3
          obtain ⟨F7, hF7⟩ : ∃ G, G = y5.heap.size := ⟨_, rfl⟩
          rw [← hF7] at K6 ⊢
          obtain ⟨y0, y1', y2, y3, y4⟩ := HX.out W6 b6
          obtain ⟨r0, r1, r2, r3⟩ := HRc.out W6 b6
          have k0 : W6.cell? ⟨F7, 0, none⟩ = some (.string w0.k) := K6.out.cell 0
          have k1 : W6.cell? ⟨F7, 1, none⟩ = some (.int .i64 w0.a) := K6.out.cell 1
          have k2 : W6.cell? ⟨F7, 2, none⟩ = some (.slice (some ⟨fb, fo, none⟩) w0.fs.length rc) := K6.out.cell 2
          clear hF7
          have BR6 : Below W6.heap.size W6 W6.drew := (Below.refl _ _).drew
          go_cut [11] from 28 to 37 (fun s11 wx => s11 = .int .i64 J ∧ Hid (Below W6.heap.size W6 wx))
          case first =>
            go_region_with (first
              | (go_at_call 67; refine (HO.out _ (chainB b6 BR6)).mono ?_; rintro e z1 ⟨rfl, zb⟩; have zb := chainB BR6 zb))
            all_goals
              go_wp2_with fail
              go_meet
              exact ⟨rfl, zb⟩
          case rest =>
            obtain ⟨rfl, BX⟩ := hcut
            obtain ⟨w8, rfl⟩ : ∃ w8 : World, w8 = wc := ⟨_, rfl⟩
            have b8 := chainB b6 BX.out
            clear y0 y1' y2 y3 y4 r0 r1 r2 r3 k0 k1 k2 BR6
            obtain ⟨y0, y1', y2, y3, y4⟩ := HX.out w8 b8
            have k1 : w8.cell? ⟨F7, 1, none⟩ = some (.int .i64 w0.a) := (K6.out.below BX.out).cell 1
            obtain ⟨rb, ro, hp1, hrb, u0, u1, u2, u3⟩ := (HU.out w8 b8).1 J hJl
            cases hp1
            have iJ : (J : Int) < us.length := by omega
            have hsum : IntKind.i64.wrap (w0.a + us[J].l) = w0.a + us[J].l := by rw [IntKind.wrap_i64]; have := HRP.out; have := (HLM.out us[J] (List.getElem_mem hJl)).1; omega
            clear HX HRc HU HA HO HH K6 u0 u1 u3
            generalize us[J].l = ll at *
            go_wp2_with fail
            go_quiet (fail)
            go_wp2_with fail
            go_ret
            exact ⟨by rw [HV.out]; rfl, chainB B2.out (by first | exact b8 | exact b8.drew | exact belowDi b8 _)⟩
  · rw [if_neg hf0] at hM
    have HV : Hid (mfO rs lv now us hs r f = fcO rs r f) := hM
    have bne : (fcO rs r f != 0) = true := bne_iff_ne.2 hf0
    have hF2 := hF W2 (Below.refl _ _)
    generalize fcO rs r f = C at *
    clear hF hH hM hf0
    go_enter Tryz.func85, Tryz.ntmps85
    go_wp2_with fail
    rw [← HW2.out]
    refine hF2.mono ?_
    rintro e y1 ⟨rfl, b1⟩
    clear hF2 x0 x1 x2 x3 x4
    go_wp2_with fail
    go_ret
    exact ⟨by rw [HV.out]; rfl, chainB B2.out b1⟩
set_option maxHeartbeats 4000000 in
theorem specMayForget_any (p : Option Addr) (lv : List ByteArray) (cp : Nat) (q : Option Addr) (rs : List Rw) (cq : Nat) (now : Int) (p1 p2 : Option Addr) (c1 c2 : Nat) (us : List Rul) (hs : List Int) (r f : Int) (w : World) (hA : LgAt p lv cp q rs cq w) (hr : RulAt w p1 us) (hh : IntAt w p2 hs) (m1 : us.length ≤ c1) (m2 : hs.length ≤ c2) (hz : RulsLe us) (hu : us.length ≤ 1048576) (hhl : hs.length ≤ 1048576) :
    Calls Tryz.prog 51 #[.agg #[.slice q rs.length cq, .slice p lv.length cp, .int .i64 now], .agg #[.slice p1 us.length c1, .slice p2 hs.length c2], .int .i64 r, .int .i64 f] w fun e w' => e = .returned (.int .i64 (mfO rs lv now us hs r f)) ∧ Below w.heap.size w w' := by
  obtain ⟨W2, hW2⟩ : ∃ W2, W2 = (w.alloc (.cells #[.slice q rs.length cq, .slice p lv.length cp, .int .i64 now] 36)).alloc (.cells #[.slice p1 us.length c1, .slice p2 hs.length c2] 40) := ⟨_, rfl⟩
  have HW2 : Hid (W2 = (w.alloc (.cells #[.slice q rs.length cq, .slice p lv.length cp, .int .i64 now] 36)).alloc (.cells #[.slice p1 us.length c1, .slice p2 hs.length c2] 40)) := hW2
  have hs1 : (w.alloc (.cells #[.slice q rs.length cq, .slice p lv.length cp, .int .i64 now] 36)).heap.size = w.heap.size + 1 := by simp
  have B2 : Hid (Below w.heap.size w W2) := by rw [hW2]; exact ((Below.refl _ _).alloc (Nat.le_refl _) _).alloc (by rw [hs1]; omega) _
  have K0 : Hid (Bxs W2 w.heap.size 36 #[.slice q rs.length cq, .slice p lv.length cp, .int .i64 now]) := by rw [hW2]; exact (Bxs.new _ _ _).alloc _
  have K1 : Hid (Bxs W2 (w.heap.size + 1) 40 #[.slice p1 us.length c1, .slice p2 hs.length c2]) := by rw [hW2, ← hs1]; exact Bxs.new _ _ _
  have HX : Hid (∀ x, Below W2.heap.size W2 x → x.cell? ⟨w.heap.size, 0, none⟩ = some (.slice q rs.length cq) ∧ x.cell? ⟨w.heap.size, 1, none⟩ = some (.slice p lv.length cp) ∧ x.cell? ⟨w.heap.size, 2, none⟩ = some (.int .i64 now) ∧ x.cell? ⟨w.heap.size + 1, 0, none⟩ = some (.slice p1 us.length c1) ∧ x.cell? ⟨w.heap.size + 1, 1, none⟩ = some (.slice p2 hs.length c2)) := fun x hb => ⟨(K0.out.below hb).cell 0, (K0.out.below hb).cell 1, (K0.out.below hb).cell 2, (K1.out.below hb).cell 0, (K1.out.below hb).cell 1⟩
  have HA : Hid (∀ x, Below W2.heap.size W2 x → LgAt p lv cp q rs cq x) := fun x hb => hA.below (chainB B2.out hb)
  have HU : Hid (∀ x, Below W2.heap.size W2 x → RulAt x p1 us ∧ IntAt x p2 hs) := fun x hb => ⟨hr.below (chainB B2.out hb), hh.below (chainB B2.out hb)⟩
  have hLR := specLogRight_any p lv cp q rs cq now W2 (HA.out W2 (Below.refl _ _))
  have hPR := (fun x hb => specPolicyRight_any p1 p2 c1 c2 us hs x (HU.out x hb).1 (HU.out x hb).2 hu hhl m1 m2 hz : ∀ x, Below W2.heap.size W2 x → Calls Tryz.prog 31 #[.agg #[.slice p1 us.length c1, .slice p2 hs.length c2]] x fun e w' => e = .returned (.bool (polB us hs)) ∧ Below x.heap.size x w')
  have hMy := (fun hl hp x hb => l10May_any p lv cp q rs cq now p1 p2 c1 c2 us hs r f x (HA.out x hb) (HU.out x hb).1 (HU.out x hb).2 m1 m2 hl hp : lgB rs lv now = true → polB us hs = true → ∀ x, Below W2.heap.size W2 x → Calls Tryz.prog 85 #[.agg #[.slice q rs.length cq, .slice p lv.length cp, .int .i64 now], .agg #[.slice p1 us.length c1, .slice p2 hs.length c2], .int .i64 r, .int .i64 f] x fun e w' => e = .returned (.int .i64 (mfO rs lv now us hs r f)) ∧ Below x.heap.size x w')
  have HM1 : Hid (¬ (lgB rs lv now = true ∧ polB us hs = true) → mfO rs lv now us hs r f = 1) := fun h => if_neg h
  obtain ⟨x0, x1, x2, x3, x4⟩ := HX.out W2 (Below.refl _ _)
  rw [hW2] at x0 x1 x2 x3 x4
  have HMy : Hid _ := hMy
  have HPR : Hid _ := hPR
  clear hW2 hs1 hr hh hA hMy hPR
  generalize mfO rs lv now us hs r f = V at *
  cases hl : lgB rs lv now
  · have HV := HM1.out (by rw [hl]; simp)
    subst HV
    rw [hl] at hLR
    clear HMy HPR hl
    go_enter Tryz.func51, Tryz.ntmps51
    go_wp2_with fail
    rw [← HW2.out]
    refine hLR.mono ?_
    rintro e y1 ⟨rfl, b1⟩
    clear hLR x0 x1 x2 x3 x4
    go_wp2_with fail
    go_ret
    exact ⟨rfl, chainB B2.out b1⟩
  · rw [hl] at hLR
    cases hp : polB us hs
    · have HV := HM1.out (by rw [hp]; simp)
      subst HV
      have hPR := HPR.out
      rw [hp] at hPR
      have HPR2 : Hid _ := hPR
      clear HMy HPR hl hp hPR
      go_enter Tryz.func51, Tryz.ntmps51
      go_wp2_with fail
      rw [← HW2.out]
      refine hLR.mono ?_
      rintro e y1 ⟨rfl, b1⟩
      obtain ⟨y0, y1', y2, y3, y4⟩ := HX.out y1 b1
      have h2 := HPR2.out y1 b1
      clear hLR x0 x1 x2 x3 x4
      go_wp2_with fail
      refine h2.mono ?_
      rintro e y5 ⟨rfl, b5⟩
      go_wp2_with fail
      go_ret
      exact ⟨rfl, chainB B2.out (chainB b1 b5)⟩
    · have hPR := HPR.out
      rw [hp] at hPR
      have HPR2 : Hid _ := hPR
      have HM2 : Hid _ := HMy.out hl hp
      clear HMy HPR hl hp hPR HM1
      go_enter Tryz.func51, Tryz.ntmps51
      go_wp2_with fail
      rw [← HW2.out]
      refine hLR.mono ?_
      rintro e y1 ⟨rfl, b1⟩
      obtain ⟨y0, y1', y2, y3, y4⟩ := HX.out y1 b1
      have h2 := HPR2.out y1 b1
      clear hLR x0 x1 x2 x3 x4
      go_wp2_with fail
      refine h2.mono ?_
      rintro e y5 ⟨rfl, b5⟩
      have b5 := chainB b1 b5
      clear y0 y1' y2 y3 y4 h2
      obtain ⟨y0, y1', y2, y3, y4⟩ := HX.out y5 b5
      have h3 := HM2.out y5 b5
      go_wp2_with fail
      refine h3.mono ?_
      rintro e y6 ⟨rfl, b6⟩
      go_wp2_with fail
      go_ret
      exact ⟨rfl, chainB B2.out (chainB b5 b6)⟩
end Go.Proofs.YtokkeadbkeehgaaGreatDoor
