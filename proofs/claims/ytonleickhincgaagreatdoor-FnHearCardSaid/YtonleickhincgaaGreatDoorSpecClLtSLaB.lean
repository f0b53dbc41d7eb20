/-
  Parts of one proof, laid as one text: SpecCl, LtS, LaB; what each says stands at its head.
-/
import Derived.Test.YtonleickhincgaaGreatDoorRows
import Derived.Test.YtonleickhincgaaGreatDoorBytesDigMath
import Derived.Test.YtonleickhincgaaGreatDoorTreeMathSlABxKSlBOwnS
import Derived.Test.YtonleickhincgaaGreatDoorLgLawTakesTakesLPutterPathI
import Derived.Test.YtonleickhincgaaGreatDoorFldIsTimeIGrKSpecGNSpecGTTillTwoFldN
import Derived.Test.YtonleickhincgaaGreatDoorMac2AppSSrcDrawsDrawKitSomeIsInSignSSignDWide2StepAppPath2DigestDrawTreeSpoil
import Derived.Test.YtonleickhincgaaGreatDoorLgAtKLgAnsLgRtAudMathHdMathClaMathHearMathFldGOneKFldBlkRwBlkRowOps
import Derived.Test.YtonleickhincgaaGreatDoorDrawRowFldF
import Derived.Test.YtonleickhincgaaGreatDoorTimeBPutMathPutNumJoinedPutTextFldMath
import Derived.Test.YtonleickhincgaaGreatDoorGetValGetTxtNumMathFldRdNumFromTmbMathLgMath
import Derived.Test.YtonleickhincgaaGreatDoorLgOLtMathLfMathLaMath
import Derived.Handy
import Derived.WalkSpells
import Derived.OwnWalk
import Derived.Deep.RegionHeld3
import Derived.Deep.Cut
import Derived.Deep.CutRange
import Derived.Test.YtonleickhincgaaGreatDoorSpecLr
/-
  A log copied into memory of its own: spec.l09Copy.
-/
namespace Go.Proofs.YtonleickhincgaaGreatDoor
open Go.RowKit Go.Lib
set_option linter.unusedVariables false
set_option maxRecDepth 20000

theorem app_lvs {W y : World} {g : Nat} (hb : Below W.heap.size W y) (own : y.ownsRow W.heap.size 9 1 (.slice (some ⟨g, 0, none⟩) 0 0) 0 []) (p : Option Addr) (c : Nat) (lv : List ByteArray) (hp : TxtAt y p lv) (hn : lv.length ≤ 1048576) :
    ∃ q d y', (Builtin.append_ #[25, 25] 25 #[.slice (some ⟨g, 0, none⟩) 0 0, .slice p lv.length c]).run Tryz.prog y = .ok (.slice q lv.length d) y' ∧ y'.ownsRow W.heap.size 9 1 (.slice q lv.length d) lv.length (strRow lv) ∧ Below W.heap.size W y' ∧ y.grownBy y' (some g) := by
  obtain ⟨v', y', h1, h2, h3⟩ := app_texts y W.heap.size _ [] own p c lv hp (by simpa using hn) hb.size
  rw [List.nil_append] at h2
  obtain ⟨q, d, rfl, -, -⟩ := ownS_form h2
  exact ⟨q, d, y', h1, h2, hb.grown h3 hb.size (fun j hj => (own.lt j hj).1), h3⟩
set_option maxHeartbeats 8000000 in
theorem l09Copy_any (p : Option Addr) (lv : List ByteArray) (cp : Nat) (q : Option Addr) (rs : List Rw) (cq : Nat) (now : Int) (w : World) (hA : LgAt p lv cp q rs cq w) (hf : ∀ r ∈ rs, 0 < r.fs.length ∧ r.fs.length ≤ 1000) :
    Calls Tryz.prog 136 #[.agg #[.slice q rs.length cq, .slice p lv.length cp, .int .i64 now]] w fun e w' => ∃ v1 v2 xs, e = .returned (.agg #[v1, v2, .int .i64 now]) ∧ xs.map (·.1) = rs ∧ LgO w.heap.size xs lv v1 v2 w' ∧ Below w.heap.size w w' := by
  obtain ⟨W2, hW2⟩ : ∃ W2, W2 = (w.alloc (.cells #[.slice q rs.length cq, .slice p lv.length cp, .int .i64 now] 41)).alloc (.cells #[.slice none 0 0, .slice none 0 0, .int .i64 0] 41) := ⟨_, rfl⟩
  have HW2 : Hid (W2 = (w.alloc (.cells #[.slice q rs.length cq, .slice p lv.length cp, .int .i64 now] 41)).alloc (.cells #[.slice none 0 0, .slice none 0 0, .int .i64 0] 41)) := hW2
  have hs1 : (w.alloc (.cells #[.slice q rs.length cq, .slice p lv.length cp, .int .i64 now] 41)).heap.size = w.heap.size + 1 := by simp
  have b2 : Hid (Below w.heap.size w W2) := by rw [hW2]; exact ((Below.refl _ _).alloc (Nat.le_refl _) _).alloc (by rw [hs1]; omega) _
  have K0 : Hid (Bxs W2 w.heap.size 41 #[.slice q rs.length cq, .slice p lv.length cp, .int .i64 now]) := by rw [hW2]; exact (Bxs.new _ _ _).alloc _
  have K1 : Hid (Bxs W2 (w.heap.size + 1) 41 #[.slice none 0 0, .slice none 0 0, .int .i64 0]) := by rw [hW2, ← hs1]; exact Bxs.new _ _ _
  have hz2 : Hid (W2.heap.size = w.heap.size + 2) := by rw [hW2]; show _ = _; simp
  have HX : Hid (∀ w', Below W2.heap.size W2 w' → w'.cell? ⟨w.heap.size, 0, none⟩ = some (.slice q rs.length cq) ∧ w'.cell? ⟨w.heap.size, 1, none⟩ = some (.slice p lv.length cp) ∧ w'.cell? ⟨w.heap.size, 2, none⟩ = some (.int .i64 now)) := fun w' hb => ⟨(K0.out.below hb).cell 0, (K0.out.below hb).cell 1, (K0.out.below hb).cell 2⟩
  have HXr : Hid (∀ x, Below W2.heap.size W2 x → x.cell? ⟨w.heap.size + 1, 0, none⟩ = some (.slice none 0 0) ∧ x.cell? ⟨w.heap.size + 1, 1, none⟩ = some (.slice none 0 0) ∧ x.cell? ⟨w.heap.size + 1, 2, none⟩ = some (.int .i64 0) ∧ x.frozen? ⟨w.heap.size + 1, 0, none⟩ = false ∧ x.frozen? ⟨w.heap.size + 1, 1, none⟩ = false ∧ x.frozen? ⟨w.heap.size + 1, 2, none⟩ = false) := fun x hb => ⟨(K1.out.below hb).cell 0, (K1.out.below hb).cell 1, (K1.out.below hb).cell 2, (K1.out.below hb).fr 0, (K1.out.below hb).fr 1, (K1.out.below hb).fr 2⟩
  have HA : Hid (∀ x, Below W2.heap.size W2 x → LgAt p lv cp q rs cq x) := fun x hb => hA.below (chainB b2.out hb)
  have HF : Hid (∀ r ∈ rs, 0 < r.fs.length ∧ r.fs.length ≤ 1000) := hf
  have hrc := hA.rc
  have hlc := hA.lc
  have hrn := hA.rn
  have hln := hA.ln
  have BR : Below W2.heap.size W2 W2.drew := (Below.refl _ _).drew
  clear hW2 hA hf hs1
  go_enter Tryz.func136, Tryz.ntmps136
  go_upto_region 1 with fail
  rw [← HW2.out]
  obtain ⟨x0, x1, x2⟩ := HX.out W2 (Below.refl _ _)
  go_cut [3] from 5 to 11 (fun s3 wx => ∃ E v1 v2, s3 = .pointer (some ⟨E, 0, none⟩) ∧ Hid (LgC W2 E [] lv now v1 v2 wx))
  case first =>
    refine region_till (fun w' => w'.cell? ⟨w.heap.size, 0, none⟩ = some (.slice q rs.length cq) ∧ w'.cell? ⟨w.heap.size, 1, none⟩ = some (.slice p lv.length cp) ∧ w'.cell? ⟨w.heap.size, 2, none⟩ = some (.int .i64 now)) 8 (by kernel_rfl) (HX.out _ BR) (fun hHeld => ?_)
    generalize W2.drew = y0 at *
    refine till_take 1 (v := ?_) rfl (by kernel_rfl) (by kernel_rfl) (by kernel_rfl) (by kernel_rfl) (fun _ _ _ h => h) hHeld (Or.inl ⟨by rfl, ?_⟩) ?_
    rotate_left
    · (intro w hSw; (try dsimp only at hSw); go_simp; try with_reducible rfl)
    simp only [Act.put, List.setIfInBounds_toArray, List.set_cons_zero, List.set_cons_succ]
    refine till_take 2 (v := ?_) rfl (by kernel_rfl) (by kernel_rfl) (by kernel_rfl) (by kernel_rfl) (fun _ _ _ h => h) hHeld (Or.inl ⟨by rfl, ?_⟩) ?_
    rotate_left
    · (intro w hSw; (try dsimp only at hSw); go_simp; try with_reducible rfl)
    simp only [Act.put, List.setIfInBounds_toArray, List.set_cons_zero, List.set_cons_succ]
    refine till_take 4 (v := ?_) rfl (by kernel_rfl) (by kernel_rfl) (by kernel_rfl) (by kernel_rfl) (fun _ _ _ h => h) hHeld (Or.inl ⟨by rfl, ?_⟩) ?_
    rotate_left
    · (intro w hSw; (try dsimp only at hSw); go_simp; try with_reducible rfl)
    simp only [Act.put, List.setIfInBounds_toArray, List.set_cons_zero, List.set_cons_succ]
    refine till_take 5 (v := ?_) rfl (by kernel_rfl) (by kernel_rfl) (by kernel_rfl) (by kernel_rfl) (fun _ _ _ h => h) hHeld (Or.inl ⟨by rfl, ?_⟩) ?_
    rotate_left
    · (intro w hSw; (try dsimp only at hSw); go_simp; try with_reducible rfl)
    simp only [Act.put, List.setIfInBounds_toArray, List.set_cons_zero, List.set_cons_succ]
    refine till_ready2 0 7 rfl rfl (by kernel_rfl) (fun K hK => ?_) (fun K hK => ?_)
    · go_simp
      have own0 : (y0.alloc (.cells #[] 9)).ownsRow W2.heap.size 9 1 (.slice (some ⟨y0.heap.size, 0, none⟩) 0 0) 0 [] := own_low (ownS_none y0) BR.size
      have b_1 : Below W2.heap.size W2 (y0.alloc (.cells #[] 9)) := alB BR _
      refine hK.out _ _ (HX.out _ b_1) (fun hHeld => ?_)
      clear hK K
      try simp only [Act.put, List.setIfInBounds_toArray, List.set_cons_zero, List.set_cons_succ]
      generalize y0.alloc (.cells #[] 9) = y1 at *
      generalize y0.heap.size = g1 at *
      refine till_ready2 3 7 rfl rfl (by kernel_rfl) (fun K hK => ?_) (fun K hK => ?_)
      · obtain ⟨q3, d3, y2, hrun, own3, b_2, gr3⟩ := app_lvs b_1 own0 p cp lv (HA.out _ b_1).tx (HA.out _ b_1).ln
        refine step_append_run rfl _ _ 25 rfl (.slice (some ⟨g1, 0, none⟩) 0 0) (.slice p lv.length cp) _ _ rfl rfl hrun ?_
        refine hK.out _ _ (HX.out _ b_2) (fun hHeld => ?_)
        clear hK K
        try simp only [Act.put, List.setIfInBounds_toArray, List.set_cons_zero, List.set_cons_succ]
        refine till_take 6 (v := ?_) rfl (by kernel_rfl) (by kernel_rfl) (by kernel_rfl) (by kernel_rfl) (fun _ _ _ h => h) hHeld (Or.inl ⟨by rfl, ?_⟩) ?_
        rotate_left
        · (intro w hSw; (try dsimp only at hSw); go_simp; try with_reducible rfl)
        simp only [Act.put, List.setIfInBounds_toArray, List.set_cons_zero, List.set_cons_succ]
        refine till_ready 7 rfl (by kernel_rfl) (fun K hK => ?_)
        go_simp
        have kE : Bxs (y2.alloc (.cells #[.slice none 0 0, .slice none 0 0, .int .i64 0] 41)) y2.heap.size 41 #[.slice none 0 0, .slice none 0 0, .int .i64 0] := Bxs.new _ _ _
        have b_3 : Below W2.heap.size W2 (y2.alloc (.cells #[.slice none 0 0, .slice none 0 0, .int .i64 0] 41)) := alB b_2 _
        have hEb : W2.heap.size ≤ y2.heap.size := b_2.size
        replace own3 := ownS_below own3 (alB (Below.refl _ _) (.cells #[.slice none 0 0, .slice none 0 0, .int .i64 0] 41))
        refine hK.out _ _ (HX.out _ b_3) (fun hHeld => ?_)
        clear hK K
        try simp only [Act.put, List.setIfInBounds_toArray, List.set_cons_zero, List.set_cons_succ]
        generalize y2.alloc (.cells #[.slice none 0 0, .slice none 0 0, .int .i64 0] 41) = u3 at *
        generalize y2.heap.size = Eb at *
        have HP : Hid (LgC W2 Eb [] lv now (.slice none 0 0) (.slice q3 lv.length d3) (((u3.setCell ⟨Eb, 0, none⟩ (.slice none 0 0)).setCell ⟨Eb, 1, none⟩ (.slice q3 lv.length d3)).setCell ⟨Eb, 2, none⟩ (.int .i64 now))) := LgC.put kE hEb b_3 ⟨RwsO.nil _ _, own3⟩
        have q0 : u3.cell? ⟨Eb, 0, none⟩ = some (.slice none 0 0) := kE.cell 0
        have q1 : u3.cell? ⟨Eb, 1, none⟩ = some (.slice none 0 0) := kE.cell 1
        have q2 : u3.cell? ⟨Eb, 2, none⟩ = some (.int .i64 0) := kE.cell 2
        have f0 := kE.fr 0
        have f1 := kE.fr 1
        have f2 := kE.fr 2
        refine till_last rfl (by kernel_rfl) (by kernel_rfl) (fun K hK => ?_)
        go_simp
        refine hK.out _ _ ?_
        clear hK K hHeld q0 q1 q2 f0 f1 f2
        go_wp2_with fail
        go_meet
        exact ⟨Eb, _, _, rfl, HP⟩
      · go_simp
        have kE : Bxs (y1.alloc (.cells #[.slice none 0 0, .slice none 0 0, .int .i64 0] 41)) y1.heap.size 41 #[.slice none 0 0, .slice none 0 0, .int .i64 0] := Bxs.new _ _ _
        have b_4 : Below W2.heap.size W2 (y1.alloc (.cells #[.slice none 0 0, .slice none 0 0, .int .i64 0] 41)) := alB b_1 _
        have hEb : W2.heap.size ≤ y1.heap.size := b_1.size
        replace own0 := ownS_below own0 (alB (Below.refl _ _) (.cells #[.slice none 0 0, .slice none 0 0, .int .i64 0] 41))
        refine hK.out _ _ (HX.out _ b_4) (fun hHeld => ?_)
        clear hK K
        try simp only [Act.put, List.setIfInBounds_toArray, List.set_cons_zero, List.set_cons_succ]
        generalize y1.alloc (.cells #[.slice none 0 0, .slice none 0 0, .int .i64 0] 41) = u4 at *
        generalize y1.heap.size = Eb at *
        refine till_ready 3 rfl (by kernel_rfl) (fun K hK => ?_)
        obtain ⟨q3, d3, y5, hrun, own3, b_5, gr3⟩ := app_lvs b_4 own0 p cp lv (HA.out _ b_4).tx (HA.out _ b_4).ln
        replace kE := kE.grown gr3 (fun e => own_box own0 kE (by decide) e.symm)
        refine step_append_run rfl _ _ 25 rfl (.slice (some ⟨g1, 0, none⟩) 0 0) (.slice p lv.length cp) _ _ rfl rfl hrun ?_
        refine hK.out _ _ (HX.out _ b_5) (fun hHeld => ?_)
        clear hK K
        try simp only [Act.put, List.setIfInBounds_toArray, List.set_cons_zero, List.set_cons_succ]
        refine till_take 6 (v := ?_) rfl (by kernel_rfl) (by kernel_rfl) (by kernel_rfl) (by kernel_rfl) (fun _ _ _ h => h) hHeld (Or.inl ⟨by rfl, ?_⟩) ?_
        rotate_left
        · (intro w hSw; (try dsimp only at hSw); go_simp; try with_reducible rfl)
        simp only [Act.put, List.setIfInBounds_toArray, List.set_cons_zero, List.set_cons_succ]
        have HP : Hid (LgC W2 Eb [] lv now (.slice none 0 0) (.slice q3 lv.length d3) (((y5.setCell ⟨Eb, 0, none⟩ (.slice none 0 0)).setCell ⟨Eb, 1, none⟩ (.slice q3 lv.length d3)).setCell ⟨Eb, 2, none⟩ (.int .i64 now))) := LgC.put kE hEb b_5 ⟨RwsO.nil _ _, own3⟩
        have q0 : y5.cell? ⟨Eb, 0, none⟩ = some (.slice none 0 0) := kE.cell 0
        have q1 : y5.cell? ⟨Eb, 1, none⟩ = some (.slice none 0 0) := kE.cell 1
        have q2 : y5.cell? ⟨Eb, 2, none⟩ = some (.int .i64 0) := kE.cell 2
        have f0 := kE.fr 0
        have f1 := kE.fr 1
        have f2 := kE.fr 2
        refine till_last rfl (by kernel_rfl) (by kernel_rfl) (fun K hK => ?_)
        go_simp
        refine hK.out _ _ ?_
        clear hK K hHeld q0 q1 q2 f0 f1 f2
        go_wp2_with fail
        go_meet
        exact ⟨Eb, _, _, rfl, HP⟩
    · go_simp
      have kE : Bxs (y0.alloc (.cells #[.slice none 0 0, .slice none 0 0, .int .i64 0] 41)) y0.heap.size 41 #[.slice none 0 0, .slice none 0 0, .int .i64 0] := Bxs.new _ _ _
      have b_6 : Below W2.heap.size W2 (y0.alloc (.cells #[.slice none 0 0, .slice none 0 0, .int .i64 0] 41)) := alB BR _
      have hEb : W2.heap.size ≤ y0.heap.size := BR.size
      refine hK.out _ _ (HX.out _ b_6) (fun hHeld => ?_)
      clear hK K
      try simp only [Act.put, List.setIfInBounds_toArray, List.set_cons_zero, List.set_cons_succ]
      generalize y0.alloc (.cells #[.slice none 0 0, .slice none 0 0, .int .i64 0] 41) = u6 at *
      generalize y0.heap.size = Eb at *
      refine till_ready 0 rfl (by kernel_rfl) (fun K hK => ?_)
      go_simp
      have own0 : (u6.alloc (.cells #[] 9)).ownsRow W2.heap.size 9 1 (.slice (some ⟨u6.heap.size, 0, none⟩) 0 0) 0 [] := own_low (ownS_none u6) b_6.size
      have b_7 : Below W2.heap.size W2 (u6.alloc (.cells #[] 9)) := alB b_6 _
      replace kE := kE.alloc (.cells #[] 9)
      refine hK.out _ _ (HX.out _ b_7) (fun hHeld => ?_)
      clear hK K
      try simp only [Act.put, List.setIfInBounds_toArray, List.set_cons_zero, List.set_cons_succ]
      generalize u6.alloc (.cells #[] 9) = y7 at *
      generalize u6.heap.size = g1 at *
      refine till_ready 3 rfl (by kernel_rfl) (fun K hK => ?_)
      obtain ⟨q3, d3, y8, hrun, own3, b_8, gr3⟩ := app_lvs b_7 own0 p cp lv (HA.out _ b_7).tx (HA.out _ b_7).ln
      replace kE := kE.grown gr3 (fun e => own_box own0 kE (by decide) e.symm)
      refine step_append_run rfl _ _ 25 rfl (.slice (some ⟨g1, 0, none⟩) 0 0) (.slice p lv.length cp) _ _ rfl rfl hrun ?_
      refine hK.out _ _ (HX.out _ b_8) (fun hHeld => ?_)
      clear hK K
      try simp only [Act.put, List.setIfInBounds_toArray, List.set_cons_zero, List.set_cons_succ]
      refine till_take 6 (v := ?_) rfl (by kernel_rfl) (by kernel_rfl) (by kernel_rfl) (by kernel_rfl) (fun _ _ _ h => h) hHeld (Or.inl ⟨by rfl, ?_⟩) ?_
      rotate_left
      · (intro w hSw; (try dsimp only at hSw); go_simp; try with_reducible rfl)
      simp only [Act.put, List.setIfInBounds_toArray, List.set_cons_zero, List.set_cons_succ]
      have HP : Hid (LgC W2 Eb [] lv now (.slice none 0 0) (.slice q3 lv.length d3) (((y8.setCell ⟨Eb, 0, none⟩ (.slice none 0 0)).setCell ⟨Eb, 1, none⟩ (.slice q3 lv.length d3)).setCell ⟨Eb, 2, none⟩ (.int .i64 now))) := LgC.put kE hEb b_8 ⟨RwsO.nil _ _, own3⟩
      have q0 : y8.cell? ⟨Eb, 0, none⟩ = some (.slice none 0 0) := kE.cell 0
      have q1 : y8.cell? ⟨Eb, 1, none⟩ = some (.slice none 0 0) := kE.cell 1
      have q2 : y8.cell? ⟨Eb, 2, none⟩ = some (.int .i64 0) := kE.cell 2
      have f0 := kE.fr 0
      have f1 := kE.fr 1
      have f2 := kE.fr 2
      refine till_last rfl (by kernel_rfl) (by kernel_rfl) (fun K hK => ?_)
      go_simp
      refine hK.out _ _ ?_
      clear hK K hHeld q0 q1 q2 f0 f1 f2
      go_wp2_with fail
      go_meet
      exact ⟨Eb, _, _, rfl, HP⟩
  case rest =>
    clear x0 x1 x2 BR
    obtain ⟨E, v1, v2, rfl, HC⟩ := hcut
    obtain ⟨z2, zd, rfl, hz2c, -⟩ := ownS_form HC.out.lg.lvs
    obtain ⟨z1, zc, rfl, hz1c⟩ := HC.out.lg.rws.form
    obtain ⟨x0, -, -⟩ := HX.out wc HC.out.bel
    go_wp2_with fail
    go_loopw [4] (fun i wr => ∃ (k : Nat) (xs : List (Rw × Value)) (v1 : Value), k ≤ rs.length ∧ i = .int .i64 k ∧ Hid (xs.map (·.1) = rs.take k) ∧ Hid (LgC W2 E xs lv now v1 (.slice z2 lv.length zd) wr)) (fun i _ => rs.length - (Go.RowKit.intOf i).toNat)
    case atStart => exact ⟨0, [], _, Nat.zero_le _, rfl, rfl, HC⟩
    case round =>
      clear x0 HC
      obtain ⟨k, xs, v1, hk, rfl, HM, HC⟩ := hrel
      obtain ⟨z1, zc, rfl, hz1c⟩ := HC.out.lg.rws.form
      have hxl : Hid (xs.length = k) := by
        have := congrArg List.length HM.out
        simp at this
        show _ = _
        omega
      by_cases hlt : k < rs.length
      · have i1 : (k : Int) < rs.length := by omega
        obtain ⟨b, off, rq, rc, rfl, hb0, c0, c1, c2, c3, c4⟩ := (HA.out W2 (Below.refl _ _)).rw k hlt
        obtain ⟨R, hR⟩ : ∃ R, R = rs[k] := ⟨_, rfl⟩
        rw [← hR] at c0 c1 c2 c3 c4
        have HRF := HF.out rs[k] (List.getElem_mem hlt)
        rw [← hR] at HRF
        have HM2 : Hid (rs.take (k + 1) = rs.take k ++ [R]) := by show _ = _; rw [hR, List.take_succ_eq_append_getElem hlt]
        have HRc : Hid (∀ w', Below W2.heap.size W2 w' → w'.cell? ⟨b, off + k * 3, none⟩ = some (.string R.k) ∧ w'.cell? ⟨b, off + k * 3 + 1, none⟩ = some (.int .i64 R.a) ∧ w'.cell? ⟨b, off + k * 3 + 2, none⟩ = some (.slice rq R.fs.length rc)) := fun w' hb => ⟨(hb.cell (p := ⟨b, off + k * 3, none⟩) hb0).trans c0, (hb.cell (p := ⟨b, off + k * 3 + 1, none⟩) hb0).trans c1, (hb.cell (p := ⟨b, off + k * 3 + 2, none⟩) hb0).trans c2⟩
        have QC : Hid (∀ x, Below W2.heap.size W2 x → Calls Tryz.prog 137 #[.agg #[.string R.k, .int .i64 R.a, .slice rq R.fs.length rc]] x fun e w' => ∃ bb cc, e = .returned (.agg #[.string R.k, .int .i64 R.a, .slice (some ⟨bb, 0, none⟩) R.fs.length cc]) ∧ w'.ownsRow x.heap.size 122 5 (.slice (some ⟨bb, 0, none⟩) R.fs.length cc) R.fs.length (fldRow R.fs) ∧ Below x.heap.size x w') := fun x hb => l07Copy_any R.k R.a rq rc R.fs x (c4.below hb) HRF.1 HRF.2
        have HS : Hid (∀ w', Below W2.heap.size W2 w' → w'.cell? ⟨E, 0, none⟩ = some (.slice z1 xs.length zc) → w'.cell? ⟨E, 0, none⟩ = some (.slice z1 xs.length zc) ∧ w'.cell? ⟨w.heap.size, 0, none⟩ = some (.slice (some ⟨b, off, none⟩) rs.length cq) ∧ w'.cell? ⟨b, off + k * 3, none⟩ = some (.string R.k) ∧ w'.cell? ⟨b, off + k * 3 + 1, none⟩ = some (.int .i64 R.a) ∧ w'.cell? ⟨b, off + k * 3 + 2, none⟩ = some (.slice rq R.fs.length rc)) := fun w' hb h => ⟨h, (HX.out w' hb).1, HRc.out w' hb⟩
        obtain ⟨p0, p1, p2, g0, g1, g2⟩ := HC.out.cells
        obtain ⟨x0, -, -⟩ := HX.out wr HC.out.bel
        have HCd := HC.out.below (Below.refl _ _).drew
        have hxs : xs.length + 1 ≤ 1048576 := by have := hxl.out; omega
        have hrs : 0 < rs.length := by omega
        clear c0 c1 c2 c4 hR
        go_upto_region 5 with fail
        refine region_till (fun w' => w'.cell? ⟨E, 0, none⟩ = some (.slice z1 xs.length zc) ∧ w'.cell? ⟨w.heap.size, 0, none⟩ = some (.slice (some ⟨b, off, none⟩) rs.length cq) ∧ w'.cell? ⟨b, off + k * 3, none⟩ = some (.string R.k) ∧ w'.cell? ⟨b, off + k * 3 + 1, none⟩ = some (.int .i64 R.a) ∧ w'.cell? ⟨b, off + k * 3 + 2, none⟩ = some (.slice rq R.fs.length rc)) 11 (by kernel_rfl) (HS.out _ HCd.bel HCd.cells.1) (fun hHeld => ?_)
        generalize wr.drew = y0 at *
        refine till_take 0 (v := ?_) rfl (by kernel_rfl) (by kernel_rfl) (by kernel_rfl) (by kernel_rfl) (fun _ _ _ h => h) hHeld (Or.inl ⟨by rfl, ?_⟩) ?_
        rotate_left
        · (intro w hSw; (try dsimp only at hSw); go_simp; try with_reducible rfl)
        simp only [Act.put, List.setIfInBounds_toArray, List.set_cons_zero, List.set_cons_succ]
        refine till_take 1 (v := ?_) rfl (by kernel_rfl) (by kernel_rfl) (by kernel_rfl) (by kernel_rfl) (fun _ _ _ h => h) hHeld (Or.inl ⟨by rfl, ?_⟩) ?_
        rotate_left
        · (intro w hSw; (try dsimp only at hSw); go_simp; try with_reducible rfl)
        simp only [Act.put, List.setIfInBounds_toArray, List.set_cons_zero, List.set_cons_succ]
        refine till_take 2 (v := ?_) rfl (by kernel_rfl) (by kernel_rfl) (by kernel_rfl) (by kernel_rfl) (fun _ _ _ h => h) hHeld (Or.inl ⟨by rfl, ?_⟩) ?_
        rotate_left
        · (intro w hSw; (try dsimp only at hSw); go_simp; try with_reducible rfl)
        simp only [Act.put, List.setIfInBounds_toArray, List.set_cons_zero, List.set_cons_succ]
        refine till_take 3 (v := ?_) rfl (by kernel_rfl) (by kernel_rfl) (by kernel_rfl) (by kernel_rfl) (fun _ _ _ h => h) hHeld (Or.inl ⟨by rfl, ?_⟩) ?_
        rotate_left
        · (intro w hSw; (try dsimp only at hSw); go_simp; try with_reducible rfl)
        simp only [Act.put, List.setIfInBounds_toArray, List.set_cons_zero, List.set_cons_succ]
        refine till_take 4 (v := ?_) rfl (by kernel_rfl) (by kernel_rfl) (by kernel_rfl) (by kernel_rfl) (fun _ _ _ h => h) hHeld (Or.inl ⟨by rfl, ?_⟩) ?_
        rotate_left
        · (intro w hSw; (try dsimp only at hSw); go_simp; try with_reducible rfl)
        simp only [Act.put, List.setIfInBounds_toArray, List.set_cons_zero, List.set_cons_succ]
        refine till_take 5 (v := ?_) rfl (by kernel_rfl) (by kernel_rfl) (by kernel_rfl) (by kernel_rfl) (fun _ _ _ h => h) hHeld (Or.inl ⟨by rfl, ?_⟩) ?_
        rotate_left
        · (intro w hSw; (try dsimp only at hSw); go_simp; try with_reducible rfl)
        simp only [Act.put, List.setIfInBounds_toArray, List.set_cons_zero, List.set_cons_succ]
        refine till_take 6 (v := ?_) rfl (by kernel_rfl) (by kernel_rfl) (by kernel_rfl) (by kernel_rfl) (fun _ _ _ h => h) hHeld (Or.inl ⟨by rfl, ?_⟩) ?_
        rotate_left
        · (intro w hSw; (try dsimp only at hSw); go_simp; try with_reducible rfl)
        simp only [Act.put, List.setIfInBounds_toArray, List.set_cons_zero, List.set_cons_succ]
        refine till_ready 7 rfl (by kernel_rfl) (fun K hK => ?_)
        go_simp
        (go_at_call 137; refine (QC.out _ HCd.bel).mono ?_; rintro e y1 ⟨bb, cc, rfl, own1, zz1⟩)
        have HC1 := HCd.below zz1
        refine hK.out _ _ (HS.out _ HC1.bel HC1.cells.1) (fun hHeld => ?_)
        clear hK K
        try simp only [Act.put, List.setIfInBounds_toArray, List.set_cons_zero, List.set_cons_succ]
        obtain ⟨q2, d2, y2, hrun, HC2, bl2, k20, k21, gr2⟩ := HCd.app zz1 R (some ⟨bb, 0, none⟩) cc own1 hxs
        refine till_ready 8 rfl (by kernel_rfl) (fun K hK => ?_)
        go_simp
        refine hK.out _ _ (HS.out _ (alB HC1.bel _) (HC1.below (alB (Below.refl _ _) _)).cells.1) (fun hHeld => ?_)
        clear hK K
        try simp only [Act.put, List.setIfInBounds_toArray, List.set_cons_zero, List.set_cons_succ]
        refine till_ready 9 rfl (by kernel_rfl) (fun K hK => ?_)
        refine step_append_run rfl _ _ 39 rfl (.slice z1 xs.length zc) (.slice (some ⟨y1.heap.size, 0, none⟩) 1 1) _ _ rfl rfl hrun ?_
        refine hK.out _ _ (HS.out _ bl2 k20) (fun hHeld => ?_)
        clear hK K
        try simp only [Act.put, List.setIfInBounds_toArray, List.set_cons_zero, List.set_cons_succ]
        refine till_take 10 (v := ?_) rfl (by kernel_rfl) (by kernel_rfl) (by kernel_rfl) (by kernel_rfl) (fun _ _ _ h => h) hHeld (Or.inl ⟨by rfl, ?_⟩) ?_
        rotate_left
        · (intro w hSw; (try dsimp only at hSw); go_simp; try with_reducible rfl)
        simp only [Act.put, List.setIfInBounds_toArray, List.set_cons_zero, List.set_cons_succ]
        refine till_last rfl (by kernel_rfl) (by kernel_rfl) (fun K hK => ?_)
        go_simp
        refine hK.out _ _ ?_
        clear hK K hHeld
        have HCn : Hid (LgC W2 E (xs ++ [(R, .slice (some ⟨bb, 0, none⟩) R.fs.length cc)]) lv now (.slice q2 (xs.length + 1) d2) (.slice z2 lv.length zd) (y2.setCell ⟨E, 0, none⟩ (.slice q2 (xs.length + 1) d2))) := HC2
        have HMn : Hid ((xs ++ [(R, (Value.slice (some ⟨bb, 0, none⟩) R.fs.length cc))]).map (·.1) = rs.take (k + 1)) := by show _ = _; rw [HM2.out, List.map_append, HM.out]; rfl
        clear HC2 HM HM2 hrun k20 k21 bl2 own1 zz1 HC1 HCd HS QC HRc gr2
        go_wp2_with fail
        go_roundw
        case rel => exact ⟨k + 1, _, _, by omega, by go_num, HMn, HCn⟩
        case measure => simp [Go.RowKit.intOf]; omega
      · obtain rfl : k = rs.length := by omega
        have hrs : Hid (xs.map (·.1) = rs) := by have := HM.out; rwa [List.take_length] at this
        obtain ⟨p0, p1, p2, g0, g1, g2⟩ := HC.out.cells
        obtain ⟨r0, r1, r2, h0, h1, h2⟩ := HXr.out wr HC.out.bel
        obtain ⟨x0, -, -⟩ := HX.out wr HC.out.bel
        have HE : Hid (∀ u0 u1 u2 : Value, LgO w.heap.size xs lv (.slice z1 xs.length zc) (.slice z2 lv.length zd) (((wr.setCell ⟨w.heap.size + 1, 0, none⟩ u0).setCell ⟨w.heap.size + 1, 1, none⟩ u1).setCell ⟨w.heap.size + 1, 2, none⟩ u2) ∧ Below w.heap.size w (((wr.setCell ⟨w.heap.size + 1, 0, none⟩ u0).setCell ⟨w.heap.size + 1, 1, none⟩ u1).setCell ⟨w.heap.size + 1, 2, none⟩ u2)) := fun u0 u1 u2 => by
          have hzz := hz2.out
          have hb := chainB b2.out HC.out.bel
          exact ⟨(((HC.out.lg.set (by omega) 0 u0).set (by omega) 1 u1).set (by omega) 2 u2).lower (by omega), below_cel (below_cel (below_cel hb (by omega) 0 u0) (by omega) 1 u1) (by omega) 2 u2⟩
        clear HC HM HX HXr hxl
        go_wp2_with fail
        refine bodyPost_ret (v := .agg #[.slice z1 xs.length zc, .slice z2 lv.length zd, .int .i64 now]) (by simp [results, Tryz.results136, go_sem, r0, r1, r2]) rfl ?_
        exact ⟨_, _, xs, rfl, hrs.out, (HE.out _ _ _).1, (HE.out _ _ _).2⟩
end Go.Proofs.YtonleickhincgaaGreatDoor
/-
  What the specification's LogTime answers: 'ltC' and the log, in new memory.
-/
namespace Go.Proofs.YtonleickhincgaaGreatDoor
open Go.RowKit Go.Lib
set_option linter.unusedVariables false
set_option maxRecDepth 20000

theorem l01Max_any (a b : Int) (w : World) : Calls Tryz.prog 143 #[.int .i64 a, .int .i64 b] w fun e w' => e = .returned (.int .i64 (mxB a b)) ∧ w' = w := by
  unfold mxB
  by_cases h : a < b
  · have d1 : decide (a < b) = true := decide_eq_true h
    have d2 : decide (b < a) = false := decide_eq_false (by omega)
    rw [if_pos h]
    go_enter Tryz.func143, Tryz.ntmps143
    go_wp2_with fail
    go_ret
    exact ⟨rfl, rfl⟩
  · have d1 : decide (a < b) = false := decide_eq_false h
    rw [if_neg h]
    by_cases h2 : b < a
    · have d2 : decide (b < a) = true := decide_eq_true h2
      go_enter Tryz.func143, Tryz.ntmps143
      go_wp2_with fail
      go_ret
      exact ⟨rfl, rfl⟩
    · obtain rfl : a = b := by omega
      go_enter Tryz.func143, Tryz.ntmps143
      go_wp2_with fail
      go_ret
      exact ⟨rfl, rfl⟩
theorem l09Ill_any (c : Int) (w : World) : Calls Tryz.prog 135 #[.int .i64 c] w fun e w' => e = .returned (.agg #[.slice none 0 0, .slice none 0 0, .int .i64 0, .int .i64 c]) ∧ Below w.heap.size w w' := by
  have HE : Hid (Below w.heap.size w (w.alloc (.cells #[.slice none 0 0, .slice none 0 0, .int .i64 0, .int .i64 c] 136))) := (Below.refl _ _).alloc (Nat.le_refl _) _
  go_enter Tryz.func135, Tryz.ntmps135
  go_wp2_with fail
  refine bodyPost_ret (v := .agg #[.slice none 0 0, .slice none 0 0, .int .i64 0, .int .i64 c]) (by simp [results, Tryz.results135, go_sem]) rfl ?_
  exact ⟨rfl, HE.out⟩
theorem rB_len {r : Rw} (h : rB r = true) : 1 ≤ r.fs.length ∧ r.fs.length ≤ 3 := by
  unfold rB rwB at h
  simp only [Bool.and_eq_true, decide_eq_true_iff] at h
  omega
set_option maxHeartbeats 4000000 in
theorem specLogTime_any (p : Option Addr) (lv : List ByteArray) (cp : Nat) (q : Option Addr) (rs : List Rw) (cq : Nat) (now t : Int) (w : World) (hA : LgAt p lv cp q rs cq w) (hn : -9223372036854775808 ≤ now ∧ now ≤ 9223372036854775807) (ht : -9223372036854775808 ≤ t ∧ t ≤ 9223372036854775807) :
    Calls Tryz.prog 89 #[.agg #[.slice q rs.length cq, .slice p lv.length cp, .int .i64 now], .int .i64 t] w fun e w' => LgA w.heap.size (ltmR rs lv now t) (ltL rs lv now t) (ltN rs lv now t) (ltC rs lv now t) e w' ∧ Below w.heap.size w w' := by
  obtain ⟨W2, hW2⟩ : ∃ W2, W2 = (w.alloc (.cells #[.slice q rs.length cq, .slice p lv.length cp, .int .i64 now] 41)).alloc (.cells #[.slice none 0 0, .slice none 0 0, .int .i64 0, .int .i64 0] 136) := ⟨_, rfl⟩
  have HW2 : Hid (W2 = (w.alloc (.cells #[.slice q rs.length cq, .slice p lv.length cp, .int .i64 now] 41)).alloc (.cells #[.slice none 0 0, .slice none 0 0, .int .i64 0, .int .i64 0] 136)) := hW2
  have H2 : Hid (LtB w q rs.length cq p lv.length cp now W2) := lt_boxes w q rs.length cq p lv.length cp now hW2
  have hR : Calls Tryz.prog 23 #[.agg #[.slice q rs.length cq, .slice p lv.length cp, .int .i64 now]] W2 fun e w' => e = .returned (.bool (lgB rs lv now)) ∧ Below W2.heap.size W2 w' := specLogRight_any p lv cp q rs cq now W2 (hA.below H2.out.bel)
  have HTi : Hid (∀ x, Calls Tryz.prog 72 #[.int .i64 t] x fun e w' => e = .returned (.bool (timeB t)) ∧ w' = x) := fun x => l07Time_any t x
  have HCp : Hid (lgB rs lv now = true → ∀ x, Below w.heap.size w x → Calls Tryz.prog 136 #[.agg #[.slice q rs.length cq, .slice p lv.length cp, .int .i64 now]] x fun e w' => ∃ v1 v2 xs, e = .returned (.agg #[v1, v2, .int .i64 now]) ∧ xs.map (·.1) = rs ∧ LgO x.heap.size xs lv v1 v2 w' ∧ Below x.heap.size x w') := fun hl x hx => by
    obtain ⟨hr1, hr2, hr3⟩ := lg_right hl
    exact l09Copy_any p lv cp q rs cq now x (hA.below hx) (fun r hr => by have := rB_len (hr3 r hr); omega)
  have HB0 : Hid (ltB rs lv now t = (lgB rs lv now && timeB t)) := rfl
  unfold ltmR ltL ltN ltC
  clear hW2 hA
  generalize ltB rs lv now t = LB at *
  generalize lgB rs lv now = A at *
  generalize timeB t = B at *
  have HM1 : Hid (now < t → mxB now t = t) := fun h => if_pos h
  have HM2 : Hid (¬ now < t → mxB now t = now) := fun h => if_neg h
  
  have HZ : Hid (∀ x, LgO w.heap.size [] [] (.slice none 0 0) (.slice none 0 0) x) := fun x => LgO.nil _ _
  obtain ⟨x0, x1, x2⟩ := H2.out.thr
  obtain ⟨i0, i1, i2, i3, i4, i5, i6, i7⟩ := H2.out.res
  go_enter Tryz.func89, Tryz.ntmps89
  go_upto_region 1 with fail
  rw [← HW2.out]
  go_wp2_with fail
  with_reducible refine hR.mono ?_
  rintro e y1 ⟨rfl, z1⟩
  have H3 : Hid (LtB w q rs.length cq p lv.length cp now y1) := H2.out.below z1
  clear x0 x1 x2 i0 i1 i2 i3 i4 i5 i6 i7 H2 z1 hR
  obtain ⟨x0, x1, x2⟩ := H3.out.thr
  obtain ⟨i0, i1, i2, i3, i4, i5, i6, i7⟩ := H3.out.res
  have hTi := HTi.out y1
  cases A
  case false =>
    have hb : LB = false := by rw [HB0.out]; rfl
    subst hb
    go_wp2_with fail
    with_reducible refine (l09Ill_any 1 y1).mono ?_
    rintro e y2 ⟨rfl, z2⟩
    have H4 : Hid (LtB w q rs.length cq p lv.length cp now y2) := H3.out.below z2
    clear x0 x1 x2 i0 i1 i2 i3 i4 i5 i6 i7
    obtain ⟨i0, i1, i2, i3, i4, i5, i6, i7⟩ := H4.out.res
    go_wp2_with fail
    obtain ⟨K, HLo, HEd⟩ := LtB.put (q := q) (n := 0) (cq := 0) (p := p) (m := 0) (cp := 0) (now := now) (y := w) H4.out.rs H4.out.bel (HZ.out y2) (.slice none 0 0) (.slice none 0 0) (.int .i64 0) (.int .i64 1)
    generalize ((((y2.setCell ⟨w.heap.size + 1, 0, none⟩ (.slice none 0 0)).setCell ⟨w.heap.size + 1, 1, none⟩ (.slice none 0 0)).setCell ⟨w.heap.size + 1, 2, none⟩ (.int .i64 0)).setCell ⟨w.heap.size + 1, 3, none⟩ (.int .i64 1)) = zz at *
    have HLp : Hid (LgO _ _ _ _ _ zz) := HLo
    have HEn : Hid (Below w.heap.size w zz) := HEd
    have k0 : zz.cell? ⟨w.heap.size + 1, 0, none⟩ = some (.slice none 0 0) := K.cell 0
    have k1 : zz.cell? ⟨w.heap.size + 1, 1, none⟩ = some (.slice none 0 0) := K.cell 1
    have k2 : zz.cell? ⟨w.heap.size + 1, 2, none⟩ = some (.int .i64 0) := K.cell 2
    have k3 : zz.cell? ⟨w.heap.size + 1, 3, none⟩ = some (.int .i64 1) := K.cell 3
    refine bodyPost_ret (v := .agg #[.slice none 0 0, .slice none 0 0, .int .i64 0, .int .i64 1]) (by simp [results, Tryz.results89, go_sem, k0, k1, k2, k3]) rfl ?_
    exact ⟨⟨_, _, [], rfl, rfl, HLp.out⟩, HEn.out⟩
  cases B
  case false =>
    have hb : LB = false := by rw [HB0.out]; rfl
    subst hb
    go_wp2_with fail
    with_reducible refine hTi.mono ?_
    rintro e y1 ⟨rfl, rfl⟩
    go_wp2_with fail
    with_reducible refine (l09Ill_any 1 y1).mono ?_
    rintro e y2 ⟨rfl, z2⟩
    have H4 : Hid (LtB w q rs.length cq p lv.length cp now y2) := H3.out.below z2
    clear x0 x1 x2 i0 i1 i2 i3 i4 i5 i6 i7
    obtain ⟨i0, i1, i2, i3, i4, i5, i6, i7⟩ := H4.out.res
    go_wp2_with fail
    obtain ⟨K, HLo, HEd⟩ := LtB.put (q := q) (n := 0) (cq := 0) (p := p) (m := 0) (cp := 0) (now := now) (y := w) H4.out.rs H4.out.bel (HZ.out y2) (.slice none 0 0) (.slice none 0 0) (.int .i64 0) (.int .i64 1)
    generalize ((((y2.setCell ⟨w.heap.size + 1, 0, none⟩ (.slice none 0 0)).setCell ⟨w.heap.size + 1, 1, none⟩ (.slice none 0 0)).setCell ⟨w.heap.size + 1, 2, none⟩ (.int .i64 0)).setCell ⟨w.heap.size + 1, 3, none⟩ (.int .i64 1)) = zz at *
    have HLp : Hid (LgO _ _ _ _ _ zz) := HLo
    have HEn : Hid (Below w.heap.size w zz) := HEd
    have k0 : zz.cell? ⟨w.heap.size + 1, 0, none⟩ = some (.slice none 0 0) := K.cell 0
    have k1 : zz.cell? ⟨w.heap.size + 1, 1, none⟩ = some (.slice none 0 0) := K.cell 1
    have k2 : zz.cell? ⟨w.heap.size + 1, 2, none⟩ = some (.int .i64 0) := K.cell 2
    have k3 : zz.cell? ⟨w.heap.size + 1, 3, none⟩ = some (.int .i64 1) := K.cell 3
    refine bodyPost_ret (v := .agg #[.slice none 0 0, .slice none 0 0, .int .i64 0, .int .i64 1]) (by simp [results, Tryz.results89, go_sem, k0, k1, k2, k3]) rfl ?_
    exact ⟨⟨_, _, [], rfl, rfl, HLp.out⟩, HEn.out⟩
  have hb : LB = true := by rw [HB0.out]; rfl
  subst hb
  have hCp := HCp.out rfl y1 H3.out.bel
  go_wp2_with fail
  with_reducible refine hTi.mono ?_
  rintro e y1 ⟨rfl, rfl⟩
  go_wp2_with fail
  with_reducible refine hCp.mono ?_
  rintro e y4 ⟨v1, v2, xs, rfl, hx, ho, z4⟩
  have HX : Hid (xs.map (·.1) = rs) := hx
  have H4 : Hid (LtB w q rs.length cq p lv.length cp now (y4.alloc (.cells #[v1, v2, .int .i64 now] 41))) := H3.out.below (alB z4 _)
  have X4 : Hid (Bxs (y4.alloc (.cells #[v1, v2, .int .i64 now] 41)) y4.heap.size 41 #[v1, v2, .int .i64 now]) := Bxs.new _ _ _
  have O4 : Hid (LgO w.heap.size xs lv v1 v2 (y4.alloc (.cells #[v1, v2, .int .i64 now] 41))) := (ho.below (alB (Below.refl _ _) _)).lower H3.out.bel.size
  have hE : w.heap.size + 1 < y4.heap.size := by
    have := H3.out.rs.lt
    have := z4.size
    omega
  have HEE : Hid (w.heap.size + 1 < y4.heap.size) := hE
  obtain ⟨a1, b1, d1, hv1⟩ : ∃ a b c, v1 = .slice a b c := by
    obtain ⟨pp, cc, h, _⟩ := ho.rws.form
    exact ⟨pp, _, cc, h⟩
  obtain ⟨a2, b2, d2, hv2⟩ : ∃ a b c, v2 = .slice a b c := by
    obtain ⟨pp, cc, h, _⟩ := ownS_form ho.lvs
    exact ⟨pp, _, cc, h⟩
  subst hv1 hv2
  clear x0 x1 x2 i0 i1 i2 i3 i4 i5 i6 i7 H3 hx ho z4 hE hTi hCp
  go_upto_region 4 with fail
  generalize y4.heap.size = E at *
  generalize y4.alloc (.cells #[.slice a1 b1 d1, .slice a2 b2 d2, .int .i64 now] 41) = y5 at *
  obtain ⟨x0, x1, x2⟩ := H4.out.thr
  have c2 : y5.cell? ⟨E, 2, none⟩ = some (.int .i64 now) := X4.out.cell 2
  have g2 := X4.out.fr 2
  have H5 : Hid (Bxs (y5.setCell ⟨E, 2, none⟩ (.int .i64 (mxB now t))) E 41 #[.slice a1 b1 d1, .slice a2 b2 d2, .int .i64 (mxB now t)] ∧ LgO w.heap.size xs lv (.slice a1 b1 d1) (.slice a2 b2 d2) (y5.setCell ⟨E, 2, none⟩ (.int .i64 (mxB now t))) ∧ Bxs (y5.setCell ⟨E, 2, none⟩ (.int .i64 (mxB now t))) (w.heap.size + 1) 136 #[.slice none 0 0, .slice none 0 0, .int .i64 0, .int .i64 0] ∧ Below w.heap.size w (y5.setCell ⟨E, 2, none⟩ (.int .i64 (mxB now t)))) := ⟨X4.out.set 2 _, O4.out.box X4.out (by decide) (by decide) (by decide) (set_grw _ _ 2 _), H4.out.rs.other E 2 (by have := HEE.out; omega) _, H4.out.bel.setCell (p := ⟨E, 2, none⟩) (by have := HEE.out; show _ ≤ E; omega) _⟩
  go_wp2_with fail
  with_reducible refine (l01Max_any now t y5).mono ?_
  rintro e y5 ⟨rfl, rfl⟩
  go_upto_region 5 with fail
  generalize y5.setCell ⟨E, 2, none⟩ (.int .i64 (mxB now t)) = y6 at *
  clear x0 x1 x2 c2 g2
  obtain ⟨e0, e1, e2⟩ : y6.cell? ⟨E, 0, none⟩ = some (.slice a1 b1 d1) ∧ y6.cell? ⟨E, 1, none⟩ = some (.slice a2 b2 d2) ∧ y6.cell? ⟨E, 2, none⟩ = some (.int .i64 (mxB now t)) := ⟨H5.out.1.cell 0, H5.out.1.cell 1, H5.out.1.cell 2⟩
  have HR6 : Hid (Bxs y6 (w.heap.size + 1) 136 #[.slice none 0 0, .slice none 0 0, .int .i64 0, .int .i64 0]) := H5.out.2.2.1
  obtain ⟨i0, i1, i2, i3, i4, i5, i6, i7⟩ : y6.cell? ⟨w.heap.size + 1, 0, none⟩ = some (.slice none 0 0) ∧ y6.cell? ⟨w.heap.size + 1, 1, none⟩ = some (.slice none 0 0) ∧ y6.cell? ⟨w.heap.size + 1, 2, none⟩ = some (.int .i64 0) ∧ y6.cell? ⟨w.heap.size + 1, 3, none⟩ = some (.int .i64 0) ∧ y6.frozen? ⟨w.heap.size + 1, 0, none⟩ = false ∧ y6.frozen? ⟨w.heap.size + 1, 1, none⟩ = false ∧ y6.frozen? ⟨w.heap.size + 1, 2, none⟩ = false ∧ y6.frozen? ⟨w.heap.size + 1, 3, none⟩ = false := ⟨HR6.out.cell 0, HR6.out.cell 1, HR6.out.cell 2, HR6.out.cell 3, HR6.out.fr 0, HR6.out.fr 1, HR6.out.fr 2, HR6.out.fr 3⟩
  go_wp2_with fail
  obtain ⟨K, HLo, HEd⟩ := LtB.put (q := q) (n := 0) (cq := 0) (p := p) (m := 0) (cp := 0) (now := 0) (y := w) HR6.out H5.out.2.2.2 H5.out.2.1 (.slice a1 b1 d1) (.slice a2 b2 d2) (.int .i64 (mxB now t)) (.int .i64 0)
  generalize ((((y6.setCell ⟨w.heap.size + 1, 0, none⟩ (.slice a1 b1 d1)).setCell ⟨w.heap.size + 1, 1, none⟩ (.slice a2 b2 d2)).setCell ⟨w.heap.size + 1, 2, none⟩ (.int .i64 (mxB now t))).setCell ⟨w.heap.size + 1, 3, none⟩ (.int .i64 0)) = zz at *
  have HLp : Hid (LgO _ _ _ _ _ zz) := HLo
  have HEn : Hid (Below w.heap.size w zz) := HEd
  have k0 : zz.cell? ⟨w.heap.size + 1, 0, none⟩ = some (.slice a1 b1 d1) := K.cell 0
  have k1 : zz.cell? ⟨w.heap.size + 1, 1, none⟩ = some (.slice a2 b2 d2) := K.cell 1
  have k2 : zz.cell? ⟨w.heap.size + 1, 2, none⟩ = some (.int .i64 (mxB now t)) := K.cell 2
  have k3 : zz.cell? ⟨w.heap.size + 1, 3, none⟩ = some (.int .i64 0) := K.cell 3
  refine bodyPost_ret (v := .agg #[.slice a1 b1 d1, .slice a2 b2 d2, .int .i64 (mxB now t), .int .i64 0]) (by simp [results, Tryz.results89, go_sem, k0, k1, k2, k3]) rfl ?_
  exact ⟨⟨_, _, xs, rfl, HX.out, HLp.out⟩, HEn.out⟩
end Go.Proofs.YtonleickhincgaaGreatDoor
/-
  LogAdd's boxes.
-/
namespace Go.Proofs.YtonleickhincgaaGreatDoor
open Go.RowKit Go.Lib
set_option linter.unusedVariables false
set_option maxRecDepth 20000

structure LaB (w : World) (q : Option Addr) (n cq : Nat) (p : Option Addr) (m cp : Nat) (now : Int) (k : ByteArray) (a : Int) (rq : Option Addr) (f rc : Nat) (x : World) : Prop where
  lg : Bxs x w.heap.size 41 #[.slice q n cq, .slice p m cp, .int .i64 now]
  rw : Bxs x (w.heap.size + 1) 100 #[.string k, .int .i64 a, .slice rq f rc]
  rs : Bxs x (w.heap.size + 2) 136 #[.slice none 0 0, .slice none 0 0, .int .i64 0, .int .i64 0]
  bel : Below w.heap.size w x
theorem LaB.below {w x y : World} {q : Option Addr} {n cq : Nat} {p : Option Addr} {m cp : Nat} {now : Int} {k : ByteArray} {a : Int} {rq : Option Addr} {f rc : Nat} (h : LaB w q n cq p m cp now k a rq f rc x) (hb : Below x.heap.size x y) : LaB w q n cq p m cp now k a rq f rc y := ⟨h.lg.below hb, h.rw.below hb, h.rs.below hb, chainB h.bel hb⟩
theorem LaB.six {w x : World} {q : Option Addr} {n cq : Nat} {p : Option Addr} {m cp : Nat} {now : Int} {k : ByteArray} {a : Int} {rq : Option Addr} {f rc : Nat} (h : LaB w q n cq p m cp now k a rq f rc x) : x.cell? ⟨w.heap.size, 0, none⟩ = some (.slice q n cq) ∧ x.cell? ⟨w.heap.size, 1, none⟩ = some (.slice p m cp) ∧ x.cell? ⟨w.heap.size, 2, none⟩ = some (.int .i64 now) ∧ x.cell? ⟨w.heap.size + 1, 0, none⟩ = some (.string k) ∧ x.cell? ⟨w.heap.size + 1, 1, none⟩ = some (.int .i64 a) ∧ x.cell? ⟨w.heap.size + 1, 2, none⟩ = some (.slice rq f rc) := ⟨h.lg.cell 0, h.lg.cell 1, h.lg.cell 2, h.rw.cell 0, h.rw.cell 1, h.rw.cell 2⟩
theorem LaB.res {w x : World} {q : Option Addr} {n cq : Nat} {p : Option Addr} {m cp : Nat} {now : Int} {k : ByteArray} {a : Int} {rq : Option Addr} {f rc : Nat} (h : LaB w q n cq p m cp now k a rq f rc x) : x.cell? ⟨w.heap.size + 2, 0, none⟩ = some (.slice none 0 0) ∧ x.cell? ⟨w.heap.size + 2, 1, none⟩ = some (.slice none 0 0) ∧ x.cell? ⟨w.heap.size + 2, 2, none⟩ = some (.int .i64 0) ∧ x.cell? ⟨w.heap.size + 2, 3, none⟩ = some (.int .i64 0) ∧ x.frozen? ⟨w.heap.size + 2, 0, none⟩ = false ∧ x.frozen? ⟨w.heap.size + 2, 1, none⟩ = false ∧ x.frozen? ⟨w.heap.size + 2, 2, none⟩ = false ∧ x.frozen? ⟨w.heap.size + 2, 3, none⟩ = false := ⟨h.rs.cell 0, h.rs.cell 1, h.rs.cell 2, h.rs.cell 3, h.rs.fr 0, h.rs.fr 1, h.rs.fr 2, h.rs.fr 3⟩
theorem la_boxes {w W3 : World} {q : Option Addr} {n cq : Nat} {p : Option Addr} {m cp : Nat} {now : Int} {k : ByteArray} {a : Int} {rq : Option Addr} {f rc : Nat} (h : W3 = ((w.alloc (.cells #[.slice q n cq, .slice p m cp, .int .i64 now] 41)).alloc (.cells #[.string k, .int .i64 a, .slice rq f rc] 100)).alloc (.cells #[.slice none 0 0, .slice none 0 0, .int .i64 0, .int .i64 0] 136)) : LaB w q n cq p m cp now k a rq f rc W3 := by
  subst h
  have h1 := Bxs.new (w.alloc (.cells #[.slice q n cq, .slice p m cp, .int .i64 now] 41)) 100 #[.string k, .int .i64 a, .slice rq f rc]
  rw [szA] at h1
  have h2 := Bxs.new ((w.alloc (.cells #[.slice q n cq, .slice p m cp, .int .i64 now] 41)).alloc (.cells #[.string k, .int .i64 a, .slice rq f rc] 100)) 136 #[.slice none 0 0, .slice none 0 0, .int .i64 0, .int .i64 0]
  rw [szA, szA] at h2
  exact ⟨((Bxs.new _ _ _).alloc _).alloc _, h1.alloc _, h2, alB (alB ((Below.refl _ _).alloc (Nat.le_refl _) _) _) _⟩
theorem la_put {w x : World} {base g : Nat} (h : Bxs x g 136 #[.slice none 0 0, .slice none 0 0, .int .i64 0, .int .i64 0]) (hg : w.heap.size ≤ g) (hb : Below w.heap.size w x) {xs : List (Rw × Value)} {lv : List ByteArray} {v1 v2 : Value} (o : LgO base xs lv v1 v2 x) (u0 u1 u2 u3 : Value) :
    Bxs ((((x.setCell ⟨g, 0, none⟩ u0).setCell ⟨g, 1, none⟩ u1).setCell ⟨g, 2, none⟩ u2).setCell ⟨g, 3, none⟩ u3) g 136 #[u0, u1, u2, u3] ∧ LgO base xs lv v1 v2 ((((x.setCell ⟨g, 0, none⟩ u0).setCell ⟨g, 1, none⟩ u1).setCell ⟨g, 2, none⟩ u2).setCell ⟨g, 3, none⟩ u3) ∧ Below w.heap.size w ((((x.setCell ⟨g, 0, none⟩ u0).setCell ⟨g, 1, none⟩ u1).setCell ⟨g, 2, none⟩ u2).setCell ⟨g, 3, none⟩ u3) :=
  ⟨(((h.set 0 _).set 1 _).set 2 _).set 3 _, (((o.box h (by decide) (by decide) (by decide) (set_grw x _ 0 u0)).box (h.set 0 u0) (by decide) (by decide) (by decide) (set_grw _ _ 1 u1)).box ((h.set 0 u0).set 1 u1) (by decide) (by decide) (by decide) (set_grw _ _ 2 u2)).box (((h.set 0 u0).set 1 u1).set 2 u2) (by decide) (by decide) (by decide) (set_grw _ _ 3 u3), below_set4 hb hg _ _ _ _⟩
end Go.Proofs.YtonleickhincgaaGreatDoor
