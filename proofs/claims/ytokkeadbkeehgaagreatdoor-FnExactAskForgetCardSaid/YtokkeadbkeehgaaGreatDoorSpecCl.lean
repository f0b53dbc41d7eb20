/-
  A log copied into memory of its own: spec.l09Copy.
-/
import Derived.Test.YtokkeadbkeehgaaGreatDoorRows
import Derived.Test.YtokkeadbkeehgaaGreatDoorBytesDigMathTreeMathSlASlBBxKOwnSTakesLTillTwo
import Derived.Test.YtokkeadbkeehgaaGreatDoorLawRmLawPoMTakesLawFLawFRLawSG
import Derived.Test.YtokkeadbkeehgaaGreatDoorPolAnsKeepMAfMathLawAfStepAppOwnBTurn2
import Derived.Test.YtokkeadbkeehgaaGreatDoorLgAtKShwKOneKFldGFldBlkRwBlkIntKLawILawOGLawImBlNotRulMathAppS
import Derived.Test.YtokkeadbkeehgaaGreatDoorFldOMFldOFldFFldTbGrKSpecGNSpecGTFldN
import Derived.Test.YtokkeadbkeehgaaGreatDoorTimeBPutMathPutNumJoinedPutTextFldMathFldRiseScanMath
import Derived.Test.YtokkeadbkeehgaaGreatDoorGetValGetTxtNumMathFldRdNumFromTmbMathLgMath
import Derived.Test.YtokkeadbkeehgaaGreatDoorLawLkRowOpsLgOLawLo
import Derived.Handy
import Derived.WalkSpells
import Derived.OwnWalk
import Derived.Deep.RegionHeld3
import Derived.Deep.Cut
import Derived.Deep.CutRange
namespace Go.Proofs.YtokkeadbkeehgaaGreatDoor
open Go.RowKit Go.Lib
set_option linter.unusedVariables false
set_option maxRecDepth 20000

theorem app_lvs {W y : World} {g : Nat} (hb : Below W.heap.size W y) (own : y.ownsRow W.heap.size 9 1 (.slice (some ⟨g, 0, none⟩) 0 0) 0 []) (p : Option Addr) (c : Nat) (lv : List ByteArray) (hp : TxtAt y p lv) (hn : lv.length ≤ 1048576) :
    ∃ q d y', (Builtin.append_ #[23, 23] 23 #[.slice (some ⟨g, 0, none⟩) 0 0, .slice p lv.length c]).run Tryz.prog y = .ok (.slice q lv.length d) y' ∧ y'.ownsRow W.heap.size 9 1 (.slice q lv.length d) lv.length (strRow lv) ∧ Below W.heap.size W y' ∧ y.grownBy y' (some g) := by
  obtain ⟨v', y', h1, h2, h3⟩ := app_texts y W.heap.size _ [] own p c lv hp (by simpa using hn) hb.size
  rw [List.nil_append] at h2
  obtain ⟨q, d, rfl, -, -⟩ := ownS_form h2
  exact ⟨q, d, y', h1, h2, hb.grown h3 hb.size (fun j hj => (own.lt j hj).1), h3⟩
set_option maxHeartbeats 8000000 in
theorem l09Copy_any (p : Option Addr) (lv : List ByteArray) (cp : Nat) (q : Option Addr) (rs : List Rw) (cq : Nat) (now : Int) (w : World) (hA : LgAt p lv cp q rs cq w) (hf : ∀ r ∈ rs, 0 < r.fs.length ∧ r.fs.length ≤ 1000) :
    Calls Tryz.prog 52 #[.agg #[.slice q rs.length cq, .slice p lv.length cp, .int .i64 now]] w fun e w' => ∃ v1 v2 xs, e = .returned (.agg #[v1, v2, .int .i64 now]) ∧ xs.map (·.1) = rs ∧ LgO w.heap.size xs lv v1 v2 w' ∧ Below w.heap.size w w' := by
  obtain ⟨W2, hW2⟩ : ∃ W2, W2 = (w.alloc (.cells #[.slice q rs.length cq, .slice p lv.length cp, .int .i64 now] 36)).alloc (.cells #[.slice none 0 0, .slice none 0 0, .int .i64 0] 36) := ⟨_, rfl⟩
  have HW2 : Hid (W2 = (w.alloc (.cells #[.slice q rs.length cq, .slice p lv.length cp, .int .i64 now] 36)).alloc (.cells #[.slice none 0 0, .slice none 0 0, .int .i64 0] 36)) := hW2
  have hs1 : (w.alloc (.cells #[.slice q rs.length cq, .slice p lv.length cp, .int .i64 now] 36)).heap.size = w.heap.size + 1 := by simp
  have b2 : Hid (Below w.heap.size w W2) := by rw [hW2]; exact ((Below.refl _ _).alloc (Nat.le_refl _) _).alloc (by rw [hs1]; omega) _
  have K0 : Hid (Bxs W2 w.heap.size 36 #[.slice q rs.length cq, .slice p lv.length cp, .int .i64 now]) := by rw [hW2]; exact (Bxs.new _ _ _).alloc _
  have K1 : Hid (Bxs W2 (w.heap.size + 1) 36 #[.slice none 0 0, .slice none 0 0, .int .i64 0]) := by rw [hW2, ← hs1]; exact Bxs.new _ _ _
  have hz2 : Hid (W2.heap.size = w.heap.size + 2) := by rw [hW2]; show _ = _; simp
  have HX : Hid (∀ w', Below W2.heap.size W2 w' → w'.cell? ⟨w.heap.size, 0, none⟩ = some (.slice q rs.length cq) ∧ w'.cell? ⟨w.heap.size, 1, none⟩ = some (.slice p lv.length cp) ∧ w'.cell? ⟨w.heap.size, 2, none⟩ = some (.int .i64 now)) := fun w' hb => ⟨(K0.out.below hb).cell 0, (K0.out.below hb).cell 1, (K0.out.below hb).cell 2⟩
  have HXr : Hid (∀ x, Below W2.heap.size W2 x → x.cell? ⟨w.heap.size + 1, 0, none⟩ = some (.slice none 0 0) ∧ x.cell? ⟨w.heap.size + 1, 1, none⟩ = some (.slice none 0 0) ∧ x.cell? ⟨w.heap.size + 1, 2, none⟩ = some (.int .i64 0) ∧ x.frozen? ⟨w.heap.size + 1, 0, none⟩ = false ∧ x.frozen? ⟨w.heap.size + 1, 1, none⟩ = false ∧ x.frozen? ⟨w.heap.size + 1, 2, none⟩ = false) := fun x hb => ⟨(K1.out.below hb).cell 0, (K1.out.below hb).cell 1, (K1.out.below hb).cell 2, (K1.out.below hb).fr 0, (K1.out.below hb).fr 1, (K1.out.below hb).fr 2⟩
  have HA : Hid (∀ x, Below W2.heap.size W2 x → LgAt p lv cp q rs cq x) := fun x hb => hA.below (chainB b2.out hb)
  have HF : Hid (∀ r ∈ rs, 0 < r.fs.length ∧ r.fs.length ≤ 1000) := hf
  have hrc := hA.rc
  have hlc := hA.lc
  have hrn := hA.rn
  have hln := hA.ln
  have BR : Below W2.heap.size W2 W2.drew := (Below.refl _ _).drew
  clear hW2 hA hf hs1
  go_enter Tryz.func52, Tryz.ntmps52
  go_upto_region 1 with fail
  rw [← HW2.out]
  obtain ⟨x0, x1, x2⟩ := HX.out W2 (Below.refl _ _)
  go_cut [3] from 5 to 11 (fun s3 wx => ∃ E v1 v2, s3 = .pointer (some ⟨E, 0, none⟩) ∧ Hid (LgC W2 E [] lv now v1 v2 wx))
  case first =>
    refine region_till (fun w' => w'.cell? ⟨w.heap.size, 0, none⟩ = some (.slice q rs.length cq) ∧ w'.cell? ⟨w.heap.size, 1, none⟩ = some (.slice p lv.length cp) ∧ w'.cell? ⟨w.heap.size, 2, none⟩ = some (.int .i64 now)) 8 (by kernel_rfl) (HX.out _ BR) (fun hHeld => ?_)
    generalize W2.drew = y0 at *
    refine till_take 1 (v := ?_) rfl (by kernel_rfl) (by kernel_rfl) (by kernel_rfl) (by kernel_rfl) (fun _ _ _ h => h) hHeld (Or.inl ⟨by rfl, ?_⟩) ?_
    rotate_left
    · (intro w hSw; (try dsimp only at hSw); go_simp; try with_reducible rfl)
    simp only [Act.put, List.setIfInBounds_toArray, List.set_cons_zero, List.set_cons_succ]
    refine till_take 2 (v := ?_) rfl (by kernel_rfl) (by kernel_rfl) (by kernel_rfl) (by kernel_rfl) (fun _ _ _ h => h) hHeld (Or.inl ⟨by rfl, ?_⟩) ?_
    rotate_left
    · (intro w hSw; (try dsimp only at hSw); go_simp; try with_reducible rfl)
    simp only [Act.put, List.setIfInBounds_toArray, List.set_cons_zero, List.set_cons_succ]
    refine till_take 4 (v := ?_) rfl (by kernel_rfl) (by kernel_rfl) (by kernel_rfl) (by kernel_rfl) (fun _ _ _ h => h) hHeld (Or.inl ⟨by rfl, ?_⟩) ?_
    rotate_left
    · (intro w hSw; (try dsimp only at hSw); go_simp; try with_reducible rfl)
    simp only [Act.put, List.setIfInBounds_toArray, List.set_cons_zero, List.set_cons_succ]
    refine till_take 5 (v := ?_) rfl (by kernel_rfl) (by kernel_rfl) (by kernel_rfl) (by kernel_rfl) (fun _ _ _ h => h) hHeld (Or.inl ⟨by rfl, ?_⟩) ?_
    rotate_left
    · (intro w hSw; (try dsimp only at hSw); go_simp; try with_reducible rfl)
    simp only [Act.put, List.setIfInBounds_toArray, List.set_cons_zero, List.set_cons_succ]
    refine till_ready2 0 7 rfl rfl (by kernel_rfl) (fun K hK => ?_) (fun K hK => ?_)
    · go_simp
      have own0 : (y0.alloc (.cells #[] 9)).ownsRow W2.heap.size 9 1 (.slice (some ⟨y0.heap.size, 0, none⟩) 0 0) 0 [] := own_low (ownS_none y0) BR.size
      have b_1 : Below W2.heap.size W2 (y0.alloc (.cells #[] 9)) := alB BR _
      refine hK.out _ _ (HX.out _ b_1) (fun hHeld => ?_)
      clear hK K
      try simp only [Act.put, List.setIfInBounds_toArray, List.set_cons_zero, List.set_cons_succ]
      generalize y0.alloc (.cells #[] 9) = y1 at *
      generalize y0.heap.size = g1 at *
      refine till_ready2 3 7 rfl rfl (by kernel_rfl) (fun K hK => ?_) (fun K hK => ?_)
      · obtain ⟨q3, d3, y2, hrun, own3, b_2, gr3⟩ := app_lvs b_1 own0 p cp lv (HA.out _ b_1).tx (HA.out _ b_1).ln
        refine step_append_run rfl _ _ 23 rfl (.slice (some ⟨g1, 0, none⟩) 0 0) (.slice p lv.length cp) _ _ rfl rfl hrun ?_
        refine hK.out _ _ (HX.out _ b_2) (fun hHeld => ?_)
        clear hK K
        try simp only [Act.put, List.setIfInBounds_toArray, List.set_cons_zero, List.set_cons_succ]
        refine till_take 6 (v := ?_) rfl (by kernel_rfl) (by kernel_rfl) (by kernel_rfl) (by kernel_rfl) (fun _ _ _ h => h) hHeld (Or.inl ⟨by rfl, ?_⟩) ?_
        rotate_left
        · (intro w hSw; (try dsimp only at hSw); go_simp; try with_reducible rfl)
        simp only [Act.put, List.setIfInBounds_toArray, List.set_cons_zero, List.set_cons_succ]
        refine till_ready 7 rfl (by kernel_rfl) (fun K hK => ?_)
        go_simp
        have kE : Bxs (y2.alloc (.cells #[.slice none 0 0, .slice none 0 0, .int .i64 0] 36)) y2.heap.size 36 #[.slice none 0 0, .slice none 0 0, .int .i64 0] := Bxs.new _ _ _
        have b_3 : Below W2.heap.size W2 (y2.alloc (.cells #[.slice none 0 0, .slice none 0 0, .int .i64 0] 36)) := alB b_2 _
        have hEb : W2.heap.size ≤ y2.heap.size := b_2.size
        replace own3 := ownS_below own3 (alB (Below.refl _ _) (.cells #[.slice none 0 0, .slice none 0 0, .int .i64 0] 36))
        refine hK.out _ _ (HX.out _ b_3) (fun hHeld => ?_)
        clear hK K
        try simp only [Act.put, List.setIfInBounds_toArray, List.set_cons_zero, List.set_cons_succ]
        generalize y2.alloc (.cells #[.slice none 0 0, .slice none 0 0, .int .i64 0] 36) = u3 at *
        generalize y2.heap.size = Eb at *
        have HP : Hid (LgC W2 Eb [] lv now (.slice none 0 0) (.slice q3 lv.length d3) (((u3.setCell ⟨Eb, 0, none⟩ (.slice none 0 0)).setCell ⟨Eb, 1, none⟩ (.slice q3 lv.length d3)).setCell ⟨Eb, 2, none⟩ (.int .i64 now))) := LgC.put kE hEb b_3 ⟨RwsO.nil _ _, own3⟩
        have q0 : u3.cell? ⟨Eb, 0, none⟩ = some (.slice none 0 0) := kE.cell 0
        have q1 : u3.cell? ⟨Eb, 1, none⟩ = some (.slice none 0 0) := kE.cell 1
        have q2 : u3.cell? ⟨Eb, 2, none⟩ = some (.int .i64 0) := kE.cell 2
        have f0 := kE.fr 0
        have f1 := kE.fr 1
        have f2 := kE.fr 2
        refine till_last rfl (by kernel_rfl) (by kernel_rfl) (fun K hK => ?_)
        go_simp
        refine hK.out _ _ ?_
        clear hK K hHeld q0 q1 q2 f0 f1 f2
        go_wp2_with fail
        go_meet
        exact ⟨Eb, _, _, rfl, HP⟩
      · go_simp
        have kE : Bxs (y1.alloc (.cells #[.slice none 0 0, .slice none 0 0, .int .i64 0] 36)) y1.heap.size 36 #[.slice none 0 0, .slice none 0 0, .int .i64 0] := Bxs.new _ _ _
        have b_4 : Below W2.heap.size W2 (y1.alloc (.cells #[.slice none 0 0, .slice none 0 0, .int .i64 0] 36)) := alB b_1 _
        have hEb : W2.heap.size ≤ y1.heap.size := b_1.size
        replace own0 := ownS_below own0 (alB (Below.refl _ _) (.cells #[.slice none 0 0, .slice none 0 0, .int .i64 0] 36))
        refine hK.out _ _ (HX.out _ b_4) (fun hHeld => ?_)
        clear hK K
        try simp only [Act.put, List.setIfInBounds_toArray, List.set_cons_zero, List.set_cons_succ]
        generalize y1.alloc (.cells #[.slice none 0 0, .slice none 0 0, .int .i64 0] 36) = u4 at *
        generalize y1.heap.size = Eb at *
        refine till_ready 3 rfl (by kernel_rfl) (fun K hK => ?_)
        obtain ⟨q3, d3, y5, hrun, own3, b_5, gr3⟩ := app_lvs b_4 own0 p cp lv (HA.out _ b_4).tx (HA.out _ b_4).ln
        replace kE := kE.grown gr3 (fun e => own_box own0 kE (by decide) e.symm)
        refine step_append_run rfl _ _ 23 rfl (.slice (some ⟨g1, 0, none⟩) 0 0) (.slice p lv.length cp) _ _ rfl rfl hrun ?_
        refine hK.out _ _ (HX.out _ b_5) (fun hHeld => ?_)
        clear hK K
        try simp only [Act.put, List.setIfInBounds_toArray, List.set_cons_zero, List.set_cons_succ]
        refine till_take 6 (v := ?_) rfl (by kernel_rfl) (by kernel_rfl) (by kernel_rfl) (by kernel_rfl) (fun _ _ _ h => h) hHeld (Or.inl ⟨by rfl, ?_⟩) ?_
        rotate_left
        · (intro w hSw; (try dsimp only at hSw); go_simp; try with_reducible rfl)
        simp only [Act.put, List.setIfInBounds_toArray, List.set_cons_zero, List.set_cons_succ]
        have HP : Hid (LgC W2 Eb [] lv now (.slice none 0 0) (.slice q3 lv.length d3) (((y5.setCell ⟨Eb, 0, none⟩ (.slice none 0 0)).setCell ⟨Eb, 1, none⟩ (.slice q3 lv.length d3)).setCell ⟨Eb, 2, none⟩ (.int .i64 now))) := LgC.put kE hEb b_5 ⟨RwsO.nil _ _, own3⟩
        have q0 : y5.cell? ⟨Eb, 0, none⟩ = some (.slice none 0 0) := kE.cell 0
        have q1 : y5.cell? ⟨Eb, 1, none⟩ = some (.slice none 0 0) := kE.cell 1
        have q2 : y5.cell? ⟨Eb, 2, none⟩ = some (.int .i64 0) := kE.cell 2
        have f0 := kE.fr 0
        have f1 := kE.fr 1
        have f2 := kE.fr 2
        refine till_last rfl (by kernel_rfl) (by kernel_rfl) (fun K hK => ?_)
        go_simp
        refine hK.out _ _ ?_
        clear hK K hHeld q0 q1 q2 f0 f1 f2
        go_wp2_with fail
        go_meet
        exact ⟨Eb, _, _, rfl, HP⟩
    · go_simp
      have kE : Bxs (y0.alloc (.cells #[.slice none 0 0, .slice none 0 0, .int .i64 0] 36)) y0.heap.size 36 #[.slice none 0 0, .slice none 0 0, .int .i64 0] := Bxs.new _ _ _
      have b_6 : Below W2.heap.size W2 (y0.alloc (.cells #[.slice none 0 0, .slice none 0 0, .int .i64 0] 36)) := alB BR _
      have hEb : W2.heap.size ≤ y0.heap.size := BR.size
      refine hK.out _ _ (HX.out _ b_6) (fun hHeld => ?_)
      clear hK K
      try simp only [Act.put, List.setIfInBounds_toArray, List.set_cons_zero, List.set_cons_succ]
      generalize y0.alloc (.cells #[.slice none 0 0, .slice none 0 0, .int .i64 0] 36) = u6 at *
      generalize y0.heap.size = Eb at *
      refine till_ready 0 rfl (by kernel_rfl) (fun K hK => ?_)
      go_simp
      have own0 : (u6.alloc (.cells #[] 9)).ownsRow W2.heap.size 9 1 (.slice (some ⟨u6.heap.size, 0, none⟩) 0 0) 0 [] := own_low (ownS_none u6) b_6.size
      have b_7 : Below W2.heap.size W2 (u6.alloc (.cells #[] 9)) := alB b_6 _
      replace kE := kE.alloc (.cells #[] 9)
      refine hK.out _ _ (HX.out _ b_7) (fun hHeld => ?_)
      clear hK K
      try simp only [Act.put, List.setIfInBounds_toArray, List.set_cons_zero, List.set_cons_succ]
      generalize u6.alloc (.cells #[] 9) = y7 at *
      generalize u6.heap.size = g1 at *
      refine till_ready 3 rfl (by kernel_rfl) (fun K hK => ?_)
      obtain ⟨q3, d3, y8, hrun, own3, b_8, gr3⟩ := app_lvs b_7 own0 p cp lv (HA.out _ b_7).tx (HA.out _ b_7).ln
      replace kE := kE.grown gr3 (fun e => own_box own0 kE (by decide) e.symm)
      refine step_append_run rfl _ _ 23 rfl (.slice (some ⟨g1, 0, none⟩) 0 0) (.slice p lv.length cp) _ _ rfl rfl hrun ?_
      refine hK.out _ _ (HX.out _ b_8) (fun hHeld => ?_)
      clear hK K
      try simp only [Act.put, List.setIfInBounds_toArray, List.set_cons_zero, List.set_cons_succ]
      refine till_take 6 (v := ?_) rfl (by kernel_rfl) (by kernel_rfl) (by kernel_rfl) (by kernel_rfl) (fun _ _ _ h => h) hHeld (Or.inl ⟨by rfl, ?_⟩) ?_
      rotate_left
      · (intro w hSw; (try dsimp only at hSw); go_simp; try with_reducible rfl)
      simp only [Act.put, List.setIfInBounds_toArray, List.set_cons_zero, List.set_cons_succ]
      have HP : Hid (LgC W2 Eb [] lv now (.slice none 0 0) (.slice q3 lv.length d3) (((y8.setCell ⟨Eb, 0, none⟩ (.slice none 0 0)).setCell ⟨Eb, 1, none⟩ (.slice q3 lv.length d3)).setCell ⟨Eb, 2, none⟩ (.int .i64 now))) := LgC.put kE hEb b_8 ⟨RwsO.nil _ _, own3⟩
      have q0 : y8.cell? ⟨Eb, 0, none⟩ = some (.slice none 0 0) := kE.cell 0
      have q1 : y8.cell? ⟨Eb, 1, none⟩ = some (.slice none 0 0) := kE.cell 1
      have q2 : y8.cell? ⟨Eb, 2, none⟩ = some (.int .i64 0) := kE.cell 2
      have f0 := kE.fr 0
      have f1 := kE.fr 1
      have f2 := kE.fr 2
      refine till_last rfl (by kernel_rfl) (by kernel_rfl) (fun K hK => ?_)
      go_simp
      refine hK.out _ _ ?_
      clear hK K hHeld q0 q1 q2 f0 f1 f2
      go_wp2_with fail
      go_meet
      exact ⟨Eb, _, _, rfl, HP⟩
  case rest =>
    clear x0 x1 x2 BR
    obtain ⟨E, v1, v2, rfl, HC⟩ := hcut
    obtain ⟨z2, zd, rfl, hz2c, -⟩ := ownS_form HC.out.lg.lvs
    obtain ⟨z1, zc, rfl, hz1c⟩ := HC.out.lg.rws.form
    obtain ⟨x0, -, -⟩ := HX.out wc HC.out.bel
    go_wp2_with fail
    go_loopw [4] (fun i wr => ∃ (k : Nat) (xs : List (Rw × Value)) (v1 : Value), k ≤ rs.length ∧ i = .int .i64 k ∧ Hid (xs.map (·.1) = rs.take k) ∧ Hid (LgC W2 E xs lv now v1 (.slice z2 lv.length zd) wr)) (fun i _ => rs.length - (intOf i).toNat)
    case atStart => exact ⟨0, [], _, Nat.zero_le _, rfl, rfl, HC⟩
    case round =>
      clear x0 HC
      obtain ⟨k, xs, v1, hk, rfl, HM, HC⟩ := hrel
      obtain ⟨z1, zc, rfl, hz1c⟩ := HC.out.lg.rws.form
      have hxl : Hid (xs.length = k) := by
        have := congrArg List.length HM.out
        simp at this
        show _ = _
        omega
      by_cases hlt : k < rs.length
      · have i1 : (k : Int) < rs.length := by omega
        obtain ⟨b, off, rq, rc, rfl, hb0, c0, c1, c2, c3, c4⟩ := (HA.out W2 (Below.refl _ _)).rw k hlt
        obtain ⟨R, hR⟩ : ∃ R, R = rs[k] := ⟨_, rfl⟩
        rw [← hR] at c0 c1 c2 c3 c4
        have HRF := HF.out rs[k] (List.getElem_mem hlt)
        rw [← hR] at HRF
        have HM2 : Hid (rs.take (k + 1) = rs.take k ++ [R]) := by show _ = _; rw [hR, List.take_succ_eq_append_getElem hlt]
        have HRc : Hid (∀ w', Below W2.heap.size W2 w' → w'.cell? ⟨b, off + k * 3, none⟩ = some (.string R.k) ∧ w'.cell? ⟨b, off + k * 3 + 1, none⟩ = some (.int .i64 R.a) ∧ w'.cell? ⟨b, off + k * 3 + 2, none⟩ = some (.slice rq R.fs.length rc)) := fun w' hb => ⟨(hb.cell (p := ⟨b, off + k * 3, none⟩) hb0).trans c0, (hb.cell (p := ⟨b, off + k * 3 + 1, none⟩) hb0).trans c1, (hb.cell (p := ⟨b, off + k * 3 + 2, none⟩) hb0).trans c2⟩
        have QC : Hid (∀ x, Below W2.heap.size W2 x → Calls Tryz.prog 86 #[.agg #[.string R.k, .int .i64 R.a, .slice rq R.fs.length rc]] x fun e w' => ∃ bb cc, e = .returned (.agg #[.string R.k, .int .i64 R.a, .slice (some ⟨bb, 0, none⟩) R.fs.length cc]) ∧ w'.ownsRow x.heap.size 98 5 (.slice (some ⟨bb, 0, none⟩) R.fs.length cc) R.fs.length (fldRow R.fs) ∧ Below x.heap.size x w') := fun x hb => l07Copy_any R.k R.a rq rc R.fs x (c4.below hb) HRF.1 HRF.2
        have HS : Hid (∀ w', Below W2.heap.size W2 w' → w'.cell? ⟨E, 0, none⟩ = some (.slice z1 xs.length zc) → w'.cell? ⟨E, 0, none⟩ = some (.slice z1 xs.length zc) ∧ w'.cell? ⟨w.heap.size, 0, none⟩ = some (.slice (some ⟨b, off, none⟩) rs.length cq) ∧ w'.cell? ⟨b, off + k * 3, none⟩ = some (.string R.k) ∧ w'.cell? ⟨b, off + k * 3 + 1, none⟩ = some (.int .i64 R.a) ∧ w'.cell? ⟨b, off + k * 3 + 2, none⟩ = some (.slice rq R.fs.length rc)) := fun w' hb h => ⟨h, (HX.out w' hb).1, HRc.out w' hb⟩
        obtain ⟨p0, p1, p2, g0, g1, g2⟩ := HC.out.cells
        obtain ⟨x0, -, -⟩ := HX.out wr HC.out.bel
        have HCd := HC.out.below (Below.refl _ _).drew
        have hxs : xs.length + 1 ≤ 1048576 := by have := hxl.out; omega
        have hrs : 0 < rs.length := by omega
        clear c0 c1 c2 c4 hR
        go_upto_region 5 with fail
        refine region_till (fun w' => w'.cell? ⟨E, 0, none⟩ = some (.slice z1 xs.length zc) ∧ w'.cell? ⟨w.heap.size, 0, none⟩ = some (.slice (some ⟨b, off, none⟩) rs.length cq) ∧ w'.cell? ⟨b, off + k * 3, none⟩ = some (.string R.k) ∧ w'.cell? ⟨b, off + k * 3 + 1, none⟩ = some (.int .i64 R.a) ∧ w'.cell? ⟨b, off + k * 3 + 2, none⟩ = some (.slice rq R.fs.length rc)) 11 (by kernel_rfl) (HS.out _ HCd.bel HCd.cells.1) (fun hHeld => ?_)
        generalize wr.drew = y0 at *
        refine till_take 0 (v := ?_) rfl (by kernel_rfl) (by kernel_rfl) (by kernel_rfl) (by kernel_rfl) (fun _ _ _ h => h) hHeld (Or.inl ⟨by rfl, ?_⟩) ?_
        rotate_left
        · (intro w hSw; (try dsimp only at hSw); go_simp; try with_reducible rfl)
        simp only [Act.put, List.setIfInBounds_toArray, List.set_cons_zero, List.set_cons_succ]
        refine till_take 1 (v := ?_) rfl (by kernel_rfl) (by kernel_rfl) (by kernel_rfl) (by kernel_rfl) (fun _ _ _ h => h) hHeld (Or.inl ⟨by rfl, ?_⟩) ?_
        rotate_left
        · (intro w hSw; (try dsimp only at hSw); go_simp; try with_reducible rfl)
        simp only [Act.put, List.setIfInBounds_toArray, List.set_cons_zero, List.set_cons_succ]
        refine till_take 2 (v := ?_) rfl (by kernel_rfl) (by kernel_rfl) (by kernel_rfl) (by kernel_rfl) (fun _ _ _ h => h) hHeld (Or.inl ⟨by rfl, ?_⟩) ?_
        rotate_left
        · (intro w hSw; (try dsimp only at hSw); go_simp; try with_reducible rfl)
        simp only [Act.put, List.setIfInBounds_toArray, List.set_cons_zero, List.set_cons_succ]
        refine till_take 3 (v := ?_) rfl (by kernel_rfl) (by kernel_rfl) (by kernel_rfl) (by kernel_rfl) (fun _ _ _ h => h) hHeld (Or.inl ⟨by rfl, ?_⟩) ?_
        rotate_left
        · (intro w hSw; (try dsimp only at hSw); go_simp; try with_reducible rfl)
        simp only [Act.put, List.setIfInBounds_toArray, List.set_cons_zero, List.set_cons_succ]
        refine till_take 4 (v := ?_) rfl (by kernel_rfl) (by kernel_rfl) (by kernel_rfl) (by kernel_rfl) (fun _ _ _ h => h) hHeld (Or.inl ⟨by rfl, ?_⟩) ?_
        rotate_left
        · (intro w hSw; (try dsimp only at hSw); go_simp; try with_reducible rfl)
        simp only [Act.put, List.setIfInBounds_toArray, List.set_cons_zero, List.set_cons_succ]
        refine till_take 5 (v := ?_) rfl (by kernel_rfl) (by kernel_rfl) (by kernel_rfl) (by kernel_rfl) (fun _ _ _ h => h) hHeld (Or.inl ⟨by rfl, ?_⟩) ?_
        rotate_left
        · (intro w hSw; (try dsimp only at hSw); go_simp; try with_reducible rfl)
        simp only [Act.put, List.setIfInBounds_toArray, List.set_cons_zero, List.set_cons_succ]
        refine till_take 6 (v := ?_) rfl (by kernel_rfl) (by kernel_rfl) (by kernel_rfl) (by kernel_rfl) (fun _ _ _ h => h) hHeld (Or.inl ⟨by rfl, ?_⟩) ?_
        rotate_left
        · (intro w hSw; (try dsimp only at hSw); go_simp; try with_reducible rfl)
        simp only [Act.put, List.setIfInBounds_toArray, List.set_cons_zero, List.set_cons_succ]
        refine till_ready 7 rfl (by kernel_rfl) (fun K hK => ?_)
        go_simp
        (go_at_call 86; refine (QC.out _ HCd.bel).mono ?_; rintro e y1 ⟨bb, cc, rfl, own1, zz1⟩)
        have HC1 := HCd.below zz1
        refine hK.out _ _ (HS.out _ HC1.bel HC1.cells.1) (fun hHeld => ?_)
        clear hK K
        try simp only [Act.put, List.setIfInBounds_toArray, List.set_cons_zero, List.set_cons_succ]
        obtain ⟨q2, d2, y2, hrun, HC2, bl2, k20, k21, gr2⟩ := HCd.app zz1 R (some ⟨bb, 0, none⟩) cc own1 hxs
        refine till_ready 8 rfl (by kernel_rfl) (fun K hK => ?_)
        go_simp
        refine hK.out _ _ (HS.out _ (alB HC1.bel _) (HC1.below (alB (Below.refl _ _) _)).cells.1) (fun hHeld => ?_)
        clear hK K
        try simp only [Act.put, List.setIfInBounds_toArray, List.set_cons_zero, List.set_cons_succ]
        refine till_ready 9 rfl (by kernel_rfl) (fun K hK => ?_)
        refine step_append_run rfl _ _ 34 rfl (.slice z1 xs.length zc) (.slice (some ⟨y1.heap.size, 0, none⟩) 1 1) _ _ rfl rfl hrun ?_
        refine hK.out _ _ (HS.out _ bl2 k20) (fun hHeld => ?_)
        clear hK K
        try simp only [Act.put, List.setIfInBounds_toArray, List.set_cons_zero, List.set_cons_succ]
        refine till_take 10 (v := ?_) rfl (by kernel_rfl) (by kernel_rfl) (by kernel_rfl) (by kernel_rfl) (fun _ _ _ h => h) hHeld (Or.inl ⟨by rfl, ?_⟩) ?_
        rotate_left
        · (intro w hSw; (try dsimp only at hSw); go_simp; try with_reducible rfl)
        simp only [Act.put, List.setIfInBounds_toArray, List.set_cons_zero, List.set_cons_succ]
        refine till_last rfl (by kernel_rfl) (by kernel_rfl) (fun K hK => ?_)
        go_simp
        refine hK.out _ _ ?_
        clear hK K hHeld
        have HCn : Hid (LgC W2 E (xs ++ [(R, .slice (some ⟨bb, 0, none⟩) R.fs.length cc)]) lv now (.slice q2 (xs.length + 1) d2) (.slice z2 lv.length zd) (y2.setCell ⟨E, 0, none⟩ (.slice q2 (xs.length + 1) d2))) := HC2
        have HMn : Hid ((xs ++ [(R, (Value.slice (some ⟨bb, 0, none⟩) R.fs.length cc))]).map (·.1) = rs.take (k + 1)) := by show _ = _; rw [HM2.out, List.map_append, HM.out]; rfl
        clear HC2 HM HM2 hrun k20 k21 bl2 own1 zz1 HC1 HCd HS QC HRc gr2
        go_wp2_with fail
        go_roundw
        case rel => exact ⟨k + 1, _, _, by omega, by go_num, HMn, HCn⟩
        case measure => simp [intOf]; omega
      · obtain rfl : k = rs.length := by omega
        have hrs : Hid (xs.map (·.1) = rs) := by have := HM.out; rwa [List.take_length] at this
        obtain ⟨p0, p1, p2, g0, g1, g2⟩ := HC.out.cells
        obtain ⟨r0, r1, r2, h0, h1, h2⟩ := HXr.out wr HC.out.bel
        obtain ⟨x0, -, -⟩ := HX.out wr HC.out.bel
        have HE : Hid (∀ u0 u1 u2 : Value, LgO w.heap.size xs lv (.slice z1 xs.length zc) (.slice z2 lv.length zd) (((wr.setCell ⟨w.heap.size + 1, 0, none⟩ u0).setCell ⟨w.heap.size + 1, 1, none⟩ u1).setCell ⟨w.heap.size + 1, 2, none⟩ u2) ∧ Below w.heap.size w (((wr.setCell ⟨w.heap.size + 1, 0, none⟩ u0).setCell ⟨w.heap.size + 1, 1, none⟩ u1).setCell ⟨w.heap.size + 1, 2, none⟩ u2)) := fun u0 u1 u2 => by
          have hzz := hz2.out
          have hb := chainB b2.out HC.out.bel
          exact ⟨(((HC.out.lg.set (by omega) 0 u0).set (by omega) 1 u1).set (by omega) 2 u2).lower (by omega), below_cel (below_cel (below_cel hb (by omega) 0 u0) (by omega) 1 u1) (by omega) 2 u2⟩
        clear HC HM HX HXr hxl
        go_wp2_with fail
        refine bodyPost_ret (v := .agg #[.slice z1 xs.length zc, .slice z2 lv.length zd, .int .i64 now]) (by simp [results, Tryz.results52, go_sem, r0, r1, r2]) rfl ?_
        exact ⟨_, _, xs, rfl, hrs.out, (HE.out _ _ _).1, (HE.out _ _ _).2⟩
end Go.Proofs.YtokkeadbkeehgaaGreatDoor
