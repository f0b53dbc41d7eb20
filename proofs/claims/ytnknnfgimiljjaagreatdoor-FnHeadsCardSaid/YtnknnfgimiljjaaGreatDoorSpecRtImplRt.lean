/-
  Parts of one proof, laid as one text: SpecRt, ImplRt; what each says stands at its head.
-/
import Derived.Test.YtnknnfgimiljjaaGreatDoorRows
import Derived.Test.YtnknnfgimiljjaaGreatDoorBytesDigMath
import Derived.Test.YtnknnfgimiljjaaGreatDoorTreeMathSlABxKSlBOwnSJoinedOwnB
import Derived.Test.YtnknnfgimiljjaaGreatDoorLtMathLaMathLfMathTakesLStepAppGrKDigAllTimeIImplFCBlNotTakes
import Derived.Test.YtnknnfgimiljjaaGreatDoorImplTbAsDAs2CodeOfSpecGNSpecGTFldNFldIs
import Derived.Test.YtnknnfgimiljjaaGreatDoorPowerHalvesTreeTree2TreeHPathMathIncMathTakerTakePathConMathTakeProofConI
import Derived.Test.YtnknnfgimiljjaaGreatDoorTimeBPutMathPutNumPutTextFldMathFldRiseScanMath
import Derived.Test.YtnknnfgimiljjaaGreatDoorGetValGetTxtNumMathFldRdNumFromTmbMathLgMath
import Derived.Test.YtnknnfgimiljjaaGreatDoorLgAtKLgAnsLgRtShwKOneKFldGFldBlkRwBlkRowOpsLgO
import Derived.Test.YtnknnfgimiljjaaGreatDoorSpecLr
import Derived.Handy
import Derived.WalkSpells
import Derived.OwnWalk
import Derived.Deep.RegionHeld3
import Derived.Deep.Cut
import Derived.Test.YtnknnfgimiljjaaGreatDoorImplLg
import Derived.Test.YtnknnfgimiljjaaGreatDoorLogRIImplPlCopiedImplClLfF
/-
  RootOf and HeadText, as the specification answers.
  Conditions: the cells hold the rows and leaves.
-/
namespace Go.Proofs.YtnknnfgimiljjaaGreatDoor
open Go.RowKit Go.Lib
set_option linter.unusedVariables false
set_option maxRecDepth 20000

set_option maxHeartbeats 2000000 in
theorem specRootOf_any (p : Option Addr) (lv : List ByteArray) (cp : Nat) (q : Option Addr) (rs : List Rw) (cq : Nat) (now : Int) (r : Int) (w : World) (hA : LgAt p lv cp q rs cq w) :
    Calls Tryz.prog 10 #[.agg #[.slice q rs.length cq, .slice p lv.length cp, .int .i64 now], .int .i64 r] w fun e w' => e = .returned (.string (roO rs lv now r)) ∧ Below w.heap.size w w' := by
  obtain ⟨W1, hW1⟩ : ∃ W1, W1 = w.alloc (.cells #[.slice q rs.length cq, .slice p lv.length cp, .int .i64 now] 26) := ⟨_, rfl⟩
  have HW1 : Hid (W1 = w.alloc (.cells #[.slice q rs.length cq, .slice p lv.length cp, .int .i64 now] 26)) := hW1
  have B1 : Hid (Below w.heap.size w W1) := by rw [hW1]; exact (Below.refl _ _).alloc (Nat.le_refl _) _
  have K1 : Hid (Bxs W1 w.heap.size 26 #[.slice q rs.length cq, .slice p lv.length cp, .int .i64 now]) := by rw [hW1]; exact Bxs.new _ _ _
  have hR := specLogRight_any p lv cp q rs cq now W1 (hA.below B1.out)
  have HV : Hid (roO rs lv now r = if lgB rs lv now = true then (if 0 ≤ r ∧ r ≤ (lv.length : Int) then treeB (lv.take r.toNat) else ByteArray.empty) else ByteArray.empty) := rfl
  have HA : Hid (LgAt p lv cp q rs cq w) := hA
  have hln := hA.ln
  have hlc := hA.lc
  have hIs := fun x => l07Is_any r 0 (lv.length : Int) x
  obtain ⟨x0, x1, x2⟩ : W1.cell? ⟨w.heap.size, 0, none⟩ = some (.slice q rs.length cq) ∧ W1.cell? ⟨w.heap.size, 1, none⟩ = some (.slice p lv.length cp) ∧ W1.cell? ⟨w.heap.size, 2, none⟩ = some (.int .i64 now) := ⟨K1.out.cell 0, K1.out.cell 1, K1.out.cell 2⟩
  rw [HW1.out] at x0 x1 x2
  clear hW1 hA
  cases hg : lgB rs lv now with
  | false =>
    rw [hg] at hR
    rw [hg, if_neg Bool.false_ne_true] at HV
    rw [HV.out]
    go_enter Tryz.func10, Tryz.ntmps10
    go_wp2_with fail
    rw [← HW1.out]
    refine hR.mono ?_
    rintro e y ⟨rfl, by_⟩
    go_wp2_with fail
    go_ret
    exact ⟨rfl, chainB B1.out by_⟩
  | true =>
    rw [hg] at hR
    rw [hg, if_pos rfl] at HV
    by_cases h1 : 0 ≤ r ∧ r ≤ (lv.length : Int)
    · rw [if_pos h1] at HV
      rw [decide_eq_true h1] at hIs
      obtain ⟨K, rfl⟩ : ∃ K : Nat, r = (K : Int) := ⟨r.toNat, by omega⟩
      rw [Int.toNat_natCast] at HV
      have hK : K ≤ lv.length := by omega
      have HT : Hid (∀ x, Below w.heap.size w x → Calls Tryz.prog 34 #[.slice p K cp] x fun e w' => e = .returned (.string (treeB (lv.take K))) ∧ Below x.heap.size x w') := fun x hb => by
        have hl : (lv.take K).length = K := by simp; omega
        have := tree2_any K p cp (lv.take K) x hl ((HA.out.tx.below hb).take K) (by omega) (by omega) (fun t ht => lg_small hg t (List.mem_of_mem_take ht))
        rwa [hl] at this
      rw [HV.out]
      have hs := sl_to p lv.length cp K (by omega)
      clear h1 hg
      generalize treeB (lv.take K) = TB at *
      go_enter Tryz.func10, Tryz.ntmps10
      go_wp2_with fail
      rw [← HW1.out]
      refine hR.mono ?_
      rintro e y ⟨rfl, by_⟩
      clear hR x0 x1 x2
      have x1 := (K1.out.below by_).cell 1
      have hT := HT.out y (chainB B1.out by_)
      have hI := hIs y
      clear HT hIs
      go_wp2_with fail
      refine hI.mono ?_
      rintro e y2 ⟨rfl, rfl⟩
      go_wp2_with fail
      refine hT.mono ?_
      rintro e y3 ⟨rfl, b3⟩
      go_wp2_with fail
      go_ret
      exact ⟨rfl, chainB (chainB B1.out by_) b3⟩
    · rw [if_neg h1] at HV
      rw [decide_eq_false h1] at hIs
      rw [HV.out]
      clear h1 hg
      go_enter Tryz.func10, Tryz.ntmps10
      go_wp2_with fail
      rw [← HW1.out]
      refine hR.mono ?_
      rintro e y ⟨rfl, by_⟩
      clear hR x0 x1 x2
      have x1 := (K1.out.below by_).cell 1
      have hI := hIs y
      clear hIs
      go_wp2_with fail
      refine hI.mono ?_
      rintro e y2 ⟨rfl, rfl⟩
      go_wp2_with fail
      go_ret
      exact ⟨rfl, chainB B1.out by_⟩
set_option maxHeartbeats 2000000 in
theorem l09Head_any (p : Option Addr) (lv : List ByteArray) (cp : Nat) (q : Option Addr) (rs : List Rw) (cq : Nat) (now : Int) (w : World) (hA : LgAt p lv cp q rs cq w) (h100 : ∀ t ∈ lv, t.size ≤ 100) :
    Calls Tryz.prog 48 #[.agg #[.slice q rs.length cq, .slice p lv.length cp, .int .i64 now]] w fun e w' => e = .returned (.string (hdB lv)) ∧ Below w.heap.size w w' := by
  obtain ⟨W1, hW1⟩ : ∃ W1, W1 = w.alloc (.cells #[.slice q rs.length cq, .slice p lv.length cp, .int .i64 now] 26) := ⟨_, rfl⟩
  have HW1 : Hid (W1 = w.alloc (.cells #[.slice q rs.length cq, .slice p lv.length cp, .int .i64 now] 26)) := hW1
  have B1 : Hid (Below w.heap.size w W1) := by rw [hW1]; exact (Below.refl _ _).alloc (Nat.le_refl _) _
  have K1 : Hid (Bxs W1 w.heap.size 26 #[.slice q rs.length cq, .slice p lv.length cp, .int .i64 now]) := by rw [hW1]; exact Bxs.new _ _ _
  have hln := hA.ln
  have BR : Hid (Below W1.heap.size W1 W1.drew) := (Below.refl _ _).drew
  have HX : Hid (∀ x, Below W1.heap.size W1 x → x.cell? ⟨w.heap.size, 1, none⟩ = some (.slice p lv.length cp)) := fun x hb => (K1.out.below hb).cell 1
  have HN : Hid (∀ x, Below W1.heap.size W1 x → Calls Tryz.prog 86 #[.int .i64 (lv.length : Int)] x fun e w' => e = .returned (.string (putB (lv.length : Int))) ∧ Below W1.heap.size W1 w') := fun x hb => (specPutNum_any _ x (by omega) (by omega)).mono (by rintro e y ⟨rfl, b⟩; exact ⟨rfl, chainB hb b⟩)
  have HT : Hid (∀ x, Below W1.heap.size W1 x → Calls Tryz.prog 34 #[.slice p lv.length cp] x fun e w' => e = .returned (.string (treeB lv)) ∧ Below W1.heap.size W1 w') := fun x hb => (tree2_any lv.length p cp lv x rfl ((hA.tx.below B1.out).below hb) (by omega) hA.lc h100).mono (by rintro e y ⟨rfl, b⟩; exact ⟨rfl, chainB hb b⟩)
  have HP : Hid (∀ x, Below W1.heap.size W1 x → Calls Tryz.prog 87 #[.string (treeB lv)] x fun e w' => e = .returned (.string (putTextB (treeB lv))) ∧ Below W1.heap.size W1 w') := fun x hb => (specPutText_any _ x (by rw [treeB_size]; unfold maxLen; omega)).mono (by rintro e y ⟨rfl, b⟩; exact ⟨rfl, chainB hb b⟩)
  have hz1 : (putB (lv.length : Int)).size ≤ 10 := putB_size _
  have hz2 := putTextB_32 (treeB_size lv)
  unfold hdB
  clear hW1 hA h100
  generalize putTextB (treeB lv) = PT at *
  generalize treeB lv = TB at *
  generalize putB (lv.length : Int) = PN at *
  have hcc : ¬ (9223372036854775807 < PN.size + PT.size) := by omega
  go_enter Tryz.func48, Tryz.ntmps48
  go_upto_region 1 with fail
  rw [← HW1.out]
  clear HW1
  have z0 := BR.out
  refine wp_region_held_drew (S := (fun w' => w'.cell? ⟨w.heap.size, 1, none⟩ = some (.slice p lv.length cp))) (by kernel_rfl) (HX.out _ BR.out) (fun hHeld => ?_)
  refine take_at 0 (v := ?_) rfl (by kernel_rfl) (by kernel_rfl) (by kernel_rfl) (fun _ _ _ h => h) hHeld (Or.inl ⟨by rfl, ?_⟩) ?_
  rotate_left
  · (intro w hSw; (try dsimp only at hSw); go_simp; try with_reducible rfl)
  simp only [Act.put, List.setIfInBounds_toArray, List.set_cons_zero, List.set_cons_succ]
  refine take_at 1 (v := ?_) rfl (by kernel_rfl) (by kernel_rfl) (by kernel_rfl) (fun _ _ _ h => h) hHeld (Or.inl ⟨by rfl, ?_⟩) ?_
  rotate_left
  · (intro w hSw; (try dsimp only at hSw); go_simp; try with_reducible rfl)
  simp only [Act.put, List.setIfInBounds_toArray, List.set_cons_zero, List.set_cons_succ]
  refine take_at 2 (v := ?_) rfl (by kernel_rfl) (by kernel_rfl) (by kernel_rfl) (fun _ _ _ h => h) hHeld (Or.inl ⟨by rfl, ?_⟩) ?_
  rotate_left
  · (intro w hSw; (try dsimp only at hSw); go_simp; try with_reducible rfl)
  simp only [Act.put, List.setIfInBounds_toArray, List.set_cons_zero, List.set_cons_succ]
  refine take_at 4 (v := ?_) rfl (by kernel_rfl) (by kernel_rfl) (by kernel_rfl) (fun _ _ _ h => h) hHeld (Or.inl ⟨by rfl, ?_⟩) ?_
  rotate_left
  · (intro w hSw; (try dsimp only at hSw); go_simp; try with_reducible rfl)
  simp only [Act.put, List.setIfInBounds_toArray, List.set_cons_zero, List.set_cons_succ]
  refine take_at 5 (v := ?_) rfl (by kernel_rfl) (by kernel_rfl) (by kernel_rfl) (fun _ _ _ h => h) hHeld (Or.inl ⟨by rfl, ?_⟩) ?_
  rotate_left
  · (intro w hSw; (try dsimp only at hSw); go_simp; try with_reducible rfl)
  simp only [Act.put, List.setIfInBounds_toArray, List.set_cons_zero, List.set_cons_succ]
  refine ready_at 3 rfl (by kernel_rfl) (fun K hK => ?_)
  go_simp
  (go_at_call 86; with_reducible refine (HN.out _ z0).mono ?_; rintro e y1 ⟨rfl, z1⟩)
  refine hK.out _ _ (HX.out _ z1) (fun hHeld => ?_)
  clear hK K
  try simp only [Act.put, List.setIfInBounds_toArray, List.set_cons_zero, List.set_cons_succ]
  refine ready_at 6 rfl (by kernel_rfl) (fun K hK => ?_)
  go_simp
  (go_at_call 34; with_reducible refine (HT.out _ z1).mono ?_; rintro e y2 ⟨rfl, z3⟩)
  refine hK.out _ _ (HX.out _ z3) (fun hHeld => ?_)
  clear hK K
  try simp only [Act.put, List.setIfInBounds_toArray, List.set_cons_zero, List.set_cons_succ]
  refine ready_at 7 rfl (by kernel_rfl) (fun K hK => ?_)
  go_simp
  (go_at_call 87; with_reducible refine (HP.out _ z3).mono ?_; rintro e y3 ⟨rfl, z4⟩)
  refine hK.out _ _ (HX.out _ z4) (fun hHeld => ?_)
  clear hK K
  try simp only [Act.put, List.setIfInBounds_toArray, List.set_cons_zero, List.set_cons_succ]
  refine take_at 8 (v := ?_) rfl (by kernel_rfl) (by kernel_rfl) (by kernel_rfl) (fun _ _ _ h => h) hHeld (Or.inl ⟨by rfl, ?_⟩) ?_
  rotate_left
  · (intro w hSw; (try dsimp only at hSw); go_simp; try with_reducible rfl)
  simp only [Act.put, List.setIfInBounds_toArray, List.set_cons_zero, List.set_cons_succ]
  refine take_at 9 (v := ?_) rfl (by kernel_rfl) (by kernel_rfl) (by kernel_rfl) (fun _ _ _ h => h) hHeld (Or.inl ⟨by rfl, ?_⟩) ?_
  rotate_left
  · (intro w hSw; (try dsimp only at hSw); go_simp; try with_reducible rfl)
  simp only [Act.put, List.setIfInBounds_toArray, List.set_cons_zero, List.set_cons_succ]
  refine wpAnyH_done (by kernel_rfl) ?_ _
  go_wp2_with fail
  go_ret
  exact ⟨rfl, chainB B1.out z4⟩
set_option maxHeartbeats 2000000 in
theorem specHeadText_any (p : Option Addr) (lv : List ByteArray) (cp : Nat) (q : Option Addr) (rs : List Rw) (cq : Nat) (now : Int) (w : World) (hA : LgAt p lv cp q rs cq w) :
    Calls Tryz.prog 20 #[.agg #[.slice q rs.length cq, .slice p lv.length cp, .int .i64 now]] w fun e w' => e = .returned (.string (hdO rs lv now)) ∧ Below w.heap.size w w' := by
  obtain ⟨W1, hW1⟩ : ∃ W1, W1 = w.alloc (.cells #[.slice q rs.length cq, .slice p lv.length cp, .int .i64 now] 26) := ⟨_, rfl⟩
  have HW1 : Hid (W1 = w.alloc (.cells #[.slice q rs.length cq, .slice p lv.length cp, .int .i64 now] 26)) := hW1
  have B1 : Hid (Below w.heap.size w W1) := by rw [hW1]; exact (Below.refl _ _).alloc (Nat.le_refl _) _
  have K1 : Hid (Bxs W1 w.heap.size 26 #[.slice q rs.length cq, .slice p lv.length cp, .int .i64 now]) := by rw [hW1]; exact Bxs.new _ _ _
  have hR := specLogRight_any p lv cp q rs cq now W1 (hA.below B1.out)
  have HV : Hid (hdO rs lv now = if lgB rs lv now = true then hdB lv else ByteArray.empty) := rfl
  have HH : Hid (lgB rs lv now = true → ∀ x, Below w.heap.size w x → Calls Tryz.prog 48 #[.agg #[.slice q rs.length cq, .slice p lv.length cp, .int .i64 now]] x fun e w' => e = .returned (.string (hdB lv)) ∧ Below x.heap.size x w') := fun hg x hb => l09Head_any p lv cp q rs cq now x (hA.below hb) (lg_small hg)
  obtain ⟨x0, x1, x2⟩ : W1.cell? ⟨w.heap.size, 0, none⟩ = some (.slice q rs.length cq) ∧ W1.cell? ⟨w.heap.size, 1, none⟩ = some (.slice p lv.length cp) ∧ W1.cell? ⟨w.heap.size, 2, none⟩ = some (.int .i64 now) := ⟨K1.out.cell 0, K1.out.cell 1, K1.out.cell 2⟩
  rw [HW1.out] at x0 x1 x2
  clear hW1 hA
  cases hg : lgB rs lv now with
  | false =>
    rw [hg] at hR
    rw [hg, if_neg Bool.false_ne_true] at HV
    rw [HV.out]
    go_enter Tryz.func20, Tryz.ntmps20
    go_wp2_with fail
    rw [← HW1.out]
    refine hR.mono ?_
    rintro e y ⟨rfl, by_⟩
    go_wp2_with fail
    go_ret
    exact ⟨rfl, chainB B1.out by_⟩
  | true =>
    rw [hg] at hR
    rw [hg, if_pos rfl] at HV
    rw [HV.out]
    have HH2 : Hid (∀ x, Below w.heap.size w x → Calls Tryz.prog 48 #[.agg #[.slice q rs.length cq, .slice p lv.length cp, .int .i64 now]] x fun e w' => e = .returned (.string (hdB lv)) ∧ Below x.heap.size x w') := HH.out hg
    clear HH hg
    generalize hdB lv = HB at *
    go_enter Tryz.func20, Tryz.ntmps20
    go_wp2_with fail
    rw [← HW1.out]
    refine hR.mono ?_
    rintro e y ⟨rfl, by_⟩
    clear hR x0 x1 x2
    obtain ⟨x0, x1, x2⟩ : y.cell? ⟨w.heap.size, 0, none⟩ = some (.slice q rs.length cq) ∧ y.cell? ⟨w.heap.size, 1, none⟩ = some (.slice p lv.length cp) ∧ y.cell? ⟨w.heap.size, 2, none⟩ = some (.int .i64 now) := ⟨(K1.out.below by_).cell 0, (K1.out.below by_).cell 1, (K1.out.below by_).cell 2⟩
    have hH := HH2.out y (chainB B1.out by_)
    go_wp2_with fail
    refine hH.mono ?_
    rintro e y2 ⟨rfl, b2⟩
    go_wp2_with fail
    go_ret
    exact ⟨rfl, chainB (chainB B1.out by_) b2⟩
end Go.Proofs.YtnknnfgimiljjaaGreatDoor
/-
  RootOf and HeadText, as the program answers.
  Conditions: the cells hold the rows and leaves; the tables of the digest and errors.errorType are laid.
-/
namespace Go.Proofs.YtnknnfgimiljjaaGreatDoor
open Go.RowKit Go.Lib
set_option linter.unusedVariables false
set_option maxRecDepth 20000

theorem count_any (p : Option Addr) (n cp : Nat) (w : World) : Calls Tryz.prog 46 #[.slice p n cp] w fun e w' => e = .returned (.int .i64 (n : Int)) ∧ w' = w := by
  go_enter Tryz.func46, Tryz.ntmps46
  go_wp2_with fail
  go_ret
  exact ⟨rfl, rfl⟩
def rotB (lv : List ByteArray) (n : Int) : ByteArray := if 0 ≤ n ∧ n ≤ (lv.length : Int) then treeB (lv.take n.toNat) else ByteArray.empty
set_option maxHeartbeats 2000000 in
theorem rootOf_any (p : Option Addr) (lv : List ByteArray) (cp : Nat) (r : Int) (w : World) (hT : Tabs w) (hL : TxtAt w p lv) (hl : lv.length ≤ 64) (hc : lv.length ≤ cp) (h100 : ∀ t ∈ lv, t.size ≤ 100) :
    Calls Tryz.prog 32 #[.slice p lv.length cp, .int .i64 r] w fun e w' => e = .returned (.string (rotB lv r)) ∧ Below w.heap.size w w' := by
  have hC := count_any p lv.length cp w
  have HV : Hid (rotB lv r = if 0 ≤ r ∧ r ≤ (lv.length : Int) then treeB (lv.take r.toNat) else ByteArray.empty) := rfl
  by_cases h0 : r < 0
  · have d0 : decide (r < 0) = true := decide_eq_true h0
    rw [if_neg (by omega)] at HV
    rw [HV.out]
    go_enter Tryz.func32, Tryz.ntmps32
    go_wp2_with fail
    go_ret
    exact ⟨rfl, Below.refl _ _⟩
  · have d0 : decide (r < 0) = false := decide_eq_false h0
    by_cases h1 : (lv.length : Int) < r
    · have d1 : decide ((lv.length : Int) < r) = true := decide_eq_true h1
      rw [if_neg (by omega)] at HV
      rw [HV.out]
      go_enter Tryz.func32, Tryz.ntmps32
      go_wp2_with fail
      refine hC.mono ?_
      rintro e y ⟨rfl, rfl⟩
      go_wp2_with fail
      go_ret
      exact ⟨rfl, Below.refl _ _⟩
    · have d1 : decide ((lv.length : Int) < r) = false := decide_eq_false h1
      obtain ⟨K, rfl⟩ : ∃ K : Nat, r = (K : Int) := ⟨r.toNat, by omega⟩
      rw [if_pos (by omega), Int.toNat_natCast] at HV
      rw [HV.out]
      have hl2 : (lv.take K).length = K := by simp; omega
      have hTr := implTree_any p cp (lv.take K) w hT (hL.take K) (by omega) (by omega)
      unfold treeA at hTr
      rw [ent_take hl h100 K, if_pos rfl, hl2] at hTr
      have hs := sl_lv p lv.length cp K (by omega)
      have d1n : decide (lv.length < K) = false := decide_eq_false (by omega)
      clear h0 h1 hl2 HV
      generalize treeB (lv.take K) = TB at *
      go_enter Tryz.func32, Tryz.ntmps32
      go_wp2_with fail
      refine hC.mono ?_
      rintro e y ⟨rfl, rfl⟩
      go_wp2_with fail
      refine hTr.mono ?_
      rintro e y ⟨rfl, b1⟩
      go_wp2_with fail
      go_ret
      exact ⟨rfl, b1⟩
set_option maxHeartbeats 2000000 in
theorem implRootOf_any (p : Option Addr) (lv : List ByteArray) (cp : Nat) (q : Option Addr) (rs : List Rw) (cq : Nat) (now : Int) (r : Int) (w : World) (hT : Tabs w) (hg : Laid w) (hA : LgAt p lv cp q rs cq w) :
    Calls Tryz.prog 9 #[.agg #[.slice q rs.length cq, .slice p lv.length cp, .int .i64 now], .int .i64 r] w fun e w' => e = .returned (.string (roO rs lv now r)) ∧ Below w.heap.size w w' := by
  obtain ⟨W1, hW1⟩ : ∃ W1, W1 = w.alloc (.cells #[.slice q rs.length cq, .slice p lv.length cp, .int .i64 now] 26) := ⟨_, rfl⟩
  have HW1 : Hid (W1 = w.alloc (.cells #[.slice q rs.length cq, .slice p lv.length cp, .int .i64 now] 26)) := hW1
  have B1 : Hid (Below w.heap.size w W1) := by rw [hW1]; exact (Below.refl _ _).alloc (Nat.le_refl _) _
  have hWk := workOn_any p lv cp q rs cq now W1
  have HR : Hid (∀ x, Below w.heap.size w x → Calls Tryz.prog 31 #[.agg #[.slice p lv.length cp, .slice q rs.length cq, .int .i64 now]] x fun e w' => e = .returned (.bool (lgB rs lv now)) ∧ Below x.heap.size x w') := fun x hb => right_any p lv cp q rs cq now x (hT.to hb) (hg.below hb) (hA.below hb)
  unfold lgC wkC at hWk
  clear hW1
  have HP : Hid (lgB rs lv now = true → ∀ x, Below w.heap.size w x → Calls Tryz.prog 32 #[.slice p lv.length cp, .int .i64 r] x fun e w' => e = .returned (.string (rotB lv r)) ∧ Below x.heap.size x w') := fun hg x hb => rootOf_any p lv cp r x (hT.to hb) (hA.tx.below hb) (lg_right hg).2.1 hA.lc (lg_small hg)
  have HV : Hid (roO rs lv now r = if lgB rs lv now = true then rotB lv r else ByteArray.empty) := rfl
  clear hT hg hA
  generalize rotB lv r = PV at *
  go_enter Tryz.func9, Tryz.ntmps9
  go_wp2_with fail
  rw [← HW1.out]
  refine hWk.mono ?_
  rintro e y ⟨rfl, by_⟩
  clear hWk
  obtain ⟨Y2, hY2⟩ : ∃ Y2, Y2 = y.alloc (.cells #[.slice p lv.length cp, .slice q rs.length cq, .int .i64 now] 56) := ⟨_, rfl⟩
  have HY2 : Hid (Y2 = y.alloc (.cells #[.slice p lv.length cp, .slice q rs.length cq, .int .i64 now] 56)) := hY2
  have KY : Hid (Bxs Y2 y.heap.size 56 #[.slice p lv.length cp, .slice q rs.length cq, .int .i64 now]) := by rw [hY2]; exact Bxs.new _ _ _
  have BY : Hid (Below w.heap.size w Y2) := by rw [hY2]; exact alB (chainB B1.out by_) _
  have hR := HR.out Y2 BY.out
  obtain ⟨x0, x1, x2⟩ := KY.out.three
  rw [HY2.out] at x0 x1 x2
  clear hY2 by_ HR
  cases hgg : lgB rs lv now with
  | false =>
    rw [hgg] at hR
    rw [hgg, if_neg Bool.false_ne_true] at HV
    go_wp2_with fail
    rw [← HY2.out]
    refine hR.mono ?_
    rintro e y3 ⟨rfl, b3⟩
    go_wp2_with fail
    go_ret
    exact ⟨by rw [HV.out]; rfl, chainB BY.out b3⟩
  | true =>
    have HP2 : Hid (∀ x, Below w.heap.size w x → Calls Tryz.prog 32 #[.slice p lv.length cp, .int .i64 r] x fun e w' => e = .returned (.string PV) ∧ Below x.heap.size x w') := HP.out hgg
    rw [hgg] at hR
    rw [hgg, if_pos rfl] at HV
    clear HP hgg
    go_wp2_with fail
    rw [← HY2.out]
    refine hR.mono ?_
    rintro e y3 ⟨rfl, b3⟩
    clear hR x0 x1 x2
    have x0 := (KY.out.below b3).cell 0
    have hP := HP2.out y3 (chainB BY.out b3)
    go_wp2_with fail
    refine hP.mono ?_
    rintro e y4 ⟨rfl, b4⟩
    go_wp2_with fail
    go_ret
    exact ⟨by rw [HV.out]; rfl, chainB (chainB BY.out b3) b4⟩
set_option maxHeartbeats 4000000 in
theorem implHeadText_any (p : Option Addr) (lv : List ByteArray) (cp : Nat) (q : Option Addr) (rs : List Rw) (cq : Nat) (now : Int) (w : World) (hT : Tabs w) (hg : Laid w) (hA : LgAt p lv cp q rs cq w) :
    Calls Tryz.prog 19 #[.agg #[.slice q rs.length cq, .slice p lv.length cp, .int .i64 now]] w fun e w' => e = .returned (.string (hdO rs lv now)) ∧ Below w.heap.size w w' := by
  obtain ⟨W1, hW1⟩ : ∃ W1, W1 = w.alloc (.cells #[.slice q rs.length cq, .slice p lv.length cp, .int .i64 now] 26) := ⟨_, rfl⟩
  have HW1 : Hid (W1 = w.alloc (.cells #[.slice q rs.length cq, .slice p lv.length cp, .int .i64 now] 26)) := hW1
  have B1 : Hid (Below w.heap.size w W1) := by rw [hW1]; exact (Below.refl _ _).alloc (Nat.le_refl _) _
  have hWk := workOn_any p lv cp q rs cq now W1
  have HR : Hid (∀ x, Below w.heap.size w x → Calls Tryz.prog 31 #[.agg #[.slice p lv.length cp, .slice q rs.length cq, .int .i64 now]] x fun e w' => e = .returned (.bool (lgB rs lv now)) ∧ Below x.heap.size x w') := fun x hb => right_any p lv cp q rs cq now x (hT.to hb) (hg.below hb) (hA.below hb)
  unfold lgC wkC at hWk
  clear hW1
  have HV : Hid (hdO rs lv now = if lgB rs lv now = true then hdB lv else ByteArray.empty) := rfl
  have hln := hA.ln
  have HRt : Hid (lgB rs lv now = true → ∀ x, Below w.heap.size w x → Calls Tryz.prog 32 #[.slice p lv.length cp, .int .i64 (lv.length : Int)] x fun e w' => e = .returned (.string (treeB lv)) ∧ Below x.heap.size x w') := fun hg x hb => by
    have := rootOf_any p lv cp (lv.length : Int) x (hT.to hb) (hA.tx.below hb) (lg_right hg).2.1 hA.lc (lg_small hg)
    unfold rotB at this
    rwa [if_pos (by omega), Int.toNat_natCast, List.take_length] at this
  clear hT hg hA
  go_enter Tryz.func19, Tryz.ntmps19
  go_wp2_with fail
  rw [← HW1.out]
  refine hWk.mono ?_
  rintro e y ⟨rfl, by_⟩
  clear hWk
  obtain ⟨Y2, hY2⟩ : ∃ Y2, Y2 = y.alloc (.cells #[.slice p lv.length cp, .slice q rs.length cq, .int .i64 now] 56) := ⟨_, rfl⟩
  have HY2 : Hid (Y2 = y.alloc (.cells #[.slice p lv.length cp, .slice q rs.length cq, .int .i64 now] 56)) := hY2
  have KY : Hid (Bxs Y2 y.heap.size 56 #[.slice p lv.length cp, .slice q rs.length cq, .int .i64 now]) := by rw [hY2]; exact Bxs.new _ _ _
  have BY : Hid (Below w.heap.size w Y2) := by rw [hY2]; exact alB (chainB B1.out by_) _
  have hR := HR.out Y2 BY.out
  obtain ⟨x0, x1, x2⟩ := KY.out.three
  rw [HY2.out] at x0 x1 x2
  clear hY2 by_ HR
  cases hgg : lgB rs lv now with
  | false =>
    rw [hgg] at hR
    rw [hgg, if_neg Bool.false_ne_true] at HV
    go_wp2_with fail
    rw [← HY2.out]
    refine hR.mono ?_
    rintro e y3 ⟨rfl, b3⟩
    go_wp2_with fail
    go_ret
    exact ⟨by rw [HV.out]; rfl, chainB BY.out b3⟩
  | true =>
    have HRt2 : Hid (∀ x, Below w.heap.size w x → Calls Tryz.prog 32 #[.slice p lv.length cp, .int .i64 (lv.length : Int)] x fun e w' => e = .returned (.string (treeB lv)) ∧ Below x.heap.size x w') := HRt.out hgg
    rw [hgg] at hR
    rw [hgg, if_pos rfl] at HV
    clear HRt hgg
    go_wp2_with fail
    rw [← HY2.out]
    refine hR.mono ?_
    rintro e y3 ⟨rfl, b3⟩
    clear hR x0 x1 x2
    have BR : Hid (Below y3.heap.size y3 y3.drew) := (Below.refl _ _).drew
    have HX : Hid (∀ x, Below y3.heap.size y3 x → x.cell? ⟨y.heap.size, 0, none⟩ = some (.slice p lv.length cp)) := fun x hb => ((KY.out.below b3).below hb).cell 0
    have HW : Hid (∀ x, Below y3.heap.size y3 x → Below w.heap.size w x) := fun x hb => chainB (chainB BY.out b3) hb
    have HN : Hid (∀ x, Below y3.heap.size y3 x → Calls Tryz.prog 45 #[.int .i64 (lv.length : Int)] x fun e w' => e = .returned (.string (putB (lv.length : Int))) ∧ Below y3.heap.size y3 w') := fun x hb => (implPutNum_any _ x (by omega) (by omega)).mono (by rintro e y ⟨rfl, b⟩; exact ⟨rfl, chainB hb b⟩)
    have HRo : Hid (∀ x, Below y3.heap.size y3 x → Calls Tryz.prog 32 #[.slice p lv.length cp, .int .i64 (lv.length : Int)] x fun e w' => e = .returned (.string (treeB lv)) ∧ Below y3.heap.size y3 w') := fun x hb => (HRt2.out x (HW.out x hb)).mono (by rintro e y ⟨rfl, b⟩; exact ⟨rfl, chainB hb b⟩)
    have HPt : Hid (∀ x, Below y3.heap.size y3 x → Calls Tryz.prog 47 #[.string (treeB lv)] x fun e w' => e = .returned (.string (putTextB (treeB lv))) ∧ Below y3.heap.size y3 w') := fun x hb => (implPutText_any _ x (by rw [treeB_size]; unfold maxLen; omega)).mono (by rintro e y ⟨rfl, b⟩; exact ⟨rfl, chainB hb b⟩)
    have HJ : Hid (∀ x b, Below y3.heap.size y3 x → b < x.heap.size → x.cell? ⟨b, 0, none⟩ = some (.string (putB (lv.length : Int))) → x.cell? ⟨b, 1, none⟩ = some (.string (putTextB (treeB lv))) → Calls Tryz.prog 44 #[.slice (some ⟨b, 0, none⟩) 2 2] x fun e w' => e = .returned (.string (hdB lv)) ∧ Below y3.heap.size y3 w') := fun x b hb hbl h0 h1 => by
      have hz1 : (putB (lv.length : Int)).size ≤ 10 := putB_size _
      have hz2 := putTextB_32 (treeB_size lv)
      have := joined_any b 0 2 2 [putB (lv.length : Int), putTextB (treeB lv)] x rfl hbl (by omega) (by omega) (fun i hi => by
        match i, hi with
        | 0, _ => exact h0
        | 1, _ => exact h1) (by simp [sumN, catN]; omega)
      rw [cat_two] at this
      exact this.mono (by rintro e y ⟨rfl, b⟩; exact ⟨rfl, chainB hb b⟩)
    clear HRt2 b3
    generalize hdB lv = HD at *
    generalize putTextB (treeB lv) = PT at *
    generalize treeB lv = TB at *
    generalize putB (lv.length : Int) = PN at *
    go_upto_region 4 with fail
    have z0 := BR.out
    refine wp_region_held_drew (S := (fun w' => w'.cell? ⟨y.heap.size, 0, none⟩ = some (.slice p lv.length cp))) (by kernel_rfl) (HX.out _ BR.out) (fun hHeld => ?_)
    refine take_at 0 (v := ?_) rfl (by kernel_rfl) (by kernel_rfl) (by kernel_rfl) (fun _ _ _ h => h) hHeld (Or.inl ⟨by rfl, ?_⟩) ?_
    rotate_left
    · (intro w hSw; (try dsimp only at hSw); go_simp; try with_reducible rfl)
    simp only [Act.put, List.setIfInBounds_toArray, List.set_cons_zero, List.set_cons_succ]
    refine take_at 1 (v := ?_) rfl (by kernel_rfl) (by kernel_rfl) (by kernel_rfl) (fun _ _ _ h => h) hHeld (Or.inl ⟨by rfl, ?_⟩) ?_
    rotate_left
    · (intro w hSw; (try dsimp only at hSw); go_simp; try with_reducible rfl)
    simp only [Act.put, List.setIfInBounds_toArray, List.set_cons_zero, List.set_cons_succ]
    refine take_at 4 (v := ?_) rfl (by kernel_rfl) (by kernel_rfl) (by kernel_rfl) (fun _ _ _ h => h) hHeld (Or.inl ⟨by rfl, ?_⟩) ?_
    rotate_left
    · (intro w hSw; (try dsimp only at hSw); go_simp; try with_reducible rfl)
    simp only [Act.put, List.setIfInBounds_toArray, List.set_cons_zero, List.set_cons_succ]
    refine take_at 5 (v := ?_) rfl (by kernel_rfl) (by kernel_rfl) (by kernel_rfl) (fun _ _ _ h => h) hHeld (Or.inl ⟨by rfl, ?_⟩) ?_
    rotate_left
    · (intro w hSw; (try dsimp only at hSw); go_simp; try with_reducible rfl)
    simp only [Act.put, List.setIfInBounds_toArray, List.set_cons_zero, List.set_cons_succ]
    refine take_at 6 (v := ?_) rfl (by kernel_rfl) (by kernel_rfl) (by kernel_rfl) (fun _ _ _ h => h) hHeld (Or.inl ⟨by rfl, ?_⟩) ?_
    rotate_left
    · (intro w hSw; (try dsimp only at hSw); go_simp; try with_reducible rfl)
    simp only [Act.put, List.setIfInBounds_toArray, List.set_cons_zero, List.set_cons_succ]
    refine take_at 7 (v := ?_) rfl (by kernel_rfl) (by kernel_rfl) (by kernel_rfl) (fun _ _ _ h => h) hHeld (Or.inl ⟨by rfl, ?_⟩) ?_
    rotate_left
    · (intro w hSw; (try dsimp only at hSw); go_simp; try with_reducible rfl)
    simp only [Act.put, List.setIfInBounds_toArray, List.set_cons_zero, List.set_cons_succ]
    refine ready_at 2 rfl (by kernel_rfl) (fun K hK => ?_)
    go_simp
    (go_at_call 46; with_reducible refine (count_any p lv.length cp _).mono ?_; rintro e ya ⟨rfl, rfl⟩)
    refine hK.out _ _ (HX.out _ z0) (fun hHeld => ?_)
    clear hK K
    try simp only [Act.put, List.setIfInBounds_toArray, List.set_cons_zero, List.set_cons_succ]
    refine ready_at 3 rfl (by kernel_rfl) (fun K hK => ?_)
    go_simp
    (go_at_call 45; with_reducible refine (HN.out _ z0).mono ?_; rintro e yb ⟨rfl, z1⟩)
    refine hK.out _ _ (HX.out _ z1) (fun hHeld => ?_)
    clear hK K
    try simp only [Act.put, List.setIfInBounds_toArray, List.set_cons_zero, List.set_cons_succ]
    refine ready_at 8 rfl (by kernel_rfl) (fun K hK => ?_)
    go_simp
    (go_at_call 46; with_reducible refine (count_any p lv.length cp _).mono ?_; rintro e yc ⟨rfl, rfl⟩)
    refine hK.out _ _ (HX.out _ z1) (fun hHeld => ?_)
    clear hK K
    try simp only [Act.put, List.setIfInBounds_toArray, List.set_cons_zero, List.set_cons_succ]
    refine ready_at 9 rfl (by kernel_rfl) (fun K hK => ?_)
    go_simp
    (go_at_call 32; with_reducible refine (HRo.out _ z1).mono ?_; rintro e yd ⟨rfl, z3⟩)
    refine hK.out _ _ (HX.out _ z3) (fun hHeld => ?_)
    clear hK K
    try simp only [Act.put, List.setIfInBounds_toArray, List.set_cons_zero, List.set_cons_succ]
    refine ready_at 10 rfl (by kernel_rfl) (fun K hK => ?_)
    go_simp
    (go_at_call 47; with_reducible refine (HPt.out _ z3).mono ?_; rintro e ye ⟨rfl, z4⟩)
    refine hK.out _ _ (HX.out _ z4) (fun hHeld => ?_)
    clear hK K
    try simp only [Act.put, List.setIfInBounds_toArray, List.set_cons_zero, List.set_cons_succ]
    refine ready_at 11 rfl (by kernel_rfl) (fun K hK => ?_)
    go_simp
    have z5 : Below y3.heap.size y3 (ye.alloc (.cells #[.string PN, .string PT] 9)) := alB z4 _
    have hbl : ye.heap.size < (ye.alloc (.cells #[.string PN, .string PT] 9)).heap.size := by simp
    have j0 : (ye.alloc (.cells #[.string PN, .string PT] 9)).cell? ⟨ye.heap.size, 0, none⟩ = some (.string PN) := (Bxs.new ye 9 #[.string PN, .string PT]).cell 0
    have j1 : (ye.alloc (.cells #[.string PN, .string PT] 9)).cell? ⟨ye.heap.size, 1, none⟩ = some (.string PT) := (Bxs.new ye 9 #[.string PN, .string PT]).cell 1
    refine hK.out _ _ (HX.out _ z5) (fun hHeld => ?_)
    clear hK K
    try simp only [Act.put, List.setIfInBounds_toArray, List.set_cons_zero, List.set_cons_succ]
    refine ready_at 12 rfl (by kernel_rfl) (fun K hK => ?_)
    go_simp
    (go_at_call 44; with_reducible refine (HJ.out _ _ z5 hbl j0 j1).mono ?_; rintro e yg ⟨rfl, z6⟩)
    refine hK.out _ _ (HX.out _ z6) (fun hHeld => ?_)
    clear hK K
    try simp only [Act.put, List.setIfInBounds_toArray, List.set_cons_zero, List.set_cons_succ]
    refine take_at 13 (v := ?_) rfl (by kernel_rfl) (by kernel_rfl) (by kernel_rfl) (fun _ _ _ h => h) hHeld (Or.inl ⟨by rfl, ?_⟩) ?_
    rotate_left
    · (intro w hSw; (try dsimp only at hSw); go_simp; try with_reducible rfl)
    simp only [Act.put, List.setIfInBounds_toArray, List.set_cons_zero, List.set_cons_succ]
    refine wpAnyH_done (by kernel_rfl) ?_ _
    go_wp2_with fail
    go_ret
    exact ⟨by rw [HV.out]; rfl, HW.out _ z6⟩
end Go.Proofs.YtnknnfgimiljjaaGreatDoor
