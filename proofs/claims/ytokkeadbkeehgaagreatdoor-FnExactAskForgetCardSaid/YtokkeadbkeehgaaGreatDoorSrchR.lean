/-
  What slices.BinarySearchFunc answers for rules in order, and the program's ruleAt.
-/
import Derived.Test.YtokkeadbkeehgaaGreatDoorRows
import Derived.Test.YtokkeadbkeehgaaGreatDoorBytesDigMathTreeMathSlASlBBxKOwnSTakesLTillTwo
import Derived.Test.YtokkeadbkeehgaaGreatDoorLawRmLawPoMTakesLawFLawFRLawSG
import Derived.Test.YtokkeadbkeehgaaGreatDoorLgAtKShwKOneKFldGFldBlkRwBlkIntKLawILawOGLawImBlNotRulMathAppS
import Derived.Test.YtokkeadbkeehgaaGreatDoorLawSwLfMathLaMathLfSumPolMathPolIdxRulIdxPolO
import Derived.Test.YtokkeadbkeehgaaGreatDoorTabsOfRulICmpSCmpRPolI
import Derived.Handy
import Derived.WalkSpells
import Derived.OwnWalk
import Derived.Deep.RegionHeld3
import Derived.Deep.RegionWith
import Derived.Deep.Cut
import Derived.Deep.CutRange
namespace Go.Proofs.YtokkeadbkeehgaaGreatDoor
open Go.RowKit Go.Lib
set_option linter.unusedVariables false
set_option maxRecDepth 20000

set_option maxHeartbeats 8000000 in
theorem searchF_any (p : Option Addr) (cap : Nat) (rs : List Rul) (tk tf : ByteArray) (w : World) (hp : RulAt w p rs) (hn : rs.length ≤ 1000) (ho : okL ruB ruLt rs = true) :
    Calls Tryz.prog 148 #[.slice p rs.length cap, .agg #[.string tk, .string tf, .int .i64 0, .int .i64 0], .func (.func 105) #[] #[]] w fun e w' => e = .returned (.tuple #[.int .i64 (twI (ltR tk tf) rs : Nat), .bool (thereB (ltR tk tf) (eqR tk tf) rs)]) ∧ Below w.heap.size w w' := by
  have HP : Hid (RulAt w p rs) := hp
  have HM : Hid (∀ j (hj : j < rs.length) i (hi : i ≤ j), ltR tk tf rs[j] = true → ltR tk tf (rs[i]'(by omega)) = true) := monoR ho tk tf
  clear hp ho
  have hT := tw_le (ltR tk tf) rs
  have HT1 : Hid (∀ j (h : j < rs.length), j < twI (ltR tk tf) rs → ltR tk tf rs[j] = true) := fun j h hj => tw_lt (ltR tk tf) rs j hj
  have HT2 : Hid (∀ j (h : j < rs.length), twI (ltR tk tf) rs ≤ j → ltR tk tf rs[j] = false) := fun j h hj => by
    cases hq : ltR tk tf rs[j] with
    | false => rfl
    | true =>
      have a := HM.out j h _ hj hq
      rw [tw_at (ltR tk tf) rs (by omega)] at a; cases a
  have HTH : Hid (thereB (ltR tk tf) (eqR tk tf) rs = if h : twI (ltR tk tf) rs < rs.length then eqR tk tf rs[twI (ltR tk tf) rs] else false) := rfl
  generalize thereB (ltR tk tf) (eqR tk tf) rs = TH at *
  generalize hTe : twI (ltR tk tf) rs = T at *
  clear hTe HM
  obtain ⟨W1, hW1⟩ : ∃ W1, W1 = w.alloc (.cells #[.string tk, .string tf, .int .i64 0, .int .i64 0] 101) := ⟨_, rfl⟩
  have HW1 : Hid (W1 = w.alloc (.cells #[.string tk, .string tf, .int .i64 0, .int .i64 0] 101)) := hW1
  have B1 : Hid (Below w.heap.size w W1) := by rw [hW1]; exact (Below.refl _ _).alloc (Nat.le_refl _) _
  have K1 : Hid (Bxs W1 w.heap.size 101 #[.string tk, .string tf, .int .i64 0, .int .i64 0]) := by rw [hW1]; exact Bxs.new _ _ _
  have HX : Hid (∀ x, Below W1.heap.size W1 x → x.cell? ⟨w.heap.size, 0, none⟩ = some (.string tk) ∧ x.cell? ⟨w.heap.size, 1, none⟩ = some (.string tf) ∧ x.cell? ⟨w.heap.size, 2, none⟩ = some (.int .i64 0) ∧ x.cell? ⟨w.heap.size, 3, none⟩ = some (.int .i64 0)) := fun x hb => (K1.out.below hb).four
  have HP1 : Hid (RulAt W1 p rs) := HP.out.below B1.out
  clear hW1 HP
  go_enter Tryz.func148, Tryz.ntmps148
  go_wp2_with fail
  rw [← HW1.out]
  go_loopw [9, 10] (fun x y wr => ∃ i j : Nat, i ≤ T ∧ T ≤ j ∧ j ≤ rs.length ∧ x = .int .i64 i ∧ y = .int .i64 j ∧ Hid (Below W1.heap.size W1 wr)) (fun x y _ => (Go.RowKit.intOf y).toNat - (Go.RowKit.intOf x).toNat)
  case atStart => exact ⟨0, rs.length, by omega, by omega, by omega, rfl, rfl, Below.refl _ _⟩
  case round =>
    obtain ⟨i, j, h1, h2, h3, rfl, rfl, HB⟩ := hrel
    by_cases hlt : i < j
    · have i1 : (i : Int) < j := by omega
      obtain ⟨M, hM⟩ : ∃ M, M = (i + j) / 2 := ⟨_, rfl⟩
      have hHj : M < rs.length := by omega
      have hMI : ((i : Int) + (j : Int)) / 2 = (M : Int) := by omega
      have hMl : (M : Int) < rs.length := by omega
      have HMe : Hid (M = (i + j) / 2) := hM
      clear hM
      obtain ⟨b, off, rfl, hb⟩ := HP1.out.some_of (by omega)
      have HC : Hid (∀ x, Below wr.heap.size wr x → x.cell? ⟨b, off + M * 4, none⟩ = some (.string rs[M].k) ∧ x.cell? ⟨b, off + M * 4 + 1, none⟩ = some (.string rs[M].f) ∧ x.cell? ⟨b, off + M * 4 + 2, none⟩ = some (.int .i64 rs[M].l) ∧ x.cell? ⟨b, off + M * 4 + 3, none⟩ = some (.int .i64 rs[M].m)) := fun x hx => ((HP1.out.below HB.out).below hx).at _ hHj
      have HXr : Hid (∀ x, Below wr.heap.size wr x → x.cell? ⟨w.heap.size, 0, none⟩ = some (.string tk) ∧ x.cell? ⟨w.heap.size, 1, none⟩ = some (.string tf) ∧ x.cell? ⟨w.heap.size, 2, none⟩ = some (.int .i64 0) ∧ x.cell? ⟨w.heap.size, 3, none⟩ = some (.int .i64 0)) := fun x hx => HX.out x (chainB HB.out hx)
      have g1 : Hid (ltR tk tf rs[M] = true → M + 1 ≤ T) := fun h => by
        rcases Nat.lt_or_ge M T with q | q
        · exact q
        · have := HT2.out _ hHj q; rw [h] at this; cases this
      have g2 : Hid (ltR tk tf rs[M] = false → T ≤ M) := fun h => by
        rcases Nat.lt_or_ge M T with q | q
        · have := HT1.out _ hHj q; rw [h] at this; cases this
        · exact q
      have HQ : Hid (∀ x, Calls Tryz.prog 105 #[.agg #[.string rs[M].k, .string rs[M].f, .int .i64 rs[M].l, .int .i64 rs[M].m], .agg #[.string tk, .string tf, .int .i64 0, .int .i64 0]] x fun e w' => e = .returned (.int .i64 (crI rs[M].k rs[M].f tk tf)) ∧ Below x.heap.size x w') := fun x => compareRules_any _ _ _ _ _ _ _ _ x
      have HE : Hid (decide (crI rs[M].k rs[M].f tk tf < 0) = ltR tk tf rs[M]) := crI_neg _ _ _ _
      have BR : Hid (Below wr.heap.size wr wr.drew) := (Below.refl _ _).drew
      generalize ltR tk tf rs[M] = lb at *
      generalize crI rs[M].k rs[M].f tk tf = cr at *
      generalize rs[M].k = fk at *
      generalize rs[M].f = ff at *
      generalize rs[M].l = fl at *
      generalize rs[M].m = fm at *
      cases lb with
      | true =>
        have k1 := g1.out rfl
        have hcr : decide (cr < 0) = true := HE.out
        clear g1 g2 HE
        go_upto_region 5 with fail
        refine wp_region_held_drew (S := (fun w' => (w'.cell? ⟨b, off + M * 4, none⟩ = some (.string fk) ∧ w'.cell? ⟨b, off + M * 4 + 1, none⟩ = some (.string ff) ∧ w'.cell? ⟨b, off + M * 4 + 2, none⟩ = some (.int .i64 fl) ∧ w'.cell? ⟨b, off + M * 4 + 3, none⟩ = some (.int .i64 fm)) ∧ w'.cell? ⟨w.heap.size, 0, none⟩ = some (.string tk) ∧ w'.cell? ⟨w.heap.size, 1, none⟩ = some (.string tf) ∧ w'.cell? ⟨w.heap.size, 2, none⟩ = some (.int .i64 0) ∧ w'.cell? ⟨w.heap.size, 3, none⟩ = some (.int .i64 0))) (by kernel_rfl) (⟨HC.out _ BR.out, HXr.out _ BR.out⟩) (fun hHeld => ?_)
        refine take_at 0 (v := ?_) rfl (by kernel_rfl) (by kernel_rfl) (by kernel_rfl) (fun _ _ _ h => h) hHeld (Or.inl ⟨by rfl, ?_⟩) ?_
        rotate_left
        · (intro w hSw; (try dsimp only at hSw); go_simp; try with_reducible rfl)
        simp only [Act.put, List.setIfInBounds_toArray, List.set_cons_zero, List.set_cons_succ]
        refine take_at 1 (v := ?_) rfl (by kernel_rfl) (by kernel_rfl) (by kernel_rfl) (fun _ _ _ h => h) hHeld (Or.inl ⟨by rfl, ?_⟩) ?_
        rotate_left
        · (intro w hSw; (try dsimp only at hSw); go_simp; try with_reducible rfl)
        simp only [Act.put, List.setIfInBounds_toArray, List.set_cons_zero, List.set_cons_succ]
        refine take_at 2 (v := ?_) rfl (by kernel_rfl) (by kernel_rfl) (by kernel_rfl) (fun _ _ _ h => h) hHeld (Or.inl ⟨by rfl, ?_⟩) ?_
        rotate_left
        · (intro w hSw; (try dsimp only at hSw); go_simp; try with_reducible rfl)
        simp only [Act.put, List.setIfInBounds_toArray, List.set_cons_zero, List.set_cons_succ]
        refine take_at 3 (v := ?_) rfl (by kernel_rfl) (by kernel_rfl) (by kernel_rfl) (fun _ _ _ h => h) hHeld (Or.inl ⟨by rfl, ?_⟩) ?_
        rotate_left
        · (intro w hSw; (try dsimp only at hSw); go_simp; try with_reducible rfl)
        simp only [Act.put, List.setIfInBounds_toArray, List.set_cons_zero, List.set_cons_succ]
        refine take_at 4 (v := ?_) rfl (by kernel_rfl) (by kernel_rfl) (by kernel_rfl) (fun _ _ _ h => h) hHeld (Or.inl ⟨by rfl, ?_⟩) ?_
        rotate_left
        · (intro w hSw; (try dsimp only at hSw); go_simp; try with_reducible rfl)
        simp only [Act.put, List.setIfInBounds_toArray, List.set_cons_zero, List.set_cons_succ]
        refine take_at 5 (v := ?_) rfl (by kernel_rfl) (by kernel_rfl) (by kernel_rfl) (fun _ _ _ h => h) hHeld (Or.inl ⟨by rfl, ?_⟩) ?_
        rotate_left
        · (intro w hSw; (try dsimp only at hSw); go_simp; try with_reducible rfl)
        simp only [Act.put, List.setIfInBounds_toArray, List.set_cons_zero, List.set_cons_succ]
        refine ready_at 6 rfl (by kernel_rfl) (fun K hK => ?_)
        go_simp
        (go_at_call 105; with_reducible refine (HQ.out _).mono ?_; rintro e y1 ⟨rfl, z0⟩; have z1 : Below wr.heap.size wr y1 := chainB BR.out z0)
        refine hK.out _ _ (⟨HC.out _ z1, HXr.out _ z1⟩) (fun hHeld => ?_)
        clear hK K
        try simp only [Act.put, List.setIfInBounds_toArray, List.set_cons_zero, List.set_cons_succ]
        refine take_at 7 (v := ?_) rfl (by kernel_rfl) (by kernel_rfl) (by kernel_rfl) (fun _ _ _ h => h) hHeld (Or.inl ⟨by rfl, ?_⟩) ?_
        rotate_left
        · (intro w hSw; (try dsimp only at hSw); go_simp; try with_reducible rfl)
        simp only [Act.put, List.setIfInBounds_toArray, List.set_cons_zero, List.set_cons_succ]
        refine wpAnyH_done (by kernel_rfl) ?_ _
        have HB2 : Hid (Below W1.heap.size W1 y1) := chainB HB.out z1
        go_wp2_with fail
        go_roundw
        case rel => exact ⟨M + 1, j, k1, h2, h3, by go_num, rfl, HB2⟩
        case measure => have hM := HMe.out; simp [Go.RowKit.intOf]; omega
      | false =>
        have k1 := g2.out rfl
        have hcr : decide (cr < 0) = false := HE.out
        clear g1 g2 HE
        go_upto_region 5 with fail
        refine wp_region_held_drew (S := (fun w' => (w'.cell? ⟨b, off + M * 4, none⟩ = some (.string fk) ∧ w'.cell? ⟨b, off + M * 4 + 1, none⟩ = some (.string ff) ∧ w'.cell? ⟨b, off + M * 4 + 2, none⟩ = some (.int .i64 fl) ∧ w'.cell? ⟨b, off + M * 4 + 3, none⟩ = some (.int .i64 fm)) ∧ w'.cell? ⟨w.heap.size, 0, none⟩ = some (.string tk) ∧ w'.cell? ⟨w.heap.size, 1, none⟩ = some (.string tf) ∧ w'.cell? ⟨w.heap.size, 2, none⟩ = some (.int .i64 0) ∧ w'.cell? ⟨w.heap.size, 3, none⟩ = some (.int .i64 0))) (by kernel_rfl) (⟨HC.out _ BR.out, HXr.out _ BR.out⟩) (fun hHeld => ?_)
        refine take_at 0 (v := ?_) rfl (by kernel_rfl) (by kernel_rfl) (by kernel_rfl) (fun _ _ _ h => h) hHeld (Or.inl ⟨by rfl, ?_⟩) ?_
        rotate_left
        · (intro w hSw; (try dsimp only at hSw); go_simp; try with_reducible rfl)
        simp only [Act.put, List.setIfInBounds_toArray, List.set_cons_zero, List.set_cons_succ]
        refine take_at 1 (v := ?_) rfl (by kernel_rfl) (by kernel_rfl) (by kernel_rfl) (fun _ _ _ h => h) hHeld (Or.inl ⟨by rfl, ?_⟩) ?_
        rotate_left
        · (intro w hSw; (try dsimp only at hSw); go_simp; try with_reducible rfl)
        simp only [Act.put, List.setIfInBounds_toArray, List.set_cons_zero, List.set_cons_succ]
        refine take_at 2 (v := ?_) rfl (by kernel_rfl) (by kernel_rfl) (by kernel_rfl) (fun _ _ _ h => h) hHeld (Or.inl ⟨by rfl, ?_⟩) ?_
        rotate_left
        · (intro w hSw; (try dsimp only at hSw); go_simp; try with_reducible rfl)
        simp only [Act.put, List.setIfInBounds_toArray, List.set_cons_zero, List.set_cons_succ]
        refine take_at 3 (v := ?_) rfl (by kernel_rfl) (by kernel_rfl) (by kernel_rfl) (fun _ _ _ h => h) hHeld (Or.inl ⟨by rfl, ?_⟩) ?_
        rotate_left
        · (intro w hSw; (try dsimp only at hSw); go_simp; try with_reducible rfl)
        simp only [Act.put, List.setIfInBounds_toArray, List.set_cons_zero, List.set_cons_succ]
        refine take_at 4 (v := ?_) rfl (by kernel_rfl) (by kernel_rfl) (by kernel_rfl) (fun _ _ _ h => h) hHeld (Or.inl ⟨by rfl, ?_⟩) ?_
        rotate_left
        · (intro w hSw; (try dsimp only at hSw); go_simp; try with_reducible rfl)
        simp only [Act.put, List.setIfInBounds_toArray, List.set_cons_zero, List.set_cons_succ]
        refine take_at 5 (v := ?_) rfl (by kernel_rfl) (by kernel_rfl) (by kernel_rfl) (fun _ _ _ h => h) hHeld (Or.inl ⟨by rfl, ?_⟩) ?_
        rotate_left
        · (intro w hSw; (try dsimp only at hSw); go_simp; try with_reducible rfl)
        simp only [Act.put, List.setIfInBounds_toArray, List.set_cons_zero, List.set_cons_succ]
        refine ready_at 6 rfl (by kernel_rfl) (fun K hK => ?_)
        go_simp
        (go_at_call 105; with_reducible refine (HQ.out _).mono ?_; rintro e y1 ⟨rfl, z0⟩; have z1 : Below wr.heap.size wr y1 := chainB BR.out z0)
        refine hK.out _ _ (⟨HC.out _ z1, HXr.out _ z1⟩) (fun hHeld => ?_)
        clear hK K
        try simp only [Act.put, List.setIfInBounds_toArray, List.set_cons_zero, List.set_cons_succ]
        refine take_at 7 (v := ?_) rfl (by kernel_rfl) (by kernel_rfl) (by kernel_rfl) (fun _ _ _ h => h) hHeld (Or.inl ⟨by rfl, ?_⟩) ?_
        rotate_left
        · (intro w hSw; (try dsimp only at hSw); go_simp; try with_reducible rfl)
        simp only [Act.put, List.setIfInBounds_toArray, List.set_cons_zero, List.set_cons_succ]
        refine wpAnyH_done (by kernel_rfl) ?_ _
        have HB2 : Hid (Below W1.heap.size W1 y1) := chainB HB.out z1
        go_wp2_with fail
        go_roundw
        case rel => exact ⟨i, M, h1, k1, by omega, rfl, rfl, HB2⟩
        case measure => have hM := HMe.out; simp [Go.RowKit.intOf]; omega
    · obtain rfl : i = T := by omega
      obtain rfl : j = i := by omega
      by_cases hk : j < rs.length
      · have i1 : decide ((j : Int) < rs.length) = true := decide_eq_true (by omega)
        have i2 : (j : Int) < rs.length := by omega
        rw [dif_pos hk] at HTH
        obtain ⟨b, off, rfl, hb⟩ := HP1.out.some_of (by omega)
        have HC : Hid (∀ x, Below wr.heap.size wr x → x.cell? ⟨b, off + j * 4, none⟩ = some (.string rs[j].k) ∧ x.cell? ⟨b, off + j * 4 + 1, none⟩ = some (.string rs[j].f) ∧ x.cell? ⟨b, off + j * 4 + 2, none⟩ = some (.int .i64 rs[j].l) ∧ x.cell? ⟨b, off + j * 4 + 3, none⟩ = some (.int .i64 rs[j].m)) := fun x hx => ((HP1.out.below HB.out).below hx).at _ hk
        have HXr : Hid (∀ x, Below wr.heap.size wr x → x.cell? ⟨w.heap.size, 0, none⟩ = some (.string tk) ∧ x.cell? ⟨w.heap.size, 1, none⟩ = some (.string tf) ∧ x.cell? ⟨w.heap.size, 2, none⟩ = some (.int .i64 0) ∧ x.cell? ⟨w.heap.size, 3, none⟩ = some (.int .i64 0)) := fun x hx => HX.out x (chainB HB.out hx)
        have HQ : Hid (∀ x, Calls Tryz.prog 105 #[.agg #[.string rs[j].k, .string rs[j].f, .int .i64 rs[j].l, .int .i64 rs[j].m], .agg #[.string tk, .string tf, .int .i64 0, .int .i64 0]] x fun e w' => e = .returned (.int .i64 (crI rs[j].k rs[j].f tk tf)) ∧ Below x.heap.size x w') := fun x => compareRules_any _ _ _ _ _ _ _ _ x
        have HE : Hid ((crI rs[j].k rs[j].f tk tf == 0) = eqR tk tf rs[j]) := crI_zero _ _ _ _
        have BR : Hid (Below wr.heap.size wr wr.drew) := (Below.refl _ _).drew
        generalize eqR tk tf rs[j] = qb at *
        generalize crI rs[j].k rs[j].f tk tf = cr at *
        generalize rs[j].k = fk at *
        generalize rs[j].f = ff at *
        generalize rs[j].l = fl at *
        generalize rs[j].m = fm at *
        have hcr : (cr == 0) = qb := HE.out
        clear HE HT1 HT2
        go_upto_region 8 with fail
        refine wp_region_held_drew (S := (fun w' => (w'.cell? ⟨b, off + j * 4, none⟩ = some (.string fk) ∧ w'.cell? ⟨b, off + j * 4 + 1, none⟩ = some (.string ff) ∧ w'.cell? ⟨b, off + j * 4 + 2, none⟩ = some (.int .i64 fl) ∧ w'.cell? ⟨b, off + j * 4 + 3, none⟩ = some (.int .i64 fm)) ∧ w'.cell? ⟨w.heap.size, 0, none⟩ = some (.string tk) ∧ w'.cell? ⟨w.heap.size, 1, none⟩ = some (.string tf) ∧ w'.cell? ⟨w.heap.size, 2, none⟩ = some (.int .i64 0) ∧ w'.cell? ⟨w.heap.size, 3, none⟩ = some (.int .i64 0))) (by kernel_rfl) (⟨HC.out _ BR.out, HXr.out _ BR.out⟩) (fun hHeld => ?_)
        refine take_at 0 (v := ?_) rfl (by kernel_rfl) (by kernel_rfl) (by kernel_rfl) (fun _ _ _ h => h) hHeld (Or.inl ⟨by rfl, ?_⟩) ?_
        rotate_left
        · (intro w hSw; (try dsimp only at hSw); go_simp; try with_reducible rfl)
        simp only [Act.put, List.setIfInBounds_toArray, List.set_cons_zero, List.set_cons_succ]
        refine take_at 1 (v := ?_) rfl (by kernel_rfl) (by kernel_rfl) (by kernel_rfl) (fun _ _ _ h => h) hHeld (Or.inl ⟨by rfl, ?_⟩) ?_
        rotate_left
        · (intro w hSw; (try dsimp only at hSw); go_simp; try with_reducible rfl)
        simp only [Act.put, List.setIfInBounds_toArray, List.set_cons_zero, List.set_cons_succ]
        refine take_at 2 (v := ?_) rfl (by kernel_rfl) (by kernel_rfl) (by kernel_rfl) (fun _ _ _ h => h) hHeld (Or.inl ⟨by rfl, ?_⟩) ?_
        rotate_left
        · (intro w hSw; (try dsimp only at hSw); go_simp; try with_reducible rfl)
        simp only [Act.put, List.setIfInBounds_toArray, List.set_cons_zero, List.set_cons_succ]
        refine take_at 3 (v := ?_) rfl (by kernel_rfl) (by kernel_rfl) (by kernel_rfl) (fun _ _ _ h => h) hHeld (Or.inl ⟨by rfl, ?_⟩) ?_
        rotate_left
        · (intro w hSw; (try dsimp only at hSw); go_simp; try with_reducible rfl)
        simp only [Act.put, List.setIfInBounds_toArray, List.set_cons_zero, List.set_cons_succ]
        refine take_at 4 (v := ?_) rfl (by kernel_rfl) (by kernel_rfl) (by kernel_rfl) (fun _ _ _ h => h) hHeld (Or.inl ⟨by rfl, ?_⟩) ?_
        rotate_left
        · (intro w hSw; (try dsimp only at hSw); go_simp; try with_reducible rfl)
        simp only [Act.put, List.setIfInBounds_toArray, List.set_cons_zero, List.set_cons_succ]
        refine take_at 5 (v := ?_) rfl (by kernel_rfl) (by kernel_rfl) (by kernel_rfl) (fun _ _ _ h => h) hHeld (Or.inl ⟨by rfl, ?_⟩) ?_
        rotate_left
        · (intro w hSw; (try dsimp only at hSw); go_simp; try with_reducible rfl)
        simp only [Act.put, List.setIfInBounds_toArray, List.set_cons_zero, List.set_cons_succ]
        refine take_at 6 (v := ?_) rfl (by kernel_rfl) (by kernel_rfl) (by kernel_rfl) (fun _ _ _ h => h) hHeld (Or.inl ⟨by rfl, ?_⟩) ?_
        rotate_left
        · (intro w hSw; (try dsimp only at hSw); go_simp; try with_reducible rfl)
        simp only [Act.put, List.setIfInBounds_toArray, List.set_cons_zero, List.set_cons_succ]
        refine take_at 7 (v := ?_) rfl (by kernel_rfl) (by kernel_rfl) (by kernel_rfl) (fun _ _ _ h => h) hHeld (Or.inl ⟨by rfl, ?_⟩) ?_
        rotate_left
        · (intro w hSw; (try dsimp only at hSw); go_simp; try with_reducible rfl)
        simp only [Act.put, List.setIfInBounds_toArray, List.set_cons_zero, List.set_cons_succ]
        refine take_at 8 (v := ?_) rfl (by kernel_rfl) (by kernel_rfl) (by kernel_rfl) (fun _ _ _ h => h) hHeld (Or.inl ⟨by rfl, ?_⟩) ?_
        rotate_left
        · (intro w hSw; (try dsimp only at hSw); go_simp; try with_reducible rfl)
        simp only [Act.put, List.setIfInBounds_toArray, List.set_cons_zero, List.set_cons_succ]
        refine take_at 9 (v := ?_) rfl (by kernel_rfl) (by kernel_rfl) (by kernel_rfl) (fun _ _ _ h => h) hHeld (Or.inl ⟨by rfl, ?_⟩) ?_
        rotate_left
        · (intro w hSw; (try dsimp only at hSw); go_simp; try with_reducible rfl)
        simp only [Act.put, List.setIfInBounds_toArray, List.set_cons_zero, List.set_cons_succ]
        refine take_at 10 (v := ?_) rfl (by kernel_rfl) (by kernel_rfl) (by kernel_rfl) (fun _ _ _ h => h) hHeld (Or.inl ⟨by rfl, ?_⟩) ?_
        rotate_left
        · (intro w hSw; (try dsimp only at hSw); go_simp; try with_reducible rfl)
        simp only [Act.put, List.setIfInBounds_toArray, List.set_cons_zero, List.set_cons_succ]
        refine ready_at 11 rfl (by kernel_rfl) (fun K hK => ?_)
        go_simp
        (go_at_call 105; with_reducible refine (HQ.out _).mono ?_; rintro e y1 ⟨rfl, z0⟩; have z1 : Below wr.heap.size wr y1 := chainB BR.out z0)
        refine hK.out _ _ (⟨HC.out _ z1, HXr.out _ z1⟩) (fun hHeld => ?_)
        clear hK K
        try simp only [Act.put, List.setIfInBounds_toArray, List.set_cons_zero, List.set_cons_succ]
        refine take_at 12 (v := ?_) rfl (by kernel_rfl) (by kernel_rfl) (by kernel_rfl) (fun _ _ _ h => h) hHeld (Or.inl ⟨by rfl, ?_⟩) ?_
        rotate_left
        · (intro w hSw; (try dsimp only at hSw); go_simp; try with_reducible rfl)
        simp only [Act.put, List.setIfInBounds_toArray, List.set_cons_zero, List.set_cons_succ]
        refine take_at 13 (v := ?_) rfl (by kernel_rfl) (by kernel_rfl) (by kernel_rfl) (fun _ _ _ h => h) hHeld (Or.inl ⟨by rfl, ?_⟩) ?_
        rotate_left
        · (intro w hSw; (try dsimp only at hSw); go_simp; try with_reducible rfl)
        simp only [Act.put, List.setIfInBounds_toArray, List.set_cons_zero, List.set_cons_succ]
        refine take_at 14 (v := ?_) rfl (by kernel_rfl) (by kernel_rfl) (by kernel_rfl) (fun _ _ _ h => h) hHeld (Or.inl ⟨by rfl, ?_⟩) ?_
        rotate_left
        · (intro w hSw; (try dsimp only at hSw); go_simp; try with_reducible rfl)
        simp only [Act.put, List.setIfInBounds_toArray, List.set_cons_zero, List.set_cons_succ]
        refine take_at 15 (v := ?_) rfl (by kernel_rfl) (by kernel_rfl) (by kernel_rfl) (fun _ _ _ h => h) hHeld (Or.inl ⟨by rfl, ?_⟩) ?_
        rotate_left
        · (intro w hSw; (try dsimp only at hSw); go_simp; try with_reducible rfl)
        simp only [Act.put, List.setIfInBounds_toArray, List.set_cons_zero, List.set_cons_succ]
        refine wpAnyH_done (by kernel_rfl) ?_ _
        have HB2 : Hid (Below w.heap.size w y1) := chainB B1.out (chainB HB.out z1)
        go_wp2_with fail
        go_ret2
        exact ⟨by rw [HTH.out]; rfl, HB2.out⟩
      · have i1 : decide ((j : Int) < rs.length) = false := decide_eq_false (by omega)
        have BR : Hid (Below wr.heap.size wr wr.drew) := (Below.refl _ _).drew
        rw [dif_neg hk] at HTH
        clear HT1 HT2
        go_upto_region 8 with fail
        refine wp_region_held_drew (S := (fun _ => True)) (by kernel_rfl) (trivial) (fun hHeld => ?_)
        refine take_at 0 (v := ?_) rfl (by kernel_rfl) (by kernel_rfl) (by kernel_rfl) (fun _ _ _ h => h) hHeld (Or.inl ⟨by rfl, ?_⟩) ?_
        rotate_left
        · (intro w hSw; (try dsimp only at hSw); go_simp; try with_reducible rfl)
        simp only [Act.put, List.setIfInBounds_toArray, List.set_cons_zero, List.set_cons_succ]
        refine take_at 1 (v := ?_) rfl (by kernel_rfl) (by kernel_rfl) (by kernel_rfl) (fun _ _ _ h => h) hHeld (Or.inl ⟨by rfl, ?_⟩) ?_
        rotate_left
        · (intro w hSw; (try dsimp only at hSw); go_simp; try with_reducible rfl)
        simp only [Act.put, List.setIfInBounds_toArray, List.set_cons_zero, List.set_cons_succ]
        refine take_at 2 (v := ?_) rfl (by kernel_rfl) (by kernel_rfl) (by kernel_rfl) (fun _ _ _ h => h) hHeld (Or.inl ⟨by rfl, ?_⟩) ?_
        rotate_left
        · (intro w hSw; (try dsimp only at hSw); go_simp; try with_reducible rfl)
        simp only [Act.put, List.setIfInBounds_toArray, List.set_cons_zero, List.set_cons_succ]
        refine take_at 3 (v := ?_) rfl (by kernel_rfl) (by kernel_rfl) (by kernel_rfl) (fun _ _ _ h => h) hHeld (Or.inl ⟨by rfl, ?_⟩) ?_
        rotate_left
        · (intro w hSw; (try dsimp only at hSw); go_simp; try with_reducible rfl)
        simp only [Act.put, List.setIfInBounds_toArray, List.set_cons_zero, List.set_cons_succ]
        refine take_at 4 (v := ?_) rfl (by kernel_rfl) (by kernel_rfl) (by kernel_rfl) (fun _ _ _ h => h) hHeld (Or.inl ⟨by rfl, ?_⟩) ?_
        rotate_left
        · (intro w hSw; (try dsimp only at hSw); go_simp; try with_reducible rfl)
        simp only [Act.put, List.setIfInBounds_toArray, List.set_cons_zero, List.set_cons_succ]
        refine take_at 5 (v := undef) rfl (by kernel_rfl) (by kernel_rfl) (by kernel_rfl) (fun _ _ _ h => h) hHeld (Or.inr ⟨by rfl, rfl⟩) ?_
        simp only [Act.put, List.setIfInBounds_toArray, List.set_cons_zero, List.set_cons_succ]
        refine take_at 6 (v := undef) rfl (by kernel_rfl) (by kernel_rfl) (by kernel_rfl) (fun _ _ _ h => h) hHeld (Or.inr ⟨by rfl, rfl⟩) ?_
        simp only [Act.put, List.setIfInBounds_toArray, List.set_cons_zero, List.set_cons_succ]
        refine take_at 7 (v := undef) rfl (by kernel_rfl) (by kernel_rfl) (by kernel_rfl) (fun _ _ _ h => h) hHeld (Or.inr ⟨by rfl, rfl⟩) ?_
        simp only [Act.put, List.setIfInBounds_toArray, List.set_cons_zero, List.set_cons_succ]
        refine take_at 8 (v := undef) rfl (by kernel_rfl) (by kernel_rfl) (by kernel_rfl) (fun _ _ _ h => h) hHeld (Or.inr ⟨by rfl, rfl⟩) ?_
        simp only [Act.put, List.setIfInBounds_toArray, List.set_cons_zero, List.set_cons_succ]
        refine take_at 9 (v := undef) rfl (by kernel_rfl) (by kernel_rfl) (by kernel_rfl) (fun _ _ _ h => h) hHeld (Or.inr ⟨by rfl, rfl⟩) ?_
        simp only [Act.put, List.setIfInBounds_toArray, List.set_cons_zero, List.set_cons_succ]
        refine take_at 10 (v := undef) rfl (by kernel_rfl) (by kernel_rfl) (by kernel_rfl) (fun _ _ _ h => h) hHeld (Or.inr ⟨by rfl, rfl⟩) ?_
        simp only [Act.put, List.setIfInBounds_toArray, List.set_cons_zero, List.set_cons_succ]
        refine take_at 11 (v := undef) rfl (by kernel_rfl) (by kernel_rfl) (by kernel_rfl) (fun _ _ _ h => h) hHeld (Or.inr ⟨by rfl, rfl⟩) ?_
        simp only [Act.put, List.setIfInBounds_toArray, List.set_cons_zero, List.set_cons_succ]
        refine take_at 12 (v := undef) rfl (by kernel_rfl) (by kernel_rfl) (by kernel_rfl) (fun _ _ _ h => h) hHeld (Or.inr ⟨by rfl, rfl⟩) ?_
        simp only [Act.put, List.setIfInBounds_toArray, List.set_cons_zero, List.set_cons_succ]
        refine take_at 13 (v := ?_) rfl (by kernel_rfl) (by kernel_rfl) (by kernel_rfl) (fun _ _ _ h => h) hHeld (Or.inl ⟨by rfl, ?_⟩) ?_
        rotate_left
        · (intro w hSw; (try dsimp only at hSw); go_simp; try with_reducible rfl)
        simp only [Act.put, List.setIfInBounds_toArray, List.set_cons_zero, List.set_cons_succ]
        refine take_at 14 (v := ?_) rfl (by kernel_rfl) (by kernel_rfl) (by kernel_rfl) (fun _ _ _ h => h) hHeld (Or.inl ⟨by rfl, ?_⟩) ?_
        rotate_left
        · (intro w hSw; (try dsimp only at hSw); go_simp; try with_reducible rfl)
        simp only [Act.put, List.setIfInBounds_toArray, List.set_cons_zero, List.set_cons_succ]
        refine take_at 15 (v := ?_) rfl (by kernel_rfl) (by kernel_rfl) (by kernel_rfl) (fun _ _ _ h => h) hHeld (Or.inl ⟨by rfl, ?_⟩) ?_
        rotate_left
        · (intro w hSw; (try dsimp only at hSw); go_simp; try with_reducible rfl)
        simp only [Act.put, List.setIfInBounds_toArray, List.set_cons_zero, List.set_cons_succ]
        refine wpAnyH_done (by kernel_rfl) ?_ _
        have HB2 : Hid (Below w.heap.size w wr.drew) := chainB B1.out (chainB HB.out BR.out)
        go_wp2_with fail
        go_ret2
        exact ⟨by rw [HTH.out]; rfl, HB2.out⟩
theorem ruleAt_any (p : Option Addr) (cap : Nat) (rs : List Rul) (tk tf : ByteArray) (w : World) (hp : RulAt w p rs) (hn : rs.length ≤ 1000) (ho : okL ruB ruLt rs = true) :
    Calls Tryz.prog 108 #[.slice p rs.length cap, .string tk, .string tf] w fun e w' => e = .returned (.tuple #[.int .i64 (twI (ltR tk tf) rs : Nat), .bool (thereB (ltR tk tf) (eqR tk tf) rs)]) ∧ Below w.heap.size w w' := by
  have h := searchF_any p cap rs tk tf w hp hn ho
  generalize thereB (ltR tk tf) (eqR tk tf) rs = TH at *
  generalize twI (ltR tk tf) rs = T at *
  clear hp ho
  go_enter Tryz.func108, Tryz.ntmps108
  go_wp2_with fail
  refine h.mono ?_
  rintro e w1 ⟨rfl, b1⟩
  go_wp2_with fail
  go_ret2
  exact ⟨rfl, b1⟩
end Go.Proofs.YtokkeadbkeehgaaGreatDoor
