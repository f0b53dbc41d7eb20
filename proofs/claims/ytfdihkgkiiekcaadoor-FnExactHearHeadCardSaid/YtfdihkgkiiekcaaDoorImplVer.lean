/-
  What the program's Verify answers: 'verA'.
  Conditions: the cells of Ends and Path hold the texts; the two tables lie as the program's text lays them.
-/
import Derived.Test.YtfdihkgkiiekcaaDoorRows
import Derived.Test.YtfdihkgkiiekcaaDoorBytesDigMath
import Derived.Test.YtfdihkgkiiekcaaDoorJoinedTurnIWholeR
import Derived.Test.YtfdihkgkiiekcaaDoorBlockI
import Derived.Test.YtfdihkgkiiekcaaDoorSlASlBBxK
import Derived.Test.YtfdihkgkiiekcaaDoorAll2LeafNode
import Derived.Test.YtfdihkgkiiekcaaDoorPowerHalvesTreeTree2TreeHPathMathIncMath
import Derived.Test.YtfdihkgkiiekcaaDoorIncI
import Derived.Test.YtfdihkgkiiekcaaDoorSignMath
import Derived.Test.YtfdihkgkiiekcaaDoorSignIMDigAllSignIASignIB
import Derived.Test.YtfdihkgkiiekcaaDoorSignIDgImplRight
import Derived.Handy
import Derived.WalkSpells
import Derived.OwnWalk
import Derived.Deep.RegionLaw
import Derived.Deep.RegionWith
namespace Go.Proofs.YtfdihkgkiiekcaaDoor
open Go.RowKit Go.Lib
set_option linter.unusedVariables false
set_option maxRecDepth 20000

/-- Six numbers of which the first k are turned to what they lack of 15. -/
def lackTo (d : Nat → Int) (k : Nat) : List Int := (List.range 6).map fun j => if j < k then 15 - d j else d j
theorem lackTo_len (d : Nat → Int) (k : Nat) : (lackTo d k).length = 6 := by simp [lackTo]
theorem lackTo_at (d : Nat → Int) (k j : Nat) (h : j < 6) : (lackTo d k).getD j 0 = if j < k then 15 - d j else d j := by simp [lackTo, List.getD_eq_getElem?_getD, h]
theorem lackTo_set (d : Nat → Int) (k : Nat) (h : k < 6) : (lackTo d k).set k (15 - d k) = lackTo d (k + 1) := by
  apply List.ext_getElem
  · simp [lackTo]
  · intro i h1 h2
    rw [List.getElem_set]
    simp only [lackTo, List.getElem_map, List.getElem_range]
    by_cases hik : k = i
    · subst hik; simp
    · simp only [hik, if_false]
      by_cases h3 : i < k
      · rw [if_pos h3, if_pos (by omega)]
      · rw [if_neg h3, if_neg (by omega)]
theorem lackTo_zero (t : ByteArray) : lackTo (dg t) 0 = digsI t := by
  unfold lackTo dg digsI
  simp [List.range_succ]
theorem idx6 (t : ByteArray) (k : Nat) (hk : k < 6) (w : World) : (Instr.index 83 (.agg (numA (digsI t))) (.int .i64 (k : Int))).run Tryd.prog w = .ok (.int .i64 (dg t k)) w := by
  have h2 : (0 : Int) ≤ (k : Int) ∧ (k : Int) < 6 := by omega
  match k, hk with
  | 0, _ => simp [Instr.index, run_underlying under6, asIntOf, go_sem, numA, digsI, dg]
  | 1, _ => simp [Instr.index, run_underlying under6, asIntOf, go_sem, numA, digsI, dg]
  | 2, _ => simp [Instr.index, run_underlying under6, asIntOf, go_sem, numA, digsI, dg]
  | 3, _ => simp [Instr.index, run_underlying under6, asIntOf, go_sem, numA, digsI, dg]
  | 4, _ => simp [Instr.index, run_underlying under6, asIntOf, go_sem, numA, digsI, dg]
  | 5, _ => simp [Instr.index, run_underlying under6, asIntOf, go_sem, numA, digsI, dg]
theorem verA_eq {root text : ByteArray} {key : Int} {ends path : List ByteArray} (hb : sgnB key ends path = true) (ht : text.size ≤ 8000) : verA root text key ends path = incA (leafA (digB (upTo text ends 6))) key 4 path root := by
  rw [leafA_of (by rw [digB_size]; omega)]
  unfold verA
  by_cases hr : root.size = 32
  · rw [if_pos ⟨hb, hr, ht⟩]
  · rw [if_neg (fun h => hr h.2.1)]
    unfold incA
    rw [if_neg (fun h => hr h.2.2.2.2.1)]
theorem store6 (w3 : World) (l : List Int) (h : l.length = 6) :
    (storeVar 83 ⟨w3.heap.size, 0, none⟩ (.agg (numA l))).run Tryd.prog (w3.alloc (.cells #[.int .i64 0, .int .i64 0, .int .i64 0, .int .i64 0, .int .i64 0, .int .i64 0] 83)) = .ok () (w3.alloc (.cells (numA l) 83)) :=
  run_storeVar_new (P := Tryd.prog) w3 83 _ (numA l) (by rw [numA_size, h]; exact info6) (by rw [numA_size, h]; rfl) (numA_one _)

set_option maxHeartbeats 4000000 in
theorem implVerify_any (root text : ByteArray) (key : Int) (q1 : Option Addr) (c1 : Nat) (ends : List ByteArray) (q2 : Option Addr) (c2 : Nat) (path : List ByteArray) (w : World) (hT : Tabs w) (h1 : TxtAt w q1 ends) (h2 : TxtAt w q2 path) (n1 : ends.length ≤ 1048576) (n2 : path.length ≤ 1048576) (m1 : ends.length ≤ c1) (m2 : path.length ≤ c2) (hr : root.size ≤ 1048576) (ht : text.size ≤ 1048576) (k0 : -9223372036854775808 ≤ key) (k1 : key ≤ 9223372036854775807) :
    Calls Tryd.prog 41 #[.string root, .string text, .agg #[.int .i64 key, .slice q1 ends.length c1, .slice q2 path.length c2]] w fun e w' => e = .returned (.bool (verA root text key ends path)) ∧ Below w.heap.size w w' := by
  obtain ⟨W1, hW1⟩ : ∃ W1, W1 = w.alloc (.cells #[.int .i64 key, .slice q1 ends.length c1, .slice q2 path.length c2] 35) := ⟨_, rfl⟩
  have HW1 : Hid (W1 = w.alloc (.cells #[.int .i64 key, .slice q1 ends.length c1, .slice q2 path.length c2] 35)) := hW1
  have B1 : Hid (Below w.heap.size w W1) := by rw [hW1]; exact (Below.refl _ _).alloc (Nat.le_refl _) _
  have HZ1 : Hid (W1.heap.size = w.heap.size + 1) := by rw [hW1]; show _ = _; simp
  have X1 : Hid (W1.heap[w.heap.size]? = some (.cells #[.int .i64 key, .slice q1 ends.length c1, .slice q2 path.length c2] 35 (0, 0))) := by rw [hW1]; exact (MapKept.heap_alloc w _).1
  have hS := implSigRight_any key q1 c1 ends q2 c2 path W1 (h1.below B1.out) (h2.below B1.out) n1 n2 m1 m2
  have T1 : Hid (TxtAt W1 q1 ends) := h1.below B1.out
  have T2 : Hid (TxtAt W1 q2 path) := h2.below B1.out
  have HT : Hid (Tabs W1) := hT.below B1.out hT.1
  have HNo : Hid (¬ (sgnB key ends path = true ∧ root.size = 32 ∧ text.size ≤ 8000) → verA root text key ends path = false) := fun h => if_neg h
  have t0 : W1.cell? ⟨w.heap.size, 0, none⟩ = some (.int .i64 key) ∧ W1.cell? ⟨w.heap.size, 1, none⟩ = some (.slice q1 ends.length c1) ∧ W1.cell? ⟨w.heap.size, 2, none⟩ = some (.slice q2 path.length c2) := by simp [World.cell?, X1.out]
  obtain ⟨t0, t1, t2⟩ := t0
  clear hW1 h1 h2 hT
  by_cases ht8 : text.size ≤ 8000
  case neg =>
    have H : Hid (verA root text key ends path = false) := HNo.out (fun h => ht8 h.2.2)
    have d3 : decide (8000 < (text.size : Int)) = true := decide_eq_true (by omega)
    clear HNo T1 T2 ht8 hS t0 t1 t2
    go_enter Tryd.func41, Tryd.ntmps41
    go_wp2_with fail
    go_ret
    refine ⟨ret_bool H.out.symm, ?_⟩
    rw [← HW1.out]
    exact B1.out
  have d3 : decide (8000 < (text.size : Int)) = false := decide_eq_false (by omega)
  cases hb : sgnB key ends path with
  | false =>
    have H : Hid (verA root text key ends path = false) := HNo.out (fun h => by rw [hb] at h; cases h.1)
    rw [hb] at hS
    rw [HW1.out] at t0 t1 t2
    clear hb HNo T1 T2
    go_enter Tryd.func41, Tryd.ntmps41
    go_wp2_with fail
    rw [← HW1.out]
    refine hS.mono ?_
    rintro e w1 ⟨rfl, b1⟩
    have b1 := chainB B1.out b1
    go_wp2_with fail
    go_ret
    exact ⟨ret_bool H.out.symm, b1⟩
  | true =>
  rw [hb] at hS
  have HV : Hid (verA root text key ends path = incA (leafA (digB (upTo text ends 6))) key 4 path root) := verA_eq hb ht8
  have hparts : (0 ≤ key ∧ key ≤ 3) ∧ ends.length = 6 ∧ path.length = 2 ∧ wideB ends = true := by
    unfold sgnB at hb
    rw [Bool.and_eq_true, Bool.and_eq_true, Bool.and_eq_true, Bool.and_eq_true, decide_eq_true_iff, decide_eq_true_iff, decide_eq_true_iff] at hb
    exact ⟨hb.1, hb.2.1, hb.2.2.1, hb.2.2.2.1⟩
  have HL6 : Hid (ends.length = 6) := hparts.2.1
  have HWd : Hid (∀ x ∈ ends, x.size = 32) := wideB_all hparts.2.2.2
  have HLk : Hid (lackTo (dg text) 0 = digsI text) := lackTo_zero text
  clear hb HNo hparts
  rw [HW1.out] at t0 t1 t2
  go_enter Tryd.func41, Tryd.ntmps41
  go_wp2_with fail
  rw [← HW1.out]
  refine hS.mono ?_
  rintro e w1 ⟨rfl, b1⟩
  go_wp2_with fail
  refine (digits_any text w1 (HT.out.below b1 HT.out.1) ht).mono ?_
  rintro e w2 ⟨rfl, b2⟩
  have b2 := chainB b1 b2
  have XS : Hid _ := store6 w2 (digsI text) (digsI_len text)
  obtain ⟨W3, hW3⟩ : ∃ W3, W3 = w2.alloc (.cells (numA (digsI text)) 83) := ⟨_, rfl⟩
  rw [← hW3] at XS
  have R3 : Hid (W3.heap[w2.heap.size]? = some (.cells (numA (lackTo (dg text) 0)) 83 (0, 0))) := by rw [hW3, HLk.out]; exact (MapKept.heap_alloc _ _).1
  have XL : Hid ((loadVar 83 ⟨w2.heap.size, 0, none⟩).run Tryd.prog W3 = .ok (.agg (numA (digsI text))) W3) := ld6 (digsI_len text) (by rw [← HLk.out]; exact R3.out)
  have B3 : Hid (Below W1.heap.size W1 W3) := by rw [hW3]; exact b2.alloc b2.size _
  have hsz := b2.size
  have hz1 := HZ1.out
  clear b1 b2 hS hW3 t0 t1 t2
  obtain ⟨RW, hRW⟩ : ∃ RW, RW = numA (digsI text) := ⟨_, rfl⟩
  have HIx : Hid (∀ k : Nat, k < 6 → ∀ x : World, (Instr.index 83 (.agg RW) (.int .i64 (k : Int))).run Tryd.prog x = .ok (.int .i64 (dg text k)) x) := by
    intro k hk x; rw [hRW]; exact idx6 text k hk x
  rw [← hRW] at XS XL ⊢
  clear hRW
  go_wp2_with (first | refine wpList_load_row rfl 83 _ rfl ⟨w2.heap.size, 0, none⟩ _ rfl XL.out ?_ | refine wpList_store_row rfl 83 _ _ rfl rfl ⟨w2.heap.size, 0, none⟩ _ W3 rfl rfl XS.out ?_)
  go_loopw [22] (fun i wr => ∃ (k : Nat), i = .int .i64 k ∧ k ≤ 6 ∧ Hid (wr.heap[w2.heap.size]? = some (.cells (numA (lackTo (dg text) k)) 83 (0, 0))) ∧ Hid (Below W1.heap.size W1 wr)) (fun i _ => 6 - (intOf i).toNat)
  case atStart => exact ⟨0, rfl, by omega, R3, B3⟩
  case round =>
    clear XS XL R3 B3
    obtain ⟨k, rfl, hk, HR, HB⟩ := hrel
    by_cases hlt : k < 6
    · have d4 : decide ((k : Int) < 6) = true := decide_eq_true (by omega)
      have i1 : (k : Int) < 6 := by omega
      have i2 : (0 : Int) ≤ k := by omega
      have hix := HIx.out k hlt
      obtain ⟨g0, g1⟩ := dg_bd text k hlt
      obtain ⟨f1, f2⟩ := numA_cell HR.out k (by rw [lackTo_len]; omega)
      have X2 : Hid ((wr.setCell ⟨w2.heap.size, k, none⟩ (.int .i64 (15 - dg text k))).heap[w2.heap.size]? = some (.cells (numA (lackTo (dg text) (k + 1))) 83 (0, 0))) := by
        show _ = _
        rw [blk_set HR.out, numA_set, lackTo_set _ k hlt]
      have X3 : Hid (Below W1.heap.size W1 (wr.setCell ⟨w2.heap.size, k, none⟩ (.int .i64 (15 - dg text k)))) := HB.out.setCell (by show W1.heap.size ≤ w2.heap.size; omega) _
      generalize dg text k = d at *
      clear HR HB
      go_wp2_with fail
      go_roundw
      case rel => exact ⟨k + 1, by go_num, by omega, X2, X3⟩
      case measure => simp [intOf]; omega
    · obtain rfl : k = 6 := by omega
      rw [show ((6 : Nat) : Int) = (6 : Int) from rfl]
      have HX : Hid (∀ x, Below wr.heap.size wr x → x.cell? ⟨w.heap.size, 0, none⟩ = some (.int .i64 key) ∧ x.cell? ⟨w.heap.size, 1, none⟩ = some (.slice q1 ends.length c1) ∧ x.cell? ⟨w.heap.size, 2, none⟩ = some (.slice q2 path.length c2)) := fun x hb => by
        have h0 := ((chainB HB.out hb).block w.heap.size (by rw [HZ1.out]; omega)).trans X1.out
        simp [World.cell?, h0]
      obtain ⟨x0, x1, x2⟩ := HX.out wr (Below.refl _ _)
      have XL6 : Hid ((loadVar 83 ⟨w2.heap.size, 0, none⟩).run Tryd.prog wr = .ok (.agg (numA (lackTo (dg text) 6))) wr) := ld6 (lackTo_len _ _) HR.out
      have hgo : ∀ j, j < 6 → goneTo ends (lackTo (dg text) 6) j = stepsB (15 - dg text j).toNat (ends.getD j ByteArray.empty) := fun j hj => by
        unfold goneTo
        rw [lackTo_at _ 6 j hj, if_pos hj]
      have hcat : cat ((List.range 6).map (goneTo ends (lackTo (dg text) 6))) = upTo text ends 6 := by
        rw [cat_map]
        exact catB_congr _ _ 6 hgo
      have h192 : (upTo text ends 6).size = 192 := catB_size _ 6 (fun j hj => stepsB_size _ _ (by
        have hje : j < ends.length := by rw [HL6.out]; omega
        rw [List.getD_eq_getElem?_getD, List.getElem?_eq_getElem hje]
        exact HWd.out _ (List.getElem_mem hje)))
      have hA : Calls Tryd.prog 55 #[.slice q1 ends.length c1, .agg (numA (lackTo (dg text) 6))] wr fun e x1 => ∃ g, e = .returned (.slice (some ⟨g, 0, none⟩) 6 6) ∧ wr.heap.size ≤ g ∧ BlkS x1 g ((List.range 6).map (goneTo ends (lackTo (dg text) 6))) ∧ Below wr.heap.size wr x1 := by
        have h := allWalked_any q1 c1 ends (lackTo (dg text) 6) wr (HT.out.below HB.out HT.out.1) (T1.out.below HB.out) HL6.out (by rw [← HL6.out]; exact m1) HWd.out (lackTo_len _ _) (fun j hj => by
          obtain ⟨g0, g1⟩ := dg_bd text j hj
          rw [lackTo_at _ 6 j hj, if_pos hj]; omega)
        rw [← HL6.out] at h
        rw [HL6.out] at h ⊢
        exact h
      have HT3 : Hid (Tabs wr) := HT.out.below HB.out HT.out.1
      have U2 : Hid (TxtAt wr q2 path) := T2.out.below HB.out
      have BW : Hid (Below w.heap.size w wr) := chainB B1.out HB.out
      generalize hLL : (List.range 6).map (goneTo ends (lackTo (dg text) 6)) = LL at *
      have hl6 : LL.length = 6 := by rw [← hLL]; simp
      generalize numA (lackTo (dg text) 6) = R6 at *
      rw [← hcat] at h192 HV
      clear hgo hcat hLL HR HB
      go_wp2_with (first | refine wpList_load_row rfl 83 _ rfl ⟨w2.heap.size, 0, none⟩ _ rfl XL6.out ?_)
      refine hA.mono ?_
      rintro e w4 ⟨g4, rfl, -, s4, b4⟩
      have hD := digAll_any g4 6 LL w4 (HT3.out.below b4 HT3.out.1) s4 (by omega) (by omega) (by omega)
      rw [hl6] at hD
      have hDs := digB_size (cat LL)
      generalize digB (cat LL) = D at *
      clear s4 hl6 h192 hA
      go_wp2_with fail
      refine hD.mono ?_
      rintro e w5 ⟨rfl, b5⟩
      have B5 : Hid (Below wr.heap.size wr w5) := chainB b4 b5
      obtain ⟨x3, x4, x5⟩ := HX.out w5 B5.out
      clear x0 x1 x2 b4 b5 hD
      have QL : Hid (∀ y, Below wr.heap.size wr y → Calls Tryd.prog 57 #[.string D] y fun e x1 => e = .returned (.string (leafA D)) ∧ Below y.heap.size y x1) := fun y hb => implLeaf_any D y (HT3.out.below hb HT3.out.1) (by unfold maxLen; omega)
      generalize leafA D = F at *
      have QI : Hid (∀ y, Below wr.heap.size wr y → Calls Tryd.prog 56 #[.string F, .int .i64 key, .int .i64 4, .slice q2 path.length c2, .string root] y fun e x1 => e = .returned (.bool (incA F key 4 path root)) ∧ Below y.heap.size y x1) := fun y hb => implInc_any F key 4 q2 c2 path root y (HT3.out.below hb HT3.out.1) (U2.out.below hb) (by omega) m2 k0 k1 (by omega) (by omega)
      generalize incA F key 4 path root = B at *
      clear hDs
      go_wp2_with fail
      go_region_with (first
        | (go_at_call 57; refine (QL.out _ (by first | exact B5.out | exact B5.out.drew)).mono ?_; rintro e y2 ⟨rfl, z2⟩; have z2 : Below wr.heap.size wr y2 := chainB (by first | exact B5.out | exact B5.out.drew) z2; obtain ⟨x6, x7, x8⟩ := HX.out _ z2)
        | (go_at_call 56; refine (QI.out _ (by first | exact z2 | exact z2.drew)).mono ?_; rintro e y3 ⟨rfl, z3⟩; have z3 : Below wr.heap.size wr y3 := chainB (by first | exact z2 | exact z2.drew) z3))
      all_goals
        have z4 := chainB BW.out z3
        go_wp2_with fail
        go_ret
        exact ⟨ret_bool HV.out.symm, z4⟩
end Go.Proofs.YtfdihkgkiiekcaaDoor
