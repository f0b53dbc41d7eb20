/-
  Parts of one proof, laid as one text: ImplVer, Inc2, SignR, SignW, FldRise, ScanMath; what each says stands at its head.
-/
import Derived.Test.YtonleickhincgaaGreatDoorRows
import Derived.Test.YtonleickhincgaaGreatDoorBytesDigMath
import Derived.Test.YtonleickhincgaaGreatDoorWholeR
import Derived.Test.YtonleickhincgaaGreatDoorBlockI
import Derived.Test.YtonleickhincgaaGreatDoorTreeMathSlABxKSlBOwnS
import Derived.Test.YtonleickhincgaaGreatDoorAll2LeafNode
import Derived.Test.YtonleickhincgaaGreatDoorPowerHalvesTreeTree2TreeHPathMathIncMathTakerTakePathConMathProofLawSignMath
import Derived.Test.YtonleickhincgaaGreatDoorSignGSignVImplRightIncISignIMDigAllSignIASignIBSignIDg
import Derived.Handy
import Derived.WalkSpells
import Derived.OwnWalk
import Derived.Deep.RegionLaw
import Derived.Deep.RegionWith
import Derived.Test.YtonleickhincgaaGreatDoorMac2AppSSrcDrawsDrawKitSomeIsInSignSSignDWide2StepAppPath2DigestDrawTreeSpoil
import Derived.Test.YtonleickhincgaaGreatDoorShwKOwnBPadIMacMathSgnBDigITurn2
import Derived.Test.YtonleickhincgaaGreatDoorTimeBPutMathPutNumJoinedPutTextFldMath
import Derived.WalkKit
import Derived.ProofKit
import Derived.Below
import Derived.Laws.BitsAllLaws
import Derived.Laws.Bits64b
import Derived.Lib.Strings
/-
  What the program's Verify answers: 'verA'.
  Conditions: the cells of Ends and Path hold the texts; the two tables lie as the program's text lays them.
-/
namespace Go.Proofs.YtonleickhincgaaGreatDoor
open Go.RowKit Go.Lib
set_option linter.unusedVariables false
set_option maxRecDepth 20000

/-- Six numbers of which the first k are turned to what they lack of 15. -/
def lackTo (d : Nat → Int) (k : Nat) : List Int := (List.range 6).map fun j => if j < k then 15 - d j else d j
theorem lackTo_len (d : Nat → Int) (k : Nat) : (lackTo d k).length = 6 := by simp [lackTo]
theorem lackTo_at (d : Nat → Int) (k j : Nat) (h : j < 6) : (lackTo d k).getD j 0 = if j < k then 15 - d j else d j := by simp [lackTo, List.getD_eq_getElem?_getD, h]
theorem lackTo_set (d : Nat → Int) (k : Nat) (h : k < 6) : (lackTo d k).set k (15 - d k) = lackTo d (k + 1) := by
  apply List.ext_getElem
  · simp [lackTo]
  · intro i h1 h2
    rw [List.getElem_set]
    simp only [lackTo, List.getElem_map, List.getElem_range]
    by_cases hik : k = i
    · subst hik; simp
    · simp only [hik, if_false]
      by_cases h3 : i < k
      · rw [if_pos h3, if_pos (by omega)]
      · rw [if_neg h3, if_neg (by omega)]
theorem lackTo_zero (t : ByteArray) : lackTo (dg t) 0 = digsI t := by
  unfold lackTo dg digsI
  simp [List.range_succ]
theorem idx6 (t : ByteArray) (k : Nat) (hk : k < 6) (w : World) : (Instr.index 180 (.agg (numA (digsI t))) (.int .i64 (k : Int))).run Tryz.prog w = .ok (.int .i64 (dg t k)) w := by
  have h2 : (0 : Int) ≤ (k : Int) ∧ (k : Int) < 6 := by omega
  match k, hk with
  | 0, _ => simp [Instr.index, run_underlying under6, asIntOf, go_sem, numA, digsI, dg]
  | 1, _ => simp [Instr.index, run_underlying under6, asIntOf, go_sem, numA, digsI, dg]
  | 2, _ => simp [Instr.index, run_underlying under6, asIntOf, go_sem, numA, digsI, dg]
  | 3, _ => simp [Instr.index, run_underlying under6, asIntOf, go_sem, numA, digsI, dg]
  | 4, _ => simp [Instr.index, run_underlying under6, asIntOf, go_sem, numA, digsI, dg]
  | 5, _ => simp [Instr.index, run_underlying under6, asIntOf, go_sem, numA, digsI, dg]
theorem verA_eq {root text : ByteArray} {key : Int} {ends path : List ByteArray} (hb : sgnB key ends path = true) (ht : text.size ≤ 8000) : verA root text key ends path = incA (leafA (digB (upTo text ends 6))) key 4 path root := by
  rw [leafA_of (by rw [digB_size]; omega)]
  unfold verA
  by_cases hr : root.size = 32
  · rw [if_pos ⟨hb, hr, ht⟩]
  · rw [if_neg (fun h => hr h.2.1)]
    unfold incA
    rw [if_neg (fun h => hr h.2.2.2.2.1)]
theorem store6 (w3 : World) (l : List Int) (h : l.length = 6) :
    (storeVar 180 ⟨w3.heap.size, 0, none⟩ (.agg (numA l))).run Tryz.prog (w3.alloc (.cells #[.int .i64 0, .int .i64 0, .int .i64 0, .int .i64 0, .int .i64 0, .int .i64 0] 180)) = .ok () (w3.alloc (.cells (numA l) 180)) :=
  run_storeVar_new (P := Tryz.prog) w3 180 _ (numA l) (by rw [numA_size, h]; exact info6) (by rw [numA_size, h]; rfl) (numA_one _)

set_option maxHeartbeats 4000000 in
theorem implVerify_any (root text : ByteArray) (key : Int) (q1 : Option Addr) (c1 : Nat) (ends : List ByteArray) (q2 : Option Addr) (c2 : Nat) (path : List ByteArray) (w : World) (hT : Tabs w) (h1 : TxtAt w q1 ends) (h2 : TxtAt w q2 path) (n1 : ends.length ≤ 1048576) (n2 : path.length ≤ 1048576) (m1 : ends.length ≤ c1) (m2 : path.length ≤ c2) (hr : root.size ≤ 1048576) (ht : text.size ≤ 1048576) (k0 : -9223372036854775808 ≤ key) (k1 : key ≤ 9223372036854775807) :
    Calls Tryz.prog 81 #[.string root, .string text, .agg #[.int .i64 key, .slice q1 ends.length c1, .slice q2 path.length c2]] w fun e w' => e = .returned (.bool (verA root text key ends path)) ∧ Below w.heap.size w w' := by
  obtain ⟨W1, hW1⟩ : ∃ W1, W1 = w.alloc (.cells #[.int .i64 key, .slice q1 ends.length c1, .slice q2 path.length c2] 27) := ⟨_, rfl⟩
  have HW1 : Hid (W1 = w.alloc (.cells #[.int .i64 key, .slice q1 ends.length c1, .slice q2 path.length c2] 27)) := hW1
  have B1 : Hid (Below w.heap.size w W1) := by rw [hW1]; exact (Below.refl _ _).alloc (Nat.le_refl _) _
  have HZ1 : Hid (W1.heap.size = w.heap.size + 1) := by rw [hW1]; show _ = _; simp
  have X1 : Hid (W1.heap[w.heap.size]? = some (.cells #[.int .i64 key, .slice q1 ends.length c1, .slice q2 path.length c2] 27 (0, 0))) := by rw [hW1]; exact (MapKept.heap_alloc w _).1
  have hS := implSigRight_any key q1 c1 ends q2 c2 path W1 (h1.below B1.out) (h2.below B1.out) n1 n2 m1 m2
  have T1 : Hid (TxtAt W1 q1 ends) := h1.below B1.out
  have T2 : Hid (TxtAt W1 q2 path) := h2.below B1.out
  have HT : Hid (Tabs W1) := hT.below B1.out hT.1
  have HNo : Hid (¬ (sgnB key ends path = true ∧ root.size = 32 ∧ text.size ≤ 8000) → verA root text key ends path = false) := fun h => if_neg h
  have t0 : W1.cell? ⟨w.heap.size, 0, none⟩ = some (.int .i64 key) ∧ W1.cell? ⟨w.heap.size, 1, none⟩ = some (.slice q1 ends.length c1) ∧ W1.cell? ⟨w.heap.size, 2, none⟩ = some (.slice q2 path.length c2) := by simp [World.cell?, X1.out]
  obtain ⟨t0, t1, t2⟩ := t0
  clear hW1 h1 h2 hT
  by_cases ht8 : text.size ≤ 8000
  case neg =>
    have H : Hid (verA root text key ends path = false) := HNo.out (fun h => ht8 h.2.2)
    have d3 : decide (8000 < (text.size : Int)) = true := decide_eq_true (by omega)
    clear HNo T1 T2 ht8 hS t0 t1 t2
    go_enter Tryz.func81, Tryz.ntmps81
    go_wp2_with fail
    go_ret
    refine ⟨ret_bool H.out.symm, ?_⟩
    rw [← HW1.out]
    exact B1.out
  have d3 : decide (8000 < (text.size : Int)) = false := decide_eq_false (by omega)
  cases hb : sgnB key ends path with
  | false =>
    have H : Hid (verA root text key ends path = false) := HNo.out (fun h => by rw [hb] at h; cases h.1)
    rw [hb] at hS
    rw [HW1.out] at t0 t1 t2
    clear hb HNo T1 T2
    go_enter Tryz.func81, Tryz.ntmps81
    go_wp2_with fail
    rw [← HW1.out]
    refine hS.mono ?_
    rintro e w1 ⟨rfl, b1⟩
    have b1 := chainB B1.out b1
    go_wp2_with fail
    go_ret
    exact ⟨ret_bool H.out.symm, b1⟩
  | true =>
  rw [hb] at hS
  have HV : Hid (verA root text key ends path = incA (leafA (digB (upTo text ends 6))) key 4 path root) := verA_eq hb ht8
  have hparts : (0 ≤ key ∧ key ≤ 3) ∧ ends.length = 6 ∧ path.length = 2 ∧ wideB ends = true := by
    unfold sgnB at hb
    rw [Bool.and_eq_true, Bool.and_eq_true, Bool.and_eq_true, Bool.and_eq_true, decide_eq_true_iff, decide_eq_true_iff, decide_eq_true_iff] at hb
    exact ⟨hb.1, hb.2.1, hb.2.2.1, hb.2.2.2.1⟩
  have HL6 : Hid (ends.length = 6) := hparts.2.1
  have HWd : Hid (∀ x ∈ ends, x.size = 32) := wideB_all hparts.2.2.2
  have HLk : Hid (lackTo (dg text) 0 = digsI text) := lackTo_zero text
  clear hb HNo hparts
  rw [HW1.out] at t0 t1 t2
  go_enter Tryz.func81, Tryz.ntmps81
  go_wp2_with fail
  rw [← HW1.out]
  refine hS.mono ?_
  rintro e w1 ⟨rfl, b1⟩
  go_wp2_with fail
  refine (digits_any text w1 (HT.out.below b1 HT.out.1) ht).mono ?_
  rintro e w2 ⟨rfl, b2⟩
  have b2 := chainB b1 b2
  have XS : Hid _ := store6 w2 (digsI text) (digsI_len text)
  obtain ⟨W3, hW3⟩ : ∃ W3, W3 = w2.alloc (.cells (numA (digsI text)) 180) := ⟨_, rfl⟩
  rw [← hW3] at XS
  have R3 : Hid (W3.heap[w2.heap.size]? = some (.cells (numA (lackTo (dg text) 0)) 180 (0, 0))) := by rw [hW3, HLk.out]; exact (MapKept.heap_alloc _ _).1
  have XL : Hid ((loadVar 180 ⟨w2.heap.size, 0, none⟩).run Tryz.prog W3 = .ok (.agg (numA (digsI text))) W3) := ld6 (digsI_len text) (by rw [← HLk.out]; exact R3.out)
  have B3 : Hid (Below W1.heap.size W1 W3) := by rw [hW3]; exact b2.alloc b2.size _
  have hsz := b2.size
  have hz1 := HZ1.out
  clear b1 b2 hS hW3 t0 t1 t2
  obtain ⟨RW, hRW⟩ : ∃ RW, RW = numA (digsI text) := ⟨_, rfl⟩
  have HIx : Hid (∀ k : Nat, k < 6 → ∀ x : World, (Instr.index 180 (.agg RW) (.int .i64 (k : Int))).run Tryz.prog x = .ok (.int .i64 (dg text k)) x) := by
    intro k hk x; rw [hRW]; exact idx6 text k hk x
  rw [← hRW] at XS XL ⊢
  clear hRW
  go_wp2_with (first | refine wpList_load_row rfl 180 _ rfl ⟨w2.heap.size, 0, none⟩ _ rfl XL.out ?_ | refine wpList_store_row rfl 180 _ _ rfl rfl ⟨w2.heap.size, 0, none⟩ _ W3 rfl rfl XS.out ?_)
  go_loopw [22] (fun i wr => ∃ (k : Nat), i = .int .i64 k ∧ k ≤ 6 ∧ Hid (wr.heap[w2.heap.size]? = some (.cells (numA (lackTo (dg text) k)) 180 (0, 0))) ∧ Hid (Below W1.heap.size W1 wr)) (fun i _ => 6 - (Go.RowKit.intOf i).toNat)
  case atStart => exact ⟨0, rfl, by omega, R3, B3⟩
  case round =>
    clear XS XL R3 B3
    obtain ⟨k, rfl, hk, HR, HB⟩ := hrel
    by_cases hlt : k < 6
    · have d4 : decide ((k : Int) < 6) = true := decide_eq_true (by omega)
      have i1 : (k : Int) < 6 := by omega
      have i2 : (0 : Int) ≤ k := by omega
      have hix := HIx.out k hlt
      obtain ⟨g0, g1⟩ := dg_bd text k hlt
      obtain ⟨f1, f2⟩ := numA_cell HR.out k (by rw [lackTo_len]; omega)
      have X2 : Hid ((wr.setCell ⟨w2.heap.size, k, none⟩ (.int .i64 (15 - dg text k))).heap[w2.heap.size]? = some (.cells (numA (lackTo (dg text) (k + 1))) 180 (0, 0))) := by
        show _ = _
        rw [blk_set HR.out, numA_set, lackTo_set _ k hlt]
      have X3 : Hid (Below W1.heap.size W1 (wr.setCell ⟨w2.heap.size, k, none⟩ (.int .i64 (15 - dg text k)))) := HB.out.setCell (by show W1.heap.size ≤ w2.heap.size; omega) _
      generalize dg text k = d at *
      clear HR HB
      go_wp2_with fail
      go_roundw
      case rel => exact ⟨k + 1, by go_num, by omega, X2, X3⟩
      case measure => simp [Go.RowKit.intOf]; omega
    · obtain rfl : k = 6 := by omega
      rw [show ((6 : Nat) : Int) = (6 : Int) from rfl]
      have HX : Hid (∀ x, Below wr.heap.size wr x → x.cell? ⟨w.heap.size, 0, none⟩ = some (.int .i64 key) ∧ x.cell? ⟨w.heap.size, 1, none⟩ = some (.slice q1 ends.length c1) ∧ x.cell? ⟨w.heap.size, 2, none⟩ = some (.slice q2 path.length c2)) := fun x hb => by
        have h0 := ((chainB HB.out hb).block w.heap.size (by rw [HZ1.out]; omega)).trans X1.out
        simp [World.cell?, h0]
      obtain ⟨x0, x1, x2⟩ := HX.out wr (Below.refl _ _)
      have XL6 : Hid ((loadVar 180 ⟨w2.heap.size, 0, none⟩).run Tryz.prog wr = .ok (.agg (numA (lackTo (dg text) 6))) wr) := ld6 (lackTo_len _ _) HR.out
      have hgo : ∀ j, j < 6 → goneTo ends (lackTo (dg text) 6) j = stepsB (15 - dg text j).toNat (ends.getD j ByteArray.empty) := fun j hj => by
        unfold goneTo
        rw [lackTo_at _ 6 j hj, if_pos hj]
      have hcat : cat ((List.range 6).map (goneTo ends (lackTo (dg text) 6))) = upTo text ends 6 := by
        rw [cat_map]
        exact catB_congr _ _ 6 hgo
      have h192 : (upTo text ends 6).size = 192 := catB_size _ 6 (fun j hj => stepsB_size _ _ (by
        have hje : j < ends.length := by rw [HL6.out]; omega
        rw [List.getD_eq_getElem?_getD, List.getElem?_eq_getElem hje]
        exact HWd.out _ (List.getElem_mem hje)))
      have hA : Calls Tryz.prog 130 #[.slice q1 ends.length c1, .agg (numA (lackTo (dg text) 6))] wr fun e x1 => ∃ g, e = .returned (.slice (some ⟨g, 0, none⟩) 6 6) ∧ wr.heap.size ≤ g ∧ BlkS x1 g ((List.range 6).map (goneTo ends (lackTo (dg text) 6))) ∧ Below wr.heap.size wr x1 := by
        have h := allWalked_any q1 c1 ends (lackTo (dg text) 6) wr (HT.out.below HB.out HT.out.1) (T1.out.below HB.out) HL6.out (by rw [← HL6.out]; exact m1) HWd.out (lackTo_len _ _) (fun j hj => by
          obtain ⟨g0, g1⟩ := dg_bd text j hj
          rw [lackTo_at _ 6 j hj, if_pos hj]; omega)
        rw [← HL6.out] at h
        rw [HL6.out] at h ⊢
        exact h
      have HT3 : Hid (Tabs wr) := HT.out.below HB.out HT.out.1
      have U2 : Hid (TxtAt wr q2 path) := T2.out.below HB.out
      have BW : Hid (Below w.heap.size w wr) := chainB B1.out HB.out
      generalize hLL : (List.range 6).map (goneTo ends (lackTo (dg text) 6)) = LL at *
      have hl6 : LL.length = 6 := by rw [← hLL]; simp
      generalize numA (lackTo (dg text) 6) = R6 at *
      rw [← hcat] at h192 HV
      clear hgo hcat hLL HR HB
      go_wp2_with (first | refine wpList_load_row rfl 180 _ rfl ⟨w2.heap.size, 0, none⟩ _ rfl XL6.out ?_)
      refine hA.mono ?_
      rintro e w4 ⟨g4, rfl, -, s4, b4⟩
      have hD := digAll_any g4 6 LL w4 (HT3.out.below b4 HT3.out.1) s4 (by omega) (by omega) (by omega)
      rw [hl6] at hD
      have hDs := digB_size (cat LL)
      generalize digB (cat LL) = D at *
      clear s4 hl6 h192 hA
      go_wp2_with fail
      refine hD.mono ?_
      rintro e w5 ⟨rfl, b5⟩
      have B5 : Hid (Below wr.heap.size wr w5) := chainB b4 b5
      obtain ⟨x3, x4, x5⟩ := HX.out w5 B5.out
      clear x0 x1 x2 b4 b5 hD
      have QL : Hid (∀ y, Below wr.heap.size wr y → Calls Tryz.prog 132 #[.string D] y fun e x1 => e = .returned (.string (leafA D)) ∧ Below y.heap.size y x1) := fun y hb => implLeaf_any D y (HT3.out.below hb HT3.out.1) (by unfold maxLen; omega)
      generalize leafA D = F at *
      have QI : Hid (∀ y, Below wr.heap.size wr y → Calls Tryz.prog 131 #[.string F, .int .i64 key, .int .i64 4, .slice q2 path.length c2, .string root] y fun e x1 => e = .returned (.bool (incA F key 4 path root)) ∧ Below y.heap.size y x1) := fun y hb => implInc_any F key 4 q2 c2 path root y (HT3.out.below hb HT3.out.1) (U2.out.below hb) (by omega) m2 k0 k1 (by omega) (by omega)
      generalize incA F key 4 path root = B at *
      clear hDs
      go_wp2_with fail
      go_region_with (first
        | (go_at_call 132; refine (QL.out _ (by first | exact B5.out | exact B5.out.drew)).mono ?_; rintro e y2 ⟨rfl, z2⟩; have z2 : Below wr.heap.size wr y2 := chainB (by first | exact B5.out | exact B5.out.drew) z2; obtain ⟨x6, x7, x8⟩ := HX.out _ z2)
        | (go_at_call 131; refine (QI.out _ (by first | exact z2 | exact z2.drew)).mono ?_; rintro e y3 ⟨rfl, z3⟩; have z3 : Below wr.heap.size wr y3 := chainB (by first | exact z2 | exact z2.drew) z3))
      all_goals
        have z4 := chainB BW.out z3
        go_wp2_with fail
        go_ret
        exact ⟨ret_bool HV.out.symm, z4⟩
end Go.Proofs.YtonleickhincgaaGreatDoor
/-
  What the specification's Included answers: 'incA'.
  Conditions: index and size are int64; the path's cells hold the texts.
-/
namespace Go.Proofs.YtonleickhincgaaGreatDoor
open Go.RowKit Go.Lib
set_option linter.unusedVariables false
set_option maxRecDepth 20000

set_option maxHeartbeats 4000000 in
theorem specInc_main (leaf : ByteArray) (I M : Nat) (p : Option Addr) (cap : Nat) (ss : List ByteArray) (root : ByteArray) (w : World) (hp : TxtAt w p ss) (hn : ss.length ≤ 63) (hcap : ss.length ≤ cap)
    (hi : I < M) (hM : M ≤ 9223372036854775807) (h32 : leaf.size = 32) (hr32 : root.size = 32) (hw : wideB ss = true) :
    Calls Tryz.prog 50 #[.string leaf, .int .i64 (I : Int), .int .i64 (M : Int), .slice p ss.length cap, .string root] w fun e w' => e = .returned (.bool (decide (cl leaf (dirs I M) ss = some root))) ∧ Below w.heap.size w w' := by
  have HP : Hid (TxtAt w p ss) := hp
  have HX : Hid (∀ x ∈ ss, x.size = 32) := wideB_all hw
  have HD := wide2_any p cap ss w hp (by omega) hcap
  rw [hw] at HD
  have H0 : Hid (cl leaf (dirs I M) ss = cl leaf (itd I (M - 1)) (ss.drop 0)) := by show _ = _; rw [dirs_eq hi, List.drop_zero]
  generalize cl leaf (dirs I M) ss = G at *
  have d1 : decide (63 < (ss.length : Int)) = false := decide_eq_false (by omega)
  have d2 : ((leaf.size : Int) != 32) = false := by simp; omega
  have d3 : ((root.size : Int) != 32) = false := by simp; omega
  have d4 : decide ((I : Int) < 0) = false := decide_eq_false (by omega)
  have d5 : decide ((M : Int) ≤ (I : Int)) = false := decide_eq_false (by omega)
  have d6 : decide (M ≤ I) = false := decide_eq_false (by omega)
  clear hp hw
  have HL : Hid (leaf.size = 32) := h32
  clear h32 hr32
  go_enter Tryz.func50, Tryz.ntmps50
  go_wp2_with fail
  refine HD.mono ?_
  rintro e w1 ⟨rfl, hw1⟩
  subst hw1
  go_wp2_with fail
  clear d1 d2 d3 d4 d5 d6 HD
  go_loopw [14, 11, 12, 13] (fun vi va vl vh wr => ∃ (k a l : Nat) (h : ByteArray), k ≤ ss.length ∧ vi = .int .i64 k ∧ va = .int .i64 a ∧ vl = .int .i64 l ∧ vh = .string h ∧ a ≤ l ∧ l ≤ 9223372036854775807 ∧ Hid (h.size = 32) ∧ Hid (G = cl h (itd a l) (ss.drop k)) ∧ Hid (Below w1.heap.size w1 wr)) (fun vi _ _ _ _ => ss.length - (Go.RowKit.intOf vi).toNat)
  case atStart => exact ⟨0, I, M - 1, leaf, Nat.zero_le _, rfl, rfl, by go_num, rfl, by omega, by omega, HL, H0, Below.refl _ _⟩
  case round =>
    clear H0 HL
    obtain ⟨k, a, l, h, hk, rfl, rfl, rfl, rfl, hal, hl, hh, hG, hB⟩ := hrel
    by_cases hlt : k < ss.length
    · have hdrop : Hid (ss.drop k = ss[k] :: ss.drop (k + 1)) := List.drop_eq_getElem_cons hlt
      obtain ⟨b, off, rfl, hb, hck⟩ := HP.out k hlt
      have hc1 : wr.cell? ⟨b, off + k, none⟩ = some (.string ss[k]) := (hB.out.cell (p := ⟨b, off + k, none⟩) hb).trans hck
      have hq32 := HX.out ss[k] (List.getElem_mem hlt)
      clear hck
      generalize ss[k] = q at *
      by_cases hz : l = 0
      · subst hz
        have HF : Hid (decide (G = some root) = false) := by
          refine decide_eq_false ?_
          rw [hG.out, itd_zero, hdrop.out]; simp [cl]
        go_wp2
        go_ret
        exact ⟨ret_bool HF.out.symm, hB.out⟩
      · have n1 := specL03Node_any q h wr (by omega) (by have := hh.out; omega)
        have n2 := specL03Node_any h q wr (by have := hh.out; omega) (by omega)
        by_cases hodd : a % 2 = 1 ∨ a = l
        · have hpos : 0 < a := by omega
          have hG2 : Hid (G = cl h (itd a l) (q :: ss.drop (k + 1))) := by show _ = _; rw [hG.out, hdrop.out]
          have hfst : (((a : Int) % 2 == 1) = true) ∨ (((a : Int) % 2 == 1) = false ∧ ((a : Int) == (l : Int)) = true) := by
            rcases hodd with h1 | h1
            · exact .inl (by simp; omega)
            · by_cases h3 : a % 2 = 1
              · exact .inl (by simp; omega)
              · exact .inr ⟨by simp; omega, by simp; omega⟩
          have hsz : Hid ((nodeB q h).size = 32) := nodeB_size q h
          have hcl : Hid (∀ T, cl h (true :: T) (q :: ss.drop (k + 1)) = cl (nodeB q h) T (ss.drop (k + 1))) := fun T => by show cl h (true :: T) (q :: _) = _; simp [cl]
          generalize nodeB q h = N at *
          clear hG n2
          rcases hfst with h1 | ⟨h1, h2⟩
          all_goals (
            go_wp2_with fail
            refine n1.mono ?_
            rintro e w2 ⟨rfl, b2⟩
            have HB2 : Hid (Below w1.heap.size w1 w2) := chainB hB.out b2
            clear b2
            go_wp2_with fail
            clear hc1
            have HI : Hid (itd a l = itd a l) := rfl
            rename World => W2
            go_loopw [11, 12] (fun va vl wr => ∃ (x y : Nat), va = .int .i64 x ∧ vl = .int .i64 y ∧ 0 < x ∧ x ≤ y ∧ y ≤ 9223372036854775807 ∧ (x % 2 = 1 ∨ x = y) ∧ Hid (G = cl h (itd x y) (q :: ss.drop (k + 1))) ∧ wr = W2) (fun va _ _ => (Go.RowKit.intOf va).toNat)
            case atStart => exact ⟨a, l, rfl, rfl, hpos, hal, hl, hodd, hG2, rfl⟩
            case round =>
              clear HI hG2 h1
              obtain ⟨x, y, rfl, rfl, hx0, hxy, hy, hor, hI, rfl⟩ := hrel
              by_cases he : x % 2 = 0
              · have e1 : ((x : Int) % 2 == 0) = true := by simp; omega
                obtain rfl : x = y := by omega
                have HI2 : Hid (G = cl h (itd (x / 2) (x / 2)) (q :: ss.drop (k + 1))) := by show _ = _; rw [hI.out, itd_last (by omega) he]
                go_wp2
                go_roundw
                case rel => exact ⟨x / 2, x / 2, by go_num, by go_num, by omega, by omega, by omega, by omega, HI2, trivial⟩
                case measure => simp [Go.RowKit.intOf]; omega
              · have e1 : ((x : Int) % 2 == 0) = false := by simp; omega
                have HI2 : Hid (G = cl N (itd (x / 2) (y / 2)) (ss.drop (k + 1))) := by show _ = _; rw [hI.out, itd_odd (by omega) (by omega), hcl.out]
                go_wp2
                go_roundw
                case rel => exact ⟨k + 1, x / 2, y / 2, N, by omega, by go_num, by go_num, by go_num, rfl, by omega, by omega, hsz, HI2, HB2⟩
                case measure => simp [Go.RowKit.intOf]; omega)
        · have e1 : ((a : Int) % 2 == 1) = false := by simp; omega
          have e2 : ((a : Int) == (l : Int)) = false := by simp; omega
          have hsz : Hid ((nodeB h q).size = 32) := nodeB_size h q
          have HI2 : Hid (G = cl (nodeB h q) (itd (a / 2) (l / 2)) (ss.drop (k + 1))) := by
            show _ = _
            rw [hG.out, hdrop.out, itd_even hz (by omega) (by omega)]; simp [cl]
          generalize nodeB h q = N at *
          clear hG n1
          go_wp2_with fail
          refine n2.mono ?_
          rintro e w2 ⟨rfl, b2⟩
          have HB2 : Hid (Below w1.heap.size w1 w2) := chainB hB.out b2
          clear b2
          go_wp2_with fail
          go_roundw
          case rel => exact ⟨k + 1, a / 2, l / 2, N, by omega, by go_num, by go_num, by go_num, rfl, by omega, by omega, hsz, HI2, HB2⟩
          case measure => simp [Go.RowKit.intOf]; omega
    · have hkk : k = ss.length := by omega
      subst hkk
      rw [List.drop_of_length_le (Nat.le_refl _)] at hG
      by_cases hz : l = 0
      · subst hz
        have e1 : (((0 : Nat) : Int) == 0) = true := by simp
        have HF : Hid (decide (G = some root) = (h.toList == root.toList)) := by
          show _ = _
          rw [hG.out, itd_zero]
          by_cases hq : h = root
          · subst hq; simp [cl]
          · rw [decide_eq_false (by simp [cl, hq])]
            exact (beq_eq_false_iff_ne.2 fun hh => hq (toList_inj' (by rw [hh]; simp))).symm
        go_wp2
        go_ret
        exact ⟨ret_bool HF.out.symm, hB.out⟩
      · have e1 : ((l : Int) == 0) = false := by simp; omega
        have HF : Hid (decide (G = some root) = false) := by
          refine decide_eq_false ?_
          rw [hG.out]
          cases hc : itd a l with
          | nil => exact absurd hc (itd_nil hal hz)
          | cons d ds => simp [cl]
        go_wp2
        go_ret
        exact ⟨ret_bool HF.out.symm, hB.out⟩

set_option maxHeartbeats 2000000 in
theorem specInc_any (leaf : ByteArray) (i n : Int) (p : Option Addr) (cap : Nat) (ss : List ByteArray) (root : ByteArray) (w : World) (hp : TxtAt w p ss) (hn : ss.length ≤ 140737488355328) (hcap : ss.length ≤ cap)
    (hls : leaf.size ≤ maxLen) (hrs : root.size ≤ maxLen) (i0 : -9223372036854775808 ≤ i) (i1 : i ≤ 9223372036854775807) (n0 : -9223372036854775808 ≤ n) (n1 : n ≤ 9223372036854775807) :
    Calls Tryz.prog 50 #[.string leaf, .int .i64 i, .int .i64 n, .slice p ss.length cap, .string root] w fun e w' => e = .returned (.bool (incA leaf i n ss root)) ∧ Below w.heap.size w w' := by
  unfold maxLen at hls hrs
  have H0 : Hid (incA leaf i n ss root = if 0 ≤ i ∧ i < n ∧ ss.length ≤ 63 ∧ leaf.size = 32 ∧ root.size = 32 ∧ wideB ss = true then decide (cl leaf (dirs i.toNat n.toNat) ss = some root) else false) := rfl
  by_cases c3 : ss.length ≤ 63
  case neg =>
    have d1 : decide (63 < (ss.length : Int)) = true := decide_eq_true (by omega)
    have H : Hid (incA leaf i n ss root = false) := H0.out.trans (if_neg fun h => c3 h.2.2.1)
    go_enter Tryz.func50, Tryz.ntmps50
    go_wp2_with fail
    go_ret
    exact ⟨ret_bool H.out.symm, Below.refl _ _⟩
  have d1 : decide (63 < (ss.length : Int)) = false := decide_eq_false (by omega)
  have HD := wide2_any p cap ss w hp (by omega) hcap
  cases c6 : wideB ss
  · have H : Hid (incA leaf i n ss root = false) := H0.out.trans (if_neg fun h => by rw [c6] at h; exact absurd h.2.2.2.2.2 (by simp))
    rw [c6] at HD
    clear c6 hp
    go_enter Tryz.func50, Tryz.ntmps50
    go_wp2_with fail
    refine HD.mono ?_
    rintro e w1 ⟨rfl, hw1⟩
    subst hw1
    go_wp2_with fail
    go_ret
    exact ⟨ret_bool H.out.symm, Below.refl _ _⟩
  by_cases c4 : leaf.size = 32
  case neg =>
    have d2 : ((leaf.size : Int) != 32) = true := by simp; omega
    have H : Hid (incA leaf i n ss root = false) := H0.out.trans (if_neg fun h => c4 h.2.2.2.1)
    rw [c6] at HD
    clear c6 hp
    go_enter Tryz.func50, Tryz.ntmps50
    go_wp2_with fail
    refine HD.mono ?_
    rintro e w1 ⟨rfl, hw1⟩
    subst hw1
    go_wp2_with fail
    go_ret
    exact ⟨ret_bool H.out.symm, Below.refl _ _⟩
  have d2 : ((leaf.size : Int) != 32) = false := by simp; omega
  by_cases c5 : root.size = 32
  case neg =>
    have d3 : ((root.size : Int) != 32) = true := by simp; omega
    have H : Hid (incA leaf i n ss root = false) := H0.out.trans (if_neg fun h => c5 h.2.2.2.2.1)
    rw [c6] at HD
    clear c6 hp
    go_enter Tryz.func50, Tryz.ntmps50
    go_wp2_with fail
    refine HD.mono ?_
    rintro e w1 ⟨rfl, hw1⟩
    subst hw1
    go_wp2_with fail
    go_ret
    exact ⟨ret_bool H.out.symm, Below.refl _ _⟩
  have d3 : ((root.size : Int) != 32) = false := by simp; omega
  by_cases c1 : 0 ≤ i
  case neg =>
    have d4 : decide (i < 0) = true := decide_eq_true (by omega)
    have H : Hid (incA leaf i n ss root = false) := H0.out.trans (if_neg fun h => c1 h.1)
    rw [c6] at HD
    clear c6 hp c4 c5
    go_enter Tryz.func50, Tryz.ntmps50
    go_wp2_with fail
    refine HD.mono ?_
    rintro e w1 ⟨rfl, hw1⟩
    subst hw1
    go_wp2_with fail
    go_ret
    exact ⟨ret_bool H.out.symm, Below.refl _ _⟩
  have d4 : decide (i < 0) = false := decide_eq_false (by omega)
  by_cases c2 : i < n
  case neg =>
    have d5 : decide (n ≤ i) = true := decide_eq_true (by omega)
    have H : Hid (incA leaf i n ss root = false) := H0.out.trans (if_neg fun h => c2 h.2.1)
    rw [c6] at HD
    clear c6 hp c4 c5
    go_enter Tryz.func50, Tryz.ntmps50
    go_wp2_with fail
    refine HD.mono ?_
    rintro e w1 ⟨rfl, hw1⟩
    subst hw1
    go_wp2_with fail
    go_ret
    exact ⟨ret_bool H.out.symm, Below.refl _ _⟩
  rw [H0.out, if_pos ⟨c1, c2, c3, c4, c5, c6⟩]
  obtain ⟨I, rfl⟩ := Int.eq_ofNat_of_zero_le c1
  obtain ⟨M, rfl⟩ := Int.eq_ofNat_of_zero_le (show 0 ≤ n by omega)
  simp only [Int.toNat_natCast]
  exact specInc_main leaf I M p cap ss root w hp c3 hcap (by omega) (by omega) c4 c5 c6
end Go.Proofs.YtonleickhincgaaGreatDoor
/-
  What the specification's SigRight answers: 'sgnB'.
  Conditions: the cells of Ends and Path hold the texts.
-/
namespace Go.Proofs.YtonleickhincgaaGreatDoor
open Go.RowKit Go.Lib
set_option linter.unusedVariables false
set_option maxRecDepth 20000

set_option maxHeartbeats 2000000 in
theorem specSigRight_any (key : Int) (q1 : Option Addr) (c1 : Nat) (ends : List ByteArray) (q2 : Option Addr) (c2 : Nat) (path : List ByteArray) (w : World) (h1 : TxtAt w q1 ends) (h2 : TxtAt w q2 path) (n1 : ends.length ≤ 1048576) (n2 : path.length ≤ 1048576) (m1 : ends.length ≤ c1) (m2 : path.length ≤ c2) :
    Calls Tryz.prog 47 #[.agg #[.int .i64 key, .slice q1 ends.length c1, .slice q2 path.length c2]] w fun e w' => e = .returned (.bool (sgnB key ends path)) ∧ Below w.heap.size w w' := by
  obtain ⟨W1, hW1⟩ : ∃ W1, W1 = w.alloc (.cells #[.int .i64 key, .slice q1 ends.length c1, .slice q2 path.length c2] 27) := ⟨_, rfl⟩
  have HW1 : Hid (W1 = w.alloc (.cells #[.int .i64 key, .slice q1 ends.length c1, .slice q2 path.length c2] 27)) := hW1
  have B1 : Hid (Below w.heap.size w W1) := by rw [hW1]; exact (Below.refl _ _).alloc (Nat.le_refl _) _
  have X1 : W1.heap[w.heap.size]? = some (.cells #[.int .i64 key, .slice q1 ends.length c1, .slice q2 path.length c2] 27 (0, 0)) := by rw [hW1]; exact (MapKept.heap_alloc w _).1
  have t0 : W1.cell? ⟨w.heap.size, 0, none⟩ = some (.int .i64 key) ∧ W1.cell? ⟨w.heap.size, 1, none⟩ = some (.slice q1 ends.length c1) ∧ W1.cell? ⟨w.heap.size, 2, none⟩ = some (.slice q2 path.length c2) := by simp [World.cell?, X1]
  obtain ⟨t0, t1, t2⟩ := t0
  have hK := isIn_any key 0 3 W1
  have hE := wide2_any q1 c1 ends W1 (h1.below B1.out) (by omega) m1
  have hP := wide2_any q2 c2 path W1 (h2.below B1.out) (by omega) m2
  have H0 : Hid (sgnB key ends path = (decide (0 ≤ key ∧ key ≤ 3) && (decide (ends.length = 6) && (decide (path.length = 2) && (wideB ends && wideB path))))) := rfl
  clear hW1 X1 h1 h2
  rw [H0.out]
  generalize decide (0 ≤ key ∧ key ≤ 3) = b0 at *
  have e1 : ((ends.length : Int) == 6) = decide (ends.length = 6) := by
    by_cases h : ends.length = 6
    · rw [decide_eq_true h]; exact beq_iff_eq.2 (by omega)
    · rw [decide_eq_false h]; exact beq_eq_false_iff_ne.2 (by omega)
  have e2 : ((path.length : Int) == 2) = decide (path.length = 2) := by
    by_cases h : path.length = 2
    · rw [decide_eq_true h]; exact beq_iff_eq.2 (by omega)
    · rw [decide_eq_false h]; exact beq_eq_false_iff_ne.2 (by omega)
  generalize decide (ends.length = 6) = b1 at *
  generalize decide (path.length = 2) = b2 at *
  generalize wideB ends = b3 at *
  generalize wideB path = b4 at *
  clear H0
  go_enter Tryz.func47, Tryz.ntmps47
  go_wp2_with fail
  rw [← HW1.out]
  refine hK.mono ?_
  rintro e w1 ⟨rfl, rfl⟩
  cases b0
  · go_wp2_with fail
    go_ret
    exact ⟨ret_bool (by simp), B1.out⟩
  cases b1
  · go_wp2_with fail
    go_ret
    exact ⟨ret_bool (by simp), B1.out⟩
  cases b2
  · go_wp2_with fail
    go_ret
    exact ⟨ret_bool (by simp), B1.out⟩
  go_wp2_with fail
  refine hE.mono ?_
  rintro e w1 ⟨rfl, rfl⟩
  cases b3
  · go_wp2_with fail
    go_ret
    exact ⟨ret_bool (by simp), B1.out⟩
  go_wp2_with fail
  refine hP.mono ?_
  rintro e w1 ⟨rfl, rfl⟩
  go_wp2_with fail
  go_ret
  exact ⟨ret_bool (by simp), B1.out⟩
end Go.Proofs.YtonleickhincgaaGreatDoor
/-
  What the specification's Verify answers: 'verA'.
  Conditions: the cells of Ends and Path hold the texts.
-/
namespace Go.Proofs.YtonleickhincgaaGreatDoor
open Go.RowKit Go.Lib
set_option linter.unusedVariables false
set_option maxRecDepth 20000

set_option maxHeartbeats 4000000 in
theorem specVerify_any (root text : ByteArray) (key : Int) (q1 : Option Addr) (c1 : Nat) (ends : List ByteArray) (q2 : Option Addr) (c2 : Nat) (path : List ByteArray) (w : World) (h1 : TxtAt w q1 ends) (h2 : TxtAt w q2 path) (n1 : ends.length ≤ 1048576) (n2 : path.length ≤ 1048576) (m1 : ends.length ≤ c1) (m2 : path.length ≤ c2) (hr : root.size ≤ 1048576) (ht : text.size ≤ 1048576) (k0 : -9223372036854775808 ≤ key) (k1 : key ≤ 9223372036854775807) :
    Calls Tryz.prog 14 #[.string root, .string text, .agg #[.int .i64 key, .slice q1 ends.length c1, .slice q2 path.length c2]] w fun e w' => e = .returned (.bool (verA root text key ends path)) ∧ Below w.heap.size w w' := by
  obtain ⟨W1, hW1⟩ : ∃ W1, W1 = w.alloc (.cells #[.int .i64 key, .slice q1 ends.length c1, .slice q2 path.length c2] 27) := ⟨_, rfl⟩
  have HW1 : Hid (W1 = w.alloc (.cells #[.int .i64 key, .slice q1 ends.length c1, .slice q2 path.length c2] 27)) := hW1
  have B1 : Hid (Below w.heap.size w W1) := by rw [hW1]; exact (Below.refl _ _).alloc (Nat.le_refl _) _
  have HZ1 : Hid (W1.heap.size = w.heap.size + 1) := by rw [hW1]; show _ = _; simp
  have X1 : Hid (W1.heap[w.heap.size]? = some (.cells #[.int .i64 key, .slice q1 ends.length c1, .slice q2 path.length c2] 27 (0, 0))) := by rw [hW1]; exact (MapKept.heap_alloc w _).1
  have hS := specSigRight_any key q1 c1 ends q2 c2 path W1 (h1.below B1.out) (h2.below B1.out) n1 n2 m1 m2
  have T1 : Hid (TxtAt W1 q1 ends) := h1.below B1.out
  have T2 : Hid (TxtAt W1 q2 path) := h2.below B1.out
  have HNo : Hid (¬ (sgnB key ends path = true ∧ root.size = 32 ∧ text.size ≤ 8000) → verA root text key ends path = false) := fun h => if_neg h
  clear hW1 h1 h2
  cases hb : sgnB key ends path with
  | false =>
    have H : Hid (verA root text key ends path = false) := HNo.out (fun h => by rw [hb] at h; cases h.1)
    rw [hb] at hS
    clear hb HNo T1 T2
    go_enter Tryz.func14, Tryz.ntmps14
    go_wp2_with fail
    rw [← HW1.out]
    refine hS.mono ?_
    rintro e w1 ⟨rfl, b1⟩
    have b1 := chainB B1.out b1
    go_wp2_with fail
    go_ret
    exact ⟨ret_bool H.out.symm, b1⟩
  | true =>
  rw [hb] at hS
  by_cases hr32 : root.size = 32
  case neg =>
    have H : Hid (verA root text key ends path = false) := HNo.out (fun h => hr32 h.2.1)
    have d2 : ¬ ((root.size : Int) = 32) := by omega
    clear hb HNo T1 T2 hr32
    go_enter Tryz.func14, Tryz.ntmps14
    go_wp2_with fail
    rw [← HW1.out]
    refine hS.mono ?_
    rintro e w1 ⟨rfl, b1⟩
    have b1 := chainB B1.out b1
    go_wp2_with fail
    go_ret
    exact ⟨ret_bool H.out.symm, b1⟩
  have d2 : (root.size : Int) = 32 := by omega
  by_cases ht8 : text.size ≤ 8000
  case neg =>
    have H : Hid (verA root text key ends path = false) := HNo.out (fun h => ht8 h.2.2)
    have d3 : decide (8000 < (text.size : Int)) = true := decide_eq_true (by omega)
    clear hb HNo T1 T2 hr32 ht8
    go_enter Tryz.func14, Tryz.ntmps14
    go_wp2_with fail
    rw [← HW1.out]
    refine hS.mono ?_
    rintro e w1 ⟨rfl, b1⟩
    have b1 := chainB B1.out b1
    go_wp2_with fail
    go_ret
    exact ⟨ret_bool H.out.symm, b1⟩
  have d3 : decide (8000 < (text.size : Int)) = false := decide_eq_false (by omega)
  have HV : Hid (verA root text key ends path = incA (leafB (digB (upTo text ends 6))) key 4 path root) := if_pos ⟨hb, hr32, ht8⟩
  have hparts : (0 ≤ key ∧ key ≤ 3) ∧ ends.length = 6 ∧ path.length = 2 ∧ wideB ends = true := by
    unfold sgnB at hb
    rw [Bool.and_eq_true, Bool.and_eq_true, Bool.and_eq_true, Bool.and_eq_true, decide_eq_true_iff, decide_eq_true_iff, decide_eq_true_iff] at hb
    exact ⟨hb.1, hb.2.1, hb.2.2.1, hb.2.2.2.1⟩
  have HL6 : Hid (ends.length = 6) := hparts.2.1
  have HWd : Hid (∀ x ∈ ends, x.size = 32) := wideB_all hparts.2.2.2
  have HR32 : Hid (root.size = 32) := hr32
  clear hb HNo hr32 hparts
  go_enter Tryz.func14, Tryz.ntmps14
  go_wp2_with fail
  rw [← HW1.out]
  refine hS.mono ?_
  rintro e w1 ⟨rfl, b1⟩
  go_wp2_with fail
  refine (specDigits_any text w1 ht).mono ?_
  rintro e w2 ⟨v, rfl, od, b2⟩
  obtain ⟨g, cg, rfl, hcg, hg, hd⟩ := dig_form od
  have b2 := chainB b1 b2
  have HX : Hid (∀ x, Below w2.heap.size w2 x → x.cell? ⟨w.heap.size, 0, none⟩ = some (.int .i64 key) ∧ x.cell? ⟨w.heap.size, 1, none⟩ = some (.slice q1 ends.length c1) ∧ x.cell? ⟨w.heap.size, 2, none⟩ = some (.slice q2 path.length c2)) := fun x hb => by
    have h0 := ((chainB b2 hb).block w.heap.size (by rw [HZ1.out]; omega)).trans X1.out
    simp [World.cell?, h0]
  have U1 : Hid (TxtAt w2 q1 ends) := T1.out.below b2
  have U2 : Hid (TxtAt w2 q2 path) := T2.out.below b2
  have HD : Hid (DigAt w2 g text) := hd
  have B2 : Hid (Below w.heap.size w w2) := chainB B1.out b2
  obtain ⟨bb, off, rfl, _, _⟩ := U1.out 0 (by rw [HL6.out]; omega)
  clear od hd b1 b2 T1 T2 hS X1 HW1 hg
  go_wp2_with fail
  go_loopw [8, 9] (fun s i wr => ∃ (j : Nat) (T : ByteArray), s = .string T ∧ i = .int .i64 j ∧ j ≤ 6 ∧ T.size ≤ 192 ∧ Hid (T.size = 32 * j ∧ T = upTo text ends j) ∧ Hid (Below w2.heap.size w2 wr)) (fun _ i _ => 6 - (Go.RowKit.intOf i).toNat)
  case atStart => exact ⟨0, ByteArray.empty, rfl, rfl, by omega, by simp, ⟨rfl, rfl⟩, Below.refl _ _⟩
  case round =>
    obtain ⟨j, T, rfl, rfl, hj, hT, HT, HB⟩ := hrel
    by_cases hlt : j < 6
    · have d4 : decide ((j : Int) < 6) = true := decide_eq_true (by omega)
      have i1 : (j : Int) < 6 := by omega
      have hje : j < ends.length := by rw [HL6.out]; omega
      have i2 : (j : Int) < ends.length := by omega
      obtain ⟨g0, g1⟩ := dg_bd text j hlt
      have hE32 := HWd.out _ (List.getElem_mem hje)
      have HU : Hid (upTo text ends (j + 1) = upTo text ends j ++ stepsB (15 - dg text j).toNat ends[j]) := by
        show _ = _
        rw [upTo_step]; congr 2
        simp [List.getD_eq_getElem?_getD, hje]
      have HC : Hid (∀ x, Below w2.heap.size w2 x → x.cell? ⟨bb, off + j, none⟩ = some (.string ends[j]) ∧ x.cell? ⟨g, j, none⟩ = some (.int .i64 (dg text j))) := fun x hb => ⟨(U1.out.below hb).at j hje, (HD.out.below hb).2 j hlt⟩
      obtain ⟨M, hM⟩ := Int.eq_ofNat_of_zero_le (show 0 ≤ 15 - dg text j by omega)
      rw [hM, Int.toNat_natCast] at HU
      generalize ends[j] = F at *
      generalize dg text j = d at *
      have hwr : IntKind.i64.wrap (M : Int) = (M : Int) := by rw [IntKind.wrap_i64]; omega
      have QS : Hid (∀ w', Calls Tryz.prog 49 #[.string F, .int .i64 (M : Int)] w' fun e x1 => e = .returned (.string (stepsB M F)) ∧ Below w'.heap.size w' x1) := fun w' => specSteps_any F M w' (by omega) (by omega)
      have hEs := stepsB_size M F hE32
      generalize stepsB M F = E at *
      have HT2 : Hid ((T ++ E).size = 32 * (j + 1) ∧ T ++ E = upTo text ends (j + 1)) := ⟨by rw [ByteArray.size_append, HT.out.1, hEs]; omega, by rw [HU.out, HT.out.2]⟩
      have hTE : (T ++ E).size ≤ 192 := by rw [HT2.out.1]; omega
      have hE2 : E.size ≤ 32 := by omega
      obtain ⟨x0, x1, x2⟩ := HX.out _ HB.out
      obtain ⟨x3, x4⟩ := HC.out _ HB.out
      clear HU HT hEs hE32
      go_wp2_with fail
      go_region_with (first
        | (go_at_call 49; refine (QS.out _).mono ?_; rintro e y1 ⟨rfl, z1⟩; have z1 : Below w2.heap.size w2 y1 := chainB (by first | exact HB.out | exact HB.out.drew) z1))
      all_goals
        have HB3 : Hid (Below w2.heap.size w2 y1) := z1
        clear z1
        go_wp2_with fail
        go_roundw
        case rel => exact ⟨j + 1, T ++ E, rfl, by go_num, by omega, hTE, HT2, HB3⟩
        case measure => simp [Go.RowKit.intOf]; omega
    · obtain rfl : j = 6 := by omega
      rw [show ((6 : Nat) : Int) = (6 : Int) from rfl]
      have HV2 : Hid (verA root text key ends path = incA (leafB (digB T)) key 4 path root) := by show _ = _; rw [HT.out.2]; exact HV.out
      clear HV HT
      have hDs := digB_size T
      have QD : Hid (∀ w', Calls Tryz.prog 52 #[.string T] w' fun e x1 => e = .returned (.string (digB T)) ∧ Below w'.heap.size w' x1) := fun w' => specAll_any T w' (by omega)
      generalize digB T = D at *
      have hLs := leafB_size D
      have QL : Hid (∀ w', Calls Tryz.prog 51 #[.string D] w' fun e x1 => e = .returned (.string (leafB D)) ∧ Below w'.heap.size w' x1) := fun w' => specL03Leaf_any D w' (by omega)
      generalize leafB D = F at *
      have QI : Hid (∀ w', Below w2.heap.size w2 w' → Calls Tryz.prog 50 #[.string F, .int .i64 key, .int .i64 4, .slice q2 path.length c2, .string root] w' fun e x1 => e = .returned (.bool (incA F key 4 path root)) ∧ Below w'.heap.size w' x1) := fun w' hb => specInc_any F key 4 q2 c2 path root w' (U2.out.below hb) (by omega) m2 (by unfold maxLen; omega) (by unfold maxLen; omega) k0 k1 (by omega) (by omega)
      generalize incA F key 4 path root = B at *
      obtain ⟨x0, x1, x2⟩ := HX.out _ HB.out
      clear hDs hLs
      go_wp2_with fail
      go_region_with (first
        | (go_at_call 52; refine (QD.out _).mono ?_; rintro e y1 ⟨rfl, z1⟩; have z1 : Below w2.heap.size w2 y1 := chainB (by first | exact HB.out | exact HB.out.drew) z1; obtain ⟨x3, x4, x5⟩ := HX.out _ z1)
        | (go_at_call 51; refine (QL.out _).mono ?_; rintro e y2 ⟨rfl, z2⟩; have z2 : Below w2.heap.size w2 y2 := chainB (by first | exact z1 | exact z1.drew) z2; obtain ⟨x6, x7, x8⟩ := HX.out _ z2)
        | (go_at_call 50; refine (QI.out _ (by first | exact z2 | exact z2.drew)).mono ?_; rintro e y3 ⟨rfl, z3⟩; have z3 : Below w2.heap.size w2 y3 := chainB (by first | exact z2 | exact z2.drew) z3))
      all_goals
        have z4 := chainB B2.out z3
        go_wp2_with fail
        go_ret
        exact ⟨ret_bool HV2.out.symm, z4⟩
end Go.Proofs.YtonleickhincgaaGreatDoor
/-
  When names rise; a row that is not right; texts that are not too long.
-/
namespace Go.Proofs.YtonleickhincgaaGreatDoor
open Go.RowKit Go.Lib
set_option linter.unusedVariables false

theorem rise_iff : ∀ (fs : List Fld), rise fs = true ↔ ∀ j (h0 : 0 < j) (h : j < fs.length), Op.bytesLess (fs[j - 1]'(by omega)).n.toList fs[j].n.toList = true
  | [] => ⟨fun _ j h0 h => by simp at h, fun _ => rfl⟩
  | [a] => ⟨fun _ j h0 h => by simp at h; omega, fun _ => rfl⟩
  | a :: b :: r => by
    have ih := rise_iff (b :: r)
    show (Op.bytesLess a.n.toList b.n.toList && rise (b :: r)) = true ↔ _
    rw [Bool.and_eq_true, ih]
    constructor
    · rintro ⟨h1, h2⟩ j h0 h
      match j, h0 with
      | 1, _ => exact h1
      | j + 2, _ => exact h2 (j + 1) (by omega) (by simpa using h)
    · intro h
      exact ⟨h 1 (by omega) (by simp), fun j h0 hj => by
        obtain ⟨m, rfl⟩ : ∃ m, j = m + 1 := ⟨j - 1, by omega⟩
        exact h (m + 1 + 1) (by omega) (by simpa using hj)⟩
theorem rwB_not_all {k : ByteArray} {at_ : Int} {fs : List Fld} {i : Nat} (hi : i < fs.length) (h : fdB fs[i] = false) : rwB k at_ fs = false := by
  cases hr : rwB k at_ fs with
  | false => rfl
  | true =>
    have := (rwB_parts hr).2.2.2.1 _ (List.getElem_mem hi)
    rw [h] at this; cases this
theorem rwB_not_rise {k : ByteArray} {at_ : Int} {fs : List Fld} {i : Nat} (h0 : 0 < i) (hi : i < fs.length) (h : Op.bytesLess (fs[i - 1]'(by omega)).n.toList fs[i].n.toList = false) : rwB k at_ fs = false := by
  cases hr : rwB k at_ fs with
  | false => rfl
  | true =>
    have := (rise_iff fs).1 (rwB_parts hr).2.2.2.2 i h0 hi
    rw [h] at this; cases this
/-- No text of a field is too long to be read. -/
def FldsLe (fs : List Fld) : Prop := ∀ f ∈ fs, f.n.size ≤ maxLen ∧ f.c.size ≤ maxLen ∧ f.s.size ≤ maxLen ∧ f.v.size ≤ maxLen
end Go.Proofs.YtonleickhincgaaGreatDoor
/-
  How the bytes of a number are read, in plain mathematics: 'scan' goes over the groups of seven bits and hands back the code, the bits, and how many bytes it took.
-/
namespace Go.Proofs.YtonleickhincgaaGreatDoor
open Go.RowKit Go.Lib
set_option linter.unusedVariables false

def scan : Nat → Nat → Int → List UInt8 → Int × Int × Nat
  | 0, _, _, _ => (3, 0, 0)
  | _ + 1, _, _, [] => (4, 0, 0)
  | f + 1, k, u, c :: r =>
    if k = 9 ∧ 1 < (c.toNat : Int) then (3, 0, 0)
    else if (c.toNat : Int) < 128 then (if (c.toNat : Int) = 0 ∧ 0 < k then (3, 0, 0) else (0, u + (c.toNat : Int) * 2 ^ (7 * k), k + 1))
    else scan f (k + 1) (u + ((c.toNat : Int) - 128) * 2 ^ (7 * k)) r

def unfoldN (u : Int) : Int := if u % 2 = 1 then -(u / 2) - 1 else u / 2
def numOut (n a c : Int) : Value := .agg #[.int .i64 n, .int .i64 a, .int .i64 c]
def scanAt (s : ByteArray) (a : Nat) : Int × Int × Nat := scan 10 0 0 (s.data.toList.drop a)
def getN (s : ByteArray) (a : Int) : Int × Int × Int :=
  if 8000 < s.size then (0, 0, 2) else if a < 0 then (0, 0, 1) else
  if (scanAt s a.toNat).1 = 0 then (unfoldN (scanAt s a.toNat).2.1, a + (scanAt s a.toNat).2.2, 0) else (0, 0, (scanAt s a.toNat).1)

def GetTo (s : ByteArray) (a k : Nat) (u : Int) : Prop :=
  k ≤ 9 ∧ 0 ≤ u ∧ u < 2 ^ (7 * k) ∧ scanAt s a = scan (10 - k) k u (s.data.toList.drop (a + k))

theorem getTo_start (s : ByteArray) (a : Nat) : GetTo s a 0 0 := ⟨by omega, Int.le_refl _, by decide, rfl⟩

theorem drop_cons (s : ByteArray) (i : Nat) (h : i < s.size) : s.data.toList.drop i = s[i] :: s.data.toList.drop (i + 1) := by
  rw [List.drop_eq_getElem_cons (by simpa using h)]; rfl

theorem getTo_short {s : ByteArray} {a k : Nat} {u : Int} (h : GetTo s a k u) (hl : s.size ≤ a + k) : scanAt s a = (4, 0, 0) := by
  obtain ⟨hk, _, _, he⟩ := h
  rw [he, List.drop_of_length_le (by simpa using hl), show 10 - k = (9 - k) + 1 by omega]; rfl

theorem getTo_big {s : ByteArray} {a k : Nat} {u : Int} (h : GetTo s a k u) (hl : a + k < s.size) (hk9 : k = 9) (hc : 1 < (s[a + k].toNat : Int)) : scanAt s a = (3, 0, 0) := by
  obtain ⟨hk, _, _, he⟩ := h
  rw [he, drop_cons s _ hl, show 10 - k = (9 - k) + 1 by omega, scan, if_pos ⟨hk9, hc⟩]

theorem getTo_zero {s : ByteArray} {a k : Nat} {u : Int} (h : GetTo s a k u) (hl : a + k < s.size) (hc : (s[a + k].toNat : Int) = 0) (hp : 0 < k) : scanAt s a = (3, 0, 0) := by
  obtain ⟨hk, _, _, he⟩ := h
  rw [he, drop_cons s _ hl, show 10 - k = (9 - k) + 1 by omega, scan, if_neg (by omega), if_pos (by omega), if_pos ⟨hc, hp⟩]

theorem getTo_ok {s : ByteArray} {a k : Nat} {u : Int} (h : GetTo s a k u) (hl : a + k < s.size) (hc : (s[a + k].toNat : Int) < 128) (h9 : k = 9 → (s[a + k].toNat : Int) ≤ 1) (hz : 0 < k → (s[a + k].toNat : Int) ≠ 0) :
    scanAt s a = (0, u + (s[a + k].toNat : Int) * 2 ^ (7 * k), k + 1) := by
  obtain ⟨hk, _, _, he⟩ := h
  rw [he, drop_cons s _ hl, show 10 - k = (9 - k) + 1 by omega, scan, if_neg (fun ⟨x, y⟩ => by have := h9 x; omega), if_pos hc, if_neg (fun ⟨x, y⟩ => hz y x)]

theorem pow7 (k : Nat) : (2 : Int) ^ (7 * (k + 1)) = 128 * 2 ^ (7 * k) := by
  rw [show 7 * (k + 1) = 7 * k + 7 by omega, Int.pow_add, show (2 : Int) ^ 7 = 128 by decide, Int.mul_comm]

theorem pow7_le : ∀ k : Nat, k ≤ 9 → (1 : Int) ≤ 2 ^ (7 * k) ∧ (2 : Int) ^ (7 * k) ≤ 9223372036854775808
  | 0, _ => by decide
  | 1, _ => by decide
  | 2, _ => by decide
  | 3, _ => by decide
  | 4, _ => by decide
  | 5, _ => by decide
  | 6, _ => by decide
  | 7, _ => by decide
  | 8, _ => by decide
  | 9, _ => by decide
  | k + 10, h => by omega

theorem pow7_le8 (k : Nat) (h : k ≤ 8) : (2 : Int) ^ (7 * k) ≤ 72057594037927936 := by
  have := (pow7_le (k + 1) (by omega)).2
  rw [pow7] at this; omega

theorem getTo_more {s : ByteArray} {a k : Nat} {u : Int} (h : GetTo s a k u) (hl : a + k < s.size) (hk8 : k ≤ 8) (hc : 128 ≤ (s[a + k].toNat : Int)) :
    GetTo s a (k + 1) (u + ((s[a + k].toNat : Int) - 128) * 2 ^ (7 * k)) := by
  obtain ⟨hk, h0, h1, he⟩ := h
  have hcb : (s[a + k].toNat : Int) ≤ 255 := by have := s[a + k].toNat_lt; omega
  have hp := (pow7_le k hk).1
  refine ⟨by omega, ?_, ?_, ?_⟩
  · have : 0 ≤ ((s[a + k].toNat : Int) - 128) * 2 ^ (7 * k) := Int.mul_nonneg (by omega) (by omega)
    omega
  · rw [pow7]
    have : ((s[a + k].toNat : Int) - 128) * 2 ^ (7 * k) ≤ 127 * 2 ^ (7 * k) := Int.mul_le_mul_of_nonneg_right (by omega) (by omega)
    omega
  · rw [he, drop_cons s _ hl, show 10 - k = (10 - (k + 1)) + 1 by omega, scan, if_neg (by omega), if_neg (by omega)]; rfl

/-- What is added at one byte stays below 2^64. -/
theorem add_fits {k : Nat} {u x : Int} (hk : k ≤ 9) (h0 : 0 ≤ u) (h1 : u < 2 ^ (7 * k)) (x0 : 0 ≤ x) (x1 : x ≤ 127) (x9 : k = 9 → x ≤ 1) :
    0 ≤ x * 2 ^ (7 * k) ∧ u + x * 2 ^ (7 * k) < 18446744073709551616 := by
  have hp := pow7_le k hk
  refine ⟨Int.mul_nonneg x0 (by omega), ?_⟩
  by_cases h9 : k = 9
  · have := x9 h9
    have : x * 2 ^ (7 * k) ≤ 1 * 2 ^ (7 * k) := Int.mul_le_mul_of_nonneg_right (by omega) (by omega)
    omega
  · have h8 := pow7_le8 k (by omega)
    have : x * 2 ^ (7 * k) ≤ 127 * 2 ^ (7 * k) := Int.mul_le_mul_of_nonneg_right (by omega) (by omega)
    omega

theorem wrap_small (x : Int) (h0 : 0 ≤ x) (h1 : x < 18446744073709551616) : IntKind.u64.wrap x = x := by
  simp [IntKind.wrap, IntKind.bits, IntKind.signed]; omega

theorem spec_add {k : Nat} {u x : Int} (hk : k ≤ 9) (h0 : 0 ≤ u) (h1 : u < 2 ^ (7 * k)) (x0 : 0 ≤ x) (x1 : x ≤ 127) (x9 : k = 9 → x ≤ 1) :
    IntKind.u64.wrap (u + IntKind.u64.wrap (x * 2 ^ (7 * k))) = u + x * 2 ^ (7 * k) := by
  have h := add_fits hk h0 h1 x0 x1 x9
  rw [wrap_small (x * 2 ^ (7 * k)) h.1 (by omega), wrap_small _ (by omega) h.2]

theorem impl_or {k : Nat} {u x : Int} (hk : k ≤ 9) (h0 : 0 ≤ u) (h1 : u < 2 ^ (7 * k)) (x0 : 0 ≤ x) (x1 : x ≤ 127) (x9 : k = 9 → x ≤ 1) :
    bits .or .u64 u (IntKind.u64.wrap (x * 2 ^ (7 * k))) = u + x * 2 ^ (7 * k) := by
  have h := add_fits hk h0 h1 x0 x1 x9
  rw [wrap_small (x * 2 ^ (7 * k)) h.1 (by omega)]
  obtain ⟨a, rfl⟩ := Int.eq_ofNat_of_zero_le h0
  obtain ⟨b, rfl⟩ := Int.eq_ofNat_of_zero_le x0
  have e : ((b : Int) * 2 ^ (7 * k)) = ((b * 2 ^ (7 * k) : Nat) : Int) := by rw [Int.natCast_mul, Int.natCast_pow]; rfl
  have ha : a < 2 ^ (7 * k) := by
    have : (a : Int) < ((2 ^ (7 * k) : Nat) : Int) := by rw [Int.natCast_pow]; exact h1
    omega
  rw [e] at h ⊢
  rw [bits_or_u64_nat a (b * 2 ^ (7 * k)) (by omega) (by omega)]
  have : a ||| b * 2 ^ (7 * k) = a + b * 2 ^ (7 * k) := by
    rw [Nat.or_comm, Nat.mul_comm, ← Nat.two_pow_add_eq_or_of_lt ha, Nat.add_comm]
  rw [this]; omega

theorem and127 (x : Int) (h0 : 0 ≤ x) (h1 : x ≤ 255) : bits .and .u8 x 127 = x % 128 := by
  have key : ∀ y : Fin 256, bits .and .u8 ((y.val : Nat) : Int) 127 = ((y.val % 128 : Nat) : Int) := by decide +kernel
  have := key ⟨x.toNat, by omega⟩
  simp only at this
  rw [show ((x.toNat : Nat) : Int) = x by omega] at this
  rw [this]; omega

theorem and1 (u : Int) (h0 : 0 ≤ u) (h1 : u < 18446744073709551616) : bits .and .u64 u 1 = u % 2 := by
  obtain ⟨a, rfl⟩ := Int.eq_ofNat_of_zero_le h0
  have : bits .and .u64 (a : Int) ((1 : Nat) : Int) = ((a &&& 1 : Nat) : Int) := bits_and_u64_nat a 1 (by omega) (by omega)
  rw [show ((1 : Nat) : Int) = 1 from rfl] at this
  rw [this, Nat.and_one_is_mod]; omega

theorem not64 (x : Int) (h0 : 0 ≤ x) (h1 : x ≤ 9223372036854775807) : bits .xor .i64 (-1) x = -x - 1 := by
  obtain ⟨a, rfl⟩ := Int.eq_ofNat_of_zero_le h0
  show IntKind.i64.wrap ((BitVec.ofInt 64 (-1) ^^^ BitVec.ofInt 64 (a : Int)).toNat : Int) = _
  have h2 : BitVec.ofInt 64 (-1) = BitVec.allOnes 64 := by decide
  rw [h2, BitVec.allOnes_xor, BitVec.toNat_not, BitVec.ofInt_natCast, BitVec.toNat_ofNat, Nat.mod_eq_of_lt (by omega)]
  simp [IntKind.wrap, IntKind.bits, IntKind.signed]; omega

theorem scan_bd : ∀ (f k : Nat) (u : Int) (l : List UInt8), k + f = 10 → 0 ≤ u → u < 2 ^ (7 * k) →
    ((scan f k u l).1 = 0 ∧ 0 ≤ (scan f k u l).2.1 ∧ (scan f k u l).2.1 ≤ 18446744073709551615 ∧ k < (scan f k u l).2.2 ∧ (scan f k u l).2.2 ≤ 10 ∧ (scan f k u l).2.2 ≤ k + l.length) ∨
    (((scan f k u l).1 = 3 ∨ (scan f k u l).1 = 4) ∧ (scan f k u l).2.1 = 0 ∧ (scan f k u l).2.2 = 0)
  | 0, k, u, l, _, _, _ => .inr ⟨.inl rfl, rfl, rfl⟩
  | f + 1, k, u, [], _, _, _ => .inr ⟨.inr rfl, rfl, rfl⟩
  | f + 1, k, u, c :: r, hk, h0, h1 => by
    rw [scan]
    have hcb : (c.toNat : Int) ≤ 255 := by have := c.toNat_lt; omega
    split
    · exact .inr ⟨.inl rfl, rfl, rfl⟩
    · rename_i h9
      split
      · rename_i hc
        split
        · exact .inr ⟨.inl rfl, rfl, rfl⟩
        · have hf := add_fits (x := (c.toNat : Int)) (by omega) h0 h1 (by omega) (by omega) (fun e => by omega)
          exact .inl ⟨rfl, by show 0 ≤ u + _; omega, by show u + _ ≤ _; omega, Nat.lt_succ_self k, by show k + 1 ≤ 10; omega, by show k + 1 ≤ _; simp⟩
      · rename_i hc
        have hk8 : k ≤ 8 := by omega
        have hp := (pow7_le k (by omega)).1
        have m0 : 0 ≤ ((c.toNat : Int) - 128) * 2 ^ (7 * k) := Int.mul_nonneg (by omega) (by omega)
        have m1 : ((c.toNat : Int) - 128) * 2 ^ (7 * k) ≤ 127 * 2 ^ (7 * k) := Int.mul_le_mul_of_nonneg_right (by omega) (by omega)
        rcases scan_bd f (k + 1) (u + ((c.toNat : Int) - 128) * 2 ^ (7 * k)) r (by omega) (by omega) (by rw [pow7]; omega) with h | h
        · exact .inl ⟨h.1, h.2.1, h.2.2.1, by omega, h.2.2.2.2.1, by have := h.2.2.2.2.2; simp; omega⟩
        · exact .inr h

theorem scanAt_bd (s : ByteArray) (a : Nat) :
    ((scanAt s a).1 = 0 ∧ 0 ≤ (scanAt s a).2.1 ∧ (scanAt s a).2.1 ≤ 18446744073709551615 ∧ (scanAt s a).2.2 ≤ 10 ∧ a + (scanAt s a).2.2 ≤ s.size) ∨
    (((scanAt s a).1 = 3 ∨ (scanAt s a).1 = 4) ∧ (scanAt s a).2.1 = 0 ∧ (scanAt s a).2.2 = 0) := by
  rcases scan_bd 10 0 0 (s.data.toList.drop a) rfl (Int.le_refl _) (by decide) with h | h
  · refine .inl ⟨h.1, h.2.1, h.2.2.1, h.2.2.2.2.1, ?_⟩
    have h2 := h.2.2.2.1
    have h3 := h.2.2.2.2.2
    rw [List.length_drop] at h3
    have e : s.data.toList.length = s.size := by simp
    unfold scanAt; omega
  · exact .inr h
end Go.Proofs.YtonleickhincgaaGreatDoor
