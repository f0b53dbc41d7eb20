/-
  The law FnTree returns true at any two codes of at most 2^20 bytes, where the two tables lie as the program's text lays them.
-/
import Derived.Test.YtclpccnppmbpcaaDoorRows
import Derived.Test.YtclpccnppmbpcaaDoorBytes
import Derived.Test.YtclpccnppmbpcaaDoorDigMath
import Derived.Test.YtclpccnppmbpcaaDoorTabsOf
import Derived.Test.YtclpccnppmbpcaaDoorLeafNode
import Derived.Test.YtclpccnppmbpcaaDoorSpecNode
import Derived.Test.YtclpccnppmbpcaaDoorTreeTree2TreeH
import Derived.Test.YtclpccnppmbpcaaDoorPathI
import Derived.Test.YtclpccnppmbpcaaDoorPath2
import Derived.Test.YtclpccnppmbpcaaDoorIncI
import Derived.Test.YtclpccnppmbpcaaDoorInc2
import Derived.Test.YtclpccnppmbpcaaDoorAddI
import Derived.Test.YtclpccnppmbpcaaDoorAdd2
import Derived.Test.YtclpccnppmbpcaaDoorRootI
import Derived.Test.YtclpccnppmbpcaaDoorRangeLaw
import Derived.Test.YtclpccnppmbpcaaDoorConMathProofLaw
import Derived.Test.YtclpccnppmbpcaaDoorDrawKit
import Derived.Test.YtclpccnppmbpcaaDoorDrawTreeDigest
import Derived.Test.YtclpccnppmbpcaaDoorDrawNodeSpecLeaf
import Derived.Test.YtclpccnppmbpcaaDoorDrawInc
import Derived.Test.YtclpccnppmbpcaaDoorDrawAdd
import Derived.Handy
import Derived.WalkSpells
import Derived.Deep.RegionLaw
import Derived.Deep.RegionWith
namespace Go.Proofs.YtclpccnppmbpcaaDoor
open Go.RowKit Go.Lib
set_option linter.unusedVariables false
set_option maxRecDepth 20000

/-- A range in a box. -/
def BoxAt (w : World) (g : Nat) (n : Int) (v : Value) : Prop := w.heap[g]? = some (.cells #[.int .i64 n, v] 48 (0, 0))
theorem BoxAt.below {w w' : World} {g : Nat} {n : Int} {v : Value} (h : BoxAt w g n v) (hb : Below w.heap.size w w') : BoxAt w' g n v := (hb.block g (lt_of_block h)).trans h
theorem BoxAt.cells {w : World} {g : Nat} {n : Int} {v : Value} (h : BoxAt w g n v) : w.cell? ⟨g, 0, none⟩ = some (.int .i64 n) ∧ w.cell? ⟨g, 1, none⟩ = some v := by
  unfold BoxAt at h; simp [World.cell?, h]
theorem boxAt_new (w : World) (n : Int) (v : Value) : BoxAt (w.alloc (.cells #[.int .i64 n, v] 48)) w.heap.size n v := (MapKept.heap_alloc w _).1
theorem ones24 (x : Nat) (h : x < 1048576) : onesN x ≤ 24 := by
  obtain ⟨_, _, _, _, _, _, _, _, _, _, _, _, _, _, h7⟩ := swar x h
  exact h7
theorem belowA (w : World) (o : Obj) : Below w.heap.size w (w.alloc o) := (Below.refl _ _).alloc (Nat.le_refl _) _

set_option maxHeartbeats 4000000 in
theorem fnTree_any (a0 : Option Addr) (len0 cap0 : Nat) (a1 : Option Addr) (len1 cap1 : Nat) (w : World) (hl0 : len0 ≤ 1048576) (hl1 : len1 ≤ 1048576) (c0 : CodeAt w.heap.size a0 len0 w) (c1 : CodeAt w.heap.size a1 len1 w) (hT : Tabs w) :
    Calls Tryd.prog 5 #[.slice a0 len0 cap0, .slice a1 len1 cap1] w fun e w' => e = .returned (.bool true) ∧ Below w.heap.size w w' := by
  have C0 : Hid (CodeAt w.heap.size a0 len0 w) := c0
  have C1 : Hid (CodeAt w.heap.size a1 len1 w) := c1
  have HT : Hid (Tabs w) := hT
  clear c0 c1 hT
  have d1 : decide (1048576 < (len0 : Int)) = false := by simp; omega
  have d2 : decide (1048576 < (len1 : Int)) = false := by simp; omega
  go_enter Tryd.func5, Tryd.ntmps5
  go_wp2_with fail
  refine (drawPath_any w.heap.size a0 len0 cap0 _ hl0 (Nat.le_refl _) C0.out).mono ?_
  rintro e w1 ⟨⟨v, L, r, rfl, hd, hL, r0, r1⟩, b1⟩
  clear d1 d2 C0
  obtain ⟨q, cq, rfl, hcq, ht, _, hx⟩ := hd
  have HQ1 : Hid (TxtAt w1 q L) := ht
  clear ht hx
  -- TreeHash, PathOf, both ways
  go_wp2_with fail
  refine (implTree_any q cq L w1 (HT.out.below b1 HT.out.1) HQ1.out (by omega) hcq).mono ?_
  rintro e w2 ⟨rfl, b2⟩
  have HQ2 : Hid (TxtAt w2 q L) := HQ1.out.below b2
  have b2 := chainB b1 b2
  clear HQ1 b1
  go_wp2_with fail
  refine (implPath_any q cq L r w2 (HT.out.below b2 HT.out.1) HQ2.out (by omega) hcq (by omega) (by omega)).mono ?_
  rintro e w3 ⟨v3, rfl, o3, b3⟩
  have HQ3 : Hid (TxtAt w3 q L) := HQ2.out.below b3
  have b3 := chainB b2 b3
  have hPf := pathA_few L r
  obtain ⟨p3, c3, rfl, hc3, t3⟩ := ownS_form o3
  have HT3 : Hid (TxtAt w3 p3 (pathA L r)) := t3
  clear o3 t3 HQ2 b2
  go_wp2_with fail
  refine (specTree_any q cq L w3 HQ3.out (by omega) hcq).mono ?_
  rintro e w4 ⟨rfl, b4⟩
  have HQ4 : Hid (TxtAt w4 q L) := HQ3.out.below b4
  have HT4 : Hid (TxtAt w4 p3 (pathA L r)) := HT3.out.below b4
  have b4 := chainB b3 b4
  clear HQ3 HT3 b3
  go_wp2_with fail
  refine (specPath_any q cq L r w4 HQ4.out (by omega) hcq (by omega) (by omega)).mono ?_
  rintro e w5 ⟨v5, rfl, o5, b5⟩
  have HQ5 : Hid (TxtAt w5 q L) := HQ4.out.below b5
  have HT5 : Hid (TxtAt w5 p3 (pathA L r)) := HT4.out.below b5
  have b5 := chainB b4 b5
  obtain ⟨p5, c5, rfl, hc5, t5⟩ := ownS_form o5
  have HT5' : Hid (TxtAt w5 p5 (pathA L r)) := t5
  clear o5 t5 HQ4 HT4 b4
  generalize pathA L r = P at *
  go_wp2_with fail
  have hE := texts_any p3 p5 c3 c5 P P w5 HT5.out HT5'.out (by omega) (by omega) hc3 hc5
  rw [decide_eq_true rfl] at hE
  refine hE.mono ?_
  rintro e w6 ⟨rfl, b6⟩
  have HQ6 : Hid (TxtAt w6 q L) := HQ5.out.below b6
  have b6 := chainB b5 b6
  clear hE HT5 HT5' HQ5 b5 hPf hc3 hc5
  have HEnt : Hid (treeA L ≠ ByteArray.empty → entB L = true) := fun h => treeA_ent h
  have HLaw : Hid (∀ k : Nat, (hk : k < L.length) → treeA L ≠ ByteArray.empty → incA (leafA L[k]) k L.length (pathA L k) (treeA L) = true) := fun k hk h => by
    have he := treeA_ent h
    have h1 : leafA L[k] = leafB L[k] := if_pos (entB_all he _ (List.getElem_mem hk))
    rw [h1]; exact inc_true he k hk
  have HRoot : Hid (treeA L ≠ ByteArray.empty → rngRootA L.length (nds 0 L.length L) = treeA L) := fun h => by
    have he := treeA_ent h
    have h1 : treeA L = treeB L := if_pos he
    rw [h1]
    by_cases h0 : L.length = 0
    · exact range_none L h0
    · exact range_root L (by omega) (entB_len he)
  have HRs := treeA_le L
  generalize treeA L = R at *
  by_cases hR : R = ByteArray.empty
  · have hE2 : R.toList.isEmpty = true := by rw [hR, ByteArray.toList_eq]; rfl
    have HB : Hid (Below w.heap.size w w6) := b6
    clear hR HEnt HLaw HRoot HQ6 b6
    -- what is drawn besides
    go_wp2_with fail
    refine (drawInc_any w.heap.size a1 len1 cap1 w6 hl1 HB.out.size (C1.out.below HB.out)).mono ?_
    rintro e y1 ⟨⟨m, n, v, L1, was, root, rfl, hf, m0, m1, n0, n1, hw, hr⟩, z1⟩
    obtain ⟨q1, k1, rfl, hk1, ht1, hl1', _⟩ := hf
    have z1 := chainB HB.out z1
    have T1 : Hid (TxtAt y1 q1 L1) := ht1
    have HW1 : Hid (was.size ≤ maxLen ∧ root.size ≤ maxLen) := by constructor <;> unfold maxLen <;> omega
    clear ht1 HB hw hr
    go_wp2_with fail
    refine (drawAdd_any w.heap.size a1 len1 cap1 y1 hl1 z1.size (C1.out.below z1)).mono ?_
    rintro e y2 ⟨⟨N, v, L2, t, rfl, hf, ht, N0, N1⟩, z2⟩
    obtain ⟨q2, k2, rfl, hk2, ht2, hl2, hs2⟩ := hf
    have T2 : Hid (TxtAt y2 q1 L1) := T1.out.below z2
    have z2 := chainB z1 z2
    obtain ⟨Y2, hY2⟩ : ∃ Y2, Y2 = y2.alloc (.cells #[.int .i64 N, .slice q2 L2.length k2] 48) := ⟨_, rfl⟩
    have HY2 : Hid (Y2 = y2.alloc (.cells #[.int .i64 N, .slice q2 L2.length k2] 48)) := hY2
    have zA : Below y2.heap.size y2 Y2 := by rw [hY2]; exact belowA _ _
    have X2 : Hid (BoxAt Y2 y2.heap.size N (.slice q2 L2.length k2)) := by rw [hY2]; exact boxAt_new _ _ _
    have U2 : Hid (TxtAt Y2 q2 L2) := TxtAt.below ht2 zA
    have T2' : Hid (TxtAt Y2 q1 L1) := T2.out.below zA
    have z2' := chainB z2 zA
    have HS2 : Hid (∀ x ∈ L2, x.size ≤ 1048576) := fun x hx => by have := hs2 x hx; omega
    have ht' : t.size ≤ maxLen := by unfold maxLen; omega
    obtain ⟨x0, x1⟩ := X2.out.cells
    clear hY2 zA T1 T2 z1 z2 ht2 hs2
    go_wp2_with fail
    rw [← HY2.out]
    refine (implAdd_any N q2 k2 L2 t Y2 (HT.out.below z2' HT.out.1) U2.out (by omega) hk2 HS2.out ht' (by omega) (by omega)).mono ?_
    rintro e y3 ⟨v, rfl, o3, z3⟩
    obtain ⟨q3, k3, rfl, hk3, t3⟩ := ownS_form o3
    have hAl := addL_len N L2 t
    obtain ⟨Y3, hY3⟩ : ∃ Y3, Y3 = y3.alloc (.cells #[.int .i64 (addN N L2 t), .slice q3 (addL N L2 t).length k3] 48) := ⟨_, rfl⟩
    have HY3 : Hid (Y3 = y3.alloc (.cells #[.int .i64 (addN N L2 t), .slice q3 (addL N L2 t).length k3] 48)) := hY3
    have zB : Below y3.heap.size y3 Y3 := by rw [hY3]; exact belowA _ _
    have z3' := chainB z3 zB
    have X3 : Hid (BoxAt Y3 y3.heap.size (addN N L2 t) (.slice q3 (addL N L2 t).length k3)) := by rw [hY3]; exact boxAt_new _ _ _
    have X3' : Hid (BoxAt Y3 y2.heap.size N (.slice q2 L2.length k2)) := X2.out.below z3'
    have U3 : Hid (TxtAt Y3 q2 L2) := U2.out.below z3'
    have V3 : Hid (TxtAt Y3 q3 (addL N L2 t)) := TxtAt.below t3 zB
    have T3 : Hid (TxtAt Y3 q1 L1) := T2'.out.below z3'
    have z3 := chainB z2' z3'
    obtain ⟨x2, x3⟩ := X3'.out.cells
    rw [hY3] at x2 x3
    clear hY3 zB z3' z2' X2 U2 T2' o3 t3 x0 x1
    go_wp2_with fail
    rw [← HY3.out]
    refine (specAdd_any N q2 k2 L2 t Y3 U3.out (by omega) hk2 HS2.out ht' (by omega) (by omega)).mono ?_
    rintro e y4 ⟨v, rfl, o4, z4⟩
    obtain ⟨q4, k4, rfl, hk4, t4⟩ := ownS_form o4
    obtain ⟨Y4, hY4⟩ : ∃ Y4, Y4 = y4.alloc (.cells #[.int .i64 (addN N L2 t), .slice q4 (addL N L2 t).length k4] 48) := ⟨_, rfl⟩
    have HY4 : Hid (Y4 = y4.alloc (.cells #[.int .i64 (addN N L2 t), .slice q4 (addL N L2 t).length k4] 48)) := hY4
    have zC : Below y4.heap.size y4 Y4 := by rw [hY4]; exact belowA _ _
    have z4' := chainB z4 zC
    have X4 : Hid (BoxAt Y4 y4.heap.size (addN N L2 t) (.slice q4 (addL N L2 t).length k4)) := by rw [hY4]; exact boxAt_new _ _ _
    have X4' : Hid (BoxAt Y4 y3.heap.size (addN N L2 t) (.slice q3 (addL N L2 t).length k3)) := X3.out.below z4'
    have V4 : Hid (TxtAt Y4 q3 (addL N L2 t)) := V3.out.below z4'
    have V4' : Hid (TxtAt Y4 q4 (addL N L2 t)) := TxtAt.below t4 zC
    have T4 : Hid (TxtAt Y4 q1 L1) := T3.out.below z4'
    have z4 := chainB z3 z4'
    clear hY4 zC z4' z3 X3 X3' U3 V3 T3 o4 t4 x2 x3 HY3
    generalize addN N L2 t = A at *
    generalize addL N L2 t = M at *
    go_wp2_with fail
    rw [← HY4.out]
    refine (drawNode_any w.heap.size a1 len1 cap1 Y4 hl1 z4.size (C1.out.below z4)).mono ?_
    rintro e y5 ⟨⟨X, Y, rfl, hX, hY⟩, z5⟩
    have X5 : Hid (BoxAt y5 y4.heap.size A (.slice q4 M.length k4)) := X4.out.below z5
    have X5' : Hid (BoxAt y5 y3.heap.size A (.slice q3 M.length k3)) := X4'.out.below z5
    have V5 : Hid (TxtAt y5 q3 M) := V4.out.below z5
    have V5' : Hid (TxtAt y5 q4 M) := V4'.out.below z5
    have T5 : Hid (TxtAt y5 q1 L1) := T4.out.below z5
    have z5 := chainB z4 z5
    clear z4 X4 X4' V4 V4' T4 HY4
    go_wp2_with fail
    refine (implInc_any was m n q1 k1 L1 root y5 (HT.out.below z5 HT.out.1) T5.out (by omega) hk1 m0 m1 n0 n1).mono ?_
    rintro e y6 ⟨rfl, z6⟩
    have X6 : Hid (BoxAt y6 y4.heap.size A (.slice q4 M.length k4)) := X5.out.below z6
    have X6' : Hid (BoxAt y6 y3.heap.size A (.slice q3 M.length k3)) := X5'.out.below z6
    have V6 : Hid (TxtAt y6 q3 M) := V5.out.below z6
    have V6' : Hid (TxtAt y6 q4 M) := V5'.out.below z6
    have T6 : Hid (TxtAt y6 q1 L1) := T5.out.below z6
    have z6 := chainB z5 z6
    clear z5 X5 X5' V5 V5' T5
    go_wp2_with fail
    refine (specInc_any was m n q1 k1 L1 root y6 T6.out (by omega) hk1 HW1.out.1 HW1.out.2 m0 m1 n0 n1).mono ?_
    rintro e y7 ⟨rfl, z7⟩
    have X7 : Hid (BoxAt y7 y4.heap.size A (.slice q4 M.length k4)) := X6.out.below z7
    have X7' : Hid (BoxAt y7 y3.heap.size A (.slice q3 M.length k3)) := X6'.out.below z7
    have hE := texts_any q3 q4 k3 k4 M M y7 (V6.out.below z7) (V6'.out.below z7) (by omega) (by omega) hk3 hk4
    rw [decide_eq_true rfl] at hE
    have z7 := chainB z6 z7
    obtain ⟨x4, x5⟩ := X7.out.cells
    obtain ⟨x6, x7⟩ := X7'.out.cells
    clear z6 X6 X6' V6 V6' T6
    generalize incA was m n L1 root = B at *
    go_wp2_with fail
    refine hE.mono ?_
    rintro e y8 ⟨rfl, z8⟩
    have z8 := chainB z7 z8
    clear hE x4 x5 x6 x7 X7 X7' z7
    go_wp2_with fail
    refine (implNode_any X Y y8 (HT.out.below z8 HT.out.1) (by unfold maxLen; omega) (by unfold maxLen; omega)).mono ?_
    rintro e y9 ⟨rfl, z9⟩
    have z9 := chainB z8 z9
    clear z8
    go_wp2_with fail
    refine (specNode_any X Y y9 (by unfold maxLen; omega) (by unfold maxLen; omega)).mono ?_
    rintro e y10 ⟨rfl, z10⟩
    have z10 := chainB z9 z10
    clear z9
    generalize nodeA X Y = G at *
    go_wp2_with fail
    go_ret
    exact ⟨ret_bool (by simp), z10⟩
  · have hne : R.toList.isEmpty = false := by
      rw [List.isEmpty_eq_false_iff]; exact fun h => hR (toList_inj (by rw [h, ByteArray.toList_eq]; rfl))
    have hent := HEnt.out hR
    have hl64 := entB_len hent
    have HSm : Hid (∀ x ∈ L, x.size ≤ 100) := entB_all hent
    have HRt : Hid (rngRootA L.length (nds 0 L.length L) = R) := HRoot.out hR
    have HLw : Hid (∀ k : Nat, (hk : k < L.length) → incA (leafA L[k]) k L.length (pathA L k) R = true) := fun k hk => HLaw.out k hk hR
    have B6 : Hid (Below w.heap.size w w6) := b6
    have A6 : Hid (AddS w6 w6.heap.size 0 (.slice none 0 0) (nds 0 0 L) (w6.alloc (.cells #[.int .i64 0, .slice none 0 0] 48))) := by
      rw [nds_zero]
      exact ⟨belowA _ _, Nat.le_refl _, (MapKept.heap_alloc w6 _).1, World.ownsRow_nil _ _ _ _⟩
    clear hent HEnt HLaw HRoot hR b6
    go_wp2_with fail
    go_loopw [10] (fun i wr => ∃ (k : Nat) (v : Value), i = .int .i64 k ∧ k ≤ L.length ∧ Hid (AddS w6 w6.heap.size k v (nds 0 k L) wr)) (fun i _ => L.length - (RowKit.intOf i).toNat)
    case atStart => exact ⟨0, _, rfl, by omega, A6⟩
    case round =>
      clear A6
      obtain ⟨k, v, rfl, hk, HA⟩ := hrel
      obtain ⟨c0, c1, f0, f1⟩ := HA.out.cells
      obtain ⟨qn, cn, rfl, hcn, _⟩ := ownS_form HA.out.own
      by_cases hlt : k < L.length
      · obtain ⟨bb, off, rfl, _, _⟩ := HQ6.out 0 (by omega)
        have d1 : decide ((k : Int) < L.length) = true := decide_eq_true (by omega)
        have i1 : (k : Int) < L.length := by omega
        have hs := HSm.out _ (List.getElem_mem hlt)
        have hlaw := HLw.out k hlt
        obtain ⟨e1, e2⟩ := add_nds k L hlt hl64 hs
        have hnl := nds_len k 0 L
        have HC : Hid (∀ x, Below w6.heap.size w6 x → x.cell? ⟨bb, off + k, none⟩ = some (.string L[k])) := fun x hb => (HQ6.out.below hb).at k hlt
        have QA : Hid (∀ x, AddS w6 w6.heap.size k (.slice qn (nds 0 k L).length cn) (nds 0 k L) x → Calls Tryd.prog 30 #[.agg #[.int .i64 (k : Int), .slice qn (nds 0 k L).length cn], .string L[k]] x fun e x1 => ∃ q3 c3, e = .returned (.agg #[.int .i64 ((k : Int) + 1), .slice q3 (nds 0 (k + 1) L).length c3]) ∧ x1.ownsRow w6.heap.size 9 1 (.slice q3 (nds 0 (k + 1) L).length c3) (nds 0 (k + 1) L).length (strRow (nds 0 (k + 1) L)) ∧ AddS w6 w6.heap.size k (.slice qn (nds 0 k L).length cn) (nds 0 k L) x1) := fun x hA => by
          obtain ⟨_, _, hv, _, htx⟩ := ownS_form hA.own
          cases hv
          have := implAdd_any (k : Int) qn cn (nds 0 k L) L[k] x (HT.out.below (chainB B6.out hA.bel) HT.out.1) htx (by rw [hnl]; have := ones24 k (by omega); omega) hcn (fun y hy => by rw [nds_wide k 0 L y hy]; omega) (by unfold maxLen; omega) (by omega) (by omega)
          rw [e1, e2] at this
          refine this.mono ?_
          rintro e x1 ⟨v, rfl, ho, hb⟩
          obtain ⟨q3, c3, rfl, _, _⟩ := ownS_form ho
          exact ⟨q3, c3, rfl, ownS_mono ho hA.bel.size, hA.below hb⟩
        generalize L[k] = T at *
        have g0 := HC.out _ HA.out.bel
        have g1 := HC.out _ HA.out.bel.drew
        clear e1 e2 hnl
        go_wp2_with fail
        go_region_with (first
          | (go_at_call 30; refine (QA.out _ (by first | exact HA.out | exact HA.out.below (Below.refl _ _).drew)).mono ?_; rintro e x1 ⟨q3, c3, rfl, o1, a1'⟩; obtain ⟨c2, c3', f2, f3⟩ := a1'.cells))
        all_goals
          have A2 : Hid (AddS w6 w6.heap.size ((k : Int) + 1) (.slice q3 (nds 0 (k + 1) L).length c3) (nds 0 (k + 1) L) ((x1.setCell ⟨w6.heap.size, 0, none⟩ (.int .i64 ((k : Int) + 1))).setCell ⟨w6.heap.size, 1, none⟩ (.slice q3 (nds 0 (k + 1) L).length c3))) := (a1'.setN (b := (k : Int) + 1)).setV (ownsRow_setCell_other o1 (by simpa using a1'.ne o1) _)
          clear o1 a1' c2 c3' f2 f3 c0 c1 f0 f1 g0 g1
          generalize ((x1.setCell ⟨w6.heap.size, 0, none⟩ (.int .i64 ((k : Int) + 1))).setCell ⟨w6.heap.size, 1, none⟩ (.slice q3 (nds 0 (k + 1) L).length c3)) = W at *
          have g2 := HC.out W A2.out.bel
          go_wp2_with fail
          refine (implLeaf_any T W (HT.out.below (chainB B6.out A2.out.bel) HT.out.1) (by unfold maxLen; omega)).mono ?_
          rintro e x2 ⟨rfl, y2⟩
          have A3 : Hid (AddS w6 w6.heap.size ((k : Int) + 1) (.slice q3 (nds 0 (k + 1) L).length c3) (nds 0 (k + 1) L) x2) := A2.out.below y2
          clear A2 y2 g2 QA
          generalize leafA T = F at *
          go_wp2_with fail
          refine (implPath_any (some ⟨bb, off, none⟩) cq L k x2 (HT.out.below (chainB B6.out A3.out.bel) HT.out.1) (HQ6.out.below A3.out.bel) (by omega) hcq (by omega) (by omega)).mono ?_
          rintro e x3 ⟨v, rfl, o3, y3⟩
          have hPf := pathA_few L k
          obtain ⟨p4, c4, rfl, hc4, t4⟩ := ownS_form o3
          have A4 : Hid (AddS w6 w6.heap.size ((k : Int) + 1) (.slice q3 (nds 0 (k + 1) L).length c3) (nds 0 (k + 1) L) x3) := A3.out.below y3
          have T4 : Hid (TxtAt x3 p4 (pathA L k)) := t4
          clear A3 y3 t4 o3
          generalize pathA L (k : Int) = P2 at *
          go_wp2_with fail
          have hI := implInc_any F k L.length p4 c4 P2 R x3 (HT.out.below (chainB B6.out A4.out.bel) HT.out.1) T4.out (by omega) hc4 (by omega) (by omega) (by omega) (by omega)
          rw [hlaw] at hI
          refine hI.mono ?_
          rintro e x4 ⟨rfl, y4⟩
          have A5 : Hid (AddS w6 w6.heap.size ((k + 1 : Nat) : Int) (.slice q3 (nds 0 (k + 1) L).length c3) (nds 0 (k + 1) L) x4) := by
            rw [show ((k + 1 : Nat) : Int) = (k : Int) + 1 by omega]; exact A4.out.below y4
          clear hI hlaw T4 A4 y4 hPf
          go_wp2_with fail
          go_roundw
          case rel => exact ⟨k + 1, _, by go_num, by omega, A5⟩
          case measure => simp [RowKit.intOf]; omega
      · obtain rfl : k = L.length := by omega
        have d1 : decide ((L.length : Int) < L.length) = false := decide_eq_false (by omega)
        have h24 : (nds 0 L.length L).length ≤ 24 := by rw [nds_len]; exact ones24 L.length (by omega)
        obtain ⟨_, _, hv, _, htx⟩ := ownS_form HA.out.own
        cases hv
        have hRR := implRoot_any L.length qn cn (nds 0 L.length L) wr (HT.out.below (chainB B6.out HA.out.bel) HT.out.1) htx (by omega) hcn (by omega) (by omega)
        rw [HRt.out] at hRR
        clear HRt HLw HSm htx
        go_wp2_with fail
        refine hRR.mono ?_
        rintro e x5 ⟨rfl, y5⟩
        have HB : Hid (Below w.heap.size w x5) := chainB (chainB B6.out HA.out.bel) y5
        clear hRR h24 y5 HA c0 c1 f0 f1 hcn B6 HQ6 hlt hk
        -- what is drawn besides
        go_wp2_with fail
        refine (drawInc_any w.heap.size a1 len1 cap1 x5 hl1 HB.out.size (C1.out.below HB.out)).mono ?_
        rintro e y1 ⟨⟨m, n, v, L1, was, root, rfl, hf, m0, m1, n0, n1, hw, hr⟩, z1⟩
        obtain ⟨q1, k1, rfl, hk1, ht1, hl1', _⟩ := hf
        have z1 := chainB HB.out z1
        have T1 : Hid (TxtAt y1 q1 L1) := ht1
        have HW1 : Hid (was.size ≤ maxLen ∧ root.size ≤ maxLen) := by constructor <;> unfold maxLen <;> omega
        clear ht1 HB hw hr
        go_wp2_with fail
        refine (drawAdd_any w.heap.size a1 len1 cap1 y1 hl1 z1.size (C1.out.below z1)).mono ?_
        rintro e y2 ⟨⟨N, v, L2, t, rfl, hf, ht, N0, N1⟩, z2⟩
        obtain ⟨q2, k2, rfl, hk2, ht2, hl2, hs2⟩ := hf
        have T2 : Hid (TxtAt y2 q1 L1) := T1.out.below z2
        have z2 := chainB z1 z2
        obtain ⟨Y2, hY2⟩ : ∃ Y2, Y2 = y2.alloc (.cells #[.int .i64 N, .slice q2 L2.length k2] 48) := ⟨_, rfl⟩
        have HY2 : Hid (Y2 = y2.alloc (.cells #[.int .i64 N, .slice q2 L2.length k2] 48)) := hY2
        have zA : Below y2.heap.size y2 Y2 := by rw [hY2]; exact belowA _ _
        have X2 : Hid (BoxAt Y2 y2.heap.size N (.slice q2 L2.length k2)) := by rw [hY2]; exact boxAt_new _ _ _
        have U2 : Hid (TxtAt Y2 q2 L2) := TxtAt.below ht2 zA
        have T2' : Hid (TxtAt Y2 q1 L1) := T2.out.below zA
        have z2' := chainB z2 zA
        have HS2 : Hid (∀ x ∈ L2, x.size ≤ 1048576) := fun x hx => by have := hs2 x hx; omega
        have ht' : t.size ≤ maxLen := by unfold maxLen; omega
        obtain ⟨x0, x1⟩ := X2.out.cells
        clear hY2 zA T1 T2 z1 z2 ht2 hs2
        go_wp2_with fail
        rw [← HY2.out]
        refine (implAdd_any N q2 k2 L2 t Y2 (HT.out.below z2' HT.out.1) U2.out (by omega) hk2 HS2.out ht' (by omega) (by omega)).mono ?_
        rintro e y3 ⟨v, rfl, o3, z3⟩
        obtain ⟨q3, k3, rfl, hk3, t3⟩ := ownS_form o3
        have hAl := addL_len N L2 t
        obtain ⟨Y3, hY3⟩ : ∃ Y3, Y3 = y3.alloc (.cells #[.int .i64 (addN N L2 t), .slice q3 (addL N L2 t).length k3] 48) := ⟨_, rfl⟩
        have HY3 : Hid (Y3 = y3.alloc (.cells #[.int .i64 (addN N L2 t), .slice q3 (addL N L2 t).length k3] 48)) := hY3
        have zB : Below y3.heap.size y3 Y3 := by rw [hY3]; exact belowA _ _
        have z3' := chainB z3 zB
        have X3 : Hid (BoxAt Y3 y3.heap.size (addN N L2 t) (.slice q3 (addL N L2 t).length k3)) := by rw [hY3]; exact boxAt_new _ _ _
        have X3' : Hid (BoxAt Y3 y2.heap.size N (.slice q2 L2.length k2)) := X2.out.below z3'
        have U3 : Hid (TxtAt Y3 q2 L2) := U2.out.below z3'
        have V3 : Hid (TxtAt Y3 q3 (addL N L2 t)) := TxtAt.below t3 zB
        have T3 : Hid (TxtAt Y3 q1 L1) := T2'.out.below z3'
        have z3 := chainB z2' z3'
        obtain ⟨x2, x3⟩ := X3'.out.cells
        rw [hY3] at x2 x3
        clear hY3 zB z3' z2' X2 U2 T2' o3 t3 x0 x1
        go_wp2_with fail
        rw [← HY3.out]
        refine (specAdd_any N q2 k2 L2 t Y3 U3.out (by omega) hk2 HS2.out ht' (by omega) (by omega)).mono ?_
        rintro e y4 ⟨v, rfl, o4, z4⟩
        obtain ⟨q4, k4, rfl, hk4, t4⟩ := ownS_form o4
        obtain ⟨Y4, hY4⟩ : ∃ Y4, Y4 = y4.alloc (.cells #[.int .i64 (addN N L2 t), .slice q4 (addL N L2 t).length k4] 48) := ⟨_, rfl⟩
        have HY4 : Hid (Y4 = y4.alloc (.cells #[.int .i64 (addN N L2 t), .slice q4 (addL N L2 t).length k4] 48)) := hY4
        have zC : Below y4.heap.size y4 Y4 := by rw [hY4]; exact belowA _ _
        have z4' := chainB z4 zC
        have X4 : Hid (BoxAt Y4 y4.heap.size (addN N L2 t) (.slice q4 (addL N L2 t).length k4)) := by rw [hY4]; exact boxAt_new _ _ _
        have X4' : Hid (BoxAt Y4 y3.heap.size (addN N L2 t) (.slice q3 (addL N L2 t).length k3)) := X3.out.below z4'
        have V4 : Hid (TxtAt Y4 q3 (addL N L2 t)) := V3.out.below z4'
        have V4' : Hid (TxtAt Y4 q4 (addL N L2 t)) := TxtAt.below t4 zC
        have T4 : Hid (TxtAt Y4 q1 L1) := T3.out.below z4'
        have z4 := chainB z3 z4'
        clear hY4 zC z4' z3 X3 X3' U3 V3 T3 o4 t4 x2 x3 HY3
        generalize addN N L2 t = A at *
        generalize addL N L2 t = M at *
        go_wp2_with fail
        rw [← HY4.out]
        refine (drawNode_any w.heap.size a1 len1 cap1 Y4 hl1 z4.size (C1.out.below z4)).mono ?_
        rintro e y5 ⟨⟨X, Y, rfl, hX, hY⟩, z5⟩
        have X5 : Hid (BoxAt y5 y4.heap.size A (.slice q4 M.length k4)) := X4.out.below z5
        have X5' : Hid (BoxAt y5 y3.heap.size A (.slice q3 M.length k3)) := X4'.out.below z5
        have V5 : Hid (TxtAt y5 q3 M) := V4.out.below z5
        have V5' : Hid (TxtAt y5 q4 M) := V4'.out.below z5
        have T5 : Hid (TxtAt y5 q1 L1) := T4.out.below z5
        have z5 := chainB z4 z5
        clear z4 X4 X4' V4 V4' T4 HY4
        go_wp2_with fail
        refine (implInc_any was m n q1 k1 L1 root y5 (HT.out.below z5 HT.out.1) T5.out (by omega) hk1 m0 m1 n0 n1).mono ?_
        rintro e y6 ⟨rfl, z6⟩
        have X6 : Hid (BoxAt y6 y4.heap.size A (.slice q4 M.length k4)) := X5.out.below z6
        have X6' : Hid (BoxAt y6 y3.heap.size A (.slice q3 M.length k3)) := X5'.out.below z6
        have V6 : Hid (TxtAt y6 q3 M) := V5.out.below z6
        have V6' : Hid (TxtAt y6 q4 M) := V5'.out.below z6
        have T6 : Hid (TxtAt y6 q1 L1) := T5.out.below z6
        have z6 := chainB z5 z6
        clear z5 X5 X5' V5 V5' T5
        go_wp2_with fail
        refine (specInc_any was m n q1 k1 L1 root y6 T6.out (by omega) hk1 HW1.out.1 HW1.out.2 m0 m1 n0 n1).mono ?_
        rintro e y7 ⟨rfl, z7⟩
        have X7 : Hid (BoxAt y7 y4.heap.size A (.slice q4 M.length k4)) := X6.out.below z7
        have X7' : Hid (BoxAt y7 y3.heap.size A (.slice q3 M.length k3)) := X6'.out.below z7
        have hE := texts_any q3 q4 k3 k4 M M y7 (V6.out.below z7) (V6'.out.below z7) (by omega) (by omega) hk3 hk4
        rw [decide_eq_true rfl] at hE
        have z7 := chainB z6 z7
        obtain ⟨x4, x5⟩ := X7.out.cells
        obtain ⟨x6, x7⟩ := X7'.out.cells
        clear z6 X6 X6' V6 V6' T6
        generalize incA was m n L1 root = B at *
        go_wp2_with fail
        refine hE.mono ?_
        rintro e y8 ⟨rfl, z8⟩
        have z8 := chainB z7 z8
        clear hE x4 x5 x6 x7 X7 X7' z7
        go_wp2_with fail
        refine (implNode_any X Y y8 (HT.out.below z8 HT.out.1) (by unfold maxLen; omega) (by unfold maxLen; omega)).mono ?_
        rintro e y9 ⟨rfl, z9⟩
        have z9 := chainB z8 z9
        clear z8
        go_wp2_with fail
        refine (specNode_any X Y y9 (by unfold maxLen; omega) (by unfold maxLen; omega)).mono ?_
        rintro e y10 ⟨rfl, z10⟩
        have z10 := chainB z9 z10
        clear z9
        generalize nodeA X Y = G at *
        go_wp2_with fail
        go_ret
        exact ⟨ret_bool (by simp), z10⟩
end Go.Proofs.YtclpccnppmbpcaaDoor
