/-
  The law FnSigned returns true at any code of at most 2^20 bytes, where errors.errorType and the two tables lie as the program's text lays them.
-/
import Derived.Test.YtnjegmffjelnpaaGreatDoorRows
import Derived.Test.YtnjegmffjelnpaaGreatDoorBytesDigMathTurnIWholeR
import Derived.Test.YtnjegmffjelnpaaGreatDoorTabsOf
import Derived.Test.YtnjegmffjelnpaaGreatDoorSlABxKSlBOwnSSgnBOwnBPadI
import Derived.Test.YtnjegmffjelnpaaGreatDoorTakePathConMathProofLawSignMathMac2
import Derived.Test.YtnjegmffjelnpaaGreatDoorDrawsDrawKitSomeIsInSignSSignDWide2StepApp
import Derived.Test.YtnjegmffjelnpaaGreatDoorSignVImplRightIncISignIMDigAllSignIASignIB
import Derived.Test.YtnjegmffjelnpaaGreatDoorSignIDgImplVerPutterPathI
import Derived.Test.YtnjegmffjelnpaaGreatDoorMacISignICImplSign
import Derived.Test.YtnjegmffjelnpaaGreatDoorLgMathLgAtKLgAnsLgRtTakesFldIsFldC
import Derived.Test.YtnjegmffjelnpaaGreatDoorSpecRtAsDAs2CodeOfTimeIImplFCBlNot
import Derived.Test.YtnjegmffjelnpaaGreatDoorLogRIImplRtLawSLawMLawMGFldGOneKFldBlkLawFLawFM
import Derived.Test.YtnjegmffjelnpaaGreatDoorRwBlkLawFRLawSGLawLgLawLhLawLzLawLmSgnLg
import Derived.Test.YtnjegmffjelnpaaGreatDoorLwSigDrawFldFldOMFldO
import Derived.Test.YtnjegmffjelnpaaGreatDoorPutNumAppSSrc
import Derived.Test.YtnjegmffjelnpaaGreatDoorDrawLog
import Derived.Test.YtnjegmffjelnpaaGreatDoorDrawLkDrawSeedDrawHs
import Derived.Handy
import Derived.WalkSpells
import Derived.OwnWalk
import Derived.Deep.RegionHeld3
import Derived.Deep.Cut
namespace Go.Proofs.YtnjegmffjelnpaaGreatDoor
open Go.RowKit Go.Lib
set_option linter.unusedVariables false
set_option maxRecDepth 20000

def hsB (rs : List Rw) (lv : List ByteArray) (now : Int) (seed : ByteArray) (key : Int) : Bool := lgB rs lv now && signOk seed key (hdB lv)
theorem hs_right (rs : List Rw) (lv : List ByteArray) (now : Int) (seed : ByteArray) (key : Int) : sgnB (hsK rs lv now seed key) (hsE rs lv now seed key) (hsP rs lv now seed key) = hsB rs lv now seed key := by
  unfold hsK hsE hsP hsB
  cases h : lgB rs lv now with
  | false => rw [if_neg Bool.false_ne_true, if_neg Bool.false_ne_true, if_neg Bool.false_ne_true]; rfl
  | true => rw [if_pos rfl, if_pos rfl, if_pos rfl, sign_right]; rfl
theorem hs_true {rs : List Rw} {lv : List ByteArray} {now : Int} {seed : ByteArray} {key : Int} (h : hsB rs lv now seed key = true) : verA (rootA seed) (hdO rs lv now) (hsK rs lv now seed key) (hsE rs lv now seed key) (hsP rs lv now seed key) = true := by
  unfold hsB at h
  obtain ⟨h1, h2⟩ := Bool.and_eq_true_iff.1 h
  unfold hsK hsE hsP hdO
  rw [if_pos h1, if_pos h1, if_pos h1, if_pos h1]
  exact sign_true h2
theorem hs_small (rs : List Rw) (lv : List ByteArray) (now : Int) (seed : ByteArray) (key : Int) : (hsE rs lv now seed key).length ≤ 6 ∧ (hsP rs lv now seed key).length ≤ 3 := by
  unfold hsE hsP
  split
  · unfold sgE sgP
    split
    · rename_i h
      obtain ⟨_, hk, _⟩ := signOk_parts h
      rw [endsTo_len, pathB_four _ (pubsB_len _) _ (by omega)]; omega
    · simp
  · simp
theorem hs_key (rs : List Rw) (lv : List ByteArray) (now : Int) (seed : ByteArray) (key : Int) : 0 ≤ hsK rs lv now seed key ∧ hsK rs lv now seed key ≤ 3 := by
  unfold hsK sgK
  split
  · split
    · rename_i h
      exact (signOk_parts h).2.1
    · omega
  · omega
theorem root_size (seed : ByteArray) : (rootA seed).size ≤ 32 := by
  unfold rootA; split
  · rw [treeB_size]; omega
  · simp
theorem hdO_size (rs : List Rw) (lv : List ByteArray) (now : Int) : (hdO rs lv now).size ≤ 1048576 := by
  unfold hdO; split
  · exact (hdB_size lv).2
  · simp
set_option maxHeartbeats 8000000 in
theorem fnSigned_any (a0 : Option Addr) (len0 cap0 : Nat) (w : World) (hl0 : len0 ≤ 1048576) (c0 : CodeAt w.heap.size a0 len0 w) (hT : Tabs w) (hLd : Laid w) :
    Calls Tryz.prog 3 #[.slice a0 len0 cap0] w fun e w' => e = .returned (.bool true) ∧ Below w.heap.size w w' := by
  have C0 : Hid (CodeAt w.heap.size a0 len0 w) := c0
  have HT : Hid (Tabs w) := hT
  have HL : Hid (Laid w) := hLd
  clear c0 hT hLd
  have d1 : decide (1048576 < (len0 : Int)) = false := by simp; omega
  go_enter Tryz.func3, Tryz.ntmps3
  go_wp2_with fail
  refine (drawHeadSign_any w.heap.size a0 len0 cap0 _ hl0 (Nat.le_refl _) C0.out).mono ?_
  rintro e w1 ⟨⟨q, cq, rs, p, cp, lv, now, sd, key, rfl, hH, hF, hsd, k0, k1⟩, b1⟩
  have hA := hH.at
  obtain ⟨W2, hW2⟩ : ∃ W2, W2 = w1.alloc (.cells #[.slice q rs.length cq, .slice p lv.length cp, .int .i64 now] 26) := ⟨_, rfl⟩
  have HW2 : Hid (W2 = w1.alloc (.cells #[.slice q rs.length cq, .slice p lv.length cp, .int .i64 now] 26)) := hW2
  obtain ⟨G1, hG1⟩ : ∃ G1, G1 = w1.heap.size := ⟨_, rfl⟩
  have HG1 : Hid (G1 = w1.heap.size) := hG1
  have ba : Below w1.heap.size w1 W2 := by rw [hW2]; exact (Below.refl _ _).alloc (Nat.le_refl _) _
  have B2 : Hid (Below w.heap.size w W2) := chainB b1 ba
  have K2 : Hid (Bxs W2 G1 26 #[.slice q rs.length cq, .slice p lv.length cp, .int .i64 now]) := by rw [hW2, hG1]; exact Bxs.new _ _ _
  have A2 : Hid (LgAt p lv cp q rs cq W2) := hA.below ba
  have hT2 := HT.out.to B2.out
  have hL2 := HL.out.below B2.out
  have hIm := implHeadSign_any p lv cp q rs cq now sd key W2 hT2 hL2 (by omega) A2.out
  have hSp := fun x (hb : Below W2.heap.size W2 x) => specHeadSign_any p lv cp q rs cq now sd key x (by omega) (A2.out.below hb)
  have hSr := hs_right rs lv now sd key
  have hVt := @hs_true rs lv now sd key
  obtain ⟨hE6, hP3⟩ := hs_small rs lv now sd key
  obtain ⟨hK0, hK3⟩ := hs_key rs lv now sd key
  have hHt := fun x (hb : Below W2.heap.size W2 x) => specHeadText_any p lv cp q rs cq now x (A2.out.below hb)
  have hHz := hdO_size rs lv now
  have hRz := root_size sd
  have hKR := fun x => specKeyRoot_any sd x (by omega)
  clear hW2 hG1 hA hH hF ba b1 C0 d1
  generalize hsK rs lv now sd key = K at *
  generalize hsE rs lv now sd key = E at *
  generalize hsP rs lv now sd key = P at *
  generalize hsB rs lv now sd key = OK at *
  generalize hdO rs lv now = HD at *
  generalize rootA sd = R at *
  have HSp : Hid (∀ x, Below W2.heap.size W2 x → Calls Tryz.prog 7 #[.agg #[.slice q rs.length cq, .slice p lv.length cp, .int .i64 now], .string sd, .int .i64 key] x fun e x1 => ∃ q3 c3 q4 c4, e = .returned (.agg #[.int .i64 K, .slice q3 E.length c3, .slice q4 P.length c4]) ∧ E.length ≤ c3 ∧ P.length ≤ c4 ∧ TxtAt x1 q3 E ∧ TxtAt x1 q4 P ∧ Below x.heap.size x x1) := fun x hb => (hSp x hb).mono (by
    rintro e x1 ⟨v3, v4, rfl, o3, o4, _, y⟩
    obtain ⟨q3, c3, rfl, hc3, t3⟩ := ownS_form o3
    obtain ⟨q4, c4, rfl, hc4, t4⟩ := ownS_form o4
    exact ⟨q3, c3, q4, c4, rfl, hc3, hc4, t3, t4, y⟩)
  have HHt : Hid (∀ x, Below W2.heap.size W2 x → Calls Tryz.prog 11 #[.agg #[.slice q rs.length cq, .slice p lv.length cp, .int .i64 now]] x fun e x1 => e = .returned (.string HD) ∧ Below x.heap.size x x1) := hHt
  have HKR : Hid (∀ x, Calls Tryz.prog 10 #[.string sd] x fun e x1 => e = .returned (.string R) ∧ Below x.heap.size x x1) := hKR
  have HVt : Hid (OK = true → verA R HD K E P = true) := fun h => hVt h
  have HSr : Hid (sgnB K E P = OK) := hSr
  have HT2 : Hid (Tabs W2) := hT2
  clear hSp hHt hKR hVt hSr HT HL hT2 hL2 A2
  go_wp2_with fail
  rw [← HW2.out, ← HG1.out]
  refine hIm.mono ?_
  rintro e w3 ⟨v1, v2, rfl, o1, o2, _, b3⟩
  obtain ⟨q1, c1, rfl, hc1, t1⟩ := ownS_form o1
  obtain ⟨q2, c2, rfl, hc2, t2⟩ := ownS_form o2
  clear hIm o1 o2 HW2 HG1
  go_upto_region 5 with fail
  obtain ⟨W4, hW4⟩ : ∃ W4, W4 = w3.alloc (.cells #[.int .i64 K, .slice q1 E.length c1, .slice q2 P.length c2] 30) := ⟨_, rfl⟩
  rw [← hW4]
  obtain ⟨G2, hG2⟩ : ∃ G2, G2 = w3.heap.size := ⟨_, rfl⟩
  rw [← hG2]
  have ba : Below w3.heap.size w3 W4 := by rw [hW4]; exact (Below.refl _ _).alloc (Nat.le_refl _) _
  have B24 : Hid (Below W2.heap.size W2 W4) := chainB b3 ba
  have K4 : Hid (Bxs W4 G2 30 #[.int .i64 K, .slice q1 E.length c1, .slice q2 P.length c2]) := by rw [hW4, hG2]; exact Bxs.new _ _ _
  have B4 : Hid (Below w.heap.size w W4) := chainB B2.out B24.out
  have T1 : Hid (TxtAt W4 q1 E) := t1.below ba
  have T2 : Hid (TxtAt W4 q2 P) := t2.below ba
  have HX : Hid (∀ x, Below W4.heap.size W4 x → x.cell? ⟨G1, 0, none⟩ = some (.slice q rs.length cq) ∧ x.cell? ⟨G1, 1, none⟩ = some (.slice p lv.length cp) ∧ x.cell? ⟨G1, 2, none⟩ = some (.int .i64 now) ∧ x.cell? ⟨G2, 0, none⟩ = some (.int .i64 K) ∧ x.cell? ⟨G2, 1, none⟩ = some (.slice q1 E.length c1) ∧ x.cell? ⟨G2, 2, none⟩ = some (.slice q2 P.length c2)) := fun x hb => ⟨(K2.out.below (chainB B24.out hb)).cell 0, (K2.out.below (chainB B24.out hb)).cell 1, (K2.out.below (chainB B24.out hb)).cell 2, (K4.out.below hb).cell 0, (K4.out.below hb).cell 1, (K4.out.below hb).cell 2⟩
  have Q1 : Hid (∀ x, Below W4.heap.size W4 x → Calls Tryz.prog 7 #[.agg #[.slice q rs.length cq, .slice p lv.length cp, .int .i64 now], .string sd, .int .i64 key] x fun e x1 => ∃ q3 c3 q4 c4, e = .returned (.agg #[.int .i64 K, .slice q3 E.length c3, .slice q4 P.length c4]) ∧ E.length ≤ c3 ∧ P.length ≤ c4 ∧ TxtAt x1 q3 E ∧ TxtAt x1 q4 P ∧ Below W4.heap.size W4 x1) := fun x hb => (HSp.out x (chainB B24.out hb)).mono (by
    rintro e x1 ⟨q3, c3, q4, c4, rfl, h1, h2, t3, t4, y⟩
    exact ⟨q3, c3, q4, c4, rfl, h1, h2, t3, t4, chainB hb y⟩)
  have Q2 : Hid (∀ x q3 c3 q4 c4, Below W4.heap.size W4 x → E.length ≤ c3 → P.length ≤ c4 → TxtAt x q3 E → TxtAt x q4 P → Calls Tryz.prog 6 #[.agg #[.int .i64 K, .slice q1 E.length c1, .slice q2 P.length c2], .agg #[.int .i64 K, .slice q3 E.length c3, .slice q4 P.length c4]] x fun e x1 => e = .returned (.bool true) ∧ Below W4.heap.size W4 x1) := fun x q3 c3 q4 c4 hb h3 h4 t3 t4 => (lwSig_any K q1 q2 q3 q4 c1 c2 c3 c4 E P x (T1.out.below hb) (T2.out.below hb) t3 t4 (by omega) (by omega) hc1 hc2 h3 h4).mono (by
    rintro e x1 ⟨rfl, y⟩
    exact ⟨rfl, chainB hb y⟩)
  have Q3 : Hid (∀ x, Below W4.heap.size W4 x → Calls Tryz.prog 8 #[.agg #[.int .i64 K, .slice q1 E.length c1, .slice q2 P.length c2]] x fun e x1 => e = .returned (.bool OK) ∧ Below W4.heap.size W4 x1) := fun x hb => (implSigRight_any K q1 c1 E q2 c2 P x (T1.out.below hb) (T2.out.below hb) (by omega) (by omega) hc1 hc2).mono (by
    rintro e x1 ⟨rfl, y⟩
    exact ⟨by rw [HSr.out], chainB hb y⟩)
  have Q4 : Hid (∀ x, Below W4.heap.size W4 x → Calls Tryz.prog 10 #[.string sd] x fun e x1 => e = .returned (.string R) ∧ Below W4.heap.size W4 x1) := fun x hb => (HKR.out x).mono (by
    rintro e x1 ⟨rfl, y⟩
    exact ⟨rfl, chainB hb y⟩)
  have Q5 : Hid (∀ x, Below W4.heap.size W4 x → Calls Tryz.prog 11 #[.agg #[.slice q rs.length cq, .slice p lv.length cp, .int .i64 now]] x fun e x1 => e = .returned (.string HD) ∧ Below W4.heap.size W4 x1) := fun x hb => (HHt.out x (chainB B24.out hb)).mono (by
    rintro e x1 ⟨rfl, y⟩
    exact ⟨rfl, chainB hb y⟩)
  have Q6 : Hid (∀ x, Below W4.heap.size W4 x → OK = true → Calls Tryz.prog 9 #[.string R, .string HD, .agg #[.int .i64 K, .slice q1 E.length c1, .slice q2 P.length c2]] x fun e x1 => e = .returned (.bool true) ∧ Below W4.heap.size W4 x1) := fun x hb h => (implVerify_any R HD K q1 c1 E q2 c2 P x (HT2.out.to (chainB B24.out hb)) (T1.out.below hb) (T2.out.below hb) (by omega) (by omega) hc1 hc2 (by omega) (by omega) (by omega) (by omega)).mono (by
    rintro e x1 ⟨rfl, y⟩
    exact ⟨by rw [HVt.out h], chainB hb y⟩)
  have BR : Hid (Below W4.heap.size W4 W4.drew) := (Below.refl _ _).drew
  clear hW4 hG2 ba b3 B2 K2 K4 T1 T2 t1 t2 HSp HHt HKR HVt HSr HT2 B24
  refine wp_region_held_drew (S := fun w' => w'.cell? ⟨G1, 0, none⟩ = some (.slice q rs.length cq) ∧ w'.cell? ⟨G1, 1, none⟩ = some (.slice p lv.length cp) ∧ w'.cell? ⟨G1, 2, none⟩ = some (.int .i64 now) ∧ w'.cell? ⟨G2, 0, none⟩ = some (.int .i64 K) ∧ w'.cell? ⟨G2, 1, none⟩ = some (.slice q1 E.length c1) ∧ w'.cell? ⟨G2, 2, none⟩ = some (.slice q2 P.length c2)) (by kernel_rfl) (HX.out _ BR.out) (fun hHeld => ?_)
  refine take_at 0 (v := ?_) rfl (by kernel_rfl) (by kernel_rfl) (by kernel_rfl) (fun _ _ _ h => h) hHeld (Or.inl ⟨by rfl, ?_⟩) ?_
  rotate_left
  · (intro w hSw; (try dsimp only at hSw); go_simp; try with_reducible rfl)
  simp only [Act.put, List.setIfInBounds_toArray, List.set_cons_zero, List.set_cons_succ]
  refine take_at 1 (v := ?_) rfl (by kernel_rfl) (by kernel_rfl) (by kernel_rfl) (fun _ _ _ h => h) hHeld (Or.inl ⟨by rfl, ?_⟩) ?_
  rotate_left
  · (intro w hSw; (try dsimp only at hSw); go_simp; try with_reducible rfl)
  simp only [Act.put, List.setIfInBounds_toArray, List.set_cons_zero, List.set_cons_succ]
  refine take_at 2 (v := ?_) rfl (by kernel_rfl) (by kernel_rfl) (by kernel_rfl) (fun _ _ _ h => h) hHeld (Or.inl ⟨by rfl, ?_⟩) ?_
  rotate_left
  · (intro w hSw; (try dsimp only at hSw); go_simp; try with_reducible rfl)
  simp only [Act.put, List.setIfInBounds_toArray, List.set_cons_zero, List.set_cons_succ]
  refine take_at 3 (v := ?_) rfl (by kernel_rfl) (by kernel_rfl) (by kernel_rfl) (fun _ _ _ h => h) hHeld (Or.inl ⟨by rfl, ?_⟩) ?_
  rotate_left
  · (intro w hSw; (try dsimp only at hSw); go_simp; try with_reducible rfl)
  simp only [Act.put, List.setIfInBounds_toArray, List.set_cons_zero, List.set_cons_succ]
  refine ready_at 4 rfl (by kernel_rfl) (fun K hK => ?_)
  go_simp
  (go_at_call 7; with_reducible refine (Q1.out _ BR.out).mono ?_; rintro e y1 ⟨q3, c3, q4, c4, rfl, h3, h4, t3, t4, z1⟩)
  refine hK.out _ _ (HX.out _ z1) (fun hHeld => ?_)
  clear hK K
  try simp only [Act.put, List.setIfInBounds_toArray, List.set_cons_zero, List.set_cons_succ]
  refine ready_at 5 rfl (by kernel_rfl) (fun K hK => ?_)
  go_simp
  (go_at_call 6; with_reducible refine (Q2.out _ q3 c3 q4 c4 z1 h3 h4 t3 t4).mono ?_; rintro e y2 ⟨rfl, z2⟩)
  refine hK.out _ _ (HX.out _ z2) (fun hHeld => ?_)
  clear hK K
  try simp only [Act.put, List.setIfInBounds_toArray, List.set_cons_zero, List.set_cons_succ]
  refine take_at 6 (v := ?_) rfl (by kernel_rfl) (by kernel_rfl) (by kernel_rfl) (fun _ _ _ h => h) hHeld (Or.inl ⟨by rfl, ?_⟩) ?_
  rotate_left
  · (intro w hSw; (try dsimp only at hSw); go_simp; try with_reducible rfl)
  simp only [Act.put, List.setIfInBounds_toArray, List.set_cons_zero, List.set_cons_succ]
  refine wpAnyH_done (by kernel_rfl) ?_ _
  have Z2 : Hid (Below W4.heap.size W4 y2) := z2
  clear z1 z2 t3 t4 h3 h4 hHeld Q1 Q2 BR
  go_upto_region 7 with fail
  have BR : Hid (Below W4.heap.size W4 y2.drew) := Z2.out.drew
  have HB : Hid (∀ x, Below W4.heap.size W4 x → Below w.heap.size w x) := fun x hx => chainB B4.out hx
  cases OK with
  | false =>
    clear Q4 Q5 Q6
    refine wp_region_held_drew (S := fun w' => w'.cell? ⟨G1, 0, none⟩ = some (.slice q rs.length cq) ∧ w'.cell? ⟨G1, 1, none⟩ = some (.slice p lv.length cp) ∧ w'.cell? ⟨G1, 2, none⟩ = some (.int .i64 now) ∧ w'.cell? ⟨G2, 0, none⟩ = some (.int .i64 K) ∧ w'.cell? ⟨G2, 1, none⟩ = some (.slice q1 E.length c1) ∧ w'.cell? ⟨G2, 2, none⟩ = some (.slice q2 P.length c2)) (by kernel_rfl) (HX.out _ BR.out) (fun hHeld => ?_)
    refine take_at 0 (v := ?_) rfl (by kernel_rfl) (by kernel_rfl) (by kernel_rfl) (fun _ _ _ h => h) hHeld (Or.inl ⟨by rfl, ?_⟩) ?_
    rotate_left
    · (intro w hSw; (try dsimp only at hSw); go_simp; try with_reducible rfl)
    simp only [Act.put, List.setIfInBounds_toArray, List.set_cons_zero, List.set_cons_succ]
    refine ready_at 1 rfl (by kernel_rfl) (fun K hK => ?_)
    go_simp
    (go_at_call 8; with_reducible refine (Q3.out _ BR.out).mono ?_; rintro e y3 ⟨rfl, z3⟩)
    refine hK.out _ _ (HX.out _ z3) (fun hHeld => ?_)
    clear hK K
    try simp only [Act.put, List.setIfInBounds_toArray, List.set_cons_zero, List.set_cons_succ]
    refine take_at 2 (v := ?_) rfl (by kernel_rfl) (by kernel_rfl) (by kernel_rfl) (fun _ _ _ h => h) hHeld (Or.inl ⟨by rfl, ?_⟩) ?_
    rotate_left
    · (intro w hSw; (try dsimp only at hSw); go_simp; try with_reducible rfl)
    simp only [Act.put, List.setIfInBounds_toArray, List.set_cons_zero, List.set_cons_succ]
    refine take_at 3 (v := ?_) rfl (by kernel_rfl) (by kernel_rfl) (by kernel_rfl) (fun _ _ _ h => h) hHeld (Or.inl ⟨by rfl, ?_⟩) ?_
    rotate_left
    · (intro w hSw; (try dsimp only at hSw); go_simp; try with_reducible rfl)
    simp only [Act.put, List.setIfInBounds_toArray, List.set_cons_zero, List.set_cons_succ]
    refine take_at 4 (v := undef) rfl (by kernel_rfl) (by kernel_rfl) (by kernel_rfl) (fun _ _ _ h => h) hHeld (Or.inr ⟨by rfl, rfl⟩) ?_
    simp only [Act.put, List.setIfInBounds_toArray, List.set_cons_zero, List.set_cons_succ]
    refine take_at 5 (v := undef) rfl (by kernel_rfl) (by kernel_rfl) (by kernel_rfl) (fun _ _ _ h => h) hHeld (Or.inr ⟨by rfl, rfl⟩) ?_
    simp only [Act.put, List.setIfInBounds_toArray, List.set_cons_zero, List.set_cons_succ]
    refine take_at 6 (v := undef) rfl (by kernel_rfl) (by kernel_rfl) (by kernel_rfl) (fun _ _ _ h => h) hHeld (Or.inr ⟨by rfl, rfl⟩) ?_
    simp only [Act.put, List.setIfInBounds_toArray, List.set_cons_zero, List.set_cons_succ]
    refine take_at 7 (v := undef) rfl (by kernel_rfl) (by kernel_rfl) (by kernel_rfl) (fun _ _ _ h => h) hHeld (Or.inr ⟨by rfl, rfl⟩) ?_
    simp only [Act.put, List.setIfInBounds_toArray, List.set_cons_zero, List.set_cons_succ]
    refine take_at 8 (v := undef) rfl (by kernel_rfl) (by kernel_rfl) (by kernel_rfl) (fun _ _ _ h => h) hHeld (Or.inr ⟨by rfl, rfl⟩) ?_
    simp only [Act.put, List.setIfInBounds_toArray, List.set_cons_zero, List.set_cons_succ]
    refine take_at 9 (v := undef) rfl (by kernel_rfl) (by kernel_rfl) (by kernel_rfl) (fun _ _ _ h => h) hHeld (Or.inr ⟨by rfl, rfl⟩) ?_
    simp only [Act.put, List.setIfInBounds_toArray, List.set_cons_zero, List.set_cons_succ]
    refine take_at 10 (v := ?_) rfl (by kernel_rfl) (by kernel_rfl) (by kernel_rfl) (fun _ _ _ h => h) hHeld (Or.inl ⟨by rfl, ?_⟩) ?_
    rotate_left
    · (intro w hSw; (try dsimp only at hSw); go_simp; try with_reducible rfl)
    simp only [Act.put, List.setIfInBounds_toArray, List.set_cons_zero, List.set_cons_succ]
    refine take_at 11 (v := ?_) rfl (by kernel_rfl) (by kernel_rfl) (by kernel_rfl) (fun _ _ _ h => h) hHeld (Or.inl ⟨by rfl, ?_⟩) ?_
    rotate_left
    · (intro w hSw; (try dsimp only at hSw); go_simp; try with_reducible rfl)
    simp only [Act.put, List.setIfInBounds_toArray, List.set_cons_zero, List.set_cons_succ]
    refine wpAnyH_done (by kernel_rfl) ?_ _
    have HE := HB.out _ z3
    clear Q3 HX hHeld BR Z2 HB z3
    go_wp2_with fail
    go_ret
    exact ⟨rfl, HE⟩
  | true =>
    have Q7 : Hid (∀ x, Below W4.heap.size W4 x → Calls Tryz.prog 9 #[.string R, .string HD, .agg #[.int .i64 K, .slice q1 E.length c1, .slice q2 P.length c2]] x fun e x1 => e = .returned (.bool true) ∧ Below W4.heap.size W4 x1) := fun x hb => Q6.out x hb rfl
    clear Q6
    refine wp_region_held_drew (S := fun w' => w'.cell? ⟨G1, 0, none⟩ = some (.slice q rs.length cq) ∧ w'.cell? ⟨G1, 1, none⟩ = some (.slice p lv.length cp) ∧ w'.cell? ⟨G1, 2, none⟩ = some (.int .i64 now) ∧ w'.cell? ⟨G2, 0, none⟩ = some (.int .i64 K) ∧ w'.cell? ⟨G2, 1, none⟩ = some (.slice q1 E.length c1) ∧ w'.cell? ⟨G2, 2, none⟩ = some (.slice q2 P.length c2)) (by kernel_rfl) (HX.out _ BR.out) (fun hHeld => ?_)
    refine take_at 0 (v := ?_) rfl (by kernel_rfl) (by kernel_rfl) (by kernel_rfl) (fun _ _ _ h => h) hHeld (Or.inl ⟨by rfl, ?_⟩) ?_
    rotate_left
    · (intro w hSw; (try dsimp only at hSw); go_simp; try with_reducible rfl)
    simp only [Act.put, List.setIfInBounds_toArray, List.set_cons_zero, List.set_cons_succ]
    refine ready_at 1 rfl (by kernel_rfl) (fun K hK => ?_)
    go_simp
    (go_at_call 8; with_reducible refine (Q3.out _ BR.out).mono ?_; rintro e y3 ⟨rfl, z3⟩)
    refine hK.out _ _ (HX.out _ z3) (fun hHeld => ?_)
    clear hK K
    try simp only [Act.put, List.setIfInBounds_toArray, List.set_cons_zero, List.set_cons_succ]
    refine take_at 2 (v := ?_) rfl (by kernel_rfl) (by kernel_rfl) (by kernel_rfl) (fun _ _ _ h => h) hHeld (Or.inl ⟨by rfl, ?_⟩) ?_
    rotate_left
    · (intro w hSw; (try dsimp only at hSw); go_simp; try with_reducible rfl)
    simp only [Act.put, List.setIfInBounds_toArray, List.set_cons_zero, List.set_cons_succ]
    refine take_at 3 (v := ?_) rfl (by kernel_rfl) (by kernel_rfl) (by kernel_rfl) (fun _ _ _ h => h) hHeld (Or.inl ⟨by rfl, ?_⟩) ?_
    rotate_left
    · (intro w hSw; (try dsimp only at hSw); go_simp; try with_reducible rfl)
    simp only [Act.put, List.setIfInBounds_toArray, List.set_cons_zero, List.set_cons_succ]
    refine take_at 4 (v := ?_) rfl (by kernel_rfl) (by kernel_rfl) (by kernel_rfl) (fun _ _ _ h => h) hHeld (Or.inl ⟨by rfl, ?_⟩) ?_
    rotate_left
    · (intro w hSw; (try dsimp only at hSw); go_simp; try with_reducible rfl)
    simp only [Act.put, List.setIfInBounds_toArray, List.set_cons_zero, List.set_cons_succ]
    refine take_at 6 (v := ?_) rfl (by kernel_rfl) (by kernel_rfl) (by kernel_rfl) (fun _ _ _ h => h) hHeld (Or.inl ⟨by rfl, ?_⟩) ?_
    rotate_left
    · (intro w hSw; (try dsimp only at hSw); go_simp; try with_reducible rfl)
    simp only [Act.put, List.setIfInBounds_toArray, List.set_cons_zero, List.set_cons_succ]
    refine take_at 8 (v := ?_) rfl (by kernel_rfl) (by kernel_rfl) (by kernel_rfl) (fun _ _ _ h => h) hHeld (Or.inl ⟨by rfl, ?_⟩) ?_
    rotate_left
    · (intro w hSw; (try dsimp only at hSw); go_simp; try with_reducible rfl)
    simp only [Act.put, List.setIfInBounds_toArray, List.set_cons_zero, List.set_cons_succ]
    refine ready_at 5 rfl (by kernel_rfl) (fun K hK => ?_)
    go_simp
    (go_at_call 10; with_reducible refine (Q4.out _ z3).mono ?_; rintro e y4 ⟨rfl, z4⟩)
    refine hK.out _ _ (HX.out _ z4) (fun hHeld => ?_)
    clear hK K
    try simp only [Act.put, List.setIfInBounds_toArray, List.set_cons_zero, List.set_cons_succ]
    refine ready_at 7 rfl (by kernel_rfl) (fun K hK => ?_)
    go_simp
    (go_at_call 11; with_reducible refine (Q5.out _ z4).mono ?_; rintro e y5 ⟨rfl, z5⟩)
    refine hK.out _ _ (HX.out _ z5) (fun hHeld => ?_)
    clear hK K
    try simp only [Act.put, List.setIfInBounds_toArray, List.set_cons_zero, List.set_cons_succ]
    refine ready_at 9 rfl (by kernel_rfl) (fun K hK => ?_)
    go_simp
    (go_at_call 9; with_reducible refine (Q7.out _ z5).mono ?_; rintro e y6 ⟨rfl, z6⟩)
    refine hK.out _ _ (HX.out _ z6) (fun hHeld => ?_)
    clear hK K
    try simp only [Act.put, List.setIfInBounds_toArray, List.set_cons_zero, List.set_cons_succ]
    refine take_at 10 (v := ?_) rfl (by kernel_rfl) (by kernel_rfl) (by kernel_rfl) (fun _ _ _ h => h) hHeld (Or.inl ⟨by rfl, ?_⟩) ?_
    rotate_left
    · (intro w hSw; (try dsimp only at hSw); go_simp; try with_reducible rfl)
    simp only [Act.put, List.setIfInBounds_toArray, List.set_cons_zero, List.set_cons_succ]
    refine take_at 11 (v := ?_) rfl (by kernel_rfl) (by kernel_rfl) (by kernel_rfl) (fun _ _ _ h => h) hHeld (Or.inl ⟨by rfl, ?_⟩) ?_
    rotate_left
    · (intro w hSw; (try dsimp only at hSw); go_simp; try with_reducible rfl)
    simp only [Act.put, List.setIfInBounds_toArray, List.set_cons_zero, List.set_cons_succ]
    refine wpAnyH_done (by kernel_rfl) ?_ _
    have HE := HB.out _ z6
    clear Q3 Q4 Q5 Q7 HX hHeld BR Z2 HB z3 z4 z5 z6
    go_wp2_with fail
    go_ret
    exact ⟨rfl, HE⟩
end Go.Proofs.YtnjegmffjelnpaaGreatDoor
