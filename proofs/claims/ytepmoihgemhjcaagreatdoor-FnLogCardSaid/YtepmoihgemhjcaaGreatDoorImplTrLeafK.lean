/-
  Parts of one proof, laid as one text: ImplTr, LeafK; what each says stands at its head.
-/
import Derived.Test.YtepmoihgemhjcaaGreatDoorRows
import Derived.Test.YtepmoihgemhjcaaGreatDoorBytesDigMath
import Derived.Test.YtepmoihgemhjcaaGreatDoorTreeMathSlABxKSlBOwnS
import Derived.Test.YtepmoihgemhjcaaGreatDoorGrKImplFT
import Derived.Test.YtepmoihgemhjcaaGreatDoorLtMathLaMathLfMathTakesLStepAppBlNotTakes
import Derived.Test.YtepmoihgemhjcaaGreatDoorFldGSrcDrawsDrawKitAppSSomeDrawTreeScanMath
import Derived.Test.YtepmoihgemhjcaaGreatDoorGetValGetTxtNumMathFldRdNumFromTmbMathFldRiseLgMath
import Derived.Test.YtepmoihgemhjcaaGreatDoorRdNumIGetNumIImplTbImplCb
import Derived.Test.YtepmoihgemhjcaaGreatDoorImplOnImplFkAsDAs2CodeOf
import Derived.Test.YtepmoihgemhjcaaGreatDoorSpecGNSpecGTFldNFldIsFldTbFldTr
import Derived.Handy
import Derived.WalkSpells
import Derived.OwnWalk
import Derived.Deep.RegionHeld3
import Derived.Deep.Cut
/-
  What the program's readTomb and TombRead answer.
  Conditions: the text fits the form's own reach; the variable errors.errorType holds the handle of the type error.
-/
namespace Go.Proofs.YtepmoihgemhjcaaGreatDoor
open Go.RowKit Go.Lib
set_option linter.unusedVariables false
set_option maxRecDepth 20000

theorem cutL_size : ∀ (l cur : List UInt8), ∀ x ∈ cutL cur l, x.size ≤ cur.length + l.length
  | [], cur => by simp [cutL]
  | b :: l, cur => by
    rw [cutL]
    split
    · intro x hx
      rcases List.mem_cons.1 hx with rfl | hx
      · show (cur ++ [b]).toArray.size ≤ _
        simp
      · have := cutL_size l [] x hx
        simp at this ⊢; omega
    · intro x hx
      have := cutL_size l (cur ++ [b]) x hx
      simp at this ⊢; omega
theorem cutB_size (t : ByteArray) : ∀ x ∈ cutB t, x.size ≤ t.size := by
  intro x hx
  have := cutL_size t.data.toList [] x hx
  rw [sz_list] at this
  simpa using this
theorem field_n (a b c : Int) (x : World) : (Instr.field 211 (.agg #[.int .i64 a, .int .i64 b, .int .i64 c]) 0).run Tryz.prog x = .ok (.int .i64 a) x := by kernel_rfl
theorem five_parts {l : List ByteArray} (h : l.length = 5) : ∃ a b c d e, l = [a, b, c, d, e] := by
  match l, h with
  | [a, b, c, d, e], _ => exact ⟨a, b, c, d, e, rfl⟩
set_option maxHeartbeats 4000000 in
theorem readTomb_any (t : ByteArray) (w : World) (ht : t.size ≤ 8000) (hg : Laid w) :
    Calls Tryz.prog 211 #[.string t] w fun e w' => e = .returned (tmV (ipT (cutB t))) ∧ Below w.heap.size w w' := by
  obtain ⟨W1, hW1⟩ : ∃ W1, W1 = w.alloc (.cells #[.int .i64 0, .int .i64 0, .int .i64 0, .int .i64 0] 93) := ⟨_, rfl⟩
  have HW1 : Hid (W1 = w.alloc (.cells #[.int .i64 0, .int .i64 0, .int .i64 0, .int .i64 0] 93)) := hW1
  have B1 : Hid (Below w.heap.size w W1) := by rw [hW1]; exact (Below.refl _ _).alloc (Nat.le_refl _) _
  have K1 : Hid (Bxs W1 w.heap.size 93 #[.int .i64 0, .int .i64 0, .int .i64 0, .int .i64 0]) := by rw [hW1]; exact Bxs.new _ _ _
  have HL1 : Hid (∀ x, Below W1.heap.size W1 x → Laid x) := fun x hx => (hg.below B1.out).below hx
  have hcut := cutBehindLow_any t W1 ht
  have HEr : Hid (∀ (y : World) (T : Tmb) (x0 x1 x2 x3 : Value), Below W1.heap.size W1 y → ipT (cutB t) = T → Ending.returned (.agg #[.int .i64 T.r, .int .i64 T.f, .int .i64 T.y, .int .i64 T.a]) = .returned (tmV (ipT (cutB t))) ∧ Below w.heap.size w ((((y.setCell ⟨w.heap.size, 0, none⟩ x0).setCell ⟨w.heap.size, 1, none⟩ x1).setCell ⟨w.heap.size, 2, none⟩ x2).setCell ⟨w.heap.size, 3, none⟩ x3)) := by
    intro y T x0 x1 x2 x3 hb hT
    rw [hT]
    exact ⟨rfl, below_set4 (chainB B1.out hb) (Nat.le_refl _) _ _ _ _⟩
  have HSz : Hid (∀ x ∈ cutB t, x.size ≤ 8000) := fun x hx => Nat.le_trans (cutB_size t x hx) ht
  clear hW1 hg
  obtain ⟨ps, hps⟩ : ∃ ps, ps = cutB t := ⟨_, rfl⟩
  have HPs : Hid (cutB t = ps) := hps.symm
  rw [← hps] at hcut HSz
  clear hps
  by_cases h5 : ps.length = 5
  · obtain ⟨s0, s1, s2, s3, s4, rfl⟩ := five_parts h5
    have h5' : ((([s0, s1, s2, s3, s4] : List ByteArray).length : Nat) : Int) = 5 := rfl
    obtain ⟨n1, b1, c1, hn1⟩ : ∃ n b c, getN s1 0 = (n, b, c) := ⟨_, _, _, rfl⟩
    have Q1 : Hid (∀ x, Laid x → Calls Tryz.prog 224 #[.string s1, .int .i64 0] x fun e x1 => e = .returned (.agg #[.int .i64 n1, .int .i64 b1, .int .i64 c1]) ∧ Below x.heap.size x x1) := fun x hx => by
      have h := implGetNum_any s1 0 x (by have := HSz.out s1 (by simp); unfold maxLen; omega) (by omega) hx
      refine h.mono ?_
      rintro e x1 ⟨rfl, b⟩
      refine ⟨?_, b⟩
      unfold getV; rw [hn1]; rfl
    obtain ⟨n2, b2, c2, hn2⟩ : ∃ n b c, getN s2 0 = (n, b, c) := ⟨_, _, _, rfl⟩
    have Q2 : Hid (∀ x, Laid x → Calls Tryz.prog 224 #[.string s2, .int .i64 0] x fun e x1 => e = .returned (.agg #[.int .i64 n2, .int .i64 b2, .int .i64 c2]) ∧ Below x.heap.size x x1) := fun x hx => by
      have h := implGetNum_any s2 0 x (by have := HSz.out s2 (by simp); unfold maxLen; omega) (by omega) hx
      refine h.mono ?_
      rintro e x1 ⟨rfl, b⟩
      refine ⟨?_, b⟩
      unfold getV; rw [hn2]; rfl
    obtain ⟨n3, b3, c3, hn3⟩ : ∃ n b c, getN s3 0 = (n, b, c) := ⟨_, _, _, rfl⟩
    have Q3 : Hid (∀ x, Laid x → Calls Tryz.prog 224 #[.string s3, .int .i64 0] x fun e x1 => e = .returned (.agg #[.int .i64 n3, .int .i64 b3, .int .i64 c3]) ∧ Below x.heap.size x x1) := fun x hx => by
      have h := implGetNum_any s3 0 x (by have := HSz.out s3 (by simp); unfold maxLen; omega) (by omega) hx
      refine h.mono ?_
      rintro e x1 ⟨rfl, b⟩
      refine ⟨?_, b⟩
      unfold getV; rw [hn3]; rfl
    obtain ⟨n4, b4, c4, hn4⟩ : ∃ n b c, getN s4 0 = (n, b, c) := ⟨_, _, _, rfl⟩
    have Q4 : Hid (∀ x, Laid x → Calls Tryz.prog 224 #[.string s4, .int .i64 0] x fun e x1 => e = .returned (.agg #[.int .i64 n4, .int .i64 b4, .int .i64 c4]) ∧ Below x.heap.size x x1) := fun x hx => by
      have h := implGetNum_any s4 0 x (by have := HSz.out s4 (by simp); unfold maxLen; omega) (by omega) hx
      refine h.mono ?_
      rintro e x1 ⟨rfl, b⟩
      refine ⟨?_, b⟩
      unfold getV; rw [hn4]; rfl
    have HI : Hid (ipT (cutB t) = ⟨n1, n2, n3, n4⟩) := by
      rw [HPs.out]
      show Tmb.mk (getN s1 0).1 (getN s2 0).1 (getN s3 0).1 (getN s4 0).1 = _
      rw [hn1, hn2, hn3, hn4]
    clear hn1 hn2 hn3 hn4 h5 HPs HSz
    go_enter Tryz.func211, Tryz.ntmps211
    go_upto_region 1 with fail
    rw [← HW1.out]
    clear HW1
    go_wp2_with fail
    refine hcut.mono ?_
    rintro e x ⟨p, cap, rfl, hcap, htx, bx⟩
    obtain ⟨b, off, rfl, hb0, -⟩ := htx 0 (by simp)
    have HTx : Hid (TxtAt x (some ⟨b, off, none⟩) [s0, s1, s2, s3, s4]) := htx
    have HBx : Hid (Below W1.heap.size W1 x) := bx
    have HC : Hid (∀ y, Below x.heap.size x y → y.cell? ⟨b, off + 1, none⟩ = some (.string s1) ∧ y.cell? ⟨b, off + 2, none⟩ = some (.string s2) ∧ y.cell? ⟨b, off + 3, none⟩ = some (.string s3) ∧ y.cell? ⟨b, off + 4, none⟩ = some (.string s4)) := fun y hy => ⟨(HTx.out.below hy).at 1 (by simp), (HTx.out.below hy).at 2 (by simp), (HTx.out.below hy).at 3 (by simp), (HTx.out.below hy).at 4 (by simp)⟩
    have BR : Hid (Below x.heap.size x x.drew) := (Below.refl _ _).drew
    have HF := field_n
    have HLx : Hid (∀ y, Below x.heap.size x y → Laid y) := fun y hy => HL1.out y (chainB HBx.out hy)
    have HKx : Hid (∀ y, Below x.heap.size x y → Bxs y w.heap.size 93 #[.int .i64 0, .int .i64 0, .int .i64 0, .int .i64 0]) := fun y hy => K1.out.below (chainB HBx.out hy)
    clear htx hcut bx hb0 HTx HL1 K1
    go_upto_region 4 with fail
    refine region_till (fun w' => w'.cell? ⟨b, off + 1, none⟩ = some (.string s1) ∧ w'.cell? ⟨b, off + 2, none⟩ = some (.string s2) ∧ w'.cell? ⟨b, off + 3, none⟩ = some (.string s3) ∧ w'.cell? ⟨b, off + 4, none⟩ = some (.string s4)) 21 (by kernel_rfl) (HC.out _ BR.out) (fun hHeld => ?_)
    refine till_take 0 (v := ?_) rfl (by kernel_rfl) (by kernel_rfl) (by kernel_rfl) (by kernel_rfl) (fun _ _ _ h => h) hHeld (Or.inl ⟨by rfl, ?_⟩) ?_
    rotate_left
    · (intro w hSw; (try dsimp only at hSw); go_simp; try with_reducible rfl)
    simp only [Act.put, List.setIfInBounds_toArray, List.set_cons_zero, List.set_cons_succ]
    refine till_take 1 (v := ?_) rfl (by kernel_rfl) (by kernel_rfl) (by kernel_rfl) (by kernel_rfl) (fun _ _ _ h => h) hHeld (Or.inl ⟨by rfl, ?_⟩) ?_
    rotate_left
    · (intro w hSw; (try dsimp only at hSw); go_simp; try with_reducible rfl)
    simp only [Act.put, List.setIfInBounds_toArray, List.set_cons_zero, List.set_cons_succ]
    refine till_take 2 (v := ?_) rfl (by kernel_rfl) (by kernel_rfl) (by kernel_rfl) (by kernel_rfl) (fun _ _ _ h => h) hHeld (Or.inl ⟨by rfl, ?_⟩) ?_
    rotate_left
    · (intro w hSw; (try dsimp only at hSw); go_simp; try with_reducible rfl)
    simp only [Act.put, List.setIfInBounds_toArray, List.set_cons_zero, List.set_cons_succ]
    refine till_take 5 (v := ?_) rfl (by kernel_rfl) (by kernel_rfl) (by kernel_rfl) (by kernel_rfl) (fun _ _ _ h => h) hHeld (Or.inl ⟨by rfl, ?_⟩) ?_
    rotate_left
    · (intro w hSw; (try dsimp only at hSw); go_simp; try with_reducible rfl)
    simp only [Act.put, List.setIfInBounds_toArray, List.set_cons_zero, List.set_cons_succ]
    refine till_take 6 (v := ?_) rfl (by kernel_rfl) (by kernel_rfl) (by kernel_rfl) (by kernel_rfl) (fun _ _ _ h => h) hHeld (Or.inl ⟨by rfl, ?_⟩) ?_
    rotate_left
    · (intro w hSw; (try dsimp only at hSw); go_simp; try with_reducible rfl)
    simp only [Act.put, List.setIfInBounds_toArray, List.set_cons_zero, List.set_cons_succ]
    refine till_take 7 (v := ?_) rfl (by kernel_rfl) (by kernel_rfl) (by kernel_rfl) (by kernel_rfl) (fun _ _ _ h => h) hHeld (Or.inl ⟨by rfl, ?_⟩) ?_
    rotate_left
    · (intro w hSw; (try dsimp only at hSw); go_simp; try with_reducible rfl)
    simp only [Act.put, List.setIfInBounds_toArray, List.set_cons_zero, List.set_cons_succ]
    refine till_take 10 (v := ?_) rfl (by kernel_rfl) (by kernel_rfl) (by kernel_rfl) (by kernel_rfl) (fun _ _ _ h => h) hHeld (Or.inl ⟨by rfl, ?_⟩) ?_
    rotate_left
    · (intro w hSw; (try dsimp only at hSw); go_simp; try with_reducible rfl)
    simp only [Act.put, List.setIfInBounds_toArray, List.set_cons_zero, List.set_cons_succ]
    refine till_take 11 (v := ?_) rfl (by kernel_rfl) (by kernel_rfl) (by kernel_rfl) (by kernel_rfl) (fun _ _ _ h => h) hHeld (Or.inl ⟨by rfl, ?_⟩) ?_
    rotate_left
    · (intro w hSw; (try dsimp only at hSw); go_simp; try with_reducible rfl)
    simp only [Act.put, List.setIfInBounds_toArray, List.set_cons_zero, List.set_cons_succ]
    refine till_take 12 (v := ?_) rfl (by kernel_rfl) (by kernel_rfl) (by kernel_rfl) (by kernel_rfl) (fun _ _ _ h => h) hHeld (Or.inl ⟨by rfl, ?_⟩) ?_
    rotate_left
    · (intro w hSw; (try dsimp only at hSw); go_simp; try with_reducible rfl)
    simp only [Act.put, List.setIfInBounds_toArray, List.set_cons_zero, List.set_cons_succ]
    refine till_take 15 (v := ?_) rfl (by kernel_rfl) (by kernel_rfl) (by kernel_rfl) (by kernel_rfl) (fun _ _ _ h => h) hHeld (Or.inl ⟨by rfl, ?_⟩) ?_
    rotate_left
    · (intro w hSw; (try dsimp only at hSw); go_simp; try with_reducible rfl)
    simp only [Act.put, List.setIfInBounds_toArray, List.set_cons_zero, List.set_cons_succ]
    refine till_take 16 (v := ?_) rfl (by kernel_rfl) (by kernel_rfl) (by kernel_rfl) (by kernel_rfl) (fun _ _ _ h => h) hHeld (Or.inl ⟨by rfl, ?_⟩) ?_
    rotate_left
    · (intro w hSw; (try dsimp only at hSw); go_simp; try with_reducible rfl)
    simp only [Act.put, List.setIfInBounds_toArray, List.set_cons_zero, List.set_cons_succ]
    refine till_take 17 (v := ?_) rfl (by kernel_rfl) (by kernel_rfl) (by kernel_rfl) (by kernel_rfl) (fun _ _ _ h => h) hHeld (Or.inl ⟨by rfl, ?_⟩) ?_
    rotate_left
    · (intro w hSw; (try dsimp only at hSw); go_simp; try with_reducible rfl)
    simp only [Act.put, List.setIfInBounds_toArray, List.set_cons_zero, List.set_cons_succ]
    refine till_ready 3 rfl (by kernel_rfl) (fun K hK => ?_)
    go_simp; (go_at_call 224; with_reducible refine (Q1.out _ (HLx.out _ BR.out)).mono ?_; rintro e y1 ⟨rfl, k1⟩); have g1 := chainB BR.out k1
    refine hK.out _ _ (HC.out _ g1) (fun hHeld => ?_)
    clear hK K
    try simp only [Act.put, List.setIfInBounds_toArray, List.set_cons_zero, List.set_cons_succ]
    refine till_take 4 (v := ?_) rfl (by kernel_rfl) (by kernel_rfl) (by kernel_rfl) (by kernel_rfl) (fun _ _ _ h => h) hHeld (Or.inl ⟨by rfl, ?_⟩) ?_
    rotate_left
    · (intro w hSw; (try dsimp only at hSw); go_simp; try with_reducible rfl)
    simp only [Act.put, List.setIfInBounds_toArray, List.set_cons_zero, List.set_cons_succ]
    refine till_ready 8 rfl (by kernel_rfl) (fun K hK => ?_)
    go_simp; (go_at_call 224; with_reducible refine (Q2.out _ (HLx.out _ g1)).mono ?_; rintro e y2 ⟨rfl, k2⟩); have g2 := chainB g1 k2
    refine hK.out _ _ (HC.out _ g2) (fun hHeld => ?_)
    clear hK K
    try simp only [Act.put, List.setIfInBounds_toArray, List.set_cons_zero, List.set_cons_succ]
    refine till_take 9 (v := ?_) rfl (by kernel_rfl) (by kernel_rfl) (by kernel_rfl) (by kernel_rfl) (fun _ _ _ h => h) hHeld (Or.inl ⟨by rfl, ?_⟩) ?_
    rotate_left
    · (intro w hSw; (try dsimp only at hSw); go_simp; try with_reducible rfl)
    simp only [Act.put, List.setIfInBounds_toArray, List.set_cons_zero, List.set_cons_succ]
    refine till_ready 13 rfl (by kernel_rfl) (fun K hK => ?_)
    go_simp; (go_at_call 224; with_reducible refine (Q3.out _ (HLx.out _ g2)).mono ?_; rintro e y3 ⟨rfl, k3⟩); have g3 := chainB g2 k3
    refine hK.out _ _ (HC.out _ g3) (fun hHeld => ?_)
    clear hK K
    try simp only [Act.put, List.setIfInBounds_toArray, List.set_cons_zero, List.set_cons_succ]
    refine till_take 14 (v := ?_) rfl (by kernel_rfl) (by kernel_rfl) (by kernel_rfl) (by kernel_rfl) (fun _ _ _ h => h) hHeld (Or.inl ⟨by rfl, ?_⟩) ?_
    rotate_left
    · (intro w hSw; (try dsimp only at hSw); go_simp; try with_reducible rfl)
    simp only [Act.put, List.setIfInBounds_toArray, List.set_cons_zero, List.set_cons_succ]
    refine till_ready 18 rfl (by kernel_rfl) (fun K hK => ?_)
    go_simp; (go_at_call 224; with_reducible refine (Q4.out _ (HLx.out _ g3)).mono ?_; rintro e y4 ⟨rfl, k4⟩); have g4 := chainB g3 k4
    refine hK.out _ _ (HC.out _ g4) (fun hHeld => ?_)
    clear hK K
    try simp only [Act.put, List.setIfInBounds_toArray, List.set_cons_zero, List.set_cons_succ]
    refine till_take 19 (v := ?_) rfl (by kernel_rfl) (by kernel_rfl) (by kernel_rfl) (by kernel_rfl) (fun _ _ _ h => h) hHeld (Or.inl ⟨by rfl, ?_⟩) ?_
    rotate_left
    · (intro w hSw; (try dsimp only at hSw); go_simp; try with_reducible rfl)
    simp only [Act.put, List.setIfInBounds_toArray, List.set_cons_zero, List.set_cons_succ]
    refine till_take 20 (v := ?_) rfl (by kernel_rfl) (by kernel_rfl) (by kernel_rfl) (by kernel_rfl) (fun _ _ _ h => h) hHeld (Or.inl ⟨by rfl, ?_⟩) ?_
    rotate_left
    · (intro w hSw; (try dsimp only at hSw); go_simp; try with_reducible rfl)
    simp only [Act.put, List.setIfInBounds_toArray, List.set_cons_zero, List.set_cons_succ]
    refine till_last rfl (by kernel_rfl) (by kernel_rfl) (fun K hK => ?_)
    have KK := HKx.out _ g4; obtain ⟨r0, r1, r2, r3⟩ := KK.four; have f0 := KK.fr 0; have f1 := KK.fr 1; have f2 := KK.fr 2; have f3 := KK.fr 3; have HE := fun x0 x1 x2 x3 => HEr.out y4 ⟨n1, n2, n3, n4⟩ x0 x1 x2 x3 (chainB HBx.out g4) HI.out; have HE : Hid _ := HE; clear KK HKx HEr HI; go_simp
    refine hK.out _ _ ?_
    clear hK K
    go_wp2_with fail
    refine bodyPost_ret (v := .agg #[.int .i64 n1, .int .i64 n2, .int .i64 n3, .int .i64 n4]) (by simp [results, Tryz.results211, go_sem, r0, r1, r2, r3]) rfl ?_
    exact HE.out _ _ _ _
  · have HI : Hid (ipT (cutB t) = tmZ) := by rw [HPs.out]; exact ipT_not h5
    have q5 : (((ps.length : Nat) : Int) != 5) = true := by simp; omega
    have HE0 : Hid (∀ (y : World), Below W1.heap.size W1 y → ∀ x0 x1 x2 x3, Ending.returned (.agg #[.int .i64 0, .int .i64 0, .int .i64 0, .int .i64 0]) = .returned (tmV (ipT (cutB t))) ∧ Below w.heap.size w ((((y.setCell ⟨w.heap.size, 0, none⟩ x0).setCell ⟨w.heap.size, 1, none⟩ x1).setCell ⟨w.heap.size, 2, none⟩ x2).setCell ⟨w.heap.size, 3, none⟩ x3)) := fun y hy x0 x1 x2 x3 => HEr.out y tmZ x0 x1 x2 x3 hy HI.out
    clear HEr HI HPs h5 HL1 HSz
    go_enter Tryz.func211, Tryz.ntmps211
    go_upto_region 1 with fail
    rw [← HW1.out]
    clear HW1
    go_wp2_with fail
    refine hcut.mono ?_
    rintro e x ⟨p, cap, rfl, hcap, -, bx⟩
    have KK := K1.out.below bx
    obtain ⟨r0, r1, r2, r3⟩ := KK.four
    have f0 := KK.fr 0
    have f1 := KK.fr 1
    have f2 := KK.fr 2
    have f3 := KK.fr 3
    have HE : Hid _ := HE0.out x bx
    clear KK HE0 bx hcut K1 B1
    go_wp2_with fail
    refine bodyPost_ret (v := .agg #[.int .i64 0, .int .i64 0, .int .i64 0, .int .i64 0]) (by simp [results, Tryz.results211, go_sem, r0, r1, r2, r3]) rfl ?_
    exact HE.out _ _ _ _
set_option maxHeartbeats 4000000 in
theorem implTombRead_any (t : ByteArray) (w : World) (ht : t.size ≤ maxLen) (hg : Laid w) :
    Calls Tryz.prog 189 #[.string t] w fun e w' => e = .returned (tmO (trO t) (trC t)) ∧ Below w.heap.size w w' := by
  obtain ⟨W1, hW1⟩ : ∃ W1, W1 = w.alloc (.cells #[.int .i64 0, .int .i64 0, .int .i64 0, .int .i64 0, .int .i64 0] 160) := ⟨_, rfl⟩
  have HW1 : Hid (W1 = w.alloc (.cells #[.int .i64 0, .int .i64 0, .int .i64 0, .int .i64 0, .int .i64 0] 160)) := hW1
  have K1 : Hid (Bxs W1 w.heap.size 160 #[.int .i64 0, .int .i64 0, .int .i64 0, .int .i64 0, .int .i64 0]) := by rw [hW1]; exact Bxs.new _ _ _
  have B1 : Hid (Below w.heap.size w W1) := by rw [hW1]; exact (Below.refl _ _).alloc (Nat.le_refl _) _
  have HL1 : Hid (Laid W1) := hg.below B1.out
  have HEr : Hid (∀ (y : World) (c : Int) (T : Tmb) (x0 x1 x2 x3 x4 : Value), Below W1.heap.size W1 y → trC t = c → trO t = T → Ending.returned (.agg #[.int .i64 T.r, .int .i64 T.f, .int .i64 T.y, .int .i64 T.a, .int .i64 c]) = .returned (tmO (trO t) (trC t)) ∧ Below w.heap.size w (((((y.setCell ⟨w.heap.size, 0, none⟩ x0).setCell ⟨w.heap.size, 1, none⟩ x1).setCell ⟨w.heap.size, 2, none⟩ x2).setCell ⟨w.heap.size, 3, none⟩ x3).setCell ⟨w.heap.size, 4, none⟩ x4)) := by
    intro y c T x0 x1 x2 x3 x4 hb hc hT
    rw [hc, hT]
    exact ⟨rfl, below_set5 (chainB B1.out hb) (Nat.le_refl _) _ _ _ _ _⟩
  clear hW1 hg
  unfold maxLen at ht
  by_cases h8 : 8000 < t.size
  · have hC : trC t = 2 := if_pos h8
    have hO : trO t = tmZ := if_neg (by rw [hC]; decide)
    have d8 : decide (8000 < (t.size : Int)) = true := decide_eq_true (by omega)
    have HE := fun x0 x1 x2 x3 x4 => HEr.out W1 2 tmZ x0 x1 x2 x3 x4 (Below.refl _ _) hC hO
    rw [HW1.out] at HE
    have HE : Hid _ := HE
    clear HEr h8 hC hO
    go_enter Tryz.func189, Tryz.ntmps189
    go_upto_region 2 with fail
    rw [← HW1.out] at HE ⊢
    obtain ⟨r0, r1, r2, r3, r4⟩ := K1.out.five
    have f0 := K1.out.fr 0
    have f1 := K1.out.fr 1
    have f2 := K1.out.fr 2
    have f3 := K1.out.fr 3
    have f4 := K1.out.fr 4
    go_wp2_with fail
    refine bodyPost_ret (v := .agg #[.int .i64 0, .int .i64 0, .int .i64 0, .int .i64 0, .int .i64 2]) (by simp [results, Tryz.results189, go_sem, r0, r1, r2, r3, r4]) rfl ?_
    exact HE.out _ _ _ _ _
  have d8 : decide (8000 < (t.size : Int)) = false := decide_eq_false (by omega)
  have ht8 : t.size ≤ 8000 := by omega
  have hRT := readTomb_any t W1 ht8 HL1.out
  have HYes : Hid (tmB (ipT (cutB t)) = true → tmRaw (ipT (cutB t)) = t → trC t = 0 ∧ trO t = ipT (cutB t)) := ip_yes ht8
  have HNo : Hid (tmB (ipT (cutB t)) = false ∨ tmRaw (ipT (cutB t)) ≠ t → trC t = 3 ∧ trO t = tmZ) := ip_no ht8
  have HTT : Hid (tmB (ipT (cutB t)) = true → tmT (ipT (cutB t)) = tmRaw (ipT (cutB t))) := fun h => if_pos h
  have hRR := fun x => implTombRight_any (ipT (cutB t)) x
  have hTX := fun x => implTombText_any (ipT (cutB t)) x
  generalize ipT (cutB t) = T at *
  obtain ⟨r, f, y, a⟩ := T
  have CR : Hid (Calls Tryz.prog 211 #[.string t] W1 fun e w' => e = .returned (.agg #[.int .i64 r, .int .i64 f, .int .i64 y, .int .i64 a]) ∧ Below W1.heap.size W1 w') := hRT
  have CG : Hid (∀ x, Calls Tryz.prog 132 #[.agg #[.int .i64 r, .int .i64 f, .int .i64 y, .int .i64 a]] x fun e w' => e = .returned (.bool (tmB ⟨r, f, y, a⟩)) ∧ Below x.heap.size x w') := hRR
  have CX : Hid (∀ x, Calls Tryz.prog 68 #[.agg #[.int .i64 r, .int .i64 f, .int .i64 y, .int .i64 a]] x fun e w' => e = .returned (.string (tmT ⟨r, f, y, a⟩)) ∧ Below x.heap.size x w') := hTX
  have eT := ba_beq (tmT ⟨r, f, y, a⟩) t
  clear hRT hRR hTX h8 HL1
  generalize tmT ⟨r, f, y, a⟩ = TX at *
  have ET : Hid ((TX.toList == t.toList) = decide (TX = t)) := eT
  clear eT
  go_enter Tryz.func189, Tryz.ntmps189
  go_upto_region 3 with fail
  rw [← HW1.out]
  clear HW1 d8
  go_wp2_with fail
  refine CR.out.mono ?_
  rintro e y1 ⟨rfl, bb1⟩
  go_upto_region 4 with fail
  obtain ⟨y2, hy2⟩ : ∃ y2, y2 = y1.alloc (.cells #[.int .i64 r, .int .i64 f, .int .i64 y, .int .i64 a] 93) := ⟨_, rfl⟩
  rw [← hy2]
  obtain ⟨Z, hZ⟩ : ∃ Z, Z = y1.heap.size := ⟨_, rfl⟩
  rw [← hZ]
  have BZ : Hid (Bxs y2 Z 93 #[.int .i64 r, .int .i64 f, .int .i64 y, .int .i64 a]) := by rw [hy2, hZ]; exact Bxs.new _ _ _
  have B2 : Hid (Below W1.heap.size W1 y2) := by rw [hy2]; exact alB bb1 _
  clear hy2 hZ bb1 CR
  obtain ⟨c0, c1, c2, c3⟩ := BZ.out.four
  cases hB : tmB ⟨r, f, y, a⟩ with
  | false =>
    obtain ⟨n1, n2⟩ := HNo.out (Or.inl hB)
    rw [hB] at CG
    go_wp2_with fail
    refine (CG.out y2).mono ?_
    rintro e y3 ⟨rfl, b3⟩
    have HE : Hid (∀ x0 x1 x2 x3 x4, _) := fun x0 x1 x2 x3 x4 => HEr.out y3 3 tmZ x0 x1 x2 x3 x4 (chainB B2.out b3) n1 n2
    have KK := K1.out.below (chainB B2.out b3)
    clear n1 n2 HEr HNo HYes
    obtain ⟨r0, r1, r2, r3, r4⟩ := KK.five
    have f0 := KK.fr 0
    have f1 := KK.fr 1
    have f2 := KK.fr 2
    have f3 := KK.fr 3
    have f4 := KK.fr 4
    clear KK
    go_wp2_with fail
    refine bodyPost_ret (v := .agg #[.int .i64 0, .int .i64 0, .int .i64 0, .int .i64 0, .int .i64 3]) (by simp [results, Tryz.results189, go_sem, r0, r1, r2, r3, r4]) rfl ?_
    exact HE.out _ _ _ _ _
  | true =>
    rw [hB] at CG
    have eTR := HTT.out hB
    cases h1 : (TX.toList == t.toList) with
    | false =>
      have d1 : decide (TX = t) = false := by rw [← ET.out]; exact h1
      obtain ⟨n1, n2⟩ := HNo.out (Or.inr (by rw [← eTR]; exact of_decide_eq_false d1))
      have HE9 : Hid (∀ y, Below W1.heap.size W1 y → ∀ x0 x1 x2 x3 x4, _) := fun y hy x0 x1 x2 x3 x4 => HEr.out y 3 tmZ x0 x1 x2 x3 x4 hy n1 n2
      clear n1 n2 HEr HNo HYes d1 eTR HTT ET hB
      go_wp2_with fail
      refine (CG.out y2).mono ?_
      rintro e y3 ⟨rfl, b3⟩
      obtain ⟨c0, c1, c2, c3⟩ := (BZ.out.below b3).four
      go_wp2_with fail
      refine (CX.out y3).mono ?_
      rintro e y4 ⟨rfl, b4⟩
      have bb := chainB (chainB B2.out b3) b4
      have HE : Hid (∀ x0 x1 x2 x3 x4, _) := HE9.out y4 bb
      have KK := K1.out.below bb
      clear HE9 b3 b4 bb
      obtain ⟨r0, r1, r2, r3, r4⟩ := KK.five
      have f0 := KK.fr 0
      have f1 := KK.fr 1
      have f2 := KK.fr 2
      have f3 := KK.fr 3
      have f4 := KK.fr 4
      clear KK
      go_wp2_with fail
      refine bodyPost_ret (v := .agg #[.int .i64 0, .int .i64 0, .int .i64 0, .int .i64 0, .int .i64 3]) (by simp [results, Tryz.results189, go_sem, r0, r1, r2, r3, r4]) rfl ?_
      exact HE.out _ _ _ _ _
    | true =>
      have d1 : decide (TX = t) = true := by rw [← ET.out]; exact h1
      obtain ⟨n1, n2⟩ := HYes.out hB (by rw [← eTR]; exact of_decide_eq_true d1)
      have HE9 : Hid (∀ y, Below W1.heap.size W1 y → ∀ x0 x1 x2 x3 x4, _) := fun y hy x0 x1 x2 x3 x4 => HEr.out y 0 _ x0 x1 x2 x3 x4 hy n1 n2
      clear n1 n2 HEr HNo HYes d1 eTR HTT ET hB
      go_wp2_with fail
      refine (CG.out y2).mono ?_
      rintro e y3 ⟨rfl, b3⟩
      obtain ⟨c0, c1, c2, c3⟩ := (BZ.out.below b3).four
      go_wp2_with fail
      refine (CX.out y3).mono ?_
      rintro e y4 ⟨rfl, b4⟩
      have bb := chainB (chainB B2.out b3) b4
      obtain ⟨c0, c1, c2, c3⟩ := (BZ.out.below (chainB b3 b4)).four
      have HE : Hid (∀ x0 x1 x2 x3 x4, _) := HE9.out y4 bb
      have KK := K1.out.below bb
      clear HE9 b3 b4 bb BZ
      obtain ⟨r0, r1, r2, r3, r4⟩ := KK.five
      have f0 := KK.fr 0
      have f1 := KK.fr 1
      have f2 := KK.fr 2
      have f3 := KK.fr 3
      have f4 := KK.fr 4
      clear KK
      go_wp2_with fail
      refine bodyPost_ret (v := .agg #[.int .i64 r, .int .i64 f, .int .i64 y, .int .i64 a, .int .i64 0]) (by simp [results, Tryz.results189, go_sem, r0, r1, r2, r3, r4]) rfl ?_
      exact HE.out _ _ _ _ _
end Go.Proofs.YtepmoihgemhjcaaGreatDoor
/-
  What LeafKind answers, the specification's and the program's (with isRowLeaf and strings.HasPrefix on its road).
  Conditions: the text fits the form's own reach; for the program's: the variable errors.errorType holds the handle of the type error.
-/
namespace Go.Proofs.YtepmoihgemhjcaaGreatDoor
open Go.RowKit Go.Lib
set_option linter.unusedVariables false
set_option maxRecDepth 20000

theorem pre_e (t : ByteArray) (h : 0 < t.size) : ((t.extract 0 1).toList == [101]) = decide (t.data.toList.head? = some 101) := by
  rw [show ([101] : List UInt8) = ByteArray.toList ⟨#[101]⟩ from by rw [ByteArray.toList_eq], ba_beq]
  have e : (t.extract 0 1).data.toList = [t[0]'h] := by
    rw [ByteArray.data_extract, Array.toList_extract, List.extract_eq_take_drop]
    have := List.drop_eq_getElem_cons (l := t.data.toList) (i := 0) (by simpa using h)
    simp only [List.drop_zero, Nat.sub_zero] at this ⊢
    rw [this]
    rfl
  have e2 : t.data.toList.head? = some (t[0]'h) := by
    rw [List.head?_eq_getElem?]
    exact List.getElem?_eq_getElem (by simpa using h)
  rw [e2]
  by_cases hb : (t[0]'h) = 101
  · rw [hb] at e ⊢
    rw [decide_eq_true rfl, decide_eq_true]
    apply ByteArray.ext; apply Array.ext'
    rw [e]
  · rw [decide_eq_false (fun q => hb (Option.some.inj q)), decide_eq_false]
    intro q
    rw [q] at e
    injection e with e1
    exact hb e1.symm
set_option maxHeartbeats 1000000 in
theorem litePre_any (t : ByteArray) (w : World) (h : 0 < t.size) (ht : t.size ≤ 100) : Calls Tryz.prog 230 #[.string t, .string ⟨#[101]⟩] w fun e w' => e = .returned (.bool (decide (t.data.toList.head? = some 101))) ∧ w' = w := by
  rw [← pre_e t h]
  have hsl : ∀ wx, (Instr.slice 9 (.string t) none (some (.int .i64 1)) none).run Tryz.prog wx = .ok (.string (t.extract 0 1)) wx := fun wx => by
    rw [run_slice_string_h (P := Tryz.prog) wx 9 t Tryz.underlying9 .i64 1 (by omega) (by omega)]
    rfl
  generalize t.extract 0 1 = X at *
  have d1 : decide ((1 : Int) ≤ (t.size : Int)) = true := decide_eq_true (by omega)
  go_enter Tryz.func230, Tryz.ntmps230
  go_wp2_with fail
  go_ret
  exact ⟨rfl, rfl⟩
theorem strPre_any (t : ByteArray) (w : World) (h : 0 < t.size) (ht : t.size ≤ 100) : Calls Tryz.prog 222 #[.string t, .string ⟨#[101]⟩] w fun e w' => e = .returned (.bool (decide (t.data.toList.head? = some 101))) ∧ w' = w := by
  have hl := litePre_any t w h ht
  generalize decide (t.data.toList.head? = some 101) = D at *
  go_enter Tryz.func222, Tryz.ntmps222
  go_wp2_with fail
  refine hl.mono ?_
  rintro e w1 ⟨rfl, rfl⟩
  go_wp2_with fail
  go_ret
  exact ⟨rfl, rfl⟩
theorem isRowLeaf_any (t : ByteArray) (w : World) : Calls Tryz.prog 210 #[.string t] w fun e w' => e = .returned (.bool (isRl t)) ∧ w' = w := by
  by_cases h : t.size = 33
  · have hs := strPre_any t w (by omega) (by omega)
    have HI : Hid (isRl t = decide (t.data.toList.head? = some 101)) := by show _ = _; unfold isRl; rw [decide_eq_true h]; rfl
    rw [HI.out]
    generalize decide (t.data.toList.head? = some 101) = D at *
    have q : (((t.size : Nat) : Int) == 33) = true := by simp; omega
    have H : Hid (t.size = 33) := h
    clear h
    go_enter Tryz.func210, Tryz.ntmps210
    go_wp2_with fail
    refine hs.mono ?_
    rintro e w1 ⟨rfl, rfl⟩
    go_wp2_with fail
    go_ret
    exact ⟨rfl, rfl⟩
  · have HI : Hid (isRl t = false) := by show _ = _; unfold isRl; rw [decide_eq_false h]; rfl
    rw [HI.out]
    have q : (((t.size : Nat) : Int) == 33) = false := by simp; omega
    clear h
    go_enter Tryz.func210, Tryz.ntmps210
    go_wp2_with fail
    go_ret
    exact ⟨rfl, rfl⟩
theorem field_c5 (a b c d e : Int) (x : World) : (Instr.field 160 (.agg #[.int .i64 a, .int .i64 b, .int .i64 c, .int .i64 d, .int .i64 e]) 1).run Tryz.prog x = .ok (.int .i64 e) x := by kernel_rfl
set_option maxHeartbeats 1000000 in
theorem implLeafKind_any (t : ByteArray) (w : World) (ht : t.size ≤ maxLen) (hg : Laid w) : Calls Tryz.prog 188 #[.string t] w fun e w' => e = .returned (.int .i64 (lkB t)) ∧ Below w.heap.size w w' := by
  have hr := isRowLeaf_any t w
  have hT := implTombRead_any t w ht hg
  have HL : Hid (lkB t = if isRl t = true then 1 else if trC t = 0 then 2 else 0) := rfl
  have hf := field_c5
  unfold tmO at hT
  clear ht hg
  generalize trC t = C at *
  generalize (trO t).r = n1 at *
  generalize (trO t).f = n2 at *
  generalize (trO t).y = n3 at *
  generalize (trO t).a = n4 at *
  cases hi : isRl t with
  | true =>
    rw [hi] at hr
    rw [hi, if_pos rfl] at HL
    rw [HL.out]
    clear hT
    go_enter Tryz.func188, Tryz.ntmps188
    go_wp2_with fail
    refine hr.mono ?_
    rintro e w1 ⟨rfl, rfl⟩
    go_wp2_with fail
    go_ret
    exact ⟨rfl, Below.refl _ _⟩
  | false =>
    rw [hi] at hr
    rw [hi, if_neg Bool.false_ne_true] at HL
    cases hc : (C == 0) with
    | true =>
      rw [if_pos (by simpa using hc)] at HL
      rw [HL.out]
      go_enter Tryz.func188, Tryz.ntmps188
      go_wp2_with fail
      refine hr.mono ?_
      rintro e w1 ⟨rfl, rfl⟩
      go_wp2_with fail
      refine hT.mono ?_
      rintro e w2 ⟨rfl, b2⟩
      go_wp2_with fail
      go_ret
      exact ⟨rfl, b2⟩
    | false =>
      rw [if_neg (by simpa using hc)] at HL
      rw [HL.out]
      go_enter Tryz.func188, Tryz.ntmps188
      go_wp2_with fail
      refine hr.mono ?_
      rintro e w1 ⟨rfl, rfl⟩
      go_wp2_with fail
      refine hT.mono ?_
      rintro e w2 ⟨rfl, b2⟩
      go_wp2_with fail
      go_ret
      exact ⟨rfl, b2⟩
set_option maxHeartbeats 1000000 in
theorem specLeafKind_any (t : ByteArray) (w : World) (ht : t.size ≤ maxLen) : Calls Tryz.prog 143 #[.string t] w fun e w' => e = .returned (.int .i64 (lkB t)) ∧ Below w.heap.size w w' := by
  have hT := specTombRead_any t w ht
  have HL : Hid (lkB t = if isRl t = true then 1 else if trC t = 0 then 2 else 0) := rfl
  have hf := field_c5
  unfold tmO at hT
  unfold maxLen at ht
  generalize trC t = C at *
  generalize (trO t).r = n1 at *
  generalize (trO t).f = n2 at *
  generalize (trO t).y = n3 at *
  generalize (trO t).a = n4 at *
  by_cases h : t.size = 33
  · have hpos : 0 < t.size := by omega
    obtain ⟨b, hb⟩ : ∃ b, b = t[0]'hpos := ⟨_, rfl⟩
    have HI : Hid (isRl t = decide (b = 101)) := by
      show _ = _
      unfold isRl
      rw [decide_eq_true h, List.head?_eq_getElem?, List.getElem?_eq_getElem (show 0 < t.data.toList.length by rw [sz_list]; omega)]
      have : t.data.toList[0]'(by rw [sz_list]; omega) = b := by rw [hb]; rfl
      rw [this]; simp
    have q : (((t.size : Nat) : Int) == 33) = true := by simp; omega
    have H : Hid (t.size = 33) := h
    clear h
    cases hq : (((t[0]'hpos).toNat : Int) == 101) with
    | true =>
      have hb2 : b = 101 := by
        rw [hb]
        have := eq_of_beq hq; have : (t[0]'hpos).toNat = 101 := by omega
        exact UInt8.toNat_inj.1 this
      rw [HI.out, decide_eq_true hb2, if_pos rfl] at HL
      rw [HL.out]
      clear hT HI hb2 hb
      have h0 : (0 : Int) < t.size := by omega
      go_enter Tryz.func143, Tryz.ntmps143
      go_wp2_with fail
      go_ret
      exact ⟨rfl, Below.refl _ _⟩
    | false =>
      have hb2 : ¬ b = 101 := by
        rw [hb]
        intro e
        rw [e] at hq
        exact absurd hq (by decide)
      rw [HI.out, decide_eq_false hb2, if_neg Bool.false_ne_true] at HL
      clear HI hb2 hb
      have h0 : (0 : Int) < t.size := by omega
      cases hc : (C == 0) with
      | true =>
        rw [if_pos (by simpa using hc)] at HL
        rw [HL.out]
        go_enter Tryz.func143, Tryz.ntmps143
        go_wp2_with fail
        refine hT.mono ?_
        rintro e w2 ⟨rfl, b2⟩
        go_wp2_with fail
        go_ret
        exact ⟨rfl, b2⟩
      | false =>
        rw [if_neg (by simpa using hc)] at HL
        rw [HL.out]
        go_enter Tryz.func143, Tryz.ntmps143
        go_wp2_with fail
        refine hT.mono ?_
        rintro e w2 ⟨rfl, b2⟩
        go_wp2_with fail
        go_ret
        exact ⟨rfl, b2⟩
  · have HI : isRl t = false := by unfold isRl; rw [decide_eq_false h]; rfl
    rw [HI, if_neg Bool.false_ne_true] at HL
    have q : (((t.size : Nat) : Int) == 33) = false := by simp; omega
    clear h HI
    cases hc : (C == 0) with
    | true =>
      rw [if_pos (by simpa using hc)] at HL
      rw [HL.out]
      go_enter Tryz.func143, Tryz.ntmps143
      go_wp2_with fail
      refine hT.mono ?_
      rintro e w2 ⟨rfl, b2⟩
      go_wp2_with fail
      go_ret
      exact ⟨rfl, b2⟩
    | false =>
      rw [if_neg (by simpa using hc)] at HL
      rw [HL.out]
      go_enter Tryz.func143, Tryz.ntmps143
      go_wp2_with fail
      refine hT.mono ?_
      rintro e w2 ⟨rfl, b2⟩
      go_wp2_with fail
      go_ret
      exact ⟨rfl, b2⟩
end Go.Proofs.YtepmoihgemhjcaaGreatDoor
