/-
  Parts of one proof, laid as one text: FldN, FldTb; what each says stands at its head.
-/
import Derived.Test.YthkmeneepkaedaaGreatDoorRows
import Derived.Test.YthkmeneepkaedaaGreatDoorBytesDigMath
import Derived.Test.YthkmeneepkaedaaGreatDoorTreeMathSlASlBBxKOwnS
import Derived.Test.YthkmeneepkaedaaGreatDoorTakesLTillTwoPathMathTree2Path2HalvesTreePutter
import Derived.Test.YthkmeneepkaedaaGreatDoorFldGShwKFldHTakesAudMathLawAuOpAuFldRiseScanMath
import Derived.Test.YthkmeneepkaedaaGreatDoorGetValGetTxtNumMathFldRdNumFromTmbMathLgMath
import Derived.Test.YthkmeneepkaedaaGreatDoorPathIFldIsLgRtTimeIGrKSpecGNSpecGT
import Derived.Handy
import Derived.WalkSpells
import Derived.OwnWalk
import Derived.Deep.RegionHeld3
import Derived.Deep.Cut
import Derived.Deep.CutRange
import Derived.Test.YthkmeneepkaedaaGreatDoorTimeBPutMathPutNumJoinedPutTextFldMath
import Derived.Deep.RegionWith
/-
  What the specification's reader of numbers and texts answers: num, text, many.
  Conditions: the reader's box holds the text, the place and the flag.
-/
namespace Go.Proofs.YthkmeneepkaedaaGreatDoor
open Go.RowKit Go.Lib
set_option linter.unusedVariables false
set_option maxRecDepth 20000

set_option maxHeartbeats 4000000 in
theorem rdNum_any (P : Nat) (t : ByteArray) (a : Int) (bd : Bool) (w : World) (hp : Bxs w P 138 #[.string t, .int .i64 a, .bool bd]) (ht : t.size ≤ 8000) (a1 : a ≤ 9223372036854775807) :
    Calls Tryz.prog 86 #[.pointer (some ⟨P, 0, none⟩)] w fun e w' => e = .returned (.int .i64 (rnN t a bd)) ∧ Bxs w' P 138 #[.string t, .int .i64 (rnA t a bd), .bool (rnB t a bd)] ∧ w.grownBy w' (some P) := by
  have HP : Hid (Bxs w P 138 #[.string t, .int .i64 a, .bool bd]) := hp
  have HPl : Hid (P < w.heap.size) := hp.lt
  obtain ⟨n, b, c, hg⟩ : ∃ (n : Int) (b c : Int), getN t a = (n, b, c) := ⟨_, _, _, rfl⟩
  have HB : Hid (rnB t a bd = (bd || (c != 0))) := by show (_ || _) = _; rw [hg]
  have HN : Hid (rnN t a bd = if (bd || (c != 0)) = true then 0 else n) := by show (if _ then _ else _) = _; rw [HB.out, hg]
  have HA : Hid (rnA t a bd = if (bd || (c != 0)) = true then a else b) := by show (if _ then _ else _) = _; rw [HB.out, hg]
  have HG : Hid (∀ x, Calls Tryz.prog 115 #[.string t, .int .i64 a] x fun e w' => e = .returned (.agg #[.int .i64 n, .int .i64 b, .int .i64 c]) ∧ Below x.heap.size x w') := fun x => by
    have h := specGetNum_any t a x (by unfold maxLen; omega) a1
    unfold getV numOut at h
    rw [hg] at h; exact h
  clear hg hp
  have BR : Hid (Below w.heap.size w w.drew) := (Below.refl _ _).drew
  have HY : Hid (∀ x, Below w.heap.size w x → x.cell? ⟨P, 0, none⟩ = some (.string t) ∧ x.cell? ⟨P, 1, none⟩ = some (.int .i64 a)) := fun x hx => ⟨(HP.out.below hx).cell 0, (HP.out.below hx).cell 1⟩
  have HEa : Hid (∀ y, Below w.heap.size w y → Bxs (y.alloc (.cells #[.int .i64 n, .int .i64 b, .int .i64 c] 168)) y.heap.size 168 #[.int .i64 n, .int .i64 b, .int .i64 c] ∧ Below w.heap.size w (y.alloc (.cells #[.int .i64 n, .int .i64 b, .int .i64 c] 168)) ∧ y.heap.size ≠ P) := fun y hy => ⟨Bxs.new _ _ _, alB hy _, by have := hy.size; have := HPl.out; omega⟩
  have HEb : Hid (∀ y, Below (w.alloc (.cells #[.int .i64 0, .int .i64 0, .int .i64 0] 168)).heap.size (w.alloc (.cells #[.int .i64 0, .int .i64 0, .int .i64 0] 168)) y → Below w.heap.size w y ∧ Bxs y w.heap.size 168 #[.int .i64 0, .int .i64 0, .int .i64 0]) := fun y hy => ⟨((Below.refl _ _).alloc (Nat.le_refl _) _).trans (hy.mono (by rw [szA]; omega)), (Bxs.new _ _ _).below hy⟩
  have HEc : Hid (∀ y, Below w.heap.size w y → Bxs y w.heap.size 168 #[.int .i64 0, .int .i64 0, .int .i64 0] → Bxs (((y.setCell ⟨w.heap.size, 0, none⟩ (.int .i64 n)).setCell ⟨w.heap.size, 1, none⟩ (.int .i64 b)).setCell ⟨w.heap.size, 2, none⟩ (.int .i64 c)) w.heap.size 168 #[.int .i64 n, .int .i64 b, .int .i64 c] ∧ Below w.heap.size w (((y.setCell ⟨w.heap.size, 0, none⟩ (.int .i64 n)).setCell ⟨w.heap.size, 1, none⟩ (.int .i64 b)).setCell ⟨w.heap.size, 2, none⟩ (.int .i64 c)) ∧ w.heap.size ≠ P) := fun y hy hk => ⟨((hk.set 0 _).set 1 _).set 2 _, below_set3 hy (Nat.le_refl _) _ _ _, by have := HPl.out; omega⟩
  go_enter Tryz.func86, Tryz.ntmps86
  go_upto_region 1 with fail
  go_cut [3] from 4 to 12 (fun s3 wx => ∃ N, s3 = .pointer (some ⟨N, 0, none⟩) ∧ Hid (Bxs wx N 168 #[.int .i64 n, .int .i64 b, .int .i64 c] ∧ Below w.heap.size w wx ∧ N ≠ P))
  case first =>
    refine region_till (fun w' => w'.cell? ⟨P, 0, none⟩ = some (.string t) ∧ w'.cell? ⟨P, 1, none⟩ = some (.int .i64 a)) 10 (by kernel_rfl) (HY.out _ BR.out) (fun hHeld => ?_)
    refine till_take 0 (v := ?_) rfl (by kernel_rfl) (by kernel_rfl) (by kernel_rfl) (by kernel_rfl) (fun _ _ _ h => h) hHeld (Or.inl ⟨by rfl, ?_⟩) ?_
    rotate_left
    · (intro w hSw; (try dsimp only at hSw); go_simp; try with_reducible rfl)
    simp only [Act.put, List.setIfInBounds_toArray, List.set_cons_zero, List.set_cons_succ]
    refine till_take 1 (v := ?_) rfl (by kernel_rfl) (by kernel_rfl) (by kernel_rfl) (by kernel_rfl) (fun _ _ _ h => h) hHeld (Or.inl ⟨by rfl, ?_⟩) ?_
    rotate_left
    · (intro w hSw; (try dsimp only at hSw); go_simp; try with_reducible rfl)
    simp only [Act.put, List.setIfInBounds_toArray, List.set_cons_zero, List.set_cons_succ]
    refine till_take 2 (v := ?_) rfl (by kernel_rfl) (by kernel_rfl) (by kernel_rfl) (by kernel_rfl) (fun _ _ _ h => h) hHeld (Or.inl ⟨by rfl, ?_⟩) ?_
    rotate_left
    · (intro w hSw; (try dsimp only at hSw); go_simp; try with_reducible rfl)
    simp only [Act.put, List.setIfInBounds_toArray, List.set_cons_zero, List.set_cons_succ]
    refine till_take 3 (v := ?_) rfl (by kernel_rfl) (by kernel_rfl) (by kernel_rfl) (by kernel_rfl) (fun _ _ _ h => h) hHeld (Or.inl ⟨by rfl, ?_⟩) ?_
    rotate_left
    · (intro w hSw; (try dsimp only at hSw); go_simp; try with_reducible rfl)
    simp only [Act.put, List.setIfInBounds_toArray, List.set_cons_zero, List.set_cons_succ]
    refine till_take 4 (v := ?_) rfl (by kernel_rfl) (by kernel_rfl) (by kernel_rfl) (by kernel_rfl) (fun _ _ _ h => h) hHeld (Or.inl ⟨by rfl, ?_⟩) ?_
    rotate_left
    · (intro w hSw; (try dsimp only at hSw); go_simp; try with_reducible rfl)
    simp only [Act.put, List.setIfInBounds_toArray, List.set_cons_zero, List.set_cons_succ]
    refine till_take 5 (v := ?_) rfl (by kernel_rfl) (by kernel_rfl) (by kernel_rfl) (by kernel_rfl) (fun _ _ _ h => h) hHeld (Or.inl ⟨by rfl, ?_⟩) ?_
    rotate_left
    · (intro w hSw; (try dsimp only at hSw); go_simp; try with_reducible rfl)
    simp only [Act.put, List.setIfInBounds_toArray, List.set_cons_zero, List.set_cons_succ]
    refine till_take 6 (v := ?_) rfl (by kernel_rfl) (by kernel_rfl) (by kernel_rfl) (by kernel_rfl) (fun _ _ _ h => h) hHeld (Or.inl ⟨by rfl, ?_⟩) ?_
    rotate_left
    · (intro w hSw; (try dsimp only at hSw); go_simp; try with_reducible rfl)
    simp only [Act.put, List.setIfInBounds_toArray, List.set_cons_zero, List.set_cons_succ]
    refine till_take 7 (v := ?_) rfl (by kernel_rfl) (by kernel_rfl) (by kernel_rfl) (by kernel_rfl) (fun _ _ _ h => h) hHeld (Or.inl ⟨by rfl, ?_⟩) ?_
    rotate_left
    · (intro w hSw; (try dsimp only at hSw); go_simp; try with_reducible rfl)
    simp only [Act.put, List.setIfInBounds_toArray, List.set_cons_zero, List.set_cons_succ]
    refine till_ready2 8 9 rfl rfl (by kernel_rfl) (fun K hK => ?_) (fun K hK => ?_)
    · go_simp
      (go_at_call 115; with_reducible refine (HG.out _).mono ?_; rintro e y ⟨rfl, z0⟩)
      have z1 : Below w.heap.size w y := chainB BR.out z0
      refine hK.out _ _ (HY.out _ z1) (fun hHeld => ?_)
      clear hK K
      try simp only [Act.put, List.setIfInBounds_toArray, List.set_cons_zero, List.set_cons_succ]
      refine till_ready 9 rfl (by kernel_rfl) (fun K hK => ?_)
      go_simp
      refine hK.out _ _ (HY.out _ (alB z1 _)) (fun hHeld => ?_)
      clear hK K
      try simp only [Act.put, List.setIfInBounds_toArray, List.set_cons_zero, List.set_cons_succ]
      refine till_last rfl (by kernel_rfl) (by kernel_rfl) (fun K hK => ?_)
      go_simp
      refine hK.out _ _ ?_
      clear hK K
      have HE : Hid _ := HEa.out y z1
      clear z0 z1 hHeld
      go_wp2_with fail
      go_meet
      exact ⟨_, rfl, HE⟩
    · go_simp
      refine hK.out _ _ (HY.out _ (alB BR.out _)) (fun hHeld => ?_)
      clear hK K
      try simp only [Act.put, List.setIfInBounds_toArray, List.set_cons_zero, List.set_cons_succ]
      refine till_ready 8 rfl (by kernel_rfl) (fun K hK => ?_)
      go_simp
      (go_at_call 115; with_reducible refine (HG.out _).mono ?_; rintro e y ⟨rfl, z0⟩)
      obtain ⟨z1, kb⟩ := HEb.out y (by first | exact z0 | exact chainB ((Below.refl _ _).drew) z0)
      refine hK.out _ _ (HY.out _ z1) (fun hHeld => ?_)
      clear hK K
      try simp only [Act.put, List.setIfInBounds_toArray, List.set_cons_zero, List.set_cons_succ]
      obtain ⟨k0, k1, k2⟩ : y.cell? ⟨w.heap.size, 0, none⟩ = some (.int .i64 0) ∧ y.cell? ⟨w.heap.size, 1, none⟩ = some (.int .i64 0) ∧ y.cell? ⟨w.heap.size, 2, none⟩ = some (.int .i64 0) := ⟨kb.cell 0, kb.cell 1, kb.cell 2⟩
      have g0 := kb.fr 0
      have g1 := kb.fr 1
      have g2 := kb.fr 2
      refine till_last rfl (by kernel_rfl) (by kernel_rfl) (fun K hK => ?_)
      go_simp
      refine hK.out _ _ ?_
      clear hK K
      have HE : Hid _ := HEc.out y z1 kb
      clear z0 z1 hHeld k0 k1 k2 g0 g1 g2 kb
      go_wp2_with fail
      go_meet
      exact ⟨_, rfl, HE⟩
  case rest =>
  obtain ⟨N, rfl, hE⟩ := hcut
  obtain ⟨p0, p1, p2⟩ : wc.cell? ⟨P, 0, none⟩ = some (.string t) ∧ wc.cell? ⟨P, 1, none⟩ = some (.int .i64 a) ∧ wc.cell? ⟨P, 2, none⟩ = some (.bool bd) := ⟨(HP.out.below hE.out.2.1).cell 0, (HP.out.below hE.out.2.1).cell 1, (HP.out.below hE.out.2.1).cell 2⟩
  have f1 := (HP.out.below hE.out.2.1).fr 1
  have f2 := (HP.out.below hE.out.2.1).fr 2
  obtain ⟨k0, k1, k2⟩ : wc.cell? ⟨N, 0, none⟩ = some (.int .i64 n) ∧ wc.cell? ⟨N, 1, none⟩ = some (.int .i64 b) ∧ wc.cell? ⟨N, 2, none⟩ = some (.int .i64 c) := ⟨hE.out.1.cell 0, hE.out.1.cell 1, hE.out.1.cell 2⟩
  have hNP : ¬ N = P := hE.out.2.2
  have hPN : ¬ P = N := fun h => hNP h.symm
  have HF1 : Hid (∀ v, Bxs (wc.setCell ⟨P, 1, none⟩ v) P 138 #[.string t, v, .bool bd] ∧ w.grownBy (wc.setCell ⟨P, 1, none⟩ v) (some P)) := fun v => ⟨(HP.out.below hE.out.2.1).set 1 v, grown_set (grown_below hE.out.2.1) 1 v⟩
  have HF2 : Hid (∀ v, Bxs (wc.setCell ⟨P, 2, none⟩ v) P 138 #[.string t, .int .i64 a, v] ∧ w.grownBy (wc.setCell ⟨P, 2, none⟩ v) (some P)) := fun v => ⟨(HP.out.below hE.out.2.1).set 2 v, grown_set (grown_below hE.out.2.1) 2 v⟩
  clear hE HEa HEb HEc HG HY BR
  cases bd with
  | true =>
    go_wp2_with fail
    go_ret
    rw [HN.out, HA.out, HB.out, Bool.true_or, if_pos rfl, if_pos rfl]
    exact ⟨rfl, HF2.out _⟩
  | false =>
  by_cases hc : c = 0
  · have c0 : (c != 0) = false := by simpa using hc
    clear hc
    go_wp2_with fail
    go_ret
    rw [HN.out, HA.out, HB.out, c0, Bool.false_or, if_neg Bool.false_ne_true, if_neg Bool.false_ne_true]
    exact ⟨rfl, HF1.out _⟩
  · have c0 : (c != 0) = true := by simpa using hc
    go_wp2_with fail
    go_ret
    rw [HN.out, HA.out, HB.out, c0, Bool.false_or, if_pos rfl, if_pos rfl]
    exact ⟨rfl, HF2.out _⟩
end Go.Proofs.YthkmeneepkaedaaGreatDoor
/-
  What the specification's TombRight, l08Text and TombText answer.
-/
namespace Go.Proofs.YthkmeneepkaedaaGreatDoor
open Go.RowKit Go.Lib
set_option linter.unusedVariables false
set_option maxRecDepth 20000

theorem tmB_four (t : Tmb) : tmB t = (decide (0 ≤ t.r ∧ t.r ≤ 63) && (decide (0 ≤ t.f ∧ t.f ≤ 2) && (decide (1 ≤ t.y ∧ t.y ≤ 2) && timeB t.a))) := by
  unfold tmB timeB; simp [Bool.and_assoc]

set_option maxHeartbeats 2000000 in
theorem specTombRight_any (t : Tmb) (w : World) : Calls Tryz.prog 116 #[tmV t] w fun e w' => e = .returned (.bool (tmB t)) ∧ Below w.heap.size w w' := by
  rw [tmB_four]
  obtain ⟨r, f, y, a⟩ := t
  show Calls Tryz.prog 116 #[.agg #[.int .i64 r, .int .i64 f, .int .i64 y, .int .i64 a]] w _
  dsimp only
  obtain ⟨W1, hW1⟩ : ∃ W1, W1 = w.alloc (.cells #[.int .i64 r, .int .i64 f, .int .i64 y, .int .i64 a] 95) := ⟨_, rfl⟩
  have HW1 : Hid (W1 = w.alloc (.cells #[.int .i64 r, .int .i64 f, .int .i64 y, .int .i64 a] 95)) := hW1
  have B1 : Hid (Below w.heap.size w W1) := by rw [hW1]; exact (Below.refl _ _).alloc (Nat.le_refl _) _
  have K1 : Bxs W1 w.heap.size 95 #[.int .i64 r, .int .i64 f, .int .i64 y, .int .i64 a] := by rw [hW1]; exact Bxs.new _ _ _
  obtain ⟨x0, x1, x2, x3⟩ : W1.cell? ⟨w.heap.size, 0, none⟩ = some (.int .i64 r) ∧ W1.cell? ⟨w.heap.size, 1, none⟩ = some (.int .i64 f) ∧ W1.cell? ⟨w.heap.size, 2, none⟩ = some (.int .i64 y) ∧ W1.cell? ⟨w.heap.size, 3, none⟩ = some (.int .i64 a) := ⟨K1.cell 0, K1.cell 1, K1.cell 2, K1.cell 3⟩
  clear K1 hW1
  have Qr : Hid (∀ x, Calls Tryz.prog 64 #[.int .i64 r, .int .i64 0, .int .i64 63] x fun e w' => e = .returned (.bool (decide (0 ≤ r ∧ r ≤ 63))) ∧ w' = x) := fun x => l07Is_any r 0 63 x
  have Qf : Hid (∀ x, Calls Tryz.prog 64 #[.int .i64 f, .int .i64 0, .int .i64 2] x fun e w' => e = .returned (.bool (decide (0 ≤ f ∧ f ≤ 2))) ∧ w' = x) := fun x => l07Is_any f 0 2 x
  have Qy : Hid (∀ x, Calls Tryz.prog 64 #[.int .i64 y, .int .i64 1, .int .i64 2] x fun e w' => e = .returned (.bool (decide (1 ≤ y ∧ y ≤ 2))) ∧ w' = x) := fun x => l07Is_any y 1 2 x
  have Qa : Hid (∀ x, Calls Tryz.prog 25 #[.int .i64 a] x fun e w' => e = .returned (.bool (timeB a)) ∧ w' = x) := fun x => l07Time_any a x
  generalize decide (0 ≤ r ∧ r ≤ 63) = Dr at *
  generalize decide (0 ≤ f ∧ f ≤ 2) = Df at *
  generalize decide (1 ≤ y ∧ y ≤ 2) = Dy at *
  generalize timeB a = Da at *
  cases Dr with
  | false =>
    go_enter Tryz.func116, Tryz.ntmps116
    go_wp2_with fail
    rw [← HW1.out]
    refine (Qr.out _).mono ?_
    rintro e w1 ⟨rfl, rfl⟩
    go_wp2_with fail
    go_ret
    exact ⟨rfl, B1.out⟩
  | true =>
    cases Df with
    | false =>
      go_enter Tryz.func116, Tryz.ntmps116
      go_wp2_with fail
      rw [← HW1.out]
      refine (Qr.out _).mono ?_
      rintro e w1 ⟨rfl, rfl⟩
      go_wp2_with fail
      refine (Qf.out _).mono ?_
      rintro e w1 ⟨rfl, rfl⟩
      go_wp2_with fail
      go_ret
      exact ⟨rfl, B1.out⟩
    | true =>
      cases Dy with
      | false =>
        go_enter Tryz.func116, Tryz.ntmps116
        go_wp2_with fail
        rw [← HW1.out]
        refine (Qr.out _).mono ?_
        rintro e w1 ⟨rfl, rfl⟩
        go_wp2_with fail
        refine (Qf.out _).mono ?_
        rintro e w1 ⟨rfl, rfl⟩
        go_wp2_with fail
        refine (Qy.out _).mono ?_
        rintro e w1 ⟨rfl, rfl⟩
        go_wp2_with fail
        go_ret
        exact ⟨rfl, B1.out⟩
      | true =>
        cases Da with
        | false =>
          go_enter Tryz.func116, Tryz.ntmps116
          go_wp2_with fail
          rw [← HW1.out]
          refine (Qr.out _).mono ?_
          rintro e w1 ⟨rfl, rfl⟩
          go_wp2_with fail
          refine (Qf.out _).mono ?_
          rintro e w1 ⟨rfl, rfl⟩
          go_wp2_with fail
          refine (Qy.out _).mono ?_
          rintro e w1 ⟨rfl, rfl⟩
          go_wp2_with fail
          refine (Qa.out _).mono ?_
          rintro e w1 ⟨rfl, rfl⟩
          go_wp2_with fail
          go_ret
          exact ⟨rfl, B1.out⟩
        | true =>
          go_enter Tryz.func116, Tryz.ntmps116
          go_wp2_with fail
          rw [← HW1.out]
          refine (Qr.out _).mono ?_
          rintro e w1 ⟨rfl, rfl⟩
          go_wp2_with fail
          refine (Qf.out _).mono ?_
          rintro e w1 ⟨rfl, rfl⟩
          go_wp2_with fail
          refine (Qy.out _).mono ?_
          rintro e w1 ⟨rfl, rfl⟩
          go_wp2_with fail
          refine (Qa.out _).mono ?_
          rintro e w1 ⟨rfl, rfl⟩
          go_wp2_with fail
          go_ret
          exact ⟨rfl, B1.out⟩
set_option maxHeartbeats 2000000 in
theorem l08Text_any (t : Tmb) (w : World) (h : tmB t = true) : Calls Tryz.prog 117 #[tmV t] w fun e w' => e = .returned (.string (tmRaw t)) ∧ Below w.heap.size w w' := by
  obtain ⟨⟨a0, a1⟩, ⟨b0, b1⟩, ⟨c0, c1⟩, d0, d1⟩ := (tmB_iff t).1 h
  clear h
  obtain ⟨r, f, y, a⟩ := t
  show Calls Tryz.prog 117 #[.agg #[.int .i64 r, .int .i64 f, .int .i64 y, .int .i64 a]] w _
  dsimp only at a0 a1 b0 b1 c0 c1 d0 d1
  obtain ⟨W1, hW1⟩ : ∃ W1, W1 = w.alloc (.cells #[.int .i64 r, .int .i64 f, .int .i64 y, .int .i64 a] 95) := ⟨_, rfl⟩
  have HW1 : Hid (W1 = w.alloc (.cells #[.int .i64 r, .int .i64 f, .int .i64 y, .int .i64 a] 95)) := hW1
  have B1 : Hid (Below w.heap.size w W1) := by rw [hW1]; exact (Below.refl _ _).alloc (Nat.le_refl _) _
  have K1 : Bxs W1 w.heap.size 95 #[.int .i64 r, .int .i64 f, .int .i64 y, .int .i64 a] := by rw [hW1]; exact Bxs.new _ _ _
  have HX : Hid (∀ x, Below W1.heap.size W1 x → x.cell? ⟨w.heap.size, 0, none⟩ = some (.int .i64 r) ∧ x.cell? ⟨w.heap.size, 1, none⟩ = some (.int .i64 f) ∧ x.cell? ⟨w.heap.size, 2, none⟩ = some (.int .i64 y) ∧ x.cell? ⟨w.heap.size, 3, none⟩ = some (.int .i64 a)) := fun x hb => ⟨(K1.below hb).cell 0, (K1.below hb).cell 1, (K1.below hb).cell 2, (K1.below hb).cell 3⟩
  obtain ⟨x0, x1, x2, x3⟩ := HX.out W1 (Below.refl _ _)
  have Qr : Hid (∀ x, Calls Tryz.prog 99 #[.int .i64 r] x fun e w' => e = .returned (.string (putB r)) ∧ Below x.heap.size x w') := fun x => specPutNum_any r x (by omega) (by omega)
  have Qf : Hid (∀ x, Calls Tryz.prog 99 #[.int .i64 f] x fun e w' => e = .returned (.string (putB f)) ∧ Below x.heap.size x w') := fun x => specPutNum_any f x (by omega) (by omega)
  have Qy : Hid (∀ x, Calls Tryz.prog 99 #[.int .i64 y] x fun e w' => e = .returned (.string (putB y)) ∧ Below x.heap.size x w') := fun x => specPutNum_any y x (by omega) (by omega)
  have Qa : Hid (∀ x, Calls Tryz.prog 99 #[.int .i64 a] x fun e w' => e = .returned (.string (putB a)) ∧ Below x.heap.size x w') := fun x => specPutNum_any a x (by omega) (by omega)
  have HR : Hid (tmRaw ⟨r, f, y, a⟩ = ⟨#[116]⟩ ++ putB r ++ putB f ++ putB y ++ putB a) := rfl
  have zr := putB_size r
  have zf := putB_size f
  have zy := putB_size y
  have za := putB_size a
  have BR : Hid (Below W1.heap.size W1 W1.drew) := (Below.refl _ _).drew
  rw [HR.out]
  clear K1 hW1 HR a0 a1 b0 b1 c0 c1 d0 d1
  generalize putB r = R at *
  generalize putB f = F at *
  generalize putB y = Y at *
  generalize putB a = A at *
  have z1 : ((⟨#[116]⟩ : ByteArray) ++ R).size ≤ 11 := by rw [ByteArray.size_append]; show 1 + _ ≤ _; omega
  have z2 : ((⟨#[116]⟩ : ByteArray) ++ R ++ F).size ≤ 21 := by rw [ByteArray.size_append]; omega
  have z3 : ((⟨#[116]⟩ : ByteArray) ++ R ++ F ++ Y).size ≤ 31 := by rw [ByteArray.size_append]; omega
  have PT : Hid (∀ (n : Int) (N : ByteArray), (∀ x, Calls Tryz.prog 99 #[.int .i64 n] x fun e w' => e = .returned (.string N) ∧ Below x.heap.size x w') → ∀ x, Below W1.heap.size W1 x → Calls Tryz.prog 99 #[.int .i64 n] x fun e x1 => e = .returned (.string N) ∧ Below W1.heap.size W1 x1) := fun n N h x hb => (h x).mono (by rintro e x1 ⟨rfl, b⟩; exact ⟨rfl, chainB hb b⟩)
  have PR := PT.out r R Qr.out
  have PF := PT.out f F Qf.out
  have PY := PT.out y Y Qy.out
  have PA := PT.out a A Qa.out
  have Qr : Hid (∀ x, Below W1.heap.size W1 x → Calls Tryz.prog 99 #[.int .i64 r] x fun e x1 => e = .returned (.string R) ∧ Below W1.heap.size W1 x1) := PR
  have Qf : Hid (∀ x, Below W1.heap.size W1 x → Calls Tryz.prog 99 #[.int .i64 f] x fun e x1 => e = .returned (.string F) ∧ Below W1.heap.size W1 x1) := PF
  have Qy : Hid (∀ x, Below W1.heap.size W1 x → Calls Tryz.prog 99 #[.int .i64 y] x fun e x1 => e = .returned (.string Y) ∧ Below W1.heap.size W1 x1) := PY
  have Qa : Hid (∀ x, Below W1.heap.size W1 x → Calls Tryz.prog 99 #[.int .i64 a] x fun e x1 => e = .returned (.string A) ∧ Below W1.heap.size W1 x1) := PA
  have HR : Hid (Below W1.heap.size W1 W1) := Below.refl _ _
  have z0 : (⟨#[116]⟩ : ByteArray).size = 1 := rfl
  have u1 : ∀ w, (Op.stringOp .add (⟨#[116]⟩ : ByteArray) R).run Tryz.prog w = .ok (.string ((⟨#[116]⟩ : ByteArray) ++ R)) w := fun w => run_string_add w _ _ (by omega) (by omega)
  have u2 : ∀ w, (Op.stringOp .add ((⟨#[116]⟩ : ByteArray) ++ R) F).run Tryz.prog w = .ok (.string ((⟨#[116]⟩ : ByteArray) ++ R ++ F)) w := fun w => run_string_add w _ _ (by omega) (by omega)
  have u3 : ∀ w, (Op.stringOp .add ((⟨#[116]⟩ : ByteArray) ++ R ++ F) Y).run Tryz.prog w = .ok (.string ((⟨#[116]⟩ : ByteArray) ++ R ++ F ++ Y)) w := fun w => run_string_add w _ _ (by omega) (by omega)
  have u4 : ∀ w, (Op.stringOp .add ((⟨#[116]⟩ : ByteArray) ++ R ++ F ++ Y) A).run Tryz.prog w = .ok (.string ((⟨#[116]⟩ : ByteArray) ++ R ++ F ++ Y ++ A)) w := fun w => run_string_add w _ _ (by omega) (by omega)
  clear PR PF PY PA PT z0 z1 z2 z3 zr zf zy za
  go_enter Tryz.func117, Tryz.ntmps117
  go_upto_region 1 with fail
  rw [← HW1.out]
  first
    | (go_region_held3 (fun w' => w'.cell? ⟨w.heap.size, 0, none⟩ = some (.int .i64 r) ∧ w'.cell? ⟨w.heap.size, 1, none⟩ = some (.int .i64 f) ∧ w'.cell? ⟨w.heap.size, 2, none⟩ = some (.int .i64 y) ∧ w'.cell? ⟨w.heap.size, 3, none⟩ = some (.int .i64 a)) ((refine HX.out _ ?hT; (case hT => (with_reducible repeat (first | assumption | exact HR.out | refine Below.drew ?_ | refine alB ?_ _))))) (first
      | (go_at_call 99; with_reducible refine (Qr.out _ ?hB).mono ?_; (case hB => first | exact HR.out | exact HR.out.drew); rintro e x1 ⟨rfl, y1⟩)
      | (go_at_call 99; with_reducible refine (Qf.out _ ?hB).mono ?_; (case hB => first | exact y1 | exact y1.drew); rintro e x2 ⟨rfl, y2⟩)
      | (go_at_call 99; with_reducible refine (Qy.out _ ?hB).mono ?_; (case hB => first | exact y2 | exact y2.drew); rintro e x3 ⟨rfl, y3⟩)
      | (go_at_call 99; with_reducible refine (Qa.out _ ?hB).mono ?_; (case hB => first | exact y3 | exact y3.drew); rintro e x4 ⟨rfl, y4⟩)))
    | fail
  all_goals
    have y6 := chainB B1.out y4
    go_wp2_with fail
    go_ret
    exact ⟨rfl, y6⟩
set_option maxHeartbeats 1000000 in
theorem specTombText_any (t : Tmb) (w : World) : Calls Tryz.prog 87 #[tmV t] w fun e w' => e = .returned (.string (tmT t)) ∧ Below w.heap.size w w' := by
  have hr := fun x => specTombRight_any t x
  cases h : tmB t with
  | true =>
    have hl := fun x => l08Text_any t x h
    have HT : Hid (tmT t = tmRaw t) := if_pos h
    rw [HT.out]
    rw [h] at hr
    have HR : Hid (∀ x, Calls Tryz.prog 116 #[.agg #[.int .i64 t.r, .int .i64 t.f, .int .i64 t.y, .int .i64 t.a]] x fun e w' => e = .returned (.bool true) ∧ Below x.heap.size x w') := hr
    have HL : Hid (∀ x, Calls Tryz.prog 117 #[.agg #[.int .i64 t.r, .int .i64 t.f, .int .i64 t.y, .int .i64 t.a]] x fun e w' => e = .returned (.string (tmRaw t)) ∧ Below x.heap.size x w') := hl
    obtain ⟨W1, hW1⟩ : ∃ W1, W1 = w.alloc (.cells #[.int .i64 t.r, .int .i64 t.f, .int .i64 t.y, .int .i64 t.a] 95) := ⟨_, rfl⟩
    have HW1 : Hid (W1 = w.alloc (.cells #[.int .i64 t.r, .int .i64 t.f, .int .i64 t.y, .int .i64 t.a] 95)) := hW1
    have B1 : Hid (Below w.heap.size w W1) := by rw [hW1]; exact (Below.refl _ _).alloc (Nat.le_refl _) _
    have K1 : Hid (Bxs W1 w.heap.size 95 #[.int .i64 t.r, .int .i64 t.f, .int .i64 t.y, .int .i64 t.a]) := by rw [hW1]; exact Bxs.new _ _ _
    clear hr hl h HT hW1
    generalize tmRaw t = O at *
    show Calls Tryz.prog 87 #[.agg #[.int .i64 t.r, .int .i64 t.f, .int .i64 t.y, .int .i64 t.a]] w _
    obtain ⟨r, f, y, a⟩ := t
    dsimp only at *
    go_enter Tryz.func87, Tryz.ntmps87
    go_wp2_with fail
    rw [← HW1.out]
    refine (HR.out W1).mono ?_
    rintro e w1 ⟨rfl, b1⟩
    have k := K1.out.below b1
    obtain ⟨x0, x1, x2, x3⟩ : w1.cell? ⟨w.heap.size, 0, none⟩ = some (.int .i64 r) ∧ w1.cell? ⟨w.heap.size, 1, none⟩ = some (.int .i64 f) ∧ w1.cell? ⟨w.heap.size, 2, none⟩ = some (.int .i64 y) ∧ w1.cell? ⟨w.heap.size, 3, none⟩ = some (.int .i64 a) := ⟨k.cell 0, k.cell 1, k.cell 2, k.cell 3⟩
    have c1 : Hid (Below w.heap.size w w1) := chainB B1.out b1
    clear k b1
    go_wp2_with fail
    refine (HL.out w1).mono ?_
    rintro e w2 ⟨rfl, b2⟩
    go_wp2_with fail
    go_ret
    exact ⟨rfl, chainB c1.out b2⟩
  | false =>
    have HT : Hid (tmT t = ByteArray.empty) := if_neg (by rw [h]; exact Bool.false_ne_true)
    rw [HT.out]
    rw [h] at hr
    have HR : Hid (∀ x, Calls Tryz.prog 116 #[.agg #[.int .i64 t.r, .int .i64 t.f, .int .i64 t.y, .int .i64 t.a]] x fun e w' => e = .returned (.bool false) ∧ Below x.heap.size x w') := hr
    obtain ⟨W1, hW1⟩ : ∃ W1, W1 = w.alloc (.cells #[.int .i64 t.r, .int .i64 t.f, .int .i64 t.y, .int .i64 t.a] 95) := ⟨_, rfl⟩
    have HW1 : Hid (W1 = w.alloc (.cells #[.int .i64 t.r, .int .i64 t.f, .int .i64 t.y, .int .i64 t.a] 95)) := hW1
    have B1 : Hid (Below w.heap.size w W1) := by rw [hW1]; exact (Below.refl _ _).alloc (Nat.le_refl _) _
    clear hr h HT hW1
    show Calls Tryz.prog 87 #[.agg #[.int .i64 t.r, .int .i64 t.f, .int .i64 t.y, .int .i64 t.a]] w _
    obtain ⟨r, f, y, a⟩ := t
    dsimp only at *
    go_enter Tryz.func87, Tryz.ntmps87
    go_wp2_with fail
    rw [← HW1.out]
    refine (HR.out W1).mono ?_
    rintro e w1 ⟨rfl, b1⟩
    have c1 : Hid (Below w.heap.size w w1) := chainB B1.out b1
    clear b1
    go_wp2_with fail
    go_ret
    exact ⟨rfl, c1.out⟩
end Go.Proofs.YthkmeneepkaedaaGreatDoor
