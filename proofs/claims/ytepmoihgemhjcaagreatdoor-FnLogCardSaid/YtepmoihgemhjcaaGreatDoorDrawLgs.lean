/-
  What is drawn of a log and numbers: a log of few rows and leaves, and the numbers' bounds.
  Conditions: the code is at most 2^20 bytes.
-/
import Derived.Test.YtepmoihgemhjcaaGreatDoorRows
import Derived.Test.YtepmoihgemhjcaaGreatDoorBytesDigMath
import Derived.Test.YtepmoihgemhjcaaGreatDoorTreeMathSlABxKSlBOwnS
import Derived.Test.YtepmoihgemhjcaaGreatDoorLtMathLaMathLfMathTakesLStepAppBlNotTakes
import Derived.Test.YtepmoihgemhjcaaGreatDoorTillTwoPhaseKImplCp
import Derived.Test.YtepmoihgemhjcaaGreatDoorFldGSrcDrawsDrawKitAppSSomeDrawTreeScanMath
import Derived.Test.YtepmoihgemhjcaaGreatDoorTimeBPutMathPutNumJoinedPutTextFldMath
import Derived.Test.YtepmoihgemhjcaaGreatDoorGetValGetTxtNumMathFldRdNumFromTmbMathFldRiseLgMath
import Derived.Test.YtepmoihgemhjcaaGreatDoorLgAtKLgAnsLgRtShwKOneKFldBlkRwBlk
import Derived.Test.YtepmoihgemhjcaaGreatDoorRowOpsLgO
import Derived.Test.YtepmoihgemhjcaaGreatDoorDrawLoDrawFldDrawRowDrawLoMSpoilT
import Derived.Test.YtepmoihgemhjcaaGreatDoorDrawLog
import Derived.Test.YtepmoihgemhjcaaGreatDoorDrawLkFgBoxLgaAtDrawRowX
import Derived.Handy
import Derived.WalkSpells
import Derived.OwnWalk
import Derived.Deep.RegionWith
import Derived.Deep.RegionHeld3
import Derived.Deep.Cut
import Derived.Deep.CutRange
namespace Go.Proofs.YtepmoihgemhjcaaGreatDoor
open Go.RowKit Go.Lib
set_option linter.unusedVariables false
set_option maxRecDepth 20000

set_option maxHeartbeats 4000000 in
theorem drawRootOf_any (B : Nat) (a : Option Addr) (len cap : Nat) (w : World) (hlen : len ≤ 1048576) (hB : B ≤ w.heap.size) (hc : CodeAt B a len w) :
    Calls Tryz.prog 28 #[.slice a len cap] w fun e w' => (∃ (q : Option Addr) (cq : Nat) (rs : List Rw) (p' : Option Addr) (cp : Nat) (lv : List ByteArray) (now : Int) (r : Int), e = .returned (.tuple #[.agg #[.slice q rs.length cq, .slice p' lv.length cp, .int .i64 now], .int .i64 r]) ∧ LgHi w.heap.size p' lv cp q rs cq w' ∧ LoF rs lv now ∧ -1 ≤ r ∧ r ≤ (lv.length : Int) + 1) ∧ Below w.heap.size w w' := by
  obtain ⟨W1, hW1⟩ : ∃ W1, W1 = w.alloc (.cells #[.slice none 0 0, .slice none 0 0, .int .i64 0] 26) := ⟨_, rfl⟩
  have HW : Hid (W1 = w.alloc (.cells #[.slice none 0 0, .slice none 0 0, .int .i64 0] 26)) := hW1
  have b1 : Hid (Below w.heap.size w W1) := by rw [hW1]; exact (Below.refl _ _).alloc (Nat.le_refl _) _
  have R1 : Hid (Bxs W1 w.heap.size 26 #[.slice none 0 0, .slice none 0 0, .int .i64 0]) := by rw [hW1]; exact Bxs.new _ _ _
  have HZ1 : Hid (W1.heap.size = w.heap.size + 1) := by rw [hW1]; exact szA _ _
  have hB1 : B ≤ W1.heap.size := Nat.le_trans hB b1.out.size
  have HC : Hid (CodeAt B a len W1) := hc.below (b1.out.mono hB)
  clear hW1 hc
  go_enter Tryz.func28, Tryz.ntmps28
  go_wp2_with fail
  rw [← HW.out]
  clear HW
  refine (source_any B a len cap W1 hlen hB1 HC.out).mono ?_
  rintro e y1 ⟨rfl, s1, bs1⟩
  obtain ⟨P, hP⟩ : ∃ P, P = W1.heap.size := ⟨_, rfl⟩
  rw [← hP] at s1 ⊢
  have hwP : w.heap.size < P := by rw [hP, HZ1.out]; omega
  clear hP
  have hb1 := chainB b1.out bs1
  have hr1 := R1.out.below bs1
  go_wp2_with fail
  refine (l09Log_drawn B P a len cap y1 s1).mono ?_
  rintro e y2 ⟨⟨q, cq, rs, p', cp, lv, now, rfl, hi, hf⟩, s2, g2⟩
  go_upto_region 3 with fail
  obtain ⟨y3, hy3⟩ : ∃ y3, y3 = y2.alloc (.cells #[.slice q rs.length cq, .slice p' lv.length cp, .int .i64 now] 26) := ⟨_, rfl⟩
  rw [← hy3]
  obtain ⟨X, hX⟩ : ∃ X, X = y2.heap.size := ⟨_, rfl⟩
  rw [← hX]
  have S3 : Hid (LdS w y1 26 #[.slice none 0 0, .slice none 0 0, .int .i64 0] B P a len cap X q cq rs p' cp lv now y3) := by rw [hy3, hX]; exact LdS.new hb1 hr1 s1 hwP s2 g2 hi
  have HF : Hid (LoF rs lv now) := hf
  clear hy3 hX hb1 hr1 s1 hwP s2 g2 hi hf bs1 b1 R1 HZ1 HC
  have S4 : Hid (LdS w y1 26 #[.slice none 0 0, .slice none 0 0, .int .i64 0] B P a len cap X q cq rs p' cp lv now y3.drew) := S3.out.below (Below.refl _ _).drew
  clear S3
  have hwk : IntKind.i64.wrap ((lv.length : Int) + 3) = (lv.length : Int) + 3 := by rw [IntKind.wrap_i64]; have := lof_m HF.out; omega
  refine wp_region_held_drew (S := fun w' => w'.cell? ⟨X, 0, none⟩ = some (.slice q rs.length cq) ∧ w'.cell? ⟨X, 1, none⟩ = some (.slice p' lv.length cp) ∧ w'.cell? ⟨X, 2, none⟩ = some (.int .i64 now)) (by kernel_rfl) (S4.out.cells) (fun hHeld => ?_)
  refine take_at 0 (v := ?_) rfl (by kernel_rfl) (by kernel_rfl) (by kernel_rfl) (fun _ _ _ h => h) hHeld (Or.inl ⟨by rfl, ?_⟩) ?_
  rotate_left
  · (intro w hSw; (try dsimp only at hSw); go_simp; try with_reducible rfl)
  simp only [Act.put, List.setIfInBounds_toArray, List.set_cons_zero, List.set_cons_succ]
  refine take_at 1 (v := ?_) rfl (by kernel_rfl) (by kernel_rfl) (by kernel_rfl) (fun _ _ _ h => h) hHeld (Or.inl ⟨by rfl, ?_⟩) ?_
  rotate_left
  · (intro w hSw; (try dsimp only at hSw); go_simp; try with_reducible rfl)
  simp only [Act.put, List.setIfInBounds_toArray, List.set_cons_zero, List.set_cons_succ]
  refine take_at 2 (v := ?_) rfl (by kernel_rfl) (by kernel_rfl) (by kernel_rfl) (fun _ _ _ h => h) hHeld (Or.inl ⟨by rfl, ?_⟩) ?_
  rotate_left
  · (intro w hSw; (try dsimp only at hSw); go_simp; try with_reducible rfl)
  simp only [Act.put, List.setIfInBounds_toArray, List.set_cons_zero, List.set_cons_succ]
  refine take_at 3 (v := ?_) rfl (by kernel_rfl) (by kernel_rfl) (by kernel_rfl) (fun _ _ _ h => h) hHeld (Or.inl ⟨by rfl, ?_⟩) ?_
  rotate_left
  · (intro w hSw; (try dsimp only at hSw); go_simp; try with_reducible rfl)
  simp only [Act.put, List.setIfInBounds_toArray, List.set_cons_zero, List.set_cons_succ]
  refine take_at 4 (v := ?_) rfl (by kernel_rfl) (by kernel_rfl) (by kernel_rfl) (fun _ _ _ h => h) hHeld (Or.inl ⟨by rfl, ?_⟩) ?_
  rotate_left
  · (intro w hSw; (try dsimp only at hSw); go_simp; try with_reducible rfl)
  simp only [Act.put, List.setIfInBounds_toArray, List.set_cons_zero, List.set_cons_succ]
  refine take_at 5 (v := ?_) rfl (by kernel_rfl) (by kernel_rfl) (by kernel_rfl) (fun _ _ _ h => h) hHeld (Or.inl ⟨by rfl, ?_⟩) ?_
  rotate_left
  · (intro w hSw; (try dsimp only at hSw); go_simp; try with_reducible rfl)
  simp only [Act.put, List.setIfInBounds_toArray, List.set_cons_zero, List.set_cons_succ]
  refine ready_at 6 rfl (by kernel_rfl) (fun K hK => ?_)
  go_simp
  (go_at_call 63; (with_reducible refine (n_any B P a len cap ((lv.length : Int) + 3) _ S4.out.src (by first | omega | (have := lof_m HF.out; omega))).mono ?_); rintro e z1 ⟨⟨m, rfl, m0, m1, -⟩, ss, gg⟩; have T1 := S4.out.step ss gg; clear ss gg; have m2 := m1 (by omega); clear m1; have hw : IntKind.i64.wrap (m - 1) = m - 1 := (by rw [IntKind.wrap_i64]; have := lof_m HF.out; omega))
  refine hK.out _ _ (T1.cells) (fun hHeld => ?_)
  clear hK K
  try simp only [Act.put, List.setIfInBounds_toArray, List.set_cons_zero, List.set_cons_succ]
  refine take_at 7 (v := ?_) rfl (by kernel_rfl) (by kernel_rfl) (by kernel_rfl) (fun _ _ _ h => h) hHeld (Or.inl ⟨by rfl, ?_⟩) ?_
  rotate_left
  · (intro w hSw; (try dsimp only at hSw); go_simp; try with_reducible rfl)
  simp only [Act.put, List.setIfInBounds_toArray, List.set_cons_zero, List.set_cons_succ]
  refine ready_at 8 rfl (by kernel_rfl) (fun K hK => ?_)
  obtain ⟨d0, d1, d2, f0, f1, f2⟩ := res3 T1.res
  go_simp
  refine hK.out _ _ (T1.stay _ _ _) (fun hHeld => ?_)
  clear hK K
  try simp only [Act.put, List.setIfInBounds_toArray, List.set_cons_zero, List.set_cons_succ]
  refine take_at 9 (v := ?_) rfl (by kernel_rfl) (by kernel_rfl) (by kernel_rfl) (fun _ _ _ h => h) hHeld (Or.inl ⟨by rfl, ?_⟩) ?_
  rotate_left
  · (intro w hSw; (try dsimp only at hSw); go_simp; try with_reducible rfl)
  simp only [Act.put, List.setIfInBounds_toArray, List.set_cons_zero, List.set_cons_succ]
  refine wpAnyH_done (by kernel_rfl) ?_ _
  have HE : Hid _ := fun u0 u1 u2 => T1.done u0 u1 u2
  clear T1 hHeld S4
  go_wp2_with fail
  refine bodyPost_ret (v := .tuple #[.agg #[.slice q rs.length cq, .slice p' lv.length cp, .int .i64 now], .int .i64 (m - 1)]) (by simp [results, Tryz.results28, go_sem, d0, d1, d2]) rfl ?_
  obtain ⟨z1, z2⟩ := HE.out (.slice q rs.length cq) (.slice p' lv.length cp) (.int .i64 now)
  exact ⟨⟨q, cq, rs, p', cp, lv, now, m - 1, rfl, z1, HF.out, by omega, by omega⟩, z2⟩
set_option maxHeartbeats 4000000 in
theorem drawPlaceOf_any (B : Nat) (a : Option Addr) (len cap : Nat) (w : World) (hlen : len ≤ 1048576) (hB : B ≤ w.heap.size) (hc : CodeAt B a len w) :
    Calls Tryz.prog 12 #[.slice a len cap] w fun e w' => (∃ (q : Option Addr) (cq : Nat) (rs : List Rw) (p' : Option Addr) (cp : Nat) (lv : List ByteArray) (now : Int) (r : Int), e = .returned (.tuple #[.agg #[.slice q rs.length cq, .slice p' lv.length cp, .int .i64 now], .int .i64 r]) ∧ LgHi w.heap.size p' lv cp q rs cq w' ∧ LoF rs lv now ∧ -1 ≤ r ∧ r ≤ 5) ∧ Below w.heap.size w w' := by
  obtain ⟨W1, hW1⟩ : ∃ W1, W1 = w.alloc (.cells #[.slice none 0 0, .slice none 0 0, .int .i64 0] 26) := ⟨_, rfl⟩
  have HW : Hid (W1 = w.alloc (.cells #[.slice none 0 0, .slice none 0 0, .int .i64 0] 26)) := hW1
  have b1 : Hid (Below w.heap.size w W1) := by rw [hW1]; exact (Below.refl _ _).alloc (Nat.le_refl _) _
  have R1 : Hid (Bxs W1 w.heap.size 26 #[.slice none 0 0, .slice none 0 0, .int .i64 0]) := by rw [hW1]; exact Bxs.new _ _ _
  have HZ1 : Hid (W1.heap.size = w.heap.size + 1) := by rw [hW1]; exact szA _ _
  have hB1 : B ≤ W1.heap.size := Nat.le_trans hB b1.out.size
  have HC : Hid (CodeAt B a len W1) := hc.below (b1.out.mono hB)
  clear hW1 hc
  go_enter Tryz.func12, Tryz.ntmps12
  go_wp2_with fail
  rw [← HW.out]
  clear HW
  refine (source_any B a len cap W1 hlen hB1 HC.out).mono ?_
  rintro e y1 ⟨rfl, s1, bs1⟩
  obtain ⟨P, hP⟩ : ∃ P, P = W1.heap.size := ⟨_, rfl⟩
  rw [← hP] at s1 ⊢
  have hwP : w.heap.size < P := by rw [hP, HZ1.out]; omega
  clear hP
  have hb1 := chainB b1.out bs1
  have hr1 := R1.out.below bs1
  go_wp2_with fail
  refine (l09Log_drawn B P a len cap y1 s1).mono ?_
  rintro e y2 ⟨⟨q, cq, rs, p', cp, lv, now, rfl, hi, hf⟩, s2, g2⟩
  go_upto_region 3 with fail
  obtain ⟨y3, hy3⟩ : ∃ y3, y3 = y2.alloc (.cells #[.slice q rs.length cq, .slice p' lv.length cp, .int .i64 now] 26) := ⟨_, rfl⟩
  rw [← hy3]
  obtain ⟨X, hX⟩ : ∃ X, X = y2.heap.size := ⟨_, rfl⟩
  rw [← hX]
  have S3 : Hid (LdS w y1 26 #[.slice none 0 0, .slice none 0 0, .int .i64 0] B P a len cap X q cq rs p' cp lv now y3) := by rw [hy3, hX]; exact LdS.new hb1 hr1 s1 hwP s2 g2 hi
  have HF : Hid (LoF rs lv now) := hf
  clear hy3 hX hb1 hr1 s1 hwP s2 g2 hi hf bs1 b1 R1 HZ1 HC
  have S4 : Hid (LdS w y1 26 #[.slice none 0 0, .slice none 0 0, .int .i64 0] B P a len cap X q cq rs p' cp lv now y3.drew) := S3.out.below (Below.refl _ _).drew
  clear S3
  refine wp_region_held_drew (S := fun w' => w'.cell? ⟨X, 0, none⟩ = some (.slice q rs.length cq) ∧ w'.cell? ⟨X, 1, none⟩ = some (.slice p' lv.length cp) ∧ w'.cell? ⟨X, 2, none⟩ = some (.int .i64 now)) (by kernel_rfl) (S4.out.cells) (fun hHeld => ?_)
  refine take_at 0 (v := ?_) rfl (by kernel_rfl) (by kernel_rfl) (by kernel_rfl) (fun _ _ _ h => h) hHeld (Or.inl ⟨by rfl, ?_⟩) ?_
  rotate_left
  · (intro w hSw; (try dsimp only at hSw); go_simp; try with_reducible rfl)
  simp only [Act.put, List.setIfInBounds_toArray, List.set_cons_zero, List.set_cons_succ]
  refine take_at 1 (v := ?_) rfl (by kernel_rfl) (by kernel_rfl) (by kernel_rfl) (fun _ _ _ h => h) hHeld (Or.inl ⟨by rfl, ?_⟩) ?_
  rotate_left
  · (intro w hSw; (try dsimp only at hSw); go_simp; try with_reducible rfl)
  simp only [Act.put, List.setIfInBounds_toArray, List.set_cons_zero, List.set_cons_succ]
  refine ready_at 2 rfl (by kernel_rfl) (fun K hK => ?_)
  go_simp
  (go_at_call 63; (with_reducible refine (n_any B P a len cap 7 _ S4.out.src (by first | omega | (have := lof_m HF.out; omega))).mono ?_); rintro e z1 ⟨⟨m, rfl, m0, m1, -⟩, ss, gg⟩; have T1 := S4.out.step ss gg; clear ss gg; have m2 := m1 (by omega); clear m1; have hw : IntKind.i64.wrap (m - 1) = m - 1 := (by rw [IntKind.wrap_i64]; omega))
  refine hK.out _ _ (T1.cells) (fun hHeld => ?_)
  clear hK K
  try simp only [Act.put, List.setIfInBounds_toArray, List.set_cons_zero, List.set_cons_succ]
  refine take_at 3 (v := ?_) rfl (by kernel_rfl) (by kernel_rfl) (by kernel_rfl) (fun _ _ _ h => h) hHeld (Or.inl ⟨by rfl, ?_⟩) ?_
  rotate_left
  · (intro w hSw; (try dsimp only at hSw); go_simp; try with_reducible rfl)
  simp only [Act.put, List.setIfInBounds_toArray, List.set_cons_zero, List.set_cons_succ]
  refine ready_at 4 rfl (by kernel_rfl) (fun K hK => ?_)
  obtain ⟨d0, d1, d2, f0, f1, f2⟩ := res3 T1.res
  go_simp
  refine hK.out _ _ (T1.stay _ _ _) (fun hHeld => ?_)
  clear hK K
  try simp only [Act.put, List.setIfInBounds_toArray, List.set_cons_zero, List.set_cons_succ]
  refine take_at 5 (v := ?_) rfl (by kernel_rfl) (by kernel_rfl) (by kernel_rfl) (fun _ _ _ h => h) hHeld (Or.inl ⟨by rfl, ?_⟩) ?_
  rotate_left
  · (intro w hSw; (try dsimp only at hSw); go_simp; try with_reducible rfl)
  simp only [Act.put, List.setIfInBounds_toArray, List.set_cons_zero, List.set_cons_succ]
  refine wpAnyH_done (by kernel_rfl) ?_ _
  have HE : Hid _ := fun u0 u1 u2 => T1.done u0 u1 u2
  clear T1 hHeld S4
  go_wp2_with fail
  refine bodyPost_ret (v := .tuple #[.agg #[.slice q rs.length cq, .slice p' lv.length cp, .int .i64 now], .int .i64 (m - 1)]) (by simp [results, Tryz.results12, go_sem, d0, d1, d2]) rfl ?_
  obtain ⟨z1, z2⟩ := HE.out (.slice q rs.length cq) (.slice p' lv.length cp) (.int .i64 now)
  exact ⟨⟨q, cq, rs, p', cp, lv, now, m - 1, rfl, z1, HF.out, by omega, by omega⟩, z2⟩
set_option maxHeartbeats 4000000 in
theorem drawTombOf_any (B : Nat) (a : Option Addr) (len cap : Nat) (w : World) (hlen : len ≤ 1048576) (hB : B ≤ w.heap.size) (hc : CodeAt B a len w) :
    Calls Tryz.prog 13 #[.slice a len cap] w fun e w' => (∃ (q : Option Addr) (cq : Nat) (rs : List Rw) (p' : Option Addr) (cp : Nat) (lv : List ByteArray) (now : Int) (i0 : Int) (r : Int), e = .returned (.tuple #[.agg #[.slice q rs.length cq, .slice p' lv.length cp, .int .i64 now], .int .i64 i0, .int .i64 r]) ∧ LgHi w.heap.size p' lv cp q rs cq w' ∧ LoF rs lv now ∧ 0 ≤ i0 ∧ i0 ≤ 3 ∧ 0 ≤ r ∧ r ≤ 2) ∧ Below w.heap.size w w' := by
  obtain ⟨W1, hW1⟩ : ∃ W1, W1 = w.alloc (.cells #[.slice none 0 0, .slice none 0 0, .int .i64 0] 26) := ⟨_, rfl⟩
  have HW : Hid (W1 = w.alloc (.cells #[.slice none 0 0, .slice none 0 0, .int .i64 0] 26)) := hW1
  have b1 : Hid (Below w.heap.size w W1) := by rw [hW1]; exact (Below.refl _ _).alloc (Nat.le_refl _) _
  have R1 : Hid (Bxs W1 w.heap.size 26 #[.slice none 0 0, .slice none 0 0, .int .i64 0]) := by rw [hW1]; exact Bxs.new _ _ _
  have HZ1 : Hid (W1.heap.size = w.heap.size + 1) := by rw [hW1]; exact szA _ _
  have hB1 : B ≤ W1.heap.size := Nat.le_trans hB b1.out.size
  have HC : Hid (CodeAt B a len W1) := hc.below (b1.out.mono hB)
  clear hW1 hc
  go_enter Tryz.func13, Tryz.ntmps13
  go_wp2_with fail
  rw [← HW.out]
  clear HW
  refine (source_any B a len cap W1 hlen hB1 HC.out).mono ?_
  rintro e y1 ⟨rfl, s1, bs1⟩
  obtain ⟨P, hP⟩ : ∃ P, P = W1.heap.size := ⟨_, rfl⟩
  rw [← hP] at s1 ⊢
  have hwP : w.heap.size < P := by rw [hP, HZ1.out]; omega
  clear hP
  have hb1 := chainB b1.out bs1
  have hr1 := R1.out.below bs1
  go_wp2_with fail
  refine (l09Log_drawn B P a len cap y1 s1).mono ?_
  rintro e y2 ⟨⟨q, cq, rs, p', cp, lv, now, rfl, hi, hf⟩, s2, g2⟩
  go_wp2_with fail
  obtain ⟨y3, hy3⟩ : ∃ y3, y3 = y2.alloc (.cells #[.slice q rs.length cq, .slice p' lv.length cp, .int .i64 now] 26) := ⟨_, rfl⟩
  rw [← hy3]
  obtain ⟨X, hX⟩ : ∃ X, X = y2.heap.size := ⟨_, rfl⟩
  rw [← hX]
  have S3 : Hid (LdS w y1 26 #[.slice none 0 0, .slice none 0 0, .int .i64 0] B P a len cap X q cq rs p' cp lv now y3) := by rw [hy3, hX]; exact LdS.new hb1 hr1 s1 hwP s2 g2 hi
  have HF : Hid (LoF rs lv now) := hf
  clear hy3 hX hb1 hr1 s1 hwP s2 g2 hi hf bs1 b1 R1 HZ1 HC
  refine (n_any B P a len cap 4 _ S3.out.src (by omega)).mono ?_
  rintro e v0 ⟨⟨k0, rfl, k00, k01, -⟩, ss, gg⟩
  have P0 : Hid (LdS w y1 26 #[.slice none 0 0, .slice none 0 0, .int .i64 0] B P a len cap X q cq rs p' cp lv now v0) := S3.out.step ss gg
  have k02 := k01 (by omega)
  clear ss gg k01 S3
  go_upto_region 4 with fail
  have S4 : Hid (LdS w y1 26 #[.slice none 0 0, .slice none 0 0, .int .i64 0] B P a len cap X q cq rs p' cp lv now v0.drew) := P0.out.below (Below.refl _ _).drew
  clear P0
  refine wp_region_held_drew (S := fun w' => w'.cell? ⟨X, 0, none⟩ = some (.slice q rs.length cq) ∧ w'.cell? ⟨X, 1, none⟩ = some (.slice p' lv.length cp) ∧ w'.cell? ⟨X, 2, none⟩ = some (.int .i64 now)) (by kernel_rfl) (S4.out.cells) (fun hHeld => ?_)
  refine take_at 0 (v := ?_) rfl (by kernel_rfl) (by kernel_rfl) (by kernel_rfl) (fun _ _ _ h => h) hHeld (Or.inl ⟨by rfl, ?_⟩) ?_
  rotate_left
  · (intro w hSw; (try dsimp only at hSw); go_simp; try with_reducible rfl)
  simp only [Act.put, List.setIfInBounds_toArray, List.set_cons_zero, List.set_cons_succ]
  refine take_at 1 (v := ?_) rfl (by kernel_rfl) (by kernel_rfl) (by kernel_rfl) (fun _ _ _ h => h) hHeld (Or.inl ⟨by rfl, ?_⟩) ?_
  rotate_left
  · (intro w hSw; (try dsimp only at hSw); go_simp; try with_reducible rfl)
  simp only [Act.put, List.setIfInBounds_toArray, List.set_cons_zero, List.set_cons_succ]
  refine take_at 2 (v := ?_) rfl (by kernel_rfl) (by kernel_rfl) (by kernel_rfl) (fun _ _ _ h => h) hHeld (Or.inl ⟨by rfl, ?_⟩) ?_
  rotate_left
  · (intro w hSw; (try dsimp only at hSw); go_simp; try with_reducible rfl)
  simp only [Act.put, List.setIfInBounds_toArray, List.set_cons_zero, List.set_cons_succ]
  refine ready_at 3 rfl (by kernel_rfl) (fun K hK => ?_)
  go_simp
  (go_at_call 63; (with_reducible refine (n_any B P a len cap 3 _ S4.out.src (by first | omega | (have := lof_m HF.out; omega))).mono ?_); rintro e z1 ⟨⟨m, rfl, m0, m1, -⟩, ss, gg⟩; have T1 := S4.out.step ss gg; clear ss gg; have m2 := m1 (by omega); clear m1)
  refine hK.out _ _ (T1.cells) (fun hHeld => ?_)
  clear hK K
  try simp only [Act.put, List.setIfInBounds_toArray, List.set_cons_zero, List.set_cons_succ]
  refine ready_at 4 rfl (by kernel_rfl) (fun K hK => ?_)
  obtain ⟨d0, d1, d2, f0, f1, f2⟩ := res3 T1.res
  go_simp
  refine hK.out _ _ (T1.stay _ _ _) (fun hHeld => ?_)
  clear hK K
  try simp only [Act.put, List.setIfInBounds_toArray, List.set_cons_zero, List.set_cons_succ]
  refine take_at 5 (v := ?_) rfl (by kernel_rfl) (by kernel_rfl) (by kernel_rfl) (fun _ _ _ h => h) hHeld (Or.inl ⟨by rfl, ?_⟩) ?_
  rotate_left
  · (intro w hSw; (try dsimp only at hSw); go_simp; try with_reducible rfl)
  simp only [Act.put, List.setIfInBounds_toArray, List.set_cons_zero, List.set_cons_succ]
  refine take_at 6 (v := ?_) rfl (by kernel_rfl) (by kernel_rfl) (by kernel_rfl) (fun _ _ _ h => h) hHeld (Or.inl ⟨by rfl, ?_⟩) ?_
  rotate_left
  · (intro w hSw; (try dsimp only at hSw); go_simp; try with_reducible rfl)
  simp only [Act.put, List.setIfInBounds_toArray, List.set_cons_zero, List.set_cons_succ]
  refine wpAnyH_done (by kernel_rfl) ?_ _
  have HE : Hid _ := fun u0 u1 u2 => T1.done u0 u1 u2
  clear T1 hHeld S4
  go_wp2_with fail
  refine bodyPost_ret (v := .tuple #[.agg #[.slice q rs.length cq, .slice p' lv.length cp, .int .i64 now], .int .i64 (k0), .int .i64 m]) (by simp [results, Tryz.results13, go_sem, d0, d1, d2]) rfl ?_
  obtain ⟨z1, z2⟩ := HE.out (.slice q rs.length cq) (.slice p' lv.length cp) (.int .i64 now)
  exact ⟨⟨q, cq, rs, p', cp, lv, now, k0, m, rfl, z1, HF.out, by omega, by omega, by omega, by omega⟩, z2⟩
set_option maxHeartbeats 4000000 in
theorem drawStatusOf_any (B : Nat) (a : Option Addr) (len cap : Nat) (w : World) (hlen : len ≤ 1048576) (hB : B ≤ w.heap.size) (hc : CodeAt B a len w) :
    Calls Tryz.prog 14 #[.slice a len cap] w fun e w' => (∃ (q : Option Addr) (cq : Nat) (rs : List Rw) (p' : Option Addr) (cp : Nat) (lv : List ByteArray) (now : Int) (i0 : Int) (r : Int), e = .returned (.tuple #[.agg #[.slice q rs.length cq, .slice p' lv.length cp, .int .i64 now], .int .i64 i0, .int .i64 r]) ∧ LgHi w.heap.size p' lv cp q rs cq w' ∧ LoF rs lv now ∧ -1 ≤ i0 ∧ i0 ≤ 4 ∧ -1 ≤ r ∧ r ≤ 3) ∧ Below w.heap.size w w' := by
  obtain ⟨W1, hW1⟩ : ∃ W1, W1 = w.alloc (.cells #[.slice none 0 0, .slice none 0 0, .int .i64 0] 26) := ⟨_, rfl⟩
  have HW : Hid (W1 = w.alloc (.cells #[.slice none 0 0, .slice none 0 0, .int .i64 0] 26)) := hW1
  have b1 : Hid (Below w.heap.size w W1) := by rw [hW1]; exact (Below.refl _ _).alloc (Nat.le_refl _) _
  have R1 : Hid (Bxs W1 w.heap.size 26 #[.slice none 0 0, .slice none 0 0, .int .i64 0]) := by rw [hW1]; exact Bxs.new _ _ _
  have HZ1 : Hid (W1.heap.size = w.heap.size + 1) := by rw [hW1]; exact szA _ _
  have hB1 : B ≤ W1.heap.size := Nat.le_trans hB b1.out.size
  have HC : Hid (CodeAt B a len W1) := hc.below (b1.out.mono hB)
  clear hW1 hc
  go_enter Tryz.func14, Tryz.ntmps14
  go_wp2_with fail
  rw [← HW.out]
  clear HW
  refine (source_any B a len cap W1 hlen hB1 HC.out).mono ?_
  rintro e y1 ⟨rfl, s1, bs1⟩
  obtain ⟨P, hP⟩ : ∃ P, P = W1.heap.size := ⟨_, rfl⟩
  rw [← hP] at s1 ⊢
  have hwP : w.heap.size < P := by rw [hP, HZ1.out]; omega
  clear hP
  have hb1 := chainB b1.out bs1
  have hr1 := R1.out.below bs1
  go_wp2_with fail
  refine (l09Log_drawn B P a len cap y1 s1).mono ?_
  rintro e y2 ⟨⟨q, cq, rs, p', cp, lv, now, rfl, hi, hf⟩, s2, g2⟩
  go_wp2_with fail
  obtain ⟨y3, hy3⟩ : ∃ y3, y3 = y2.alloc (.cells #[.slice q rs.length cq, .slice p' lv.length cp, .int .i64 now] 26) := ⟨_, rfl⟩
  rw [← hy3]
  obtain ⟨X, hX⟩ : ∃ X, X = y2.heap.size := ⟨_, rfl⟩
  rw [← hX]
  have S3 : Hid (LdS w y1 26 #[.slice none 0 0, .slice none 0 0, .int .i64 0] B P a len cap X q cq rs p' cp lv now y3) := by rw [hy3, hX]; exact LdS.new hb1 hr1 s1 hwP s2 g2 hi
  have HF : Hid (LoF rs lv now) := hf
  clear hy3 hX hb1 hr1 s1 hwP s2 g2 hi hf bs1 b1 R1 HZ1 HC
  refine (n_any B P a len cap 6 _ S3.out.src (by omega)).mono ?_
  rintro e v0 ⟨⟨k0, rfl, k00, k01, -⟩, ss, gg⟩
  have P0 : Hid (LdS w y1 26 #[.slice none 0 0, .slice none 0 0, .int .i64 0] B P a len cap X q cq rs p' cp lv now v0) := S3.out.step ss gg
  have k02 := k01 (by omega)
  clear ss gg k01 S3
  go_upto_region 4 with fail
  have S4 : Hid (LdS w y1 26 #[.slice none 0 0, .slice none 0 0, .int .i64 0] B P a len cap X q cq rs p' cp lv now v0.drew) := P0.out.below (Below.refl _ _).drew
  clear P0
  refine wp_region_held_drew (S := fun w' => w'.cell? ⟨X, 0, none⟩ = some (.slice q rs.length cq) ∧ w'.cell? ⟨X, 1, none⟩ = some (.slice p' lv.length cp) ∧ w'.cell? ⟨X, 2, none⟩ = some (.int .i64 now)) (by kernel_rfl) (S4.out.cells) (fun hHeld => ?_)
  refine take_at 0 (v := ?_) rfl (by kernel_rfl) (by kernel_rfl) (by kernel_rfl) (fun _ _ _ h => h) hHeld (Or.inl ⟨by rfl, ?_⟩) ?_
  rotate_left
  · (intro w hSw; (try dsimp only at hSw); go_simp; try with_reducible rfl)
  simp only [Act.put, List.setIfInBounds_toArray, List.set_cons_zero, List.set_cons_succ]
  refine take_at 1 (v := ?_) rfl (by kernel_rfl) (by kernel_rfl) (by kernel_rfl) (fun _ _ _ h => h) hHeld (Or.inl ⟨by rfl, ?_⟩) ?_
  rotate_left
  · (intro w hSw; (try dsimp only at hSw); go_simp; try with_reducible rfl)
  simp only [Act.put, List.setIfInBounds_toArray, List.set_cons_zero, List.set_cons_succ]
  refine take_at 2 (v := ?_) rfl (by kernel_rfl) (by kernel_rfl) (by kernel_rfl) (fun _ _ _ h => h) hHeld (Or.inl ⟨by rfl, ?_⟩) ?_
  rotate_left
  · (intro w hSw; (try dsimp only at hSw); go_simp; try with_reducible rfl)
  simp only [Act.put, List.setIfInBounds_toArray, List.set_cons_zero, List.set_cons_succ]
  refine ready_at 3 rfl (by kernel_rfl) (fun K hK => ?_)
  go_simp
  (go_at_call 63; (with_reducible refine (n_any B P a len cap 5 _ S4.out.src (by first | omega | (have := lof_m HF.out; omega))).mono ?_); rintro e z1 ⟨⟨m, rfl, m0, m1, -⟩, ss, gg⟩; have T1 := S4.out.step ss gg; clear ss gg; have m2 := m1 (by omega); clear m1; have hw : IntKind.i64.wrap (m - 1) = m - 1 := (by rw [IntKind.wrap_i64]; omega))
  refine hK.out _ _ (T1.cells) (fun hHeld => ?_)
  clear hK K
  try simp only [Act.put, List.setIfInBounds_toArray, List.set_cons_zero, List.set_cons_succ]
  refine take_at 4 (v := ?_) rfl (by kernel_rfl) (by kernel_rfl) (by kernel_rfl) (fun _ _ _ h => h) hHeld (Or.inl ⟨by rfl, ?_⟩) ?_
  rotate_left
  · (intro w hSw; (try dsimp only at hSw); go_simp; try with_reducible rfl)
  simp only [Act.put, List.setIfInBounds_toArray, List.set_cons_zero, List.set_cons_succ]
  refine ready_at 5 rfl (by kernel_rfl) (fun K hK => ?_)
  obtain ⟨d0, d1, d2, f0, f1, f2⟩ := res3 T1.res
  go_simp
  refine hK.out _ _ (T1.stay _ _ _) (fun hHeld => ?_)
  clear hK K
  try simp only [Act.put, List.setIfInBounds_toArray, List.set_cons_zero, List.set_cons_succ]
  refine take_at 6 (v := ?_) rfl (by kernel_rfl) (by kernel_rfl) (by kernel_rfl) (fun _ _ _ h => h) hHeld (Or.inl ⟨by rfl, ?_⟩) ?_
  rotate_left
  · (intro w hSw; (try dsimp only at hSw); go_simp; try with_reducible rfl)
  simp only [Act.put, List.setIfInBounds_toArray, List.set_cons_zero, List.set_cons_succ]
  refine take_at 7 (v := ?_) rfl (by kernel_rfl) (by kernel_rfl) (by kernel_rfl) (fun _ _ _ h => h) hHeld (Or.inl ⟨by rfl, ?_⟩) ?_
  rotate_left
  · (intro w hSw; (try dsimp only at hSw); go_simp; try with_reducible rfl)
  simp only [Act.put, List.setIfInBounds_toArray, List.set_cons_zero, List.set_cons_succ]
  refine wpAnyH_done (by kernel_rfl) ?_ _
  have HE : Hid _ := fun u0 u1 u2 => T1.done u0 u1 u2
  clear T1 hHeld S4
  go_wp2_with fail
  refine bodyPost_ret (v := .tuple #[.agg #[.slice q rs.length cq, .slice p' lv.length cp, .int .i64 now], .int .i64 (k0 - 1), .int .i64 (m - 1)]) (by simp [results, Tryz.results14, go_sem, d0, d1, d2]) rfl ?_
  obtain ⟨z1, z2⟩ := HE.out (.slice q rs.length cq) (.slice p' lv.length cp) (.int .i64 now)
  exact ⟨⟨q, cq, rs, p', cp, lv, now, k0 - 1, m - 1, rfl, z1, HF.out, by omega, by omega, by omega, by omega⟩, z2⟩
set_option maxHeartbeats 4000000 in
theorem drawLogForget_any (B : Nat) (a : Option Addr) (len cap : Nat) (w : World) (hlen : len ≤ 1048576) (hB : B ≤ w.heap.size) (hc : CodeAt B a len w) :
    Calls Tryz.prog 8 #[.slice a len cap] w fun e w' => (∃ (q : Option Addr) (cq : Nat) (rs : List Rw) (p' : Option Addr) (cp : Nat) (lv : List ByteArray) (now : Int) (i0 : Int) (i1 : Int) (r : Int), e = .returned (.tuple #[.agg #[.slice q rs.length cq, .slice p' lv.length cp, .int .i64 now], .int .i64 i0, .int .i64 i1, .int .i64 r]) ∧ LgHi w.heap.size p' lv cp q rs cq w' ∧ LoF rs lv now ∧ -1 ≤ i0 ∧ i0 ≤ 3 ∧ -1 ≤ i1 ∧ i1 ≤ 2 ∧ 0 ≤ r ∧ r ≤ 3) ∧ Below w.heap.size w w' := by
  obtain ⟨W1, hW1⟩ : ∃ W1, W1 = w.alloc (.cells #[.slice none 0 0, .slice none 0 0, .int .i64 0] 26) := ⟨_, rfl⟩
  have HW : Hid (W1 = w.alloc (.cells #[.slice none 0 0, .slice none 0 0, .int .i64 0] 26)) := hW1
  have b1 : Hid (Below w.heap.size w W1) := by rw [hW1]; exact (Below.refl _ _).alloc (Nat.le_refl _) _
  have R1 : Hid (Bxs W1 w.heap.size 26 #[.slice none 0 0, .slice none 0 0, .int .i64 0]) := by rw [hW1]; exact Bxs.new _ _ _
  have HZ1 : Hid (W1.heap.size = w.heap.size + 1) := by rw [hW1]; exact szA _ _
  have hB1 : B ≤ W1.heap.size := Nat.le_trans hB b1.out.size
  have HC : Hid (CodeAt B a len W1) := hc.below (b1.out.mono hB)
  clear hW1 hc
  go_enter Tryz.func8, Tryz.ntmps8
  go_wp2_with fail
  rw [← HW.out]
  clear HW
  refine (source_any B a len cap W1 hlen hB1 HC.out).mono ?_
  rintro e y1 ⟨rfl, s1, bs1⟩
  obtain ⟨P, hP⟩ : ∃ P, P = W1.heap.size := ⟨_, rfl⟩
  rw [← hP] at s1 ⊢
  have hwP : w.heap.size < P := by rw [hP, HZ1.out]; omega
  clear hP
  have hb1 := chainB b1.out bs1
  have hr1 := R1.out.below bs1
  go_wp2_with fail
  refine (l09Log_drawn B P a len cap y1 s1).mono ?_
  rintro e y2 ⟨⟨q, cq, rs, p', cp, lv, now, rfl, hi, hf⟩, s2, g2⟩
  go_wp2_with fail
  obtain ⟨y3, hy3⟩ : ∃ y3, y3 = y2.alloc (.cells #[.slice q rs.length cq, .slice p' lv.length cp, .int .i64 now] 26) := ⟨_, rfl⟩
  rw [← hy3]
  obtain ⟨X, hX⟩ : ∃ X, X = y2.heap.size := ⟨_, rfl⟩
  rw [← hX]
  have S3 : Hid (LdS w y1 26 #[.slice none 0 0, .slice none 0 0, .int .i64 0] B P a len cap X q cq rs p' cp lv now y3) := by rw [hy3, hX]; exact LdS.new hb1 hr1 s1 hwP s2 g2 hi
  have HF : Hid (LoF rs lv now) := hf
  clear hy3 hX hb1 hr1 s1 hwP s2 g2 hi hf bs1 b1 R1 HZ1 HC
  refine (n_any B P a len cap 5 _ S3.out.src (by omega)).mono ?_
  rintro e v0 ⟨⟨k0, rfl, k00, k01, -⟩, ss, gg⟩
  have P0 : Hid (LdS w y1 26 #[.slice none 0 0, .slice none 0 0, .int .i64 0] B P a len cap X q cq rs p' cp lv now v0) := S3.out.step ss gg
  have k02 := k01 (by omega)
  clear ss gg k01 S3
  go_wp2_with fail
  refine (n_any B P a len cap 4 _ P0.out.src (by omega)).mono ?_
  rintro e v1 ⟨⟨k1, rfl, k10, k11, -⟩, ss, gg⟩
  have P1 : Hid (LdS w y1 26 #[.slice none 0 0, .slice none 0 0, .int .i64 0] B P a len cap X q cq rs p' cp lv now v1) := P0.out.step ss gg
  have k12 := k11 (by omega)
  clear ss gg k11 P0
  go_upto_region 5 with fail
  have S4 : Hid (LdS w y1 26 #[.slice none 0 0, .slice none 0 0, .int .i64 0] B P a len cap X q cq rs p' cp lv now v1.drew) := P1.out.below (Below.refl _ _).drew
  clear P1
  refine wp_region_held_drew (S := fun w' => w'.cell? ⟨X, 0, none⟩ = some (.slice q rs.length cq) ∧ w'.cell? ⟨X, 1, none⟩ = some (.slice p' lv.length cp) ∧ w'.cell? ⟨X, 2, none⟩ = some (.int .i64 now)) (by kernel_rfl) (S4.out.cells) (fun hHeld => ?_)
  refine take_at 0 (v := ?_) rfl (by kernel_rfl) (by kernel_rfl) (by kernel_rfl) (fun _ _ _ h => h) hHeld (Or.inl ⟨by rfl, ?_⟩) ?_
  rotate_left
  · (intro w hSw; (try dsimp only at hSw); go_simp; try with_reducible rfl)
  simp only [Act.put, List.setIfInBounds_toArray, List.set_cons_zero, List.set_cons_succ]
  refine take_at 1 (v := ?_) rfl (by kernel_rfl) (by kernel_rfl) (by kernel_rfl) (fun _ _ _ h => h) hHeld (Or.inl ⟨by rfl, ?_⟩) ?_
  rotate_left
  · (intro w hSw; (try dsimp only at hSw); go_simp; try with_reducible rfl)
  simp only [Act.put, List.setIfInBounds_toArray, List.set_cons_zero, List.set_cons_succ]
  refine take_at 2 (v := ?_) rfl (by kernel_rfl) (by kernel_rfl) (by kernel_rfl) (fun _ _ _ h => h) hHeld (Or.inl ⟨by rfl, ?_⟩) ?_
  rotate_left
  · (intro w hSw; (try dsimp only at hSw); go_simp; try with_reducible rfl)
  simp only [Act.put, List.setIfInBounds_toArray, List.set_cons_zero, List.set_cons_succ]
  refine take_at 3 (v := ?_) rfl (by kernel_rfl) (by kernel_rfl) (by kernel_rfl) (fun _ _ _ h => h) hHeld (Or.inl ⟨by rfl, ?_⟩) ?_
  rotate_left
  · (intro w hSw; (try dsimp only at hSw); go_simp; try with_reducible rfl)
  simp only [Act.put, List.setIfInBounds_toArray, List.set_cons_zero, List.set_cons_succ]
  refine ready_at 4 rfl (by kernel_rfl) (fun K hK => ?_)
  go_simp
  (go_at_call 63; (with_reducible refine (n_any B P a len cap 4 _ S4.out.src (by first | omega | (have := lof_m HF.out; omega))).mono ?_); rintro e z1 ⟨⟨m, rfl, m0, m1, -⟩, ss, gg⟩; have T1 := S4.out.step ss gg; clear ss gg; have m2 := m1 (by omega); clear m1)
  refine hK.out _ _ (T1.cells) (fun hHeld => ?_)
  clear hK K
  try simp only [Act.put, List.setIfInBounds_toArray, List.set_cons_zero, List.set_cons_succ]
  refine ready_at 5 rfl (by kernel_rfl) (fun K hK => ?_)
  obtain ⟨d0, d1, d2, f0, f1, f2⟩ := res3 T1.res
  go_simp
  refine hK.out _ _ (T1.stay _ _ _) (fun hHeld => ?_)
  clear hK K
  try simp only [Act.put, List.setIfInBounds_toArray, List.set_cons_zero, List.set_cons_succ]
  refine take_at 6 (v := ?_) rfl (by kernel_rfl) (by kernel_rfl) (by kernel_rfl) (fun _ _ _ h => h) hHeld (Or.inl ⟨by rfl, ?_⟩) ?_
  rotate_left
  · (intro w hSw; (try dsimp only at hSw); go_simp; try with_reducible rfl)
  simp only [Act.put, List.setIfInBounds_toArray, List.set_cons_zero, List.set_cons_succ]
  refine take_at 7 (v := ?_) rfl (by kernel_rfl) (by kernel_rfl) (by kernel_rfl) (fun _ _ _ h => h) hHeld (Or.inl ⟨by rfl, ?_⟩) ?_
  rotate_left
  · (intro w hSw; (try dsimp only at hSw); go_simp; try with_reducible rfl)
  simp only [Act.put, List.setIfInBounds_toArray, List.set_cons_zero, List.set_cons_succ]
  refine take_at 8 (v := ?_) rfl (by kernel_rfl) (by kernel_rfl) (by kernel_rfl) (fun _ _ _ h => h) hHeld (Or.inl ⟨by rfl, ?_⟩) ?_
  rotate_left
  · (intro w hSw; (try dsimp only at hSw); go_simp; try with_reducible rfl)
  simp only [Act.put, List.setIfInBounds_toArray, List.set_cons_zero, List.set_cons_succ]
  refine wpAnyH_done (by kernel_rfl) ?_ _
  have HE : Hid _ := fun u0 u1 u2 => T1.done u0 u1 u2
  clear T1 hHeld S4
  go_wp2_with fail
  refine bodyPost_ret (v := .tuple #[.agg #[.slice q rs.length cq, .slice p' lv.length cp, .int .i64 now], .int .i64 (k0 - 1), .int .i64 (k1 - 1), .int .i64 m]) (by simp [results, Tryz.results8, go_sem, d0, d1, d2]) rfl ?_
  obtain ⟨z1, z2⟩ := HE.out (.slice q rs.length cq) (.slice p' lv.length cp) (.int .i64 now)
  exact ⟨⟨q, cq, rs, p', cp, lv, now, k0 - 1, k1 - 1, m, rfl, z1, HF.out, by omega, by omega, by omega, by omega, by omega, by omega⟩, z2⟩
set_option maxHeartbeats 4000000 in
theorem drawLogTime_any (B : Nat) (a : Option Addr) (len cap : Nat) (w : World) (hlen : len ≤ 1048576) (hB : B ≤ w.heap.size) (hc : CodeAt B a len w) :
    Calls Tryz.prog 10 #[.slice a len cap] w fun e w' => (∃ (q : Option Addr) (cq : Nat) (rs : List Rw) (p' : Option Addr) (cp : Nat) (lv : List ByteArray) (now : Int) (r : Int), e = .returned (.tuple #[.agg #[.slice q rs.length cq, .slice p' lv.length cp, .int .i64 now], .int .i64 r]) ∧ LgHi w.heap.size p' lv cp q rs cq w' ∧ LoF rs lv now ∧ -9223372036854775808 ≤ r ∧ r ≤ 9223372036854775807) ∧ Below w.heap.size w w' := by
  obtain ⟨W1, hW1⟩ : ∃ W1, W1 = w.alloc (.cells #[.slice none 0 0, .slice none 0 0, .int .i64 0] 26) := ⟨_, rfl⟩
  have HW : Hid (W1 = w.alloc (.cells #[.slice none 0 0, .slice none 0 0, .int .i64 0] 26)) := hW1
  have b1 : Hid (Below w.heap.size w W1) := by rw [hW1]; exact (Below.refl _ _).alloc (Nat.le_refl _) _
  have R1 : Hid (Bxs W1 w.heap.size 26 #[.slice none 0 0, .slice none 0 0, .int .i64 0]) := by rw [hW1]; exact Bxs.new _ _ _
  have HZ1 : Hid (W1.heap.size = w.heap.size + 1) := by rw [hW1]; exact szA _ _
  have hB1 : B ≤ W1.heap.size := Nat.le_trans hB b1.out.size
  have HC : Hid (CodeAt B a len W1) := hc.below (b1.out.mono hB)
  clear hW1 hc
  go_enter Tryz.func10, Tryz.ntmps10
  go_wp2_with fail
  rw [← HW.out]
  clear HW
  refine (source_any B a len cap W1 hlen hB1 HC.out).mono ?_
  rintro e y1 ⟨rfl, s1, bs1⟩
  obtain ⟨P, hP⟩ : ∃ P, P = W1.heap.size := ⟨_, rfl⟩
  rw [← hP] at s1 ⊢
  have hwP : w.heap.size < P := by rw [hP, HZ1.out]; omega
  clear hP
  have hb1 := chainB b1.out bs1
  have hr1 := R1.out.below bs1
  go_wp2_with fail
  refine (l09Log_drawn B P a len cap y1 s1).mono ?_
  rintro e y2 ⟨⟨q, cq, rs, p', cp, lv, now, rfl, hi, hf⟩, s2, g2⟩
  go_wp2_with fail
  obtain ⟨y3, hy3⟩ : ∃ y3, y3 = y2.alloc (.cells #[.slice q rs.length cq, .slice p' lv.length cp, .int .i64 now] 26) := ⟨_, rfl⟩
  rw [← hy3]
  obtain ⟨X, hX⟩ : ∃ X, X = y2.heap.size := ⟨_, rfl⟩
  rw [← hX]
  have S3 : Hid (LdS w y1 26 #[.slice none 0 0, .slice none 0 0, .int .i64 0] B P a len cap X q cq rs p' cp lv now y3) := by rw [hy3, hX]; exact LdS.new hb1 hr1 s1 hwP s2 g2 hi
  have HF : Hid (LoF rs lv now) := hf
  clear hy3 hX hb1 hr1 s1 hwP s2 g2 hi hf bs1 b1 R1 HZ1 HC
  refine (one_any B P a len cap 10 _ S3.out.src (by omega)).mono ?_
  rintro e v0 ⟨⟨bb, rfl⟩, ss, gg⟩
  have PS : Hid (LdS w y1 26 #[.slice none 0 0, .slice none 0 0, .int .i64 0] B P a len cap X q cq rs p' cp lv now v0) := S3.out.step ss gg
  clear ss gg S3
  have S4 : Hid (LdS w y1 26 #[.slice none 0 0, .slice none 0 0, .int .i64 0] B P a len cap X q cq rs p' cp lv now v0.drew) := PS.out.below (Below.refl _ _).drew
  obtain ⟨c0, c1, c2⟩ := PS.out.cells
  clear PS
  cases bb with
  | true =>
    go_upto_region 4 with fail
    clear c0 c1 c2
    refine wp_region_held_drew (S := fun w' => w'.cell? ⟨X, 0, none⟩ = some (.slice q rs.length cq) ∧ w'.cell? ⟨X, 1, none⟩ = some (.slice p' lv.length cp) ∧ w'.cell? ⟨X, 2, none⟩ = some (.int .i64 now)) (by kernel_rfl) (S4.out.cells) (fun hHeld => ?_)
    refine take_at 0 (v := ?_) rfl (by kernel_rfl) (by kernel_rfl) (by kernel_rfl) (fun _ _ _ h => h) hHeld (Or.inl ⟨by rfl, ?_⟩) ?_
    rotate_left
    · (intro w hSw; (try dsimp only at hSw); go_simp; try with_reducible rfl)
    simp only [Act.put, List.setIfInBounds_toArray, List.set_cons_zero, List.set_cons_succ]
    refine take_at 1 (v := ?_) rfl (by kernel_rfl) (by kernel_rfl) (by kernel_rfl) (fun _ _ _ h => h) hHeld (Or.inl ⟨by rfl, ?_⟩) ?_
    rotate_left
    · (intro w hSw; (try dsimp only at hSw); go_simp; try with_reducible rfl)
    simp only [Act.put, List.setIfInBounds_toArray, List.set_cons_zero, List.set_cons_succ]
    refine ready_at 2 rfl (by kernel_rfl) (fun K hK => ?_)
    go_simp
    (go_at_call 69; (with_reducible refine (edge_any B P a len cap _ S4.out.src).mono ?_); rintro e z1 ⟨⟨m, rfl, m0, m1⟩, ss, gg⟩; have T1 := S4.out.step ss gg; clear ss gg)
    refine hK.out _ _ (T1.cells) (fun hHeld => ?_)
    clear hK K
    try simp only [Act.put, List.setIfInBounds_toArray, List.set_cons_zero, List.set_cons_succ]
    refine ready_at 3 rfl (by kernel_rfl) (fun K hK => ?_)
    obtain ⟨d0, d1, d2, f0, f1, f2⟩ := res3 T1.res
    go_simp
    refine hK.out _ _ (T1.stay _ _ _) (fun hHeld => ?_)
    clear hK K
    try simp only [Act.put, List.setIfInBounds_toArray, List.set_cons_zero, List.set_cons_succ]
    refine take_at 4 (v := ?_) rfl (by kernel_rfl) (by kernel_rfl) (by kernel_rfl) (fun _ _ _ h => h) hHeld (Or.inl ⟨by rfl, ?_⟩) ?_
    rotate_left
    · (intro w hSw; (try dsimp only at hSw); go_simp; try with_reducible rfl)
    simp only [Act.put, List.setIfInBounds_toArray, List.set_cons_zero, List.set_cons_succ]
    refine wpAnyH_done (by kernel_rfl) ?_ _
    have HE : Hid _ := fun u0 u1 u2 => T1.done u0 u1 u2
    clear T1 hHeld S4
    go_wp2_with fail
    refine bodyPost_ret (v := .tuple #[.agg #[.slice q rs.length cq, .slice p' lv.length cp, .int .i64 now], .int .i64 m]) (by simp [results, Tryz.results10, go_sem, d0, d1, d2]) rfl ?_
    obtain ⟨z1, z2⟩ := HE.out (.slice q rs.length cq) (.slice p' lv.length cp) (.int .i64 now)
    exact ⟨⟨q, cq, rs, p', cp, lv, now, m, rfl, z1, HF.out, by omega, by omega⟩, z2⟩
  | false =>
    go_upto_region 5 with fail
    clear c0 c1 c2
    refine wp_region_held_drew (S := fun w' => w'.cell? ⟨X, 0, none⟩ = some (.slice q rs.length cq) ∧ w'.cell? ⟨X, 1, none⟩ = some (.slice p' lv.length cp) ∧ w'.cell? ⟨X, 2, none⟩ = some (.int .i64 now)) (by kernel_rfl) (S4.out.cells) (fun hHeld => ?_)
    refine take_at 0 (v := ?_) rfl (by kernel_rfl) (by kernel_rfl) (by kernel_rfl) (fun _ _ _ h => h) hHeld (Or.inl ⟨by rfl, ?_⟩) ?_
    rotate_left
    · (intro w hSw; (try dsimp only at hSw); go_simp; try with_reducible rfl)
    simp only [Act.put, List.setIfInBounds_toArray, List.set_cons_zero, List.set_cons_succ]
    refine take_at 1 (v := ?_) rfl (by kernel_rfl) (by kernel_rfl) (by kernel_rfl) (fun _ _ _ h => h) hHeld (Or.inl ⟨by rfl, ?_⟩) ?_
    rotate_left
    · (intro w hSw; (try dsimp only at hSw); go_simp; try with_reducible rfl)
    simp only [Act.put, List.setIfInBounds_toArray, List.set_cons_zero, List.set_cons_succ]
    refine ready_at 2 rfl (by kernel_rfl) (fun K hK => ?_)
    go_simp
    (go_at_call 63; (with_reducible refine (n_any B P a len cap 60 _ S4.out.src (by first | omega | (have := lof_m HF.out; omega))).mono ?_); rintro e z1 ⟨⟨m, rfl, m0, m1, -⟩, ss, gg⟩; have T1 := S4.out.step ss gg; clear ss gg; have m2 := m1 (by omega); clear m1)
    refine hK.out _ _ (T1.cells) (fun hHeld => ?_)
    clear hK K
    try simp only [Act.put, List.setIfInBounds_toArray, List.set_cons_zero, List.set_cons_succ]
    refine ready_at 3 rfl (by kernel_rfl) (fun K hK => ?_)
    obtain ⟨d0, d1, d2, f0, f1, f2⟩ := res3 T1.res
    go_simp
    refine hK.out _ _ (T1.stay _ _ _) (fun hHeld => ?_)
    clear hK K
    try simp only [Act.put, List.setIfInBounds_toArray, List.set_cons_zero, List.set_cons_succ]
    refine take_at 4 (v := ?_) rfl (by kernel_rfl) (by kernel_rfl) (by kernel_rfl) (fun _ _ _ h => h) hHeld (Or.inl ⟨by rfl, ?_⟩) ?_
    rotate_left
    · (intro w hSw; (try dsimp only at hSw); go_simp; try with_reducible rfl)
    simp only [Act.put, List.setIfInBounds_toArray, List.set_cons_zero, List.set_cons_succ]
    refine wpAnyH_done (by kernel_rfl) ?_ _
    have HE : Hid _ := fun u0 u1 u2 => T1.done u0 u1 u2
    clear T1 hHeld S4
    go_wp2_with fail
    refine bodyPost_ret (v := .tuple #[.agg #[.slice q rs.length cq, .slice p' lv.length cp, .int .i64 now], .int .i64 m]) (by simp [results, Tryz.results10, go_sem, d0, d1, d2]) rfl ?_
    obtain ⟨z1, z2⟩ := HE.out (.slice q rs.length cq) (.slice p' lv.length cp) (.int .i64 now)
    exact ⟨⟨q, cq, rs, p', cp, lv, now, m, rfl, z1, HF.out, by omega, by omega⟩, z2⟩
set_option maxHeartbeats 4000000 in
theorem drawProofAt_any (B : Nat) (a : Option Addr) (len cap : Nat) (w : World) (hlen : len ≤ 1048576) (hB : B ≤ w.heap.size) (hc : CodeAt B a len w) :
    Calls Tryz.prog 29 #[.slice a len cap] w fun e w' => (∃ (q : Option Addr) (cq : Nat) (rs : List Rw) (p' : Option Addr) (cp : Nat) (lv : List ByteArray) (now : Int) (r : Int), e = .returned (.tuple #[.agg #[.slice q rs.length cq, .slice p' lv.length cp, .int .i64 now], .int .i64 r]) ∧ LgHi w.heap.size p' lv cp q rs cq w' ∧ LoF rs lv now ∧ -1 ≤ r ∧ r ≤ (lv.length : Int) + 1) ∧ Below w.heap.size w w' := by
  obtain ⟨W1, hW1⟩ : ∃ W1, W1 = w.alloc (.cells #[.slice none 0 0, .slice none 0 0, .int .i64 0] 26) := ⟨_, rfl⟩
  have HW : Hid (W1 = w.alloc (.cells #[.slice none 0 0, .slice none 0 0, .int .i64 0] 26)) := hW1
  have b1 : Hid (Below w.heap.size w W1) := by rw [hW1]; exact (Below.refl _ _).alloc (Nat.le_refl _) _
  have R1 : Hid (Bxs W1 w.heap.size 26 #[.slice none 0 0, .slice none 0 0, .int .i64 0]) := by rw [hW1]; exact Bxs.new _ _ _
  have HZ1 : Hid (W1.heap.size = w.heap.size + 1) := by rw [hW1]; exact szA _ _
  have hB1 : B ≤ W1.heap.size := Nat.le_trans hB b1.out.size
  have HC : Hid (CodeAt B a len W1) := hc.below (b1.out.mono hB)
  clear hW1 hc
  go_enter Tryz.func29, Tryz.ntmps29
  go_wp2_with fail
  rw [← HW.out]
  refine (drawRootOf_any B a len cap W1 hlen hB1 HC.out).mono ?_
  rintro e y1 ⟨⟨q, cq, rs, p', cp, lv, now, r, rfl, hi, hf, r0, r1⟩, bs1⟩
  obtain ⟨d0, d1, d2, f0, f1, f2⟩ := res3 (R1.out.below bs1)
  have HE : Hid (∀ u0 u1 u2 : Value, LgHi w.heap.size p' lv cp q rs cq (((y1.setCell ⟨w.heap.size, 0, none⟩ u0).setCell ⟨w.heap.size, 1, none⟩ u1).setCell ⟨w.heap.size, 2, none⟩ u2) ∧ Below w.heap.size w (((y1.setCell ⟨w.heap.size, 0, none⟩ u0).setCell ⟨w.heap.size, 1, none⟩ u1).setCell ⟨w.heap.size, 2, none⟩ u2)) := fun u0 u1 u2 => ⟨(hi.grown (touch_set (touch_set (set_grw y1 w.heap.size 0 u0) 1 u1) 2 u2) (by rw [HZ1.out]; omega)).low (by rw [HZ1.out]; omega), below_set3 (chainB b1.out bs1) (Nat.le_refl _) _ _ _⟩
  have HF : Hid (LoF rs lv now) := hf
  clear hi hf bs1 b1 R1 HZ1 HC HW
  go_wp2_with fail
  refine bodyPost_ret (v := .tuple #[.agg #[.slice q rs.length cq, .slice p' lv.length cp, .int .i64 now], .int .i64 r]) (by simp [results, Tryz.results29, go_sem, d0, d1, d2]) rfl ?_
  obtain ⟨z1, z2⟩ := HE.out (.slice q rs.length cq) (.slice p' lv.length cp) (.int .i64 now)
  exact ⟨⟨q, cq, rs, p', cp, lv, now, r, rfl, z1, HF.out, r0, r1⟩, z2⟩
set_option maxHeartbeats 4000000 in
theorem drawExtend_any (B : Nat) (a : Option Addr) (len cap : Nat) (w : World) (hlen : len ≤ 1048576) (hB : B ≤ w.heap.size) (hc : CodeAt B a len w) :
    Calls Tryz.prog 31 #[.slice a len cap] w fun e w' => (∃ (q : Option Addr) (cq : Nat) (rs : List Rw) (p' : Option Addr) (cp : Nat) (lv : List ByteArray) (now : Int) (r : Int), e = .returned (.tuple #[.agg #[.slice q rs.length cq, .slice p' lv.length cp, .int .i64 now], .int .i64 r]) ∧ LgHi w.heap.size p' lv cp q rs cq w' ∧ LoF rs lv now ∧ -1 ≤ r ∧ r ≤ (lv.length : Int) + 1) ∧ Below w.heap.size w w' := by
  obtain ⟨W1, hW1⟩ : ∃ W1, W1 = w.alloc (.cells #[.slice none 0 0, .slice none 0 0, .int .i64 0] 26) := ⟨_, rfl⟩
  have HW : Hid (W1 = w.alloc (.cells #[.slice none 0 0, .slice none 0 0, .int .i64 0] 26)) := hW1
  have b1 : Hid (Below w.heap.size w W1) := by rw [hW1]; exact (Below.refl _ _).alloc (Nat.le_refl _) _
  have R1 : Hid (Bxs W1 w.heap.size 26 #[.slice none 0 0, .slice none 0 0, .int .i64 0]) := by rw [hW1]; exact Bxs.new _ _ _
  have HZ1 : Hid (W1.heap.size = w.heap.size + 1) := by rw [hW1]; exact szA _ _
  have hB1 : B ≤ W1.heap.size := Nat.le_trans hB b1.out.size
  have HC : Hid (CodeAt B a len W1) := hc.below (b1.out.mono hB)
  clear hW1 hc
  go_enter Tryz.func31, Tryz.ntmps31
  go_wp2_with fail
  rw [← HW.out]
  refine (drawRootOf_any B a len cap W1 hlen hB1 HC.out).mono ?_
  rintro e y1 ⟨⟨q, cq, rs, p', cp, lv, now, r, rfl, hi, hf, r0, r1⟩, bs1⟩
  obtain ⟨d0, d1, d2, f0, f1, f2⟩ := res3 (R1.out.below bs1)
  have HE : Hid (∀ u0 u1 u2 : Value, LgHi w.heap.size p' lv cp q rs cq (((y1.setCell ⟨w.heap.size, 0, none⟩ u0).setCell ⟨w.heap.size, 1, none⟩ u1).setCell ⟨w.heap.size, 2, none⟩ u2) ∧ Below w.heap.size w (((y1.setCell ⟨w.heap.size, 0, none⟩ u0).setCell ⟨w.heap.size, 1, none⟩ u1).setCell ⟨w.heap.size, 2, none⟩ u2)) := fun u0 u1 u2 => ⟨(hi.grown (touch_set (touch_set (set_grw y1 w.heap.size 0 u0) 1 u1) 2 u2) (by rw [HZ1.out]; omega)).low (by rw [HZ1.out]; omega), below_set3 (chainB b1.out bs1) (Nat.le_refl _) _ _ _⟩
  have HF : Hid (LoF rs lv now) := hf
  clear hi hf bs1 b1 R1 HZ1 HC HW
  go_wp2_with fail
  refine bodyPost_ret (v := .tuple #[.agg #[.slice q rs.length cq, .slice p' lv.length cp, .int .i64 now], .int .i64 r]) (by simp [results, Tryz.results31, go_sem, d0, d1, d2]) rfl ?_
  obtain ⟨z1, z2⟩ := HE.out (.slice q rs.length cq) (.slice p' lv.length cp) (.int .i64 now)
  exact ⟨⟨q, cq, rs, p', cp, lv, now, r, rfl, z1, HF.out, r0, r1⟩, z2⟩
set_option maxHeartbeats 4000000 in
theorem drawHeadText_any (B : Nat) (a : Option Addr) (len cap : Nat) (w : World) (hlen : len ≤ 1048576) (hB : B ≤ w.heap.size) (hc : CodeAt B a len w) :
    Calls Tryz.prog 32 #[.slice a len cap] w fun e w' => (∃ (q : Option Addr) (cq : Nat) (rs : List Rw) (p' : Option Addr) (cp : Nat) (lv : List ByteArray) (now : Int), e = .returned (.agg #[.slice q rs.length cq, .slice p' lv.length cp, .int .i64 now]) ∧ LgHi w.heap.size p' lv cp q rs cq w' ∧ LoF rs lv now) ∧ Below w.heap.size w w' := by
  obtain ⟨W1, hW1⟩ : ∃ W1, W1 = w.alloc (.cells #[.slice none 0 0, .slice none 0 0, .int .i64 0] 26) := ⟨_, rfl⟩
  have HW : Hid (W1 = w.alloc (.cells #[.slice none 0 0, .slice none 0 0, .int .i64 0] 26)) := hW1
  have b1 : Hid (Below w.heap.size w W1) := by rw [hW1]; exact (Below.refl _ _).alloc (Nat.le_refl _) _
  have R1 : Hid (Bxs W1 w.heap.size 26 #[.slice none 0 0, .slice none 0 0, .int .i64 0]) := by rw [hW1]; exact Bxs.new _ _ _
  have HZ1 : Hid (W1.heap.size = w.heap.size + 1) := by rw [hW1]; exact szA _ _
  have hB1 : B ≤ W1.heap.size := Nat.le_trans hB b1.out.size
  have HC : Hid (CodeAt B a len W1) := hc.below (b1.out.mono hB)
  clear hW1 hc
  go_enter Tryz.func32, Tryz.ntmps32
  go_wp2_with fail
  rw [← HW.out]
  clear HW
  refine (source_any B a len cap W1 hlen hB1 HC.out).mono ?_
  rintro e y1 ⟨rfl, s1, bs1⟩
  obtain ⟨P, hP⟩ : ∃ P, P = W1.heap.size := ⟨_, rfl⟩
  rw [← hP] at s1 ⊢
  have hwP : w.heap.size < P := by rw [hP, HZ1.out]; omega
  clear hP
  have hb1 := chainB b1.out bs1
  have hr1 := R1.out.below bs1
  go_wp2_with fail
  refine (l09Log_drawn B P a len cap y1 s1).mono ?_
  rintro e y2 ⟨⟨q, cq, rs, p', cp, lv, now, rfl, hi, hf⟩, s2, g2⟩
  have hz1 := HZ1.out
  have hz2 := bs1.size
  obtain ⟨d0, d1, d2, f0, f1, f2⟩ := res3 (hr1.grown g2 (fun e => by cases e; omega))
  have HE : Hid (∀ u0 u1 u2 : Value, LgHi w.heap.size p' lv cp q rs cq (((y2.setCell ⟨w.heap.size, 0, none⟩ u0).setCell ⟨w.heap.size, 1, none⟩ u1).setCell ⟨w.heap.size, 2, none⟩ u2) ∧ Below w.heap.size w (((y2.setCell ⟨w.heap.size, 0, none⟩ u0).setCell ⟨w.heap.size, 1, none⟩ u1).setCell ⟨w.heap.size, 2, none⟩ u2)) := fun u0 u1 u2 => ⟨(hi.grown (touch_set (touch_set (set_grw y2 w.heap.size 0 u0) 1 u1) 2 u2) (by omega)).low (by omega), below_set3 (below_touch hb1 g2 (by omega)) (Nat.le_refl _) _ _ _⟩
  have HF : Hid (LoF rs lv now) := hf
  clear hi hf bs1 b1 R1 HZ1 HC hz1 hz2 hb1 hr1 s1 s2 g2
  go_wp2_with fail
  refine bodyPost_ret (v := .agg #[.slice q rs.length cq, .slice p' lv.length cp, .int .i64 now]) (by simp [results, Tryz.results32, go_sem, d0, d1, d2]) rfl ?_
  obtain ⟨z1, z2⟩ := HE.out (.slice q rs.length cq) (.slice p' lv.length cp) (.int .i64 now)
  exact ⟨⟨q, cq, rs, p', cp, lv, now, rfl, z1, HF.out⟩, z2⟩
end Go.Proofs.YtepmoihgemhjcaaGreatDoor
