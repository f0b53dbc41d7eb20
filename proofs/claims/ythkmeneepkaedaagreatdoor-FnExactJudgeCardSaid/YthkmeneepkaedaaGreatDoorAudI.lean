/-
  What the program's sizedRight, hasSize and AuditorRight answer: 'audB'.
-/
import Derived.Test.YthkmeneepkaedaaGreatDoorRows
import Derived.Test.YthkmeneepkaedaaGreatDoorBytesDigMath
import Derived.Test.YthkmeneepkaedaaGreatDoorTreeMathSlASlBBxKOwnS
import Derived.Test.YthkmeneepkaedaaGreatDoorFldGShwKFldHTakesAudMathLawAuOpAuFldRiseScanMath
import Derived.Handy
import Derived.WalkSpells
import Derived.OwnWalk
namespace Go.Proofs.YthkmeneepkaedaaGreatDoor
open Go.RowKit Go.Lib
set_option linter.unusedVariables false
set_option maxRecDepth 20000

/-- areDigests of one text, laid into a new row. -/
theorem areO_any (c : ByteArray) (w : World) (g : Nat) (hg : w.heap.size = g) : Calls Tryz.prog 90 #[.slice (some ⟨g, 0, none⟩) 1 1] (w.alloc (.cells #[.string c] 9)) fun e w' => e = .returned (.bool (decide (c.size = 32))) ∧ Below w.heap.size w w' := by
  subst hg
  have hb : BlkS (w.alloc (.cells #[.string c] 9)) w.heap.size [c] := alloc_str w [c]
  have b1 : Below w.heap.size w (w.alloc (.cells #[.string c] 9)) := (Below.refl _ _).alloc (Nat.le_refl _) _
  have h := areD_any (some ⟨w.heap.size, 0, none⟩) 1 [c] _ hb.txt (by simp) (by simp)
  have e1 : wideB [c] = decide (c.size = 32) := by
    unfold wideB
    by_cases h : c.size = 32
    · rw [decide_eq_true h]; simp [h]
    · rw [decide_eq_false h]; simp [h]
  rw [e1] at h
  refine Calls.mono h ?_
  rintro e w' ⟨he, rfl⟩
  exact ⟨he, b1⟩
theorem hasSize_any (k : ByteArray) (s : Int) (r : ByteArray) (w : World) : Calls Tryz.prog 61 #[.agg #[.string k, .int .i64 s, .string r]] w fun e w' => e = .returned (.bool (decide (0 < s))) ∧ Below w.heap.size w w' := by
  have B1 : Hid (Below w.heap.size w (w.alloc (.cells #[.string k, .int .i64 s, .string r] 54))) := (Below.refl _ _).alloc (Nat.le_refl _) _
  go_enter Tryz.func61, Tryz.ntmps61
  go_wp2_with fail
  go_ret
  exact ⟨rfl, B1.out⟩
set_option maxHeartbeats 1000000 in
theorem sizedRight_any (k : ByteArray) (s : Int) (r : ByteArray) (w : World) : Calls Tryz.prog 91 #[.agg #[.string k, .int .i64 s, .string r]] w fun e w' => e = .returned (.bool (sizB s r)) ∧ Below w.heap.size w w' := by
  obtain ⟨W1, hW1⟩ : ∃ W1, W1 = w.alloc (.cells #[.string k, .int .i64 s, .string r] 54) := ⟨_, rfl⟩
  have HW1 : Hid (W1 = w.alloc (.cells #[.string k, .int .i64 s, .string r] 54)) := hW1
  have B1 : Hid (Below w.heap.size w W1) := by rw [hW1]; exact (Below.refl _ _).alloc (Nat.le_refl _) _
  have K1 : Bxs W1 w.heap.size 54 #[.string k, .int .i64 s, .string r] := by rw [hW1]; exact Bxs.new _ _ _
  have t0 := K1.cell 0
  have t1 := K1.cell 1
  have t2 := K1.cell 2
  simp at t0 t1 t2
  have hA := areO_any r W1 (w.heap.size + 1) (by rw [hW1]; simp)
  clear K1 hW1
  have H0 : Hid (sizB s r = (decide (1 ≤ s ∧ s ≤ 64) && decide (r.size = 32))) := rfl
  rw [H0.out]
  clear H0
  generalize decide (r.size = 32) = c at *
  by_cases h1 : 1 ≤ s
  case neg =>
    have d1 : decide (1 ≤ s) = false := decide_eq_false h1
    rw [decide_eq_false (p := 1 ≤ s ∧ s ≤ 64) (fun h => h1 h.1)]
    clear h1
    go_enter Tryz.func91, Tryz.ntmps91
    go_wp2_with fail
    rw [← HW1.out]
    go_wp2_with fail
    go_ret
    exact ⟨rfl, B1.out⟩
  have d1 : decide (1 ≤ s) = true := decide_eq_true h1
  by_cases h2 : s ≤ 64
  case neg =>
    have d2 : decide (s ≤ 64) = false := decide_eq_false h2
    rw [decide_eq_false (p := 1 ≤ s ∧ s ≤ 64) (fun h => h2 h.2)]
    clear h1 h2
    go_enter Tryz.func91, Tryz.ntmps91
    go_wp2_with fail
    rw [← HW1.out]
    go_wp2_with fail
    go_ret
    exact ⟨rfl, B1.out⟩
  have d2 : decide (s ≤ 64) = true := decide_eq_true h2
  rw [decide_eq_true (p := 1 ≤ s ∧ s ≤ 64) ⟨h1, h2⟩]
  clear h1 h2
  go_enter Tryz.func91, Tryz.ntmps91
  go_wp2_with fail
  rw [← HW1.out]
  go_wp2_with fail
  with_reducible refine hA.mono ?_
  rintro e w1 ⟨rfl, b1⟩
  go_wp2_with fail
  go_ret
  exact ⟨ret_bool (by simp), chainB B1.out b1⟩
set_option maxHeartbeats 1000000 in
theorem implAud_any (k : ByteArray) (s : Int) (r : ByteArray) (w : World) : Calls Tryz.prog 60 #[.agg #[.string k, .int .i64 s, .string r]] w fun e w' => e = .returned (.bool (audB k s r)) ∧ Below w.heap.size w w' := by
  obtain ⟨W1, hW1⟩ : ∃ W1, W1 = w.alloc (.cells #[.string k, .int .i64 s, .string r] 54) := ⟨_, rfl⟩
  have HW1 : Hid (W1 = w.alloc (.cells #[.string k, .int .i64 s, .string r] 54)) := hW1
  have B1 : Hid (Below w.heap.size w W1) := by rw [hW1]; exact (Below.refl _ _).alloc (Nat.le_refl _) _
  have K1 : Hid (Bxs W1 w.heap.size 54 #[.string k, .int .i64 s, .string r]) := by rw [hW1]; exact Bxs.new _ _ _
  have t0 := K1.out.cell 0
  simp at t0
  have hA := areO_any k W1 (w.heap.size + 1) (by rw [hW1]; simp)
  have HS : Hid (∀ x, Calls Tryz.prog 91 #[.agg #[.string k, .int .i64 s, .string r]] x fun e w' => e = .returned (.bool (sizB s r)) ∧ Below x.heap.size x w') := fun x => sizedRight_any k s r x
  have HX : Hid (∀ x, Below W1.heap.size W1 x → x.cell? ⟨w.heap.size, 0, none⟩ = some (.string k) ∧ x.cell? ⟨w.heap.size, 1, none⟩ = some (.int .i64 s) ∧ x.cell? ⟨w.heap.size, 2, none⟩ = some (.string r)) := fun x hb => ⟨(K1.out.below hb).cell 0, (K1.out.below hb).cell 1, (K1.out.below hb).cell 2⟩
  have H0 : Hid (audB k s r = (decide (k.size = 32) && (((s == 0) && noT r) || sizB s r))) := rfl
  rw [H0.out]
  clear H0 hW1 K1
  generalize decide (k.size = 32) = c at *
  cases c
  case false =>
    go_enter Tryz.func60, Tryz.ntmps60
    go_wp2_with fail
    rw [← HW1.out]
    go_wp2_with fail
    with_reducible refine hA.mono ?_
    rintro e w1 ⟨rfl, b1⟩
    go_wp2_with fail
    go_ret
    exact ⟨ret_bool (by simp), chainB B1.out b1⟩
  have H2 : Hid (noT r = r.toList.isEmpty) := rfl
  rw [H2.out]
  clear H2
  generalize sizB s r = c2 at *
  cases hz : (s == 0)
  case false =>
    have f1 : ¬ s = 0 := by simpa using hz
    go_enter Tryz.func60, Tryz.ntmps60
    go_wp2_with fail
    rw [← HW1.out]
    go_wp2_with fail
    with_reducible refine hA.mono ?_
    rintro e w1 ⟨rfl, b1⟩
    obtain ⟨u0, u1, u2⟩ := HX.out w1 b1
    have hS := HS.out w1
    go_wp2_with fail
    refine hS.mono ?_
    rintro e w2 ⟨rfl, b2⟩
    go_wp2_with fail
    go_ret
    exact ⟨ret_bool (by simp), chainB B1.out (chainB b1 b2)⟩
  obtain rfl : s = 0 := by simpa using hz
  clear hz
  cases hr : r.toList.isEmpty
  case true =>
    go_enter Tryz.func60, Tryz.ntmps60
    go_wp2_with fail
    rw [← HW1.out]
    go_wp2_with fail
    with_reducible refine hA.mono ?_
    rintro e w1 ⟨rfl, b1⟩
    obtain ⟨u0, u1, u2⟩ := HX.out w1 b1
    go_wp2_with fail
    go_ret
    exact ⟨ret_bool (by simp), chainB B1.out b1⟩
  go_enter Tryz.func60, Tryz.ntmps60
  go_wp2_with fail
  rw [← HW1.out]
  go_wp2_with fail
  with_reducible refine hA.mono ?_
  rintro e w1 ⟨rfl, b1⟩
  obtain ⟨u0, u1, u2⟩ := HX.out w1 b1
  have hS := HS.out w1
  go_wp2_with fail
  refine hS.mono ?_
  rintro e w2 ⟨rfl, b2⟩
  go_wp2_with fail
  go_ret
  exact ⟨ret_bool (by simp), chainB B1.out (chainB b1 b2)⟩
end Go.Proofs.YthkmeneepkaedaaGreatDoor
