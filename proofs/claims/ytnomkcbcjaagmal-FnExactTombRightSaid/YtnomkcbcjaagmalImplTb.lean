/-
  What the program's whyRight, TombRight and TombText answer.
-/
import Derived.Test.YtnomkcbcjaagmalRows
import Derived.Test.YtnomkcbcjaagmalBytes
import Derived.Test.YtnomkcbcjaagmalPutMath
import Derived.Test.YtnomkcbcjaagmalPutNum
import Derived.Test.YtnomkcbcjaagmalJoined
import Derived.Test.YtnomkcbcjaagmalBxK
import Derived.Test.YtnomkcbcjaagmalTimeB
import Derived.Test.YtnomkcbcjaagmalTimeI
import Derived.Test.YtnomkcbcjaagmalTmbMath
import Derived.Handy
import Derived.WalkSpells
import Derived.OwnWalk
import Derived.Deep.RegionHeld3
import Derived.Deep.RegionWith
import Derived.Deep.Cut
namespace Go.Proofs.Ytnomkcbcjaagmal
open Go.RowKit Go.Lib
set_option linter.unusedVariables false
set_option maxRecDepth 20000

theorem whyRight_any (y : Int) (w : World) : Calls Try.prog 9 #[.int .i64 y] w fun e w' => e = .returned (.bool (decide (1 ≤ y ∧ y ≤ 2))) ∧ w' = w := by
  by_cases h1 : y = 1
  · subst h1
    rw [show decide ((1 : Int) ≤ 1 ∧ (1 : Int) ≤ 2) = true from rfl]
    go_enter Try.func9, Try.ntmps9
    go_wp2_with fail
    go_ret
    exact ⟨rfl, rfl⟩
  by_cases h2 : y = 2
  · subst h2
    rw [show decide ((1 : Int) ≤ 2 ∧ (2 : Int) ≤ 2) = true from rfl]
    go_enter Try.func9, Try.ntmps9
    go_wp2_with fail
    go_ret
    exact ⟨rfl, rfl⟩
  have e1 : (y == 1) = false := beq_eq_false_iff_ne.2 h1
  have e2 : (y == 2) = false := beq_eq_false_iff_ne.2 h2
  rw [decide_eq_false (show ¬ (1 ≤ y ∧ y ≤ 2) by omega)]
  clear h1 h2
  go_enter Try.func9, Try.ntmps9
  go_wp2_with fail
  go_ret
  exact ⟨rfl, rfl⟩
theorem tmB_six (t : Tmb) : tmB t = (decide (0 ≤ t.r) && (decide (t.r ≤ 63) && (decide (0 ≤ t.f) && (decide (t.f < 3) && (decide (1 ≤ t.y ∧ t.y ≤ 2) && timeB t.a))))) := by
  have : (t.f ≤ 2) ↔ (t.f < 3) := by omega
  unfold tmB timeB; simp [Bool.and_assoc, this]
set_option maxHeartbeats 2000000 in
theorem implTombRight_any (t : Tmb) (w : World) : Calls Try.prog 6 #[tmV t] w fun e w' => e = .returned (.bool (tmB t)) ∧ Below w.heap.size w w' := by
  rw [tmB_six]
  obtain ⟨r, f, y, a⟩ := t
  show Calls Try.prog 6 #[.agg #[.int .i64 r, .int .i64 f, .int .i64 y, .int .i64 a]] w _
  dsimp only
  obtain ⟨W1, hW1⟩ : ∃ W1, W1 = w.alloc (.cells #[.int .i64 r, .int .i64 f, .int .i64 y, .int .i64 a] 25) := ⟨_, rfl⟩
  have HW1 : Hid (W1 = w.alloc (.cells #[.int .i64 r, .int .i64 f, .int .i64 y, .int .i64 a] 25)) := hW1
  have B1 : Hid (Below w.heap.size w W1) := by rw [hW1]; exact (Below.refl _ _).alloc (Nat.le_refl _) _
  have K1 : Bxs W1 w.heap.size 25 #[.int .i64 r, .int .i64 f, .int .i64 y, .int .i64 a] := by rw [hW1]; exact Bxs.new _ _ _
  obtain ⟨x0, x1, x2, x3⟩ : W1.cell? ⟨w.heap.size, 0, none⟩ = some (.int .i64 r) ∧ W1.cell? ⟨w.heap.size, 1, none⟩ = some (.int .i64 f) ∧ W1.cell? ⟨w.heap.size, 2, none⟩ = some (.int .i64 y) ∧ W1.cell? ⟨w.heap.size, 3, none⟩ = some (.int .i64 a) := ⟨K1.cell 0, K1.cell 1, K1.cell 2, K1.cell 3⟩
  clear K1 hW1
  have Qy : Hid (∀ x, Calls Try.prog 9 #[.int .i64 y] x fun e w' => e = .returned (.bool (decide (1 ≤ y ∧ y ≤ 2))) ∧ w' = x) := fun x => whyRight_any y x
  have Qa : Hid (∀ x, Calls Try.prog 10 #[.int .i64 a] x fun e w' => e = .returned (.bool (timeB a)) ∧ w' = x) := fun x => timeRight_any a x
  generalize decide (1 ≤ y ∧ y ≤ 2) = Dy at *
  generalize timeB a = Da at *
  cases d0 : decide (0 ≤ r) with
  | false =>
    go_enter Try.func6, Try.ntmps6
    go_upto_region 1 with fail
    rw [← HW1.out]
    go_wp2_with fail
    go_ret
    exact ⟨rfl, B1.out⟩
  | true =>
  cases d1 : decide (r ≤ 63) with
  | false =>
    go_enter Try.func6, Try.ntmps6
    go_upto_region 1 with fail
    rw [← HW1.out]
    go_wp2_with fail
    go_ret
    exact ⟨rfl, B1.out⟩
  | true =>
  cases d2 : decide (0 ≤ f) with
  | false =>
    go_enter Try.func6, Try.ntmps6
    go_upto_region 1 with fail
    rw [← HW1.out]
    go_wp2_with fail
    go_ret
    exact ⟨rfl, B1.out⟩
  | true =>
  cases d3 : decide (f < 3) with
  | false =>
    go_enter Try.func6, Try.ntmps6
    go_upto_region 1 with fail
    rw [← HW1.out]
    go_wp2_with fail
    go_ret
    exact ⟨rfl, B1.out⟩
  | true =>
  cases Dy with
  | false =>
    go_enter Try.func6, Try.ntmps6
    go_upto_region 1 with fail
    rw [← HW1.out]
    go_wp2_with fail
    refine (Qy.out _).mono ?_
    rintro e w1 ⟨rfl, rfl⟩
    go_wp2_with fail
    go_ret
    exact ⟨rfl, B1.out⟩
  | true =>
  cases Da with
  | false =>
    go_enter Try.func6, Try.ntmps6
    go_upto_region 1 with fail
    rw [← HW1.out]
    go_wp2_with fail
    refine (Qy.out _).mono ?_
    rintro e w1 ⟨rfl, rfl⟩
    go_wp2_with fail
    refine (Qa.out _).mono ?_
    rintro e w1 ⟨rfl, rfl⟩
    go_wp2_with fail
    go_ret
    exact ⟨rfl, B1.out⟩
  | true =>
    go_enter Try.func6, Try.ntmps6
    go_upto_region 1 with fail
    rw [← HW1.out]
    go_wp2_with fail
    refine (Qy.out _).mono ?_
    rintro e w1 ⟨rfl, rfl⟩
    go_wp2_with fail
    refine (Qa.out _).mono ?_
    rintro e w1 ⟨rfl, rfl⟩
    go_wp2_with fail
    go_ret
    exact ⟨rfl, B1.out⟩
theorem cat_five (a b c d e : ByteArray) : cat [a, b, c, d, e] = a ++ b ++ c ++ d ++ e := by
  apply ByteArray.ext; apply Array.ext'
  simp [cat]
end Go.Proofs.Ytnomkcbcjaagmal
