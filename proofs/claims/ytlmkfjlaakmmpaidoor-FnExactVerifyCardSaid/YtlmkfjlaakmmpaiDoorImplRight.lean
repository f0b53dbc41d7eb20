/-
  What the program's keyRight and SigRight answer: 'sgnB'.
  Conditions: the cells of Ends and Path hold the texts.
-/
import Derived.Test.YtlmkfjlaakmmpaiDoorRows
import Derived.Test.YtlmkfjlaakmmpaiDoorBytes
import Derived.Test.YtlmkfjlaakmmpaiDoorSlA
import Derived.Test.YtlmkfjlaakmmpaiDoorSgnB
import Derived.Handy
import Derived.WalkSpells
import Derived.OwnWalk
namespace Go.Proofs.YtlmkfjlaakmmpaiDoor
open Go.RowKit Go.Lib
set_option linter.unusedVariables false
set_option maxRecDepth 20000

theorem keyRight_any (n : Int) (w : World) : Calls Tryd.prog 25 #[.int .i64 n] w fun e w' => e = .returned (.bool (decide (0 ≤ n ∧ n ≤ 3))) ∧ w' = w := by
  by_cases h1 : 0 ≤ n
  · have d1 : decide (0 ≤ n) = true := decide_eq_true h1
    by_cases h2 : n < 4
    · have d2 : decide (n < 4) = true := decide_eq_true h2
      have H : Hid (decide (0 ≤ n ∧ n ≤ 3) = true) := decide_eq_true ⟨h1, by omega⟩
      rw [H.out]
      clear H
      go_enter Tryd.func25, Tryd.ntmps25
      go_wp2
      go_ret
      exact ⟨rfl, rfl⟩
    · have d2 : decide (n < 4) = false := decide_eq_false h2
      have H : Hid (decide (0 ≤ n ∧ n ≤ 3) = false) := decide_eq_false fun h => h2 (by omega)
      rw [H.out]
      clear H
      go_enter Tryd.func25, Tryd.ntmps25
      go_wp2
      go_ret
      exact ⟨rfl, rfl⟩
  · have d1 : decide (0 ≤ n) = false := decide_eq_false h1
    have H : Hid (decide (0 ≤ n ∧ n ≤ 3) = false) := decide_eq_false fun h => h1 h.1
    rw [H.out]
    clear H
    go_enter Tryd.func25, Tryd.ntmps25
    go_wp2
    go_ret
    exact ⟨rfl, rfl⟩

set_option maxHeartbeats 2000000 in
theorem implSigRight_any (key : Int) (q1 : Option Addr) (c1 : Nat) (ends : List ByteArray) (q2 : Option Addr) (c2 : Nat) (path : List ByteArray) (w : World) (h1 : TxtAt w q1 ends) (h2 : TxtAt w q2 path) (n1 : ends.length ≤ 1048576) (n2 : path.length ≤ 1048576) (m1 : ends.length ≤ c1) (m2 : path.length ≤ c2) :
    Calls Tryd.prog 41 #[.agg #[.int .i64 key, .slice q1 ends.length c1, .slice q2 path.length c2]] w fun e w' => e = .returned (.bool (sgnB key ends path)) ∧ Below w.heap.size w w' := by
  obtain ⟨W1, hW1⟩ : ∃ W1, W1 = w.alloc (.cells #[.int .i64 key, .slice q1 ends.length c1, .slice q2 path.length c2] 26) := ⟨_, rfl⟩
  have HW1 : Hid (W1 = w.alloc (.cells #[.int .i64 key, .slice q1 ends.length c1, .slice q2 path.length c2] 26)) := hW1
  have B1 : Hid (Below w.heap.size w W1) := by rw [hW1]; exact (Below.refl _ _).alloc (Nat.le_refl _) _
  have X1 : W1.heap[w.heap.size]? = some (.cells #[.int .i64 key, .slice q1 ends.length c1, .slice q2 path.length c2] 26 (0, 0)) := by rw [hW1]; exact (MapKept.heap_alloc w _).1
  have t0 : W1.cell? ⟨w.heap.size, 0, none⟩ = some (.int .i64 key) ∧ W1.cell? ⟨w.heap.size, 1, none⟩ = some (.slice q1 ends.length c1) ∧ W1.cell? ⟨w.heap.size, 2, none⟩ = some (.slice q2 path.length c2) := by simp [World.cell?, X1]
  obtain ⟨t0, t1, t2⟩ := t0
  have hK := keyRight_any key W1
  have hE := areD_any q1 c1 ends W1 (h1.below B1.out) (by omega) m1
  have hP := areD_any q2 c2 path W1 (h2.below B1.out) (by omega) m2
  have H0 : Hid (sgnB key ends path = (decide (0 ≤ key ∧ key ≤ 3) && (decide (ends.length = 6) && (decide (path.length = 2) && (wideB ends && wideB path))))) := rfl
  clear hW1 X1 h1 h2
  rw [H0.out]
  generalize decide (0 ≤ key ∧ key ≤ 3) = b0 at *
  have e1 : ((ends.length : Int) == 6) = decide (ends.length = 6) := by
    by_cases h : ends.length = 6
    · rw [decide_eq_true h]; exact beq_iff_eq.2 (by omega)
    · rw [decide_eq_false h]; exact beq_eq_false_iff_ne.2 (by omega)
  have e2 : ((path.length : Int) == 2) = decide (path.length = 2) := by
    by_cases h : path.length = 2
    · rw [decide_eq_true h]; exact beq_iff_eq.2 (by omega)
    · rw [decide_eq_false h]; exact beq_eq_false_iff_ne.2 (by omega)
  generalize decide (ends.length = 6) = b1 at *
  generalize decide (path.length = 2) = b2 at *
  generalize wideB ends = b3 at *
  generalize wideB path = b4 at *
  clear H0
  go_enter Tryd.func41, Tryd.ntmps41
  go_wp2_with fail
  rw [← HW1.out]
  refine hK.mono ?_
  rintro e w1 ⟨rfl, rfl⟩
  cases b0
  · go_wp2_with fail
    go_ret
    exact ⟨ret_bool (by simp), B1.out⟩
  cases b1
  · have f1 : ¬ (ends.length : Int) = 6 := by simpa using e1
    clear e1
    go_wp2_with fail
    go_ret
    exact ⟨ret_bool (by simp), B1.out⟩
  have f1 : (ends.length : Int) = 6 := by simpa using e1
  clear e1
  cases b2
  · have f2 : ¬ (path.length : Int) = 2 := by simpa using e2
    clear e2
    go_wp2_with fail
    go_ret
    exact ⟨ret_bool (by simp), B1.out⟩
  have f2 : (path.length : Int) = 2 := by simpa using e2
  clear e2
  go_wp2_with fail
  refine hE.mono ?_
  rintro e w1 ⟨rfl, rfl⟩
  cases b3
  · go_wp2_with fail
    go_ret
    exact ⟨ret_bool (by simp), B1.out⟩
  go_wp2_with fail
  refine hP.mono ?_
  rintro e w1 ⟨rfl, rfl⟩
  go_wp2_with fail
  go_ret
  exact ⟨ret_bool (by simp), B1.out⟩
end Go.Proofs.YtlmkfjlaakmmpaiDoor
