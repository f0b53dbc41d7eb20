/-
  What the specification's AuditorRight answers: 'audB'.
-/
import Derived.Test.YtfdihkgkiiekcaaDoorRows
import Derived.Test.YtfdihkgkiiekcaaDoorBytes
import Derived.Test.YtfdihkgkiiekcaaDoorSlA
import Derived.Test.YtfdihkgkiiekcaaDoorBxK
import Derived.Test.YtfdihkgkiiekcaaDoorFldIs
import Derived.Test.YtfdihkgkiiekcaaDoorAudMath
import Derived.Handy
import Derived.WalkSpells
import Derived.OwnWalk
namespace Go.Proofs.YtfdihkgkiiekcaaDoor
open Go.RowKit Go.Lib
set_option linter.unusedVariables false
set_option maxRecDepth 20000

set_option maxHeartbeats 1000000 in
theorem specAud_any (k : ByteArray) (s : Int) (r : ByteArray) (w : World) : Calls Tryd.prog 18 #[.agg #[.string k, .int .i64 s, .string r]] w fun e w' => e = .returned (.bool (audB k s r)) ∧ Below w.heap.size w w' := by
  obtain ⟨W1, hW1⟩ : ∃ W1, W1 = w.alloc (.cells #[.string k, .int .i64 s, .string r] 30) := ⟨_, rfl⟩
  have HW1 : Hid (W1 = w.alloc (.cells #[.string k, .int .i64 s, .string r] 30)) := hW1
  have B1 : Hid (Below w.heap.size w W1) := by rw [hW1]; exact (Below.refl _ _).alloc (Nat.le_refl _) _
  have K1 : Bxs W1 w.heap.size 30 #[.string k, .int .i64 s, .string r] := by rw [hW1]; exact Bxs.new _ _ _
  have t0 := K1.cell 0
  have t1 := K1.cell 1
  have t2 := K1.cell 2
  simp at t0 t1 t2
  have hI := l07Is_any s 1 64 W1
  clear K1 hW1
  by_cases h1 : k.size = 32
  case neg =>
    have H : Hid (audB k s r = false) := aud_key h1
    have d1 : ¬ (k.size : Int) = 32 := by omega
    rw [H.out]
    clear h1
    go_enter Tryd.func18, Tryd.ntmps18
    go_wp2_with fail
    rw [← HW1.out]
    go_wp2_with fail
    go_ret
    exact ⟨rfl, B1.out⟩
  have d1 : (k.size : Int) = 32 := by omega
  by_cases h2 : s = 0
  case pos =>
    subst h2
    have H : Hid (audB k 0 r = noT r) := aud_zero h1
    rw [H.out]
    clear h1
    unfold noT
    go_enter Tryd.func18, Tryd.ntmps18
    go_wp2_with fail
    rw [← HW1.out]
    go_wp2_with fail
    go_ret
    exact ⟨rfl, B1.out⟩
  have H : Hid (audB k s r = (decide (1 ≤ s ∧ s ≤ 64) && decide (r.size = 32))) := aud_size h1 h2
  have d2 : (s == 0) = false := beq_eq_false_iff_ne.2 h2
  rw [H.out]
  clear h1 H
  have d3 : ((r.size : Int) == 32) = decide (r.size = 32) := by
    by_cases h : r.size = 32
    · rw [decide_eq_true h]; exact beq_iff_eq.2 (by omega)
    · rw [decide_eq_false h]; exact beq_eq_false_iff_ne.2 (by omega)
  generalize decide (1 ≤ s ∧ s ≤ 64) = b at *
  generalize decide (r.size = 32) = c at *
  go_enter Tryd.func18, Tryd.ntmps18
  go_wp2_with fail
  rw [← HW1.out]
  go_wp2_with fail
  refine hI.mono ?_
  rintro e w1 ⟨rfl, rfl⟩
  cases b
  · go_wp2_with fail
    go_ret
    exact ⟨rfl, B1.out⟩
  cases c
  · have f1 : ¬ (r.size : Int) = 32 := by simpa using d3
    go_wp2_with fail
    go_ret
    exact ⟨rfl, B1.out⟩
  have f1 : (r.size : Int) = 32 := by simpa using d3
  go_wp2_with fail
  go_ret
  exact ⟨rfl, B1.out⟩
end Go.Proofs.YtfdihkgkiiekcaaDoor
