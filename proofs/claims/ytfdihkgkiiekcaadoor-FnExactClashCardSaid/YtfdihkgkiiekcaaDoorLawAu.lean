/-
  What the laws' helpers szAuditor, toAuditor, eqAuditor and eqAuditorOut answer.
-/
import Derived.Test.YtfdihkgkiiekcaaDoorRows
import Derived.Test.YtfdihkgkiiekcaaDoorBytes
import Derived.Test.YtfdihkgkiiekcaaDoorBxK
import Derived.Test.YtfdihkgkiiekcaaDoorAudMath
import Derived.Handy
import Derived.WalkSpells
import Derived.OwnWalk
namespace Go.Proofs.YtfdihkgkiiekcaaDoor
open Go.RowKit Go.Lib
set_option linter.unusedVariables false
set_option maxRecDepth 20000

set_option maxHeartbeats 1000000 in
theorem szAud_any (k : ByteArray) (s : Int) (r : ByteArray) (l0 : Int) (l00 : 0 ≤ l0) (l01 : l0 ≤ 1048576) (w : World) (hk : k.size ≤ maxLen) (hr : r.size ≤ maxLen) :
    Calls Tryd.prog 5 #[.agg #[.string k, .int .i64 s, .string r], .int .i64 l0] w fun e w' => (∃ m, e = .returned (.int .i64 m) ∧ (m = -1 ∨ (0 ≤ m ∧ m ≤ l0 ∧ k.size ≤ 1048576 ∧ r.size ≤ 1048576))) ∧ Below w.heap.size w w' := by
  unfold maxLen at hk hr
  obtain ⟨W1, hW1⟩ : ∃ W1, W1 = w.alloc (.cells #[.string k, .int .i64 s, .string r] 23) := ⟨_, rfl⟩
  have HW1 : Hid (W1 = w.alloc (.cells #[.string k, .int .i64 s, .string r] 23)) := hW1
  have B1 : Hid (Below w.heap.size w W1) := by rw [hW1]; exact (Below.refl _ _).alloc (Nat.le_refl _) _
  have K1 : Bxs W1 w.heap.size 23 #[.string k, .int .i64 s, .string r] := by rw [hW1]; exact Bxs.new _ _ _
  have t0 := K1.cell 0
  have t2 := K1.cell 2
  simp at t0 t2
  clear K1 hW1
  by_cases h1 : l0 - (k.size : Int) < 0
  case pos =>
    have d1 : decide (l0 - (k.size : Int) < 0) = true := decide_eq_true h1
    go_enter Tryd.func5, Tryd.ntmps5
    go_wp2_with fail
    try rw [← HW1.out]
    try go_wp2_with fail
    go_ret
    exact ⟨⟨-1, rfl, .inl rfl⟩, B1.out⟩
  have d1 : decide (l0 - (k.size : Int) < 0) = false := decide_eq_false h1
  by_cases h2 : l0 - (k.size : Int) - (r.size : Int) < 0
  case pos =>
    have d2 : decide (l0 - (k.size : Int) - (r.size : Int) < 0) = true := decide_eq_true h2
    go_enter Tryd.func5, Tryd.ntmps5
    go_wp2_with fail
    try rw [← HW1.out]
    try go_wp2_with fail
    go_ret
    exact ⟨⟨-1, rfl, .inl rfl⟩, B1.out⟩
  have d2 : decide (l0 - (k.size : Int) - (r.size : Int) < 0) = false := decide_eq_false h2
  have HF : Hid (0 ≤ l0 - (k.size : Int) - (r.size : Int) ∧ l0 - (k.size : Int) - (r.size : Int) ≤ l0 ∧ k.size ≤ 1048576 ∧ r.size ≤ 1048576) := ⟨by omega, by omega, by omega, by omega⟩
  go_enter Tryd.func5, Tryd.ntmps5
  go_wp2_with fail
  try rw [← HW1.out]
  try go_wp2_with fail
  go_ret
  exact ⟨⟨_, rfl, .inr HF.out⟩, B1.out⟩
set_option maxHeartbeats 1000000 in
theorem toAud_any (k : ByteArray) (s : Int) (r : ByteArray) (w : World) : Calls Tryd.prog 9 #[.agg #[.string k, .int .i64 s, .string r]] w fun e w' => e = .returned (.agg #[.string k, .int .i64 s, .string r]) ∧ Below w.heap.size w w' := by
  go_enter Tryd.func9, Tryd.ntmps9
  go_wp2_with fail
  refine bodyPost_ret (v := .agg #[.string k, .int .i64 s, .string r]) (by simp [results, Tryd.results9, go_sem]) rfl ?_
  exact ⟨rfl, alB (alB ((Below.refl _ _).alloc (Nat.le_refl _) _) _) _⟩
set_option maxHeartbeats 1000000 in
theorem eqAud_same (k : ByteArray) (s : Int) (r : ByteArray) (w : World) : Calls Tryd.prog 25 #[.agg #[.string k, .int .i64 s, .string r], .agg #[.string k, .int .i64 s, .string r]] w fun e w' => e = .returned (.bool true) ∧ Below w.heap.size w w' := by
  have B1 : Hid (Below w.heap.size w ((w.alloc (.cells #[.string k, .int .i64 s, .string r] 30)).alloc (.cells #[.string k, .int .i64 s, .string r] 30))) := alB ((Below.refl _ _).alloc (Nat.le_refl _) _) _
  go_enter Tryd.func25, Tryd.ntmps25
  go_wp2_with fail
  go_ret
  exact ⟨rfl, B1.out⟩
set_option maxHeartbeats 1000000 in
theorem eqAudO_same (k : ByteArray) (s : Int) (r : ByteArray) (c : Int) (w : World) : Calls Tryd.prog 13 #[.agg #[.string k, .int .i64 s, .string r, .int .i64 c], .agg #[.string k, .int .i64 s, .string r, .int .i64 c]] w fun e w' => e = .returned (.bool true) ∧ Below w.heap.size w w' := by
  obtain ⟨W1, hW1⟩ : ∃ W1, W1 = (w.alloc (.cells #[.string k, .int .i64 s, .string r, .int .i64 c] 32)).alloc (.cells #[.string k, .int .i64 s, .string r, .int .i64 c] 32) := ⟨_, rfl⟩
  have HW1 : Hid (W1 = (w.alloc (.cells #[.string k, .int .i64 s, .string r, .int .i64 c] 32)).alloc (.cells #[.string k, .int .i64 s, .string r, .int .i64 c] 32)) := hW1
  have B1 : Hid (Below w.heap.size w W1) := by rw [hW1]; exact alB ((Below.refl _ _).alloc (Nat.le_refl _) _) _
  have K1 : Hid (Bxs W1 w.heap.size 32 #[.string k, .int .i64 s, .string r, .int .i64 c]) := by rw [hW1]; exact (Bxs.new _ _ _).alloc _
  have K2 : Hid (Bxs W1 (w.heap.size + 1) 32 #[.string k, .int .i64 s, .string r, .int .i64 c]) := by
    rw [hW1]
    have h := Bxs.new (w.alloc (.cells #[.string k, .int .i64 s, .string r, .int .i64 c] 32)) 32 #[.string k, .int .i64 s, .string r, .int .i64 c]
    rwa [szA] at h
  obtain ⟨a0, a1, a2, a3⟩ := K1.out.four
  obtain ⟨c0, c1, c2, c3⟩ := K2.out.four
  have hE := eqAud_same k s r W1
  clear hW1
  go_enter Tryd.func13, Tryd.ntmps13
  go_wp2_with fail
  try rw [← HW1.out]
  try go_wp2_with fail
  with_reducible refine hE.mono ?_
  rintro e x ⟨rfl, b⟩
  clear a0 a1 a2 a3 c0 c1 c2 c3
  obtain ⟨a0, a1, a2, a3⟩ := (K1.out.below b).four
  obtain ⟨c0, c1, c2, c3⟩ := (K2.out.below b).four
  go_wp2_with fail
  go_ret
  exact ⟨rfl, chainB B1.out b⟩
end Go.Proofs.YtfdihkgkiiekcaaDoor
