/-
  The program's powerBelow and the specification's l03Half: the greatest power of two below a number of 2 or more.
  Conditions: the numbers are of their types, and 2 or more.
-/
import Derived.Test.YtfdihkgkiiekcaaDoorRows
import Derived.Test.YtfdihkgkiiekcaaDoorBytes
import Derived.Test.YtfdihkgkiiekcaaDoorTreeMath
import Derived.Test.YtfdihkgkiiekcaaDoorBits
import Derived.Handy
namespace Go.Proofs.YtfdihkgkiiekcaaDoor
open Go.RowKit Go.Lib
set_option linter.unusedVariables false

theorem log_lt62 {n : Nat} (h : n < 9223372036854775808) (h0 : n ≠ 0) : Nat.log2 n < 63 := (Nat.log2_lt h0).2 (by rw [show (2 : Nat) ^ 63 = 9223372036854775808 from by decide]; exact h)
set_option maxHeartbeats 400000 in
theorem power_any (n : Nat) (w : World) (h2 : 2 ≤ n) (hn : n ≤ 9223372036854775807) :
    Calls Tryd.prog 72 #[.int .i64 (n : Int)] w fun e w' => e = .returned (.int .i64 (halfN n : Int)) ∧ w' = w := by
  have hl := log_lt62 (n := n - 1) (by omega) (by omega)
  have hc := fun w => len64_any (n - 1) w (by omega) (by omega)
  have HH : Hid (((2 : Int) ^ (Nat.log2 (n - 1))) = (halfN n : Int)) := by show _ = _; unfold halfN; simp
  have hh := halfN_lt h2
  obtain ⟨m, rfl⟩ : ∃ m, n = m + 1 := ⟨n - 1, by omega⟩
  simp only [Nat.add_sub_cancel] at *
  generalize halfN (m + 1) = H at *
  generalize Nat.log2 m = lg at *
  have HC : Hid (∀ w, Calls Tryd.prog 76 #[.int .u64 (m : Int)] w fun e w' => e = .returned (.int .i64 ((lg + 1 : Nat) : Int)) ∧ w' = w) := hc
  clear hc
  go_enter Tryd.func72, Tryd.ntmps72
  go_wp2_with (go_at_call 76; refine (HC.out _).mono ?_; rintro e w1 ⟨rfl, rfl⟩)
  go_ret
  exact ⟨ret_int (by rw [HH.out]; unfold wrap64; omega), rfl⟩

theorem ret_bool' {a b : Bool} (h : a = true ↔ b = true) : Ending.returned (.bool a) = .returned (.bool b) := by rw [Bool.eq_iff_iff.2 h]
theorem pow_half (n : Nat) (h : n % 2 = 0) (h0 : 0 < n) : (∃ j, n = 2 ^ j) ↔ ∃ j, n / 2 = 2 ^ j := by
  constructor
  · rintro ⟨j, rfl⟩
    cases j with
    | zero => simp at h
    | succ j => exact ⟨j, by rw [Nat.pow_succ]; omega⟩
  · rintro ⟨j, hj⟩; exact ⟨j + 1, by rw [Nat.pow_succ, ← hj]; omega⟩
theorem pow_odd (n : Nat) (h : n % 2 = 1) : (∃ j, n = 2 ^ j) ↔ n = 1 := by
  constructor
  · rintro ⟨j, rfl⟩
    cases j with
    | zero => rfl
    | succ j => rw [Nat.pow_succ] at h; omega
  · rintro rfl; exact ⟨0, rfl⟩

def isPowB (n : Nat) : Bool := decide (n = 2 ^ Nat.log2 n)
theorem isPowB_iff (n : Nat) : isPowB n = true ↔ ∃ j, n = 2 ^ j := by
  unfold isPowB; rw [decide_eq_true_iff]
  exact ⟨fun h => ⟨_, h⟩, fun ⟨j, hj⟩ => by rw [hj, Nat.log2_two_pow]⟩
end Go.Proofs.YtfdihkgkiiekcaaDoor
