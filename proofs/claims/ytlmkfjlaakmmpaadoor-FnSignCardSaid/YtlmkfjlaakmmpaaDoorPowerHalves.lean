/-
  Parts of one proof, laid as one text: Power, Halves; what each says stands at its head.
-/
import Derived.Test.YtlmkfjlaakmmpaaDoorRows
import Derived.Test.YtlmkfjlaakmmpaaDoorBytes
import Derived.Test.YtlmkfjlaakmmpaaDoorTreeMath
import Derived.Test.YtlmkfjlaakmmpaaDoorBits
import Derived.Handy
import Derived.Test.YtlmkfjlaakmmpaaDoorSlA
import Derived.Deep.QuietTactic
import Derived.BigQuiet
/-
  The program's powerBelow and the specification's l03Half: the greatest power of two below a number of 2 or more.
  Conditions: the numbers are of their types, and 2 or more.
-/
namespace Go.Proofs.YtlmkfjlaakmmpaaDoor
open Go.RowKit Go.Lib
set_option linter.unusedVariables false

theorem log_lt62 {n : Nat} (h : n < 9223372036854775808) (h0 : n ≠ 0) : Nat.log2 n < 63 := (Nat.log2_lt h0).2 (by rw [show (2 : Nat) ^ 63 = 9223372036854775808 from by decide]; exact h)
set_option maxHeartbeats 400000 in
theorem power_any (n : Nat) (w : World) (h2 : 2 ≤ n) (hn : n ≤ 9223372036854775807) :
    Calls Tryd.prog 128 #[.int .i64 (n : Int)] w fun e w' => e = .returned (.int .i64 (halfN n : Int)) ∧ w' = w := by
  have hl := log_lt62 (n := n - 1) (by omega) (by omega)
  have hc := fun w => len64_any (n - 1) w (by omega) (by omega)
  have HH : Hid (((2 : Int) ^ (Nat.log2 (n - 1))) = (halfN n : Int)) := by show _ = _; unfold halfN; simp
  have hh := halfN_lt h2
  obtain ⟨m, rfl⟩ : ∃ m, n = m + 1 := ⟨n - 1, by omega⟩
  simp only [Nat.add_sub_cancel] at *
  generalize halfN (m + 1) = H at *
  generalize Nat.log2 m = lg at *
  have HC : Hid (∀ w, Calls Tryd.prog 141 #[.int .u64 (m : Int)] w fun e w' => e = .returned (.int .i64 ((lg + 1 : Nat) : Int)) ∧ w' = w) := hc
  clear hc
  go_enter Tryd.func128, Tryd.ntmps128
  go_wp2_with (go_at_call 141; refine (HC.out _).mono ?_; rintro e w1 ⟨rfl, rfl⟩)
  go_ret
  exact ⟨ret_int (by rw [HH.out]; unfold wrap64; omega), rfl⟩

set_option maxHeartbeats 400000 in
theorem half2_any (n : Nat) (w : World) (h2 : 2 ≤ n) (hn : n ≤ 140737488355328) :
    Calls Tryd.prog 124 #[.int .i64 (n : Int)] w fun e w' => e = .returned (.int .i64 (halfN n : Int)) ∧ w' = w := by
  go_enter Tryd.func124, Tryd.ntmps124
  go_wp2
  go_loop [3] (fun x => ∃ k j : Nat, Hid (k = 2 ^ j) ∧ k < n ∧ 0 < k ∧ x = .int .i64 k) (fun x => n - (intOf x).toNat)
  case atStart => exact ⟨1, 0, rfl, by omega, by omega, rfl⟩
  case round =>
    obtain ⟨k, j, hk, hkn, hk0, rfl⟩ := hrel
    by_cases hlt : 2 * k < n
    · go_wp2
      go_round
      case rel => exact ⟨2 * k, j + 1, by show _ = _; rw [hk.out, Nat.pow_succ, Nat.mul_comm], hlt, by omega, by go_num⟩
      case measure => simp [intOf]; omega
    · have H : Hid (halfN n = k) := by
        show _ = _
        rw [hk.out]
        exact halfN_unique (by rw [← hk.out]; exact hkn) (by rw [← hk.out]; omega)
      go_wp2
      go_ret
      exact ⟨ret_int (by rw [H.out]), rfl⟩

theorem ret_bool' {a b : Bool} (h : a = true ↔ b = true) : Ending.returned (.bool a) = .returned (.bool b) := by rw [Bool.eq_iff_iff.2 h]
theorem pow_half (n : Nat) (h : n % 2 = 0) (h0 : 0 < n) : (∃ j, n = 2 ^ j) ↔ ∃ j, n / 2 = 2 ^ j := by
  constructor
  · rintro ⟨j, rfl⟩
    cases j with
    | zero => simp at h
    | succ j => exact ⟨j, by rw [Nat.pow_succ]; omega⟩
  · rintro ⟨j, hj⟩; exact ⟨j + 1, by rw [Nat.pow_succ, ← hj]; omega⟩
theorem pow_odd (n : Nat) (h : n % 2 = 1) : (∃ j, n = 2 ^ j) ↔ n = 1 := by
  constructor
  · rintro ⟨j, rfl⟩
    cases j with
    | zero => rfl
    | succ j => rw [Nat.pow_succ] at h; omega
  · rintro rfl; exact ⟨0, rfl⟩

def isPowB (n : Nat) : Bool := decide (n = 2 ^ Nat.log2 n)
theorem isPowB_iff (n : Nat) : isPowB n = true ↔ ∃ j, n = 2 ^ j := by
  unfold isPowB; rw [decide_eq_true_iff]
  exact ⟨fun h => ⟨_, h⟩, fun ⟨j, hj⟩ => by rw [hj, Nat.log2_two_pow]⟩
end Go.Proofs.YtlmkfjlaakmmpaaDoor
/-
  The program's halves: two slices over the first k and the other entries.
  Conditions: there are 2 or more.
-/
namespace Go.Proofs.YtlmkfjlaakmmpaaDoor
open Go.RowKit Go.Lib
set_option linter.unusedVariables false

theorem belowDr {B : Nat} {a w : World} (h : Below B a w) (n : Nat) : Below B a (w.drewN n) := ⟨h.os, h.tape, h.output, h.size, h.block⟩
set_option maxHeartbeats 400000 in
theorem halves_any (b off n cap : Nat) (w : World) (h2 : 2 ≤ n) (hn : n ≤ 140737488355328) (hcap : n ≤ cap) :
    Calls Tryd.prog 121 #[.slice (some ⟨b, off, none⟩) n cap] w fun e w' =>
      e = .returned (.tuple #[.slice (some ⟨b, off, none⟩) (halfN n) (halfN n), .slice (some ⟨b, off + halfN n, none⟩) (n - halfN n) (n - halfN n)]) ∧ Below w.heap.size w w' := by
  have h1 := halfN_lt h2
  have h0 := halfN_pos n
  have hc := fun w => power_any n w h2 (by omega)
  generalize halfN n = k at *
  have q1 : (k : Int) ≤ cap := by omega
  have q2 : (k : Int) ≤ n := by omega
  have q3 : (n : Int) ≤ cap := by omega
  have q4 : ¬ n = k := by omega
  have q5 : (0 : Int) ≤ k := by omega
  go_enter Tryd.func121, Tryd.ntmps121
  go_wp2_with (go_at_call 128; refine (hc _).mono ?_; rintro e w1 ⟨rfl, rfl⟩)
  go_quiet (fail)
  go_wp2
  go_ret2
  exact ⟨rfl, belowDr (Below.refl _ _) _⟩
end Go.Proofs.YtlmkfjlaakmmpaaDoor
