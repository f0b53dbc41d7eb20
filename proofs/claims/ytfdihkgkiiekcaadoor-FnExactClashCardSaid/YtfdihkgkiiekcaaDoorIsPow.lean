/-
  The specification's l03Power: is a number a power of two.
  Conditions: the number is an int64, and 1 or more.
-/
import Derived.Test.YtfdihkgkiiekcaaDoorRows
import Derived.Test.YtfdihkgkiiekcaaDoorBytes
import Derived.Test.YtfdihkgkiiekcaaDoorTreeMath
import Derived.Test.YtfdihkgkiiekcaaDoorBits
import Derived.Test.YtfdihkgkiiekcaaDoorPower
import Derived.Handy
namespace Go.Proofs.YtfdihkgkiiekcaaDoor
open Go.RowKit Go.Lib
set_option linter.unusedVariables false

set_option maxHeartbeats 400000 in
theorem isPow_any (n : Nat) (w : World) (h1 : 1 ≤ n) (hn : n ≤ 9223372036854775807) :
    Calls Tryd.prog 39 #[.int .i64 (n : Int)] w fun e w' => e = .returned (.bool (isPowB n)) ∧ w' = w := by
  have HB := isPowB_iff n
  generalize isPowB n = B at *
  have HB : Hid (B = true ↔ ∃ j, n = 2 ^ j) := HB
  go_enter Tryd.func39, Tryd.ntmps39
  go_wp2
  go_loop [0] (fun x => ∃ k : Nat, Hid ((∃ j, n = 2 ^ j) ↔ ∃ j, k = 2 ^ j) ∧ k ≤ n ∧ 0 < k ∧ x = .int .i64 k) (fun x => (intOf x).toNat)
  case atStart => exact ⟨n, Iff.rfl, by omega, by omega, rfl⟩
  case round =>
    obtain ⟨k, hk, hkn, hk0, rfl⟩ := hrel
    by_cases hlt : (k : Int) % 2 = 0
    · have HK : Hid ((∃ j, n = 2 ^ j) ↔ ∃ j, k / 2 = 2 ^ j) := hk.out.trans (pow_half k (by omega) hk0)
      go_wp2
      go_round
      case rel => exact ⟨k / 2, HK, by omega, by omega, by go_num⟩
      case measure => simp [intOf]; omega
    · have H : Hid (B = true ↔ k = 1) := HB.out.trans (hk.out.trans (pow_odd k (by omega)))
      clear HB hk
      go_wp2
      go_ret
      exact ⟨ret_bool' (by rw [H.out]; simp; omega), rfl⟩
end Go.Proofs.YtfdihkgkiiekcaaDoor
