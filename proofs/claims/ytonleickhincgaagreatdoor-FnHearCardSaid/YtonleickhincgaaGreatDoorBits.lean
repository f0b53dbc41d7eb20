/-
  math/bits.Len64: of a number above 0 its logarithm and 1.
-/
import Derived.Test.YtonleickhincgaaGreatDoorRows
import Derived.Test.YtonleickhincgaaGreatDoorBytesDigMath
import Derived.Test.YtonleickhincgaaGreatDoorTreeMathSlABxKSlBOwnS
import Derived.Handy
import Derived.Laws.MathBits
import Derived.Lib.BitFns
import Derived.Lib.Strings
namespace Go.Proofs.YtonleickhincgaaGreatDoor
open Go.RowKit
open Go.Lib (len8)
set_option linter.unusedVariables false

theorem len8_log : ∀ n : Fin 256, 0 < n.val → len8 (n.val : Int) = ((Nat.log2 n.val + 1 : Nat) : Int) := by decide +kernel
theorem log_sh (x b d : Nat) (hd : d = 2 ^ b) (h1 : d ≤ x) (h2 : x / d < 256) : len8 ((x / d : Nat) : Int) = ((Nat.log2 x + 1 - b : Nat) : Int) ∧ b ≤ Nat.log2 x ∧ Nat.log2 x < b + 8 := by
  subst hd
  have hp : 0 < 2 ^ b := Nat.two_pow_pos b
  have h3 : 0 < x / 2 ^ b := Nat.div_pos h1 hp
  have h4 := Go.bitLen_shift x b (by omega)
  have h5 := Go.bitLen_le8 (x / 2 ^ b) h2
  unfold Go.bitLen at h4 h5
  rw [if_neg (by omega), if_neg (by omega)] at h4
  rw [if_neg (by omega)] at h5
  rw [len8_log ⟨x / 2 ^ b, h2⟩ h3]
  exact ⟨by simp only; omega, by omega, by omega⟩

theorem idx_len (x b d : Nat) (z : Int) (hd : d = 2 ^ b) (hz : z = ((x / d : Nat) : Int)) (h1 : d ≤ x) (h2 : x / d < 256) :
    ∃ q : Nat, q + b = Nat.log2 x + 1 ∧ q ≤ 8 ∧ ∀ w, (Instr.index 9 (.string Go.Lib.len8tab) (.int .u8 z)).run Tryz.prog w = .ok (.int .u8 (q : Int)) w := by
  obtain ⟨s1, s2, s3⟩ := log_sh x b d hd h1 h2
  refine ⟨Nat.log2 x + 1 - b, by omega, by omega, fun w => ?_⟩
  rw [← s1, hz]
  generalize x / d = r at *
  exact Go.Lib.run_index_len8tab w 9 .u8 _ Tryz.underlying9 (by omega) (by omega)
theorem ret_int {k : IntKind} {a b : Int} (h : a = b) : Ending.returned (.int k a) = .returned (.int k b) := by rw [h]

set_option maxHeartbeats 4000000 in
set_option maxRecDepth 20000 in
theorem len64_int (y : Int) (x : Nat) (hx : y.toNat = x) (w : World) (h0 : 1 ≤ y) (h1 : y ≤ 18446744073709551615) :
    Calls Tryz.prog 215 #[.int .u64 y] w fun e w' => e = .returned (.int .i64 ((Nat.log2 x + 1 : Nat) : Int)) ∧ w' = w := by
  by_cases c0 : 4294967296 ≤ y
  · by_cases c1 : 65536 ≤ y / 4294967296
    · by_cases c2 : 256 ≤ y / 4294967296 / 65536
      · obtain ⟨q, hq, hq8, hi⟩ := idx_len x 56 72057594037927936 (y / 4294967296 / 65536 / 256) rfl (by omega) (by omega) (by omega)
        rw [← hq]
        clear hq hx
        go_enter Tryz.func215, Tryz.ntmps215
        go_wp2
        go_ret
        exact ⟨ret_int (by omega), rfl⟩
      · obtain ⟨q, hq, hq8, hi⟩ := idx_len x 48 281474976710656 (y / 4294967296 / 65536) rfl (by omega) (by omega) (by omega)
        rw [← hq]
        clear hq hx
        go_enter Tryz.func215, Tryz.ntmps215
        go_wp2
        go_ret
        exact ⟨ret_int (by omega), rfl⟩
    · by_cases c2 : 256 ≤ y / 4294967296
      · obtain ⟨q, hq, hq8, hi⟩ := idx_len x 40 1099511627776 (y / 4294967296 / 256) rfl (by omega) (by omega) (by omega)
        rw [← hq]
        clear hq hx
        go_enter Tryz.func215, Tryz.ntmps215
        go_wp2
        go_ret
        exact ⟨ret_int (by omega), rfl⟩
      · obtain ⟨q, hq, hq8, hi⟩ := idx_len x 32 4294967296 (y / 4294967296) rfl (by omega) (by omega) (by omega)
        rw [← hq]
        clear hq hx
        go_enter Tryz.func215, Tryz.ntmps215
        go_wp2
        go_ret
        exact ⟨ret_int (by omega), rfl⟩
  · by_cases c1 : 65536 ≤ y
    · by_cases c2 : 256 ≤ y / 65536
      · obtain ⟨q, hq, hq8, hi⟩ := idx_len x 24 16777216 (y / 65536 / 256) rfl (by omega) (by omega) (by omega)
        rw [← hq]
        clear hq hx
        go_enter Tryz.func215, Tryz.ntmps215
        go_wp2
        go_ret
        exact ⟨ret_int (by omega), rfl⟩
      · obtain ⟨q, hq, hq8, hi⟩ := idx_len x 16 65536 (y / 65536) rfl (by omega) (by omega) (by omega)
        rw [← hq]
        clear hq hx
        go_enter Tryz.func215, Tryz.ntmps215
        go_wp2
        go_ret
        exact ⟨ret_int (by omega), rfl⟩
    · by_cases c2 : 256 ≤ y
      · obtain ⟨q, hq, hq8, hi⟩ := idx_len x 8 256 (y / 256) rfl (by omega) (by omega) (by omega)
        rw [← hq]
        clear hq hx
        go_enter Tryz.func215, Tryz.ntmps215
        go_wp2
        go_ret
        exact ⟨ret_int (by omega), rfl⟩
      · obtain ⟨q, hq, hq8, hi⟩ := idx_len x 0 1 (y) rfl (by omega) (by omega) (by omega)
        rw [← hq]
        clear hq hx
        go_enter Tryz.func215, Tryz.ntmps215
        go_wp2
        go_ret
        exact ⟨ret_int (by omega), rfl⟩

theorem len64_any (x : Nat) (w : World) (h0 : 0 < x) (h1 : x < 18446744073709551616) :
    Calls Tryz.prog 215 #[.int .u64 (x : Int)] w fun e w' => e = .returned (.int .i64 ((Nat.log2 x + 1 : Nat) : Int)) ∧ w' = w :=
  len64_int (x : Int) x (by omega) w (by omega) (by omega)

end Go.Proofs.YtonleickhincgaaGreatDoor
