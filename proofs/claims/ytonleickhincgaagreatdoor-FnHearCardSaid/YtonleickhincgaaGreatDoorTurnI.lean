/-
  The program's turnedRight: a number of 32 bits turned right by 1 to 31 places: 'turnR'.
-/
import Derived.Test.YtonleickhincgaaGreatDoorRows
import Derived.Test.YtonleickhincgaaGreatDoorBytesDigMath
import Derived.Handy
namespace Go.Proofs.YtonleickhincgaaGreatDoor
open Go.RowKit Go.Lib
set_option linter.unusedVariables false

theorem ret_intT {k : IntKind} {a b : Int} (h : a = b) : Ending.returned (.int k a) = .returned (.int k b) := by rw [h]
theorem bits_or_comm (a b : Int) : bits .or .u32 a b = bits .or .u32 b a := by
  show IntKind.u32.wrap ((BitVec.ofInt 32 a ||| BitVec.ofInt 32 b).toNat : Int) = IntKind.u32.wrap ((BitVec.ofInt 32 b ||| BitVec.ofInt 32 a).toNat : Int)
  rw [BitVec.or_comm]
theorem rot_s (k : Nat) (h0 : 1 ≤ k) (h1 : k ≤ 31) : bits .and .u64 (IntKind.u64.wrap (-(k : Int))) 31 = 32 - (k : Int) := by
  have key : ∀ y : Fin 32, 1 ≤ y.val → bits .and .u64 (IntKind.u64.wrap (-((y.val : Nat) : Int))) 31 = 32 - ((y.val : Nat) : Int) := by decide +kernel
  exact key ⟨k, by omega⟩ h0

set_option maxHeartbeats 400000 in
theorem rot_any (x : Int) (k : Nat) (w : World) (h0 : 0 ≤ x) (h1 : x ≤ 4294967295) (k0 : 1 ≤ k) (k1 : k ≤ 31) :
    Calls Tryz.prog 222 #[.int .u32 x, .int .i64 (-(k : Int))] w fun e w' => e = .returned (.int .u32 (turnR x k)) ∧ w' = w := by
  have hs := rot_s k k0 k1
  have hc : turnR x k = bits .or .u32 (x * 2 ^ (32 - k) % 4294967296) (x / 2 ^ k) := bits_or_comm _ _
  have HC : Hid (turnR x k = bits .or .u32 (x * 2 ^ (32 - k) % 4294967296) (x / 2 ^ k)) := hc
  clear hc
  have e1 : IntKind.u64.wrap (32 - (32 - (k : Int))) = (k : Int) := by rw [IntKind.wrap_u64]; omega
  have e2 : ((32 : Int) - (k : Int)).toNat = 32 - k := by omega
  go_enter Tryz.func222, Tryz.ntmps222
  go_wp2
  go_ret
  exact ⟨ret_intT HC.out.symm, rfl⟩

theorem turnI_c (x c : Int) (w : World) (h0 : 0 ≤ x) (h1 : x ≤ 4294967295) (c0 : 1 ≤ c) (c1 : c ≤ 31) :
    Calls Tryz.prog 214 #[.int .u32 x, .int .i64 c] w fun e w' => e = .returned (.int .u32 (turnR x c.toNat)) ∧ w' = w := by
  obtain ⟨k, rfl⟩ : ∃ k : Nat, c = k := ⟨c.toNat, by omega⟩
  go_enter Tryz.func214, Tryz.ntmps214
  go_wp2_with (go_at_call 222; refine (rot_any _ k _ h0 h1 (by omega) (by omega)).mono ?_; rintro e w' ⟨rfl, rfl⟩)
  go_ret
  exact ⟨rfl, rfl⟩
end Go.Proofs.YtonleickhincgaaGreatDoor
