/-
  math/bits.OnesCount64 and the specification's l03Ones, of a number from 0 to 1000000: how many of its bits are 1, 'onesN'.
-/
import Derived.Test.YtclpccnppmbpcaaDoorRows
import Derived.Test.YtclpccnppmbpcaaDoorBytes
import Derived.Test.YtclpccnppmbpcaaDoorOnesMath
import Derived.Handy
import Derived.Laws.Bits64b
namespace Go.Proofs.YtclpccnppmbpcaaDoor
open Go.RowKit Go.Lib
set_option linter.unusedVariables false
set_option maxRecDepth 20000

theorem and_u64 {a : Nat} {x : Int} {m c : Nat} (hx : x = (a : Int)) (ha : a < 18446744073709551616) (hm : m < 18446744073709551616) (h : a &&& m = c) : bits .and .u64 x (m : Int) = (c : Int) := by rw [hx, bits_and_u64_nat a m ha hm, h]
theorem and_i64 (a c : Nat) (ha : a < 4294967296) (h : a &&& 127 = c) : bits .and .i64 (a : Int) 127 = (c : Int) := by
  have h1 : (BitVec.ofInt 64 (a : Int)).toNat = a := by
    rw [BitVec.ofInt_natCast, BitVec.toNat_ofNat]; exact Nat.mod_eq_of_lt (by omega)
  have h2 : (BitVec.ofInt 64 (127 : Int)).toNat = 127 := by decide
  have hx : a &&& 127 ≤ 127 := Nat.and_le_right
  show IntKind.i64.wrap ((BitVec.ofInt 64 (a : Int) &&& BitVec.ofInt 64 (127 : Int)).toNat : Int) = _
  rw [BitVec.toNat_and, h1, h2, h, IntKind.wrap_i64]
  omega

set_option maxHeartbeats 1000000 in
theorem ones64_any (x : Nat) (w : World) (h : x < 1048576) :
    Calls Tryd.prog 98 #[.int .u64 (x : Int)] w fun e w' => e = .returned (.int .i64 (onesN x : Int)) ∧ w' = w := by
  obtain ⟨A1, B1, A2, B2, C, h1, h2, l1, h3, h4, l2, h5, l3, h6, h7⟩ := swar x h
  have f1 : bits .and .u64 ((x : Int) / 2) 6148914691236517205 = (A1 : Int) := and_u64 (a := x / 2) (m := 6148914691236517205) (by omega) (by omega) (by omega) h1
  have f2 : bits .and .u64 (x : Int) 6148914691236517205 = (B1 : Int) := and_u64 (a := x) (m := 6148914691236517205) (by omega) (by omega) (by omega) h2
  have f3 : bits .and .u64 (((A1 : Int) + B1) / 4) 3689348814741910323 = (A2 : Int) := and_u64 (a := (A1 + B1) / 4) (m := 3689348814741910323) (by omega) (by omega) (by omega) h3
  have f4 : bits .and .u64 ((A1 : Int) + B1) 3689348814741910323 = (B2 : Int) := and_u64 (a := A1 + B1) (m := 3689348814741910323) (by omega) (by omega) (by omega) h4
  have f5 : bits .and .u64 (((A2 : Int) + B2) / 16 + ((A2 : Int) + B2)) 1085102592571150095 = (C : Int) := and_u64 (a := (A2 + B2) / 16 + (A2 + B2)) (m := 1085102592571150095) (by omega) (by omega) (by omega) h5
  obtain ⟨D, hD⟩ : ∃ D : Nat, D = C + C / 256 := ⟨_, rfl⟩
  obtain ⟨E, hE⟩ : ∃ E : Nat, E = D + D / 65536 := ⟨_, rfl⟩
  rw [← hD, ← hE] at h6
  have f6 := and_i64 (E + E / 4294967296) _ (by omega) h6
  have g1 : (C : Int) + (C : Int) / 256 = (D : Int) := by omega
  have g2 : (D : Int) + (D : Int) / 65536 = (E : Int) := by omega
  have g3 : (E : Int) + (E : Int) / 4294967296 = ((E + E / 4294967296 : Nat) : Int) := by omega
  have l4 : E < 33554432 := by omega
  have l5 : D < 33554432 := by omega
  obtain ⟨F, hF⟩ : ∃ F : Nat, F = E + E / 4294967296 := ⟨_, rfl⟩
  have l6 : F < 33554432 := by omega
  rw [← hF] at g3 f6
  generalize onesN x = R at *
  clear h1 h2 h3 h4 h5 h6 hD hE hF
  go_enter Tryd.func98, Tryd.ntmps98
  go_wp2
  go_ret
  exact ⟨rfl, rfl⟩

set_option maxHeartbeats 400000 in
theorem ones2_any (x : Nat) (w : World) (h : x < 1048576) :
    Calls Tryd.prog 102 #[.int .i64 (x : Int)] w fun e w' => e = .returned (.int .i64 (onesN x : Int)) ∧ w' = w := by
  obtain ⟨_, _, _, _, _, _, _, _, _, _, _, _, _, _, h7⟩ := swar x h
  have HO : Hid (onesN x = 0 + onesN x) := by show _ = _; omega
  generalize hR : onesN x = R at h7 ⊢
  rw [hR] at HO
  go_enter Tryd.func102, Tryd.ntmps102
  go_wp2
  go_loop [0, 3] (fun vn vk => ∃ n k : Nat, vn = .int .i64 n ∧ vk = .int .i64 k ∧ n ≤ x ∧ k ≤ R ∧ Hid (R = k + onesN n)) (fun vn _ => (intOf vn).toNat)
  case atStart => exact ⟨x, 0, rfl, rfl, by omega, by omega, by show _ = _; rw [hR]; omega⟩
  case round =>
    clear hR HO
    obtain ⟨n, k, rfl, rfl, hn, hk, hI⟩ := hrel
    by_cases hz : 0 < n
    · have HI2 : Hid (R = (k + n % 2) + onesN (n / 2)) := by show _ = _; rw [hI.out, onesN_step n]; omega
      have hk2 : k + n % 2 ≤ R := by have := HI2.out; omega
      clear hI
      go_wp2
      go_round
      case rel => exact ⟨n / 2, k + n % 2, by go_num, by go_num, by omega, hk2, HI2⟩
      case measure => simp [intOf]; omega
    · obtain rfl : n = 0 := by omega
      have HI2 : Hid (R = k) := by show _ = _; rw [hI.out, onesN_zero]; omega
      go_wp2
      go_ret
      exact ⟨by rw [HI2.out]; rfl, rfl⟩
end Go.Proofs.YtclpccnppmbpcaaDoor
