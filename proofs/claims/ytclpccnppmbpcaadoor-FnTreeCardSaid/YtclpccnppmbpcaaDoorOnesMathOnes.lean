/-
  Parts of one proof, laid as one text: OnesMath, Ones; what each says stands at its head.
-/
import Derived.Test.YtclpccnppmbpcaaDoorBytes
import Derived.Test.YtclpccnppmbpcaaDoorRows
import Derived.Handy
import Derived.Laws.Bits64b
/-
  How many bits of a number below 2^20 are 1: bit by bit, and by the masks and sums of math/bits.OnesCount64: one number.
  Nothing of the program is named here.
-/
namespace Go.Proofs.YtclpccnppmbpcaaDoor
set_option linter.unusedVariables false

def onesN (n : Nat) : Nat := if h : n = 0 then 0 else n % 2 + onesN (n / 2)
termination_by n
decreasing_by omega
theorem onesN_zero : onesN 0 = 0 := by rw [onesN]; simp
theorem onesN_step (n : Nat) : onesN n = n % 2 + onesN (n / 2) := by
  by_cases h : n = 0
  · subst h; simp [onesN_zero]
  · rw [onesN]; simp [h]
theorem ones_shift (k a b : Nat) (h : a < 2 ^ k) : onesN (a + 2 ^ k * b) = onesN a + onesN b := by
  induction k generalizing a with
  | zero => obtain rfl : a = 0 := by omega
            simp [onesN_zero]
  | succ k ih =>
    rw [onesN_step (a + 2 ^ (k + 1) * b), onesN_step a, Nat.pow_succ]
    have e1 : (a + 2 ^ k * 2 * b) % 2 = a % 2 := by rw [Nat.mul_right_comm]; omega
    have e2 : (a + 2 ^ k * 2 * b) / 2 = a / 2 + 2 ^ k * b := by rw [Nat.mul_right_comm]; omega
    rw [e1, e2, ih (a / 2) (by rw [Nat.pow_succ] at h; omega)]; omega
theorem land_split (x m : Nat) : x &&& m = ((x % 256) &&& (m % 256)) + 256 * ((x / 256) &&& (m / 256)) := by
  have h1 := Nat.and_mod_two_pow (a := x) (b := m) (n := 8)
  have h2 := Nat.and_div_two_pow (a := x) (b := m) (n := 8)
  rw [show (2 : Nat) ^ 8 = 256 from rfl] at h1 h2
  rw [← h1, ← h2]; omega
theorem land_zero (m : Nat) : 0 &&& m = 0 := Nat.zero_and m
/-- A number of three bytes against a mask of three bytes and more. -/
theorem land3 (a b c m : Nat) (ha : a < 256) (hb : b < 256) (hc : c < 256) :
    (a + 256 * b + 65536 * c) &&& m = (a &&& (m % 256)) + 256 * (b &&& (m / 256 % 256)) + 65536 * (c &&& (m / 65536 % 256)) := by
  rw [land_split, land_split ((a + 256 * b + 65536 * c) / 256) (m / 256), land_split ((a + 256 * b + 65536 * c) / 256 / 256) (m / 256 / 256)]
  rw [show (a + 256 * b + 65536 * c) % 256 = a by omega, show (a + 256 * b + 65536 * c) / 256 % 256 = b by omega, show (a + 256 * b + 65536 * c) / 256 / 256 % 256 = c by omega,
    show (a + 256 * b + 65536 * c) / 256 / 256 / 256 = 0 by omega, land_zero, show m / 256 / 256 = m / 65536 by omega]
  omega
def b1 (z : Nat) : Nat := ((z / 2) &&& 85) + (z &&& 85)
def b2 (z : Nat) : Nat := ((z / 4) &&& 51) + (z &&& 51)
def b3 (z : Nat) : Nat := (z / 16 + z) &&& 15
theorem b1_lt : ∀ z : Fin 256, b1 z.val < 171 := by decide +kernel
theorem b2_lt : ∀ z : Fin 256, b2 (b1 z.val) < 69 ∧ b2 (b1 z.val) % 16 ≤ 4 := by decide +kernel
theorem half_85 : ∀ (z : Fin 256) (k : Fin 2), ((z.val / 2 + 128 * k.val) &&& 85) = ((z.val / 2) &&& 85) := by decide +kernel
theorem half_51 : ∀ (z : Fin 256) (k : Fin 4), ((z.val / 4 + 64 * k.val) &&& 51) = ((z.val / 4) &&& 51) := by decide +kernel
theorem half_15 : ∀ (z : Fin 69) (k : Fin 16), ((z.val / 16 + z.val + 16 * k.val) &&& 15) = b3 z.val := by decide +kernel
def ones8 (z : Nat) : Nat := z % 2 + z / 2 % 2 + z / 4 % 2 + z / 8 % 2 + z / 16 % 2 + z / 32 % 2 + z / 64 % 2 + z / 128 % 2
theorem ones8_eq (z : Nat) (h : z < 256) : onesN z = ones8 z := by
  unfold ones8
  rw [onesN_step z, onesN_step (z / 2), onesN_step (z / 2 / 2), onesN_step (z / 2 / 2 / 2), onesN_step (z / 2 / 2 / 2 / 2), onesN_step (z / 2 / 2 / 2 / 2 / 2), onesN_step (z / 2 / 2 / 2 / 2 / 2 / 2), onesN_step (z / 2 / 2 / 2 / 2 / 2 / 2 / 2),
    show z / 2 / 2 / 2 / 2 / 2 / 2 / 2 / 2 = 0 by omega, onesN_zero]
  omega
theorem ones_b3 : ∀ z : Fin 256, b3 (b2 (b1 z.val)) = ones8 z.val := by decide +kernel
theorem ones8_le : ∀ z : Fin 256, ones8 z.val ≤ 8 := by decide +kernel

/-- The road of OnesCount64 over a number below 2^20, each step's numbers named. -/
theorem swar (x : Nat) (h : x < 1048576) : ∃ A1 B1 A2 B2 C : Nat, x / 2 &&& 6148914691236517205 = A1 ∧ x &&& 6148914691236517205 = B1 ∧ A1 + B1 < 16777216 ∧
    (A1 + B1) / 4 &&& 3689348814741910323 = A2 ∧ (A1 + B1) &&& 3689348814741910323 = B2 ∧ A2 + B2 < 16777216 ∧ ((A2 + B2) / 16 + (A2 + B2)) &&& 1085102592571150095 = C ∧ C < 16777216 ∧
    (((C + C / 256) + (C + C / 256) / 65536) + ((C + C / 256) + (C + C / 256) / 65536) / 4294967296) &&& 127 = onesN x ∧ onesN x ≤ 24 := by
  obtain ⟨a, b, c, ha, hb, hc, rfl⟩ : ∃ a b c, a < 256 ∧ b < 256 ∧ c < 16 ∧ x = a + 256 * b + 65536 * c := ⟨x % 256, x / 256 % 256, x / 65536, by omega, by omega, by omega, by omega⟩
  have p1 := b1_lt ⟨a, ha⟩
  have p2 := b1_lt ⟨b, hb⟩
  have p3 := b1_lt ⟨c, by omega⟩
  obtain ⟨q1, r1⟩ := b2_lt ⟨a, ha⟩
  obtain ⟨q2, r2⟩ := b2_lt ⟨b, hb⟩
  obtain ⟨q3, r3⟩ := b2_lt ⟨c, by omega⟩
  have o1 := ones8_le ⟨a, ha⟩
  have o2 := ones8_le ⟨b, hb⟩
  have o3 := ones8_le ⟨c, by omega⟩
  have t1 := ones_b3 ⟨a, ha⟩
  have t2 := ones_b3 ⟨b, hb⟩
  have t3 := ones_b3 ⟨c, by omega⟩
  simp only at p1 p2 p3 q1 q2 q3 r1 r2 r3 o1 o2 o3 t1 t2 t3
  have e1 : (a + 256 * b + 65536 * c) / 2 &&& 6148914691236517205 = ((a / 2) &&& 85) + 256 * ((b / 2) &&& 85) + 65536 * ((c / 2) &&& 85) := by
    rw [show (a + 256 * b + 65536 * c) / 2 = (a / 2 + 128 * (b % 2)) + 256 * (b / 2 + 128 * (c % 2)) + 65536 * (c / 2) by omega, land3 _ _ _ _ (by omega) (by omega) (by omega)]
    rw [half_85 ⟨a, ha⟩ ⟨b % 2, by omega⟩, half_85 ⟨b, hb⟩ ⟨c % 2, by omega⟩]
  have e2 : (a + 256 * b + 65536 * c) &&& 6148914691236517205 = (a &&& 85) + 256 * (b &&& 85) + 65536 * (c &&& 85) := land3 _ _ _ _ ha hb (by omega)
  have s1 : ((a / 2) &&& 85) + 256 * ((b / 2) &&& 85) + 65536 * ((c / 2) &&& 85) + ((a &&& 85) + 256 * (b &&& 85) + 65536 * (c &&& 85)) = b1 a + 256 * b1 b + 65536 * b1 c := by unfold b1; omega
  have e3 : (b1 a + 256 * b1 b + 65536 * b1 c) / 4 &&& 3689348814741910323 = ((b1 a / 4) &&& 51) + 256 * ((b1 b / 4) &&& 51) + 65536 * ((b1 c / 4) &&& 51) := by
    rw [show (b1 a + 256 * b1 b + 65536 * b1 c) / 4 = (b1 a / 4 + 64 * (b1 b % 4)) + 256 * (b1 b / 4 + 64 * (b1 c % 4)) + 65536 * (b1 c / 4) by omega, land3 _ _ _ _ (by omega) (by omega) (by omega)]
    rw [half_51 ⟨b1 a, by omega⟩ ⟨b1 b % 4, by omega⟩, half_51 ⟨b1 b, by omega⟩ ⟨b1 c % 4, by omega⟩]
  have e4 : (b1 a + 256 * b1 b + 65536 * b1 c) &&& 3689348814741910323 = (b1 a &&& 51) + 256 * (b1 b &&& 51) + 65536 * (b1 c &&& 51) := land3 _ _ _ _ (by omega) (by omega) (by omega)
  have s2 : ((b1 a / 4) &&& 51) + 256 * ((b1 b / 4) &&& 51) + 65536 * ((b1 c / 4) &&& 51) + ((b1 a &&& 51) + 256 * (b1 b &&& 51) + 65536 * (b1 c &&& 51)) = b2 (b1 a) + 256 * b2 (b1 b) + 65536 * b2 (b1 c) := by unfold b2; omega
  have e5 : ((b2 (b1 a) + 256 * b2 (b1 b) + 65536 * b2 (b1 c)) / 16 + (b2 (b1 a) + 256 * b2 (b1 b) + 65536 * b2 (b1 c))) &&& 1085102592571150095 = b3 (b2 (b1 a)) + 256 * b3 (b2 (b1 b)) + 65536 * b3 (b2 (b1 c)) := by
    generalize b2 (b1 a) = y1 at *
    generalize b2 (b1 b) = y2 at *
    generalize b2 (b1 c) = y3 at *
    rw [show (y1 + 256 * y2 + 65536 * y3) / 16 + (y1 + 256 * y2 + 65536 * y3) = (y1 / 16 + y1 + 16 * (y2 % 16)) + 256 * (y2 / 16 + y2 + 16 * (y3 % 16)) + 65536 * (y3 / 16 + y3 + 16 * 0) by omega, land3 _ _ _ _ (by omega) (by omega) (by omega)]
    rw [half_15 ⟨y1, q1⟩ ⟨y2 % 16, by omega⟩, half_15 ⟨y2, q2⟩ ⟨y3 % 16, by omega⟩, half_15 ⟨y3, q3⟩ ⟨0, by omega⟩]
  rw [t1, t2, t3] at e5
  have h0 : onesN (a + 256 * b + 65536 * c) = ones8 a + ones8 b + ones8 c := by
    rw [show a + 256 * b + 65536 * c = a + 2 ^ 8 * (b + 2 ^ 8 * c) by omega, ones_shift 8 a _ (by omega), ones_shift 8 b c (by omega), ones8_eq a ha, ones8_eq b hb, ones8_eq c (by omega)]; omega
  refine ⟨((a / 2) &&& 85) + 256 * ((b / 2) &&& 85) + 65536 * ((c / 2) &&& 85), (a &&& 85) + 256 * (b &&& 85) + 65536 * (c &&& 85), ((b1 a / 4) &&& 51) + 256 * ((b1 b / 4) &&& 51) + 65536 * ((b1 c / 4) &&& 51), (b1 a &&& 51) + 256 * (b1 b &&& 51) + 65536 * (b1 c &&& 51), ones8 a + 256 * ones8 b + 65536 * ones8 c,
    e1, e2, by rw [s1]; omega, by rw [s1]; exact e3, by rw [s1]; exact e4, by rw [s2]; omega, by rw [s2]; exact e5, by omega, ?_, by rw [h0]; omega⟩
  rw [h0]
  generalize ones8 a = u at *
  generalize ones8 b = v at *
  generalize ones8 c = z at *
  have g1 : u + 256 * v + 65536 * z + (u + 256 * v + 65536 * z) / 256 = (u + v) + 256 * (v + z) + 65536 * z := by omega
  rw [g1]
  have g2 : (u + v) + 256 * (v + z) + 65536 * z + ((u + v) + 256 * (v + z) + 65536 * z) / 65536 = (u + v + z) + 256 * (v + z) + 65536 * z := by omega
  rw [g2]
  have g3 : (u + v + z) + 256 * (v + z) + 65536 * z + ((u + v + z) + 256 * (v + z) + 65536 * z) / 4294967296 = (u + v + z) + 256 * (v + z) + 65536 * z := by omega
  rw [g3]
  have hm := Nat.and_two_pow_sub_one_eq_mod ((u + v + z) + 256 * (v + z) + 65536 * z) 7
  rw [show (2 : Nat) ^ 7 - 1 = 127 from rfl, show (2 : Nat) ^ 7 = 128 from rfl] at hm
  rw [hm]; omega
end Go.Proofs.YtclpccnppmbpcaaDoor
/-
  math/bits.OnesCount64 and the specification's l03Ones, of a number from 0 to 1000000: how many of its bits are 1, 'onesN'.
-/
namespace Go.Proofs.YtclpccnppmbpcaaDoor
open Go.RowKit Go.Lib
set_option linter.unusedVariables false
set_option maxRecDepth 20000

theorem and_u64 {a : Nat} {x : Int} {m c : Nat} (hx : x = (a : Int)) (ha : a < 18446744073709551616) (hm : m < 18446744073709551616) (h : a &&& m = c) : bits .and .u64 x (m : Int) = (c : Int) := by rw [hx, bits_and_u64_nat a m ha hm, h]
theorem and_i64 (a c : Nat) (ha : a < 4294967296) (h : a &&& 127 = c) : bits .and .i64 (a : Int) 127 = (c : Int) := by
  have h1 : (BitVec.ofInt 64 (a : Int)).toNat = a := by
    rw [BitVec.ofInt_natCast, BitVec.toNat_ofNat]; exact Nat.mod_eq_of_lt (by omega)
  have h2 : (BitVec.ofInt 64 (127 : Int)).toNat = 127 := by decide
  have hx : a &&& 127 ≤ 127 := Nat.and_le_right
  show IntKind.i64.wrap ((BitVec.ofInt 64 (a : Int) &&& BitVec.ofInt 64 (127 : Int)).toNat : Int) = _
  rw [BitVec.toNat_and, h1, h2, h, IntKind.wrap_i64]
  omega

set_option maxHeartbeats 1000000 in
theorem ones64_any (x : Nat) (w : World) (h : x < 1048576) :
    Calls Tryd.prog 98 #[.int .u64 (x : Int)] w fun e w' => e = .returned (.int .i64 (onesN x : Int)) ∧ w' = w := by
  obtain ⟨A1, B1, A2, B2, C, h1, h2, l1, h3, h4, l2, h5, l3, h6, h7⟩ := swar x h
  have f1 : bits .and .u64 ((x : Int) / 2) 6148914691236517205 = (A1 : Int) := and_u64 (a := x / 2) (m := 6148914691236517205) (by omega) (by omega) (by omega) h1
  have f2 : bits .and .u64 (x : Int) 6148914691236517205 = (B1 : Int) := and_u64 (a := x) (m := 6148914691236517205) (by omega) (by omega) (by omega) h2
  have f3 : bits .and .u64 (((A1 : Int) + B1) / 4) 3689348814741910323 = (A2 : Int) := and_u64 (a := (A1 + B1) / 4) (m := 3689348814741910323) (by omega) (by omega) (by omega) h3
  have f4 : bits .and .u64 ((A1 : Int) + B1) 3689348814741910323 = (B2 : Int) := and_u64 (a := A1 + B1) (m := 3689348814741910323) (by omega) (by omega) (by omega) h4
  have f5 : bits .and .u64 (((A2 : Int) + B2) / 16 + ((A2 : Int) + B2)) 1085102592571150095 = (C : Int) := and_u64 (a := (A2 + B2) / 16 + (A2 + B2)) (m := 1085102592571150095) (by omega) (by omega) (by omega) h5
  obtain ⟨D, hD⟩ : ∃ D : Nat, D = C + C / 256 := ⟨_, rfl⟩
  obtain ⟨E, hE⟩ : ∃ E : Nat, E = D + D / 65536 := ⟨_, rfl⟩
  rw [← hD, ← hE] at h6
  have f6 := and_i64 (E + E / 4294967296) _ (by omega) h6
  have g1 : (C : Int) + (C : Int) / 256 = (D : Int) := by omega
  have g2 : (D : Int) + (D : Int) / 65536 = (E : Int) := by omega
  have g3 : (E : Int) + (E : Int) / 4294967296 = ((E + E / 4294967296 : Nat) : Int) := by omega
  have l4 : E < 33554432 := by omega
  have l5 : D < 33554432 := by omega
  obtain ⟨F, hF⟩ : ∃ F : Nat, F = E + E / 4294967296 := ⟨_, rfl⟩
  have l6 : F < 33554432 := by omega
  rw [← hF] at g3 f6
  generalize onesN x = R at *
  clear h1 h2 h3 h4 h5 h6 hD hE hF
  go_enter Tryd.func98, Tryd.ntmps98
  go_wp2
  go_ret
  exact ⟨rfl, rfl⟩

set_option maxHeartbeats 400000 in
theorem ones2_any (x : Nat) (w : World) (h : x < 1048576) :
    Calls Tryd.prog 102 #[.int .i64 (x : Int)] w fun e w' => e = .returned (.int .i64 (onesN x : Int)) ∧ w' = w := by
  obtain ⟨_, _, _, _, _, _, _, _, _, _, _, _, _, _, h7⟩ := swar x h
  have HO : Hid (onesN x = 0 + onesN x) := by show _ = _; omega
  generalize hR : onesN x = R at h7 ⊢
  rw [hR] at HO
  go_enter Tryd.func102, Tryd.ntmps102
  go_wp2
  go_loop [0, 3] (fun vn vk => ∃ n k : Nat, vn = .int .i64 n ∧ vk = .int .i64 k ∧ n ≤ x ∧ k ≤ R ∧ Hid (R = k + onesN n)) (fun vn _ => (intOf vn).toNat)
  case atStart => exact ⟨x, 0, rfl, rfl, by omega, by omega, by show _ = _; rw [hR]; omega⟩
  case round =>
    clear hR HO
    obtain ⟨n, k, rfl, rfl, hn, hk, hI⟩ := hrel
    by_cases hz : 0 < n
    · have HI2 : Hid (R = (k + n % 2) + onesN (n / 2)) := by show _ = _; rw [hI.out, onesN_step n]; omega
      have hk2 : k + n % 2 ≤ R := by have := HI2.out; omega
      clear hI
      go_wp2
      go_round
      case rel => exact ⟨n / 2, k + n % 2, by go_num, by go_num, by omega, hk2, HI2⟩
      case measure => simp [intOf]; omega
    · obtain rfl : n = 0 := by omega
      have HI2 : Hid (R = k) := by show _ = _; rw [hI.out, onesN_zero]; omega
      go_wp2
      go_ret
      exact ⟨by rw [HI2.out]; rfl, rfl⟩
end Go.Proofs.YtclpccnppmbpcaaDoor
