/-
  Parts of one proof, laid as one text: ScanMath, NumMath, NumInv; what each says stands at its head.
-/
import Derived.WalkKit
import Derived.ProofKit
import Derived.Below
import Derived.Laws.BitsAllLaws
import Derived.Laws.Bits64b
import Derived.Lib.Strings
import Derived.Test.YtkhffoailfnepabGreatDoorLawDLwDskLwArLawIPutMathPutNum
/-
  How the bytes of a number are read, in plain mathematics: 'scan' goes over the groups of seven bits and hands back the code, the bits, and how many bytes it took.
-/
namespace Go.Proofs.YtkhffoailfnepabGreatDoor
open Go.RowKit Go.Lib
set_option linter.unusedVariables false

def scan : Nat → Nat → Int → List UInt8 → Int × Int × Nat
  | 0, _, _, _ => (3, 0, 0)
  | _ + 1, _, _, [] => (4, 0, 0)
  | f + 1, k, u, c :: r =>
    if k = 9 ∧ 1 < (c.toNat : Int) then (3, 0, 0)
    else if (c.toNat : Int) < 128 then (if (c.toNat : Int) = 0 ∧ 0 < k then (3, 0, 0) else (0, u + (c.toNat : Int) * 2 ^ (7 * k), k + 1))
    else scan f (k + 1) (u + ((c.toNat : Int) - 128) * 2 ^ (7 * k)) r

def unfoldN (u : Int) : Int := if u % 2 = 1 then -(u / 2) - 1 else u / 2
def numOut (n a c : Int) : Value := .agg #[.int .i64 n, .int .i64 a, .int .i64 c]
def scanAt (s : ByteArray) (a : Nat) : Int × Int × Nat := scan 10 0 0 (s.data.toList.drop a)
def getN (s : ByteArray) (a : Int) : Int × Int × Int :=
  if 8000 < s.size then (0, 0, 2) else if a < 0 then (0, 0, 1) else
  if (scanAt s a.toNat).1 = 0 then (unfoldN (scanAt s a.toNat).2.1, a + (scanAt s a.toNat).2.2, 0) else (0, 0, (scanAt s a.toNat).1)

def GetTo (s : ByteArray) (a k : Nat) (u : Int) : Prop :=
  k ≤ 9 ∧ 0 ≤ u ∧ u < 2 ^ (7 * k) ∧ scanAt s a = scan (10 - k) k u (s.data.toList.drop (a + k))

theorem getTo_start (s : ByteArray) (a : Nat) : GetTo s a 0 0 := ⟨by omega, Int.le_refl _, by decide, rfl⟩

theorem drop_cons (s : ByteArray) (i : Nat) (h : i < s.size) : s.data.toList.drop i = s[i] :: s.data.toList.drop (i + 1) := by
  rw [List.drop_eq_getElem_cons (by simpa using h)]; rfl

theorem getTo_short {s : ByteArray} {a k : Nat} {u : Int} (h : GetTo s a k u) (hl : s.size ≤ a + k) : scanAt s a = (4, 0, 0) := by
  obtain ⟨hk, _, _, he⟩ := h
  rw [he, List.drop_of_length_le (by simpa using hl), show 10 - k = (9 - k) + 1 by omega]; rfl

theorem getTo_big {s : ByteArray} {a k : Nat} {u : Int} (h : GetTo s a k u) (hl : a + k < s.size) (hk9 : k = 9) (hc : 1 < (s[a + k].toNat : Int)) : scanAt s a = (3, 0, 0) := by
  obtain ⟨hk, _, _, he⟩ := h
  rw [he, drop_cons s _ hl, show 10 - k = (9 - k) + 1 by omega, scan, if_pos ⟨hk9, hc⟩]

theorem getTo_zero {s : ByteArray} {a k : Nat} {u : Int} (h : GetTo s a k u) (hl : a + k < s.size) (hc : (s[a + k].toNat : Int) = 0) (hp : 0 < k) : scanAt s a = (3, 0, 0) := by
  obtain ⟨hk, _, _, he⟩ := h
  rw [he, drop_cons s _ hl, show 10 - k = (9 - k) + 1 by omega, scan, if_neg (by omega), if_pos (by omega), if_pos ⟨hc, hp⟩]

theorem getTo_ok {s : ByteArray} {a k : Nat} {u : Int} (h : GetTo s a k u) (hl : a + k < s.size) (hc : (s[a + k].toNat : Int) < 128) (h9 : k = 9 → (s[a + k].toNat : Int) ≤ 1) (hz : 0 < k → (s[a + k].toNat : Int) ≠ 0) :
    scanAt s a = (0, u + (s[a + k].toNat : Int) * 2 ^ (7 * k), k + 1) := by
  obtain ⟨hk, _, _, he⟩ := h
  rw [he, drop_cons s _ hl, show 10 - k = (9 - k) + 1 by omega, scan, if_neg (fun ⟨x, y⟩ => by have := h9 x; omega), if_pos hc, if_neg (fun ⟨x, y⟩ => hz y x)]

theorem pow7 (k : Nat) : (2 : Int) ^ (7 * (k + 1)) = 128 * 2 ^ (7 * k) := by
  rw [show 7 * (k + 1) = 7 * k + 7 by omega, Int.pow_add, show (2 : Int) ^ 7 = 128 by decide, Int.mul_comm]

theorem pow7_le : ∀ k : Nat, k ≤ 9 → (1 : Int) ≤ 2 ^ (7 * k) ∧ (2 : Int) ^ (7 * k) ≤ 9223372036854775808
  | 0, _ => by decide
  | 1, _ => by decide
  | 2, _ => by decide
  | 3, _ => by decide
  | 4, _ => by decide
  | 5, _ => by decide
  | 6, _ => by decide
  | 7, _ => by decide
  | 8, _ => by decide
  | 9, _ => by decide
  | k + 10, h => by omega

theorem pow7_le8 (k : Nat) (h : k ≤ 8) : (2 : Int) ^ (7 * k) ≤ 72057594037927936 := by
  have := (pow7_le (k + 1) (by omega)).2
  rw [pow7] at this; omega

theorem getTo_more {s : ByteArray} {a k : Nat} {u : Int} (h : GetTo s a k u) (hl : a + k < s.size) (hk8 : k ≤ 8) (hc : 128 ≤ (s[a + k].toNat : Int)) :
    GetTo s a (k + 1) (u + ((s[a + k].toNat : Int) - 128) * 2 ^ (7 * k)) := by
  obtain ⟨hk, h0, h1, he⟩ := h
  have hcb : (s[a + k].toNat : Int) ≤ 255 := by have := s[a + k].toNat_lt; omega
  have hp := (pow7_le k hk).1
  refine ⟨by omega, ?_, ?_, ?_⟩
  · have : 0 ≤ ((s[a + k].toNat : Int) - 128) * 2 ^ (7 * k) := Int.mul_nonneg (by omega) (by omega)
    omega
  · rw [pow7]
    have : ((s[a + k].toNat : Int) - 128) * 2 ^ (7 * k) ≤ 127 * 2 ^ (7 * k) := Int.mul_le_mul_of_nonneg_right (by omega) (by omega)
    omega
  · rw [he, drop_cons s _ hl, show 10 - k = (10 - (k + 1)) + 1 by omega, scan, if_neg (by omega), if_neg (by omega)]; rfl

/-- What is added at one byte stays below 2^64. -/
theorem add_fits {k : Nat} {u x : Int} (hk : k ≤ 9) (h0 : 0 ≤ u) (h1 : u < 2 ^ (7 * k)) (x0 : 0 ≤ x) (x1 : x ≤ 127) (x9 : k = 9 → x ≤ 1) :
    0 ≤ x * 2 ^ (7 * k) ∧ u + x * 2 ^ (7 * k) < 18446744073709551616 := by
  have hp := pow7_le k hk
  refine ⟨Int.mul_nonneg x0 (by omega), ?_⟩
  by_cases h9 : k = 9
  · have := x9 h9
    have : x * 2 ^ (7 * k) ≤ 1 * 2 ^ (7 * k) := Int.mul_le_mul_of_nonneg_right (by omega) (by omega)
    omega
  · have h8 := pow7_le8 k (by omega)
    have : x * 2 ^ (7 * k) ≤ 127 * 2 ^ (7 * k) := Int.mul_le_mul_of_nonneg_right (by omega) (by omega)
    omega

theorem wrap_small (x : Int) (h0 : 0 ≤ x) (h1 : x < 18446744073709551616) : IntKind.u64.wrap x = x := by
  simp [IntKind.wrap, IntKind.bits, IntKind.signed]; omega

theorem spec_add {k : Nat} {u x : Int} (hk : k ≤ 9) (h0 : 0 ≤ u) (h1 : u < 2 ^ (7 * k)) (x0 : 0 ≤ x) (x1 : x ≤ 127) (x9 : k = 9 → x ≤ 1) :
    IntKind.u64.wrap (u + IntKind.u64.wrap (x * 2 ^ (7 * k))) = u + x * 2 ^ (7 * k) := by
  have h := add_fits hk h0 h1 x0 x1 x9
  rw [wrap_small (x * 2 ^ (7 * k)) h.1 (by omega), wrap_small _ (by omega) h.2]

theorem impl_or {k : Nat} {u x : Int} (hk : k ≤ 9) (h0 : 0 ≤ u) (h1 : u < 2 ^ (7 * k)) (x0 : 0 ≤ x) (x1 : x ≤ 127) (x9 : k = 9 → x ≤ 1) :
    bits .or .u64 u (IntKind.u64.wrap (x * 2 ^ (7 * k))) = u + x * 2 ^ (7 * k) := by
  have h := add_fits hk h0 h1 x0 x1 x9
  rw [wrap_small (x * 2 ^ (7 * k)) h.1 (by omega)]
  obtain ⟨a, rfl⟩ := Int.eq_ofNat_of_zero_le h0
  obtain ⟨b, rfl⟩ := Int.eq_ofNat_of_zero_le x0
  have e : ((b : Int) * 2 ^ (7 * k)) = ((b * 2 ^ (7 * k) : Nat) : Int) := by rw [Int.natCast_mul, Int.natCast_pow]; rfl
  have ha : a < 2 ^ (7 * k) := by
    have : (a : Int) < ((2 ^ (7 * k) : Nat) : Int) := by rw [Int.natCast_pow]; exact h1
    omega
  rw [e] at h ⊢
  rw [bits_or_u64_nat a (b * 2 ^ (7 * k)) (by omega) (by omega)]
  have : a ||| b * 2 ^ (7 * k) = a + b * 2 ^ (7 * k) := by
    rw [Nat.or_comm, Nat.mul_comm, ← Nat.two_pow_add_eq_or_of_lt ha, Nat.add_comm]
  rw [this]; omega

theorem and127 (x : Int) (h0 : 0 ≤ x) (h1 : x ≤ 255) : bits .and .u8 x 127 = x % 128 := by
  have key : ∀ y : Fin 256, bits .and .u8 ((y.val : Nat) : Int) 127 = ((y.val % 128 : Nat) : Int) := by decide +kernel
  have := key ⟨x.toNat, by omega⟩
  simp only at this
  rw [show ((x.toNat : Nat) : Int) = x by omega] at this
  rw [this]; omega

theorem and1 (u : Int) (h0 : 0 ≤ u) (h1 : u < 18446744073709551616) : bits .and .u64 u 1 = u % 2 := by
  obtain ⟨a, rfl⟩ := Int.eq_ofNat_of_zero_le h0
  have : bits .and .u64 (a : Int) ((1 : Nat) : Int) = ((a &&& 1 : Nat) : Int) := bits_and_u64_nat a 1 (by omega) (by omega)
  rw [show ((1 : Nat) : Int) = 1 from rfl] at this
  rw [this, Nat.and_one_is_mod]; omega

theorem not64 (x : Int) (h0 : 0 ≤ x) (h1 : x ≤ 9223372036854775807) : bits .xor .i64 (-1) x = -x - 1 := by
  obtain ⟨a, rfl⟩ := Int.eq_ofNat_of_zero_le h0
  show IntKind.i64.wrap ((BitVec.ofInt 64 (-1) ^^^ BitVec.ofInt 64 (a : Int)).toNat : Int) = _
  have h2 : BitVec.ofInt 64 (-1) = BitVec.allOnes 64 := by decide
  rw [h2, BitVec.allOnes_xor, BitVec.toNat_not, BitVec.ofInt_natCast, BitVec.toNat_ofNat, Nat.mod_eq_of_lt (by omega)]
  simp [IntKind.wrap, IntKind.bits, IntKind.signed]; omega

theorem scan_bd : ∀ (f k : Nat) (u : Int) (l : List UInt8), k + f = 10 → 0 ≤ u → u < 2 ^ (7 * k) →
    ((scan f k u l).1 = 0 ∧ 0 ≤ (scan f k u l).2.1 ∧ (scan f k u l).2.1 ≤ 18446744073709551615 ∧ k < (scan f k u l).2.2 ∧ (scan f k u l).2.2 ≤ 10 ∧ (scan f k u l).2.2 ≤ k + l.length) ∨
    (((scan f k u l).1 = 3 ∨ (scan f k u l).1 = 4) ∧ (scan f k u l).2.1 = 0 ∧ (scan f k u l).2.2 = 0)
  | 0, k, u, l, _, _, _ => .inr ⟨.inl rfl, rfl, rfl⟩
  | f + 1, k, u, [], _, _, _ => .inr ⟨.inr rfl, rfl, rfl⟩
  | f + 1, k, u, c :: r, hk, h0, h1 => by
    rw [scan]
    have hcb : (c.toNat : Int) ≤ 255 := by have := c.toNat_lt; omega
    split
    · exact .inr ⟨.inl rfl, rfl, rfl⟩
    · rename_i h9
      split
      · rename_i hc
        split
        · exact .inr ⟨.inl rfl, rfl, rfl⟩
        · have hf := add_fits (x := (c.toNat : Int)) (by omega) h0 h1 (by omega) (by omega) (fun e => by omega)
          exact .inl ⟨rfl, by show 0 ≤ u + _; omega, by show u + _ ≤ _; omega, Nat.lt_succ_self k, by show k + 1 ≤ 10; omega, by show k + 1 ≤ _; simp⟩
      · rename_i hc
        have hk8 : k ≤ 8 := by omega
        have hp := (pow7_le k (by omega)).1
        have m0 : 0 ≤ ((c.toNat : Int) - 128) * 2 ^ (7 * k) := Int.mul_nonneg (by omega) (by omega)
        have m1 : ((c.toNat : Int) - 128) * 2 ^ (7 * k) ≤ 127 * 2 ^ (7 * k) := Int.mul_le_mul_of_nonneg_right (by omega) (by omega)
        rcases scan_bd f (k + 1) (u + ((c.toNat : Int) - 128) * 2 ^ (7 * k)) r (by omega) (by omega) (by rw [pow7]; omega) with h | h
        · exact .inl ⟨h.1, h.2.1, h.2.2.1, by omega, h.2.2.2.2.1, by have := h.2.2.2.2.2; simp; omega⟩
        · exact .inr h

theorem scanAt_bd (s : ByteArray) (a : Nat) :
    ((scanAt s a).1 = 0 ∧ 0 ≤ (scanAt s a).2.1 ∧ (scanAt s a).2.1 ≤ 18446744073709551615 ∧ (scanAt s a).2.2 ≤ 10 ∧ a + (scanAt s a).2.2 ≤ s.size) ∨
    (((scanAt s a).1 = 3 ∨ (scanAt s a).1 = 4) ∧ (scanAt s a).2.1 = 0 ∧ (scanAt s a).2.2 = 0) := by
  rcases scan_bd 10 0 0 (s.data.toList.drop a) rfl (Int.le_refl _) (by decide) with h | h
  · refine .inl ⟨h.1, h.2.1, h.2.2.1, h.2.2.2.2.1, ?_⟩
    have h2 := h.2.2.2.1
    have h3 := h.2.2.2.2.2
    rw [List.length_drop] at h3
    have e : s.data.toList.length = s.size := by simp
    unfold scanAt; omega
  · exact .inr h
end Go.Proofs.YtkhffoailfnepabGreatDoor
/-
  Numbers and texts come back from their bytes, in plain mathematics, over what PutNum, GetNum, PutText and GetText answer.
-/
namespace Go.Proofs.YtkhffoailfnepabGreatDoor
open Go.RowKit Go.Lib
set_option linter.unusedVariables false

def bs (l : List Int) : List UInt8 := l.map fun n => UInt8.ofNat n.toNat

theorem byte_val (v : Int) (h0 : 0 ≤ v) (h1 : v ≤ 255) : ((UInt8.ofNat v.toNat).toNat : Int) = v := by
  have : (UInt8.ofNat v.toNat).toNat = v.toNat % 256 := UInt8.toNat_ofNat'
  rw [this]; omega
theorem putI_ne (f : Nat) (v : Int) : putI f v ≠ [] := by
  cases f with
  | zero => simp [putI]
  | succ f => unfold putI; split <;> simp
theorem split128 (v p : Int) : v % 128 * p + v / 128 * (128 * p) = v * p := by
  have h : v = v % 128 + 128 * (v / 128) := (Int.emod_add_mul_ediv v 128).symm
  have e : v * p = (v % 128 + 128 * (v / 128)) * p := by rw [← h]
  rw [e, Int.add_mul, Int.mul_comm 128 (v / 128), Int.mul_assoc]

theorem pow_same (k : Nat) : (128 : Int) ^ k = 2 ^ (7 * k) := by
  rw [show (128 : Int) = 2 ^ 7 by decide, ← Int.pow_mul]

theorem scan_put : ∀ (f k : Nat) (u v : Int) (rest : List UInt8), k + f = 9 → 0 ≤ v → v * 2 ^ (7 * k) < 18446744073709551616 → (0 < k → v ≠ 0) →
    scan (f + 1) k u (bs (putI f v) ++ rest) = (0, u + v * 2 ^ (7 * k), k + (putI f v).length)
  | 0, k, u, v, rest, hk, h0, hb, hz => by
    obtain rfl : k = 9 := by omega
    have hv : v ≤ 1 := by
      have : (2 : Int) ^ (7 * 9) = 9223372036854775808 := by decide
      rw [this] at hb; omega
    have hb1 := byte_val v h0 (by omega)
    show scan 1 9 u (UInt8.ofNat v.toNat :: rest) = _
    rw [scan, hb1, if_neg (by omega), if_pos (by omega), if_neg (fun h => hz (by omega) h.1)]
    rfl
  | f + 1, k, u, v, rest, hk, h0, hb, hz => by
    have hp := (pow7_le k (by omega)).1
    by_cases hv : v < 128
    · have hb1 := byte_val v h0 (by omega)
      have e : putI (f + 1) v = [v] := by rw [putI, if_pos hv]
      rw [e]
      show scan (f + 1 + 1) k u (UInt8.ofNat v.toNat :: rest) = _
      rw [scan, hb1, if_neg (by omega), if_pos hv, if_neg (fun h => hz h.2 h.1)]
      rfl
    · have hb1 := byte_val (v % 128 + 128) (by omega) (by omega)
      have e : putI (f + 1) v = (v % 128 + 128) :: putI f (v / 128) := by rw [putI, if_neg hv]
      rw [e]
      show scan (f + 1 + 1) k u (UInt8.ofNat (v % 128 + 128).toNat :: (bs (putI f (v / 128)) ++ rest)) = _
      rw [scan, hb1, if_neg (by omega), if_neg (by omega), show v % 128 + 128 - 128 = v % 128 by omega]
      have hd : v / 128 * 128 ≤ v := Int.ediv_mul_le _ (by decide)
      have hb2 : v / 128 * 2 ^ (7 * (k + 1)) < 18446744073709551616 := by
        rw [pow7, ← Int.mul_assoc]
        exact Int.lt_of_le_of_lt (Int.mul_le_mul_of_nonneg_right hd (by omega)) hb
      rw [scan_put f (k + 1) _ (v / 128) rest (by omega) (by omega) hb2 (fun _ => by omega), pow7, Int.add_assoc, split128]
      simp; omega

theorem scan_cut : ∀ (f k : Nat) (u v : Int), k + f = 9 → 0 ≤ v → scan (f + 1) k u (bs (putI f v).dropLast) = (4, 0, 0)
  | 0, k, u, v, hk, h0 => rfl
  | f + 1, k, u, v, hk, h0 => by
    by_cases hv : v < 128
    · have e : putI (f + 1) v = [v] := by rw [putI, if_pos hv]
      rw [e]; rfl
    · have hb1 := byte_val (v % 128 + 128) (by omega) (by omega)
      have e : putI (f + 1) v = (v % 128 + 128) :: putI f (v / 128) := by rw [putI, if_neg hv]
      rw [e, List.dropLast_cons_of_ne_nil (putI_ne f _)]
      show scan (f + 1 + 1) k u (UInt8.ofNat (v % 128 + 128).toNat :: bs (putI f (v / 128)).dropLast) = _
      rw [scan, hb1, if_neg (by omega), if_neg (by omega)]
      exact scan_cut f (k + 1) _ (v / 128) (by omega) (by omega)

theorem unfold_fold (n : Int) : unfoldN (foldN n) = n := by
  unfold foldN; split
  · unfold unfoldN; rw [if_neg (by omega)]; omega
  · unfold unfoldN; rw [if_pos (by omega)]; omega

theorem putB_list (n : Int) : (putB n).data.toList = bs (putI 9 (foldN n)) := strOfNums_data _
theorem putB_len (n : Int) : (putB n).size = (putI 9 (foldN n)).length := strOfNums_size _

/-- A number's bytes with a text ahead of them and one behind. -/
theorem getN_put (n : Int) (h0 : -9223372036854775808 ≤ n) (h1 : n ≤ 9223372036854775807) (S : ByteArray) (a : Nat) (rest : List UInt8)
    (hS : S.data.toList.drop a = (putB n).data.toList ++ rest) (hz : S.size ≤ 8000) : getN S (a : Int) = (n, (a : Int) + ((putB n).size : Int), 0) := by
  have hf := foldN_bd h0 h1
  have hsc : scanAt S a = (0, foldN n, (putI 9 (foldN n)).length) := by
    unfold scanAt
    rw [hS, putB_list, scan_put 9 0 0 (foldN n) rest rfl hf.1 (by simp; omega) (fun h => by omega)]
    simp
  unfold getN
  rw [if_neg (by omega), if_neg (by omega), Int.toNat_natCast, hsc, if_pos rfl, unfold_fold, putB_len]

theorem getN_cut (n : Int) (S : ByteArray) (h0 : -9223372036854775808 ≤ n) (h1 : n ≤ 9223372036854775807) (hS : S.data.toList = bs (putI 9 (foldN n)).dropLast) (hz : S.size ≤ 8000) : getN S 0 = (0, 0, 4) := by
  have hf := foldN_bd h0 h1
  have hsc : scanAt S 0 = (4, 0, 0) := by
    unfold scanAt
    rw [List.drop_zero, hS]
    exact scan_cut 9 0 0 (foldN n) rfl hf.1
  unfold getN
  rw [if_neg (by omega), if_neg (by decide), show (0 : Int).toNat = 0 from rfl, hsc, if_neg (by decide)]
end Go.Proofs.YtkhffoailfnepabGreatDoor
/-
  What GetNum takes for a number is that number's own bytes: the converse of 'getN_put', in plain mathematics.
-/
namespace Go.Proofs.YtkhffoailfnepabGreatDoor
open Go.RowKit Go.Lib
set_option linter.unusedVariables false

theorem byte_back (c : UInt8) : UInt8.ofNat ((c.toNat : Int)).toNat = c := by simp
theorem scan_one {f k : Nat} {u : Int} {c : UInt8} {r : List UInt8} {u' : Int} {k' : Nat} (hk : k + f = 9) (h : scan (f + 1) k u (c :: r) = (0, u', k')) (h1 : (c.toNat : Int) < 128) :
    ∃ v : Int, 0 ≤ v ∧ (0 < k → v ≠ 0) ∧ u' = u + v * 2 ^ (7 * k) ∧ k' = k + (putI f v).length ∧ c :: r = bs (putI f v) ++ (c :: r).drop (putI f v).length ∧ v * 2 ^ (7 * k) < 18446744073709551616 := by
  rw [scan] at h
  by_cases h9 : k = 9 ∧ 1 < (c.toNat : Int)
  · rw [if_pos h9] at h; simp at h
  rw [if_neg h9, if_pos h1] at h
  by_cases h0 : (c.toNat : Int) = 0 ∧ 0 < k
  · rw [if_pos h0] at h; simp at h
  rw [if_neg h0] at h
  simp only [Prod.mk.injEq] at h
  obtain ⟨-, e1, e2⟩ := h
  have hp : putI f (c.toNat : Int) = [(c.toNat : Int)] := by
    cases f with
    | zero => rfl
    | succ f => rw [putI, if_pos h1]
  have hb := add_fits (k := k) (u := 0) (x := (c.toNat : Int)) (by omega) (by omega) (by have := (pow7_le k (by omega)).1; omega) (by omega) (by omega) (fun e => by omega)
  refine ⟨(c.toNat : Int), by omega, fun hk0 e => h0 ⟨e, hk0⟩, e1.symm, by rw [hp]; exact e2.symm, ?_, by have := hb.2; omega⟩
  rw [hp]
  show c :: r = UInt8.ofNat ((c.toNat : Int)).toNat :: r
  rw [byte_back]
theorem scan_fits {k : Nat} {c v : Int} (hk : k ≤ 8) (hc0 : 128 ≤ c) (hc : c ≤ 255) (v0 : 0 ≤ v) (h : v * (128 * 2 ^ (7 * k)) < 18446744073709551616) : (c - 128) * 2 ^ (7 * k) + v * (128 * 2 ^ (7 * k)) < 18446744073709551616 := by
  have hpw := (pow7_le k (by omega)).1
  have hdv : 128 * 2 ^ (7 * k) ∣ (18446744073709551616 : Int) := by
    rw [← pow7]
    refine ⟨2 ^ (64 - 7 * (k + 1)), ?_⟩
    rw [← Int.pow_add, show 7 * (k + 1) + (64 - 7 * (k + 1)) = 64 by omega]; rfl
  generalize (2 : Int) ^ (7 * k) = P at *
  have hx : (c - 128) * P ≤ 127 * P := Int.mul_le_mul_of_nonneg_right (by omega) (by omega)
  obtain ⟨Q, hQ⟩ := hdv
  have hvQ : v < Q := by
    rcases Int.lt_or_le v Q with h' | h'
    · exact h'
    · have := Int.mul_le_mul_of_nonneg_right h' (show 0 ≤ 128 * P by omega)
      rw [Int.mul_comm Q] at this; omega
  have := Int.mul_le_mul_of_nonneg_right (show v + 1 ≤ Q by omega) (show 0 ≤ 128 * P by omega)
  rw [Int.mul_comm Q, ← hQ, Int.add_mul] at this
  omega
theorem scan_inv (f : Nat) : ∀ (k : Nat) (u : Int) (l : List UInt8) (u' : Int) (k' : Nat), k + f = 9 → scan (f + 1) k u l = (0, u', k') →
    ∃ v : Int, 0 ≤ v ∧ (0 < k → v ≠ 0) ∧ u' = u + v * 2 ^ (7 * k) ∧ k' = k + (putI f v).length ∧ l = bs (putI f v) ++ l.drop (putI f v).length ∧ v * 2 ^ (7 * k) < 18446744073709551616 := by
  induction f with
  | zero =>
    intro k u l u' k' hk h
    match l, h with
    | [], h => simp [scan] at h
    | c :: r, h =>
      by_cases h1 : (c.toNat : Int) < 128
      · exact scan_one hk h h1
      · rw [scan] at h
        have h9 : ¬ (k = 9 ∧ 1 < (c.toNat : Int)) := fun h9 => by rw [if_pos h9] at h; simp at h
        rw [if_neg h9, if_neg h1, scan] at h; simp at h
  | succ f ih =>
    intro k u l u' k' hk h
    match l, h with
    | [], h => simp [scan] at h
    | c :: r, h =>
      have hc : (c.toNat : Int) ≤ 255 := by have := c.toNat_lt; omega
      by_cases h1 : (c.toNat : Int) < 128
      · exact scan_one hk h h1
      · rw [scan, if_neg (by omega), if_neg h1] at h
        obtain ⟨v, v0, vn, e1, e2, e3, e4⟩ := ih (k + 1) _ r u' k' (by omega) h
        have hv := vn (by omega)
        have hV : ¬ ((c.toNat : Int) - 128 + 128 * v) < 128 := by omega
        have hp : putI (f + 1) ((c.toNat : Int) - 128 + 128 * v) = (c.toNat : Int) :: putI f v := by
          rw [putI, if_neg hV]
          congr 1
          · omega
          · congr 1; omega
        have hw : ((c.toNat : Int) - 128 + 128 * v) * 2 ^ (7 * k) = ((c.toNat : Int) - 128) * 2 ^ (7 * k) + v * (128 * 2 ^ (7 * k)) := by
          rw [Int.add_mul, Int.mul_comm 128 v, Int.mul_assoc]
        refine ⟨(c.toNat : Int) - 128 + 128 * v, by omega, fun _ => by omega, ?_, ?_, ?_, ?_⟩
        · rw [e1, pow7, hw, Int.add_assoc]
        · rw [hp, e2, List.length_cons]; omega
        · rw [hp]
          show c :: r = UInt8.ofNat ((c.toNat : Int)).toNat :: (bs (putI f v) ++ (c :: r).drop ((putI f v).length + 1))
          rw [byte_back, List.drop_succ_cons, ← e3]
        · rw [hw]
          exact scan_fits (k := k) (by omega) (by omega) hc v0 (by rw [← pow7]; exact e4)

theorem fold_unfold (v : Int) (h : 0 ≤ v) : foldN (unfoldN v) = v := by
  unfold unfoldN; split
  · unfold foldN; rw [if_neg (by omega)]; omega
  · unfold foldN; rw [if_pos (by omega)]; omega

/-- A number that was got is its own bytes, at their place. -/
theorem getN_inv {S : ByteArray} {a : Nat} {n b : Int} (hz : S.size ≤ 8000) (h : getN S (a : Int) = (n, b, 0)) :
    b = (a : Int) + ((putB n).size : Int) ∧ S.data.toList.drop a = (putB n).data.toList ++ S.data.toList.drop (a + (putB n).size) ∧ -9223372036854775808 ≤ n ∧ n ≤ 9223372036854775807 := by
  unfold getN at h
  rw [if_neg (by omega), if_neg (by omega), Int.toNat_natCast] at h
  by_cases hs : (scanAt S a).1 = 0
  · rw [if_pos hs] at h
    obtain ⟨x, u', k', hsc⟩ : ∃ x u' k', scanAt S a = (x, u', k') := ⟨_, _, _, rfl⟩
    rw [hsc] at h hs
    obtain rfl : x = 0 := hs
    obtain ⟨v, v0, -, e1, e2, e3, e4⟩ := scan_inv 9 0 0 (S.data.toList.drop a) u' k' rfl hsc
    have e1 : u' = v := by rw [e1]; simp
    have e2 : k' = (putI 9 v).length := by rw [e2]; simp
    subst e1
    simp only [Prod.mk.injEq] at h
    obtain ⟨hn, hb, -⟩ := h
    have hf : foldN n = u' := by rw [← hn]; exact fold_unfold u' v0
    have hl : (putB n).size = k' := by rw [putB_len, hf, e2]
    have hd : (putB n).data.toList = bs (putI 9 u') := by rw [putB_list, hf]
    refine ⟨by rw [hl]; exact hb.symm, ?_, ?_, ?_⟩
    · rw [hd, hl, e2]
      rw [List.drop_drop] at e3
      exact e3
    · rw [← hn]; simp at e4; unfold unfoldN; split <;> omega
    · rw [← hn]; simp at e4; unfold unfoldN; split <;> omega
  · rw [if_neg hs] at h
    simp only [Prod.mk.injEq] at h
    exact absurd h.2.2 hs
end Go.Proofs.YtkhffoailfnepabGreatDoor
