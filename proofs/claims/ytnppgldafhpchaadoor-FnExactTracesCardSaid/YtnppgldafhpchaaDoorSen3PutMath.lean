/-
  Parts of one proof, laid as one text: Sen3, PutMath; what each says stands at its head.
-/
import Derived.Test.YtnppgldafhpchaaDoorRows
import Derived.Test.YtnppgldafhpchaaDoorBytes
import Derived.Handy
import Derived.WalkKit
import Derived.ProofKit
import Derived.Below
import Derived.Laws.BitsAllLaws
import Derived.Laws.BytesArg
import Derived.Lib.Strings
/-
  The area's three sentinels, laid.
-/
namespace Go.Proofs.YtnppgldafhpchaaDoor
open Go.RowKit Go.Lib
set_option linter.unusedVariables false
set_option maxRecDepth 20000

structure Sents (a1 a2 a3 a4 : Addr) (w : World) : Prop where
  c1 : w.cell? ⟨0, 0, none⟩ = some (.iface 107 (.pointer (some a1)))
  c2 : w.cell? ⟨1, 0, none⟩ = some (.iface 107 (.pointer (some a2)))
  c3 : w.cell? ⟨2, 0, none⟩ = some (.iface 107 (.pointer (some a3)))
theorem Sents.below {a1 a2 a3 a4 : Addr} {w w' : World} (h : Sents a1 a2 a3 a4 w) (hb : Below w.heap.size w w') : Sents a1 a2 a3 a4 w' where
  c1 := (hb.cell (p := ⟨0, 0, none⟩) (World.block_lt_of_cell? w _ h.c1)).trans h.c1
  c2 := (hb.cell (p := ⟨1, 0, none⟩) (World.block_lt_of_cell? w _ h.c2)).trans h.c2
  c3 := (hb.cell (p := ⟨2, 0, none⟩) (World.block_lt_of_cell? w _ h.c3)).trans h.c3
end Go.Proofs.YtnppgldafhpchaaDoor
/-
  The bytes of a number, in plain mathematics: 'fold' lays the sign at the foot, 'putI' cuts into groups of seven bits.
-/
namespace Go.Proofs.YtnppgldafhpchaaDoor
open Go.RowKit Go.Lib
set_option linter.unusedVariables false

def foldN (n : Int) : Int := if 0 ≤ n then 2 * n else -2 * n - 1
def putI : Nat → Int → List Int
  | 0, u => [u]
  | f + 1, u => if u < 128 then [u] else (u % 128 + 128) :: putI f (u / 128)
def putB (n : Int) : ByteArray := strOfNums (putI 9 (foldN n))

theorem foldN_bd {n : Int} (h0 : -9223372036854775808 ≤ n) (h1 : n ≤ 9223372036854775807) : 0 ≤ foldN n ∧ foldN n ≤ 18446744073709551615 := by
  unfold foldN; split <;> omega

/-- What a loop over the groups knows: k groups are done ('pre'), 'u' is left. -/
def PutTo (u0 : Int) (k : Nat) (pre : List Int) (u : Int) : Prop :=
  k ≤ 9 ∧ pre.length = k ∧ 0 ≤ u ∧ u * 128 ^ k < 18446744073709551616 ∧ putI 9 u0 = pre ++ putI (9 - k) u ∧ (∀ x ∈ pre, 0 ≤ x ∧ x ≤ 255) ∧ u ≤ u0

theorem putTo_start {u0 : Int} (h0 : 0 ≤ u0) (h1 : u0 ≤ 18446744073709551615) : PutTo u0 0 [] u0 :=
  ⟨by omega, rfl, h0, by simp; omega, rfl, by simp, Int.le_refl _⟩

theorem putTo_more {u0 : Int} {k : Nat} {pre : List Int} {u : Int} (h : PutTo u0 k pre u) (hu : 128 ≤ u) : k ≤ 8 := by
  obtain ⟨hk, _, _, hb, _⟩ := h
  rcases Nat.lt_or_ge 8 k with h9 | h9
  · have : k = 9 := by omega
    subst this
    have : (128 : Int) ^ 9 = 9223372036854775808 := by decide
    rw [this] at hb; omega
  · exact h9

theorem putTo_step {u0 : Int} {k : Nat} {pre : List Int} {u : Int} (h : PutTo u0 k pre u) (hu : 128 ≤ u) : PutTo u0 (k + 1) (pre ++ [u % 128 + 128]) (u / 128) := by
  have hk := putTo_more h hu
  obtain ⟨_, hl, h0, hb, hp, hx, hle⟩ := h
  refine ⟨by omega, by simp [hl], by omega, ?_, ?_, ?_, by omega⟩
  · have e : (128 : Int) ^ (k + 1) = 128 ^ k * 128 := Int.pow_succ _ _
    have hpos : (0 : Int) < 128 ^ k := Int.pow_pos (by decide)
    have hd : u / 128 * 128 ≤ u := Int.ediv_mul_le _ (by decide)
    have : u / 128 * (128 ^ k * 128) = (u / 128 * 128) * 128 ^ k := by rw [Int.mul_comm (128 ^ k) 128, ← Int.mul_assoc]
    rw [e, this]
    exact Int.lt_of_le_of_lt (Int.mul_le_mul_of_nonneg_right hd (Int.le_of_lt hpos)) hb
  · rw [hp, List.append_assoc]
    have : 9 - k = (9 - (k + 1)) + 1 := by omega
    rw [this, putI, if_neg (by omega)]; rfl
  · intro x hx'
    rcases List.mem_append.1 hx' with h | h
    · exact hx x h
    · simp at h; subst h; omega

theorem putTo_end {u0 : Int} {k : Nat} {pre : List Int} {u : Int} (h : PutTo u0 k pre u) (hu : u < 128) : putI 9 u0 = pre ++ [u] := by
  obtain ⟨hk, hl, h0, hb, hp, _⟩ := h
  rw [hp]
  congr 1
  cases e : 9 - k with
  | zero => rfl
  | succ m => rw [putI, if_pos hu]

theorem or128 (x : Int) (h0 : 0 ≤ x) : bits .or .u8 (x % 256) 128 = x % 128 + 128 := by
  have key : ∀ y : Fin 256, bits .or .u8 ((y.val : Nat) : Int) 128 = ((y.val % 128 + 128 : Nat) : Int) := by decide +kernel
  have hy : (x % 256).toNat < 256 := by omega
  have := key ⟨(x % 256).toNat, hy⟩
  simp only at this
  rw [show (((x % 256).toNat : Nat) : Int) = x % 256 by omega] at this
  rw [this]; omega

theorem u64max : IntKind.u64.max = 18446744073709551615 := by decide
theorem fold_xor (n : Int) (h0 : n < 0) (h1 : -9223372036854775808 ≤ n) :
    bits .xor .u64 IntKind.u64.max (IntKind.u64.wrap (IntKind.u64.wrap n * 2)) = foldN n := by
  have e1 : IntKind.u64.wrap (IntKind.u64.wrap n * 2) = ((2 * n + 18446744073709551616).toNat : Int) := by
    simp [IntKind.wrap, IntKind.bits, IntKind.signed]; omega
  rw [e1, u64max]
  generalize hm : (2 * n + 18446744073709551616).toNat = m
  have hm' : m < 18446744073709551616 := by omega
  have : bits .xor .u64 18446744073709551615 (m : Int) = 18446744073709551615 - (m : Int) := by
    show IntKind.u64.wrap ((BitVec.ofInt 64 18446744073709551615 ^^^ BitVec.ofInt 64 (m : Int)).toNat : Int) = _
    have h2 : BitVec.ofInt 64 18446744073709551615 = BitVec.allOnes 64 := by decide
    rw [h2, BitVec.allOnes_xor, BitVec.toNat_not, BitVec.ofInt_natCast, BitVec.toNat_ofNat, Nat.mod_eq_of_lt (by omega)]
    simp [IntKind.wrap, IntKind.bits, IntKind.signed]; omega
  rw [this]; unfold foldN; rw [if_neg (by omega)]; omega

/-- The program's array of ten bytes, the first of them laid. -/
def arr10 (pre : List Int) : List Value := pre.map (Value.int .u8) ++ List.replicate (10 - pre.length) (.int .u8 0)
theorem arr10_nil : (arr10 []).toArray = #[.int .u8 0, .int .u8 0, .int .u8 0, .int .u8 0, .int .u8 0, .int .u8 0, .int .u8 0, .int .u8 0, .int .u8 0, .int .u8 0] := rfl
theorem arr10_set (pre : List Int) (x : Int) (h : pre.length < 10) : ((arr10 pre).toArray.setIfInBounds pre.length (.int .u8 x)) = (arr10 (pre ++ [x])).toArray := by
  rw [List.setIfInBounds_toArray]
  congr 1
  unfold arr10
  rw [List.set_append_right _ _ (by simp)]
  have e : 10 - pre.length = (10 - (pre ++ [x]).length) + 1 := by simp; omega
  rw [e, List.replicate_succ]
  simp
theorem arr10_cell {w : World} {g : Nat} {T : TypeId} {pre : List Int} (h : w.heap[g]? = some (.cells (arr10 pre).toArray T (0, 0))) (hl : pre.length < 10) :
    w.cell? ⟨g, pre.length, none⟩ = some (.int .u8 0) ∧ w.frozen? ⟨g, pre.length, none⟩ = false := by
  have e : 10 - pre.length = (9 - pre.length) + 1 := by omega
  constructor
  · simp [World.cell?, h, arr10]; rw [e, List.replicate_succ]; simp
  · simp [World.frozen?, h]
theorem arr10_at {w : World} {g : Nat} {T : TypeId} {pre : List Int} (h : w.heap[g]? = some (.cells (arr10 pre).toArray T (0, 0))) (i : Nat) (hi : i < pre.length) :
    w.cell? ⟨g, 0 + i, none⟩ = some (.int .u8 (pre.getD i 0)) := by
  simp [World.cell?, h, arr10, List.getElem?_append_left, hi]
end Go.Proofs.YtnppgldafhpchaaDoor
