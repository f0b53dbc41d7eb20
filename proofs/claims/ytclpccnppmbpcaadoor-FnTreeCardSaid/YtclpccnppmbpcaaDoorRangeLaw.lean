/-
  A range to which entries are added one by one: its nodes are the trees of blocks by the bits of the size; its root is their tree.
-/
import Derived.Test.YtclpccnppmbpcaaDoorTreeMath
import Derived.Test.YtclpccnppmbpcaaDoorOnesMathOnes
import Derived.Test.YtclpccnppmbpcaaDoorRange
import Derived.Test.YtclpccnppmbpcaaDoorRootMathAddMathCopied
namespace Go.Proofs.YtclpccnppmbpcaaDoor
open Go.RowKit Go.Lib
set_option linter.unusedVariables false

/-- The tree of block j of 2^c entries. -/
def blk (c j : Nat) (l : List ByteArray) : ByteArray := treeB ((l.drop (j * 2 ^ c)).take (2 ^ c))
def nds (c n : Nat) (l : List ByteArray) : List ByteArray := if n = 0 then [] else nds (c + 1) (n / 2) l ++ (if n % 2 = 1 then [blk c (n - 1) l] else [])
termination_by n
decreasing_by omega
theorem nds_zero (c : Nat) (l : List ByteArray) : nds c 0 l = [] := by rw [nds]; simp
theorem nds_step (c n : Nat) (l : List ByteArray) : nds c n l = nds (c + 1) (n / 2) l ++ (if n % 2 = 1 then [blk c (n - 1) l] else []) := by
  by_cases h : n = 0
  · subst h; simp [nds_zero]
  · rw [nds, if_neg h]
theorem blk_two (c j : Nat) (l : List ByteArray) (h : (2 * j + 2) * 2 ^ c ≤ l.length) : nodeB (blk c (2 * j) l) (blk c (2 * j + 1) l) = blk (c + 1) j l := by
  have hp : 0 < 2 ^ c := Nat.two_pow_pos c
  have e0 : j * 2 ^ (c + 1) = 2 * j * 2 ^ c := by rw [Nat.pow_succ, ← Nat.mul_assoc, Nat.mul_comm (j * 2 ^ c) 2, ← Nat.mul_assoc]
  have h2 : (2 * j + 2) * 2 ^ c = 2 * j * 2 ^ c + 2 * 2 ^ c := by rw [Nat.add_mul]
  have hl : ((l.drop (j * 2 ^ (c + 1))).take (2 ^ (c + 1))).length = 2 * 2 ^ c := by rw [List.length_take, List.length_drop, e0, Nat.pow_succ]; omega
  unfold blk
  rw [treeB_two (l := (l.drop (j * 2 ^ (c + 1))).take (2 ^ (c + 1))) (by omega), hl, halfN_unique (n := 2 * 2 ^ c) (j := c) (by omega) (by omega)]
  rw [List.take_take, List.drop_take, List.drop_drop, e0, Nat.pow_succ, Nat.add_mul, Nat.one_mul]
  congr 3
  · rw [Nat.min_eq_left (by omega)]
  · congr 1; omega
theorem carry_nds (n : Nat) : ∀ (c : Nat) (l : List ByteArray), (n + 1) * 2 ^ c ≤ l.length → carry n (nds c n l) (blk c n l) = nds c (n + 1) l := by
  induction n using Nat.strongRecOn with
  | _ n ih =>
    intro c l hl
    by_cases h : n % 2 = 1
    · have e1 : nds c n l = nds (c + 1) (n / 2) l ++ [blk c (n - 1) l] := by rw [nds_step, if_pos h]
      have e2 : nds c (n + 1) l = nds (c + 1) (n / 2 + 1) l := by rw [nds_step, if_neg (by omega), List.append_nil, show (n + 1) / 2 = n / 2 + 1 by omega]
      have hl2 : (n / 2 + 1) * 2 ^ (c + 1) ≤ l.length := by
        rw [Nat.pow_succ, ← Nat.mul_assoc, Nat.mul_right_comm, show (n / 2 + 1) * 2 = n + 1 by omega]; exact hl
      have hb := blk_two c (n / 2) l (by rw [show 2 * (n / 2) + 2 = n + 1 by omega]; exact hl)
      rw [show 2 * (n / 2) = n - 1 by omega, show n - 1 + 1 = n by omega] at hb
      rw [carry_odd h, e1, e2]
      have e3 : (nds (c + 1) (n / 2) l ++ [blk c (n - 1) l]).length - 1 = (nds (c + 1) (n / 2) l).length := by simp
      rw [e3, List.take_left', ← ih (n / 2) (by omega) (c + 1) l hl2]
      · congr 1
        rw [← hb]; congr 1
        simp [List.getD_eq_getElem?_getD]
      · rfl
    · have e1 : nds c n l = nds (c + 1) (n / 2) l := by rw [nds_step, if_neg h, List.append_nil]
      rw [carry_even h, nds_step c (n + 1), if_pos (by omega), show (n + 1) / 2 = n / 2 by omega, e1, Nat.add_sub_cancel]
theorem nds_top (k : Nat) : ∀ (c n : Nat) (l : List ByteArray), 2 ^ k ≤ n → n < 2 * 2 ^ k → nds c n l = treeB (l.take (2 ^ (c + k))) :: nds c (n - 2 ^ k) (l.drop (2 ^ (c + k))) := by
  induction k with
  | zero =>
    intro c n l h1 h2
    obtain rfl : n = 1 := by simp at h1 h2; omega
    rw [nds_step, show (1 : Nat) / 2 = 0 from rfl, nds_zero, show (1 : Nat) - 2 ^ 0 = 0 from rfl, nds_zero]
    simp [blk]
  | succ k ih =>
    intro c n l h1 h2
    rw [Nat.pow_succ] at h1 h2
    have I := ih (c + 1) (n / 2) l (by omega) (by omega)
    rw [nds_step c n, I, nds_step c (n - 2 ^ (k + 1))]
    have e1 : (n - 2 ^ (k + 1)) / 2 = n / 2 - 2 ^ k := by rw [Nat.pow_succ]; omega
    have e2 : (n - 2 ^ (k + 1)) % 2 = n % 2 := by rw [Nat.pow_succ]; omega
    rw [e1, e2, show c + 1 + k = c + (k + 1) by omega, List.cons_append]
    congr 2
    by_cases h : n % 2 = 1
    · rw [if_pos h, if_pos h]
      unfold blk
      rw [List.drop_drop]
      have e3 : (n - 1) * 2 ^ c = 2 ^ (c + (k + 1)) + (n - 2 ^ (k + 1) - 1) * 2 ^ c := by
        rw [Nat.pow_add, Nat.mul_comm (2 ^ c), ← Nat.add_mul]
        congr 1
        rw [Nat.pow_succ]; omega
      rw [e3]
    · rw [if_neg h, if_neg h]
theorem root_nds (n : Nat) : ∀ (l : List ByteArray), 1 ≤ n → n ≤ l.length → rootL (nds 0 n l) = treeB (l.take n) := by
  induction n using Nat.strongRecOn with
  | _ n ih =>
    intro l h1 hn
    have hk1 : 2 ^ Nat.log2 n ≤ n := Nat.log2_self_le (by omega)
    have hk2 : n < 2 * 2 ^ Nat.log2 n := by have := @Nat.lt_log2_self n; rw [Nat.pow_succ] at this; omega
    have T := nds_top (Nat.log2 n) 0 n l hk1 hk2
    rw [Nat.zero_add] at T
    have hp : 0 < 2 ^ Nat.log2 n := Nat.two_pow_pos _
    generalize Nat.log2 n = j at *
    by_cases he : n - 2 ^ j = 0
    · rw [T, he, nds_zero, show n = 2 ^ j by omega]; rfl
    · have hlt : 2 ^ j < n := by omega
      have I := ih (n - 2 ^ j) (by omega) (l.drop (2 ^ j)) (by omega) (by simp; omega)
      have hne : nds 0 (n - 2 ^ j) (l.drop (2 ^ j)) ≠ [] := by
        have h2 : 2 ^ Nat.log2 (n - 2 ^ j) ≤ n - 2 ^ j := Nat.log2_self_le he
        have h3 : n - 2 ^ j < 2 * 2 ^ Nat.log2 (n - 2 ^ j) := by have := @Nat.lt_log2_self (n - 2 ^ j); rw [Nat.pow_succ] at this; omega
        rw [nds_top _ 0 _ _ h2 h3]; simp
      have hl : (l.take n).length = n := by simp; omega
      rw [T, treeB_two (l := l.take n) (by omega), hl, halfN_unique (n := n) (j := j) hlt (by omega), List.take_take, Nat.min_eq_left (by omega), List.drop_take, ← I]
      generalize nds 0 (n - 2 ^ j) (l.drop (2 ^ j)) = t at *
      match t, hne with
      | y :: t, _ => rfl
theorem nds_len (n : Nat) : ∀ (c : Nat) (l : List ByteArray), (nds c n l).length = onesN n := by
  induction n using Nat.strongRecOn with
  | _ n ih =>
    intro c l
    by_cases h0 : n = 0
    · subst h0; rw [nds_zero, onesN_zero]; rfl
    · rw [nds_step, List.length_append, ih (n / 2) (by omega), onesN_step n]
      by_cases h : n % 2 = 1
      · rw [if_pos h]; simp; omega
      · rw [if_neg h]; simp; omega
theorem nds_wide (n : Nat) : ∀ (c : Nat) (l : List ByteArray), ∀ x ∈ nds c n l, x.size = 32 := by
  induction n using Nat.strongRecOn with
  | _ n ih =>
    intro c l x hx
    by_cases h0 : n = 0
    · subst h0; rw [nds_zero] at hx; simp at hx
    · rw [nds_step] at hx
      rcases List.mem_append.1 hx with h | h
      · exact ih (n / 2) (by omega) _ _ x h
      · split at h
        · rw [List.mem_singleton.1 h]; exact treeB_size _
        · simp at h
theorem blk_leaf (i : Nat) (l : List ByteArray) (h : i < l.length) : blk 0 i l = leafB l[i] := by
  unfold blk
  rw [Nat.pow_zero, Nat.mul_one, List.drop_eq_getElem_cons h, List.take_succ_cons, List.take_zero, treeB_one]
theorem rng_nds (i : Nat) (l : List ByteArray) (hi : i ≤ 1000000) : rngB i (nds 0 i l) = true := by
  unfold rngB
  rw [Bool.and_eq_true, Bool.and_eq_true, decide_eq_true_iff, decide_eq_true_iff]
  exact ⟨⟨by omega, by omega⟩, by rw [nds_len, Int.toNat_natCast], wideB_true fun j hj => nds_wide i 0 l _ (List.getElem_mem hj)⟩
/-- One more entry: the range of i entries, with entry i added, is the range of i + 1. -/
theorem add_nds (i : Nat) (l : List ByteArray) (h : i < l.length) (hl : l.length ≤ 64) (hs : l[i].size ≤ 100) : addN i (nds 0 i l) l[i] = i + 1 ∧ addL i (nds 0 i l) l[i] = nds 0 (i + 1) l := by
  have hok : addOk i (nds 0 i l) l[i] := ⟨rng_nds i l (by omega), by omega, hs⟩
  constructor
  · unfold addN; rw [if_neg (by omega), if_pos hok]
  · unfold addL; rw [if_neg (by omega), if_pos hok, ← blk_leaf i l h, Int.toNat_natCast]
    exact carry_nds i 0 l (by simp; omega)
/-- P4: a range to which entries are added one by one comes to their tree. -/
theorem range_root (l : List ByteArray) (h1 : 1 ≤ l.length) (hl : l.length ≤ 64) : rngRootA l.length (nds 0 l.length l) = treeB l := by
  unfold rngRootA
  rw [if_pos (rng_nds _ l (by omega)), if_neg (by omega), root_nds l.length l h1 (Nat.le_refl _), List.take_length]
theorem range_none (l : List ByteArray) (h : l.length = 0) : rngRootA l.length (nds 0 l.length l) = treeB l := by
  obtain rfl : l = [] := List.length_eq_zero_iff.1 h
  unfold rngRootA
  rw [if_pos (rng_nds _ [] (by simp)), if_pos (by simp), treeB_nil]
end Go.Proofs.YtclpccnppmbpcaaDoor
