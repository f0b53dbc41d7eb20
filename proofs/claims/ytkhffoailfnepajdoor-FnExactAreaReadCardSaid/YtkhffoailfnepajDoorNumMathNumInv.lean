/-
  Parts of one proof, laid as one text: NumMath, NumInv; what each says stands at its head.
-/
import Derived.Test.YtkhffoailfnepajDoorPutMath
import Derived.Test.YtkhffoailfnepajDoorScanMath
/-
  Numbers and texts come back from their bytes, in plain mathematics, over what PutNum, GetNum, PutText and GetText answer.
-/
namespace Go.Proofs.YtkhffoailfnepajDoor
open Go.RowKit Go.Lib
set_option linter.unusedVariables false

def bs (l : List Int) : List UInt8 := l.map fun n => UInt8.ofNat n.toNat

theorem byte_val (v : Int) (h0 : 0 ≤ v) (h1 : v ≤ 255) : ((UInt8.ofNat v.toNat).toNat : Int) = v := by
  have : (UInt8.ofNat v.toNat).toNat = v.toNat % 256 := UInt8.toNat_ofNat'
  rw [this]; omega
theorem putI_ne (f : Nat) (v : Int) : putI f v ≠ [] := by
  cases f with
  | zero => simp [putI]
  | succ f => unfold putI; split <;> simp
theorem split128 (v p : Int) : v % 128 * p + v / 128 * (128 * p) = v * p := by
  have h : v = v % 128 + 128 * (v / 128) := (Int.emod_add_mul_ediv v 128).symm
  have e : v * p = (v % 128 + 128 * (v / 128)) * p := by rw [← h]
  rw [e, Int.add_mul, Int.mul_comm 128 (v / 128), Int.mul_assoc]

theorem pow_same (k : Nat) : (128 : Int) ^ k = 2 ^ (7 * k) := by
  rw [show (128 : Int) = 2 ^ 7 by decide, ← Int.pow_mul]

theorem scan_put : ∀ (f k : Nat) (u v : Int) (rest : List UInt8), k + f = 9 → 0 ≤ v → v * 2 ^ (7 * k) < 18446744073709551616 → (0 < k → v ≠ 0) →
    scan (f + 1) k u (bs (putI f v) ++ rest) = (0, u + v * 2 ^ (7 * k), k + (putI f v).length)
  | 0, k, u, v, rest, hk, h0, hb, hz => by
    obtain rfl : k = 9 := by omega
    have hv : v ≤ 1 := by
      have : (2 : Int) ^ (7 * 9) = 9223372036854775808 := by decide
      rw [this] at hb; omega
    have hb1 := byte_val v h0 (by omega)
    show scan 1 9 u (UInt8.ofNat v.toNat :: rest) = _
    rw [scan, hb1, if_neg (by omega), if_pos (by omega), if_neg (fun h => hz (by omega) h.1)]
    rfl
  | f + 1, k, u, v, rest, hk, h0, hb, hz => by
    have hp := (pow7_le k (by omega)).1
    by_cases hv : v < 128
    · have hb1 := byte_val v h0 (by omega)
      have e : putI (f + 1) v = [v] := by rw [putI, if_pos hv]
      rw [e]
      show scan (f + 1 + 1) k u (UInt8.ofNat v.toNat :: rest) = _
      rw [scan, hb1, if_neg (by omega), if_pos hv, if_neg (fun h => hz h.2 h.1)]
      rfl
    · have hb1 := byte_val (v % 128 + 128) (by omega) (by omega)
      have e : putI (f + 1) v = (v % 128 + 128) :: putI f (v / 128) := by rw [putI, if_neg hv]
      rw [e]
      show scan (f + 1 + 1) k u (UInt8.ofNat (v % 128 + 128).toNat :: (bs (putI f (v / 128)) ++ rest)) = _
      rw [scan, hb1, if_neg (by omega), if_neg (by omega), show v % 128 + 128 - 128 = v % 128 by omega]
      have hd : v / 128 * 128 ≤ v := Int.ediv_mul_le _ (by decide)
      have hb2 : v / 128 * 2 ^ (7 * (k + 1)) < 18446744073709551616 := by
        rw [pow7, ← Int.mul_assoc]
        exact Int.lt_of_le_of_lt (Int.mul_le_mul_of_nonneg_right hd (by omega)) hb
      rw [scan_put f (k + 1) _ (v / 128) rest (by omega) (by omega) hb2 (fun _ => by omega), pow7, Int.add_assoc, split128]
      simp; omega

theorem scan_cut : ∀ (f k : Nat) (u v : Int), k + f = 9 → 0 ≤ v → scan (f + 1) k u (bs (putI f v).dropLast) = (4, 0, 0)
  | 0, k, u, v, hk, h0 => rfl
  | f + 1, k, u, v, hk, h0 => by
    by_cases hv : v < 128
    · have e : putI (f + 1) v = [v] := by rw [putI, if_pos hv]
      rw [e]; rfl
    · have hb1 := byte_val (v % 128 + 128) (by omega) (by omega)
      have e : putI (f + 1) v = (v % 128 + 128) :: putI f (v / 128) := by rw [putI, if_neg hv]
      rw [e, List.dropLast_cons_of_ne_nil (putI_ne f _)]
      show scan (f + 1 + 1) k u (UInt8.ofNat (v % 128 + 128).toNat :: bs (putI f (v / 128)).dropLast) = _
      rw [scan, hb1, if_neg (by omega), if_neg (by omega)]
      exact scan_cut f (k + 1) _ (v / 128) (by omega) (by omega)

theorem unfold_fold (n : Int) : unfoldN (foldN n) = n := by
  unfold foldN; split
  · unfold unfoldN; rw [if_neg (by omega)]; omega
  · unfold unfoldN; rw [if_pos (by omega)]; omega

theorem putB_list (n : Int) : (putB n).data.toList = bs (putI 9 (foldN n)) := strOfNums_data _
theorem putB_len (n : Int) : (putB n).size = (putI 9 (foldN n)).length := strOfNums_size _

/-- A number's bytes with a text ahead of them and one behind. -/
theorem getN_put (n : Int) (h0 : -9223372036854775808 ≤ n) (h1 : n ≤ 9223372036854775807) (S : ByteArray) (a : Nat) (rest : List UInt8)
    (hS : S.data.toList.drop a = (putB n).data.toList ++ rest) (hz : S.size ≤ 8000) : getN S (a : Int) = (n, (a : Int) + ((putB n).size : Int), 0) := by
  have hf := foldN_bd h0 h1
  have hsc : scanAt S a = (0, foldN n, (putI 9 (foldN n)).length) := by
    unfold scanAt
    rw [hS, putB_list, scan_put 9 0 0 (foldN n) rest rfl hf.1 (by simp; omega) (fun h => by omega)]
    simp
  unfold getN
  rw [if_neg (by omega), if_neg (by omega), Int.toNat_natCast, hsc, if_pos rfl, unfold_fold, putB_len]

theorem getN_cut (n : Int) (S : ByteArray) (h0 : -9223372036854775808 ≤ n) (h1 : n ≤ 9223372036854775807) (hS : S.data.toList = bs (putI 9 (foldN n)).dropLast) (hz : S.size ≤ 8000) : getN S 0 = (0, 0, 4) := by
  have hf := foldN_bd h0 h1
  have hsc : scanAt S 0 = (4, 0, 0) := by
    unfold scanAt
    rw [List.drop_zero, hS]
    exact scan_cut 9 0 0 (foldN n) rfl hf.1
  unfold getN
  rw [if_neg (by omega), if_neg (by decide), show (0 : Int).toNat = 0 from rfl, hsc, if_neg (by decide)]
end Go.Proofs.YtkhffoailfnepajDoor
/-
  What GetNum takes for a number is that number's own bytes: the converse of 'getN_put', in plain mathematics.
-/
namespace Go.Proofs.YtkhffoailfnepajDoor
open Go.RowKit Go.Lib
set_option linter.unusedVariables false

theorem byte_back (c : UInt8) : UInt8.ofNat ((c.toNat : Int)).toNat = c := by simp
theorem scan_one {f k : Nat} {u : Int} {c : UInt8} {r : List UInt8} {u' : Int} {k' : Nat} (hk : k + f = 9) (h : scan (f + 1) k u (c :: r) = (0, u', k')) (h1 : (c.toNat : Int) < 128) :
    ∃ v : Int, 0 ≤ v ∧ (0 < k → v ≠ 0) ∧ u' = u + v * 2 ^ (7 * k) ∧ k' = k + (putI f v).length ∧ c :: r = bs (putI f v) ++ (c :: r).drop (putI f v).length ∧ v * 2 ^ (7 * k) < 18446744073709551616 := by
  rw [scan] at h
  by_cases h9 : k = 9 ∧ 1 < (c.toNat : Int)
  · rw [if_pos h9] at h; simp at h
  rw [if_neg h9, if_pos h1] at h
  by_cases h0 : (c.toNat : Int) = 0 ∧ 0 < k
  · rw [if_pos h0] at h; simp at h
  rw [if_neg h0] at h
  simp only [Prod.mk.injEq] at h
  obtain ⟨-, e1, e2⟩ := h
  have hp : putI f (c.toNat : Int) = [(c.toNat : Int)] := by
    cases f with
    | zero => rfl
    | succ f => rw [putI, if_pos h1]
  have hb := add_fits (k := k) (u := 0) (x := (c.toNat : Int)) (by omega) (by omega) (by have := (pow7_le k (by omega)).1; omega) (by omega) (by omega) (fun e => by omega)
  refine ⟨(c.toNat : Int), by omega, fun hk0 e => h0 ⟨e, hk0⟩, e1.symm, by rw [hp]; exact e2.symm, ?_, by have := hb.2; omega⟩
  rw [hp]
  show c :: r = UInt8.ofNat ((c.toNat : Int)).toNat :: r
  rw [byte_back]
theorem scan_fits {k : Nat} {c v : Int} (hk : k ≤ 8) (hc0 : 128 ≤ c) (hc : c ≤ 255) (v0 : 0 ≤ v) (h : v * (128 * 2 ^ (7 * k)) < 18446744073709551616) : (c - 128) * 2 ^ (7 * k) + v * (128 * 2 ^ (7 * k)) < 18446744073709551616 := by
  have hpw := (pow7_le k (by omega)).1
  have hdv : 128 * 2 ^ (7 * k) ∣ (18446744073709551616 : Int) := by
    rw [← pow7]
    refine ⟨2 ^ (64 - 7 * (k + 1)), ?_⟩
    rw [← Int.pow_add, show 7 * (k + 1) + (64 - 7 * (k + 1)) = 64 by omega]; rfl
  generalize (2 : Int) ^ (7 * k) = P at *
  have hx : (c - 128) * P ≤ 127 * P := Int.mul_le_mul_of_nonneg_right (by omega) (by omega)
  obtain ⟨Q, hQ⟩ := hdv
  have hvQ : v < Q := by
    rcases Int.lt_or_le v Q with h' | h'
    · exact h'
    · have := Int.mul_le_mul_of_nonneg_right h' (show 0 ≤ 128 * P by omega)
      rw [Int.mul_comm Q] at this; omega
  have := Int.mul_le_mul_of_nonneg_right (show v + 1 ≤ Q by omega) (show 0 ≤ 128 * P by omega)
  rw [Int.mul_comm Q, ← hQ, Int.add_mul] at this
  omega
theorem scan_inv (f : Nat) : ∀ (k : Nat) (u : Int) (l : List UInt8) (u' : Int) (k' : Nat), k + f = 9 → scan (f + 1) k u l = (0, u', k') →
    ∃ v : Int, 0 ≤ v ∧ (0 < k → v ≠ 0) ∧ u' = u + v * 2 ^ (7 * k) ∧ k' = k + (putI f v).length ∧ l = bs (putI f v) ++ l.drop (putI f v).length ∧ v * 2 ^ (7 * k) < 18446744073709551616 := by
  induction f with
  | zero =>
    intro k u l u' k' hk h
    match l, h with
    | [], h => simp [scan] at h
    | c :: r, h =>
      by_cases h1 : (c.toNat : Int) < 128
      · exact scan_one hk h h1
      · rw [scan] at h
        have h9 : ¬ (k = 9 ∧ 1 < (c.toNat : Int)) := fun h9 => by rw [if_pos h9] at h; simp at h
        rw [if_neg h9, if_neg h1, scan] at h; simp at h
  | succ f ih =>
    intro k u l u' k' hk h
    match l, h with
    | [], h => simp [scan] at h
    | c :: r, h =>
      have hc : (c.toNat : Int) ≤ 255 := by have := c.toNat_lt; omega
      by_cases h1 : (c.toNat : Int) < 128
      · exact scan_one hk h h1
      · rw [scan, if_neg (by omega), if_neg h1] at h
        obtain ⟨v, v0, vn, e1, e2, e3, e4⟩ := ih (k + 1) _ r u' k' (by omega) h
        have hv := vn (by omega)
        have hV : ¬ ((c.toNat : Int) - 128 + 128 * v) < 128 := by omega
        have hp : putI (f + 1) ((c.toNat : Int) - 128 + 128 * v) = (c.toNat : Int) :: putI f v := by
          rw [putI, if_neg hV]
          congr 1
          · omega
          · congr 1; omega
        have hw : ((c.toNat : Int) - 128 + 128 * v) * 2 ^ (7 * k) = ((c.toNat : Int) - 128) * 2 ^ (7 * k) + v * (128 * 2 ^ (7 * k)) := by
          rw [Int.add_mul, Int.mul_comm 128 v, Int.mul_assoc]
        refine ⟨(c.toNat : Int) - 128 + 128 * v, by omega, fun _ => by omega, ?_, ?_, ?_, ?_⟩
        · rw [e1, pow7, hw, Int.add_assoc]
        · rw [hp, e2, List.length_cons]; omega
        · rw [hp]
          show c :: r = UInt8.ofNat ((c.toNat : Int)).toNat :: (bs (putI f v) ++ (c :: r).drop ((putI f v).length + 1))
          rw [byte_back, List.drop_succ_cons, ← e3]
        · rw [hw]
          exact scan_fits (k := k) (by omega) (by omega) hc v0 (by rw [← pow7]; exact e4)

theorem fold_unfold (v : Int) (h : 0 ≤ v) : foldN (unfoldN v) = v := by
  unfold unfoldN; split
  · unfold foldN; rw [if_neg (by omega)]; omega
  · unfold foldN; rw [if_pos (by omega)]; omega

/-- A number that was got is its own bytes, at their place. -/
theorem getN_inv {S : ByteArray} {a : Nat} {n b : Int} (hz : S.size ≤ 8000) (h : getN S (a : Int) = (n, b, 0)) :
    b = (a : Int) + ((putB n).size : Int) ∧ S.data.toList.drop a = (putB n).data.toList ++ S.data.toList.drop (a + (putB n).size) ∧ -9223372036854775808 ≤ n ∧ n ≤ 9223372036854775807 := by
  unfold getN at h
  rw [if_neg (by omega), if_neg (by omega), Int.toNat_natCast] at h
  by_cases hs : (scanAt S a).1 = 0
  · rw [if_pos hs] at h
    obtain ⟨x, u', k', hsc⟩ : ∃ x u' k', scanAt S a = (x, u', k') := ⟨_, _, _, rfl⟩
    rw [hsc] at h hs
    obtain rfl : x = 0 := hs
    obtain ⟨v, v0, -, e1, e2, e3, e4⟩ := scan_inv 9 0 0 (S.data.toList.drop a) u' k' rfl hsc
    have e1 : u' = v := by rw [e1]; simp
    have e2 : k' = (putI 9 v).length := by rw [e2]; simp
    subst e1
    simp only [Prod.mk.injEq] at h
    obtain ⟨hn, hb, -⟩ := h
    have hf : foldN n = u' := by rw [← hn]; exact fold_unfold u' v0
    have hl : (putB n).size = k' := by rw [putB_len, hf, e2]
    have hd : (putB n).data.toList = bs (putI 9 u') := by rw [putB_list, hf]
    refine ⟨by rw [hl]; exact hb.symm, ?_, ?_, ?_⟩
    · rw [hd, hl, e2]
      rw [List.drop_drop] at e3
      exact e3
    · rw [← hn]; simp at e4; unfold unfoldN; split <;> omega
    · rw [← hn]; simp at e4; unfold unfoldN; split <;> omega
  · rw [if_neg hs] at h
    simp only [Prod.mk.injEq] at h
    exact absurd h.2.2 hs
end Go.Proofs.YtkhffoailfnepajDoor
