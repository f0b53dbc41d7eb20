/-
  What GetNum takes for a number is that number's own bytes: the converse of 'getN_put', in plain mathematics.
-/
import Derived.Test.YtnppgldafhpchaaDoorSen3PutMath
import Derived.Test.YtnppgldafhpchaaDoorScanMath
import Derived.Test.YtnppgldafhpchaaDoorNumMath
namespace Go.Proofs.YtnppgldafhpchaaDoor
open Go.RowKit Go.Lib
set_option linter.unusedVariables false

theorem byte_back (c : UInt8) : UInt8.ofNat ((c.toNat : Int)).toNat = c := by simp
theorem scan_one {f k : Nat} {u : Int} {c : UInt8} {r : List UInt8} {u' : Int} {k' : Nat} (hk : k + f = 9) (h : scan (f + 1) k u (c :: r) = (0, u', k')) (h1 : (c.toNat : Int) < 128) :
    ∃ v : Int, 0 ≤ v ∧ (0 < k → v ≠ 0) ∧ u' = u + v * 2 ^ (7 * k) ∧ k' = k + (putI f v).length ∧ c :: r = bs (putI f v) ++ (c :: r).drop (putI f v).length ∧ v * 2 ^ (7 * k) < 18446744073709551616 := by
  rw [scan] at h
  by_cases h9 : k = 9 ∧ 1 < (c.toNat : Int)
  · rw [if_pos h9] at h; simp at h
  rw [if_neg h9, if_pos h1] at h
  by_cases h0 : (c.toNat : Int) = 0 ∧ 0 < k
  · rw [if_pos h0] at h; simp at h
  rw [if_neg h0] at h
  simp only [Prod.mk.injEq] at h
  obtain ⟨-, e1, e2⟩ := h
  have hp : putI f (c.toNat : Int) = [(c.toNat : Int)] := by
    cases f with
    | zero => rfl
    | succ f => rw [putI, if_pos h1]
  have hb := add_fits (k := k) (u := 0) (x := (c.toNat : Int)) (by omega) (by omega) (by have := (pow7_le k (by omega)).1; omega) (by omega) (by omega) (fun e => by omega)
  refine ⟨(c.toNat : Int), by omega, fun hk0 e => h0 ⟨e, hk0⟩, e1.symm, by rw [hp]; exact e2.symm, ?_, by have := hb.2; omega⟩
  rw [hp]
  show c :: r = UInt8.ofNat ((c.toNat : Int)).toNat :: r
  rw [byte_back]
theorem scan_fits {k : Nat} {c v : Int} (hk : k ≤ 8) (hc0 : 128 ≤ c) (hc : c ≤ 255) (v0 : 0 ≤ v) (h : v * (128 * 2 ^ (7 * k)) < 18446744073709551616) : (c - 128) * 2 ^ (7 * k) + v * (128 * 2 ^ (7 * k)) < 18446744073709551616 := by
  have hpw := (pow7_le k (by omega)).1
  have hdv : 128 * 2 ^ (7 * k) ∣ (18446744073709551616 : Int) := by
    rw [← pow7]
    refine ⟨2 ^ (64 - 7 * (k + 1)), ?_⟩
    rw [← Int.pow_add, show 7 * (k + 1) + (64 - 7 * (k + 1)) = 64 by omega]; rfl
  generalize (2 : Int) ^ (7 * k) = P at *
  have hx : (c - 128) * P ≤ 127 * P := Int.mul_le_mul_of_nonneg_right (by omega) (by omega)
  obtain ⟨Q, hQ⟩ := hdv
  have hvQ : v < Q := by
    rcases Int.lt_or_le v Q with h' | h'
    · exact h'
    · have := Int.mul_le_mul_of_nonneg_right h' (show 0 ≤ 128 * P by omega)
      rw [Int.mul_comm Q] at this; omega
  have := Int.mul_le_mul_of_nonneg_right (show v + 1 ≤ Q by omega) (show 0 ≤ 128 * P by omega)
  rw [Int.mul_comm Q, ← hQ, Int.add_mul] at this
  omega
theorem scan_inv (f : Nat) : ∀ (k : Nat) (u : Int) (l : List UInt8) (u' : Int) (k' : Nat), k + f = 9 → scan (f + 1) k u l = (0, u', k') →
    ∃ v : Int, 0 ≤ v ∧ (0 < k → v ≠ 0) ∧ u' = u + v * 2 ^ (7 * k) ∧ k' = k + (putI f v).length ∧ l = bs (putI f v) ++ l.drop (putI f v).length ∧ v * 2 ^ (7 * k) < 18446744073709551616 := by
  induction f with
  | zero =>
    intro k u l u' k' hk h
    match l, h with
    | [], h => simp [scan] at h
    | c :: r, h =>
      by_cases h1 : (c.toNat : Int) < 128
      · exact scan_one hk h h1
      · rw [scan] at h
        have h9 : ¬ (k = 9 ∧ 1 < (c.toNat : Int)) := fun h9 => by rw [if_pos h9] at h; simp at h
        rw [if_neg h9, if_neg h1, scan] at h; simp at h
  | succ f ih =>
    intro k u l u' k' hk h
    match l, h with
    | [], h => simp [scan] at h
    | c :: r, h =>
      have hc : (c.toNat : Int) ≤ 255 := by have := c.toNat_lt; omega
      by_cases h1 : (c.toNat : Int) < 128
      · exact scan_one hk h h1
      · rw [scan, if_neg (by omega), if_neg h1] at h
        obtain ⟨v, v0, vn, e1, e2, e3, e4⟩ := ih (k + 1) _ r u' k' (by omega) h
        have hv := vn (by omega)
        have hV : ¬ ((c.toNat : Int) - 128 + 128 * v) < 128 := by omega
        have hp : putI (f + 1) ((c.toNat : Int) - 128 + 128 * v) = (c.toNat : Int) :: putI f v := by
          rw [putI, if_neg hV]
          congr 1
          · omega
          · congr 1; omega
        have hw : ((c.toNat : Int) - 128 + 128 * v) * 2 ^ (7 * k) = ((c.toNat : Int) - 128) * 2 ^ (7 * k) + v * (128 * 2 ^ (7 * k)) := by
          rw [Int.add_mul, Int.mul_comm 128 v, Int.mul_assoc]
        refine ⟨(c.toNat : Int) - 128 + 128 * v, by omega, fun _ => by omega, ?_, ?_, ?_, ?_⟩
        · rw [e1, pow7, hw, Int.add_assoc]
        · rw [hp, e2, List.length_cons]; omega
        · rw [hp]
          show c :: r = UInt8.ofNat ((c.toNat : Int)).toNat :: (bs (putI f v) ++ (c :: r).drop ((putI f v).length + 1))
          rw [byte_back, List.drop_succ_cons, ← e3]
        · rw [hw]
          exact scan_fits (k := k) (by omega) (by omega) hc v0 (by rw [← pow7]; exact e4)

theorem fold_unfold (v : Int) (h : 0 ≤ v) : foldN (unfoldN v) = v := by
  unfold unfoldN; split
  · unfold foldN; rw [if_neg (by omega)]; omega
  · unfold foldN; rw [if_pos (by omega)]; omega

/-- A number that was got is its own bytes, at their place. -/
theorem getN_inv {S : ByteArray} {a : Nat} {n b : Int} (hz : S.size ≤ 8000) (h : getN S (a : Int) = (n, b, 0)) :
    b = (a : Int) + ((putB n).size : Int) ∧ S.data.toList.drop a = (putB n).data.toList ++ S.data.toList.drop (a + (putB n).size) ∧ -9223372036854775808 ≤ n ∧ n ≤ 9223372036854775807 := by
  unfold getN at h
  rw [if_neg (by omega), if_neg (by omega), Int.toNat_natCast] at h
  by_cases hs : (scanAt S a).1 = 0
  · rw [if_pos hs] at h
    obtain ⟨x, u', k', hsc⟩ : ∃ x u' k', scanAt S a = (x, u', k') := ⟨_, _, _, rfl⟩
    rw [hsc] at h hs
    obtain rfl : x = 0 := hs
    obtain ⟨v, v0, -, e1, e2, e3, e4⟩ := scan_inv 9 0 0 (S.data.toList.drop a) u' k' rfl hsc
    have e1 : u' = v := by rw [e1]; simp
    have e2 : k' = (putI 9 v).length := by rw [e2]; simp
    subst e1
    simp only [Prod.mk.injEq] at h
    obtain ⟨hn, hb, -⟩ := h
    have hf : foldN n = u' := by rw [← hn]; exact fold_unfold u' v0
    have hl : (putB n).size = k' := by rw [putB_len, hf, e2]
    have hd : (putB n).data.toList = bs (putI 9 u') := by rw [putB_list, hf]
    refine ⟨by rw [hl]; exact hb.symm, ?_, ?_, ?_⟩
    · rw [hd, hl, e2]
      rw [List.drop_drop] at e3
      exact e3
    · rw [← hn]; simp at e4; unfold unfoldN; split <;> omega
    · rw [← hn]; simp at e4; unfold unfoldN; split <;> omega
  · rw [if_neg hs] at h
    simp only [Prod.mk.injEq] at h
    exact absurd h.2.2 hs
end Go.Proofs.YtnppgldafhpchaaDoor
