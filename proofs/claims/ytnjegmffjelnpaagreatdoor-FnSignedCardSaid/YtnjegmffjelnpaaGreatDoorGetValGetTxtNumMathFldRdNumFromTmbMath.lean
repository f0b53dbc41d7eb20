/-
  Parts of one proof, laid as one text: GetVal, GetTxt, NumMath, FldRd, NumFrom, TmbMath; what each says stands at its head.
-/
import Derived.Test.YtnjegmffjelnpaaGreatDoorRows
import Derived.Test.YtnjegmffjelnpaaGreatDoorBytesDigMathTurnIWholeR
import Derived.Test.YtnjegmffjelnpaaGreatDoorTimeBPutTextFldMathFldRiseScanMath
import Derived.Handy
import Derived.WalkSpells
import Derived.Test.YtnjegmffjelnpaaGreatDoorMacMathPutMathJoinedDigITurn2
import Derived.Test.YtnjegmffjelnpaaGreatDoorPutNumAppSSrc
/-
  What GetNum's answer is, as a value in memory.
-/
namespace Go.Proofs.YtnjegmffjelnpaaGreatDoor
open Go.RowKit
set_option linter.unusedVariables false

theorem ret_valN {a b : Value} (h : a = b) : Ending.returned a = .returned b := by rw [h]
def getV (s : ByteArray) (a : Int) : Value := numOut (getN s a).1 (getN s a).2.1 (getN s a).2.2

theorem getV_size {s : ByteArray} {a : Int} (h : 8000 < s.size) : getV s a = numOut 0 0 2 := by unfold getV getN; rw [if_pos h]
theorem getV_form {s : ByteArray} {a : Int} (h : ¬ 8000 < s.size) (h1 : a < 0) : getV s a = numOut 0 0 1 := by unfold getV getN; rw [if_neg h, if_pos h1]
theorem getV_bad {s : ByteArray} {a : Nat} {c : Int} (h : ¬ 8000 < s.size) (hc : c ≠ 0) (e : scanAt s a = (c, 0, 0)) : getV s (a : Int) = numOut 0 0 c := by
  unfold getV getN; rw [if_neg h, if_neg (by omega), Int.toNat_natCast, e, if_neg hc]
theorem getV_ok {s : ByteArray} {a k : Nat} {u : Int} (h : ¬ 8000 < s.size) (e : scanAt s a = (0, u, k)) : getV s (a : Int) = numOut (unfoldN u) ((a : Int) + (k : Int)) 0 := by
  unfold getV getN; rw [if_neg h, if_neg (by omega), Int.toNat_natCast, e, if_pos rfl]

theorem getN_cases (s : ByteArray) (a : Int) : (∃ n b, getN s a = (n, b, 0)) ∨ (∃ c, c ≠ 0 ∧ getN s a = (0, 0, c)) := by
  unfold getN
  split
  · exact .inr ⟨2, by decide, rfl⟩
  · split
    · exact .inr ⟨1, by decide, rfl⟩
    · split
      · exact .inl ⟨_, _, rfl⟩
      · rename_i h; exact .inr ⟨_, h, rfl⟩

end Go.Proofs.YtnjegmffjelnpaaGreatDoor
/-
  What GetText's answer is, as a value in memory: 'getTV' of the text and the place.
-/
namespace Go.Proofs.YtnjegmffjelnpaaGreatDoor
open Go.RowKit
set_option linter.unusedVariables false

def txt (t : ByteArray) (a c : Int) : Value := .agg #[.string t, .int .i64 a, .int .i64 c]
def getTV (s : ByteArray) (a : Int) : Value :=
  if (getN s a).2.2 ≠ 0 then txt ByteArray.empty 0 (getN s a).2.2
  else if (getN s a).1 < 0 ∨ 8000 < (getN s a).1 then txt ByteArray.empty 0 3
  else if (s.size : Int) < (getN s a).2.1 + (getN s a).1 then txt ByteArray.empty 0 4
  else txt (s.extract (getN s a).2.1.toNat ((getN s a).2.1 + (getN s a).1).toNat) ((getN s a).2.1 + (getN s a).1) 0

theorem held_free {w1 w2 : World} {cs : Array Value} {T : TypeId} (hb : Below (w1.alloc (.cells cs T)).heap.size (w1.alloc (.cells cs T)) w2) (o : Obj) (i : Nat) :
    (w2.alloc o).frozen? ⟨w1.heap.size, i, none⟩ = false := by
  have h1 : (w1.alloc (.cells cs T)).heap.size ≤ w2.heap.size := hb.size
  have hlt : w1.heap.size < w2.heap.size := by simp at h1; omega
  have h2 : (w2.alloc o).frozen? ⟨w1.heap.size, i, none⟩ = w2.frozen? ⟨w1.heap.size, i, none⟩ :=
    ((Below.refl _ _).alloc (Nat.le_refl _) o : Below w2.heap.size w2 (w2.alloc o)).frozen (p := ⟨w1.heap.size, i, none⟩) hlt
  rw [h2, hb.frozen (p := ⟨w1.heap.size, i, none⟩) (by simp)]
  have e := (MapKept.heap_alloc w1 (.cells cs T)).1
  unfold World.frozen?
  rw [e]
  simp

theorem unfoldN_bd {u : Int} (h0 : 0 ≤ u) (h1 : u ≤ 18446744073709551615) : -9223372036854775808 ≤ unfoldN u ∧ unfoldN u ≤ 9223372036854775807 := by
  unfold unfoldN; split <;> omega
theorem getN_ok {s : ByteArray} {a n b : Int} (h : getN s a = (n, b, 0)) : 0 ≤ b ∧ b ≤ s.size ∧ s.size ≤ 8000 ∧ -9223372036854775808 ≤ n ∧ n ≤ 9223372036854775807 := by
  unfold getN at h
  split at h
  · cases h
  · split at h
    · cases h
    · rename_i h8 h0
      split at h
      · rename_i hc
        rcases scanAt_bd s a.toNat with hb | hb
        · have hu := unfoldN_bd hb.2.1 hb.2.2.1
          have hz := hb.2.2.2.2
          cases h
          omega
        · have := hb.1; omega
      · rename_i hc
        have h3 := congrArg (fun x : Int × Int × Int => x.2.2) h
        exact absurd h3 hc

theorem getTV_bad {s : ByteArray} {a c : Int} (h : getN s a = (0, 0, c)) (hc : c ≠ 0) : getTV s a = txt ByteArray.empty 0 c := by unfold getTV; rw [h, if_pos hc]
theorem getTV_syn {s : ByteArray} {a n b : Int} (h : getN s a = (n, b, 0)) (hn : n < 0 ∨ 8000 < n) : getTV s a = txt ByteArray.empty 0 3 := by
  unfold getTV; rw [h, if_neg (by simp), if_pos hn]
theorem getTV_short {s : ByteArray} {a n b : Int} (h : getN s a = (n, b, 0)) (hn : ¬ (n < 0 ∨ 8000 < n)) (hl : (s.size : Int) < b + n) : getTV s a = txt ByteArray.empty 0 4 := by
  unfold getTV; rw [h, if_neg (by simp), if_neg hn, if_pos hl]
theorem getTV_ok {s : ByteArray} {a n b : Int} (h : getN s a = (n, b, 0)) (hn : ¬ (n < 0 ∨ 8000 < n)) (hl : ¬ (s.size : Int) < b + n) : getTV s a = txt (s.extract b.toNat (b + n).toNat) (b + n) 0 := by
  unfold getTV; rw [h, if_neg (by simp), if_neg hn, if_neg hl]

theorem getTV_agg (s : ByteArray) (a : Int) : ∃ t b c, getTV s a = .agg #[.string t, .int .i64 b, .int .i64 c] := by
  unfold getTV; split
  · exact ⟨_, _, _, rfl⟩
  · split
    · exact ⟨_, _, _, rfl⟩
    · split
      · exact ⟨_, _, _, rfl⟩
      · exact ⟨_, _, _, rfl⟩
end Go.Proofs.YtnjegmffjelnpaaGreatDoor
/-
  Numbers and texts come back from their bytes, in plain mathematics, over what PutNum, GetNum, PutText and GetText answer.
-/
namespace Go.Proofs.YtnjegmffjelnpaaGreatDoor
open Go.RowKit Go.Lib
set_option linter.unusedVariables false

def bs (l : List Int) : List UInt8 := l.map fun n => UInt8.ofNat n.toNat

theorem byte_val (v : Int) (h0 : 0 ≤ v) (h1 : v ≤ 255) : ((UInt8.ofNat v.toNat).toNat : Int) = v := by
  have : (UInt8.ofNat v.toNat).toNat = v.toNat % 256 := UInt8.toNat_ofNat'
  rw [this]; omega
theorem putI_ne (f : Nat) (v : Int) : putI f v ≠ [] := by
  cases f with
  | zero => simp [putI]
  | succ f => unfold putI; split <;> simp
theorem split128 (v p : Int) : v % 128 * p + v / 128 * (128 * p) = v * p := by
  have h : v = v % 128 + 128 * (v / 128) := (Int.emod_add_mul_ediv v 128).symm
  have e : v * p = (v % 128 + 128 * (v / 128)) * p := by rw [← h]
  rw [e, Int.add_mul, Int.mul_comm 128 (v / 128), Int.mul_assoc]

theorem pow_same (k : Nat) : (128 : Int) ^ k = 2 ^ (7 * k) := by
  rw [show (128 : Int) = 2 ^ 7 by decide, ← Int.pow_mul]

theorem scan_put : ∀ (f k : Nat) (u v : Int) (rest : List UInt8), k + f = 9 → 0 ≤ v → v * 2 ^ (7 * k) < 18446744073709551616 → (0 < k → v ≠ 0) →
    scan (f + 1) k u (bs (putI f v) ++ rest) = (0, u + v * 2 ^ (7 * k), k + (putI f v).length)
  | 0, k, u, v, rest, hk, h0, hb, hz => by
    obtain rfl : k = 9 := by omega
    have hv : v ≤ 1 := by
      have : (2 : Int) ^ (7 * 9) = 9223372036854775808 := by decide
      rw [this] at hb; omega
    have hb1 := byte_val v h0 (by omega)
    show scan 1 9 u (UInt8.ofNat v.toNat :: rest) = _
    rw [scan, hb1, if_neg (by omega), if_pos (by omega), if_neg (fun h => hz (by omega) h.1)]
    rfl
  | f + 1, k, u, v, rest, hk, h0, hb, hz => by
    have hp := (pow7_le k (by omega)).1
    by_cases hv : v < 128
    · have hb1 := byte_val v h0 (by omega)
      have e : putI (f + 1) v = [v] := by rw [putI, if_pos hv]
      rw [e]
      show scan (f + 1 + 1) k u (UInt8.ofNat v.toNat :: rest) = _
      rw [scan, hb1, if_neg (by omega), if_pos hv, if_neg (fun h => hz h.2 h.1)]
      rfl
    · have hb1 := byte_val (v % 128 + 128) (by omega) (by omega)
      have e : putI (f + 1) v = (v % 128 + 128) :: putI f (v / 128) := by rw [putI, if_neg hv]
      rw [e]
      show scan (f + 1 + 1) k u (UInt8.ofNat (v % 128 + 128).toNat :: (bs (putI f (v / 128)) ++ rest)) = _
      rw [scan, hb1, if_neg (by omega), if_neg (by omega), show v % 128 + 128 - 128 = v % 128 by omega]
      have hd : v / 128 * 128 ≤ v := Int.ediv_mul_le _ (by decide)
      have hb2 : v / 128 * 2 ^ (7 * (k + 1)) < 18446744073709551616 := by
        rw [pow7, ← Int.mul_assoc]
        exact Int.lt_of_le_of_lt (Int.mul_le_mul_of_nonneg_right hd (by omega)) hb
      rw [scan_put f (k + 1) _ (v / 128) rest (by omega) (by omega) hb2 (fun _ => by omega), pow7, Int.add_assoc, split128]
      simp; omega

theorem scan_cut : ∀ (f k : Nat) (u v : Int), k + f = 9 → 0 ≤ v → scan (f + 1) k u (bs (putI f v).dropLast) = (4, 0, 0)
  | 0, k, u, v, hk, h0 => rfl
  | f + 1, k, u, v, hk, h0 => by
    by_cases hv : v < 128
    · have e : putI (f + 1) v = [v] := by rw [putI, if_pos hv]
      rw [e]; rfl
    · have hb1 := byte_val (v % 128 + 128) (by omega) (by omega)
      have e : putI (f + 1) v = (v % 128 + 128) :: putI f (v / 128) := by rw [putI, if_neg hv]
      rw [e, List.dropLast_cons_of_ne_nil (putI_ne f _)]
      show scan (f + 1 + 1) k u (UInt8.ofNat (v % 128 + 128).toNat :: bs (putI f (v / 128)).dropLast) = _
      rw [scan, hb1, if_neg (by omega), if_neg (by omega)]
      exact scan_cut f (k + 1) _ (v / 128) (by omega) (by omega)

theorem unfold_fold (n : Int) : unfoldN (foldN n) = n := by
  unfold foldN; split
  · unfold unfoldN; rw [if_neg (by omega)]; omega
  · unfold unfoldN; rw [if_pos (by omega)]; omega

theorem putB_list (n : Int) : (putB n).data.toList = bs (putI 9 (foldN n)) := strOfNums_data _
theorem putB_len (n : Int) : (putB n).size = (putI 9 (foldN n)).length := strOfNums_size _

/-- A number's bytes with a text ahead of them and one behind. -/
theorem getN_put (n : Int) (h0 : -9223372036854775808 ≤ n) (h1 : n ≤ 9223372036854775807) (S : ByteArray) (a : Nat) (rest : List UInt8)
    (hS : S.data.toList.drop a = (putB n).data.toList ++ rest) (hz : S.size ≤ 8000) : getN S (a : Int) = (n, (a : Int) + ((putB n).size : Int), 0) := by
  have hf := foldN_bd h0 h1
  have hsc : scanAt S a = (0, foldN n, (putI 9 (foldN n)).length) := by
    unfold scanAt
    rw [hS, putB_list, scan_put 9 0 0 (foldN n) rest rfl hf.1 (by simp; omega) (fun h => by omega)]
    simp
  unfold getN
  rw [if_neg (by omega), if_neg (by omega), Int.toNat_natCast, hsc, if_pos rfl, unfold_fold, putB_len]

theorem getN_cut (n : Int) (S : ByteArray) (h0 : -9223372036854775808 ≤ n) (h1 : n ≤ 9223372036854775807) (hS : S.data.toList = bs (putI 9 (foldN n)).dropLast) (hz : S.size ≤ 8000) : getN S 0 = (0, 0, 4) := by
  have hf := foldN_bd h0 h1
  have hsc : scanAt S 0 = (4, 0, 0) := by
    unfold scanAt
    rw [List.drop_zero, hS]
    exact scan_cut 9 0 0 (foldN n) rfl hf.1
  unfold getN
  rw [if_neg (by omega), if_neg (by decide), show (0 : Int).toNat = 0 from rfl, hsc, if_neg (by decide)]
end Go.Proofs.YtnjegmffjelnpaaGreatDoor
/-
  What a reader reads, as plain functions: a number, a text, up to the first fault.
-/
namespace Go.Proofs.YtnjegmffjelnpaaGreatDoor
open Go.RowKit Go.Lib
set_option linter.unusedVariables false

/-! ### What is read -/
/-- GetText's answer in its three parts. -/
def getT (s : ByteArray) (a : Int) : ByteArray × Int × Int :=
  if (getN s a).2.2 ≠ 0 then (ByteArray.empty, 0, (getN s a).2.2)
  else if (getN s a).1 < 0 ∨ 8000 < (getN s a).1 then (ByteArray.empty, 0, 3)
  else if (s.size : Int) < (getN s a).2.1 + (getN s a).1 then (ByteArray.empty, 0, 4)
  else (s.extract (getN s a).2.1.toNat ((getN s a).2.1 + (getN s a).1).toNat, (getN s a).2.1 + (getN s a).1, 0)
theorem getT_val (s : ByteArray) (a : Int) : getTV s a = .agg #[.string (getT s a).1, .int .i64 (getT s a).2.1, .int .i64 (getT s a).2.2] := by
  unfold getTV getT
  split
  · rfl
  · split
    · rfl
    · split <;> rfl
theorem getN_place (s : ByteArray) (a : Int) (h : (getN s a).2.2 = 0) : 0 ≤ (getN s a).2.1 ∧ (getN s a).2.1 ≤ s.size := by
  rcases getN_cases s a with ⟨n, b, hg⟩ | ⟨c, hc, hg⟩
  · have := getN_ok hg
    rw [hg]; exact ⟨this.1, this.2.1⟩
  · rw [hg] at h; exact absurd h hc
theorem getT_place (s : ByteArray) (a : Int) (h : (getT s a).2.2 = 0) : 0 ≤ (getT s a).2.1 ∧ (getT s a).2.1 ≤ s.size := by
  have hp := getN_place s a
  unfold getT at h ⊢
  split at h
  · rename_i h1; exact absurd h h1
  · rename_i h1
    split at h
    · cases h
    · split at h
      · cases h
      · rename_i h2 h3
        rw [if_neg h1, if_neg h2, if_neg h3]
        have h4 := hp (by simpa using h1)
        show 0 ≤ (getN s a).2.1 + (getN s a).1 ∧ (getN s a).2.1 + (getN s a).1 ≤ _
        omega
def rnB (t : ByteArray) (a : Int) (bd : Bool) : Bool := bd || ((getN t a).2.2 != 0)
def rnN (t : ByteArray) (a : Int) (bd : Bool) : Int := if rnB t a bd = true then 0 else (getN t a).1
def rnA (t : ByteArray) (a : Int) (bd : Bool) : Int := if rnB t a bd = true then a else (getN t a).2.1
def rtB (t : ByteArray) (a : Int) (bd : Bool) : Bool := bd || ((getT t a).2.2 != 0)
def rtT (t : ByteArray) (a : Int) (bd : Bool) : ByteArray := if rtB t a bd = true then ByteArray.empty else (getT t a).1
def rtA (t : ByteArray) (a : Int) (bd : Bool) : Int := if rtB t a bd = true then a else (getT t a).2.1
end Go.Proofs.YtnjegmffjelnpaaGreatDoor
/-
  Reading a number from a place of a text on: what rnN, rnA, rnB are where a number's own bytes stand.
-/
namespace Go.Proofs.YtnjegmffjelnpaaGreatDoor
open Go.RowKit Go.Lib
set_option linter.unusedVariables false

/-- From the place a on these bytes stand in S. -/
def From (S : ByteArray) (a : Nat) (l : List UInt8) : Prop := S.data.toList.drop a = l
theorem From.skip {S : ByteArray} {a : Nat} {x l : List UInt8} (h : From S a (x ++ l)) : From S (a + x.length) l := by
  unfold From at *
  rw [← List.drop_drop, h]; simp
theorem sz_list (s : ByteArray) : s.data.toList.length = s.size := by simp
theorem From.len {S : ByteArray} {a : Nat} {x l : List UInt8} (h : From S a (x ++ l)) : a + x.length ≤ S.size ∨ x = [] := by
  unfold From at h
  have := congrArg List.length h
  rw [List.length_drop, sz_list, List.length_append] at this
  cases x with
  | nil => exact .inr rfl
  | cons c x => refine .inl ?_; simp at this ⊢; omega
theorem num_from {S : ByteArray} {a : Nat} {n : Int} {l : List UInt8} (hz : S.size ≤ 8000) (h0 : -9223372036854775808 ≤ n) (h1 : n ≤ 9223372036854775807) (h : From S a ((putB n).data.toList ++ l)) :
    rnN S a false = n ∧ rnA S a false = ((a + (putB n).size : Nat) : Int) ∧ rnB S a false = false ∧ From S (a + (putB n).size) l := by
  have hg := getN_put n h0 h1 S a l h hz
  have hb : rnB S a false = false := by unfold rnB; rw [hg]; rfl
  refine ⟨?_, ?_, hb, ?_⟩
  · unfold rnN; rw [if_neg (by rw [hb]; exact Bool.false_ne_true), hg]
  · unfold rnA; rw [if_neg (by rw [hb]; exact Bool.false_ne_true), hg]; simp
  · have := h.skip; rwa [sz_list] at this
end Go.Proofs.YtnjegmffjelnpaaGreatDoor
/-
  Tombs in plain mathematics: a right one, its text, what is read of a text (number by number), the text cut behind each byte below 128, the kinds of leaves; and that both ways of reading come to the same.
-/
namespace Go.Proofs.YtnjegmffjelnpaaGreatDoor
open Go.RowKit Go.Lib
set_option linter.unusedVariables false

structure Tmb where
  r : Int
  f : Int
  y : Int
  a : Int
def tmZ : Tmb := ⟨0, 0, 0, 0⟩
def tmB (t : Tmb) : Bool := decide (0 ≤ t.r) && decide (t.r ≤ 63) && (decide (0 ≤ t.f) && decide (t.f ≤ 2)) && (decide (1 ≤ t.y) && decide (t.y ≤ 2)) && (decide (0 ≤ t.a) && decide (t.a ≤ 1000000))
theorem tmB_iff (t : Tmb) : tmB t = true ↔ (0 ≤ t.r ∧ t.r ≤ 63) ∧ (0 ≤ t.f ∧ t.f ≤ 2) ∧ (1 ≤ t.y ∧ t.y ≤ 2) ∧ (0 ≤ t.a ∧ t.a ≤ 1000000) := by
  unfold tmB; simp [and_assoc]
theorem tmB_no {t : Tmb} (h : ¬ ((0 ≤ t.r ∧ t.r ≤ 63) ∧ (0 ≤ t.f ∧ t.f ≤ 2) ∧ (1 ≤ t.y ∧ t.y ≤ 2) ∧ (0 ≤ t.a ∧ t.a ≤ 1000000))) : tmB t = false := by
  cases e : tmB t with
  | false => rfl
  | true => exact absurd ((tmB_iff t).1 e) h
def tmRaw (t : Tmb) : ByteArray := ⟨#[116]⟩ ++ putB t.r ++ putB t.f ++ putB t.y ++ putB t.a
def tmT (t : Tmb) : ByteArray := if tmB t = true then tmRaw t else ByteArray.empty
def tmV (t : Tmb) : Value := .agg #[.int .i64 t.r, .int .i64 t.f, .int .i64 t.y, .int .i64 t.a]
def tmO (t : Tmb) (c : Int) : Value := .agg #[.int .i64 t.r, .int .i64 t.f, .int .i64 t.y, .int .i64 t.a, .int .i64 c]
theorem tmRaw_list (t : Tmb) : (tmRaw t).data.toList = 116 :: ((putB t.r).data.toList ++ ((putB t.f).data.toList ++ ((putB t.y).data.toList ++ ((putB t.a).data.toList ++ [])))) := by
  unfold tmRaw; simp [ByteArray.data_append]
theorem tmRaw_size (t : Tmb) : 1 ≤ (tmRaw t).size ∧ (tmRaw t).size ≤ 41 := by
  have h := congrArg List.length (tmRaw_list t)
  simp only [List.length_cons, List.length_append, sz_list, List.length_nil] at h
  have h1 := putB_size t.r
  have h2 := putB_size t.f
  have h3 := putB_size t.y
  have h4 := putB_size t.a
  omega
theorem tmT_size (t : Tmb) : (tmT t).size ≤ 41 := by
  unfold tmT; split
  · exact (tmRaw_size t).2
  · show 0 ≤ 41; omega

/-! ### Number by number -/
def trA1 (t : ByteArray) : Int := rnA t 1 false
def trB1 (t : ByteArray) : Bool := rnB t 1 false
def trA2 (t : ByteArray) : Int := rnA t (trA1 t) (trB1 t)
def trB2 (t : ByteArray) : Bool := rnB t (trA1 t) (trB1 t)
def trA3 (t : ByteArray) : Int := rnA t (trA2 t) (trB2 t)
def trB3 (t : ByteArray) : Bool := rnB t (trA2 t) (trB2 t)
def trT (t : ByteArray) : Tmb := ⟨rnN t 1 false, rnN t (trA1 t) (trB1 t), rnN t (trA2 t) (trB2 t), rnN t (trA3 t) (trB3 t)⟩
def trBd (t : ByteArray) : Bool := rnB t (trA3 t) (trB3 t)
def trBad (t : ByteArray) : Bool := trBd t || decide (t.size = 0) || !decide (tmT (trT t) = t)
def trC (t : ByteArray) : Int := if 8000 < t.size then 2 else if trBad t = true then 3 else 0
def trO (t : ByteArray) : Tmb := if trC t = 0 then trT t else tmZ
theorem rnA_top (t : ByteArray) (a : Int) (bd : Bool) (h : a ≤ 9223372036854775807) (ht : t.size ≤ 8000) : rnA t a bd ≤ 9223372036854775807 := by
  unfold rnA
  split
  · exact h
  · rename_i hb
    have : (getN t a).2.2 = 0 := by
      unfold rnB at hb
      simp at hb
      exact hb.2
    have := (getN_place t a this).2
    omega
theorem tm_read {T : Tmb} (h : tmB T = true) : trT (tmRaw T) = T ∧ trBd (tmRaw T) = false := by
  obtain ⟨⟨a0, a1⟩, ⟨b0, b1⟩, ⟨c0, c1⟩, d0, d1⟩ := (tmB_iff T).1 h
  have hz : (tmRaw T).size ≤ 8000 := by have := tmRaw_size T; omega
  have h1 : From (tmRaw T) 1 ((putB T.r).data.toList ++ ((putB T.f).data.toList ++ ((putB T.y).data.toList ++ ((putB T.a).data.toList ++ [])))) := by
    unfold From; rw [tmRaw_list]; rfl
  obtain ⟨p1, q1, r1, s1⟩ := num_from hz (by omega) (by omega) h1
  obtain ⟨p2, q2, r2, s2⟩ := num_from hz (by omega) (by omega) s1
  obtain ⟨p3, q3, r3, s3⟩ := num_from hz (by omega) (by omega) s2
  obtain ⟨p4, q4, r4, s4⟩ := num_from hz (by omega) (by omega) s3
  rw [show ((1 : Nat) : Int) = 1 from rfl] at p1 q1 r1
  have eA1 : trA1 (tmRaw T) = ((1 + (putB T.r).size : Nat) : Int) := q1
  have eB1 : trB1 (tmRaw T) = false := r1
  have eA2 : trA2 (tmRaw T) = ((1 + (putB T.r).size + (putB T.f).size : Nat) : Int) := by unfold trA2; rw [eA1, eB1]; exact q2
  have eB2 : trB2 (tmRaw T) = false := by unfold trB2; rw [eA1, eB1]; exact r2
  have eA3 : trA3 (tmRaw T) = ((1 + (putB T.r).size + (putB T.f).size + (putB T.y).size : Nat) : Int) := by unfold trA3; rw [eA2, eB2]; exact q3
  have eB3 : trB3 (tmRaw T) = false := by unfold trB3; rw [eA2, eB2]; exact r3
  refine ⟨?_, ?_⟩
  · unfold trT; rw [eA1, eB1, eA2, eB2, eA3, eB3, p1, p2, p3, p4]
  · unfold trBd; rw [eA3, eB3]; exact r4
theorem tr_sound {t : ByteArray} (h : trC t = 0) : t.size ≤ 8000 ∧ tmB (trT t) = true ∧ tmRaw (trT t) = t ∧ trO t = trT t := by
  have ho : trO t = trT t := if_pos h
  unfold trC at h
  split at h
  · cases h
  · rename_i h8
    split at h
    · cases h
    · rename_i hb
      unfold trBad at hb
      simp at hb
      obtain ⟨⟨-, h0⟩, hT⟩ := hb
      have hB : tmB (trT t) = true := by
        cases e : tmB (trT t) with
        | true => rfl
        | false =>
          unfold tmT at hT
          rw [e, if_neg Bool.false_ne_true] at hT
          exfalso; apply h0; rw [← hT]
      refine ⟨by omega, hB, ?_, ho⟩
      unfold tmT at hT
      rwa [if_pos hB] at hT
theorem tr_raw {T : Tmb} (h : tmB T = true) : trC (tmRaw T) = 0 ∧ trO (tmRaw T) = T := by
  obtain ⟨h1, h2⟩ := tm_read h
  have hz := tmRaw_size T
  have hc : trC (tmRaw T) = 0 := by
    unfold trC
    rw [if_neg (by omega), if_neg]
    unfold trBad tmT
    rw [h1, h2, if_pos h]
    have : (tmRaw T).size ≠ 0 := by omega
    simp [this]
  exact ⟨hc, by unfold trO; rw [if_pos hc, h1]⟩
theorem trC_cases (t : ByteArray) (h : t.size ≤ 8000) : trC t = 0 ∨ trC t = 3 := by
  unfold trC; rw [if_neg (by omega)]; split
  · exact .inr rfl
  · exact .inl rfl

/-! ### Cut behind each byte below 128 -/
def cutL : List UInt8 → List UInt8 → List ByteArray
  | _, [] => []
  | cur, b :: l => if b.toNat < 128 then ⟨(cur ++ [b]).toArray⟩ :: cutL [] l else cutL (cur ++ [b]) l
theorem cutL_high (xs : List UInt8) : ∀ (cur l : List UInt8), (∀ x ∈ xs, 128 ≤ x.toNat) → cutL cur (xs ++ l) = cutL (cur ++ xs) l := by
  induction xs with
  | nil => intro cur l _; simp
  | cons x xs ih =>
    intro cur l h
    have hx := h x (by simp)
    show cutL cur (x :: (xs ++ l)) = _
    rw [cutL, if_neg (by omega), ih _ _ (fun y hy => h y (by simp [hy]))]
    simp
theorem cutL_low (b : UInt8) (cur l : List UInt8) (h : b.toNat < 128) : cutL cur (b :: l) = ⟨(cur ++ [b]).toArray⟩ :: cutL [] l := by
  rw [cutL, if_pos h]
theorem cutL_len : ∀ (l cur : List UInt8), (cutL cur l).length ≤ l.length
  | [], cur => by simp [cutL]
  | b :: l, cur => by
    rw [cutL]
    split
    · have := cutL_len l []; simp; omega
    · have := cutL_len l (cur ++ [b]); simp; omega
def cutB (t : ByteArray) : List ByteArray := cutL [] t.data.toList
theorem cutB_len (t : ByteArray) : (cutB t).length ≤ t.size := by
  have := cutL_len t.data.toList []
  rwa [sz_list] at this
theorem putI_form : ∀ (f : Nat) (v : Int), 0 ≤ v → v < 128 ^ (f + 1) → ∃ (xs : List Int) (z : Int), putI f v = xs ++ [z] ∧ (∀ x ∈ xs, 128 ≤ x ∧ x ≤ 255) ∧ 0 ≤ z ∧ z < 128
  | 0, v, h0, h1 => ⟨[], v, rfl, by simp, h0, by simpa using h1⟩
  | f + 1, v, h0, h1 => by
    rw [putI]
    split
    · rename_i h; exact ⟨[], v, rfl, by simp, h0, h⟩
    · rename_i h
      have e : (128 : Int) ^ (f + 1 + 1) = 128 ^ (f + 1) * 128 := Int.pow_succ _ _
      obtain ⟨xs, z, e1, e2, e3⟩ := putI_form f (v / 128) (by omega) (Int.ediv_lt_of_lt_mul (by decide) (by rw [← e]; exact h1))
      refine ⟨(v % 128 + 128) :: xs, z, by rw [e1]; rfl, ?_, e3⟩
      intro x hx
      rcases List.mem_cons.1 hx with rfl | hx
      · omega
      · exact e2 x hx
theorem putB_form (n : Int) (h0 : -9223372036854775808 ≤ n) (h1 : n ≤ 9223372036854775807) : ∃ (xs : List UInt8) (z : UInt8), (putB n).data.toList = xs ++ [z] ∧ (∀ x ∈ xs, 128 ≤ x.toNat) ∧ z.toNat < 128 := by
  have hf := foldN_bd h0 h1
  obtain ⟨xs, z, e1, e2, e3, e4⟩ := putI_form 9 (foldN n) hf.1 (Int.lt_of_le_of_lt hf.2 (by decide))
  refine ⟨bs xs, UInt8.ofNat z.toNat, by rw [putB_list, e1]; simp [bs], ?_, ?_⟩
  · intro x hx
    obtain ⟨v, hv, rfl⟩ := List.mem_map.1 hx
    have := e2 v hv
    have := byte_val v (by omega) (by omega)
    omega
  · have := byte_val z (by omega) (by omega)
    omega
theorem cut_put (n : Int) (h0 : -9223372036854775808 ≤ n) (h1 : n ≤ 9223372036854775807) (l : List UInt8) : cutL [] ((putB n).data.toList ++ l) = putB n :: cutL [] l := by
  obtain ⟨xs, z, e, hx, hz⟩ := putB_form n h0 h1
  rw [e, List.append_assoc, cutL_high xs [] _ hx]
  show cutL ([] ++ xs) (z :: l) = _
  rw [cutL_low z _ _ hz]
  congr 1
  apply ByteArray.ext; apply Array.ext'
  rw [e]; simp
theorem cut_raw {T : Tmb} (h : tmB T = true) : cutB (tmRaw T) = [⟨#[116]⟩, putB T.r, putB T.f, putB T.y, putB T.a] := by
  obtain ⟨⟨a0, a1⟩, ⟨b0, b1⟩, ⟨c0, c1⟩, d0, d1⟩ := (tmB_iff T).1 h
  unfold cutB
  rw [tmRaw_list, cutL_low _ _ _ (by decide), cut_put _ (by omega) (by omega), cut_put _ (by omega) (by omega), cut_put _ (by omega) (by omega), cut_put _ (by omega) (by omega)]
  rfl
/-- What the program reads of the parts. -/
def ipT : List ByteArray → Tmb
  | [_, a, b, c, d] => ⟨(getN a 0).1, (getN b 0).1, (getN c 0).1, (getN d 0).1⟩
  | _ => tmZ
theorem getN_own (n : Int) (h0 : -9223372036854775808 ≤ n) (h1 : n ≤ 9223372036854775807) : (getN (putB n) 0).1 = n := by
  have := getN_put n h0 h1 (putB n) 0 [] (by simp) (by have := putB_size n; omega)
  rw [show ((0 : Nat) : Int) = 0 from rfl] at this
  rw [this]
theorem ip_raw {T : Tmb} (h : tmB T = true) : ipT (cutB (tmRaw T)) = T := by
  obtain ⟨⟨a0, a1⟩, ⟨b0, b1⟩, ⟨c0, c1⟩, d0, d1⟩ := (tmB_iff T).1 h
  rw [cut_raw h]
  show Tmb.mk (getN (putB T.r) 0).1 (getN (putB T.f) 0).1 (getN (putB T.y) 0).1 (getN (putB T.a) 0).1 = T
  rw [getN_own _ (by omega) (by omega), getN_own _ (by omega) (by omega), getN_own _ (by omega) (by omega), getN_own _ (by omega) (by omega)]
/-- Where the program's way takes a text, it is the one that is read number by number. -/
theorem ip_yes {t : ByteArray} (hz : t.size ≤ 8000) (hB : tmB (ipT (cutB t)) = true) (hT : tmRaw (ipT (cutB t)) = t) : trC t = 0 ∧ trO t = ipT (cutB t) := by
  have := tr_raw hB
  rwa [hT] at this
theorem ip_no {t : ByteArray} (hz : t.size ≤ 8000) (h : tmB (ipT (cutB t)) = false ∨ tmRaw (ipT (cutB t)) ≠ t) : trC t = 3 ∧ trO t = tmZ := by
  rcases trC_cases t hz with hc | hc
  · exfalso
    obtain ⟨-, h1, h2, -⟩ := tr_sound hc
    have h3 := ip_raw h1
    rw [h2] at h3
    rcases h with h | h
    · rw [h3, h1] at h; cases h
    · rw [h3, h2] at h; exact h rfl
  · exact ⟨hc, by unfold trO; rw [if_neg (by omega)]⟩
theorem ipT_not {ps : List ByteArray} (h : ps.length ≠ 5) : ipT ps = tmZ := by
  unfold ipT
  split
  · simp at h
  · rfl
theorem tmZ_no : tmB tmZ = false := rfl

/-! ### Kinds of leaves -/
def isRl (t : ByteArray) : Bool := decide (t.size = 33) && decide (t.data.toList.head? = some 101)
def lkB (t : ByteArray) : Int := if isRl t = true then 1 else if trC t = 0 then 2 else 0
theorem lk_raw {T : Tmb} (h : tmB T = true) : lkB (tmRaw T) = 2 := by
  unfold lkB isRl
  rw [tmRaw_list, (tr_raw h).1]
  simp
end Go.Proofs.YtnjegmffjelnpaaGreatDoor
