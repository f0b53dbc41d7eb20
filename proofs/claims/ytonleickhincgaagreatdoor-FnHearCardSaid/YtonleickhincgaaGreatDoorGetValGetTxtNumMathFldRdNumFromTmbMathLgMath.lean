/-
  Parts of one proof, laid as one text: GetVal, GetTxt, NumMath, FldRd, NumFrom, TmbMath, LgMath; what each says stands at its head.
-/
import Derived.Test.YtonleickhincgaaGreatDoorRows
import Derived.Test.YtonleickhincgaaGreatDoorBytesDigMath
import Derived.Test.YtonleickhincgaaGreatDoorImplVerInc2SignRSignWFldRiseScanMath
import Derived.Handy
import Derived.WalkSpells
import Derived.Test.YtonleickhincgaaGreatDoorTimeBPutMathPutNumJoinedPutTextFldMath
import Derived.Test.YtonleickhincgaaGreatDoorTreeMathSlABxKSlBOwnS
/-
  What GetNum's answer is, as a value in memory.
-/
namespace Go.Proofs.YtonleickhincgaaGreatDoor
open Go.RowKit
set_option linter.unusedVariables false

theorem ret_valN {a b : Value} (h : a = b) : Ending.returned a = .returned b := by rw [h]
def getV (s : ByteArray) (a : Int) : Value := numOut (getN s a).1 (getN s a).2.1 (getN s a).2.2

theorem getV_size {s : ByteArray} {a : Int} (h : 8000 < s.size) : getV s a = numOut 0 0 2 := by unfold getV getN; rw [if_pos h]
theorem getV_form {s : ByteArray} {a : Int} (h : ¬ 8000 < s.size) (h1 : a < 0) : getV s a = numOut 0 0 1 := by unfold getV getN; rw [if_neg h, if_pos h1]
theorem getV_bad {s : ByteArray} {a : Nat} {c : Int} (h : ¬ 8000 < s.size) (hc : c ≠ 0) (e : scanAt s a = (c, 0, 0)) : getV s (a : Int) = numOut 0 0 c := by
  unfold getV getN; rw [if_neg h, if_neg (by omega), Int.toNat_natCast, e, if_neg hc]
theorem getV_ok {s : ByteArray} {a k : Nat} {u : Int} (h : ¬ 8000 < s.size) (e : scanAt s a = (0, u, k)) : getV s (a : Int) = numOut (unfoldN u) ((a : Int) + (k : Int)) 0 := by
  unfold getV getN; rw [if_neg h, if_neg (by omega), Int.toNat_natCast, e, if_pos rfl]

theorem getN_cases (s : ByteArray) (a : Int) : (∃ n b, getN s a = (n, b, 0)) ∨ (∃ c, c ≠ 0 ∧ getN s a = (0, 0, c)) := by
  unfold getN
  split
  · exact .inr ⟨2, by decide, rfl⟩
  · split
    · exact .inr ⟨1, by decide, rfl⟩
    · split
      · exact .inl ⟨_, _, rfl⟩
      · rename_i h; exact .inr ⟨_, h, rfl⟩

end Go.Proofs.YtonleickhincgaaGreatDoor
/-
  What GetText's answer is, as a value in memory: 'getTV' of the text and the place.
-/
namespace Go.Proofs.YtonleickhincgaaGreatDoor
open Go.RowKit
set_option linter.unusedVariables false

def txt (t : ByteArray) (a c : Int) : Value := .agg #[.string t, .int .i64 a, .int .i64 c]
def getTV (s : ByteArray) (a : Int) : Value :=
  if (getN s a).2.2 ≠ 0 then txt ByteArray.empty 0 (getN s a).2.2
  else if (getN s a).1 < 0 ∨ 8000 < (getN s a).1 then txt ByteArray.empty 0 3
  else if (s.size : Int) < (getN s a).2.1 + (getN s a).1 then txt ByteArray.empty 0 4
  else txt (s.extract (getN s a).2.1.toNat ((getN s a).2.1 + (getN s a).1).toNat) ((getN s a).2.1 + (getN s a).1) 0

theorem held_free {w1 w2 : World} {cs : Array Value} {T : TypeId} (hb : Below (w1.alloc (.cells cs T)).heap.size (w1.alloc (.cells cs T)) w2) (o : Obj) (i : Nat) :
    (w2.alloc o).frozen? ⟨w1.heap.size, i, none⟩ = false := by
  have h1 : (w1.alloc (.cells cs T)).heap.size ≤ w2.heap.size := hb.size
  have hlt : w1.heap.size < w2.heap.size := by simp at h1; omega
  have h2 : (w2.alloc o).frozen? ⟨w1.heap.size, i, none⟩ = w2.frozen? ⟨w1.heap.size, i, none⟩ :=
    ((Below.refl _ _).alloc (Nat.le_refl _) o : Below w2.heap.size w2 (w2.alloc o)).frozen (p := ⟨w1.heap.size, i, none⟩) hlt
  rw [h2, hb.frozen (p := ⟨w1.heap.size, i, none⟩) (by simp)]
  have e := (MapKept.heap_alloc w1 (.cells cs T)).1
  unfold World.frozen?
  rw [e]
  simp

theorem unfoldN_bd {u : Int} (h0 : 0 ≤ u) (h1 : u ≤ 18446744073709551615) : -9223372036854775808 ≤ unfoldN u ∧ unfoldN u ≤ 9223372036854775807 := by
  unfold unfoldN; split <;> omega
theorem getN_ok {s : ByteArray} {a n b : Int} (h : getN s a = (n, b, 0)) : 0 ≤ b ∧ b ≤ s.size ∧ s.size ≤ 8000 ∧ -9223372036854775808 ≤ n ∧ n ≤ 9223372036854775807 := by
  unfold getN at h
  split at h
  · cases h
  · split at h
    · cases h
    · rename_i h8 h0
      split at h
      · rename_i hc
        rcases scanAt_bd s a.toNat with hb | hb
        · have hu := unfoldN_bd hb.2.1 hb.2.2.1
          have hz := hb.2.2.2.2
          cases h
          omega
        · have := hb.1; omega
      · rename_i hc
        have h3 := congrArg (fun x : Int × Int × Int => x.2.2) h
        exact absurd h3 hc

theorem getTV_bad {s : ByteArray} {a c : Int} (h : getN s a = (0, 0, c)) (hc : c ≠ 0) : getTV s a = txt ByteArray.empty 0 c := by unfold getTV; rw [h, if_pos hc]
theorem getTV_syn {s : ByteArray} {a n b : Int} (h : getN s a = (n, b, 0)) (hn : n < 0 ∨ 8000 < n) : getTV s a = txt ByteArray.empty 0 3 := by
  unfold getTV; rw [h, if_neg (by simp), if_pos hn]
theorem getTV_short {s : ByteArray} {a n b : Int} (h : getN s a = (n, b, 0)) (hn : ¬ (n < 0 ∨ 8000 < n)) (hl : (s.size : Int) < b + n) : getTV s a = txt ByteArray.empty 0 4 := by
  unfold getTV; rw [h, if_neg (by simp), if_neg hn, if_pos hl]
theorem getTV_ok {s : ByteArray} {a n b : Int} (h : getN s a = (n, b, 0)) (hn : ¬ (n < 0 ∨ 8000 < n)) (hl : ¬ (s.size : Int) < b + n) : getTV s a = txt (s.extract b.toNat (b + n).toNat) (b + n) 0 := by
  unfold getTV; rw [h, if_neg (by simp), if_neg hn, if_neg hl]

theorem getTV_agg (s : ByteArray) (a : Int) : ∃ t b c, getTV s a = .agg #[.string t, .int .i64 b, .int .i64 c] := by
  unfold getTV; split
  · exact ⟨_, _, _, rfl⟩
  · split
    · exact ⟨_, _, _, rfl⟩
    · split
      · exact ⟨_, _, _, rfl⟩
      · exact ⟨_, _, _, rfl⟩
end Go.Proofs.YtonleickhincgaaGreatDoor
/-
  Numbers and texts come back from their bytes, in plain mathematics, over what PutNum, GetNum, PutText and GetText answer.
-/
namespace Go.Proofs.YtonleickhincgaaGreatDoor
open Go.RowKit Go.Lib
set_option linter.unusedVariables false

def bs (l : List Int) : List UInt8 := l.map fun n => UInt8.ofNat n.toNat

theorem byte_val (v : Int) (h0 : 0 ≤ v) (h1 : v ≤ 255) : ((UInt8.ofNat v.toNat).toNat : Int) = v := by
  have : (UInt8.ofNat v.toNat).toNat = v.toNat % 256 := UInt8.toNat_ofNat'
  rw [this]; omega
theorem putI_ne (f : Nat) (v : Int) : putI f v ≠ [] := by
  cases f with
  | zero => simp [putI]
  | succ f => unfold putI; split <;> simp
theorem split128 (v p : Int) : v % 128 * p + v / 128 * (128 * p) = v * p := by
  have h : v = v % 128 + 128 * (v / 128) := (Int.emod_add_mul_ediv v 128).symm
  have e : v * p = (v % 128 + 128 * (v / 128)) * p := by rw [← h]
  rw [e, Int.add_mul, Int.mul_comm 128 (v / 128), Int.mul_assoc]

theorem pow_same (k : Nat) : (128 : Int) ^ k = 2 ^ (7 * k) := by
  rw [show (128 : Int) = 2 ^ 7 by decide, ← Int.pow_mul]

theorem scan_put : ∀ (f k : Nat) (u v : Int) (rest : List UInt8), k + f = 9 → 0 ≤ v → v * 2 ^ (7 * k) < 18446744073709551616 → (0 < k → v ≠ 0) →
    scan (f + 1) k u (bs (putI f v) ++ rest) = (0, u + v * 2 ^ (7 * k), k + (putI f v).length)
  | 0, k, u, v, rest, hk, h0, hb, hz => by
    obtain rfl : k = 9 := by omega
    have hv : v ≤ 1 := by
      have : (2 : Int) ^ (7 * 9) = 9223372036854775808 := by decide
      rw [this] at hb; omega
    have hb1 := byte_val v h0 (by omega)
    show scan 1 9 u (UInt8.ofNat v.toNat :: rest) = _
    rw [scan, hb1, if_neg (by omega), if_pos (by omega), if_neg (fun h => hz (by omega) h.1)]
    rfl
  | f + 1, k, u, v, rest, hk, h0, hb, hz => by
    have hp := (pow7_le k (by omega)).1
    by_cases hv : v < 128
    · have hb1 := byte_val v h0 (by omega)
      have e : putI (f + 1) v = [v] := by rw [putI, if_pos hv]
      rw [e]
      show scan (f + 1 + 1) k u (UInt8.ofNat v.toNat :: rest) = _
      rw [scan, hb1, if_neg (by omega), if_pos hv, if_neg (fun h => hz h.2 h.1)]
      rfl
    · have hb1 := byte_val (v % 128 + 128) (by omega) (by omega)
      have e : putI (f + 1) v = (v % 128 + 128) :: putI f (v / 128) := by rw [putI, if_neg hv]
      rw [e]
      show scan (f + 1 + 1) k u (UInt8.ofNat (v % 128 + 128).toNat :: (bs (putI f (v / 128)) ++ rest)) = _
      rw [scan, hb1, if_neg (by omega), if_neg (by omega), show v % 128 + 128 - 128 = v % 128 by omega]
      have hd : v / 128 * 128 ≤ v := Int.ediv_mul_le _ (by decide)
      have hb2 : v / 128 * 2 ^ (7 * (k + 1)) < 18446744073709551616 := by
        rw [pow7, ← Int.mul_assoc]
        exact Int.lt_of_le_of_lt (Int.mul_le_mul_of_nonneg_right hd (by omega)) hb
      rw [scan_put f (k + 1) _ (v / 128) rest (by omega) (by omega) hb2 (fun _ => by omega), pow7, Int.add_assoc, split128]
      simp; omega

theorem scan_cut : ∀ (f k : Nat) (u v : Int), k + f = 9 → 0 ≤ v → scan (f + 1) k u (bs (putI f v).dropLast) = (4, 0, 0)
  | 0, k, u, v, hk, h0 => rfl
  | f + 1, k, u, v, hk, h0 => by
    by_cases hv : v < 128
    · have e : putI (f + 1) v = [v] := by rw [putI, if_pos hv]
      rw [e]; rfl
    · have hb1 := byte_val (v % 128 + 128) (by omega) (by omega)
      have e : putI (f + 1) v = (v % 128 + 128) :: putI f (v / 128) := by rw [putI, if_neg hv]
      rw [e, List.dropLast_cons_of_ne_nil (putI_ne f _)]
      show scan (f + 1 + 1) k u (UInt8.ofNat (v % 128 + 128).toNat :: bs (putI f (v / 128)).dropLast) = _
      rw [scan, hb1, if_neg (by omega), if_neg (by omega)]
      exact scan_cut f (k + 1) _ (v / 128) (by omega) (by omega)

theorem unfold_fold (n : Int) : unfoldN (foldN n) = n := by
  unfold foldN; split
  · unfold unfoldN; rw [if_neg (by omega)]; omega
  · unfold unfoldN; rw [if_pos (by omega)]; omega

theorem putB_list (n : Int) : (putB n).data.toList = bs (putI 9 (foldN n)) := strOfNums_data _
theorem putB_len (n : Int) : (putB n).size = (putI 9 (foldN n)).length := strOfNums_size _

/-- A number's bytes with a text ahead of them and one behind. -/
theorem getN_put (n : Int) (h0 : -9223372036854775808 ≤ n) (h1 : n ≤ 9223372036854775807) (S : ByteArray) (a : Nat) (rest : List UInt8)
    (hS : S.data.toList.drop a = (putB n).data.toList ++ rest) (hz : S.size ≤ 8000) : getN S (a : Int) = (n, (a : Int) + ((putB n).size : Int), 0) := by
  have hf := foldN_bd h0 h1
  have hsc : scanAt S a = (0, foldN n, (putI 9 (foldN n)).length) := by
    unfold scanAt
    rw [hS, putB_list, scan_put 9 0 0 (foldN n) rest rfl hf.1 (by simp; omega) (fun h => by omega)]
    simp
  unfold getN
  rw [if_neg (by omega), if_neg (by omega), Int.toNat_natCast, hsc, if_pos rfl, unfold_fold, putB_len]

theorem getN_cut (n : Int) (S : ByteArray) (h0 : -9223372036854775808 ≤ n) (h1 : n ≤ 9223372036854775807) (hS : S.data.toList = bs (putI 9 (foldN n)).dropLast) (hz : S.size ≤ 8000) : getN S 0 = (0, 0, 4) := by
  have hf := foldN_bd h0 h1
  have hsc : scanAt S 0 = (4, 0, 0) := by
    unfold scanAt
    rw [List.drop_zero, hS]
    exact scan_cut 9 0 0 (foldN n) rfl hf.1
  unfold getN
  rw [if_neg (by omega), if_neg (by decide), show (0 : Int).toNat = 0 from rfl, hsc, if_neg (by decide)]
end Go.Proofs.YtonleickhincgaaGreatDoor
/-
  What a reader reads, as plain functions: a number, a text, up to the first fault.
-/
namespace Go.Proofs.YtonleickhincgaaGreatDoor
open Go.RowKit Go.Lib
set_option linter.unusedVariables false

/-! ### What is read -/
/-- GetText's answer in its three parts. -/
def getT (s : ByteArray) (a : Int) : ByteArray × Int × Int :=
  if (getN s a).2.2 ≠ 0 then (ByteArray.empty, 0, (getN s a).2.2)
  else if (getN s a).1 < 0 ∨ 8000 < (getN s a).1 then (ByteArray.empty, 0, 3)
  else if (s.size : Int) < (getN s a).2.1 + (getN s a).1 then (ByteArray.empty, 0, 4)
  else (s.extract (getN s a).2.1.toNat ((getN s a).2.1 + (getN s a).1).toNat, (getN s a).2.1 + (getN s a).1, 0)
theorem getT_val (s : ByteArray) (a : Int) : getTV s a = .agg #[.string (getT s a).1, .int .i64 (getT s a).2.1, .int .i64 (getT s a).2.2] := by
  unfold getTV getT
  split
  · rfl
  · split
    · rfl
    · split <;> rfl
theorem getN_place (s : ByteArray) (a : Int) (h : (getN s a).2.2 = 0) : 0 ≤ (getN s a).2.1 ∧ (getN s a).2.1 ≤ s.size := by
  rcases getN_cases s a with ⟨n, b, hg⟩ | ⟨c, hc, hg⟩
  · have := getN_ok hg
    rw [hg]; exact ⟨this.1, this.2.1⟩
  · rw [hg] at h; exact absurd h hc
theorem getT_place (s : ByteArray) (a : Int) (h : (getT s a).2.2 = 0) : 0 ≤ (getT s a).2.1 ∧ (getT s a).2.1 ≤ s.size := by
  have hp := getN_place s a
  unfold getT at h ⊢
  split at h
  · rename_i h1; exact absurd h h1
  · rename_i h1
    split at h
    · cases h
    · split at h
      · cases h
      · rename_i h2 h3
        rw [if_neg h1, if_neg h2, if_neg h3]
        have h4 := hp (by simpa using h1)
        show 0 ≤ (getN s a).2.1 + (getN s a).1 ∧ (getN s a).2.1 + (getN s a).1 ≤ _
        omega
def rnB (t : ByteArray) (a : Int) (bd : Bool) : Bool := bd || ((getN t a).2.2 != 0)
def rnN (t : ByteArray) (a : Int) (bd : Bool) : Int := if rnB t a bd = true then 0 else (getN t a).1
def rnA (t : ByteArray) (a : Int) (bd : Bool) : Int := if rnB t a bd = true then a else (getN t a).2.1
def rtB (t : ByteArray) (a : Int) (bd : Bool) : Bool := bd || ((getT t a).2.2 != 0)
def rtT (t : ByteArray) (a : Int) (bd : Bool) : ByteArray := if rtB t a bd = true then ByteArray.empty else (getT t a).1
def rtA (t : ByteArray) (a : Int) (bd : Bool) : Int := if rtB t a bd = true then a else (getT t a).2.1
end Go.Proofs.YtonleickhincgaaGreatDoor
/-
  Reading a number from a place of a text on: what rnN, rnA, rnB are where a number's own bytes stand.
-/
namespace Go.Proofs.YtonleickhincgaaGreatDoor
open Go.RowKit Go.Lib
set_option linter.unusedVariables false

/-- From the place a on these bytes stand in S. -/
def From (S : ByteArray) (a : Nat) (l : List UInt8) : Prop := S.data.toList.drop a = l
theorem From.skip {S : ByteArray} {a : Nat} {x l : List UInt8} (h : From S a (x ++ l)) : From S (a + x.length) l := by
  unfold From at *
  rw [← List.drop_drop, h]; simp
theorem sz_list (s : ByteArray) : s.data.toList.length = s.size := by simp
theorem From.len {S : ByteArray} {a : Nat} {x l : List UInt8} (h : From S a (x ++ l)) : a + x.length ≤ S.size ∨ x = [] := by
  unfold From at h
  have := congrArg List.length h
  rw [List.length_drop, sz_list, List.length_append] at this
  cases x with
  | nil => exact .inr rfl
  | cons c x => refine .inl ?_; simp at this ⊢; omega
theorem num_from {S : ByteArray} {a : Nat} {n : Int} {l : List UInt8} (hz : S.size ≤ 8000) (h0 : -9223372036854775808 ≤ n) (h1 : n ≤ 9223372036854775807) (h : From S a ((putB n).data.toList ++ l)) :
    rnN S a false = n ∧ rnA S a false = ((a + (putB n).size : Nat) : Int) ∧ rnB S a false = false ∧ From S (a + (putB n).size) l := by
  have hg := getN_put n h0 h1 S a l h hz
  have hb : rnB S a false = false := by unfold rnB; rw [hg]; rfl
  refine ⟨?_, ?_, hb, ?_⟩
  · unfold rnN; rw [if_neg (by rw [hb]; exact Bool.false_ne_true), hg]
  · unfold rnA; rw [if_neg (by rw [hb]; exact Bool.false_ne_true), hg]; simp
  · have := h.skip; rwa [sz_list] at this
end Go.Proofs.YtonleickhincgaaGreatDoor
/-
  Tombs in plain mathematics: a right one, its text, what is read of a text (number by number), the text cut behind each byte below 128, the kinds of leaves; and that both ways of reading come to the same.
-/
namespace Go.Proofs.YtonleickhincgaaGreatDoor
open Go.RowKit Go.Lib
set_option linter.unusedVariables false

structure Tmb where
  r : Int
  f : Int
  y : Int
  a : Int
def tmZ : Tmb := ⟨0, 0, 0, 0⟩
def tmB (t : Tmb) : Bool := decide (0 ≤ t.r) && decide (t.r ≤ 63) && (decide (0 ≤ t.f) && decide (t.f ≤ 2)) && (decide (1 ≤ t.y) && decide (t.y ≤ 2)) && (decide (0 ≤ t.a) && decide (t.a ≤ 1000000))
theorem tmB_iff (t : Tmb) : tmB t = true ↔ (0 ≤ t.r ∧ t.r ≤ 63) ∧ (0 ≤ t.f ∧ t.f ≤ 2) ∧ (1 ≤ t.y ∧ t.y ≤ 2) ∧ (0 ≤ t.a ∧ t.a ≤ 1000000) := by
  unfold tmB; simp [and_assoc]
theorem tmB_no {t : Tmb} (h : ¬ ((0 ≤ t.r ∧ t.r ≤ 63) ∧ (0 ≤ t.f ∧ t.f ≤ 2) ∧ (1 ≤ t.y ∧ t.y ≤ 2) ∧ (0 ≤ t.a ∧ t.a ≤ 1000000))) : tmB t = false := by
  cases e : tmB t with
  | false => rfl
  | true => exact absurd ((tmB_iff t).1 e) h
def tmRaw (t : Tmb) : ByteArray := ⟨#[116]⟩ ++ putB t.r ++ putB t.f ++ putB t.y ++ putB t.a
def tmT (t : Tmb) : ByteArray := if tmB t = true then tmRaw t else ByteArray.empty
def tmV (t : Tmb) : Value := .agg #[.int .i64 t.r, .int .i64 t.f, .int .i64 t.y, .int .i64 t.a]
def tmO (t : Tmb) (c : Int) : Value := .agg #[.int .i64 t.r, .int .i64 t.f, .int .i64 t.y, .int .i64 t.a, .int .i64 c]
theorem tmRaw_list (t : Tmb) : (tmRaw t).data.toList = 116 :: ((putB t.r).data.toList ++ ((putB t.f).data.toList ++ ((putB t.y).data.toList ++ ((putB t.a).data.toList ++ [])))) := by
  unfold tmRaw; simp [ByteArray.data_append]
theorem tmRaw_size (t : Tmb) : 1 ≤ (tmRaw t).size ∧ (tmRaw t).size ≤ 41 := by
  have h := congrArg List.length (tmRaw_list t)
  simp only [List.length_cons, List.length_append, sz_list, List.length_nil] at h
  have h1 := putB_size t.r
  have h2 := putB_size t.f
  have h3 := putB_size t.y
  have h4 := putB_size t.a
  omega
theorem tmT_size (t : Tmb) : (tmT t).size ≤ 41 := by
  unfold tmT; split
  · exact (tmRaw_size t).2
  · show 0 ≤ 41; omega

/-! ### Number by number -/
def trA1 (t : ByteArray) : Int := rnA t 1 false
def trB1 (t : ByteArray) : Bool := rnB t 1 false
def trA2 (t : ByteArray) : Int := rnA t (trA1 t) (trB1 t)
def trB2 (t : ByteArray) : Bool := rnB t (trA1 t) (trB1 t)
def trA3 (t : ByteArray) : Int := rnA t (trA2 t) (trB2 t)
def trB3 (t : ByteArray) : Bool := rnB t (trA2 t) (trB2 t)
def trT (t : ByteArray) : Tmb := ⟨rnN t 1 false, rnN t (trA1 t) (trB1 t), rnN t (trA2 t) (trB2 t), rnN t (trA3 t) (trB3 t)⟩
def trBd (t : ByteArray) : Bool := rnB t (trA3 t) (trB3 t)
def trBad (t : ByteArray) : Bool := trBd t || decide (t.size = 0) || !decide (tmT (trT t) = t)
def trC (t : ByteArray) : Int := if 8000 < t.size then 2 else if trBad t = true then 3 else 0
def trO (t : ByteArray) : Tmb := if trC t = 0 then trT t else tmZ
theorem rnA_top (t : ByteArray) (a : Int) (bd : Bool) (h : a ≤ 9223372036854775807) (ht : t.size ≤ 8000) : rnA t a bd ≤ 9223372036854775807 := by
  unfold rnA
  split
  · exact h
  · rename_i hb
    have : (getN t a).2.2 = 0 := by
      unfold rnB at hb
      simp at hb
      exact hb.2
    have := (getN_place t a this).2
    omega
theorem tm_read {T : Tmb} (h : tmB T = true) : trT (tmRaw T) = T ∧ trBd (tmRaw T) = false := by
  obtain ⟨⟨a0, a1⟩, ⟨b0, b1⟩, ⟨c0, c1⟩, d0, d1⟩ := (tmB_iff T).1 h
  have hz : (tmRaw T).size ≤ 8000 := by have := tmRaw_size T; omega
  have h1 : From (tmRaw T) 1 ((putB T.r).data.toList ++ ((putB T.f).data.toList ++ ((putB T.y).data.toList ++ ((putB T.a).data.toList ++ [])))) := by
    unfold From; rw [tmRaw_list]; rfl
  obtain ⟨p1, q1, r1, s1⟩ := num_from hz (by omega) (by omega) h1
  obtain ⟨p2, q2, r2, s2⟩ := num_from hz (by omega) (by omega) s1
  obtain ⟨p3, q3, r3, s3⟩ := num_from hz (by omega) (by omega) s2
  obtain ⟨p4, q4, r4, s4⟩ := num_from hz (by omega) (by omega) s3
  rw [show ((1 : Nat) : Int) = 1 from rfl] at p1 q1 r1
  have eA1 : trA1 (tmRaw T) = ((1 + (putB T.r).size : Nat) : Int) := q1
  have eB1 : trB1 (tmRaw T) = false := r1
  have eA2 : trA2 (tmRaw T) = ((1 + (putB T.r).size + (putB T.f).size : Nat) : Int) := by unfold trA2; rw [eA1, eB1]; exact q2
  have eB2 : trB2 (tmRaw T) = false := by unfold trB2; rw [eA1, eB1]; exact r2
  have eA3 : trA3 (tmRaw T) = ((1 + (putB T.r).size + (putB T.f).size + (putB T.y).size : Nat) : Int) := by unfold trA3; rw [eA2, eB2]; exact q3
  have eB3 : trB3 (tmRaw T) = false := by unfold trB3; rw [eA2, eB2]; exact r3
  refine ⟨?_, ?_⟩
  · unfold trT; rw [eA1, eB1, eA2, eB2, eA3, eB3, p1, p2, p3, p4]
  · unfold trBd; rw [eA3, eB3]; exact r4
theorem tr_sound {t : ByteArray} (h : trC t = 0) : t.size ≤ 8000 ∧ tmB (trT t) = true ∧ tmRaw (trT t) = t ∧ trO t = trT t := by
  have ho : trO t = trT t := if_pos h
  unfold trC at h
  split at h
  · cases h
  · rename_i h8
    split at h
    · cases h
    · rename_i hb
      unfold trBad at hb
      simp at hb
      obtain ⟨⟨-, h0⟩, hT⟩ := hb
      have hB : tmB (trT t) = true := by
        cases e : tmB (trT t) with
        | true => rfl
        | false =>
          unfold tmT at hT
          rw [e, if_neg Bool.false_ne_true] at hT
          exfalso; apply h0; rw [← hT]
      refine ⟨by omega, hB, ?_, ho⟩
      unfold tmT at hT
      rwa [if_pos hB] at hT
theorem tr_raw {T : Tmb} (h : tmB T = true) : trC (tmRaw T) = 0 ∧ trO (tmRaw T) = T := by
  obtain ⟨h1, h2⟩ := tm_read h
  have hz := tmRaw_size T
  have hc : trC (tmRaw T) = 0 := by
    unfold trC
    rw [if_neg (by omega), if_neg]
    unfold trBad tmT
    rw [h1, h2, if_pos h]
    have : (tmRaw T).size ≠ 0 := by omega
    simp [this]
  exact ⟨hc, by unfold trO; rw [if_pos hc, h1]⟩
theorem trC_cases (t : ByteArray) (h : t.size ≤ 8000) : trC t = 0 ∨ trC t = 3 := by
  unfold trC; rw [if_neg (by omega)]; split
  · exact .inr rfl
  · exact .inl rfl

/-! ### Cut behind each byte below 128 -/
def cutL : List UInt8 → List UInt8 → List ByteArray
  | _, [] => []
  | cur, b :: l => if b.toNat < 128 then ⟨(cur ++ [b]).toArray⟩ :: cutL [] l else cutL (cur ++ [b]) l
theorem cutL_high (xs : List UInt8) : ∀ (cur l : List UInt8), (∀ x ∈ xs, 128 ≤ x.toNat) → cutL cur (xs ++ l) = cutL (cur ++ xs) l := by
  induction xs with
  | nil => intro cur l _; simp
  | cons x xs ih =>
    intro cur l h
    have hx := h x (by simp)
    show cutL cur (x :: (xs ++ l)) = _
    rw [cutL, if_neg (by omega), ih _ _ (fun y hy => h y (by simp [hy]))]
    simp
theorem cutL_low (b : UInt8) (cur l : List UInt8) (h : b.toNat < 128) : cutL cur (b :: l) = ⟨(cur ++ [b]).toArray⟩ :: cutL [] l := by
  rw [cutL, if_pos h]
theorem cutL_len : ∀ (l cur : List UInt8), (cutL cur l).length ≤ l.length
  | [], cur => by simp [cutL]
  | b :: l, cur => by
    rw [cutL]
    split
    · have := cutL_len l []; simp; omega
    · have := cutL_len l (cur ++ [b]); simp; omega
def cutB (t : ByteArray) : List ByteArray := cutL [] t.data.toList
theorem cutB_len (t : ByteArray) : (cutB t).length ≤ t.size := by
  have := cutL_len t.data.toList []
  rwa [sz_list] at this
theorem putI_form : ∀ (f : Nat) (v : Int), 0 ≤ v → v < 128 ^ (f + 1) → ∃ (xs : List Int) (z : Int), putI f v = xs ++ [z] ∧ (∀ x ∈ xs, 128 ≤ x ∧ x ≤ 255) ∧ 0 ≤ z ∧ z < 128
  | 0, v, h0, h1 => ⟨[], v, rfl, by simp, h0, by simpa using h1⟩
  | f + 1, v, h0, h1 => by
    rw [putI]
    split
    · rename_i h; exact ⟨[], v, rfl, by simp, h0, h⟩
    · rename_i h
      have e : (128 : Int) ^ (f + 1 + 1) = 128 ^ (f + 1) * 128 := Int.pow_succ _ _
      obtain ⟨xs, z, e1, e2, e3⟩ := putI_form f (v / 128) (by omega) (Int.ediv_lt_of_lt_mul (by decide) (by rw [← e]; exact h1))
      refine ⟨(v % 128 + 128) :: xs, z, by rw [e1]; rfl, ?_, e3⟩
      intro x hx
      rcases List.mem_cons.1 hx with rfl | hx
      · omega
      · exact e2 x hx
theorem putB_form (n : Int) (h0 : -9223372036854775808 ≤ n) (h1 : n ≤ 9223372036854775807) : ∃ (xs : List UInt8) (z : UInt8), (putB n).data.toList = xs ++ [z] ∧ (∀ x ∈ xs, 128 ≤ x.toNat) ∧ z.toNat < 128 := by
  have hf := foldN_bd h0 h1
  obtain ⟨xs, z, e1, e2, e3, e4⟩ := putI_form 9 (foldN n) hf.1 (Int.lt_of_le_of_lt hf.2 (by decide))
  refine ⟨bs xs, UInt8.ofNat z.toNat, by rw [putB_list, e1]; simp [bs], ?_, ?_⟩
  · intro x hx
    obtain ⟨v, hv, rfl⟩ := List.mem_map.1 hx
    have := e2 v hv
    have := byte_val v (by omega) (by omega)
    omega
  · have := byte_val z (by omega) (by omega)
    omega
theorem cut_put (n : Int) (h0 : -9223372036854775808 ≤ n) (h1 : n ≤ 9223372036854775807) (l : List UInt8) : cutL [] ((putB n).data.toList ++ l) = putB n :: cutL [] l := by
  obtain ⟨xs, z, e, hx, hz⟩ := putB_form n h0 h1
  rw [e, List.append_assoc, cutL_high xs [] _ hx]
  show cutL ([] ++ xs) (z :: l) = _
  rw [cutL_low z _ _ hz]
  congr 1
  apply ByteArray.ext; apply Array.ext'
  rw [e]; simp
theorem cut_raw {T : Tmb} (h : tmB T = true) : cutB (tmRaw T) = [⟨#[116]⟩, putB T.r, putB T.f, putB T.y, putB T.a] := by
  obtain ⟨⟨a0, a1⟩, ⟨b0, b1⟩, ⟨c0, c1⟩, d0, d1⟩ := (tmB_iff T).1 h
  unfold cutB
  rw [tmRaw_list, cutL_low _ _ _ (by decide), cut_put _ (by omega) (by omega), cut_put _ (by omega) (by omega), cut_put _ (by omega) (by omega), cut_put _ (by omega) (by omega)]
  rfl
/-- What the program reads of the parts. -/
def ipT : List ByteArray → Tmb
  | [_, a, b, c, d] => ⟨(getN a 0).1, (getN b 0).1, (getN c 0).1, (getN d 0).1⟩
  | _ => tmZ
theorem getN_own (n : Int) (h0 : -9223372036854775808 ≤ n) (h1 : n ≤ 9223372036854775807) : (getN (putB n) 0).1 = n := by
  have := getN_put n h0 h1 (putB n) 0 [] (by simp) (by have := putB_size n; omega)
  rw [show ((0 : Nat) : Int) = 0 from rfl] at this
  rw [this]
theorem ip_raw {T : Tmb} (h : tmB T = true) : ipT (cutB (tmRaw T)) = T := by
  obtain ⟨⟨a0, a1⟩, ⟨b0, b1⟩, ⟨c0, c1⟩, d0, d1⟩ := (tmB_iff T).1 h
  rw [cut_raw h]
  show Tmb.mk (getN (putB T.r) 0).1 (getN (putB T.f) 0).1 (getN (putB T.y) 0).1 (getN (putB T.a) 0).1 = T
  rw [getN_own _ (by omega) (by omega), getN_own _ (by omega) (by omega), getN_own _ (by omega) (by omega), getN_own _ (by omega) (by omega)]
/-- Where the program's way takes a text, it is the one that is read number by number. -/
theorem ip_yes {t : ByteArray} (hz : t.size ≤ 8000) (hB : tmB (ipT (cutB t)) = true) (hT : tmRaw (ipT (cutB t)) = t) : trC t = 0 ∧ trO t = ipT (cutB t) := by
  have := tr_raw hB
  rwa [hT] at this
theorem ip_no {t : ByteArray} (hz : t.size ≤ 8000) (h : tmB (ipT (cutB t)) = false ∨ tmRaw (ipT (cutB t)) ≠ t) : trC t = 3 ∧ trO t = tmZ := by
  rcases trC_cases t hz with hc | hc
  · exfalso
    obtain ⟨-, h1, h2, -⟩ := tr_sound hc
    have h3 := ip_raw h1
    rw [h2] at h3
    rcases h with h | h
    · rw [h3, h1] at h; cases h
    · rw [h3, h2] at h; exact h rfl
  · exact ⟨hc, by unfold trO; rw [if_neg (by omega)]⟩
theorem ipT_not {ps : List ByteArray} (h : ps.length ≠ 5) : ipT ps = tmZ := by
  unfold ipT
  split
  · simp at h
  · rfl
theorem tmZ_no : tmB tmZ = false := rfl

/-! ### Kinds of leaves -/
def isRl (t : ByteArray) : Bool := decide (t.size = 33) && decide (t.data.toList.head? = some 101)
def lkB (t : ByteArray) : Int := if isRl t = true then 1 else if trC t = 0 then 2 else 0
theorem lk_raw {T : Tmb} (h : tmB T = true) : lkB (tmRaw T) = 2 := by
  unfold lkB isRl
  rw [tmRaw_list, (tr_raw h).1]
  simp
end Go.Proofs.YtonleickhincgaaGreatDoor
/-
  A log in plain mathematics: its rows and leaves as cells, when it is right (as the specification goes: each tomb is the first of its field), and that the program's way (marks of what was noted, held against what is gone) comes to the same.
-/
namespace Go.Proofs.YtonleickhincgaaGreatDoor
open Go.RowKit Go.Lib
set_option linter.unusedVariables false

/-- A row. -/
structure Rw where
  k : ByteArray
  a : Int
  fs : List Fld
/-- The cells that a slice of rows leads to hold these (of none nothing is asked). -/
def RwAt (w : World) (p : Option Addr) (rs : List Rw) : Prop :=
  ∀ i (h : i < rs.length), ∃ b off q c, p = some ⟨b, off, none⟩ ∧ b < w.heap.size ∧ w.cell? ⟨b, off + i * 3, none⟩ = some (.string rs[i].k) ∧ w.cell? ⟨b, off + i * 3 + 1, none⟩ = some (.int .i64 rs[i].a) ∧ w.cell? ⟨b, off + i * 3 + 2, none⟩ = some (.slice q rs[i].fs.length c) ∧ rs[i].fs.length ≤ c ∧ FldAt w q rs[i].fs
theorem RwAt.below {w w' : World} {p : Option Addr} {rs : List Rw} (h : RwAt w p rs) (hb : Below w.heap.size w w') : RwAt w' p rs := by
  intro i hi
  obtain ⟨b, off, q, c, rfl, h1, h2, h3, h4, h5, h6⟩ := h i hi
  exact ⟨b, off, q, c, rfl, Nat.lt_of_lt_of_le h1 hb.size, (hb.cell (p := ⟨b, off + i * 3, none⟩) h1).trans h2, (hb.cell (p := ⟨b, off + i * 3 + 1, none⟩) h1).trans h3, (hb.cell (p := ⟨b, off + i * 3 + 2, none⟩) h1).trans h4, h5, h6.below hb⟩
theorem RwAt.nil (w : World) (p : Option Addr) : RwAt w p [] := fun i h => by simp at h
theorem RwAt.some_of {w : World} {p : Option Addr} {rs : List Rw} (h : RwAt w p rs) (h0 : 0 < rs.length) : ∃ b off, p = some ⟨b, off, none⟩ ∧ b < w.heap.size := by
  obtain ⟨b, off, q, c, rfl, hb, -⟩ := h 0 h0
  exact ⟨b, off, rfl, hb⟩
theorem RwAt.at {w : World} {b off : Nat} {rs : List Rw} (h : RwAt w (some ⟨b, off, none⟩) rs) (i : Nat) (hi : i < rs.length) : ∃ q c, w.cell? ⟨b, off + i * 3, none⟩ = some (.string rs[i].k) ∧ w.cell? ⟨b, off + i * 3 + 1, none⟩ = some (.int .i64 rs[i].a) ∧ w.cell? ⟨b, off + i * 3 + 2, none⟩ = some (.slice q rs[i].fs.length c) ∧ rs[i].fs.length ≤ c ∧ FldAt w q rs[i].fs := by
  obtain ⟨b', off', q, c, h0, h1, h2⟩ := h i hi
  cases h0; exact ⟨q, c, h2⟩
/-- The texts of rows are no greater than the reach. -/
def RwsLe (rs : List Rw) : Prop := ∀ r ∈ rs, r.fs.length ≤ 1048576 ∧ r.k.size ≤ maxLen ∧ FldsLe r.fs
def TxtsLe (ss : List ByteArray) : Prop := ∀ s ∈ ss, s.size ≤ maxLen

/-! ### Right logs, as the specification goes -/
def fldZ : Fld := ⟨ByteArray.empty, ByteArray.empty, ByteArray.empty, ByteArray.empty, false⟩
def rwZ : Rw := ⟨ByteArray.empty, 0, []⟩
def rlB (r : Rw) : ByteArray := one101 ++ digB (lfT r.k r.a r.fs)
def rB (r : Rw) : Bool := rwB r.k r.a r.fs
/-- The leaf is the note of this field. -/
def tmHit (r f : Int) (t : ByteArray) : Bool := decide (trC t = 0) && (decide ((trO t).r = r) && decide ((trO t).f = f))
def tbFrom (r f : Int) : Nat → List ByteArray → Int
  | _, [] => -1
  | i, t :: ts => if tmHit r f t = true then (i : Int) else tbFrom r f (i + 1) ts
def tbAt (lv : List ByteArray) (r f : Int) : Int := tbFrom r f 0 lv
def fldOf (rs : List Rw) (r f : Int) : Fld := (rs.getD r.toNat rwZ).fs.getD f.toNat fldZ
def goneAt (rs : List Rw) (r f : Int) : Bool := decide (0 ≤ r ∧ r ≤ (rs.length : Int) - 1) && (decide (0 ≤ f ∧ f ≤ ((rs.getD r.toNat rwZ).fs.length : Int) - 1) && (fldOf rs r f).g)
def tbOk (rs : List Rw) (now : Int) (all : List ByteArray) (i n : Nat) (t : ByteArray) : Bool :=
  decide (trC t = 0) && (decide ((trO t).r < (n : Int)) && (goneAt rs (trO t).r (trO t).f && (decide ((trO t).a ≤ now) && decide (tbAt all (trO t).r (trO t).f = (i : Int)))))
def isNx (rs : List Rw) (n : Nat) (t : ByteArray) : Bool := decide (n < rs.length) && decide (t = rlB (rs.getD n rwZ))
def lvGo (rs : List Rw) (now : Int) (all : List ByteArray) : Nat → Nat → List ByteArray → Bool
  | _, n, [] => decide (n = rs.length)
  | i, n, t :: ts => if isNx rs n t = true then lvGo rs now all (i + 1) (n + 1) ts else if tbOk rs now all i n t = true then lvGo rs now all (i + 1) n ts else false
def rsB (rs : List Rw) (now : Int) : Bool := rs.all fun r => rB r && decide (r.a ≤ now)
def alB7 (lv : List ByteArray) (i : Nat) (fs : List Fld) : Bool := (List.range fs.length).all fun k => !(fs.getD k fldZ).g || decide (0 ≤ tbAt lv (i : Int) (k : Int))
def allB (rs : List Rw) (lv : List ByteArray) : Bool := (List.range rs.length).all fun i => alB7 lv i (rs.getD i rwZ).fs
def lgB (rs : List Rw) (lv : List ByteArray) (now : Int) : Bool :=
  decide (rs.length ≤ 6) && (decide (lv.length ≤ 64) && (timeB now && (rsB rs now && (lvGo rs now lv 0 0 lv && allB rs lv))))

/-! ### The program's way -/
def hitIn (pre : List ByteArray) (r f : Int) : Bool := pre.any (tmHit r f)
def mrkOf (pre : List ByteArray) : List Bool := (List.range 18).map fun j => hitIn pre ((j / 3 : Nat) : Int) ((j % 3 : Nat) : Int)
def goneM (rs : List Rw) : List Bool := (List.range 18).map fun j => (fldOf rs ((j / 3 : Nat) : Int) ((j % 3 : Nat) : Int)).g
def okT (now : Int) (pre : List ByteArray) (n : Nat) (t : ByteArray) : Bool :=
  decide (trC t = 0) && (decide ((trO t).r < (n : Int)) && (decide ((trO t).a ≤ now) && !hitIn pre (trO t).r (trO t).f))
def cGo (rs : List Rw) (now : Int) : List ByteArray → Nat → List ByteArray → Option Nat
  | _, n, [] => some n
  | pre, n, t :: ts => if isNx rs n t = true then cGo rs now (pre ++ [t]) (n + 1) ts else if okT now pre n t = true then cGo rs now (pre ++ [t]) n ts else none
def imB (rs : List Rw) (lv : List ByteArray) (now : Int) : Bool :=
  timeB now && ((decide (rs.length ≤ 6) && rsB rs now) && (match cGo rs now [] 0 lv with | some n => decide (n = rs.length) && decide (mrkOf lv = goneM rs) | none => false))

/-! ### Both come to the same -/
theorem lg_one (D : ByteArray) (h : D.size = 32) : isRl (one101 ++ D) = true := by
  unfold isRl
  rw [Bool.and_eq_true, decide_eq_true_iff, decide_eq_true_iff]
  constructor
  · rw [ByteArray.size_append, h]; rfl
  · simp [one101, ByteArray.data_append]
theorem rl_isRl (r : Rw) : isRl (rlB r) = true := lg_one _ (digB_size _)
theorem rl_lf {r : Rw} (h : rB r = true) : lfB r.k r.a r.fs = rlB r := by unfold rB at h; unfold lfB rlB; rw [if_pos h]
theorem tr_not_rl {t : ByteArray} (h : trC t = 0) : isRl t = false := by
  obtain ⟨-, hB, hR, -⟩ := tr_sound h
  have := lk_raw hB
  rw [hR] at this
  unfold lkB at this
  cases e : isRl t with
  | false => rfl
  | true => rw [e, if_pos rfl] at this; cases this
theorem lk_iff2 (t : ByteArray) : lkB t = 2 ↔ trC t = 0 := by
  constructor
  · intro h
    unfold lkB at h
    split at h
    · cases h
    · split at h
      · assumption
      · cases h
  · intro h
    unfold lkB
    rw [tr_not_rl h, if_neg Bool.false_ne_true, if_pos h]
theorem lk_iff1 (t : ByteArray) : lkB t = 1 ↔ isRl t = true := by
  constructor
  · intro h
    unfold lkB at h
    split at h
    · assumption
    · split at h <;> cases h
  · intro h; unfold lkB; rw [if_pos h]
theorem rl_tr (r : Rw) : ¬ trC (rlB r) = 0 := fun h => by have := rl_isRl r; rw [tr_not_rl h] at this; cases this
theorem tmHit_iff (r f : Int) (t : ByteArray) : tmHit r f t = true ↔ trC t = 0 ∧ (trO t).r = r ∧ (trO t).f = f := by unfold tmHit; simp
theorem hit_iff (pre : List ByteArray) (r f : Int) : hitIn pre r f = true ↔ ∃ t ∈ pre, tmHit r f t = true := by unfold hitIn; simp
theorem hit_snoc (pre : List ByteArray) (t : ByteArray) (r f : Int) : hitIn (pre ++ [t]) r f = (hitIn pre r f || tmHit r f t) := by unfold hitIn; simp
theorem tb_nonneg (r f : Int) : ∀ (i : Nat) (lv : List ByteArray), 0 ≤ tbFrom r f i lv ↔ hitIn lv r f = true
  | i, [] => by simp [tbFrom, hitIn]
  | i, t :: ts => by
    rw [tbFrom]
    split
    · rename_i h; simp [hitIn, h]
    · rename_i h
      rw [tb_nonneg r f (i + 1) ts]
      simp [hitIn, h]
theorem tb_ge (r f : Int) : ∀ (i : Nat) (lv : List ByteArray), tbFrom r f i lv = -1 ∨ (i : Int) ≤ tbFrom r f i lv
  | i, [] => .inl rfl
  | i, t :: ts => by
    rw [tbFrom]
    split
    · exact .inr (Int.le_refl _)
    · rcases tb_ge r f (i + 1) ts with h | h
      · exact .inl h
      · exact .inr (by omega)
theorem tb_here (r f : Int) (t : ByteArray) (ts : List ByteArray) (ht : tmHit r f t = true) : ∀ (i : Nat) (pre : List ByteArray), tbFrom r f i (pre ++ t :: ts) = ((i + pre.length : Nat) : Int) ↔ hitIn pre r f = false
  | i, [] => by simp [tbFrom, ht, hitIn]
  | i, p :: pre => by
    rw [List.cons_append, tbFrom]
    split
    · rename_i h
      simp only [hitIn, List.any_cons, h, Bool.true_or, List.length_cons]
      constructor
      · intro e; omega
      · intro e; cases e
    · rename_i h
      have := tb_here r f t ts ht (i + 1) pre
      rw [show i + 1 + pre.length = i + (pre.length + 1) by omega] at this
      rw [List.length_cons, this]
      simp [hitIn, h]
theorem tbAt_here {pre ts : List ByteArray} {t : ByteArray} {r f : Int} (ht : tmHit r f t = true) : tbAt (pre ++ t :: ts) r f = (pre.length : Int) ↔ hitIn pre r f = false := by
  have := tb_here r f t ts ht 0 pre
  rwa [Nat.zero_add] at this
theorem hit_self {t : ByteArray} (h : trC t = 0) : tmHit (trO t).r (trO t).f t = true := (tmHit_iff _ _ _).2 ⟨h, rfl, rfl⟩
theorem nx_iff (rs : List Rw) (n : Nat) (t : ByteArray) : isNx rs n t = true ↔ n < rs.length ∧ t = rlB (rs.getD n rwZ) := by unfold isNx; simp
theorem nx_tr {rs : List Rw} {n : Nat} {t : ByteArray} (h : isNx rs n t = true) : ¬ trC t = 0 := by
  rw [((nx_iff _ _ _).1 h).2]; exact rl_tr _
theorem tbOk_iff (rs : List Rw) (now : Int) (pre ts : List ByteArray) (n : Nat) (t : ByteArray) : tbOk rs now (pre ++ t :: ts) pre.length n t = true ↔ okT now pre n t = true ∧ (trC t = 0 → goneAt rs (trO t).r (trO t).f = true) := by
  unfold tbOk okT
  simp only [Bool.and_eq_true, decide_eq_true_iff, Bool.not_eq_true']
  constructor
  · rintro ⟨h1, h2, h3, h4, h5⟩
    exact ⟨⟨h1, h2, h4, (tbAt_here (hit_self h1)).1 h5⟩, fun _ => h3⟩
  · rintro ⟨⟨h1, h2, h3, h4⟩, h5⟩
    exact ⟨h1, h2, h5 h1, h3, (tbAt_here (hit_self h1)).2 h4⟩
theorem go_iff (rs : List Rw) (now : Int) (all : List ByteArray) : ∀ (suf pre : List ByteArray) (n : Nat), all = pre ++ suf → (lvGo rs now all pre.length n suf = true ↔ cGo rs now pre n suf = some rs.length ∧ ∀ t ∈ suf, trC t = 0 → goneAt rs (trO t).r (trO t).f = true)
  | [], pre, n, _ => by simp [lvGo, cGo]
  | t :: ts, pre, n, e => by
    rw [lvGo, cGo]
    have ih := go_iff rs now all ts (pre ++ [t])
    simp only [List.length_append, List.length_cons, List.length_nil, Nat.zero_add] at ih
    by_cases h : isNx rs n t = true
    · rw [if_pos h, if_pos h, ih (n + 1) (by rw [e]; simp)]
      constructor
      · rintro ⟨h1, h2⟩
        refine ⟨h1, fun x hx hc => ?_⟩
        rcases List.mem_cons.1 hx with rfl | hx
        · exact absurd hc (nx_tr h)
        · exact h2 x hx hc
      · rintro ⟨h1, h2⟩
        exact ⟨h1, fun x hx hc => h2 x (List.mem_cons_of_mem _ hx) hc⟩
    · rw [if_neg h, if_neg h, e, ]
      have hk := tbOk_iff rs now pre ts n t
      by_cases h2 : okT now pre n t = true
      · rw [if_pos h2]
        by_cases h3 : trC t = 0 → goneAt rs (trO t).r (trO t).f = true
        · rw [if_pos (hk.2 ⟨h2, h3⟩), ← e, ih n (by rw [e]; simp)]
          constructor
          · rintro ⟨g1, g2⟩
            refine ⟨g1, fun x hx hc => ?_⟩
            rcases List.mem_cons.1 hx with rfl | hx
            · exact h3 hc
            · exact g2 x hx hc
          · rintro ⟨g1, g2⟩
            exact ⟨g1, fun x hx hc => g2 x (List.mem_cons_of_mem _ hx) hc⟩
        · rw [if_neg (fun q => h3 (hk.1 q).2)]
          constructor
          · intro q; cases q
          · rintro ⟨-, g⟩
            exact absurd (g t (by simp)) h3
      · rw [if_neg h2, if_neg (fun q => h2 (hk.1 q).1)]
        simp
theorem cGo_parts (rs : List Rw) (now : Int) : ∀ (suf pre : List ByteArray) (n n' : Nat), cGo rs now pre n suf = some n' → n ≤ n' ∧ (n ≤ rs.length → n' ≤ rs.length) ∧ ∀ t ∈ suf, trC t = 0 → (trO t).r < (n' : Int)
  | [], pre, n, n', h => by
    simp only [cGo, Option.some.injEq] at h
    subst h
    exact ⟨Nat.le_refl _, id, fun t h => by cases h⟩
  | t :: ts, pre, n, n', h => by
    rw [cGo] at h
    split at h
    · rename_i hn
      obtain ⟨h1, h2, h3⟩ := cGo_parts rs now ts _ _ _ h
      have hl := ((nx_iff _ _ _).1 hn).1
      refine ⟨by omega, fun _ => h2 (by omega), fun x hx hc => ?_⟩
      rcases List.mem_cons.1 hx with rfl | hx
      · exact absurd hc (nx_tr hn)
      · exact h3 x hx hc
    · split at h
      · rename_i hn ho
        obtain ⟨h1, h2, h3⟩ := cGo_parts rs now ts _ _ _ h
        refine ⟨h1, h2, fun x hx hc => ?_⟩
        rcases List.mem_cons.1 hx with rfl | hx
        · unfold okT at ho
          simp only [Bool.and_eq_true, decide_eq_true_iff] at ho
          have := ho.2.1
          omega
        · exact h3 x hx hc
      · cases h
theorem mrk_len (pre : List ByteArray) : (mrkOf pre).length = 18 := by simp [mrkOf]
theorem goneM_len (rs : List Rw) : (goneM rs).length = 18 := by simp [goneM]
theorem mrk_get (pre : List ByteArray) (j : Nat) (h : j < (mrkOf pre).length) : (mrkOf pre)[j] = hitIn pre ((j / 3 : Nat) : Int) ((j % 3 : Nat) : Int) := by simp [mrkOf]
theorem gone_get (rs : List Rw) (j : Nat) (h : j < (goneM rs).length) : (goneM rs)[j] = (fldOf rs ((j / 3 : Nat) : Int) ((j % 3 : Nat) : Int)).g := by simp [goneM]
theorem tr_range {t : ByteArray} (h : trC t = 0) : (0 ≤ (trO t).r ∧ (trO t).r ≤ 63) ∧ (0 ≤ (trO t).f ∧ (trO t).f ≤ 2) := by
  obtain ⟨-, hB, -, ho⟩ := tr_sound h
  have := (tmB_iff _).1 hB
  rw [ho]; exact ⟨this.1, this.2.1⟩
theorem mrk_no {pre : List ByteArray} {t : ByteArray} (h : ¬ trC t = 0) : mrkOf (pre ++ [t]) = mrkOf pre := by
  unfold mrkOf
  apply List.map_congr_left
  intro j _
  rw [hit_snoc]
  have : tmHit ((j / 3 : Nat) : Int) ((j % 3 : Nat) : Int) t = false := by unfold tmHit; rw [decide_eq_false h]; rfl
  rw [this, Bool.or_false]
def mkAt (t : ByteArray) : Nat := (trO t).r.toNat * 3 + (trO t).f.toNat
theorem mrk_yes {pre : List ByteArray} {t : ByteArray} (h : trC t = 0) : mrkOf (pre ++ [t]) = (mrkOf pre).set (mkAt t) true := by
  obtain ⟨⟨r0, r1⟩, f0, f1⟩ := tr_range h
  apply List.ext_getElem
  · simp [mrk_len]
  · intro j h1 h2
    rw [mrk_get, List.getElem_set, hit_snoc]
    have hj : j < 18 := by rw [mrk_len] at h1; exact h1
    by_cases e : mkAt t = j
    · rw [if_pos e]
      have : tmHit ((j / 3 : Nat) : Int) ((j % 3 : Nat) : Int) t = true := by
        rw [tmHit_iff]
        unfold mkAt at e
        exact ⟨h, by omega, by omega⟩
      rw [this, Bool.or_true]
    · rw [if_neg e, mrk_get]
      have : tmHit ((j / 3 : Nat) : Int) ((j % 3 : Nat) : Int) t = false := by
        cases q : tmHit ((j / 3 : Nat) : Int) ((j % 3 : Nat) : Int) t with
        | false => rfl
        | true =>
          obtain ⟨-, q1, q2⟩ := (tmHit_iff _ _ _).1 q
          exfalso; apply e; unfold mkAt; omega
      rw [this, Bool.or_false]
theorem mrk_at {pre : List ByteArray} {t : ByteArray} (h : trC t = 0) (h6 : (trO t).r < 6) : (mrkOf pre)[mkAt t]? = some (hitIn pre (trO t).r (trO t).f) := by
  obtain ⟨⟨r0, r1⟩, f0, f1⟩ := tr_range h
  have hj : mkAt t < (mrkOf pre).length := by rw [mrk_len]; unfold mkAt; omega
  rw [List.getElem?_eq_getElem hj, mrk_get]
  have e1 : ((mkAt t / 3 : Nat) : Int) = (trO t).r := by unfold mkAt; omega
  have e2 : ((mkAt t % 3 : Nat) : Int) = (trO t).f := by unfold mkAt; omega
  rw [e1, e2]
theorem cGo_len (rs : List Rw) (now : Int) (h6 : rs.length ≤ 6) : ∀ (suf pre : List ByteArray) (n n' : Nat), n ≤ rs.length → cGo rs now pre n suf = some n' → suf.length + n + (mrkOf pre).count true = n' + (mrkOf (pre ++ suf)).count true
  | [], pre, n, n', _, h => by
    simp only [cGo, Option.some.injEq] at h
    subst h
    simp
  | t :: ts, pre, n, n', hn, h => by
    rw [cGo] at h
    split at h
    · rename_i hx
      have := cGo_len rs now h6 ts (pre ++ [t]) (n + 1) n' (by have := ((nx_iff _ _ _).1 hx).1; omega) h
      rw [mrk_no (nx_tr hx), List.append_assoc] at this
      simp only [List.cons_append, List.nil_append] at this
      rw [← this]; simp; omega
    · split at h
      · rename_i hx ho
        have := cGo_len rs now h6 ts (pre ++ [t]) n n' hn h
        unfold okT at ho
        simp only [Bool.and_eq_true, decide_eq_true_iff, Bool.not_eq_true'] at ho
        obtain ⟨hc, hr, -, hh⟩ := ho
        have hm := mrk_at (pre := pre) hc (by omega)
        rw [hh] at hm
        have hl : mkAt t < (mrkOf pre).length := by
          rcases Nat.lt_or_ge (mkAt t) (mrkOf pre).length with q | q
          · exact q
          · rw [List.getElem?_eq_none q] at hm; cases hm
        rw [List.getElem?_eq_getElem hl] at hm
        have hg : (mrkOf pre)[mkAt t] = false := Option.some.inj hm
        rw [mrk_yes hc, List.append_assoc, List.count_set hl, hg] at this
        simp only [List.cons_append, List.nil_append] at this
        simp at this
        rw [← this]; simp; omega
      · cases h
theorem fld_of_gone {rs : List Rw} {r f : Int} (h0 : 0 ≤ r) (h1 : 0 ≤ f) : goneAt rs r f = true ↔ (fldOf rs r f).g = true := by
  unfold goneAt
  simp only [Bool.and_eq_true, decide_eq_true_iff]
  constructor
  · exact fun h => h.2.2
  · intro h
    have h2 : r.toNat < rs.length := by
      rcases Nat.lt_or_ge r.toNat rs.length with q | q
      · exact q
      · exfalso
        unfold fldOf at h
        rw [List.getD_eq_getElem?_getD, List.getD_eq_getElem?_getD, List.getElem?_eq_none q] at h
        simp [rwZ, fldZ] at h
    have h3 : f.toNat < (rs.getD r.toNat rwZ).fs.length := by
      rcases Nat.lt_or_ge f.toNat (rs.getD r.toNat rwZ).fs.length with q | q
      · exact q
      · exfalso
        unfold fldOf at h
        rw [List.getD_eq_getElem?_getD (l := (rs.getD r.toNat rwZ).fs), List.getElem?_eq_none q] at h
        simp [fldZ] at h
    exact ⟨⟨h0, by omega⟩, ⟨h1, by omega⟩, h⟩
theorem allB_iff (rs : List Rw) (lv : List ByteArray) : allB rs lv = true ↔ ∀ r f : Nat, (fldOf rs (r : Int) (f : Int)).g = true → hitIn lv (r : Int) (f : Int) = true := by
  unfold allB alB7
  simp only [List.all_eq_true, List.mem_range, Bool.or_eq_true, Bool.not_eq_true', decide_eq_true_iff]
  constructor
  · intro h r f hg
    obtain ⟨g1, g2, -⟩ := by
      have := (fld_of_gone (rs := rs) (r := (r : Int)) (f := (f : Int)) (by omega) (by omega)).2 hg
      unfold goneAt at this
      simpa only [Bool.and_eq_true, decide_eq_true_iff] using this
    simp only [Int.toNat_natCast] at g2
    rcases h r (by omega) f (by omega) with q | q
    · unfold fldOf at hg
      simp only [Int.toNat_natCast] at hg
      rw [hg] at q; cases q
    · exact (tb_nonneg _ _ 0 lv).1 q
  · intro h i hi k hk
    cases hg : ((rs.getD i rwZ).fs.getD k fldZ).g with
    | false => exact .inl rfl
    | true =>
      right
      refine (tb_nonneg _ _ 0 lv).2 (h i k ?_)
      unfold fldOf
      simpa only [Int.toNat_natCast] using hg
theorem lg_eq (rs : List Rw) (lv : List ByteArray) (now : Int) : lgB rs lv now = imB rs lv now := by
  rw [Bool.eq_iff_iff]
  unfold lgB imB
  simp only [Bool.and_eq_true, decide_eq_true_iff]
  have gi := go_iff rs now lv lv [] 0 (by simp)
  simp only [List.length_nil] at gi
  constructor
  · rintro ⟨h6, -, ht, hr, hl, ha⟩
    obtain ⟨g1, g2⟩ := gi.1 hl
    refine ⟨ht, ⟨h6, hr⟩, ?_⟩
    rw [g1]
    simp only [Bool.and_eq_true, decide_eq_true_iff, true_and]
    apply List.ext_getElem
    · rw [mrk_len, goneM_len]
    · intro j h1 h2
      rw [mrk_get, gone_get, Bool.eq_iff_iff]
      constructor
      · intro h
        obtain ⟨t, ht1, ht2⟩ := (hit_iff _ _ _).1 h
        obtain ⟨e0, e1, e2⟩ := (tmHit_iff _ _ _).1 ht2
        have := g2 t ht1 e0
        rw [e1, e2] at this
        exact (fld_of_gone (by omega) (by omega)).1 this
      · exact fun h => (allB_iff rs lv).1 ha _ _ h
  · rintro ⟨ht, ⟨h6, hr⟩, hm⟩
    cases hc : cGo rs now [] 0 lv with
    | none => rw [hc] at hm; cases hm
    | some n =>
      rw [hc] at hm
      simp only [Bool.and_eq_true, decide_eq_true_iff] at hm
      obtain ⟨rfl, hm⟩ := hm
      obtain ⟨-, -, hlt⟩ := cGo_parts rs now lv [] 0 _ hc
      have hlen := cGo_len rs now h6 lv [] 0 _ (Nat.zero_le _) hc
      have hc18 : (mrkOf ([] ++ lv)).count true ≤ 18 := Nat.le_trans List.count_le_length (by rw [mrk_len]; exact Nat.le_refl _)
      have key : ∀ r f : Nat, r < 6 → f < 3 → hitIn lv (r : Int) (f : Int) = (fldOf rs (r : Int) (f : Int)).g := fun r f h1 h2 => by
        have e : (mrkOf lv)[r * 3 + f]? = (goneM rs)[r * 3 + f]? := by rw [hm]
        rw [List.getElem?_eq_getElem (by rw [mrk_len]; omega), List.getElem?_eq_getElem (by rw [goneM_len]; omega), mrk_get, gone_get] at e
        have e1 : (r * 3 + f) / 3 = r := by omega
        have e2 : (r * 3 + f) % 3 = f := by omega
        rw [e1, e2] at e
        exact Option.some.inj e
      refine ⟨h6, by omega, ht, hr, gi.2 ⟨hc, fun t ht hz => ?_⟩, ?_⟩
      · obtain ⟨⟨r0, -⟩, f0, f1⟩ := tr_range hz
        have hr6 := hlt t ht hz
        have := key (trO t).r.toNat (trO t).f.toNat (by omega) (by omega)
        rw [Int.toNat_of_nonneg r0, Int.toNat_of_nonneg f0] at this
        rw [fld_of_gone r0 f0, ← this]
        exact (hit_iff _ _ _).2 ⟨t, ht, hit_self hz⟩
      · rw [allB_iff]
        intro r f hg
        have hb := (fld_of_gone (rs := rs) (r := (r : Int)) (f := (f : Int)) (by omega) (by omega)).2 hg
        unfold goneAt at hb
        simp only [Bool.and_eq_true, decide_eq_true_iff] at hb
        obtain ⟨b1, b2, -⟩ := hb
        simp only [Int.toNat_natCast] at b2
        have hrl : r < rs.length := by omega
        have hf3 : (rs.getD r rwZ).fs.length ≤ 3 := by
          unfold rsB at hr
          rw [List.all_eq_true] at hr
          have := hr (rs.getD r rwZ) (by rw [List.getD_eq_getElem?_getD, List.getElem?_eq_getElem hrl]; exact List.getElem_mem hrl)
          rw [Bool.and_eq_true] at this
          exact (rwB_parts this.1).2.2.1.2
        rw [key r f (by omega) (by omega)]
        exact hg
end Go.Proofs.YtonleickhincgaaGreatDoor
