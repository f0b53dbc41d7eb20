/-
  Parts of one proof, laid as one text: GetTextI, TextMath; what each says stands at its head.
-/
import Derived.Test.YtkhffoailfnepakGreatDoorRows
import Derived.Test.YtkhffoailfnepakGreatDoorBytesDigMath
import Derived.Test.YtkhffoailfnepakGreatDoorScanMathNumMathNumInv
import Derived.Test.YtkhffoailfnepakGreatDoorGetValAsDAs2CodeOfGetNumI
import Derived.Test.YtkhffoailfnepakGreatDoorFourJoinedSealOwnB
import Derived.Handy
import Derived.WalkSpells
import Derived.Deep.RegionHeld3
import Derived.Test.YtkhffoailfnepakGreatDoorPutTextAreaAAreaF
/-
  What GetText answers, in the program and in the specification: 'getTV' of the text and the place.
  Conditions: the string fits the form's own reach; the place is an int64; for the program's: the variable errors.errorType holds the handle of the type error.
-/
namespace Go.Proofs.YtkhffoailfnepakGreatDoor
open Go.RowKit Go.Extern.Stop Go.Stop Go.Extern
set_option linter.unusedVariables false

def txt (t : ByteArray) (a c : Int) : Value := .agg #[.string t, .int .i64 a, .int .i64 c]
def getTV (s : ByteArray) (a : Int) : Value :=
  if (getN s a).2.2 ≠ 0 then txt ByteArray.empty 0 (getN s a).2.2
  else if (getN s a).1 < 0 ∨ 8000 < (getN s a).1 then txt ByteArray.empty 0 3
  else if (s.size : Int) < (getN s a).2.1 + (getN s a).1 then txt ByteArray.empty 0 4
  else txt (s.extract (getN s a).2.1.toNat ((getN s a).2.1 + (getN s a).1).toNat) ((getN s a).2.1 + (getN s a).1) 0

theorem held_free {w1 w2 : World} {cs : Array Value} {T : TypeId} (hb : Below (w1.alloc (.cells cs T)).heap.size (w1.alloc (.cells cs T)) w2) (o : Obj) (i : Nat) :
    (w2.alloc o).frozen? ⟨w1.heap.size, i, none⟩ = false := by
  have h1 : (w1.alloc (.cells cs T)).heap.size ≤ w2.heap.size := hb.size
  have hlt : w1.heap.size < w2.heap.size := by simp at h1; omega
  have h2 : (w2.alloc o).frozen? ⟨w1.heap.size, i, none⟩ = w2.frozen? ⟨w1.heap.size, i, none⟩ :=
    ((Below.refl _ _).alloc (Nat.le_refl _) o : Below w2.heap.size w2 (w2.alloc o)).frozen (p := ⟨w1.heap.size, i, none⟩) hlt
  rw [h2, hb.frozen (p := ⟨w1.heap.size, i, none⟩) (by simp)]
  have e := (MapKept.heap_alloc w1 (.cells cs T)).1
  unfold World.frozen?
  rw [e]
  simp

theorem unfoldN_bd {u : Int} (h0 : 0 ≤ u) (h1 : u ≤ 18446744073709551615) : -9223372036854775808 ≤ unfoldN u ∧ unfoldN u ≤ 9223372036854775807 := by
  unfold unfoldN; split <;> omega
theorem getN_ok {s : ByteArray} {a n b : Int} (h : getN s a = (n, b, 0)) : 0 ≤ b ∧ b ≤ s.size ∧ s.size ≤ 8000 ∧ -9223372036854775808 ≤ n ∧ n ≤ 9223372036854775807 := by
  unfold getN at h
  split at h
  · cases h
  · split at h
    · cases h
    · rename_i h8 h0
      split at h
      · rename_i hc
        rcases scanAt_bd s a.toNat with hb | hb
        · have hu := unfoldN_bd hb.2.1 hb.2.2.1
          have hz := hb.2.2.2.2
          cases h
          omega
        · have := hb.1; omega
      · rename_i hc
        have h3 := congrArg (fun x : Int × Int × Int => x.2.2) h
        exact absurd h3 hc

theorem getTV_bad {s : ByteArray} {a c : Int} (h : getN s a = (0, 0, c)) (hc : c ≠ 0) : getTV s a = txt ByteArray.empty 0 c := by unfold getTV; rw [h, if_pos hc]
theorem getTV_syn {s : ByteArray} {a n b : Int} (h : getN s a = (n, b, 0)) (hn : n < 0 ∨ 8000 < n) : getTV s a = txt ByteArray.empty 0 3 := by
  unfold getTV; rw [h, if_neg (by simp), if_pos hn]
theorem getTV_short {s : ByteArray} {a n b : Int} (h : getN s a = (n, b, 0)) (hn : ¬ (n < 0 ∨ 8000 < n)) (hl : (s.size : Int) < b + n) : getTV s a = txt ByteArray.empty 0 4 := by
  unfold getTV; rw [h, if_neg (by simp), if_neg hn, if_pos hl]
theorem getTV_ok {s : ByteArray} {a n b : Int} (h : getN s a = (n, b, 0)) (hn : ¬ (n < 0 ∨ 8000 < n)) (hl : ¬ (s.size : Int) < b + n) : getTV s a = txt (s.extract b.toNat (b + n).toNat) (b + n) 0 := by
  unfold getTV; rw [h, if_neg (by simp), if_neg hn, if_neg hl]

def rtBad (c : Int) : Value := .tuple #[.string ByteArray.empty, .int .i64 0, .iface 115 (.agg #[.int .i64 c])]
def rtOk (t : ByteArray) (a : Int) : Value := .tuple #[.string t, .int .i64 a, .nilIface]
/-- What readText hands back, and GetText's answer beside it. -/
def ReadsTo (s : ByteArray) (a : Int) (v : Value) : Prop :=
  (∃ c, v = rtBad c ∧ getTV s a = txt ByteArray.empty 0 c) ∨ (∃ t b, v = rtOk t b ∧ getTV s a = txt t b 0)

theorem getTV_agg (s : ByteArray) (a : Int) : ∃ t b c, getTV s a = .agg #[.string t, .int .i64 b, .int .i64 c] := by
  unfold getTV; split
  · exact ⟨_, _, _, rfl⟩
  · split
    · exact ⟨_, _, _, rfl⟩
    · split
      · exact ⟨_, _, _, rfl⟩
      · exact ⟨_, _, _, rfl⟩
end Go.Proofs.YtkhffoailfnepakGreatDoor
/-
  Texts come back from their bytes, over what PutText and GetText answer.
-/
namespace Go.Proofs.YtkhffoailfnepakGreatDoor
open Go.RowKit Go.Lib
set_option linter.unusedVariables false

theorem cut_list (S : ByteArray) : (S.extract 0 (S.size - 1)).data.toList = S.data.toList.dropLast := by
  rw [extract_data, List.drop_zero, List.dropLast_eq_take, size_eq]; rfl
theorem cut_size (S : ByteArray) : (S.extract 0 (S.size - 1)).size = S.size - 1 := by simp

theorem num_back (n : Int) (h0 : -9223372036854775808 ≤ n) (h1 : n ≤ 9223372036854775807) :
    getV (⟨#[120, 121]⟩ ++ putB n ++ ⟨#[122]⟩) 2 = .agg #[.int .i64 n, .int .i64 (((putB n).size : Int) + 2), .int .i64 0] := by
  have hp := putB_size n
  have hz : (⟨#[120, 121]⟩ ++ putB n ++ ⟨#[122]⟩ : ByteArray).size = (putB n).size + 3 := by
    rw [ByteArray.size_append, ByteArray.size_append]; show 2 + (putB n).size + 1 = _; omega
  have h := getN_put n h0 h1 (⟨#[120, 121]⟩ ++ putB n ++ ⟨#[122]⟩) 2 [122] (by simp) (by omega)
  unfold getV
  rw [show ((2 : Nat) : Int) = 2 from rfl] at h
  rw [h]
  show numOut n (2 + ((putB n).size : Int)) 0 = _
  unfold numOut; rw [Int.add_comm]
theorem num_cut (n : Int) (h0 : -9223372036854775808 ≤ n) (h1 : n ≤ 9223372036854775807) :
    getV ((putB n).extract 0 ((putB n).size - 1)) 0 = .agg #[.int .i64 0, .int .i64 0, .int .i64 4] := by
  have hp := putB_size n
  have h := getN_cut n ((putB n).extract 0 ((putB n).size - 1)) h0 h1 (by
    rw [cut_list, putB_list]; unfold bs; rw [List.map_dropLast]) (by rw [cut_size]; omega)
  unfold getV; rw [h]; rfl
theorem putB_pos (n : Int) : 1 ≤ (putB n).size := by
  rw [putB_len]
  have := putI_ne 9 (foldN n)
  cases h : putI 9 (foldN n) with
  | nil => exact absurd h this
  | cons => simp

theorem text_back (u : ByteArray) (hm : u.size ≤ 100) :
    getTV (⟨#[120]⟩ ++ (putB (u.size : Int) ++ u)) 1 = .agg #[.string u, .int .i64 (((putB (u.size : Int) ++ u).size : Int) + 1), .int .i64 0] := by
  have hp := putB_size (u.size : Int)
  have hz : (⟨#[120]⟩ ++ (putB (u.size : Int) ++ u) : ByteArray).size = 1 + ((putB (u.size : Int)).size + u.size) := by
    rw [ByteArray.size_append, ByteArray.size_append]; rfl
  have hz2 : (putB (u.size : Int) ++ u).size = (putB (u.size : Int)).size + u.size := by simp
  have h := getN_put (u.size : Int) (by omega) (by omega) (⟨#[120]⟩ ++ (putB (u.size : Int) ++ u)) 1 u.data.toList (by simp) (by omega)
  rw [show ((1 : Nat) : Int) = 1 from rfl] at h
  rw [getTV_ok h (by omega) (by omega)]
  have e : (⟨#[120]⟩ ++ (putB (u.size : Int) ++ u) : ByteArray).extract (1 + ((putB (u.size : Int)).size : Int)).toNat (1 + ((putB (u.size : Int)).size : Int) + (u.size : Int)).toNat = u := by
    rw [extract_eq]
    have e1 : (1 + ((putB (u.size : Int)).size : Int)).toNat = 1 + (putB (u.size : Int)).size := by omega
    have e2 : (1 + ((putB (u.size : Int)).size : Int) + (u.size : Int)).toNat - (1 + ((putB (u.size : Int)).size : Int)).toNat = u.size := by omega
    rw [e2, e1]
    have hl : (⟨#[120]⟩ ++ (putB (u.size : Int) ++ u) : ByteArray).data.toList = (120 :: (putB (u.size : Int)).data.toList) ++ u.data.toList := by simp
    rw [hl, List.drop_append_of_le_length (by simp; omega), List.drop_of_length_le (by simp; omega), List.nil_append, List.take_of_length_le (by rw [← size_eq]; omega), mk_data]
  rw [e]
  show txt u (1 + ((putB (u.size : Int)).size : Int) + (u.size : Int)) 0 = _
  unfold txt
  rw [show 1 + ((putB (u.size : Int)).size : Int) + (u.size : Int) = ((putB (u.size : Int) ++ u).size : Int) + 1 by rw [hz2]; omega]

theorem text_cut (u : ByteArray) (hm : u.size ≤ 100) :
    getTV ((putB (u.size : Int) ++ u).extract 0 ((putB (u.size : Int) ++ u).size - 1)) 0 = .agg #[.string ByteArray.empty, .int .i64 0, .int .i64 4] := by
  have hp := putB_size (u.size : Int)
  have hp1 := putB_pos (u.size : Int)
  have hz2 : (putB (u.size : Int) ++ u).size = (putB (u.size : Int)).size + u.size := by simp
  have hcs := cut_size (putB (u.size : Int) ++ u)
  have hcl := cut_list (putB (u.size : Int) ++ u)
  have hd : (putB (u.size : Int) ++ u).data.toList = (putB (u.size : Int)).data.toList ++ u.data.toList := by simp
  by_cases h0 : u.size = 0
  · have hu : u.data.toList = [] := List.eq_nil_of_length_eq_zero (by rw [← size_eq]; exact h0)
    have h := getN_cut (u.size : Int) ((putB (u.size : Int) ++ u).extract 0 ((putB (u.size : Int) ++ u).size - 1)) (by omega) (by omega) (by
      rw [hcl, hd, hu, List.append_nil, putB_list]; unfold bs; rw [List.map_dropLast]) (by rw [hcs]; omega)
    rw [getTV_bad h (by decide)]; rfl
  · have hne : u.data.toList ≠ [] := fun e => h0 (by rw [size_eq, e]; rfl)
    have h := getN_put (u.size : Int) (by omega) (by omega) ((putB (u.size : Int) ++ u).extract 0 ((putB (u.size : Int) ++ u).size - 1)) 0 u.data.toList.dropLast (by
      rw [List.drop_zero, hcl, hd, List.dropLast_append_of_ne_nil hne]) (by rw [hcs]; omega)
    rw [show ((0 : Nat) : Int) = 0 from rfl] at h
    rw [getTV_short h (by omega) (by rw [hcs, hz2]; omega)]; rfl
end Go.Proofs.YtkhffoailfnepakGreatDoor
