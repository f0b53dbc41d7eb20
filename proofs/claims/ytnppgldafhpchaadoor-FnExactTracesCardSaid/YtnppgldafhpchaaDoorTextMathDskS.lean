/-
  Parts of one proof, laid as one text: TextMath, DskS; what each says stands at its head.
-/
import Derived.Test.YtnppgldafhpchaaDoorNumMath
import Derived.Test.YtnppgldafhpchaaDoorPutTextGetValGetTxtScopes
import Derived.Test.YtnppgldafhpchaaDoorRdNumIAsDAs2CodeOfGetNumIRdTextIGetTextI
import Derived.Test.YtnppgldafhpchaaDoorRows
import Derived.Test.YtnppgldafhpchaaDoorBytes
import Derived.Test.YtnppgldafhpchaaDoorSlASlBOwnS
import Derived.Test.YtnppgldafhpchaaDoorLawSGAppSStepApp
import Derived.Test.YtnppgldafhpchaaDoorDskMath
import Derived.Test.YtnppgldafhpchaaDoorDskR
import Derived.Test.YtnppgldafhpchaaDoorDskA
import Derived.Handy
import Derived.WalkSpells
import Derived.OwnWalk
/-
  Texts come back from their bytes, over what PutText and GetText answer.
-/
namespace Go.Proofs.YtnppgldafhpchaaDoor
open Go.RowKit Go.Lib
set_option linter.unusedVariables false

theorem cut_list (S : ByteArray) : (S.extract 0 (S.size - 1)).data.toList = S.data.toList.dropLast := by
  rw [extract_data, List.drop_zero, List.dropLast_eq_take, size_eq]; rfl
theorem cut_size (S : ByteArray) : (S.extract 0 (S.size - 1)).size = S.size - 1 := by simp

theorem num_back (n : Int) (h0 : -9223372036854775808 ≤ n) (h1 : n ≤ 9223372036854775807) :
    getV (⟨#[120, 121]⟩ ++ putB n ++ ⟨#[122]⟩) 2 = .agg #[.int .i64 n, .int .i64 (((putB n).size : Int) + 2), .int .i64 0] := by
  have hp := putB_size n
  have hz : (⟨#[120, 121]⟩ ++ putB n ++ ⟨#[122]⟩ : ByteArray).size = (putB n).size + 3 := by
    rw [ByteArray.size_append, ByteArray.size_append]; show 2 + (putB n).size + 1 = _; omega
  have h := getN_put n h0 h1 (⟨#[120, 121]⟩ ++ putB n ++ ⟨#[122]⟩) 2 [122] (by simp) (by omega)
  unfold getV
  rw [show ((2 : Nat) : Int) = 2 from rfl] at h
  rw [h]
  show numOut n (2 + ((putB n).size : Int)) 0 = _
  unfold numOut; rw [Int.add_comm]
theorem num_cut (n : Int) (h0 : -9223372036854775808 ≤ n) (h1 : n ≤ 9223372036854775807) :
    getV ((putB n).extract 0 ((putB n).size - 1)) 0 = .agg #[.int .i64 0, .int .i64 0, .int .i64 4] := by
  have hp := putB_size n
  have h := getN_cut n ((putB n).extract 0 ((putB n).size - 1)) h0 h1 (by
    rw [cut_list, putB_list]; unfold bs; rw [List.map_dropLast]) (by rw [cut_size]; omega)
  unfold getV; rw [h]; rfl
theorem putB_pos (n : Int) : 1 ≤ (putB n).size := by
  rw [putB_len]
  have := putI_ne 9 (foldN n)
  cases h : putI 9 (foldN n) with
  | nil => exact absurd h this
  | cons => simp

theorem text_back (u : ByteArray) (hm : u.size ≤ 100) :
    getTV (⟨#[120]⟩ ++ (putB (u.size : Int) ++ u)) 1 = .agg #[.string u, .int .i64 (((putB (u.size : Int) ++ u).size : Int) + 1), .int .i64 0] := by
  have hp := putB_size (u.size : Int)
  have hz : (⟨#[120]⟩ ++ (putB (u.size : Int) ++ u) : ByteArray).size = 1 + ((putB (u.size : Int)).size + u.size) := by
    rw [ByteArray.size_append, ByteArray.size_append]; rfl
  have hz2 : (putB (u.size : Int) ++ u).size = (putB (u.size : Int)).size + u.size := by simp
  have h := getN_put (u.size : Int) (by omega) (by omega) (⟨#[120]⟩ ++ (putB (u.size : Int) ++ u)) 1 u.data.toList (by simp) (by omega)
  rw [show ((1 : Nat) : Int) = 1 from rfl] at h
  rw [getTV_ok h (by omega) (by omega)]
  have e : (⟨#[120]⟩ ++ (putB (u.size : Int) ++ u) : ByteArray).extract (1 + ((putB (u.size : Int)).size : Int)).toNat (1 + ((putB (u.size : Int)).size : Int) + (u.size : Int)).toNat = u := by
    rw [extract_eq]
    have e1 : (1 + ((putB (u.size : Int)).size : Int)).toNat = 1 + (putB (u.size : Int)).size := by omega
    have e2 : (1 + ((putB (u.size : Int)).size : Int) + (u.size : Int)).toNat - (1 + ((putB (u.size : Int)).size : Int)).toNat = u.size := by omega
    rw [e2, e1]
    have hl : (⟨#[120]⟩ ++ (putB (u.size : Int) ++ u) : ByteArray).data.toList = (120 :: (putB (u.size : Int)).data.toList) ++ u.data.toList := by simp
    rw [hl, List.drop_append_of_le_length (by simp; omega), List.drop_of_length_le (by simp; omega), List.nil_append, List.take_of_length_le (by rw [← size_eq]; omega), mk_data]
  rw [e]
  show txt u (1 + ((putB (u.size : Int)).size : Int) + (u.size : Int)) 0 = _
  unfold txt
  rw [show 1 + ((putB (u.size : Int)).size : Int) + (u.size : Int) = ((putB (u.size : Int) ++ u).size : Int) + 1 by rw [hz2]; omega]

theorem text_cut (u : ByteArray) (hm : u.size ≤ 100) :
    getTV ((putB (u.size : Int) ++ u).extract 0 ((putB (u.size : Int) ++ u).size - 1)) 0 = .agg #[.string ByteArray.empty, .int .i64 0, .int .i64 4] := by
  have hp := putB_size (u.size : Int)
  have hp1 := putB_pos (u.size : Int)
  have hz2 : (putB (u.size : Int) ++ u).size = (putB (u.size : Int)).size + u.size := by simp
  have hcs := cut_size (putB (u.size : Int) ++ u)
  have hcl := cut_list (putB (u.size : Int) ++ u)
  have hd : (putB (u.size : Int) ++ u).data.toList = (putB (u.size : Int)).data.toList ++ u.data.toList := by simp
  by_cases h0 : u.size = 0
  · have hu : u.data.toList = [] := List.eq_nil_of_length_eq_zero (by rw [← size_eq]; exact h0)
    have h := getN_cut (u.size : Int) ((putB (u.size : Int) ++ u).extract 0 ((putB (u.size : Int) ++ u).size - 1)) (by omega) (by omega) (by
      rw [hcl, hd, hu, List.append_nil, putB_list]; unfold bs; rw [List.map_dropLast]) (by rw [hcs]; omega)
    rw [getTV_bad h (by decide)]; rfl
  · have hne : u.data.toList ≠ [] := fun e => h0 (by rw [size_eq, e]; rfl)
    have h := getN_put (u.size : Int) (by omega) (by omega) ((putB (u.size : Int) ++ u).extract 0 ((putB (u.size : Int) ++ u).size - 1)) 0 u.data.toList.dropLast (by
      rw [List.drop_zero, hcl, hd, List.dropLast_append_of_ne_nil hne]) (by rw [hcs]; omega)
    rw [show ((0 : Nat) : Int) = 0 from rfl] at h
    rw [getTV_short h (by omega) (by rw [hcs, hz2]; omega)]; rfl
end Go.Proofs.YtnppgldafhpchaaDoor
/-
  What the specification's l05Ill, DiskNew and l05Copy answer.
-/
namespace Go.Proofs.YtnppgldafhpchaaDoor
open Go.RowKit Go.Lib
set_option linter.unusedVariables false
set_option maxRecDepth 20000

theorem l05Ill_any (c : Int) (w : World) : Calls Tryd.prog 26 #[.int .i64 c] w fun e w' => e = .returned (.agg #[.slice none 0 0, .slice none 0 0, .string ByteArray.empty, .int .i64 c]) ∧ Below w.heap.size w w' := by
  have B1 : Below w.heap.size w (w.alloc (.cells #[.slice none 0 0, .slice none 0 0, .string ByteArray.empty, .int .i64 c] 41)) := (Below.refl _ _).alloc (Nat.le_refl _) _
  go_enter Tryd.func26, Tryd.ntmps26
  go_wp2_with fail
  refine bodyPost_ret (v := .agg #[.slice none 0 0, .slice none 0 0, .string ByteArray.empty, .int .i64 c]) (by simp [results, Tryd.results26, go_sem]; rfl) rfl ?_
  exact ⟨rfl, B1⟩

/-- What DiskNew makes. -/
def newS (n : Int) : List ByteArray := if 1 ≤ n ∧ n ≤ 64 then List.replicate n.toNat ByteArray.empty else []
end Go.Proofs.YtnppgldafhpchaaDoor
