/-
  Tombs in plain mathematics: a right one, its text, what is read of a text (number by number), the text cut behind each byte below 128, the kinds of leaves; and that both ways of reading come to the same.
-/
import Derived.Test.YtnaonldkbaapeaaGreatDoorRows
import Derived.Test.YtnaonldkbaapeaaGreatDoorBytesDigMath
import Derived.Test.YtnaonldkbaapeaaGreatDoorFldRiseScanMath
import Derived.Test.YtnaonldkbaapeaaGreatDoorGetValGetTxtNumMathFldRdNumFrom
import Derived.Test.YtnaonldkbaapeaaGreatDoorTimeBPutMathPutNum
import Derived.Test.YtnaonldkbaapeaaGreatDoorJoinedPutTextFldMath
import Derived.Handy
namespace Go.Proofs.YtnaonldkbaapeaaGreatDoor
open Go.RowKit Go.Lib
set_option linter.unusedVariables false

structure Tmb where
  r : Int
  f : Int
  y : Int
  a : Int
def tmZ : Tmb := ⟨0, 0, 0, 0⟩
def tmB (t : Tmb) : Bool := decide (0 ≤ t.r) && decide (t.r ≤ 63) && (decide (0 ≤ t.f) && decide (t.f ≤ 2)) && (decide (1 ≤ t.y) && decide (t.y ≤ 2)) && (decide (0 ≤ t.a) && decide (t.a ≤ 1000000))
theorem tmB_iff (t : Tmb) : tmB t = true ↔ (0 ≤ t.r ∧ t.r ≤ 63) ∧ (0 ≤ t.f ∧ t.f ≤ 2) ∧ (1 ≤ t.y ∧ t.y ≤ 2) ∧ (0 ≤ t.a ∧ t.a ≤ 1000000) := by
  unfold tmB; simp [and_assoc]
theorem tmB_no {t : Tmb} (h : ¬ ((0 ≤ t.r ∧ t.r ≤ 63) ∧ (0 ≤ t.f ∧ t.f ≤ 2) ∧ (1 ≤ t.y ∧ t.y ≤ 2) ∧ (0 ≤ t.a ∧ t.a ≤ 1000000))) : tmB t = false := by
  cases e : tmB t with
  | false => rfl
  | true => exact absurd ((tmB_iff t).1 e) h
def tmRaw (t : Tmb) : ByteArray := ⟨#[116]⟩ ++ putB t.r ++ putB t.f ++ putB t.y ++ putB t.a
def tmT (t : Tmb) : ByteArray := if tmB t = true then tmRaw t else ByteArray.empty
def tmV (t : Tmb) : Value := .agg #[.int .i64 t.r, .int .i64 t.f, .int .i64 t.y, .int .i64 t.a]
def tmO (t : Tmb) (c : Int) : Value := .agg #[.int .i64 t.r, .int .i64 t.f, .int .i64 t.y, .int .i64 t.a, .int .i64 c]
theorem tmRaw_list (t : Tmb) : (tmRaw t).data.toList = 116 :: ((putB t.r).data.toList ++ ((putB t.f).data.toList ++ ((putB t.y).data.toList ++ ((putB t.a).data.toList ++ [])))) := by
  unfold tmRaw; simp [ByteArray.data_append]
theorem tmRaw_size (t : Tmb) : 1 ≤ (tmRaw t).size ∧ (tmRaw t).size ≤ 41 := by
  have h := congrArg List.length (tmRaw_list t)
  simp only [List.length_cons, List.length_append, sz_list, List.length_nil] at h
  have h1 := putB_size t.r
  have h2 := putB_size t.f
  have h3 := putB_size t.y
  have h4 := putB_size t.a
  omega
theorem tmT_size (t : Tmb) : (tmT t).size ≤ 41 := by
  unfold tmT; split
  · exact (tmRaw_size t).2
  · show 0 ≤ 41; omega

/-! ### Number by number -/
def trA1 (t : ByteArray) : Int := rnA t 1 false
def trB1 (t : ByteArray) : Bool := rnB t 1 false
def trA2 (t : ByteArray) : Int := rnA t (trA1 t) (trB1 t)
def trB2 (t : ByteArray) : Bool := rnB t (trA1 t) (trB1 t)
def trA3 (t : ByteArray) : Int := rnA t (trA2 t) (trB2 t)
def trB3 (t : ByteArray) : Bool := rnB t (trA2 t) (trB2 t)
def trT (t : ByteArray) : Tmb := ⟨rnN t 1 false, rnN t (trA1 t) (trB1 t), rnN t (trA2 t) (trB2 t), rnN t (trA3 t) (trB3 t)⟩
def trBd (t : ByteArray) : Bool := rnB t (trA3 t) (trB3 t)
def trBad (t : ByteArray) : Bool := trBd t || decide (t.size = 0) || !decide (tmT (trT t) = t)
def trC (t : ByteArray) : Int := if 8000 < t.size then 2 else if trBad t = true then 3 else 0
def trO (t : ByteArray) : Tmb := if trC t = 0 then trT t else tmZ
theorem rnA_top (t : ByteArray) (a : Int) (bd : Bool) (h : a ≤ 9223372036854775807) (ht : t.size ≤ 8000) : rnA t a bd ≤ 9223372036854775807 := by
  unfold rnA
  split
  · exact h
  · rename_i hb
    have : (getN t a).2.2 = 0 := by
      unfold rnB at hb
      simp at hb
      exact hb.2
    have := (getN_place t a this).2
    omega
theorem tm_read {T : Tmb} (h : tmB T = true) : trT (tmRaw T) = T ∧ trBd (tmRaw T) = false := by
  obtain ⟨⟨a0, a1⟩, ⟨b0, b1⟩, ⟨c0, c1⟩, d0, d1⟩ := (tmB_iff T).1 h
  have hz : (tmRaw T).size ≤ 8000 := by have := tmRaw_size T; omega
  have h1 : From (tmRaw T) 1 ((putB T.r).data.toList ++ ((putB T.f).data.toList ++ ((putB T.y).data.toList ++ ((putB T.a).data.toList ++ [])))) := by
    unfold From; rw [tmRaw_list]; rfl
  obtain ⟨p1, q1, r1, s1⟩ := num_from hz (by omega) (by omega) h1
  obtain ⟨p2, q2, r2, s2⟩ := num_from hz (by omega) (by omega) s1
  obtain ⟨p3, q3, r3, s3⟩ := num_from hz (by omega) (by omega) s2
  obtain ⟨p4, q4, r4, s4⟩ := num_from hz (by omega) (by omega) s3
  rw [show ((1 : Nat) : Int) = 1 from rfl] at p1 q1 r1
  have eA1 : trA1 (tmRaw T) = ((1 + (putB T.r).size : Nat) : Int) := q1
  have eB1 : trB1 (tmRaw T) = false := r1
  have eA2 : trA2 (tmRaw T) = ((1 + (putB T.r).size + (putB T.f).size : Nat) : Int) := by unfold trA2; rw [eA1, eB1]; exact q2
  have eB2 : trB2 (tmRaw T) = false := by unfold trB2; rw [eA1, eB1]; exact r2
  have eA3 : trA3 (tmRaw T) = ((1 + (putB T.r).size + (putB T.f).size + (putB T.y).size : Nat) : Int) := by unfold trA3; rw [eA2, eB2]; exact q3
  have eB3 : trB3 (tmRaw T) = false := by unfold trB3; rw [eA2, eB2]; exact r3
  refine ⟨?_, ?_⟩
  · unfold trT; rw [eA1, eB1, eA2, eB2, eA3, eB3, p1, p2, p3, p4]
  · unfold trBd; rw [eA3, eB3]; exact r4
theorem tr_sound {t : ByteArray} (h : trC t = 0) : t.size ≤ 8000 ∧ tmB (trT t) = true ∧ tmRaw (trT t) = t ∧ trO t = trT t := by
  have ho : trO t = trT t := if_pos h
  unfold trC at h
  split at h
  · cases h
  · rename_i h8
    split at h
    · cases h
    · rename_i hb
      unfold trBad at hb
      simp at hb
      obtain ⟨⟨-, h0⟩, hT⟩ := hb
      have hB : tmB (trT t) = true := by
        cases e : tmB (trT t) with
        | true => rfl
        | false =>
          unfold tmT at hT
          rw [e, if_neg Bool.false_ne_true] at hT
          exfalso; apply h0; rw [← hT]
      refine ⟨by omega, hB, ?_, ho⟩
      unfold tmT at hT
      rwa [if_pos hB] at hT
theorem tr_raw {T : Tmb} (h : tmB T = true) : trC (tmRaw T) = 0 ∧ trO (tmRaw T) = T := by
  obtain ⟨h1, h2⟩ := tm_read h
  have hz := tmRaw_size T
  have hc : trC (tmRaw T) = 0 := by
    unfold trC
    rw [if_neg (by omega), if_neg]
    unfold trBad tmT
    rw [h1, h2, if_pos h]
    have : (tmRaw T).size ≠ 0 := by omega
    simp [this]
  exact ⟨hc, by unfold trO; rw [if_pos hc, h1]⟩
theorem trC_cases (t : ByteArray) (h : t.size ≤ 8000) : trC t = 0 ∨ trC t = 3 := by
  unfold trC; rw [if_neg (by omega)]; split
  · exact .inr rfl
  · exact .inl rfl

/-! ### Cut behind each byte below 128 -/
def cutL : List UInt8 → List UInt8 → List ByteArray
  | _, [] => []
  | cur, b :: l => if b.toNat < 128 then ⟨(cur ++ [b]).toArray⟩ :: cutL [] l else cutL (cur ++ [b]) l
theorem cutL_high (xs : List UInt8) : ∀ (cur l : List UInt8), (∀ x ∈ xs, 128 ≤ x.toNat) → cutL cur (xs ++ l) = cutL (cur ++ xs) l := by
  induction xs with
  | nil => intro cur l _; simp
  | cons x xs ih =>
    intro cur l h
    have hx := h x (by simp)
    show cutL cur (x :: (xs ++ l)) = _
    rw [cutL, if_neg (by omega), ih _ _ (fun y hy => h y (by simp [hy]))]
    simp
theorem cutL_low (b : UInt8) (cur l : List UInt8) (h : b.toNat < 128) : cutL cur (b :: l) = ⟨(cur ++ [b]).toArray⟩ :: cutL [] l := by
  rw [cutL, if_pos h]
theorem cutL_len : ∀ (l cur : List UInt8), (cutL cur l).length ≤ l.length
  | [], cur => by simp [cutL]
  | b :: l, cur => by
    rw [cutL]
    split
    · have := cutL_len l []; simp; omega
    · have := cutL_len l (cur ++ [b]); simp; omega
def cutB (t : ByteArray) : List ByteArray := cutL [] t.data.toList
theorem cutB_len (t : ByteArray) : (cutB t).length ≤ t.size := by
  have := cutL_len t.data.toList []
  rwa [sz_list] at this
theorem putI_form : ∀ (f : Nat) (v : Int), 0 ≤ v → v < 128 ^ (f + 1) → ∃ (xs : List Int) (z : Int), putI f v = xs ++ [z] ∧ (∀ x ∈ xs, 128 ≤ x ∧ x ≤ 255) ∧ 0 ≤ z ∧ z < 128
  | 0, v, h0, h1 => ⟨[], v, rfl, by simp, h0, by simpa using h1⟩
  | f + 1, v, h0, h1 => by
    rw [putI]
    split
    · rename_i h; exact ⟨[], v, rfl, by simp, h0, h⟩
    · rename_i h
      have e : (128 : Int) ^ (f + 1 + 1) = 128 ^ (f + 1) * 128 := Int.pow_succ _ _
      obtain ⟨xs, z, e1, e2, e3⟩ := putI_form f (v / 128) (by omega) (Int.ediv_lt_of_lt_mul (by decide) (by rw [← e]; exact h1))
      refine ⟨(v % 128 + 128) :: xs, z, by rw [e1]; rfl, ?_, e3⟩
      intro x hx
      rcases List.mem_cons.1 hx with rfl | hx
      · omega
      · exact e2 x hx
theorem putB_form (n : Int) (h0 : -9223372036854775808 ≤ n) (h1 : n ≤ 9223372036854775807) : ∃ (xs : List UInt8) (z : UInt8), (putB n).data.toList = xs ++ [z] ∧ (∀ x ∈ xs, 128 ≤ x.toNat) ∧ z.toNat < 128 := by
  have hf := foldN_bd h0 h1
  obtain ⟨xs, z, e1, e2, e3, e4⟩ := putI_form 9 (foldN n) hf.1 (Int.lt_of_le_of_lt hf.2 (by decide))
  refine ⟨bs xs, UInt8.ofNat z.toNat, by rw [putB_list, e1]; simp [bs], ?_, ?_⟩
  · intro x hx
    obtain ⟨v, hv, rfl⟩ := List.mem_map.1 hx
    have := e2 v hv
    have := byte_val v (by omega) (by omega)
    omega
  · have := byte_val z (by omega) (by omega)
    omega
theorem cut_put (n : Int) (h0 : -9223372036854775808 ≤ n) (h1 : n ≤ 9223372036854775807) (l : List UInt8) : cutL [] ((putB n).data.toList ++ l) = putB n :: cutL [] l := by
  obtain ⟨xs, z, e, hx, hz⟩ := putB_form n h0 h1
  rw [e, List.append_assoc, cutL_high xs [] _ hx]
  show cutL ([] ++ xs) (z :: l) = _
  rw [cutL_low z _ _ hz]
  congr 1
  apply ByteArray.ext; apply Array.ext'
  rw [e]; simp
theorem cut_raw {T : Tmb} (h : tmB T = true) : cutB (tmRaw T) = [⟨#[116]⟩, putB T.r, putB T.f, putB T.y, putB T.a] := by
  obtain ⟨⟨a0, a1⟩, ⟨b0, b1⟩, ⟨c0, c1⟩, d0, d1⟩ := (tmB_iff T).1 h
  unfold cutB
  rw [tmRaw_list, cutL_low _ _ _ (by decide), cut_put _ (by omega) (by omega), cut_put _ (by omega) (by omega), cut_put _ (by omega) (by omega), cut_put _ (by omega) (by omega)]
  rfl
/-- What the program reads of the parts. -/
def ipT : List ByteArray → Tmb
  | [_, a, b, c, d] => ⟨(getN a 0).1, (getN b 0).1, (getN c 0).1, (getN d 0).1⟩
  | _ => tmZ
theorem getN_own (n : Int) (h0 : -9223372036854775808 ≤ n) (h1 : n ≤ 9223372036854775807) : (getN (putB n) 0).1 = n := by
  have := getN_put n h0 h1 (putB n) 0 [] (by simp) (by have := putB_size n; omega)
  rw [show ((0 : Nat) : Int) = 0 from rfl] at this
  rw [this]
theorem ip_raw {T : Tmb} (h : tmB T = true) : ipT (cutB (tmRaw T)) = T := by
  obtain ⟨⟨a0, a1⟩, ⟨b0, b1⟩, ⟨c0, c1⟩, d0, d1⟩ := (tmB_iff T).1 h
  rw [cut_raw h]
  show Tmb.mk (getN (putB T.r) 0).1 (getN (putB T.f) 0).1 (getN (putB T.y) 0).1 (getN (putB T.a) 0).1 = T
  rw [getN_own _ (by omega) (by omega), getN_own _ (by omega) (by omega), getN_own _ (by omega) (by omega), getN_own _ (by omega) (by omega)]
/-- Where the program's way takes a text, it is the one that is read number by number. -/
theorem ip_yes {t : ByteArray} (hz : t.size ≤ 8000) (hB : tmB (ipT (cutB t)) = true) (hT : tmRaw (ipT (cutB t)) = t) : trC t = 0 ∧ trO t = ipT (cutB t) := by
  have := tr_raw hB
  rwa [hT] at this
theorem ip_no {t : ByteArray} (hz : t.size ≤ 8000) (h : tmB (ipT (cutB t)) = false ∨ tmRaw (ipT (cutB t)) ≠ t) : trC t = 3 ∧ trO t = tmZ := by
  rcases trC_cases t hz with hc | hc
  · exfalso
    obtain ⟨-, h1, h2, -⟩ := tr_sound hc
    have h3 := ip_raw h1
    rw [h2] at h3
    rcases h with h | h
    · rw [h3, h1] at h; cases h
    · rw [h3, h2] at h; exact h rfl
  · exact ⟨hc, by unfold trO; rw [if_neg (by omega)]⟩
theorem ipT_not {ps : List ByteArray} (h : ps.length ≠ 5) : ipT ps = tmZ := by
  unfold ipT
  split
  · simp at h
  · rfl
theorem tmZ_no : tmB tmZ = false := rfl

/-! ### Kinds of leaves -/
def isRl (t : ByteArray) : Bool := decide (t.size = 33) && decide (t.data.toList.head? = some 101)
def lkB (t : ByteArray) : Int := if isRl t = true then 1 else if trC t = 0 then 2 else 0
theorem lk_raw {T : Tmb} (h : tmB T = true) : lkB (tmRaw T) = 2 := by
  unfold lkB isRl
  rw [tmRaw_list, (tr_raw h).1]
  simp
end Go.Proofs.YtnaonldkbaapeaaGreatDoor
