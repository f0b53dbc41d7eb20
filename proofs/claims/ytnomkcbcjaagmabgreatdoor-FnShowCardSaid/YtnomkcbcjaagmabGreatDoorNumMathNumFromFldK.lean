/-
  Parts of one proof, laid as one text: NumMath, NumFrom, FldK; what each says stands at its head.
-/
import Derived.Test.YtnomkcbcjaagmabGreatDoorTimeBPutMathPutNum
import Derived.Test.YtnomkcbcjaagmabGreatDoorScanMathGetValGetTxtSpecGN
import Derived.Test.YtnomkcbcjaagmabGreatDoorRows
import Derived.Test.YtnomkcbcjaagmabGreatDoorBytesDigMath
import Derived.Test.YtnomkcbcjaagmabGreatDoorSpecGTTillTwoFldRd
import Derived.Handy
import Derived.Test.YtnomkcbcjaagmabGreatDoorJoinedPutTextFldMath
import Derived.Test.YtnomkcbcjaagmabGreatDoorFldRiseFldGShwK
import Derived.Test.YtnomkcbcjaagmabGreatDoorFldV
import Derived.Test.YtnomkcbcjaagmabGreatDoorFldB
import Derived.Test.YtnomkcbcjaagmabGreatDoorFldN
import Derived.Test.YtnomkcbcjaagmabGreatDoorFldP
/-
  Numbers and texts come back from their bytes, in plain mathematics, over what PutNum, GetNum, PutText and GetText answer.
-/
namespace Go.Proofs.YtnomkcbcjaagmabGreatDoor
open Go.RowKit Go.Lib
set_option linter.unusedVariables false

def bs (l : List Int) : List UInt8 := l.map fun n => UInt8.ofNat n.toNat

theorem byte_val (v : Int) (h0 : 0 ≤ v) (h1 : v ≤ 255) : ((UInt8.ofNat v.toNat).toNat : Int) = v := by
  have : (UInt8.ofNat v.toNat).toNat = v.toNat % 256 := UInt8.toNat_ofNat'
  rw [this]; omega
theorem putI_ne (f : Nat) (v : Int) : putI f v ≠ [] := by
  cases f with
  | zero => simp [putI]
  | succ f => unfold putI; split <;> simp
theorem split128 (v p : Int) : v % 128 * p + v / 128 * (128 * p) = v * p := by
  have h : v = v % 128 + 128 * (v / 128) := (Int.emod_add_mul_ediv v 128).symm
  have e : v * p = (v % 128 + 128 * (v / 128)) * p := by rw [← h]
  rw [e, Int.add_mul, Int.mul_comm 128 (v / 128), Int.mul_assoc]

theorem pow_same (k : Nat) : (128 : Int) ^ k = 2 ^ (7 * k) := by
  rw [show (128 : Int) = 2 ^ 7 by decide, ← Int.pow_mul]

theorem scan_put : ∀ (f k : Nat) (u v : Int) (rest : List UInt8), k + f = 9 → 0 ≤ v → v * 2 ^ (7 * k) < 18446744073709551616 → (0 < k → v ≠ 0) →
    scan (f + 1) k u (bs (putI f v) ++ rest) = (0, u + v * 2 ^ (7 * k), k + (putI f v).length)
  | 0, k, u, v, rest, hk, h0, hb, hz => by
    obtain rfl : k = 9 := by omega
    have hv : v ≤ 1 := by
      have : (2 : Int) ^ (7 * 9) = 9223372036854775808 := by decide
      rw [this] at hb; omega
    have hb1 := byte_val v h0 (by omega)
    show scan 1 9 u (UInt8.ofNat v.toNat :: rest) = _
    rw [scan, hb1, if_neg (by omega), if_pos (by omega), if_neg (fun h => hz (by omega) h.1)]
    rfl
  | f + 1, k, u, v, rest, hk, h0, hb, hz => by
    have hp := (pow7_le k (by omega)).1
    by_cases hv : v < 128
    · have hb1 := byte_val v h0 (by omega)
      have e : putI (f + 1) v = [v] := by rw [putI, if_pos hv]
      rw [e]
      show scan (f + 1 + 1) k u (UInt8.ofNat v.toNat :: rest) = _
      rw [scan, hb1, if_neg (by omega), if_pos hv, if_neg (fun h => hz h.2 h.1)]
      rfl
    · have hb1 := byte_val (v % 128 + 128) (by omega) (by omega)
      have e : putI (f + 1) v = (v % 128 + 128) :: putI f (v / 128) := by rw [putI, if_neg hv]
      rw [e]
      show scan (f + 1 + 1) k u (UInt8.ofNat (v % 128 + 128).toNat :: (bs (putI f (v / 128)) ++ rest)) = _
      rw [scan, hb1, if_neg (by omega), if_neg (by omega), show v % 128 + 128 - 128 = v % 128 by omega]
      have hd : v / 128 * 128 ≤ v := Int.ediv_mul_le _ (by decide)
      have hb2 : v / 128 * 2 ^ (7 * (k + 1)) < 18446744073709551616 := by
        rw [pow7, ← Int.mul_assoc]
        exact Int.lt_of_le_of_lt (Int.mul_le_mul_of_nonneg_right hd (by omega)) hb
      rw [scan_put f (k + 1) _ (v / 128) rest (by omega) (by omega) hb2 (fun _ => by omega), pow7, Int.add_assoc, split128]
      simp; omega

theorem scan_cut : ∀ (f k : Nat) (u v : Int), k + f = 9 → 0 ≤ v → scan (f + 1) k u (bs (putI f v).dropLast) = (4, 0, 0)
  | 0, k, u, v, hk, h0 => rfl
  | f + 1, k, u, v, hk, h0 => by
    by_cases hv : v < 128
    · have e : putI (f + 1) v = [v] := by rw [putI, if_pos hv]
      rw [e]; rfl
    · have hb1 := byte_val (v % 128 + 128) (by omega) (by omega)
      have e : putI (f + 1) v = (v % 128 + 128) :: putI f (v / 128) := by rw [putI, if_neg hv]
      rw [e, List.dropLast_cons_of_ne_nil (putI_ne f _)]
      show scan (f + 1 + 1) k u (UInt8.ofNat (v % 128 + 128).toNat :: bs (putI f (v / 128)).dropLast) = _
      rw [scan, hb1, if_neg (by omega), if_neg (by omega)]
      exact scan_cut f (k + 1) _ (v / 128) (by omega) (by omega)

theorem unfold_fold (n : Int) : unfoldN (foldN n) = n := by
  unfold foldN; split
  · unfold unfoldN; rw [if_neg (by omega)]; omega
  · unfold unfoldN; rw [if_pos (by omega)]; omega

theorem putB_list (n : Int) : (putB n).data.toList = bs (putI 9 (foldN n)) := strOfNums_data _
theorem putB_len (n : Int) : (putB n).size = (putI 9 (foldN n)).length := strOfNums_size _

/-- A number's bytes with a text ahead of them and one behind. -/
theorem getN_put (n : Int) (h0 : -9223372036854775808 ≤ n) (h1 : n ≤ 9223372036854775807) (S : ByteArray) (a : Nat) (rest : List UInt8)
    (hS : S.data.toList.drop a = (putB n).data.toList ++ rest) (hz : S.size ≤ 8000) : getN S (a : Int) = (n, (a : Int) + ((putB n).size : Int), 0) := by
  have hf := foldN_bd h0 h1
  have hsc : scanAt S a = (0, foldN n, (putI 9 (foldN n)).length) := by
    unfold scanAt
    rw [hS, putB_list, scan_put 9 0 0 (foldN n) rest rfl hf.1 (by simp; omega) (fun h => by omega)]
    simp
  unfold getN
  rw [if_neg (by omega), if_neg (by omega), Int.toNat_natCast, hsc, if_pos rfl, unfold_fold, putB_len]

theorem getN_cut (n : Int) (S : ByteArray) (h0 : -9223372036854775808 ≤ n) (h1 : n ≤ 9223372036854775807) (hS : S.data.toList = bs (putI 9 (foldN n)).dropLast) (hz : S.size ≤ 8000) : getN S 0 = (0, 0, 4) := by
  have hf := foldN_bd h0 h1
  have hsc : scanAt S 0 = (4, 0, 0) := by
    unfold scanAt
    rw [List.drop_zero, hS]
    exact scan_cut 9 0 0 (foldN n) rfl hf.1
  unfold getN
  rw [if_neg (by omega), if_neg (by decide), show (0 : Int).toNat = 0 from rfl, hsc, if_neg (by decide)]
end Go.Proofs.YtnomkcbcjaagmabGreatDoor
/-
  Reading a number from a place of a text on: what rnN, rnA, rnB are where a number's own bytes stand.
-/
namespace Go.Proofs.YtnomkcbcjaagmabGreatDoor
open Go.RowKit Go.Lib
set_option linter.unusedVariables false

/-- From the place a on these bytes stand in S. -/
def From (S : ByteArray) (a : Nat) (l : List UInt8) : Prop := S.data.toList.drop a = l
theorem From.skip {S : ByteArray} {a : Nat} {x l : List UInt8} (h : From S a (x ++ l)) : From S (a + x.length) l := by
  unfold From at *
  rw [← List.drop_drop, h]; simp
theorem sz_list (s : ByteArray) : s.data.toList.length = s.size := by simp
theorem From.len {S : ByteArray} {a : Nat} {x l : List UInt8} (h : From S a (x ++ l)) : a + x.length ≤ S.size ∨ x = [] := by
  unfold From at h
  have := congrArg List.length h
  rw [List.length_drop, sz_list, List.length_append] at this
  cases x with
  | nil => exact .inr rfl
  | cons c x => refine .inl ?_; simp at this ⊢; omega
theorem num_from {S : ByteArray} {a : Nat} {n : Int} {l : List UInt8} (hz : S.size ≤ 8000) (h0 : -9223372036854775808 ≤ n) (h1 : n ≤ 9223372036854775807) (h : From S a ((putB n).data.toList ++ l)) :
    rnN S a false = n ∧ rnA S a false = ((a + (putB n).size : Nat) : Int) ∧ rnB S a false = false ∧ From S (a + (putB n).size) l := by
  have hg := getN_put n h0 h1 S a l h hz
  have hb : rnB S a false = false := by unfold rnB; rw [hg]; rfl
  refine ⟨?_, ?_, hb, ?_⟩
  · unfold rnN; rw [if_neg (by rw [hb]; exact Bool.false_ne_true), hg]
  · unfold rnA; rw [if_neg (by rw [hb]; exact Bool.false_ne_true), hg]; simp
  · have := h.skip; rwa [sz_list] at this
end Go.Proofs.YtnomkcbcjaagmabGreatDoor
/-
  What is shown comes back from its bytes: ShownRead behind ShownBytes (promise 11, as a plain law).
-/
namespace Go.Proofs.YtnomkcbcjaagmabGreatDoor
open Go.RowKit Go.Lib
set_option linter.unusedVariables false

theorem text_from {S : ByteArray} {a : Nat} {u : ByteArray} {l : List UInt8} (hz : S.size ≤ 8000) (hu : u.size ≤ 7000) (h : From S a ((putTextB u).data.toList ++ l)) :
    rtT S a false = u ∧ rtA S a false = ((a + (putTextB u).size : Nat) : Int) ∧ rtB S a false = false ∧ From S (a + (putTextB u).size) l := by
  have hp : putTextB u = putB (u.size : Int) ++ u := by unfold putTextB; rw [if_neg (by omega)]
  have hps : (putTextB u).size = (putB (u.size : Int)).size + u.size := by rw [hp, ByteArray.size_append]
  have h' : From S a ((putB (u.size : Int)).data.toList ++ (u.data.toList ++ l)) := by rw [hp] at h; simpa using h
  have hg := getN_put (u.size : Int) (by omega) (by omega) S a _ h' hz
  have h2 : From S (a + (putB (u.size : Int)).size) (u.data.toList ++ l) := by have := h'.skip; rwa [sz_list] at this
  have hle : a + (putB (u.size : Int)).size + u.size ≤ S.size := by
    have hl := congrArg List.length h2
    have hl0 := congrArg List.length h'
    rw [List.length_drop, sz_list, List.length_append, sz_list] at hl
    rw [List.length_drop, sz_list, List.length_append, List.length_append, sz_list, sz_list] at hl0
    have : 0 < (putB (u.size : Int)).size := by
      rw [putB_len]
      have := putI_ne 9 (foldN (u.size : Int))
      cases h : putI 9 (foldN (u.size : Int)) with
      | nil => exact absurd h this
      | cons => simp
    omega
  have hx : S.extract ((a : Int) + ((putB (u.size : Int)).size : Int)).toNat ((a : Int) + ((putB (u.size : Int)).size : Int) + (u.size : Int)).toNat = u := by
    apply ByteArray.ext; apply Array.ext'
    rw [ByteArray.data_extract, Array.toList_extract, List.extract_eq_take_drop]
    have e1 : ((a : Int) + ((putB (u.size : Int)).size : Int)).toNat = a + (putB (u.size : Int)).size := by omega
    have e2 : ((a : Int) + ((putB (u.size : Int)).size : Int) + (u.size : Int)).toNat - (a + (putB (u.size : Int)).size) = u.data.toList.length := by rw [sz_list]; omega
    rw [e1, e2]
    have h3 : S.data.toList.drop (a + (putB (u.size : Int)).size) = u.data.toList ++ l := h2
    rw [h3]; simp
  have hT : getT S a = (u, (a : Int) + ((putB (u.size : Int)).size : Int) + (u.size : Int), 0) := by
    unfold getT
    rw [hg, if_neg (by simp), if_neg (by omega), if_neg (by show ¬ ((S.size : Int) < (a : Int) + ((putB (u.size : Int)).size : Int) + (u.size : Int)); omega)]
    show (S.extract ((a : Int) + ((putB (u.size : Int)).size : Int)).toNat ((a : Int) + ((putB (u.size : Int)).size : Int) + (u.size : Int)).toNat, _, _) = _
    rw [hx]
  have hb : rtB S a false = false := by unfold rtB; rw [hT]; rfl
  refine ⟨?_, ?_, hb, ?_⟩
  · unfold rtT; rw [if_neg (by rw [hb]; exact Bool.false_ne_true), hT]
  · unfold rtA; rw [if_neg (by rw [hb]; exact Bool.false_ne_true), hT, hps]; simp; omega
  · have := h.skip; rwa [sz_list] at this
def pairsB (fs : List Fld) : List UInt8 := fs.flatMap (fun f => (putTextB f.n).data.toList ++ (putTextB f.c).data.toList)
theorem lfTo_list : ∀ (fs : List Fld) (T : ByteArray), (lfTo T fs).data.toList = T.data.toList ++ pairsB fs
  | [], T => by simp [lfTo, pairsB]
  | f :: fs, T => by
    show (lfTo (T ++ putTextB f.n ++ putTextB f.c) fs).data.toList = _
    rw [lfTo_list fs]
    simp [pairsB, ByteArray.data_append]
theorem rdL_back {S : ByteArray} (hz : S.size ≤ 8000) (l : List UInt8) : ∀ (fs : List Fld) (a : Nat) (A B : List ByteArray), (∀ f ∈ fs, f.n.size ≤ 7000 ∧ f.c.size ≤ 7000) → From S a (pairsB fs ++ l) →
    ∃ b : Nat, rdL S fs.length ⟨a, false, A, B⟩ = ⟨b, false, A ++ fs.map (fun f => f.n), B ++ fs.map (fun f => f.c)⟩ ∧ From S b l
  | [], a, A, B, _, h => ⟨a, by simp [rdL], by simpa [pairsB] using h⟩
  | f :: fs, a, A, B, hs, h => by
    have h' : From S a ((putTextB f.n).data.toList ++ ((putTextB f.c).data.toList ++ (pairsB fs ++ l))) := by
      have e : pairsB (f :: fs) ++ l = (putTextB f.n).data.toList ++ ((putTextB f.c).data.toList ++ (pairsB fs ++ l)) := by simp [pairsB]
      rwa [e] at h
    have hf := hs f (by simp)
    obtain ⟨t1, t2, t3, t4⟩ := text_from hz hf.1 h'
    obtain ⟨u1, u2, u3, u4⟩ := text_from hz hf.2 t4
    obtain ⟨b, hb, hl⟩ := rdL_back hz l fs _ (A ++ [f.n]) (B ++ [f.c]) (fun g hg => hs g (by simp [hg])) u4
    refine ⟨b, ?_, hl⟩
    show rdL S (fs.length + 1) _ = _
    rw [rdL_step _ _ _ rfl]
    unfold rdStep
    dsimp only
    rw [t1, t2, t3, u1, u2, u3, hb]
    simp
theorem svF_names (o : Shw) (h : o.cs.length = o.ns.length) : (svF o o.ns.length).map (fun f => f.n) = o.ns ∧ (svF o o.ns.length).map (fun f => f.c) = o.cs := by
  constructor
  · apply List.ext_getElem
    · simp [svF_len]
    · intro i h1 h2
      rw [List.getElem_map]
      exact (svF_at o i h2 (by omega) (by rw [svF_len]; exact h2)).1
  · apply List.ext_getElem
    · simp [svF_len, h]
    · intro i h1 h2
      rw [List.getElem_map]
      exact (svF_at o i (by omega) h2 (by rw [svF_len]; omega)).2
/-- What is shown comes back from its bytes. -/
theorem shown_back (o : Shw) (h : sbOk o = true) : srP (sbT o) = o ∧ srBd (sbT o) (srL (sbT o)) = false ∧ (sbT o).size ≤ 8000 := by
  obtain ⟨p1, p2, p3, p4, p5, p6, p7, p8, p9⟩ := sbOk_parts h
  obtain ⟨m1, m2⟩ := svF_names o p1
  have hfs : ∀ f ∈ svF o o.ns.length, f.n.size ≤ 20 ∧ f.c.size = 32 := fun f hf => by
    obtain ⟨i, hi, rfl⟩ := List.getElem_of_mem hf
    have hi' : i < o.ns.length := by rwa [svF_len] at hi
    have e := svF_at o i hi' (by omega) hi
    rw [e.1, e.2]; exact p9 i hi' (by omega)
  have hlist : (sbT o).data.toList = (putTextB o.k).data.toList ++ ((putB o.at_).data.toList ++ ((putB (o.ns.length : Int)).data.toList ++ (pairsB (svF o o.ns.length) ++ ((putB o.ix).data.toList ++ ((putTextB o.s).data.toList ++ ((putTextB o.v).data.toList ++ [])))))) := by
    unfold sbT lfT
    rw [svF_len]
    simp [ByteArray.data_append, lfTo_list]
  have hpl : ∀ (fs : List Fld), (∀ f ∈ fs, f.n.size ≤ 20 ∧ f.c.size = 32) → (pairsB fs).length ≤ fs.length * 72 := fun fs => by
    induction fs with
    | nil => intro _; simp [pairsB]
    | cons f fs ih =>
      intro hs
      have h1 := ih (fun g hg => hs g (by simp [hg]))
      have h2 := hs f (by simp)
      have s1 := putTextB_le f.n (by omega)
      have s2 := putTextB_le f.c (by omega)
      unfold pairsB at *
      rw [List.flatMap_cons, List.length_append, List.length_append, sz_list, sz_list, List.length_cons]
      omega
  have hz : (sbT o).size ≤ 8000 := by
    have hl := congrArg List.length hlist
    simp only [List.length_append, sz_list, List.length_nil] at hl
    have e1 := hpl _ hfs
    rw [svF_len] at e1
    have s1 := putTextB_le o.k (by omega)
    have s2 := putTextB_le o.s (by omega)
    have s3 := putTextB_le o.v (by omega)
    have s4 := putB_ten7 o.at_
    have s5 := putB_ten7 (o.ns.length : Int)
    have s6 := putB_ten7 o.ix
    omega
  have f0 : From (sbT o) 0 ((putTextB o.k).data.toList ++ ((putB o.at_).data.toList ++ ((putB (o.ns.length : Int)).data.toList ++ (pairsB (svF o o.ns.length) ++ ((putB o.ix).data.toList ++ ((putTextB o.s).data.toList ++ ((putTextB o.v).data.toList ++ []))))))) := by
    unfold From; rw [List.drop_zero]; exact hlist
  obtain ⟨a1, a2, a3, f1⟩ := text_from hz (by omega) f0
  obtain ⟨b1, b2, b3, f2⟩ := num_from hz (by omega) (by omega) f1
  obtain ⟨c1, c2, c3, f3⟩ := num_from hz (by omega) (by omega) f2
  obtain ⟨e, d1, f4⟩ := rdL_back hz _ (svF o o.ns.length) _ [] [] (fun f hf => by have := hfs f hf; omega) f3
  obtain ⟨g1, g2, g3, f5⟩ := num_from hz (by omega) (by omega) f4
  obtain ⟨i1, i2, i3, f6⟩ := text_from hz (by omega) f5
  obtain ⟨j1, j2, j3, f7⟩ := text_from hz (by omega) f6
  rw [List.nil_append, List.nil_append, m1, m2, svF_len] at d1
  have hk : srK (sbT o) = o.k := a1
  have hat : srAt (sbT o) = o.at_ := by unfold srAt; rw [show rtA (sbT o) 0 false = _ from a2, show rtB (sbT o) 0 false = _ from a3]; exact b1
  have hm : rmN (sbT o) ((0 + (putTextB o.k).size + (putB o.at_).size : Nat) : Int) false 3 = (o.ns.length : Int) := by
    unfold rmN; rw [c1, if_pos (by unfold inM; rw [decide_eq_true_iff]; omega)]
  have hmb : rmB (sbT o) ((0 + (putTextB o.k).size + (putB o.at_).size : Nat) : Int) false 3 = false := by
    unfold rmB; rw [c1, if_pos (by unfold inM; rw [decide_eq_true_iff]; omega)]; exact c3
  have hL : srL (sbT o) = ⟨e, false, o.ns, o.cs⟩ := by
    unfold srL
    rw [show rtA (sbT o) 0 false = _ from a2, show rtB (sbT o) 0 false = _ from a3, b2, b3, hm, hmb, c2, Int.toNat_natCast]
    exact d1
  refine ⟨?_, ?_, hz⟩
  · unfold srP
    rw [hk, hat, hL]
    unfold srIx srS srV
    dsimp only
    rw [g1, g2, g3, i1, i2, i3, j1]
  · rw [hL]
    unfold srBd
    dsimp only
    rw [g2, g3, i2, i3, j3]
theorem shown_code (o : Shw) (h : sbOk o = true) : srC (sbT o) = 0 ∧ srO (sbT o) = o := by
  obtain ⟨h1, h2, h3⟩ := shown_back o h
  have hb : sbB o = sbT o := if_pos h
  have hne : (sbT o).toList.isEmpty = false := by
    cases he : (sbT o).toList.isEmpty with
    | false => rfl
    | true =>
      rw [emB_isEmpty, emB_iff] at he
      have hs := congrArg ByteArray.size he
      unfold sbT at hs
      simp only [ByteArray.size_append] at hs
      have : 0 < (putB o.ix).size := by
        rw [putB_len]
        have := putI_ne 9 (foldN o.ix)
        cases h : putI 9 (foldN o.ix) with
        | nil => exact absurd h this
        | cons => simp
      rw [show ByteArray.empty.size = 0 from rfl] at hs
      omega
  have hc : srC (sbT o) = 0 := by
    unfold srC
    rw [if_neg (by omega), if_neg]
    rintro (q | q | q)
    · rw [h2] at q; exact Bool.false_ne_true q
    · rw [hne] at q; exact Bool.false_ne_true q
    · rw [h1, hb] at q; simp at q
  exact ⟨hc, (if_pos hc).trans h1⟩
end Go.Proofs.YtnomkcbcjaagmabGreatDoor
