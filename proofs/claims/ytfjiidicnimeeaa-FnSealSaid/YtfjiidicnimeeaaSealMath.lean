/-
  A sealed text comes back; with one byte turned it is refused: in plain mathematics, over what Seal and Unseal answer.
-/
import Derived.Test.YtfjiidicnimeeaaCrcMath
import Derived.Test.YtfjiidicnimeeaaSeal
import Derived.Test.YtfjiidicnimeeaaUnsealI
namespace Go.Proofs.Ytfjiidicnimeeaa
open Go.RowKit Go.Lib
set_option linter.unusedVariables false

theorem unsealB_of (lt lf : List UInt8) (h4 : lf.length = 4) (h8 : lt.length + 4 ≤ 8000) :
    unsealB ⟨(lt ++ lf).toArray⟩ = if (four (crcV 0 ⟨lt.toArray⟩)).data.toList = lf then textOut ⟨lt.toArray⟩ 0 0 else textOut ByteArray.empty 0 5 := by
  have hsz : (⟨(lt ++ lf).toArray⟩ : ByteArray).size = lt.length + 4 := by simp [ByteArray.size, h4]
  have hbody : body ⟨(lt ++ lf).toArray⟩ = ⟨lt.toArray⟩ := by
    unfold body; rw [hsz, extract_eq]
    simp
  have htail : (tail4 ⟨(lt ++ lf).toArray⟩).toList = lf := by
    unfold tail4; rw [hsz, extract_toList]
    simp
    exact List.take_of_length_le (by omega)
  unfold unsealB
  rw [if_neg (by rw [hsz]; omega), if_neg (by rw [hsz]; omega), hbody, htail, toList_data]
  by_cases e : (four (crcV 0 ⟨lt.toArray⟩)).data.toList = lf
  · rw [if_pos e, if_pos (by rw [e]; simp)]
  · rw [if_neg e, if_neg (by simpa using e)]

theorem sealB_list (t : ByteArray) (h : t.size ≤ 7996) : sealB t = ⟨(t.data.toList ++ (four (crcV 0 t)).data.toList).toArray⟩ := by
  unfold sealB; rw [if_neg (by omega)]
  apply ByteArray.ext; simp
theorem four_len (n : Int) : (four n).data.toList.length = 4 := by rw [← size_eq]; exact four_size n
theorem sealB_size (t : ByteArray) (h : t.size ≤ 7996) : (sealB t).size = t.size + 4 := by
  unfold sealB; rw [if_neg (by omega)]; simp [four_size]

theorem unseal_seal (t : ByteArray) (h : t.size ≤ 7996) : unsealB (sealB t) = textOut t 0 0 := by
  rw [sealB_list t h, unsealB_of _ _ (four_len _) (by rw [← size_eq]; omega)]
  rw [mk_data, if_pos rfl]

theorem unseal_turned (t : ByteArray) (h : t.size ≤ 7996) (i : Nat) (x : UInt8) (hi : i < (sealB t).size) (hx : x ≠ (sealB t)[i]) :
    unsealB ⟨((sealB t).data.toList.set i x).toArray⟩ = textOut ByteArray.empty 0 5 := by
  have hsz := sealB_size t h
  have hl := sealB_list t h
  have hxl : ∀ y, (t.data.toList ++ (four (crcV 0 t)).data.toList)[i]? = some y → x ≠ y := by
    intro y hy e
    apply hx
    have h1 : (sealB t).data.toList[i]? = some y := by rw [hl]; simpa using hy
    have h2 : (sealB t).data.toList[i]? = some (sealB t)[i] := by
      rw [List.getElem?_eq_getElem (by simpa using hi)]; rfl
    rw [e]
    exact Option.some.inj (h1.symm.trans h2)
  have hdata : (sealB t).data.toList = t.data.toList ++ (four (crcV 0 t)).data.toList := by rw [hl]
  rw [hdata]
  have htl : t.data.toList.length = t.size := (size_eq t).symm
  by_cases hlt : i < t.size
  · rw [List.set_append_left _ _ (by omega), unsealB_of _ _ (four_len _) (by rw [List.length_set]; omega), if_neg]
    intro e
    have e1 : four (crcV 0 ⟨(t.data.toList.set i x).toArray⟩) = four (crcV 0 t) := by
      apply ByteArray.ext; exact Array.toList_inj.1 e
    have b1 := crcV_bd 0 ⟨(t.data.toList.set i x).toArray⟩
    have b2 := crcV_bd 0 t
    have e2 := four_inj b1.1 b1.2 b2.1 b2.2 e1
    have hil : i < t.data.toList.length := by omega
    have s1 : t.data.toList.set i x = t.data.toList.take i ++ x :: t.data.toList.drop (i + 1) := List.set_eq_take_append_cons_drop.trans (if_pos hil)
    have s2 : t.data.toList = t.data.toList.take i ++ t.data.toList[i] :: t.data.toList.drop (i + 1) := by rw [← List.drop_eq_getElem_cons hil, List.take_append_drop]
    have e3 : crcV 0 ⟨(t.data.toList.take i ++ x :: t.data.toList.drop (i + 1)).toArray⟩ = crcV 0 ⟨(t.data.toList.take i ++ t.data.toList[i] :: t.data.toList.drop (i + 1)).toArray⟩ := by
      rw [← s1, ← s2, mk_data]; exact e2
    exact hxl t.data.toList[i] (by rw [List.getElem?_append_left hil, List.getElem?_eq_getElem hil]) (crcV_turned _ _ _ _ e3)
  · rw [List.set_append_right _ _ (by omega), unsealB_of _ _ (by rw [List.length_set]; exact four_len _) (by omega), if_neg]
    rw [mk_data]
    intro e
    have hj : i - t.data.toList.length < (four (crcV 0 t)).data.toList.length := by rw [four_len]; omega
    have h1 : ((four (crcV 0 t)).data.toList.set (i - t.data.toList.length) x)[i - t.data.toList.length]? = some x := List.getElem?_set_self hj
    rw [← e] at h1
    exact hxl x (by rw [List.getElem?_append_right (by omega)]; exact h1) rfl

theorem xor8 (c d : Int) (c0 : 0 ≤ c) (c1 : c ≤ 255) (d0 : 1 ≤ d) (d1 : d ≤ 255) : 0 ≤ bits .xor .u8 c d ∧ bits .xor .u8 c d ≤ 255 ∧ bits .xor .u8 c d ≠ c := by
  obtain ⟨a, rfl⟩ := Int.eq_ofNat_of_zero_le c0
  obtain ⟨b, rfl⟩ := Int.eq_ofNat_of_zero_le (show 0 ≤ d by omega)
  have hx : a ^^^ b < 2 ^ 8 := Nat.xor_lt_two_pow (by omega) (by omega)
  have e : bits .xor .u8 (a : Int) (b : Int) = ((a ^^^ b : Nat) : Int) := by
    show IntKind.u8.wrap ((BitVec.ofInt 8 (a : Int) ^^^ BitVec.ofInt 8 (b : Int)).toNat : Int) = _
    rw [BitVec.ofInt_natCast, BitVec.ofInt_natCast, BitVec.toNat_xor, BitVec.toNat_ofNat, BitVec.toNat_ofNat, Nat.mod_eq_of_lt (by omega), Nat.mod_eq_of_lt (by omega), IntKind.wrap_u8]
    omega
  rw [e]
  refine ⟨by omega, by omega, fun h => ?_⟩
  have h' : a ^^^ b = a := by omega
  have : b = 0 := by
    have e2 := congrArg (fun z => a ^^^ z) h'
    simpa [← Nat.xor_assoc] using e2
  omega
end Go.Proofs.Ytfjiidicnimeeaa
