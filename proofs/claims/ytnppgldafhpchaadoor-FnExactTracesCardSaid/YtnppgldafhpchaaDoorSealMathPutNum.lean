/-
  Parts of one proof, laid as one text: SealMath, PutNum; what each says stands at its head.
-/
import Derived.Test.YtnppgldafhpchaaDoorFourCrcMath
import Derived.Test.YtnppgldafhpchaaDoorSealUnsealI
import Derived.Test.YtnppgldafhpchaaDoorRows
import Derived.Test.YtnppgldafhpchaaDoorBytes
import Derived.Test.YtnppgldafhpchaaDoorSen3PutMath
import Derived.Handy
import Derived.WalkSpells
import Derived.Deep.AppendLies
/-
  A sealed text comes back; with one byte turned it is refused: in plain mathematics, over what Seal and Unseal answer.
-/
namespace Go.Proofs.YtnppgldafhpchaaDoor
open Go.RowKit Go.Lib
set_option linter.unusedVariables false

theorem unsealB_of (lt lf : List UInt8) (h4 : lf.length = 4) (h8 : lt.length + 4 ≤ 8000) :
    unsealB ⟨(lt ++ lf).toArray⟩ = if (four (crcV 0 ⟨lt.toArray⟩)).data.toList = lf then textOut ⟨lt.toArray⟩ 0 0 else textOut ByteArray.empty 0 5 := by
  have hsz : (⟨(lt ++ lf).toArray⟩ : ByteArray).size = lt.length + 4 := by simp [ByteArray.size, h4]
  have hbody : body ⟨(lt ++ lf).toArray⟩ = ⟨lt.toArray⟩ := by
    unfold body; rw [hsz, extract_eq]
    simp
  have htail : (tail4 ⟨(lt ++ lf).toArray⟩).toList = lf := by
    unfold tail4; rw [hsz, extract_toList]
    simp
    exact List.take_of_length_le (by omega)
  unfold unsealB
  rw [if_neg (by rw [hsz]; omega), if_neg (by rw [hsz]; omega), hbody, htail, toList_data]
  by_cases e : (four (crcV 0 ⟨lt.toArray⟩)).data.toList = lf
  · rw [if_pos e, if_pos (by rw [e]; simp)]
  · rw [if_neg e, if_neg (by simpa using e)]

theorem sealB_list (t : ByteArray) (h : t.size ≤ 7996) : sealB t = ⟨(t.data.toList ++ (four (crcV 0 t)).data.toList).toArray⟩ := by
  unfold sealB; rw [if_neg (by omega)]
  apply ByteArray.ext; simp
theorem four_len (n : Int) : (four n).data.toList.length = 4 := by rw [← size_eq]; exact four_size n
theorem sealB_size (t : ByteArray) (h : t.size ≤ 7996) : (sealB t).size = t.size + 4 := by
  unfold sealB; rw [if_neg (by omega)]; simp [four_size]

theorem unseal_seal (t : ByteArray) (h : t.size ≤ 7996) : unsealB (sealB t) = textOut t 0 0 := by
  rw [sealB_list t h, unsealB_of _ _ (four_len _) (by rw [← size_eq]; omega)]
  rw [mk_data, if_pos rfl]

theorem unseal_turned (t : ByteArray) (h : t.size ≤ 7996) (i : Nat) (x : UInt8) (hi : i < (sealB t).size) (hx : x ≠ (sealB t)[i]) :
    unsealB ⟨((sealB t).data.toList.set i x).toArray⟩ = textOut ByteArray.empty 0 5 := by
  have hsz := sealB_size t h
  have hl := sealB_list t h
  have hxl : ∀ y, (t.data.toList ++ (four (crcV 0 t)).data.toList)[i]? = some y → x ≠ y := by
    intro y hy e
    apply hx
    have h1 : (sealB t).data.toList[i]? = some y := by rw [hl]; simpa using hy
    have h2 : (sealB t).data.toList[i]? = some (sealB t)[i] := by
      rw [List.getElem?_eq_getElem (by simpa using hi)]; rfl
    rw [e]
    exact Option.some.inj (h1.symm.trans h2)
  have hdata : (sealB t).data.toList = t.data.toList ++ (four (crcV 0 t)).data.toList := by rw [hl]
  rw [hdata]
  have htl : t.data.toList.length = t.size := (size_eq t).symm
  by_cases hlt : i < t.size
  · rw [List.set_append_left _ _ (by omega), unsealB_of _ _ (four_len _) (by rw [List.length_set]; omega), if_neg]
    intro e
    have e1 : four (crcV 0 ⟨(t.data.toList.set i x).toArray⟩) = four (crcV 0 t) := by
      apply ByteArray.ext; exact Array.toList_inj.1 e
    have b1 := crcV_bd 0 ⟨(t.data.toList.set i x).toArray⟩
    have b2 := crcV_bd 0 t
    have e2 := four_inj b1.1 b1.2 b2.1 b2.2 e1
    have hil : i < t.data.toList.length := by omega
    have s1 : t.data.toList.set i x = t.data.toList.take i ++ x :: t.data.toList.drop (i + 1) := List.set_eq_take_append_cons_drop.trans (if_pos hil)
    have s2 : t.data.toList = t.data.toList.take i ++ t.data.toList[i] :: t.data.toList.drop (i + 1) := by rw [← List.drop_eq_getElem_cons hil, List.take_append_drop]
    have e3 : crcV 0 ⟨(t.data.toList.take i ++ x :: t.data.toList.drop (i + 1)).toArray⟩ = crcV 0 ⟨(t.data.toList.take i ++ t.data.toList[i] :: t.data.toList.drop (i + 1)).toArray⟩ := by
      rw [← s1, ← s2, mk_data]; exact e2
    exact hxl t.data.toList[i] (by rw [List.getElem?_append_left hil, List.getElem?_eq_getElem hil]) (crcV_turned _ _ _ _ e3)
  · rw [List.set_append_right _ _ (by omega), unsealB_of _ _ (by rw [List.length_set]; exact four_len _) (by omega), if_neg]
    rw [mk_data]
    intro e
    have hj : i - t.data.toList.length < (four (crcV 0 t)).data.toList.length := by rw [four_len]; omega
    have h1 : ((four (crcV 0 t)).data.toList.set (i - t.data.toList.length) x)[i - t.data.toList.length]? = some x := List.getElem?_set_self hj
    rw [← e] at h1
    exact hxl x (by rw [List.getElem?_append_right (by omega)]; exact h1) rfl

theorem xor8 (c d : Int) (c0 : 0 ≤ c) (c1 : c ≤ 255) (d0 : 1 ≤ d) (d1 : d ≤ 255) : 0 ≤ bits .xor .u8 c d ∧ bits .xor .u8 c d ≤ 255 ∧ bits .xor .u8 c d ≠ c := by
  obtain ⟨a, rfl⟩ := Int.eq_ofNat_of_zero_le c0
  obtain ⟨b, rfl⟩ := Int.eq_ofNat_of_zero_le (show 0 ≤ d by omega)
  have hx : a ^^^ b < 2 ^ 8 := Nat.xor_lt_two_pow (by omega) (by omega)
  have e : bits .xor .u8 (a : Int) (b : Int) = ((a ^^^ b : Nat) : Int) := by
    show IntKind.u8.wrap ((BitVec.ofInt 8 (a : Int) ^^^ BitVec.ofInt 8 (b : Int)).toNat : Int) = _
    rw [BitVec.ofInt_natCast, BitVec.ofInt_natCast, BitVec.toNat_xor, BitVec.toNat_ofNat, BitVec.toNat_ofNat, Nat.mod_eq_of_lt (by omega), Nat.mod_eq_of_lt (by omega), IntKind.wrap_u8]
    omega
  rw [e]
  refine ⟨by omega, by omega, fun h => ?_⟩
  have h' : a ^^^ b = a := by omega
  have : b = 0 := by
    have e2 := congrArg (fun z => a ^^^ z) h'
    simpa [← Nat.xor_assoc] using e2
  omega
end Go.Proofs.YtnppgldafhpchaaDoor
/-
  What PutNum answers, in the program and in the specification: the bytes 'putB n', in new memory.
  Conditions: n is an int64.
-/
namespace Go.Proofs.YtnppgldafhpchaaDoor
open Go.RowKit Go.Lib
set_option linter.unusedVariables false

theorem ret_intP {k : IntKind} {a b : Int} (h : a = b) : Ending.returned (.int k a) = .returned (.int k b) := by rw [h]
theorem infoU8p : (Tryd.prog.info? 5).map (fun i => (i.zero, i.size, i.bytes)) = some (some (.int .u8 0), 1, 1) := by kernel_rfl

set_option maxHeartbeats 400000 in
theorem specFold_any (n : Int) (w : World) (h0 : -9223372036854775808 ≤ n) (h1 : n ≤ 9223372036854775807) :
    Calls Tryd.prog 51 #[.int .i64 n] w fun e w' => e = .returned (.int .u64 (foldN n)) ∧ w' = w := by
  by_cases hn : 0 ≤ n
  · have H : Hid (foldN n = 2 * n) := if_pos hn
    go_enter Tryd.func51, Tryd.ntmps51
    go_wp2
    go_ret
    exact ⟨ret_intP H.out.symm, rfl⟩
  · have H : Hid (foldN n = -2 * n - 1) := if_neg hn
    go_enter Tryd.func51, Tryd.ntmps51
    go_wp2
    go_ret
    exact ⟨ret_intP (by rw [H.out]; omega), rfl⟩

theorem own_conv {w : World} {base g k cap : Nat} {xs : List Int} (h : w.ownsRow base 5 1 (.slice (some ⟨g, 0, none⟩) k cap) k (xs.map (Value.int .u8))) (hl : xs.length = k) :
    (convert 59 9 (.slice (some ⟨g, 0, none⟩) k cap)).run Tryd.prog w = .ok (.string (strOfNums xs)) w :=
  run_convert_bytes_arg (P := Tryd.prog) w 59 5 Tryd.underlying59 Tryd.underlying5 g 0 k cap xs hl (fun i hi => by
    rw [Nat.zero_add, h.cellAt i (by omega)]
    have : i < xs.length := by omega
    simp [List.getD, List.getElem?_eq_getElem this]) 9 Tryd.underlying9

set_option maxHeartbeats 1000000 in
theorem specPutNum_any (n : Int) (w : World) (h0 : -9223372036854775808 ≤ n) (h1 : n ≤ 9223372036854775807) :
    Calls Tryd.prog 46 #[.int .i64 n] w fun e w' => e = .returned (.string (putB n)) ∧ Below w.heap.size w w' := by
  have hfb := foldN_bd h0 h1
  obtain ⟨i0, hi, hz0, hz1, hz2⟩ := info_parts infoU8p
  go_enter Tryd.func46, Tryd.ntmps46
  go_wp2_with (go_at_call 51; refine (specFold_any _ _ h0 h1).mono ?_; rintro e w1 ⟨rfl, hw⟩)
  subst hw
  go_loopw [3, 4] (fun x v wr => ∃ (k : Nat) (pre : List Int) (u : Int) (g cap : Nat), x = .int .u64 u ∧ v = .slice (some ⟨g, 0, none⟩) k cap ∧ Hid (PutTo (foldN n) k pre u) ∧ wr.ownsRow w1.heap.size 5 1 (.slice (some ⟨g, 0, none⟩) k cap) k (pre.map (Value.int .u8)) ∧ Below w1.heap.size w1 wr) (fun x _ _ => (intOf x).toNat)
  case atStart =>
    exact ⟨0, [], foldN n, w1.heap.size, 0, rfl, rfl, putTo_start hfb.1 hfb.2, World.ownsRow_made w1 #[] 0 (Nat.le_refl _) (by unfold maxLen; omega) rfl, (Below.refl _ _).alloc (Nat.le_refl _) _⟩
  case round =>
    obtain ⟨k, pre, u, g, cap, rfl, rfl, HP, hown, hnx⟩ := hrel
    have hk : k ≤ 9 := HP.out.1
    have hu0 : 0 ≤ u := HP.out.2.2.1
    have hu1 : u ≤ 18446744073709551615 := by have := HP.out.2.2.2.2.2.2; omega
    have hlen : pre.length = k := HP.out.2.1
    have HL : Hid (pre.length = k) := hlen
    have hsz : w1.heap.size ≤ wr.heap.size := hnx.size
    clear hlen
    by_cases hlt : 128 ≤ u
    · have HQ : Hid (PutTo (foldN n) (k + 1) (pre ++ [u % 128 + 128]) (u / 128)) := putTo_step HP.out hlt
      go_wp2_with (at_builtin; refine wpList_append_lies _ rfl _ _ 59 rfl w1.heap.size 5 i0 (.int .u8 0) 1 1 Tryd.underlying59 hi hz0 hz1 hz2 rfl (by omega) _ k _ rfl (hown.alloc _) ⟨wr.heap.size, 0, none⟩ 1 1 [.int .u8 (u % 128 + 128)] rfl rfl (World.news_of_block (cs := #[.int .u8 (u % 128 + 128)]) (t := 5) (fr := (0, 0)) (heap_alloc_new wr _)) (by simp [Value.oneCell']) (by omega) (by unfold maxLen; omega) (by omega) (by simp; omega) (wr.heap.size + 1) (by simp) ?_; intro g2 cap2 w2 hown2 hgrow hat hltg)
      have hb2 : Below w1.heap.size w1 w2 := (hnx.alloc hsz _).grown hgrow (by simp; omega) (fun j hj => (hown.lt j hj).1)
      have ho2 : w2.ownsRow w1.heap.size 5 1 (.slice (some ⟨g2, 0, none⟩) (k + 1) cap2) (k + 1) ((pre ++ [u % 128 + 128]).map (Value.int .u8)) := by rw [List.map_append]; exact hown2
      go_roundw
      case rel => exact ⟨k + 1, pre ++ [u % 128 + 128], u / 128, g2, cap2, rfl, rfl, HQ, ho2, hb2⟩
      case measure => simp [intOf]; omega
    · have HE : Hid (putB n = strOfNums (pre ++ [u])) := by show putB n = _; unfold putB; rw [putTo_end HP.out (by omega)]
      go_wp2_with (at_builtin; refine wpList_append_lies _ rfl _ _ 59 rfl w1.heap.size 5 i0 (.int .u8 0) 1 1 Tryd.underlying59 hi hz0 hz1 hz2 rfl (by omega) _ k _ rfl (hown.alloc _) ⟨wr.heap.size, 0, none⟩ 1 1 [.int .u8 u] rfl rfl (World.news_of_block (cs := #[.int .u8 u]) (t := 5) (fr := (0, 0)) (heap_alloc_new wr _)) (by simp [Value.oneCell']) (by omega) (by unfold maxLen; omega) (by omega) (by simp; omega) (wr.heap.size + 1) (by simp) ?_; intro g2 cap2 w2 hown2 hgrow hat hltg; have hconv := own_conv (xs := pre ++ [u]) (by rw [List.map_append]; exact hown2) (by rw [List.length_append, HL.out]; rfl))
      go_ret
      exact ⟨ret_str HE.out.symm, (hnx.alloc hsz _).grown hgrow (by simp; omega) (fun j hj => (hown.lt j hj).1)⟩

theorem heap_set {w : World} {g i : Nat} {cs : Array Value} {T : TypeId} (hg : w.heap[g]? = some (.cells cs T (0, 0))) (v : Value) : (w.setCell ⟨g, i, none⟩ v).heap[g]? = some (.cells (cs.setIfInBounds i v) T (0, 0)) := by
  simp [World.setCell, Array.getElem?_modify, hg]

end Go.Proofs.YtnppgldafhpchaaDoor
