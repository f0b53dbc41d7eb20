/-
  The program's padded: a text filled up to whole blocks: 'padN', in new memory.
  Conditions: the text is at most 2^40 bytes long.
-/
import Derived.Test.YtfdihkgkiiekcaaDoorRows
import Derived.Test.YtfdihkgkiiekcaaDoorBytes
import Derived.Test.YtfdihkgkiiekcaaDoorDigMath
import Derived.Test.YtfdihkgkiiekcaaDoorOwnB
import Derived.Handy
namespace Go.Proofs.YtfdihkgkiiekcaaDoor
open Go.RowKit Go.Lib
set_option linter.unusedVariables false
set_option maxRecDepth 20000

theorem infoU8q : (Tryd.prog.info? 5).map (fun i => (i.zero, i.size, i.bytes)) = some (some (.int .u8 0), 1, 1) := by kernel_rfl
theorem sizeU8q : (Tryd.prog.info? 5).map (·.size) = some 1 := by kernel_rfl
theorem run_make_u8q (n : Nat) (hn : n ≤ 281474976710656) (w : World) :
    (Instr.makeSlice 70 (.int .i64 (n : Int)) (.int .i64 (n : Int))).run Tryd.prog w = .ok (.slice (some ⟨w.heap.size, 0, none⟩) n n) (w.alloc (.cells (zrow n).toArray 5)) := by
  obtain ⟨i0, hi, hz0, hz1, hz2⟩ := info_parts infoU8q
  have := run_make (P := Tryd.prog) w 70 5 i0 (.int .u8 0) Tryd.underlying70 hi hz0 .i64 .i64 (n : Int) (n : Int) (by omega) (by omega) (by rw [hz2]; omega) (by omega)
  rw [this, hz1]
  simp only [Int.toNat_natCast, Nat.mul_one]
  rw [← madeZ]; rfl

def rowN (xs : List Int) : List Value := xs.map (Value.int .u8)
theorem ownB_of_heap {w : World} {base g : Nat} {xs : List Int} {T : TypeId} (h : w.heap[g]? = some (.cells (rowN xs).toArray T (0, 0))) (hb : base ≤ g) (hl : xs.length ≤ maxLen) : OwnB w base g xs.length xs := by
  refine ⟨hb, lt_of_block h, Nat.le_refl _, hl, fun j hj => ?_, fun j hj => ?_⟩
  · simp [World.cell?, World.frozen?, h, rowN, hj]
  · simp [World.cell?, h, rowN, hj]
theorem bytesRowN (t : ByteArray) : Go.Lib.byteCells t.data.toList = rowN (bytesN t) := by simp [Go.Lib.byteCells, rowN, bytesN]
theorem pad_zero (t : ByteArray) (L : Nat) (h : t.size ≤ L) : splice (zrow L) 0 (Go.Lib.byteCells t.data.toList) = rowN (bytesN t ++ List.replicate (L - t.size) 0) := by
  have e : (Go.Lib.byteCells t.data.toList).length = t.size := by rw [Go.Lib.byteCells_length, ← size_eq]
  unfold splice
  rw [e, bytesRowN]
  simp [rowN, zrow]
theorem row_set (A B : List Int) (u v : Int) (n : Nat) (h : A.length = n) : (rowN (A ++ u :: B)).toArray.setIfInBounds n (.int .u8 v) = (rowN (A ++ v :: B)).toArray := by
  subst h
  unfold rowN
  rw [List.map_append, List.map_append, List.map_cons, List.map_cons, List.setIfInBounds_toArray, List.set_append_right _ _ (by simp)]
  simp
def padP (t : ByteArray) (i : Nat) : List Int := bytesN t ++ [128] ++ List.replicate (zN t.size + 8 - i) 0 ++ (be8To (8 * (t.size : Int)) 8).drop (8 - i)
theorem padP_eight (t : ByteArray) : padP t 8 = padN t := by simp [padP, padN]
theorem padP_start (t : ByteArray) (L : Nat) (hL : L = 64 * nB t) : (rowN (bytesN t ++ List.replicate (L - t.size) 0)).toArray.setIfInBounds t.size (.int .u8 128) = (rowN (padP t 0)).toArray := by
  have e : L - t.size = (zN t.size + 8) + 1 := by subst hL; unfold nB zN; omega
  rw [e, List.replicate_succ, row_set (bytesN t) _ 0 128 t.size (bytesN_len t)]
  congr 2
  unfold padP
  rw [List.drop_of_length_le (by rw [be8To_len]; omega)]
  simp
theorem padP_step (t : ByteArray) (L : Nat) (hL : L = 64 * nB t) (i : Nat) (hi : i < 8) (n : Nat) (hn : n + 1 + i = L) :
    (rowN (padP t i)).toArray.setIfInBounds n (.int .u8 ((t.size : Int) * 8 / 2 ^ (8 * i) % 256)) = (rowN (padP t (i + 1))).toArray := by
  have e1 : zN t.size + 8 - i = (zN t.size + 8 - (i + 1)) + 1 := by omega
  have e2 : (be8To (8 * (t.size : Int)) 8).drop (8 - (i + 1)) = ((t.size : Int) * 8 / 2 ^ (8 * i) % 256) :: (be8To (8 * (t.size : Int)) 8).drop (8 - i) := by
    rw [List.drop_eq_getElem_cons (by rw [be8To_len]; omega)]
    congr 1
    · simp only [be8To, List.getElem_map, List.getElem_range, bePart]
      rw [Int.mul_comm, show 56 - 8 * (8 - (i + 1)) = 8 * i by omega]
    · congr 1; omega
  have e3 : padP t i = (bytesN t ++ [128] ++ List.replicate (zN t.size + 8 - (i + 1)) 0) ++ 0 :: (be8To (8 * (t.size : Int)) 8).drop (8 - i) := by
    unfold padP; rw [e1, List.replicate_succ']; simp
  rw [e3, row_set _ _ 0 _ n (by
    simp only [List.length_append, bytesN_len, List.length_replicate, List.length_cons, List.length_nil]
    subst hL; unfold nB zN at hn; unfold zN; omega)]
  congr 2
  unfold padP; rw [e2]
theorem padP_len (t : ByteArray) (i : Nat) (hi : i ≤ 8) : (padP t i).length = 64 * nB t := by
  simp only [padP, List.length_append, bytesN_len, List.length_replicate, List.length_cons, List.length_nil, List.length_drop, be8To_len, nB]
  unfold zN; omega
theorem row_cellN {w : World} {g : Nat} {xs : List Int} {T : TypeId} (h : w.heap[g]? = some (.cells (rowN xs).toArray T (0, 0))) (j : Nat) (hj : j < xs.length) : (∃ v, w.cell? ⟨g, j, none⟩ = some v) ∧ w.frozen? ⟨g, j, none⟩ = false := by
  simp [World.cell?, World.frozen?, h, rowN, hj]

set_option maxHeartbeats 1000000 in
theorem padI_any (t : ByteArray) (w : World) (ht : t.size ≤ 1099511627776) :
    Calls Tryd.prog 74 #[.string t] w fun e w' => ∃ g, e = .returned (.slice (some ⟨g, 0, none⟩) (64 * nB t) (64 * nB t)) ∧ OwnB w' w.heap.size g (64 * nB t) (padN t) ∧ Below w.heap.size w w' := by
  obtain ⟨L, hL⟩ : ∃ L, L = 64 * nB t := ⟨_, rfl⟩
  have HL : Hid (L = 64 * nB t) := hL
  have hLb : L ≤ 1099511627900 := by subst hL; unfold nB zN; omega
  have hLs : t.size + 9 ≤ L := by subst hL; unfold nB zN; omega
  have HE : Hid ((t.size : Int) + 1 + 8 + -(((t.size : Int) + 1 + 8) % 64) % 64 = (L : Int)) := by show _ = _; subst hL; unfold nB zN; omega
  have hmk := run_make_u8q L (by omega)
  obtain ⟨w2, hcp, hrow2, hbel⟩ := copy_str (P := Tryd.prog) (w.alloc (.cells (zrow L).toArray 5)) 70 9 3 5 Tryd.underlying70 sizeU8q w.heap.size 0 L L t (zrow L) 5 (heap_alloc_new w _) (by omega) (by simp [zrow]; omega)
  have hb2 := hbel w.heap.size w ((Below.refl _ _).alloc (Nat.le_refl _) _) (Nat.le_refl _)
  rw [pad_zero t L (by omega)] at hrow2
  have hc2 := row_cellN hrow2 t.size (by rw [List.length_append, bytesN_len, List.length_replicate]; omega)
  have HRow : Hid ((w2.setCell ⟨w.heap.size, t.size, none⟩ (.int .u8 128)).heap[w.heap.size]? = some (.cells (rowN (padP t 0)).toArray 5 (0, 0))) := by show _ = _; rw [blk_set hrow2, padP_start t L hL]
  have HB2 : Hid (Below w.heap.size w (w2.setCell ⟨w.heap.size, t.size, none⟩ (.int .u8 128))) := hb2.setCell (Nat.le_refl _) _
  obtain ⟨⟨v0, hc2⟩, hf2⟩ := hc2
  clear hrow2 hbel hb2 hL
  rw [← HL.out]
  go_enter Tryd.func74, Tryd.ntmps74
  go_wp2
  rw [HE.out, hmk]
  simp only [Result.andThen]
  rw [Oper.upon_value]
  go_wp2
  go_loopw [28] (fun x wr => ∃ i : Nat, i ≤ 8 ∧ x = .int .i64 i ∧ Hid (wr.heap[w.heap.size]? = some (.cells (rowN (padP t i)).toArray 5 (0, 0))) ∧ Hid (Below w.heap.size w wr)) (fun x _ => 8 - (Go.RowKit.intOf x).toNat)
  case atStart => exact ⟨0, by omega, rfl, HRow, HB2⟩
  case round =>
    clear HRow HB2 hmk hcp hc2 hf2 HE
    obtain ⟨i, hi, rfl, hrow, hnx⟩ := hrel
    by_cases hlt : i < 8
    · obtain ⟨n, hn⟩ : ∃ n, n + 1 + i = L := ⟨L - 1 - i, by omega⟩
      obtain ⟨⟨v1, hc⟩, hf⟩ := row_cellN hrow.out n (by rw [padP_len t i hi, ← HL.out]; omega)
      have HR : Hid ((wr.setCell ⟨w.heap.size, n, none⟩ (.int .u8 ((t.size : Int) * 8 / 2 ^ (8 * i) % 256))).heap[w.heap.size]? = some (.cells (rowN (padP t (i + 1))).toArray 5 (0, 0))) := by show _ = _; rw [blk_set hrow.out, padP_step t L HL.out i hlt n hn]
      have HB : Hid (Below w.heap.size w (wr.setCell ⟨w.heap.size, n, none⟩ (.int .u8 ((t.size : Int) * 8 / 2 ^ (8 * i) % 256)))) := hnx.out.setCell (Nat.le_refl _) _
      have q1 : ((L : Int) - 1 - (i : Int)).toNat = n := by omega
      have q2 : (i : Int) ≤ (L : Int) - 1 := by omega
      have q3 : (L : Int) - 1 - (i : Int) < (L : Int) := by omega
      have q4 : IntKind.i64.wrap ((L : Int) - 1 - (i : Int)) = (L : Int) - 1 - (i : Int) := by rw [IntKind.wrap_i64]; omega
      have q5 : ((8 : Int) * (i : Int)).toNat = 8 * i := by omega
      have q6 : (0 : Int) ≤ (L : Int) - 1 - (i : Int) := by omega
      clear hn
      go_wp2
      go_roundw
      case rel => exact ⟨i + 1, by omega, by go_num, HR, HB⟩
      case measure => simp [Go.RowKit.intOf]; omega
    · have hi8 : i = 8 := by omega
      subst hi8
      rw [padP_eight] at hrow
      go_wp2
      go_ret
      refine ⟨w.heap.size, rfl, ?_, hnx.out⟩
      have := ownB_of_heap hrow.out (Nat.le_refl w.heap.size) (by rw [padN_len, ← HL.out]; unfold maxLen; omega)
      rw [padN_len, ← HL.out] at this
      exact this
end Go.Proofs.YtfdihkgkiiekcaaDoor
