/-
  What PutNum answers, in the program and in the specification: the bytes 'putB n', in new memory.
  Conditions: n is an int64.
-/
import Derived.Test.YteiffjpmccbcoaaGreatDoorRows
import Derived.Test.YteiffjpmccbcoaaGreatDoorBytes
import Derived.Test.YteiffjpmccbcoaaGreatDoorPutMath
import Derived.Handy
import Derived.WalkSpells
import Derived.Deep.AppendLies
namespace Go.Proofs.YteiffjpmccbcoaaGreatDoor
open Go.RowKit Go.Lib
set_option linter.unusedVariables false

theorem ret_intP {k : IntKind} {a b : Int} (h : a = b) : Ending.returned (.int k a) = .returned (.int k b) := by rw [h]
theorem infoU8p : (Tryz.prog.info? 5).map (fun i => (i.zero, i.size, i.bytes)) = some (some (.int .u8 0), 1, 1) := by kernel_rfl

theorem own_conv {w : World} {base g k cap : Nat} {xs : List Int} (h : w.ownsRow base 5 1 (.slice (some ⟨g, 0, none⟩) k cap) k (xs.map (Value.int .u8))) (hl : xs.length = k) :
    (convert 35 9 (.slice (some ⟨g, 0, none⟩) k cap)).run Tryz.prog w = .ok (.string (strOfNums xs)) w :=
  run_convert_bytes_arg (P := Tryz.prog) w 35 5 Tryz.underlying35 Tryz.underlying5 g 0 k cap xs hl (fun i hi => by
    rw [Nat.zero_add, h.cellAt i (by omega)]
    have : i < xs.length := by omega
    simp [List.getD, List.getElem?_eq_getElem this]) 9 Tryz.underlying9

theorem heap_set {w : World} {g i : Nat} {cs : Array Value} {T : TypeId} (hg : w.heap[g]? = some (.cells cs T (0, 0))) (v : Value) : (w.setCell ⟨g, i, none⟩ v).heap[g]? = some (.cells (cs.setIfInBounds i v) T (0, 0)) := by
  simp [World.setCell, Array.getElem?_modify, hg]

theorem arr_conv {w : World} {g k : Nat} {pre : List Int} (h : w.heap[g]? = some (.cells (arr10 pre).toArray 171 (0, 0))) (hl : pre.length = k) :
    (convert 35 9 (.slice (some ⟨g, 0, none⟩) k 10)).run Tryz.prog w = .ok (.string (strOfNums pre)) w :=
  run_convert_bytes_arg (P := Tryz.prog) w 35 5 Tryz.underlying35 Tryz.underlying5 g 0 k 10 pre hl (fun i hi => arr10_at h i (by omega)) 9 Tryz.underlying9

theorem len10 : Tryz.prog.arrayLen 171 = 10 := by kernel_rfl
theorem under10 : Tryz.prog.underlying 171 = some (.array (Tryz.prog.arrayLen 171) (Tryz.prog.elem 171)) := by kernel_rfl
theorem size10 (wx : World) : (sizeOf (Tryz.prog.elem 171)).run Tryz.prog wx = .ok 1 wx := by kernel_rfl
theorem arr_slice (g k : Nat) (hk : k ≤ 9) (wx : World) :
    (Instr.sliceAt 171 (.pointer (some ⟨g, 0, none⟩)) none (some (.int .i64 ((k : Int) + 1))) none).run Tryz.prog wx = .ok (.slice (some ⟨g, 0, none⟩) (k + 1) 10) wx := by
  have h10 := len10
  rw [run_sliceAt_array_h (P := Tryz.prog) wx 171 ⟨g, 0, none⟩ under10 .i64 ((k : Int) + 1) (by omega) (by rw [h10]; omega), size10, h10]
  simp [Result.andThen, slicedAt, Addr.add]

set_option maxHeartbeats 1000000 in
theorem implPutNum_any (n : Int) (w : World) (h0 : -9223372036854775808 ≤ n) (h1 : n ≤ 9223372036854775807) :
    Calls Tryz.prog 44 #[.int .i64 n] w fun e w' => e = .returned (.string (putB n)) ∧ Below w.heap.size w w' := by
  have hfb := foldN_bd h0 h1
  have HF : Hid (putB n = strOfNums (putI 9 (foldN n))) := rfl
  have HS : Hid ((w.alloc (.cells (arr10 []).toArray 171)).heap[w.heap.size]? = some (.cells (arr10 []).toArray 171 (0, 0))) := (MapKept.heap_alloc w _).1
  rw [arr10_nil] at HS
  obtain ⟨u0, hu⟩ : ∃ u0, u0 = foldN n := ⟨_, rfl⟩
  have HU : Hid (u0 = foldN n) := hu
  rw [← hu] at hfb HF
  by_cases hn : 0 ≤ n
  · have hx : n * 2 = u0 := by rw [hu]; unfold foldN; rw [if_pos hn]; omega
    have HX : Hid (n * 2 = u0) := hx
    clear hu hx
    go_enter Tryz.func44, Tryz.ntmps44
    go_wp2
    go_loopw [3, 5] (fun x i wr => ∃ (k : Nat) (pre : List Int) (u : Int), x = .int .u64 u ∧ i = .int .i64 k ∧ Hid (PutTo u0 k pre u) ∧ Hid (wr.heap[w.heap.size]? = some (.cells (arr10 pre).toArray 171 (0, 0))) ∧ Below w.heap.size w wr) (fun x _ _ => (intOf x).toNat)
    case atStart => exact ⟨0, [], u0, by rw [HX.out], rfl, putTo_start hfb.1 hfb.2, HS, (Below.refl _ _).alloc (Nat.le_refl _) _⟩
    case round =>
      obtain ⟨k, pre, u, rfl, rfl, HP, hrow, hnx⟩ := hrel
      have hk : k ≤ 9 := HP.out.1
      have hu0 : 0 ≤ u := HP.out.2.2.1
      have hu1 : u ≤ 18446744073709551615 := by have := HP.out.2.2.2.2.2.2; omega
      have hlen : pre.length = k := HP.out.2.1
      have hsz : w.heap.size < wr.heap.size := lt_of_block hrow.out
      obtain ⟨hck, hfk⟩ := arr10_cell hrow.out (by omega)
      rw [hlen] at hck hfk
      by_cases hlt : 128 ≤ u
      · have HQ : Hid (PutTo u0 (k + 1) (pre ++ [u % 128 + 128]) (u / 128)) := putTo_step HP.out hlt
        have HO : Hid (bits .or .u8 (u % 256) 128 = u % 128 + 128) := or128 u hu0
        have HR : Hid ((wr.setCell ⟨w.heap.size, k, none⟩ (.int .u8 (bits .or .u8 (u % 256) 128))).heap[w.heap.size]? = some (.cells (arr10 (pre ++ [u % 128 + 128])).toArray 171 (0, 0))) := by
          show _ = _; rw [HO.out, heap_set hrow.out, ← hlen, arr10_set _ _ (by omega)]
        clear hlen
        have hb2 : Below w.heap.size w (wr.setCell ⟨w.heap.size, k, none⟩ (.int .u8 (bits .or .u8 (u % 256) 128))) := hnx.setCell (Nat.le_refl _) _
        go_wp2
        go_roundw
        case rel => exact ⟨k + 1, pre ++ [u % 128 + 128], u / 128, rfl, by go_num, HQ, HR, hb2⟩
        case measure => simp [intOf]; omega
      · have HE : Hid (putB n = strOfNums (pre ++ [u])) := by show putB n = _; rw [HF.out, putTo_end HP.out (by omega)]
        have HR : (wr.setCell ⟨w.heap.size, k, none⟩ (.int .u8 u)).heap[w.heap.size]? = some (.cells (arr10 (pre ++ [u])).toArray 171 (0, 0)) := by
          rw [heap_set hrow.out, ← hlen, arr10_set _ _ (by omega)]
        have hconv := arr_conv HR (k := k + 1) (by simp [hlen])
        have hsl := arr_slice w.heap.size k hk
        clear hlen HR
        go_wp2
        go_ret
        exact ⟨ret_str HE.out.symm, hnx.setCell (Nat.le_refl _) _⟩
  · have hx : bits .xor .u64 IntKind.u64.max (IntKind.u64.wrap (IntKind.u64.wrap n * 2)) = u0 := by rw [hu]; exact fold_xor n (by omega) h0
    have HX : Hid (bits .xor .u64 IntKind.u64.max (IntKind.u64.wrap (IntKind.u64.wrap n * 2)) = u0) := hx
    clear hu hx
    go_enter Tryz.func44, Tryz.ntmps44
    go_wp2
    go_loopw [3, 5] (fun x i wr => ∃ (k : Nat) (pre : List Int) (u : Int), x = .int .u64 u ∧ i = .int .i64 k ∧ Hid (PutTo u0 k pre u) ∧ Hid (wr.heap[w.heap.size]? = some (.cells (arr10 pre).toArray 171 (0, 0))) ∧ Below w.heap.size w wr) (fun x _ _ => (intOf x).toNat)
    case atStart => exact ⟨0, [], u0, by rw [HX.out], rfl, putTo_start hfb.1 hfb.2, HS, (Below.refl _ _).alloc (Nat.le_refl _) _⟩
    case round =>
      obtain ⟨k, pre, u, rfl, rfl, HP, hrow, hnx⟩ := hrel
      have hk : k ≤ 9 := HP.out.1
      have hu0 : 0 ≤ u := HP.out.2.2.1
      have hu1 : u ≤ 18446744073709551615 := by have := HP.out.2.2.2.2.2.2; omega
      have hlen : pre.length = k := HP.out.2.1
      have hsz : w.heap.size < wr.heap.size := lt_of_block hrow.out
      obtain ⟨hck, hfk⟩ := arr10_cell hrow.out (by omega)
      rw [hlen] at hck hfk
      by_cases hlt : 128 ≤ u
      · have HQ : Hid (PutTo u0 (k + 1) (pre ++ [u % 128 + 128]) (u / 128)) := putTo_step HP.out hlt
        have HO : Hid (bits .or .u8 (u % 256) 128 = u % 128 + 128) := or128 u hu0
        have HR : Hid ((wr.setCell ⟨w.heap.size, k, none⟩ (.int .u8 (bits .or .u8 (u % 256) 128))).heap[w.heap.size]? = some (.cells (arr10 (pre ++ [u % 128 + 128])).toArray 171 (0, 0))) := by
          show _ = _; rw [HO.out, heap_set hrow.out, ← hlen, arr10_set _ _ (by omega)]
        clear hlen
        have hb2 : Below w.heap.size w (wr.setCell ⟨w.heap.size, k, none⟩ (.int .u8 (bits .or .u8 (u % 256) 128))) := hnx.setCell (Nat.le_refl _) _
        go_wp2
        go_roundw
        case rel => exact ⟨k + 1, pre ++ [u % 128 + 128], u / 128, rfl, by go_num, HQ, HR, hb2⟩
        case measure => simp [intOf]; omega
      · have HE : Hid (putB n = strOfNums (pre ++ [u])) := by show putB n = _; rw [HF.out, putTo_end HP.out (by omega)]
        have HR : (wr.setCell ⟨w.heap.size, k, none⟩ (.int .u8 u)).heap[w.heap.size]? = some (.cells (arr10 (pre ++ [u])).toArray 171 (0, 0)) := by
          rw [heap_set hrow.out, ← hlen, arr10_set _ _ (by omega)]
        have hconv := arr_conv HR (k := k + 1) (by simp [hlen])
        have hsl := arr_slice w.heap.size k hk
        clear hlen HR
        go_wp2
        go_ret
        exact ⟨ret_str HE.out.symm, hnx.setCell (Nat.le_refl _) _⟩
end Go.Proofs.YteiffjpmccbcoaaGreatDoor
