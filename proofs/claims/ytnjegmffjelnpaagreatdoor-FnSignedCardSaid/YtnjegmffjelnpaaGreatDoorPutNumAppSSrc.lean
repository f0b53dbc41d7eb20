/-
  Parts of one proof, laid as one text: PutNum, AppS, Src; what each says stands at its head.
-/
import Derived.Test.YtnjegmffjelnpaaGreatDoorRows
import Derived.Test.YtnjegmffjelnpaaGreatDoorBytesDigMathTurnIWholeR
import Derived.Test.YtnjegmffjelnpaaGreatDoorMacMathPutMathJoinedDigITurn2
import Derived.Handy
import Derived.WalkSpells
import Derived.Deep.AppendLies
import Derived.Test.YtnjegmffjelnpaaGreatDoorSlABxKSlBOwnSSgnBOwnBPadI
import Derived.OwnWalk
import Derived.WalkKit
import Derived.ProofKit
import Derived.Below
import Derived.Laws.Closers25b
import Derived.Deep.Draws
/-
  What PutNum answers, in the program and in the specification: the bytes 'putB n', in new memory.
  Conditions: n is an int64.
-/
namespace Go.Proofs.YtnjegmffjelnpaaGreatDoor
open Go.RowKit Go.Lib
set_option linter.unusedVariables false

theorem ret_intP {k : IntKind} {a b : Int} (h : a = b) : Ending.returned (.int k a) = .returned (.int k b) := by rw [h]
theorem infoU8p : (Tryz.prog.info? 5).map (fun i => (i.zero, i.size, i.bytes)) = some (some (.int .u8 0), 1, 1) := by kernel_rfl

set_option maxHeartbeats 400000 in
theorem specFold_any (n : Int) (w : World) (h0 : -9223372036854775808 ≤ n) (h1 : n ≤ 9223372036854775807) :
    Calls Tryz.prog 103 #[.int .i64 n] w fun e w' => e = .returned (.int .u64 (foldN n)) ∧ w' = w := by
  by_cases hn : 0 ≤ n
  · have H : Hid (foldN n = 2 * n) := if_pos hn
    go_enter Tryz.func103, Tryz.ntmps103
    go_wp2
    go_ret
    exact ⟨ret_intP H.out.symm, rfl⟩
  · have H : Hid (foldN n = -2 * n - 1) := if_neg hn
    go_enter Tryz.func103, Tryz.ntmps103
    go_wp2
    go_ret
    exact ⟨ret_intP (by rw [H.out]; omega), rfl⟩

theorem own_conv {w : World} {base g k cap : Nat} {xs : List Int} (h : w.ownsRow base 5 1 (.slice (some ⟨g, 0, none⟩) k cap) k (xs.map (Value.int .u8))) (hl : xs.length = k) :
    (convert 22 9 (.slice (some ⟨g, 0, none⟩) k cap)).run Tryz.prog w = .ok (.string (strOfNums xs)) w :=
  run_convert_bytes_arg (P := Tryz.prog) w 22 5 Tryz.underlying22 Tryz.underlying5 g 0 k cap xs hl (fun i hi => by
    rw [Nat.zero_add, h.cellAt i (by omega)]
    have : i < xs.length := by omega
    simp [List.getD, List.getElem?_eq_getElem this]) 9 Tryz.underlying9

set_option maxHeartbeats 1000000 in
theorem specPutNum_any (n : Int) (w : World) (h0 : -9223372036854775808 ≤ n) (h1 : n ≤ 9223372036854775807) :
    Calls Tryz.prog 59 #[.int .i64 n] w fun e w' => e = .returned (.string (putB n)) ∧ Below w.heap.size w w' := by
  have hfb := foldN_bd h0 h1
  obtain ⟨i0, hi, hz0, hz1, hz2⟩ := info_parts infoU8p
  go_enter Tryz.func59, Tryz.ntmps59
  go_wp2_with (go_at_call 103; refine (specFold_any _ _ h0 h1).mono ?_; rintro e w1 ⟨rfl, hw⟩)
  subst hw
  go_loopw [3, 4] (fun x v wr => ∃ (k : Nat) (pre : List Int) (u : Int) (g cap : Nat), x = .int .u64 u ∧ v = .slice (some ⟨g, 0, none⟩) k cap ∧ Hid (PutTo (foldN n) k pre u) ∧ wr.ownsRow w1.heap.size 5 1 (.slice (some ⟨g, 0, none⟩) k cap) k (pre.map (Value.int .u8)) ∧ Below w1.heap.size w1 wr) (fun x _ _ => (Go.RowKit.intOf x).toNat)
  case atStart =>
    exact ⟨0, [], foldN n, w1.heap.size, 0, rfl, rfl, putTo_start hfb.1 hfb.2, World.ownsRow_made w1 #[] 0 (Nat.le_refl _) (by unfold maxLen; omega) rfl, (Below.refl _ _).alloc (Nat.le_refl _) _⟩
  case round =>
    obtain ⟨k, pre, u, g, cap, rfl, rfl, HP, hown, hnx⟩ := hrel
    have hk : k ≤ 9 := HP.out.1
    have hu0 : 0 ≤ u := HP.out.2.2.1
    have hu1 : u ≤ 18446744073709551615 := by have := HP.out.2.2.2.2.2.2; omega
    have hlen : pre.length = k := HP.out.2.1
    have HL : Hid (pre.length = k) := hlen
    have hsz : w1.heap.size ≤ wr.heap.size := hnx.size
    clear hlen
    by_cases hlt : 128 ≤ u
    · have HQ : Hid (PutTo (foldN n) (k + 1) (pre ++ [u % 128 + 128]) (u / 128)) := putTo_step HP.out hlt
      go_wp2_with (at_builtin; refine wpList_append_lies _ rfl _ _ 22 rfl w1.heap.size 5 i0 (.int .u8 0) 1 1 Tryz.underlying22 hi hz0 hz1 hz2 rfl (by omega) _ k _ rfl (hown.alloc _) ⟨wr.heap.size, 0, none⟩ 1 1 [.int .u8 (u % 128 + 128)] rfl rfl (World.news_of_block (cs := #[.int .u8 (u % 128 + 128)]) (t := 5) (fr := (0, 0)) (heap_alloc_new wr _)) (by simp [Value.oneCell']) (by omega) (by unfold maxLen; omega) (by omega) (by simp; omega) (wr.heap.size + 1) (by simp) ?_; intro g2 cap2 w2 hown2 hgrow hat hltg)
      have hb2 : Below w1.heap.size w1 w2 := (hnx.alloc hsz _).grown hgrow (by simp; omega) (fun j hj => (hown.lt j hj).1)
      have ho2 : w2.ownsRow w1.heap.size 5 1 (.slice (some ⟨g2, 0, none⟩) (k + 1) cap2) (k + 1) ((pre ++ [u % 128 + 128]).map (Value.int .u8)) := by rw [List.map_append]; exact hown2
      go_roundw
      case rel => exact ⟨k + 1, pre ++ [u % 128 + 128], u / 128, g2, cap2, rfl, rfl, HQ, ho2, hb2⟩
      case measure => simp [Go.RowKit.intOf]; omega
    · have HE : Hid (putB n = strOfNums (pre ++ [u])) := by show putB n = _; unfold putB; rw [putTo_end HP.out (by omega)]
      go_wp2_with (at_builtin; refine wpList_append_lies _ rfl _ _ 22 rfl w1.heap.size 5 i0 (.int .u8 0) 1 1 Tryz.underlying22 hi hz0 hz1 hz2 rfl (by omega) _ k _ rfl (hown.alloc _) ⟨wr.heap.size, 0, none⟩ 1 1 [.int .u8 u] rfl rfl (World.news_of_block (cs := #[.int .u8 u]) (t := 5) (fr := (0, 0)) (heap_alloc_new wr _)) (by simp [Value.oneCell']) (by omega) (by unfold maxLen; omega) (by omega) (by simp; omega) (wr.heap.size + 1) (by simp) ?_; intro g2 cap2 w2 hown2 hgrow hat hltg; have hconv := own_conv (xs := pre ++ [u]) (by rw [List.map_append]; exact hown2) (by rw [List.length_append, HL.out]; rfl))
      go_ret
      exact ⟨ret_str HE.out.symm, (hnx.alloc hsz _).grown hgrow (by simp; omega) (fun j hj => (hown.lt j hj).1)⟩

theorem heap_set {w : World} {g i : Nat} {cs : Array Value} {T : TypeId} (hg : w.heap[g]? = some (.cells cs T (0, 0))) (v : Value) : (w.setCell ⟨g, i, none⟩ v).heap[g]? = some (.cells (cs.setIfInBounds i v) T (0, 0)) := by
  simp [World.setCell, Array.getElem?_modify, hg]

theorem arr_conv {w : World} {g k : Nat} {pre : List Int} (h : w.heap[g]? = some (.cells (arr10 pre).toArray 113 (0, 0))) (hl : pre.length = k) :
    (convert 22 9 (.slice (some ⟨g, 0, none⟩) k 10)).run Tryz.prog w = .ok (.string (strOfNums pre)) w :=
  run_convert_bytes_arg (P := Tryz.prog) w 22 5 Tryz.underlying22 Tryz.underlying5 g 0 k 10 pre hl (fun i hi => arr10_at h i (by omega)) 9 Tryz.underlying9

theorem len10 : Tryz.prog.arrayLen 113 = 10 := by kernel_rfl
theorem under10 : Tryz.prog.underlying 113 = some (.array (Tryz.prog.arrayLen 113) (Tryz.prog.elem 113)) := by kernel_rfl
theorem size10 (wx : World) : (sizeOf (Tryz.prog.elem 113)).run Tryz.prog wx = .ok 1 wx := by kernel_rfl
theorem arr_slice (g k : Nat) (hk : k ≤ 9) (wx : World) :
    (Instr.sliceAt 113 (.pointer (some ⟨g, 0, none⟩)) none (some (.int .i64 ((k : Int) + 1))) none).run Tryz.prog wx = .ok (.slice (some ⟨g, 0, none⟩) (k + 1) 10) wx := by
  have h10 := len10
  rw [run_sliceAt_array_h (P := Tryz.prog) wx 113 ⟨g, 0, none⟩ under10 .i64 ((k : Int) + 1) (by omega) (by rw [h10]; omega), size10, h10]
  simp [Result.andThen, slicedAt, Addr.add]

set_option maxHeartbeats 1000000 in
theorem implPutNum_any (n : Int) (w : World) (h0 : -9223372036854775808 ≤ n) (h1 : n ≤ 9223372036854775807) :
    Calls Tryz.prog 45 #[.int .i64 n] w fun e w' => e = .returned (.string (putB n)) ∧ Below w.heap.size w w' := by
  have hfb := foldN_bd h0 h1
  have HF : Hid (putB n = strOfNums (putI 9 (foldN n))) := rfl
  have HS : Hid ((w.alloc (.cells (arr10 []).toArray 113)).heap[w.heap.size]? = some (.cells (arr10 []).toArray 113 (0, 0))) := (MapKept.heap_alloc w _).1
  rw [arr10_nil] at HS
  obtain ⟨u0, hu⟩ : ∃ u0, u0 = foldN n := ⟨_, rfl⟩
  have HU : Hid (u0 = foldN n) := hu
  rw [← hu] at hfb HF
  by_cases hn : 0 ≤ n
  · have hx : n * 2 = u0 := by rw [hu]; unfold foldN; rw [if_pos hn]; omega
    have HX : Hid (n * 2 = u0) := hx
    clear hu hx
    go_enter Tryz.func45, Tryz.ntmps45
    go_wp2
    go_loopw [3, 5] (fun x i wr => ∃ (k : Nat) (pre : List Int) (u : Int), x = .int .u64 u ∧ i = .int .i64 k ∧ Hid (PutTo u0 k pre u) ∧ Hid (wr.heap[w.heap.size]? = some (.cells (arr10 pre).toArray 113 (0, 0))) ∧ Below w.heap.size w wr) (fun x _ _ => (Go.RowKit.intOf x).toNat)
    case atStart => exact ⟨0, [], u0, by rw [HX.out], rfl, putTo_start hfb.1 hfb.2, HS, (Below.refl _ _).alloc (Nat.le_refl _) _⟩
    case round =>
      obtain ⟨k, pre, u, rfl, rfl, HP, hrow, hnx⟩ := hrel
      have hk : k ≤ 9 := HP.out.1
      have hu0 : 0 ≤ u := HP.out.2.2.1
      have hu1 : u ≤ 18446744073709551615 := by have := HP.out.2.2.2.2.2.2; omega
      have hlen : pre.length = k := HP.out.2.1
      have hsz : w.heap.size < wr.heap.size := lt_of_block hrow.out
      obtain ⟨hck, hfk⟩ := arr10_cell hrow.out (by omega)
      rw [hlen] at hck hfk
      by_cases hlt : 128 ≤ u
      · have HQ : Hid (PutTo u0 (k + 1) (pre ++ [u % 128 + 128]) (u / 128)) := putTo_step HP.out hlt
        have HO : Hid (bits .or .u8 (u % 256) 128 = u % 128 + 128) := or128 u hu0
        have HR : Hid ((wr.setCell ⟨w.heap.size, k, none⟩ (.int .u8 (bits .or .u8 (u % 256) 128))).heap[w.heap.size]? = some (.cells (arr10 (pre ++ [u % 128 + 128])).toArray 113 (0, 0))) := by
          show _ = _; rw [HO.out, heap_set hrow.out, ← hlen, arr10_set _ _ (by omega)]
        clear hlen
        have hb2 : Below w.heap.size w (wr.setCell ⟨w.heap.size, k, none⟩ (.int .u8 (bits .or .u8 (u % 256) 128))) := hnx.setCell (Nat.le_refl _) _
        go_wp2
        go_roundw
        case rel => exact ⟨k + 1, pre ++ [u % 128 + 128], u / 128, rfl, by go_num, HQ, HR, hb2⟩
        case measure => simp [Go.RowKit.intOf]; omega
      · have HE : Hid (putB n = strOfNums (pre ++ [u])) := by show putB n = _; rw [HF.out, putTo_end HP.out (by omega)]
        have HR : (wr.setCell ⟨w.heap.size, k, none⟩ (.int .u8 u)).heap[w.heap.size]? = some (.cells (arr10 (pre ++ [u])).toArray 113 (0, 0)) := by
          rw [heap_set hrow.out, ← hlen, arr10_set _ _ (by omega)]
        have hconv := arr_conv HR (k := k + 1) (by simp [hlen])
        have hsl := arr_slice w.heap.size k hk
        clear hlen HR
        go_wp2
        go_ret
        exact ⟨ret_str HE.out.symm, hnx.setCell (Nat.le_refl _) _⟩
  · have hx : bits .xor .u64 IntKind.u64.max (IntKind.u64.wrap (IntKind.u64.wrap n * 2)) = u0 := by rw [hu]; exact fold_xor n (by omega) h0
    have HX : Hid (bits .xor .u64 IntKind.u64.max (IntKind.u64.wrap (IntKind.u64.wrap n * 2)) = u0) := hx
    clear hu hx
    go_enter Tryz.func45, Tryz.ntmps45
    go_wp2
    go_loopw [3, 5] (fun x i wr => ∃ (k : Nat) (pre : List Int) (u : Int), x = .int .u64 u ∧ i = .int .i64 k ∧ Hid (PutTo u0 k pre u) ∧ Hid (wr.heap[w.heap.size]? = some (.cells (arr10 pre).toArray 113 (0, 0))) ∧ Below w.heap.size w wr) (fun x _ _ => (Go.RowKit.intOf x).toNat)
    case atStart => exact ⟨0, [], u0, by rw [HX.out], rfl, putTo_start hfb.1 hfb.2, HS, (Below.refl _ _).alloc (Nat.le_refl _) _⟩
    case round =>
      obtain ⟨k, pre, u, rfl, rfl, HP, hrow, hnx⟩ := hrel
      have hk : k ≤ 9 := HP.out.1
      have hu0 : 0 ≤ u := HP.out.2.2.1
      have hu1 : u ≤ 18446744073709551615 := by have := HP.out.2.2.2.2.2.2; omega
      have hlen : pre.length = k := HP.out.2.1
      have hsz : w.heap.size < wr.heap.size := lt_of_block hrow.out
      obtain ⟨hck, hfk⟩ := arr10_cell hrow.out (by omega)
      rw [hlen] at hck hfk
      by_cases hlt : 128 ≤ u
      · have HQ : Hid (PutTo u0 (k + 1) (pre ++ [u % 128 + 128]) (u / 128)) := putTo_step HP.out hlt
        have HO : Hid (bits .or .u8 (u % 256) 128 = u % 128 + 128) := or128 u hu0
        have HR : Hid ((wr.setCell ⟨w.heap.size, k, none⟩ (.int .u8 (bits .or .u8 (u % 256) 128))).heap[w.heap.size]? = some (.cells (arr10 (pre ++ [u % 128 + 128])).toArray 113 (0, 0))) := by
          show _ = _; rw [HO.out, heap_set hrow.out, ← hlen, arr10_set _ _ (by omega)]
        clear hlen
        have hb2 : Below w.heap.size w (wr.setCell ⟨w.heap.size, k, none⟩ (.int .u8 (bits .or .u8 (u % 256) 128))) := hnx.setCell (Nat.le_refl _) _
        go_wp2
        go_roundw
        case rel => exact ⟨k + 1, pre ++ [u % 128 + 128], u / 128, rfl, by go_num, HQ, HR, hb2⟩
        case measure => simp [Go.RowKit.intOf]; omega
      · have HE : Hid (putB n = strOfNums (pre ++ [u])) := by show putB n = _; rw [HF.out, putTo_end HP.out (by omega)]
        have HR : (wr.setCell ⟨w.heap.size, k, none⟩ (.int .u8 u)).heap[w.heap.size]? = some (.cells (arr10 (pre ++ [u])).toArray 113 (0, 0)) := by
          rw [heap_set hrow.out, ← hlen, arr10_set _ _ (by omega)]
        have hconv := arr_conv HR (k := k + 1) (by simp [hlen])
        have hsl := arr_slice w.heap.size k hk
        clear hlen HR
        go_wp2
        go_ret
        exact ⟨ret_str HE.out.symm, hnx.setCell (Nat.le_refl _) _⟩
end Go.Proofs.YtnjegmffjelnpaaGreatDoor
/-
  append of a slice of texts onto one that the call owns: what it owns then.
-/
namespace Go.Proofs.YtnjegmffjelnpaaGreatDoor
open Go.RowKit Go.Lib
set_option linter.unusedVariables false

theorem run_append_len0 {P : Program} (w : World) (base : Nat) (t ty e : TypeId) (i : TypeInfo) (size : Nat) (ht : P.underlying t = some (.slice e)) (hi : P.info? e = some i)
    (v : Value) (n : Nat) (xs : List Value) (hown : w.ownsRow base e size v n xs) (p : Option Addr) (cap : Nat) :
    (Builtin.append_ #[t, t] ty #[v, .slice p 0 cap]).run P w = .ok v w := by
  rcases hown.2 with ⟨rfl, rfl⟩ | ⟨g, cap', cur, rfl, _, _, hnc, _⟩
  · cases p <;> simp [Builtin.append_, run_underlying ht, sizeOf, typeInfo, hi, Builtin.lenOf, Builtin.firstCells, loadCells, loadCellsFrom]
  · cases p <;> simp [Builtin.append_, run_underlying ht, sizeOf, typeInfo, hi, Builtin.lenOf, Builtin.firstCells, hnc, storeCells, loadCells, loadCellsFrom]
theorem app_texts (w : World) (base : Nat) (v : Value) (l : List ByteArray) (own : w.ownsRow base 9 1 v l.length (strRow l)) (p : Option Addr) (cap : Nat) (ss : List ByteArray) (hp : TxtAt w p ss) (hl : l.length + ss.length ≤ 1048576) (hbase : base ≤ w.heap.size) :
    ∃ v' w', (Builtin.append_ #[24, 24] 24 #[v, .slice p ss.length cap]).run Tryz.prog w = .ok v' w' ∧ w'.ownsRow base 9 1 v' (l ++ ss).length (strRow (l ++ ss)) ∧ w.grownBy w' v.ownBlock := by
  obtain ⟨i0, hi, hz0, hz1, hz2⟩ := info_parts infoStr
  by_cases h0 : ss.length = 0
  · obtain rfl : ss = [] := List.length_eq_zero_iff.1 h0
    refine ⟨v, w, run_append_len0 w base _ _ _ i0 1 Tryz.underlying24 hi v l.length (strRow l) own p cap, by simpa using own, World.grownBy.refl _ _⟩
  · obtain ⟨b, off, rfl, hb, _⟩ := hp 0 (by omega)
    obtain ⟨g, cap', w', h1, h2, h3, _⟩ := run_append_lies (P := Tryz.prog) w 24 24 base 9 i0 (.string ByteArray.empty) 1 16 Tryz.underlying24 hi hz0 hz1 hz2 rfl (by omega) v l.length (strRow l) own ⟨b, off, none⟩ ss.length cap (strRow ss) (by simp [strRow]) (fun j u hu => by
      have hj : j < ss.length := by
        rcases Nat.lt_or_ge j ss.length with q | q
        · exact q
        · rw [List.getElem?_eq_none (by simpa [strRow] using q)] at hu; cases hu
      have hadd : (⟨b, off, none⟩ : Addr).add j = ⟨b, off + j, none⟩ := by unfold Addr.add; split <;> simp_all
      rw [hadd, hp.at j hj]
      simp [strRow, hj] at hu
      rw [hu]) (fun u hu => by
      obtain ⟨x, _, rfl⟩ := List.mem_map.1 hu
      rfl) (by omega) (by unfold maxLen; omega) (by omega) hbase _ rfl
    refine ⟨_, w', h1, ?_, h3⟩
    have e1 : (l ++ ss).length = l.length + ss.length := by simp
    have e2 : strRow (l ++ ss) = strRow l ++ strRow ss := by simp [strRow]
    rw [e1, e2]; exact h2
end Go.Proofs.YtnjegmffjelnpaaGreatDoor
/-
  What a draw's source is in memory, over any program: a block of four cells (the code's slice, a place, a number that is mixed, a size); what is written when one draws: that block alone.
-/
namespace Go.Proofs.YtnjegmffjelnpaaGreatDoor
open Go.RowKit
set_option linter.unusedVariables false

theorem cell_set (w : World) (b o : Nat) (v : Value) : (w.setCell ⟨b, o, none⟩ v).cell? ⟨b, o, none⟩ = (w.cell? ⟨b, o, none⟩).map (fun _ => v) := by
  cases h : w.cell? ⟨b, o, none⟩ with
  | some u => rw [World.cell?_setCell_same _ _ _ h]; rfl
  | none =>
    simp only [Option.map_none]
    cases hb : w.heap[b]? with
    | none => simp [World.cell?, World.setCell, Array.getElem?_modify, hb]
    | some ob =>
      cases ob with
      | cells c t fr =>
        have hc : c[o]? = none := by simpa [World.cell?, hb] using h
        have hs : c.size ≤ o := by simpa using hc
        simp [World.cell?, World.setCell, Array.getElem?_modify, hb, hs]
      | map a b' => simp [World.cell?, World.setCell, Array.getElem?_modify, hb]
      | _ => simp [World.cell?, World.setCell, Array.getElem?_modify, hb]

def SrcRow (T : TypeId) (p : Nat) (sl : Value) (a m z : Int) (w : World) : Prop := w.heap[p]? = some (.cells #[sl, .int .i64 a, .int .u64 m, .int .i64 z] T (0, 0))

section
variable {T : TypeId} {p : Nat} {sl : Value} {a m z : Int} {w : World}
theorem SrcRow.cell (h : SrcRow T p sl a m z w) : w.cell? ⟨p, 0, none⟩ = some sl ∧ w.cell? ⟨p, 1, none⟩ = some (.int .i64 a) ∧ w.cell? ⟨p, 2, none⟩ = some (.int .u64 m) ∧ w.cell? ⟨p, 3, none⟩ = some (.int .i64 z) := by
  unfold SrcRow at h; simp [World.cell?, h]
theorem SrcRow.free (h : SrcRow T p sl a m z w) (i : Nat) : w.frozen? ⟨p, i, none⟩ = false := by
  unfold SrcRow at h; simp [World.frozen?, h]
theorem SrcRow.lt (h : SrcRow T p sl a m z w) : p < w.heap.size := by
  unfold SrcRow at h
  rcases Nat.lt_or_ge p w.heap.size with h' | h'
  · exact h'
  · rw [Array.getElem?_eq_none h'] at h; cases h
theorem SrcRow.set1 (h : SrcRow T p sl a m z w) (a' : Int) : SrcRow T p sl a' m z (w.setCell ⟨p, 1, none⟩ (.int .i64 a')) := by
  unfold SrcRow at *; simp [World.setCell, Array.getElem?_modify, h]
theorem SrcRow.set2 (h : SrcRow T p sl a m z w) (m' : Int) : SrcRow T p sl a m' z (w.setCell ⟨p, 2, none⟩ (.int .u64 m')) := by
  unfold SrcRow at *; simp [World.setCell, Array.getElem?_modify, h]
theorem SrcRow.set3 (h : SrcRow T p sl a m z w) (z' : Int) : SrcRow T p sl a m z' (w.setCell ⟨p, 3, none⟩ (.int .i64 z')) := by
  unfold SrcRow at *; simp [World.setCell, Array.getElem?_modify, h]
theorem SrcRow.drew (h : SrcRow T p sl a m z w) : SrcRow T p sl a m z w.drew := h
theorem SrcRow.drewN (h : SrcRow T p sl a m z w) (n : Nat) : SrcRow T p sl a m z (w.drewN n) := h
end

theorem touch_set {w w' : World} {p : Nat} (h : w.grownBy w' (some p)) (i : Nat) (v : Value) : w.grownBy (w'.setCell ⟨p, i, none⟩ v) (some p) :=
  ⟨h.os, h.tape, h.output, by simpa [World.setCell] using h.size, fun k hk hne => by
    rw [Below.heap_setCell _ _ _ _ (fun e => hne (by rw [e]))]; exact h.block k hk hne⟩
theorem touch_drew {w w' : World} {p : Nat} (h : w.grownBy w' (some p)) : w.grownBy w'.drew (some p) := ⟨h.os, h.tape, h.output, h.size, h.block⟩
theorem touch_drewN {w w' : World} {p n : Nat} (h : w.grownBy w' (some p)) : w.grownBy (w'.drewN n) (some p) := ⟨h.os, h.tape, h.output, h.size, h.block⟩
theorem touch_trans {w w1 w2 : World} {p : Nat} (h : w.grownBy w1 (some p)) (k : w1.grownBy w2 (some p)) : w.grownBy w2 (some p) :=
  ⟨k.os.trans h.os, k.tape.trans h.tape, k.output.trans h.output, Nat.le_trans h.size k.size, fun i hi hne => (k.block i (Nat.lt_of_lt_of_le hi h.size) hne).trans (h.block i hi hne)⟩
theorem touch_below {w w1 w2 : World} {p : Nat} (h : w.grownBy w1 (some p)) (k : Below w1.heap.size w1 w2) : w.grownBy w2 (some p) :=
  ⟨k.os.trans h.os, k.tape.trans h.tape, k.output.trans h.output, Nat.le_trans h.size k.size, fun i hi hne => (k.block i (Nat.lt_of_lt_of_le hi h.size)).trans (h.block i hi hne)⟩

/-- A source at block p (p ≥ B) over a code of 'len' bytes that lies below B. -/
def Src (T : TypeId) (B p : Nat) (a : Option Addr) (len cap : Nat) (w : World) : Prop :=
  B ≤ p ∧ len ≤ 1048576 ∧ (∃ (at0 : Nat) (mix sz : Int), at0 ≤ len ∧ 0 ≤ mix ∧ mix ≤ 18446744073709551615 ∧ (0 ≤ sz ∧ sz ≤ 12) ∧ SrcRow T p (.slice a len cap) at0 mix sz w) ∧
  (len = 0 ∨ ∃ xb xo, a = some ⟨xb, xo, none⟩ ∧ xb < B ∧ ∀ i, i < len → ∃ c : Int, 0 ≤ c ∧ c ≤ 255 ∧ w.cell? ⟨xb, xo + i, none⟩ = some (.int .u8 c))

theorem Src.lt {T : TypeId} {B p : Nat} {a : Option Addr} {len cap : Nat} {w : World} (h : Src T B p a len cap w) : p < w.heap.size := by
  obtain ⟨_, _, ⟨_, _, _, _, _, _, _, hr⟩, _⟩ := h; exact hr.lt

/-- The source behind a step that writes its block alone, its row given. -/
theorem Src.step {T : TypeId} {B p : Nat} {a : Option Addr} {len cap : Nat} {w w' : World} (h : Src T B p a len cap w) (hg : w.grownBy w' (some p))
    {at0 : Nat} {mix sz : Int} (h1 : at0 ≤ len) (h2 : 0 ≤ mix) (h3 : mix ≤ 18446744073709551615) (h4 : 0 ≤ sz ∧ sz ≤ 12) (hr : SrcRow T p (.slice a len cap) at0 mix sz w') : Src T B p a len cap w' := by
  have hlt := h.lt
  obtain ⟨hB, hl, _, hc⟩ := h
  refine ⟨hB, hl, ⟨at0, mix, sz, h1, h2, h3, h4, hr⟩, ?_⟩
  rcases hc with hc | ⟨xb, xo, ha, hx, hcell⟩
  · exact .inl hc
  · refine .inr ⟨xb, xo, ha, hx, fun i hi => ?_⟩
    obtain ⟨c, c0, c1, hci⟩ := hcell i hi
    exact ⟨c, c0, c1, hg.cell hci (by simp; omega)⟩

/-- The source behind a step that turns nothing that was there. -/
theorem Src.below {T : TypeId} {B p : Nat} {a : Option Addr} {len cap : Nat} {w w' : World} (h : Src T B p a len cap w) (hb : Below w.heap.size w w') : Src T B p a len cap w' := by
  have hlt := h.lt
  obtain ⟨hB, hl, ⟨at0, mix, sz, h1, h2, h3, h4, hr⟩, hc⟩ := h
  refine ⟨hB, hl, ⟨at0, mix, sz, h1, h2, h3, h4, by unfold SrcRow at *; rw [hb.block p hlt]; exact hr⟩, ?_⟩
  rcases hc with hc | ⟨xb, xo, ha, hx, hcell⟩
  · exact .inl hc
  · refine .inr ⟨xb, xo, ha, hx, fun i hi => ?_⟩
    obtain ⟨c, c0, c1, hci⟩ := hcell i hi
    exact ⟨c, c0, c1, by rw [hb.cell (p := ⟨xb, xo + i, none⟩) (by show xb < _; omega)]; exact hci⟩

theorem touch_own {w w1 w2 : World} {p : Nat} {row : Option Nat} (h : w.grownBy w1 (some p)) (k : w1.grownBy w2 row) (hr : ∀ j, row = some j → w.heap.size ≤ j) : w.grownBy w2 (some p) :=
  ⟨k.os.trans h.os, k.tape.trans h.tape, k.output.trans h.output, Nat.le_trans h.size k.size, fun i hi hne => (k.block i (Nat.lt_of_lt_of_le hi h.size) (fun e => by have := hr i e.symm; omega)).trans (h.block i hi hne)⟩

/-- The source behind a step that writes a block above it alone. -/
theorem Src.other {T : TypeId} {B p : Nat} {a : Option Addr} {len cap : Nat} {w w' : World} {row : Option Nat} (h : Src T B p a len cap w) (hg : w.grownBy w' row) (hr : ∀ j, row = some j → p < j) : Src T B p a len cap w' := by
  have hlt := h.lt
  obtain ⟨hB, hl, ⟨at0, mix, sz, h1, h2, h3, h4, hr1⟩, hc⟩ := h
  refine ⟨hB, hl, ⟨at0, mix, sz, h1, h2, h3, h4, by unfold SrcRow at *; rw [hg.block p hlt (fun e => by have := hr p e.symm; omega)]; exact hr1⟩, ?_⟩
  rcases hc with hc | ⟨xb, xo, ha, hx, hcell⟩
  · exact .inl hc
  · refine .inr ⟨xb, xo, ha, hx, fun i hi => ?_⟩
    obtain ⟨c, c0, c1, hci⟩ := hcell i hi
    exact ⟨c, c0, c1, hg.cell hci (fun e => by have := hr xb e.symm; omega)⟩

/-- The size that the source has. -/
theorem Src.size {T : TypeId} {B p : Nat} {a : Option Addr} {len cap : Nat} {w : World} (h : Src T B p a len cap w) : ∃ z : Int, 0 ≤ z ∧ z ≤ 12 ∧ w.cell? ⟨p, 3, none⟩ = some (.int .i64 z) := by
  obtain ⟨_, _, ⟨_, _, z, _, _, _, h4, hr⟩, _⟩ := h
  exact ⟨z, h4.1, h4.2, hr.cell.2.2.2⟩

theorem draw_bd (X most : Int) (hm : 1 < most) (hm2 : most ≤ 9223372036854775807) : 0 ≤ wrap64 ((IntKind.u64.wrap X).tmod most) ∧ wrap64 ((IntKind.u64.wrap X).tmod most) < most := by
  have h0 : 0 ≤ IntKind.u64.wrap X := by simp [IntKind.wrap, IntKind.bits, IntKind.signed]; omega
  rw [Int.tmod_eq_emod_of_nonneg h0]
  have h1 := Int.emod_nonneg (IntKind.u64.wrap X) (show most ≠ 0 by omega)
  have h2 := Int.emod_lt_of_pos (IntKind.u64.wrap X) (show 0 < most by omega)
  have h3 : wrap64 (IntKind.u64.wrap X % most) = IntKind.u64.wrap X % most := by unfold wrap64; omega
  rw [h3]; exact ⟨h1, h2⟩
end Go.Proofs.YtnjegmffjelnpaaGreatDoor
