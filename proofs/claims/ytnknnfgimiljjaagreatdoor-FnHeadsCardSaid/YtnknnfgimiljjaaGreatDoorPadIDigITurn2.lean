/-
  Parts of one proof, laid as one text: PadI, DigI, Turn2; what each says stands at its head.
-/
import Derived.Test.YtnknnfgimiljjaaGreatDoorRows
import Derived.Test.YtnknnfgimiljjaaGreatDoorBytesDigMath
import Derived.Test.YtnknnfgimiljjaaGreatDoorTreeMathSlABxKSlBOwnSJoinedOwnB
import Derived.Handy
import Derived.Test.YtnknnfgimiljjaaGreatDoorTurnI
import Derived.Test.YtnknnfgimiljjaaGreatDoorWholeR
import Derived.Test.YtnknnfgimiljjaaGreatDoorNumsI
import Derived.Test.YtnknnfgimiljjaaGreatDoorBlockI
import Derived.WalkSpells
import Derived.Deep.AppendLies
import Derived.StillTailTactics
/-
  The program's padded: a text filled up to whole blocks: 'padN', in new memory.
  Conditions: the text is at most 2^40 bytes long.
-/
namespace Go.Proofs.YtnknnfgimiljjaaGreatDoor
open Go.RowKit Go.Lib
set_option linter.unusedVariables false
set_option maxRecDepth 20000

theorem infoU8q : (Tryz.prog.info? 5).map (fun i => (i.zero, i.size, i.bytes)) = some (some (.int .u8 0), 1, 1) := by kernel_rfl
theorem sizeU8q : (Tryz.prog.info? 5).map (·.size) = some 1 := by kernel_rfl
theorem run_make_u8q (n : Nat) (hn : n ≤ 281474976710656) (w : World) :
    (Instr.makeSlice 22 (.int .i64 (n : Int)) (.int .i64 (n : Int))).run Tryz.prog w = .ok (.slice (some ⟨w.heap.size, 0, none⟩) n n) (w.alloc (.cells (zrow n).toArray 5)) := by
  obtain ⟨i0, hi, hz0, hz1, hz2⟩ := info_parts infoU8q
  have := run_make (P := Tryz.prog) w 22 5 i0 (.int .u8 0) Tryz.underlying22 hi hz0 .i64 .i64 (n : Int) (n : Int) (by omega) (by omega) (by rw [hz2]; omega) (by omega)
  rw [this, hz1]
  simp only [Int.toNat_natCast, Nat.mul_one]
  rw [← madeZ]; rfl

def rowN (xs : List Int) : List Value := xs.map (Value.int .u8)
theorem ownB_of_heap {w : World} {base g : Nat} {xs : List Int} {T : TypeId} (h : w.heap[g]? = some (.cells (rowN xs).toArray T (0, 0))) (hb : base ≤ g) (hl : xs.length ≤ maxLen) : OwnB w base g xs.length xs := by
  refine ⟨hb, lt_of_block h, Nat.le_refl _, hl, fun j hj => ?_, fun j hj => ?_⟩
  · simp [World.cell?, World.frozen?, h, rowN, hj]
  · simp [World.cell?, h, rowN, hj]
theorem bytesRowN (t : ByteArray) : Go.Lib.byteCells t.data.toList = rowN (bytesN t) := by simp [Go.Lib.byteCells, rowN, bytesN]
theorem pad_zero (t : ByteArray) (L : Nat) (h : t.size ≤ L) : splice (zrow L) 0 (Go.Lib.byteCells t.data.toList) = rowN (bytesN t ++ List.replicate (L - t.size) 0) := by
  have e : (Go.Lib.byteCells t.data.toList).length = t.size := by rw [Go.Lib.byteCells_length, ← size_eq]
  unfold splice
  rw [e, bytesRowN]
  simp [rowN, zrow]
theorem row_set (A B : List Int) (u v : Int) (n : Nat) (h : A.length = n) : (rowN (A ++ u :: B)).toArray.setIfInBounds n (.int .u8 v) = (rowN (A ++ v :: B)).toArray := by
  subst h
  unfold rowN
  rw [List.map_append, List.map_append, List.map_cons, List.map_cons, List.setIfInBounds_toArray, List.set_append_right _ _ (by simp)]
  simp
def padP (t : ByteArray) (i : Nat) : List Int := bytesN t ++ [128] ++ List.replicate (zN t.size + 8 - i) 0 ++ (be8To (8 * (t.size : Int)) 8).drop (8 - i)
theorem padP_eight (t : ByteArray) : padP t 8 = padN t := by simp [padP, padN]
theorem padP_start (t : ByteArray) (L : Nat) (hL : L = 64 * nB t) : (rowN (bytesN t ++ List.replicate (L - t.size) 0)).toArray.setIfInBounds t.size (.int .u8 128) = (rowN (padP t 0)).toArray := by
  have e : L - t.size = (zN t.size + 8) + 1 := by subst hL; unfold nB zN; omega
  rw [e, List.replicate_succ, row_set (bytesN t) _ 0 128 t.size (bytesN_len t)]
  congr 2
  unfold padP
  rw [List.drop_of_length_le (by rw [be8To_len]; omega)]
  simp
theorem padP_step (t : ByteArray) (L : Nat) (hL : L = 64 * nB t) (i : Nat) (hi : i < 8) (n : Nat) (hn : n + 1 + i = L) :
    (rowN (padP t i)).toArray.setIfInBounds n (.int .u8 ((t.size : Int) * 8 / 2 ^ (8 * i) % 256)) = (rowN (padP t (i + 1))).toArray := by
  have e1 : zN t.size + 8 - i = (zN t.size + 8 - (i + 1)) + 1 := by omega
  have e2 : (be8To (8 * (t.size : Int)) 8).drop (8 - (i + 1)) = ((t.size : Int) * 8 / 2 ^ (8 * i) % 256) :: (be8To (8 * (t.size : Int)) 8).drop (8 - i) := by
    rw [List.drop_eq_getElem_cons (by rw [be8To_len]; omega)]
    congr 1
    · simp only [be8To, List.getElem_map, List.getElem_range, bePart]
      rw [Int.mul_comm, show 56 - 8 * (8 - (i + 1)) = 8 * i by omega]
    · congr 1; omega
  have e3 : padP t i = (bytesN t ++ [128] ++ List.replicate (zN t.size + 8 - (i + 1)) 0) ++ 0 :: (be8To (8 * (t.size : Int)) 8).drop (8 - i) := by
    unfold padP; rw [e1, List.replicate_succ']; simp
  rw [e3, row_set _ _ 0 _ n (by
    simp only [List.length_append, bytesN_len, List.length_replicate, List.length_cons, List.length_nil]
    subst hL; unfold nB zN at hn; unfold zN; omega)]
  congr 2
  unfold padP; rw [e2]
theorem padP_len (t : ByteArray) (i : Nat) (hi : i ≤ 8) : (padP t i).length = 64 * nB t := by
  simp only [padP, List.length_append, bytesN_len, List.length_replicate, List.length_cons, List.length_nil, List.length_drop, be8To_len, nB]
  unfold zN; omega
theorem row_cellN {w : World} {g : Nat} {xs : List Int} {T : TypeId} (h : w.heap[g]? = some (.cells (rowN xs).toArray T (0, 0))) (j : Nat) (hj : j < xs.length) : (∃ v, w.cell? ⟨g, j, none⟩ = some v) ∧ w.frozen? ⟨g, j, none⟩ = false := by
  simp [World.cell?, World.frozen?, h, rowN, hj]

set_option maxHeartbeats 1000000 in
theorem padI_any (t : ByteArray) (w : World) (ht : t.size ≤ 1099511627776) :
    Calls Tryz.prog 126 #[.string t] w fun e w' => ∃ g, e = .returned (.slice (some ⟨g, 0, none⟩) (64 * nB t) (64 * nB t)) ∧ OwnB w' w.heap.size g (64 * nB t) (padN t) ∧ Below w.heap.size w w' := by
  obtain ⟨L, hL⟩ : ∃ L, L = 64 * nB t := ⟨_, rfl⟩
  have HL : Hid (L = 64 * nB t) := hL
  have hLb : L ≤ 1099511627900 := by subst hL; unfold nB zN; omega
  have hLs : t.size + 9 ≤ L := by subst hL; unfold nB zN; omega
  have HE : Hid ((t.size : Int) + 1 + 8 + -(((t.size : Int) + 1 + 8) % 64) % 64 = (L : Int)) := by show _ = _; subst hL; unfold nB zN; omega
  have hmk := run_make_u8q L (by omega)
  obtain ⟨w2, hcp, hrow2, hbel⟩ := copy_str (P := Tryz.prog) (w.alloc (.cells (zrow L).toArray 5)) 22 9 3 5 Tryz.underlying22 sizeU8q w.heap.size 0 L L t (zrow L) 5 (heap_alloc_new w _) (by omega) (by simp [zrow]; omega)
  have hb2 := hbel w.heap.size w ((Below.refl _ _).alloc (Nat.le_refl _) _) (Nat.le_refl _)
  rw [pad_zero t L (by omega)] at hrow2
  have hc2 := row_cellN hrow2 t.size (by rw [List.length_append, bytesN_len, List.length_replicate]; omega)
  have HRow : Hid ((w2.setCell ⟨w.heap.size, t.size, none⟩ (.int .u8 128)).heap[w.heap.size]? = some (.cells (rowN (padP t 0)).toArray 5 (0, 0))) := by show _ = _; rw [blk_set hrow2, padP_start t L hL]
  have HB2 : Hid (Below w.heap.size w (w2.setCell ⟨w.heap.size, t.size, none⟩ (.int .u8 128))) := hb2.setCell (Nat.le_refl _) _
  obtain ⟨⟨v0, hc2⟩, hf2⟩ := hc2
  clear hrow2 hbel hb2 hL
  rw [← HL.out]
  go_enter Tryz.func126, Tryz.ntmps126
  go_wp2
  rw [HE.out, hmk]
  simp only [Result.andThen]
  rw [Oper.upon_value]
  go_wp2
  go_loopw [28] (fun x wr => ∃ i : Nat, i ≤ 8 ∧ x = .int .i64 i ∧ Hid (wr.heap[w.heap.size]? = some (.cells (rowN (padP t i)).toArray 5 (0, 0))) ∧ Hid (Below w.heap.size w wr)) (fun x _ => 8 - (Go.RowKit.intOf x).toNat)
  case atStart => exact ⟨0, by omega, rfl, HRow, HB2⟩
  case round =>
    clear HRow HB2 hmk hcp hc2 hf2 HE
    obtain ⟨i, hi, rfl, hrow, hnx⟩ := hrel
    by_cases hlt : i < 8
    · obtain ⟨n, hn⟩ : ∃ n, n + 1 + i = L := ⟨L - 1 - i, by omega⟩
      obtain ⟨⟨v1, hc⟩, hf⟩ := row_cellN hrow.out n (by rw [padP_len t i hi, ← HL.out]; omega)
      have HR : Hid ((wr.setCell ⟨w.heap.size, n, none⟩ (.int .u8 ((t.size : Int) * 8 / 2 ^ (8 * i) % 256))).heap[w.heap.size]? = some (.cells (rowN (padP t (i + 1))).toArray 5 (0, 0))) := by show _ = _; rw [blk_set hrow.out, padP_step t L HL.out i hlt n hn]
      have HB : Hid (Below w.heap.size w (wr.setCell ⟨w.heap.size, n, none⟩ (.int .u8 ((t.size : Int) * 8 / 2 ^ (8 * i) % 256)))) := hnx.out.setCell (Nat.le_refl _) _
      have q1 : ((L : Int) - 1 - (i : Int)).toNat = n := by omega
      have q2 : (i : Int) ≤ (L : Int) - 1 := by omega
      have q3 : (L : Int) - 1 - (i : Int) < (L : Int) := by omega
      have q4 : IntKind.i64.wrap ((L : Int) - 1 - (i : Int)) = (L : Int) - 1 - (i : Int) := by rw [IntKind.wrap_i64]; omega
      have q5 : ((8 : Int) * (i : Int)).toNat = 8 * i := by omega
      have q6 : (0 : Int) ≤ (L : Int) - 1 - (i : Int) := by omega
      clear hn
      go_wp2
      go_roundw
      case rel => exact ⟨i + 1, by omega, by go_num, HR, HB⟩
      case measure => simp [Go.RowKit.intOf]; omega
    · have hi8 : i = 8 := by omega
      subst hi8
      rw [padP_eight] at hrow
      go_wp2
      go_ret
      refine ⟨w.heap.size, rfl, ?_, hnx.out⟩
      have := ownB_of_heap hrow.out (Nat.le_refl w.heap.size) (by rw [padN_len, ← HL.out]; unfold maxLen; omega)
      rw [padN_len, ← HL.out] at this
      exact this
end Go.Proofs.YtnknnfgimiljjaaGreatDoor
/-
  The program's digestOf: the digest of a text, 'digB', in new memory.
  Conditions: the text is at most 2^40 bytes long; the two tables lie as the program's text lays them.
-/
namespace Go.Proofs.YtnknnfgimiljjaaGreatDoor
open Go.RowKit Go.Lib
set_option linter.unusedVariables false
set_option maxRecDepth 20000

theorem padN_in (t : ByteArray) : ∀ x ∈ padN t, 0 ≤ x ∧ x ≤ 255 := by
  intro x hx
  simp only [padN, bytesN, be8To, bePart, List.mem_append, List.mem_map, List.mem_replicate, List.mem_cons, List.not_mem_nil, or_false] at hx
  rcases hx with ((⟨b, _, rfl⟩ | rfl) | ⟨_, rfl⟩) | ⟨i, _, rfl⟩
  · have := b.toNat_lt; omega
  · omega
  · omega
  · omega
theorem byteAt_nums (xs : List Int) (i : Nat) (hi : i < xs.length) (h : 0 ≤ xs[i] ∧ xs[i] ≤ 255) : byteAt (strOfNums xs) i = xs[i] := by
  unfold byteAt
  rw [strOfNums_data, List.getD_eq_getElem?_getD, List.getElem?_map, List.getElem?_eq_getElem hi]
  simp
  omega
theorem load_cells (w : World) (g : Nat) (l : List Int) (hl : l.length = 8) (h : ∀ i, i < 8 → w.cell? ⟨g, i, none⟩ = some (.int .u32 (l.getD i 0))) :
    (loadVar 143 ⟨g, 0, none⟩).run Tryz.prog w = .ok (.agg (u8Row l)) w := by
  have hc := run_loadCells_list (P := Tryz.prog) w ⟨g, 0, none⟩ (l.map (Value.int .u32)) (fun j v hv => by
    have hj : j < l.length := by
      rcases Nat.lt_or_ge j l.length with hh | hh
      · exact hh
      · rw [List.getElem?_eq_none (by simpa using hh)] at hv; cases hv
    have hadd : (⟨g, 0, none⟩ : Addr).add j = ⟨g, j, none⟩ := by unfold Addr.add; split <;> simp_all
    rw [hadd, h j (by omega)]
    simp [List.getElem?_eq_getElem hj] at hv
    simp [List.getD_eq_getElem?_getD, List.getElem?_eq_getElem hj, hv])
  rw [List.length_map, hl] at hc
  cases hq : Tryz.prog.info? 143 with
  | none => have := info8; simp [hq] at this
  | some i =>
    have hs : i.size = 8 := by have := info8; simpa [hq] using this
    simp [loadVar, sizeOf, typeInfo, isAgg, hq, run_underlying under8, hs, hc, u8Row]
theorem store8 (w3 : World) (row : Array Value) (h : row.size = 8) (h1 : row.all (·.oneCell') = true) :
    (storeVar 143 ⟨w3.heap.size, 0, none⟩ (.agg row)).run Tryz.prog (w3.alloc (.cells #[.int .u32 0, .int .u32 0, .int .u32 0, .int .u32 0, .int .u32 0, .int .u32 0, .int .u32 0, .int .u32 0] 143)) = .ok () (w3.alloc (.cells row 143)) :=
  run_storeVar_new (P := Tryz.prog) w3 143 _ row (by rw [h]; exact info8) (by rw [h]; rfl) h1

theorem wpStill_load_row {P : Program} {w : World} {ops : Array Oper} {rest : List Oper} {o : Oper} {a : Act} {Q : Act → Prop} (hgd : o.guard = none) (t : TypeId) (x : Operand)
    (ho : o.op = .load t x) (g : Addr) (v : Value) (hx : a.eval x = .pointer (some g)) (hl : (loadVar t g).run P w = .ok v w)
    (h : wpStill P ops w Q rest (a.put o.dst v)) : wpStill P ops w Q (o :: rest) a :=
  wpStill_step fun K hK => by
    have hw : Region.wanted o (yielded ops a.tmps) = true := by simp [Region.wanted, hgd]
    rw [if_pos hw]
    unfold Oper.still execOp
    simp only [ho, hx, Instr.loadAt, Instr.sureAddr, Sem.run_bind, Sem.run_pure, Result.andThen_ok, hl]
    rw [Oper.stillUpon_value]
    exact hK _ h
theorem idxR (l : List Int) (hl : l.length = 8) (k : Nat) (hk : k < 8) (w : World) : (Instr.index 143 (.agg (u8Row l)) (.int .i64 (k : Int))).run Tryz.prog w = .ok (.int .u32 (l.getD k 0)) w := by
  match l, hl with
  | [a, b, c, d, e, f, g, h], _ => exact idx8 ⟨a, b, c, d, e, f, g, h⟩ k hk w
theorem run_make_32 (w : World) : (Instr.makeSlice 22 (.int .i64 0) (.int .i64 32)).run Tryz.prog w = .ok (.slice (some ⟨w.heap.size, 0, none⟩) 0 32) (w.alloc (.cells (zrow 32).toArray 5)) := by
  obtain ⟨i0, hi, hz0, hz1, hz2⟩ := info_parts infoU8q
  have := run_make (P := Tryz.prog) w 22 5 i0 (.int .u8 0) Tryz.underlying22 hi hz0 .i64 .i64 0 32 (by omega) (by omega) (by rw [hz2]; omega) (by omega)
  rw [this, hz1]
  rw [show (Value.int .u8 0).cells = #[.int .u8 0] from rfl, show Int.toNat 32 * 1 = 32 from rfl, madeZ]; rfl
theorem four4_eqI {y : Int} (h0 : 0 ≤ y) (h1 : y ≤ 4294967295) : four4 y = [y / 16777216, y / 65536 % 256, y / 256 % 256, y % 256] := by unfold four4; rw [show y / 16777216 % 256 = y / 16777216 by omega]

theorem stS (w3 : World) (g : Nat) (l l' : List Int) (h : w3.heap[g]? = some (.cells (u8Row l) 143 (0, 0))) (hl : l.length = 8) (hl' : l'.length = 8) :
    Hid ((storeVar 143 ⟨g, 0, none⟩ (.agg (u8Row l'))).run Tryz.prog w3 = .ok () (w3.setRow g (u8Row l'))) :=
  run_storeVar_row (P := Tryz.prog) w3 g 143 143 _ (u8Row l') h (by rw [u8Row_size, hl']; exact info8) (by rw [u8Row_size, u8Row_size, hl, hl']) (u8Row_one _)
set_option maxHeartbeats 1000000 in
set_option maxRecDepth 20000 in
theorem digI_any (t : ByteArray) (w : World) (ht : t.size ≤ 1099511627776) (htab : Tabs w) :
    Calls Tryz.prog 79 #[.string t] w fun e w' => e = .returned (.string (digB t)) ∧ Below w.heap.size w w' := by
  have HT : Hid (Tabs w) := htab
  clear htab
  have X0 : Hid ((loadVar 143 ⟨0, 0, none⟩).run Tryz.prog w = .ok (.agg (u8Row startN)) w) := load_cells w _ startN rfl HT.out.2.2
  have X1 := store8 w (u8Row startN) rfl (u8Row_one _)
  obtain ⟨W1, hW1⟩ : ∃ W1, W1 = w.alloc (.cells (u8Row startN) 143) := ⟨_, rfl⟩
  rw [← hW1] at X1
  have X2 : Hid _ := X1
  clear X1
  have R1 : Hid (W1.heap[w.heap.size]? = some (.cells (u8Row startN) 143 (0, 0))) := by show _ = _; rw [hW1]; exact heap_alloc_new w _
  have B1 : Hid (Below w.heap.size w W1) := by show Below _ _ _; rw [hW1]; exact (Below.refl _ _).alloc (Nat.le_refl _) _
  have S1 : Hid (W1.heap.size = w.heap.size + 1) := by show _ = _; rw [hW1, size_allocN]
  clear hW1
  go_enter Tryz.func79, Tryz.ntmps79
  go_wp2_with (first
    | (go_at_call 126; refine (padI_any t _ ht).mono ?_; rintro e w2 ⟨gb, rfl, ho2, hb2⟩)
    | refine wpList_load_row rfl 143 _ rfl ⟨0, 0, none⟩ _ rfl X0.out ?_
    | refine wpList_store_row rfl 143 _ _ rfl rfl ⟨w.heap.size, 0, none⟩ _ W1 rfl rfl X2.out ?_)
  have Z2 : Hid (Below w.heap.size w w2) := B1.out.trans (hb2.mono B1.out.size)
  have R2 : Hid (w2.heap[w.heap.size]? = some (.cells (u8Row (stN (padN t) 0)) 143 (0, 0))) := (hb2.block _ (by have := S1.out; omega)).trans R1.out
  have O2 : Hid (OwnB w2 W1.heap.size gb (64 * nB t) (padN t)) := ho2
  have hnb : nB t ≤ 17179869200 := by unfold nB zN; omega
  clear hb2 ho2 X0 X2 R1 B1
  go_loopw [5] (fun x wr => ∃ k : Nat, k ≤ nB t ∧ x = .int .i64 (64 * (k : Int)) ∧ Hid (wr.heap[w.heap.size]? = some (.cells (u8Row (stN (padN t) k)) 143 (0, 0))) ∧ Hid (OwnB wr W1.heap.size gb (64 * nB t) (padN t)) ∧ Hid (Below w.heap.size w wr)) (fun x _ => nB t * 64 - (Go.RowKit.intOf x).toNat)
  case atStart => exact ⟨0, by omega, rfl, R2, O2, Z2⟩
  case round =>
    clear R2 O2 Z2
    obtain ⟨k, hk, rfl, hrow, hown, hnx⟩ := hrel
    have hGlt : w.heap.size < wr.heap.size := lt_of_block hrow.out
    by_cases hlt : k < nB t
    · have hl64 : ((padN t).drop (64 * k) |>.take 64).length = 64 := by simp [padN_len]; omega
      have hcb : ∀ i, i < 64 → wr.drew.cell? ⟨gb, 64 * k + i, none⟩ = some (.int .u8 (byteAt (strOfNums ((padN t).drop (64 * k) |>.take 64)) i)) := by
        intro i hi
        have e1 : (((padN t).drop (64 * k)).take 64)[i]'(by omega) = (padN t)[64 * k + i]'(by rw [padN_len]; omega) := by simp
        rw [byteAt_nums _ i (by omega) (by rw [e1]; exact padN_in t _ (List.getElem_mem _)), e1]
        exact hown.out.cells (64 * k + i) (by rw [padN_len]; omega)
      have h8 : (u8Row (stN (padN t) k)).size = 8 := by rw [u8Row_size, stN_len]
      have hld := run_loadVar_row (P := Tryz.prog) wr.drew w.heap.size 143 143 _ (0, 0) _ hrow.out under8 rfl (by rw [h8]; exact info8)
      have hcall := blockI_any wr.drew (stN (padN t) k) gb (64 * k) (64 * nB t - 64 * k) _ (by omega) hown.out.hi (HT.out.below hnx.out.drew HT.out.1) (stN_len _ _) (stN_in _ _) hcb
      have HE : Hid (blockN (stN (padN t) k) (strOfNums ((padN t).drop (64 * k) |>.take 64)) = stN (padN t) (k + 1)) := rfl
      rw [HE.out] at hcall
      have XL : Hid ((loadVar 143 ⟨w.heap.size, 0, none⟩).run Tryz.prog wr.drew = .ok (.agg (u8Row (stN (padN t) k))) wr.drew) := hld
      clear hld hcb hl64 h8 HE
      have q0 : IntKind.i64.wrap ((64 : Int) * k + 64) = (64 : Int) * k + 64 := by rw [IntKind.wrap_i64]; omega
      have q1 : (64 : Int) * k + 64 ≤ 64 * nB t := by omega
      have q2 : ((64 : Int) * k).toNat = 64 * k := by omega
      have q3 : ((64 : Int) * k + 64).toNat = 64 * k + 64 := by omega
      have q4 : ¬ nB t = k := by omega
      have q5 : (64 : Int) * k < 64 * nB t := by omega
      have q6 : ¬ 64 * nB t = 64 * k := by omega
      have q7 : (0 : Int) ≤ 64 * k + 64 := by omega
      have q8 : (0 : Int) ≤ 64 * k := by omega
      have q9 : (64 : Int) * k ≤ 64 * k + 64 := by omega
      go_wp2
      refine wp_region_still_tail 6 (by kernel_rfl) (by kernel_rfl) ?_
      simp only [List.take_succ_cons, List.take_zero, List.drop_succ_cons, List.drop_zero]
      refine wpStill_load_row rfl 143 _ rfl ⟨w.heap.size, 0, none⟩ _ rfl XL.out ?_
      repeat still_step
      refine wpStill_nil ?_
      go_wp2_with (first
        | (go_at_call 127; refine hcall.mono ?_; rintro e w3 ⟨rfl, hb3⟩; have X3 := stS w3 w.heap.size _ (stN (padN t) (k + 1)) ((hb3.block _ hGlt).trans hrow.out) (stN_len _ _) (stN_len _ _))
        | refine wpList_store_row rfl 143 _ _ rfl rfl ⟨w.heap.size, 0, none⟩ _ _ rfl rfl X3.out ?_)
      have hr3 : w3.heap[w.heap.size]? = some (.cells (u8Row (stN (padN t) k)) 143 (0, 0)) := (hb3.block _ hGlt).trans hrow.out
      have hR : Hid ((w3.setRow w.heap.size (u8Row (stN (padN t) (k + 1)))).heap[w.heap.size]? = some (.cells (u8Row (stN (padN t) (k + 1))) 143 (0, 0))) := setRow_heap w3 w.heap.size _ _ 143 _ hr3
      have hO : Hid (OwnB (w3.setRow w.heap.size (u8Row (stN (padN t) (k + 1)))) W1.heap.size gb (64 * nB t) (padN t)) :=
        (hown.out.drew.below hb3).carry (Nat.le_of_eq (by simp)) (setRow_other w3 w.heap.size gb _ (by have := hown.out.lo; have := S1.out; omega))
      have hN : Hid (Below w.heap.size w (w3.setRow w.heap.size (u8Row (stN (padN t) (k + 1))))) := below_setRow (hnx.out.drew.trans (hb3.mono (Nat.le_of_lt hGlt))) (Nat.le_refl _) _
      go_roundw
      case rel => exact ⟨k + 1, by omega, by go_num, hR, hO, hN⟩
      case measure => simp [Go.RowKit.intOf]; omega
    · have hkk : k = nB t := by omega
      subst hkk
      have HD : Hid (digB t = strOfNums (outN (stN (padN t) (nB t)) 8)) := rfl
      have hin := stN_in (padN t) (nB t)
      have hl8 := stN_len (padN t) (nB t)
      generalize stN (padN t) (nB t) = st at *
      have h8 : (u8Row st).size = 8 := by rw [u8Row_size, hl8]
      have HI : Hid (∀ i, i < 8 → 0 ≤ st.getD i 0 ∧ st.getD i 0 ≤ 4294967295) := hin
      have HL8 : Hid (st.length = 8) := hl8
      clear hin hl8 hown hk hlt
      rename World => W3
      have XL : Hid ((loadVar 143 ⟨w.heap.size, 0, none⟩).run Tryz.prog (W3.alloc (.cells (zrow 32).toArray 5)) = .ok (.agg (u8Row st)) (W3.alloc (.cells (zrow 32).toArray 5))) :=
        run_loadVar_row (P := Tryz.prog) (W3.alloc (.cells (zrow 32).toArray 5)) w.heap.size 143 143 _ (0, 0) _ ((Below.heap_alloc _ _ _ hGlt).trans hrow.out) under8 rfl (by rw [h8]; exact info8)
      clear h8
      obtain ⟨i0, hi, hz0, hz1, hz2⟩ := info_parts infoU8q
      have hmk := run_make_32
      go_wp2_with (refine wpList_load_row rfl 143 _ rfl ⟨w.heap.size, 0, none⟩ _ rfl XL.out ?_)
      clear XL
      go_loopw [27, 6] (fun x v wr => ∃ (k g cap : Nat), k ≤ 8 ∧ x = .int .i64 k ∧ v = .slice (some ⟨g, 0, none⟩) (4 * k) cap ∧ wr.ownsRow W3.heap.size 5 1 (.slice (some ⟨g, 0, none⟩) (4 * k) cap) (4 * k) ((outN st k).map (Value.int .u8)) ∧ Below W3.heap.size W3 wr) (fun x _ _ => 8 - (Go.RowKit.intOf x).toNat)
      case atStart => exact ⟨0, W3.heap.size, 32, by omega, rfl, rfl, World.ownsRow_made W3 (zrow 32).toArray 32 (Nat.le_refl _) (by unfold maxLen; omega) rfl, (Below.refl _ _).alloc (Nat.le_refl _) _⟩
      case round =>
        obtain ⟨k, g, cap, hk, rfl, rfl, hown, hnx4⟩ := hrel
        have hsz := hnx4.size
        by_cases hlt : k < 8
        · have hidx := idxR st HL8.out k hlt
          obtain ⟨y0, y1⟩ := HI.out k hlt
          have HT2 : Hid (outN st (k + 1) = outN st k ++ four4 (st.getD k 0)) := rfl
          generalize st.getD k 0 = y at *
          have j5 : (k : Int) < 8 := by omega
          go_wp2_with (at_builtin; refine wpList_append_lies _ rfl _ _ 22 rfl W3.heap.size 5 i0 (.int .u8 0) 1 1 Tryz.underlying22 hi hz0 hz1 hz2 rfl (by omega) _ (4 * k) _ rfl (hown.alloc _) ⟨wr.heap.size, 0, none⟩ 4 4 [.int .u8 (y / 16777216), .int .u8 (y / 65536 % 256), .int .u8 (y / 256 % 256), .int .u8 (y % 256)] rfl rfl (World.news_of_block (cs := #[.int .u8 (y / 16777216), .int .u8 (y / 65536 % 256), .int .u8 (y / 256 % 256), .int .u8 (y % 256)]) (t := 5) (fr := (0, 0)) (heap_alloc_new wr _)) (by simp [Value.oneCell']) (by omega) (by unfold maxLen; omega) (by omega) (by simp; omega) (wr.heap.size + 1) (by simp) ?_; intro g2 cap2 w2 hown2 hgrow hat hltg)
          have hb2 : Below W3.heap.size W3 w2 := (hnx4.alloc hsz _).grown hgrow (by rw [size_allocN]; omega) (fun j hj => (hown.lt j hj).1)
          have ho2 : w2.ownsRow W3.heap.size 5 1 (.slice (some ⟨g2, 0, none⟩) (4 * (k + 1)) cap2) (4 * (k + 1)) ((outN st (k + 1)).map (Value.int .u8)) := by rw [HT2.out, four4_eqI y0 y1, List.map_append]; exact hown2
          go_roundw
          case rel => exact ⟨k + 1, g2, cap2, by omega, by go_num, rfl, ho2, hb2⟩
          case measure => simp [Go.RowKit.intOf]; omega
        · have hk8 : k = 8 := by omega
          subst hk8
          have hconv := conv_b (ownB_of_row hown (outN_len st 8)) 0 32 cap (by rw [outN_len]; omega)
          rw [List.drop_zero, List.take_of_length_le (by rw [outN_len]; omega)] at hconv
          rw [← HD.out] at hconv
          go_wp2
          go_ret
          exact ⟨rfl, hnx.out.trans (hnx4.mono hnx.out.size)⟩
end Go.Proofs.YtnknnfgimiljjaaGreatDoor
/-
  The specification's small parts of SHA-256: a number of 32 bits turned right ('turnR x k'), the keys of the rounds and the first state, each in new memory.
  Conditions: the number is from 0 to 2^32 - 1, k from 0 to 32.
-/
namespace Go.Proofs.YtnknnfgimiljjaaGreatDoor
open Go.RowKit Go.Lib
set_option linter.unusedVariables false

set_option maxHeartbeats 400000 in
theorem specTurn_any (x : Int) (k : Nat) (w : World) (h0 : 0 ≤ x) (h1 : x ≤ 4294967295) (hk : k ≤ 32) :
    Calls Tryz.prog 143 #[.int .u32 x, .int .u64 k] w fun e w' => e = .returned (.int .u32 (turnR x k)) ∧ w' = w := by
  go_enter Tryz.func143, Tryz.ntmps143
  go_wp2
  go_ret
  exact ⟨rfl, rfl⟩

theorem specTurn_c (x c : Int) (w : World) (h0 : 0 ≤ x) (h1 : x ≤ 4294967295) (c0 : 0 ≤ c) (c1 : c ≤ 32) :
    Calls Tryz.prog 143 #[.int .u32 x, .int .u64 c] w fun e w' => e = .returned (.int .u32 (turnR x c.toNat)) ∧ w' = w := by
  obtain ⟨k, rfl⟩ : ∃ k : Nat, c = k := ⟨c.toNat, by omega⟩
  exact specTurn_any x k w h0 h1 (by omega)

set_option maxHeartbeats 1000000 in
set_option maxRecDepth 20000 in
theorem specStart_any (w : World) :
    Calls Tryz.prog 123 #[] w fun e w' => e = .returned (.slice (some ⟨w.heap.size, 0, none⟩) 8 8) ∧ w' = w.alloc (.cells (startN.map (Value.int .i64)).toArray 2) := by
  go_enter Tryz.func123, Tryz.ntmps123
  go_wp2
  go_ret
  exact ⟨rfl, rfl⟩

set_option maxHeartbeats 4000000 in
set_option maxRecDepth 20000 in
theorem specKeys_any (w : World) :
    Calls Tryz.prog 144 #[] w fun e w' => e = .returned (.slice (some ⟨w.heap.size, 0, none⟩) 64 64) ∧ w' = w.alloc (.cells (keysN.map (Value.int .u32)).toArray 142) := by
  go_enter Tryz.func144, Tryz.ntmps144
  go_wp2
  go_ret
  exact ⟨rfl, rfl⟩
end Go.Proofs.YtnknnfgimiljjaaGreatDoor
