/-
  Parts of one proof, laid as one text: DigI, Turn2; what each says stands at its head.
-/
import Derived.Test.YtfdihkgkiiekcaaDoorRows
import Derived.Test.YtfdihkgkiiekcaaDoorBytesDigMath
import Derived.Test.YtfdihkgkiiekcaaDoorOwnBPadI
import Derived.Test.YtfdihkgkiiekcaaDoorJoinedTurnIWholeR
import Derived.Test.YtfdihkgkiiekcaaDoorNumsI
import Derived.Test.YtfdihkgkiiekcaaDoorBlockI
import Derived.Handy
import Derived.WalkSpells
import Derived.Deep.AppendLies
import Derived.StillTailTactics
/-
  The program's digestOf: the digest of a text, 'digB', in new memory.
  Conditions: the text is at most 2^40 bytes long; the two tables lie as the program's text lays them.
-/
namespace Go.Proofs.YtfdihkgkiiekcaaDoor
open Go.RowKit Go.Lib
set_option linter.unusedVariables false
set_option maxRecDepth 20000

theorem padN_in (t : ByteArray) : ∀ x ∈ padN t, 0 ≤ x ∧ x ≤ 255 := by
  intro x hx
  simp only [padN, bytesN, be8To, bePart, List.mem_append, List.mem_map, List.mem_replicate, List.mem_cons, List.not_mem_nil, or_false] at hx
  rcases hx with ((⟨b, _, rfl⟩ | rfl) | ⟨_, rfl⟩) | ⟨i, _, rfl⟩
  · have := b.toNat_lt; omega
  · omega
  · omega
  · omega
theorem byteAt_nums (xs : List Int) (i : Nat) (hi : i < xs.length) (h : 0 ≤ xs[i] ∧ xs[i] ≤ 255) : byteAt (strOfNums xs) i = xs[i] := by
  unfold byteAt
  rw [strOfNums_data, List.getD_eq_getElem?_getD, List.getElem?_map, List.getElem?_eq_getElem hi]
  simp
  omega
theorem load_cells (w : World) (g : Nat) (l : List Int) (hl : l.length = 8) (h : ∀ i, i < 8 → w.cell? ⟨g, i, none⟩ = some (.int .u32 (l.getD i 0))) :
    (loadVar 107 ⟨g, 0, none⟩).run Tryd.prog w = .ok (.agg (u8Row l)) w := by
  have hc := run_loadCells_list (P := Tryd.prog) w ⟨g, 0, none⟩ (l.map (Value.int .u32)) (fun j v hv => by
    have hj : j < l.length := by
      rcases Nat.lt_or_ge j l.length with hh | hh
      · exact hh
      · rw [List.getElem?_eq_none (by simpa using hh)] at hv; cases hv
    have hadd : (⟨g, 0, none⟩ : Addr).add j = ⟨g, j, none⟩ := by unfold Addr.add; split <;> simp_all
    rw [hadd, h j (by omega)]
    simp [List.getElem?_eq_getElem hj] at hv
    simp [List.getD_eq_getElem?_getD, List.getElem?_eq_getElem hj, hv])
  rw [List.length_map, hl] at hc
  cases hq : Tryd.prog.info? 107 with
  | none => have := info8; simp [hq] at this
  | some i =>
    have hs : i.size = 8 := by have := info8; simpa [hq] using this
    simp [loadVar, sizeOf, typeInfo, isAgg, hq, run_underlying under8, hs, hc, u8Row]
theorem store8 (w3 : World) (row : Array Value) (h : row.size = 8) (h1 : row.all (·.oneCell') = true) :
    (storeVar 107 ⟨w3.heap.size, 0, none⟩ (.agg row)).run Tryd.prog (w3.alloc (.cells #[.int .u32 0, .int .u32 0, .int .u32 0, .int .u32 0, .int .u32 0, .int .u32 0, .int .u32 0, .int .u32 0] 107)) = .ok () (w3.alloc (.cells row 107)) :=
  run_storeVar_new (P := Tryd.prog) w3 107 _ row (by rw [h]; exact info8) (by rw [h]; rfl) h1

theorem wpStill_load_row {P : Program} {w : World} {ops : Array Oper} {rest : List Oper} {o : Oper} {a : Act} {Q : Act → Prop} (hgd : o.guard = none) (t : TypeId) (x : Operand)
    (ho : o.op = .load t x) (g : Addr) (v : Value) (hx : a.eval x = .pointer (some g)) (hl : (loadVar t g).run P w = .ok v w)
    (h : wpStill P ops w Q rest (a.put o.dst v)) : wpStill P ops w Q (o :: rest) a :=
  wpStill_step fun K hK => by
    have hw : Region.wanted o (yielded ops a.tmps) = true := by simp [Region.wanted, hgd]
    rw [if_pos hw]
    unfold Oper.still execOp
    simp only [ho, hx, Instr.loadAt, Instr.sureAddr, Sem.run_bind, Sem.run_pure, Result.andThen_ok, hl]
    rw [Oper.stillUpon_value]
    exact hK _ h
theorem idxR (l : List Int) (hl : l.length = 8) (k : Nat) (hk : k < 8) (w : World) : (Instr.index 107 (.agg (u8Row l)) (.int .i64 (k : Int))).run Tryd.prog w = .ok (.int .u32 (l.getD k 0)) w := by
  match l, hl with
  | [a, b, c, d, e, f, g, h], _ => exact idx8 ⟨a, b, c, d, e, f, g, h⟩ k hk w
theorem run_make_32 (w : World) : (Instr.makeSlice 70 (.int .i64 0) (.int .i64 32)).run Tryd.prog w = .ok (.slice (some ⟨w.heap.size, 0, none⟩) 0 32) (w.alloc (.cells (zrow 32).toArray 5)) := by
  obtain ⟨i0, hi, hz0, hz1, hz2⟩ := info_parts infoU8q
  have := run_make (P := Tryd.prog) w 70 5 i0 (.int .u8 0) Tryd.underlying70 hi hz0 .i64 .i64 0 32 (by omega) (by omega) (by rw [hz2]; omega) (by omega)
  rw [this, hz1]
  rw [show (Value.int .u8 0).cells = #[.int .u8 0] from rfl, show Int.toNat 32 * 1 = 32 from rfl, madeZ]; rfl
theorem four4_eqI {y : Int} (h0 : 0 ≤ y) (h1 : y ≤ 4294967295) : four4 y = [y / 16777216, y / 65536 % 256, y / 256 % 256, y % 256] := by unfold four4; rw [show y / 16777216 % 256 = y / 16777216 by omega]

theorem stS (w3 : World) (g : Nat) (l l' : List Int) (h : w3.heap[g]? = some (.cells (u8Row l) 107 (0, 0))) (hl : l.length = 8) (hl' : l'.length = 8) :
    Hid ((storeVar 107 ⟨g, 0, none⟩ (.agg (u8Row l'))).run Tryd.prog w3 = .ok () (w3.setRow g (u8Row l'))) :=
  run_storeVar_row (P := Tryd.prog) w3 g 107 107 _ (u8Row l') h (by rw [u8Row_size, hl']; exact info8) (by rw [u8Row_size, u8Row_size, hl, hl']) (u8Row_one _)
set_option maxHeartbeats 1000000 in
set_option maxRecDepth 20000 in
theorem digI_any (t : ByteArray) (w : World) (ht : t.size ≤ 1099511627776) (htab : Tabs w) :
    Calls Tryd.prog 65 #[.string t] w fun e w' => e = .returned (.string (digB t)) ∧ Below w.heap.size w w' := by
  have HT : Hid (Tabs w) := htab
  clear htab
  have X0 : Hid ((loadVar 107 ⟨0, 0, none⟩).run Tryd.prog w = .ok (.agg (u8Row startN)) w) := load_cells w _ startN rfl HT.out.2.2
  have X1 := store8 w (u8Row startN) rfl (u8Row_one _)
  obtain ⟨W1, hW1⟩ : ∃ W1, W1 = w.alloc (.cells (u8Row startN) 107) := ⟨_, rfl⟩
  rw [← hW1] at X1
  have X2 : Hid _ := X1
  clear X1
  have R1 : Hid (W1.heap[w.heap.size]? = some (.cells (u8Row startN) 107 (0, 0))) := by show _ = _; rw [hW1]; exact heap_alloc_new w _
  have B1 : Hid (Below w.heap.size w W1) := by show Below _ _ _; rw [hW1]; exact (Below.refl _ _).alloc (Nat.le_refl _) _
  have S1 : Hid (W1.heap.size = w.heap.size + 1) := by show _ = _; rw [hW1, size_allocN]
  clear hW1
  go_enter Tryd.func65, Tryd.ntmps65
  go_wp2_with (first
    | (go_at_call 74; refine (padI_any t _ ht).mono ?_; rintro e w2 ⟨gb, rfl, ho2, hb2⟩)
    | refine wpList_load_row rfl 107 _ rfl ⟨0, 0, none⟩ _ rfl X0.out ?_
    | refine wpList_store_row rfl 107 _ _ rfl rfl ⟨w.heap.size, 0, none⟩ _ W1 rfl rfl X2.out ?_)
  have Z2 : Hid (Below w.heap.size w w2) := B1.out.trans (hb2.mono B1.out.size)
  have R2 : Hid (w2.heap[w.heap.size]? = some (.cells (u8Row (stN (padN t) 0)) 107 (0, 0))) := (hb2.block _ (by have := S1.out; omega)).trans R1.out
  have O2 : Hid (OwnB w2 W1.heap.size gb (64 * nB t) (padN t)) := ho2
  have hnb : nB t ≤ 17179869200 := by unfold nB zN; omega
  clear hb2 ho2 X0 X2 R1 B1
  go_loopw [5] (fun x wr => ∃ k : Nat, k ≤ nB t ∧ x = .int .i64 (64 * (k : Int)) ∧ Hid (wr.heap[w.heap.size]? = some (.cells (u8Row (stN (padN t) k)) 107 (0, 0))) ∧ Hid (OwnB wr W1.heap.size gb (64 * nB t) (padN t)) ∧ Hid (Below w.heap.size w wr)) (fun x _ => nB t * 64 - (Go.RowKit.intOf x).toNat)
  case atStart => exact ⟨0, by omega, rfl, R2, O2, Z2⟩
  case round =>
    clear R2 O2 Z2
    obtain ⟨k, hk, rfl, hrow, hown, hnx⟩ := hrel
    have hGlt : w.heap.size < wr.heap.size := lt_of_block hrow.out
    by_cases hlt : k < nB t
    · have hl64 : ((padN t).drop (64 * k) |>.take 64).length = 64 := by simp [padN_len]; omega
      have hcb : ∀ i, i < 64 → wr.drew.cell? ⟨gb, 64 * k + i, none⟩ = some (.int .u8 (byteAt (strOfNums ((padN t).drop (64 * k) |>.take 64)) i)) := by
        intro i hi
        have e1 : (((padN t).drop (64 * k)).take 64)[i]'(by omega) = (padN t)[64 * k + i]'(by rw [padN_len]; omega) := by simp
        rw [byteAt_nums _ i (by omega) (by rw [e1]; exact padN_in t _ (List.getElem_mem _)), e1]
        exact hown.out.cells (64 * k + i) (by rw [padN_len]; omega)
      have h8 : (u8Row (stN (padN t) k)).size = 8 := by rw [u8Row_size, stN_len]
      have hld := run_loadVar_row (P := Tryd.prog) wr.drew w.heap.size 107 107 _ (0, 0) _ hrow.out under8 rfl (by rw [h8]; exact info8)
      have hcall := blockI_any wr.drew (stN (padN t) k) gb (64 * k) (64 * nB t - 64 * k) _ (by omega) hown.out.hi (HT.out.below hnx.out.drew HT.out.1) (stN_len _ _) (stN_in _ _) hcb
      have HE : Hid (blockN (stN (padN t) k) (strOfNums ((padN t).drop (64 * k) |>.take 64)) = stN (padN t) (k + 1)) := rfl
      rw [HE.out] at hcall
      have XL : Hid ((loadVar 107 ⟨w.heap.size, 0, none⟩).run Tryd.prog wr.drew = .ok (.agg (u8Row (stN (padN t) k))) wr.drew) := hld
      clear hld hcb hl64 h8 HE
      have q0 : IntKind.i64.wrap ((64 : Int) * k + 64) = (64 : Int) * k + 64 := by rw [IntKind.wrap_i64]; omega
      have q1 : (64 : Int) * k + 64 ≤ 64 * nB t := by omega
      have q2 : ((64 : Int) * k).toNat = 64 * k := by omega
      have q3 : ((64 : Int) * k + 64).toNat = 64 * k + 64 := by omega
      have q4 : ¬ nB t = k := by omega
      have q5 : (64 : Int) * k < 64 * nB t := by omega
      have q6 : ¬ 64 * nB t = 64 * k := by omega
      have q7 : (0 : Int) ≤ 64 * k + 64 := by omega
      have q8 : (0 : Int) ≤ 64 * k := by omega
      have q9 : (64 : Int) * k ≤ 64 * k + 64 := by omega
      go_wp2
      refine wp_region_still_tail 6 (by kernel_rfl) (by kernel_rfl) ?_
      simp only [List.take_succ_cons, List.take_zero, List.drop_succ_cons, List.drop_zero]
      refine wpStill_load_row rfl 107 _ rfl ⟨w.heap.size, 0, none⟩ _ rfl XL.out ?_
      repeat still_step
      refine wpStill_nil ?_
      go_wp2_with (first
        | (go_at_call 75; refine hcall.mono ?_; rintro e w3 ⟨rfl, hb3⟩; have X3 := stS w3 w.heap.size _ (stN (padN t) (k + 1)) ((hb3.block _ hGlt).trans hrow.out) (stN_len _ _) (stN_len _ _))
        | refine wpList_store_row rfl 107 _ _ rfl rfl ⟨w.heap.size, 0, none⟩ _ _ rfl rfl X3.out ?_)
      have hr3 : w3.heap[w.heap.size]? = some (.cells (u8Row (stN (padN t) k)) 107 (0, 0)) := (hb3.block _ hGlt).trans hrow.out
      have hR : Hid ((w3.setRow w.heap.size (u8Row (stN (padN t) (k + 1)))).heap[w.heap.size]? = some (.cells (u8Row (stN (padN t) (k + 1))) 107 (0, 0))) := setRow_heap w3 w.heap.size _ _ 107 _ hr3
      have hO : Hid (OwnB (w3.setRow w.heap.size (u8Row (stN (padN t) (k + 1)))) W1.heap.size gb (64 * nB t) (padN t)) :=
        (hown.out.drew.below hb3).carry (Nat.le_of_eq (by simp)) (setRow_other w3 w.heap.size gb _ (by have := hown.out.lo; have := S1.out; omega))
      have hN : Hid (Below w.heap.size w (w3.setRow w.heap.size (u8Row (stN (padN t) (k + 1))))) := below_setRow (hnx.out.drew.trans (hb3.mono (Nat.le_of_lt hGlt))) (Nat.le_refl _) _
      go_roundw
      case rel => exact ⟨k + 1, by omega, by go_num, hR, hO, hN⟩
      case measure => simp [Go.RowKit.intOf]; omega
    · have hkk : k = nB t := by omega
      subst hkk
      have HD : Hid (digB t = strOfNums (outN (stN (padN t) (nB t)) 8)) := rfl
      have hin := stN_in (padN t) (nB t)
      have hl8 := stN_len (padN t) (nB t)
      generalize stN (padN t) (nB t) = st at *
      have h8 : (u8Row st).size = 8 := by rw [u8Row_size, hl8]
      have HI : Hid (∀ i, i < 8 → 0 ≤ st.getD i 0 ∧ st.getD i 0 ≤ 4294967295) := hin
      have HL8 : Hid (st.length = 8) := hl8
      clear hin hl8 hown hk hlt
      rename World => W3
      have XL : Hid ((loadVar 107 ⟨w.heap.size, 0, none⟩).run Tryd.prog (W3.alloc (.cells (zrow 32).toArray 5)) = .ok (.agg (u8Row st)) (W3.alloc (.cells (zrow 32).toArray 5))) :=
        run_loadVar_row (P := Tryd.prog) (W3.alloc (.cells (zrow 32).toArray 5)) w.heap.size 107 107 _ (0, 0) _ ((Below.heap_alloc _ _ _ hGlt).trans hrow.out) under8 rfl (by rw [h8]; exact info8)
      clear h8
      obtain ⟨i0, hi, hz0, hz1, hz2⟩ := info_parts infoU8q
      have hmk := run_make_32
      go_wp2_with (refine wpList_load_row rfl 107 _ rfl ⟨w.heap.size, 0, none⟩ _ rfl XL.out ?_)
      clear XL
      go_loopw [27, 6] (fun x v wr => ∃ (k g cap : Nat), k ≤ 8 ∧ x = .int .i64 k ∧ v = .slice (some ⟨g, 0, none⟩) (4 * k) cap ∧ wr.ownsRow W3.heap.size 5 1 (.slice (some ⟨g, 0, none⟩) (4 * k) cap) (4 * k) ((outN st k).map (Value.int .u8)) ∧ Below W3.heap.size W3 wr) (fun x _ _ => 8 - (Go.RowKit.intOf x).toNat)
      case atStart => exact ⟨0, W3.heap.size, 32, by omega, rfl, rfl, World.ownsRow_made W3 (zrow 32).toArray 32 (Nat.le_refl _) (by unfold maxLen; omega) rfl, (Below.refl _ _).alloc (Nat.le_refl _) _⟩
      case round =>
        obtain ⟨k, g, cap, hk, rfl, rfl, hown, hnx4⟩ := hrel
        have hsz := hnx4.size
        by_cases hlt : k < 8
        · have hidx := idxR st HL8.out k hlt
          obtain ⟨y0, y1⟩ := HI.out k hlt
          have HT2 : Hid (outN st (k + 1) = outN st k ++ four4 (st.getD k 0)) := rfl
          generalize st.getD k 0 = y at *
          have j5 : (k : Int) < 8 := by omega
          go_wp2_with (at_builtin; refine wpList_append_lies _ rfl _ _ 70 rfl W3.heap.size 5 i0 (.int .u8 0) 1 1 Tryd.underlying70 hi hz0 hz1 hz2 rfl (by omega) _ (4 * k) _ rfl (hown.alloc _) ⟨wr.heap.size, 0, none⟩ 4 4 [.int .u8 (y / 16777216), .int .u8 (y / 65536 % 256), .int .u8 (y / 256 % 256), .int .u8 (y % 256)] rfl rfl (World.news_of_block (cs := #[.int .u8 (y / 16777216), .int .u8 (y / 65536 % 256), .int .u8 (y / 256 % 256), .int .u8 (y % 256)]) (t := 5) (fr := (0, 0)) (heap_alloc_new wr _)) (by simp [Value.oneCell']) (by omega) (by unfold maxLen; omega) (by omega) (by simp; omega) (wr.heap.size + 1) (by simp) ?_; intro g2 cap2 w2 hown2 hgrow hat hltg)
          have hb2 : Below W3.heap.size W3 w2 := (hnx4.alloc hsz _).grown hgrow (by rw [size_allocN]; omega) (fun j hj => (hown.lt j hj).1)
          have ho2 : w2.ownsRow W3.heap.size 5 1 (.slice (some ⟨g2, 0, none⟩) (4 * (k + 1)) cap2) (4 * (k + 1)) ((outN st (k + 1)).map (Value.int .u8)) := by rw [HT2.out, four4_eqI y0 y1, List.map_append]; exact hown2
          go_roundw
          case rel => exact ⟨k + 1, g2, cap2, by omega, by go_num, rfl, ho2, hb2⟩
          case measure => simp [Go.RowKit.intOf]; omega
        · have hk8 : k = 8 := by omega
          subst hk8
          have hconv := conv_b (ownB_of_row hown (outN_len st 8)) 0 32 cap (by rw [outN_len]; omega)
          rw [List.drop_zero, List.take_of_length_le (by rw [outN_len]; omega)] at hconv
          rw [← HD.out] at hconv
          go_wp2
          go_ret
          exact ⟨rfl, hnx.out.trans (hnx4.mono hnx.out.size)⟩
end Go.Proofs.YtfdihkgkiiekcaaDoor
/-
  The specification's small parts of SHA-256: a number of 32 bits turned right ('turnR x k'), the keys of the rounds and the first state, each in new memory.
  Conditions: the number is from 0 to 2^32 - 1, k from 0 to 32.
-/
namespace Go.Proofs.YtfdihkgkiiekcaaDoor
open Go.RowKit Go.Lib
set_option linter.unusedVariables false

set_option maxHeartbeats 400000 in
theorem specTurn_any (x : Int) (k : Nat) (w : World) (h0 : 0 ≤ x) (h1 : x ≤ 4294967295) (hk : k ≤ 32) :
    Calls Tryd.prog 62 #[.int .u32 x, .int .u64 k] w fun e w' => e = .returned (.int .u32 (turnR x k)) ∧ w' = w := by
  go_enter Tryd.func62, Tryd.ntmps62
  go_wp2
  go_ret
  exact ⟨rfl, rfl⟩

theorem specTurn_c (x c : Int) (w : World) (h0 : 0 ≤ x) (h1 : x ≤ 4294967295) (c0 : 0 ≤ c) (c1 : c ≤ 32) :
    Calls Tryd.prog 62 #[.int .u32 x, .int .u64 c] w fun e w' => e = .returned (.int .u32 (turnR x c.toNat)) ∧ w' = w := by
  obtain ⟨k, rfl⟩ : ∃ k : Nat, c = k := ⟨c.toNat, by omega⟩
  exact specTurn_any x k w h0 h1 (by omega)

set_option maxHeartbeats 1000000 in
set_option maxRecDepth 20000 in
theorem specStart_any (w : World) :
    Calls Tryd.prog 50 #[] w fun e w' => e = .returned (.slice (some ⟨w.heap.size, 0, none⟩) 8 8) ∧ w' = w.alloc (.cells (startN.map (Value.int .i64)).toArray 2) := by
  go_enter Tryd.func50, Tryd.ntmps50
  go_wp2
  go_ret
  exact ⟨rfl, rfl⟩

set_option maxHeartbeats 4000000 in
set_option maxRecDepth 20000 in
theorem specKeys_any (w : World) :
    Calls Tryd.prog 63 #[] w fun e w' => e = .returned (.slice (some ⟨w.heap.size, 0, none⟩) 64 64) ∧ w' = w.alloc (.cells (keysN.map (Value.int .u32)).toArray 97) := by
  go_enter Tryd.func63, Tryd.ntmps63
  go_wp2
  go_ret
  exact ⟨rfl, rfl⟩
end Go.Proofs.YtfdihkgkiiekcaaDoor
