/-
  Parts of one proof, laid as one text: OwnB, PadI, DigI, DigAll, TimeI, ImplFC; what each says stands at its head.
-/
import Derived.Test.YtepmoihgemhjcaaGreatDoorRows
import Derived.Test.YtepmoihgemhjcaaGreatDoorBytesDigMath
import Derived.Handy
import Derived.WalkSmall
import Derived.ArgAppend
import Derived.Lib.LazyBuf
import Derived.Laws.BytesArg
import Derived.Laws.OwnMore
import Derived.Deep.AppendLies
import Derived.Test.YtepmoihgemhjcaaGreatDoorTurnI
import Derived.Test.YtepmoihgemhjcaaGreatDoorWholeR
import Derived.Test.YtepmoihgemhjcaaGreatDoorNumsI
import Derived.Test.YtepmoihgemhjcaaGreatDoorBlockI
import Derived.WalkSpells
import Derived.StillTailTactics
import Derived.Test.YtepmoihgemhjcaaGreatDoorTimeBPutMathPutNumJoinedPutTextFldMath
import Derived.Test.YtepmoihgemhjcaaGreatDoorTreeMathSlABxKSlBOwnS
import Derived.OwnWalk
import Derived.Test.YtepmoihgemhjcaaGreatDoorNameRight
import Derived.Laws.StructEq
import Derived.Deep.RegionHeld3
import Derived.Deep.RegionWith
/-
  A row of bytes that the call made, one byte more at a time, also where the row came of a string ('[]byte(s)': the run-time's mark behind its last cell).
  Conditions: the row stays below 2^46 bytes.
-/
namespace Go.Proofs.YtepmoihgemhjcaaGreatDoor
open Go.RowKit Go.Lib
set_option linter.unusedVariables false

structure OwnB (w : World) (base g cap : Nat) (xs : List Int) : Prop where
  lo : base ≤ g
  hi : g < w.heap.size
  fit : xs.length ≤ cap
  max : cap ≤ maxLen
  room : ∀ j, j < cap → (w.cell? ⟨g, j, none⟩).isSome = true ∧ w.frozen? ⟨g, j, none⟩ = false
  cells : ∀ j (h : j < xs.length), w.cell? ⟨g, j, none⟩ = some (.int .u8 xs[j])

theorem OwnB.carry {w w' : World} {base g cap : Nat} {xs : List Int} (h : OwnB w base g cap xs) (hs : w.heap.size ≤ w'.heap.size) (hb : w'.heap[g]? = w.heap[g]?) : OwnB w' base g cap xs :=
  ⟨h.lo, Nat.lt_of_lt_of_le h.hi hs, h.fit, h.max, fun j hj => by
    have e1 : w'.cell? ⟨g, j, none⟩ = w.cell? ⟨g, j, none⟩ := World.cell?_of_block hb
    have e2 : w'.frozen? ⟨g, j, none⟩ = w.frozen? ⟨g, j, none⟩ := World.frozen?_of_block hb
    rw [e1, e2]; exact h.room j hj, fun j hj => by
    have e1 : w'.cell? ⟨g, j, none⟩ = w.cell? ⟨g, j, none⟩ := World.cell?_of_block hb
    rw [e1]; exact h.cells j hj⟩
theorem OwnB.drew {w : World} {base g cap : Nat} {xs : List Int} (h : OwnB w base g cap xs) : OwnB w.drew base g cap xs := h.carry (Nat.le_refl _) rfl
theorem OwnB.alloc {w : World} {base g cap : Nat} {xs : List Int} (h : OwnB w base g cap xs) (o : Obj) : OwnB (w.alloc o) base g cap xs :=
  h.carry (by simp) (Below.heap_alloc w o g h.hi)
theorem OwnB.below {w w' : World} {base g cap : Nat} {xs : List Int} (h : OwnB w base g cap xs) (hb : Below w.heap.size w w') : OwnB w' base g cap xs :=
  h.carry hb.size (hb.block g h.hi)

theorem ownB_of_row {w : World} {base g n cap : Nat} {xs : List Int} {T : TypeId} (h : w.ownsRow base T 1 (.slice (some ⟨g, 0, none⟩) n cap) n (xs.map (Value.int .u8))) (hx : xs.length = n) : OwnB w base g cap xs := by
  have hlt := h.lt g rfl
  rcases h.2 with ⟨h0, _⟩ | ⟨g2, cap2, cur, hv, hb, hg, hn, hc, hs, ht⟩
  · cases h0
  · cases hv
    refine ⟨hb, hlt.2, by omega, hc, fun j hj => ?_, fun j hj => ?_⟩
    · have : j < cur.size := by omega
      simp [World.cell?, World.frozen?, hg, this]
    · rw [h.cellAt j (by omega)]
      simp [List.getElem?_eq_getElem hj]

theorem ownB_of_string (w : World) (s : ByteArray) (T : TypeId) (hs : s.size ≤ maxLen) :
    OwnB (w.drew.alloc (.cells (bytesRow s (grownCap w s.size 0 T)) T ((bytesRow s (grownCap w s.size 0 T)).size, (bytesRow s (grownCap w s.size 0 T)).size + 1))) w.heap.size w.heap.size (grownCap w s.size 0 T) (bytesN s) := by
  have hge := grownCap_ge w s.size 0 T
  have hle := grownCap_le_maxLen w s.size 0 T hs
  generalize grownCap w s.size 0 T = C at *
  have hsz : (bytesRow s C).size = C := by
    have : s.data.size = s.size := rfl
    simp [bytesRow, this]; omega
  have hat : (w.drew.alloc (.cells (bytesRow s C) T ((bytesRow s C).size, (bytesRow s C).size + 1))).heap[w.heap.size]? = some (.cells (bytesRow s C) T ((bytesRow s C).size, (bytesRow s C).size + 1)) := heap_alloc_new w.drew _
  refine ⟨Nat.le_refl _, by simp, by rw [bytesN_len]; exact hge, hle, fun j hj => ?_, fun j hj => ?_⟩
  · rw [hsz] at hat ⊢
    refine ⟨?_, ?_⟩
    · have : j < (bytesRow s C).size := by omega
      simp only [World.cell?, hat]
      simp [this]
    · simp only [World.frozen?, hat]
      simp; omega
  · rw [bytesN_len] at hj
    have h2 : j < s.data.size := hj
    simp only [World.cell?, hat]
    simp [bytesRow, bytesN, Array.getElem?_append, hj]

theorem append_b {P : Program} (w : World) (t ty e : TypeId) (i : TypeInfo) (ht : P.underlying t = some (.slice e)) (hi : P.info? e = some i) (hz : i.zero = some (.int .u8 0)) (hz1 : i.size = 1) (hz2 : i.bytes = 1)
    (base g cap : Nat) (xs : List Int) (h : OwnB w base g cap xs) (ad : Addr) (c : Nat) (x : Int) (hx : w.cell? (ad.add 0) = some (.int .u8 x)) (hlen : xs.length < 70368744177664) (hB : base ≤ w.heap.size) :
    ∃ g' cap' w', (Builtin.append_ #[t, t] ty #[.slice (some ⟨g, 0, none⟩) xs.length cap, .slice (some ad) 1 c]).run P w = .ok (.slice (some ⟨g', 0, none⟩) (xs.length + 1) cap') w' ∧
      OwnB w' base g' cap' (xs ++ [x]) ∧ ∀ w0, Below base w0 w → Below base w0 w' := by
  have hnews : ∀ j u, [Value.int .u8 x][j]? = some u → w.cell? (ad.add j) = some u := fun j u hj => by
    match j with
    | 0 => simp at hj; rw [hx, hj]
    | j + 1 => simp at hj
  by_cases hroom : xs.length + 1 ≤ cap
  · have hr := run_append_room_cells (P := P) w t ty e i ht hi g 0 xs.length cap ad 1 c [.int .u8 x] (by rw [hz1]; rfl) hnews (by simp [Value.oneCell']) hroom
      (fun j hj => by rw [hz1]; have : j = 0 := by simpa using hj
                      subst this; simpa using (h.room xs.length (by omega)).1)
      (fun j hj => by rw [hz1]; have : j = 0 := by simpa using hj
                      subst this; simpa using (h.room xs.length (by omega)).2)
    rw [hz1, Nat.zero_add, Nat.mul_one] at hr
    have e0 : (w.setCells g xs.length [.int .u8 x]) = w.setCell ⟨g, xs.length, none⟩ (.int .u8 x) := rfl
    rw [e0] at hr
    have hcs : (w.cell? ⟨g, xs.length, none⟩).isSome = true := (h.room xs.length (by omega)).1
    have hin := World.cell?_setCells_in g [.int .u8 x] xs.length w (fun j hj => by have : j = 0 := by simpa using hj
                                                                                   subst this; exact hcs) 0 (by simp)
    rw [e0] at hin
    have hout : ∀ j, j ≠ xs.length → (w.setCell ⟨g, xs.length, none⟩ (.int .u8 x)).cell? ⟨g, j, none⟩ = w.cell? ⟨g, j, none⟩ := fun j hj => by
      have := World.cell?_setCells_out g [.int .u8 x] xs.length w ⟨g, j, none⟩ (fun _ _ => by simp; omega)
      rwa [e0] at this
    have hfz : ∀ a, (w.setCell ⟨g, xs.length, none⟩ (.int .u8 x)).frozen? a = w.frozen? a := fun a => by
      have := World.frozen?_setCells g [.int .u8 x] xs.length w a
      rwa [e0] at this
    refine ⟨g, cap, _, hr, ⟨h.lo, by simpa using h.hi, by simpa using hroom, h.max, fun j hj => ?_, fun j hj => ?_⟩, fun w0 hb => hb.setCell h.lo _⟩
    · rw [hfz]
      refine ⟨?_, (h.room j hj).2⟩
      by_cases hjn : j = xs.length
      · subst hjn; simp at hin; simp [hin]
      · rw [hout j hjn]; exact (h.room j hj).1
    · by_cases hjn : j = xs.length
      · subst hjn; simp at hin; simp [hin]
      · have hj' : j < xs.length := by simp at hj; omega
        rw [hout j hjn, h.cells j hj', List.getElem_append_left hj']
  · obtain ⟨v', w', hr, hown, hgr⟩ := run_append_arg_grows (P := P) w t ty e i (.int .u8 0) 1 1 ht hi hz hz1 hz2 rfl (by omega) ⟨g, 0, none⟩ xs.length cap (xs.map (Value.int .u8)) (by simp)
      (fun j u hj => by
        have hjl : j < xs.length := by
          rcases Nat.lt_or_ge j xs.length with hh | hh
          · exact hh
          · rw [List.getElem?_eq_none (by simpa using hh)] at hj; cases hj
        have e : (⟨g, 0, none⟩ : Addr).add j = ⟨g, j, none⟩ := by unfold Addr.add; split <;> simp_all
        rw [e, h.cells j hjl]
        simp [List.getElem?_eq_getElem hjl] at hj
        rw [← hj]) ad 1 c [.int .u8 x] rfl hnews (by omega) (by unfold maxLen; omega) (by omega)
    obtain ⟨g', cap', rfl, hbg, hlt⟩ := hown.form (by omega)
    have ho2 := ownB_of_row (xs := xs ++ [x]) (by rw [List.map_append]; exact hown) (by simp)
    refine ⟨g', cap', w', hr, ⟨Nat.le_trans hB hbg, ho2.hi, ho2.fit, ho2.max, ho2.room, ho2.cells⟩, fun w0 hb => hb.grown hgr hB (fun k hk => by cases hk)⟩

theorem wpList_append_run {P : Program} {w : World} {ops : Array Oper} {rest : List Oper} {o : Oper} {a : Act} {Q : Exit → Act → World → Prop} (hgd : o.guard = none) (s x : Operand) (t : TypeId)
    (ho : o.op = .call { callee := .builtin .append, args := #[s, x], argTypes := #[t, t] }) (v1 v2 v' : Value) (w' : World) (hs : a.eval s = v1) (hx : a.eval x = v2)
    (hr : (Builtin.append_ #[t, t] o.type #[v1, v2]).run P w = .ok v' w') (h : wpList P ops Q rest (a.put o.dst v') w') : wpList P ops Q (o :: rest) a w :=
  wpList_plain hgd fun _ hK => by
    unfold Oper.wp execOp
    simp only [ho, resolve, invoke, builtin, Sem.run_bind, Sem.run_pure, Result.andThen_ok, List.map_toArray, List.map_cons, List.map_nil, hs, hx, hr]
    exact hK _ _ h

theorem conv_b {w : World} {base g cap : Nat} {xs : List Int} (h : OwnB w base g cap xs) (off len c : Nat) (hl : off + len ≤ xs.length) :
    (convert 22 9 (.slice (some ⟨g, off, none⟩) len c)).run Tryz.prog w = .ok (.string (strOfNums ((xs.drop off).take len))) w :=
  run_convert_bytes_arg (P := Tryz.prog) w 22 5 Tryz.underlying22 Tryz.underlying5 g off len c ((xs.drop off).take len) (by simp; omega) (fun i hi => by
    rw [h.cells (off + i) (by omega), List.getD_eq_getElem?_getD, List.getElem?_take_of_lt hi, List.getElem?_drop, List.getElem?_eq_getElem (by omega)]; rfl) 9 Tryz.underlying9
end Go.Proofs.YtepmoihgemhjcaaGreatDoor
/-
  The program's padded: a text filled up to whole blocks: 'padN', in new memory.
  Conditions: the text is at most 2^40 bytes long.
-/
namespace Go.Proofs.YtepmoihgemhjcaaGreatDoor
open Go.RowKit Go.Lib
set_option linter.unusedVariables false
set_option maxRecDepth 20000

theorem infoU8q : (Tryz.prog.info? 5).map (fun i => (i.zero, i.size, i.bytes)) = some (some (.int .u8 0), 1, 1) := by kernel_rfl
theorem sizeU8q : (Tryz.prog.info? 5).map (·.size) = some 1 := by kernel_rfl
theorem run_make_u8q (n : Nat) (hn : n ≤ 281474976710656) (w : World) :
    (Instr.makeSlice 22 (.int .i64 (n : Int)) (.int .i64 (n : Int))).run Tryz.prog w = .ok (.slice (some ⟨w.heap.size, 0, none⟩) n n) (w.alloc (.cells (zrow n).toArray 5)) := by
  obtain ⟨i0, hi, hz0, hz1, hz2⟩ := info_parts infoU8q
  have := run_make (P := Tryz.prog) w 22 5 i0 (.int .u8 0) Tryz.underlying22 hi hz0 .i64 .i64 (n : Int) (n : Int) (by omega) (by omega) (by rw [hz2]; omega) (by omega)
  rw [this, hz1]
  simp only [Int.toNat_natCast, Nat.mul_one]
  rw [← madeZ]; rfl

def rowN (xs : List Int) : List Value := xs.map (Value.int .u8)
theorem ownB_of_heap {w : World} {base g : Nat} {xs : List Int} {T : TypeId} (h : w.heap[g]? = some (.cells (rowN xs).toArray T (0, 0))) (hb : base ≤ g) (hl : xs.length ≤ maxLen) : OwnB w base g xs.length xs := by
  refine ⟨hb, lt_of_block h, Nat.le_refl _, hl, fun j hj => ?_, fun j hj => ?_⟩
  · simp [World.cell?, World.frozen?, h, rowN, hj]
  · simp [World.cell?, h, rowN, hj]
theorem bytesRowN (t : ByteArray) : Go.Lib.byteCells t.data.toList = rowN (bytesN t) := by simp [Go.Lib.byteCells, rowN, bytesN]
theorem pad_zero (t : ByteArray) (L : Nat) (h : t.size ≤ L) : splice (zrow L) 0 (Go.Lib.byteCells t.data.toList) = rowN (bytesN t ++ List.replicate (L - t.size) 0) := by
  have e : (Go.Lib.byteCells t.data.toList).length = t.size := by rw [Go.Lib.byteCells_length, ← size_eq]
  unfold splice
  rw [e, bytesRowN]
  simp [rowN, zrow]
theorem row_set (A B : List Int) (u v : Int) (n : Nat) (h : A.length = n) : (rowN (A ++ u :: B)).toArray.setIfInBounds n (.int .u8 v) = (rowN (A ++ v :: B)).toArray := by
  subst h
  unfold rowN
  rw [List.map_append, List.map_append, List.map_cons, List.map_cons, List.setIfInBounds_toArray, List.set_append_right _ _ (by simp)]
  simp
def padP (t : ByteArray) (i : Nat) : List Int := bytesN t ++ [128] ++ List.replicate (zN t.size + 8 - i) 0 ++ (be8To (8 * (t.size : Int)) 8).drop (8 - i)
theorem padP_eight (t : ByteArray) : padP t 8 = padN t := by simp [padP, padN]
theorem padP_start (t : ByteArray) (L : Nat) (hL : L = 64 * nB t) : (rowN (bytesN t ++ List.replicate (L - t.size) 0)).toArray.setIfInBounds t.size (.int .u8 128) = (rowN (padP t 0)).toArray := by
  have e : L - t.size = (zN t.size + 8) + 1 := by subst hL; unfold nB zN; omega
  rw [e, List.replicate_succ, row_set (bytesN t) _ 0 128 t.size (bytesN_len t)]
  congr 2
  unfold padP
  rw [List.drop_of_length_le (by rw [be8To_len]; omega)]
  simp
theorem padP_step (t : ByteArray) (L : Nat) (hL : L = 64 * nB t) (i : Nat) (hi : i < 8) (n : Nat) (hn : n + 1 + i = L) :
    (rowN (padP t i)).toArray.setIfInBounds n (.int .u8 ((t.size : Int) * 8 / 2 ^ (8 * i) % 256)) = (rowN (padP t (i + 1))).toArray := by
  have e1 : zN t.size + 8 - i = (zN t.size + 8 - (i + 1)) + 1 := by omega
  have e2 : (be8To (8 * (t.size : Int)) 8).drop (8 - (i + 1)) = ((t.size : Int) * 8 / 2 ^ (8 * i) % 256) :: (be8To (8 * (t.size : Int)) 8).drop (8 - i) := by
    rw [List.drop_eq_getElem_cons (by rw [be8To_len]; omega)]
    congr 1
    · simp only [be8To, List.getElem_map, List.getElem_range, bePart]
      rw [Int.mul_comm, show 56 - 8 * (8 - (i + 1)) = 8 * i by omega]
    · congr 1; omega
  have e3 : padP t i = (bytesN t ++ [128] ++ List.replicate (zN t.size + 8 - (i + 1)) 0) ++ 0 :: (be8To (8 * (t.size : Int)) 8).drop (8 - i) := by
    unfold padP; rw [e1, List.replicate_succ']; simp
  rw [e3, row_set _ _ 0 _ n (by
    simp only [List.length_append, bytesN_len, List.length_replicate, List.length_cons, List.length_nil]
    subst hL; unfold nB zN at hn; unfold zN; omega)]
  congr 2
  unfold padP; rw [e2]
theorem padP_len (t : ByteArray) (i : Nat) (hi : i ≤ 8) : (padP t i).length = 64 * nB t := by
  simp only [padP, List.length_append, bytesN_len, List.length_replicate, List.length_cons, List.length_nil, List.length_drop, be8To_len, nB]
  unfold zN; omega
theorem row_cellN {w : World} {g : Nat} {xs : List Int} {T : TypeId} (h : w.heap[g]? = some (.cells (rowN xs).toArray T (0, 0))) (j : Nat) (hj : j < xs.length) : (∃ v, w.cell? ⟨g, j, none⟩ = some v) ∧ w.frozen? ⟨g, j, none⟩ = false := by
  simp [World.cell?, World.frozen?, h, rowN, hj]

set_option maxHeartbeats 1000000 in
theorem padI_any (t : ByteArray) (w : World) (ht : t.size ≤ 1099511627776) :
    Calls Tryz.prog 193 #[.string t] w fun e w' => ∃ g, e = .returned (.slice (some ⟨g, 0, none⟩) (64 * nB t) (64 * nB t)) ∧ OwnB w' w.heap.size g (64 * nB t) (padN t) ∧ Below w.heap.size w w' := by
  obtain ⟨L, hL⟩ : ∃ L, L = 64 * nB t := ⟨_, rfl⟩
  have HL : Hid (L = 64 * nB t) := hL
  have hLb : L ≤ 1099511627900 := by subst hL; unfold nB zN; omega
  have hLs : t.size + 9 ≤ L := by subst hL; unfold nB zN; omega
  have HE : Hid ((t.size : Int) + 1 + 8 + -(((t.size : Int) + 1 + 8) % 64) % 64 = (L : Int)) := by show _ = _; subst hL; unfold nB zN; omega
  have hmk := run_make_u8q L (by omega)
  obtain ⟨w2, hcp, hrow2, hbel⟩ := copy_str (P := Tryz.prog) (w.alloc (.cells (zrow L).toArray 5)) 22 9 3 5 Tryz.underlying22 sizeU8q w.heap.size 0 L L t (zrow L) 5 (heap_alloc_new w _) (by omega) (by simp [zrow]; omega)
  have hb2 := hbel w.heap.size w ((Below.refl _ _).alloc (Nat.le_refl _) _) (Nat.le_refl _)
  rw [pad_zero t L (by omega)] at hrow2
  have hc2 := row_cellN hrow2 t.size (by rw [List.length_append, bytesN_len, List.length_replicate]; omega)
  have HRow : Hid ((w2.setCell ⟨w.heap.size, t.size, none⟩ (.int .u8 128)).heap[w.heap.size]? = some (.cells (rowN (padP t 0)).toArray 5 (0, 0))) := by show _ = _; rw [blk_set hrow2, padP_start t L hL]
  have HB2 : Hid (Below w.heap.size w (w2.setCell ⟨w.heap.size, t.size, none⟩ (.int .u8 128))) := hb2.setCell (Nat.le_refl _) _
  obtain ⟨⟨v0, hc2⟩, hf2⟩ := hc2
  clear hrow2 hbel hb2 hL
  rw [← HL.out]
  go_enter Tryz.func193, Tryz.ntmps193
  go_wp2
  rw [HE.out, hmk]
  simp only [Result.andThen]
  rw [Oper.upon_value]
  go_wp2
  go_loopw [28] (fun x wr => ∃ i : Nat, i ≤ 8 ∧ x = .int .i64 i ∧ Hid (wr.heap[w.heap.size]? = some (.cells (rowN (padP t i)).toArray 5 (0, 0))) ∧ Hid (Below w.heap.size w wr)) (fun x _ => 8 - (Go.RowKit.intOf x).toNat)
  case atStart => exact ⟨0, by omega, rfl, HRow, HB2⟩
  case round =>
    clear HRow HB2 hmk hcp hc2 hf2 HE
    obtain ⟨i, hi, rfl, hrow, hnx⟩ := hrel
    by_cases hlt : i < 8
    · obtain ⟨n, hn⟩ : ∃ n, n + 1 + i = L := ⟨L - 1 - i, by omega⟩
      obtain ⟨⟨v1, hc⟩, hf⟩ := row_cellN hrow.out n (by rw [padP_len t i hi, ← HL.out]; omega)
      have HR : Hid ((wr.setCell ⟨w.heap.size, n, none⟩ (.int .u8 ((t.size : Int) * 8 / 2 ^ (8 * i) % 256))).heap[w.heap.size]? = some (.cells (rowN (padP t (i + 1))).toArray 5 (0, 0))) := by show _ = _; rw [blk_set hrow.out, padP_step t L HL.out i hlt n hn]
      have HB : Hid (Below w.heap.size w (wr.setCell ⟨w.heap.size, n, none⟩ (.int .u8 ((t.size : Int) * 8 / 2 ^ (8 * i) % 256)))) := hnx.out.setCell (Nat.le_refl _) _
      have q1 : ((L : Int) - 1 - (i : Int)).toNat = n := by omega
      have q2 : (i : Int) ≤ (L : Int) - 1 := by omega
      have q3 : (L : Int) - 1 - (i : Int) < (L : Int) := by omega
      have q4 : IntKind.i64.wrap ((L : Int) - 1 - (i : Int)) = (L : Int) - 1 - (i : Int) := by rw [IntKind.wrap_i64]; omega
      have q5 : ((8 : Int) * (i : Int)).toNat = 8 * i := by omega
      have q6 : (0 : Int) ≤ (L : Int) - 1 - (i : Int) := by omega
      clear hn
      go_wp2
      go_roundw
      case rel => exact ⟨i + 1, by omega, by go_num, HR, HB⟩
      case measure => simp [Go.RowKit.intOf]; omega
    · have hi8 : i = 8 := by omega
      subst hi8
      rw [padP_eight] at hrow
      go_wp2
      go_ret
      refine ⟨w.heap.size, rfl, ?_, hnx.out⟩
      have := ownB_of_heap hrow.out (Nat.le_refl w.heap.size) (by rw [padN_len, ← HL.out]; unfold maxLen; omega)
      rw [padN_len, ← HL.out] at this
      exact this
end Go.Proofs.YtepmoihgemhjcaaGreatDoor
/-
  The program's digestOf: the digest of a text, 'digB', in new memory.
  Conditions: the text is at most 2^40 bytes long; the two tables lie as the program's text lays them.
-/
namespace Go.Proofs.YtepmoihgemhjcaaGreatDoor
open Go.RowKit Go.Lib
set_option linter.unusedVariables false
set_option maxRecDepth 20000

theorem padN_in (t : ByteArray) : ∀ x ∈ padN t, 0 ≤ x ∧ x ≤ 255 := by
  intro x hx
  simp only [padN, bytesN, be8To, bePart, List.mem_append, List.mem_map, List.mem_replicate, List.mem_cons, List.not_mem_nil, or_false] at hx
  rcases hx with ((⟨b, _, rfl⟩ | rfl) | ⟨_, rfl⟩) | ⟨i, _, rfl⟩
  · have := b.toNat_lt; omega
  · omega
  · omega
  · omega
theorem byteAt_nums (xs : List Int) (i : Nat) (hi : i < xs.length) (h : 0 ≤ xs[i] ∧ xs[i] ≤ 255) : byteAt (strOfNums xs) i = xs[i] := by
  unfold byteAt
  rw [strOfNums_data, List.getD_eq_getElem?_getD, List.getElem?_map, List.getElem?_eq_getElem hi]
  simp
  omega
theorem load_cells (w : World) (g : Nat) (l : List Int) (hl : l.length = 8) (h : ∀ i, i < 8 → w.cell? ⟨g, i, none⟩ = some (.int .u32 (l.getD i 0))) :
    (loadVar 197 ⟨g, 0, none⟩).run Tryz.prog w = .ok (.agg (u8Row l)) w := by
  have hc := run_loadCells_list (P := Tryz.prog) w ⟨g, 0, none⟩ (l.map (Value.int .u32)) (fun j v hv => by
    have hj : j < l.length := by
      rcases Nat.lt_or_ge j l.length with hh | hh
      · exact hh
      · rw [List.getElem?_eq_none (by simpa using hh)] at hv; cases hv
    have hadd : (⟨g, 0, none⟩ : Addr).add j = ⟨g, j, none⟩ := by unfold Addr.add; split <;> simp_all
    rw [hadd, h j (by omega)]
    simp [List.getElem?_eq_getElem hj] at hv
    simp [List.getD_eq_getElem?_getD, List.getElem?_eq_getElem hj, hv])
  rw [List.length_map, hl] at hc
  cases hq : Tryz.prog.info? 197 with
  | none => have := info8; simp [hq] at this
  | some i =>
    have hs : i.size = 8 := by have := info8; simpa [hq] using this
    simp [loadVar, sizeOf, typeInfo, isAgg, hq, run_underlying under8, hs, hc, u8Row]
theorem store8 (w3 : World) (row : Array Value) (h : row.size = 8) (h1 : row.all (·.oneCell') = true) :
    (storeVar 197 ⟨w3.heap.size, 0, none⟩ (.agg row)).run Tryz.prog (w3.alloc (.cells #[.int .u32 0, .int .u32 0, .int .u32 0, .int .u32 0, .int .u32 0, .int .u32 0, .int .u32 0, .int .u32 0] 197)) = .ok () (w3.alloc (.cells row 197)) :=
  run_storeVar_new (P := Tryz.prog) w3 197 _ row (by rw [h]; exact info8) (by rw [h]; rfl) h1

theorem wpStill_load_row {P : Program} {w : World} {ops : Array Oper} {rest : List Oper} {o : Oper} {a : Act} {Q : Act → Prop} (hgd : o.guard = none) (t : TypeId) (x : Operand)
    (ho : o.op = .load t x) (g : Addr) (v : Value) (hx : a.eval x = .pointer (some g)) (hl : (loadVar t g).run P w = .ok v w)
    (h : wpStill P ops w Q rest (a.put o.dst v)) : wpStill P ops w Q (o :: rest) a :=
  wpStill_step fun K hK => by
    have hw : Region.wanted o (yielded ops a.tmps) = true := by simp [Region.wanted, hgd]
    rw [if_pos hw]
    unfold Oper.still execOp
    simp only [ho, hx, Instr.loadAt, Instr.sureAddr, Sem.run_bind, Sem.run_pure, Result.andThen_ok, hl]
    rw [Oper.stillUpon_value]
    exact hK _ h
theorem idxR (l : List Int) (hl : l.length = 8) (k : Nat) (hk : k < 8) (w : World) : (Instr.index 197 (.agg (u8Row l)) (.int .i64 (k : Int))).run Tryz.prog w = .ok (.int .u32 (l.getD k 0)) w := by
  match l, hl with
  | [a, b, c, d, e, f, g, h], _ => exact idx8 ⟨a, b, c, d, e, f, g, h⟩ k hk w
theorem run_make_32 (w : World) : (Instr.makeSlice 22 (.int .i64 0) (.int .i64 32)).run Tryz.prog w = .ok (.slice (some ⟨w.heap.size, 0, none⟩) 0 32) (w.alloc (.cells (zrow 32).toArray 5)) := by
  obtain ⟨i0, hi, hz0, hz1, hz2⟩ := info_parts infoU8q
  have := run_make (P := Tryz.prog) w 22 5 i0 (.int .u8 0) Tryz.underlying22 hi hz0 .i64 .i64 0 32 (by omega) (by omega) (by rw [hz2]; omega) (by omega)
  rw [this, hz1]
  rw [show (Value.int .u8 0).cells = #[.int .u8 0] from rfl, show Int.toNat 32 * 1 = 32 from rfl, madeZ]; rfl
theorem four4_eqI {y : Int} (h0 : 0 ≤ y) (h1 : y ≤ 4294967295) : four4 y = [y / 16777216, y / 65536 % 256, y / 256 % 256, y % 256] := by unfold four4; rw [show y / 16777216 % 256 = y / 16777216 by omega]

theorem stS (w3 : World) (g : Nat) (l l' : List Int) (h : w3.heap[g]? = some (.cells (u8Row l) 197 (0, 0))) (hl : l.length = 8) (hl' : l'.length = 8) :
    Hid ((storeVar 197 ⟨g, 0, none⟩ (.agg (u8Row l'))).run Tryz.prog w3 = .ok () (w3.setRow g (u8Row l'))) :=
  run_storeVar_row (P := Tryz.prog) w3 g 197 197 _ (u8Row l') h (by rw [u8Row_size, hl']; exact info8) (by rw [u8Row_size, u8Row_size, hl, hl']) (u8Row_one _)
set_option maxHeartbeats 1000000 in
set_option maxRecDepth 20000 in
theorem digI_any (t : ByteArray) (w : World) (ht : t.size ≤ 1099511627776) (htab : Tabs w) :
    Calls Tryz.prog 152 #[.string t] w fun e w' => e = .returned (.string (digB t)) ∧ Below w.heap.size w w' := by
  have HT : Hid (Tabs w) := htab
  clear htab
  have X0 : Hid ((loadVar 197 ⟨0, 0, none⟩).run Tryz.prog w = .ok (.agg (u8Row startN)) w) := load_cells w _ startN rfl HT.out.2.2
  have X1 := store8 w (u8Row startN) rfl (u8Row_one _)
  obtain ⟨W1, hW1⟩ : ∃ W1, W1 = w.alloc (.cells (u8Row startN) 197) := ⟨_, rfl⟩
  rw [← hW1] at X1
  have X2 : Hid _ := X1
  clear X1
  have R1 : Hid (W1.heap[w.heap.size]? = some (.cells (u8Row startN) 197 (0, 0))) := by show _ = _; rw [hW1]; exact heap_alloc_new w _
  have B1 : Hid (Below w.heap.size w W1) := by show Below _ _ _; rw [hW1]; exact (Below.refl _ _).alloc (Nat.le_refl _) _
  have S1 : Hid (W1.heap.size = w.heap.size + 1) := by show _ = _; rw [hW1, size_allocN]
  clear hW1
  go_enter Tryz.func152, Tryz.ntmps152
  go_wp2_with (first
    | (go_at_call 193; refine (padI_any t _ ht).mono ?_; rintro e w2 ⟨gb, rfl, ho2, hb2⟩)
    | refine wpList_load_row rfl 197 _ rfl ⟨0, 0, none⟩ _ rfl X0.out ?_
    | refine wpList_store_row rfl 197 _ _ rfl rfl ⟨w.heap.size, 0, none⟩ _ W1 rfl rfl X2.out ?_)
  have Z2 : Hid (Below w.heap.size w w2) := B1.out.trans (hb2.mono B1.out.size)
  have R2 : Hid (w2.heap[w.heap.size]? = some (.cells (u8Row (stN (padN t) 0)) 197 (0, 0))) := (hb2.block _ (by have := S1.out; omega)).trans R1.out
  have O2 : Hid (OwnB w2 W1.heap.size gb (64 * nB t) (padN t)) := ho2
  have hnb : nB t ≤ 17179869200 := by unfold nB zN; omega
  clear hb2 ho2 X0 X2 R1 B1
  go_loopw [5] (fun x wr => ∃ k : Nat, k ≤ nB t ∧ x = .int .i64 (64 * (k : Int)) ∧ Hid (wr.heap[w.heap.size]? = some (.cells (u8Row (stN (padN t) k)) 197 (0, 0))) ∧ Hid (OwnB wr W1.heap.size gb (64 * nB t) (padN t)) ∧ Hid (Below w.heap.size w wr)) (fun x _ => nB t * 64 - (Go.RowKit.intOf x).toNat)
  case atStart => exact ⟨0, by omega, rfl, R2, O2, Z2⟩
  case round =>
    clear R2 O2 Z2
    obtain ⟨k, hk, rfl, hrow, hown, hnx⟩ := hrel
    have hGlt : w.heap.size < wr.heap.size := lt_of_block hrow.out
    by_cases hlt : k < nB t
    · have hl64 : ((padN t).drop (64 * k) |>.take 64).length = 64 := by simp [padN_len]; omega
      have hcb : ∀ i, i < 64 → wr.drew.cell? ⟨gb, 64 * k + i, none⟩ = some (.int .u8 (byteAt (strOfNums ((padN t).drop (64 * k) |>.take 64)) i)) := by
        intro i hi
        have e1 : (((padN t).drop (64 * k)).take 64)[i]'(by omega) = (padN t)[64 * k + i]'(by rw [padN_len]; omega) := by simp
        rw [byteAt_nums _ i (by omega) (by rw [e1]; exact padN_in t _ (List.getElem_mem _)), e1]
        exact hown.out.cells (64 * k + i) (by rw [padN_len]; omega)
      have h8 : (u8Row (stN (padN t) k)).size = 8 := by rw [u8Row_size, stN_len]
      have hld := run_loadVar_row (P := Tryz.prog) wr.drew w.heap.size 197 197 _ (0, 0) _ hrow.out under8 rfl (by rw [h8]; exact info8)
      have hcall := blockI_any wr.drew (stN (padN t) k) gb (64 * k) (64 * nB t - 64 * k) _ (by omega) hown.out.hi (HT.out.below hnx.out.drew HT.out.1) (stN_len _ _) (stN_in _ _) hcb
      have HE : Hid (blockN (stN (padN t) k) (strOfNums ((padN t).drop (64 * k) |>.take 64)) = stN (padN t) (k + 1)) := rfl
      rw [HE.out] at hcall
      have XL : Hid ((loadVar 197 ⟨w.heap.size, 0, none⟩).run Tryz.prog wr.drew = .ok (.agg (u8Row (stN (padN t) k))) wr.drew) := hld
      clear hld hcb hl64 h8 HE
      have q0 : IntKind.i64.wrap ((64 : Int) * k + 64) = (64 : Int) * k + 64 := by rw [IntKind.wrap_i64]; omega
      have q1 : (64 : Int) * k + 64 ≤ 64 * nB t := by omega
      have q2 : ((64 : Int) * k).toNat = 64 * k := by omega
      have q3 : ((64 : Int) * k + 64).toNat = 64 * k + 64 := by omega
      have q4 : ¬ nB t = k := by omega
      have q5 : (64 : Int) * k < 64 * nB t := by omega
      have q6 : ¬ 64 * nB t = 64 * k := by omega
      have q7 : (0 : Int) ≤ 64 * k + 64 := by omega
      have q8 : (0 : Int) ≤ 64 * k := by omega
      have q9 : (64 : Int) * k ≤ 64 * k + 64 := by omega
      go_wp2
      refine wp_region_still_tail 6 (by kernel_rfl) (by kernel_rfl) ?_
      simp only [List.take_succ_cons, List.take_zero, List.drop_succ_cons, List.drop_zero]
      refine wpStill_load_row rfl 197 _ rfl ⟨w.heap.size, 0, none⟩ _ rfl XL.out ?_
      repeat still_step
      refine wpStill_nil ?_
      go_wp2_with (first
        | (go_at_call 194; refine hcall.mono ?_; rintro e w3 ⟨rfl, hb3⟩; have X3 := stS w3 w.heap.size _ (stN (padN t) (k + 1)) ((hb3.block _ hGlt).trans hrow.out) (stN_len _ _) (stN_len _ _))
        | refine wpList_store_row rfl 197 _ _ rfl rfl ⟨w.heap.size, 0, none⟩ _ _ rfl rfl X3.out ?_)
      have hr3 : w3.heap[w.heap.size]? = some (.cells (u8Row (stN (padN t) k)) 197 (0, 0)) := (hb3.block _ hGlt).trans hrow.out
      have hR : Hid ((w3.setRow w.heap.size (u8Row (stN (padN t) (k + 1)))).heap[w.heap.size]? = some (.cells (u8Row (stN (padN t) (k + 1))) 197 (0, 0))) := setRow_heap w3 w.heap.size _ _ 197 _ hr3
      have hO : Hid (OwnB (w3.setRow w.heap.size (u8Row (stN (padN t) (k + 1)))) W1.heap.size gb (64 * nB t) (padN t)) :=
        (hown.out.drew.below hb3).carry (Nat.le_of_eq (by simp)) (setRow_other w3 w.heap.size gb _ (by have := hown.out.lo; have := S1.out; omega))
      have hN : Hid (Below w.heap.size w (w3.setRow w.heap.size (u8Row (stN (padN t) (k + 1))))) := below_setRow (hnx.out.drew.trans (hb3.mono (Nat.le_of_lt hGlt))) (Nat.le_refl _) _
      go_roundw
      case rel => exact ⟨k + 1, by omega, by go_num, hR, hO, hN⟩
      case measure => simp [Go.RowKit.intOf]; omega
    · have hkk : k = nB t := by omega
      subst hkk
      have HD : Hid (digB t = strOfNums (outN (stN (padN t) (nB t)) 8)) := rfl
      have hin := stN_in (padN t) (nB t)
      have hl8 := stN_len (padN t) (nB t)
      generalize stN (padN t) (nB t) = st at *
      have h8 : (u8Row st).size = 8 := by rw [u8Row_size, hl8]
      have HI : Hid (∀ i, i < 8 → 0 ≤ st.getD i 0 ∧ st.getD i 0 ≤ 4294967295) := hin
      have HL8 : Hid (st.length = 8) := hl8
      clear hin hl8 hown hk hlt
      rename World => W3
      have XL : Hid ((loadVar 197 ⟨w.heap.size, 0, none⟩).run Tryz.prog (W3.alloc (.cells (zrow 32).toArray 5)) = .ok (.agg (u8Row st)) (W3.alloc (.cells (zrow 32).toArray 5))) :=
        run_loadVar_row (P := Tryz.prog) (W3.alloc (.cells (zrow 32).toArray 5)) w.heap.size 197 197 _ (0, 0) _ ((Below.heap_alloc _ _ _ hGlt).trans hrow.out) under8 rfl (by rw [h8]; exact info8)
      clear h8
      obtain ⟨i0, hi, hz0, hz1, hz2⟩ := info_parts infoU8q
      have hmk := run_make_32
      go_wp2_with (refine wpList_load_row rfl 197 _ rfl ⟨w.heap.size, 0, none⟩ _ rfl XL.out ?_)
      clear XL
      go_loopw [27, 6] (fun x v wr => ∃ (k g cap : Nat), k ≤ 8 ∧ x = .int .i64 k ∧ v = .slice (some ⟨g, 0, none⟩) (4 * k) cap ∧ wr.ownsRow W3.heap.size 5 1 (.slice (some ⟨g, 0, none⟩) (4 * k) cap) (4 * k) ((outN st k).map (Value.int .u8)) ∧ Below W3.heap.size W3 wr) (fun x _ _ => 8 - (Go.RowKit.intOf x).toNat)
      case atStart => exact ⟨0, W3.heap.size, 32, by omega, rfl, rfl, World.ownsRow_made W3 (zrow 32).toArray 32 (Nat.le_refl _) (by unfold maxLen; omega) rfl, (Below.refl _ _).alloc (Nat.le_refl _) _⟩
      case round =>
        obtain ⟨k, g, cap, hk, rfl, rfl, hown, hnx4⟩ := hrel
        have hsz := hnx4.size
        by_cases hlt : k < 8
        · have hidx := idxR st HL8.out k hlt
          obtain ⟨y0, y1⟩ := HI.out k hlt
          have HT2 : Hid (outN st (k + 1) = outN st k ++ four4 (st.getD k 0)) := rfl
          generalize st.getD k 0 = y at *
          have j5 : (k : Int) < 8 := by omega
          go_wp2_with (at_builtin; refine wpList_append_lies _ rfl _ _ 22 rfl W3.heap.size 5 i0 (.int .u8 0) 1 1 Tryz.underlying22 hi hz0 hz1 hz2 rfl (by omega) _ (4 * k) _ rfl (hown.alloc _) ⟨wr.heap.size, 0, none⟩ 4 4 [.int .u8 (y / 16777216), .int .u8 (y / 65536 % 256), .int .u8 (y / 256 % 256), .int .u8 (y % 256)] rfl rfl (World.news_of_block (cs := #[.int .u8 (y / 16777216), .int .u8 (y / 65536 % 256), .int .u8 (y / 256 % 256), .int .u8 (y % 256)]) (t := 5) (fr := (0, 0)) (heap_alloc_new wr _)) (by simp [Value.oneCell']) (by omega) (by unfold maxLen; omega) (by omega) (by simp; omega) (wr.heap.size + 1) (by simp) ?_; intro g2 cap2 w2 hown2 hgrow hat hltg)
          have hb2 : Below W3.heap.size W3 w2 := (hnx4.alloc hsz _).grown hgrow (by rw [size_allocN]; omega) (fun j hj => (hown.lt j hj).1)
          have ho2 : w2.ownsRow W3.heap.size 5 1 (.slice (some ⟨g2, 0, none⟩) (4 * (k + 1)) cap2) (4 * (k + 1)) ((outN st (k + 1)).map (Value.int .u8)) := by rw [HT2.out, four4_eqI y0 y1, List.map_append]; exact hown2
          go_roundw
          case rel => exact ⟨k + 1, g2, cap2, by omega, by go_num, rfl, ho2, hb2⟩
          case measure => simp [Go.RowKit.intOf]; omega
        · have hk8 : k = 8 := by omega
          subst hk8
          have hconv := conv_b (ownB_of_row hown (outN_len st 8)) 0 32 cap (by rw [outN_len]; omega)
          rw [List.drop_zero, List.take_of_length_le (by rw [outN_len]; omega)] at hconv
          rw [← HD.out] at hconv
          go_wp2
          go_ret
          exact ⟨rfl, hnx.out.trans (hnx4.mono hnx.out.size)⟩
end Go.Proofs.YtepmoihgemhjcaaGreatDoor
/-
  What the program's digestOfAll answers: the digest of all texts, one behind the other.
  Conditions: the two tables of the digest lie as laid.
-/
namespace Go.Proofs.YtepmoihgemhjcaaGreatDoor
open Go.RowKit Go.Lib
set_option linter.unusedVariables false

set_option maxHeartbeats 1000000 in
theorem digAll_any (g c : Nat) (ss : List ByteArray) (w : World) (hT : Tabs w) (hb : BlkS w g ss) (hn : ss.length ≤ 1024) (hc : ss.length ≤ c) (htot : (cat ss).size ≤ 1099511627776) :
    Calls Tryz.prog 114 #[.slice (some ⟨g, 0, none⟩) ss.length c] w fun e w' => e = .returned (.string (digB (cat ss))) ∧ Below w.heap.size w w' := by
  have hJ := joined_any g 0 ss.length c ss w rfl hb.lt (by omega) hc (fun i h => by rw [Nat.zero_add]; exact (hb.cell i h).1) (by rw [← cat_size]; omega)
  have HT : Hid (Tabs w) := hT
  clear hT hb
  generalize cat ss = C at *
  go_enter Tryz.func114, Tryz.ntmps114
  go_wp2_with fail
  refine hJ.mono ?_
  rintro e w1 ⟨rfl, b1⟩
  go_wp2_with fail
  refine (digI_any C w1 htot (HT.out.below b1 HT.out.1)).mono ?_
  rintro e w2 ⟨rfl, b2⟩
  have b2 := chainB b1 b2
  go_wp2_with fail
  go_ret
  exact ⟨rfl, b2⟩
end Go.Proofs.YtepmoihgemhjcaaGreatDoor
/-
  What the program's timeRight answers.
-/
namespace Go.Proofs.YtepmoihgemhjcaaGreatDoor
open Go.RowKit Go.Lib
set_option linter.unusedVariables false
set_option maxRecDepth 20000

theorem timeRight_any (n : Int) (w : World) : Calls Tryz.prog 70 #[.int .i64 n] w fun e w' => e = .returned (.bool (timeB n)) ∧ w' = w := by
  unfold timeB
  by_cases h1 : 0 ≤ n
  · have d1 : decide (0 ≤ n) = true := decide_eq_true h1
    by_cases h2 : n ≤ 1000000
    · have d2 : decide (n ≤ 1000000) = true := decide_eq_true h2
      rw [decide_eq_true (And.intro h1 h2)]
      clear h1 h2
      go_enter Tryz.func70, Tryz.ntmps70
      go_wp2_with fail
      go_ret
      exact ⟨rfl, rfl⟩
    · have d2 : decide (n ≤ 1000000) = false := decide_eq_false h2
      rw [decide_eq_false (fun h => h2 h.2)]
      clear h1 h2
      go_enter Tryz.func70, Tryz.ntmps70
      go_wp2_with fail
      go_ret
      exact ⟨rfl, rfl⟩
  · have d1 : decide (0 ≤ n) = false := decide_eq_false h1
    rw [decide_eq_false (fun h => h1 h.1)]
    clear h1
    go_enter Tryz.func70, Tryz.ntmps70
    go_wp2_with fail
    go_ret
    exact ⟨rfl, rfl⟩
end Go.Proofs.YtepmoihgemhjcaaGreatDoor
/-
  What the program's goneField, presentField, timeRight, CommitOf and FieldRight answer; two fields compared as wholes.
  Conditions: the two tables of the digest lie as laid.
-/
namespace Go.Proofs.YtepmoihgemhjcaaGreatDoor
open Go.RowKit Go.Lib
set_option linter.unusedVariables false
set_option maxRecDepth 20000

/-- A field as a value. -/
def fv5 (n c s v : ByteArray) (g : Bool) : Value := .agg #[.string n, .string c, .string s, .string v, .bool g]
def eqF (n c s v : ByteArray) (g : Bool) (n' c' s' v' : ByteArray) (g' : Bool) : Bool := (n.toList == n'.toList) && ((c.toList == c'.toList) && ((s.toList == s'.toList) && ((v.toList == v'.toList) && (g == g'))))
theorem eql_fld (n c s v : ByteArray) (g : Bool) (n' c' s' v' : ByteArray) (g' : Bool) (w : World) : (binOp .eql 103 (.agg #[.string n, .string c, .string s, .string v, .bool g]) (.agg #[.string n', .string c', .string s', .string v', .bool g'])).run Tryz.prog w = .ok (.bool (eqF n c s v g n' c' s' v' g')) w := by
  unfold eqF
  rw [run_eql_struct, run_equalIn_agg w 9999 103 _ _ (by kernel_rfl) (by kernel_rfl)]
  have hF : Tryz.prog.fieldsOf 103 = Tryz.prog.fieldsOf 103 := rfl
  conv at hF => rhs; simp only [Program.fieldsOf, Tryz.underlying103]
  rw [hF]
  cases h1 : n.toList == n'.toList <;> cases h2 : c.toList == c'.toList <;> cases h3 : s.toList == s'.toList <;> cases h4 : v.toList == v'.toList <;> cases h5 : g == g' <;>
    simp [go_sem, Op.eqFields, h1, h2, h3, h4, h5]
theorem eqF_gone (n c s v : ByteArray) : eqF n c s v true n c ByteArray.empty ByteArray.empty true = (emB s && emB v) := by
  unfold eqF emB; simp
theorem eqF_there (n c s v C : ByteArray) : eqF n c s v false n C s v false = (c.toList == C.toList) := by
  unfold eqF; simp
theorem Tabs.to {w w' : World} (h : Tabs w) (hb : Below w.heap.size w w') : Tabs w' := h.below hb h.1
theorem goneField_any (n c : ByteArray) (w : World) : Calls Tryz.prog 131 #[.string n, .string c] w fun e w' => e = .returned (.agg #[.string n, .string c, .string ByteArray.empty, .string ByteArray.empty, .bool true]) ∧ Below w.heap.size w w' := by
  have B1 : Below w.heap.size w (w.alloc (.cells #[.string n, .string c, .string ByteArray.empty, .string ByteArray.empty, .bool true] 103)) := (Below.refl _ _).alloc (Nat.le_refl _) _
  go_enter Tryz.func131, Tryz.ntmps131
  go_wp2_with fail
  refine bodyPost_ret (v := .agg #[.string n, .string c, .string ByteArray.empty, .string ByteArray.empty, .bool true]) (by simp [results, Tryz.results131, go_sem]; rfl) rfl ?_
  exact ⟨rfl, B1⟩
theorem digFour_any (A B C : ByteArray) (w : World) (hT : Tabs w) (h1 : A.size ≤ 2000) (h2 : B.size ≤ 2000) (h3 : C.size ≤ 2000) :
    Calls Tryz.prog 114 #[.slice (some ⟨w.heap.size, 0, none⟩) 4 4] (w.alloc (.cells #[.string ⟨#[2]⟩, .string A, .string B, .string C] 9)) fun e w' => e = .returned (.string (digB (two1 ++ A ++ B ++ C))) ∧ Below w.heap.size w w' := by
  have hc : cat [two1, A, B, C] = two1 ++ A ++ B ++ C := by apply ByteArray.ext; simp [cat]
  have hb : BlkS (w.alloc (.cells #[.string ⟨#[2]⟩, .string A, .string B, .string C] 9)) w.heap.size [two1, A, B, C] := alloc_str w [two1, A, B, C]
  have b1 : Below w.heap.size w (w.alloc (.cells #[.string ⟨#[2]⟩, .string A, .string B, .string C] 9)) := (Below.refl _ _).alloc (Nat.le_refl _) _
  have h := digAll_any w.heap.size 4 [two1, A, B, C] _ (hT.to b1) hb (by simp) (by simp) (by rw [hc]; simp only [ByteArray.size_append]; show 1 + _ + _ + _ ≤ _; omega)
  rw [hc] at h
  refine Calls.mono h ?_
  rintro e w' ⟨he, hb'⟩
  exact ⟨he, chainB b1 hb'⟩
set_option maxHeartbeats 1000000 in
theorem implCommitOf_any (n s v : ByteArray) (w : World) (hT : Tabs w) (hn : n.size ≤ maxLen) (hs : s.size ≤ maxLen) (hv : v.size ≤ maxLen) : Calls Tryz.prog 217 #[.string n, .string s, .string v] w fun e w' => e = .returned (.string (cmB n s v)) ∧ Below w.heap.size w w' := by
  have hN := implNameRight_any n w hn
  have HTb : Hid (Tabs w) := hT
  clear hT
  unfold maxLen at hn hs hv
  cases hk : nrB n with
  | false =>
    have HV : Hid (cmB n s v = ByteArray.empty) := if_neg (by unfold cmOk; rw [hk]; exact Bool.false_ne_true)
    rw [hk] at hN
    rw [HV.out]
    go_enter Tryz.func217, Tryz.ntmps217
    go_wp2_with fail
    refine hN.mono ?_
    rintro e w1 ⟨rfl, rfl⟩
    go_wp2_with fail
    go_ret
    exact ⟨rfl, Below.refl _ _⟩
  | true =>
  rw [hk] at hN
  by_cases h1 : s.size < 1
  · have HV : Hid (cmB n s v = ByteArray.empty) := if_neg (by unfold cmOk; rw [decide_eq_false (by omega)]; simp)
    have d1 : decide ((s.size : Int) < 1) = true := decide_eq_true (by omega)
    rw [HV.out]
    go_enter Tryz.func217, Tryz.ntmps217
    go_wp2_with fail
    refine hN.mono ?_
    rintro e w1 ⟨rfl, rfl⟩
    go_wp2_with fail
    go_ret
    exact ⟨rfl, Below.refl _ _⟩
  have d1 : decide ((s.size : Int) < 1) = false := decide_eq_false (by omega)
  by_cases h2 : 8 < s.size
  · have HV : Hid (cmB n s v = ByteArray.empty) := if_neg (by unfold cmOk; rw [decide_eq_false (p := 1 ≤ s.size ∧ s.size ≤ 8) (by omega)]; simp)
    have d2 : decide (8 < (s.size : Int)) = true := decide_eq_true (by omega)
    rw [HV.out]
    go_enter Tryz.func217, Tryz.ntmps217
    go_wp2_with fail
    refine hN.mono ?_
    rintro e w1 ⟨rfl, rfl⟩
    go_wp2_with fail
    go_ret
    exact ⟨rfl, Below.refl _ _⟩
  have d2 : decide (8 < (s.size : Int)) = false := decide_eq_false (by omega)
  by_cases h3 : 16 < v.size
  · have HV : Hid (cmB n s v = ByteArray.empty) := if_neg (by unfold cmOk; rw [decide_eq_false (p := v.size ≤ 16) (by omega)]; simp)
    have d3 : decide (16 < (v.size : Int)) = true := decide_eq_true (by omega)
    rw [HV.out]
    go_enter Tryz.func217, Tryz.ntmps217
    go_wp2_with fail
    refine hN.mono ?_
    rintro e w1 ⟨rfl, rfl⟩
    go_wp2_with fail
    go_ret
    exact ⟨rfl, Below.refl _ _⟩
  have d3 : decide (16 < (v.size : Int)) = false := decide_eq_false (by omega)
  have HV : Hid (cmB n s v = digB (cmT n s v)) := if_pos (by unfold cmOk; rw [hk, decide_eq_true (p := 1 ≤ s.size ∧ s.size ≤ 8) (by omega), decide_eq_true (p := v.size ≤ 16) (by omega)]; rfl)
  have hn20 := nrB_le hk
  have t1 := putTextB_le n (by omega)
  have t2 := putTextB_le s (by omega)
  have t3 := putTextB_le v (by omega)
  have HN : Hid (∀ x, Calls Tryz.prog 104 #[.string n] x fun e w' => e = .returned (.string (putTextB n)) ∧ Below x.heap.size x w') := fun x => implPutText_any n x (by unfold maxLen; omega)
  have HS : Hid (∀ x, Calls Tryz.prog 104 #[.string s] x fun e w' => e = .returned (.string (putTextB s)) ∧ Below x.heap.size x w') := fun x => implPutText_any s x (by unfold maxLen; omega)
  have HVv : Hid (∀ x, Calls Tryz.prog 104 #[.string v] x fun e w' => e = .returned (.string (putTextB v)) ∧ Below x.heap.size x w') := fun x => implPutText_any v x (by unfold maxLen; omega)
  have HT : Hid (cmT n s v = two1 ++ putTextB n ++ putTextB s ++ putTextB v) := rfl
  have HD : Hid (∀ x, Tabs x → Calls Tryz.prog 114 #[.slice (some ⟨x.heap.size, 0, none⟩) 4 4] (x.alloc (.cells #[.string ⟨#[2]⟩, .string (putTextB n), .string (putTextB s), .string (putTextB v)] 9)) fun e w' => e = .returned (.string (digB (cmT n s v))) ∧ Below x.heap.size x w') := fun x hx => by
    rw [HT.out]
    exact digFour_any _ _ _ x hx (by omega) (by omega) (by omega)
  rw [HV.out]
  clear HT HV
  generalize digB (cmT n s v) = O at *
  generalize putTextB n = A at *
  generalize putTextB s = B at *
  generalize putTextB v = C at *
  clear hk h1 h2 h3 hn20 t1 t2 t3
  go_enter Tryz.func217, Tryz.ntmps217
  go_wp2_with fail
  refine hN.mono ?_
  rintro e w1 ⟨rfl, rfl⟩
  go_wp2_with fail
  refine (HN.out w1).mono ?_
  rintro e w2 ⟨rfl, b2⟩
  go_wp2_with fail
  refine (HS.out w2).mono ?_
  rintro e w3 ⟨rfl, b3⟩
  have b3 := chainB b2 b3
  go_wp2_with fail
  refine (HVv.out w3).mono ?_
  rintro e w4 ⟨rfl, b4⟩
  have b4 := chainB b3 b4
  go_wp2_with fail
  refine (HD.out w4 (HTb.out.to b4)).mono ?_
  rintro e w5 ⟨rfl, b5⟩
  have b5 := chainB b4 b5
  go_wp2_with fail
  go_ret
  exact ⟨rfl, b5⟩
set_option maxHeartbeats 1000000 in
theorem presentField_any (n s v : ByteArray) (w : World) (hT : Tabs w) (hn : n.size ≤ maxLen) (hs : s.size ≤ maxLen) (hv : v.size ≤ maxLen) : Calls Tryz.prog 204 #[.string n, .string s, .string v] w fun e w' => e = .returned (.agg #[.string n, .string (cmB n s v), .string s, .string v, .bool false]) ∧ Below w.heap.size w w' := by
  obtain ⟨W1, hW1⟩ : ∃ W1, W1 = w.alloc (.cells #[.string ⟨#[]⟩, .string ⟨#[]⟩, .string ⟨#[]⟩, .string ⟨#[]⟩, .bool false] 103) := ⟨_, rfl⟩
  have HW1 : Hid (W1 = w.alloc (.cells #[.string ⟨#[]⟩, .string ⟨#[]⟩, .string ⟨#[]⟩, .string ⟨#[]⟩, .bool false] 103)) := hW1
  have B1 : Hid (Below w.heap.size w W1) := by rw [hW1]; exact (Below.refl _ _).alloc (Nat.le_refl _) _
  have K1 : Hid (Bxs W1 w.heap.size 103 #[.string ⟨#[]⟩, .string ⟨#[]⟩, .string ⟨#[]⟩, .string ⟨#[]⟩, .bool false]) := by rw [hW1]; exact Bxs.new _ _ _
  have hC := implCommitOf_any n s v W1 (hT.to B1.out) hn hs hv
  have HP : Hid (∀ y x0 x1 x2 x3 x4, Below W1.heap.size W1 y → Below w.heap.size w (((((y.setCell ⟨w.heap.size, 0, none⟩ x0).setCell ⟨w.heap.size, 1, none⟩ x1).setCell ⟨w.heap.size, 2, none⟩ x2).setCell ⟨w.heap.size, 3, none⟩ x3).setCell ⟨w.heap.size, 4, none⟩ x4)) := fun y x0 x1 x2 x3 x4 hb => below_set5 (chainB B1.out hb) (Nat.le_refl _) x0 x1 x2 x3 x4
  clear hW1 hT
  generalize cmB n s v = O at *
  go_enter Tryz.func204, Tryz.ntmps204
  go_wp2_with fail
  rw [← HW1.out]
  refine hC.mono ?_
  rintro e y ⟨rfl, b1⟩
  have K2 := K1.out.below b1
  obtain ⟨k0, k1, k2, k3, k4⟩ := K2.five
  have f0 := K2.fr 0
  have f1 := K2.fr 1
  have f2 := K2.fr 2
  have f3 := K2.fr 3
  have f4 := K2.fr 4
  have HE := fun x0 x1 x2 x3 x4 => HP.out y x0 x1 x2 x3 x4 b1
  clear K2 HP b1
  go_wp2_with fail
  refine bodyPost_ret (v := .agg #[.string n, .string O, .string s, .string v, .bool false]) (by simp [results, Tryz.results204, go_sem, k0, k1, k2, k3, k4]) rfl ?_
  exact ⟨rfl, HE _ _ _ _ _⟩
/-- areDigests of one text, laid into a new row. -/
theorem areOne_any (c : ByteArray) (w : World) : Calls Tryz.prog 106 #[.slice (some ⟨w.heap.size, 0, none⟩) 1 1] (w.alloc (.cells #[.string c] 9)) fun e w' => e = .returned (.bool (decide (c.size = 32))) ∧ Below w.heap.size w w' := by
  have hb : BlkS (w.alloc (.cells #[.string c] 9)) w.heap.size [c] := alloc_str w [c]
  have b1 : Below w.heap.size w (w.alloc (.cells #[.string c] 9)) := (Below.refl _ _).alloc (Nat.le_refl _) _
  have h := areD_any (some ⟨w.heap.size, 0, none⟩) 1 [c] _ hb.txt (by simp) (by simp)
  have e1 : wideB [c] = decide (c.size = 32) := by
    unfold wideB
    by_cases h : c.size = 32
    · rw [decide_eq_true h]; simp [h]
    · rw [decide_eq_false h]; simp [h]
  rw [e1] at h
  refine Calls.mono h ?_
  rintro e w' ⟨he, rfl⟩
  exact ⟨he, b1⟩
set_option maxHeartbeats 2000000 in
theorem implFieldRight_any (f : Fld) (w : World) (hT : Tabs w) (h1 : f.n.size ≤ maxLen) (h2 : f.c.size ≤ maxLen) (h3 : f.s.size ≤ maxLen) (h4 : f.v.size ≤ maxLen) : Calls Tryz.prog 178 #[.agg #[.string f.n, .string f.c, .string f.s, .string f.v, .bool f.g]] w fun e w' => e = .returned (.bool (fdB f)) ∧ Below w.heap.size w w' := by
  obtain ⟨n, c, s, v, g⟩ := f
  show Calls Tryz.prog 178 #[.agg #[.string n, .string c, .string s, .string v, .bool g]] w _
  have h1 : n.size ≤ maxLen := h1
  have h2 : c.size ≤ maxLen := h2
  have h3 : s.size ≤ maxLen := h3
  have h4 : v.size ≤ maxLen := h4
  obtain ⟨W1, hW1⟩ : ∃ W1, W1 = w.alloc (.cells #[.string n, .string c, .string s, .string v, .bool g] 103) := ⟨_, rfl⟩
  have HW1 : Hid (W1 = w.alloc (.cells #[.string n, .string c, .string s, .string v, .bool g] 103)) := hW1
  have B1 : Hid (Below w.heap.size w W1) := by rw [hW1]; exact (Below.refl _ _).alloc (Nat.le_refl _) _
  have K1 : Hid (Bxs W1 w.heap.size 103 #[.string n, .string c, .string s, .string v, .bool g]) := by rw [hW1]; exact Bxs.new _ _ _
  have HTb : Hid (Tabs W1) := hT.to B1.out
  have hN := implNameRight_any n W1 h1
  have hA := areOne_any c W1
  have HG : Hid (∀ x, Calls Tryz.prog 131 #[.string n, .string c] x fun e w' => e = .returned (.agg #[.string n, .string c, .string ByteArray.empty, .string ByteArray.empty, .bool true]) ∧ Below x.heap.size x w') := fun x => goneField_any n c x
  have HC : Hid (∀ x, Tabs x → Calls Tryz.prog 204 #[.string n, .string s, .string v] x fun e w' => e = .returned (.agg #[.string n, .string (cmB n s v), .string s, .string v, .bool false]) ∧ Below x.heap.size x w') := fun x hx => presentField_any n s v x hx h1 h3 h4
  have HF : Hid (fdB ⟨n, c, s, v, g⟩ = (nrB n && (decide (c.size = 32) && (if g = true then emB s && emB v else c.toList == (cmB n s v).toList)))) := rfl
  have HX : Hid (∀ x, Below W1.heap.size W1 x → x.cell? ⟨w.heap.size, 0, none⟩ = some (.string n) ∧ x.cell? ⟨w.heap.size, 1, none⟩ = some (.string c) ∧ x.cell? ⟨w.heap.size, 2, none⟩ = some (.string s) ∧ x.cell? ⟨w.heap.size, 3, none⟩ = some (.string v) ∧ x.cell? ⟨w.heap.size, 4, none⟩ = some (.bool g)) := fun x hb => ⟨(K1.out.below hb).cell 0, (K1.out.below hb).cell 1, (K1.out.below hb).cell 2, (K1.out.below hb).cell 3, (K1.out.below hb).cell 4⟩
  obtain ⟨x0, x1, x2, x3, x4⟩ := HX.out W1 (Below.refl _ _)
  have y0 := x0
  rw [hW1] at y0
  unfold maxLen at h1 h2 h3 h4
  clear hW1 hT
  rw [HF.out]
  cases hk : nrB n with
  | false =>
    rw [hk] at hN
    rw [Bool.false_and]
    go_enter Tryz.func178, Tryz.ntmps178
    go_wp2_with fail
    rw [← HW1.out]
    refine hN.mono ?_
    rintro e w1 ⟨rfl, rfl⟩
    go_wp2_with fail
    go_ret
    exact ⟨rfl, B1.out⟩
  | true =>
  rw [hk] at hN
  rw [Bool.true_and]
  generalize decide (c.size = 32) = bc at *
  cases bc with
  | false =>
    rw [Bool.false_and]
    go_enter Tryz.func178, Tryz.ntmps178
    go_wp2_with fail
    rw [← HW1.out]
    refine hN.mono ?_
    rintro e w1 ⟨rfl, rfl⟩
    go_wp2_with fail
    refine hA.mono ?_
    rintro e w2 ⟨rfl, b2⟩
    go_wp2_with fail
    go_ret
    exact ⟨rfl, chainB B1.out b2⟩
  | true =>
  rw [Bool.true_and]
  cases g with
  | true =>
    rw [if_pos rfl]
    have EQ : ∀ w, (binOp .eql 103 (.agg #[.string n, .string c, .string s, .string v, .bool true]) (.agg #[.string n, .string c, .string ByteArray.empty, .string ByteArray.empty, .bool true])).run Tryz.prog w = .ok (.bool (emB s && emB v)) w := fun w => by rw [eql_fld, eqF_gone]
    generalize (emB s && emB v) = R at *
    go_enter Tryz.func178, Tryz.ntmps178
    go_wp2_with fail
    rw [← HW1.out]
    refine hN.mono ?_
    rintro e w1 ⟨rfl, rfl⟩
    go_wp2_with fail
    refine hA.mono ?_
    rintro e w2 ⟨rfl, b2⟩
    clear x0 x1 x2 x3 x4 y0
    obtain ⟨x0, x1, x2, x3, x4⟩ := HX.out w2 b2
    have BR : Hid (Below w1.heap.size w1 w2.drew) := b2.drew
    go_wp2_with fail
    go_region_held3 (fun w' => w'.cell? ⟨w.heap.size, 0, none⟩ = some (.string n) ∧ w'.cell? ⟨w.heap.size, 1, none⟩ = some (.string c) ∧ w'.cell? ⟨w.heap.size, 2, none⟩ = some (.string s) ∧ w'.cell? ⟨w.heap.size, 3, none⟩ = some (.string v) ∧ w'.cell? ⟨w.heap.size, 4, none⟩ = some (.bool true)) ((first | exact HX.out _ BR.out | exact HX.out _ z1)) (first
      | (go_at_call 131; with_reducible refine (HG.out _).mono ?_; rintro e x9 ⟨rfl, z0⟩; have z1 : Below w1.heap.size w1 x9 := chainB BR.out z0))
    all_goals
      go_wp2_with fail
      go_ret
      exact ⟨rfl, chainB B1.out z1⟩
  | false =>
    rw [if_neg (by exact Bool.false_ne_true)]
    obtain ⟨C, hC⟩ : ∃ C, C = cmB n s v := ⟨_, rfl⟩
    rw [← hC] at HC ⊢
    clear hC HF
    have EQ : ∀ w, (binOp .eql 103 (.agg #[.string n, .string c, .string s, .string v, .bool false]) (.agg #[.string n, .string C, .string s, .string v, .bool false])).run Tryz.prog w = .ok (.bool (c.toList == C.toList)) w := fun w => by rw [eql_fld, eqF_there]
    generalize (c.toList == C.toList) = R at *
    go_enter Tryz.func178, Tryz.ntmps178
    go_wp2_with fail
    rw [← HW1.out]
    refine hN.mono ?_
    rintro e w1 ⟨rfl, rfl⟩
    go_wp2_with fail
    refine hA.mono ?_
    rintro e w2 ⟨rfl, b2⟩
    clear x0 x1 x2 x3 x4 y0
    obtain ⟨x0, x1, x2, x3, x4⟩ := HX.out w2 b2
    have BR : Hid (Below w1.heap.size w1 w2.drew) := b2.drew
    go_wp2_with fail
    go_region_held3 (fun w' => w'.cell? ⟨w.heap.size, 0, none⟩ = some (.string n) ∧ w'.cell? ⟨w.heap.size, 1, none⟩ = some (.string c) ∧ w'.cell? ⟨w.heap.size, 2, none⟩ = some (.string s) ∧ w'.cell? ⟨w.heap.size, 3, none⟩ = some (.string v) ∧ w'.cell? ⟨w.heap.size, 4, none⟩ = some (.bool false)) ((first | exact HX.out _ BR.out | exact HX.out _ z1)) (first
      | (go_at_call 204; with_reducible refine (HC.out _ (HTb.out.to BR.out)).mono ?_; rintro e x9 ⟨rfl, z0⟩; have z1 : Below w1.heap.size w1 x9 := chainB BR.out z0))
    all_goals
      go_wp2_with fail
      go_ret
      exact ⟨rfl, chainB B1.out z1⟩
end Go.Proofs.YtepmoihgemhjcaaGreatDoor
