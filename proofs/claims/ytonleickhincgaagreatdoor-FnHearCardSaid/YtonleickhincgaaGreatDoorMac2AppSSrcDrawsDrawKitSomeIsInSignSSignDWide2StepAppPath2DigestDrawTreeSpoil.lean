/-
  Parts of one proof, laid as one text: Mac2, AppS, Src, Draws, DrawKit, Some, IsIn, SignS, SignD, Wide2, StepApp, Path2, Digest, DrawTree, Spoil; what each says stands at its head.
-/
import Derived.Test.YtonleickhincgaaGreatDoorRows
import Derived.Test.YtonleickhincgaaGreatDoorBytesDigMath
import Derived.Test.YtonleickhincgaaGreatDoorShwKOwnBPadIMacMathSgnBDigITurn2
import Derived.Test.YtonleickhincgaaGreatDoorAll2LeafNode
import Derived.Handy
import Derived.Test.YtonleickhincgaaGreatDoorTreeMathSlABxKSlBOwnS
import Derived.OwnWalk
import Derived.Deep.AppendLies
import Derived.WalkKit
import Derived.ProofKit
import Derived.Below
import Derived.Laws.Closers25b
import Derived.Deep.Draws
import Derived.WalkSpells
import Derived.RegionTactic
import Derived.BigRegion
import Derived.Deep.QuietTactic
import Derived.BigQuiet
import Derived.Laws.BytesArg
import Derived.Test.YtonleickhincgaaGreatDoorTimeBPutMathPutNumJoinedPutTextFldMath
import Derived.Test.YtonleickhincgaaGreatDoorPowerHalvesTreeTree2TreeHPathMathIncMathTakerTakePathConMathProofLawSignMath
import Derived.Deep.RegionLaw
/-
  The specification's l02Pad and l02Mac: 'padK', 'macB', in new memory.
-/
namespace Go.Proofs.YtonleickhincgaaGreatDoor
open Go.RowKit Go.Lib
set_option linter.unusedVariables false
set_option maxRecDepth 20000

theorem conv_row {w : World} {g : Nat} {xs : List Int} {T : TypeId} (h : w.heap[g]? = some (.cells (rowN xs).toArray T (0, 0))) (n c : Nat) (hn : xs.length = n) :
    (convert 22 9 (.slice (some ⟨g, 0, none⟩) n c)).run Tryz.prog w = .ok (.string (strOfNums xs)) w :=
  run_convert_bytes_arg (P := Tryz.prog) w 22 5 Tryz.underlying22 Tryz.underlying5 g 0 n c xs hn (fun i hi => by
    have : i < xs.length := by omega
    simp [World.cell?, h, rowN, List.getD_eq_getElem?_getD, this]) 9 Tryz.underlying9

theorem run_make_64 (w : World) : (Instr.makeSlice 22 (.int .i64 64) (.int .i64 64)).run Tryz.prog w = .ok (.slice (some ⟨w.heap.size, 0, none⟩) 64 64) (w.alloc (.cells (zrow 64).toArray 5)) := run_make_u8q 64 (by omega) w
set_option maxHeartbeats 1000000 in
theorem specPad_any (key : ByteArray) (m : Int) (w : World) (hk : key.size ≤ 64) (m0 : 0 ≤ m) (m1 : m ≤ 255) :
    Calls Tryz.prog 194 #[.string key, .int .u8 m] w fun e w' => e = .returned (.string (padK key m)) ∧ Below w.heap.size w w' := by
  have hmk := run_make_64
  obtain ⟨w2, hcp, hrow2, hbel⟩ := copy_str (P := Tryz.prog) (w.alloc (.cells (zrow 64).toArray 5)) 22 9 3 5 Tryz.underlying22 sizeU8q w.heap.size 0 64 64 key (zrow 64) 5 (heap_alloc_new w _) (by omega) (by simp [zrow]; omega)
  have HB2 : Hid (Below w.heap.size w w2) := hbel w.heap.size w ((Below.refl _ _).alloc (Nat.le_refl _) _) (Nat.le_refl _)
  rw [pad_zero key 64 hk, kPart_zero key m hk] at hrow2
  have HR2 : Hid (w2.heap[w.heap.size]? = some (.cells (rowN (kPart key m 0)).toArray 5 (0, 0))) := hrow2
  have HP : Hid (padK key m = strOfNums (kPart key m 64)) := rfl
  clear hrow2 hbel
  go_enter Tryz.func194, Tryz.ntmps194
  go_wp2
  go_loopw [6] (fun x wr => ∃ k : Nat, k ≤ 64 ∧ x = .int .i64 k ∧ Hid (wr.heap[w.heap.size]? = some (.cells (rowN (kPart key m k)).toArray 5 (0, 0))) ∧ Hid (Below w.heap.size w wr)) (fun x _ => 64 - (Go.RowKit.intOf x).toNat)
  case atStart => exact ⟨0, by omega, rfl, HR2, HB2⟩
  case round =>
    clear HR2 HB2 hmk hcp
    obtain ⟨k, hk2, rfl, hrow, hnx⟩ := hrel
    by_cases hlt : k < 64
    · obtain ⟨hc, hf⟩ := kRow_cell hrow.out hlt
      have hbd := byteAt_bd key k
      have hset := kPart_set key m k hlt
      have H0 : ∀ x, x = byteAt key k → (wr.setCell ⟨w.heap.size, k, none⟩ (.int .u8 (bits .xor .u8 x m))).heap[w.heap.size]? = some (.cells (rowN (kPart key m (k + 1))).toArray 5 (0, 0)) := by
        rintro x rfl; rw [blk_set hrow.out, hset]
      have H1 := H0 _ rfl
      clear H0 hset
      generalize byteAt key k = c at *
      have HR : Hid ((wr.setCell ⟨w.heap.size, k, none⟩ (.int .u8 (bits .xor .u8 c m))).heap[w.heap.size]? = some (.cells (rowN (kPart key m (k + 1))).toArray 5 (0, 0))) := H1
      have HB : Hid (Below w.heap.size w (wr.setCell ⟨w.heap.size, k, none⟩ (.int .u8 (bits .xor .u8 c m)))) := hnx.out.setCell (Nat.le_refl _) _
      clear H1
      have j : (k : Int) < 64 := by omega
      go_wp2
      go_roundw
      case rel => exact ⟨k + 1, by omega, by go_num, HR, HB⟩
      case measure => simp [Go.RowKit.intOf]; omega
    · have hk64 : k = 64 := by omega
      subst hk64
      have hconv := conv_row hrow.out 64 64 (kPart_len _ _ _)
      rw [← HP.out] at hconv
      go_wp2
      go_ret
      exact ⟨rfl, hnx.out⟩

def Gives (f : FuncId) (args : Array Value) (r : ByteArray) : Prop := ∀ w, Calls Tryz.prog f args w fun e w' => e = .returned (.string r) ∧ Below w.heap.size w w'
set_option maxHeartbeats 1000000 in
theorem specMac_core (key K P1 P2 text D1 D2 : ByteArray) (w : World) (hk : key.size ≤ 1099511627776) (hp1 : P1.size ≤ 64) (hp2 : P2.size ≤ 64) (hd1 : D1.size ≤ 32) (ht : text.size ≤ 1099511620000)
    (A1 : (64 < key.size ∧ Gives 52 #[.string key] K) ∨ (key.size ≤ 64 ∧ K = key))
    (A2 : Gives 194 #[.string K, .int .u8 92] P1) (A3 : Gives 194 #[.string K, .int .u8 54] P2)
    (A4 : Gives 52 #[.string (P2 ++ text)] D1) (A5 : Gives 52 #[.string (P1 ++ D1)] D2) :
    Calls Tryz.prog 166 #[.string key, .string text] w fun e w' => e = .returned (.string D2) ∧ Below w.heap.size w w' := by
  have H2 : Hid (Gives 194 #[.string K, .int .u8 92] P1) := A2
  have H3 : Hid (Gives 194 #[.string K, .int .u8 54] P2) := A3
  have H4 : Hid (Gives 52 #[.string (P2 ++ text)] D1) := A4
  have H5 : Hid (Gives 52 #[.string (P1 ++ D1)] D2) := A5
  clear A2 A3 A4 A5
  rcases A1 with ⟨h, A1⟩ | ⟨h, rfl⟩
  · have H1 : Hid (Gives 52 #[.string key] K) := A1
    clear A1
    go_enter Tryz.func166, Tryz.ntmps166
    go_wp2_with fail
    refine (H1.out _).mono ?_
    rintro e w1 ⟨rfl, b1⟩
    go_wp2_with fail
    refine (H2.out _).mono ?_
    rintro e w2 ⟨rfl, b2⟩
    go_wp2_with fail
    refine (H3.out _).mono ?_
    rintro e w3 ⟨rfl, b3⟩
    go_wp2_with fail
    refine (H4.out _).mono ?_
    rintro e w4 ⟨rfl, b4⟩
    go_wp2_with fail
    refine (H5.out _).mono ?_
    rintro e w5 ⟨rfl, b5⟩
    go_wp2_with fail
    go_ret
    exact ⟨rfl, b1.trans ((b2.trans ((b3.trans ((b4.trans (b5.mono b4.size)).mono b3.size)).mono b2.size)).mono b1.size)⟩
  · go_enter Tryz.func166, Tryz.ntmps166
    go_wp2_with fail
    refine (H2.out _).mono ?_
    rintro e w2 ⟨rfl, b2⟩
    go_wp2_with fail
    refine (H3.out _).mono ?_
    rintro e w3 ⟨rfl, b3⟩
    go_wp2_with fail
    refine (H4.out _).mono ?_
    rintro e w4 ⟨rfl, b4⟩
    go_wp2_with fail
    refine (H5.out _).mono ?_
    rintro e w5 ⟨rfl, b5⟩
    go_wp2_with fail
    go_ret
    exact ⟨rfl, b2.trans ((b3.trans ((b4.trans (b5.mono b4.size)).mono b3.size)).mono b2.size)⟩
theorem specMacB_any (key text : ByteArray) (w : World) (hk : key.size ≤ 1099511627776) (ht : text.size ≤ 1099511620000) :
    Calls Tryz.prog 166 #[.string key, .string text] w fun e w' => e = .returned (.string (macB key text)) ∧ Below w.heap.size w w' := by
  refine specMac_core key (keyK key) (padK (keyK key) 92) (padK (keyK key) 54) text (digB (padK (keyK key) 54 ++ text)) (macB key text) w hk (Nat.le_of_eq (padK_size _ _)) (Nat.le_of_eq (padK_size _ _)) (Nat.le_of_eq (digB_size _)) ht ?_
    (fun w => specPad_any _ 92 w (keyK_size key) (by omega) (by omega)) (fun w => specPad_any _ 54 w (keyK_size key) (by omega) (by omega))
    (fun w => specAll_any _ w (by rw [ByteArray.size_append, padK_size]; omega)) (fun w => specAll_any _ w (by rw [ByteArray.size_append, padK_size, digB_size]; omega))
  by_cases h : 64 < key.size
  · refine .inl ⟨h, ?_⟩
    rw [show keyK key = digB key from if_pos h]
    exact fun w => specAll_any key w hk
  · exact .inr ⟨by omega, if_neg h⟩
end Go.Proofs.YtonleickhincgaaGreatDoor
/-
  append of a slice of texts onto one that the call owns: what it owns then.
-/
namespace Go.Proofs.YtonleickhincgaaGreatDoor
open Go.RowKit Go.Lib
set_option linter.unusedVariables false

theorem run_append_len0 {P : Program} (w : World) (base : Nat) (t ty e : TypeId) (i : TypeInfo) (size : Nat) (ht : P.underlying t = some (.slice e)) (hi : P.info? e = some i)
    (v : Value) (n : Nat) (xs : List Value) (hown : w.ownsRow base e size v n xs) (p : Option Addr) (cap : Nat) :
    (Builtin.append_ #[t, t] ty #[v, .slice p 0 cap]).run P w = .ok v w := by
  rcases hown.2 with ⟨rfl, rfl⟩ | ⟨g, cap', cur, rfl, _, _, hnc, _⟩
  · cases p <;> simp [Builtin.append_, run_underlying ht, sizeOf, typeInfo, hi, Builtin.lenOf, Builtin.firstCells, loadCells, loadCellsFrom]
  · cases p <;> simp [Builtin.append_, run_underlying ht, sizeOf, typeInfo, hi, Builtin.lenOf, Builtin.firstCells, hnc, storeCells, loadCells, loadCellsFrom]
theorem app_texts (w : World) (base : Nat) (v : Value) (l : List ByteArray) (own : w.ownsRow base 9 1 v l.length (strRow l)) (p : Option Addr) (cap : Nat) (ss : List ByteArray) (hp : TxtAt w p ss) (hl : l.length + ss.length ≤ 1048576) (hbase : base ≤ w.heap.size) :
    ∃ v' w', (Builtin.append_ #[25, 25] 25 #[v, .slice p ss.length cap]).run Tryz.prog w = .ok v' w' ∧ w'.ownsRow base 9 1 v' (l ++ ss).length (strRow (l ++ ss)) ∧ w.grownBy w' v.ownBlock := by
  obtain ⟨i0, hi, hz0, hz1, hz2⟩ := info_parts infoStr
  by_cases h0 : ss.length = 0
  · obtain rfl : ss = [] := List.length_eq_zero_iff.1 h0
    refine ⟨v, w, run_append_len0 w base _ _ _ i0 1 Tryz.underlying25 hi v l.length (strRow l) own p cap, by simpa using own, World.grownBy.refl _ _⟩
  · obtain ⟨b, off, rfl, hb, _⟩ := hp 0 (by omega)
    obtain ⟨g, cap', w', h1, h2, h3, _⟩ := run_append_lies (P := Tryz.prog) w 25 25 base 9 i0 (.string ByteArray.empty) 1 16 Tryz.underlying25 hi hz0 hz1 hz2 rfl (by omega) v l.length (strRow l) own ⟨b, off, none⟩ ss.length cap (strRow ss) (by simp [strRow]) (fun j u hu => by
      have hj : j < ss.length := by
        rcases Nat.lt_or_ge j ss.length with q | q
        · exact q
        · rw [List.getElem?_eq_none (by simpa [strRow] using q)] at hu; cases hu
      have hadd : (⟨b, off, none⟩ : Addr).add j = ⟨b, off + j, none⟩ := by unfold Addr.add; split <;> simp_all
      rw [hadd, hp.at j hj]
      simp [strRow, hj] at hu
      rw [hu]) (fun u hu => by
      obtain ⟨x, _, rfl⟩ := List.mem_map.1 hu
      rfl) (by omega) (by unfold maxLen; omega) (by omega) hbase _ rfl
    refine ⟨_, w', h1, ?_, h3⟩
    have e1 : (l ++ ss).length = l.length + ss.length := by simp
    have e2 : strRow (l ++ ss) = strRow l ++ strRow ss := by simp [strRow]
    rw [e1, e2]; exact h2
end Go.Proofs.YtonleickhincgaaGreatDoor
/-
  What a draw's source is in memory, over any program: a block of four cells (the code's slice, a place, a number that is mixed, a size); what is written when one draws: that block alone.
-/
namespace Go.Proofs.YtonleickhincgaaGreatDoor
open Go.RowKit
set_option linter.unusedVariables false

theorem cell_set (w : World) (b o : Nat) (v : Value) : (w.setCell ⟨b, o, none⟩ v).cell? ⟨b, o, none⟩ = (w.cell? ⟨b, o, none⟩).map (fun _ => v) := by
  cases h : w.cell? ⟨b, o, none⟩ with
  | some u => rw [World.cell?_setCell_same _ _ _ h]; rfl
  | none =>
    simp only [Option.map_none]
    cases hb : w.heap[b]? with
    | none => simp [World.cell?, World.setCell, Array.getElem?_modify, hb]
    | some ob =>
      cases ob with
      | cells c t fr =>
        have hc : c[o]? = none := by simpa [World.cell?, hb] using h
        have hs : c.size ≤ o := by simpa using hc
        simp [World.cell?, World.setCell, Array.getElem?_modify, hb, hs]
      | map a b' => simp [World.cell?, World.setCell, Array.getElem?_modify, hb]
      | _ => simp [World.cell?, World.setCell, Array.getElem?_modify, hb]

def SrcRow (T : TypeId) (p : Nat) (sl : Value) (a m z : Int) (w : World) : Prop := w.heap[p]? = some (.cells #[sl, .int .i64 a, .int .u64 m, .int .i64 z] T (0, 0))

section
variable {T : TypeId} {p : Nat} {sl : Value} {a m z : Int} {w : World}
theorem SrcRow.cell (h : SrcRow T p sl a m z w) : w.cell? ⟨p, 0, none⟩ = some sl ∧ w.cell? ⟨p, 1, none⟩ = some (.int .i64 a) ∧ w.cell? ⟨p, 2, none⟩ = some (.int .u64 m) ∧ w.cell? ⟨p, 3, none⟩ = some (.int .i64 z) := by
  unfold SrcRow at h; simp [World.cell?, h]
theorem SrcRow.free (h : SrcRow T p sl a m z w) (i : Nat) : w.frozen? ⟨p, i, none⟩ = false := by
  unfold SrcRow at h; simp [World.frozen?, h]
theorem SrcRow.lt (h : SrcRow T p sl a m z w) : p < w.heap.size := by
  unfold SrcRow at h
  rcases Nat.lt_or_ge p w.heap.size with h' | h'
  · exact h'
  · rw [Array.getElem?_eq_none h'] at h; cases h
theorem SrcRow.set1 (h : SrcRow T p sl a m z w) (a' : Int) : SrcRow T p sl a' m z (w.setCell ⟨p, 1, none⟩ (.int .i64 a')) := by
  unfold SrcRow at *; simp [World.setCell, Array.getElem?_modify, h]
theorem SrcRow.set2 (h : SrcRow T p sl a m z w) (m' : Int) : SrcRow T p sl a m' z (w.setCell ⟨p, 2, none⟩ (.int .u64 m')) := by
  unfold SrcRow at *; simp [World.setCell, Array.getElem?_modify, h]
theorem SrcRow.set3 (h : SrcRow T p sl a m z w) (z' : Int) : SrcRow T p sl a m z' (w.setCell ⟨p, 3, none⟩ (.int .i64 z')) := by
  unfold SrcRow at *; simp [World.setCell, Array.getElem?_modify, h]
theorem SrcRow.drew (h : SrcRow T p sl a m z w) : SrcRow T p sl a m z w.drew := h
theorem SrcRow.drewN (h : SrcRow T p sl a m z w) (n : Nat) : SrcRow T p sl a m z (w.drewN n) := h
end

theorem touch_set {w w' : World} {p : Nat} (h : w.grownBy w' (some p)) (i : Nat) (v : Value) : w.grownBy (w'.setCell ⟨p, i, none⟩ v) (some p) :=
  ⟨h.os, h.tape, h.output, by simpa [World.setCell] using h.size, fun k hk hne => by
    rw [Below.heap_setCell _ _ _ _ (fun e => hne (by rw [e]))]; exact h.block k hk hne⟩
theorem touch_drew {w w' : World} {p : Nat} (h : w.grownBy w' (some p)) : w.grownBy w'.drew (some p) := ⟨h.os, h.tape, h.output, h.size, h.block⟩
theorem touch_drewN {w w' : World} {p n : Nat} (h : w.grownBy w' (some p)) : w.grownBy (w'.drewN n) (some p) := ⟨h.os, h.tape, h.output, h.size, h.block⟩
theorem touch_trans {w w1 w2 : World} {p : Nat} (h : w.grownBy w1 (some p)) (k : w1.grownBy w2 (some p)) : w.grownBy w2 (some p) :=
  ⟨k.os.trans h.os, k.tape.trans h.tape, k.output.trans h.output, Nat.le_trans h.size k.size, fun i hi hne => (k.block i (Nat.lt_of_lt_of_le hi h.size) hne).trans (h.block i hi hne)⟩
theorem touch_below {w w1 w2 : World} {p : Nat} (h : w.grownBy w1 (some p)) (k : Below w1.heap.size w1 w2) : w.grownBy w2 (some p) :=
  ⟨k.os.trans h.os, k.tape.trans h.tape, k.output.trans h.output, Nat.le_trans h.size k.size, fun i hi hne => (k.block i (Nat.lt_of_lt_of_le hi h.size)).trans (h.block i hi hne)⟩

/-- A source at block p (p ≥ B) over a code of 'len' bytes that lies below B. -/
def Src (T : TypeId) (B p : Nat) (a : Option Addr) (len cap : Nat) (w : World) : Prop :=
  B ≤ p ∧ len ≤ 1048576 ∧ (∃ (at0 : Nat) (mix sz : Int), at0 ≤ len ∧ 0 ≤ mix ∧ mix ≤ 18446744073709551615 ∧ (0 ≤ sz ∧ sz ≤ 12) ∧ SrcRow T p (.slice a len cap) at0 mix sz w) ∧
  (len = 0 ∨ ∃ xb xo, a = some ⟨xb, xo, none⟩ ∧ xb < B ∧ ∀ i, i < len → ∃ c : Int, 0 ≤ c ∧ c ≤ 255 ∧ w.cell? ⟨xb, xo + i, none⟩ = some (.int .u8 c))

theorem Src.lt {T : TypeId} {B p : Nat} {a : Option Addr} {len cap : Nat} {w : World} (h : Src T B p a len cap w) : p < w.heap.size := by
  obtain ⟨_, _, ⟨_, _, _, _, _, _, _, hr⟩, _⟩ := h; exact hr.lt

/-- The source behind a step that writes its block alone, its row given. -/
theorem Src.step {T : TypeId} {B p : Nat} {a : Option Addr} {len cap : Nat} {w w' : World} (h : Src T B p a len cap w) (hg : w.grownBy w' (some p))
    {at0 : Nat} {mix sz : Int} (h1 : at0 ≤ len) (h2 : 0 ≤ mix) (h3 : mix ≤ 18446744073709551615) (h4 : 0 ≤ sz ∧ sz ≤ 12) (hr : SrcRow T p (.slice a len cap) at0 mix sz w') : Src T B p a len cap w' := by
  have hlt := h.lt
  obtain ⟨hB, hl, _, hc⟩ := h
  refine ⟨hB, hl, ⟨at0, mix, sz, h1, h2, h3, h4, hr⟩, ?_⟩
  rcases hc with hc | ⟨xb, xo, ha, hx, hcell⟩
  · exact .inl hc
  · refine .inr ⟨xb, xo, ha, hx, fun i hi => ?_⟩
    obtain ⟨c, c0, c1, hci⟩ := hcell i hi
    exact ⟨c, c0, c1, hg.cell hci (by simp; omega)⟩

/-- The source behind a step that turns nothing that was there. -/
theorem Src.below {T : TypeId} {B p : Nat} {a : Option Addr} {len cap : Nat} {w w' : World} (h : Src T B p a len cap w) (hb : Below w.heap.size w w') : Src T B p a len cap w' := by
  have hlt := h.lt
  obtain ⟨hB, hl, ⟨at0, mix, sz, h1, h2, h3, h4, hr⟩, hc⟩ := h
  refine ⟨hB, hl, ⟨at0, mix, sz, h1, h2, h3, h4, by unfold SrcRow at *; rw [hb.block p hlt]; exact hr⟩, ?_⟩
  rcases hc with hc | ⟨xb, xo, ha, hx, hcell⟩
  · exact .inl hc
  · refine .inr ⟨xb, xo, ha, hx, fun i hi => ?_⟩
    obtain ⟨c, c0, c1, hci⟩ := hcell i hi
    exact ⟨c, c0, c1, by rw [hb.cell (p := ⟨xb, xo + i, none⟩) (by show xb < _; omega)]; exact hci⟩

theorem touch_own {w w1 w2 : World} {p : Nat} {row : Option Nat} (h : w.grownBy w1 (some p)) (k : w1.grownBy w2 row) (hr : ∀ j, row = some j → w.heap.size ≤ j) : w.grownBy w2 (some p) :=
  ⟨k.os.trans h.os, k.tape.trans h.tape, k.output.trans h.output, Nat.le_trans h.size k.size, fun i hi hne => (k.block i (Nat.lt_of_lt_of_le hi h.size) (fun e => by have := hr i e.symm; omega)).trans (h.block i hi hne)⟩

/-- The source behind a step that writes a block above it alone. -/
theorem Src.other {T : TypeId} {B p : Nat} {a : Option Addr} {len cap : Nat} {w w' : World} {row : Option Nat} (h : Src T B p a len cap w) (hg : w.grownBy w' row) (hr : ∀ j, row = some j → p < j) : Src T B p a len cap w' := by
  have hlt := h.lt
  obtain ⟨hB, hl, ⟨at0, mix, sz, h1, h2, h3, h4, hr1⟩, hc⟩ := h
  refine ⟨hB, hl, ⟨at0, mix, sz, h1, h2, h3, h4, by unfold SrcRow at *; rw [hg.block p hlt (fun e => by have := hr p e.symm; omega)]; exact hr1⟩, ?_⟩
  rcases hc with hc | ⟨xb, xo, ha, hx, hcell⟩
  · exact .inl hc
  · refine .inr ⟨xb, xo, ha, hx, fun i hi => ?_⟩
    obtain ⟨c, c0, c1, hci⟩ := hcell i hi
    exact ⟨c, c0, c1, hg.cell hci (fun e => by have := hr xb e.symm; omega)⟩

/-- The size that the source has. -/
theorem Src.size {T : TypeId} {B p : Nat} {a : Option Addr} {len cap : Nat} {w : World} (h : Src T B p a len cap w) : ∃ z : Int, 0 ≤ z ∧ z ≤ 12 ∧ w.cell? ⟨p, 3, none⟩ = some (.int .i64 z) := by
  obtain ⟨_, _, ⟨_, _, z, _, _, _, h4, hr⟩, _⟩ := h
  exact ⟨z, h4.1, h4.2, hr.cell.2.2.2⟩

theorem draw_bd (X most : Int) (hm : 1 < most) (hm2 : most ≤ 9223372036854775807) : 0 ≤ wrap64 ((IntKind.u64.wrap X).tmod most) ∧ wrap64 ((IntKind.u64.wrap X).tmod most) < most := by
  have h0 : 0 ≤ IntKind.u64.wrap X := by simp [IntKind.wrap, IntKind.bits, IntKind.signed]; omega
  rw [Int.tmod_eq_emod_of_nonneg h0]
  have h1 := Int.emod_nonneg (IntKind.u64.wrap X) (show most ≠ 0 by omega)
  have h2 := Int.emod_lt_of_pos (IntKind.u64.wrap X) (show 0 < most by omega)
  have h3 : wrap64 (IntKind.u64.wrap X % most) = IntKind.u64.wrap X % most := by unfold wrap64; omega
  rw [h3]; exact ⟨h1, h2⟩
end Go.Proofs.YtonleickhincgaaGreatDoor
/-
  What the draws' functions answer: n: a number from 0 to below most; one: a bool; bytes: a text of n bytes; edge: a number. The source's block alone is written; new memory apart nothing else turns.
  Conditions: the source is one ('Src').
-/
namespace Go.Proofs.YtonleickhincgaaGreatDoor
open Go.RowKit
set_option linter.unusedVariables false

/-- What n answers. -/
def nAns (most r : Int) : Prop := 0 ≤ r ∧ (1 < most → r < most) ∧ (most ≤ 1 → r = 0)

set_option maxHeartbeats 4000000 in
theorem n_any (B p : Nat) (a : Option Addr) (len cap : Nat) (most : Int) (w : World) (hs : Src 126 B p a len cap w) (hm2 : most ≤ 9223372036854775807) :
    Calls Tryz.prog 32 #[.pointer (some ⟨p, 0, none⟩), .int .i64 most] w fun e w' =>
      (∃ r, e = .returned (.int .i64 r) ∧ nAns most r) ∧ Src 126 B p a len cap w' ∧ w.grownBy w' (some p) := by
  by_cases hm : most ≤ 1
  · have HS : Hid (Src 126 B p a len cap w) := hs
    clear hs
    go_enter Tryz.func32, Tryz.ntmps32
    go_wp2
    go_ret
    exact ⟨⟨0, rfl, Int.le_refl _, fun h => by omega, fun _ => rfl⟩, HS.out, World.grownBy.refl _ _⟩
  have hm1 : 1 < most := by omega
  have HS : Hid (Src 126 B p a len cap w) := hs
  obtain ⟨hB, hlen, ⟨at0, mix, sz, hat, m0, m1, hz, hrow⟩, hcode⟩ := hs
  obtain ⟨h0, h1, h2, h3⟩ := hrow.cell
  have f1 := hrow.free 1
  have f2 := hrow.free 2
  have HR : Hid (SrcRow 126 p (.slice a len cap) at0 mix sz w) := hrow
  have hset := fun (W : World) (v : Value) => cell_set W p 2 v
  clear hrow h3
  by_cases hlt : at0 < len
  · rcases hcode with hc | ⟨xb, xo, ha, hxB, hcell⟩
    · omega
    subst ha
    obtain ⟨c, c0, c1, hx⟩ := hcell at0 hlt
    clear hcell
    have i1 : (at0 : Int) < (len : Int) := by omega
    have i0 : (0 : Int) ≤ (at0 : Int) := by omega
    go_enter Tryz.func32, Tryz.ntmps32
    go_wp2
    go_quiet (fail)
    go_wp2
    go_quiet (fail)
    go_wp2
    go_region
    go_wp2
    go_region
    go_wp2
    go_region
    go_wp2
    go_ret
    refine ⟨⟨_, rfl, (draw_bd _ most hm1 hm2).1, fun _ => (draw_bd _ most hm1 hm2).2, fun h => by omega⟩, HS.out.step ?_ (at0 := at0 + 1) (by omega) (bits_lo_u64 _ _ _) (bits_hi_u64 _ _ _) hz ((((((HR.out.drewN _).set1 _).set2 _).set2 _).set2 _).drew.drew.drew), ?_⟩
    all_goals exact touch_drew (touch_drew (touch_drew (touch_set (touch_set (touch_set (touch_set (touch_drewN (World.grownBy.refl _ _)) _ _) _ _) _ _) _ _)))
  · have i1 : ¬ (at0 : Int) < (len : Int) := by omega
    have d1 : decide ((at0 : Int) < (len : Int)) = false := by simp; omega
    clear hcode
    go_enter Tryz.func32, Tryz.ntmps32
    go_wp2
    go_quiet (fail)
    go_wp2
    go_region
    go_wp2
    go_region
    go_wp2
    go_region
    go_wp2
    go_ret
    refine ⟨⟨_, rfl, (draw_bd _ most hm1 hm2).1, fun _ => (draw_bd _ most hm1 hm2).2, fun h => by omega⟩, HS.out.step ?_ (at0 := at0) hat (bits_lo_u64 _ _ _) (bits_hi_u64 _ _ _) hz (((((HR.out.drewN _).set2 _).set2 _).set2 _).drew.drew), ?_⟩
    all_goals exact touch_drew (touch_drew (touch_set (touch_set (touch_set (touch_drewN (World.grownBy.refl _ _)) _ _) _ _) _ _))

set_option maxHeartbeats 1000000 in
theorem one_any (B p : Nat) (a : Option Addr) (len cap : Nat) (most : Int) (w : World) (hs : Src 126 B p a len cap w) (hm2 : most ≤ 9223372036854775807) :
    Calls Tryz.prog 34 #[.pointer (some ⟨p, 0, none⟩), .int .i64 most] w fun e w' =>
      (∃ r, e = .returned (.bool r)) ∧ Src 126 B p a len cap w' ∧ w.grownBy w' (some p) := by
  have HS : Hid (Src 126 B p a len cap w) := hs
  clear hs
  go_enter Tryz.func34, Tryz.ntmps34
  go_wp2_with fail
  refine (n_any B p a len cap _ _ HS.out hm2).mono ?_
  rintro e w1 ⟨⟨r, rfl, hr⟩, hs1, hg1⟩
  have H1 : Hid (Src 126 B p a len cap w1) := hs1
  clear hs1 hr
  go_wp2
  go_ret
  exact ⟨⟨_, rfl⟩, H1.out, hg1⟩

theorem infoU8d : (Tryz.prog.info? 5).map (fun i => (i.zero, i.size, i.bytes)) = some (some (.int .u8 0), 1, 1) := by kernel_rfl
theorem own_convD {w : World} {base g k cap : Nat} {xs : List Int} (h : w.ownsRow base 5 1 (.slice (some ⟨g, 0, none⟩) k cap) k (xs.map (Value.int .u8))) (hl : xs.length = k) :
    (convert 22 9 (.slice (some ⟨g, 0, none⟩) k cap)).run Tryz.prog w = .ok (.string (strOfNums xs)) w :=
  run_convert_bytes_arg (P := Tryz.prog) w 22 5 Tryz.underlying22 Tryz.underlying5 g 0 k cap xs hl (fun i hi => by
    rw [Nat.zero_add, h.cellAt i (by omega)]
    have : i < xs.length := by omega
    simp [List.getD, List.getElem?_eq_getElem this]) 9 Tryz.underlying9

set_option maxHeartbeats 2000000 in
theorem bytes_any (B p : Nat) (a : Option Addr) (len cap : Nat) (n : Int) (w : World) (hs : Src 126 B p a len cap w) (hn : n ≤ 1048576) :
    Calls Tryz.prog 175 #[.pointer (some ⟨p, 0, none⟩), .int .i64 n] w fun e w' =>
      (∃ t : ByteArray, e = .returned (.string t) ∧ t.size = n.toNat) ∧ Src 126 B p a len cap w' ∧ w.grownBy w' (some p) := by
  obtain ⟨i0, hi, hz0, hz1, hz2⟩ := info_parts infoU8d
  have hp := hs.lt
  have HS : Hid (Src 126 B p a len cap w) := hs
  clear hs
  go_enter Tryz.func175, Tryz.ntmps175
  go_wp2
  go_loopw [5, 6] (fun v i wr => ∃ (k : Nat) (pre : List Int) (g cp : Nat), i = .int .i64 k ∧ (k : Int) ≤ max n 0 ∧ v = .slice (some ⟨g, 0, none⟩) k cp ∧ Hid (pre.length = k) ∧ wr.ownsRow w.heap.size 5 1 (.slice (some ⟨g, 0, none⟩) k cp) k (pre.map (Value.int .u8)) ∧ Hid (Src 126 B p a len cap wr) ∧ w.grownBy wr (some p)) (fun _ i _ => (n - Go.RowKit.intOf i).toNat)
  case atStart =>
    exact ⟨0, [], w.heap.size, 0, rfl, by omega, rfl, rfl, World.ownsRow_made w #[] 0 (Nat.le_refl _) (by unfold maxLen; omega) rfl, HS.out.below ((Below.refl _ _).alloc (Nat.le_refl _) _), World.grownBy_alloc _ _ _⟩
  case round =>
    obtain ⟨k, pre, g, cp, rfl, hk, rfl, HL, hown, HS1, hg1⟩ := hrel
    have hsz : w.heap.size ≤ wr.heap.size := hg1.size
    by_cases hlt : (k : Int) < n
    · go_wp2_with fail
      refine (n_any B p a len cap 256 _ HS1.out (by omega)).mono ?_
      rintro e w1 ⟨⟨r, rfl, hr0, hr1, _⟩, hs1, hg2⟩
      have hr2 : r < 256 := hr1 (by omega)
      have hgl := (hown.lt g rfl).1
      have hown1 := hown.kept hg2 (.inr (by show some g ≠ some p; simp; omega))
      have H1 : Hid (Src 126 B p a len cap w1) := hs1
      have hg3 := touch_trans hg1 hg2
      have hsz1 : w.heap.size ≤ w1.heap.size := hg3.size
      clear hs1 hr1 HS1 hown hg1 hg2
      go_wp2_with (at_builtin; refine wpList_append_lies _ rfl _ _ 22 rfl w.heap.size 5 i0 (.int .u8 0) 1 1 Tryz.underlying22 hi hz0 hz1 hz2 rfl (by omega) _ k _ rfl (hown1.alloc _) ⟨w1.heap.size, 0, none⟩ 1 1 [.int .u8 r] rfl rfl (World.news_of_block (cs := #[.int .u8 r]) (t := 5) (fr := (0, 0)) (heap_alloc_new w1 _)) (by simp [Value.oneCell']) (by omega) (by unfold maxLen; omega) (by omega) (by simp; omega) (w1.heap.size + 1) (by simp) ?_; intro g2 cap2 w2 hown2 hgrow hat hltg)
      have hrow : ∀ j, (Value.slice (some ⟨g, 0, none⟩) k cp).ownBlock = some j → w.heap.size ≤ j := fun j hj => (hown1.lt j hj).1
      have hs2 : Src 126 B p a len cap w2 := (H1.out.below ((Below.refl _ _).alloc (Nat.le_refl _) _)).other hgrow (fun j hj => by have := hrow j hj; omega)
      have hg4 : w.grownBy w2 (some p) := touch_own (touch_below hg3 ((Below.refl _ _).alloc (Nat.le_refl _) _)) hgrow hrow
      have ho2 : w2.ownsRow w.heap.size 5 1 (.slice (some ⟨g2, 0, none⟩) (k + 1) cap2) (k + 1) ((pre ++ [r]).map (Value.int .u8)) := by rw [List.map_append]; exact hown2
      go_roundw
      case rel => exact ⟨k + 1, pre ++ [r], g2, cap2, by go_num, by omega, rfl, by show _ = _; rw [List.length_append, HL.out]; rfl, ho2, hs2, hg4⟩
      case measure => simp [Go.RowKit.intOf]; omega
    · have hconv := own_convD (xs := pre) hown HL.out
      have hkn : k = n.toNat := by omega
      have HK : Hid (k = n.toNat) := hkn
      clear hkn
      go_wp2
      go_ret
      exact ⟨⟨_, rfl, by rw [strOfNums_size, HL.out, HK.out]⟩, HS1.out, hg1⟩

theorem edge_at : ∀ k : Nat, k < 14 → ∃ v : Int, (#[.int .i64 0, .int .i64 1, .int .i64 (-1), .int .i64 2, .int .i64 1000, .int .i64 1001, .int .i64 2147483648, .int .i64 2147483647, .int .i64 (-2147483648), .int .i64 4611686018427387904, .int .i64 9223372036854775807, .int .i64 (-9223372036854775808), .int .i64 1000000, .int .i64 1000001] : Array Value)[k]? = some (.int .i64 v) ∧ -9223372036854775808 ≤ v ∧ v ≤ 9223372036854775807
  | 0, _ => ⟨_, rfl, by omega, by omega⟩
  | 1, _ => ⟨_, rfl, by omega, by omega⟩
  | 2, _ => ⟨_, rfl, by omega, by omega⟩
  | 3, _ => ⟨_, rfl, by omega, by omega⟩
  | 4, _ => ⟨_, rfl, by omega, by omega⟩
  | 5, _ => ⟨_, rfl, by omega, by omega⟩
  | 6, _ => ⟨_, rfl, by omega, by omega⟩
  | 7, _ => ⟨_, rfl, by omega, by omega⟩
  | 8, _ => ⟨_, rfl, by omega, by omega⟩
  | 9, _ => ⟨_, rfl, by omega, by omega⟩
  | 10, _ => ⟨_, rfl, by omega, by omega⟩
  | 11, _ => ⟨_, rfl, by omega, by omega⟩
  | 12, _ => ⟨_, rfl, by omega, by omega⟩
  | 13, _ => ⟨_, rfl, by omega, by omega⟩
  | k + 14, h => by omega

set_option maxHeartbeats 2000000 in
theorem edge_any (B p : Nat) (a : Option Addr) (len cap : Nat) (w : World) (hs : Src 126 B p a len cap w) :
    Calls Tryz.prog 90 #[.pointer (some ⟨p, 0, none⟩)] w fun e w' =>
      (∃ r, e = .returned (.int .i64 r) ∧ -9223372036854775808 ≤ r ∧ r ≤ 9223372036854775807) ∧ Src 126 B p a len cap w' ∧ w.grownBy w' (some p) := by
  have HS : Hid (Src 126 B p a len cap w) := hs
  have hp := hs.lt
  clear hs
  go_enter Tryz.func90, Tryz.ntmps90
  go_wp2_with fail
  refine (n_any B p a len cap 14 _ (HS.out.below ((Below.refl _ _).alloc (Nat.le_refl _) _)) (by omega)).mono ?_
  rintro e w1 ⟨⟨r, rfl, hr0, hr1, _⟩, hs1, hg1⟩
  have hr2 : r < 14 := hr1 (by omega)
  obtain ⟨k, rfl⟩ := Int.eq_ofNat_of_zero_le hr0
  obtain ⟨v, hv, v0, v1⟩ := edge_at k (by omega)
  have hcell := hg1.cell_far ⟨w.heap.size, k, none⟩ (by simp) (by simp; omega)
  rw [World.cell?_alloc_mark, hv] at hcell
  have H1 : Hid (Src 126 B p a len cap w1) := hs1
  have hg2 : w.grownBy w1 (some p) := touch_trans (World.grownBy_alloc _ _ _) hg1
  clear hs1 hr1 hg1 hv
  go_wp2_with fail
  go_ret
  exact ⟨⟨v, rfl, v0, v1⟩, H1.out, hg2⟩

theorem wrapU_bd (x : Int) : 0 ≤ IntKind.u64.wrap x ∧ IntKind.u64.wrap x ≤ 18446744073709551615 := by
  simp [IntKind.wrap, IntKind.bits, IntKind.signed]; omega

set_option maxHeartbeats 2000000 in
theorem source_any (B : Nat) (a : Option Addr) (len cap : Nat) (w : World) (hlen : len ≤ 1048576) (hB : B ≤ w.heap.size)
    (hcode : len = 0 ∨ ∃ xb xo, a = some ⟨xb, xo, none⟩ ∧ xb < B ∧ ∀ i, i < len → ∃ c : Int, 0 ≤ c ∧ c ≤ 255 ∧ w.cell? ⟨xb, xo + i, none⟩ = some (.int .u8 c)) :
    Calls Tryz.prog 27 #[.slice a len cap] w fun e w' =>
      e = .returned (.pointer (some ⟨w.heap.size, 0, none⟩)) ∧ Src 126 B w.heap.size a len cap w' ∧ Below w.heap.size w w' := by
  have HC : Hid (len = 0 ∨ ∃ xb xo, a = some ⟨xb, xo, none⟩ ∧ xb < B ∧ ∀ i, i < len → ∃ c : Int, 0 ≤ c ∧ c ≤ 255 ∧ w.cell? ⟨xb, xo + i, none⟩ = some (.int .u8 c)) := hcode
  clear hcode
  go_enter Tryz.func27, Tryz.ntmps27
  go_wp2
  go_loopw [4] (fun i wr => ∃ (k : Nat) (mix : Int), i = .int .i64 k ∧ k ≤ len ∧ k ≤ 64 ∧ 0 ≤ mix ∧ mix ≤ 18446744073709551615 ∧ Hid (SrcRow 126 w.heap.size (.slice a len cap) 0 mix 0 wr) ∧ Below w.heap.size w wr) (fun i _ => 64 - (Go.RowKit.intOf i).toNat)
  case atStart => exact ⟨0, 88172645463325252, rfl, Nat.zero_le _, by omega, by omega, by omega, (MapKept.heap_alloc w _).1, (Below.refl _ _).alloc (Nat.le_refl _) _⟩
  case round =>
    obtain ⟨k, mix, rfl, hk, hk64, m0, m1, HR, hnx⟩ := hrel
    obtain ⟨h0, h1, h2, h3⟩ := HR.out.cell
    have f2 := HR.out.free 2
    have f3 := HR.out.free 3
    have hsz : w.heap.size < wr.heap.size := HR.out.lt
    by_cases hlt : k < len ∧ k < 64
    · obtain ⟨hkl, hk6⟩ := hlt
      rcases HC.out with hc | ⟨xb, xo, ha, hxB, hcell⟩
      · omega
      obtain ⟨c, c0, c1, hx0⟩ := hcell k hkl
      have hx : wr.cell? ⟨xb, xo + k, none⟩ = some (.int .u8 c) := by rw [hnx.cell (p := ⟨xb, xo + k, none⟩) (by show xb < _; omega)]; exact hx0
      clear hcell hx0
      subst ha
      have i1 : (k : Int) < (len : Int) := by omega
      have i0 : (0 : Int) ≤ (k : Int) := by omega
      have d1 : decide ((k : Int) < (len : Int)) = true := by simp; omega
      go_wp2
      go_region
      go_wp2
      go_roundw
      case rel => exact ⟨k + 1, _, by go_num, by omega, by omega, (wrapU_bd _).1, (wrapU_bd _).2, (HR.out.set2 _).drew, (hnx.setCell (Nat.le_refl _) _).drew⟩
      case measure => simp [Go.RowKit.intOf]; omega
    · have HEnd : Hid (∀ w' z, 0 ≤ z ∧ z ≤ 12 → Below w.heap.size w w' → SrcRow 126 w.heap.size (.slice a len cap) 0 mix z w' → Src 126 B w.heap.size a len cap w') := fun w' z hz hb hr =>
        ⟨hB, hlen, ⟨0, mix, z, Nat.zero_le _, m0, m1, hz, hr⟩, by
          rcases HC.out with hc | ⟨xb, xo, ha, hxB, hcell⟩
          · exact .inl hc
          · refine .inr ⟨xb, xo, ha, hxB, fun i hi => ?_⟩
            obtain ⟨c, c0, c1, hci⟩ := hcell i hi
            exact ⟨c, c0, c1, by rw [hb.cell (p := ⟨xb, xo + i, none⟩) (by show xb < _; omega)]; exact hci⟩⟩
      have hset := fun (W : World) (v : Value) => cell_set W w.heap.size 3 v
      by_cases hkl : k < len
      · have d1 : decide ((k : Int) < (len : Int)) = true := by simp; omega
        have d2 : decide ((k : Int) < 64) = false := by simp; omega
        clear hlt
        by_cases hq : 12 < (len : Int) / 20
        · go_wp2
          go_ret
          exact ⟨rfl, HEnd.out _ _ (by omega) ((hnx.setCell (Nat.le_refl _) _).setCell (Nat.le_refl _) _) ((HR.out.set3 _).set3 _), (hnx.setCell (Nat.le_refl _) _).setCell (Nat.le_refl _) _⟩
        · go_wp2
          go_ret
          exact ⟨rfl, HEnd.out _ _ (by constructor <;> go_num) (hnx.setCell (Nat.le_refl _) _) (HR.out.set3 _), hnx.setCell (Nat.le_refl _) _⟩
      · have d1 : decide ((k : Int) < (len : Int)) = false := by simp; omega
        clear hlt
        by_cases hq : 12 < (len : Int) / 20
        · exfalso; omega
        · go_wp2
          go_ret
          exact ⟨rfl, HEnd.out _ _ (by constructor <;> go_num) (hnx.setCell (Nat.le_refl _) _) (HR.out.set3 _), hnx.setCell (Nat.le_refl _) _⟩
end Go.Proofs.YtonleickhincgaaGreatDoor
/-
  What all drawn laws share: a new row of zeros as a text; the code's bytes ('CodeAt'); what a step on a source of the call's own leaves.
-/
namespace Go.Proofs.YtonleickhincgaaGreatDoor
open Go.RowKit Go.Lib
set_option linter.unusedVariables false

theorem infoU8s : (Tryz.prog.info? 5).map (fun i => (i.zero, i.size, i.bytes)) = some (some (.int .u8 0), 1, 1) := by kernel_rfl
theorem run_make_u8s (n : Nat) (hn : n ≤ 281474976710656) (w : World) :
    (Instr.makeSlice 22 (.int .i64 (n : Int)) (.int .i64 (n : Int))).run Tryz.prog w = .ok (.slice (some ⟨w.heap.size, 0, none⟩) n n) (w.alloc (.cells (zrow n).toArray 5)) := by
  obtain ⟨i0, hi, hz0, hz1, hz2⟩ := info_parts infoU8s
  have := run_make (P := Tryz.prog) w 22 5 i0 (.int .u8 0) Tryz.underlying22 hi hz0 .i64 .i64 (n : Int) (n : Int) (by omega) (by omega) (by rw [hz2]; omega) (by omega)
  rw [this, hz1]
  simp only [Int.toNat_natCast, Nat.mul_one]
  rw [← madeZ]; rfl
theorem zconv (n : Nat) (w : World) :
    (convert 22 9 (.slice (some ⟨w.heap.size, 0, none⟩) n n)).run Tryz.prog (w.alloc (.cells (zrow n).toArray 5)) = .ok (.string (strOfNums (List.replicate n 0))) (w.alloc (.cells (zrow n).toArray 5)) :=
  run_convert_bytes_arg (P := Tryz.prog) _ 22 5 Tryz.underlying22 Tryz.underlying5 w.heap.size 0 n n (List.replicate n 0) (by simp) (fun i hi => by
    rw [World.cell?_alloc_mark]; simp [zrow, hi]) 9 Tryz.underlying9

/-- The code's bytes lie there, below B. -/
def CodeAt (B : Nat) (a : Option Addr) (len : Nat) (w : World) : Prop :=
  len = 0 ∨ ∃ xb xo, a = some ⟨xb, xo, none⟩ ∧ xb < B ∧ ∀ i, i < len → ∃ c : Int, 0 ≤ c ∧ c ≤ 255 ∧ w.cell? ⟨xb, xo + i, none⟩ = some (.int .u8 c)
theorem CodeAt.below {B : Nat} {a : Option Addr} {len : Nat} {w w' : World} (h : CodeAt B a len w) (hb : Below B w w') : CodeAt B a len w' := by
  rcases h with h | ⟨xb, xo, ha, hx, hc⟩
  · exact .inl h
  · refine .inr ⟨xb, xo, ha, hx, fun i hi => ?_⟩
    obtain ⟨c, c0, c1, hci⟩ := hc i hi
    exact ⟨c, c0, c1, by rw [hb.cell (p := ⟨xb, xo + i, none⟩) hx]; exact hci⟩
/-- What a step on a source of the call's own leaves. -/
theorem below_touch {w w1 w2 : World} {p : Nat} (h : Below w.heap.size w w1) (k : w1.grownBy w2 (some p)) (hp : w.heap.size ≤ p) : Below w.heap.size w w2 :=
  h.grown k h.size (fun j hj => by cases hj; exact hp)
theorem results_tmp5 {fn : Func} {t u v x y : Tmp} (h : fn.results = #[.tmp t, .tmp u, .tmp v, .tmp x, .tmp y]) (tmps : Array Value) (P : Program) (w : World) :
    (results fn tmps).run P w = .ok (.tuple #[tmps.getD t undef, tmps.getD u undef, tmps.getD v undef, tmps.getD x undef, tmps.getD y undef]) w := by
  simp [results, h]
theorem edge4 (a b r : Int) (a0 : -9223372036854775808 ≤ a) (a1 : a ≤ 9223372036854775807) (b0 : -9223372036854775808 ≤ b) (b1 : b ≤ 9223372036854775807) (r0 : -9223372036854775808 ≤ r) (r1 : r ≤ 9223372036854775807) : ∀ k : Nat, k < 4 → ∃ v : Int, (#[.int .i64 a, .int .i64 b, .int .i64 r, .int .i64 4611686018427387904] : Array Value)[k]? = some (.int .i64 v) ∧ -9223372036854775808 ≤ v ∧ v ≤ 9223372036854775807
  | 0, _ => ⟨_, rfl, a0, a1⟩
  | 1, _ => ⟨_, rfl, b0, b1⟩
  | 2, _ => ⟨_, rfl, r0, r1⟩
  | 3, _ => ⟨_, rfl, by omega, by omega⟩
  | k + 4, h => by omega
end Go.Proofs.YtonleickhincgaaGreatDoor
/-
  What l03Some draws: at most 30 texts of at most 101 bytes each, in a row that the call owns. The source's block alone is written.
  Conditions: the source is one ('Src').
-/
namespace Go.Proofs.YtonleickhincgaaGreatDoor
open Go.RowKit Go.Lib
set_option linter.unusedVariables false
set_option maxRecDepth 20000

theorem BlkS.touch {w w' : World} {g p : Nat} {l : List ByteArray} (h : BlkS w g l) (hg : w.grownBy w' (some p)) (hne : g ≠ p) : BlkS w' g l := by
  unfold BlkS at *; rw [hg.block g (lt_of_block h) (fun e => hne (by cases e; rfl))]; exact h
theorem append_size (s t : ByteArray) : (s ++ t).size = s.size + t.size := by simp

set_option maxHeartbeats 1000000 in
theorem pick_any (B p : Nat) (a : Option Addr) (len cap : Nat) (g : Nat) (ss : List ByteArray) (w : World) (hs : Src 126 B p a len cap w) (hb : BlkS w g ss) (hne : g ≠ p) (h0 : 0 < ss.length) (hn : ss.length ≤ 1048576) :
    Calls Tryz.prog 141 #[.pointer (some ⟨p, 0, none⟩), .slice (some ⟨g, 0, none⟩) ss.length ss.length] w fun e w' =>
      (∃ t ∈ ss, e = .returned (.string t)) ∧ Src 126 B p a len cap w' ∧ w.grownBy w' (some p) := by
  have HS : Hid (Src 126 B p a len cap w) := hs
  have HB : Hid (BlkS w g ss) := hb
  clear hs hb
  go_enter Tryz.func141, Tryz.ntmps141
  go_wp2_with fail
  refine (n_any B p a len cap _ _ HS.out (by omega)).mono ?_
  rintro e w1 ⟨⟨r, rfl, hr0, hr1, hr2⟩, hs1, hg1⟩
  obtain ⟨k, rfl⟩ := Int.eq_ofNat_of_zero_le hr0
  have hk : k < ss.length := by
    by_cases h1 : (1 : Int) < ss.length
    · have := hr1 h1; omega
    · have := hr2 (by omega); omega
  have hc := ((HB.out.touch hg1 hne).cell k hk).1
  have HM : Hid (ss[k] ∈ ss) := List.getElem_mem hk
  have H1 : Hid (Src 126 B p a len cap w1) := hs1
  clear hs1 hr1 hr2
  generalize ss[k] = t at *
  have i1 : (k : Int) < ss.length := by omega
  go_wp2
  go_ret
  exact ⟨⟨t, HM.out, rfl⟩, H1.out, hg1⟩

theorem app_one (w : World) (base : Nat) (v : Value) (l : List ByteArray) (own : w.ownsRow base 9 1 v l.length (strRow l)) (T : ByteArray) (hl : l.length + 1 ≤ 1048576) (hbase : base ≤ w.heap.size) :
    ∃ v' w', (Builtin.append_ #[25, 25] 25 #[v, .slice (some ⟨w.heap.size, 0, none⟩) 1 1]).run Tryz.prog (w.alloc (.cells #[.string T] 9)) = .ok v' w' ∧ w'.ownsRow base 9 1 v' (l ++ [T]).length (strRow (l ++ [T])) ∧ (w.alloc (.cells #[.string T] 9)).grownBy w' v.ownBlock :=
  app_texts (w.alloc (.cells #[.string T] 9)) base v l (own.alloc _) (some ⟨w.heap.size, 0, none⟩) 1 [T] (alloc_str w [T]).txt hl (by simp; omega)
/-- What an append to an own row leaves of a source and of what was there. -/
theorem app_leaves {T : TypeId} {B p : Nat} {a : Option Addr} {len cap : Nat} {w0 w w' : World} {e : TypeId} {v : Value} {n : Nat} {xs : List Value} {x : Obj} (own : w.ownsRow w0.heap.size e 1 v n xs) (hs : Src T B p a len cap w) (hp : p < w0.heap.size) (hg : w0.grownBy w (some p)) (h : (w.alloc x).grownBy w' v.ownBlock) :
    Src T B p a len cap w' ∧ w0.grownBy w' (some p) := by
  have hrow : ∀ j, v.ownBlock = some j → w0.heap.size ≤ j := fun j hj => (own.lt j hj).1
  exact ⟨(hs.below ((Below.refl _ _).alloc (Nat.le_refl _) _)).other h (fun j hj => by have := hrow j hj; omega), touch_own (touch_below hg ((Below.refl _ _).alloc (Nat.le_refl _) _)) h hrow⟩

def fourS : List ByteArray := [⟨#[97]⟩, ⟨#[98]⟩, ⟨#[]⟩, ⟨#[101, 110, 116, 114, 121]⟩]
theorem fourS_small : ∀ t ∈ fourS, t.size ≤ 5 := by decide

end Go.Proofs.YtonleickhincgaaGreatDoor
/-
  What the specification's l03Is answers, of any two bounds.
-/
namespace Go.Proofs.YtonleickhincgaaGreatDoor
open Go.RowKit Go.Lib
set_option linter.unusedVariables false
set_option maxRecDepth 20000

theorem isIn_any (n lo hi : Int) (w : World) : Calls Tryz.prog 98 #[.int .i64 n, .int .i64 lo, .int .i64 hi] w fun e w' => e = .returned (.bool (decide (lo ≤ n ∧ n ≤ hi))) ∧ w' = w := by
  by_cases h1 : lo ≤ n
  · have d1 : decide (lo ≤ n) = true := decide_eq_true h1
    by_cases h2 : n ≤ hi
    · have d2 : decide (n ≤ hi) = true := decide_eq_true h2
      have H : Hid (decide (lo ≤ n ∧ n ≤ hi) = true) := decide_eq_true ⟨h1, h2⟩
      rw [H.out]
      clear H
      go_enter Tryz.func98, Tryz.ntmps98
      go_wp2
      go_ret
      exact ⟨rfl, rfl⟩
    · have d2 : decide (n ≤ hi) = false := decide_eq_false h2
      have H : Hid (decide (lo ≤ n ∧ n ≤ hi) = false) := decide_eq_false fun h => h2 h.2
      rw [H.out]
      clear H
      go_enter Tryz.func98, Tryz.ntmps98
      go_wp2
      go_ret
      exact ⟨rfl, rfl⟩
  · have d1 : decide (lo ≤ n) = false := decide_eq_false h1
    have H : Hid (decide (lo ≤ n ∧ n ≤ hi) = false) := decide_eq_false fun h => h1 h.1
    rw [H.out]
    clear H
    go_enter Tryz.func98, Tryz.ntmps98
    go_wp2
    go_ret
    exact ⟨rfl, rfl⟩
end Go.Proofs.YtonleickhincgaaGreatDoor
/-
  What the specification's l03Is, l04Seed, l04Steps, l04Begin, l04Publics and KeyRoot answer.
  Conditions: numbers are int64; a seed has at most 2^20 bytes.
-/
namespace Go.Proofs.YtonleickhincgaaGreatDoor
open Go.RowKit Go.Lib
set_option linter.unusedVariables false
set_option maxRecDepth 20000

theorem specSeed_any (t : ByteArray) (w : World) (ht : t.size ≤ maxLen) : Calls Tryz.prog 76 #[.string t] w fun e w' => e = .returned (.bool (seedB t)) ∧ w' = w := by
  unfold maxLen at ht
  have H0 : Hid (seedB t = decide (1 ≤ t.size ∧ t.size ≤ 64)) := rfl
  by_cases h1 : 1 ≤ t.size
  · have d1 : decide (1 ≤ (t.size : Int)) = true := decide_eq_true (by omega)
    by_cases h2 : t.size ≤ 64
    · have d2 : decide ((t.size : Int) ≤ 64) = true := decide_eq_true (by omega)
      rw [H0.out, decide_eq_true ⟨h1, h2⟩]
      go_enter Tryz.func76, Tryz.ntmps76
      go_wp2
      go_ret
      exact ⟨rfl, rfl⟩
    · have d2 : decide ((t.size : Int) ≤ 64) = false := decide_eq_false (by omega)
      rw [H0.out, decide_eq_false (fun h => h2 h.2)]
      go_enter Tryz.func76, Tryz.ntmps76
      go_wp2
      go_ret
      exact ⟨rfl, rfl⟩
  · have d1 : decide (1 ≤ (t.size : Int)) = false := decide_eq_false (by omega)
    rw [H0.out, decide_eq_false (fun h => h1 h.1)]
    go_enter Tryz.func76, Tryz.ntmps76
    go_wp2
    go_ret
    exact ⟨rfl, rfl⟩

set_option maxHeartbeats 1000000 in
theorem specSteps_any (t : ByteArray) (n : Nat) (w : World) (ht : t.size ≤ 1099511627776) (hn : n ≤ 1000) :
    Calls Tryz.prog 49 #[.string t, .int .i64 (n : Int)] w fun e w' => e = .returned (.string (stepsB n t)) ∧ Below w.heap.size w w' := by
  obtain ⟨R, hR⟩ : ∃ R, R = stepsB n t := ⟨_, rfl⟩
  rw [← hR]
  have HR : Hid (R = stepsB n t) := hR
  clear hR
  go_enter Tryz.func49, Tryz.ntmps49
  go_wp2_with fail
  go_loopw [0, 1] (fun s i wr => ∃ (k : Nat) (u : ByteArray), s = .string u ∧ i = .int .i64 k ∧ k ≤ 1000 ∧ u.size ≤ 1099511627776 ∧ Hid (R = stepsB k u) ∧ Hid (Below w.heap.size w wr)) (fun _ i _ => (Go.RowKit.intOf i).toNat)
  case atStart => exact ⟨n, t, rfl, rfl, hn, ht, HR, Below.refl _ _⟩
  case round =>
    clear HR
    obtain ⟨k, u, rfl, rfl, hk, hu, HR, HB⟩ := hrel
    by_cases hlt : 0 < k
    · have d1 : decide (0 < (k : Int)) = true := decide_eq_true (by omega)
      obtain ⟨m, rfl⟩ : ∃ m, k = m + 1 := ⟨k - 1, by omega⟩
      have HR2 : Hid (R = stepsB m (digB u)) := HR.out
      have hs := digB_size u
      clear HR
      go_wp2_with fail
      refine (specAll_any u wr hu).mono ?_
      rintro e w1 ⟨rfl, b1⟩
      generalize digB u = D at *
      have HB1 : Hid (Below w.heap.size w w1) := chainB HB.out b1
      clear b1 HB
      go_wp2_with fail
      go_roundw
      case rel => exact ⟨m, D, rfl, by go_num, by omega, by omega, HR2, HB1⟩
      case measure => simp [Go.RowKit.intOf]
    · obtain rfl : k = 0 := by omega
      have HR2 : Hid (R = u) := HR.out
      clear HR
      go_wp2_with fail
      go_ret
      exact ⟨ret_str HR2.out.symm, HB.out⟩

set_option maxHeartbeats 1000000 in
theorem specBegin_any (seed : ByteArray) (i j : Int) (w : World) (hs : seed.size ≤ 1048576) (i0 : -9223372036854775808 ≤ i) (i1 : i ≤ 9223372036854775807) (j0 : -9223372036854775808 ≤ j) (j1 : j ≤ 9223372036854775807) :
    Calls Tryz.prog 121 #[.string seed, .int .i64 i, .int .i64 j] w fun e w' => e = .returned (.string (begB seed i j)) ∧ Below w.heap.size w w' := by
  have H : Hid (begB seed i j = macB seed (putB i ++ putB j)) := rfl
  go_enter Tryz.func121, Tryz.ntmps121
  go_wp2_with fail
  refine (specPutNum_any i w i0 i1).mono ?_
  rintro e w1 ⟨rfl, b1⟩
  go_wp2_with fail
  refine (specPutNum_any j w1 j0 j1).mono ?_
  rintro e w2 ⟨rfl, b2⟩
  have b2 := chainB b1 b2
  have hp : (putB i ++ putB j).size ≤ 20 := putB2_size i j
  have h1 := putB_le i
  have h2 := putB_le j
  clear b1
  go_wp2_with fail
  refine (specMacB_any seed (putB i ++ putB j) w2 (by omega) (by omega)).mono ?_
  rintro e w3 ⟨rfl, b3⟩
  have b3 := chainB b2 b3
  go_wp2_with fail
  go_ret
  exact ⟨ret_str H.out.symm, b3⟩

/-- The first k public texts, in a row of the call's own. -/
def PubsRow (seed : ByteArray) (w0 : World) (k : Nat) (v : Value) (w : World) : Prop := w.ownsRow w0.heap.size 9 1 v k (strRow (pubsTo seed k))
theorem PubsRow.form {seed : ByteArray} {w0 w : World} {k : Nat} {v : Value} (h : PubsRow seed w0 k v w) : ∃ q c, v = .slice q k c ∧ k ≤ c := by
  have h' : w.ownsRow w0.heap.size 9 1 v (pubsTo seed k).length (strRow (pubsTo seed k)) := by rw [pubsTo_len]; exact h
  obtain ⟨q, c, h1, h2, _⟩ := ownS_form h'
  rw [pubsTo_len] at h1 h2
  exact ⟨q, c, h1, h2⟩
theorem PubsRow.below {seed : ByteArray} {w0 w w' : World} {k : Nat} {v : Value} (h : PubsRow seed w0 k v w) (hb : Below w.heap.size w w') : PubsRow seed w0 k v w' := ownS_below h hb
theorem PubsRow.more {seed : ByteArray} {w0 w : World} {k : Nat} {v : Value} (h : PubsRow seed w0 k v w) (hB : Below w0.heap.size w0 w) (hk : k ≤ 4) :
    ∃ v' w', (Builtin.append_ #[25, 25] 25 #[v, .slice (some ⟨w.heap.size, 0, none⟩) 1 1]).run Tryz.prog (w.alloc (.cells #[.string (pubB seed k)] 9)) = .ok v' w' ∧ PubsRow seed w0 (k + 1) v' w' ∧ Below w0.heap.size w0 w' := by
  have h' : w.ownsRow w0.heap.size 9 1 v (pubsTo seed k).length (strRow (pubsTo seed k)) := by rw [pubsTo_len]; exact h
  obtain ⟨v', w', hr, ho, hg⟩ := app_one w w0.heap.size v (pubsTo seed k) h' (pubB seed k) (by rw [pubsTo_len]; omega) hB.size
  rw [← pubsTo_step, pubsTo_len] at ho
  exact ⟨v', w', hr, ho, (hB.alloc hB.size _).grown hg (by have := hB.size; simp; omega) (fun j hj => (h'.lt j hj).1)⟩

set_option maxHeartbeats 4000000 in
theorem specPublics_any (seed : ByteArray) (w : World) (hs : seed.size ≤ 1048576) :
    Calls Tryz.prog 77 #[.string seed] w fun e w' => ∃ v, e = .returned v ∧ w'.ownsRow w.heap.size 9 1 v (pubsB seed).length (strRow (pubsB seed)) ∧ Below w.heap.size w w' := by
  have HO : Hid (∀ (wr : World) (v : Value), PubsRow seed w 4 v wr → wr.ownsRow w.heap.size 9 1 v (pubsB seed).length (strRow (pubsB seed))) := fun wr v h => by rw [pubsB_len]; exact h
  have O0 : Hid (PubsRow seed w 0 (.slice (some ⟨w.heap.size, 0, none⟩) 0 0) (w.alloc (.cells #[] 9))) := ownS_none w
  have B0 : Hid (Below w.heap.size w (w.alloc (.cells #[] 9))) := (Below.refl _ _).alloc (Nat.le_refl _) _
  go_enter Tryz.func77, Tryz.ntmps77
  go_wp2_with fail
  go_loopw [3, 4] (fun v i wr => ∃ (k : Nat) (v0 : Value), v0 = v ∧ i = .int .i64 k ∧ k ≤ 4 ∧ Hid (PubsRow seed w k v0 wr) ∧ Hid (Below w.heap.size w wr)) (fun _ i _ => 4 - (Go.RowKit.intOf i).toNat)
  case atStart => exact ⟨0, _, rfl, rfl, by omega, O0, B0⟩
  case round =>
    clear O0 B0
    obtain ⟨k, v, rfl, rfl, hk, HV, HB⟩ := hrel
    obtain ⟨q, cq, rfl, hcq⟩ := HV.out.form
    by_cases hlt : k < 4
    · have d1 : decide ((k : Int) < 4) = true := decide_eq_true (by omega)
      have HP : Hid (pubB seed k = digB (catB (topB seed k) 6)) := rfl
      go_wp2_with fail
      go_loopw [5, 6] (fun s i wr => ∃ (j : Nat) (T : ByteArray), s = .string T ∧ i = .int .i64 j ∧ j ≤ 6 ∧ T.size ≤ 192 ∧ Hid (T = catB (topB seed k) j) ∧ Hid (PubsRow seed w k (.slice q k cq) wr) ∧ Hid (Below w.heap.size w wr)) (fun _ i _ => 6 - (Go.RowKit.intOf i).toNat)
      case atStart => exact ⟨0, ByteArray.empty, rfl, rfl, by omega, by simp, rfl, HV, HB⟩
      case round =>
        clear HV HB
        obtain ⟨j, T, rfl, rfl, hj, hT, HC, HV, HB⟩ := hrel
        by_cases hjl : j < 6
        · have d2 : decide ((j : Int) < 6) = true := decide_eq_true (by omega)
          have HC2 : Hid (T ++ stepsB 15 (begB seed k j) = catB (topB seed k) (j + 1)) := by show _ = _; rw [HC.out]; rfl
          have HS2 : Hid ((T ++ stepsB 15 (begB seed k j)).size ≤ 192) := by
            show _ ≤ _
            rw [HC2.out, catB_size _ _ (fun j _ => topB_size seed k j)]; omega
          go_wp2_with fail
          refine (specBegin_any seed k j wr hs (by omega) (by omega) (by omega) (by omega)).mono ?_
          rintro e w1 ⟨rfl, b1⟩
          have hb := begB_size seed k j
          have hb2 := stepsB_size 15 _ hb
          have HV1 := HV.out.below b1
          have HB1 := chainB HB.out b1
          generalize begB seed (k : Int) (j : Int) = G at *
          have hS := specSteps_any G 15 w1 (by omega) (by omega)
          rw [show ((15 : Nat) : Int) = (15 : Int) from rfl] at hS
          clear b1 HV HB HC
          go_wp2_with fail
          refine hS.mono ?_
          rintro e w2 ⟨rfl, b2⟩
          have HV2 : Hid (PubsRow seed w k (.slice q k cq) w2) := HV1.below b2
          have HB2 : Hid (Below w.heap.size w w2) := chainB HB1 b2
          generalize stepsB 15 G = E at *
          have hE : E.size ≤ 32 := by omega
          clear hS b2 HV1 HB1 hb hb2
          go_wp2_with fail
          go_roundw
          case rel => exact ⟨j + 1, T ++ E, rfl, by go_num, by omega, HS2.out, HC2, HV2, HB2⟩
          case measure => simp [Go.RowKit.intOf]; omega
        · obtain rfl : j = 6 := by omega
          rw [show ((6 : Nat) : Int) = (6 : Int) from rfl]
          rw [← HC.out] at HP
          clear HC
          go_wp2_with fail
          refine (specAll_any T wr (by omega)).mono ?_
          rintro e w1 ⟨rfl, b1⟩
          rw [← HP.out]
          have HB1 := chainB HB.out b1
          obtain ⟨v', w2, hr2, ho2, hb2⟩ := (HV.out.below b1).more HB1 (by omega)
          have HO2 : Hid (PubsRow seed w (k + 1) v' w2) := ho2
          have HB2 : Hid (Below w.heap.size w w2) := hb2
          clear ho2 hb2 HV HB HB1 b1 HP
          generalize pubB seed k = D at *
          go_wp2_with (at_builtin; refine wpList_append_run rfl _ _ _ rfl _ _ _ _ rfl rfl hr2 ?_)
          go_roundw
          case rel => exact ⟨k + 1, _, rfl, by go_num, by omega, HO2, HB2⟩
          case measure => simp [Go.RowKit.intOf]; omega
    · obtain rfl : k = 4 := by omega
      have HV2 := HO.out _ _ HV.out
      clear HV
      go_wp2_with fail
      go_ret
      exact ⟨_, rfl, HV2, HB.out⟩
end Go.Proofs.YtonleickhincgaaGreatDoor
/-
  What the specification's KeyRoot and l04Digits answer.
-/
namespace Go.Proofs.YtonleickhincgaaGreatDoor
open Go.RowKit Go.Lib
set_option linter.unusedVariables false
set_option maxRecDepth 20000

set_option maxHeartbeats 1000000 in
theorem specKeyRoot_any (seed : ByteArray) (w : World) (hs : seed.size ≤ 1048576) :
    Calls Tryz.prog 29 #[.string seed] w fun e w' => e = .returned (.string (rootA seed)) ∧ Below w.heap.size w w' := by
  have hS := specSeed_any seed w (by unfold maxLen; omega)
  cases h : seedB seed with
  | false =>
    have H : Hid (rootA seed = ByteArray.empty) := if_neg (by rw [h]; exact Bool.false_ne_true)
    rw [h] at hS
    clear h
    go_enter Tryz.func29, Tryz.ntmps29
    go_wp2_with fail
    refine hS.mono ?_
    rintro e w1 ⟨rfl, rfl⟩
    go_wp2_with fail
    go_ret
    exact ⟨ret_str H.out.symm, Below.refl _ _⟩
  | true =>
    have H : Hid (rootA seed = treeB (pubsB seed)) := if_pos h
    rw [h] at hS
    clear h
    go_enter Tryz.func29, Tryz.ntmps29
    go_wp2_with fail
    refine hS.mono ?_
    rintro e w1 ⟨rfl, rfl⟩
    go_wp2_with fail
    refine (specPublics_any seed w1 hs).mono ?_
    rintro e w2 ⟨v, rfl, o2, b2⟩
    obtain ⟨q, c, rfl, hc, ht⟩ := ownS_form o2
    have hT := tree2_any 4 q c (pubsB seed) w2 (pubsB_len seed) ht (by rw [pubsB_len]; omega) hc (fun x hx => by rw [pubsTo_wide seed 4 x hx]; omega)
    go_wp2_with fail
    refine hT.mono ?_
    rintro e w3 ⟨rfl, b3⟩
    have b3 := chainB b2 b3
    go_wp2_with fail
    go_ret
    exact ⟨ret_str H.out.symm, b3⟩

theorem infoI64s : (Tryz.prog.info? 2).map (fun i => (i.zero, i.size, i.bytes)) = some (some (.int .i64 0), 1, 8) := by kernel_rfl
theorem own4 (w : World) (a b c d : Int) : (w.alloc (.cells #[.int .i64 a, .int .i64 b, .int .i64 c, .int .i64 d] 2)).ownsRow w.heap.size 2 1 (.slice (some ⟨w.heap.size, 0, none⟩) 4 4) 4 [.int .i64 a, .int .i64 b, .int .i64 c, .int .i64 d] :=
  ⟨rfl, .inr ⟨w.heap.size, 4, #[.int .i64 a, .int .i64 b, .int .i64 c, .int .i64 d], rfl, Nat.le_refl _, (MapKept.heap_alloc w _).1, Nat.le_refl _, by unfold maxLen; omega, rfl, rfl⟩⟩
set_option maxHeartbeats 2000000 in
theorem specDigits_any (t : ByteArray) (w : World) (ht : t.size ≤ 1048576) :
    Calls Tryz.prog 48 #[.string t] w fun e w' => ∃ v, e = .returned v ∧ w'.ownsRow w.heap.size 2 1 v 6 ((digsI t).map (Value.int .i64)) ∧ Below w.heap.size w w' := by
  obtain ⟨i0, hi, hz0, hz1, hz2⟩ := info_parts infoI64s
  obtain ⟨D, hD⟩ : ∃ D, D = digB t := ⟨_, rfl⟩
  have hA := specAll_any t w (by omega)
  rw [← hD] at hA
  have hs : D.size = 32 := by rw [hD]; exact digB_size t
  have h0 : 0 < D.size := by omega
  have h1 : 1 < D.size := by omega
  have e0 : byteAt D 0 = ((D[0]'h0).toNat : Int) := by
    unfold byteAt; simp [List.getD_eq_getElem?_getD]; rw [Array.getElem?_eq_getElem h0]; rfl
  have e1 : byteAt D 1 = ((D[1]'h1).toNat : Int) := by
    unfold byteAt; simp [List.getD_eq_getElem?_getD]; rw [Array.getElem?_eq_getElem h1]; rfl
  have c0 : ((D[0]'h0).toNat : Int) ≤ 255 := by have := (D[0]'h0).toNat_lt; omega
  have c1 : ((D[1]'h1).toNat : Int) ≤ 255 := by have := (D[1]'h1).toNat_lt; omega
  have H : Hid (digsI t = [((D[0]'h0).toNat : Int) / 16, ((D[0]'h0).toNat : Int) % 16, ((D[1]'h1).toNat : Int) / 16, ((D[1]'h1).toNat : Int) % 16, (60 - ((D[0]'h0).toNat : Int) / 16 - ((D[0]'h0).toNat : Int) % 16 - ((D[1]'h1).toNat : Int) / 16 - ((D[1]'h1).toNat : Int) % 16) / 16, (60 - ((D[0]'h0).toNat : Int) / 16 - ((D[0]'h0).toNat : Int) % 16 - ((D[1]'h1).toNat : Int) / 16 - ((D[1]'h1).toNat : Int) % 16) % 16]) := by
    show _ = _
    rw [← e0, ← e1, hD]; rfl
  clear hD e0 e1
  go_enter Tryz.func48, Tryz.ntmps48
  go_wp2_with fail
  refine hA.mono ?_
  rintro e w1 ⟨rfl, b1⟩
  go_wp2_with fail
  go_region
  have n0 : 0 ≤ ((D[0]'h0).toNat : Int) := by omega
  have n1 : 0 ≤ ((D[1]'h1).toNat : Int) := by omega
  generalize ((D[0]'h0).toNat : Int) = A at *
  generalize ((D[1]'h1).toNat : Int) = B at *
  have HA : 0 ≤ A / 16 ∧ A / 16 ≤ 15 ∧ 0 ≤ A % 16 ∧ A % 16 ≤ 15 := by omega
  have HB : 0 ≤ B / 16 ∧ B / 16 ≤ 15 ∧ 0 ≤ B % 16 ∧ B % 16 ≤ 15 := by omega
  generalize A / 16 = d0 at *
  generalize A % 16 = d1 at *
  generalize B / 16 = d2 at *
  generalize B % 16 = d3 at *
  obtain ⟨a0, a1, a2, a3⟩ := HA
  obtain ⟨a4, a5, a6, a7⟩ := HB
  have O1 := own4 w1 d0 d1 d2 d3
  have B1 : Below w.heap.size w (w1.alloc (.cells #[.int .i64 d0, .int .i64 d1, .int .i64 d2, .int .i64 d3] 2)) := b1.alloc b1.size _
  go_wp2_with fail
  go_quiet (fail)
  obtain ⟨W, hW⟩ : ∃ W, W = (((w1.alloc (.cells #[.int .i64 d0, .int .i64 d1, .int .i64 d2, .int .i64 d3] 2)).drew.drewN nq) : World) := ⟨_, rfl⟩
  rw [← hW]
  have O2 : Hid (W.ownsRow w1.heap.size 2 1 (.slice (some ⟨w1.heap.size, 0, none⟩) 4 4) 4 [.int .i64 d0, .int .i64 d1, .int .i64 d2, .int .i64 d3]) := by rw [hW]; exact ownS_below O1 ⟨rfl, rfl, rfl, Nat.le_refl _, fun _ _ => rfl⟩
  have B2 : Hid (Below w.heap.size w W) := by rw [hW]; exact ⟨B1.os, B1.tape, B1.output, B1.size, B1.block⟩
  have hsz : w1.heap.size ≤ W.heap.size := by rw [hW]; show w1.heap.size ≤ (w1.alloc _).heap.size; simp
  have hR : 0 ≤ 60 - d0 - d1 - d2 - d3 ∧ 60 - d0 - d1 - d2 - d3 ≤ 60 := by omega
  clear hW O1 B1
  generalize 60 - d0 - d1 - d2 - d3 = R at *
  obtain ⟨R0, R1⟩ := hR
  have B3 := B2.out.alloc B2.out.size (.cells #[.int .i64 (R / 16), .int .i64 (R % 16)] 2)
  have hb1 := b1.size
  clear a0 a1 a2 a3 a4 a5 a6 a7 c0 c1 n0 n1
  go_wp2_with (at_builtin; refine wpList_append_lies _ rfl _ _ 85 rfl w1.heap.size 2 i0 (.int .i64 0) 1 8 Tryz.underlying85 hi hz0 hz1 hz2 rfl (by omega) _ 4 [.int .i64 d0, .int .i64 d1, .int .i64 d2, .int .i64 d3] rfl (O2.out.alloc _) ⟨W.heap.size, 0, none⟩ 2 2 [.int .i64 (R / 16), .int .i64 (R % 16)] rfl rfl (World.news_of_block (cs := #[.int .i64 (R / 16), .int .i64 (R % 16)]) (t := 2) (fr := (0, 0)) (MapKept.heap_alloc W _).1) (by simp [Value.oneCell']) (by omega) (by unfold maxLen; omega) (by omega) (by simp; omega) (W.heap.size + 1) (by simp) ?_; intro g2 cap2 w5 hown2 hgrow hat hltg)
  have HO5 : Hid (w5.ownsRow w.heap.size 2 1 (.slice (some ⟨g2, 0, none⟩) 6 cap2) 6 ((digsI t).map (Value.int .i64))) := by rw [H.out]; exact ownS_mono hown2 hb1
  have HB5 : Hid (Below w.heap.size w w5) := B3.grown hgrow (by have := B2.out.size; simp; omega) (fun j hj => by have := (O2.out.lt j hj).1; omega)
  clear hown2 hgrow B3 H O2 B2
  go_wp2_with fail
  go_ret
  exact ⟨_, rfl, HO5.out, HB5.out⟩
end Go.Proofs.YtonleickhincgaaGreatDoor
/-
  What the specification's l03Wide answers.
  Conditions: the slice's cells hold those texts; it is at most 2^47 long.
-/
namespace Go.Proofs.YtonleickhincgaaGreatDoor
open Go.RowKit Go.Lib
set_option linter.unusedVariables false

set_option maxHeartbeats 400000 in
theorem wide2_any (p : Option Addr) (cap : Nat) (ss : List ByteArray) (w : World) (hp : TxtAt w p ss) (hn : ss.length ≤ 140737488355328) (hcap : ss.length ≤ cap) :
    Calls Tryz.prog 83 #[.slice p ss.length cap] w fun e w' => e = .returned (.bool (wideB ss)) ∧ w' = w := by
  have HP : Hid (TxtAt w p ss) := hp
  clear hp
  go_enter Tryz.func83, Tryz.ntmps83
  go_wp2
  go_loop [3] (fun i => ∃ k : Nat, k ≤ ss.length ∧ i = .int .i64 k ∧ Hid (∀ j (h : j < ss.length), j < k → ss[j].size = 32)) (fun i => ss.length - (Go.RowKit.intOf i).toNat)
  case atStart => exact ⟨0, Nat.zero_le _, rfl, fun j h hk => by omega⟩
  case round =>
    obtain ⟨k, hk, rfl, HK⟩ := hrel
    by_cases hlt : k < ss.length
    · obtain ⟨b, off, rfl, hb, hck⟩ := HP.out k hlt
      by_cases h32 : ss[k].size = 32
      · have HK2 : Hid (∀ j (h : j < ss.length), j < k + 1 → ss[j].size = 32) := fun j h hj => if he : j = k then by subst he; exact h32 else HK.out j h (by omega)
        generalize ss[k] = q at *
        have h33 : (q.size : Int) = 32 := by omega
        go_wp2
        go_round
        case rel => exact ⟨k + 1, by omega, by go_num, HK2⟩
        case measure => simp [Go.RowKit.intOf]; omega
      · have HF : Hid (wideB ss = false) := wideB_false hlt h32
        generalize ss[k] = q at *
        have h33 : ¬ (q.size : Int) = 32 := by omega
        go_wp2
        go_ret
        exact ⟨ret_bool HF.out.symm, rfl⟩
    · have HF : Hid (wideB ss = true) := wideB_true fun j h => HK.out j h (by omega)
      go_wp2
      go_ret
      exact ⟨ret_bool HF.out.symm, rfl⟩

end Go.Proofs.YtonleickhincgaaGreatDoor
/-
  An append in a region that draws its order, by its run.
-/
namespace Go.Proofs.YtonleickhincgaaGreatDoor
open Go.RowKit
set_option linter.unusedVariables false

theorem step_append_run {P : Program} {w : World} {ops : Array Oper} {o : Oper} {a : Act} {K : Act → World → Prop} {Q : Exit → Act → World → Prop} {E : Prop} (hgd : o.guard = none) (s x : Operand) (t : TypeId)
    (ho : o.op = .call { callee := .builtin .append, args := #[s, x], argTypes := #[t, t] }) (v1 v2 v' : Value) (w' : World) (hs : a.eval s = v1) (hx : a.eval x = v2)
    (hr : (Builtin.append_ #[t, t] o.type #[v1, v2]).run P w = .ok v' w') (h : K (a.put o.dst v') w') :
    if Region.wanted o (yielded ops a.tmps) = true then Oper.wp P o a w K Q else E := by
  have hw : Region.wanted o (yielded ops a.tmps) = true := by simp [Region.wanted, hgd]
  rw [if_pos hw]
  unfold Oper.wp execOp
  simp only [ho, resolve, invoke, builtin, Sem.run_bind, Sem.run_pure, Result.andThen_ok, List.map_toArray, List.map_cons, List.map_nil, hs, hx, hr]
  exact h
end Go.Proofs.YtonleickhincgaaGreatDoor
/-
  The specification's l03Path and PathOf: the path of an entry, 'pathA', in new memory of its own.
  Conditions: the slice's cells hold the entries; index is an int64.
-/
namespace Go.Proofs.YtonleickhincgaaGreatDoor
open Go.RowKit Go.Lib
set_option linter.unusedVariables false
set_option maxRecDepth 20000

set_option maxHeartbeats 2000000 in
theorem path2_any (N : Nat) : ∀ (p : Option Addr) (cap : Nat) (ss : List ByteArray) (i : Nat) (w : World), ss.length = N → TxtAt w p ss → ss.length ≤ 1024 → ss.length ≤ cap → (∀ x ∈ ss, x.size ≤ 100) → i < ss.length →
    Calls Tryz.prog 108 #[.slice p ss.length cap, .int .i64 (i : Int)] w fun e w' => ∃ v, e = .returned v ∧ w'.ownsRow w.heap.size 9 1 v (pathB ss i).length (strRow (pathB ss i)) ∧ Below w.heap.size w w' := by
  induction N using Nat.strongRecOn with
  | _ N ih =>
  intro p cap ss i w hN hp hn hcap h100 hi
  subst hN
  have HP : Hid (TxtAt w p ss) := hp
  have HX : Hid (∀ x ∈ ss, x.size ≤ 100) := h100
  clear hp h100
  by_cases h2 : 2 ≤ ss.length
  · obtain ⟨b, off, rfl, hb, _⟩ := HP.out 0 (by omega)
    have h1 := halfN_lt h2
    have h0 := halfN_pos ss.length
    have l1 : (ss.take (halfN ss.length)).length = halfN ss.length := by simp; omega
    have l2 : (ss.drop (halfN ss.length)).length = ss.length - halfN ss.length := by simp
    have hH := fun w => half2_any ss.length w h2 (by omega)
    obtain ⟨i0, hi0, hz0, hz1, hz2⟩ := info_parts infoStr
    by_cases hik : i < halfN ss.length
    · have hlen := pathB_len (ss.take (halfN ss.length)) i (by omega)
      have HB : Hid (pathB (ss.take (halfN ss.length)) i ++ [treeB (ss.drop (halfN ss.length))] = pathB ss i) := (pathB_left h2 hik).symm
      have I1 : Hid (∀ w', Below w.heap.size w w' → Calls Tryz.prog 108 #[.slice (some ⟨b, off, none⟩) (halfN ss.length) cap, .int .i64 (i : Int)] w' fun e w'' => ∃ v, e = .returned v ∧ w''.ownsRow w.heap.size 9 1 v (pathB (ss.take (halfN ss.length)) i).length (strRow (pathB (ss.take (halfN ss.length)) i)) ∧ Below w'.heap.size w' w'') := by
        intro w' hbl
        have := ih _ (by omega) (some ⟨b, off, none⟩) cap (ss.take (halfN ss.length)) i w' l1 ((HP.out.below hbl).take _) (by omega) (by omega) (fun x hx => HX.out x (List.mem_of_mem_take hx)) (by omega)
        rw [l1] at this
        exact this.mono fun e w'' ⟨v, he, ho, hb⟩ => ⟨v, he, ownS_mono ho hbl.size, hb⟩
      have I2 : Hid (∀ w', Below w.heap.size w w' → Calls Tryz.prog 75 #[.slice (some ⟨b, off + halfN ss.length, none⟩) (ss.length - halfN ss.length) (cap - halfN ss.length)] w' fun e w'' => e = .returned (.string (treeB (ss.drop (halfN ss.length)))) ∧ Below w'.heap.size w' w'') := by
        intro w' hbl
        have := tree2_any _ (some ⟨b, off + halfN ss.length, none⟩) (cap - halfN ss.length) (ss.drop (halfN ss.length)) w' l2 ((HP.out.below hbl).drop _) (by omega) (by omega) (fun x hx => HX.out x (List.mem_of_mem_drop hx))
        rwa [l2] at this
      clear l1 l2
      have hQl : (pathB (ss.take (halfN ss.length)) i).length ≤ 1024 := by simp at hlen; omega
      clear hlen
      generalize pathB (ss.take (halfN ss.length)) i = Q at *
      generalize treeB (ss.drop (halfN ss.length)) = T at *
      generalize halfN ss.length = k at *
      clear ih
      have q1 : (k : Int) ≤ cap := by omega
      have q2 : (k : Int) ≤ ss.length := by omega
      have q3 : (ss.length : Int) ≤ cap := by omega
      have q4 : ¬ cap = k := by omega
      have q5 : (0 : Int) ≤ k := by omega
      have q6 : IntKind.i64.wrap ((i : Int) - (k : Int)) = (i : Int) - (k : Int) := by rw [IntKind.wrap_i64]; omega
      go_enter Tryz.func108, Tryz.ntmps108
      go_wp2_with fail
      refine (hH _).mono ?_
      rintro e w1 ⟨rfl, hw1⟩
      subst hw1
      go_wp2_with fail
      go_region_law
        (first
          | (refine step_append_lies _ rfl _ _ 25 rfl w1.heap.size 9 i0 (.string ByteArray.empty) 1 16 Tryz.underlying25 hi0 hz0 hz1 hz2 rfl (by omega) v2 Q.length (strRow Q) rfl (own3.alloc _) ⟨w3.heap.size, 0, none⟩ 1 1 [.string T] rfl rfl (World.news_of_block (cs := #[.string T]) (t := 9) (fr := (0, 0)) (MapKept.heap_alloc w3 _).1) (by simp [Value.oneCell']) (by omega) (by unfold maxLen; omega) (by omega) (by simp; omega) (w3.heap.size + 1) (by simp) ?_; intro g2 cap2 w4 hown4 hgrow hat hltg)
          | (go_simp; go_at_call 75; refine (I2.out _ b2).mono ?_; rintro e w3 ⟨rfl, b3⟩; have own3 := ownS_below own2 b3; have b3 := chainB b2 b3; have hs3 := b3.size)
          | (go_simp; go_at_call 108; refine (I1.out _ ((Below.refl _ _).drew)).mono ?_; rintro e w2 ⟨v2, rfl, own2, b2⟩; have b2 := chainB ((Below.refl _ _).drew) b2))
      all_goals
        have B4 : Below w1.heap.size w1 w4 := (b3.alloc b3.size _).grown hgrow (by simp; omega) (fun j hj => (own3.lt j hj).1)
        have hfin : w4.ownsRow w1.heap.size 9 1 (.slice (some ⟨g2, 0, none⟩) (Q.length + 1) cap2) (pathB ss i).length (strRow (pathB ss i)) := by
          rw [← HB.out]
          have e1 : (Q ++ [T]).length = Q.length + 1 := by simp
          have e2 : strRow (Q ++ [T]) = strRow Q ++ [.string T] := by simp [strRow]
          rw [e1, e2]
          exact hown4
        go_wp2
        go_ret
        exact ⟨_, rfl, hfin, B4⟩
    · have hlen := pathB_len (ss.drop (halfN ss.length)) (i - halfN ss.length) (by omega)
      have HB : Hid (pathB (ss.drop (halfN ss.length)) (i - halfN ss.length) ++ [treeB (ss.take (halfN ss.length))] = pathB ss i) := (pathB_right h2 hik).symm
      have I1 : Hid (∀ w', Below w.heap.size w w' → Calls Tryz.prog 108 #[.slice (some ⟨b, off + halfN ss.length, none⟩) (ss.length - halfN ss.length) (cap - halfN ss.length), .int .i64 ((i : Int) - (halfN ss.length : Int))] w' fun e w'' => ∃ v, e = .returned v ∧ w''.ownsRow w.heap.size 9 1 v (pathB (ss.drop (halfN ss.length)) (i - halfN ss.length)).length (strRow (pathB (ss.drop (halfN ss.length)) (i - halfN ss.length))) ∧ Below w'.heap.size w' w'') := by
        intro w' hbl
        have := ih _ (by omega) (some ⟨b, off + halfN ss.length, none⟩) (cap - halfN ss.length) (ss.drop (halfN ss.length)) (i - halfN ss.length) w' l2 ((HP.out.below hbl).drop _) (by omega) (by omega) (fun x hx => HX.out x (List.mem_of_mem_drop hx)) (by omega)
        rw [l2, show ((i - halfN ss.length : Nat) : Int) = (i : Int) - (halfN ss.length : Int) by omega] at this
        exact this.mono fun e w'' ⟨v, he, ho, hb⟩ => ⟨v, he, ownS_mono ho hbl.size, hb⟩
      have I2 : Hid (∀ w', Below w.heap.size w w' → Calls Tryz.prog 75 #[.slice (some ⟨b, off, none⟩) (halfN ss.length) cap] w' fun e w'' => e = .returned (.string (treeB (ss.take (halfN ss.length)))) ∧ Below w'.heap.size w' w'') := by
        intro w' hbl
        have := tree2_any _ (some ⟨b, off, none⟩) cap (ss.take (halfN ss.length)) w' l1 ((HP.out.below hbl).take _) (by omega) (by omega) (fun x hx => HX.out x (List.mem_of_mem_take hx))
        rwa [l1] at this
      clear l1 l2
      have hQl : (pathB (ss.drop (halfN ss.length)) (i - halfN ss.length)).length ≤ 1024 := by simp at hlen; omega
      clear hlen
      generalize pathB (ss.drop (halfN ss.length)) (i - halfN ss.length) = Q at *
      generalize treeB (ss.take (halfN ss.length)) = T at *
      generalize halfN ss.length = k at *
      clear ih
      have q1 : (k : Int) ≤ cap := by omega
      have q2 : (k : Int) ≤ ss.length := by omega
      have q3 : (ss.length : Int) ≤ cap := by omega
      have q4 : ¬ cap = k := by omega
      have q5 : (0 : Int) ≤ k := by omega
      have q6 : IntKind.i64.wrap ((i : Int) - (k : Int)) = (i : Int) - (k : Int) := by rw [IntKind.wrap_i64]; omega
      go_enter Tryz.func108, Tryz.ntmps108
      go_wp2_with fail
      refine (hH _).mono ?_
      rintro e w1 ⟨rfl, hw1⟩
      subst hw1
      go_wp2_with fail
      go_region_law
        (first
          | (refine step_append_lies _ rfl _ _ 25 rfl w1.heap.size 9 i0 (.string ByteArray.empty) 1 16 Tryz.underlying25 hi0 hz0 hz1 hz2 rfl (by omega) v2 Q.length (strRow Q) rfl (own3.alloc _) ⟨w3.heap.size, 0, none⟩ 1 1 [.string T] rfl rfl (World.news_of_block (cs := #[.string T]) (t := 9) (fr := (0, 0)) (MapKept.heap_alloc w3 _).1) (by simp [Value.oneCell']) (by omega) (by unfold maxLen; omega) (by omega) (by simp; omega) (w3.heap.size + 1) (by simp) ?_; intro g2 cap2 w4 hown4 hgrow hat hltg)
          | (go_simp; go_at_call 75; refine (I2.out _ b2).mono ?_; rintro e w3 ⟨rfl, b3⟩; have own3 := ownS_below own2 b3; have b3 := chainB b2 b3; have hs3 := b3.size)
          | (go_simp; go_at_call 108; refine (I1.out _ ((Below.refl _ _).drew)).mono ?_; rintro e w2 ⟨v2, rfl, own2, b2⟩; have b2 := chainB ((Below.refl _ _).drew) b2))
      all_goals
        have B4 : Below w1.heap.size w1 w4 := (b3.alloc b3.size _).grown hgrow (by simp; omega) (fun j hj => (own3.lt j hj).1)
        have hfin : w4.ownsRow w1.heap.size 9 1 (.slice (some ⟨g2, 0, none⟩) (Q.length + 1) cap2) (pathB ss i).length (strRow (pathB ss i)) := by
          rw [← HB.out]
          have e1 : (Q ++ [T]).length = Q.length + 1 := by simp
          have e2 : strRow (Q ++ [T]) = strRow Q ++ [.string T] := by simp [strRow]
          rw [e1, e2]
          exact hown4
        go_wp2
        go_ret
        exact ⟨_, rfl, hfin, B4⟩
  · have h1 : (ss.length : Int) = 1 := by omega
    have HB : Hid (pathB ss i = []) := pathB_one h2 i
    clear ih
    go_enter Tryz.func108, Tryz.ntmps108
    go_wp2
    go_ret
    exact ⟨_, rfl, by rw [HB.out]; exact ownS_none w, (Below.refl _ _).alloc (Nat.le_refl _) _⟩

end Go.Proofs.YtonleickhincgaaGreatDoor
/-
  What Digest answers, in the program and in the specification: 'digestB': the digest of a text of at most 8000 bytes, else nothing.
-/
namespace Go.Proofs.YtonleickhincgaaGreatDoor
open Go.RowKit Go.Lib
set_option linter.unusedVariables false
set_option maxRecDepth 20000

def digestB (t : ByteArray) : ByteArray := if t.size ≤ 8000 then digB t else ByteArray.empty

set_option maxHeartbeats 400000 in
theorem specDigest_any (t : ByteArray) (w : World) (ht : t.size ≤ maxLen) :
    Calls Tryz.prog 24 #[.string t] w fun e w' => e = .returned (.string (digestB t)) ∧ Below w.heap.size w w' := by
  by_cases h : t.size ≤ 8000
  · have H : Hid (digestB t = digB t) := if_pos h
    go_enter Tryz.func24, Tryz.ntmps24
    go_wp2_with (go_at_call 52; refine (specAll_any t _ (by omega)).mono ?_; rintro e w1 ⟨rfl, hb⟩)
    go_ret
    exact ⟨ret_str H.out.symm, hb⟩
  · have H : Hid (digestB t = ByteArray.empty) := if_neg h
    unfold maxLen at ht
    go_enter Tryz.func24, Tryz.ntmps24
    go_wp2
    go_ret
    exact ⟨ret_str H.out.symm, Below.refl _ _⟩
set_option maxHeartbeats 400000 in
theorem implDigest_any (t : ByteArray) (w : World) (ht : t.size ≤ maxLen) (hT : Tabs w) :
    Calls Tryz.prog 171 #[.string t] w fun e w' => e = .returned (.string (digestB t)) ∧ Below w.heap.size w w' := by
  have HT : Hid (Tabs w) := hT
  clear hT
  by_cases h : t.size ≤ 8000
  · have H : Hid (digestB t = digB t) := if_pos h
    go_enter Tryz.func171, Tryz.ntmps171
    go_wp2_with (go_at_call 169; refine (digI_any t _ (by omega) HT.out).mono ?_; rintro e w1 ⟨rfl, hb⟩)
    go_ret
    exact ⟨ret_str H.out.symm, hb⟩
  · have H : Hid (digestB t = ByteArray.empty) := if_neg h
    unfold maxLen at ht
    go_enter Tryz.func171, Tryz.ntmps171
    go_wp2
    go_ret
    exact ⟨ret_str H.out.symm, Below.refl _ _⟩
end Go.Proofs.YtonleickhincgaaGreatDoor
/-
  What lwTexts answers of two slices of texts; what DrawPathOf and DrawProofOf draw: at most 30 texts of at most 101 bytes, and a number from -1 to 31.
-/
namespace Go.Proofs.YtonleickhincgaaGreatDoor
open Go.RowKit Go.Lib
set_option linter.unusedVariables false
set_option maxRecDepth 20000

set_option maxHeartbeats 400000 in
theorem texts_any (p q : Option Addr) (cap cap2 : Nat) (ss ts : List ByteArray) (w : World) (hp : TxtAt w p ss) (hq : TxtAt w q ts) (hn : ss.length ≤ 140737488355328) (hn2 : ts.length ≤ 140737488355328) (hcap : ss.length ≤ cap) (hcap2 : ts.length ≤ cap2) :
    Calls Tryz.prog 66 #[.slice p ss.length cap, .slice q ts.length cap2] w fun e w' => e = .returned (.bool (decide (ss = ts))) ∧ Below w.heap.size w w' := by
  have HP : Hid (TxtAt w p ss) := hp
  have HQ : Hid (TxtAt w q ts) := hq
  clear hp hq
  by_cases hl : ss.length = ts.length
  · rw [← hl]
    have hl2 : Hid (ss.length = ts.length) := hl
    clear hl
    rw [← hl2.out] at hcap2
    go_enter Tryz.func66, Tryz.ntmps66
    go_wp2
    go_loopw [5] (fun i wr => ∃ k m : Nat, k ≤ ss.length ∧ i = .int .i64 k ∧ wr = w.drewN m ∧ Hid (∀ j (h : j < ss.length) (h2 : j < ts.length), j < k → ss[j] = ts[j])) (fun i _ => ss.length - (Go.RowKit.intOf i).toNat)
    case atStart => exact ⟨0, 0, Nat.zero_le _, rfl, rfl, fun j h h2 hk => by omega⟩
    case round =>
      obtain ⟨k, m, hk, rfl, rfl, HK⟩ := hrel
      by_cases hlt : k < ss.length
      · have hlt2 : k < ts.length := by have := hl2.out; omega
        obtain ⟨b, off, rfl, hb, hck⟩ := HP.out k hlt
        obtain ⟨b2, off2, rfl, hb2, hck2⟩ := HQ.out k hlt2
        have j5 : (k : Int) < ss.length := by omega
        by_cases he : ss[k] = ts[k]
        · have HK2 : Hid (∀ j (h : j < ss.length) (h2 : j < ts.length), j < k + 1 → ss[j] = ts[j]) := fun j h h2 hj => if hjk : j = k then by subst hjk; exact he else HK.out j h h2 (by omega)
          rw [← he] at hck2
          clear he
          generalize ss[k] = x at *
          go_wp2
          go_quiet (fail)
          go_wp2
          go_roundw
          case rel => exact ⟨k + 1, _, by omega, by go_num, rfl, HK2⟩
          case measure => simp [Go.RowKit.intOf]; omega
        · have HF : Hid (decide (ss = ts) = false) := decide_eq_false (fun h => he (by subst h; rfl))
          generalize ss[k] = x at *
          generalize ts[k] = y at *
          have hne : (x.toList == y.toList) = false := by
            rw [beq_eq_false_iff_ne]
            exact fun h => he (toList_inj h)
          clear he
          go_wp2
          go_quiet (fail)
          go_wp2
          go_ret
          exact ⟨ret_bool HF.out.symm, ⟨rfl, rfl, rfl, Nat.le_refl _, fun _ _ => rfl⟩⟩
      · have HF : Hid (decide (ss = ts) = true) := decide_eq_true (List.ext_getElem hl2.out fun j h h2 => HK.out j h h2 (by omega))
        go_wp2
        go_ret
        exact ⟨ret_bool HF.out.symm, ⟨rfl, rfl, rfl, Nat.le_refl _, fun _ _ => rfl⟩⟩
  · have HF : Hid (decide (ss = ts) = false) := decide_eq_false (fun h => hl (by rw [h]))
    have hl2 : ¬ (ss.length : Int) = ts.length := by omega
    go_enter Tryz.func66, Tryz.ntmps66
    go_wp2
    go_ret
    exact ⟨ret_bool HF.out.symm, Below.refl _ _⟩

/-- What is drawn: few and small texts. -/
def Drawn (w : World) (v : Value) (L : List ByteArray) : Prop := ∃ q cq, v = .slice q L.length cq ∧ L.length ≤ cq ∧ TxtAt w q L ∧ L.length ≤ 31 ∧ ∀ x ∈ L, x.size ≤ 101
theorem own_drawn {w : World} {base : Nat} {v : Value} {L : List ByteArray} (h : w.ownsRow base 9 1 v L.length (strRow L)) (hl : L.length ≤ 31) (hs : ∀ x ∈ L, x.size ≤ 101) : Drawn w v L := by
  obtain ⟨q, cq, rfl, h1, h2⟩ := ownS_form h
  exact ⟨q, cq, rfl, h1, h2, hl, hs⟩

end Go.Proofs.YtonleickhincgaaGreatDoor
/-
  What l03Spoil makes of a list of digests: a list of few and small texts, in new memory. The source's block alone is written.
  Conditions: the source is one ('Src'); each text of the list is 32 bytes.
-/
namespace Go.Proofs.YtonleickhincgaaGreatDoor
open Go.RowKit Go.Lib
set_option linter.unusedVariables false
set_option maxRecDepth 20000

/-- Few and small texts, to be read. -/
def Few (w : World) (v : Value) (L : List ByteArray) : Prop := ∃ q cq, v = .slice q L.length cq ∧ L.length ≤ cq ∧ TxtAt w q L ∧ L.length ≤ 65 ∧ ∀ x ∈ L, x.size ≤ 32
theorem own_few {w : World} {base : Nat} {v : Value} {L : List ByteArray} (h : w.ownsRow base 9 1 v L.length (strRow L)) (hl : L.length ≤ 65) (hs : ∀ x ∈ L, x.size ≤ 32) : Few w v L := by
  obtain ⟨q, cq, rfl, h1, h2⟩ := ownS_form h
  exact ⟨q, cq, rfl, h1, h2, hl, hs⟩
theorem digestB_le (t : ByteArray) : (digestB t).size ≤ 32 := by
  unfold digestB; split
  · rw [digB_size]; omega
  · simp

theorem TxtAt.put {w : World} {g : Nat} {ss : List ByteArray} (h : TxtAt w (some ⟨g, 0, none⟩) ss) (k : Nat) (hk : k < ss.length) (s : ByteArray) : TxtAt (w.setCell ⟨g, k, none⟩ (.string s)) (some ⟨g, 0, none⟩) (ss.set k s) := by
  intro i hi
  have hi2 : i < ss.length := by simpa using hi
  obtain ⟨b, off, h0, h1, h2⟩ := h i hi2
  cases h0
  refine ⟨g, 0, rfl, by simpa [World.setCell] using h1, ?_⟩
  rw [Nat.zero_add] at h2 ⊢
  by_cases he : k = i
  · subst he
    rw [World.cell?_setCell_same _ _ _ h2]; simp
  · rw [World.cell?_setCell_other _ _ _ _ (fun e => he (by cases e; rfl)), h2]; simp [he]
/-- An own row that is not empty: its block, its cells, nothing of it frozen. -/
theorem ownS_at {w : World} {base : Nat} {q : Option Addr} {c : Nat} {l : List ByteArray} (h : w.ownsRow base 9 1 (.slice q l.length c) l.length (strRow l)) (hl : 0 < l.length) :
    ∃ g, q = some ⟨g, 0, none⟩ ∧ base ≤ g ∧ g < w.heap.size ∧ TxtAt w (some ⟨g, 0, none⟩) l ∧ ∀ i, w.frozen? ⟨g, i, none⟩ = false := by
  rcases h.2 with ⟨h1, h0⟩ | ⟨g, cap, cur, h1, h2, h3, h4⟩
  · omega
  · cases h1
    obtain ⟨q', c', e1, e2, e3⟩ := ownS_form h
    cases e1
    exact ⟨g, rfl, h2, lt_of_block h3, e3, fun i => by simp [World.frozen?, h3]⟩

end Go.Proofs.YtonleickhincgaaGreatDoor
