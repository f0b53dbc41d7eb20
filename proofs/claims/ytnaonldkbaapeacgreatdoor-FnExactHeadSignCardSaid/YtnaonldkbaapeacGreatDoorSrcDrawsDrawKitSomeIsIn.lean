/-
  Parts of one proof, laid as one text: Src, Draws, DrawKit, Some, IsIn; what each says stands at its head.
-/
import Derived.WalkKit
import Derived.ProofKit
import Derived.Below
import Derived.Laws.Closers25b
import Derived.Deep.AppendLies
import Derived.Deep.Draws
import Derived.Test.YtnaonldkbaapeacGreatDoorRows
import Derived.Handy
import Derived.WalkSpells
import Derived.RegionTactic
import Derived.BigRegion
import Derived.Deep.QuietTactic
import Derived.BigQuiet
import Derived.Laws.BytesArg
import Derived.Test.YtnaonldkbaapeacGreatDoorBytesDigMath
import Derived.Test.YtnaonldkbaapeacGreatDoorSlASlBBxKOwnSTakes
import Derived.Test.YtnaonldkbaapeacGreatDoorAppSStepAppImplFT
import Derived.OwnWalk
/-
  What a draw's source is in memory, over any program: a block of four cells (the code's slice, a place, a number that is mixed, a size); what is written when one draws: that block alone.
-/
namespace Go.Proofs.YtnaonldkbaapeacGreatDoor
open Go.RowKit
set_option linter.unusedVariables false

theorem cell_set (w : World) (b o : Nat) (v : Value) : (w.setCell ⟨b, o, none⟩ v).cell? ⟨b, o, none⟩ = (w.cell? ⟨b, o, none⟩).map (fun _ => v) := by
  cases h : w.cell? ⟨b, o, none⟩ with
  | some u => rw [World.cell?_setCell_same _ _ _ h]; rfl
  | none =>
    simp only [Option.map_none]
    cases hb : w.heap[b]? with
    | none => simp [World.cell?, World.setCell, Array.getElem?_modify, hb]
    | some ob =>
      cases ob with
      | cells c t fr =>
        have hc : c[o]? = none := by simpa [World.cell?, hb] using h
        have hs : c.size ≤ o := by simpa using hc
        simp [World.cell?, World.setCell, Array.getElem?_modify, hb, hs]
      | map a b' => simp [World.cell?, World.setCell, Array.getElem?_modify, hb]
      | _ => simp [World.cell?, World.setCell, Array.getElem?_modify, hb]

def SrcRow (T : TypeId) (p : Nat) (sl : Value) (a m z : Int) (w : World) : Prop := w.heap[p]? = some (.cells #[sl, .int .i64 a, .int .u64 m, .int .i64 z] T (0, 0))

section
variable {T : TypeId} {p : Nat} {sl : Value} {a m z : Int} {w : World}
theorem SrcRow.cell (h : SrcRow T p sl a m z w) : w.cell? ⟨p, 0, none⟩ = some sl ∧ w.cell? ⟨p, 1, none⟩ = some (.int .i64 a) ∧ w.cell? ⟨p, 2, none⟩ = some (.int .u64 m) ∧ w.cell? ⟨p, 3, none⟩ = some (.int .i64 z) := by
  unfold SrcRow at h; simp [World.cell?, h]
theorem SrcRow.free (h : SrcRow T p sl a m z w) (i : Nat) : w.frozen? ⟨p, i, none⟩ = false := by
  unfold SrcRow at h; simp [World.frozen?, h]
theorem SrcRow.lt (h : SrcRow T p sl a m z w) : p < w.heap.size := by
  unfold SrcRow at h
  rcases Nat.lt_or_ge p w.heap.size with h' | h'
  · exact h'
  · rw [Array.getElem?_eq_none h'] at h; cases h
theorem SrcRow.set1 (h : SrcRow T p sl a m z w) (a' : Int) : SrcRow T p sl a' m z (w.setCell ⟨p, 1, none⟩ (.int .i64 a')) := by
  unfold SrcRow at *; simp [World.setCell, Array.getElem?_modify, h]
theorem SrcRow.set2 (h : SrcRow T p sl a m z w) (m' : Int) : SrcRow T p sl a m' z (w.setCell ⟨p, 2, none⟩ (.int .u64 m')) := by
  unfold SrcRow at *; simp [World.setCell, Array.getElem?_modify, h]
theorem SrcRow.set3 (h : SrcRow T p sl a m z w) (z' : Int) : SrcRow T p sl a m z' (w.setCell ⟨p, 3, none⟩ (.int .i64 z')) := by
  unfold SrcRow at *; simp [World.setCell, Array.getElem?_modify, h]
theorem SrcRow.drew (h : SrcRow T p sl a m z w) : SrcRow T p sl a m z w.drew := h
theorem SrcRow.drewN (h : SrcRow T p sl a m z w) (n : Nat) : SrcRow T p sl a m z (w.drewN n) := h
end

theorem touch_set {w w' : World} {p : Nat} (h : w.grownBy w' (some p)) (i : Nat) (v : Value) : w.grownBy (w'.setCell ⟨p, i, none⟩ v) (some p) :=
  ⟨h.os, h.tape, h.output, by simpa [World.setCell] using h.size, fun k hk hne => by
    rw [Below.heap_setCell _ _ _ _ (fun e => hne (by rw [e]))]; exact h.block k hk hne⟩
theorem touch_drew {w w' : World} {p : Nat} (h : w.grownBy w' (some p)) : w.grownBy w'.drew (some p) := ⟨h.os, h.tape, h.output, h.size, h.block⟩
theorem touch_drewN {w w' : World} {p n : Nat} (h : w.grownBy w' (some p)) : w.grownBy (w'.drewN n) (some p) := ⟨h.os, h.tape, h.output, h.size, h.block⟩
theorem touch_trans {w w1 w2 : World} {p : Nat} (h : w.grownBy w1 (some p)) (k : w1.grownBy w2 (some p)) : w.grownBy w2 (some p) :=
  ⟨k.os.trans h.os, k.tape.trans h.tape, k.output.trans h.output, Nat.le_trans h.size k.size, fun i hi hne => (k.block i (Nat.lt_of_lt_of_le hi h.size) hne).trans (h.block i hi hne)⟩
theorem touch_below {w w1 w2 : World} {p : Nat} (h : w.grownBy w1 (some p)) (k : Below w1.heap.size w1 w2) : w.grownBy w2 (some p) :=
  ⟨k.os.trans h.os, k.tape.trans h.tape, k.output.trans h.output, Nat.le_trans h.size k.size, fun i hi hne => (k.block i (Nat.lt_of_lt_of_le hi h.size)).trans (h.block i hi hne)⟩

/-- A source at block p (p ≥ B) over a code of 'len' bytes that lies below B. -/
def Src (T : TypeId) (B p : Nat) (a : Option Addr) (len cap : Nat) (w : World) : Prop :=
  B ≤ p ∧ len ≤ 1048576 ∧ (∃ (at0 : Nat) (mix sz : Int), at0 ≤ len ∧ 0 ≤ mix ∧ mix ≤ 18446744073709551615 ∧ (0 ≤ sz ∧ sz ≤ 12) ∧ SrcRow T p (.slice a len cap) at0 mix sz w) ∧
  (len = 0 ∨ ∃ xb xo, a = some ⟨xb, xo, none⟩ ∧ xb < B ∧ ∀ i, i < len → ∃ c : Int, 0 ≤ c ∧ c ≤ 255 ∧ w.cell? ⟨xb, xo + i, none⟩ = some (.int .u8 c))

theorem Src.lt {T : TypeId} {B p : Nat} {a : Option Addr} {len cap : Nat} {w : World} (h : Src T B p a len cap w) : p < w.heap.size := by
  obtain ⟨_, _, ⟨_, _, _, _, _, _, _, hr⟩, _⟩ := h; exact hr.lt

/-- The source behind a step that writes its block alone, its row given. -/
theorem Src.step {T : TypeId} {B p : Nat} {a : Option Addr} {len cap : Nat} {w w' : World} (h : Src T B p a len cap w) (hg : w.grownBy w' (some p))
    {at0 : Nat} {mix sz : Int} (h1 : at0 ≤ len) (h2 : 0 ≤ mix) (h3 : mix ≤ 18446744073709551615) (h4 : 0 ≤ sz ∧ sz ≤ 12) (hr : SrcRow T p (.slice a len cap) at0 mix sz w') : Src T B p a len cap w' := by
  have hlt := h.lt
  obtain ⟨hB, hl, _, hc⟩ := h
  refine ⟨hB, hl, ⟨at0, mix, sz, h1, h2, h3, h4, hr⟩, ?_⟩
  rcases hc with hc | ⟨xb, xo, ha, hx, hcell⟩
  · exact .inl hc
  · refine .inr ⟨xb, xo, ha, hx, fun i hi => ?_⟩
    obtain ⟨c, c0, c1, hci⟩ := hcell i hi
    exact ⟨c, c0, c1, hg.cell hci (by simp; omega)⟩

/-- The source behind a step that turns nothing that was there. -/
theorem Src.below {T : TypeId} {B p : Nat} {a : Option Addr} {len cap : Nat} {w w' : World} (h : Src T B p a len cap w) (hb : Below w.heap.size w w') : Src T B p a len cap w' := by
  have hlt := h.lt
  obtain ⟨hB, hl, ⟨at0, mix, sz, h1, h2, h3, h4, hr⟩, hc⟩ := h
  refine ⟨hB, hl, ⟨at0, mix, sz, h1, h2, h3, h4, by unfold SrcRow at *; rw [hb.block p hlt]; exact hr⟩, ?_⟩
  rcases hc with hc | ⟨xb, xo, ha, hx, hcell⟩
  · exact .inl hc
  · refine .inr ⟨xb, xo, ha, hx, fun i hi => ?_⟩
    obtain ⟨c, c0, c1, hci⟩ := hcell i hi
    exact ⟨c, c0, c1, by rw [hb.cell (p := ⟨xb, xo + i, none⟩) (by show xb < _; omega)]; exact hci⟩

theorem touch_own {w w1 w2 : World} {p : Nat} {row : Option Nat} (h : w.grownBy w1 (some p)) (k : w1.grownBy w2 row) (hr : ∀ j, row = some j → w.heap.size ≤ j) : w.grownBy w2 (some p) :=
  ⟨k.os.trans h.os, k.tape.trans h.tape, k.output.trans h.output, Nat.le_trans h.size k.size, fun i hi hne => (k.block i (Nat.lt_of_lt_of_le hi h.size) (fun e => by have := hr i e.symm; omega)).trans (h.block i hi hne)⟩

/-- The source behind a step that writes a block above it alone. -/
theorem Src.other {T : TypeId} {B p : Nat} {a : Option Addr} {len cap : Nat} {w w' : World} {row : Option Nat} (h : Src T B p a len cap w) (hg : w.grownBy w' row) (hr : ∀ j, row = some j → p < j) : Src T B p a len cap w' := by
  have hlt := h.lt
  obtain ⟨hB, hl, ⟨at0, mix, sz, h1, h2, h3, h4, hr1⟩, hc⟩ := h
  refine ⟨hB, hl, ⟨at0, mix, sz, h1, h2, h3, h4, by unfold SrcRow at *; rw [hg.block p hlt (fun e => by have := hr p e.symm; omega)]; exact hr1⟩, ?_⟩
  rcases hc with hc | ⟨xb, xo, ha, hx, hcell⟩
  · exact .inl hc
  · refine .inr ⟨xb, xo, ha, hx, fun i hi => ?_⟩
    obtain ⟨c, c0, c1, hci⟩ := hcell i hi
    exact ⟨c, c0, c1, hg.cell hci (fun e => by have := hr xb e.symm; omega)⟩

/-- The size that the source has. -/
theorem Src.size {T : TypeId} {B p : Nat} {a : Option Addr} {len cap : Nat} {w : World} (h : Src T B p a len cap w) : ∃ z : Int, 0 ≤ z ∧ z ≤ 12 ∧ w.cell? ⟨p, 3, none⟩ = some (.int .i64 z) := by
  obtain ⟨_, _, ⟨_, _, z, _, _, _, h4, hr⟩, _⟩ := h
  exact ⟨z, h4.1, h4.2, hr.cell.2.2.2⟩

theorem draw_bd (X most : Int) (hm : 1 < most) (hm2 : most ≤ 9223372036854775807) : 0 ≤ wrap64 ((IntKind.u64.wrap X).tmod most) ∧ wrap64 ((IntKind.u64.wrap X).tmod most) < most := by
  have h0 : 0 ≤ IntKind.u64.wrap X := by simp [IntKind.wrap, IntKind.bits, IntKind.signed]; omega
  rw [Int.tmod_eq_emod_of_nonneg h0]
  have h1 := Int.emod_nonneg (IntKind.u64.wrap X) (show most ≠ 0 by omega)
  have h2 := Int.emod_lt_of_pos (IntKind.u64.wrap X) (show 0 < most by omega)
  have h3 : wrap64 (IntKind.u64.wrap X % most) = IntKind.u64.wrap X % most := by unfold wrap64; omega
  rw [h3]; exact ⟨h1, h2⟩
end Go.Proofs.YtnaonldkbaapeacGreatDoor
/-
  What the draws' functions answer: n: a number from 0 to below most; one: a bool; bytes: a text of n bytes; edge: a number. The source's block alone is written; new memory apart nothing else turns.
  Conditions: the source is one ('Src').
-/
namespace Go.Proofs.YtnaonldkbaapeacGreatDoor
open Go.RowKit
set_option linter.unusedVariables false

/-- What n answers. -/
def nAns (most r : Int) : Prop := 0 ≤ r ∧ (1 < most → r < most) ∧ (most ≤ 1 → r = 0)

theorem infoU8d : (Tryz.prog.info? 5).map (fun i => (i.zero, i.size, i.bytes)) = some (some (.int .u8 0), 1, 1) := by kernel_rfl
theorem own_convD {w : World} {base g k cap : Nat} {xs : List Int} (h : w.ownsRow base 5 1 (.slice (some ⟨g, 0, none⟩) k cap) k (xs.map (Value.int .u8))) (hl : xs.length = k) :
    (convert 100 9 (.slice (some ⟨g, 0, none⟩) k cap)).run Tryz.prog w = .ok (.string (strOfNums xs)) w :=
  run_convert_bytes_arg (P := Tryz.prog) w 100 5 Tryz.underlying100 Tryz.underlying5 g 0 k cap xs hl (fun i hi => by
    rw [Nat.zero_add, h.cellAt i (by omega)]
    have : i < xs.length := by omega
    simp [List.getD, List.getElem?_eq_getElem this]) 9 Tryz.underlying9

theorem edge_at : ∀ k : Nat, k < 14 → ∃ v : Int, (#[.int .i64 0, .int .i64 1, .int .i64 (-1), .int .i64 2, .int .i64 1000, .int .i64 1001, .int .i64 2147483648, .int .i64 2147483647, .int .i64 (-2147483648), .int .i64 4611686018427387904, .int .i64 9223372036854775807, .int .i64 (-9223372036854775808), .int .i64 1000000, .int .i64 1000001] : Array Value)[k]? = some (.int .i64 v) ∧ -9223372036854775808 ≤ v ∧ v ≤ 9223372036854775807
  | 0, _ => ⟨_, rfl, by omega, by omega⟩
  | 1, _ => ⟨_, rfl, by omega, by omega⟩
  | 2, _ => ⟨_, rfl, by omega, by omega⟩
  | 3, _ => ⟨_, rfl, by omega, by omega⟩
  | 4, _ => ⟨_, rfl, by omega, by omega⟩
  | 5, _ => ⟨_, rfl, by omega, by omega⟩
  | 6, _ => ⟨_, rfl, by omega, by omega⟩
  | 7, _ => ⟨_, rfl, by omega, by omega⟩
  | 8, _ => ⟨_, rfl, by omega, by omega⟩
  | 9, _ => ⟨_, rfl, by omega, by omega⟩
  | 10, _ => ⟨_, rfl, by omega, by omega⟩
  | 11, _ => ⟨_, rfl, by omega, by omega⟩
  | 12, _ => ⟨_, rfl, by omega, by omega⟩
  | 13, _ => ⟨_, rfl, by omega, by omega⟩
  | k + 14, h => by omega

theorem wrapU_bd (x : Int) : 0 ≤ IntKind.u64.wrap x ∧ IntKind.u64.wrap x ≤ 18446744073709551615 := by
  simp [IntKind.wrap, IntKind.bits, IntKind.signed]; omega

end Go.Proofs.YtnaonldkbaapeacGreatDoor
/-
  What all drawn laws share: a new row of zeros as a text; the code's bytes ('CodeAt'); what a step on a source of the call's own leaves.
-/
namespace Go.Proofs.YtnaonldkbaapeacGreatDoor
open Go.RowKit Go.Lib
set_option linter.unusedVariables false

theorem infoU8s : (Tryz.prog.info? 5).map (fun i => (i.zero, i.size, i.bytes)) = some (some (.int .u8 0), 1, 1) := by kernel_rfl
theorem run_make_u8s (n : Nat) (hn : n ≤ 281474976710656) (w : World) :
    (Instr.makeSlice 100 (.int .i64 (n : Int)) (.int .i64 (n : Int))).run Tryz.prog w = .ok (.slice (some ⟨w.heap.size, 0, none⟩) n n) (w.alloc (.cells (zrow n).toArray 5)) := by
  obtain ⟨i0, hi, hz0, hz1, hz2⟩ := info_parts infoU8s
  have := run_make (P := Tryz.prog) w 100 5 i0 (.int .u8 0) Tryz.underlying100 hi hz0 .i64 .i64 (n : Int) (n : Int) (by omega) (by omega) (by rw [hz2]; omega) (by omega)
  rw [this, hz1]
  simp only [Int.toNat_natCast, Nat.mul_one]
  rw [← madeZ]; rfl
theorem zconv (n : Nat) (w : World) :
    (convert 100 9 (.slice (some ⟨w.heap.size, 0, none⟩) n n)).run Tryz.prog (w.alloc (.cells (zrow n).toArray 5)) = .ok (.string (strOfNums (List.replicate n 0))) (w.alloc (.cells (zrow n).toArray 5)) :=
  run_convert_bytes_arg (P := Tryz.prog) _ 100 5 Tryz.underlying100 Tryz.underlying5 w.heap.size 0 n n (List.replicate n 0) (by simp) (fun i hi => by
    rw [World.cell?_alloc_mark]; simp [zrow, hi]) 9 Tryz.underlying9

/-- The code's bytes lie there, below B. -/
def CodeAt (B : Nat) (a : Option Addr) (len : Nat) (w : World) : Prop :=
  len = 0 ∨ ∃ xb xo, a = some ⟨xb, xo, none⟩ ∧ xb < B ∧ ∀ i, i < len → ∃ c : Int, 0 ≤ c ∧ c ≤ 255 ∧ w.cell? ⟨xb, xo + i, none⟩ = some (.int .u8 c)
theorem CodeAt.below {B : Nat} {a : Option Addr} {len : Nat} {w w' : World} (h : CodeAt B a len w) (hb : Below B w w') : CodeAt B a len w' := by
  rcases h with h | ⟨xb, xo, ha, hx, hc⟩
  · exact .inl h
  · refine .inr ⟨xb, xo, ha, hx, fun i hi => ?_⟩
    obtain ⟨c, c0, c1, hci⟩ := hc i hi
    exact ⟨c, c0, c1, by rw [hb.cell (p := ⟨xb, xo + i, none⟩) hx]; exact hci⟩
/-- What a step on a source of the call's own leaves. -/
theorem below_touch {w w1 w2 : World} {p : Nat} (h : Below w.heap.size w w1) (k : w1.grownBy w2 (some p)) (hp : w.heap.size ≤ p) : Below w.heap.size w w2 :=
  h.grown k h.size (fun j hj => by cases hj; exact hp)
theorem results_tmp5 {fn : Func} {t u v x y : Tmp} (h : fn.results = #[.tmp t, .tmp u, .tmp v, .tmp x, .tmp y]) (tmps : Array Value) (P : Program) (w : World) :
    (results fn tmps).run P w = .ok (.tuple #[tmps.getD t undef, tmps.getD u undef, tmps.getD v undef, tmps.getD x undef, tmps.getD y undef]) w := by
  simp [results, h]
theorem edge4 (a b r : Int) (a0 : -9223372036854775808 ≤ a) (a1 : a ≤ 9223372036854775807) (b0 : -9223372036854775808 ≤ b) (b1 : b ≤ 9223372036854775807) (r0 : -9223372036854775808 ≤ r) (r1 : r ≤ 9223372036854775807) : ∀ k : Nat, k < 4 → ∃ v : Int, (#[.int .i64 a, .int .i64 b, .int .i64 r, .int .i64 4611686018427387904] : Array Value)[k]? = some (.int .i64 v) ∧ -9223372036854775808 ≤ v ∧ v ≤ 9223372036854775807
  | 0, _ => ⟨_, rfl, a0, a1⟩
  | 1, _ => ⟨_, rfl, b0, b1⟩
  | 2, _ => ⟨_, rfl, r0, r1⟩
  | 3, _ => ⟨_, rfl, by omega, by omega⟩
  | k + 4, h => by omega
end Go.Proofs.YtnaonldkbaapeacGreatDoor
/-
  What l03Some draws: at most 30 texts of at most 101 bytes each, in a row that the call owns. The source's block alone is written.
  Conditions: the source is one ('Src').
-/
namespace Go.Proofs.YtnaonldkbaapeacGreatDoor
open Go.RowKit Go.Lib
set_option linter.unusedVariables false
set_option maxRecDepth 20000

theorem BlkS.touch {w w' : World} {g p : Nat} {l : List ByteArray} (h : BlkS w g l) (hg : w.grownBy w' (some p)) (hne : g ≠ p) : BlkS w' g l := by
  unfold BlkS at *; rw [hg.block g (lt_of_block h) (fun e => hne (by cases e; rfl))]; exact h
theorem append_size (s t : ByteArray) : (s ++ t).size = s.size + t.size := by simp

theorem app_one (w : World) (base : Nat) (v : Value) (l : List ByteArray) (own : w.ownsRow base 9 1 v l.length (strRow l)) (T : ByteArray) (hl : l.length + 1 ≤ 1048576) (hbase : base ≤ w.heap.size) :
    ∃ v' w', (Builtin.append_ #[23, 23] 23 #[v, .slice (some ⟨w.heap.size, 0, none⟩) 1 1]).run Tryz.prog (w.alloc (.cells #[.string T] 9)) = .ok v' w' ∧ w'.ownsRow base 9 1 v' (l ++ [T]).length (strRow (l ++ [T])) ∧ (w.alloc (.cells #[.string T] 9)).grownBy w' v.ownBlock :=
  app_texts (w.alloc (.cells #[.string T] 9)) base v l (own.alloc _) (some ⟨w.heap.size, 0, none⟩) 1 [T] (alloc_str w [T]).txt hl (by simp; omega)
/-- What an append to an own row leaves of a source and of what was there. -/
theorem app_leaves {T : TypeId} {B p : Nat} {a : Option Addr} {len cap : Nat} {w0 w w' : World} {e : TypeId} {v : Value} {n : Nat} {xs : List Value} {x : Obj} (own : w.ownsRow w0.heap.size e 1 v n xs) (hs : Src T B p a len cap w) (hp : p < w0.heap.size) (hg : w0.grownBy w (some p)) (h : (w.alloc x).grownBy w' v.ownBlock) :
    Src T B p a len cap w' ∧ w0.grownBy w' (some p) := by
  have hrow : ∀ j, v.ownBlock = some j → w0.heap.size ≤ j := fun j hj => (own.lt j hj).1
  exact ⟨(hs.below ((Below.refl _ _).alloc (Nat.le_refl _) _)).other h (fun j hj => by have := hrow j hj; omega), touch_own (touch_below hg ((Below.refl _ _).alloc (Nat.le_refl _) _)) h hrow⟩

def fourS : List ByteArray := [⟨#[97]⟩, ⟨#[98]⟩, ⟨#[]⟩, ⟨#[101, 110, 116, 114, 121]⟩]
theorem fourS_small : ∀ t ∈ fourS, t.size ≤ 5 := by decide

end Go.Proofs.YtnaonldkbaapeacGreatDoor
/-
  What the specification's l03Is answers, of any two bounds.
-/
namespace Go.Proofs.YtnaonldkbaapeacGreatDoor
open Go.RowKit Go.Lib
set_option linter.unusedVariables false
set_option maxRecDepth 20000

theorem isIn_any (n lo hi : Int) (w : World) : Calls Tryz.prog 51 #[.int .i64 n, .int .i64 lo, .int .i64 hi] w fun e w' => e = .returned (.bool (decide (lo ≤ n ∧ n ≤ hi))) ∧ w' = w := by
  by_cases h1 : lo ≤ n
  · have d1 : decide (lo ≤ n) = true := decide_eq_true h1
    by_cases h2 : n ≤ hi
    · have d2 : decide (n ≤ hi) = true := decide_eq_true h2
      have H : Hid (decide (lo ≤ n ∧ n ≤ hi) = true) := decide_eq_true ⟨h1, h2⟩
      rw [H.out]
      clear H
      go_enter Tryz.func51, Tryz.ntmps51
      go_wp2
      go_ret
      exact ⟨rfl, rfl⟩
    · have d2 : decide (n ≤ hi) = false := decide_eq_false h2
      have H : Hid (decide (lo ≤ n ∧ n ≤ hi) = false) := decide_eq_false fun h => h2 h.2
      rw [H.out]
      clear H
      go_enter Tryz.func51, Tryz.ntmps51
      go_wp2
      go_ret
      exact ⟨rfl, rfl⟩
  · have d1 : decide (lo ≤ n) = false := decide_eq_false h1
    have H : Hid (decide (lo ≤ n ∧ n ≤ hi) = false) := decide_eq_false fun h => h1 h.1
    rw [H.out]
    clear H
    go_enter Tryz.func51, Tryz.ntmps51
    go_wp2
    go_ret
    exact ⟨rfl, rfl⟩
end Go.Proofs.YtnaonldkbaapeacGreatDoor
