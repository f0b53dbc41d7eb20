/-
  Parts of one proof, laid as one text: FldG, Src, Draws, DrawKit, AppS, Some, DrawTree, ScanMath; what each says stands at its head.
-/
import Derived.Test.YtepmoihgemhjcaaGreatDoorRows
import Derived.Test.YtepmoihgemhjcaaGreatDoorBytesDigMath
import Derived.Test.YtepmoihgemhjcaaGreatDoorTreeMathSlABxKSlBOwnS
import Derived.Test.YtepmoihgemhjcaaGreatDoorTimeBPutMathPutNumJoinedPutTextFldMath
import Derived.Handy
import Derived.OwnWalk
import Derived.WalkKit
import Derived.ProofKit
import Derived.Below
import Derived.Laws.Closers25b
import Derived.Deep.AppendLies
import Derived.Deep.Draws
import Derived.WalkSpells
import Derived.RegionTactic
import Derived.BigRegion
import Derived.Deep.QuietTactic
import Derived.BigQuiet
import Derived.Laws.BytesArg
import Derived.Laws.BitsAllLaws
import Derived.Laws.Bits64b
import Derived.Lib.Strings
/-
  What forgetting leaves, as plain functions; a field put into a row of fields of one's own.
-/
namespace Go.Proofs.YtepmoihgemhjcaaGreatDoor
open Go.RowKit Go.Lib
set_option linter.unusedVariables false

theorem fldRow_set : ∀ (fs : List Fld) (i : Nat) (f : Fld), (((((fldRow fs).set (i * 5) (.string f.n)).set (i * 5 + 1) (.string f.c)).set (i * 5 + 2) (.string f.s)).set (i * 5 + 3) (.string f.v)).set (i * 5 + 4) (.bool f.g) = fldRow (fs.set i f)
  | [], i, f => by simp [fldRow]
  | g :: fs, 0, f => rfl
  | g :: fs, i + 1, f => by
    have ih := fldRow_set fs i f
    rw [show (i + 1) * 5 = i * 5 + 5 by omega, show i * 5 + 5 + 1 = i * 5 + 1 + 5 by omega, show i * 5 + 5 + 2 = i * 5 + 2 + 5 by omega, show i * 5 + 5 + 3 = i * 5 + 3 + 5 by omega, show i * 5 + 5 + 4 = i * 5 + 4 + 5 by omega]
    show .string g.n :: .string g.c :: .string g.s :: .string g.v :: .bool g.g :: _ = .string g.n :: .string g.c :: .string g.s :: .string g.v :: .bool g.g :: fldRow (fs.set i f)
    rw [← ih]; rfl
def set5 (w : World) (g o : Nat) (f : Fld) : World := ((((w.setCell ⟨g, o, none⟩ (.string f.n)).setCell ⟨g, o + 1, none⟩ (.string f.c)).setCell ⟨g, o + 2, none⟩ (.string f.s)).setCell ⟨g, o + 3, none⟩ (.string f.v)).setCell ⟨g, o + 4, none⟩ (.bool f.g)
theorem own_set5 {w : World} {base b n cc : Nat} {fs : List Fld} (h : w.ownsRow base 103 5 (.slice (some ⟨b, 0, none⟩) n cc) n (fldRow fs)) (i : Nat) (f : Fld) : (set5 w b (i * 5) f).ownsRow base 103 5 (.slice (some ⟨b, 0, none⟩) n cc) n (fldRow (fs.set i f)) := by
  have h1 := (h.stored (i * 5) (.string f.n)).1
  have h2 := (h1.stored (i * 5 + 1) (.string f.c)).1
  have h3 := (h2.stored (i * 5 + 2) (.string f.s)).1
  have h4 := (h3.stored (i * 5 + 3) (.string f.v)).1
  have h5 := (h4.stored (i * 5 + 4) (.bool f.g)).1
  rw [fldRow_set] at h5
  exact h5
theorem set5_other {w : World} {g b o : Nat} {T : TypeId} {cs : Array Value} (h : Bxs w g T cs) (hne : b ≠ g) (f : Fld) : Bxs (set5 w b o f) g T cs := ((((h.other b _ hne _).other b _ hne _).other b _ hne _).other b _ hne _).other b _ hne _
theorem set5_below {B : Nat} {a w : World} (h : Below B a w) {g : Nat} (hg : B ≤ g) (o : Nat) (f : Fld) : Below B a (set5 w g o f) := ((((h.setCell hg _).setCell hg _).setCell hg _).setCell hg _).setCell hg _
/-! ### What Forget answers -/
def fldD : Fld := ⟨ByteArray.empty, ByteArray.empty, ByteArray.empty, ByteArray.empty, false⟩
def fgC (k : ByteArray) (at_ : Int) (fs : List Fld) (i : Int) : Int := if rwB k at_ fs = true then (if 0 ≤ i ∧ i ≤ (fs.length : Int) - 1 then (if (fs.getD i.toNat fldD).g = true then 7 else 0) else 6) else 1
def fgK (k : ByteArray) (at_ : Int) (fs : List Fld) (i : Int) : ByteArray := if fgC k at_ fs i = 0 then k else ByteArray.empty
def fgA (k : ByteArray) (at_ : Int) (fs : List Fld) (i : Int) : Int := if fgC k at_ fs i = 0 then at_ else 0
def fgF (k : ByteArray) (at_ : Int) (fs : List Fld) (i : Int) : List Fld := if fgC k at_ fs i = 0 then fs.set i.toNat (goneF (fs.getD i.toNat fldD)) else []
end Go.Proofs.YtepmoihgemhjcaaGreatDoor
/-
  What a draw's source is in memory, over any program: a block of four cells (the code's slice, a place, a number that is mixed, a size); what is written when one draws: that block alone.
-/
namespace Go.Proofs.YtepmoihgemhjcaaGreatDoor
open Go.RowKit
set_option linter.unusedVariables false

theorem cell_set (w : World) (b o : Nat) (v : Value) : (w.setCell ⟨b, o, none⟩ v).cell? ⟨b, o, none⟩ = (w.cell? ⟨b, o, none⟩).map (fun _ => v) := by
  cases h : w.cell? ⟨b, o, none⟩ with
  | some u => rw [World.cell?_setCell_same _ _ _ h]; rfl
  | none =>
    simp only [Option.map_none]
    cases hb : w.heap[b]? with
    | none => simp [World.cell?, World.setCell, Array.getElem?_modify, hb]
    | some ob =>
      cases ob with
      | cells c t fr =>
        have hc : c[o]? = none := by simpa [World.cell?, hb] using h
        have hs : c.size ≤ o := by simpa using hc
        simp [World.cell?, World.setCell, Array.getElem?_modify, hb, hs]
      | map a b' => simp [World.cell?, World.setCell, Array.getElem?_modify, hb]
      | _ => simp [World.cell?, World.setCell, Array.getElem?_modify, hb]

def SrcRow (T : TypeId) (p : Nat) (sl : Value) (a m z : Int) (w : World) : Prop := w.heap[p]? = some (.cells #[sl, .int .i64 a, .int .u64 m, .int .i64 z] T (0, 0))

section
variable {T : TypeId} {p : Nat} {sl : Value} {a m z : Int} {w : World}
theorem SrcRow.cell (h : SrcRow T p sl a m z w) : w.cell? ⟨p, 0, none⟩ = some sl ∧ w.cell? ⟨p, 1, none⟩ = some (.int .i64 a) ∧ w.cell? ⟨p, 2, none⟩ = some (.int .u64 m) ∧ w.cell? ⟨p, 3, none⟩ = some (.int .i64 z) := by
  unfold SrcRow at h; simp [World.cell?, h]
theorem SrcRow.free (h : SrcRow T p sl a m z w) (i : Nat) : w.frozen? ⟨p, i, none⟩ = false := by
  unfold SrcRow at h; simp [World.frozen?, h]
theorem SrcRow.lt (h : SrcRow T p sl a m z w) : p < w.heap.size := by
  unfold SrcRow at h
  rcases Nat.lt_or_ge p w.heap.size with h' | h'
  · exact h'
  · rw [Array.getElem?_eq_none h'] at h; cases h
theorem SrcRow.set1 (h : SrcRow T p sl a m z w) (a' : Int) : SrcRow T p sl a' m z (w.setCell ⟨p, 1, none⟩ (.int .i64 a')) := by
  unfold SrcRow at *; simp [World.setCell, Array.getElem?_modify, h]
theorem SrcRow.set2 (h : SrcRow T p sl a m z w) (m' : Int) : SrcRow T p sl a m' z (w.setCell ⟨p, 2, none⟩ (.int .u64 m')) := by
  unfold SrcRow at *; simp [World.setCell, Array.getElem?_modify, h]
theorem SrcRow.set3 (h : SrcRow T p sl a m z w) (z' : Int) : SrcRow T p sl a m z' (w.setCell ⟨p, 3, none⟩ (.int .i64 z')) := by
  unfold SrcRow at *; simp [World.setCell, Array.getElem?_modify, h]
theorem SrcRow.drew (h : SrcRow T p sl a m z w) : SrcRow T p sl a m z w.drew := h
theorem SrcRow.drewN (h : SrcRow T p sl a m z w) (n : Nat) : SrcRow T p sl a m z (w.drewN n) := h
end

theorem touch_set {w w' : World} {p : Nat} (h : w.grownBy w' (some p)) (i : Nat) (v : Value) : w.grownBy (w'.setCell ⟨p, i, none⟩ v) (some p) :=
  ⟨h.os, h.tape, h.output, by simpa [World.setCell] using h.size, fun k hk hne => by
    rw [Below.heap_setCell _ _ _ _ (fun e => hne (by rw [e]))]; exact h.block k hk hne⟩
theorem touch_drew {w w' : World} {p : Nat} (h : w.grownBy w' (some p)) : w.grownBy w'.drew (some p) := ⟨h.os, h.tape, h.output, h.size, h.block⟩
theorem touch_drewN {w w' : World} {p n : Nat} (h : w.grownBy w' (some p)) : w.grownBy (w'.drewN n) (some p) := ⟨h.os, h.tape, h.output, h.size, h.block⟩
theorem touch_trans {w w1 w2 : World} {p : Nat} (h : w.grownBy w1 (some p)) (k : w1.grownBy w2 (some p)) : w.grownBy w2 (some p) :=
  ⟨k.os.trans h.os, k.tape.trans h.tape, k.output.trans h.output, Nat.le_trans h.size k.size, fun i hi hne => (k.block i (Nat.lt_of_lt_of_le hi h.size) hne).trans (h.block i hi hne)⟩
theorem touch_below {w w1 w2 : World} {p : Nat} (h : w.grownBy w1 (some p)) (k : Below w1.heap.size w1 w2) : w.grownBy w2 (some p) :=
  ⟨k.os.trans h.os, k.tape.trans h.tape, k.output.trans h.output, Nat.le_trans h.size k.size, fun i hi hne => (k.block i (Nat.lt_of_lt_of_le hi h.size)).trans (h.block i hi hne)⟩

/-- A source at block p (p ≥ B) over a code of 'len' bytes that lies below B. -/
def Src (T : TypeId) (B p : Nat) (a : Option Addr) (len cap : Nat) (w : World) : Prop :=
  B ≤ p ∧ len ≤ 1048576 ∧ (∃ (at0 : Nat) (mix sz : Int), at0 ≤ len ∧ 0 ≤ mix ∧ mix ≤ 18446744073709551615 ∧ (0 ≤ sz ∧ sz ≤ 12) ∧ SrcRow T p (.slice a len cap) at0 mix sz w) ∧
  (len = 0 ∨ ∃ xb xo, a = some ⟨xb, xo, none⟩ ∧ xb < B ∧ ∀ i, i < len → ∃ c : Int, 0 ≤ c ∧ c ≤ 255 ∧ w.cell? ⟨xb, xo + i, none⟩ = some (.int .u8 c))

theorem Src.lt {T : TypeId} {B p : Nat} {a : Option Addr} {len cap : Nat} {w : World} (h : Src T B p a len cap w) : p < w.heap.size := by
  obtain ⟨_, _, ⟨_, _, _, _, _, _, _, hr⟩, _⟩ := h; exact hr.lt

/-- The source behind a step that writes its block alone, its row given. -/
theorem Src.step {T : TypeId} {B p : Nat} {a : Option Addr} {len cap : Nat} {w w' : World} (h : Src T B p a len cap w) (hg : w.grownBy w' (some p))
    {at0 : Nat} {mix sz : Int} (h1 : at0 ≤ len) (h2 : 0 ≤ mix) (h3 : mix ≤ 18446744073709551615) (h4 : 0 ≤ sz ∧ sz ≤ 12) (hr : SrcRow T p (.slice a len cap) at0 mix sz w') : Src T B p a len cap w' := by
  have hlt := h.lt
  obtain ⟨hB, hl, _, hc⟩ := h
  refine ⟨hB, hl, ⟨at0, mix, sz, h1, h2, h3, h4, hr⟩, ?_⟩
  rcases hc with hc | ⟨xb, xo, ha, hx, hcell⟩
  · exact .inl hc
  · refine .inr ⟨xb, xo, ha, hx, fun i hi => ?_⟩
    obtain ⟨c, c0, c1, hci⟩ := hcell i hi
    exact ⟨c, c0, c1, hg.cell hci (by simp; omega)⟩

/-- The source behind a step that turns nothing that was there. -/
theorem Src.below {T : TypeId} {B p : Nat} {a : Option Addr} {len cap : Nat} {w w' : World} (h : Src T B p a len cap w) (hb : Below w.heap.size w w') : Src T B p a len cap w' := by
  have hlt := h.lt
  obtain ⟨hB, hl, ⟨at0, mix, sz, h1, h2, h3, h4, hr⟩, hc⟩ := h
  refine ⟨hB, hl, ⟨at0, mix, sz, h1, h2, h3, h4, by unfold SrcRow at *; rw [hb.block p hlt]; exact hr⟩, ?_⟩
  rcases hc with hc | ⟨xb, xo, ha, hx, hcell⟩
  · exact .inl hc
  · refine .inr ⟨xb, xo, ha, hx, fun i hi => ?_⟩
    obtain ⟨c, c0, c1, hci⟩ := hcell i hi
    exact ⟨c, c0, c1, by rw [hb.cell (p := ⟨xb, xo + i, none⟩) (by show xb < _; omega)]; exact hci⟩

theorem touch_own {w w1 w2 : World} {p : Nat} {row : Option Nat} (h : w.grownBy w1 (some p)) (k : w1.grownBy w2 row) (hr : ∀ j, row = some j → w.heap.size ≤ j) : w.grownBy w2 (some p) :=
  ⟨k.os.trans h.os, k.tape.trans h.tape, k.output.trans h.output, Nat.le_trans h.size k.size, fun i hi hne => (k.block i (Nat.lt_of_lt_of_le hi h.size) (fun e => by have := hr i e.symm; omega)).trans (h.block i hi hne)⟩

/-- The source behind a step that writes a block above it alone. -/
theorem Src.other {T : TypeId} {B p : Nat} {a : Option Addr} {len cap : Nat} {w w' : World} {row : Option Nat} (h : Src T B p a len cap w) (hg : w.grownBy w' row) (hr : ∀ j, row = some j → p < j) : Src T B p a len cap w' := by
  have hlt := h.lt
  obtain ⟨hB, hl, ⟨at0, mix, sz, h1, h2, h3, h4, hr1⟩, hc⟩ := h
  refine ⟨hB, hl, ⟨at0, mix, sz, h1, h2, h3, h4, by unfold SrcRow at *; rw [hg.block p hlt (fun e => by have := hr p e.symm; omega)]; exact hr1⟩, ?_⟩
  rcases hc with hc | ⟨xb, xo, ha, hx, hcell⟩
  · exact .inl hc
  · refine .inr ⟨xb, xo, ha, hx, fun i hi => ?_⟩
    obtain ⟨c, c0, c1, hci⟩ := hcell i hi
    exact ⟨c, c0, c1, hg.cell hci (fun e => by have := hr xb e.symm; omega)⟩

/-- The size that the source has. -/
theorem Src.size {T : TypeId} {B p : Nat} {a : Option Addr} {len cap : Nat} {w : World} (h : Src T B p a len cap w) : ∃ z : Int, 0 ≤ z ∧ z ≤ 12 ∧ w.cell? ⟨p, 3, none⟩ = some (.int .i64 z) := by
  obtain ⟨_, _, ⟨_, _, z, _, _, _, h4, hr⟩, _⟩ := h
  exact ⟨z, h4.1, h4.2, hr.cell.2.2.2⟩

theorem draw_bd (X most : Int) (hm : 1 < most) (hm2 : most ≤ 9223372036854775807) : 0 ≤ wrap64 ((IntKind.u64.wrap X).tmod most) ∧ wrap64 ((IntKind.u64.wrap X).tmod most) < most := by
  have h0 : 0 ≤ IntKind.u64.wrap X := by simp [IntKind.wrap, IntKind.bits, IntKind.signed]; omega
  rw [Int.tmod_eq_emod_of_nonneg h0]
  have h1 := Int.emod_nonneg (IntKind.u64.wrap X) (show most ≠ 0 by omega)
  have h2 := Int.emod_lt_of_pos (IntKind.u64.wrap X) (show 0 < most by omega)
  have h3 : wrap64 (IntKind.u64.wrap X % most) = IntKind.u64.wrap X % most := by unfold wrap64; omega
  rw [h3]; exact ⟨h1, h2⟩
end Go.Proofs.YtepmoihgemhjcaaGreatDoor
/-
  What the draws' functions answer: n: a number from 0 to below most; one: a bool; bytes: a text of n bytes; edge: a number. The source's block alone is written; new memory apart nothing else turns.
  Conditions: the source is one ('Src').
-/
namespace Go.Proofs.YtepmoihgemhjcaaGreatDoor
open Go.RowKit
set_option linter.unusedVariables false

/-- What n answers. -/
def nAns (most r : Int) : Prop := 0 ≤ r ∧ (1 < most → r < most) ∧ (most ≤ 1 → r = 0)

set_option maxHeartbeats 4000000 in
theorem n_any (B p : Nat) (a : Option Addr) (len cap : Nat) (most : Int) (w : World) (hs : Src 126 B p a len cap w) (hm2 : most ≤ 9223372036854775807) :
    Calls Tryz.prog 63 #[.pointer (some ⟨p, 0, none⟩), .int .i64 most] w fun e w' =>
      (∃ r, e = .returned (.int .i64 r) ∧ nAns most r) ∧ Src 126 B p a len cap w' ∧ w.grownBy w' (some p) := by
  by_cases hm : most ≤ 1
  · have HS : Hid (Src 126 B p a len cap w) := hs
    clear hs
    go_enter Tryz.func63, Tryz.ntmps63
    go_wp2
    go_ret
    exact ⟨⟨0, rfl, Int.le_refl _, fun h => by omega, fun _ => rfl⟩, HS.out, World.grownBy.refl _ _⟩
  have hm1 : 1 < most := by omega
  have HS : Hid (Src 126 B p a len cap w) := hs
  obtain ⟨hB, hlen, ⟨at0, mix, sz, hat, m0, m1, hz, hrow⟩, hcode⟩ := hs
  obtain ⟨h0, h1, h2, h3⟩ := hrow.cell
  have f1 := hrow.free 1
  have f2 := hrow.free 2
  have HR : Hid (SrcRow 126 p (.slice a len cap) at0 mix sz w) := hrow
  have hset := fun (W : World) (v : Value) => cell_set W p 2 v
  clear hrow h3
  by_cases hlt : at0 < len
  · rcases hcode with hc | ⟨xb, xo, ha, hxB, hcell⟩
    · omega
    subst ha
    obtain ⟨c, c0, c1, hx⟩ := hcell at0 hlt
    clear hcell
    have i1 : (at0 : Int) < (len : Int) := by omega
    have i0 : (0 : Int) ≤ (at0 : Int) := by omega
    go_enter Tryz.func63, Tryz.ntmps63
    go_wp2
    go_quiet (fail)
    go_wp2
    go_quiet (fail)
    go_wp2
    go_region
    go_wp2
    go_region
    go_wp2
    go_region
    go_wp2
    go_ret
    refine ⟨⟨_, rfl, (draw_bd _ most hm1 hm2).1, fun _ => (draw_bd _ most hm1 hm2).2, fun h => by omega⟩, HS.out.step ?_ (at0 := at0 + 1) (by omega) (bits_lo_u64 _ _ _) (bits_hi_u64 _ _ _) hz ((((((HR.out.drewN _).set1 _).set2 _).set2 _).set2 _).drew.drew.drew), ?_⟩
    all_goals exact touch_drew (touch_drew (touch_drew (touch_set (touch_set (touch_set (touch_set (touch_drewN (World.grownBy.refl _ _)) _ _) _ _) _ _) _ _)))
  · have i1 : ¬ (at0 : Int) < (len : Int) := by omega
    have d1 : decide ((at0 : Int) < (len : Int)) = false := by simp; omega
    clear hcode
    go_enter Tryz.func63, Tryz.ntmps63
    go_wp2
    go_quiet (fail)
    go_wp2
    go_region
    go_wp2
    go_region
    go_wp2
    go_region
    go_wp2
    go_ret
    refine ⟨⟨_, rfl, (draw_bd _ most hm1 hm2).1, fun _ => (draw_bd _ most hm1 hm2).2, fun h => by omega⟩, HS.out.step ?_ (at0 := at0) hat (bits_lo_u64 _ _ _) (bits_hi_u64 _ _ _) hz (((((HR.out.drewN _).set2 _).set2 _).set2 _).drew.drew), ?_⟩
    all_goals exact touch_drew (touch_drew (touch_set (touch_set (touch_set (touch_drewN (World.grownBy.refl _ _)) _ _) _ _) _ _))

set_option maxHeartbeats 1000000 in
theorem one_any (B p : Nat) (a : Option Addr) (len cap : Nat) (most : Int) (w : World) (hs : Src 126 B p a len cap w) (hm2 : most ≤ 9223372036854775807) :
    Calls Tryz.prog 55 #[.pointer (some ⟨p, 0, none⟩), .int .i64 most] w fun e w' =>
      (∃ r, e = .returned (.bool r)) ∧ Src 126 B p a len cap w' ∧ w.grownBy w' (some p) := by
  have HS : Hid (Src 126 B p a len cap w) := hs
  clear hs
  go_enter Tryz.func55, Tryz.ntmps55
  go_wp2_with fail
  refine (n_any B p a len cap _ _ HS.out hm2).mono ?_
  rintro e w1 ⟨⟨r, rfl, hr⟩, hs1, hg1⟩
  have H1 : Hid (Src 126 B p a len cap w1) := hs1
  clear hs1 hr
  go_wp2
  go_ret
  exact ⟨⟨_, rfl⟩, H1.out, hg1⟩

theorem infoU8d : (Tryz.prog.info? 5).map (fun i => (i.zero, i.size, i.bytes)) = some (some (.int .u8 0), 1, 1) := by kernel_rfl
theorem own_convD {w : World} {base g k cap : Nat} {xs : List Int} (h : w.ownsRow base 5 1 (.slice (some ⟨g, 0, none⟩) k cap) k (xs.map (Value.int .u8))) (hl : xs.length = k) :
    (convert 22 9 (.slice (some ⟨g, 0, none⟩) k cap)).run Tryz.prog w = .ok (.string (strOfNums xs)) w :=
  run_convert_bytes_arg (P := Tryz.prog) w 22 5 Tryz.underlying22 Tryz.underlying5 g 0 k cap xs hl (fun i hi => by
    rw [Nat.zero_add, h.cellAt i (by omega)]
    have : i < xs.length := by omega
    simp [List.getD, List.getElem?_eq_getElem this]) 9 Tryz.underlying9

set_option maxHeartbeats 2000000 in
theorem bytes_any (B p : Nat) (a : Option Addr) (len cap : Nat) (n : Int) (w : World) (hs : Src 126 B p a len cap w) (hn : n ≤ 1048576) :
    Calls Tryz.prog 174 #[.pointer (some ⟨p, 0, none⟩), .int .i64 n] w fun e w' =>
      (∃ t : ByteArray, e = .returned (.string t) ∧ t.size = n.toNat) ∧ Src 126 B p a len cap w' ∧ w.grownBy w' (some p) := by
  obtain ⟨i0, hi, hz0, hz1, hz2⟩ := info_parts infoU8d
  have hp := hs.lt
  have HS : Hid (Src 126 B p a len cap w) := hs
  clear hs
  go_enter Tryz.func174, Tryz.ntmps174
  go_wp2
  go_loopw [5, 6] (fun v i wr => ∃ (k : Nat) (pre : List Int) (g cp : Nat), i = .int .i64 k ∧ (k : Int) ≤ max n 0 ∧ v = .slice (some ⟨g, 0, none⟩) k cp ∧ Hid (pre.length = k) ∧ wr.ownsRow w.heap.size 5 1 (.slice (some ⟨g, 0, none⟩) k cp) k (pre.map (Value.int .u8)) ∧ Hid (Src 126 B p a len cap wr) ∧ w.grownBy wr (some p)) (fun _ i _ => (n - Go.RowKit.intOf i).toNat)
  case atStart =>
    exact ⟨0, [], w.heap.size, 0, rfl, by omega, rfl, rfl, World.ownsRow_made w #[] 0 (Nat.le_refl _) (by unfold maxLen; omega) rfl, HS.out.below ((Below.refl _ _).alloc (Nat.le_refl _) _), World.grownBy_alloc _ _ _⟩
  case round =>
    obtain ⟨k, pre, g, cp, rfl, hk, rfl, HL, hown, HS1, hg1⟩ := hrel
    have hsz : w.heap.size ≤ wr.heap.size := hg1.size
    by_cases hlt : (k : Int) < n
    · go_wp2_with fail
      refine (n_any B p a len cap 256 _ HS1.out (by omega)).mono ?_
      rintro e w1 ⟨⟨r, rfl, hr0, hr1, _⟩, hs1, hg2⟩
      have hr2 : r < 256 := hr1 (by omega)
      have hgl := (hown.lt g rfl).1
      have hown1 := hown.kept hg2 (.inr (by show some g ≠ some p; simp; omega))
      have H1 : Hid (Src 126 B p a len cap w1) := hs1
      have hg3 := touch_trans hg1 hg2
      have hsz1 : w.heap.size ≤ w1.heap.size := hg3.size
      clear hs1 hr1 HS1 hown hg1 hg2
      go_wp2_with (at_builtin; refine wpList_append_lies _ rfl _ _ 22 rfl w.heap.size 5 i0 (.int .u8 0) 1 1 Tryz.underlying22 hi hz0 hz1 hz2 rfl (by omega) _ k _ rfl (hown1.alloc _) ⟨w1.heap.size, 0, none⟩ 1 1 [.int .u8 r] rfl rfl (World.news_of_block (cs := #[.int .u8 r]) (t := 5) (fr := (0, 0)) (heap_alloc_new w1 _)) (by simp [Value.oneCell']) (by omega) (by unfold maxLen; omega) (by omega) (by simp; omega) (w1.heap.size + 1) (by simp) ?_; intro g2 cap2 w2 hown2 hgrow hat hltg)
      have hrow : ∀ j, (Value.slice (some ⟨g, 0, none⟩) k cp).ownBlock = some j → w.heap.size ≤ j := fun j hj => (hown1.lt j hj).1
      have hs2 : Src 126 B p a len cap w2 := (H1.out.below ((Below.refl _ _).alloc (Nat.le_refl _) _)).other hgrow (fun j hj => by have := hrow j hj; omega)
      have hg4 : w.grownBy w2 (some p) := touch_own (touch_below hg3 ((Below.refl _ _).alloc (Nat.le_refl _) _)) hgrow hrow
      have ho2 : w2.ownsRow w.heap.size 5 1 (.slice (some ⟨g2, 0, none⟩) (k + 1) cap2) (k + 1) ((pre ++ [r]).map (Value.int .u8)) := by rw [List.map_append]; exact hown2
      go_roundw
      case rel => exact ⟨k + 1, pre ++ [r], g2, cap2, by go_num, by omega, rfl, by show _ = _; rw [List.length_append, HL.out]; rfl, ho2, hs2, hg4⟩
      case measure => simp [Go.RowKit.intOf]; omega
    · have hconv := own_convD (xs := pre) hown HL.out
      have hkn : k = n.toNat := by omega
      have HK : Hid (k = n.toNat) := hkn
      clear hkn
      go_wp2
      go_ret
      exact ⟨⟨_, rfl, by rw [strOfNums_size, HL.out, HK.out]⟩, HS1.out, hg1⟩

theorem edge_at : ∀ k : Nat, k < 14 → ∃ v : Int, (#[.int .i64 0, .int .i64 1, .int .i64 (-1), .int .i64 2, .int .i64 1000, .int .i64 1001, .int .i64 2147483648, .int .i64 2147483647, .int .i64 (-2147483648), .int .i64 4611686018427387904, .int .i64 9223372036854775807, .int .i64 (-9223372036854775808), .int .i64 1000000, .int .i64 1000001] : Array Value)[k]? = some (.int .i64 v) ∧ -9223372036854775808 ≤ v ∧ v ≤ 9223372036854775807
  | 0, _ => ⟨_, rfl, by omega, by omega⟩
  | 1, _ => ⟨_, rfl, by omega, by omega⟩
  | 2, _ => ⟨_, rfl, by omega, by omega⟩
  | 3, _ => ⟨_, rfl, by omega, by omega⟩
  | 4, _ => ⟨_, rfl, by omega, by omega⟩
  | 5, _ => ⟨_, rfl, by omega, by omega⟩
  | 6, _ => ⟨_, rfl, by omega, by omega⟩
  | 7, _ => ⟨_, rfl, by omega, by omega⟩
  | 8, _ => ⟨_, rfl, by omega, by omega⟩
  | 9, _ => ⟨_, rfl, by omega, by omega⟩
  | 10, _ => ⟨_, rfl, by omega, by omega⟩
  | 11, _ => ⟨_, rfl, by omega, by omega⟩
  | 12, _ => ⟨_, rfl, by omega, by omega⟩
  | 13, _ => ⟨_, rfl, by omega, by omega⟩
  | k + 14, h => by omega

set_option maxHeartbeats 2000000 in
theorem edge_any (B p : Nat) (a : Option Addr) (len cap : Nat) (w : World) (hs : Src 126 B p a len cap w) :
    Calls Tryz.prog 69 #[.pointer (some ⟨p, 0, none⟩)] w fun e w' =>
      (∃ r, e = .returned (.int .i64 r) ∧ -9223372036854775808 ≤ r ∧ r ≤ 9223372036854775807) ∧ Src 126 B p a len cap w' ∧ w.grownBy w' (some p) := by
  have HS : Hid (Src 126 B p a len cap w) := hs
  have hp := hs.lt
  clear hs
  go_enter Tryz.func69, Tryz.ntmps69
  go_wp2_with fail
  refine (n_any B p a len cap 14 _ (HS.out.below ((Below.refl _ _).alloc (Nat.le_refl _) _)) (by omega)).mono ?_
  rintro e w1 ⟨⟨r, rfl, hr0, hr1, _⟩, hs1, hg1⟩
  have hr2 : r < 14 := hr1 (by omega)
  obtain ⟨k, rfl⟩ := Int.eq_ofNat_of_zero_le hr0
  obtain ⟨v, hv, v0, v1⟩ := edge_at k (by omega)
  have hcell := hg1.cell_far ⟨w.heap.size, k, none⟩ (by simp) (by simp; omega)
  rw [World.cell?_alloc_mark, hv] at hcell
  have H1 : Hid (Src 126 B p a len cap w1) := hs1
  have hg2 : w.grownBy w1 (some p) := touch_trans (World.grownBy_alloc _ _ _) hg1
  clear hs1 hr1 hg1 hv
  go_wp2_with fail
  go_ret
  exact ⟨⟨v, rfl, v0, v1⟩, H1.out, hg2⟩

theorem wrapU_bd (x : Int) : 0 ≤ IntKind.u64.wrap x ∧ IntKind.u64.wrap x ≤ 18446744073709551615 := by
  simp [IntKind.wrap, IntKind.bits, IntKind.signed]; omega

set_option maxHeartbeats 2000000 in
theorem source_any (B : Nat) (a : Option Addr) (len cap : Nat) (w : World) (hlen : len ≤ 1048576) (hB : B ≤ w.heap.size)
    (hcode : len = 0 ∨ ∃ xb xo, a = some ⟨xb, xo, none⟩ ∧ xb < B ∧ ∀ i, i < len → ∃ c : Int, 0 ≤ c ∧ c ≤ 255 ∧ w.cell? ⟨xb, xo + i, none⟩ = some (.int .u8 c)) :
    Calls Tryz.prog 53 #[.slice a len cap] w fun e w' =>
      e = .returned (.pointer (some ⟨w.heap.size, 0, none⟩)) ∧ Src 126 B w.heap.size a len cap w' ∧ Below w.heap.size w w' := by
  have HC : Hid (len = 0 ∨ ∃ xb xo, a = some ⟨xb, xo, none⟩ ∧ xb < B ∧ ∀ i, i < len → ∃ c : Int, 0 ≤ c ∧ c ≤ 255 ∧ w.cell? ⟨xb, xo + i, none⟩ = some (.int .u8 c)) := hcode
  clear hcode
  go_enter Tryz.func53, Tryz.ntmps53
  go_wp2
  go_loopw [4] (fun i wr => ∃ (k : Nat) (mix : Int), i = .int .i64 k ∧ k ≤ len ∧ k ≤ 64 ∧ 0 ≤ mix ∧ mix ≤ 18446744073709551615 ∧ Hid (SrcRow 126 w.heap.size (.slice a len cap) 0 mix 0 wr) ∧ Below w.heap.size w wr) (fun i _ => 64 - (Go.RowKit.intOf i).toNat)
  case atStart => exact ⟨0, 88172645463325252, rfl, Nat.zero_le _, by omega, by omega, by omega, (MapKept.heap_alloc w _).1, (Below.refl _ _).alloc (Nat.le_refl _) _⟩
  case round =>
    obtain ⟨k, mix, rfl, hk, hk64, m0, m1, HR, hnx⟩ := hrel
    obtain ⟨h0, h1, h2, h3⟩ := HR.out.cell
    have f2 := HR.out.free 2
    have f3 := HR.out.free 3
    have hsz : w.heap.size < wr.heap.size := HR.out.lt
    by_cases hlt : k < len ∧ k < 64
    · obtain ⟨hkl, hk6⟩ := hlt
      rcases HC.out with hc | ⟨xb, xo, ha, hxB, hcell⟩
      · omega
      obtain ⟨c, c0, c1, hx0⟩ := hcell k hkl
      have hx : wr.cell? ⟨xb, xo + k, none⟩ = some (.int .u8 c) := by rw [hnx.cell (p := ⟨xb, xo + k, none⟩) (by show xb < _; omega)]; exact hx0
      clear hcell hx0
      subst ha
      have i1 : (k : Int) < (len : Int) := by omega
      have i0 : (0 : Int) ≤ (k : Int) := by omega
      have d1 : decide ((k : Int) < (len : Int)) = true := by simp; omega
      go_wp2
      go_region
      go_wp2
      go_roundw
      case rel => exact ⟨k + 1, _, by go_num, by omega, by omega, (wrapU_bd _).1, (wrapU_bd _).2, (HR.out.set2 _).drew, (hnx.setCell (Nat.le_refl _) _).drew⟩
      case measure => simp [Go.RowKit.intOf]; omega
    · have HEnd : Hid (∀ w' z, 0 ≤ z ∧ z ≤ 12 → Below w.heap.size w w' → SrcRow 126 w.heap.size (.slice a len cap) 0 mix z w' → Src 126 B w.heap.size a len cap w') := fun w' z hz hb hr =>
        ⟨hB, hlen, ⟨0, mix, z, Nat.zero_le _, m0, m1, hz, hr⟩, by
          rcases HC.out with hc | ⟨xb, xo, ha, hxB, hcell⟩
          · exact .inl hc
          · refine .inr ⟨xb, xo, ha, hxB, fun i hi => ?_⟩
            obtain ⟨c, c0, c1, hci⟩ := hcell i hi
            exact ⟨c, c0, c1, by rw [hb.cell (p := ⟨xb, xo + i, none⟩) (by show xb < _; omega)]; exact hci⟩⟩
      have hset := fun (W : World) (v : Value) => cell_set W w.heap.size 3 v
      by_cases hkl : k < len
      · have d1 : decide ((k : Int) < (len : Int)) = true := by simp; omega
        have d2 : decide ((k : Int) < 64) = false := by simp; omega
        clear hlt
        by_cases hq : 12 < (len : Int) / 20
        · go_wp2
          go_ret
          exact ⟨rfl, HEnd.out _ _ (by omega) ((hnx.setCell (Nat.le_refl _) _).setCell (Nat.le_refl _) _) ((HR.out.set3 _).set3 _), (hnx.setCell (Nat.le_refl _) _).setCell (Nat.le_refl _) _⟩
        · go_wp2
          go_ret
          exact ⟨rfl, HEnd.out _ _ (by constructor <;> go_num) (hnx.setCell (Nat.le_refl _) _) (HR.out.set3 _), hnx.setCell (Nat.le_refl _) _⟩
      · have d1 : decide ((k : Int) < (len : Int)) = false := by simp; omega
        clear hlt
        by_cases hq : 12 < (len : Int) / 20
        · exfalso; omega
        · go_wp2
          go_ret
          exact ⟨rfl, HEnd.out _ _ (by constructor <;> go_num) (hnx.setCell (Nat.le_refl _) _) (HR.out.set3 _), hnx.setCell (Nat.le_refl _) _⟩
end Go.Proofs.YtepmoihgemhjcaaGreatDoor
/-
  What all drawn laws share: a new row of zeros as a text; the code's bytes ('CodeAt'); what a step on a source of the call's own leaves.
-/
namespace Go.Proofs.YtepmoihgemhjcaaGreatDoor
open Go.RowKit Go.Lib
set_option linter.unusedVariables false

theorem infoU8s : (Tryz.prog.info? 5).map (fun i => (i.zero, i.size, i.bytes)) = some (some (.int .u8 0), 1, 1) := by kernel_rfl
theorem run_make_u8s (n : Nat) (hn : n ≤ 281474976710656) (w : World) :
    (Instr.makeSlice 22 (.int .i64 (n : Int)) (.int .i64 (n : Int))).run Tryz.prog w = .ok (.slice (some ⟨w.heap.size, 0, none⟩) n n) (w.alloc (.cells (zrow n).toArray 5)) := by
  obtain ⟨i0, hi, hz0, hz1, hz2⟩ := info_parts infoU8s
  have := run_make (P := Tryz.prog) w 22 5 i0 (.int .u8 0) Tryz.underlying22 hi hz0 .i64 .i64 (n : Int) (n : Int) (by omega) (by omega) (by rw [hz2]; omega) (by omega)
  rw [this, hz1]
  simp only [Int.toNat_natCast, Nat.mul_one]
  rw [← madeZ]; rfl
theorem zconv (n : Nat) (w : World) :
    (convert 22 9 (.slice (some ⟨w.heap.size, 0, none⟩) n n)).run Tryz.prog (w.alloc (.cells (zrow n).toArray 5)) = .ok (.string (strOfNums (List.replicate n 0))) (w.alloc (.cells (zrow n).toArray 5)) :=
  run_convert_bytes_arg (P := Tryz.prog) _ 22 5 Tryz.underlying22 Tryz.underlying5 w.heap.size 0 n n (List.replicate n 0) (by simp) (fun i hi => by
    rw [World.cell?_alloc_mark]; simp [zrow, hi]) 9 Tryz.underlying9

/-- The code's bytes lie there, below B. -/
def CodeAt (B : Nat) (a : Option Addr) (len : Nat) (w : World) : Prop :=
  len = 0 ∨ ∃ xb xo, a = some ⟨xb, xo, none⟩ ∧ xb < B ∧ ∀ i, i < len → ∃ c : Int, 0 ≤ c ∧ c ≤ 255 ∧ w.cell? ⟨xb, xo + i, none⟩ = some (.int .u8 c)
theorem CodeAt.below {B : Nat} {a : Option Addr} {len : Nat} {w w' : World} (h : CodeAt B a len w) (hb : Below B w w') : CodeAt B a len w' := by
  rcases h with h | ⟨xb, xo, ha, hx, hc⟩
  · exact .inl h
  · refine .inr ⟨xb, xo, ha, hx, fun i hi => ?_⟩
    obtain ⟨c, c0, c1, hci⟩ := hc i hi
    exact ⟨c, c0, c1, by rw [hb.cell (p := ⟨xb, xo + i, none⟩) hx]; exact hci⟩
/-- What a step on a source of the call's own leaves. -/
theorem below_touch {w w1 w2 : World} {p : Nat} (h : Below w.heap.size w w1) (k : w1.grownBy w2 (some p)) (hp : w.heap.size ≤ p) : Below w.heap.size w w2 :=
  h.grown k h.size (fun j hj => by cases hj; exact hp)
theorem results_tmp5 {fn : Func} {t u v x y : Tmp} (h : fn.results = #[.tmp t, .tmp u, .tmp v, .tmp x, .tmp y]) (tmps : Array Value) (P : Program) (w : World) :
    (results fn tmps).run P w = .ok (.tuple #[tmps.getD t undef, tmps.getD u undef, tmps.getD v undef, tmps.getD x undef, tmps.getD y undef]) w := by
  simp [results, h]
theorem edge4 (a b r : Int) (a0 : -9223372036854775808 ≤ a) (a1 : a ≤ 9223372036854775807) (b0 : -9223372036854775808 ≤ b) (b1 : b ≤ 9223372036854775807) (r0 : -9223372036854775808 ≤ r) (r1 : r ≤ 9223372036854775807) : ∀ k : Nat, k < 4 → ∃ v : Int, (#[.int .i64 a, .int .i64 b, .int .i64 r, .int .i64 4611686018427387904] : Array Value)[k]? = some (.int .i64 v) ∧ -9223372036854775808 ≤ v ∧ v ≤ 9223372036854775807
  | 0, _ => ⟨_, rfl, a0, a1⟩
  | 1, _ => ⟨_, rfl, b0, b1⟩
  | 2, _ => ⟨_, rfl, r0, r1⟩
  | 3, _ => ⟨_, rfl, by omega, by omega⟩
  | k + 4, h => by omega
end Go.Proofs.YtepmoihgemhjcaaGreatDoor
/-
  append of a slice of texts onto one that the call owns: what it owns then.
-/
namespace Go.Proofs.YtepmoihgemhjcaaGreatDoor
open Go.RowKit Go.Lib
set_option linter.unusedVariables false

theorem run_append_len0 {P : Program} (w : World) (base : Nat) (t ty e : TypeId) (i : TypeInfo) (size : Nat) (ht : P.underlying t = some (.slice e)) (hi : P.info? e = some i)
    (v : Value) (n : Nat) (xs : List Value) (hown : w.ownsRow base e size v n xs) (p : Option Addr) (cap : Nat) :
    (Builtin.append_ #[t, t] ty #[v, .slice p 0 cap]).run P w = .ok v w := by
  rcases hown.2 with ⟨rfl, rfl⟩ | ⟨g, cap', cur, rfl, _, _, hnc, _⟩
  · cases p <;> simp [Builtin.append_, run_underlying ht, sizeOf, typeInfo, hi, Builtin.lenOf, Builtin.firstCells, loadCells, loadCellsFrom]
  · cases p <;> simp [Builtin.append_, run_underlying ht, sizeOf, typeInfo, hi, Builtin.lenOf, Builtin.firstCells, hnc, storeCells, loadCells, loadCellsFrom]
theorem app_texts (w : World) (base : Nat) (v : Value) (l : List ByteArray) (own : w.ownsRow base 9 1 v l.length (strRow l)) (p : Option Addr) (cap : Nat) (ss : List ByteArray) (hp : TxtAt w p ss) (hl : l.length + ss.length ≤ 1048576) (hbase : base ≤ w.heap.size) :
    ∃ v' w', (Builtin.append_ #[24, 24] 24 #[v, .slice p ss.length cap]).run Tryz.prog w = .ok v' w' ∧ w'.ownsRow base 9 1 v' (l ++ ss).length (strRow (l ++ ss)) ∧ w.grownBy w' v.ownBlock := by
  obtain ⟨i0, hi, hz0, hz1, hz2⟩ := info_parts infoStr
  by_cases h0 : ss.length = 0
  · obtain rfl : ss = [] := List.length_eq_zero_iff.1 h0
    refine ⟨v, w, run_append_len0 w base _ _ _ i0 1 Tryz.underlying24 hi v l.length (strRow l) own p cap, by simpa using own, World.grownBy.refl _ _⟩
  · obtain ⟨b, off, rfl, hb, _⟩ := hp 0 (by omega)
    obtain ⟨g, cap', w', h1, h2, h3, _⟩ := run_append_lies (P := Tryz.prog) w 24 24 base 9 i0 (.string ByteArray.empty) 1 16 Tryz.underlying24 hi hz0 hz1 hz2 rfl (by omega) v l.length (strRow l) own ⟨b, off, none⟩ ss.length cap (strRow ss) (by simp [strRow]) (fun j u hu => by
      have hj : j < ss.length := by
        rcases Nat.lt_or_ge j ss.length with q | q
        · exact q
        · rw [List.getElem?_eq_none (by simpa [strRow] using q)] at hu; cases hu
      have hadd : (⟨b, off, none⟩ : Addr).add j = ⟨b, off + j, none⟩ := by unfold Addr.add; split <;> simp_all
      rw [hadd, hp.at j hj]
      simp [strRow, hj] at hu
      rw [hu]) (fun u hu => by
      obtain ⟨x, _, rfl⟩ := List.mem_map.1 hu
      rfl) (by omega) (by unfold maxLen; omega) (by omega) hbase _ rfl
    refine ⟨_, w', h1, ?_, h3⟩
    have e1 : (l ++ ss).length = l.length + ss.length := by simp
    have e2 : strRow (l ++ ss) = strRow l ++ strRow ss := by simp [strRow]
    rw [e1, e2]; exact h2
end Go.Proofs.YtepmoihgemhjcaaGreatDoor
/-
  What l03Some draws: at most 30 texts of at most 101 bytes each, in a row that the call owns. The source's block alone is written.
  Conditions: the source is one ('Src').
-/
namespace Go.Proofs.YtepmoihgemhjcaaGreatDoor
open Go.RowKit Go.Lib
set_option linter.unusedVariables false
set_option maxRecDepth 20000

theorem BlkS.touch {w w' : World} {g p : Nat} {l : List ByteArray} (h : BlkS w g l) (hg : w.grownBy w' (some p)) (hne : g ≠ p) : BlkS w' g l := by
  unfold BlkS at *; rw [hg.block g (lt_of_block h) (fun e => hne (by cases e; rfl))]; exact h
theorem append_size (s t : ByteArray) : (s ++ t).size = s.size + t.size := by simp

set_option maxHeartbeats 1000000 in
theorem pick_any (B p : Nat) (a : Option Addr) (len cap : Nat) (g : Nat) (ss : List ByteArray) (w : World) (hs : Src 126 B p a len cap w) (hb : BlkS w g ss) (hne : g ≠ p) (h0 : 0 < ss.length) (hn : ss.length ≤ 1048576) :
    Calls Tryz.prog 125 #[.pointer (some ⟨p, 0, none⟩), .slice (some ⟨g, 0, none⟩) ss.length ss.length] w fun e w' =>
      (∃ t ∈ ss, e = .returned (.string t)) ∧ Src 126 B p a len cap w' ∧ w.grownBy w' (some p) := by
  have HS : Hid (Src 126 B p a len cap w) := hs
  have HB : Hid (BlkS w g ss) := hb
  clear hs hb
  go_enter Tryz.func125, Tryz.ntmps125
  go_wp2_with fail
  refine (n_any B p a len cap _ _ HS.out (by omega)).mono ?_
  rintro e w1 ⟨⟨r, rfl, hr0, hr1, hr2⟩, hs1, hg1⟩
  obtain ⟨k, rfl⟩ := Int.eq_ofNat_of_zero_le hr0
  have hk : k < ss.length := by
    by_cases h1 : (1 : Int) < ss.length
    · have := hr1 h1; omega
    · have := hr2 (by omega); omega
  have hc := ((HB.out.touch hg1 hne).cell k hk).1
  have HM : Hid (ss[k] ∈ ss) := List.getElem_mem hk
  have H1 : Hid (Src 126 B p a len cap w1) := hs1
  clear hs1 hr1 hr2
  generalize ss[k] = t at *
  have i1 : (k : Int) < ss.length := by omega
  go_wp2
  go_ret
  exact ⟨⟨t, HM.out, rfl⟩, H1.out, hg1⟩

theorem app_one (w : World) (base : Nat) (v : Value) (l : List ByteArray) (own : w.ownsRow base 9 1 v l.length (strRow l)) (T : ByteArray) (hl : l.length + 1 ≤ 1048576) (hbase : base ≤ w.heap.size) :
    ∃ v' w', (Builtin.append_ #[24, 24] 24 #[v, .slice (some ⟨w.heap.size, 0, none⟩) 1 1]).run Tryz.prog (w.alloc (.cells #[.string T] 9)) = .ok v' w' ∧ w'.ownsRow base 9 1 v' (l ++ [T]).length (strRow (l ++ [T])) ∧ (w.alloc (.cells #[.string T] 9)).grownBy w' v.ownBlock :=
  app_texts (w.alloc (.cells #[.string T] 9)) base v l (own.alloc _) (some ⟨w.heap.size, 0, none⟩) 1 [T] (alloc_str w [T]).txt hl (by simp; omega)
/-- What an append to an own row leaves of a source and of what was there. -/
theorem app_leaves {T : TypeId} {B p : Nat} {a : Option Addr} {len cap : Nat} {w0 w w' : World} {e : TypeId} {v : Value} {n : Nat} {xs : List Value} {x : Obj} (own : w.ownsRow w0.heap.size e 1 v n xs) (hs : Src T B p a len cap w) (hp : p < w0.heap.size) (hg : w0.grownBy w (some p)) (h : (w.alloc x).grownBy w' v.ownBlock) :
    Src T B p a len cap w' ∧ w0.grownBy w' (some p) := by
  have hrow : ∀ j, v.ownBlock = some j → w0.heap.size ≤ j := fun j hj => (own.lt j hj).1
  exact ⟨(hs.below ((Below.refl _ _).alloc (Nat.le_refl _) _)).other h (fun j hj => by have := hrow j hj; omega), touch_own (touch_below hg ((Below.refl _ _).alloc (Nat.le_refl _) _)) h hrow⟩

def fourS : List ByteArray := [⟨#[97]⟩, ⟨#[98]⟩, ⟨#[]⟩, ⟨#[101, 110, 116, 114, 121]⟩]
theorem fourS_small : ∀ t ∈ fourS, t.size ≤ 5 := by decide

end Go.Proofs.YtepmoihgemhjcaaGreatDoor
/-
  What lwTexts answers of two slices of texts; what DrawPathOf and DrawProofOf draw: at most 30 texts of at most 101 bytes, and a number from -1 to 31.
-/
namespace Go.Proofs.YtepmoihgemhjcaaGreatDoor
open Go.RowKit Go.Lib
set_option linter.unusedVariables false
set_option maxRecDepth 20000

set_option maxHeartbeats 400000 in
theorem texts_any (p q : Option Addr) (cap cap2 : Nat) (ss ts : List ByteArray) (w : World) (hp : TxtAt w p ss) (hq : TxtAt w q ts) (hn : ss.length ≤ 140737488355328) (hn2 : ts.length ≤ 140737488355328) (hcap : ss.length ≤ cap) (hcap2 : ts.length ≤ cap2) :
    Calls Tryz.prog 27 #[.slice p ss.length cap, .slice q ts.length cap2] w fun e w' => e = .returned (.bool (decide (ss = ts))) ∧ Below w.heap.size w w' := by
  have HP : Hid (TxtAt w p ss) := hp
  have HQ : Hid (TxtAt w q ts) := hq
  clear hp hq
  by_cases hl : ss.length = ts.length
  · rw [← hl]
    have hl2 : Hid (ss.length = ts.length) := hl
    clear hl
    rw [← hl2.out] at hcap2
    go_enter Tryz.func27, Tryz.ntmps27
    go_wp2
    go_loopw [5] (fun i wr => ∃ k m : Nat, k ≤ ss.length ∧ i = .int .i64 k ∧ wr = w.drewN m ∧ Hid (∀ j (h : j < ss.length) (h2 : j < ts.length), j < k → ss[j] = ts[j])) (fun i _ => ss.length - (Go.RowKit.intOf i).toNat)
    case atStart => exact ⟨0, 0, Nat.zero_le _, rfl, rfl, fun j h h2 hk => by omega⟩
    case round =>
      obtain ⟨k, m, hk, rfl, rfl, HK⟩ := hrel
      by_cases hlt : k < ss.length
      · have hlt2 : k < ts.length := by have := hl2.out; omega
        obtain ⟨b, off, rfl, hb, hck⟩ := HP.out k hlt
        obtain ⟨b2, off2, rfl, hb2, hck2⟩ := HQ.out k hlt2
        have j5 : (k : Int) < ss.length := by omega
        by_cases he : ss[k] = ts[k]
        · have HK2 : Hid (∀ j (h : j < ss.length) (h2 : j < ts.length), j < k + 1 → ss[j] = ts[j]) := fun j h h2 hj => if hjk : j = k then by subst hjk; exact he else HK.out j h h2 (by omega)
          rw [← he] at hck2
          clear he
          generalize ss[k] = x at *
          go_wp2
          go_quiet (fail)
          go_wp2
          go_roundw
          case rel => exact ⟨k + 1, _, by omega, by go_num, rfl, HK2⟩
          case measure => simp [Go.RowKit.intOf]; omega
        · have HF : Hid (decide (ss = ts) = false) := decide_eq_false (fun h => he (by subst h; rfl))
          generalize ss[k] = x at *
          generalize ts[k] = y at *
          have hne : (x.toList == y.toList) = false := by
            rw [beq_eq_false_iff_ne]
            exact fun h => he (toList_inj h)
          clear he
          go_wp2
          go_quiet (fail)
          go_wp2
          go_ret
          exact ⟨ret_bool HF.out.symm, ⟨rfl, rfl, rfl, Nat.le_refl _, fun _ _ => rfl⟩⟩
      · have HF : Hid (decide (ss = ts) = true) := decide_eq_true (List.ext_getElem hl2.out fun j h h2 => HK.out j h h2 (by omega))
        go_wp2
        go_ret
        exact ⟨ret_bool HF.out.symm, ⟨rfl, rfl, rfl, Nat.le_refl _, fun _ _ => rfl⟩⟩
  · have HF : Hid (decide (ss = ts) = false) := decide_eq_false (fun h => hl (by rw [h]))
    have hl2 : ¬ (ss.length : Int) = ts.length := by omega
    go_enter Tryz.func27, Tryz.ntmps27
    go_wp2
    go_ret
    exact ⟨ret_bool HF.out.symm, Below.refl _ _⟩

/-- What is drawn: few and small texts. -/
def Drawn (w : World) (v : Value) (L : List ByteArray) : Prop := ∃ q cq, v = .slice q L.length cq ∧ L.length ≤ cq ∧ TxtAt w q L ∧ L.length ≤ 31 ∧ ∀ x ∈ L, x.size ≤ 101
theorem own_drawn {w : World} {base : Nat} {v : Value} {L : List ByteArray} (h : w.ownsRow base 9 1 v L.length (strRow L)) (hl : L.length ≤ 31) (hs : ∀ x ∈ L, x.size ≤ 101) : Drawn w v L := by
  obtain ⟨q, cq, rfl, h1, h2⟩ := ownS_form h
  exact ⟨q, cq, rfl, h1, h2, hl, hs⟩

end Go.Proofs.YtepmoihgemhjcaaGreatDoor
/-
  How the bytes of a number are read, in plain mathematics: 'scan' goes over the groups of seven bits and hands back the code, the bits, and how many bytes it took.
-/
namespace Go.Proofs.YtepmoihgemhjcaaGreatDoor
open Go.RowKit Go.Lib
set_option linter.unusedVariables false

def scan : Nat → Nat → Int → List UInt8 → Int × Int × Nat
  | 0, _, _, _ => (3, 0, 0)
  | _ + 1, _, _, [] => (4, 0, 0)
  | f + 1, k, u, c :: r =>
    if k = 9 ∧ 1 < (c.toNat : Int) then (3, 0, 0)
    else if (c.toNat : Int) < 128 then (if (c.toNat : Int) = 0 ∧ 0 < k then (3, 0, 0) else (0, u + (c.toNat : Int) * 2 ^ (7 * k), k + 1))
    else scan f (k + 1) (u + ((c.toNat : Int) - 128) * 2 ^ (7 * k)) r

def unfoldN (u : Int) : Int := if u % 2 = 1 then -(u / 2) - 1 else u / 2
def numOut (n a c : Int) : Value := .agg #[.int .i64 n, .int .i64 a, .int .i64 c]
def scanAt (s : ByteArray) (a : Nat) : Int × Int × Nat := scan 10 0 0 (s.data.toList.drop a)
def getN (s : ByteArray) (a : Int) : Int × Int × Int :=
  if 8000 < s.size then (0, 0, 2) else if a < 0 then (0, 0, 1) else
  if (scanAt s a.toNat).1 = 0 then (unfoldN (scanAt s a.toNat).2.1, a + (scanAt s a.toNat).2.2, 0) else (0, 0, (scanAt s a.toNat).1)

def GetTo (s : ByteArray) (a k : Nat) (u : Int) : Prop :=
  k ≤ 9 ∧ 0 ≤ u ∧ u < 2 ^ (7 * k) ∧ scanAt s a = scan (10 - k) k u (s.data.toList.drop (a + k))

theorem getTo_start (s : ByteArray) (a : Nat) : GetTo s a 0 0 := ⟨by omega, Int.le_refl _, by decide, rfl⟩

theorem drop_cons (s : ByteArray) (i : Nat) (h : i < s.size) : s.data.toList.drop i = s[i] :: s.data.toList.drop (i + 1) := by
  rw [List.drop_eq_getElem_cons (by simpa using h)]; rfl

theorem getTo_short {s : ByteArray} {a k : Nat} {u : Int} (h : GetTo s a k u) (hl : s.size ≤ a + k) : scanAt s a = (4, 0, 0) := by
  obtain ⟨hk, _, _, he⟩ := h
  rw [he, List.drop_of_length_le (by simpa using hl), show 10 - k = (9 - k) + 1 by omega]; rfl

theorem getTo_big {s : ByteArray} {a k : Nat} {u : Int} (h : GetTo s a k u) (hl : a + k < s.size) (hk9 : k = 9) (hc : 1 < (s[a + k].toNat : Int)) : scanAt s a = (3, 0, 0) := by
  obtain ⟨hk, _, _, he⟩ := h
  rw [he, drop_cons s _ hl, show 10 - k = (9 - k) + 1 by omega, scan, if_pos ⟨hk9, hc⟩]

theorem getTo_zero {s : ByteArray} {a k : Nat} {u : Int} (h : GetTo s a k u) (hl : a + k < s.size) (hc : (s[a + k].toNat : Int) = 0) (hp : 0 < k) : scanAt s a = (3, 0, 0) := by
  obtain ⟨hk, _, _, he⟩ := h
  rw [he, drop_cons s _ hl, show 10 - k = (9 - k) + 1 by omega, scan, if_neg (by omega), if_pos (by omega), if_pos ⟨hc, hp⟩]

theorem getTo_ok {s : ByteArray} {a k : Nat} {u : Int} (h : GetTo s a k u) (hl : a + k < s.size) (hc : (s[a + k].toNat : Int) < 128) (h9 : k = 9 → (s[a + k].toNat : Int) ≤ 1) (hz : 0 < k → (s[a + k].toNat : Int) ≠ 0) :
    scanAt s a = (0, u + (s[a + k].toNat : Int) * 2 ^ (7 * k), k + 1) := by
  obtain ⟨hk, _, _, he⟩ := h
  rw [he, drop_cons s _ hl, show 10 - k = (9 - k) + 1 by omega, scan, if_neg (fun ⟨x, y⟩ => by have := h9 x; omega), if_pos hc, if_neg (fun ⟨x, y⟩ => hz y x)]

theorem pow7 (k : Nat) : (2 : Int) ^ (7 * (k + 1)) = 128 * 2 ^ (7 * k) := by
  rw [show 7 * (k + 1) = 7 * k + 7 by omega, Int.pow_add, show (2 : Int) ^ 7 = 128 by decide, Int.mul_comm]

theorem pow7_le : ∀ k : Nat, k ≤ 9 → (1 : Int) ≤ 2 ^ (7 * k) ∧ (2 : Int) ^ (7 * k) ≤ 9223372036854775808
  | 0, _ => by decide
  | 1, _ => by decide
  | 2, _ => by decide
  | 3, _ => by decide
  | 4, _ => by decide
  | 5, _ => by decide
  | 6, _ => by decide
  | 7, _ => by decide
  | 8, _ => by decide
  | 9, _ => by decide
  | k + 10, h => by omega

theorem pow7_le8 (k : Nat) (h : k ≤ 8) : (2 : Int) ^ (7 * k) ≤ 72057594037927936 := by
  have := (pow7_le (k + 1) (by omega)).2
  rw [pow7] at this; omega

theorem getTo_more {s : ByteArray} {a k : Nat} {u : Int} (h : GetTo s a k u) (hl : a + k < s.size) (hk8 : k ≤ 8) (hc : 128 ≤ (s[a + k].toNat : Int)) :
    GetTo s a (k + 1) (u + ((s[a + k].toNat : Int) - 128) * 2 ^ (7 * k)) := by
  obtain ⟨hk, h0, h1, he⟩ := h
  have hcb : (s[a + k].toNat : Int) ≤ 255 := by have := s[a + k].toNat_lt; omega
  have hp := (pow7_le k hk).1
  refine ⟨by omega, ?_, ?_, ?_⟩
  · have : 0 ≤ ((s[a + k].toNat : Int) - 128) * 2 ^ (7 * k) := Int.mul_nonneg (by omega) (by omega)
    omega
  · rw [pow7]
    have : ((s[a + k].toNat : Int) - 128) * 2 ^ (7 * k) ≤ 127 * 2 ^ (7 * k) := Int.mul_le_mul_of_nonneg_right (by omega) (by omega)
    omega
  · rw [he, drop_cons s _ hl, show 10 - k = (10 - (k + 1)) + 1 by omega, scan, if_neg (by omega), if_neg (by omega)]; rfl

/-- What is added at one byte stays below 2^64. -/
theorem add_fits {k : Nat} {u x : Int} (hk : k ≤ 9) (h0 : 0 ≤ u) (h1 : u < 2 ^ (7 * k)) (x0 : 0 ≤ x) (x1 : x ≤ 127) (x9 : k = 9 → x ≤ 1) :
    0 ≤ x * 2 ^ (7 * k) ∧ u + x * 2 ^ (7 * k) < 18446744073709551616 := by
  have hp := pow7_le k hk
  refine ⟨Int.mul_nonneg x0 (by omega), ?_⟩
  by_cases h9 : k = 9
  · have := x9 h9
    have : x * 2 ^ (7 * k) ≤ 1 * 2 ^ (7 * k) := Int.mul_le_mul_of_nonneg_right (by omega) (by omega)
    omega
  · have h8 := pow7_le8 k (by omega)
    have : x * 2 ^ (7 * k) ≤ 127 * 2 ^ (7 * k) := Int.mul_le_mul_of_nonneg_right (by omega) (by omega)
    omega

theorem wrap_small (x : Int) (h0 : 0 ≤ x) (h1 : x < 18446744073709551616) : IntKind.u64.wrap x = x := by
  simp [IntKind.wrap, IntKind.bits, IntKind.signed]; omega

theorem spec_add {k : Nat} {u x : Int} (hk : k ≤ 9) (h0 : 0 ≤ u) (h1 : u < 2 ^ (7 * k)) (x0 : 0 ≤ x) (x1 : x ≤ 127) (x9 : k = 9 → x ≤ 1) :
    IntKind.u64.wrap (u + IntKind.u64.wrap (x * 2 ^ (7 * k))) = u + x * 2 ^ (7 * k) := by
  have h := add_fits hk h0 h1 x0 x1 x9
  rw [wrap_small (x * 2 ^ (7 * k)) h.1 (by omega), wrap_small _ (by omega) h.2]

theorem impl_or {k : Nat} {u x : Int} (hk : k ≤ 9) (h0 : 0 ≤ u) (h1 : u < 2 ^ (7 * k)) (x0 : 0 ≤ x) (x1 : x ≤ 127) (x9 : k = 9 → x ≤ 1) :
    bits .or .u64 u (IntKind.u64.wrap (x * 2 ^ (7 * k))) = u + x * 2 ^ (7 * k) := by
  have h := add_fits hk h0 h1 x0 x1 x9
  rw [wrap_small (x * 2 ^ (7 * k)) h.1 (by omega)]
  obtain ⟨a, rfl⟩ := Int.eq_ofNat_of_zero_le h0
  obtain ⟨b, rfl⟩ := Int.eq_ofNat_of_zero_le x0
  have e : ((b : Int) * 2 ^ (7 * k)) = ((b * 2 ^ (7 * k) : Nat) : Int) := by rw [Int.natCast_mul, Int.natCast_pow]; rfl
  have ha : a < 2 ^ (7 * k) := by
    have : (a : Int) < ((2 ^ (7 * k) : Nat) : Int) := by rw [Int.natCast_pow]; exact h1
    omega
  rw [e] at h ⊢
  rw [bits_or_u64_nat a (b * 2 ^ (7 * k)) (by omega) (by omega)]
  have : a ||| b * 2 ^ (7 * k) = a + b * 2 ^ (7 * k) := by
    rw [Nat.or_comm, Nat.mul_comm, ← Nat.two_pow_add_eq_or_of_lt ha, Nat.add_comm]
  rw [this]; omega

theorem and127 (x : Int) (h0 : 0 ≤ x) (h1 : x ≤ 255) : bits .and .u8 x 127 = x % 128 := by
  have key : ∀ y : Fin 256, bits .and .u8 ((y.val : Nat) : Int) 127 = ((y.val % 128 : Nat) : Int) := by decide +kernel
  have := key ⟨x.toNat, by omega⟩
  simp only at this
  rw [show ((x.toNat : Nat) : Int) = x by omega] at this
  rw [this]; omega

theorem and1 (u : Int) (h0 : 0 ≤ u) (h1 : u < 18446744073709551616) : bits .and .u64 u 1 = u % 2 := by
  obtain ⟨a, rfl⟩ := Int.eq_ofNat_of_zero_le h0
  have : bits .and .u64 (a : Int) ((1 : Nat) : Int) = ((a &&& 1 : Nat) : Int) := bits_and_u64_nat a 1 (by omega) (by omega)
  rw [show ((1 : Nat) : Int) = 1 from rfl] at this
  rw [this, Nat.and_one_is_mod]; omega

theorem not64 (x : Int) (h0 : 0 ≤ x) (h1 : x ≤ 9223372036854775807) : bits .xor .i64 (-1) x = -x - 1 := by
  obtain ⟨a, rfl⟩ := Int.eq_ofNat_of_zero_le h0
  show IntKind.i64.wrap ((BitVec.ofInt 64 (-1) ^^^ BitVec.ofInt 64 (a : Int)).toNat : Int) = _
  have h2 : BitVec.ofInt 64 (-1) = BitVec.allOnes 64 := by decide
  rw [h2, BitVec.allOnes_xor, BitVec.toNat_not, BitVec.ofInt_natCast, BitVec.toNat_ofNat, Nat.mod_eq_of_lt (by omega)]
  simp [IntKind.wrap, IntKind.bits, IntKind.signed]; omega

theorem scan_bd : ∀ (f k : Nat) (u : Int) (l : List UInt8), k + f = 10 → 0 ≤ u → u < 2 ^ (7 * k) →
    ((scan f k u l).1 = 0 ∧ 0 ≤ (scan f k u l).2.1 ∧ (scan f k u l).2.1 ≤ 18446744073709551615 ∧ k < (scan f k u l).2.2 ∧ (scan f k u l).2.2 ≤ 10 ∧ (scan f k u l).2.2 ≤ k + l.length) ∨
    (((scan f k u l).1 = 3 ∨ (scan f k u l).1 = 4) ∧ (scan f k u l).2.1 = 0 ∧ (scan f k u l).2.2 = 0)
  | 0, k, u, l, _, _, _ => .inr ⟨.inl rfl, rfl, rfl⟩
  | f + 1, k, u, [], _, _, _ => .inr ⟨.inr rfl, rfl, rfl⟩
  | f + 1, k, u, c :: r, hk, h0, h1 => by
    rw [scan]
    have hcb : (c.toNat : Int) ≤ 255 := by have := c.toNat_lt; omega
    split
    · exact .inr ⟨.inl rfl, rfl, rfl⟩
    · rename_i h9
      split
      · rename_i hc
        split
        · exact .inr ⟨.inl rfl, rfl, rfl⟩
        · have hf := add_fits (x := (c.toNat : Int)) (by omega) h0 h1 (by omega) (by omega) (fun e => by omega)
          exact .inl ⟨rfl, by show 0 ≤ u + _; omega, by show u + _ ≤ _; omega, Nat.lt_succ_self k, by show k + 1 ≤ 10; omega, by show k + 1 ≤ _; simp⟩
      · rename_i hc
        have hk8 : k ≤ 8 := by omega
        have hp := (pow7_le k (by omega)).1
        have m0 : 0 ≤ ((c.toNat : Int) - 128) * 2 ^ (7 * k) := Int.mul_nonneg (by omega) (by omega)
        have m1 : ((c.toNat : Int) - 128) * 2 ^ (7 * k) ≤ 127 * 2 ^ (7 * k) := Int.mul_le_mul_of_nonneg_right (by omega) (by omega)
        rcases scan_bd f (k + 1) (u + ((c.toNat : Int) - 128) * 2 ^ (7 * k)) r (by omega) (by omega) (by rw [pow7]; omega) with h | h
        · exact .inl ⟨h.1, h.2.1, h.2.2.1, by omega, h.2.2.2.2.1, by have := h.2.2.2.2.2; simp; omega⟩
        · exact .inr h

theorem scanAt_bd (s : ByteArray) (a : Nat) :
    ((scanAt s a).1 = 0 ∧ 0 ≤ (scanAt s a).2.1 ∧ (scanAt s a).2.1 ≤ 18446744073709551615 ∧ (scanAt s a).2.2 ≤ 10 ∧ a + (scanAt s a).2.2 ≤ s.size) ∨
    (((scanAt s a).1 = 3 ∨ (scanAt s a).1 = 4) ∧ (scanAt s a).2.1 = 0 ∧ (scanAt s a).2.2 = 0) := by
  rcases scan_bd 10 0 0 (s.data.toList.drop a) rfl (Int.le_refl _) (by decide) with h | h
  · refine .inl ⟨h.1, h.2.1, h.2.2.1, h.2.2.2.2.1, ?_⟩
    have h2 := h.2.2.2.1
    have h3 := h.2.2.2.2.2
    rw [List.length_drop] at h3
    have e : s.data.toList.length = s.size := by simp
    unfold scanAt; omega
  · exact .inr h
end Go.Proofs.YtepmoihgemhjcaaGreatDoor
