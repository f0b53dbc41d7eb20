/-
  Parts of one proof, laid as one text: RwBlk, LawFR, LawSG, LawLg, LawLh, LawLz, LawLm, SgnLg; what each says stands at its head.
-/
import Derived.Test.YtnjegmffjelnpaaGreatDoorRows
import Derived.Test.YtnjegmffjelnpaaGreatDoorBytesDigMathTurnIWholeR
import Derived.Test.YtnjegmffjelnpaaGreatDoorSlABxKSlBOwnSSgnBOwnBPadI
import Derived.Test.YtnjegmffjelnpaaGreatDoorTimeBPutTextFldMathFldRiseScanMath
import Derived.Test.YtnjegmffjelnpaaGreatDoorLogRIImplRtLawSLawMLawMGFldGOneKFldBlkLawFLawFM
import Derived.Test.YtnjegmffjelnpaaGreatDoorLgMathLgAtKLgAnsLgRtTakesFldIsFldC
import Derived.Handy
import Derived.OwnWalk
import Derived.WalkSpells
import Derived.Test.YtnjegmffjelnpaaGreatDoorTreeMath
import Derived.Deep.QuietTactic
import Derived.BigQuiet
import Derived.Deep.RegionHeld3
import Derived.Deep.Cut
import Derived.Laws.OwnMore
import Derived.Test.YtnjegmffjelnpaaGreatDoorMacMathPutMathJoinedDigITurn2
import Derived.Test.YtnjegmffjelnpaaGreatDoorTakePathConMathProofLawSignMathMac2
import Derived.Test.YtnjegmffjelnpaaGreatDoorSignVImplRightIncISignIMDigAllSignIASignIB
import Derived.Test.YtnjegmffjelnpaaGreatDoorMacISignICImplSign
import Derived.Test.YtnjegmffjelnpaaGreatDoorSpecLr
import Derived.Test.YtnjegmffjelnpaaGreatDoorSpecRtAsDAs2CodeOfTimeIImplFCBlNot
/-
  Blocks of rows: their cells, a row stored, a new one of rows that say nothing; rows with blocks of fields of their own.
-/
namespace Go.Proofs.YtnjegmffjelnpaaGreatDoor
open Go.RowKit Go.Lib
set_option linter.unusedVariables false
set_option maxRecDepth 20000

/-- A row as its three cells. -/
structure Rc where
  k : ByteArray
  a : Int
  v : Value
def rcCells (x : Rc) : List Value := [.string x.k, .int .i64 x.a, x.v]
def rcRow (l : List Rc) : List Value := l.flatMap rcCells
def rcE : Rc := ⟨⟨#[]⟩, 0, .slice none 0 0⟩
theorem rcRow_len (l : List Rc) : (rcRow l).length = l.length * 3 := by
  induction l with
  | nil => rfl
  | cons f l ih => unfold rcRow at *; rw [List.flatMap_cons, List.length_append, ih]; simp [rcCells]; omega
theorem rcRow_append (l m : List Rc) : rcRow (l ++ m) = rcRow l ++ rcRow m := by simp [rcRow]
theorem rcRow_at (l : List Rc) : ∀ (i : Nat) (h : i < l.length), (rcRow l)[i * 3]? = some (.string l[i].k) ∧ (rcRow l)[i * 3 + 1]? = some (.int .i64 l[i].a) ∧ (rcRow l)[i * 3 + 2]? = some l[i].v := by
  induction l with
  | nil => intro i h; simp at h
  | cons f l ih =>
    intro i h
    match i with
    | 0 => exact ⟨rfl, rfl, rfl⟩
    | i + 1 =>
      have := ih i (by simpa using h)
      rw [show (i + 1) * 3 = i * 3 + 3 by omega]
      exact this
theorem rcRow_set : ∀ (l : List Rc) (i : Nat) (x : Rc), (((rcRow l).set (i * 3) (.string x.k)).set (i * 3 + 1) (.int .i64 x.a)).set (i * 3 + 2) x.v = rcRow (l.set i x)
  | [], i, x => by simp [rcRow]
  | f :: l, 0, x => rfl
  | f :: l, i + 1, x => by
    have ih := rcRow_set l i x
    have e : rcRow (f :: l) = .string f.k :: .int .i64 f.a :: f.v :: rcRow l := rfl
    have e2 : rcRow ((f :: l).set (i + 1) x) = .string f.k :: .int .i64 f.a :: f.v :: rcRow (l.set i x) := rfl
    rw [e, e2, ← ih, show (i + 1) * 3 = i * 3 + 3 by omega]
    rfl
def BlkR (w : World) (g : Nat) (l : List Rc) : Prop := Bxs w g 65 (rcRow l).toArray
theorem BlkR.cells {w : World} {g : Nat} {l : List Rc} (h : BlkR w g l) (i : Nat) (hi : i < l.length) : (w.cell? ⟨g, i * 3, none⟩ = some (.string l[i].k) ∧ w.cell? ⟨g, i * 3 + 1, none⟩ = some (.int .i64 l[i].a) ∧ w.cell? ⟨g, i * 3 + 2, none⟩ = some l[i].v) ∧ w.frozen? ⟨g, i * 3, none⟩ = false ∧ w.frozen? ⟨g, i * 3 + 1, none⟩ = false ∧ w.frozen? ⟨g, i * 3 + 2, none⟩ = false := by
  have hr := rcRow_at l i hi
  have hc : ∀ j, w.cell? ⟨g, j, none⟩ = (rcRow l)[j]? := fun j => by rw [Bxs.cell h j]; simp
  rw [← hc, ← hc, ← hc] at hr
  exact ⟨hr, Bxs.fr h _, Bxs.fr h _, Bxs.fr h _⟩
def set3 (w : World) (g o : Nat) (x : Rc) : World := ((w.setCell ⟨g, o, none⟩ (.string x.k)).setCell ⟨g, o + 1, none⟩ (.int .i64 x.a)).setCell ⟨g, o + 2, none⟩ x.v
theorem bxs_set1 {w : World} {g : Nat} {T : TypeId} {l : List Value} (h : Bxs w g T l.toArray) (j : Nat) (v : Value) : Bxs (w.setCell ⟨g, j, none⟩ v) g T (l.set j v).toArray := by
  have h1 := h.set j v
  rwa [List.setIfInBounds_toArray] at h1
theorem BlkR.set3 {w : World} {g : Nat} {l : List Rc} (h : BlkR w g l) (i : Nat) (x : Rc) : BlkR (set3 w g (i * 3) x) g (l.set i x) := by
  unfold BlkR
  rw [← rcRow_set]
  exact bxs_set1 (bxs_set1 (bxs_set1 h _ _) _ _) _ _
theorem set3_other {w : World} {g b o : Nat} {T : TypeId} {cs : Array Value} (h : Bxs w g T cs) (hne : b ≠ g) (x : Rc) : Bxs (set3 w b o x) g T cs := ((h.other b _ hne _).other b _ hne _).other b _ hne _
theorem set3_below {B : Nat} {a w : World} (h : Below B a w) {g : Nat} (hg : B ≤ g) (o : Nat) (x : Rc) : Below B a (set3 w g o x) := ((h.setCell hg _).setCell hg _).setCell hg _
theorem infoRow : (Tryz.prog.info? 65).map (fun i => (i.zero, i.size, i.bytes)) = some (some (.agg #[.string ByteArray.empty, .int .i64 0, .slice none 0 0]), 3, 48) := by kernel_rfl
theorem made_rc (n : Nat) : madeCells #[.string ByteArray.empty, .int .i64 0, .slice none 0 0] (n * 3) = (rcRow (List.replicate n rcE)).toArray := by
  unfold madeCells
  apply Array.ext
  · simp [rcRow_len]
  · intro i h0 h2
    have h1 : i < n * 3 := by simpa using h0
    have hr := rcRow_at (List.replicate n rcE) (i / 3) (by rw [List.length_replicate]; omega)
    simp only [List.getElem_replicate] at hr
    have hm : i % 3 < 3 := Nat.mod_lt _ (by omega)
    have hd : i = i / 3 * 3 + i % 3 := by omega
    have hl : i < (rcRow (List.replicate n rcE)).length := by simpa using h2
    have hg : ∀ v, (rcRow (List.replicate n rcE))[i]? = some v → (rcRow (List.replicate n rcE)).toArray[i] = v := fun v hv => by
      rw [List.getElem?_eq_getElem hl] at hv
      have := Option.some.inj hv
      simpa using this
    simp only [Array.getElem_map, Array.getElem_range]
    match hq : i % 3, hm with
    | 0, _ => rw [hq] at hd; rw [hg _ (by rw [hd]; exact hr.1)]; simp [rcE]; rfl
    | 1, _ => rw [hq] at hd; rw [hg _ (by rw [hd]; exact hr.2.1)]; simp [rcE]
    | 2, _ => rw [hq] at hd; rw [hg _ (by rw [hd]; exact hr.2.2)]; simp [rcE]
theorem run_make_rc (n : Nat) (hn : n ≤ 1048576) (w : World) :
    (Instr.makeSlice 23 (.int .i64 (n : Int)) (.int .i64 (n : Int))).run Tryz.prog w = .ok (.slice (some ⟨w.heap.size, 0, none⟩) n n) (w.alloc (.cells (rcRow (List.replicate n rcE)).toArray 65)) := by
  obtain ⟨i0, hi, hz0, hz1, hz2⟩ := info_parts infoRow
  have := run_make (P := Tryz.prog) w 23 65 i0 _ Tryz.underlying23 hi hz0 .i64 .i64 (n : Int) (n : Int) (by omega) (by omega) (by rw [hz2]; omega) (by omega)
  rw [this, hz1]
  simp only [Int.toNat_natCast]
  rw [← made_rc]; rfl
theorem alloc_rc (w : World) (l : List Rc) : BlkR (w.alloc (.cells (rcRow l).toArray 65)) w.heap.size l := (MapKept.heap_alloc w _).1
/-! ### Rows with blocks of fields of their own -/
def rcOf (x : Rw × Nat) : Rc := ⟨x.1.k, x.1.a, .slice (some ⟨x.2, 0, none⟩) x.1.fs.length x.1.fs.length⟩
/-- The block g holds rows, the fields of each lie in a block of their own behind it. -/
structure RwsB (w : World) (g : Nat) (xs : List (Rw × Nat)) : Prop where
  blk : BlkR w g (xs.map rcOf)
  fld : ∀ x ∈ xs, BlkF w x.2 x.1.fs
  up : ∀ x ∈ xs, g < x.2
  apart : xs.Pairwise (fun x y => x.2 < y.2)
theorem RwsB.below {w w' : World} {g : Nat} {xs : List (Rw × Nat)} (h : RwsB w g xs) (hb : Below w.heap.size w w') : RwsB w' g xs := ⟨Bxs.below h.blk hb, fun x hx => (h.fld x hx).below hb, h.up, h.apart⟩
theorem RwsB.lt {w : World} {g : Nat} {xs : List (Rw × Nat)} (h : RwsB w g xs) : g < w.heap.size := Bxs.lt h.blk
theorem RwsB.at {w : World} {g : Nat} {xs : List (Rw × Nat)} (h : RwsB w g xs) : RwAt w (some ⟨g, 0, none⟩) (xs.map (·.1)) := by
  intro i hi
  have hi2 : i < xs.length := by simpa using hi
  obtain ⟨⟨c0, c1, c2⟩, -⟩ := h.blk.cells i (by simpa using hi2)
  rw [List.getElem_map] at c0 c1 c2
  have e : (xs.map (·.1))[i] = xs[i].1 := by simp
  refine ⟨g, 0, some ⟨xs[i].2, 0, none⟩, xs[i].1.fs.length, rfl, h.lt, ?_, ?_, ?_, ?_, ?_⟩
  · rw [Nat.zero_add, e]; exact c0
  · rw [Nat.zero_add, e]; exact c1
  · rw [Nat.zero_add, e]; exact c2
  · rw [e]; exact Nat.le_refl _
  · rw [e]; exact (h.fld _ (List.getElem_mem hi2)).at
end Go.Proofs.YtnjegmffjelnpaaGreatDoor
/-
  What the laws' own helpers answer for rows: szRow, toRow, eqRow, eqRowOut (of two that are alike).
  Conditions: the slices' cells hold the fields.
-/
namespace Go.Proofs.YtnjegmffjelnpaaGreatDoor
open Go.RowKit Go.Lib
set_option linter.unusedVariables false
set_option maxRecDepth 20000

end Go.Proofs.YtnjegmffjelnpaaGreatDoor
/-
  szStringS from any number on.
-/
namespace Go.Proofs.YtnjegmffjelnpaaGreatDoor
open Go.RowKit Go.Lib
set_option linter.unusedVariables false

def SzTo (r l0 : Int) (ss : List ByteArray) : Prop := r = -1 ∨ (0 ≤ r ∧ r ≤ l0 ∧ ss.length ≤ 1048576 ∧ ∀ x ∈ ss, x.size ≤ 1048576)
end Go.Proofs.YtnjegmffjelnpaaGreatDoor
/-
  What the laws' own helpers answer for rows and logs: szRowS, szLog (of few and small ones a number that is not below 0, else -1), toRowS, toLog (a copy in new memory), eqRowS, eqLog (of what is alike true).
-/
namespace Go.Proofs.YtnjegmffjelnpaaGreatDoor
open Go.RowKit Go.Lib
set_option linter.unusedVariables false
set_option maxRecDepth 20000

def RwsBig (rs : List Rw) : Prop := ∀ r ∈ rs, r.fs.length ≤ 9223372036854775807 ∧ r.k.size ≤ 9223372036854775807 ∧ FldsBig r.fs
def cutR (rs : List Rw) (xs : List (Rw × Nat)) : List Rc := xs.map rcOf ++ List.replicate (rs.length - xs.length) rcE
/-- k rows are copied. -/
structure CpR (w : World) (rs : List Rw) (k : Nat) (W : World) : Prop where
  ex : ∃ xs : List (Rw × Nat), xs.map (·.1) = rs.take k ∧ BlkR W w.heap.size (cutR rs xs) ∧ (∀ x ∈ xs, BlkF W x.2 x.1.fs) ∧ (∀ x ∈ xs, w.heap.size < x.2) ∧ xs.Pairwise (fun x y => x.2 < y.2)
  bel : Below w.heap.size w W
theorem cutR_set (rs : List Rw) (xs : List (Rw × Nat)) (x : Rw × Nat) (h : xs.length < rs.length) : (cutR rs xs).set xs.length (rcOf x) = cutR rs (xs ++ [x]) := by
  unfold cutR
  rw [List.set_append_right _ _ (by simp)]
  simp only [List.length_map, Nat.sub_self, List.map_append, List.map_cons, List.map_nil, List.append_assoc, List.length_append, List.length_cons, List.length_nil]
  congr 1
  obtain ⟨m, hm⟩ : ∃ m, rs.length - xs.length = m + 1 := ⟨rs.length - xs.length - 1, by omega⟩
  rw [hm, show rs.length - (xs.length + (0 + 1)) = m by omega, List.replicate_succ]
  rfl
theorem CpR.put {w : World} {rs : List Rw} {k : Nat} {W y : World} (h : CpR w rs k W) (hk : k < rs.length) {g : Nat} (hb : Below W.heap.size W y) (hg : W.heap.size ≤ g) (hf : BlkF y g rs[k].fs) : CpR w rs (k + 1) (set3 y w.heap.size (k * 3) (rcOf (rs[k], g))) := by
  obtain ⟨xs, h1, h2, h3, h4, h5⟩ := h.ex
  have hl : xs.length = k := by have := congrArg List.length h1; simp at this; omega
  have hlt : w.heap.size < W.heap.size := Bxs.lt h2
  refine ⟨⟨xs ++ [(rs[k], g)], ?_, ?_, ?_, ?_, ?_⟩, set3_below (chainB h.bel hb) (Nat.le_refl _) _ _⟩
  · rw [List.map_append, h1, List.take_succ_eq_append_getElem hk]; rfl
  · rw [← cutR_set rs xs _ (by omega), hl]
    exact BlkR.set3 (Bxs.below h2 hb) k _
  · intro x hx
    rcases List.mem_append.1 hx with hx | hx
    · have hx2 := h4 x hx
      exact set3_other (Bxs.below (h3 x hx) hb) (by omega) _
    · rw [List.mem_singleton] at hx
      subst hx
      exact set3_other hf (by simp; omega) _
  · intro x hx
    rcases List.mem_append.1 hx with hx | hx
    · exact h4 x hx
    · rw [List.mem_singleton] at hx
      subst hx
      simp; omega
  · rw [List.pairwise_append]
    refine ⟨h5, List.pairwise_singleton _ _, fun a ha b hb' => ?_⟩
    rw [List.mem_singleton] at hb'
    subst hb'
    have := Bxs.lt (h3 a ha)
    simp; omega
theorem CpR.slot {w : World} {rs : List Rw} {k : Nat} {W : World} (h : CpR w rs k W) (hk : k < rs.length) : (∃ x1 x2 x3, W.cell? ⟨w.heap.size, k * 3, none⟩ = some x1 ∧ W.cell? ⟨w.heap.size, k * 3 + 1, none⟩ = some x2 ∧ W.cell? ⟨w.heap.size, k * 3 + 2, none⟩ = some x3) ∧ W.frozen? ⟨w.heap.size, k * 3, none⟩ = false ∧ W.frozen? ⟨w.heap.size, k * 3 + 1, none⟩ = false ∧ W.frozen? ⟨w.heap.size, k * 3 + 2, none⟩ = false := by
  obtain ⟨xs, h1, h2, -⟩ := h.ex
  have hl : xs.length = k := by have := congrArg List.length h1; simp at this; omega
  obtain ⟨g1, g2⟩ := h2.cells k (by unfold cutR; simp; omega)
  exact ⟨⟨_, _, _, g1⟩, g2⟩
theorem CpR.below {w : World} {rs : List Rw} {k : Nat} {W y : World} (h : CpR w rs k W) (hb : Below W.heap.size W y) : CpR w rs k y := by
  obtain ⟨xs, h1, h2, h3, h4, h5⟩ := h.ex
  exact ⟨⟨xs, h1, Bxs.below h2 hb, fun x hx => (h3 x hx).below hb, h4, h5⟩, chainB h.bel hb⟩
end Go.Proofs.YtnjegmffjelnpaaGreatDoor
/-
  What the laws' own helpers toLog, eqRowS and eqLog answer.
-/
namespace Go.Proofs.YtnjegmffjelnpaaGreatDoor
open Go.RowKit Go.Lib
set_option linter.unusedVariables false
set_option maxRecDepth 20000

/-- A log of its own: a block of rows, the fields of each in a block of their own, and behind all these a block of leaves. -/
structure LgB (w : World) (g : Nat) (xs : List (Rw × Nat)) (gl : Nat) (lv : List ByteArray) : Prop where
  rw : RwsB w g xs
  lf : BlkS w gl lv
  gg : g < gl
  gx : ∀ x ∈ xs, x.2 < gl
theorem LgB.below {w w' : World} {g : Nat} {xs : List (Rw × Nat)} {gl : Nat} {lv : List ByteArray} (h : LgB w g xs gl lv) (hb : Below w.heap.size w w') : LgB w' g xs gl lv := ⟨h.rw.below hb, h.lf.below hb h.lf.lt, h.gg, h.gx⟩
theorem BlkS.bxs {w : World} {g : Nat} {l : List ByteArray} (h : BlkS w g l) : Bxs w g 9 (strRow l).toArray := h
end Go.Proofs.YtnjegmffjelnpaaGreatDoor
/-
  What the laws' own helpers szFieldS, szRow, szRowS, szStringS and szLog answer, the sum kept: of what is few and small a number that is not below 0 and that leaves room for the count of all rows, fields and leaves; else -1.
-/
namespace Go.Proofs.YtnjegmffjelnpaaGreatDoor
open Go.RowKit Go.Lib
set_option linter.unusedVariables false
set_option maxRecDepth 20000

/-- How many fields the rows have, all together. -/
def fsN (rs : List Rw) : Nat := (rs.map (fun r => r.fs.length)).sum
theorem fsN_take (rs : List Rw) (k : Nat) (h : k < rs.length) : fsN (rs.take (k + 1)) = fsN (rs.take k) + rs[k].fs.length := by
  unfold fsN
  rw [List.take_succ_eq_append_getElem h, List.map_append, List.sum_append]; simp
theorem fsN_all (rs : List Rw) : fsN (rs.take rs.length) = fsN rs := by rw [List.take_length]
theorem fsN_mem {rs : List Rw} {x : Rw} (h : x ∈ rs) : x.fs.length ≤ fsN rs := by
  unfold fsN
  induction rs with
  | nil => cases h
  | cons y l ih =>
    rw [List.map_cons, List.sum_cons]
    rcases List.mem_cons.1 h with rfl | h
    · omega
    · have := ih h; omega
end Go.Proofs.YtnjegmffjelnpaaGreatDoor
/-
  What the laws' own helpers markRowS and markLog do with a log of its own: all blocks but the log's own stay.
-/
namespace Go.Proofs.YtnjegmffjelnpaaGreatDoor
open Go.RowKit Go.Lib
set_option linter.unusedVariables false
set_option maxRecDepth 20000

/-- What lay is as it was, but for the blocks of S. -/
structure But (S : Nat → Prop) (w w' : World) : Prop where
  os : w'.os = w.os
  tape : w'.tape = w.tape
  output : w'.output = w.output
  size : w.heap.size ≤ w'.heap.size
  block : ∀ k, k < w.heap.size → ¬ S k → w'.heap[k]? = w.heap[k]?
theorem But.refl (S : Nat → Prop) (w : World) : But S w w := ⟨rfl, rfl, rfl, Nat.le_refl _, fun _ _ _ => rfl⟩
theorem But.more {S : Nat → Prop} {a b c : World} (h : But S a b) (k : Below b.heap.size b c) : But S a c :=
  ⟨k.os.trans h.os, k.tape.trans h.tape, k.output.trans h.output, Nat.le_trans h.size k.size, fun q hq hn => (k.block q (Nat.lt_of_lt_of_le hq h.size)).trans (h.block q hq hn)⟩
theorem But.put {S : Nat → Prop} {a b : World} (h : But S a b) {p : Addr} (hp : S p.block) (v : Value) : But S a (b.setCell p v) :=
  ⟨h.os, h.tape, h.output, by simpa [World.setCell] using h.size, fun q hq hn => (Below.heap_setCell b p v q (fun e => hn (e ▸ hp))).trans (h.block q hq hn)⟩
theorem But.grown {S : Nat → Prop} {a b c : World} (h : But S a b) {g : Nat} (k : b.grownBy c (some g)) (hg : S g) : But S a c :=
  ⟨k.os.trans h.os, k.tape.trans h.tape, k.output.trans h.output, Nat.le_trans h.size k.size, fun q hq hn => (k.block q (Nat.lt_of_lt_of_le hq h.size) (fun e => hn (by cases e; exact hg))).trans (h.block q hq hn)⟩
theorem But.below {S : Nat → Prop} {a b c : World} {B : Nat} (h : Below B a b) (hB : B ≤ b.heap.size) (k : But S b c) (hS : ∀ q, S q → B ≤ q) : Below B a c :=
  ⟨k.os.trans h.os, k.tape.trans h.tape, k.output.trans h.output, Nat.le_trans h.size k.size, fun q hq => (k.block q (Nat.lt_of_lt_of_le hq hB) (fun e => by have := hS q e; omega)).trans (h.block q hq)⟩
theorem Bxs.but {S : Nat → Prop} {w w' : World} {g : Nat} {T : TypeId} {cs : Array Value} (h : Bxs w g T cs) (k : But S w w') (hn : ¬ S g) : Bxs w' g T cs := (k.block g h.lt hn).trans h
theorem ownS_but {S : Nat → Prop} {w w' : World} {base : Nat} {e : TypeId} {s : Nat} {v : Value} {n : Nat} {xs : List Value} (h : w.ownsRow base e s v n xs) (k : But S w w') (hn : ∀ g, v.ownBlock = some g → ¬ S g) : w'.ownsRow base e s v n xs := by
  refine ⟨h.1, ?_⟩
  rcases h.2 with h0 | ⟨g, cap, cur, h1, h2, h3, h4⟩
  · exact .inl h0
  · exact .inr ⟨g, cap, cur, h1, h2, (k.block g (lt_of_block h3) (hn g (by rw [h1]; rfl))).trans h3, h4⟩
/-- How many fields the first k rows have. -/
def fX (xs : List (Rw × Nat)) (k : Nat) : Nat := fsN ((xs.map (·.1)).take k)
theorem fX_step (xs : List (Rw × Nat)) (k : Nat) (h : k < xs.length) : fX xs (k + 1) = fX xs k + xs[k].1.fs.length := by
  unfold fX
  rw [fsN_take _ k (by simpa using h), List.getElem_map]
theorem fX_le (xs : List (Rw × Nat)) (k : Nat) : fX xs k ≤ fsN (xs.map (·.1)) := by
  unfold fX fsN
  conv => rhs; rw [← List.take_append_drop k (xs.map (·.1))]
  rw [List.map_append, List.sum_append]; omega
theorem fX_all (xs : List (Rw × Nat)) : fX xs xs.length = fsN (xs.map (·.1)) := by
  have := fsN_all (xs.map (·.1)); rw [List.length_map] at this; exact this
/-- i rows are marked. -/
structure MkR (S : Nat → Prop) (w : World) (g : Nat) (xs : List (Rw × Nat)) (i : Nat) (x : World) : Prop where
  bl : ∃ row : List Value, row.length = xs.length * 3 ∧ (∀ j (h : j < xs.length), row[j * 3 + 2]? = some (.slice (some ⟨xs[j].2, 0, none⟩) xs[j].1.fs.length xs[j].1.fs.length)) ∧ Bxs x g 65 row.toArray
  fl : ∀ j (h : j < xs.length), i ≤ j → BlkF x xs[j].2 xs[j].1.fs
  but : But S w x
theorem MkR.start {S : Nat → Prop} {w : World} {g : Nat} {xs : List (Rw × Nat)} (h : RwsB w g xs) : MkR S w g xs 0 w := by
  refine ⟨⟨rcRow (xs.map rcOf), by rw [rcRow_len]; simp, fun j hj => ?_, h.blk⟩, fun j hj _ => h.fld _ (List.getElem_mem hj), But.refl _ _⟩
  have := (rcRow_at (xs.map rcOf) j (by simpa using hj)).2.2
  rw [this]; simp [rcOf]
theorem MkR.below {S : Nat → Prop} {w : World} {g : Nat} {xs : List (Rw × Nat)} {i : Nat} {x y : World} (h : MkR S w g xs i x) (hb : Below x.heap.size x y) : MkR S w g xs i y := by
  obtain ⟨row, h1, h2, h3⟩ := h.bl
  exact ⟨⟨row, h1, h2, h3.below hb⟩, fun j hj hi => (h.fl j hj hi).below hb, h.but.more hb⟩
theorem MkR.put {S : Nat → Prop} {w : World} {g : Nat} {xs : List (Rw × Nat)} {i : Nat} {x : World} (h : MkR S w g xs i x) (hS : S g) (hu : ∀ x ∈ xs, g < x.2) (a : Nat) (ha : a % 3 ≠ 2) (v : Value) : MkR S w g xs i (x.setCell ⟨g, a, none⟩ v) := by
  obtain ⟨row, h1, h2, h3⟩ := h.bl
  refine ⟨⟨row.set a v, by simpa using h1, fun j hj => ?_, bxs_set1 h3 a v⟩, fun j hj hi => ?_, h.but.put hS v⟩
  · rw [List.getElem?_set_ne (by omega)]; exact h2 j hj
  · have := hu _ (List.getElem_mem hj)
    exact Bxs.other (h.fl j hj hi) _ _ (by omega) _
theorem MkR.cells {S : Nat → Prop} {w : World} {g : Nat} {xs : List (Rw × Nat)} {i : Nat} {x : World} (h : MkR S w g xs i x) (j : Nat) (hj : j < xs.length) : (∃ v, x.cell? ⟨g, j * 3, none⟩ = some v) ∧ (∃ v, x.cell? ⟨g, j * 3 + 1, none⟩ = some v) ∧ x.cell? ⟨g, j * 3 + 2, none⟩ = some (.slice (some ⟨xs[j].2, 0, none⟩) xs[j].1.fs.length xs[j].1.fs.length) ∧ x.frozen? ⟨g, j * 3, none⟩ = false ∧ x.frozen? ⟨g, j * 3 + 1, none⟩ = false := by
  obtain ⟨row, h1, h2, h3⟩ := h.bl
  have hc : ∀ a, x.cell? ⟨g, a, none⟩ = row[a]? := fun a => by rw [h3.cell a]; simp
  refine ⟨⟨row[j * 3]'(by omega), ?_⟩, ⟨row[j * 3 + 1]'(by omega), ?_⟩, ?_, h3.fr _, h3.fr _⟩
  · rw [hc]; exact List.getElem?_eq_getElem _
  · rw [hc]; exact List.getElem?_eq_getElem _
  · rw [hc]; exact h2 j hj
theorem MkR.fields {S : Nat → Prop} {w : World} {g : Nat} {xs : List (Rw × Nat)} {i : Nat} {x y : World} (h : MkR S w g xs i x) (hi : i < xs.length) (hS : S xs[i].2) (hu : ∀ x ∈ xs, g < x.2) (ha : xs.Pairwise (fun x y => x.2 < y.2)) (hg : x.grownBy y (some xs[i].2)) : MkR S w g xs (i + 1) y := by
  obtain ⟨row, h1, h2, h3⟩ := h.bl
  have := hu _ (List.getElem_mem hi)
  refine ⟨⟨row, h1, h2, h3.grown hg (fun e => by have := Option.some.inj e; omega)⟩, fun j hj hij => ?_, h.but.grown hg hS⟩
  have hl := List.pairwise_iff_getElem.1 ha i j hi hj (by omega)
  exact Bxs.grown (h.fl j hj (by omega)) hg (fun e => by have := Option.some.inj e; omega)

/-- The blocks of a log of its own. -/
def lgS (g : Nat) (xs : List (Rw × Nat)) (gl : Nat) (k : Nat) : Prop := k = g ∨ k = gl ∨ ∃ x ∈ xs, k = x.2
theorem lgS_from {w : World} {g : Nat} {xs : List (Rw × Nat)} {gl : Nat} {lv : List ByteArray} (h : LgB w g xs gl lv) {q : Nat} (hq : lgS g xs gl q) : g ≤ q ∧ q < w.heap.size := by
  rcases hq with rfl | rfl | ⟨x, hx, rfl⟩
  · exact ⟨Nat.le_refl _, h.rw.lt⟩
  · exact ⟨Nat.le_of_lt h.gg, h.lf.lt⟩
  · exact ⟨Nat.le_of_lt (h.rw.up x hx), Bxs.lt (h.rw.fld x hx)⟩
end Go.Proofs.YtnjegmffjelnpaaGreatDoor
/-
  What the specification's and the program's HeadSign answer of any log in memory: of a right one the signature of its head, else nothing; the answer owns its memory.
-/
namespace Go.Proofs.YtnjegmffjelnpaaGreatDoor
open Go.RowKit Go.Lib
set_option linter.unusedVariables false
set_option maxRecDepth 20000

def hsK (rs : List Rw) (lv : List ByteArray) (now : Int) (seed : ByteArray) (key : Int) : Int := if lgB rs lv now = true then sgK seed key (hdB lv) else 0
def hsE (rs : List Rw) (lv : List ByteArray) (now : Int) (seed : ByteArray) (key : Int) : List ByteArray := if lgB rs lv now = true then sgE seed key (hdB lv) else []
def hsP (rs : List Rw) (lv : List ByteArray) (now : Int) (seed : ByteArray) (key : Int) : List ByteArray := if lgB rs lv now = true then sgP seed key (hdB lv) else []
theorem hdB_size (lv : List ByteArray) : 32 ≤ (hdB lv).size ∧ (hdB lv).size ≤ 1048576 := by
  unfold hdB putTextB
  have h := treeB_size lv
  have h1 : (putB (lv.length : Int)).size ≤ 10 := putB_size _
  have h2 : (putB ((treeB lv).size : Int)).size ≤ 10 := putB_size _
  rw [if_neg (by omega), ByteArray.size_append, ByteArray.size_append]
  omega
theorem hdB_ne (lv : List ByteArray) : hdB lv ≠ ByteArray.empty := fun h => by
  have := (hdB_size lv).1
  rw [h] at this
  simp at this
theorem sig_out {w y : World} (hb : Below w.heap.size w y) {g base : Nat} (hg : w.heap.size ≤ g) (hgb : g < base) {v1 v2 : Value} {E P : List ByteArray} (o1 : y.ownsRow base 9 1 v1 E.length (strRow E)) (o2 : y.ownsRow base 9 1 v2 P.length (strRow P)) (a b c : Value) :
    (((y.setCell ⟨g, 0, none⟩ a).setCell ⟨g, 1, none⟩ b).setCell ⟨g, 2, none⟩ c).ownsRow w.heap.size 9 1 v1 E.length (strRow E) ∧ (((y.setCell ⟨g, 0, none⟩ a).setCell ⟨g, 1, none⟩ b).setCell ⟨g, 2, none⟩ c).ownsRow w.heap.size 9 1 v2 P.length (strRow P) ∧ Below w.heap.size w (((y.setCell ⟨g, 0, none⟩ a).setCell ⟨g, 1, none⟩ b).setCell ⟨g, 2, none⟩ c) := by
  have hB : But (fun k => k = g) y (((y.setCell ⟨g, 0, none⟩ a).setCell ⟨g, 1, none⟩ b).setCell ⟨g, 2, none⟩ c) := (((But.refl (fun k => k = g) y).put (p := ⟨g, 0, none⟩) rfl a).put (p := ⟨g, 1, none⟩) rfl b).put (p := ⟨g, 2, none⟩) rfl c
  refine ⟨ownS_mono (ownS_but o1 hB (fun j hj e => by have := (o1.lt j hj).1; omega)) (by omega), ownS_mono (ownS_but o2 hB (fun j hj e => by have := (o2.lt j hj).1; omega)) (by omega), below_set3 hb hg _ _ _⟩
theorem sig_none (w y : World) : y.ownsRow w.heap.size 9 1 (.slice none 0 0) ([] : List ByteArray).length (strRow []) := World.ownsRow_nil _ _ _ _
set_option maxHeartbeats 2000000 in
theorem specHeadSign_any (p : Option Addr) (lv : List ByteArray) (cp : Nat) (q : Option Addr) (rs : List Rw) (cq : Nat) (now : Int) (seed : ByteArray) (key : Int) (w : World) (hs : seed.size ≤ 1048576) (hA : LgAt p lv cp q rs cq w) :
    Calls Tryz.prog 7 #[.agg #[.slice q rs.length cq, .slice p lv.length cp, .int .i64 now], .string seed, .int .i64 key] w fun e w' => ∃ v1 v2, e = .returned (.agg #[.int .i64 (hsK rs lv now seed key), v1, v2]) ∧ w'.ownsRow w.heap.size 9 1 v1 (hsE rs lv now seed key).length (strRow (hsE rs lv now seed key)) ∧ w'.ownsRow w.heap.size 9 1 v2 (hsP rs lv now seed key).length (strRow (hsP rs lv now seed key)) ∧ (v1.ownBlock = none ∨ v1.ownBlock ≠ v2.ownBlock) ∧ Below w.heap.size w w' := by
  obtain ⟨W2, hW2⟩ : ∃ W2, W2 = (w.alloc (.cells #[.slice q rs.length cq, .slice p lv.length cp, .int .i64 now] 26)).alloc (.cells #[.int .i64 0, .slice none 0 0, .slice none 0 0] 30) := ⟨_, rfl⟩
  have HW2 : Hid (W2 = (w.alloc (.cells #[.slice q rs.length cq, .slice p lv.length cp, .int .i64 now] 26)).alloc (.cells #[.int .i64 0, .slice none 0 0, .slice none 0 0] 30)) := hW2
  have B2 : Hid (Below w.heap.size w W2) := by rw [hW2]; exact ((Below.refl _ _).alloc (Nat.le_refl _) _).alloc (by simp) _
  have K1 : Hid (Bxs W2 w.heap.size 26 #[.slice q rs.length cq, .slice p lv.length cp, .int .i64 now]) := by rw [hW2]; exact (Bxs.new _ _ _).alloc _
  have K2 : Hid (Bxs W2 (w.heap.size + 1) 30 #[.int .i64 0, .slice none 0 0, .slice none 0 0]) := by
    rw [hW2]
    have := Bxs.new (w.alloc (.cells #[.slice q rs.length cq, .slice p lv.length cp, .int .i64 now] 26)) 30 #[.int .i64 0, .slice none 0 0, .slice none 0 0]
    rwa [szA] at this
  have hh := hdB_size lv
  have HSg : Hid (∀ x, Below w.heap.size w x → Calls Tryz.prog 20 #[.string seed, .int .i64 key, .string (hdB lv)] x fun e w' => ∃ v1 v2, e = .returned (.agg #[.int .i64 (sgK seed key (hdB lv)), v1, v2]) ∧ w'.ownsRow x.heap.size 9 1 v1 (sgE seed key (hdB lv)).length (strRow (sgE seed key (hdB lv))) ∧ w'.ownsRow x.heap.size 9 1 v2 (sgP seed key (hdB lv)).length (strRow (sgP seed key (hdB lv))) ∧ (v1.ownBlock = none ∨ v1.ownBlock ≠ v2.ownBlock) ∧ Below x.heap.size x w') := fun x hb => specSign_any seed key (hdB lv) x hs hh.2
  have hR := specLogRight_any p lv cp q rs cq now W2 (hA.below B2.out)
  have HH : Hid (lgB rs lv now = true → ∀ x, Below w.heap.size w x → Calls Tryz.prog 21 #[.agg #[.slice q rs.length cq, .slice p lv.length cp, .int .i64 now]] x fun e w' => e = .returned (.string (hdB lv)) ∧ Below x.heap.size x w') := fun hg x hb => l09Head_any p lv cp q rs cq now x (hA.below hb) (lg_small hg)
  have HK : Hid (∀ y, Below W2.heap.size W2 y → (y.cell? ⟨w.heap.size, 0, none⟩ = some (.slice q rs.length cq) ∧ y.cell? ⟨w.heap.size, 1, none⟩ = some (.slice p lv.length cp) ∧ y.cell? ⟨w.heap.size, 2, none⟩ = some (.int .i64 now)) ∧ (y.cell? ⟨w.heap.size + 1, 0, none⟩ = some (.int .i64 0) ∧ y.cell? ⟨w.heap.size + 1, 1, none⟩ = some (.slice none 0 0) ∧ y.cell? ⟨w.heap.size + 1, 2, none⟩ = some (.slice none 0 0)) ∧ y.frozen? ⟨w.heap.size + 1, 0, none⟩ = false ∧ y.frozen? ⟨w.heap.size + 1, 1, none⟩ = false ∧ y.frozen? ⟨w.heap.size + 1, 2, none⟩ = false) := fun y hb => ⟨⟨(K1.out.below hb).cell 0, (K1.out.below hb).cell 1, (K1.out.below hb).cell 2⟩, ⟨(K2.out.below hb).cell 0, (K2.out.below hb).cell 1, (K2.out.below hb).cell 2⟩, (K2.out.below hb).fr 0, (K2.out.below hb).fr 1, (K2.out.below hb).fr 2⟩
  have HZ : Hid (w.heap.size + 1 < W2.heap.size) := K2.out.lt
  obtain ⟨⟨x0, x1, x2⟩, -⟩ := HK.out W2 (Below.refl _ _)
  rw [HW2.out] at x0 x1 x2
  unfold hsK hsE hsP
  clear hW2 hA K1 K2 hh
  cases hg : lgB rs lv now with
  | false =>
    rw [hg] at hR
    rw [if_neg Bool.false_ne_true, if_neg Bool.false_ne_true, if_neg Bool.false_ne_true]
    clear HSg HH
    go_enter Tryz.func7, Tryz.ntmps7
    go_wp2_with fail
    rw [← HW2.out]
    refine hR.mono ?_
    rintro e y ⟨rfl, by_⟩
    obtain ⟨-, ⟨r0, r1, r2⟩, f0, f1, f2⟩ := HK.out y by_
    have HB : Hid (∀ a b c : Value, Below w.heap.size w (((y.setCell ⟨w.heap.size + 1, 0, none⟩ a).setCell ⟨w.heap.size + 1, 1, none⟩ b).setCell ⟨w.heap.size + 1, 2, none⟩ c)) := fun a b c => below_set3 (chainB B2.out by_) (Nat.le_add_right _ _) _ _ _
    clear hR x0 x1 x2 HW2 HK B2 by_
    go_wp2_with fail
    refine bodyPost_ret (v := .agg #[.int .i64 0, .slice none 0 0, .slice none 0 0]) (by simp [results, Tryz.results7, go_sem, r0, r1, r2]) rfl ?_
    exact ⟨_, _, rfl, sig_none _ _, sig_none _ _, .inl rfl, HB.out _ _ _⟩
  | true =>
    rw [hg] at hR
    rw [if_pos rfl, if_pos rfl, if_pos rfl]
    have HH2 : Hid (∀ x, Below w.heap.size w x → Calls Tryz.prog 21 #[.agg #[.slice q rs.length cq, .slice p lv.length cp, .int .i64 now]] x fun e w' => e = .returned (.string (hdB lv)) ∧ Below x.heap.size x w') := HH.out hg
    clear HH hg
    generalize hdB lv = HD at *
    generalize sgK seed key HD = K at *
    generalize sgE seed key HD = E at *
    generalize sgP seed key HD = P at *
    go_enter Tryz.func7, Tryz.ntmps7
    go_wp2_with fail
    rw [← HW2.out]
    refine hR.mono ?_
    rintro e y ⟨rfl, by_⟩
    obtain ⟨⟨x0, x1, x2⟩, -⟩ := HK.out y by_
    have hH := HH2.out y (chainB B2.out by_)
    clear hR HH2 HW2
    go_wp2_with fail
    refine hH.mono ?_
    rintro e y1 ⟨rfl, b1⟩
    have by1 : Below W2.heap.size W2 y1 := chainB by_ b1
    clear hH x0 x1 x2 by_ b1
    have hG := HSg.out y1 (chainB B2.out by1)
    clear HSg
    go_wp2_with fail
    refine hG.mono ?_
    rintro e y2 ⟨v1, v2, rfl, o1, o2, hne, b2⟩
    obtain ⟨p1, c1, rfl, m1, -⟩ := ownS_form o1
    obtain ⟨p2, c2, rfl, m2, -⟩ := ownS_form o2
    have by2 : Below W2.heap.size W2 y2 := chainB by1 b2
    obtain ⟨-, ⟨r0, r1, r2⟩, f0, f1, f2⟩ := HK.out y2 by2
    have hz := HZ.out
    have hz1 := by1.size
    have HO : Hid (∀ a b c : Value, _) := fun a b c => sig_out (chainB B2.out by2) (g := w.heap.size + 1) (by omega) (by omega) o1 o2 a b c
    have HNE : Hid ((Value.slice p1 E.length c1).ownBlock = none ∨ (Value.slice p1 E.length c1).ownBlock ≠ (Value.slice p2 P.length c2).ownBlock) := hne
    clear hG by1 b2 by2 HK B2 o1 o2 hne hz hz1 HZ
    go_wp2_with fail
    refine bodyPost_ret (v := .agg #[.int .i64 K, .slice p1 E.length c1, .slice p2 P.length c2]) (by simp [results, Tryz.results7, go_sem, r0, r1, r2]) rfl ?_
    obtain ⟨h1, h2, h3⟩ := HO.out (.int .i64 K) (.slice p1 E.length c1) (.slice p2 P.length c2)
    exact ⟨_, _, rfl, h1, h2, HNE.out, h3⟩
set_option maxHeartbeats 2000000 in
theorem implHeadSign_any (p : Option Addr) (lv : List ByteArray) (cp : Nat) (q : Option Addr) (rs : List Rw) (cq : Nat) (now : Int) (seed : ByteArray) (key : Int) (w : World) (hT : Tabs w) (hg : Laid w) (hs : seed.size ≤ 1048576) (hA : LgAt p lv cp q rs cq w) :
    Calls Tryz.prog 5 #[.agg #[.slice q rs.length cq, .slice p lv.length cp, .int .i64 now], .string seed, .int .i64 key] w fun e w' => ∃ v1 v2, e = .returned (.agg #[.int .i64 (hsK rs lv now seed key), v1, v2]) ∧ w'.ownsRow w.heap.size 9 1 v1 (hsE rs lv now seed key).length (strRow (hsE rs lv now seed key)) ∧ w'.ownsRow w.heap.size 9 1 v2 (hsP rs lv now seed key).length (strRow (hsP rs lv now seed key)) ∧ (v1.ownBlock = none ∨ v1.ownBlock ≠ v2.ownBlock) ∧ Below w.heap.size w w' := by
  obtain ⟨W2, hW2⟩ : ∃ W2, W2 = (w.alloc (.cells #[.slice q rs.length cq, .slice p lv.length cp, .int .i64 now] 26)).alloc (.cells #[.int .i64 0, .slice none 0 0, .slice none 0 0] 30) := ⟨_, rfl⟩
  have HW2 : Hid (W2 = (w.alloc (.cells #[.slice q rs.length cq, .slice p lv.length cp, .int .i64 now] 26)).alloc (.cells #[.int .i64 0, .slice none 0 0, .slice none 0 0] 30)) := hW2
  have B2 : Hid (Below w.heap.size w W2) := by rw [hW2]; exact ((Below.refl _ _).alloc (Nat.le_refl _) _).alloc (by simp) _
  have K1 : Hid (Bxs W2 w.heap.size 26 #[.slice q rs.length cq, .slice p lv.length cp, .int .i64 now]) := by rw [hW2]; exact (Bxs.new _ _ _).alloc _
  have K2 : Hid (Bxs W2 (w.heap.size + 1) 30 #[.int .i64 0, .slice none 0 0, .slice none 0 0]) := by
    rw [hW2]
    have := Bxs.new (w.alloc (.cells #[.slice q rs.length cq, .slice p lv.length cp, .int .i64 now] 26)) 30 #[.int .i64 0, .slice none 0 0, .slice none 0 0]
    rwa [szA] at this
  have hh := hdB_size lv
  have HSg : Hid (∀ x, Below w.heap.size w x → Calls Tryz.prog 17 #[.string seed, .int .i64 key, .string (hdB lv)] x fun e w' => ∃ v1 v2, e = .returned (.agg #[.int .i64 (sgK seed key (hdB lv)), v1, v2]) ∧ w'.ownsRow x.heap.size 9 1 v1 (sgE seed key (hdB lv)).length (strRow (sgE seed key (hdB lv))) ∧ w'.ownsRow x.heap.size 9 1 v2 (sgP seed key (hdB lv)).length (strRow (sgP seed key (hdB lv))) ∧ (v1.ownBlock = none ∨ v1.ownBlock ≠ v2.ownBlock) ∧ Below x.heap.size x w') := fun x hb => implSign_any seed key (hdB lv) x (hT.to hb) hs hh.2
  have hR := implHeadText_any p lv cp q rs cq now W2 (hT.to B2.out) (hg.below B2.out) (hA.below B2.out)
  have HNe : Hid (hdB lv ≠ ⟨#[]⟩) := hdB_ne lv
  unfold hdO at hR
  have HK : Hid (∀ y, Below W2.heap.size W2 y → (y.cell? ⟨w.heap.size, 0, none⟩ = some (.slice q rs.length cq) ∧ y.cell? ⟨w.heap.size, 1, none⟩ = some (.slice p lv.length cp) ∧ y.cell? ⟨w.heap.size, 2, none⟩ = some (.int .i64 now)) ∧ (y.cell? ⟨w.heap.size + 1, 0, none⟩ = some (.int .i64 0) ∧ y.cell? ⟨w.heap.size + 1, 1, none⟩ = some (.slice none 0 0) ∧ y.cell? ⟨w.heap.size + 1, 2, none⟩ = some (.slice none 0 0)) ∧ y.frozen? ⟨w.heap.size + 1, 0, none⟩ = false ∧ y.frozen? ⟨w.heap.size + 1, 1, none⟩ = false ∧ y.frozen? ⟨w.heap.size + 1, 2, none⟩ = false) := fun y hb => ⟨⟨(K1.out.below hb).cell 0, (K1.out.below hb).cell 1, (K1.out.below hb).cell 2⟩, ⟨(K2.out.below hb).cell 0, (K2.out.below hb).cell 1, (K2.out.below hb).cell 2⟩, (K2.out.below hb).fr 0, (K2.out.below hb).fr 1, (K2.out.below hb).fr 2⟩
  have HZ : Hid (w.heap.size + 1 < W2.heap.size) := K2.out.lt
  obtain ⟨⟨x0, x1, x2⟩, -⟩ := HK.out W2 (Below.refl _ _)
  rw [HW2.out] at x0 x1 x2
  unfold hsK hsE hsP
  clear hW2 hA K1 K2 hh hT hg
  cases hg : lgB rs lv now with
  | false =>
    rw [hg] at hR
    rw [if_neg Bool.false_ne_true, if_neg Bool.false_ne_true, if_neg Bool.false_ne_true]
    rw [if_neg Bool.false_ne_true] at hR
    clear HSg HNe
    go_enter Tryz.func5, Tryz.ntmps5
    go_wp2_with fail
    rw [← HW2.out]
    refine hR.mono ?_
    rintro e y ⟨rfl, by_⟩
    obtain ⟨-, ⟨r0, r1, r2⟩, f0, f1, f2⟩ := HK.out y by_
    have HB : Hid (∀ a b c : Value, Below w.heap.size w (((y.setCell ⟨w.heap.size + 1, 0, none⟩ a).setCell ⟨w.heap.size + 1, 1, none⟩ b).setCell ⟨w.heap.size + 1, 2, none⟩ c)) := fun a b c => below_set3 (chainB B2.out by_) (Nat.le_add_right _ _) _ _ _
    clear hR x0 x1 x2 HW2 HK B2 by_
    go_wp2_with fail
    refine bodyPost_ret (v := .agg #[.int .i64 0, .slice none 0 0, .slice none 0 0]) (by simp [results, Tryz.results5, go_sem, r0, r1, r2]) rfl ?_
    exact ⟨_, _, rfl, sig_none _ _, sig_none _ _, .inl rfl, HB.out _ _ _⟩
  | true =>
    rw [hg] at hR
    rw [if_pos rfl, if_pos rfl, if_pos rfl]
    rw [if_pos rfl] at hR
    clear hg
    generalize hdB lv = HD at *
    generalize sgK seed key HD = K at *
    generalize sgE seed key HD = E at *
    generalize sgP seed key HD = P at *
    go_enter Tryz.func5, Tryz.ntmps5
    go_wp2_with fail
    rw [← HW2.out]
    refine hR.mono ?_
    rintro e y ⟨rfl, by_⟩
    have by1 := by_
    obtain ⟨y1, rfl⟩ : ∃ y1, y1 = y := ⟨_, rfl⟩
    have n0 : HD ≠ ⟨#[]⟩ := HNe.out
    have d0 : (HD.toList == (⟨#[]⟩ : ByteArray).toList) = false := by
      rw [beq_eq_false_iff_ne]
      exact fun h => n0 (toList_inj h)
    have e0 : (⟨#[]⟩ : ByteArray).toList = [] := by rw [ByteArray.toList_eq]
    have d1 : (HD.toList == []) = false := by rw [← e0]; exact d0
    have d2 : HD.toList ≠ [] := by rw [← e0]; exact fun h => n0 (toList_inj h)
    clear e0
    clear hR x0 x1 x2 HW2 by_
    have hG := HSg.out y1 (chainB B2.out by1)
    clear HSg
    go_wp2_with fail
    refine hG.mono ?_
    rintro e y2 ⟨v1, v2, rfl, o1, o2, hne, b2⟩
    obtain ⟨p1, c1, rfl, m1, -⟩ := ownS_form o1
    obtain ⟨p2, c2, rfl, m2, -⟩ := ownS_form o2
    have by2 : Below W2.heap.size W2 y2 := chainB by1 b2
    obtain ⟨-, ⟨r0, r1, r2⟩, f0, f1, f2⟩ := HK.out y2 by2
    have hz := HZ.out
    have hz1 := by1.size
    have HO : Hid (∀ a b c : Value, _) := fun a b c => sig_out (chainB B2.out by2) (g := w.heap.size + 1) (by omega) (by omega) o1 o2 a b c
    have HNE : Hid ((Value.slice p1 E.length c1).ownBlock = none ∨ (Value.slice p1 E.length c1).ownBlock ≠ (Value.slice p2 P.length c2).ownBlock) := hne
    clear hG by1 b2 by2 HK B2 o1 o2 hne hz hz1 HZ
    go_wp2_with fail
    refine bodyPost_ret (v := .agg #[.int .i64 K, .slice p1 E.length c1, .slice p2 P.length c2]) (by simp [results, Tryz.results5, go_sem, r0, r1, r2]) rfl ?_
    obtain ⟨h1, h2, h3⟩ := HO.out (.int .i64 K) (.slice p1 E.length c1) (.slice p2 P.length c2)
    exact ⟨_, _, rfl, h1, h2, HNE.out, h3⟩
end Go.Proofs.YtnjegmffjelnpaaGreatDoor
