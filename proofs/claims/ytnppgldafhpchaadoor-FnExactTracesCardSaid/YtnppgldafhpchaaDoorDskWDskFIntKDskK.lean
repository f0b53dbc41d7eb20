/-
  Parts of one proof, laid as one text: DskW, DskF, IntK, DskK; what each says stands at its head.
-/
import Derived.Test.YtnppgldafhpchaaDoorRows
import Derived.Test.YtnppgldafhpchaaDoorBytes
import Derived.Test.YtnppgldafhpchaaDoorSlASlBOwnS
import Derived.Test.YtnppgldafhpchaaDoorDskMath
import Derived.Test.YtnppgldafhpchaaDoorDskR
import Derived.Test.YtnppgldafhpchaaDoorTextMathDskS
import Derived.Test.YtnppgldafhpchaaDoorDskA
import Derived.Test.YtnppgldafhpchaaDoorDskC
import Derived.Test.YtnppgldafhpchaaDoorDskT
import Derived.Test.YtnppgldafhpchaaDoorOwnB
import Derived.Handy
import Derived.WalkSpells
import Derived.OwnWalk
import Derived.Deep.AppendLies
import Derived.Laws.OwnMore
/-
  What the specification's DiskWrite answers.
-/
namespace Go.Proofs.YtnppgldafhpchaaDoor
open Go.RowKit Go.Lib
set_option linter.unusedVariables false
set_option maxRecDepth 20000

theorem app_pend (w : World) (base : Nat) (v : Value) (l : List Pnd) (own : w.ownsRow base 65 2 v l.length (pndRow l)) (x : Pnd) (hl : l.length + 1 ≤ 1048576) (hbase : base ≤ w.heap.size) :
    ∃ g c w', (Builtin.append_ #[28, 28] 28 #[v, .slice (some ⟨w.heap.size, 0, none⟩) 1 1]).run Tryd.prog (w.alloc (.cells #[.int .i64 x.1, .string x.2] 65)) = .ok (.slice (some ⟨g, 0, none⟩) (l.length + 1) c) w' ∧
      w'.ownsRow base 65 2 (.slice (some ⟨g, 0, none⟩) (l.length + 1) c) (l ++ [x]).length (pndRow (l ++ [x])) ∧ (w.alloc (.cells #[.int .i64 x.1, .string x.2] 65)).grownBy w' v.ownBlock ∧ (v.ownBlock = some g ∨ g = w.heap.size + 1) := by
  obtain ⟨i0, hi, hz0, hz1, hz2⟩ := info_parts infoPnd
  obtain ⟨g, c, w', h1, h2, h3, h4, _⟩ := run_append_lies (P := Tryd.prog) (w.alloc (.cells #[.int .i64 x.1, .string x.2] 65)) 28 28 base 65 i0 _ 2 24 Tryd.underlying28 hi hz0 hz1 hz2 rfl (by omega) v l.length (pndRow l) (own.alloc _) ⟨w.heap.size, 0, none⟩ 1 1 (pndRow [x]) rfl (fun j u hu => by
      have hj : j < 2 := by
        rcases Nat.lt_or_ge j 2 with q | q
        · exact q
        · rw [List.getElem?_eq_none (by rw [pndRow_len]; exact q)] at hu; cases hu
      have hadd : (⟨w.heap.size, 0, none⟩ : Addr).add j = ⟨w.heap.size, 0 + j, none⟩ := by unfold Addr.add; split <;> simp_all
      rw [hadd, Nat.zero_add, World.cell?_alloc_mark]
      match j, hj with
      | 0, _ => exact hu
      | 1, _ => exact hu) (fun u hu => by
      simp [pndRow] at hu
      rcases hu with rfl | rfl <;> rfl) (by omega) (by unfold maxLen; omega) (by omega) (by simp; omega) (w.heap.size + 1) (by simp)
  refine ⟨g, c, w', h1, ?_, h3, h4⟩
  have e1 : (l ++ [x]).length = l.length + 1 := by simp
  rw [e1, pndRow_append]; exact h2

def wrC (ss : List ByteArray) (ps : List Pnd) (at_ : Int) (data : ByteArray) : Int := if 8000 < data.size then 2 else if dskB ss ps = true ∧ data.size ≤ 64 then (if inB ss at_ = true then (if 200 ≤ ps.length then 9 else 0) else 8) else 1
def wrS (ss : List ByteArray) (ps : List Pnd) (at_ : Int) (data : ByteArray) : List ByteArray := if wrC ss ps at_ data = 0 then ss else []
def wrP (ss : List ByteArray) (ps : List Pnd) (at_ : Int) (data : ByteArray) : List Pnd := if wrC ss ps at_ data = 0 then ps ++ [(at_, data)] else []

end Go.Proofs.YtnppgldafhpchaaDoor
/-
  What the specification's DiskFlush answers.
-/
namespace Go.Proofs.YtnppgldafhpchaaDoor
open Go.RowKit Go.Lib
set_option linter.unusedVariables false
set_option maxRecDepth 20000

/-- A disk that is put together in a box at X: its sectors lie in the row at b. -/
structure FlS (W2 : World) (X b d n : Nat) (L : List ByteArray) (w : World) : Prop where
  own : w.ownsRow W2.heap.size 9 1 (.slice (some ⟨b, 0, none⟩) n d) n (strRow L)
  bel : Below W2.heap.size W2 w
  box : w.heap[X]? = some (.cells #[.slice (some ⟨b, 0, none⟩) n d, .slice none 0 0] 30 (0, 0))
  len : L.length = n
  hX : W2.heap.size ≤ X
  ne : b ≠ X
theorem FlS.drew {W2 : World} {X b d n : Nat} {L : List ByteArray} {w : World} (h : FlS W2 X b d n L w) : FlS W2 X b d n L w.drew := ⟨ownS_below h.own (Below.refl _ _).drew, h.bel.drew, h.box, h.len, h.hX, h.ne⟩
theorem FlS.cells {W2 : World} {X b d n : Nat} {L : List ByteArray} {w : World} (h : FlS W2 X b d n L w) : w.cell? ⟨X, 0, none⟩ = some (.slice (some ⟨b, 0, none⟩) n d) ∧ w.cell? ⟨X, 1, none⟩ = some (.slice none 0 0) := by simp [World.cell?, h.box]
theorem FlS.at_ {W2 : World} {X b d n : Nat} {L : List ByteArray} {w : World} (h : FlS W2 X b d n L w) (A : Nat) (hA : A < n) : (∃ x, w.cell? ⟨b, A, none⟩ = some (.string x)) ∧ w.frozen? ⟨b, A, none⟩ = false := by
  have hl := h.len
  refine ⟨⟨L[A]'(by omega), ?_⟩, h.own.frozenAt A⟩
  rw [h.own.cellAt A (by omega)]
  simp [strRow, show A < L.length by omega]
theorem FlS.put {W2 : World} {X b d n : Nat} {L : List ByteArray} {w : World} (h : FlS W2 X b d n L w) (A : Nat) (D : ByteArray) : FlS W2 X b d n (L.set A D) (w.setCell ⟨b, A, none⟩ (.string D)) := by
  refine ⟨?_, h.bel.setCell (by show W2.heap.size ≤ b; exact (h.own.lt b rfl).1) _, ?_, by rw [List.length_set]; exact h.len, h.hX, h.ne⟩
  · have := (h.own.stored A (.string D)).1
    have e : (strRow L).set A (.string D) = strRow (L.set A D) := by simp [strRow, List.map_set]
    rw [e] at this; exact this
  · rw [show (w.setCell ⟨b, A, none⟩ (.string D)).heap[X]? = w.heap[X]? by simp [World.setCell, Array.getElem?_modify, h.ne]]
    exact h.box
def flC (ss : List ByteArray) (ps : List Pnd) : Int := if dskB ss ps = true then 0 else 1
def flS (ss : List ByteArray) (ps : List Pnd) : List ByteArray := if dskB ss ps = true then flushB ss ps else []

end Go.Proofs.YtnppgldafhpchaaDoor
/-
  Cells that hold numbers.
-/
namespace Go.Proofs.YtnppgldafhpchaaDoor
open Go.RowKit Go.Lib
set_option linter.unusedVariables false

/-- The cells that a slice of numbers leads to hold these numbers (of none nothing is asked: also nil). -/
def IntAt (w : World) (p : Option Addr) (ks : List Int) : Prop :=
  ∀ i (h : i < ks.length), ∃ b off, p = some ⟨b, off, none⟩ ∧ b < w.heap.size ∧ w.cell? ⟨b, off + i, none⟩ = some (.int .i64 ks[i])
theorem IntAt.below {w w' : World} {p : Option Addr} {ks : List Int} (h : IntAt w p ks) (hb : Below w.heap.size w w') : IntAt w' p ks := by
  intro i hi
  obtain ⟨b, off, rfl, h1, h2⟩ := h i hi
  exact ⟨b, off, rfl, Nat.lt_of_lt_of_le h1 hb.size, (hb.cell (p := ⟨b, off + i, none⟩) h1).trans h2⟩
theorem IntAt.nil (w : World) (p : Option Addr) : IntAt w p [] := fun i h => by simp at h
end Go.Proofs.YtnppgldafhpchaaDoor
/-
  What the specification's DiskCrash answers.
  Conditions: the cells of keep hold the numbers.
-/
namespace Go.Proofs.YtnppgldafhpchaaDoor
open Go.RowKit Go.Lib
set_option linter.unusedVariables false
set_option maxRecDepth 20000

theorem DskO.set2 {base : Nat} {ss : List ByteArray} {ps : List Pnd} {v1 v2 : Value} {w : World} (h : DskO base ss ps v1 v2 w) {g : Nat} (hg : g < base) (x0 x1 : Value) : DskO base ss ps v1 v2 ((w.setCell ⟨g, 0, none⟩ x0).setCell ⟨g, 1, none⟩ x1) := (h.set hg 0 x0).set hg 1 x1

def crS (ss : List ByteArray) (ps : List Pnd) (keep : List Int) : List ByteArray := if 400 < keep.length then [] else if dskB ss ps = true then crashB ss ps keep else ss
def crP (ss : List ByteArray) (ps : List Pnd) (keep : List Int) : List Pnd := if 400 < keep.length then [] else if dskB ss ps = true then [] else ps

end Go.Proofs.YtnppgldafhpchaaDoor
