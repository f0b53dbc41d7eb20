/-
  A block that holds texts (BlkS), made and written; nothing here speaks of a function of the program.
-/
import Derived.Test.YteiffjpmccbcoaaGreatDoorRows
import Derived.Test.YteiffjpmccbcoaaGreatDoorBytes
import Derived.Test.YteiffjpmccbcoaaGreatDoorTreeMath
import Derived.Test.YteiffjpmccbcoaaGreatDoorSlA
import Derived.Handy
import Derived.Deep.QuietTactic
import Derived.BigQuiet
import Derived.OwnWalk
namespace Go.Proofs.YteiffjpmccbcoaaGreatDoor
open Go.RowKit Go.Lib
set_option linter.unusedVariables false

def strRow (l : List ByteArray) : List Value := l.map Value.string
/-- A block that holds these texts and no more; nothing of it is frozen. -/
def BlkS (w : World) (g : Nat) (l : List ByteArray) : Prop := w.heap[g]? = some (.cells (strRow l).toArray 9 (0, 0))
theorem BlkS.lt {w : World} {g : Nat} {l : List ByteArray} (h : BlkS w g l) : g < w.heap.size := by
  rcases Nat.lt_or_ge g w.heap.size with q | q
  · exact q
  · unfold BlkS at h; rw [Array.getElem?_eq_none q] at h; cases h
theorem BlkS.cell {w : World} {g : Nat} {l : List ByteArray} (h : BlkS w g l) (i : Nat) (hi : i < l.length) : w.cell? ⟨g, i, none⟩ = some (.string l[i]) ∧ w.frozen? ⟨g, i, none⟩ = false := by
  unfold BlkS at h
  constructor
  · simp [World.cell?, h, strRow, hi]
  · simp [World.frozen?, h]
theorem BlkS.txt {w : World} {g : Nat} {l : List ByteArray} (h : BlkS w g l) : TxtAt w (some ⟨g, 0, none⟩) l := fun i hi => ⟨g, 0, rfl, h.lt, by rw [Nat.zero_add]; exact (h.cell i hi).1⟩
theorem BlkS.below {w w' : World} {g : Nat} {l : List ByteArray} (h : BlkS w g l) {B : Nat} (hb : Below B w w') (hg : g < B) : BlkS w' g l := (hb.block g hg).trans h
theorem BlkS.set {w : World} {g : Nat} {l : List ByteArray} (h : BlkS w g l) (k : Nat) (s : ByteArray) : BlkS (w.setCell ⟨g, k, none⟩ (.string s)) g (l.set k s) := by
  unfold BlkS at h ⊢
  simp [World.setCell, Array.getElem?_modify, h, strRow, List.map_set]
theorem BlkS.setOther {w : World} {g : Nat} {l : List ByteArray} (h : BlkS w g l) (g' k : Nat) (hne : g' ≠ g) (v : Value) : BlkS (w.setCell ⟨g', k, none⟩ v) g l := by
  unfold BlkS at h ⊢
  have : (w.setCell ⟨g', k, none⟩ v).heap[g]? = w.heap[g]? := by simp [World.setCell, Array.getElem?_modify, hne]
  rw [this, h]
theorem BlkS.own {w : World} {g : Nat} {l : List ByteArray} (h : BlkS w g l) (base : Nat) (hb : base ≤ g) (hm : l.length ≤ maxLen) : w.ownsRow base 9 1 (.slice (some ⟨g, 0, none⟩) l.length l.length) l.length (strRow l) :=
  ⟨by simp [strRow], .inr ⟨g, l.length, (strRow l).toArray, rfl, hb, h, Nat.le_refl _, hm, by simp [strRow], by rw [Nat.mul_one]; exact List.take_of_length_le (by simp [strRow])⟩⟩

theorem infoStr : (Tryz.prog.info? 9).map (fun i => (i.zero, i.size, i.bytes)) = some (some (.string ByteArray.empty), 1, 16) := by kernel_rfl
theorem made_str (n : Nat) : madeCells #[.string ByteArray.empty] n = (strRow (List.replicate n ByteArray.empty)).toArray := by
  unfold madeCells strRow
  apply Array.ext
  · simp
  · intro i h1 h2; simp [Nat.mod_one]
theorem run_make_str (n : Nat) (hn : n ≤ 1048576) (w : World) :
    (Instr.makeSlice 22 (.int .i64 (n : Int)) (.int .i64 (n : Int))).run Tryz.prog w = .ok (.slice (some ⟨w.heap.size, 0, none⟩) n n) (w.alloc (.cells (strRow (List.replicate n ByteArray.empty)).toArray 9)) := by
  obtain ⟨i0, hi, hz0, hz1, hz2⟩ := info_parts infoStr
  have := run_make (P := Tryz.prog) w 22 9 i0 (.string ByteArray.empty) Tryz.underlying22 hi hz0 .i64 .i64 (n : Int) (n : Int) (by omega) (by omega) (by rw [hz2]; omega) (by omega)
  rw [this, hz1]
  simp only [Int.toNat_natCast, Nat.mul_one]
  rw [← made_str]; rfl

theorem alloc_str (w : World) (l : List ByteArray) : BlkS (w.alloc (.cells (strRow l).toArray 9)) w.heap.size l := by
  exact (MapKept.heap_alloc w _).1

theorem toList_inj {x y : ByteArray} (h : x.toList = y.toList) : x = y := by rw [ByteArray.toList_eq, ByteArray.toList_eq] at h; exact ByteArray.ext (Array.toList_inj.1 h)
end Go.Proofs.YteiffjpmccbcoaaGreatDoor
