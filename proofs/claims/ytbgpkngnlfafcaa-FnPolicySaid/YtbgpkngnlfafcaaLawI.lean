/-
  What the laws' own helpers answer for slices of numbers: toInt64S (a copy in new memory), eqInt64S (of two that are alike), markInt64S.
  Conditions: the slices' cells hold the numbers.
-/
import Derived.Test.YtbgpkngnlfafcaaRows
import Derived.Test.YtbgpkngnlfafcaaBytes
import Derived.Test.YtbgpkngnlfafcaaSlA
import Derived.Test.YtbgpkngnlfafcaaIntK
import Derived.Handy
import Derived.WalkSpells
import Derived.OwnWalk
import Derived.Deep.QuietTactic
import Derived.BigQuiet
namespace Go.Proofs.Ytbgpkngnlfafcaa
open Go.RowKit Go.Lib
set_option linter.unusedVariables false
set_option maxRecDepth 20000

theorem belowDi {B : Nat} {a w : World} (h : Below B a w) (n : Nat) : Below B a (w.drewN n) := ⟨h.os, h.tape, h.output, h.size, h.block⟩
def intRow (ks : List Int) : List Value := ks.map (Value.int .i64)
/-- A block that holds these numbers and no more. -/
def BlkI (w : World) (g : Nat) (ks : List Int) : Prop := w.heap[g]? = some (.cells (intRow ks).toArray 2 (0, 0))
theorem BlkI.lt {w : World} {g : Nat} {ks : List Int} (h : BlkI w g ks) : g < w.heap.size := lt_of_block h
theorem BlkI.below {w w' : World} {g : Nat} {ks : List Int} (h : BlkI w g ks) {B : Nat} (hb : Below B w w') (hg : g < B) : BlkI w' g ks := (hb.block g hg).trans h
theorem BlkI.cell {w : World} {g : Nat} {ks : List Int} (h : BlkI w g ks) (i : Nat) (hi : i < ks.length) : w.cell? ⟨g, i, none⟩ = some (.int .i64 ks[i]) ∧ w.frozen? ⟨g, i, none⟩ = false := by
  unfold BlkI at h
  constructor
  · simp [World.cell?, h, intRow, hi]
  · simp [World.frozen?, h]
theorem BlkI.int {w : World} {g : Nat} {ks : List Int} (h : BlkI w g ks) : IntAt w (some ⟨g, 0, none⟩) ks := fun i hi => ⟨g, 0, rfl, h.lt, by rw [Nat.zero_add]; exact (h.cell i hi).1⟩
theorem BlkI.set {w : World} {g : Nat} {ks : List Int} (h : BlkI w g ks) (k : Nat) (s : Int) : BlkI (w.setCell ⟨g, k, none⟩ (.int .i64 s)) g (ks.set k s) := by
  unfold BlkI at h ⊢
  simp [World.setCell, Array.getElem?_modify, h, intRow, List.map_set]
def cutI (ks : List Int) (k : Nat) : List Int := ks.take k ++ List.replicate (ks.length - k) 0
theorem cutI_len (ks : List Int) (k : Nat) (h : k ≤ ks.length) : (cutI ks k).length = ks.length := by simp [cutI]; omega
theorem cutI_set (ks : List Int) (k : Nat) (h : k < ks.length) : (cutI ks k).set k ks[k] = cutI ks (k + 1) := by
  unfold cutI
  rw [show ks.length - k = (ks.length - (k + 1)) + 1 by omega, List.replicate_succ]
  have hl : (ks.take k).length = k := by simp; omega
  rw [List.set_append_right _ _ (by omega), hl, Nat.sub_self, List.set_cons_zero, List.take_succ_eq_append_getElem h, List.append_assoc]; rfl
theorem infoI64k : (Try.prog.info? 2).map (fun i => (i.zero, i.size, i.bytes)) = some (some (.int .i64 0), 1, 8) := by kernel_rfl
theorem made_i64 (n : Nat) : madeCells #[.int .i64 0] n = (intRow (List.replicate n 0)).toArray := by
  unfold madeCells intRow
  apply Array.ext
  · simp
  · intro i h1 h2; simp [Nat.mod_one]
theorem run_make_i64 (n : Nat) (hn : n ≤ 1048576) (w : World) :
    (Instr.makeSlice 24 (.int .i64 (n : Int)) (.int .i64 (n : Int))).run Try.prog w = .ok (.slice (some ⟨w.heap.size, 0, none⟩) n n) (w.alloc (.cells (intRow (List.replicate n 0)).toArray 2)) := by
  obtain ⟨i0, hi, hz0, hz1, hz2⟩ := info_parts infoI64k
  have := run_make (P := Try.prog) w 24 2 i0 _ Try.underlying24 hi hz0 .i64 .i64 (n : Int) (n : Int) (by omega) (by omega) (by rw [hz2]; omega) (by omega)
  rw [this, hz1]
  simp only [Int.toNat_natCast, Nat.mul_one]
  rw [← made_i64]; rfl

end Go.Proofs.Ytbgpkngnlfafcaa
