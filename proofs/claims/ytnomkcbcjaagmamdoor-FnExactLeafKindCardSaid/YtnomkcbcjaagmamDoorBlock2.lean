/-
  The specification's l02Block.
-/
import Derived.Test.YtnomkcbcjaagmamDoorRows
import Derived.Test.YtnomkcbcjaagmamDoorBytes
import Derived.Test.YtnomkcbcjaagmamDoorDigMath
import Derived.Test.YtnomkcbcjaagmamDoorTurn2
import Derived.Handy
import Derived.BigRegion
import Derived.Deep.QuietTactic
import Derived.BigQuiet
import Derived.Deep.RegionWith
import Derived.StillTailTactics
import Derived.WalkSmall
import Derived.WalkSpells
import Derived.Deep.AppendLies
import Derived.Deep.RegionLaw
namespace Go.Proofs.YtnomkcbcjaagmamDoor
open Go.RowKit Go.Lib
set_option linter.unusedVariables false

theorem infoU32 : (Tryd.prog.info? 99).map (fun i => (i.zero, i.size, i.bytes)) = some (some (.int .u32 0), 1, 4) := by kernel_rfl
theorem run_idx (b : ByteArray) (i : Nat) (h : i < b.size) (x : Int) (hx : x = (i : Int)) (w : World) :
    (Instr.index 9 (.string b) (.int .i64 x)).run Tryd.prog w = .ok (.int .u8 (byteAt b i)) w := by
  subst hx
  rw [run_index_string (P := Tryd.prog) w 9 b .i64 i Tryd.underlying9]
  have h2 : (0 : Int) ≤ (i : Int) ∧ (i : Int) < (b.size : Int) := by omega
  rw [dif_pos h2]
  have e : b[(i : Int).toNat]'(by omega) = b.data.toList.getD i 0 := by
    rw [List.getD_eq_getElem?_getD, List.getElem?_eq_getElem (show i < b.data.toList.length from by rw [← size_eq]; exact h)]; rfl
  rw [e]; rfl
theorem size_alloc (w : World) (o : Obj) : (w.alloc o).heap.size = w.heap.size + 1 := by simp
theorem own_start (w : World) (o : Obj) (T : TypeId) : ((w.alloc o).alloc (.cells #[] T)).ownsRow (w.heap.size + 1) T 1 (.slice (some ⟨w.heap.size + 1, 0, none⟩) 0 0) 0 [] := by
  have h := World.ownsRow_made (base := w.heap.size + 1) (e := T) (size := 1) (w.alloc o) #[] 0 (by simp) (by unfold maxLen; omega) rfl
  rwa [size_alloc] at h
theorem own_drew {w : World} {base : Nat} {e : TypeId} {size n : Nat} {v : Value} {xs : List Value} (h : w.ownsRow base e size v n xs) : w.drew.ownsRow base e size v n xs := h
theorem w64_u32 (x y : Int) : IntKind.i64.wrap (IntKind.u32.wrap (IntKind.u32.wrap x + y)) = (x % 4294967296 + y) % 4294967296 := by simp only [IntKind.wrap_u32, IntKind.wrap_i64]; omega
theorem infoI64 : (Tryd.prog.info? 2).map (fun i => (i.zero, i.size, i.bytes)) = some (some (.int .i64 0), 1, 8) := by kernel_rfl
theorem cell_st {w wr : World} {g0 : Nat} {st : List Int} (hn : Below w.heap.size w wr) (hg : g0 < w.heap.size) (hc : ∀ i (h : i < st.length), w.cell? ⟨g0, 0 + i, none⟩ = some (.int .i64 st[i])) (hl : st.length = 8) (i : Nat) (hi : i < 8) :
    wr.cell? ⟨g0, i, none⟩ = some (.int .i64 (st.getD i 0)) := by
  have := hc i (by omega)
  rw [Nat.zero_add] at this
  rw [hn.cell hg, this, List.getD_eq_getElem?_getD, List.getElem?_eq_getElem (by omega)]; rfl
end Go.Proofs.YtnomkcbcjaagmamDoor
