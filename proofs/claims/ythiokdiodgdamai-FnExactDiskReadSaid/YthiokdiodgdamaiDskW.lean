/-
  What the specification's DiskWrite answers.
-/
import Derived.Test.YthiokdiodgdamaiRows
import Derived.Test.YthiokdiodgdamaiBytes
import Derived.Test.YthiokdiodgdamaiSlA
import Derived.Test.YthiokdiodgdamaiSlB
import Derived.Test.YthiokdiodgdamaiOwnS
import Derived.Test.YthiokdiodgdamaiDskMath
import Derived.Test.YthiokdiodgdamaiDskR
import Derived.Test.YthiokdiodgdamaiDskS
import Derived.Test.YthiokdiodgdamaiDskA
import Derived.Test.YthiokdiodgdamaiDskC
import Derived.Test.YthiokdiodgdamaiDskT
import Derived.Test.YthiokdiodgdamaiOwnB
import Derived.Handy
import Derived.WalkSpells
import Derived.OwnWalk
import Derived.Deep.AppendLies
namespace Go.Proofs.Ythiokdiodgdamai
open Go.RowKit Go.Lib
set_option linter.unusedVariables false
set_option maxRecDepth 20000

theorem app_pend (w : World) (base : Nat) (v : Value) (l : List Pnd) (own : w.ownsRow base 47 2 v l.length (pndRow l)) (x : Pnd) (hl : l.length + 1 ≤ 1048576) (hbase : base ≤ w.heap.size) :
    ∃ g c w', (Builtin.append_ #[28, 28] 28 #[v, .slice (some ⟨w.heap.size, 0, none⟩) 1 1]).run Try.prog (w.alloc (.cells #[.int .i64 x.1, .string x.2] 47)) = .ok (.slice (some ⟨g, 0, none⟩) (l.length + 1) c) w' ∧
      w'.ownsRow base 47 2 (.slice (some ⟨g, 0, none⟩) (l.length + 1) c) (l ++ [x]).length (pndRow (l ++ [x])) ∧ (w.alloc (.cells #[.int .i64 x.1, .string x.2] 47)).grownBy w' v.ownBlock ∧ (v.ownBlock = some g ∨ g = w.heap.size + 1) := by
  obtain ⟨i0, hi, hz0, hz1, hz2⟩ := info_parts infoPnd
  obtain ⟨g, c, w', h1, h2, h3, h4, _⟩ := run_append_lies (P := Try.prog) (w.alloc (.cells #[.int .i64 x.1, .string x.2] 47)) 28 28 base 47 i0 _ 2 24 Try.underlying28 hi hz0 hz1 hz2 rfl (by omega) v l.length (pndRow l) (own.alloc _) ⟨w.heap.size, 0, none⟩ 1 1 (pndRow [x]) rfl (fun j u hu => by
      have hj : j < 2 := by
        rcases Nat.lt_or_ge j 2 with q | q
        · exact q
        · rw [List.getElem?_eq_none (by rw [pndRow_len]; exact q)] at hu; cases hu
      have hadd : (⟨w.heap.size, 0, none⟩ : Addr).add j = ⟨w.heap.size, 0 + j, none⟩ := by unfold Addr.add; split <;> simp_all
      rw [hadd, Nat.zero_add, World.cell?_alloc_mark]
      match j, hj with
      | 0, _ => exact hu
      | 1, _ => exact hu) (fun u hu => by
      simp [pndRow] at hu
      rcases hu with rfl | rfl <;> rfl) (by omega) (by unfold maxLen; omega) (by omega) (by simp; omega) (w.heap.size + 1) (by simp)
  refine ⟨g, c, w', h1, ?_, h3, h4⟩
  have e1 : (l ++ [x]).length = l.length + 1 := by simp
  rw [e1, pndRow_append]; exact h2

def wrC (ss : List ByteArray) (ps : List Pnd) (at_ : Int) (data : ByteArray) : Int := if 8000 < data.size then 2 else if dskB ss ps = true ∧ data.size ≤ 64 then (if inB ss at_ = true then (if 200 ≤ ps.length then 9 else 0) else 8) else 1
def wrS (ss : List ByteArray) (ps : List Pnd) (at_ : Int) (data : ByteArray) : List ByteArray := if wrC ss ps at_ data = 0 then ss else []
def wrP (ss : List ByteArray) (ps : List Pnd) (at_ : Int) (data : ByteArray) : List Pnd := if wrC ss ps at_ data = 0 then ps ++ [(at_, data)] else []

end Go.Proofs.Ythiokdiodgdamai
