/-
  What the laws' own helpers do that mark a Range's nodes: markRange, heldRange; boxes of two cells.
-/
import Derived.Test.YtclpccnppmbpcahDoorRows
import Derived.Test.YtclpccnppmbpcahDoorBytes
import Derived.Test.YtclpccnppmbpcahDoorSlA
import Derived.Test.YtclpccnppmbpcahDoorLawS
import Derived.Test.YtclpccnppmbpcahDoorOwnS
import Derived.Test.YtclpccnppmbpcahDoorLawM
import Derived.Handy
namespace Go.Proofs.YtclpccnppmbpcahDoor
open Go.RowKit Go.Lib
set_option linter.unusedVariables false
set_option maxRecDepth 20000

/-- A box that holds a Range. -/
def Bx (w : World) (b : Nat) (T : TypeId) (n : Int) (v : Value) : Prop := w.heap[b]? = some (.cells #[.int .i64 n, v] T (0, 0))
theorem Bx.lt {w : World} {b : Nat} {T : TypeId} {n : Int} {v : Value} (h : Bx w b T n v) : b < w.heap.size := lt_of_block h
theorem Bx.new (w : World) (T : TypeId) (n : Int) (v : Value) : Bx (w.alloc (.cells #[.int .i64 n, v] T)) w.heap.size T n v := (MapKept.heap_alloc w _).1
theorem Bx.below {w w' : World} {b : Nat} {T : TypeId} {n : Int} {v : Value} (h : Bx w b T n v) (hb : Below w.heap.size w w') : Bx w' b T n v := (hb.block _ h.lt).trans h
theorem Bx.cells {w : World} {b : Nat} {T : TypeId} {n : Int} {v : Value} (h : Bx w b T n v) : w.cell? ⟨b, 0, none⟩ = some (.int .i64 n) ∧ w.cell? ⟨b, 1, none⟩ = some v := by
  unfold Bx at h; simp [World.cell?, h]
theorem Bx.ne {w : World} {b : Nat} {T : TypeId} {n : Int} {v : Value} (h : Bx w b T n v) (hT : T ≠ 9) {base : Nat} {v' : Value} {m : Nat} {xs : List Value} (ho : w.ownsRow base 9 1 v' m xs) : some b ≠ v'.ownBlock := by
  intro he
  rcases ho.2 with ⟨rfl, _⟩ | ⟨g, cap, cur, rfl, _, hg, _⟩
  · cases he
  · have : b = g := by simpa [Value.ownBlock] using he
    subst this
    unfold Bx at h
    rw [h] at hg; simp at hg; exact hT hg.2
theorem Bx.grown {w w' : World} {b : Nat} {T : TypeId} {n : Int} {v : Value} (h : Bx w b T n v) {row : Option Nat} (hg : w.grownBy w' row) (hne : some b ≠ row) : Bx w' b T n v := (hg.block b h.lt hne).trans h
theorem grown_alloc {w w' : World} {o : Obj} {row : Option Nat} (h : (w.alloc o).grownBy w' row) : w.grownBy w' row :=
  ⟨h.os, h.tape, h.output, by have := h.size; simp at this; omega, fun k hk hne => (h.block k (by simp; omega) hne).trans (Below.heap_alloc _ _ _ hk)⟩

set_option maxHeartbeats 400000 in
theorem markR_any (n : Int) (base : Nat) (p : Option Addr) (cap : Nat) (l : List ByteArray) (w : World) (h : w.ownsRow base 9 1 (.slice p l.length cap) l.length (strRow l)) (hl : l.length ≤ 1048576) :
    Calls Tryd.prog 24 #[.agg #[.int .i64 n, .slice p l.length cap], .int .i64 1] w fun e w' => e = .returned (.int .i64 ((l.length : Int) + 1)) ∧ w'.ownsRow base 9 1 (.slice p l.length cap) l.length (strRow (marksL l.length)) ∧ w.grownBy w' (Value.slice p l.length cap).ownBlock := by
  have HC := mark_any base (.slice p l.length cap) l (w.alloc (.cells #[.int .i64 n, .slice p l.length cap] 33)) (h.alloc _) hl
  clear h
  go_enter Tryd.func24, Tryd.ntmps24
  go_wp2_with fail
  refine HC.mono ?_
  rintro e w1 ⟨rfl, ho, hg⟩
  have HO : Hid (w1.ownsRow base 9 1 (.slice p l.length cap) l.length (strRow (marksL l.length))) := ho
  have HG : Hid (w.grownBy w1 (Value.slice p l.length cap).ownBlock) := grown_alloc hg
  clear ho hg
  go_wp2_with fail
  go_ret
  exact ⟨rfl, HO.out, HG.out⟩
set_option maxHeartbeats 400000 in
theorem heldR_any (m : Int) (p : Option Addr) (cap n : Nat) (w : World) (hp : TxtAt w p (marksL n)) (hn : n ≤ 1048576) (hcap : n ≤ cap) :
    Calls Tryd.prog 25 #[.agg #[.int .i64 m, .slice p n cap], .int .i64 1] w fun e w' => e = .returned (.int .i64 ((n : Int) + 1)) ∧ Below w.heap.size w w' := by
  have B0 : Hid (Below w.heap.size w (w.alloc (.cells #[.int .i64 m, .slice p n cap] 33))) := (Below.refl _ _).alloc (Nat.le_refl _) _
  have HC := held_any p cap n _ (hp.below B0.out) hn hcap
  clear hp
  go_enter Tryd.func25, Tryd.ntmps25
  go_wp2_with fail
  refine HC.mono ?_
  rintro e w1 ⟨rfl, b1⟩
  go_wp2_with fail
  go_ret
  exact ⟨rfl, chainB B0.out b1⟩
end Go.Proofs.YtclpccnppmbpcahDoor
