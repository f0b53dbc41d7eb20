/-
  A range in a box of the call's own, beside a source: what each step leaves of it ('RngS'); how many nodes RangeAdd makes, how wide they are; l03Ones of -1.
-/
import Derived.Test.YtclpccnppmbpcaaDoorRows
import Derived.Test.YtclpccnppmbpcaaDoorBytes
import Derived.Test.YtclpccnppmbpcaaDoorDigMath
import Derived.Test.YtclpccnppmbpcaaDoorTreeMath
import Derived.Test.YtclpccnppmbpcaaDoorSlA
import Derived.Test.YtclpccnppmbpcaaDoorSlBOwnS
import Derived.Test.YtclpccnppmbpcaaDoorAppS
import Derived.Test.YtclpccnppmbpcaaDoorOnesMathOnes
import Derived.Test.YtclpccnppmbpcaaDoorRootMathAddMathCopied
import Derived.Test.YtclpccnppmbpcaaDoorSrc
import Derived.Test.YtclpccnppmbpcaaDoorDraws
import Derived.Test.YtclpccnppmbpcaaDoorDrawKit
import Derived.Test.YtclpccnppmbpcaaDoorSome
import Derived.Handy
import Derived.OwnWalk
namespace Go.Proofs.YtclpccnppmbpcaaDoor
open Go.RowKit Go.Lib
set_option linter.unusedVariables false
set_option maxRecDepth 20000

theorem carry_small (n : Nat) : ∀ (l : List ByteArray) (x : ByteArray), (∀ y ∈ l, y.size ≤ 32) → x.size ≤ 32 → ∀ y ∈ carry n l x, y.size ≤ 32 := by
  induction n using Nat.strongRecOn with
  | _ n ih =>
    intro l x hl hx y hy
    by_cases h : n % 2 = 1
    · rw [carry_odd h] at hy
      exact ih (n / 2) (by omega) _ _ (fun z hz => hl z (List.mem_of_mem_take hz)) (by rw [nodeB_size]; omega) y hy
    · rw [carry_even h] at hy
      rcases List.mem_append.1 hy with h1 | h1
      · exact hl y h1
      · rw [List.mem_singleton.1 h1]; exact hx
theorem addL_small (n : Int) (ss : List ByteArray) (t : ByteArray) (h : ∀ y ∈ ss, y.size ≤ 32) : ∀ y ∈ addL n ss t, y.size ≤ 32 := by
  unfold addL; split
  · simp
  · split
    · exact carry_small _ _ _ h (by rw [leafB_size]; omega)
    · exact h
theorem addN_bd (n : Int) (ss : List ByteArray) (t : ByteArray) (m : Int) (h0 : 0 ≤ n) (h1 : n ≤ m) : 0 ≤ addN n ss t ∧ addN n ss t ≤ m + 1 := by
  unfold addN; split
  · omega
  · split <;> omega

theorem onesNeg_any (w : World) : Calls Tryd.prog 102 #[.int .i64 (-1)] w fun e w' => e = .returned (.int .i64 0) ∧ w' = w := by
  go_enter Tryd.func102, Tryd.ntmps102
  go_wp2
  go_loop [0, 3] (fun vn vk => vn = .int .i64 (-1) ∧ vk = .int .i64 0) (fun _ _ => 0)
  case atStart => exact ⟨rfl, rfl⟩
  case round =>
    obtain ⟨rfl, rfl⟩ := hrel
    go_wp2
    go_ret
    exact ⟨rfl, rfl⟩

/-- The box of a range at X and its nodes, in memory that came behind w0, beside the source at p. -/
structure RngS (w0 : World) (p X : Nat) (n : Int) (v : Value) (l : List ByteArray) (w : World) : Prop where
  gr : w0.grownBy w (some p)
  hX : w0.heap.size ≤ X
  box : w.heap[X]? = some (.cells #[.int .i64 n, v] 48 (0, 0))
  own : w.ownsRow w0.heap.size 9 1 v l.length (strRow l)
section
variable {w0 w w' : World} {p X : Nat} {n m : Int} {v v' : Value} {l l' : List ByteArray}
theorem RngS.lt (h : RngS w0 p X n v l w) : X < w.heap.size := lt_of_block h.box
theorem RngS.ne {k : Nat} {xs : List Value} (h : RngS w0 p X n v l w) (ho : w.ownsRow w0.heap.size 9 1 v' k xs) : v'.ownBlock ≠ some X := by
  intro he
  rcases ho.2 with ⟨rfl, _⟩ | ⟨g, cap, cur, rfl, _, hg, _⟩
  · cases he
  · have : g = X := by simpa [Value.ownBlock] using he
    subst this
    rw [h.box] at hg; simp at hg
theorem RngS.below (h : RngS w0 p X n v l w) (hb : Below w.heap.size w w') : RngS w0 p X n v l w' :=
  ⟨touch_below h.gr hb, h.hX, (hb.block _ h.lt).trans h.box, ownS_below h.own hb⟩
theorem RngS.drew (h : RngS w0 p X n v l w) : RngS w0 p X n v l w.drew := h.below (Below.refl _ _).drew
theorem RngS.touch (h : RngS w0 p X n v l w) (hp : p < w0.heap.size) (hg : w.grownBy w' (some p)) : RngS w0 p X n v l w' :=
  ⟨touch_trans h.gr hg, h.hX, (hg.block X h.lt (fun e => by cases e; have := h.hX; omega)).trans h.box, h.own.kept hg (.inr (fun e => by have := (h.own.lt p e).1; omega))⟩
theorem RngS.cells (h : RngS w0 p X n v l w) : w.cell? ⟨X, 0, none⟩ = some (.int .i64 n) ∧ w.cell? ⟨X, 1, none⟩ = some v ∧ w.frozen? ⟨X, 0, none⟩ = false ∧ w.frozen? ⟨X, 1, none⟩ = false := by
  simp [World.cell?, World.frozen?, h.box]
theorem RngS.grow (h : RngS w0 p X n v l w) {row : Option Nat} (hg : w.grownBy w' row) (hr : ∀ j, row = some j → w0.heap.size ≤ j) : w0.grownBy w' (some p) := touch_own h.gr hg hr
theorem RngS.setV (h : RngS w0 p X n v l w) (ho : w.ownsRow w0.heap.size 9 1 v' l'.length (strRow l')) : RngS w0 p X n v' l' (w.setCell ⟨X, 1, none⟩ v') :=
  ⟨touch_own h.gr (touch_set (World.grownBy.refl w (some X)) 1 v') (fun j e => by cases e; exact h.hX), h.hX, by rw [blk_set h.box]; rfl, ownsRow_setCell_other ho (by simpa using h.ne ho) _⟩
theorem RngS.setN (h : RngS w0 p X n v l w) : RngS w0 p X m v l (w.setCell ⟨X, 0, none⟩ (.int .i64 m)) :=
  ⟨touch_own h.gr (touch_set (World.grownBy.refl w (some X)) 0 _) (fun j e => by cases e; exact h.hX), h.hX, by rw [blk_set h.box]; rfl, ownsRow_setCell_other h.own (by simpa using h.ne h.own) _⟩
theorem RngS.put (h : RngS w0 p X n v l w) (ho : w.ownsRow w0.heap.size 9 1 v' l'.length (strRow l')) : RngS w0 p X m v' l' ((w.setCell ⟨X, 0, none⟩ (.int .i64 m)).setCell ⟨X, 1, none⟩ v') :=
  (h.setN (m := m)).setV (ownsRow_setCell_other ho (by simpa using h.ne ho) _)
theorem RngS.src {T : TypeId} {B : Nat} {a : Option Addr} {len cap : Nat} {i : Nat} {x : Value} (h : RngS w0 p X n v l w) (hp : p < w0.heap.size) (hs : Src T B p a len cap w) : Src T B p a len cap (w.setCell ⟨X, i, none⟩ x) :=
  hs.other (touch_set (World.grownBy.refl w (some X)) i x) (fun j e => by cases e; have := h.hX; omega)
/-- One text appended to its nodes, ahead of the store. -/
theorem RngS.append (h : RngS w0 p X n v l w) (o : Obj) (hg : (w.alloc o).grownBy w' v.ownBlock) (ho : w'.ownsRow w0.heap.size 9 1 v' l'.length (strRow l')) :
    w'.cell? ⟨X, 0, none⟩ = some (.int .i64 n) ∧ w'.cell? ⟨X, 1, none⟩ = some v ∧ w'.frozen? ⟨X, 1, none⟩ = false ∧ RngS w0 p X n v' l' (w'.setCell ⟨X, 1, none⟩ v') := by
  have hlt := h.lt
  have hb : w'.heap[X]? = some (.cells #[.int .i64 n, v] 48 (0, 0)) := (hg.block X (by simp; omega) (fun e => h.ne h.own e.symm)).trans ((Below.heap_alloc _ _ _ hlt).trans h.box)
  have hne : v'.ownBlock ≠ some X := by
    intro he
    rcases ho.2 with ⟨rfl, _⟩ | ⟨g, cap, cur, rfl, _, hg', _⟩
    · cases he
    · have : g = X := by simpa [Value.ownBlock] using he
      subst this
      rw [hb] at hg'; simp at hg'
  have hG : w0.grownBy w' (some p) := touch_own (touch_below h.gr ((Below.refl _ _).alloc (Nat.le_refl _) o)) hg (fun j hj => (h.own.lt j hj).1)
  refine ⟨?_, ?_, ?_, ⟨touch_own hG (touch_set (World.grownBy.refl w' (some X)) 1 v') (fun j e => by cases e; exact h.hX), h.hX, by rw [blk_set hb]; rfl, ownsRow_setCell_other ho (by simpa using hne) _⟩⟩ <;> simp [World.cell?, World.frozen?, hb]
theorem RngS.appendS {T : TypeId} {B : Nat} {a : Option Addr} {len cap : Nat} (h : RngS w0 p X n v l w) (hp : p < w0.heap.size) (o : Obj) (hg : (w.alloc o).grownBy w' v.ownBlock) (hs : Src T B p a len cap w) : Src T B p a len cap (w'.setCell ⟨X, 1, none⟩ v') :=
  ((hs.below ((Below.refl _ _).alloc (Nat.le_refl _) o)).other hg (fun j hj => by have := (h.own.lt j hj).1; omega)).other (touch_set (World.grownBy.refl w' (some X)) 1 v') (fun j e => by cases e; have := h.hX; omega)
end
/-- The sizes that are laid, and how many of their bits are 1. -/
theorem ones_edge : ∀ j : Nat, j < 4 → ∃ u : Int, (#[.int .i64 (-1), .int .i64 999999, .int .i64 1000000, .int .i64 1000001] : Array Value)[j]? = some (.int .i64 u) ∧ -1 ≤ u ∧ u ≤ 1000001 ∧ ∃ K : Nat, K ≤ 24 ∧ ∀ w, Calls Tryd.prog 102 #[.int .i64 u] w fun e w' => e = .returned (.int .i64 (K : Int)) ∧ w' = w := by
  have hb : ∀ x : Nat, x < 1048576 → onesN x ≤ 24 := fun x h => by
    obtain ⟨_, _, _, _, _, _, _, _, _, _, _, _, _, _, h7⟩ := swar x h
    exact h7
  intro j hj
  match j, hj with
  | 0, _ => exact ⟨-1, rfl, by omega, by omega, 0, by omega, onesNeg_any⟩
  | 1, _ => exact ⟨999999, rfl, by omega, by omega, _, hb 999999 (by omega), fun w => ones2_any 999999 w (by omega)⟩
  | 2, _ => exact ⟨1000000, rfl, by omega, by omega, _, hb 1000000 (by omega), fun w => ones2_any 1000000 w (by omega)⟩
  | 3, _ => exact ⟨1000001, rfl, by omega, by omega, _, hb 1000001 (by omega), fun w => ones2_any 1000001 w (by omega)⟩
  | j + 4, h => omega
end Go.Proofs.YtclpccnppmbpcaaDoor
