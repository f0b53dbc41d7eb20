/-
  What l03Some draws: at most 30 texts of at most 101 bytes each, in a row that the call owns. The source's block alone is written.
  Conditions: the source is one ('Src').
-/
import Derived.Test.YthiokdiodgdamabRows
import Derived.Test.YthiokdiodgdamabBytes
import Derived.Test.YthiokdiodgdamabSlA
import Derived.Test.YthiokdiodgdamabSlB
import Derived.Test.YthiokdiodgdamabOwnS
import Derived.Test.YthiokdiodgdamabAppS
import Derived.Test.YthiokdiodgdamabSrc
import Derived.Test.YthiokdiodgdamabDraws
import Derived.Test.YthiokdiodgdamabDrawKit
import Derived.Handy
import Derived.WalkSpells
import Derived.OwnWalk
namespace Go.Proofs.Ythiokdiodgdamab
open Go.RowKit Go.Lib
set_option linter.unusedVariables false
set_option maxRecDepth 20000

theorem BlkS.touch {w w' : World} {g p : Nat} {l : List ByteArray} (h : BlkS w g l) (hg : w.grownBy w' (some p)) (hne : g ≠ p) : BlkS w' g l := by
  unfold BlkS at *; rw [hg.block g (lt_of_block h) (fun e => hne (by cases e; rfl))]; exact h
theorem append_size (s t : ByteArray) : (s ++ t).size = s.size + t.size := by simp

theorem app_one (w : World) (base : Nat) (v : Value) (l : List ByteArray) (own : w.ownsRow base 9 1 v l.length (strRow l)) (T : ByteArray) (hl : l.length + 1 ≤ 1048576) (hbase : base ≤ w.heap.size) :
    ∃ v' w', (Builtin.append_ #[23, 23] 23 #[v, .slice (some ⟨w.heap.size, 0, none⟩) 1 1]).run Try.prog (w.alloc (.cells #[.string T] 9)) = .ok v' w' ∧ w'.ownsRow base 9 1 v' (l ++ [T]).length (strRow (l ++ [T])) ∧ (w.alloc (.cells #[.string T] 9)).grownBy w' v.ownBlock :=
  app_texts (w.alloc (.cells #[.string T] 9)) base v l (own.alloc _) (some ⟨w.heap.size, 0, none⟩) 1 [T] (alloc_str w [T]).txt hl (by simp; omega)
/-- What an append to an own row leaves of a source and of what was there. -/
theorem app_leaves {T : TypeId} {B p : Nat} {a : Option Addr} {len cap : Nat} {w0 w w' : World} {e : TypeId} {v : Value} {n : Nat} {xs : List Value} {x : Obj} (own : w.ownsRow w0.heap.size e 1 v n xs) (hs : Src T B p a len cap w) (hp : p < w0.heap.size) (hg : w0.grownBy w (some p)) (h : (w.alloc x).grownBy w' v.ownBlock) :
    Src T B p a len cap w' ∧ w0.grownBy w' (some p) := by
  have hrow : ∀ j, v.ownBlock = some j → w0.heap.size ≤ j := fun j hj => (own.lt j hj).1
  exact ⟨(hs.below ((Below.refl _ _).alloc (Nat.le_refl _) _)).other h (fun j hj => by have := hrow j hj; omega), touch_own (touch_below hg ((Below.refl _ _).alloc (Nat.le_refl _) _)) h hrow⟩

def fourS : List ByteArray := [⟨#[97]⟩, ⟨#[98]⟩, ⟨#[]⟩, ⟨#[101, 110, 116, 114, 121]⟩]
theorem fourS_small : ∀ t ∈ fourS, t.size ≤ 5 := by decide

end Go.Proofs.Ythiokdiodgdamab
