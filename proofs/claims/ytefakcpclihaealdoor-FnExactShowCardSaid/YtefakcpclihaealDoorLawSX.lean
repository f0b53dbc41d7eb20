/-
  Two rows of texts of one's own in a Shown: what they read, what leaves them as they were, what marks leave.
-/
import Derived.Test.YtefakcpclihaealDoorRows
import Derived.Test.YtefakcpclihaealDoorBytesDigMath
import Derived.Test.YtefakcpclihaealDoorSlABxKSlBOwnS
import Derived.Test.YtefakcpclihaealDoorShwKOneK
import Derived.Test.YtefakcpclihaealDoorLawM
import Derived.Test.YtefakcpclihaealDoorLawSGLawMG
import Derived.Test.YtefakcpclihaealDoorLawSh
import Derived.Handy
import Derived.OwnWalk
import Derived.Laws.OwnMore
namespace Go.Proofs.YtefakcpclihaealDoor
open Go.RowKit Go.Lib
set_option linter.unusedVariables false

/-- Two rows of texts of its own, apart. -/
def Sh2 (base : Nat) (p : Option Addr) (c : Nat) (ns : List ByteArray) (q : Option Addr) (d : Nat) (cs : List ByteArray) (w : World) : Prop :=
  w.ownsRow base 9 1 (.slice p ns.length c) ns.length (strRow ns) ∧ w.ownsRow base 9 1 (.slice q cs.length d) cs.length (strRow cs) ∧ ∀ g, (Value.slice p ns.length c).ownBlock = some g → (Value.slice q cs.length d).ownBlock ≠ some g
/-- One of the two rows' blocks. -/
def Bl2 (p : Option Addr) (c n : Nat) (q : Option Addr) (d m : Nat) (j : Nat) : Prop := (Value.slice p n c).ownBlock = some j ∨ (Value.slice q m d).ownBlock = some j
section
variable {base : Nat} {p : Option Addr} {c : Nat} {ns : List ByteArray} {q : Option Addr} {d : Nat} {cs : List ByteArray} {w w' : World}
theorem Sh2.below (h : Sh2 base p c ns q d cs w) (hb : Below w.heap.size w w') : Sh2 base p c ns q d cs w' := ⟨ownS_below h.1 hb, ownS_below h.2.1 hb, h.2.2⟩
theorem Sh2.alloc (h : Sh2 base p c ns q d cs w) (o : Obj) : Sh2 base p c ns q d cs (w.alloc o) := ⟨h.1.alloc _, h.2.1.alloc _, h.2.2⟩
theorem Sh2.lt2 (h : Sh2 base p c ns q d cs w) (j : Nat) (hj : Bl2 p c ns.length q d cs.length j) : base ≤ j ∧ j < w.heap.size := by
  rcases hj with hj | hj
  · exact h.1.lt j hj
  · exact h.2.1.lt j hj
theorem keepS {base : Nat} {e : TypeId} {s : Nat} {v : Value} {n : Nat} {xs : List Value} {row : Option Nat} (h : w.ownsRow base e s v n xs) (g : w.grownBy w' row) (hn : ∀ j, row = some j → v.ownBlock ≠ some j) : w'.ownsRow base e s v n xs :=
  h.kept g (by
    cases hv : v.ownBlock with
    | none => exact .inl rfl
    | some j => exact .inr (fun e => hn j e.symm hv))
theorem Sh2.keep {row : Option Nat} (h : Sh2 base p c ns q d cs w) (g : w.grownBy w' row) (hn : ∀ j, row = some j → ¬ Bl2 p c ns.length q d cs.length j) : Sh2 base p c ns q d cs w' :=
  ⟨keepS h.1 g (fun j hj e => hn j hj (.inl e)), keepS h.2.1 g (fun j hj e => hn j hj (.inr e)), h.2.2⟩
theorem Sh2.ne (h : Sh2 base p c ns q d cs w) : (Value.slice q cs.length d).ownBlock = none ∨ (Value.slice q cs.length d).ownBlock ≠ (Value.slice p ns.length c).ownBlock := by
  cases hq : (Value.slice q cs.length d).ownBlock with
  | none => exact .inl rfl
  | some j => exact .inr (fun e => h.2.2 j e.symm hq)
theorem Sh2.txt (h : Sh2 base p c ns q d cs w) : (TxtAt w p ns ∧ TxtAt w q cs) ∧ ns.length ≤ c ∧ cs.length ≤ d := by
  obtain ⟨p', c', e1, h1, h2⟩ := ownS_form h.1
  obtain ⟨q', d', e2, h3, h4⟩ := ownS_form h.2.1
  cases e1; cases e2
  exact ⟨⟨h2, h4⟩, h1, h3⟩
theorem Sh2.of {o : Shw} {v1 v2 : Value} (h : ShwO base o v1 v2 w) : ∃ p c q d, v1 = .slice p o.ns.length c ∧ v2 = .slice q o.cs.length d ∧ Sh2 base p c o.ns q d o.cs w := by
  obtain ⟨p, c, rfl, -, -⟩ := ownS_form h.1
  obtain ⟨q, d, rfl, -, -⟩ := ownS_form h.2.1
  exact ⟨p, c, q, d, rfl, rfl, h⟩
theorem marksN_len (s n : Nat) : (marksN s n).length = n := by simp [marksN]
theorem ownS_marks {s n : Nat} (h : w.ownsRow base 9 1 (.slice p n c) n (strRow (marksN s n))) : TxtAt w p (marksN s n) := by
  have h' : w.ownsRow base 9 1 (.slice p (marksN s n).length c) (marksN s n).length (strRow (marksN s n)) := by rw [marksN_len]; exact h
  obtain ⟨p', c', e1, h1, h2⟩ := ownS_form h'
  cases e1
  exact h2
end
end Go.Proofs.YtefakcpclihaealDoor
