/-
  What l03Spoil makes of a list of digests: a list of few and small texts, in new memory. The source's block alone is written.
  Conditions: the source is one ('Src'); each text of the list is 32 bytes.
-/
import Derived.Test.YtlmkfjlaakmmpaiDoorRows
import Derived.Test.YtlmkfjlaakmmpaiDoorBytes
import Derived.Test.YtlmkfjlaakmmpaiDoorDigMath
import Derived.Test.YtlmkfjlaakmmpaiDoorOwnBPadI
import Derived.Test.YtlmkfjlaakmmpaiDoorDrawTreeDigest
import Derived.Test.YtlmkfjlaakmmpaiDoorSlA
import Derived.Test.YtlmkfjlaakmmpaiDoorSlBOwnS
import Derived.Test.YtlmkfjlaakmmpaiDoorAppS
import Derived.Test.YtlmkfjlaakmmpaiDoorSrcDrawsDrawKit
import Derived.Test.YtlmkfjlaakmmpaiDoorSome
import Derived.Handy
import Derived.WalkSpells
import Derived.OwnWalk
namespace Go.Proofs.YtlmkfjlaakmmpaiDoor
open Go.RowKit Go.Lib
set_option linter.unusedVariables false
set_option maxRecDepth 20000

/-- Few and small texts, to be read. -/
def Few (w : World) (v : Value) (L : List ByteArray) : Prop := ∃ q cq, v = .slice q L.length cq ∧ L.length ≤ cq ∧ TxtAt w q L ∧ L.length ≤ 65 ∧ ∀ x ∈ L, x.size ≤ 32
theorem own_few {w : World} {base : Nat} {v : Value} {L : List ByteArray} (h : w.ownsRow base 9 1 v L.length (strRow L)) (hl : L.length ≤ 65) (hs : ∀ x ∈ L, x.size ≤ 32) : Few w v L := by
  obtain ⟨q, cq, rfl, h1, h2⟩ := ownS_form h
  exact ⟨q, cq, rfl, h1, h2, hl, hs⟩
theorem digestB_le (t : ByteArray) : (digestB t).size ≤ 32 := by
  unfold digestB; split
  · rw [digB_size]; omega
  · simp

theorem TxtAt.put {w : World} {g : Nat} {ss : List ByteArray} (h : TxtAt w (some ⟨g, 0, none⟩) ss) (k : Nat) (hk : k < ss.length) (s : ByteArray) : TxtAt (w.setCell ⟨g, k, none⟩ (.string s)) (some ⟨g, 0, none⟩) (ss.set k s) := by
  intro i hi
  have hi2 : i < ss.length := by simpa using hi
  obtain ⟨b, off, h0, h1, h2⟩ := h i hi2
  cases h0
  refine ⟨g, 0, rfl, by simpa [World.setCell] using h1, ?_⟩
  rw [Nat.zero_add] at h2 ⊢
  by_cases he : k = i
  · subst he
    rw [World.cell?_setCell_same _ _ _ h2]; simp
  · rw [World.cell?_setCell_other _ _ _ _ (fun e => he (by cases e; rfl)), h2]; simp [he]
/-- An own row that is not empty: its block, its cells, nothing of it frozen. -/
theorem ownS_at {w : World} {base : Nat} {q : Option Addr} {c : Nat} {l : List ByteArray} (h : w.ownsRow base 9 1 (.slice q l.length c) l.length (strRow l)) (hl : 0 < l.length) :
    ∃ g, q = some ⟨g, 0, none⟩ ∧ base ≤ g ∧ g < w.heap.size ∧ TxtAt w (some ⟨g, 0, none⟩) l ∧ ∀ i, w.frozen? ⟨g, i, none⟩ = false := by
  rcases h.2 with ⟨h1, h0⟩ | ⟨g, cap, cur, h1, h2, h3, h4⟩
  · omega
  · cases h1
    obtain ⟨q', c', e1, e2, e3⟩ := ownS_form h
    cases e1
    exact ⟨g, rfl, h2, lt_of_block h3, e3, fun i => by simp [World.frozen?, h3]⟩

end Go.Proofs.YtlmkfjlaakmmpaiDoor
