/-
  Parts of one proof, laid as one text: Spoil, SignG, SignR; what each says stands at its head.
-/
import Derived.Test.YtfdihkgkiiekcaaDoorRows
import Derived.Test.YtfdihkgkiiekcaaDoorBytesDigMath
import Derived.Test.YtfdihkgkiiekcaaDoorOwnBPadI
import Derived.Test.YtfdihkgkiiekcaaDoorSignDStepAppPath2DigestDrawTree
import Derived.Test.YtfdihkgkiiekcaaDoorSlASlBBxK
import Derived.Test.YtfdihkgkiiekcaaDoorLawSLawSGOwnSBox3
import Derived.Test.YtfdihkgkiiekcaaDoorMac2PutNumAppSSrc
import Derived.Test.YtfdihkgkiiekcaaDoorDrawsDrawKitSomeIsInSignS
import Derived.Handy
import Derived.WalkSpells
import Derived.OwnWalk
import Derived.Test.YtfdihkgkiiekcaaDoorAll2LeafNode
import Derived.Test.YtfdihkgkiiekcaaDoorSignMath
import Derived.Deep.AppendLies
import Derived.Deep.RegionLaw
import Derived.Deep.RegionWith
import Derived.Test.YtfdihkgkiiekcaaDoorWide2Inc2
import Derived.Test.YtfdihkgkiiekcaaDoorMacMathPutMathSgnB
/-
  What l03Spoil makes of a list of digests: a list of few and small texts, in new memory. The source's block alone is written.
  Conditions: the source is one ('Src'); each text of the list is 32 bytes.
-/
namespace Go.Proofs.YtfdihkgkiiekcaaDoor
open Go.RowKit Go.Lib
set_option linter.unusedVariables false
set_option maxRecDepth 20000

/-- Few and small texts, to be read. -/
def Few (w : World) (v : Value) (L : List ByteArray) : Prop := ∃ q cq, v = .slice q L.length cq ∧ L.length ≤ cq ∧ TxtAt w q L ∧ L.length ≤ 65 ∧ ∀ x ∈ L, x.size ≤ 32
theorem own_few {w : World} {base : Nat} {v : Value} {L : List ByteArray} (h : w.ownsRow base 9 1 v L.length (strRow L)) (hl : L.length ≤ 65) (hs : ∀ x ∈ L, x.size ≤ 32) : Few w v L := by
  obtain ⟨q, cq, rfl, h1, h2⟩ := ownS_form h
  exact ⟨q, cq, rfl, h1, h2, hl, hs⟩
theorem digestB_le (t : ByteArray) : (digestB t).size ≤ 32 := by
  unfold digestB; split
  · rw [digB_size]; omega
  · simp

theorem TxtAt.put {w : World} {g : Nat} {ss : List ByteArray} (h : TxtAt w (some ⟨g, 0, none⟩) ss) (k : Nat) (hk : k < ss.length) (s : ByteArray) : TxtAt (w.setCell ⟨g, k, none⟩ (.string s)) (some ⟨g, 0, none⟩) (ss.set k s) := by
  intro i hi
  have hi2 : i < ss.length := by simpa using hi
  obtain ⟨b, off, h0, h1, h2⟩ := h i hi2
  cases h0
  refine ⟨g, 0, rfl, by simpa [World.setCell] using h1, ?_⟩
  rw [Nat.zero_add] at h2 ⊢
  by_cases he : k = i
  · subst he
    rw [World.cell?_setCell_same _ _ _ h2]; simp
  · rw [World.cell?_setCell_other _ _ _ _ (fun e => he (by cases e; rfl)), h2]; simp [he]
/-- An own row that is not empty: its block, its cells, nothing of it frozen. -/
theorem ownS_at {w : World} {base : Nat} {q : Option Addr} {c : Nat} {l : List ByteArray} (h : w.ownsRow base 9 1 (.slice q l.length c) l.length (strRow l)) (hl : 0 < l.length) :
    ∃ g, q = some ⟨g, 0, none⟩ ∧ base ≤ g ∧ g < w.heap.size ∧ TxtAt w (some ⟨g, 0, none⟩) l ∧ ∀ i, w.frozen? ⟨g, i, none⟩ = false := by
  rcases h.2 with ⟨h1, h0⟩ | ⟨g, cap, cur, h1, h2, h3, h4⟩
  · omega
  · cases h1
    obtain ⟨q', c', e1, e2, e3⟩ := ownS_form h
    cases e1
    exact ⟨g, rfl, h2, lt_of_block h3, e3, fun i => by simp [World.frozen?, h3]⟩

end Go.Proofs.YtfdihkgkiiekcaaDoor
/-
  What the specification's l04Sign and Sign answer: a key, and two rows of texts that lie apart in memory of their own.
-/
namespace Go.Proofs.YtfdihkgkiiekcaaDoor
open Go.RowKit Go.Lib
set_option linter.unusedVariables false
set_option maxRecDepth 20000

/-- The digits of a text in a row. -/
def DigAt (w : World) (g : Nat) (t : ByteArray) : Prop := g < w.heap.size ∧ ∀ j, j < 6 → w.cell? ⟨g, j, none⟩ = some (.int .i64 (dg t j))
theorem dig_form {w : World} {base : Nat} {v : Value} {t : ByteArray} (h : w.ownsRow base 2 1 v 6 ((digsI t).map (Value.int .i64))) : ∃ g c, v = .slice (some ⟨g, 0, none⟩) 6 c ∧ 6 ≤ c ∧ base ≤ g ∧ DigAt w g t := by
  rcases h.2 with ⟨rfl, h0⟩ | ⟨g, cap, cur, rfl, h2, h3, h4, h5, h6, h7⟩
  · cases h0
  · refine ⟨g, cap, rfl, h4, h2, lt_of_block h3, fun j hj => ?_⟩
    have h8 : (cur.toList.take (6 * 1))[j]? = some (.int .i64 (dg t j)) := by
      rw [h7]
      have hl : j < (digsI t).length := hj
      simp [dg, List.getD_eq_getElem?_getD, List.getElem?_eq_getElem hl]
    rw [List.getElem?_take_of_lt (by omega)] at h8
    simpa [World.cell?, h3] using h8
theorem DigAt.below {w w' : World} {g : Nat} {t : ByteArray} (h : DigAt w g t) (hb : Below w.heap.size w w') : DigAt w' g t := ⟨Nat.lt_of_lt_of_le h.1 hb.size, fun j hj => by rw [hb.cell (p := ⟨g, j, none⟩) h.1]; exact h.2 j hj⟩

/-- The box of what is made at X, its Ends in memory that came behind W. -/
structure SgS (W : World) (X : Nat) (k : Int) (v1 v2 : Value) (l : List ByteArray) (w : World) : Prop where
  gr : W.grownBy w (some X)
  box : w.heap[X]? = some (.cells #[.int .i64 k, v1, v2] 35 (0, 0))
  own : w.ownsRow W.heap.size 9 1 v1 l.length (strRow l)
section
variable {W w w' : World} {X : Nat} {k : Int} {v1 v2 v' : Value} {l l' : List ByteArray}
theorem SgS.lt (h : SgS W X k v1 v2 l w) : X < w.heap.size := lt_of_block h.box
theorem SgS.below (h : SgS W X k v1 v2 l w) (hb : Below w.heap.size w w') : SgS W X k v1 v2 l w' :=
  ⟨touch_below h.gr hb, (hb.block _ h.lt).trans h.box, ownS_below h.own hb⟩
theorem SgS.drew (h : SgS W X k v1 v2 l w) : SgS W X k v1 v2 l w.drew := h.below (Below.refl _ _).drew
theorem SgS.cells (h : SgS W X k v1 v2 l w) : w.cell? ⟨X, 0, none⟩ = some (.int .i64 k) ∧ w.cell? ⟨X, 1, none⟩ = some v1 ∧ w.cell? ⟨X, 2, none⟩ = some v2 ∧ w.frozen? ⟨X, 1, none⟩ = false := by
  simp [World.cell?, World.frozen?, h.box]
theorem SgS.append (h : SgS W X k v1 v2 l w) (hX : X < W.heap.size) (o : Obj) (hg : (w.alloc o).grownBy w' v1.ownBlock) (ho : w'.ownsRow W.heap.size 9 1 v' l'.length (strRow l')) :
    w'.cell? ⟨X, 1, none⟩ = some v1 ∧ w'.frozen? ⟨X, 1, none⟩ = false ∧ SgS W X k v' v2 l' (w'.setCell ⟨X, 1, none⟩ v') := by
  have hlt := h.lt
  have hb : w'.heap[X]? = some (.cells #[.int .i64 k, v1, v2] 35 (0, 0)) := (hg.block X (by simp; omega) (fun e => by have := (h.own.lt X e.symm).1; omega)).trans ((Below.heap_alloc _ _ _ hlt).trans h.box)
  have hG : W.grownBy w' (some X) := touch_own (touch_below h.gr ((Below.refl _ _).alloc (Nat.le_refl _) o)) hg (fun j hj => (h.own.lt j hj).1)
  refine ⟨?_, ?_, ⟨touch_set hG 1 v', by rw [blk_set hb]; rfl, ownsRow_setCell_below ho hX _⟩⟩ <;> simp [World.cell?, World.frozen?, hb]
end
theorem DigAt.touch {W w : World} {X g : Nat} {t : ByteArray} (h : DigAt W g t) (hg : W.grownBy w (some X)) (hne : g ≠ X) : DigAt w g t := by
  refine ⟨Nat.lt_of_lt_of_le h.1 hg.size, fun j hj => ?_⟩
  have hb := hg.block g h.1 (fun e => hne (by cases e; rfl))
  have := h.2 j hj
  simpa [World.cell?, hb] using this

end Go.Proofs.YtfdihkgkiiekcaaDoor
/-
  What the specification's SigRight answers: 'sgnB'.
  Conditions: the cells of Ends and Path hold the texts.
-/
namespace Go.Proofs.YtfdihkgkiiekcaaDoor
open Go.RowKit Go.Lib
set_option linter.unusedVariables false
set_option maxRecDepth 20000

set_option maxHeartbeats 2000000 in
theorem specSigRight_any (key : Int) (q1 : Option Addr) (c1 : Nat) (ends : List ByteArray) (q2 : Option Addr) (c2 : Nat) (path : List ByteArray) (w : World) (h1 : TxtAt w q1 ends) (h2 : TxtAt w q2 path) (n1 : ends.length ≤ 1048576) (n2 : path.length ≤ 1048576) (m1 : ends.length ≤ c1) (m2 : path.length ≤ c2) :
    Calls Tryd.prog 32 #[.agg #[.int .i64 key, .slice q1 ends.length c1, .slice q2 path.length c2]] w fun e w' => e = .returned (.bool (sgnB key ends path)) ∧ Below w.heap.size w w' := by
  obtain ⟨W1, hW1⟩ : ∃ W1, W1 = w.alloc (.cells #[.int .i64 key, .slice q1 ends.length c1, .slice q2 path.length c2] 35) := ⟨_, rfl⟩
  have HW1 : Hid (W1 = w.alloc (.cells #[.int .i64 key, .slice q1 ends.length c1, .slice q2 path.length c2] 35)) := hW1
  have B1 : Hid (Below w.heap.size w W1) := by rw [hW1]; exact (Below.refl _ _).alloc (Nat.le_refl _) _
  have X1 : W1.heap[w.heap.size]? = some (.cells #[.int .i64 key, .slice q1 ends.length c1, .slice q2 path.length c2] 35 (0, 0)) := by rw [hW1]; exact (MapKept.heap_alloc w _).1
  have t0 : W1.cell? ⟨w.heap.size, 0, none⟩ = some (.int .i64 key) ∧ W1.cell? ⟨w.heap.size, 1, none⟩ = some (.slice q1 ends.length c1) ∧ W1.cell? ⟨w.heap.size, 2, none⟩ = some (.slice q2 path.length c2) := by simp [World.cell?, X1]
  obtain ⟨t0, t1, t2⟩ := t0
  have hK := isIn_any key 0 3 W1
  have hE := wide2_any q1 c1 ends W1 (h1.below B1.out) (by omega) m1
  have hP := wide2_any q2 c2 path W1 (h2.below B1.out) (by omega) m2
  have H0 : Hid (sgnB key ends path = (decide (0 ≤ key ∧ key ≤ 3) && (decide (ends.length = 6) && (decide (path.length = 2) && (wideB ends && wideB path))))) := rfl
  clear hW1 X1 h1 h2
  rw [H0.out]
  generalize decide (0 ≤ key ∧ key ≤ 3) = b0 at *
  have e1 : ((ends.length : Int) == 6) = decide (ends.length = 6) := by
    by_cases h : ends.length = 6
    · rw [decide_eq_true h]; exact beq_iff_eq.2 (by omega)
    · rw [decide_eq_false h]; exact beq_eq_false_iff_ne.2 (by omega)
  have e2 : ((path.length : Int) == 2) = decide (path.length = 2) := by
    by_cases h : path.length = 2
    · rw [decide_eq_true h]; exact beq_iff_eq.2 (by omega)
    · rw [decide_eq_false h]; exact beq_eq_false_iff_ne.2 (by omega)
  generalize decide (ends.length = 6) = b1 at *
  generalize decide (path.length = 2) = b2 at *
  generalize wideB ends = b3 at *
  generalize wideB path = b4 at *
  clear H0
  go_enter Tryd.func32, Tryd.ntmps32
  go_wp2_with fail
  rw [← HW1.out]
  refine hK.mono ?_
  rintro e w1 ⟨rfl, rfl⟩
  cases b0
  · go_wp2_with fail
    go_ret
    exact ⟨ret_bool (by simp), B1.out⟩
  cases b1
  · go_wp2_with fail
    go_ret
    exact ⟨ret_bool (by simp), B1.out⟩
  cases b2
  · go_wp2_with fail
    go_ret
    exact ⟨ret_bool (by simp), B1.out⟩
  go_wp2_with fail
  refine hE.mono ?_
  rintro e w1 ⟨rfl, rfl⟩
  cases b3
  · go_wp2_with fail
    go_ret
    exact ⟨ret_bool (by simp), B1.out⟩
  go_wp2_with fail
  refine hP.mono ?_
  rintro e w1 ⟨rfl, rfl⟩
  go_wp2_with fail
  go_ret
  exact ⟨ret_bool (by simp), B1.out⟩
end Go.Proofs.YtfdihkgkiiekcaaDoor
