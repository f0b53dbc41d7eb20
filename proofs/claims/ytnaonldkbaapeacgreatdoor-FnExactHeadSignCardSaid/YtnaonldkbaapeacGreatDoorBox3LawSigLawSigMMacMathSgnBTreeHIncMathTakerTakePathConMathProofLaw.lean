/-
  Parts of one proof, laid as one text: Box3, LawSig, LawSigM, MacMath, SgnB, TreeH, IncMath, Taker, TakePath, ConMath, ProofLaw; what each says stands at its head.
-/
import Derived.Test.YtnaonldkbaapeacGreatDoorRows
import Derived.Test.YtnaonldkbaapeacGreatDoorBytesDigMath
import Derived.Test.YtnaonldkbaapeacGreatDoorSlASlBBxKOwnSTakes
import Derived.Handy
import Derived.OwnWalk
import Derived.Test.YtnaonldkbaapeacGreatDoorLawSLawMFldRiseScanMath
import Derived.Test.YtnaonldkbaapeacGreatDoorLawFLawFRLawSG
import Derived.Test.YtnaonldkbaapeacGreatDoorLawLzLawMGLawFM
import Derived.Test.YtnaonldkbaapeacGreatDoorPadIDigITurn2
import Derived.Test.YtnaonldkbaapeacGreatDoorTreeMath
import Derived.Test.YtnaonldkbaapeacGreatDoorAll2LeafNodeTree2
import Derived.Test.YtnaonldkbaapeacGreatDoorProof2HalvesTreePutter
import Derived.Test.YtnaonldkbaapeacGreatDoorPowerOwnBTurnIWholeRNumsI
import Derived.Test.YtnaonldkbaapeacGreatDoorLawLmOpFOpLgPathMath
/-
  A box of three cells: what is read off it, and what each step leaves of it.
-/
namespace Go.Proofs.YtnaonldkbaapeacGreatDoor
open Go.RowKit Go.Lib
set_option linter.unusedVariables false

def B3 (w : World) (b : Nat) (T : TypeId) (x y z : Value) : Prop := w.heap[b]? = some (.cells #[x, y, z] T (0, 0))
section
variable {w w' : World} {b : Nat} {T : TypeId} {x y z : Value}
theorem B3.lt (h : B3 w b T x y z) : b < w.heap.size := lt_of_block h
theorem B3.new (w : World) (T : TypeId) (x y z : Value) : B3 (w.alloc (.cells #[x, y, z] T)) w.heap.size T x y z := (MapKept.heap_alloc w _).1
theorem B3.below (h : B3 w b T x y z) (hb : Below w.heap.size w w') : B3 w' b T x y z := (hb.block _ h.lt).trans h
theorem B3.alloc (h : B3 w b T x y z) (o : Obj) : B3 (w.alloc o) b T x y z := h.below ((Below.refl _ _).alloc (Nat.le_refl _) _)
theorem B3.grown {row : Option Nat} (h : B3 w b T x y z) (hg : w.grownBy w' row) (hne : row ≠ some b) : B3 w' b T x y z := (hg.block b h.lt (fun e => hne e.symm)).trans h
theorem B3.c0 (h : B3 w b T x y z) : w.cell? ⟨b, 0, none⟩ = some x := by unfold B3 at h; simp [World.cell?, h]
theorem B3.c1 (h : B3 w b T x y z) : w.cell? ⟨b, 1, none⟩ = some y := by unfold B3 at h; simp [World.cell?, h]
theorem B3.c2 (h : B3 w b T x y z) : w.cell? ⟨b, 2, none⟩ = some z := by unfold B3 at h; simp [World.cell?, h]
theorem B3.fr (h : B3 w b T x y z) (i : Nat) : w.frozen? ⟨b, i, none⟩ = false := by unfold B3 at h; simp [World.frozen?, h]
theorem B3.set0 (h : B3 w b T x y z) (v : Value) : B3 (w.setCell ⟨b, 0, none⟩ v) b T v y z := by unfold B3 at *; rw [blk_set h]; rfl
theorem B3.set1 (h : B3 w b T x y z) (v : Value) : B3 (w.setCell ⟨b, 1, none⟩ v) b T x v z := by unfold B3 at *; rw [blk_set h]; rfl
theorem B3.set2 (h : B3 w b T x y z) (v : Value) : B3 (w.setCell ⟨b, 2, none⟩ v) b T x y v := by unfold B3 at *; rw [blk_set h]; rfl
theorem B3.other (h : B3 w b T x y z) (g i : Nat) (hne : g ≠ b) (v : Value) : B3 (w.setCell ⟨g, i, none⟩ v) b T x y z := by
  unfold B3 at *
  rw [show (w.setCell ⟨g, i, none⟩ v).heap[b]? = w.heap[b]? by simp [World.setCell, Array.getElem?_modify, hne]]; exact h
/-- It is no row of texts. -/
theorem B3.ne (h : B3 w b T x y z) (hT : T ≠ 9) {base : Nat} {v : Value} {m : Nat} {xs : List Value} (ho : w.ownsRow base 9 1 v m xs) : v.ownBlock ≠ some b := by
  intro he
  rcases ho.2 with ⟨rfl, _⟩ | ⟨g, cap, cur, rfl, _, hg, _⟩
  · cases he
  · have : g = b := by simpa [Value.ownBlock] using he
    subst this
    unfold B3 at h
    rw [h] at hg
    simp only [Option.some.injEq, Obj.cells.injEq] at hg
    exact hT hg.2.1
end
end Go.Proofs.YtnaonldkbaapeacGreatDoor
/-
  What the laws' own helpers answer for a Sig: szSig, toSig, eqSig, markSig, heldSig.
  Conditions: the cells of Ends and Path hold the texts.
-/
namespace Go.Proofs.YtnaonldkbaapeacGreatDoor
open Go.RowKit Go.Lib
set_option linter.unusedVariables false
set_option maxRecDepth 20000

def SmallS (ss : List ByteArray) : Prop := ss.length ≤ 1048576 ∧ ∀ x ∈ ss, x.size ≤ 1048576
set_option maxHeartbeats 1000000 in
theorem eqSig_any (k : Int) (p1 p2 q1 q2 : Option Addr) (c1 c2 d1 d2 : Nat) (L1 L2 : List ByteArray) (w : World) (h1 : TxtAt w p1 L1) (h2 : TxtAt w p2 L2) (g1 : TxtAt w q1 L1) (g2 : TxtAt w q2 L2) (n1 : L1.length ≤ 1048576) (n2 : L2.length ≤ 1048576) (m1 : L1.length ≤ c1) (m2 : L2.length ≤ c2) (m3 : L1.length ≤ d1) (m4 : L2.length ≤ d2) :
    Calls Tryz.prog 10 #[.agg #[.int .i64 k, .slice p1 L1.length c1, .slice p2 L2.length c2], .agg #[.int .i64 k, .slice q1 L1.length d1, .slice q2 L2.length d2]] w fun e w' => e = .returned (.bool true) ∧ Below w.heap.size w w' := by
  obtain ⟨W0, hW0⟩ : ∃ W0, W0 = w.alloc (.cells #[.int .i64 k, .slice p1 L1.length c1, .slice p2 L2.length c2] 28) := ⟨_, rfl⟩
  have hz : W0.heap.size = w.heap.size + 1 := by rw [hW0]; simp
  obtain ⟨W1, hW1⟩ : ∃ W1, W1 = W0.alloc (.cells #[.int .i64 k, .slice q1 L1.length d1, .slice q2 L2.length d2] 28) := ⟨_, rfl⟩
  have HW1 : Hid (W1 = (w.alloc (.cells #[.int .i64 k, .slice p1 L1.length c1, .slice p2 L2.length c2] 28)).alloc (.cells #[.int .i64 k, .slice q1 L1.length d1, .slice q2 L2.length d2] 28)) := by rw [hW1, hW0]; exact rfl
  have hB0 : Below w.heap.size w W0 := by rw [hW0]; exact (Below.refl _ _).alloc (Nat.le_refl _) _
  have B1 : Hid (Below w.heap.size w W1) := by rw [hW1]; exact hB0.alloc hB0.size _
  have X1 : Hid (B3 W1 w.heap.size 28 (.int .i64 k) (.slice p1 L1.length c1) (.slice p2 L2.length c2)) := by
    rw [hW1]; refine B3.alloc ?_ _; rw [hW0]; exact B3.new _ _ _ _ _
  have X2 : Hid (B3 W1 (w.heap.size + 1) 28 (.int .i64 k) (.slice q1 L1.length d1) (.slice q2 L2.length d2)) := by
    rw [hW1, ← hz]; exact B3.new _ _ _ _ _
  have hE := eq_any p1 q1 c1 d1 L1 L1 W1 (h1.below B1.out) (g1.below B1.out) (by omega) (by omega) m1 m3
  rw [decide_eq_true rfl] at hE
  have T2 : Hid (TxtAt W1 p2 L2 ∧ TxtAt W1 q2 L2) := ⟨h2.below B1.out, g2.below B1.out⟩
  clear hW1 hW0 h1 h2 g1 g2 hB0 hz
  go_enter Tryz.func10, Tryz.ntmps10
  go_wp2_with fail
  rw [← HW1.out]
  refine hE.mono ?_
  rintro e w1 ⟨rfl, b1⟩
  have x1 := (X1.out.below b1).c2
  have x2 := (X2.out.below b1).c2
  have hF := eq_any p2 q2 c2 d2 L2 L2 w1 (T2.out.1.below b1) (T2.out.2.below b1) (by omega) (by omega) m2 m4
  rw [decide_eq_true rfl] at hF
  have b1 := chainB B1.out b1
  clear hE T2
  go_wp2_with fail
  refine hF.mono ?_
  rintro e w2 ⟨rfl, b2⟩
  have b2 := chainB b1 b2
  clear hF x1 x2
  go_wp2_with fail
  go_ret
  exact ⟨rfl, b2⟩

end Go.Proofs.YtnaonldkbaapeacGreatDoor
/-
  What markSig and heldSig answer, for two rows of texts that lie apart.
-/
namespace Go.Proofs.YtnaonldkbaapeacGreatDoor
open Go.RowKit Go.Lib
set_option linter.unusedVariables false
set_option maxRecDepth 20000

set_option maxHeartbeats 1000000 in
theorem markSig_any (k : Int) (base : Nat) (p1 p2 : Option Addr) (c1 c2 : Nat) (L1 L2 : List ByteArray) (w : World) (o1 : w.ownsRow base 9 1 (.slice p1 L1.length c1) L1.length (strRow L1)) (o2 : w.ownsRow base 9 1 (.slice p2 L2.length c2) L2.length (strRow L2)) (hne : (Value.slice p2 L2.length c2).ownBlock = none ∨ (Value.slice p2 L2.length c2).ownBlock ≠ (Value.slice p1 L1.length c1).ownBlock) (hl : L1.length + L2.length ≤ 1000000) :
    Calls Tryz.prog 13 #[.agg #[.int .i64 k, .slice p1 L1.length c1, .slice p2 L2.length c2], .int .i64 1] w fun e w' => e = .returned (.int .i64 ((L2.length : Int) + ((L1.length : Int) + 1))) ∧ w'.ownsRow base 9 1 (.slice p1 L1.length c1) L1.length (strRow (marksN 1 L1.length)) ∧ w'.ownsRow base 9 1 (.slice p2 L2.length c2) L2.length (strRow (marksN (L1.length + 1) L2.length)) ∧
      ∃ wm, w.grownBy wm (Value.slice p1 L1.length c1).ownBlock ∧ wm.grownBy w' (Value.slice p2 L2.length c2).ownBlock := by
  obtain ⟨W1, hW1⟩ : ∃ W1, W1 = w.alloc (.cells #[.int .i64 k, .slice p1 L1.length c1, .slice p2 L2.length c2] 28) := ⟨_, rfl⟩
  have HW1 : Hid (W1 = w.alloc (.cells #[.int .i64 k, .slice p1 L1.length c1, .slice p2 L2.length c2] 28)) := hW1
  have X1 : Hid (B3 W1 w.heap.size 28 (.int .i64 k) (.slice p1 L1.length c1) (.slice p2 L2.length c2)) := by rw [hW1]; exact B3.new _ _ _ _ _
  have O1 : Hid (W1.ownsRow base 9 1 (.slice p1 L1.length c1) L1.length (strRow L1)) := by rw [hW1]; exact o1.alloc _
  have O2 : Hid (W1.ownsRow base 9 1 (.slice p2 L2.length c2) L2.length (strRow L2)) := by rw [hW1]; exact o2.alloc _
  have HG : Hid (∀ wm, W1.grownBy wm (Value.slice p1 L1.length c1).ownBlock → w.grownBy wm (Value.slice p1 L1.length c1).ownBlock) := by
    rw [hW1]
    intro wm h
    exact ⟨h.os, h.tape, h.output, by have := h.size; simp at this; omega, fun b hb hn => (h.block b (by simp; omega) hn).trans (Below.heap_alloc _ _ _ hb)⟩
  have H1 := markG_any 1 (by omega) base (.slice p1 L1.length c1) L1 W1 O1.out (by omega)
  rw [show ((1 : Nat) : Int) = 1 from rfl] at H1
  have HN : Hid ((Value.slice p2 L2.length c2).ownBlock = none ∨ (Value.slice p2 L2.length c2).ownBlock ≠ (Value.slice p1 L1.length c1).ownBlock) := hne
  clear hW1 o1 o2 hne
  go_enter Tryz.func13, Tryz.ntmps13
  go_wp2_with fail
  rw [← HW1.out]
  refine H1.mono ?_
  rintro e w2 ⟨rfl, q1, g1⟩
  have x2 := (X1.out.grown g1 (X1.out.ne (by decide) O1.out)).c2
  have q2 := O2.out.kept g1 HN.out
  have H2 := markG_any (L1.length + 1) (by omega) base (.slice p2 L2.length c2) L2 w2 q2 (by omega)
  rw [show ((L1.length + 1 : Nat) : Int) = (L1.length : Int) + 1 by omega] at H2
  have Q1 : Hid (w2.ownsRow base 9 1 (.slice p1 L1.length c1) L1.length (strRow (marksN 1 L1.length))) := q1
  have G1 : Hid (W1.grownBy w2 (Value.slice p1 L1.length c1).ownBlock) := g1
  have HN2 : Hid ((Value.slice p1 L1.length c1).ownBlock = none ∨ (Value.slice p1 L1.length c1).ownBlock ≠ (Value.slice p2 L2.length c2).ownBlock) := by
    rcases HN.out with h | h
    · cases h1 : (Value.slice p1 L1.length c1).ownBlock with
      | none => exact .inl rfl
      | some b => exact .inr (by rw [h]; simp)
    · exact .inr (fun e => h e.symm)
  clear q1 q2 g1 H1 O1 O2 X1
  go_wp2_with fail
  refine H2.mono ?_
  rintro e w3 ⟨rfl, q3, g3⟩
  have Q3 : Hid (w3.ownsRow base 9 1 (.slice p2 L2.length c2) L2.length (strRow (marksN (L1.length + 1) L2.length))) := q3
  have Q4 : Hid (w3.ownsRow base 9 1 (.slice p1 L1.length c1) L1.length (strRow (marksN 1 L1.length))) := Q1.out.kept g3 HN2.out
  have G3 : Hid (w2.grownBy w3 (Value.slice p2 L2.length c2).ownBlock) := g3
  clear q3 g3 H2 x2 Q1
  go_wp2_with fail
  go_ret
  exact ⟨rfl, Q4.out, Q3.out, w2, HG.out _ G1.out, G3.out⟩

set_option maxHeartbeats 1000000 in
theorem heldSig_any (k : Int) (p1 p2 : Option Addr) (c1 c2 n1 n2 : Nat) (w : World) (h1 : TxtAt w p1 (marksN 1 n1)) (h2 : TxtAt w p2 (marksN (n1 + 1) n2)) (hl : n1 + n2 ≤ 1000000) (m1 : n1 ≤ c1) (m2 : n2 ≤ c2) :
    Calls Tryz.prog 14 #[.agg #[.int .i64 k, .slice p1 n1 c1, .slice p2 n2 c2], .int .i64 1] w fun e w' => e = .returned (.int .i64 ((n2 : Int) + ((n1 : Int) + 1))) ∧ Below w.heap.size w w' := by
  obtain ⟨W1, hW1⟩ : ∃ W1, W1 = w.alloc (.cells #[.int .i64 k, .slice p1 n1 c1, .slice p2 n2 c2] 28) := ⟨_, rfl⟩
  have HW1 : Hid (W1 = w.alloc (.cells #[.int .i64 k, .slice p1 n1 c1, .slice p2 n2 c2] 28)) := hW1
  have X1 : Hid (B3 W1 w.heap.size 28 (.int .i64 k) (.slice p1 n1 c1) (.slice p2 n2 c2)) := by rw [hW1]; exact B3.new _ _ _ _ _
  have B1 : Hid (Below w.heap.size w W1) := by rw [hW1]; exact (Below.refl _ _).alloc (Nat.le_refl _) _
  have H1 := heldG_any 1 (by omega) p1 c1 n1 W1 (h1.below B1.out) (by omega) m1
  rw [show ((1 : Nat) : Int) = 1 from rfl] at H1
  have T2 : Hid (TxtAt W1 p2 (marksN (n1 + 1) n2)) := h2.below B1.out
  clear hW1 h1 h2
  have d1 : decide ((n1 : Int) + 1 < 0) = false := decide_eq_false (by omega)
  have d2 : decide ((n2 : Int) + ((n1 : Int) + 1) < 0) = false := decide_eq_false (by omega)
  go_enter Tryz.func14, Tryz.ntmps14
  go_wp2_with fail
  rw [← HW1.out]
  refine H1.mono ?_
  rintro e w2 ⟨rfl, b2⟩
  have x2 := (X1.out.below b2).c2
  have H2 := heldG_any (n1 + 1) (by omega) p2 c2 n2 w2 (T2.out.below b2) (by omega) m2
  rw [show ((n1 + 1 : Nat) : Int) = (n1 : Int) + 1 by omega] at H2
  have b2 := chainB B1.out b2
  clear H1 T2 X1
  go_wp2_with fail
  refine H2.mono ?_
  rintro e w3 ⟨rfl, b3⟩
  have b3 := chainB b2 b3
  clear H2 x2
  go_wp2_with fail
  go_ret
  exact ⟨rfl, b3⟩
end Go.Proofs.YtnaonldkbaapeacGreatDoor
/-
  A mac and a stretched pass, as plain functions: 'macB', 'macA', 'strB', 'strA'.
  Nothing of the program is named here.
-/
namespace Go.Proofs.YtnaonldkbaapeacGreatDoor
open Go.RowKit Go.Lib
set_option linter.unusedVariables false

def kAt (key : ByteArray) (m : Int) (k i : Nat) : Int := if i < k then bits .xor .u8 (byteAt key i) m else byteAt key i
def kPart (key : ByteArray) (m : Int) (k : Nat) : List Int := (List.range 64).map (kAt key m k)
theorem kPart_len (key : ByteArray) (m : Int) (k : Nat) : (kPart key m k).length = 64 := by simp [kPart]
theorem kPart_zero (key : ByteArray) (m : Int) (h : key.size ≤ 64) : bytesN key ++ List.replicate (64 - key.size) 0 = kPart key m 0 := by
  have hl := bytesN_len key
  apply List.ext_getElem
  · rw [List.length_append, hl, List.length_replicate, kPart_len]; omega
  · intro i h1 h2
    rw [kPart_len] at h2
    simp only [kPart, List.getElem_map, List.getElem_range, kAt, Nat.not_lt_zero, if_false]
    by_cases hi : i < key.size
    · rw [List.getElem_append_left (by omega)]
      have h3 : i < key.data.toList.length := by rw [← size_eq]; exact hi
      simp only [bytesN, List.getElem_map, byteAt, List.getD_eq_getElem?_getD, List.getElem?_eq_getElem h3]; rfl
    · rw [List.getElem_append_right (by omega)]
      have h3 : key.data.toList.length ≤ i := by rw [← size_eq]; omega
      simp only [List.getElem_replicate, byteAt, List.getD_eq_getElem?_getD, List.getElem?_eq_none h3]; rfl
theorem kPart_at (key : ByteArray) (m : Int) (k : Nat) (h : k < 64) : (kPart key m k)[k]? = some (byteAt key k) := by
  simp [kPart, kAt, h]
theorem kPart_set (key : ByteArray) (m : Int) (k : Nat) (h : k < 64) : (rowN (kPart key m k)).toArray.setIfInBounds k (.int .u8 (bits .xor .u8 (byteAt key k) m)) = (rowN (kPart key m (k + 1))).toArray := by
  rw [List.setIfInBounds_toArray]
  congr 1
  apply List.ext_getElem
  · simp [rowN, kPart_len]
  · intro i h1 h2
    simp only [rowN, List.length_map, kPart_len] at h2
    rw [List.getElem_set]
    by_cases hi : k = i
    · subst hi
      simp [rowN, kPart, kAt]
    · rw [if_neg hi]
      simp only [rowN, kPart, List.getElem_map, List.getElem_range, kAt]
      by_cases h3 : i < k
      · rw [if_pos h3, if_pos (by omega)]
      · rw [if_neg h3, if_neg (by omega)]
theorem kRow_cell {w : World} {g : Nat} {key : ByteArray} {m : Int} {k : Nat} {T : TypeId} (h : w.heap[g]? = some (.cells (rowN (kPart key m k)).toArray T (0, 0))) (hk : k < 64) : w.cell? ⟨g, k, none⟩ = some (.int .u8 (byteAt key k)) ∧ w.frozen? ⟨g, k, none⟩ = false := by
  simp [World.cell?, World.frozen?, h, rowN, kPart_at key m k hk]
def padK (key : ByteArray) (m : Int) : ByteArray := strOfNums (kPart key m 64)
theorem padK_size (key : ByteArray) (m : Int) : (padK key m).size = 64 := by unfold padK; rw [strOfNums_size, kPart_len]
def keyK (key : ByteArray) : ByteArray := if 64 < key.size then digB key else key
theorem keyK_size (key : ByteArray) : (keyK key).size ≤ 64 := by
  unfold keyK
  by_cases h : 64 < key.size
  · rw [if_pos h, digB_size]; omega
  · rw [if_neg h]; omega
def macB (key text : ByteArray) : ByteArray := digB (padK (keyK key) 92 ++ digB (padK (keyK key) 54 ++ text))
def macA (key text : ByteArray) : ByteArray := if key.size ≤ 8000 ∧ text.size ≤ 8000 then macB key text else ByteArray.empty
def salt : ByteArray := ⟨#[115, 97, 108, 116]⟩
def strB (pass : ByteArray) : Nat → ByteArray
  | 0 => salt
  | k + 1 => macB pass (strB pass k)
theorem strB_size (pass : ByteArray) : ∀ k, (strB pass k).size ≤ 32
  | 0 => (by decide : salt.size ≤ 32)
  | k + 1 => by rw [strB, macB, digB_size]; omega
def strA (pass : ByteArray) (n : Int) : ByteArray := if pass.size ≤ 8000 ∧ 1 ≤ n ∧ n ≤ 100 then strB pass n.toNat else ByteArray.empty
end Go.Proofs.YtnaonldkbaapeacGreatDoor
/-
  When a signature is right, as a plain function.
-/
namespace Go.Proofs.YtnaonldkbaapeacGreatDoor
open Go.RowKit Go.Lib
set_option linter.unusedVariables false

def sgnB (key : Int) (ends path : List ByteArray) : Bool := decide (0 ≤ key ∧ key ≤ 3) && (decide (ends.length = 6) && (decide (path.length = 2) && (wideB ends && wideB path)))
end Go.Proofs.YtnaonldkbaapeacGreatDoor
/-
  What TreeHash answers, in the program and in the specification: 'treeA': of right entries their tree, else nothing.
-/
namespace Go.Proofs.YtnaonldkbaapeacGreatDoor
open Go.RowKit Go.Lib
set_option linter.unusedVariables false
set_option maxRecDepth 20000

def treeA (ss : List ByteArray) : ByteArray := if entB ss then treeB ss else ByteArray.empty
set_option maxHeartbeats 400000 in
theorem implTree_any (p : Option Addr) (cap : Nat) (ss : List ByteArray) (w : World) (hT : Tabs w) (hp : TxtAt w p ss) (hn : ss.length ≤ 140737488355328) (hcap : ss.length ≤ cap) :
    Calls Tryz.prog 96 #[.slice p ss.length cap] w fun e w' => e = .returned (.string (treeA ss)) ∧ Below w.heap.size w w' := by
  have HT : Hid (Tabs w) := hT
  have HP : Hid (TxtAt w p ss) := hp
  clear hT hp
  have hr := entR_any p cap ss w HP.out hn hcap
  cases he : entB ss
  · rw [he] at hr
    have H : Hid (treeA ss = ByteArray.empty) := by show _ = _; unfold treeA; rw [he]; rfl
    clear he
    go_enter Tryz.func96, Tryz.ntmps96
    go_wp2_with fail
    refine hr.mono ?_
    rintro e w1 ⟨rfl, rfl⟩
    go_wp2_with fail
    go_ret
    exact ⟨ret_str H.out.symm, Below.refl _ _⟩
  · rw [he] at hr
    have H : Hid (treeA ss = treeB ss) := by show _ = _; unfold treeA; rw [he]; rfl
    have hc := treeI_any ss.length p cap ss w rfl HT.out HP.out hn hcap (entB_all he)
    clear he
    go_enter Tryz.func96, Tryz.ntmps96
    go_wp2_with fail
    refine hr.mono ?_
    rintro e w1 ⟨rfl, rfl⟩
    go_wp2_with fail
    refine hc.mono ?_
    rintro e w1 ⟨rfl, b1⟩
    go_wp2_with fail
    go_ret
    exact ⟨ret_str H.out.symm, b1⟩
end Go.Proofs.YtnaonldkbaapeacGreatDoor
/-
  Included and Consistent as plain functions: 'incA', 'conA'.
-/
namespace Go.Proofs.YtnaonldkbaapeacGreatDoor
open Go.RowKit Go.Lib
set_option linter.unusedVariables false

theorem toList_inj' {x y : ByteArray} (h : (x.toList == y.toList) = true) : x = y := by
  rw [beq_iff_eq, ByteArray.toList_eq, ByteArray.toList_eq] at h; exact ByteArray.ext (Array.toList_inj.1 h)
def incA (leaf : ByteArray) (i n : Int) (ss : List ByteArray) (root : ByteArray) : Bool :=
  if 0 ≤ i ∧ i < n ∧ ss.length ≤ 63 ∧ leaf.size = 32 ∧ root.size = 32 ∧ wideB ss = true then decide (cl leaf (dirs i.toNat n.toNat) ss = some root) else false
end Go.Proofs.YtnaonldkbaapeacGreatDoor
/-
  The program's taker: its two closures, 'take' (what stands at the place, and the place goes on; nothing behind the last) and 'left' (how many are left).
  Conditions: the list's cells hold the texts; the two captured variables lie in blocks of their own.
-/
namespace Go.Proofs.YtnaonldkbaapeacGreatDoor
open Go.RowKit Go.Lib
set_option linter.unusedVariables false

/-- The list's box L and the place's box A, in memory that came behind W0; nothing that was there has turned. -/
structure TkS (W0 : World) (L A : Nat) (p : Option Addr) (ss : List ByteArray) (cap : Nat) (a : Nat) (w : World) : Prop where
  bel : Below W0.heap.size W0 w
  hL : W0.heap.size ≤ L
  hA : W0.heap.size ≤ A
  ne : L ≠ A
  list : w.heap[L]? = some (.cells #[.slice p ss.length cap] 23 (0, 0))
  place : w.heap[A]? = some (.cells #[.int .i64 (a : Int)] 3 (0, 0))
  le : a ≤ ss.length
theorem TkS.ltL {W0 : World} {L A : Nat} {p : Option Addr} {ss : List ByteArray} {cap a : Nat} {w : World} (h : TkS W0 L A p ss cap a w) : L < w.heap.size := lt_of_block h.list
theorem TkS.ltA {W0 : World} {L A : Nat} {p : Option Addr} {ss : List ByteArray} {cap a : Nat} {w : World} (h : TkS W0 L A p ss cap a w) : A < w.heap.size := lt_of_block h.place
theorem TkS.below {W0 : World} {L A : Nat} {p : Option Addr} {ss : List ByteArray} {cap a : Nat} {w w' : World} (h : TkS W0 L A p ss cap a w) (hb : Below w.heap.size w w') : TkS W0 L A p ss cap a w' :=
  ⟨h.bel.trans (hb.mono h.bel.size), h.hL, h.hA, h.ne, (hb.block _ h.ltL).trans h.list, (hb.block _ h.ltA).trans h.place, h.le⟩
theorem TkS.next {W0 : World} {L A : Nat} {p : Option Addr} {ss : List ByteArray} {cap a : Nat} {w : World} (h : TkS W0 L A p ss cap a w) (hlt : a < ss.length) : TkS W0 L A p ss cap (a + 1) (w.setCell ⟨A, 0, none⟩ (.int .i64 ((a : Int) + 1))) := by
  refine ⟨h.bel.setCell h.hA _, h.hL, h.hA, h.ne, ?_, ?_, by omega⟩
  · rw [show (w.setCell ⟨A, 0, none⟩ (.int .i64 ((a : Int) + 1))).heap[L]? = w.heap[L]? by simp [World.setCell, Array.getElem?_modify, h.ne.symm]]; exact h.list
  · rw [one_setCell h.place]; rfl

theorem hmf : ∀ (fn : Fn) (first cap : Array Value) (w : World), (Instr.makeFunc fn first cap).run Tryz.prog w = .ok (.func fn first cap) w := fun _ _ _ _ => rfl
theorem tkS_new (p : Option Addr) (ss : List ByteArray) (cap : Nat) (w : World) :
    TkS w w.heap.size (w.heap.size + 1) p ss cap 0 ((w.alloc (.cells #[.slice p ss.length cap] 23)).alloc (.cells #[.int .i64 0] 3)) := by
  have h1 := (MapKept.heap_alloc w (.cells #[.slice p ss.length cap] 23)).1
  have hs : (w.alloc (.cells #[.slice p ss.length cap] 23)).heap.size = w.heap.size + 1 := by simp
  have h2 := (MapKept.heap_alloc (w.alloc (.cells #[.slice p ss.length cap] 23)) (.cells #[.int .i64 0] 3)).1
  rw [hs] at h2
  refine ⟨((Below.refl _ _).alloc (Nat.le_refl _) _).alloc (by rw [hs]; omega) _, Nat.le_refl _, by omega, by omega, ?_, h2, by omega⟩
  exact (Below.heap_alloc _ _ _ (by rw [hs]; omega)).trans h1
end Go.Proofs.YtnaonldkbaapeacGreatDoor
/-
  The program's takePath and Included: what is taken, step by step, leads from the leaf to a tree; 'incB'.
  Conditions: the path's cells hold the texts; the two tables lie as the program's text lays them.
-/
namespace Go.Proofs.YtnaonldkbaapeacGreatDoor
open Go.RowKit Go.Lib
set_option linter.unusedVariables false
set_option maxRecDepth 20000

theorem nodeA_size (l r : ByteArray) : (nodeA l r).size ≤ 32 := by
  unfold nodeA; split
  · rw [nodeB_size]; omega
  · simp
theorem tk_size {ss : List ByteArray} (hs : ∀ x ∈ ss, x.size = 32) (a : Nat) : (tk ss a).size ≤ 32 := by
  by_cases h : a < ss.length
  · rw [(tk_of hs h).1]; omega
  · rw [tk_out h]; simp
theorem nx_le {ss : List ByteArray} {a : Nat} (h : a ≤ ss.length) : nx ss a ≤ ss.length := by unfold nx; split <;> omega
theorem foldP_size (ss : List ByteArray) (leaf : ByteArray) (hl : leaf.size ≤ 32) (ds : List Bool) : ∀ a, (ds.foldl (stepP ss) (leaf, a)).1.size ≤ 32 := by
  induction ds generalizing leaf with
  | nil => intro a; exact hl
  | cons d ds ih =>
    intro a
    rw [List.foldl_cons]
    refine ih _ ?_ _
    split <;> exact nodeA_size _ _

end Go.Proofs.YtnaonldkbaapeacGreatDoor
/-
  Consistent as a plain function: 'conA'.
-/
namespace Go.Proofs.YtnaonldkbaapeacGreatDoor
open Go.RowKit Go.Lib
set_option linter.unusedVariables false

def conB (m n : Nat) (ss : List ByteArray) (was root : ByteArray) : Bool :=
  if lft (pd m n) = true then decide (cl2 was was (pd m n) ss = some (was, root))
  else match ss with
    | [] => false
    | s :: t => decide (cl2 s s (pd m n) t = some (was, root))
def conA (m n : Int) (ss : List ByteArray) (was root : ByteArray) : Bool :=
  if 1 ≤ m ∧ m ≤ n ∧ ss.length ≤ 64 ∧ was.size = 32 ∧ root.size = 32 ∧ wideB ss = true then conB m.toNat n.toNat ss was root else false
def startC (ss : List ByteArray) (ds : List Bool) (whole : ByteArray) (a : Nat) : ByteArray × ByteArray × Nat := ds.foldl (stepC ss) (seedC ss (if lft ds = true then whole else ByteArray.empty) a)
theorem conI {ss : List ByteArray} (hs : ∀ x ∈ ss, x.size = 32) {was root : ByteArray} (hw : was.size = 32) (hr : root.size = 32) (m n : Nat) :
    ((startC ss (pd m n) was 0).1 = was ∧ (startC ss (pd m n) was 0).2.1 = root ∧ (startC ss (pd m n) was 0).2.2 = ss.length) ↔ conB m n ss was root = true := by
  unfold startC conB
  by_cases hl : lft (pd m n) = true
  · rw [if_pos hl, if_pos hl, show seedC ss was 0 = (was, was, 0) from if_neg (by omega), decide_eq_true_iff]
    have := foldC hs (was := was) hr (pd m n) was was 0 hw hw (Nat.zero_le _)
    rwa [List.drop_zero] at this
  · rw [if_neg hl, if_neg hl, show seedC ss ByteArray.empty 0 = (tk ss 0, tk ss 0, nx ss 0) from if_pos rfl]
    match ss, hs with
    | [], _ =>
      constructor
      · rintro ⟨_, h, _⟩
        rw [show tk ([] : List ByteArray) 0 = ByteArray.empty from rfl, stepC_empty] at h
        rw [← h] at hr; simp at hr
      · intro h; cases h
    | s :: t, hs =>
      have h1 : s.size = 32 := hs s (by simp)
      rw [show tk (s :: t) 0 = s from rfl, show nx (s :: t) 0 = 1 from by simp [nx], decide_eq_true_iff]
      have := foldC hs (was := was) hr (pd m n) s s 1 h1 h1 (by simp)
      rwa [List.drop_succ_cons, List.drop_zero] at this
theorem stepC_size {ss : List ByteArray} (s : ByteArray × ByteArray × Nat) (d : Bool) (h : s.1.size ≤ 32) : (stepC ss s d).1.size ≤ 32 ∧ (stepC ss s d).2.1.size ≤ 32 := by
  unfold stepC
  cases d
  · exact ⟨h, nodeA_size _ _⟩
  · exact ⟨nodeA_size _ _, nodeA_size _ _⟩
theorem foldC_size {ss : List ByteArray} (ds : List Bool) : ∀ (s : ByteArray × ByteArray × Nat), s.1.size ≤ 32 → s.2.1.size ≤ 32 → (ds.foldl (stepC ss) s).1.size ≤ 32 ∧ (ds.foldl (stepC ss) s).2.1.size ≤ 32 := by
  induction ds with
  | nil => exact fun s h1 h2 => ⟨h1, h2⟩
  | cons d ds ih => exact fun s h1 h2 => ih _ (stepC_size s d h1).1 (stepC_size s d h1).2
theorem seedC_size {ss : List ByteArray} (hs : ∀ x ∈ ss, x.size = 32) {whole : ByteArray} (hw : whole.size ≤ 32) (a : Nat) : (seedC ss whole a).1.size ≤ 32 ∧ (seedC ss whole a).2.1.size ≤ 32 := by
  unfold seedC; split
  · exact ⟨tk_size hs a, tk_size hs a⟩
  · exact ⟨hw, hw⟩
theorem startC_size {ss : List ByteArray} (hs : ∀ x ∈ ss, x.size = 32) (ds : List Bool) {whole : ByteArray} (hw : whole.size ≤ 32) (a : Nat) : (startC ss ds whole a).1.size ≤ 32 ∧ (startC ss ds whole a).2.1.size ≤ 32 := by
  have h0 : (if lft ds = true then whole else ByteArray.empty).size ≤ 32 := by split; exact hw; simp
  unfold startC
  exact foldC_size ds _ (seedC_size hs h0 a).1 (seedC_size hs h0 a).2
theorem startC_left (ss : List ByteArray) (ds : List Bool) (whole : ByteArray) (a : Nat) : startC ss (ds ++ [false]) whole a = stepC ss (startC ss ds whole a) false := by
  unfold startC; rw [lft_false, List.foldl_append]; rfl
theorem startC_right (ss : List ByteArray) (ds : List Bool) (whole : ByteArray) (a : Nat) : startC ss (ds ++ [true]) whole a = stepC ss (startC ss ds ByteArray.empty a) true := by
  unfold startC; rw [lft_true, List.foldl_append, ite_self]; rfl
/-- What the specification goes along: was ahead of the proof, if old is a power of two. -/
def conL (m n : Nat) (ss : List ByteArray) (was : ByteArray) : List ByteArray := if lft (pd m n) = true then was :: ss else ss
theorem conB_of {m n : Nat} {ss : List ByteArray} {was root : ByteArray} : conB m n ss was root = match conL m n ss was with
    | [] => false
    | s :: t => decide (cl2 s s (pd m n) t = some (was, root)) := by
  unfold conB conL
  by_cases hl : lft (pd m n) = true
  · rw [if_pos hl, if_pos hl]
  · rw [if_neg hl, if_neg hl]
end Go.Proofs.YtnaonldkbaapeacGreatDoor
/-
  The laws of paths and proofs as the program's functions say them: what pathA and proofA hold is 32 bytes wide; incA and conA are true of them.
-/
namespace Go.Proofs.YtnaonldkbaapeacGreatDoor
open Go.RowKit Go.Lib
set_option linter.unusedVariables false

theorem pathB_wide (l : List ByteArray) (i : Nat) : ∀ x ∈ pathB l i, x.size = 32 := by
  induction hn : l.length using Nat.strongRecOn generalizing l i with
  | _ n ih =>
    subst hn
    intro x hx
    by_cases h2 : 2 ≤ l.length
    · have hlt := halfN_lt h2
      have hp := halfN_pos l.length
      by_cases hi : i < halfN l.length
      · rw [pathB_left h2 hi] at hx
        rcases List.mem_append.1 hx with h | h
        · exact ih (halfN l.length) hlt (l.take (halfN l.length)) i (by simp; omega) x h
        · rw [List.mem_singleton.1 h]; exact treeB_size _
      · rw [pathB_right h2 hi] at hx
        rcases List.mem_append.1 hx with h | h
        · exact ih (l.length - halfN l.length) (by omega) (l.drop (halfN l.length)) (i - halfN l.length) (by simp) x h
        · rw [List.mem_singleton.1 h]; exact treeB_size _
    · rw [pathB_one h2] at hx; simp at hx
theorem proofB_wide (l : List ByteArray) (m : Nat) (h1 : 1 ≤ m) (hm : m ≤ l.length) (whole : Bool) : ∀ x ∈ proofB m l whole, x.size = 32 := by
  induction hn : l.length using Nat.strongRecOn generalizing l m whole with
  | _ n ih =>
    subst hn
    intro x hx
    by_cases he : m = l.length
    · rw [proofB_all he] at hx
      split at hx
      · simp at hx
      · rw [List.mem_singleton.1 hx]; exact treeB_size _
    · have h2 : 2 ≤ l.length := by omega
      have hlt := halfN_lt h2
      have hp := halfN_pos l.length
      by_cases hi : m ≤ halfN l.length
      · rw [proofB_left h2 he hi] at hx
        rcases List.mem_append.1 hx with h | h
        · exact ih (halfN l.length) hlt (l.take (halfN l.length)) m h1 (by simp; omega) whole (by simp; omega) x h
        · rw [List.mem_singleton.1 h]; exact treeB_size _
      · rw [proofB_right h2 he hi] at hx
        rcases List.mem_append.1 hx with h | h
        · exact ih (l.length - halfN l.length) (by omega) (l.drop (halfN l.length)) (m - halfN l.length) (by omega) (by simp; omega) false (by simp) x h
        · rw [List.mem_singleton.1 h]; exact treeB_size _
theorem pathA_wide (ss : List ByteArray) (i : Int) : ∀ x ∈ pathA ss i, x.size = 32 := by
  intro x hx; unfold pathA at hx; split at hx
  · exact pathB_wide _ _ x hx
  · simp at hx
theorem proofA_wide (ss : List ByteArray) (m : Int) : ∀ x ∈ proofA ss m, x.size = 32 := by
  intro x hx; unfold proofA at hx; split at hx
  · rename_i h; exact proofB_wide _ _ (by omega) (by omega) _ x hx
  · simp at hx
theorem pathA_few (ss : List ByteArray) (i : Int) : (pathA ss i).length ≤ 63 := by
  unfold pathA; split
  · rename_i h
    have h1 := entB_len h.1
    have h2 := pathB_len ss i.toNat (by omega)
    omega
  · simp
theorem proofA_few (ss : List ByteArray) (m : Int) : (proofA ss m).length ≤ 64 := by
  unfold proofA; split
  · rename_i h
    have h1 := entB_len h.1
    have h2 := proofB_len ss m.toNat (by omega) (by omega) true
    omega
  · simp
theorem wideB_of {ss : List ByteArray} (h : ∀ x ∈ ss, x.size = 32) : wideB ss = true := wideB_true fun j hj => h _ (List.getElem_mem hj)
theorem entB_take {ss : List ByteArray} (h : entB ss = true) (m : Nat) : entB (ss.take m) = true :=
  entB_true (by have := entB_len h; simp; omega) fun j hj => entB_all h _ (List.mem_of_mem_take (List.getElem_mem hj))
theorem treeA_of {ss : List ByteArray} (h : entB ss = true) : treeA ss = treeB ss := by unfold treeA; rw [h]; rfl
theorem treeA_le (ss : List ByteArray) : (treeA ss).size ≤ 32 := by
  unfold treeA; split
  · rw [treeB_size]; omega
  · simp
theorem treeA_ent {ss : List ByteArray} (h : treeA ss ≠ ByteArray.empty) : entB ss = true := by
  by_cases he : entB ss = true
  · exact he
  · exact absurd (by unfold treeA; simp [he]) h

/-- P4: each entry is included by its path. -/
theorem inc_true {ss : List ByteArray} (h : entB ss = true) (i : Nat) (hi : i < ss.length) : incA (leafB ss[i]) i ss.length (pathA ss i) (treeA ss) = true := by
  have e1 : pathA ss (i : Int) = pathB ss i := by unfold pathA; rw [if_pos ⟨h, by omega, by omega⟩]; simp
  have hw := pathA_wide ss i
  have hf := pathA_few ss i
  unfold incA
  rw [if_pos ⟨by omega, by omega, hf, leafB_size _, by rw [treeA_of h]; exact treeB_size _, wideB_of hw⟩, e1, treeA_of h]
  simpa using path_law ss i hi
/-- P5: the first ones are told by their proof to be the beginning of all. -/
theorem con_true {ss : List ByteArray} (h : entB ss = true) (m : Nat) (h1 : 1 ≤ m) (hm : m ≤ ss.length) : conA m ss.length (proofA ss m) (treeA (ss.take m)) (treeA ss) = true := by
  have e1 : proofA ss (m : Int) = proofB m ss true := by unfold proofA; rw [if_pos ⟨h, by omega, by omega⟩]; simp
  have hw := proofA_wide ss m
  have hf := proofA_few ss m
  unfold conA
  rw [if_pos ⟨by omega, by omega, hf, by rw [treeA_of (entB_take h m)]; exact treeB_size _, by rw [treeA_of h]; exact treeB_size _, wideB_of hw⟩, e1, treeA_of h, treeA_of (entB_take h m)]
  obtain ⟨s, ps, h2, h3⟩ := proof_law ss m h1 hm true
  unfold conB
  simp only [Int.toNat_natCast]
  by_cases hl : lft (pd m ss.length) = true
  · simp only [hl, Bool.and_self, if_true] at h2
    rw [if_pos hl, h2.2, decide_eq_true_iff, ← h2.1]
    rw [← h2.1] at h3; exact h3
  · simp only [hl, Bool.and_false, if_false, Bool.false_eq_true] at h2
    rw [if_neg hl, h2]
    simpa using h3
end Go.Proofs.YtnaonldkbaapeacGreatDoor
