/-
  What the laws' own helpers do that mark and look at rows: markRow, heldRow, markRowOut, heldRowOut; what stays as it was while they do.
-/
import Derived.Test.YtefakcpclihaeakDoorRows
import Derived.Test.YtefakcpclihaeakDoorBytes
import Derived.Test.YtefakcpclihaeakDoorSlA
import Derived.Test.YtefakcpclihaeakDoorSlB
import Derived.Test.YtefakcpclihaeakDoorOwnS
import Derived.Test.YtefakcpclihaeakDoorBxK
import Derived.Test.YtefakcpclihaeakDoorFldMath
import Derived.Test.YtefakcpclihaeakDoorFldG
import Derived.Test.YtefakcpclihaeakDoorFldBlk
import Derived.Test.YtefakcpclihaeakDoorLawF
import Derived.Test.YtefakcpclihaeakDoorLawFM
import Derived.Handy
import Derived.OwnWalk
import Derived.Laws.OwnMore
namespace Go.Proofs.YtefakcpclihaeakDoor
open Go.RowKit Go.Lib
set_option linter.unusedVariables false
set_option maxRecDepth 20000

theorem Bxs.read3 {w : World} {g : Nat} {T : TypeId} {a b c : Value} (k : Bxs w g T #[a, b, c]) : w.cell? ⟨g, 0, none⟩ = some a ∧ w.cell? ⟨g, 1, none⟩ = some b ∧ w.cell? ⟨g, 2, none⟩ = some c := ⟨k.cell 0, k.cell 1, k.cell 2⟩
theorem Bxs.read4 {w : World} {g : Nat} {T : TypeId} {a b c d : Value} (k : Bxs w g T #[a, b, c, d]) : w.cell? ⟨g, 0, none⟩ = some a ∧ w.cell? ⟨g, 1, none⟩ = some b ∧ w.cell? ⟨g, 2, none⟩ = some c ∧ w.cell? ⟨g, 3, none⟩ = some d := ⟨k.cell 0, k.cell 1, k.cell 2, k.cell 3⟩
/-- What marking a row leaves. -/
def MkF (base : Nat) (p : Option Addr) (c : Nat) (l : List Fld) (w w' : World) : Prop :=
  w'.ownsRow base 28 5 (.slice p l.length c) l.length (fldRow (mfN 1 l.length)) ∧ w.grownBy w' (Value.slice p l.length c).ownBlock
theorem MkF.alloc {base : Nat} {p : Option Addr} {c : Nat} {l : List Fld} {w w' : World} {o : Obj} (h : MkF base p c l (w.alloc o) w') : MkF base p c l w w' := by
  obtain ⟨h1, g⟩ := h
  exact ⟨h1, ⟨g.os, g.tape, g.output, by have := g.size; simp at this; omega, fun b hb hn => (g.block b (by simp; omega) hn).trans (Below.heap_alloc _ _ _ hb)⟩⟩

set_option maxHeartbeats 1000000 in
theorem markRow_any (kd : ByteArray) (at_ : Int) (base : Nat) (p : Option Addr) (c : Nat) (l : List Fld) (w : World) (o : w.ownsRow base 28 5 (.slice p l.length c) l.length (fldRow l)) (hl : l.length ≤ 1048576) :
    Calls Tryd.prog 47 #[.agg #[.string kd, .int .i64 at_, .slice p l.length c], .int .i64 1] w fun e w' => e = .returned (.int .i64 (5 * (l.length : Int) + 1)) ∧ MkF base p c l w w' := by
  obtain ⟨W1, hW1⟩ : ∃ W1, W1 = w.alloc (.cells #[.string kd, .int .i64 at_, .slice p l.length c] 38) := ⟨_, rfl⟩
  have HW1 : Hid (W1 = w.alloc (.cells #[.string kd, .int .i64 at_, .slice p l.length c] 38)) := hW1
  have HG : Hid (∀ w', MkF base p c l W1 w' → MkF base p c l w w') := by rw [hW1]; exact fun w' h => h.alloc
  have H1 := markF_any 1 (by omega) base (.slice p l.length c) l W1 (by rw [hW1]; exact o.alloc _) (by omega)
  rw [show ((1 : Nat) : Int) = 1 from rfl] at H1
  clear hW1 o
  go_enter Tryd.func47, Tryd.ntmps47
  go_wp2_with fail
  rw [← HW1.out]
  refine H1.mono ?_
  rintro e w2 ⟨rfl, q1, g1⟩
  have HP : Hid (MkF base p c l w w2) := HG.out w2 ⟨q1, g1⟩
  clear q1 g1 H1
  go_wp2_with fail
  go_ret
  exact ⟨rfl, HP.out⟩

set_option maxHeartbeats 1000000 in
theorem markRowOut_any (kd : ByteArray) (at_ cd : Int) (base : Nat) (p : Option Addr) (c : Nat) (l : List Fld) (w : World) (o : w.ownsRow base 28 5 (.slice p l.length c) l.length (fldRow l)) (hl : l.length ≤ 1048576) :
    Calls Tryd.prog 26 #[.agg #[.string kd, .int .i64 at_, .slice p l.length c, .int .i64 cd], .int .i64 1] w fun e w' => e = .returned (.int .i64 (5 * (l.length : Int) + 1)) ∧ MkF base p c l w w' := by
  obtain ⟨W1, hW1⟩ : ∃ W1, W1 = w.alloc (.cells #[.string kd, .int .i64 at_, .slice p l.length c, .int .i64 cd] 45) := ⟨_, rfl⟩
  have HW1 : Hid (W1 = w.alloc (.cells #[.string kd, .int .i64 at_, .slice p l.length c, .int .i64 cd] 45)) := hW1
  have HG : Hid (∀ w', MkF base p c l W1 w' → MkF base p c l w w') := by rw [hW1]; exact fun w' h => h.alloc
  have H1 := markRow_any kd at_ base p c l W1 (by rw [hW1]; exact o.alloc _) hl
  clear hW1 o
  go_enter Tryd.func26, Tryd.ntmps26
  go_wp2_with fail
  rw [← HW1.out]
  refine H1.mono ?_
  rintro e w2 ⟨rfl, q1⟩
  have HP : Hid (MkF base p c l w w2) := HG.out w2 q1
  clear q1 H1
  go_wp2_with fail
  go_ret
  exact ⟨rfl, HP.out⟩

set_option maxHeartbeats 1000000 in
theorem heldRow_any (kd : ByteArray) (at_ : Int) (p : Option Addr) (c n : Nat) (w : World) (h : FldAt w p (mfN 1 n)) (hl : n ≤ 1048576) (m : n ≤ c) :
    Calls Tryd.prog 48 #[.agg #[.string kd, .int .i64 at_, .slice p n c], .int .i64 1] w fun e w' => e = .returned (.int .i64 (5 * (n : Int) + 1)) ∧ Below w.heap.size w w' := by
  obtain ⟨W1, hW1⟩ : ∃ W1, W1 = w.alloc (.cells #[.string kd, .int .i64 at_, .slice p n c] 38) := ⟨_, rfl⟩
  have HW1 : Hid (W1 = w.alloc (.cells #[.string kd, .int .i64 at_, .slice p n c] 38)) := hW1
  have B1 : Hid (Below w.heap.size w W1) := by rw [hW1]; exact (Below.refl _ _).alloc (Nat.le_refl _) _
  have H1 := heldF_any 1 (by omega) p c n W1 (h.below B1.out) (by omega) m
  rw [show ((1 : Nat) : Int) = 1 from rfl] at H1
  have d1 : decide (5 * (n : Int) + 1 < 0) = false := decide_eq_false (by omega)
  clear hW1 h
  go_enter Tryd.func48, Tryd.ntmps48
  go_wp2_with fail
  rw [← HW1.out]
  refine H1.mono ?_
  rintro e w2 ⟨rfl, b2⟩
  have b2 := chainB B1.out b2
  clear H1
  go_wp2_with fail
  go_ret
  exact ⟨rfl, b2⟩

set_option maxHeartbeats 1000000 in
theorem heldRowOut_any (kd : ByteArray) (at_ cd : Int) (p : Option Addr) (c n : Nat) (w : World) (h : FldAt w p (mfN 1 n)) (hl : n ≤ 1048576) (m : n ≤ c) :
    Calls Tryd.prog 27 #[.agg #[.string kd, .int .i64 at_, .slice p n c, .int .i64 cd], .int .i64 1] w fun e w' => e = .returned (.int .i64 (5 * (n : Int) + 1)) ∧ Below w.heap.size w w' := by
  obtain ⟨W1, hW1⟩ : ∃ W1, W1 = w.alloc (.cells #[.string kd, .int .i64 at_, .slice p n c, .int .i64 cd] 45) := ⟨_, rfl⟩
  have HW1 : Hid (W1 = w.alloc (.cells #[.string kd, .int .i64 at_, .slice p n c, .int .i64 cd] 45)) := hW1
  have B1 : Hid (Below w.heap.size w W1) := by rw [hW1]; exact (Below.refl _ _).alloc (Nat.le_refl _) _
  have H1 := heldRow_any kd at_ p c n W1 (h.below B1.out) hl m
  have d1 : decide (5 * (n : Int) + 1 < 0) = false := decide_eq_false (by omega)
  clear hW1 h
  go_enter Tryd.func27, Tryd.ntmps27
  go_wp2_with fail
  rw [← HW1.out]
  refine H1.mono ?_
  rintro e w2 ⟨rfl, b2⟩
  have b2 := chainB B1.out b2
  clear H1
  go_wp2_with fail
  go_ret
  exact ⟨rfl, b2⟩

/-- A row of fields of its own, and what it reads. -/
theorem ownF_at {w : World} {base : Nat} {p : Option Addr} {c : Nat} {l : List Fld} (h : w.ownsRow base 28 5 (.slice p l.length c) l.length (fldRow l)) : FldAt w p l ∧ l.length ≤ c := by
  obtain ⟨p', c', e, h1, h2⟩ := ownF_form h
  cases e
  exact ⟨h2, h1⟩
theorem ownF_marks {w : World} {base : Nat} {p : Option Addr} {c n : Nat} (h : w.ownsRow base 28 5 (.slice p n c) n (fldRow (mfN 1 n))) : FldAt w p (mfN 1 n) := by
  have h' : w.ownsRow base 28 5 (.slice p (mfN 1 n).length c) (mfN 1 n).length (fldRow (mfN 1 n)) := by rw [mfN_len]; exact h
  exact (ownF_at h').1
/-- What stays as it was while rows are marked: a first box, two boxes of answers, and a row that is nobody's to mark. -/
structure MkS (w : World) (A T : TypeId) (ca cw cg : Array Value) (bw bg : Nat) (P : World → Prop) (x : World) : Prop where
  bel : Below w.heap.size w x
  ba : Bxs x w.heap.size A ca
  bw : Bxs x bw T cw
  bg : Bxs x bg T cg
  ps : P x
theorem MkS.below {w : World} {A T : TypeId} {ca cw cg : Array Value} {bw bg : Nat} {P : World → Prop} {x y : World} (h : MkS w A T ca cw cg bw bg P x) (hP : ∀ x y, P x → Below x.heap.size x y → P y) (hb : Below x.heap.size x y) : MkS w A T ca cw cg bw bg P y :=
  ⟨chainB h.bel hb, h.ba.below hb, h.bw.below hb, h.bg.below hb, hP _ _ h.ps hb⟩
theorem MkS.grown {w : World} {A T : TypeId} {ca cw cg : Array Value} {bw bg : Nat} {P : World → Prop} {x y : World} {row : Option Nat} (h : MkS w A T ca cw cg bw bg P x) (hg : x.grownBy y row) (hr : ∀ j, row = some j → w.heap.size < j ∧ j ≠ bw ∧ j ≠ bg) (hP : P y) : MkS w A T ca cw cg bw bg P y :=
  ⟨h.bel.grown hg h.bel.size (fun j hj => by have := hr j hj; omega), h.ba.grown hg (fun e => by have := hr _ e.symm; omega), h.bw.grown hg (fun e => by have := hr _ e.symm; omega), h.bg.grown hg (fun e => by have := hr _ e.symm; omega), hP⟩
end Go.Proofs.YtefakcpclihaeakDoor
