/-
  The law FnExactDeskWords returns true.
-/
import Derived.Test.YteiffjpmccbcoaaGreatDoorRows
import Derived.Test.YteiffjpmccbcoaaGreatDoorBytes
import Derived.Test.YteiffjpmccbcoaaGreatDoorSlA
import Derived.Test.YteiffjpmccbcoaaGreatDoorOwnS
import Derived.Test.YteiffjpmccbcoaaGreatDoorBxK
import Derived.Test.YteiffjpmccbcoaaGreatDoorLawS
import Derived.Test.YteiffjpmccbcoaaGreatDoorLawM
import Derived.Test.YteiffjpmccbcoaaGreatDoorDeskT
import Derived.Handy
import Derived.WalkSpells
import Derived.OwnWalk
namespace Go.Proofs.YteiffjpmccbcoaaGreatDoor
open Go.RowKit Go.Lib
set_option linter.unusedVariables false

/-- An own row of six texts, opened. -/
theorem six_form {w : World} {base : Nat} {p : Option Addr} {c : Nat} {l : List ByteArray} (h : w.ownsRow base 9 1 (.slice p 6 c) 6 (strRow l)) (hl : l.length = 6) : TxtAt w p l ∧ 6 ≤ c := by
  have h' : w.ownsRow base 9 1 (.slice p 6 c) l.length (strRow l) := by rw [hl]; exact h
  obtain ⟨p', c', e, h1, h2⟩ := ownS_form h'
  rw [hl] at e h1
  cases e
  exact ⟨h2, h1⟩
set_option maxRecDepth 20000 in
set_option maxHeartbeats 8000000 in
theorem deskWordsWalk (w : World) :
    Calls Tryz.prog 3 #[] w fun e w' => e = .returned (.bool true) ∧ Below w.heap.size w w' := by
  have hS := specDeskWords_any w
  have hI : Hid (∀ x, Calls Tryz.prog 5 #[] x fun e x' => ∃ p c, e = .returned (.slice p 6 c) ∧ x'.ownsRow x.heap.size 9 1 (.slice p 6 c) 6 (strRow dkL) ∧ Below x.heap.size x x') := fun x => implDeskWords_any x
  have hE : Hid (∀ x b b' p c p' c', x.ownsRow b 9 1 (.slice p 6 c) 6 (strRow dkL) → x.ownsRow b' 9 1 (.slice p' 6 c') 6 (strRow dkL) → Calls Tryz.prog 6 #[.slice p 6 c, .slice p' 6 c'] x fun e x' => e = .returned (.bool true) ∧ Below x.heap.size x x') := fun x b b' p c p' c' h h' => by
    obtain ⟨t1, m1⟩ := six_form h dk_six
    obtain ⟨t2, m2⟩ := six_form h' dk_six
    have k := eq_any p p' c c' dkL dkL x t1 t2 (by rw [dk_six]; omega) (by rw [dk_six]; omega) (by rw [dk_six]; exact m1) (by rw [dk_six]; exact m2)
    rw [dk_six, decide_eq_true rfl] at k
    exact k
  have hM : Hid (∀ x b p c, x.ownsRow b 9 1 (.slice p 6 c) 6 (strRow dkL) → Calls Tryz.prog 7 #[.slice p 6 c, .int .i64 1] x fun e x' => e = .returned (.int .i64 7) ∧ x'.ownsRow b 9 1 (.slice p 6 c) 6 (strRow (marksL 6)) ∧ x.grownBy x' (Value.slice p 6 c).ownBlock) := fun x b p c h => by
    have k := mark_any b (.slice p 6 c) dkL x (by rw [dk_six]; exact h) (by rw [dk_six]; omega)
    rw [dk_six] at k
    exact k
  have hH : Hid (∀ x b p c, x.ownsRow b 9 1 (.slice p 6 c) 6 (strRow (marksL 6)) → Calls Tryz.prog 8 #[.slice p 6 c, .int .i64 1] x fun e x' => e = .returned (.int .i64 7) ∧ Below x.heap.size x x') := fun x b p c h => by
    obtain ⟨t1, m1⟩ := six_form h (by simp [marksL])
    exact held_any p c 6 x t1 (by omega) m1
  go_enter Tryz.func3, Tryz.ntmps3
  go_wp2_with fail
  refine hS.mono ?_
  rintro e w1 ⟨p1, c1, rfl, o1, b1⟩
  have O1 : Hid (w1.ownsRow w.heap.size 9 1 (.slice p1 6 c1) 6 (strRow dkL)) := o1
  have B1 : Hid (Below w.heap.size w w1) := b1
  clear o1 b1 hS
  go_wp2_with fail
  refine (hI.out w1).mono ?_
  rintro e w2 ⟨p2, c2, rfl, o2, b2⟩
  have O2 : Hid (w2.ownsRow w1.heap.size 9 1 (.slice p2 6 c2) 6 (strRow dkL)) := o2
  have P2 : Hid (w2.ownsRow w.heap.size 9 1 (.slice p1 6 c1) 6 (strRow dkL)) := ownS_below O1.out b2
  have B2 : Hid (Below w.heap.size w w2) := chainB B1.out b2
  have L1 : Hid (∀ j, (Value.slice p1 6 c1).ownBlock = some j → j < w1.heap.size) := fun j hj => (O1.out.lt j hj).2
  have S1 : Hid (w.heap.size ≤ w1.heap.size) := B1.out.size
  clear o2 b2 O1 B1
  have hE2 := hE.out w2 _ _ _ _ _ _ O2.out P2.out
  go_wp2_with fail
  refine hE2.mono ?_
  rintro e w3 ⟨rfl, b3⟩
  have O3 : Hid (w3.ownsRow w1.heap.size 9 1 (.slice p2 6 c2) 6 (strRow dkL)) := ownS_below O2.out b3
  have P3 : Hid (w3.ownsRow w.heap.size 9 1 (.slice p1 6 c1) 6 (strRow dkL)) := ownS_below P2.out b3
  have B3 : Hid (Below w.heap.size w w3) := chainB B2.out b3
  clear b3 O2 P2 B2 hE2
  have hM3 := hM.out w3 _ _ _ O3.out
  go_wp2_with fail
  refine hM3.mono ?_
  rintro e w4 ⟨rfl, o4, g4⟩
  have O4 : Hid (w4.ownsRow w1.heap.size 9 1 (.slice p2 6 c2) 6 (strRow (marksL 6))) := o4
  have P4 : Hid (w4.ownsRow w.heap.size 9 1 (.slice p1 6 c1) 6 (strRow dkL)) := P3.out.kept g4 (by
    cases h1 : (Value.slice p1 6 c1).ownBlock with
    | none => exact .inl rfl
    | some j => exact .inr (fun e => by have := L1.out j h1; have := (O3.out.lt j e.symm).1; omega))
  have B4 : Hid (Below w.heap.size w w4) := B3.out.grown g4 B3.out.size (fun j hj => by have := (O3.out.lt j hj).1; have := S1.out; omega)
  clear o4 g4 O3 P3 B3 hM3
  have hH4 := hH.out w4 _ _ _ O4.out
  go_wp2_with fail
  refine hH4.mono ?_
  rintro e w5 ⟨rfl, b5⟩
  have O5 : Hid (w5.ownsRow w1.heap.size 9 1 (.slice p2 6 c2) 6 (strRow (marksL 6))) := ownS_below O4.out b5
  have P5 : Hid (w5.ownsRow w.heap.size 9 1 (.slice p1 6 c1) 6 (strRow dkL)) := ownS_below P4.out b5
  have B5 : Hid (Below w.heap.size w w5) := chainB B4.out b5
  clear b5 O4 P4 B4 hH4
  have hI5 := hI.out w5
  go_wp2_with fail
  refine hI5.mono ?_
  rintro e w6 ⟨p6, c6, rfl, o6, b6⟩
  have O6 : Hid (w6.ownsRow w1.heap.size 9 1 (.slice p2 6 c2) 6 (strRow (marksL 6))) := ownS_below O5.out b6
  have P6 : Hid (w6.ownsRow w.heap.size 9 1 (.slice p1 6 c1) 6 (strRow dkL)) := ownS_below P5.out b6
  have B6 : Hid (Below w.heap.size w w6) := chainB B5.out b6
  have hE6 := hE.out w6 _ _ _ _ _ _ o6 P6.out
  clear o6 b6 O5 P5 B5 hI5
  go_wp2_with fail
  refine hE6.mono ?_
  rintro e w7 ⟨rfl, b7⟩
  have hH7 := hH.out w7 _ _ _ (ownS_below O6.out b7)
  have B7 : Hid (Below w.heap.size w w7) := chainB B6.out b7
  clear b7 O6 P6 B6 hE6
  go_wp2_with fail
  refine hH7.mono ?_
  rintro e w8 ⟨rfl, b8⟩
  have B8 : Hid (Below w.heap.size w w8) := chainB B7.out b8
  clear b8 B7 hH7
  go_wp2_with fail
  go_ret
  exact ⟨rfl, B8.out⟩
end Go.Proofs.YteiffjpmccbcoaaGreatDoor
