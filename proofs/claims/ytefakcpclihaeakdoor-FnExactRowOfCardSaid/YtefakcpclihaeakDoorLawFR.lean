/-
  What the laws' own helpers answer for rows: szRow, toRow, eqRow, eqRowOut (of two that are alike).
  Conditions: the slices' cells hold the fields.
-/
import Derived.Test.YtefakcpclihaeakDoorRows
import Derived.Test.YtefakcpclihaeakDoorBytes
import Derived.Test.YtefakcpclihaeakDoorSlA
import Derived.Test.YtefakcpclihaeakDoorSlB
import Derived.Test.YtefakcpclihaeakDoorOwnS
import Derived.Test.YtefakcpclihaeakDoorBxK
import Derived.Test.YtefakcpclihaeakDoorFldMath
import Derived.Test.YtefakcpclihaeakDoorFldRise
import Derived.Test.YtefakcpclihaeakDoorFldG
import Derived.Test.YtefakcpclihaeakDoorFldBlk
import Derived.Test.YtefakcpclihaeakDoorLawF
import Derived.Handy
import Derived.WalkSpells
import Derived.OwnWalk
namespace Go.Proofs.YtefakcpclihaeakDoor
open Go.RowKit Go.Lib
set_option linter.unusedVariables false
set_option maxRecDepth 20000

set_option maxHeartbeats 1000000 in
theorem szRow_any (kd : ByteArray) (at_ : Int) (p : Option Addr) (c : Nat) (fs : List Fld) (w : World) (h1 : FldAt w p fs) (n1 : fs.length ≤ 9223372036854775807) (m1 : fs.length ≤ c) (s1 : FldsBig fs) (s0 : kd.size ≤ 9223372036854775807) :
    Calls Tryd.prog 14 #[.agg #[.string kd, .int .i64 at_, .slice p fs.length c], .int .i64 1048576] w fun e w' => (∃ r : Int, e = .returned (.int .i64 r) ∧ (r = -1 ∨ (0 ≤ r ∧ r ≤ 1048576 ∧ fs.length ≤ 1048576))) ∧ Below w.heap.size w w' := by
  obtain ⟨W1, hW1⟩ : ∃ W1, W1 = w.alloc (.cells #[.string kd, .int .i64 at_, .slice p fs.length c] 33) := ⟨_, rfl⟩
  have HW1 : Hid (W1 = w.alloc (.cells #[.string kd, .int .i64 at_, .slice p fs.length c] 33)) := hW1
  have B1 : Hid (Below w.heap.size w W1) := by rw [hW1]; exact (Below.refl _ _).alloc (Nat.le_refl _) _
  have H2 : Hid (∀ (l0 : Int), 0 ≤ l0 → l0 ≤ 1048576 → Calls Tryd.prog 38 #[.slice p fs.length c, .int .i64 l0] W1 fun e w' => (∃ r : Int, e = .returned (.int .i64 r) ∧ (r = -1 ∨ (0 ≤ r ∧ r ≤ l0 ∧ fs.length ≤ 1048576))) ∧ Below W1.heap.size W1 w') := fun l0 a b => szF_any l0 a b p c fs W1 (h1.below B1.out) n1 m1 s1
  clear h1 s1 hW1
  by_cases hk : (kd.size : Int) ≤ 1048576
  · have H3 := H2.out (1048576 - kd.size) (by omega) (by omega)
    clear H2
    go_enter Tryd.func14, Tryd.ntmps14
    go_wp2_with fail
    rw [← HW1.out]
    refine H3.mono ?_
    rintro e w2 ⟨⟨r', rfl, hr'⟩, b2⟩
    have b2 := chainB B1.out b2
    clear H3
    rcases hr' with rfl | ⟨r4, r5, r6⟩
    · go_wp2_with fail
      go_ret
      exact ⟨⟨_, rfl, .inl rfl⟩, b2⟩
    · have dr : decide (r' < 0) = false := decide_eq_false (by omega)
      go_wp2_with fail
      go_ret
      exact ⟨⟨_, rfl, .inr ⟨r4, by omega, r6⟩⟩, b2⟩
  · clear H2
    go_enter Tryd.func14, Tryd.ntmps14
    go_wp2_with fail
    rw [← HW1.out]
    go_ret
    exact ⟨⟨_, rfl, .inl rfl⟩, B1.out⟩

set_option maxHeartbeats 2000000 in
theorem toRow_any (kd : ByteArray) (at_ : Int) (p : Option Addr) (c : Nat) (fs : List Fld) (w : World) (h1 : FldAt w p fs) (n1 : fs.length ≤ 1048576) (m1 : fs.length ≤ c) :
    Calls Tryd.prog 16 #[.agg #[.string kd, .int .i64 at_, .slice p fs.length c]] w fun e w' => ∃ g, w.heap.size ≤ g ∧ e = .returned (.agg #[.string kd, .int .i64 at_, .slice (some ⟨g, 0, none⟩) fs.length fs.length]) ∧ BlkF w' g fs ∧ Below w.heap.size w w' := by
  obtain ⟨W1, hW1⟩ : ∃ W1, W1 = w.alloc (.cells #[.string kd, .int .i64 at_, .slice p fs.length c] 33) := ⟨_, rfl⟩
  obtain ⟨W2, hW2⟩ : ∃ W2, W2 = W1.alloc (.cells #[.string ⟨#[]⟩, .int .i64 0, .slice none 0 0] 38) := ⟨_, rfl⟩
  obtain ⟨W3, hW3⟩ : ∃ W3, W3 = W2.alloc (.cells #[.string kd, .int .i64 at_, .slice none 0 0] 38) := ⟨_, rfl⟩
  have z1 : W1.heap.size = w.heap.size + 1 := by rw [hW1]; simp
  have z2 : W2.heap.size = w.heap.size + 1 + 1 := by rw [hW2]; simp [z1]
  have z3 : W3.heap.size = w.heap.size + 3 := by rw [hW3]; simp [z2]
  have b1 : Below w.heap.size w W1 := by rw [hW1]; exact (Below.refl _ _).alloc (Nat.le_refl _) _
  have b2 : Below w.heap.size w W2 := by rw [hW2]; exact alB b1 _
  have B0 : Hid (Below w.heap.size w W3) := by rw [hW3]; exact alB b2 _
  have XR : Hid (Bxs W3 (w.heap.size + 1) 38 #[.string ⟨#[]⟩, .int .i64 0, .slice none 0 0]) := by rw [hW3]; refine Bxs.alloc ?_ _; rw [hW2, ← z1]; exact Bxs.new _ _ _
  have XO : Hid (Bxs W3 (w.heap.size + 1 + 1) 38 #[.string kd, .int .i64 at_, .slice none 0 0]) := by rw [hW3, ← z2]; exact Bxs.new _ _ _
  have HW3 : Hid (W3 = ((w.alloc (.cells #[.string kd, .int .i64 at_, .slice p fs.length c] 33)).alloc (.cells #[.string ⟨#[]⟩, .int .i64 0, .slice none 0 0] 38)).alloc (.cells #[.string kd, .int .i64 at_, .slice none 0 0] 38)) := by rw [hW3, hW2, hW1]; exact rfl
  have HC := toF_any p c fs W3 (h1.below B0.out) n1 m1
  have HZ3 : Hid (W3.heap.size = w.heap.size + 3) := z3
  clear hW1 hW2 hW3 z1 z2 z3 b1 b2 h1
  go_enter Tryd.func16, Tryd.ntmps16
  go_wp2_with fail
  rw [← HW3.out]
  refine HC.mono ?_
  rintro e w4 ⟨rfl, hB4, b4⟩
  rw [HZ3.out] at hB4 ⊢
  have xo := XO.out.below b4
  have xr := XR.out.below b4
  have o0 : w4.cell? ⟨w.heap.size + 1 + 1, 0, none⟩ = some (.string kd) := xo.cell 0
  have o1 : w4.cell? ⟨w.heap.size + 1 + 1, 1, none⟩ = some (.int .i64 at_) := xo.cell 1
  have o2 : w4.cell? ⟨w.heap.size + 1 + 1, 2, none⟩ = some (.slice none 0 0) := xo.cell 2
  have fo := xo.fr 2
  have r0 : w4.cell? ⟨w.heap.size + 1, 0, none⟩ = some (.string ⟨#[]⟩) := xr.cell 0
  have r1 : w4.cell? ⟨w.heap.size + 1, 1, none⟩ = some (.int .i64 0) := xr.cell 1
  have r2 : w4.cell? ⟨w.heap.size + 1, 2, none⟩ = some (.slice none 0 0) := xr.cell 2
  have e0 := xr.fr 0
  have e1 := xr.fr 1
  have e2 := xr.fr 2
  have HEnd : Hid (∀ v0 v1 v2 v3 : Value, BlkF ((((w4.setCell ⟨w.heap.size + 1 + 1, 2, none⟩ v0).setCell ⟨w.heap.size + 1, 0, none⟩ v1).setCell ⟨w.heap.size + 1, 1, none⟩ v2).setCell ⟨w.heap.size + 1, 2, none⟩ v3) (w.heap.size + 3) fs ∧ Below w.heap.size w ((((w4.setCell ⟨w.heap.size + 1 + 1, 2, none⟩ v0).setCell ⟨w.heap.size + 1, 0, none⟩ v1).setCell ⟨w.heap.size + 1, 1, none⟩ v2).setCell ⟨w.heap.size + 1, 2, none⟩ v3)) := by
    intro v0 v1 v2 v3
    have hb := chainB B0.out b4
    exact ⟨Bxs.other (Bxs.other (Bxs.other (Bxs.other hB4 _ _ (by omega) _) _ _ (by omega) _) _ _ (by omega) _) _ _ (by omega) _, (((hb.setCell (by show w.heap.size ≤ w.heap.size + 1 + 1; omega) _).setCell (by show w.heap.size ≤ w.heap.size + 1; omega) _).setCell (by show w.heap.size ≤ w.heap.size + 1; omega) _).setCell (by show w.heap.size ≤ w.heap.size + 1; omega) _⟩
  clear hB4 b4 xo xr HC XR XO B0 HW3
  go_wp2_with fail
  refine bodyPost_ret (v := .agg #[.string kd, .int .i64 at_, .slice (some ⟨w.heap.size + 3, 0, none⟩) fs.length fs.length]) (by simp [results, Tryd.results16, go_sem, r0, r1, r2]) rfl ?_
  exact ⟨w.heap.size + 3, by omega, rfl, HEnd.out _ _ _ _⟩

set_option maxHeartbeats 1000000 in
theorem eqRow_any (kd : ByteArray) (at_ : Int) (p q : Option Addr) (c d : Nat) (fs : List Fld) (w : World) (h1 : FldAt w p fs) (g1 : FldAt w q fs) (n1 : fs.length ≤ 1048576) (m1 : fs.length ≤ c) (m2 : fs.length ≤ d) :
    Calls Tryd.prog 18 #[.agg #[.string kd, .int .i64 at_, .slice p fs.length c], .agg #[.string kd, .int .i64 at_, .slice q fs.length d]] w fun e w' => e = .returned (.bool true) ∧ Below w.heap.size w w' := by
  obtain ⟨W0, hW0⟩ : ∃ W0, W0 = w.alloc (.cells #[.string kd, .int .i64 at_, .slice p fs.length c] 38) := ⟨_, rfl⟩
  obtain ⟨W1, hW1⟩ : ∃ W1, W1 = W0.alloc (.cells #[.string kd, .int .i64 at_, .slice q fs.length d] 38) := ⟨_, rfl⟩
  have HW1 : Hid (W1 = (w.alloc (.cells #[.string kd, .int .i64 at_, .slice p fs.length c] 38)).alloc (.cells #[.string kd, .int .i64 at_, .slice q fs.length d] 38)) := by rw [hW1, hW0]; exact rfl
  have hB0 : Below w.heap.size w W0 := by rw [hW0]; exact (Below.refl _ _).alloc (Nat.le_refl _) _
  have B1 : Hid (Below w.heap.size w W1) := by rw [hW1]; exact alB hB0 _
  have hE := eqF_any p q c d fs W1 (h1.below B1.out) (g1.below B1.out) n1 m1 m2
  clear hW1 hW0 h1 g1 hB0
  go_enter Tryd.func18, Tryd.ntmps18
  go_wp2_with fail
  rw [← HW1.out]
  refine hE.mono ?_
  rintro e w1 ⟨rfl, b1⟩
  have b1 := chainB B1.out b1
  clear hE
  go_wp2_with fail
  go_ret
  exact ⟨rfl, b1⟩

set_option maxHeartbeats 1000000 in
theorem eqRowOut_any (kd : ByteArray) (at_ cd : Int) (p q : Option Addr) (c d : Nat) (fs : List Fld) (w : World) (h1 : FldAt w p fs) (g1 : FldAt w q fs) (n1 : fs.length ≤ 1048576) (m1 : fs.length ≤ c) (m2 : fs.length ≤ d) :
    Calls Tryd.prog 23 #[.agg #[.string kd, .int .i64 at_, .slice p fs.length c, .int .i64 cd], .agg #[.string kd, .int .i64 at_, .slice q fs.length d, .int .i64 cd]] w fun e w' => e = .returned (.bool true) ∧ Below w.heap.size w w' := by
  obtain ⟨W0, hW0⟩ : ∃ W0, W0 = w.alloc (.cells #[.string kd, .int .i64 at_, .slice p fs.length c, .int .i64 cd] 45) := ⟨_, rfl⟩
  have hz : W0.heap.size = w.heap.size + 1 := by rw [hW0]; simp
  obtain ⟨W1, hW1⟩ : ∃ W1, W1 = W0.alloc (.cells #[.string kd, .int .i64 at_, .slice q fs.length d, .int .i64 cd] 45) := ⟨_, rfl⟩
  have HW1 : Hid (W1 = (w.alloc (.cells #[.string kd, .int .i64 at_, .slice p fs.length c, .int .i64 cd] 45)).alloc (.cells #[.string kd, .int .i64 at_, .slice q fs.length d, .int .i64 cd] 45)) := by rw [hW1, hW0]; exact rfl
  have hB0 : Below w.heap.size w W0 := by rw [hW0]; exact (Below.refl _ _).alloc (Nat.le_refl _) _
  have B1 : Hid (Below w.heap.size w W1) := by rw [hW1]; exact alB hB0 _
  have X1 : Hid (Bxs W1 w.heap.size 45 #[.string kd, .int .i64 at_, .slice p fs.length c, .int .i64 cd]) := by rw [hW1]; refine Bxs.alloc ?_ _; rw [hW0]; exact Bxs.new _ _ _
  have X2 : Hid (Bxs W1 (w.heap.size + 1) 45 #[.string kd, .int .i64 at_, .slice q fs.length d, .int .i64 cd]) := by rw [hW1, ← hz]; exact Bxs.new _ _ _
  have hE := eqRow_any kd at_ p q c d fs W1 (h1.below B1.out) (g1.below B1.out) n1 m1 m2
  clear hW1 hW0 h1 g1 hB0 hz
  go_enter Tryd.func23, Tryd.ntmps23
  go_wp2_with fail
  rw [← HW1.out]
  refine hE.mono ?_
  rintro e w1 ⟨rfl, b1⟩
  have x2 : w1.cell? ⟨w.heap.size, 3, none⟩ = some (.int .i64 cd) := (X1.out.below b1).cell 3
  have x4 : w1.cell? ⟨w.heap.size + 1, 3, none⟩ = some (.int .i64 cd) := (X2.out.below b1).cell 3
  have b1 := chainB B1.out b1
  clear hE X1 X2
  go_wp2_with fail
  go_ret
  exact ⟨rfl, b1⟩
end Go.Proofs.YtefakcpclihaeakDoor
