/-
  What the program's steps of the disk answer: (areaHead).text, headSteps, (areaStep).doneTo, allDoneTo.
  Conditions: the cells hold the texts, the pendings and the steps.
-/
import Derived.Test.YtmhdnbfcmobgnajRows
import Derived.Test.YtmhdnbfcmobgnajBytes
import Derived.Test.YtmhdnbfcmobgnajJoined
import Derived.Test.YtmhdnbfcmobgnajSlA
import Derived.Test.YtmhdnbfcmobgnajSlB
import Derived.Test.YtmhdnbfcmobgnajOwnS
import Derived.Test.YtmhdnbfcmobgnajPutMath
import Derived.Test.YtmhdnbfcmobgnajPutNum
import Derived.Test.YtmhdnbfcmobgnajSeal
import Derived.Test.YtmhdnbfcmobgnajDskMath
import Derived.Test.YtmhdnbfcmobgnajDskA
import Derived.Test.YtmhdnbfcmobgnajDskC
import Derived.Test.YtmhdnbfcmobgnajDskT
import Derived.Test.YtmhdnbfcmobgnajDskW
import Derived.Test.YtmhdnbfcmobgnajDskF
import Derived.Test.YtmhdnbfcmobgnajLawD
import Derived.Test.YtmhdnbfcmobgnajAreaA
import Derived.Handy
import Derived.WalkSpells
import Derived.OwnWalk
import Derived.Deep.RegionLaw
import Derived.Deep.RegionHeld3
namespace Go.Proofs.Ytmhdnbfcmobgnaj
open Go.RowKit Go.Lib
set_option linter.unusedVariables false
set_option maxRecDepth 20000

theorem cat_three (a b c : ByteArray) : cat [a, b, c] = a ++ b ++ c := by
  apply ByteArray.ext; apply Array.ext'
  simp [cat]
set_option maxHeartbeats 2000000 in
theorem headText_any (g s z : Int) (w : World) (g0 : -9223372036854775808 ≤ g) (g1 : g ≤ 9223372036854775807) (s0 : -9223372036854775808 ≤ s) (s1 : s ≤ 9223372036854775807) (z0 : -9223372036854775808 ≤ z) (z1 : z ≤ 9223372036854775807) :
    Calls Try.prog 69 #[.agg #[.int .i64 g, .int .i64 s, .int .i64 z]] w fun e w' => e = .returned (.string (headB g s z)) ∧ Below w.heap.size w w' := by
  obtain ⟨W1, hW1⟩ : ∃ W1, W1 = w.alloc (.cells #[.int .i64 g, .int .i64 s, .int .i64 z] 76) := ⟨_, rfl⟩
  have HW1 : Hid (W1 = w.alloc (.cells #[.int .i64 g, .int .i64 s, .int .i64 z] 76)) := hW1
  have B1 : Hid (Below w.heap.size w W1) := by rw [hW1]; exact (Below.refl _ _).alloc (Nat.le_refl _) _
  have K1 : Hid (Bxs W1 w.heap.size 76 #[.int .i64 g, .int .i64 s, .int .i64 z]) := by rw [hW1]; exact Bxs.new _ _ _
  have tg := putB_ten g
  have ts := putB_ten s
  have tz := putB_ten z
  have HX : Hid (∀ x, Below W1.heap.size W1 x → x.cell? ⟨w.heap.size, 0, none⟩ = some (.int .i64 g) ∧ x.cell? ⟨w.heap.size, 1, none⟩ = some (.int .i64 s) ∧ x.cell? ⟨w.heap.size, 2, none⟩ = some (.int .i64 z)) := fun x hb => ⟨(K1.out.below hb).cell 0, (K1.out.below hb).cell 1, (K1.out.below hb).cell 2⟩
  have QP : ∀ (n : Int), -9223372036854775808 ≤ n → n ≤ 9223372036854775807 → ∀ x, Below W1.heap.size W1 x → Calls Try.prog 74 #[.int .i64 n] x fun e x1 => e = .returned (.string (putB n)) ∧ Below W1.heap.size W1 x1 := fun n h0 h1 x hb => (implPutNum_any n x h0 h1).mono (by rintro e x1 ⟨rfl, b⟩; exact ⟨rfl, chainB hb b⟩)
  have QG : Hid (∀ x, Below W1.heap.size W1 x → Calls Try.prog 74 #[.int .i64 g] x fun e x1 => e = .returned (.string (putB g)) ∧ Below W1.heap.size W1 x1) := QP g g0 g1
  have QS : Hid (∀ x, Below W1.heap.size W1 x → Calls Try.prog 74 #[.int .i64 s] x fun e x1 => e = .returned (.string (putB s)) ∧ Below W1.heap.size W1 x1) := QP s s0 s1
  have QZ : Hid (∀ x, Below W1.heap.size W1 x → Calls Try.prog 74 #[.int .i64 z] x fun e x1 => e = .returned (.string (putB z)) ∧ Below W1.heap.size W1 x1) := QP z z0 z1
  have QJ : Hid (∀ x, Below W1.heap.size W1 x → Calls Try.prog 43 #[.slice (some ⟨x.heap.size, 0, none⟩) 3 3] (x.alloc (.cells #[.string (putB g), .string (putB s), .string (putB z)] 9)) fun e x1 => e = .returned (.string (putB g ++ putB s ++ putB z)) ∧ Below W1.heap.size W1 x1) := fun x hb => by
    have h := joined_new [putB g, putB s, putB z] x (by simp) (by rw [cat_three, ByteArray.size_append, ByteArray.size_append]; omega)
    rw [cat_three] at h
    refine h.mono ?_
    rintro e x1 ⟨rfl, b⟩
    exact ⟨rfl, chainB hb b⟩
  have QJ2 : Hid (∀ x, Below W1.heap.size W1 x → Calls Try.prog 43 #[.slice (some ⟨x.heap.size, 0, none⟩) 3 3] (x.alloc (.cells #[.string (putB g), .string (putB s), .string (putB z)] 9)).drew fun e x1 => e = .returned (.string (putB g ++ putB s ++ putB z)) ∧ Below W1.heap.size W1 x1) := fun x hb => QJ.out x.drew hb.drew
  have QE : Hid (∀ x, Below W1.heap.size W1 x → Calls Try.prog 73 #[.string (putB g ++ putB s ++ putB z)] x fun e x1 => e = .returned (.string (headB g s z)) ∧ Below W1.heap.size W1 x1) := fun x hb => (implSeal_any (putB g ++ putB s ++ putB z) x (by unfold maxLen; rw [ByteArray.size_append, ByteArray.size_append]; omega)).mono (by rintro e x1 ⟨rfl, b⟩; exact ⟨rfl, chainB hb b⟩)
  have HR : Hid (Below W1.heap.size W1 W1) := Below.refl _ _
  obtain ⟨u0, u1, u2⟩ := HX.out W1 HR.out
  have HSz : Hid (W1.heap.size = w.heap.size + 1) := by rw [hW1]; exact show _ = _ by simp
  clear QP tg ts tz K1 g0 g1 s0 s1 z0 z1
  generalize headB g s z = HT at *
  clear hW1
  go_enter Try.func69, Try.ntmps69
  go_wp2_with fail
  rw [← HW1.out]
  first
    | (go_region_held3 (fun w' => w'.cell? ⟨w.heap.size, 0, none⟩ = some (.int .i64 g) ∧ w'.cell? ⟨w.heap.size, 1, none⟩ = some (.int .i64 s) ∧ w'.cell? ⟨w.heap.size, 2, none⟩ = some (.int .i64 z)) ((refine HX.out _ ?hT; (case hT => (with_reducible repeat (first | assumption | exact HR.out | refine Below.drew ?_ | refine alB ?_ _))))) (first
      | (go_at_call 74; with_reducible refine (QG.out _ ?hB).mono ?_; (case hB => first | exact HR.out | exact HR.out.drew); rintro e x1 ⟨rfl, y1⟩)
      | (go_at_call 74; with_reducible refine (QS.out _ ?hB).mono ?_; (case hB => first | exact y1 | exact y1.drew); rintro e x2 ⟨rfl, y2⟩)
      | (go_at_call 74; with_reducible refine (QZ.out _ ?hB).mono ?_; (case hB => first | exact y2 | exact y2.drew); rintro e x3 ⟨rfl, y3⟩)
      | (go_at_call 43; (first | with_reducible refine (QJ.out _ ?hB).mono ?_ | with_reducible refine (QJ2.out _ ?hB).mono ?_); (case hB => first | exact y3 | exact y3.drew); rintro e x4 ⟨rfl, y4⟩)
      | (go_at_call 73; with_reducible refine (QE.out _ ?hB).mono ?_; (case hB => first | exact y4 | exact y4.drew); rintro e x5 ⟨rfl, y5⟩)))
    | fail
  all_goals
    have y6 := chainB B1.out y5
    go_wp2_with fail
    go_ret
    exact ⟨rfl, y6⟩
end Go.Proofs.Ytmhdnbfcmobgnaj
