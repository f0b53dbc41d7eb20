/-
  What the program's whyRight, TombRight and TombText answer.
-/
import Derived.Test.YtnomkcbcjaagmabDoorRows
import Derived.Test.YtnomkcbcjaagmabDoorBytes
import Derived.Test.YtnomkcbcjaagmabDoorGetValGetTxtPutMath
import Derived.Test.YtnomkcbcjaagmabDoorPutNum
import Derived.Test.YtnomkcbcjaagmabDoorJoined
import Derived.Test.YtnomkcbcjaagmabDoorBxKGrKTakes
import Derived.Test.YtnomkcbcjaagmabDoorTimeBFldIs
import Derived.Test.YtnomkcbcjaagmabDoorTimeI
import Derived.Test.YtnomkcbcjaagmabDoorTmbMath
import Derived.Handy
import Derived.WalkSpells
import Derived.OwnWalk
import Derived.Deep.RegionHeld3
import Derived.Deep.RegionWith
import Derived.Deep.Cut
namespace Go.Proofs.YtnomkcbcjaagmabDoor
open Go.RowKit Go.Lib
set_option linter.unusedVariables false
set_option maxRecDepth 20000

theorem whyRight_any (y : Int) (w : World) : Calls Tryd.prog 71 #[.int .i64 y] w fun e w' => e = .returned (.bool (decide (1 ≤ y ∧ y ≤ 2))) ∧ w' = w := by
  by_cases h1 : y = 1
  · subst h1
    rw [show decide ((1 : Int) ≤ 1 ∧ (1 : Int) ≤ 2) = true from rfl]
    go_enter Tryd.func71, Tryd.ntmps71
    go_wp2_with fail
    go_ret
    exact ⟨rfl, rfl⟩
  by_cases h2 : y = 2
  · subst h2
    rw [show decide ((1 : Int) ≤ 2 ∧ (2 : Int) ≤ 2) = true from rfl]
    go_enter Tryd.func71, Tryd.ntmps71
    go_wp2_with fail
    go_ret
    exact ⟨rfl, rfl⟩
  have e1 : (y == 1) = false := beq_eq_false_iff_ne.2 h1
  have e2 : (y == 2) = false := beq_eq_false_iff_ne.2 h2
  rw [decide_eq_false (show ¬ (1 ≤ y ∧ y ≤ 2) by omega)]
  clear h1 h2
  go_enter Tryd.func71, Tryd.ntmps71
  go_wp2_with fail
  go_ret
  exact ⟨rfl, rfl⟩
theorem tmB_six (t : Tmb) : tmB t = (decide (0 ≤ t.r) && (decide (t.r ≤ 63) && (decide (0 ≤ t.f) && (decide (t.f < 3) && (decide (1 ≤ t.y ∧ t.y ≤ 2) && timeB t.a))))) := by
  have : (t.f ≤ 2) ↔ (t.f < 3) := by omega
  unfold tmB timeB; simp [Bool.and_assoc, this]
set_option maxHeartbeats 2000000 in
theorem implTombRight_any (t : Tmb) (w : World) : Calls Tryd.prog 32 #[tmV t] w fun e w' => e = .returned (.bool (tmB t)) ∧ Below w.heap.size w w' := by
  rw [tmB_six]
  obtain ⟨r, f, y, a⟩ := t
  show Calls Tryd.prog 32 #[.agg #[.int .i64 r, .int .i64 f, .int .i64 y, .int .i64 a]] w _
  dsimp only
  obtain ⟨W1, hW1⟩ : ∃ W1, W1 = w.alloc (.cells #[.int .i64 r, .int .i64 f, .int .i64 y, .int .i64 a] 48) := ⟨_, rfl⟩
  have HW1 : Hid (W1 = w.alloc (.cells #[.int .i64 r, .int .i64 f, .int .i64 y, .int .i64 a] 48)) := hW1
  have B1 : Hid (Below w.heap.size w W1) := by rw [hW1]; exact (Below.refl _ _).alloc (Nat.le_refl _) _
  have K1 : Bxs W1 w.heap.size 48 #[.int .i64 r, .int .i64 f, .int .i64 y, .int .i64 a] := by rw [hW1]; exact Bxs.new _ _ _
  obtain ⟨x0, x1, x2, x3⟩ : W1.cell? ⟨w.heap.size, 0, none⟩ = some (.int .i64 r) ∧ W1.cell? ⟨w.heap.size, 1, none⟩ = some (.int .i64 f) ∧ W1.cell? ⟨w.heap.size, 2, none⟩ = some (.int .i64 y) ∧ W1.cell? ⟨w.heap.size, 3, none⟩ = some (.int .i64 a) := ⟨K1.cell 0, K1.cell 1, K1.cell 2, K1.cell 3⟩
  clear K1 hW1
  have Qy : Hid (∀ x, Calls Tryd.prog 71 #[.int .i64 y] x fun e w' => e = .returned (.bool (decide (1 ≤ y ∧ y ≤ 2))) ∧ w' = x) := fun x => whyRight_any y x
  have Qa : Hid (∀ x, Calls Tryd.prog 59 #[.int .i64 a] x fun e w' => e = .returned (.bool (timeB a)) ∧ w' = x) := fun x => timeRight_any a x
  generalize decide (1 ≤ y ∧ y ≤ 2) = Dy at *
  generalize timeB a = Da at *
  cases d0 : decide (0 ≤ r) with
  | false =>
    go_enter Tryd.func32, Tryd.ntmps32
    go_upto_region 1 with fail
    rw [← HW1.out]
    go_wp2_with fail
    go_ret
    exact ⟨rfl, B1.out⟩
  | true =>
  cases d1 : decide (r ≤ 63) with
  | false =>
    go_enter Tryd.func32, Tryd.ntmps32
    go_upto_region 1 with fail
    rw [← HW1.out]
    go_wp2_with fail
    go_ret
    exact ⟨rfl, B1.out⟩
  | true =>
  cases d2 : decide (0 ≤ f) with
  | false =>
    go_enter Tryd.func32, Tryd.ntmps32
    go_upto_region 1 with fail
    rw [← HW1.out]
    go_wp2_with fail
    go_ret
    exact ⟨rfl, B1.out⟩
  | true =>
  cases d3 : decide (f < 3) with
  | false =>
    go_enter Tryd.func32, Tryd.ntmps32
    go_upto_region 1 with fail
    rw [← HW1.out]
    go_wp2_with fail
    go_ret
    exact ⟨rfl, B1.out⟩
  | true =>
  cases Dy with
  | false =>
    go_enter Tryd.func32, Tryd.ntmps32
    go_upto_region 1 with fail
    rw [← HW1.out]
    go_wp2_with fail
    refine (Qy.out _).mono ?_
    rintro e w1 ⟨rfl, rfl⟩
    go_wp2_with fail
    go_ret
    exact ⟨rfl, B1.out⟩
  | true =>
  cases Da with
  | false =>
    go_enter Tryd.func32, Tryd.ntmps32
    go_upto_region 1 with fail
    rw [← HW1.out]
    go_wp2_with fail
    refine (Qy.out _).mono ?_
    rintro e w1 ⟨rfl, rfl⟩
    go_wp2_with fail
    refine (Qa.out _).mono ?_
    rintro e w1 ⟨rfl, rfl⟩
    go_wp2_with fail
    go_ret
    exact ⟨rfl, B1.out⟩
  | true =>
    go_enter Tryd.func32, Tryd.ntmps32
    go_upto_region 1 with fail
    rw [← HW1.out]
    go_wp2_with fail
    refine (Qy.out _).mono ?_
    rintro e w1 ⟨rfl, rfl⟩
    go_wp2_with fail
    refine (Qa.out _).mono ?_
    rintro e w1 ⟨rfl, rfl⟩
    go_wp2_with fail
    go_ret
    exact ⟨rfl, B1.out⟩
theorem cat_five (a b c d e : ByteArray) : cat [a, b, c, d, e] = a ++ b ++ c ++ d ++ e := by
  apply ByteArray.ext; apply Array.ext'
  simp [cat]
set_option maxHeartbeats 4000000 in
theorem implTombText_any (t : Tmb) (w : World) : Calls Tryd.prog 24 #[tmV t] w fun e w' => e = .returned (.string (tmT t)) ∧ Below w.heap.size w w' := by
  have hr := fun x => implTombRight_any t x
  have hb := tmB_iff t
  have HT : Hid (tmT t = if tmB t = true then tmRaw t else ByteArray.empty) := rfl
  obtain ⟨r, f, y, a⟩ := t
  show Calls Tryd.prog 24 #[.agg #[.int .i64 r, .int .i64 f, .int .i64 y, .int .i64 a]] w _
  obtain ⟨W1, hW1⟩ : ∃ W1, W1 = w.alloc (.cells #[.int .i64 r, .int .i64 f, .int .i64 y, .int .i64 a] 48) := ⟨_, rfl⟩
  have HW1 : Hid (W1 = w.alloc (.cells #[.int .i64 r, .int .i64 f, .int .i64 y, .int .i64 a] 48)) := hW1
  have B1 : Hid (Below w.heap.size w W1) := by rw [hW1]; exact (Below.refl _ _).alloc (Nat.le_refl _) _
  have K1 : Hid (Bxs W1 w.heap.size 48 #[.int .i64 r, .int .i64 f, .int .i64 y, .int .i64 a]) := by rw [hW1]; exact Bxs.new _ _ _
  clear hW1
  cases h : tmB ⟨r, f, y, a⟩ with
  | false =>
    rw [h] at hr
    rw [h, if_neg Bool.false_ne_true] at HT
    have HR : Hid (∀ x, Calls Tryd.prog 32 #[.agg #[.int .i64 r, .int .i64 f, .int .i64 y, .int .i64 a]] x fun e w' => e = .returned (.bool false) ∧ Below x.heap.size x w') := hr
    rw [HT.out]
    clear hr hb h HT K1
    go_enter Tryd.func24, Tryd.ntmps24
    go_wp2_with fail
    rw [← HW1.out]
    refine (HR.out W1).mono ?_
    rintro e w1 ⟨rfl, b1⟩
    have c1 : Hid (Below w.heap.size w w1) := chainB B1.out b1
    clear b1
    go_wp2_with fail
    go_ret
    exact ⟨rfl, c1.out⟩
  | true =>
    obtain ⟨⟨a0, a1⟩, ⟨b0, b1⟩, ⟨c0, c1⟩, d0, d1⟩ := hb.1 h
    dsimp only at a0 a1 b0 b1 c0 c1 d0 d1
    rw [h] at hr
    rw [h, if_pos rfl] at HT
    have HR : Hid (∀ x, Calls Tryd.prog 32 #[.agg #[.int .i64 r, .int .i64 f, .int .i64 y, .int .i64 a]] x fun e w' => e = .returned (.bool true) ∧ Below x.heap.size x w') := hr
    have HX : Hid (∀ x, Below W1.heap.size W1 x → x.cell? ⟨w.heap.size, 0, none⟩ = some (.int .i64 r) ∧ x.cell? ⟨w.heap.size, 1, none⟩ = some (.int .i64 f) ∧ x.cell? ⟨w.heap.size, 2, none⟩ = some (.int .i64 y) ∧ x.cell? ⟨w.heap.size, 3, none⟩ = some (.int .i64 a)) := fun x hb => ⟨(K1.out.below hb).cell 0, (K1.out.below hb).cell 1, (K1.out.below hb).cell 2, (K1.out.below hb).cell 3⟩
    have QP : ∀ (n : Int), -9223372036854775808 ≤ n → n ≤ 9223372036854775807 → ∀ x, Below W1.heap.size W1 x → Calls Tryd.prog 64 #[.int .i64 n] x fun e x1 => e = .returned (.string (putB n)) ∧ Below W1.heap.size W1 x1 := fun n h0 h1 x hb => (implPutNum_any n x h0 h1).mono (by rintro e x1 ⟨rfl, b⟩; exact ⟨rfl, chainB hb b⟩)
    have Qr : Hid (∀ x, Below W1.heap.size W1 x → Calls Tryd.prog 64 #[.int .i64 r] x fun e x1 => e = .returned (.string (putB r)) ∧ Below W1.heap.size W1 x1) := QP r (by omega) (by omega)
    have Qf : Hid (∀ x, Below W1.heap.size W1 x → Calls Tryd.prog 64 #[.int .i64 f] x fun e x1 => e = .returned (.string (putB f)) ∧ Below W1.heap.size W1 x1) := QP f (by omega) (by omega)
    have Qy : Hid (∀ x, Below W1.heap.size W1 x → Calls Tryd.prog 64 #[.int .i64 y] x fun e x1 => e = .returned (.string (putB y)) ∧ Below W1.heap.size W1 x1) := QP y (by omega) (by omega)
    have Qa : Hid (∀ x, Below W1.heap.size W1 x → Calls Tryd.prog 64 #[.int .i64 a] x fun e x1 => e = .returned (.string (putB a)) ∧ Below W1.heap.size W1 x1) := QP a (by omega) (by omega)
    have zr := putB_size r
    have zf := putB_size f
    have zy := putB_size y
    have za := putB_size a
    have z0 : (⟨#[116]⟩ : ByteArray).size = 1 := rfl
    have QJ : Hid (∀ x, Below W1.heap.size W1 x → Calls Tryd.prog 63 #[.slice (some ⟨x.heap.size, 0, none⟩) 5 5] (x.alloc (.cells #[.string ⟨#[116]⟩, .string (putB r), .string (putB f), .string (putB y), .string (putB a)] 9)) fun e x1 => e = .returned (.string (tmRaw ⟨r, f, y, a⟩)) ∧ Below W1.heap.size W1 x1) := fun x hb => by
      have h := joined_new [⟨#[116]⟩, putB r, putB f, putB y, putB a] x (by simp) (by rw [cat_five, ByteArray.size_append, ByteArray.size_append, ByteArray.size_append, ByteArray.size_append]; omega)
      rw [cat_five] at h
      refine h.mono ?_
      rintro e x1 ⟨rfl, b⟩
      exact ⟨rfl, chainB hb b⟩
    have QJ2 : Hid (∀ x, Below W1.heap.size W1 x → Calls Tryd.prog 63 #[.slice (some ⟨x.heap.size, 0, none⟩) 5 5] (x.alloc (.cells #[.string ⟨#[116]⟩, .string (putB r), .string (putB f), .string (putB y), .string (putB a)] 9)).drew fun e x1 => e = .returned (.string (tmRaw ⟨r, f, y, a⟩)) ∧ Below W1.heap.size W1 x1) := fun x hb => QJ.out x.drew hb.drew
    rw [HT.out]
    generalize tmRaw ⟨r, f, y, a⟩ = O at *
    generalize putB r = R at *
    generalize putB f = F at *
    generalize putB y = Y at *
    generalize putB a = A at *
    clear hr hb h HT QP a0 a1 b0 b1 c0 c1 d0 d1 zr zf zy za z0 K1
    go_enter Tryd.func24, Tryd.ntmps24
    go_wp2_with fail
    rw [← HW1.out]
    refine (HR.out W1).mono ?_
    rintro e w1 ⟨rfl, HR1⟩
    have HR1 : Hid (Below W1.heap.size W1 w1) := HR1
    go_wp2_with fail
    first
      | (go_region_held3 (fun w' => w'.cell? ⟨w.heap.size, 0, none⟩ = some (.int .i64 r) ∧ w'.cell? ⟨w.heap.size, 1, none⟩ = some (.int .i64 f) ∧ w'.cell? ⟨w.heap.size, 2, none⟩ = some (.int .i64 y) ∧ w'.cell? ⟨w.heap.size, 3, none⟩ = some (.int .i64 a)) ((refine HX.out _ ?hT; (case hT => (with_reducible repeat (first | assumption | exact HR1.out | refine Below.drew ?_ | refine alB ?_ _))))) (first
        | (go_at_call 64; with_reducible refine (Qr.out _ ?hB).mono ?_; (case hB => first | exact HR1.out | exact HR1.out.drew); rintro e x1 ⟨rfl, y1⟩)
        | (go_at_call 64; with_reducible refine (Qf.out _ ?hB).mono ?_; (case hB => first | exact y1 | exact y1.drew); rintro e x2 ⟨rfl, y2⟩)
        | (go_at_call 64; with_reducible refine (Qy.out _ ?hB).mono ?_; (case hB => first | exact y2 | exact y2.drew); rintro e x3 ⟨rfl, y3⟩)
        | (go_at_call 64; with_reducible refine (Qa.out _ ?hB).mono ?_; (case hB => first | exact y3 | exact y3.drew); rintro e x4 ⟨rfl, y4⟩)
        | (go_at_call 63; (first | with_reducible refine (QJ.out _ ?hB).mono ?_ | with_reducible refine (QJ2.out _ ?hB).mono ?_); (case hB => first | exact y4 | exact y4.drew); rintro e x5 ⟨rfl, y5⟩)))
      | fail
    all_goals
      have y6 := chainB B1.out y5
      go_wp2_with fail
      go_ret
      exact ⟨rfl, y6⟩
end Go.Proofs.YtnomkcbcjaagmabDoor
