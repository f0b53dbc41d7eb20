/-
  Parts of one proof, laid as one text: FldTb, FldTr, ImplFC, BlNot; what each says stands at its head.
-/
import Derived.Test.YtonleickhincgaaGreatDoorRows
import Derived.Test.YtonleickhincgaaGreatDoorBytesDigMath
import Derived.Test.YtonleickhincgaaGreatDoorTimeBPutMathPutNumJoinedPutTextFldMath
import Derived.Test.YtonleickhincgaaGreatDoorTreeMathSlABxKSlBOwnS
import Derived.Test.YtonleickhincgaaGreatDoorFldIsTimeIGrKSpecGNSpecGTTillTwoFldN
import Derived.Test.YtonleickhincgaaGreatDoorGetValGetTxtNumMathFldRdNumFromTmbMathLgMath
import Derived.Handy
import Derived.WalkSpells
import Derived.OwnWalk
import Derived.Deep.RegionHeld3
import Derived.Deep.RegionWith
import Derived.Deep.Cut
import Derived.Test.YtonleickhincgaaGreatDoorImplVerInc2SignRSignWFldRiseScanMath
import Derived.Test.YtonleickhincgaaGreatDoorShwKOwnBPadIMacMathSgnBDigITurn2
import Derived.Test.YtonleickhincgaaGreatDoorNameRight
import Derived.Test.YtonleickhincgaaGreatDoorSignGSignVImplRightIncISignIMDigAllSignIASignIBSignIDg
import Derived.Laws.StructEq
/-
  What the specification's TombRight, l08Text and TombText answer.
-/
namespace Go.Proofs.YtonleickhincgaaGreatDoor
open Go.RowKit Go.Lib
set_option linter.unusedVariables false
set_option maxRecDepth 20000

theorem tmB_four (t : Tmb) : tmB t = (decide (0 ≤ t.r ∧ t.r ≤ 63) && (decide (0 ≤ t.f ∧ t.f ≤ 2) && (decide (1 ≤ t.y ∧ t.y ≤ 2) && timeB t.a))) := by
  unfold tmB timeB; simp [Bool.and_assoc]

set_option maxHeartbeats 2000000 in
theorem specTombRight_any (t : Tmb) (w : World) : Calls Tryz.prog 144 #[tmV t] w fun e w' => e = .returned (.bool (tmB t)) ∧ Below w.heap.size w w' := by
  rw [tmB_four]
  obtain ⟨r, f, y, a⟩ := t
  show Calls Tryz.prog 144 #[.agg #[.int .i64 r, .int .i64 f, .int .i64 y, .int .i64 a]] w _
  dsimp only
  obtain ⟨W1, hW1⟩ : ∃ W1, W1 = w.alloc (.cells #[.int .i64 r, .int .i64 f, .int .i64 y, .int .i64 a] 114) := ⟨_, rfl⟩
  have HW1 : Hid (W1 = w.alloc (.cells #[.int .i64 r, .int .i64 f, .int .i64 y, .int .i64 a] 114)) := hW1
  have B1 : Hid (Below w.heap.size w W1) := by rw [hW1]; exact (Below.refl _ _).alloc (Nat.le_refl _) _
  have K1 : Bxs W1 w.heap.size 114 #[.int .i64 r, .int .i64 f, .int .i64 y, .int .i64 a] := by rw [hW1]; exact Bxs.new _ _ _
  obtain ⟨x0, x1, x2, x3⟩ : W1.cell? ⟨w.heap.size, 0, none⟩ = some (.int .i64 r) ∧ W1.cell? ⟨w.heap.size, 1, none⟩ = some (.int .i64 f) ∧ W1.cell? ⟨w.heap.size, 2, none⟩ = some (.int .i64 y) ∧ W1.cell? ⟨w.heap.size, 3, none⟩ = some (.int .i64 a) := ⟨K1.cell 0, K1.cell 1, K1.cell 2, K1.cell 3⟩
  clear K1 hW1
  have Qr : Hid (∀ x, Calls Tryz.prog 45 #[.int .i64 r, .int .i64 0, .int .i64 63] x fun e w' => e = .returned (.bool (decide (0 ≤ r ∧ r ≤ 63))) ∧ w' = x) := fun x => l07Is_any r 0 63 x
  have Qf : Hid (∀ x, Calls Tryz.prog 45 #[.int .i64 f, .int .i64 0, .int .i64 2] x fun e w' => e = .returned (.bool (decide (0 ≤ f ∧ f ≤ 2))) ∧ w' = x) := fun x => l07Is_any f 0 2 x
  have Qy : Hid (∀ x, Calls Tryz.prog 45 #[.int .i64 y, .int .i64 1, .int .i64 2] x fun e w' => e = .returned (.bool (decide (1 ≤ y ∧ y ≤ 2))) ∧ w' = x) := fun x => l07Is_any y 1 2 x
  have Qa : Hid (∀ x, Calls Tryz.prog 72 #[.int .i64 a] x fun e w' => e = .returned (.bool (timeB a)) ∧ w' = x) := fun x => l07Time_any a x
  generalize decide (0 ≤ r ∧ r ≤ 63) = Dr at *
  generalize decide (0 ≤ f ∧ f ≤ 2) = Df at *
  generalize decide (1 ≤ y ∧ y ≤ 2) = Dy at *
  generalize timeB a = Da at *
  cases Dr with
  | false =>
    go_enter Tryz.func144, Tryz.ntmps144
    go_wp2_with fail
    rw [← HW1.out]
    refine (Qr.out _).mono ?_
    rintro e w1 ⟨rfl, rfl⟩
    go_wp2_with fail
    go_ret
    exact ⟨rfl, B1.out⟩
  | true =>
    cases Df with
    | false =>
      go_enter Tryz.func144, Tryz.ntmps144
      go_wp2_with fail
      rw [← HW1.out]
      refine (Qr.out _).mono ?_
      rintro e w1 ⟨rfl, rfl⟩
      go_wp2_with fail
      refine (Qf.out _).mono ?_
      rintro e w1 ⟨rfl, rfl⟩
      go_wp2_with fail
      go_ret
      exact ⟨rfl, B1.out⟩
    | true =>
      cases Dy with
      | false =>
        go_enter Tryz.func144, Tryz.ntmps144
        go_wp2_with fail
        rw [← HW1.out]
        refine (Qr.out _).mono ?_
        rintro e w1 ⟨rfl, rfl⟩
        go_wp2_with fail
        refine (Qf.out _).mono ?_
        rintro e w1 ⟨rfl, rfl⟩
        go_wp2_with fail
        refine (Qy.out _).mono ?_
        rintro e w1 ⟨rfl, rfl⟩
        go_wp2_with fail
        go_ret
        exact ⟨rfl, B1.out⟩
      | true =>
        cases Da with
        | false =>
          go_enter Tryz.func144, Tryz.ntmps144
          go_wp2_with fail
          rw [← HW1.out]
          refine (Qr.out _).mono ?_
          rintro e w1 ⟨rfl, rfl⟩
          go_wp2_with fail
          refine (Qf.out _).mono ?_
          rintro e w1 ⟨rfl, rfl⟩
          go_wp2_with fail
          refine (Qy.out _).mono ?_
          rintro e w1 ⟨rfl, rfl⟩
          go_wp2_with fail
          refine (Qa.out _).mono ?_
          rintro e w1 ⟨rfl, rfl⟩
          go_wp2_with fail
          go_ret
          exact ⟨rfl, B1.out⟩
        | true =>
          go_enter Tryz.func144, Tryz.ntmps144
          go_wp2_with fail
          rw [← HW1.out]
          refine (Qr.out _).mono ?_
          rintro e w1 ⟨rfl, rfl⟩
          go_wp2_with fail
          refine (Qf.out _).mono ?_
          rintro e w1 ⟨rfl, rfl⟩
          go_wp2_with fail
          refine (Qy.out _).mono ?_
          rintro e w1 ⟨rfl, rfl⟩
          go_wp2_with fail
          refine (Qa.out _).mono ?_
          rintro e w1 ⟨rfl, rfl⟩
          go_wp2_with fail
          go_ret
          exact ⟨rfl, B1.out⟩
set_option maxHeartbeats 2000000 in
theorem l08Text_any (t : Tmb) (w : World) (h : tmB t = true) : Calls Tryz.prog 145 #[tmV t] w fun e w' => e = .returned (.string (tmRaw t)) ∧ Below w.heap.size w w' := by
  obtain ⟨⟨a0, a1⟩, ⟨b0, b1⟩, ⟨c0, c1⟩, d0, d1⟩ := (tmB_iff t).1 h
  clear h
  obtain ⟨r, f, y, a⟩ := t
  show Calls Tryz.prog 145 #[.agg #[.int .i64 r, .int .i64 f, .int .i64 y, .int .i64 a]] w _
  dsimp only at a0 a1 b0 b1 c0 c1 d0 d1
  obtain ⟨W1, hW1⟩ : ∃ W1, W1 = w.alloc (.cells #[.int .i64 r, .int .i64 f, .int .i64 y, .int .i64 a] 114) := ⟨_, rfl⟩
  have HW1 : Hid (W1 = w.alloc (.cells #[.int .i64 r, .int .i64 f, .int .i64 y, .int .i64 a] 114)) := hW1
  have B1 : Hid (Below w.heap.size w W1) := by rw [hW1]; exact (Below.refl _ _).alloc (Nat.le_refl _) _
  have K1 : Bxs W1 w.heap.size 114 #[.int .i64 r, .int .i64 f, .int .i64 y, .int .i64 a] := by rw [hW1]; exact Bxs.new _ _ _
  have HX : Hid (∀ x, Below W1.heap.size W1 x → x.cell? ⟨w.heap.size, 0, none⟩ = some (.int .i64 r) ∧ x.cell? ⟨w.heap.size, 1, none⟩ = some (.int .i64 f) ∧ x.cell? ⟨w.heap.size, 2, none⟩ = some (.int .i64 y) ∧ x.cell? ⟨w.heap.size, 3, none⟩ = some (.int .i64 a)) := fun x hb => ⟨(K1.below hb).cell 0, (K1.below hb).cell 1, (K1.below hb).cell 2, (K1.below hb).cell 3⟩
  obtain ⟨x0, x1, x2, x3⟩ := HX.out W1 (Below.refl _ _)
  have Qr : Hid (∀ x, Calls Tryz.prog 122 #[.int .i64 r] x fun e w' => e = .returned (.string (putB r)) ∧ Below x.heap.size x w') := fun x => specPutNum_any r x (by omega) (by omega)
  have Qf : Hid (∀ x, Calls Tryz.prog 122 #[.int .i64 f] x fun e w' => e = .returned (.string (putB f)) ∧ Below x.heap.size x w') := fun x => specPutNum_any f x (by omega) (by omega)
  have Qy : Hid (∀ x, Calls Tryz.prog 122 #[.int .i64 y] x fun e w' => e = .returned (.string (putB y)) ∧ Below x.heap.size x w') := fun x => specPutNum_any y x (by omega) (by omega)
  have Qa : Hid (∀ x, Calls Tryz.prog 122 #[.int .i64 a] x fun e w' => e = .returned (.string (putB a)) ∧ Below x.heap.size x w') := fun x => specPutNum_any a x (by omega) (by omega)
  have HR : Hid (tmRaw ⟨r, f, y, a⟩ = ⟨#[116]⟩ ++ putB r ++ putB f ++ putB y ++ putB a) := rfl
  have zr := putB_size r
  have zf := putB_size f
  have zy := putB_size y
  have za := putB_size a
  have BR : Hid (Below W1.heap.size W1 W1.drew) := (Below.refl _ _).drew
  rw [HR.out]
  clear K1 hW1 HR a0 a1 b0 b1 c0 c1 d0 d1
  generalize putB r = R at *
  generalize putB f = F at *
  generalize putB y = Y at *
  generalize putB a = A at *
  have z1 : ((⟨#[116]⟩ : ByteArray) ++ R).size ≤ 11 := by rw [ByteArray.size_append]; show 1 + _ ≤ _; omega
  have z2 : ((⟨#[116]⟩ : ByteArray) ++ R ++ F).size ≤ 21 := by rw [ByteArray.size_append]; omega
  have z3 : ((⟨#[116]⟩ : ByteArray) ++ R ++ F ++ Y).size ≤ 31 := by rw [ByteArray.size_append]; omega
  have PT : Hid (∀ (n : Int) (N : ByteArray), (∀ x, Calls Tryz.prog 122 #[.int .i64 n] x fun e w' => e = .returned (.string N) ∧ Below x.heap.size x w') → ∀ x, Below W1.heap.size W1 x → Calls Tryz.prog 122 #[.int .i64 n] x fun e x1 => e = .returned (.string N) ∧ Below W1.heap.size W1 x1) := fun n N h x hb => (h x).mono (by rintro e x1 ⟨rfl, b⟩; exact ⟨rfl, chainB hb b⟩)
  have PR := PT.out r R Qr.out
  have PF := PT.out f F Qf.out
  have PY := PT.out y Y Qy.out
  have PA := PT.out a A Qa.out
  have Qr : Hid (∀ x, Below W1.heap.size W1 x → Calls Tryz.prog 122 #[.int .i64 r] x fun e x1 => e = .returned (.string R) ∧ Below W1.heap.size W1 x1) := PR
  have Qf : Hid (∀ x, Below W1.heap.size W1 x → Calls Tryz.prog 122 #[.int .i64 f] x fun e x1 => e = .returned (.string F) ∧ Below W1.heap.size W1 x1) := PF
  have Qy : Hid (∀ x, Below W1.heap.size W1 x → Calls Tryz.prog 122 #[.int .i64 y] x fun e x1 => e = .returned (.string Y) ∧ Below W1.heap.size W1 x1) := PY
  have Qa : Hid (∀ x, Below W1.heap.size W1 x → Calls Tryz.prog 122 #[.int .i64 a] x fun e x1 => e = .returned (.string A) ∧ Below W1.heap.size W1 x1) := PA
  have HR : Hid (Below W1.heap.size W1 W1) := Below.refl _ _
  have z0 : (⟨#[116]⟩ : ByteArray).size = 1 := rfl
  have u1 : ∀ w, (Op.stringOp .add (⟨#[116]⟩ : ByteArray) R).run Tryz.prog w = .ok (.string ((⟨#[116]⟩ : ByteArray) ++ R)) w := fun w => run_string_add w _ _ (by omega) (by omega)
  have u2 : ∀ w, (Op.stringOp .add ((⟨#[116]⟩ : ByteArray) ++ R) F).run Tryz.prog w = .ok (.string ((⟨#[116]⟩ : ByteArray) ++ R ++ F)) w := fun w => run_string_add w _ _ (by omega) (by omega)
  have u3 : ∀ w, (Op.stringOp .add ((⟨#[116]⟩ : ByteArray) ++ R ++ F) Y).run Tryz.prog w = .ok (.string ((⟨#[116]⟩ : ByteArray) ++ R ++ F ++ Y)) w := fun w => run_string_add w _ _ (by omega) (by omega)
  have u4 : ∀ w, (Op.stringOp .add ((⟨#[116]⟩ : ByteArray) ++ R ++ F ++ Y) A).run Tryz.prog w = .ok (.string ((⟨#[116]⟩ : ByteArray) ++ R ++ F ++ Y ++ A)) w := fun w => run_string_add w _ _ (by omega) (by omega)
  clear PR PF PY PA PT z0 z1 z2 z3 zr zf zy za
  go_enter Tryz.func145, Tryz.ntmps145
  go_upto_region 1 with fail
  rw [← HW1.out]
  first
    | (go_region_held3 (fun w' => w'.cell? ⟨w.heap.size, 0, none⟩ = some (.int .i64 r) ∧ w'.cell? ⟨w.heap.size, 1, none⟩ = some (.int .i64 f) ∧ w'.cell? ⟨w.heap.size, 2, none⟩ = some (.int .i64 y) ∧ w'.cell? ⟨w.heap.size, 3, none⟩ = some (.int .i64 a)) ((refine HX.out _ ?hT; (case hT => (with_reducible repeat (first | assumption | exact HR.out | refine Below.drew ?_ | refine alB ?_ _))))) (first
      | (go_at_call 122; with_reducible refine (Qr.out _ ?hB).mono ?_; (case hB => first | exact HR.out | exact HR.out.drew); rintro e x1 ⟨rfl, y1⟩)
      | (go_at_call 122; with_reducible refine (Qf.out _ ?hB).mono ?_; (case hB => first | exact y1 | exact y1.drew); rintro e x2 ⟨rfl, y2⟩)
      | (go_at_call 122; with_reducible refine (Qy.out _ ?hB).mono ?_; (case hB => first | exact y2 | exact y2.drew); rintro e x3 ⟨rfl, y3⟩)
      | (go_at_call 122; with_reducible refine (Qa.out _ ?hB).mono ?_; (case hB => first | exact y3 | exact y3.drew); rintro e x4 ⟨rfl, y4⟩)))
    | fail
  all_goals
    have y6 := chainB B1.out y4
    go_wp2_with fail
    go_ret
    exact ⟨rfl, y6⟩
set_option maxHeartbeats 1000000 in
theorem specTombText_any (t : Tmb) (w : World) : Calls Tryz.prog 91 #[tmV t] w fun e w' => e = .returned (.string (tmT t)) ∧ Below w.heap.size w w' := by
  have hr := fun x => specTombRight_any t x
  cases h : tmB t with
  | true =>
    have hl := fun x => l08Text_any t x h
    have HT : Hid (tmT t = tmRaw t) := if_pos h
    rw [HT.out]
    rw [h] at hr
    have HR : Hid (∀ x, Calls Tryz.prog 144 #[.agg #[.int .i64 t.r, .int .i64 t.f, .int .i64 t.y, .int .i64 t.a]] x fun e w' => e = .returned (.bool true) ∧ Below x.heap.size x w') := hr
    have HL : Hid (∀ x, Calls Tryz.prog 145 #[.agg #[.int .i64 t.r, .int .i64 t.f, .int .i64 t.y, .int .i64 t.a]] x fun e w' => e = .returned (.string (tmRaw t)) ∧ Below x.heap.size x w') := hl
    obtain ⟨W1, hW1⟩ : ∃ W1, W1 = w.alloc (.cells #[.int .i64 t.r, .int .i64 t.f, .int .i64 t.y, .int .i64 t.a] 114) := ⟨_, rfl⟩
    have HW1 : Hid (W1 = w.alloc (.cells #[.int .i64 t.r, .int .i64 t.f, .int .i64 t.y, .int .i64 t.a] 114)) := hW1
    have B1 : Hid (Below w.heap.size w W1) := by rw [hW1]; exact (Below.refl _ _).alloc (Nat.le_refl _) _
    have K1 : Hid (Bxs W1 w.heap.size 114 #[.int .i64 t.r, .int .i64 t.f, .int .i64 t.y, .int .i64 t.a]) := by rw [hW1]; exact Bxs.new _ _ _
    clear hr hl h HT hW1
    generalize tmRaw t = O at *
    show Calls Tryz.prog 91 #[.agg #[.int .i64 t.r, .int .i64 t.f, .int .i64 t.y, .int .i64 t.a]] w _
    obtain ⟨r, f, y, a⟩ := t
    dsimp only at *
    go_enter Tryz.func91, Tryz.ntmps91
    go_wp2_with fail
    rw [← HW1.out]
    refine (HR.out W1).mono ?_
    rintro e w1 ⟨rfl, b1⟩
    have k := K1.out.below b1
    obtain ⟨x0, x1, x2, x3⟩ : w1.cell? ⟨w.heap.size, 0, none⟩ = some (.int .i64 r) ∧ w1.cell? ⟨w.heap.size, 1, none⟩ = some (.int .i64 f) ∧ w1.cell? ⟨w.heap.size, 2, none⟩ = some (.int .i64 y) ∧ w1.cell? ⟨w.heap.size, 3, none⟩ = some (.int .i64 a) := ⟨k.cell 0, k.cell 1, k.cell 2, k.cell 3⟩
    have c1 : Hid (Below w.heap.size w w1) := chainB B1.out b1
    clear k b1
    go_wp2_with fail
    refine (HL.out w1).mono ?_
    rintro e w2 ⟨rfl, b2⟩
    go_wp2_with fail
    go_ret
    exact ⟨rfl, chainB c1.out b2⟩
  | false =>
    have HT : Hid (tmT t = ByteArray.empty) := if_neg (by rw [h]; exact Bool.false_ne_true)
    rw [HT.out]
    rw [h] at hr
    have HR : Hid (∀ x, Calls Tryz.prog 144 #[.agg #[.int .i64 t.r, .int .i64 t.f, .int .i64 t.y, .int .i64 t.a]] x fun e w' => e = .returned (.bool false) ∧ Below x.heap.size x w') := hr
    obtain ⟨W1, hW1⟩ : ∃ W1, W1 = w.alloc (.cells #[.int .i64 t.r, .int .i64 t.f, .int .i64 t.y, .int .i64 t.a] 114) := ⟨_, rfl⟩
    have HW1 : Hid (W1 = w.alloc (.cells #[.int .i64 t.r, .int .i64 t.f, .int .i64 t.y, .int .i64 t.a] 114)) := hW1
    have B1 : Hid (Below w.heap.size w W1) := by rw [hW1]; exact (Below.refl _ _).alloc (Nat.le_refl _) _
    clear hr h HT hW1
    show Calls Tryz.prog 91 #[.agg #[.int .i64 t.r, .int .i64 t.f, .int .i64 t.y, .int .i64 t.a]] w _
    obtain ⟨r, f, y, a⟩ := t
    dsimp only at *
    go_enter Tryz.func91, Tryz.ntmps91
    go_wp2_with fail
    rw [← HW1.out]
    refine (HR.out W1).mono ?_
    rintro e w1 ⟨rfl, b1⟩
    have c1 : Hid (Below w.heap.size w w1) := chainB B1.out b1
    clear b1
    go_wp2_with fail
    go_ret
    exact ⟨rfl, c1.out⟩
end Go.Proofs.YtonleickhincgaaGreatDoor
/-
  What the specification's TombRead and LeafKind answer.
  Conditions: the text fits the form's own reach.
-/
namespace Go.Proofs.YtonleickhincgaaGreatDoor
open Go.RowKit Go.Lib
set_option linter.unusedVariables false
set_option maxRecDepth 20000

theorem ba_eq {a b : ByteArray} (h : a.toList = b.toList) : a = b := by
  apply ByteArray.ext; apply Array.ext'
  rw [← ByteArray.toList_eq, ← ByteArray.toList_eq]; exact h
theorem ba_beq (a b : ByteArray) : (a.toList == b.toList) = decide (a = b) := by
  by_cases h : a = b
  · subst h; simp
  · rw [decide_eq_false h]
    exact beq_eq_false_iff_ne.2 (fun e => h (ba_eq e))
theorem ba_nil (a : ByteArray) : a.toList.isEmpty = decide (a.size = 0) := by
  rw [ByteArray.toList_eq]
  by_cases h : a.size = 0
  · rw [decide_eq_true h]
    have : a.data.toList.length = 0 := by rw [sz_list]; exact h
    simp [List.length_eq_zero_iff.1 this]
  · rw [decide_eq_false h]
    cases e : a.data.toList with
    | nil => exfalso; apply h; rw [← sz_list, e]; rfl
    | cons => rfl
/-- A reader's box and a Tomb's beside it. -/
structure RbS (W : World) (P Z : Nat) (t : ByteArray) (a : Int) (bd : Bool) (cs : Array Value) (x : World) : Prop where
  bel : Below W.heap.size W x
  rd : Bxs x P 81 #[.string t, .int .i64 a, .bool bd]
  box : Bxs x Z 114 cs
  hP : W.heap.size ≤ P
  hZ : W.heap.size ≤ Z
  ne : Z ≠ P
theorem RbS.call {W : World} {P Z : Nat} {t : ByteArray} {a a' : Int} {bd bd' : Bool} {cs : Array Value} {x y : World} (h : RbS W P Z t a bd cs x) (hr : Bxs y P 81 #[.string t, .int .i64 a', .bool bd']) (hg : x.grownBy y (some P)) : RbS W P Z t a' bd' cs y :=
  ⟨h.bel.grown hg h.bel.size (fun j hj => by cases hj; exact h.hP), hr, h.box.grown hg (fun e => h.ne (by cases e; rfl)), h.hP, h.hZ, h.ne⟩
theorem RbS.put {W : World} {P Z : Nat} {t : ByteArray} {a : Int} {bd : Bool} {cs : Array Value} {x : World} (h : RbS W P Z t a bd cs x) (i : Nat) (v : Value) : RbS W P Z t a bd (cs.setIfInBounds i v) (x.setCell ⟨Z, i, none⟩ v) :=
  ⟨h.bel.setCell h.hZ _, h.rd.other _ _ h.ne _, h.box.set i v, h.hP, h.hZ, h.ne⟩
theorem trC_bad {t : ByteArray} (h : ¬ 8000 < t.size) (hb : trBad t = true) : trC t = 3 ∧ trO t = tmZ := by
  have hc : trC t = 3 := by unfold trC; rw [if_neg h, if_pos hb]
  exact ⟨hc, by unfold trO; rw [if_neg (by omega)]⟩
theorem trC_good {t : ByteArray} (h : ¬ 8000 < t.size) (hb : trBad t = false) : trC t = 0 ∧ trO t = trT t := by
  have hc : trC t = 0 := by unfold trC; rw [if_neg h, if_neg (by rw [hb]; exact Bool.false_ne_true)]
  exact ⟨hc, by unfold trO; rw [if_pos hc]⟩
set_option maxHeartbeats 4000000 in
theorem specTombRead_any (t : ByteArray) (w : World) (ht : t.size ≤ maxLen) :
    Calls Tryz.prog 69 #[.string t] w fun e w' => e = .returned (tmO (trO t) (trC t)) ∧ Below w.heap.size w w' := by
  obtain ⟨W1, hW1⟩ : ∃ W1, W1 = w.alloc (.cells #[.int .i64 0, .int .i64 0, .int .i64 0, .int .i64 0, .int .i64 0] 116) := ⟨_, rfl⟩
  have HW1 : Hid (W1 = w.alloc (.cells #[.int .i64 0, .int .i64 0, .int .i64 0, .int .i64 0, .int .i64 0] 116)) := hW1
  have HS1 : Hid (W1.heap.size = w.heap.size + 1) := by rw [hW1]; show _ = _; simp
  have K1 : Hid (Bxs W1 w.heap.size 116 #[.int .i64 0, .int .i64 0, .int .i64 0, .int .i64 0, .int .i64 0]) := by rw [hW1]; exact Bxs.new _ _ _
  have B1 : Hid (Below w.heap.size w W1) := by rw [hW1]; exact (Below.refl _ _).alloc (Nat.le_refl _) _
  have HEr : Hid (∀ (y : World) (c : Int) (T : Tmb) (x0 x1 x2 x3 x4 : Value), Below W1.heap.size W1 y → trC t = c → trO t = T → Ending.returned (.agg #[.int .i64 T.r, .int .i64 T.f, .int .i64 T.y, .int .i64 T.a, .int .i64 c]) = .returned (tmO (trO t) (trC t)) ∧ Below w.heap.size w (((((y.setCell ⟨w.heap.size, 0, none⟩ x0).setCell ⟨w.heap.size, 1, none⟩ x1).setCell ⟨w.heap.size, 2, none⟩ x2).setCell ⟨w.heap.size, 3, none⟩ x3).setCell ⟨w.heap.size, 4, none⟩ x4)) := by
    intro y c T x0 x1 x2 x3 x4 hb hc hT
    rw [hc, hT]
    exact ⟨rfl, below_set5 (chainB B1.out hb) (Nat.le_refl _) _ _ _ _ _⟩
  clear hW1
  unfold maxLen at ht
  by_cases h8 : 8000 < t.size
  · have hC : trC t = 2 := if_pos h8
    have hO : trO t = tmZ := if_neg (by rw [hC]; decide)
    have d8 : decide (8000 < (t.size : Int)) = true := decide_eq_true (by omega)
    have HE := fun x0 x1 x2 x3 x4 => HEr.out W1 2 tmZ x0 x1 x2 x3 x4 (Below.refl _ _) hC hO
    rw [HW1.out] at HE
    have HE : Hid _ := HE
    clear HEr h8 hC hO
    go_enter Tryz.func69, Tryz.ntmps69
    go_upto_region 2 with fail
    rw [← HW1.out] at HE ⊢
    obtain ⟨r0, r1, r2, r3, r4⟩ := K1.out.five
    have f0 := K1.out.fr 0
    have f1 := K1.out.fr 1
    have f2 := K1.out.fr 2
    have f3 := K1.out.fr 3
    have f4 := K1.out.fr 4
    go_wp2_with fail
    refine bodyPost_ret (v := .agg #[.int .i64 0, .int .i64 0, .int .i64 0, .int .i64 0, .int .i64 2]) (by simp [results, Tryz.results69, go_sem, r0, r1, r2, r3, r4]) rfl ?_
    exact HE.out _ _ _ _ _
  have d8 : decide (8000 < (t.size : Int)) = false := decide_eq_false (by omega)
  have ht8 : t.size ≤ 8000 := by omega
  obtain ⟨Q, hQw⟩ : ∃ Q, Q = w.heap.size + 1 := ⟨_, rfl⟩
  have hQ : Q = W1.heap.size := by rw [hQw, HS1.out]
  have HNx : Hid (∀ (a : Int) (bd : Bool) (x : World), a ≤ 9223372036854775807 → Bxs x Q 81 #[.string t, .int .i64 a, .bool bd] → Calls Tryz.prog 43 #[.pointer (some ⟨Q, 0, none⟩)] x fun e w' => e = .returned (.int .i64 (rnN t a bd)) ∧ Bxs w' Q 81 #[.string t, .int .i64 (rnA t a bd), .bool (rnB t a bd)] ∧ x.grownBy w' (some Q)) := fun a bd x ha hb => rdNum_any Q t a bd x hb ht8 ha
  have HGood : Hid (trBad t = false → trC t = 0 ∧ trO t = trT t) := trC_good h8
  have HBad : Hid (trBad t = true → trC t = 3 ∧ trO t = tmZ) := trC_bad h8
  have l1 : trA1 t ≤ 9223372036854775807 := rnA_top t 1 false (by omega) ht8
  have l2 : trA2 t ≤ 9223372036854775807 := rnA_top t _ _ l1 ht8
  have l3 : trA3 t ≤ 9223372036854775807 := rnA_top t _ _ l2 ht8
  obtain ⟨n1, hn1⟩ : ∃ n, n = rnN t 1 false := ⟨_, rfl⟩
  obtain ⟨n2, hn2⟩ : ∃ n, n = rnN t (trA1 t) (trB1 t) := ⟨_, rfl⟩
  obtain ⟨n3, hn3⟩ : ∃ n, n = rnN t (trA2 t) (trB2 t) := ⟨_, rfl⟩
  obtain ⟨n4, hn4⟩ : ∃ n, n = rnN t (trA3 t) (trB3 t) := ⟨_, rfl⟩
  obtain ⟨a4, ha4⟩ : ∃ n, n = rnA t (trA3 t) (trB3 t) := ⟨_, rfl⟩
  obtain ⟨b4, hb4⟩ : ∃ n, n = trBd t := ⟨_, rfl⟩
  have HT : Hid (trT t = ⟨n1, n2, n3, n4⟩) := by show _ = _; rw [hn1, hn2, hn3, hn4]; rfl
  have HBd : Hid (trBad t = (b4 || decide (t.size = 0) || !decide (tmT ⟨n1, n2, n3, n4⟩ = t))) := by show _ = _; unfold trBad; rw [HT.out, hb4]
  have C1 : Hid (∀ x, Bxs x Q 81 #[.string t, .int .i64 1, .bool false] → Calls Tryz.prog 43 #[.pointer (some ⟨Q, 0, none⟩)] x fun e w' => e = .returned (.int .i64 n1) ∧ Bxs w' Q 81 #[.string t, .int .i64 (trA1 t), .bool (trB1 t)] ∧ x.grownBy w' (some Q)) := by rw [hn1]; exact fun x hx => HNx.out 1 false x (by omega) hx
  have C2 : Hid (∀ x, Bxs x Q 81 #[.string t, .int .i64 (trA1 t), .bool (trB1 t)] → Calls Tryz.prog 43 #[.pointer (some ⟨Q, 0, none⟩)] x fun e w' => e = .returned (.int .i64 n2) ∧ Bxs w' Q 81 #[.string t, .int .i64 (trA2 t), .bool (trB2 t)] ∧ x.grownBy w' (some Q)) := by rw [hn2]; exact fun x hx => HNx.out _ _ x l1 hx
  have C3 : Hid (∀ x, Bxs x Q 81 #[.string t, .int .i64 (trA2 t), .bool (trB2 t)] → Calls Tryz.prog 43 #[.pointer (some ⟨Q, 0, none⟩)] x fun e w' => e = .returned (.int .i64 n3) ∧ Bxs w' Q 81 #[.string t, .int .i64 (trA3 t), .bool (trB3 t)] ∧ x.grownBy w' (some Q)) := by rw [hn3]; exact fun x hx => HNx.out _ _ x l2 hx
  have C4 : Hid (∀ x, Bxs x Q 81 #[.string t, .int .i64 (trA3 t), .bool (trB3 t)] → Calls Tryz.prog 43 #[.pointer (some ⟨Q, 0, none⟩)] x fun e w' => e = .returned (.int .i64 n4) ∧ Bxs w' Q 81 #[.string t, .int .i64 a4, .bool b4] ∧ x.grownBy w' (some Q)) := by rw [hn4, ha4, hb4]; exact fun x hx => HNx.out _ _ x l3 hx
  have CT : Hid (∀ x, Calls Tryz.prog 91 #[.agg #[.int .i64 n1, .int .i64 n2, .int .i64 n3, .int .i64 n4]] x fun e w' => e = .returned (.string (tmT ⟨n1, n2, n3, n4⟩)) ∧ Below x.heap.size x w') := fun x => specTombText_any ⟨n1, n2, n3, n4⟩ x
  obtain ⟨W2, hW2⟩ : ∃ W2, W2 = W1.alloc (.cells #[.string t, .int .i64 1, .bool false] 81) := ⟨_, rfl⟩
  have KP : Hid (Bxs W2 Q 81 #[.string t, .int .i64 1, .bool false]) := by rw [hW2, hQ]; exact Bxs.new _ _ _
  have B2 : Hid (Below W1.heap.size W1 W2) := by rw [hW2]; exact (Below.refl _ _).alloc (Nat.le_refl _) _
  have HW2 : Hid (W2 = W1.alloc (.cells #[.string t, .int .i64 1, .bool false] 81)) := hW2
  have HQd : Hid (Q = w.heap.size + 1) := hQw
  have HQs : Hid (W1.heap.size ≤ Q) := by show _ ≤ _; omega
  have e0 := ba_nil t
  have eT := ba_beq (tmT ⟨n1, n2, n3, n4⟩) t
  generalize tmT ⟨n1, n2, n3, n4⟩ = TX at *
  have E0 : Hid (t.toList.isEmpty = decide (t.size = 0)) := e0
  have ET : Hid ((TX.toList == t.toList) = decide (TX = t)) := eT
  clear hn1 hn2 hn3 hn4 ha4 hb4 HNx l1 l2 l3 h8 hW2 hQ hQw e0 eT
  go_enter Tryz.func69, Tryz.ntmps69
  go_upto_region 4 with fail
  rw [← HW1.out]
  rw [← HW2.out, ← HQd.out]
  clear HW2 HW1 HQd d8
  go_wp2_with fail
  refine (C1.out W2 KP.out).mono ?_
  rintro e y1 ⟨rfl, kb1, hg1⟩
  go_upto_region 5 with fail
  obtain ⟨y2, hy2⟩ : ∃ y2, y2 = y1.alloc (.cells #[.int .i64 n1, .int .i64 0, .int .i64 0, .int .i64 0] 114) := ⟨_, rfl⟩
  rw [← hy2]
  obtain ⟨Z, hZ⟩ : ∃ Z, Z = y1.heap.size := ⟨_, rfl⟩
  have S2 : RbS W1 Q Z t (trA1 t) (trB1 t) #[.int .i64 n1, .int .i64 0, .int .i64 0, .int .i64 0] y2 := by
    have hz1 := kb1.lt
    have b1 : Below W1.heap.size W1 y1 := B2.out.grown hg1 B2.out.size (fun j hj => by cases hj; exact HQs.out)
    rw [hy2, hZ]
    exact ⟨alB b1 _, kb1.alloc _, Bxs.new _ _ _, HQs.out, b1.size, by omega⟩
  rw [← hZ]
  have S2' : Hid (RbS W1 Q Z t (trA1 t) (trB1 t) #[.int .i64 n1, .int .i64 0, .int .i64 0, .int .i64 0] y2) := S2
  clear hy2 hZ S2 kb1 hg1 KP B2
  go_wp2_with fail
  refine (C2.out y2 S2'.out.rd).mono ?_
  rintro e z1 ⟨rfl, kb, hg⟩
  have S := S2'.out.call kb hg
  have p1 : z1.cell? ⟨Z, 1, none⟩ = some (.int .i64 0) := S.box.cell 1
  have f1 := S.box.fr 1
  have T1 : Hid (RbS W1 Q Z t (trA2 t) (trB2 t) #[.int .i64 n1, .int .i64 n2, .int .i64 0, .int .i64 0] (z1.setCell ⟨Z, 1, none⟩ (.int .i64 n2))) := S.put 1 _
  clear S kb hg S2'
  go_upto_region 6 with fail
  obtain ⟨u1, hu1⟩ : ∃ u1, u1 = z1.setCell ⟨Z, 1, none⟩ (.int .i64 n2) := ⟨_, rfl⟩
  rw [← hu1] at T1 ⊢
  have S3' : Hid (RbS W1 Q Z t (trA2 t) (trB2 t) #[.int .i64 n1, .int .i64 n2, .int .i64 0, .int .i64 0] u1) := T1.out
  clear hu1 T1 p1 f1
  go_wp2_with fail
  refine (C3.out u1 S3'.out.rd).mono ?_
  rintro e z2 ⟨rfl, kb, hg⟩
  have S := S3'.out.call kb hg
  have p2 : z2.cell? ⟨Z, 2, none⟩ = some (.int .i64 0) := S.box.cell 2
  have f2 := S.box.fr 2
  have T2 : Hid (RbS W1 Q Z t (trA3 t) (trB3 t) #[.int .i64 n1, .int .i64 n2, .int .i64 n3, .int .i64 0] (z2.setCell ⟨Z, 2, none⟩ (.int .i64 n3))) := S.put 2 _
  clear S kb hg S3'
  go_upto_region 7 with fail
  obtain ⟨u2, hu2⟩ : ∃ u2, u2 = z2.setCell ⟨Z, 2, none⟩ (.int .i64 n3) := ⟨_, rfl⟩
  rw [← hu2] at T2 ⊢
  have S4' : Hid (RbS W1 Q Z t (trA3 t) (trB3 t) #[.int .i64 n1, .int .i64 n2, .int .i64 n3, .int .i64 0] u2) := T2.out
  clear hu2 T2 p2 f2
  go_wp2_with fail
  refine (C4.out u2 S4'.out.rd).mono ?_
  rintro e z3 ⟨rfl, kb, hg⟩
  have S := S4'.out.call kb hg
  have p3 : z3.cell? ⟨Z, 3, none⟩ = some (.int .i64 0) := S.box.cell 3
  have f3 := S.box.fr 3
  have T3 : Hid (RbS W1 Q Z t a4 b4 #[.int .i64 n1, .int .i64 n2, .int .i64 n3, .int .i64 n4] (z3.setCell ⟨Z, 3, none⟩ (.int .i64 n4))) := S.put 3 _
  clear S kb hg S4'
  go_upto_region 8 with fail
  obtain ⟨u3, hu3⟩ : ∃ u3, u3 = z3.setCell ⟨Z, 3, none⟩ (.int .i64 n4) := ⟨_, rfl⟩
  rw [← hu3] at T3 ⊢
  have S5' : Hid (RbS W1 Q Z t a4 b4 #[.int .i64 n1, .int .i64 n2, .int .i64 n3, .int .i64 n4] u3) := T3.out
  clear hu3 T3 p3 f3
  have q2 : u3.cell? ⟨Q, 2, none⟩ = some (.bool b4) := S5'.out.rd.cell 2
  obtain ⟨c0, c1, c2, c3⟩ := S5'.out.box.four
  have K9 : Hid (Bxs u3 w.heap.size 116 #[.int .i64 0, .int .i64 0, .int .i64 0, .int .i64 0, .int .i64 0]) := K1.out.below S5'.out.bel
  have HE3 : Hid (trBad t = true → ∀ (y : World), Below u3.heap.size u3 y → ∀ x0 x1 x2 x3 x4, Ending.returned (.agg #[.int .i64 0, .int .i64 0, .int .i64 0, .int .i64 0, .int .i64 3]) = .returned (tmO (trO t) (trC t)) ∧ Below w.heap.size w (((((y.setCell ⟨w.heap.size, 0, none⟩ x0).setCell ⟨w.heap.size, 1, none⟩ x1).setCell ⟨w.heap.size, 2, none⟩ x2).setCell ⟨w.heap.size, 3, none⟩ x3).setCell ⟨w.heap.size, 4, none⟩ x4)) := fun h y hy x0 x1 x2 x3 x4 => HEr.out y 3 tmZ x0 x1 x2 x3 x4 (chainB S5'.out.bel hy) (HBad.out h).1 (HBad.out h).2
  have HE0 : Hid (trBad t = false → ∀ (y : World), Below u3.heap.size u3 y → ∀ x0 x1 x2 x3 x4, Ending.returned (.agg #[.int .i64 n1, .int .i64 n2, .int .i64 n3, .int .i64 n4, .int .i64 0]) = .returned (tmO (trO t) (trC t)) ∧ Below w.heap.size w (((((y.setCell ⟨w.heap.size, 0, none⟩ x0).setCell ⟨w.heap.size, 1, none⟩ x1).setCell ⟨w.heap.size, 2, none⟩ x2).setCell ⟨w.heap.size, 3, none⟩ x3).setCell ⟨w.heap.size, 4, none⟩ x4)) := fun h y hy x0 x1 x2 x3 x4 => HEr.out y 0 ⟨n1, n2, n3, n4⟩ x0 x1 x2 x3 x4 (chainB S5'.out.bel hy) (HGood.out h).1 ((HGood.out h).2.trans HT.out)
  have BZ : Hid (Bxs u3 Z 114 #[.int .i64 n1, .int .i64 n2, .int .i64 n3, .int .i64 n4]) := S5'.out.box
  rw [HBd.out] at HE3 HE0
  clear S5' HEr HBad HGood HT HBd C1 C2 C3 C4 K1 B1 HS1
  cases b4 with
  | true =>
    have HE : Hid _ := HE3.out rfl u3 (Below.refl _ _)
    clear HE3 HE0
    obtain ⟨r0, r1, r2, r3, r4⟩ := (K9.out).five
    have f0 := (K9.out).fr 0
    have f1 := (K9.out).fr 1
    have f2 := (K9.out).fr 2
    have f3 := (K9.out).fr 3
    have f4 := (K9.out).fr 4
    go_wp2_with fail
    refine bodyPost_ret (v := .agg #[.int .i64 0, .int .i64 0, .int .i64 0, .int .i64 0, .int .i64 3]) (by simp [results, Tryz.results69, go_sem, r0, r1, r2, r3, r4]) rfl ?_
    exact HE.out _ _ _ _ _
  | false =>
  cases h0 : t.toList.isEmpty with
  | true =>
    have d0 : decide (t.size = 0) = true := by rw [← E0.out]; exact h0
    have HE : Hid _ := HE3.out (by rw [d0]; rfl) u3 (Below.refl _ _)
    clear HE3 HE0 d0 E0
    obtain ⟨r0, r1, r2, r3, r4⟩ := (K9.out).five
    have f0 := (K9.out).fr 0
    have f1 := (K9.out).fr 1
    have f2 := (K9.out).fr 2
    have f3 := (K9.out).fr 3
    have f4 := (K9.out).fr 4
    go_wp2_with fail
    refine bodyPost_ret (v := .agg #[.int .i64 0, .int .i64 0, .int .i64 0, .int .i64 0, .int .i64 3]) (by simp [results, Tryz.results69, go_sem, r0, r1, r2, r3, r4]) rfl ?_
    exact HE.out _ _ _ _ _
  | false =>
    have d0 : decide (t.size = 0) = false := by rw [← E0.out]; exact h0
    cases h1 : (TX.toList == t.toList) with
    | false =>
      have d1 : decide (TX = t) = false := by rw [← ET.out]; exact h1
      have HE3' : Hid (∀ (y : World), Below u3.heap.size u3 y → ∀ x0 x1 x2 x3 x4, Ending.returned (.agg #[.int .i64 0, .int .i64 0, .int .i64 0, .int .i64 0, .int .i64 3]) = .returned (tmO (trO t) (trC t)) ∧ Below w.heap.size w (((((y.setCell ⟨w.heap.size, 0, none⟩ x0).setCell ⟨w.heap.size, 1, none⟩ x1).setCell ⟨w.heap.size, 2, none⟩ x2).setCell ⟨w.heap.size, 3, none⟩ x3).setCell ⟨w.heap.size, 4, none⟩ x4)) := HE3.out (by rw [d0, d1]; rfl)
      clear HE3 HE0 d0 d1 E0 ET
      go_wp2_with fail
      refine (CT.out u3).mono ?_
      rintro e y9 ⟨rfl, b9⟩
      have HE : Hid _ := HE3'.out y9 b9
      have KK := K9.out.below b9
      clear HE3' 
      obtain ⟨r0, r1, r2, r3, r4⟩ := (KK).five
      have f0 := (KK).fr 0
      have f1 := (KK).fr 1
      have f2 := (KK).fr 2
      have f3 := (KK).fr 3
      have f4 := (KK).fr 4
      clear KK K9 b9
      go_wp2_with fail
      refine bodyPost_ret (v := .agg #[.int .i64 0, .int .i64 0, .int .i64 0, .int .i64 0, .int .i64 3]) (by simp [results, Tryz.results69, go_sem, r0, r1, r2, r3, r4]) rfl ?_
      exact HE.out _ _ _ _ _
    | true =>
      have d1 : decide (TX = t) = true := by rw [← ET.out]; exact h1
      have HE0' : Hid (∀ (y : World), Below u3.heap.size u3 y → ∀ x0 x1 x2 x3 x4, Ending.returned (.agg #[.int .i64 n1, .int .i64 n2, .int .i64 n3, .int .i64 n4, .int .i64 0]) = .returned (tmO (trO t) (trC t)) ∧ Below w.heap.size w (((((y.setCell ⟨w.heap.size, 0, none⟩ x0).setCell ⟨w.heap.size, 1, none⟩ x1).setCell ⟨w.heap.size, 2, none⟩ x2).setCell ⟨w.heap.size, 3, none⟩ x3).setCell ⟨w.heap.size, 4, none⟩ x4)) := HE0.out (by rw [d0, d1]; rfl)
      clear HE3 HE0 d0 d1 E0 ET
      go_wp2_with fail
      refine (CT.out u3).mono ?_
      rintro e y9 ⟨rfl, b9⟩
      have HE : Hid _ := HE0'.out y9 b9
      have KK := K9.out.below b9
      obtain ⟨c0, c1, c2, c3⟩ := (BZ.out.below b9).four
      clear HE0' 
      obtain ⟨r0, r1, r2, r3, r4⟩ := (KK).five
      have f0 := (KK).fr 0
      have f1 := (KK).fr 1
      have f2 := (KK).fr 2
      have f3 := (KK).fr 3
      have f4 := (KK).fr 4
      clear KK K9 b9 BZ
      go_wp2_with fail
      refine bodyPost_ret (v := .agg #[.int .i64 n1, .int .i64 n2, .int .i64 n3, .int .i64 n4, .int .i64 0]) (by simp [results, Tryz.results69, go_sem, r0, r1, r2, r3, r4]) rfl ?_
      exact HE.out _ _ _ _ _
end Go.Proofs.YtonleickhincgaaGreatDoor
/-
  What the program's goneField, presentField, timeRight, CommitOf and FieldRight answer; two fields compared as wholes.
  Conditions: the two tables of the digest lie as laid.
-/
namespace Go.Proofs.YtonleickhincgaaGreatDoor
open Go.RowKit Go.Lib
set_option linter.unusedVariables false
set_option maxRecDepth 20000

/-- A field as a value. -/
def fv5 (n c s v : ByteArray) (g : Bool) : Value := .agg #[.string n, .string c, .string s, .string v, .bool g]
def eqF (n c s v : ByteArray) (g : Bool) (n' c' s' v' : ByteArray) (g' : Bool) : Bool := (n.toList == n'.toList) && ((c.toList == c'.toList) && ((s.toList == s'.toList) && ((v.toList == v'.toList) && (g == g'))))
theorem eql_fld (n c s v : ByteArray) (g : Bool) (n' c' s' v' : ByteArray) (g' : Bool) (w : World) : (binOp .eql 122 (.agg #[.string n, .string c, .string s, .string v, .bool g]) (.agg #[.string n', .string c', .string s', .string v', .bool g'])).run Tryz.prog w = .ok (.bool (eqF n c s v g n' c' s' v' g')) w := by
  unfold eqF
  rw [run_eql_struct, run_equalIn_agg w 9999 122 _ _ (by kernel_rfl) (by kernel_rfl)]
  have hF : Tryz.prog.fieldsOf 122 = Tryz.prog.fieldsOf 122 := rfl
  conv at hF => rhs; simp only [Program.fieldsOf, Tryz.underlying122]
  rw [hF]
  cases h1 : n.toList == n'.toList <;> cases h2 : c.toList == c'.toList <;> cases h3 : s.toList == s'.toList <;> cases h4 : v.toList == v'.toList <;> cases h5 : g == g' <;>
    simp [go_sem, Op.eqFields, h1, h2, h3, h4, h5]
theorem eqF_gone (n c s v : ByteArray) : eqF n c s v true n c ByteArray.empty ByteArray.empty true = (emB s && emB v) := by
  unfold eqF emB; simp
theorem eqF_there (n c s v C : ByteArray) : eqF n c s v false n C s v false = (c.toList == C.toList) := by
  unfold eqF; simp
theorem Tabs.to {w w' : World} (h : Tabs w) (hb : Below w.heap.size w w') : Tabs w' := h.below hb h.1
theorem goneField_any (n c : ByteArray) (w : World) : Calls Tryz.prog 210 #[.string n, .string c] w fun e w' => e = .returned (.agg #[.string n, .string c, .string ByteArray.empty, .string ByteArray.empty, .bool true]) ∧ Below w.heap.size w w' := by
  have B1 : Below w.heap.size w (w.alloc (.cells #[.string n, .string c, .string ByteArray.empty, .string ByteArray.empty, .bool true] 122)) := (Below.refl _ _).alloc (Nat.le_refl _) _
  go_enter Tryz.func210, Tryz.ntmps210
  go_wp2_with fail
  refine bodyPost_ret (v := .agg #[.string n, .string c, .string ByteArray.empty, .string ByteArray.empty, .bool true]) (by simp [results, Tryz.results210, go_sem]; rfl) rfl ?_
  exact ⟨rfl, B1⟩
theorem digFour_any (A B C : ByteArray) (w : World) (hT : Tabs w) (h1 : A.size ≤ 2000) (h2 : B.size ≤ 2000) (h3 : C.size ≤ 2000) :
    Calls Tryz.prog 129 #[.slice (some ⟨w.heap.size, 0, none⟩) 4 4] (w.alloc (.cells #[.string ⟨#[2]⟩, .string A, .string B, .string C] 9)) fun e w' => e = .returned (.string (digB (two1 ++ A ++ B ++ C))) ∧ Below w.heap.size w w' := by
  have hc : cat [two1, A, B, C] = two1 ++ A ++ B ++ C := by apply ByteArray.ext; simp [cat]
  have hb : BlkS (w.alloc (.cells #[.string ⟨#[2]⟩, .string A, .string B, .string C] 9)) w.heap.size [two1, A, B, C] := alloc_str w [two1, A, B, C]
  have b1 : Below w.heap.size w (w.alloc (.cells #[.string ⟨#[2]⟩, .string A, .string B, .string C] 9)) := (Below.refl _ _).alloc (Nat.le_refl _) _
  have h := digAll_any w.heap.size 4 [two1, A, B, C] _ (hT.to b1) hb (by simp) (by simp) (by rw [hc]; simp only [ByteArray.size_append]; show 1 + _ + _ + _ ≤ _; omega)
  rw [hc] at h
  refine Calls.mono h ?_
  rintro e w' ⟨he, hb'⟩
  exact ⟨he, chainB b1 hb'⟩
set_option maxHeartbeats 1000000 in
theorem implCommitOf_any (n s v : ByteArray) (w : World) (hT : Tabs w) (hn : n.size ≤ maxLen) (hs : s.size ≤ maxLen) (hv : v.size ≤ maxLen) : Calls Tryz.prog 223 #[.string n, .string s, .string v] w fun e w' => e = .returned (.string (cmB n s v)) ∧ Below w.heap.size w w' := by
  have hN := implNameRight_any n w hn
  have HTb : Hid (Tabs w) := hT
  clear hT
  unfold maxLen at hn hs hv
  cases hk : nrB n with
  | false =>
    have HV : Hid (cmB n s v = ByteArray.empty) := if_neg (by unfold cmOk; rw [hk]; exact Bool.false_ne_true)
    rw [hk] at hN
    rw [HV.out]
    go_enter Tryz.func223, Tryz.ntmps223
    go_wp2_with fail
    refine hN.mono ?_
    rintro e w1 ⟨rfl, rfl⟩
    go_wp2_with fail
    go_ret
    exact ⟨rfl, Below.refl _ _⟩
  | true =>
  rw [hk] at hN
  by_cases h1 : s.size < 1
  · have HV : Hid (cmB n s v = ByteArray.empty) := if_neg (by unfold cmOk; rw [decide_eq_false (by omega)]; simp)
    have d1 : decide ((s.size : Int) < 1) = true := decide_eq_true (by omega)
    rw [HV.out]
    go_enter Tryz.func223, Tryz.ntmps223
    go_wp2_with fail
    refine hN.mono ?_
    rintro e w1 ⟨rfl, rfl⟩
    go_wp2_with fail
    go_ret
    exact ⟨rfl, Below.refl _ _⟩
  have d1 : decide ((s.size : Int) < 1) = false := decide_eq_false (by omega)
  by_cases h2 : 8 < s.size
  · have HV : Hid (cmB n s v = ByteArray.empty) := if_neg (by unfold cmOk; rw [decide_eq_false (p := 1 ≤ s.size ∧ s.size ≤ 8) (by omega)]; simp)
    have d2 : decide (8 < (s.size : Int)) = true := decide_eq_true (by omega)
    rw [HV.out]
    go_enter Tryz.func223, Tryz.ntmps223
    go_wp2_with fail
    refine hN.mono ?_
    rintro e w1 ⟨rfl, rfl⟩
    go_wp2_with fail
    go_ret
    exact ⟨rfl, Below.refl _ _⟩
  have d2 : decide (8 < (s.size : Int)) = false := decide_eq_false (by omega)
  by_cases h3 : 16 < v.size
  · have HV : Hid (cmB n s v = ByteArray.empty) := if_neg (by unfold cmOk; rw [decide_eq_false (p := v.size ≤ 16) (by omega)]; simp)
    have d3 : decide (16 < (v.size : Int)) = true := decide_eq_true (by omega)
    rw [HV.out]
    go_enter Tryz.func223, Tryz.ntmps223
    go_wp2_with fail
    refine hN.mono ?_
    rintro e w1 ⟨rfl, rfl⟩
    go_wp2_with fail
    go_ret
    exact ⟨rfl, Below.refl _ _⟩
  have d3 : decide (16 < (v.size : Int)) = false := decide_eq_false (by omega)
  have HV : Hid (cmB n s v = digB (cmT n s v)) := if_pos (by unfold cmOk; rw [hk, decide_eq_true (p := 1 ≤ s.size ∧ s.size ≤ 8) (by omega), decide_eq_true (p := v.size ≤ 16) (by omega)]; rfl)
  have hn20 := nrB_le hk
  have t1 := putTextB_le n (by omega)
  have t2 := putTextB_le s (by omega)
  have t3 := putTextB_le v (by omega)
  have HN : Hid (∀ x, Calls Tryz.prog 229 #[.string n] x fun e w' => e = .returned (.string (putTextB n)) ∧ Below x.heap.size x w') := fun x => implPutText_any n x (by unfold maxLen; omega)
  have HS : Hid (∀ x, Calls Tryz.prog 229 #[.string s] x fun e w' => e = .returned (.string (putTextB s)) ∧ Below x.heap.size x w') := fun x => implPutText_any s x (by unfold maxLen; omega)
  have HVv : Hid (∀ x, Calls Tryz.prog 229 #[.string v] x fun e w' => e = .returned (.string (putTextB v)) ∧ Below x.heap.size x w') := fun x => implPutText_any v x (by unfold maxLen; omega)
  have HT : Hid (cmT n s v = two1 ++ putTextB n ++ putTextB s ++ putTextB v) := rfl
  have HD : Hid (∀ x, Tabs x → Calls Tryz.prog 129 #[.slice (some ⟨x.heap.size, 0, none⟩) 4 4] (x.alloc (.cells #[.string ⟨#[2]⟩, .string (putTextB n), .string (putTextB s), .string (putTextB v)] 9)) fun e w' => e = .returned (.string (digB (cmT n s v))) ∧ Below x.heap.size x w') := fun x hx => by
    rw [HT.out]
    exact digFour_any _ _ _ x hx (by omega) (by omega) (by omega)
  rw [HV.out]
  clear HT HV
  generalize digB (cmT n s v) = O at *
  generalize putTextB n = A at *
  generalize putTextB s = B at *
  generalize putTextB v = C at *
  clear hk h1 h2 h3 hn20 t1 t2 t3
  go_enter Tryz.func223, Tryz.ntmps223
  go_wp2_with fail
  refine hN.mono ?_
  rintro e w1 ⟨rfl, rfl⟩
  go_wp2_with fail
  refine (HN.out w1).mono ?_
  rintro e w2 ⟨rfl, b2⟩
  go_wp2_with fail
  refine (HS.out w2).mono ?_
  rintro e w3 ⟨rfl, b3⟩
  have b3 := chainB b2 b3
  go_wp2_with fail
  refine (HVv.out w3).mono ?_
  rintro e w4 ⟨rfl, b4⟩
  have b4 := chainB b3 b4
  go_wp2_with fail
  refine (HD.out w4 (HTb.out.to b4)).mono ?_
  rintro e w5 ⟨rfl, b5⟩
  have b5 := chainB b4 b5
  go_wp2_with fail
  go_ret
  exact ⟨rfl, b5⟩
set_option maxHeartbeats 1000000 in
theorem presentField_any (n s v : ByteArray) (w : World) (hT : Tabs w) (hn : n.size ≤ maxLen) (hs : s.size ≤ maxLen) (hv : v.size ≤ maxLen) : Calls Tryz.prog 216 #[.string n, .string s, .string v] w fun e w' => e = .returned (.agg #[.string n, .string (cmB n s v), .string s, .string v, .bool false]) ∧ Below w.heap.size w w' := by
  obtain ⟨W1, hW1⟩ : ∃ W1, W1 = w.alloc (.cells #[.string ⟨#[]⟩, .string ⟨#[]⟩, .string ⟨#[]⟩, .string ⟨#[]⟩, .bool false] 122) := ⟨_, rfl⟩
  have HW1 : Hid (W1 = w.alloc (.cells #[.string ⟨#[]⟩, .string ⟨#[]⟩, .string ⟨#[]⟩, .string ⟨#[]⟩, .bool false] 122)) := hW1
  have B1 : Hid (Below w.heap.size w W1) := by rw [hW1]; exact (Below.refl _ _).alloc (Nat.le_refl _) _
  have K1 : Hid (Bxs W1 w.heap.size 122 #[.string ⟨#[]⟩, .string ⟨#[]⟩, .string ⟨#[]⟩, .string ⟨#[]⟩, .bool false]) := by rw [hW1]; exact Bxs.new _ _ _
  have hC := implCommitOf_any n s v W1 (hT.to B1.out) hn hs hv
  have HP : Hid (∀ y x0 x1 x2 x3 x4, Below W1.heap.size W1 y → Below w.heap.size w (((((y.setCell ⟨w.heap.size, 0, none⟩ x0).setCell ⟨w.heap.size, 1, none⟩ x1).setCell ⟨w.heap.size, 2, none⟩ x2).setCell ⟨w.heap.size, 3, none⟩ x3).setCell ⟨w.heap.size, 4, none⟩ x4)) := fun y x0 x1 x2 x3 x4 hb => below_set5 (chainB B1.out hb) (Nat.le_refl _) x0 x1 x2 x3 x4
  clear hW1 hT
  generalize cmB n s v = O at *
  go_enter Tryz.func216, Tryz.ntmps216
  go_wp2_with fail
  rw [← HW1.out]
  refine hC.mono ?_
  rintro e y ⟨rfl, b1⟩
  have K2 := K1.out.below b1
  obtain ⟨k0, k1, k2, k3, k4⟩ := K2.five
  have f0 := K2.fr 0
  have f1 := K2.fr 1
  have f2 := K2.fr 2
  have f3 := K2.fr 3
  have f4 := K2.fr 4
  have HE := fun x0 x1 x2 x3 x4 => HP.out y x0 x1 x2 x3 x4 b1
  clear K2 HP b1
  go_wp2_with fail
  refine bodyPost_ret (v := .agg #[.string n, .string O, .string s, .string v, .bool false]) (by simp [results, Tryz.results216, go_sem, k0, k1, k2, k3, k4]) rfl ?_
  exact ⟨rfl, HE _ _ _ _ _⟩
/-- areDigests of one text, laid into a new row. -/
theorem areOne_any (c : ByteArray) (w : World) : Calls Tryz.prog 46 #[.slice (some ⟨w.heap.size, 0, none⟩) 1 1] (w.alloc (.cells #[.string c] 9)) fun e w' => e = .returned (.bool (decide (c.size = 32))) ∧ Below w.heap.size w w' := by
  have hb : BlkS (w.alloc (.cells #[.string c] 9)) w.heap.size [c] := alloc_str w [c]
  have b1 : Below w.heap.size w (w.alloc (.cells #[.string c] 9)) := (Below.refl _ _).alloc (Nat.le_refl _) _
  have h := areD_any (some ⟨w.heap.size, 0, none⟩) 1 [c] _ hb.txt (by simp) (by simp)
  have e1 : wideB [c] = decide (c.size = 32) := by
    unfold wideB
    by_cases h : c.size = 32
    · rw [decide_eq_true h]; simp [h]
    · rw [decide_eq_false h]; simp [h]
  rw [e1] at h
  refine Calls.mono h ?_
  rintro e w' ⟨he, rfl⟩
  exact ⟨he, b1⟩
set_option maxHeartbeats 2000000 in
theorem implFieldRight_any (f : Fld) (w : World) (hT : Tabs w) (h1 : f.n.size ≤ maxLen) (h2 : f.c.size ≤ maxLen) (h3 : f.s.size ≤ maxLen) (h4 : f.v.size ≤ maxLen) : Calls Tryz.prog 204 #[.agg #[.string f.n, .string f.c, .string f.s, .string f.v, .bool f.g]] w fun e w' => e = .returned (.bool (fdB f)) ∧ Below w.heap.size w w' := by
  obtain ⟨n, c, s, v, g⟩ := f
  show Calls Tryz.prog 204 #[.agg #[.string n, .string c, .string s, .string v, .bool g]] w _
  have h1 : n.size ≤ maxLen := h1
  have h2 : c.size ≤ maxLen := h2
  have h3 : s.size ≤ maxLen := h3
  have h4 : v.size ≤ maxLen := h4
  obtain ⟨W1, hW1⟩ : ∃ W1, W1 = w.alloc (.cells #[.string n, .string c, .string s, .string v, .bool g] 122) := ⟨_, rfl⟩
  have HW1 : Hid (W1 = w.alloc (.cells #[.string n, .string c, .string s, .string v, .bool g] 122)) := hW1
  have B1 : Hid (Below w.heap.size w W1) := by rw [hW1]; exact (Below.refl _ _).alloc (Nat.le_refl _) _
  have K1 : Hid (Bxs W1 w.heap.size 122 #[.string n, .string c, .string s, .string v, .bool g]) := by rw [hW1]; exact Bxs.new _ _ _
  have HTb : Hid (Tabs W1) := hT.to B1.out
  have hN := implNameRight_any n W1 h1
  have hA := areOne_any c W1
  have HG : Hid (∀ x, Calls Tryz.prog 210 #[.string n, .string c] x fun e w' => e = .returned (.agg #[.string n, .string c, .string ByteArray.empty, .string ByteArray.empty, .bool true]) ∧ Below x.heap.size x w') := fun x => goneField_any n c x
  have HC : Hid (∀ x, Tabs x → Calls Tryz.prog 216 #[.string n, .string s, .string v] x fun e w' => e = .returned (.agg #[.string n, .string (cmB n s v), .string s, .string v, .bool false]) ∧ Below x.heap.size x w') := fun x hx => presentField_any n s v x hx h1 h3 h4
  have HF : Hid (fdB ⟨n, c, s, v, g⟩ = (nrB n && (decide (c.size = 32) && (if g = true then emB s && emB v else c.toList == (cmB n s v).toList)))) := rfl
  have HX : Hid (∀ x, Below W1.heap.size W1 x → x.cell? ⟨w.heap.size, 0, none⟩ = some (.string n) ∧ x.cell? ⟨w.heap.size, 1, none⟩ = some (.string c) ∧ x.cell? ⟨w.heap.size, 2, none⟩ = some (.string s) ∧ x.cell? ⟨w.heap.size, 3, none⟩ = some (.string v) ∧ x.cell? ⟨w.heap.size, 4, none⟩ = some (.bool g)) := fun x hb => ⟨(K1.out.below hb).cell 0, (K1.out.below hb).cell 1, (K1.out.below hb).cell 2, (K1.out.below hb).cell 3, (K1.out.below hb).cell 4⟩
  obtain ⟨x0, x1, x2, x3, x4⟩ := HX.out W1 (Below.refl _ _)
  have y0 := x0
  rw [hW1] at y0
  unfold maxLen at h1 h2 h3 h4
  clear hW1 hT
  rw [HF.out]
  cases hk : nrB n with
  | false =>
    rw [hk] at hN
    rw [Bool.false_and]
    go_enter Tryz.func204, Tryz.ntmps204
    go_wp2_with fail
    rw [← HW1.out]
    refine hN.mono ?_
    rintro e w1 ⟨rfl, rfl⟩
    go_wp2_with fail
    go_ret
    exact ⟨rfl, B1.out⟩
  | true =>
  rw [hk] at hN
  rw [Bool.true_and]
  generalize decide (c.size = 32) = bc at *
  cases bc with
  | false =>
    rw [Bool.false_and]
    go_enter Tryz.func204, Tryz.ntmps204
    go_wp2_with fail
    rw [← HW1.out]
    refine hN.mono ?_
    rintro e w1 ⟨rfl, rfl⟩
    go_wp2_with fail
    refine hA.mono ?_
    rintro e w2 ⟨rfl, b2⟩
    go_wp2_with fail
    go_ret
    exact ⟨rfl, chainB B1.out b2⟩
  | true =>
  rw [Bool.true_and]
  cases g with
  | true =>
    rw [if_pos rfl]
    have EQ : ∀ w, (binOp .eql 122 (.agg #[.string n, .string c, .string s, .string v, .bool true]) (.agg #[.string n, .string c, .string ByteArray.empty, .string ByteArray.empty, .bool true])).run Tryz.prog w = .ok (.bool (emB s && emB v)) w := fun w => by rw [eql_fld, eqF_gone]
    generalize (emB s && emB v) = R at *
    go_enter Tryz.func204, Tryz.ntmps204
    go_wp2_with fail
    rw [← HW1.out]
    refine hN.mono ?_
    rintro e w1 ⟨rfl, rfl⟩
    go_wp2_with fail
    refine hA.mono ?_
    rintro e w2 ⟨rfl, b2⟩
    clear x0 x1 x2 x3 x4 y0
    obtain ⟨x0, x1, x2, x3, x4⟩ := HX.out w2 b2
    have BR : Hid (Below w1.heap.size w1 w2.drew) := b2.drew
    go_wp2_with fail
    go_region_held3 (fun w' => w'.cell? ⟨w.heap.size, 0, none⟩ = some (.string n) ∧ w'.cell? ⟨w.heap.size, 1, none⟩ = some (.string c) ∧ w'.cell? ⟨w.heap.size, 2, none⟩ = some (.string s) ∧ w'.cell? ⟨w.heap.size, 3, none⟩ = some (.string v) ∧ w'.cell? ⟨w.heap.size, 4, none⟩ = some (.bool true)) ((first | exact HX.out _ BR.out | exact HX.out _ z1)) (first
      | (go_at_call 210; with_reducible refine (HG.out _).mono ?_; rintro e x9 ⟨rfl, z0⟩; have z1 : Below w1.heap.size w1 x9 := chainB BR.out z0))
    all_goals
      go_wp2_with fail
      go_ret
      exact ⟨rfl, chainB B1.out z1⟩
  | false =>
    rw [if_neg (by exact Bool.false_ne_true)]
    obtain ⟨C, hC⟩ : ∃ C, C = cmB n s v := ⟨_, rfl⟩
    rw [← hC] at HC ⊢
    clear hC HF
    have EQ : ∀ w, (binOp .eql 122 (.agg #[.string n, .string c, .string s, .string v, .bool false]) (.agg #[.string n, .string C, .string s, .string v, .bool false])).run Tryz.prog w = .ok (.bool (c.toList == C.toList)) w := fun w => by rw [eql_fld, eqF_there]
    generalize (c.toList == C.toList) = R at *
    go_enter Tryz.func204, Tryz.ntmps204
    go_wp2_with fail
    rw [← HW1.out]
    refine hN.mono ?_
    rintro e w1 ⟨rfl, rfl⟩
    go_wp2_with fail
    refine hA.mono ?_
    rintro e w2 ⟨rfl, b2⟩
    clear x0 x1 x2 x3 x4 y0
    obtain ⟨x0, x1, x2, x3, x4⟩ := HX.out w2 b2
    have BR : Hid (Below w1.heap.size w1 w2.drew) := b2.drew
    go_wp2_with fail
    go_region_held3 (fun w' => w'.cell? ⟨w.heap.size, 0, none⟩ = some (.string n) ∧ w'.cell? ⟨w.heap.size, 1, none⟩ = some (.string c) ∧ w'.cell? ⟨w.heap.size, 2, none⟩ = some (.string s) ∧ w'.cell? ⟨w.heap.size, 3, none⟩ = some (.string v) ∧ w'.cell? ⟨w.heap.size, 4, none⟩ = some (.bool false)) ((first | exact HX.out _ BR.out | exact HX.out _ z1)) (first
      | (go_at_call 216; with_reducible refine (HC.out _ (HTb.out.to BR.out)).mono ?_; rintro e x9 ⟨rfl, z0⟩; have z1 : Below w1.heap.size w1 x9 := chainB BR.out z0))
    all_goals
      go_wp2_with fail
      go_ret
      exact ⟨rfl, chainB B1.out z1⟩
end Go.Proofs.YtonleickhincgaaGreatDoor
/-
  Of two texts: not less is less the other way round, or alike.
-/
namespace Go.Proofs.YtonleickhincgaaGreatDoor
open Go.RowKit
set_option linter.unusedVariables false

theorem bl_not : ∀ (x y : List UInt8), (Op.bytesLess y x || y == x) = !Op.bytesLess x y
  | [], [] => rfl
  | [], b :: y => by simp [Op.bytesLess]
  | a :: x, [] => by simp [Op.bytesLess]
  | a :: x, b :: y => by
    have ih := bl_not x y
    simp only [Op.bytesLess]
    by_cases h1 : a < b
    · have h2 : ¬ b < a := UInt8.lt_asymm h1
      have h3 : ¬ b = a := fun h => by subst h; exact UInt8.lt_irrefl _ h1
      simp [h1, h2, h3]
    · by_cases h2 : b < a
      · have h3 : ¬ a = b := fun h => by subst h; exact UInt8.lt_irrefl _ h2
        simp [h1, h2, h3]
      · have h3 : a = b := UInt8.le_antisymm (UInt8.not_lt.1 h2) (UInt8.not_lt.1 h1)
        subst h3
        simpa [h1] using ih
end Go.Proofs.YtonleickhincgaaGreatDoor
