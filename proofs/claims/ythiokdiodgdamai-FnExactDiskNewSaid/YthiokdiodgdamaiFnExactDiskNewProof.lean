/-
  For every number the law FnExactDiskNew returns true: the program's DiskNew answers as the specification's, and its answer owns its memory.
  Conditions: none of mine; the form's own reach. The statement speaks of the pruned copy of the project that the seat names.
-/
import Derived.Test.YthiokdiodgdamaiRows
import Derived.Test.YthiokdiodgdamaiImplDR
import Derived.Test.YthiokdiodgdamaiDskMath
import Derived.Test.YthiokdiodgdamaiDskR
import Derived.Test.YthiokdiodgdamaiDskS
import Derived.Test.YthiokdiodgdamaiDskT
import Derived.Test.YthiokdiodgdamaiLawD
import Derived.Test.YthiokdiodgdamaiLawDM
import Derived.Test.YthiokdiodgdamaiLawDG
import Derived.WalkKit
import Derived.ProofKit
import Derived.OpenShut
import Derived.ShutString
import Derived.ChangeOld
import Derived.Below
import Derived.Handy
import Derived.WalkSpells
namespace Go.Proofs.Ythiokdiodgdamai.fnExactDiskNew
open Go.ChangeShapes Go.WideShapes Go.ChangeAt Go.RowKit
open Go.ChangeMaps (open_string shut_string)
set_option linter.unusedVariables false

theorem own : ownKnob Try.prog.godebug = none := by kernel_rfl
theorem laidOut : laidOutB Try.prog = true := by kernel_rfl

theorem newS_le (n : Int) : (newS n).length ≤ 1048576 := by
  unfold newS
  split
  · rw [List.length_replicate]; omega
  · simp
set_option maxRecDepth 20000 in
set_option maxHeartbeats 8000000 in
theorem walk (n : Int) (w : World) (hwi : (Lit.int .i64 n).wf = true) :
    Calls Try.prog 4 #[.int .i64 n] w fun e w' => e = .returned (.bool true) ∧ Below w.heap.size w w' := by
  obtain ⟨RS, hRS⟩ : ∃ RS, RS = newS n := ⟨_, rfl⟩
  have L1 : RS.length ≤ 1048576 := by rw [hRS]; exact newS_le n
  have hS : Hid (∀ x, Calls Try.prog 11 #[.int .i64 n] x fun e x' => ∃ v1, e = .returned (.agg #[v1, .slice none 0 0]) ∧ DskO x.heap.size RS [] v1 (.slice none 0 0) x' ∧ Below x.heap.size x x') := fun x => (specDiskNew_any n x).mono (by
    rw [hRS]
    rintro e x' ⟨v1, rfl, ho, hb⟩
    refine ⟨v1, rfl, ⟨ho, World.ownsRow_nil _ _ _ _, ?_⟩, hb⟩
    cases h : v1.ownBlock with
    | none => exact .inl rfl
    | some b => exact .inr (fun e => by cases e))
  have hI : Hid (∀ x, Calls Try.prog 12 #[.int .i64 n] x fun e x' => ∃ v1, e = .returned (.agg #[v1, .slice none 0 0]) ∧ DskO x.heap.size RS [] v1 (.slice none 0 0) x' ∧ Below x.heap.size x x') := fun x => (implDiskNew_any n x).mono (by
    rw [hRS]
    rintro e x' ⟨v1, rfl, ho, hb⟩
    refine ⟨v1, rfl, ⟨ho, World.ownsRow_nil _ _ _ _, ?_⟩, hb⟩
    cases h : v1.ownBlock with
    | none => exact .inl rfl
    | some b => exact .inr (fun e => by cases e))
  clear hRS hwi
  go_enter Try.func4, Try.ntmps4
  go_wp2_with fail
  refine (hS.out w).mono ?_
  rintro e w4 ⟨vw1, rfl, oW, b4⟩
  obtain ⟨pw1, cw1, rfl, mw1, -⟩ := ownS_form oW.own1
  have IW : Hid (In2 (.slice pw1 RS.length cw1) (.slice none 0 0) w.heap.size w4.heap.size) := oW.in2
  obtain ⟨W5, hW5⟩ : ∃ W5, W5 = w4.alloc (.cells #[.slice pw1 RS.length cw1, .slice none 0 0] 30) := ⟨_, rfl⟩
  have HW5 : Hid (W5 = w4.alloc (.cells #[.slice pw1 RS.length cw1, .slice none 0 0] 30)) := hW5
  have b5 : Below w4.heap.size w4 W5 := by rw [hW5]; exact (Below.refl _ _).alloc (Nat.le_refl _) _
  have E5 : Hid (Bxs W5 w4.heap.size 30 #[.slice pw1 RS.length cw1, .slice none 0 0]) := by rw [hW5]; exact Bxs.new _ _ _
  have OW5 : Hid (DskO w.heap.size RS [] (.slice pw1 RS.length cw1) (.slice none 0 0) W5) := oW.below b5
  have S4 := b4.size
  have S5 := E5.out.lt
  have B5 := chainB b4 b5
  clear hW5 b4 b5 oW hS
  go_wp2_with fail
  rw [← HW5.out]
  refine (hI.out W5).mono ?_
  rintro e w8 ⟨vg1, rfl, oG, b8⟩
  obtain ⟨pg1, cg1, rfl, mg1, -⟩ := ownS_form oG.own1
  have IG : Hid (In2 (.slice pg1 RS.length cg1) (.slice none 0 0) W5.heap.size w8.heap.size) := oG.in2
  obtain ⟨W9, hW9⟩ : ∃ W9, W9 = w8.alloc (.cells #[.slice pg1 RS.length cg1, .slice none 0 0] 30) := ⟨_, rfl⟩
  have HW9 : Hid (W9 = w8.alloc (.cells #[.slice pg1 RS.length cg1, .slice none 0 0] 30)) := hW9
  have b9 : Below w8.heap.size w8 W9 := by rw [hW9]; exact (Below.refl _ _).alloc (Nat.le_refl _) _
  have G9 : Hid (Bxs W9 w8.heap.size 30 #[.slice pg1 RS.length cg1, .slice none 0 0]) := by rw [hW9]; exact Bxs.new _ _ _
  have S8 := b8.size
  have S9 := G9.out.lt
  have b89 := chainB b8 b9
  have E9 : Hid (Bxs W9 w4.heap.size 30 #[.slice pw1 RS.length cw1, .slice none 0 0]) := E5.out.below b89
  have OW9 : Hid (DskO w.heap.size RS [] (.slice pw1 RS.length cw1) (.slice none 0 0) W9) := OW5.out.below b89
  have OG9 : Hid (DskO W5.heap.size RS [] (.slice pg1 RS.length cg1) (.slice none 0 0) W9) := oG.below b9
  have B9 := chainB B5 b89
  obtain ⟨y0, y1⟩ := E9.out.two
  rw [hW9] at y0 y1
  have h9 := eqDisk_any pg1 none pw1 none cg1 0 cw1 0 RS [] W9 (DskO.read (p2 := none) (c2 := 0) OG9.out).1 (PndAt.nil _ _) (DskO.read (p2 := none) (c2 := 0) OW9.out).1 (PndAt.nil _ _) L1 (Nat.zero_le _) mg1 (Nat.zero_le _) mw1 (Nat.zero_le _)
  clear hW9 b8 b9 b89 oG E5 OW5
  go_wp2_with fail
  rw [← HW9.out] at y0 y1 ⊢
  refine h9.mono ?_
  rintro e w14 ⟨rfl, b14⟩
  have E14 : Hid (Bxs w14 w4.heap.size 30 #[.slice pw1 RS.length cw1, .slice none 0 0]) := E9.out.below b14
  have G14 : Hid (Bxs w14 w8.heap.size 30 #[.slice pg1 RS.length cg1, .slice none 0 0]) := G9.out.below b14
  have OW14 : Hid (DskO w.heap.size RS [] (.slice pw1 RS.length cw1) (.slice none 0 0) w14) := OW9.out.below b14
  have OG14 : Hid (DskO W5.heap.size RS [] (.slice pg1 RS.length cg1) (.slice none 0 0) w14) := OG9.out.below b14
  have S14 := b14.size
  have B14 := chainB B9 b14
  have hm14 := markDisk_any W5.heap.size pg1 none cg1 0 RS [] w14 OG14.out.own1 OG14.out.own2 OG14.out.ne L1 (Nat.zero_le _)
  clear y0 y1 b14 E9 G9 OW9 OG9 h9
  obtain ⟨z0, z1⟩ := G14.out.two
  go_wp2_with fail
  refine hm14.mono ?_
  rintro e w15 ⟨rfl, oM1, oM2, wm, gm1, gm2⟩
  have gr := Gr2.mk2 gm1 gm2
  have E15 : Hid (Bxs w15 w4.heap.size 30 #[.slice pw1 RS.length cw1, .slice none 0 0]) := E14.out.gr2 gr (IG.out.off (.inl (by omega))).1 (IG.out.off (.inl (by omega))).2
  have G15 : Hid (Bxs w15 w8.heap.size 30 #[.slice pg1 RS.length cg1, .slice none 0 0]) := G14.out.gr2 gr (IG.out.off (.inr (by omega))).1 (IG.out.off (.inr (by omega))).2
  have OW15 : Hid (DskO w.heap.size RS [] (.slice pw1 RS.length cw1) (.slice none 0 0) w15) := OW14.out.gr2 gr (IW.out.apart IG.out (.inl (by omega)))
  have B15 : Below w.heap.size w w15 := below_gr2 B14 gr B14.size (fun k h => by have := IG.out.1 k h; omega) (fun k h => by have := IG.out.2 k h; omega)
  have hN1 : (marksN 1 RS.length).length = RS.length := by simp [marksN]
  have M15 : Hid (w15.ownsRow W5.heap.size 9 1 (.slice pg1 RS.length cg1) RS.length (strRow (marksN 1 RS.length))) := oM1
  have HM : Hid (∀ x, x.ownsRow W5.heap.size 9 1 (.slice pg1 RS.length cg1) RS.length (strRow (marksN 1 RS.length)) → Calls Try.prog 14 #[.agg #[.slice pg1 RS.length cg1, .slice none 0 0], .int .i64 1] x fun e x' => e = .returned (.int .i64 (2 * ((([] : List Pnd).length : Nat) : Int) + ((RS.length : Int) + 1))) ∧ Below x.heap.size x x') := fun x h => by
    have h' : x.ownsRow W5.heap.size 9 1 (.slice pg1 RS.length cg1) (marksN 1 RS.length).length (strRow (marksN 1 RS.length)) := by rw [hN1]; exact h
    obtain ⟨p', c', e', _, t'⟩ := ownS_form h'
    rw [hN1] at e'
    cases e'
    exact heldDisk_any pg1 none cg1 0 RS.length 0 x t' (PndAt.nil _ _) L1 (Nat.zero_le _) mg1 (Nat.zero_le _)
  clear z0 z1 hm14 gm1 gm2 gr E14 G14 OW14 OG14 oM1 oM2
  obtain ⟨z0, z1⟩ := G15.out.two
  have d10 : decide (2 * ((([] : List Pnd).length : Nat) : Int) + ((RS.length : Int) + 1) < 0) = false := decide_eq_false (by simp; omega)
  have d11 : decide ((RS.length : Int) + 1 < 0) = false := decide_eq_false (by omega)
  go_wp2_with fail
  refine (HM.out _ M15.out).mono ?_
  rintro e w16 ⟨rfl, b16⟩
  have E16 : Hid (Bxs w16 w4.heap.size 30 #[.slice pw1 RS.length cw1, .slice none 0 0]) := E15.out.below b16
  have G16 : Hid (Bxs w16 w8.heap.size 30 #[.slice pg1 RS.length cg1, .slice none 0 0]) := G15.out.below b16
  have OW16 : Hid (DskO w.heap.size RS [] (.slice pw1 RS.length cw1) (.slice none 0 0) w16) := OW15.out.below b16
  have M16 : Hid (w16.ownsRow W5.heap.size 9 1 (.slice pg1 RS.length cg1) RS.length (strRow (marksN 1 RS.length))) := ownS_below M15.out b16
  have B16 := chainB B15 b16
  clear z0 z1 b16 E15 G15 OW15 M15
  go_wp2_with fail
  refine (hI.out w16).mono ?_
  rintro e w18 ⟨vh1, rfl, oH, b18⟩
  obtain ⟨ph1, ch1, rfl, mh1, -⟩ := ownS_form oH.own1
  obtain ⟨W19, hW19⟩ : ∃ W19, W19 = w18.alloc (.cells #[.slice ph1 RS.length ch1, .slice none 0 0] 30) := ⟨_, rfl⟩
  have HW19 : Hid (W19 = w18.alloc (.cells #[.slice ph1 RS.length ch1, .slice none 0 0] 30)) := hW19
  have b19 : Below w18.heap.size w18 W19 := by rw [hW19]; exact (Below.refl _ _).alloc (Nat.le_refl _) _
  have b169 := chainB b18 b19
  have E19 := E16.out.below b169
  have G19 : Hid (Bxs W19 w8.heap.size 30 #[.slice pg1 RS.length cg1, .slice none 0 0]) := G16.out.below b169
  have OW19 := OW16.out.below b169
  have M19 : Hid (W19.ownsRow W5.heap.size 9 1 (.slice pg1 RS.length cg1) RS.length (strRow (marksN 1 RS.length))) := ownS_below M16.out b169
  have OH19 := oH.below b19
  have B19 := chainB B16 b169
  obtain ⟨y0, y1⟩ := E19.two
  rw [hW19] at y0 y1
  have q19 := eqDisk_any ph1 none pw1 none ch1 0 cw1 0 RS [] W19 (DskO.read (p2 := none) (c2 := 0) OH19).1 (PndAt.nil _ _) (DskO.read (p2 := none) (c2 := 0) OW19).1 (PndAt.nil _ _) L1 (Nat.zero_le _) mh1 (Nat.zero_le _) mw1 (Nat.zero_le _)
  clear hW19 b18 b19 b169 E16 G16 OW16 M16 oH OH19 OW19 E19
  go_wp2_with fail
  rw [← HW19.out] at y0 y1 ⊢
  refine q19.mono ?_
  rintro e w20 ⟨rfl, b20⟩
  have G20 := G19.out.below b20
  have h20 := HM.out _ (ownS_below M19.out b20)
  have B20 := chainB B19 b20
  clear y0 y1 q19 b20 G19 M19
  obtain ⟨z0, z1⟩ := G20.two
  go_wp2_with fail
  refine h20.mono ?_
  rintro e w21 ⟨rfl, b21⟩
  have B21 := chainB B20 b21
  clear z0 z1 h20 G20
  go_wp2_with fail
  go_ret
  exact ⟨rfl, B21⟩

set_option maxRecDepth 100000 in
theorem lifted (os : Os) (started : os.Started) (H : Type) (enc : TypeId × Value → H) :
    ReturnsInHanded {} Try.checked os 4 .any (Rows.fnExactDiskNewSpec.pre6 enc Try.prog Try.f4 Rows.fnExactDiskNewRow.domain false) (Rows.fnExactDiskNewSpec.post enc Try.prog Try.f4 false true false false) := by
  refine returnsInHanded_of_change (C := Try.checked) own started (by kernel_rfl) Try.func4
    (ChangeSpec.witness6 (enc := enc) (C := Try.checked) false ⟨#[], #[.int .i64 0], []⟩ 8 (by kernel_rfl) (by kernel_rfl) (by kernel_rfl) (by kernel_rfl)) ?_
  intro W base args ds gs before hval0 hW hcnd _
  have hval : ∀ (j : Nat) t v, Try.f4.params[j]? = some t → args[j]? = some v → Value.okWide Try.prog W .any base t v := hval0
  have hW' := hW
  obtain ⟨p, q, hA0, hV, rfl, hfz, hnd⟩ := hW
  have hA : DataW.TrodAll enc Try.prog W 0 (fun _ => true) true Try.f4.params.toList args.toList ds p := hA0
  rw [Try.params4] at hA hval
  obtain ⟨v0, vs0, d0, ds0, p0, q0, hargs, rfl, rfl, h0, r0⟩ := trodAll_cons hA
  obtain ⟨rfl, rfl, rfl⟩ := trodAll_nil r0
  obtain rfl : args = #[v0] := by cases args; simp_all
  obtain ⟨rfl, rfl⟩ := trodVars_none hV
  obtain ⟨a0, rfl, rfl, rfl, w0⟩ := open_int Try.underlying2 (hval 0 2 v0 rfl rfl) h0
  clear hA0 hval0
  simp only [List.append_nil] at hW'
  refine (walk a0 W w0).mono fun e W' ⟨he, hg⟩ => ?_
  subst he
  exact ⟨_, rfl, _, _, _, [], _, [], hW', (trodAll_cons_mk (shut_bool Try.underlying4 _) trodAll_mk0), (trodAll_cons_mk (shut_int Try.underlying2 w0) trodAll_mk0), rfl, hg.frame _, fun h => by cases h⟩

theorem over : Rows.fnExactDiskNewRow.holds Try.pinned (OpenSpec.ofChange Rows.fnExactDiskNewSpec) :=
  OpenClaim.holds_of_wide 4 Try.f4 rfl rfl rfl rfl rfl rfl rfl ⟨rfl, rfl, rfl, rfl, rfl⟩ rfl rfl rfl rfl rfl (by kernel_rfl) Try.func4 (by kernel_rfl)
    (of_decide_eq_true (by kernel_rfl)) (by unfold Func.isWrapper; first | (rw [if_pos (by decide +kernel)]; kernel_rfl) | (rw [if_neg (by decide +kernel)]; exact ⟨rfl, rfl⟩))
    (fun os started H enc _ => lifted os started H enc)

theorem proved : Rows.FnExactDiskNewSaid :=
  over
#print axioms proved
end Go.Proofs.Ythiokdiodgdamai.fnExactDiskNew
