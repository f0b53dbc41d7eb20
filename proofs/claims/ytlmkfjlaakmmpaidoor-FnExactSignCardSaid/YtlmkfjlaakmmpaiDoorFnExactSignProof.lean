/-
  For every two texts and every number the law FnExactSign returns true: the program's Sign answers as the specification's, and its answer owns its memory, behind another call too; the card ties the two listed tables, firstState and roundNums, to the program's text.
  Conditions: none of mine; the form's own reach; the two tables as the program's text lays them (the given tie). The card speaks of the pruned copy of the project that the seat names.
-/
import Derived.Test.YtlmkfjlaakmmpaiDoorCards
import Derived.Test.YtlmkfjlaakmmpaiDoorTie
import Derived.Test.YtlmkfjlaakmmpaiDoorImplVerImplSign
import Derived.Test.YtlmkfjlaakmmpaiDoorSignMath
import Derived.Test.YtlmkfjlaakmmpaiDoorSignGSignV
import Derived.Test.YtlmkfjlaakmmpaiDoorLawSLawSGBox3LawSig
import Derived.Test.YtlmkfjlaakmmpaiDoorLawSigM
import Derived.Test.YtlmkfjlaakmmpaiDoorTabsOf
import Derived.WalkKit
import Derived.ProofKit
import Derived.OpenShut
import Derived.OpenVars
import Derived.ShutString
import Derived.LaidHandle
import Derived.LaidLaws
import Derived.Deep.DeepHandedRow
import Derived.ChangeOld
import Derived.Below
namespace Go.Proofs.YtlmkfjlaakmmpaiDoor.fnExactSign
open Go.ChangeShapes Go.WideShapes Go.ChangeAt Go.RowKit
open Go.ChangeMaps (open_string shut_string)
set_option linter.unusedVariables false
set_option maxRecDepth 100000

theorem own : ownKnob Tryd.prog.godebug = none := by kernel_rfl
theorem laidOut : laidOutB Tryd.prog = true := by kernel_rfl

theorem lenE (seed : ByteArray) (key : Int) (t : ByteArray) : (sgE seed key t).length ≤ 6 := by
  unfold sgE; split
  · rw [endsTo_len]; exact Nat.le_refl _
  · simp
theorem lenP (seed : ByteArray) (key : Int) (t : ByteArray) : (sgP seed key t).length ≤ 3 := by
  unfold sgP; split
  · rename_i h
    obtain ⟨_, hk, _⟩ := signOk_parts h
    rw [pathB_four _ (pubsB_len _) _ (by omega)]; omega
  · simp
theorem marksN_len (s n : Nat) : (marksN s n).length = n := by simp [marksN]
theorem txt_marks {w : World} {base n s c : Nat} {p : Option Addr} (h : w.ownsRow base 9 1 (.slice p n c) n (strRow (marksN s n))) : TxtAt w p (marksN s n) := by
  have h' : w.ownsRow base 9 1 (.slice p n c) (marksN s n).length (strRow (marksN s n)) := by rw [marksN_len]; exact h
  obtain ⟨q, c', e, _, ht⟩ := ownS_form h'
  rw [marksN_len] at e
  cases e
  exact ht
theorem txt_grown {w0 w w' : World} {row : Option Nat} {p : Option Addr} {L : List ByteArray} (h0 : TxtAt w0 p L) (h : TxtAt w p L) (hg : w.grownBy w' row) (hr : ∀ j, row = some j → w0.heap.size ≤ j) : TxtAt w' p L := by
  intro i hi
  obtain ⟨b, off, e, hb, hc⟩ := h i hi
  obtain ⟨b', off', e', hb', _⟩ := h0 i hi
  subst e
  cases e'
  exact ⟨b, off, rfl, Nat.lt_of_lt_of_le hb hg.size, hg.cell hc (fun e => by have := hr b e.symm; omega)⟩
set_option maxRecDepth 20000 in
set_option maxHeartbeats 4000000 in
theorem walk (seed : ByteArray) (key : Int) (text : ByteArray) (w : World) (ws : seed.size ≤ maxLen) (wk : (Lit.int .i64 key).wf = true) (wt : text.size ≤ maxLen) (hg : Tabs w) :
    Calls Tryd.prog 4 #[.string seed, .int .i64 key, .string text] w fun e w' => e = .returned (.bool true) ∧ Below w.heap.size w w' := by
  have HT : Hid (Tabs w) := hg
  clear hg wk
  unfold maxLen at ws wt
  by_cases hbs : 1048576 < seed.size
  · have d1 : decide (1048576 < (seed.size : Int)) = true := decide_eq_true (by omega)
    go_enter Tryd.func4, Tryd.ntmps4
    go_wp2_with fail
    go_ret
    exact ⟨rfl, Below.refl _ _⟩
  have d1 : decide (1048576 < (seed.size : Int)) = false := decide_eq_false (by omega)
  by_cases hbt : 1048576 < text.size
  · have d2 : decide (1048576 < (text.size : Int)) = true := decide_eq_true (by omega)
    go_enter Tryd.func4, Tryd.ntmps4
    go_wp2_with fail
    go_ret
    exact ⟨rfl, Below.refl _ _⟩
  have d2 : decide (1048576 < (text.size : Int)) = false := decide_eq_false (by omega)
  have hE := lenE seed key text
  have hP := lenP seed key text
  have hS := specSign_any seed key text w (by omega) (by omega)
  have hI := fun x hT => implSign_any seed key text x hT (by omega) (by omega)
  generalize sgK seed key text = K at *
  generalize sgE seed key text = E at *
  generalize sgP seed key text = P at *
  go_enter Tryd.func4, Tryd.ntmps4
  go_wp2_with fail
  refine hS.mono ?_
  rintro e w1 ⟨v1, v2, rfl, o1, o2, _, b1⟩
  obtain ⟨p1, c1, rfl, m1, t1⟩ := ownS_form o1
  obtain ⟨p2, c2, rfl, m2, t2⟩ := ownS_form o2
  obtain ⟨W2, hW2⟩ : ∃ W2, W2 = w1.alloc (.cells #[.int .i64 K, .slice p1 E.length c1, .slice p2 P.length c2] 26) := ⟨_, rfl⟩
  have HW2 : Hid (W2 = w1.alloc (.cells #[.int .i64 K, .slice p1 E.length c1, .slice p2 P.length c2] 26)) := hW2
  have ba : Below w1.heap.size w1 W2 := by rw [hW2]; exact (Below.refl _ _).alloc (Nat.le_refl _) _
  have A2 : Hid (B3 W2 w1.heap.size 26 (.int .i64 K) (.slice p1 E.length c1) (.slice p2 P.length c2)) := by rw [hW2]; exact B3.new _ _ _ _ _
  have hA2 := A2.out.lt
  have T1 : Hid (TxtAt W2 p1 E) := t1.below ba
  have T2 : Hid (TxtAt W2 p2 P) := t2.below ba
  have B2 : Hid (Below w.heap.size w W2) := chainB b1 ba
  have h2 := hI W2 (HT.out.below B2.out HT.out.1)
  clear hS hW2 ba o1 o2 t1 t2 b1
  go_wp2_with fail
  rw [← HW2.out]
  refine h2.mono ?_
  rintro e w3 ⟨v1, v2, rfl, o1, o2, hne, b3⟩
  obtain ⟨q1, k1, rfl, n1, _⟩ := ownS_form o1
  obtain ⟨q2, k2, rfl, n2, _⟩ := ownS_form o2
  obtain ⟨W4, hW4⟩ : ∃ W4, W4 = w3.alloc (.cells #[.int .i64 K, .slice q1 E.length k1, .slice q2 P.length k2] 26) := ⟨_, rfl⟩
  have HW4 : Hid (W4 = w3.alloc (.cells #[.int .i64 K, .slice q1 E.length k1, .slice q2 P.length k2] 26)) := hW4
  have ba : Below w3.heap.size w3 W4 := by rw [hW4]; exact (Below.refl _ _).alloc (Nat.le_refl _) _
  have G4 : Hid (B3 W4 w3.heap.size 26 (.int .i64 K) (.slice q1 E.length k1) (.slice q2 P.length k2)) := by rw [hW4]; exact B3.new _ _ _ _ _
  have b4 := chainB b3 ba
  have A4 : Hid (B3 W4 w1.heap.size 26 (.int .i64 K) (.slice p1 E.length c1) (.slice p2 P.length c2)) := A2.out.below b4
  have O1 : Hid (W4.ownsRow W2.heap.size 9 1 (.slice q1 E.length k1) E.length (strRow E)) := ownS_below o1 ba
  have O2 : Hid (W4.ownsRow W2.heap.size 9 1 (.slice q2 P.length k2) P.length (strRow P)) := ownS_below o2 ba
  have HNe : Hid ((Value.slice q2 P.length k2).ownBlock = none ∨ (Value.slice q2 P.length k2).ownBlock ≠ (Value.slice q1 E.length k1).ownBlock) := by
    rcases hne with h | h
    · cases h1 : (Value.slice q2 P.length k2).ownBlock with
      | none => exact .inl rfl
      | some b => exact .inr (by rw [h]; simp)
    · exact .inr (fun e => h e.symm)
  have B4 : Hid (Below W2.heap.size W2 W4) := b4
  have x0 := A4.out.c0
  have x1 := A4.out.c1
  have x2 := A4.out.c2
  obtain ⟨_, _, e1, _, u1⟩ := ownS_form O1.out
  cases e1
  obtain ⟨_, _, e2, _, u2⟩ := ownS_form O2.out
  cases e2
  have hQ := eqSig_any K q1 q2 p1 p2 k1 k2 c1 c2 E P W4 u1 u2 (T1.out.below B4.out) (T2.out.below B4.out) (by omega) (by omega) n1 n2 m1 m2
  rw [HW4.out] at x0 x1 x2
  clear h2 hW4 ba o1 o2 b3 b4 u1 u2 hne A2 HW2
  go_wp2_with fail
  rw [← HW4.out]
  refine hQ.mono ?_
  rintro e w5 ⟨rfl, b5⟩
  have A5 := A4.out.below b5
  have G5 := G4.out.below b5
  have O1' := ownS_below O1.out b5
  have O2' := ownS_below O2.out b5
  have B5 := chainB B4.out b5
  have y0 := G5.c0
  have y1 := G5.c1
  have y2 := G5.c2
  have hM := markSig_any K W2.heap.size q1 q2 k1 k2 E P w5 O1' O2' HNe.out (by omega)
  have T1' := T1.out.below B5
  have T2' := T2.out.below B5
  clear hQ b5 x0 x1 x2 A4 G4 O1 O2 HW4
  go_wp2_with fail
  refine hM.mono ?_
  rintro e w6 ⟨rfl, M1, M2, wm, g1, g2⟩
  have r1 : ∀ j, (Value.slice q1 E.length k1).ownBlock = some j → W2.heap.size ≤ j := fun j hj => (O1'.lt j hj).1
  have r2 : ∀ j, (Value.slice q2 P.length k2).ownBlock = some j → W2.heap.size ≤ j := fun j hj => (O2'.lt j hj).1
  have A6 : Hid (B3 w6 w1.heap.size 26 (.int .i64 K) (.slice p1 E.length c1) (.slice p2 P.length c2)) := (A5.grown g1 (fun e => by have := r1 _ e; omega)).grown g2 (fun e => by have := r2 _ e; omega)
  have G6 : Hid (B3 w6 w3.heap.size 26 (.int .i64 K) (.slice q1 E.length k1) (.slice q2 P.length k2)) := (G5.grown g1 (G5.ne (by decide) O1')).grown g2 (G5.ne (by decide) O2')
  have S1 : Hid (TxtAt w6 p1 E) := txt_grown T1.out (txt_grown T1.out T1' g1 r1) g2 r2
  have S2 : Hid (TxtAt w6 p2 P) := txt_grown T2.out (txt_grown T2.out T2' g1 r1) g2 r2
  have hb5 := chainB B2.out B5
  have hb2 := B2.out.size
  have hbm := hb5.grown g1 hb5.size (fun j hj => by have := r1 j hj; omega)
  have B6 : Hid (Below w.heap.size w w6) := hbm.grown g2 hbm.size (fun j hj => by have := r2 j hj; omega)
  have N1 : Hid (w6.ownsRow W2.heap.size 9 1 (.slice q1 E.length k1) E.length (strRow (marksN 1 E.length))) := M1
  have N2 : Hid (w6.ownsRow W2.heap.size 9 1 (.slice q2 P.length k2) P.length (strRow (marksN (E.length + 1) P.length))) := M2
  have hH := heldSig_any K q1 q2 k1 k2 E.length P.length w6 (txt_marks M1) (txt_marks M2) (by omega) n1 n2
  have d3 : decide ((P.length : Int) + ((E.length : Int) + 1) < 0) = false := decide_eq_false (by omega)
  have z0 := G6.out.c0
  have z1 := G6.out.c1
  have z2 := G6.out.c2
  clear hM y0 y1 y2 A5 G5 O1' O2' B5 T1' T2' M1 M2 g1 g2 r1 r2 hb5 hbm hb2 HNe T1 T2 B4
  go_wp2_with fail
  refine hH.mono ?_
  rintro e w7 ⟨rfl, b7⟩
  have A7 : Hid (B3 w7 w1.heap.size 26 (.int .i64 K) (.slice p1 E.length c1) (.slice p2 P.length c2)) := A6.out.below b7
  have G7 : Hid (B3 w7 w3.heap.size 26 (.int .i64 K) (.slice q1 E.length k1) (.slice q2 P.length k2)) := G6.out.below b7
  have S3 : Hid (TxtAt w7 p1 E) := S1.out.below b7
  have S4 : Hid (TxtAt w7 p2 P) := S2.out.below b7
  have N3 : Hid (w7.ownsRow W2.heap.size 9 1 (.slice q1 E.length k1) E.length (strRow (marksN 1 E.length))) := ownS_below N1.out b7
  have N4 : Hid (w7.ownsRow W2.heap.size 9 1 (.slice q2 P.length k2) P.length (strRow (marksN (E.length + 1) P.length))) := ownS_below N2.out b7
  have B7 : Hid (Below w.heap.size w w7) := chainB B6.out b7
  have h7 := hI w7 (HT.out.below B7.out HT.out.1)
  clear hH b7 z0 z1 z2 A6 G6 S1 S2 N1 N2 B6 hI B2
  go_wp2_with fail
  refine h7.mono ?_
  rintro e w8 ⟨v1, v2, rfl, o1, o2, _, b8⟩
  obtain ⟨q3, k3, rfl, n3, u3⟩ := ownS_form o1
  obtain ⟨q4, k4, rfl, n4, u4⟩ := ownS_form o2
  obtain ⟨W9, hW9⟩ : ∃ W9, W9 = w8.alloc (.cells #[.int .i64 K, .slice q3 E.length k3, .slice q4 P.length k4] 26) := ⟨_, rfl⟩
  have HW9 : Hid (W9 = w8.alloc (.cells #[.int .i64 K, .slice q3 E.length k3, .slice q4 P.length k4] 26)) := hW9
  have ba : Below w8.heap.size w8 W9 := by rw [hW9]; exact (Below.refl _ _).alloc (Nat.le_refl _) _
  have b9 := chainB b8 ba
  have A9 : Hid (B3 W9 w1.heap.size 26 (.int .i64 K) (.slice p1 E.length c1) (.slice p2 P.length c2)) := A7.out.below b9
  have G9 : Hid (B3 W9 w3.heap.size 26 (.int .i64 K) (.slice q1 E.length k1) (.slice q2 P.length k2)) := G7.out.below b9
  have N5 : Hid (W9.ownsRow W2.heap.size 9 1 (.slice q1 E.length k1) E.length (strRow (marksN 1 E.length))) := ownS_below N3.out b9
  have N6 : Hid (W9.ownsRow W2.heap.size 9 1 (.slice q2 P.length k2) P.length (strRow (marksN (E.length + 1) P.length))) := ownS_below N4.out b9
  have B9 : Hid (Below w.heap.size w W9) := chainB B7.out b9
  have x0 := A9.out.c0
  have x1 := A9.out.c1
  have x2 := A9.out.c2
  have hQ := eqSig_any K q3 q4 p1 p2 k3 k4 c1 c2 E P W9 (u3.below ba) (u4.below ba) (S3.out.below b9) (S4.out.below b9) (by omega) (by omega) n3 n4 m1 m2
  rw [HW9.out] at x0 x1 x2
  clear h7 hW9 ba b8 b9 o1 o2 u3 u4 A7 G7 S3 S4 N3 N4 B7
  go_wp2_with fail
  rw [← HW9.out]
  refine hQ.mono ?_
  rintro e w10 ⟨rfl, b10⟩
  have G10 := G9.out.below b10
  have z0 := G10.c0
  have z1 := G10.c1
  have z2 := G10.c2
  have hH := heldSig_any K q1 q2 k1 k2 E.length P.length w10 (txt_marks (ownS_below N5.out b10)) (txt_marks (ownS_below N6.out b10)) (by omega) n1 n2
  have B10 := chainB B9.out b10
  clear hQ b10 x0 x1 x2 A9 G9 G10 N5 N6 B9 HW9
  go_wp2_with fail
  refine hH.mono ?_
  rintro e w11 ⟨rfl, b11⟩
  have B11 := chainB B10 b11
  clear hH b11 z0 z1 z2
  go_wp2_with fail
  go_ret
  exact ⟨rfl, B11⟩

theorem contract (H : Type) (enc : TypeId × Value → H) (W : World) (base : Nat) (args : Array Value) (ds gs : List (DataW H)) (before : List MemPlace)
    (hval : ∀ (j : Nat) t v, Tryd.f4.params[j]? = some t → args[j]? = some v → Value.okWide Tryd.prog W .any base t v)
    (hW : DataW.Whole enc Tryd.prog Tryd.f4.params.toList Rows.fnExactSignSpec.vars false W args.toList ds gs before) (hL : laidMetH Tryd.prog Rows.fnExactSignRow.laid W) :
    Calls Tryd.prog 4 args W fun e W' => ∃ v, e = .returned v ∧ Rows.fnExactSignSpec.post enc Tryd.prog Tryd.f4 false true false false W args v W' := by
  have hW' := hW
  obtain ⟨p, q, hA0, hV, rfl, hfz, hnd⟩ := hW
  have hA : DataW.TrodAll enc Tryd.prog W 0 (fun _ => true) true Tryd.f4.params.toList args.toList ds p := hA0
  rw [Tryd.params4] at hA hval
  obtain ⟨v0, vs0, d0, ds0, p0, q0, hargs, rfl, rfl, h0, r0⟩ := trodAll_cons hA
  obtain ⟨v1, vs1, d1, ds1, p1, q1, rfl, rfl, rfl, h1, r1⟩ := trodAll_cons r0
  obtain ⟨v2, vs2, d2, ds2, p2, q2, rfl, rfl, rfl, h2, r2⟩ := trodAll_cons r1
  obtain ⟨rfl, rfl, rfl⟩ := trodAll_nil r2
  obtain rfl : args = #[v0, v1, v2] := by cases args; simp_all
  have hV2 : DataW.TrodVars enc Tryd.prog W (fun _ => true) ["loop.example/g00633/impl.firstState", "loop.example/g00633/impl.roundNums"] gs q := hV
  obtain ⟨_, _, _, _, e0, _, _, _, _, _, e1, _, rfl, _⟩ := trodVars_two hV2
  obtain ⟨a0, rfl, rfl, rfl, w0⟩ := open_string Tryd.underlying9 (hval 0 9 v0 rfl rfl) h0
  obtain ⟨a1, rfl, rfl, rfl, w1⟩ := open_int Tryd.underlying2 (hval 1 2 v1 rfl rfl) h1
  obtain ⟨a2, rfl, rfl, rfl, w2⟩ := open_string Tryd.underlying9 (hval 2 9 v2 rfl rfl) h2
  clear hA0
  have hT : Tabs W := tabs_of hL
  refine (walk a0 a1 a2 W w0 w1 w2 hT).mono fun e W' ⟨he, hg⟩ => ?_
  subst he
  exact ⟨_, rfl, _, _, _, [], _, _, hW', (trodAll_cons_mk (shut_bool Tryd.underlying4 _) trodAll_mk0), (trodAll_cons_mk (shut_string Tryd.underlying9 w0) (trodAll_cons_mk (shut_int Tryd.underlying2 w1) (trodAll_cons_mk (shut_string Tryd.underlying9 w2) trodAll_mk0))), Below.trodVars laidOut hg (by kernel_rfl) hV, hg.frame _, fun h => by cases h⟩

/-- The variables' blocks as the initialisers leave them, for the witness. -/
def setTab (zs : List Int) : Obj → Obj
  | .cells _ t frozen => .cells (zs.map (Value.int .u32)).toArray t frozen
  | o => o
noncomputable def wit (os : Os) : World := { World.holding Tryd.prog os ⟨#[], #[], []⟩ with heap := ((World.holding Tryd.prog os ⟨#[], #[], []⟩).heap.modify 0 (setTab startN)).modify 1 (setTab keysN) }

theorem laid_met (os : Os) : laidMetH Tryd.prog Rows.fnExactSignRow.laid ((wit os).forCall (fun _ _ => 0) ⟨#[], #[.string ByteArray.empty, .int .i64 0, .string ByteArray.empty], []⟩).memory :=
  laidMetH_of_parts (laidMet_of_run' 8 (by kernel_rfl) (by kernel_rfl)) (by kernel_rfl)
theorem reads (os : Os) {H : Type} (enc : TypeId × Value → H) : ∃ places, DataW.whole enc Tryd.prog ((wit os).forCall (fun _ _ => 0) ⟨#[], #[.string ByteArray.empty, .int .i64 0, .string ByteArray.empty], []⟩).memory Tryd.f4.params.toList Rows.fnExactSignSpec.vars false #[Value.string ByteArray.empty, Value.int .i64 0, Value.string ByteArray.empty].toList 8 = some ([.lit (.string []), .lit (.int .i64 0), .lit (.string [])], [Rows.laid_loop_example_g00633_impl_firstState, Rows.laid_loop_example_g00633_impl_roundNums], places) := by
  have h : (DataW.whole enc Tryd.prog ((wit os).forCall (fun _ _ => 0) ⟨#[], #[.string ByteArray.empty, .int .i64 0, .string ByteArray.empty], []⟩).memory Tryd.f4.params.toList Rows.fnExactSignSpec.vars false #[Value.string ByteArray.empty, Value.int .i64 0, Value.string ByteArray.empty].toList 8).map (fun x => (x.1, x.2.1)) = some ([.lit (.string []), .lit (.int .i64 0), .lit (.string [])], [Rows.laid_loop_example_g00633_impl_firstState, Rows.laid_loop_example_g00633_impl_roundNums]) := by kernel_rfl
  obtain ⟨⟨a, b, c⟩, hx, hy⟩ := Option.map_eq_some_iff.1 h
  cases hy
  exact ⟨c, hx⟩

set_option maxRecDepth 100000 in
theorem lifted (os : Os) (started : os.Started) (H : Type) (enc : TypeId × Value → H) (F : Stop.Interp) :
    ReturnsInHanded {} Tryd.checked os 4 .any ((OpenSpec.ofChange Rows.fnExactSignSpec).preRow enc Tryd.prog Tryd.f4 Rows.fnExactSignRow.domain false Rows.fnExactSignRow.laid) (((OpenSpec.ofChange Rows.fnExactSignSpec).at F).post enc Tryd.prog Tryd.f4 false true false false) := by
  obtain ⟨places, hx⟩ := reads os enc
  refine returnsInHanded_of_row (C := Tryd.checked) (s := OpenSpec.ofChange Rows.fnExactSignSpec) own started (by kernel_rfl) Tryd.func4
    (witness_row_at (enc := enc) (C := Tryd.checked) false (wit os) #[.string ByteArray.empty, .int .i64 0, .string ByteArray.empty] rfl (by kernel_rfl) (by kernel_rfl) (by kernel_rfl)
      (OpenSpec.preRow_of_cond 8 hx (by kernel_rfl) (fun k hk => by cases hk) (by kernel_rfl) (laid_met os))) ?_
  intro W base args ds gs before hval hW _ _ _ hL _ _
  exact contract H enc W base args ds gs before hval hW hL

theorem said : Rows.FnExactSignSaid :=
  OpenClaim.holds_of_cond 4 Tryd.f4 rfl rfl rfl rfl rfl rfl rfl ⟨rfl, rfl, rfl, rfl, rfl⟩ rfl rfl rfl rfl rfl (by kernel_rfl) Tryd.func4 (by kernel_rfl)
    (of_decide_eq_true (by kernel_rfl)) (by unfold Func.isWrapper; first | (rw [if_pos (by decide +kernel)]; kernel_rfl) | (rw [if_neg (by decide +kernel)]; exact ⟨rfl, rfl⟩))
    (fun os started H enc _ F => by rw [OpenClaim.pre_eq_preRow]; exact lifted os started H enc F)

theorem plain (f : FuncId) (fn : Func) (hf : Tryd.pinned.checked.prog.funcNamed "loop.example/g00633/laws.FnExactSign" = some f) (hfn : Tryd.pinned.checked.prog.funcs[f]? = some fn) :
    Rows.fnExactSignCard.stood.looks = Tryd.pinned.checked.prog.looks [] ∧ ∀ (j : Nat) t, fn.params[j]? = some t → Tryd.pinned.checked.prog.wantsStandIn t = false := by
  obtain rfl : f = 4 := Option.some.inj ((show Tryd.prog.funcNamed "loop.example/g00633/laws.FnExactSign" = some 4 by kernel_rfl).symm.trans hf) |>.symm
  obtain rfl : fn = Tryd.f4 := (Option.some.inj (Tryd.func4.symm.trans hfn)).symm
  refine ⟨by kernel_rfl, fun j t ht => ?_⟩
  rw [Tryd.params4] at ht
  have hm := Array.mem_of_getElem? ht
  have hl : t ∈ ([9, 2, 9] : List TypeId) := by simpa using hm
  simp only [List.mem_cons, List.not_mem_nil, or_false] at hl
  rcases hl with rfl | rfl | rfl
  · exact (show Tryd.prog.wantsStandIn 9 = false by kernel_rfl)
  · exact (show Tryd.prog.wantsStandIn 2 = false by kernel_rfl)
  · exact (show Tryd.prog.wantsStandIn 9 = false by kernel_rfl)

theorem proved : Rows.FnExactSignCardSaid :=
  Claim7.holds_tied_plain_at .later [] _ _ _ _ said (fun _ h => by cases h) (by kernel_rfl) (fun _ h => by cases h) fnExactSign_row_tie rfl ⟨rfl, rfl⟩ (by kernel_rfl) rfl plain (by kernel_rfl)
#print axioms proved
end Go.Proofs.YtlmkfjlaakmmpaiDoor.fnExactSign
