/-
  For every text the law FnExactShownRead returns true: the program's ShownRead answers as the specification's, and its answer owns its memory; the card ties the two listed tables, firstState and roundNums, to the program's text.
  Conditions: none of mine; the form's own reach; the two tables as the program's text lays them (the given tie). The card speaks of the pruned copy of the project that the seat names.
-/
import Derived.Test.YtefakcpclihaealDoorCards
import Derived.Test.YtefakcpclihaealDoorTie
import Derived.Test.YtefakcpclihaealDoorSlABxKSlBOwnS
import Derived.Test.YtefakcpclihaealDoorFldB
import Derived.Test.YtefakcpclihaealDoorFldP
import Derived.Test.YtefakcpclihaealDoorNumMathFldKFldQ
import Derived.Test.YtefakcpclihaealDoorImplSr
import Derived.Test.YtefakcpclihaealDoorLawM
import Derived.Test.YtefakcpclihaealDoorLawSGLawMG
import Derived.Test.YtefakcpclihaealDoorLawSh
import Derived.Test.YtefakcpclihaealDoorLawSX
import Derived.Test.YtefakcpclihaealDoorLawFXOpFTabsOf
import Derived.WalkKit
import Derived.ProofKit
import Derived.OpenShut
import Derived.OpenVars
import Derived.ShutString
import Derived.LaidHandle
import Derived.LaidLaws
import Derived.Deep.DeepHandedRow
import Derived.ChangeOld
import Derived.Below
namespace Go.Proofs.YtefakcpclihaealDoor.fnExactShownRead
open Go.ChangeShapes Go.WideShapes Go.ChangeAt Go.RowKit
open Go.ChangeMaps (open_string shut_string)
set_option linter.unusedVariables false
set_option maxRecDepth 100000

theorem own : ownKnob Tryd.prog.godebug = none := by kernel_rfl
theorem laidOut : laidOutB Tryd.prog = true := by kernel_rfl

/-- What stays as it was while rows are marked: two boxes of answers, and what a predicate says. -/
structure MkT (w : World) (T : TypeId) (cw cg : Array Value) (bw bg : Nat) (P : World → Prop) (x : World) : Prop where
  bel : Below w.heap.size w x
  bw : Bxs x bw T cw
  bg : Bxs x bg T cg
  ps : P x
theorem MkT.below {w : World} {T : TypeId} {cw cg : Array Value} {bw bg : Nat} {P : World → Prop} {x y : World} (h : MkT w T cw cg bw bg P x) (hP : ∀ x y, P x → Below x.heap.size x y → P y) (hb : Below x.heap.size x y) : MkT w T cw cg bw bg P y :=
  ⟨chainB h.bel hb, h.bw.below hb, h.bg.below hb, hP _ _ h.ps hb⟩
theorem MkT.grown {w : World} {T : TypeId} {cw cg : Array Value} {bw bg : Nat} {P : World → Prop} {x y : World} {row : Option Nat} (h : MkT w T cw cg bw bg P x) (hg : x.grownBy y row) (hr : ∀ j, row = some j → w.heap.size ≤ j ∧ j ≠ bw ∧ j ≠ bg) (hP : P y) : MkT w T cw cg bw bg P y :=
  ⟨h.bel.grown hg h.bel.size (fun j hj => (hr j hj).1), h.bw.grown hg (fun e => (hr _ e.symm).2.1 rfl), h.bg.grown hg (fun e => (hr _ e.symm).2.2 rfl), hP⟩
theorem srO_len (t : ByteArray) : (srO t).ns.length ≤ 3 ∧ (srO t).cs.length ≤ 3 := by
  unfold srO
  split
  · rename_i h
    unfold srC at h
    split at h
    · cases h
    · split at h
      · cases h
      · rename_i h2
        have hok : sbOk (srP t) = true := by
          cases hb : sbOk (srP t) with
          | true => rfl
          | false =>
            refine absurd (Or.inr ?_) h2
            have he : sbB (srP t) = ByteArray.empty := if_neg (by rw [hb]; exact Bool.false_ne_true)
            rw [he]
            cases ht : t.toList with
            | nil => exact .inl rfl
            | cons a l => exact .inr (by rw [show ByteArray.empty.toList = [] by decide +kernel]; rfl)
        obtain ⟨h3, h4, -⟩ := sbOk_parts hok
        exact ⟨h4, by rw [h3]; exact h4⟩
  · exact ⟨Nat.zero_le _, Nat.zero_le _⟩
set_option maxHeartbeats 4000000 in
theorem walk (a0 : ByteArray) (w : World) (w0 : a0.size ≤ maxLen) (hg : Tabs w) :
    Calls Tryd.prog 7 #[.string a0] w fun e w' => e = .returned (.bool true) ∧ Below w.heap.size w w' := by
  have HG : Hid (Tabs w) := hg
  have hLL := srO_len a0
  have HS : Hid (∀ x, Calls Tryd.prog 29 #[.string a0] x fun e x' => ∃ p c q d, e = .returned (.agg #[.string (srO a0).k, .int .i64 (srO a0).at_, .slice p (srO a0).ns.length c, .slice q (srO a0).cs.length d, .int .i64 (srO a0).ix, .string (srO a0).s, .string (srO a0).v, .int .i64 (srC a0)]) ∧ Sh2 x.heap.size p c (srO a0).ns q d (srO a0).cs x' ∧ Below x.heap.size x x') := fun x => (specShownRead_any a0 x w0).mono (by rintro e x2 ⟨v1, v2, rfl, ho, hb⟩; obtain ⟨p, c, q, d, rfl, rfl, h2⟩ := Sh2.of ho; exact ⟨p, c, q, d, rfl, h2, hb⟩)
  have HI : Hid (∀ x, Tabs x → Calls Tryd.prog 30 #[.string a0] x fun e x' => ∃ p c q d, e = .returned (.agg #[.string (srO a0).k, .int .i64 (srO a0).at_, .slice p (srO a0).ns.length c, .slice q (srO a0).cs.length d, .int .i64 (srO a0).ix, .string (srO a0).s, .string (srO a0).v, .int .i64 (srC a0)]) ∧ Sh2 x.heap.size p c (srO a0).ns q d (srO a0).cs x' ∧ Below x.heap.size x x') := fun x hT => (implShownRead_any a0 x hT w0).mono (by rintro e x2 ⟨v1, v2, rfl, ho, hb⟩; obtain ⟨p, c, q, d, rfl, rfl, h2⟩ := Sh2.of ho; exact ⟨p, c, q, d, rfl, h2, hb⟩)
  generalize srC a0 = C0 at *
  generalize srO a0 = o at *
  obtain ⟨K, A0, NS, CS, IX, SA, VA⟩ := o
  obtain ⟨hL1, hL2⟩ : NS.length ≤ 3 ∧ CS.length ≤ 3 := hLL
  clear hg
  unfold maxLen at w0
  by_cases hb : 1048576 < a0.size
  · clear HS HI
    go_enter Tryd.func7, Tryd.ntmps7
    go_wp2_with fail
    go_ret
    exact ⟨rfl, Below.refl _ _⟩
  have hS := HS.out w
  clear HS
  go_enter Tryd.func7, Tryd.ntmps7
  go_wp2_with fail
  refine hS.mono ?_
  clear hS
  rintro e x1 ⟨ps, cs, qs, ds, rfl, os, b1⟩
  obtain ⟨X2, hX2⟩ : ∃ X2, X2 = x1.alloc (.cells #[.string K, .int .i64 A0, .slice ps NS.length cs, .slice qs CS.length ds, .int .i64 IX, .string SA, .string VA, .int .i64 C0] 42) := ⟨_, rfl⟩
  have HX2 : Hid (X2 = x1.alloc (.cells #[.string K, .int .i64 A0, .slice ps NS.length cs, .slice qs CS.length ds, .int .i64 IX, .string SA, .string VA, .int .i64 C0] 42)) := hX2
  have B2 : Hid (Below w.heap.size w X2) := by rw [hX2]; exact alB b1 _
  have V2 : Hid (Bxs X2 x1.heap.size 42 #[.string K, .int .i64 A0, .slice ps NS.length cs, .slice qs CS.length ds, .int .i64 IX, .string SA, .string VA, .int .i64 C0]) := by rw [hX2]; exact Bxs.new _ _ _
  have O2 : Hid (Sh2 w.heap.size ps cs NS qs ds CS X2) := by rw [hX2]; exact os.alloc _
  have S2 : Hid (w.heap.size ≤ x1.heap.size ∧ X2.heap.size = x1.heap.size + 1 ∧ ∀ j, Bl2 ps cs NS.length qs ds CS.length j → j < x1.heap.size) := ⟨b1.size, by rw [hX2]; simp, fun j hj => (os.lt2 j hj).2⟩
  have hI := HI.out X2 (HG.out.below B2.out HG.out.1)
  clear hX2 os b1
  go_wp2_with fail
  rw [← HX2.out]
  refine hI.mono ?_
  clear hI HX2
  rintro e x3 ⟨pg, cg, qg, dg, rfl, og, b3⟩
  obtain ⟨X4, hX4⟩ : ∃ X4, X4 = x3.alloc (.cells #[.string K, .int .i64 A0, .slice pg NS.length cg, .slice qg CS.length dg, .int .i64 IX, .string SA, .string VA, .int .i64 C0] 42) := ⟨_, rfl⟩
  have HX4 : Hid (X4 = x3.alloc (.cells #[.string K, .int .i64 A0, .slice pg NS.length cg, .slice qg CS.length dg, .int .i64 IX, .string SA, .string VA, .int .i64 C0] 42)) := hX4
  have b4 : Below X2.heap.size X2 X4 := by rw [hX4]; exact alB b3 _
  have OG4 : Hid (Sh2 X2.heap.size pg cg NS qg dg CS X4) := by rw [hX4]; exact og.alloc _
  have ST4 : Hid (MkT w 42 #[.string K, .int .i64 A0, .slice ps NS.length cs, .slice qs CS.length ds, .int .i64 IX, .string SA, .string VA, .int .i64 C0] #[.string K, .int .i64 A0, .slice pg NS.length cg, .slice qg CS.length dg, .int .i64 IX, .string SA, .string VA, .int .i64 C0] x1.heap.size x3.heap.size (fun x => Sh2 w.heap.size ps cs NS qs ds CS x) X4) := ⟨chainB B2.out b4, V2.out.below b4, by rw [hX4]; exact Bxs.new _ _ _, Sh2.below O2.out b4⟩
  have SZ : Hid (∀ j, Bl2 pg cg NS.length qg dg CS.length j → (w.heap.size ≤ j ∧ j ≠ x1.heap.size ∧ j ≠ x3.heap.size) ∧ ¬ Bl2 ps cs NS.length qs ds CS.length j) := by
    obtain ⟨q1, q2, q3⟩ := S2.out
    have q7 := b3.size
    intro j hj
    have q8 := og.lt2 j hj
    exact ⟨⟨by omega, by omega, by omega⟩, fun e => by have := q3 _ e; omega⟩
  clear hX4 og b3 b4 B2 V2 O2 S2
  have PB : Hid (∀ x y : World, Sh2 w.heap.size ps cs NS qs ds CS x → Below x.heap.size x y → Sh2 w.heap.size ps cs NS qs ds CS y) := fun x y h hb => Sh2.below h hb
  obtain ⟨y0, y1, y2, y3, y4, y5, y6, y7⟩ := ST4.out.bg.eight
  obtain ⟨z0, z1, z2, z3, z4, z5, z6, z7⟩ := ST4.out.bw.eight
  rw [HX4.out] at y0 y1 y2 y3 y4 y5 y6 y7 z0 z1 z2 z3 z4 z5 z6 z7
  have hE := eqShownOut_any K A0 IX SA VA C0 pg cg ps cs NS qg dg qs ds CS X4 (Sh2.txt OG4.out).1.1 (Sh2.txt ST4.out.ps).1.1 (Sh2.txt OG4.out).1.2 (Sh2.txt ST4.out.ps).1.2 (by omega) (by omega) (Sh2.txt OG4.out).2.1 (Sh2.txt OG4.out).2.2 (Sh2.txt ST4.out.ps).2.1 (Sh2.txt ST4.out.ps).2.2
  go_wp2_with fail
  rw [← HX4.out]
  refine hE.mono ?_
  clear hE y0 y1 y2 y3 y4 y5 y6 y7 z0 z1 z2 z3 z4 z5 z6 z7 HX4
  rintro e x5 ⟨rfl, b5⟩
  have ST5 : Hid (MkT w 42 #[.string K, .int .i64 A0, .slice ps NS.length cs, .slice qs CS.length ds, .int .i64 IX, .string SA, .string VA, .int .i64 C0] #[.string K, .int .i64 A0, .slice pg NS.length cg, .slice qg CS.length dg, .int .i64 IX, .string SA, .string VA, .int .i64 C0] x1.heap.size x3.heap.size (fun x => Sh2 w.heap.size ps cs NS qs ds CS x) x5) := ST4.out.below PB.out b5
  have OG5 := Sh2.below OG4.out b5
  have hM := markShownOut_any K A0 IX SA VA C0 X2.heap.size pg cg NS qg dg CS x5 OG5.1 OG5.2.1 (Sh2.ne OG5) (by omega)
  have CG : Hid (NS.length ≤ cg ∧ CS.length ≤ dg) := (Sh2.txt OG5).2
  clear ST4 OG4 b5 OG5
  obtain ⟨y0, y1, y2, y3, y4, y5, y6, y7⟩ := ST5.out.bg.eight
  go_wp2_with fail
  refine hM.mono ?_
  clear hM y0 y1 y2 y3 y4 y5 y6 y7
  rintro e x6 ⟨rfl, o6, o6b, wm, gm, g6⟩
  have STm := ST5.out.grown gm (fun j hj => (SZ.out j (.inl hj)).1) (Sh2.keep ST5.out.ps gm (fun j hj => (SZ.out j (.inl hj)).2))
  have ST6 : Hid (MkT w 42 #[.string K, .int .i64 A0, .slice ps NS.length cs, .slice qs CS.length ds, .int .i64 IX, .string SA, .string VA, .int .i64 C0] #[.string K, .int .i64 A0, .slice pg NS.length cg, .slice qg CS.length dg, .int .i64 IX, .string SA, .string VA, .int .i64 C0] x1.heap.size x3.heap.size (fun x => Sh2 w.heap.size ps cs NS qs ds CS x) x6) := STm.grown g6 (fun j hj => (SZ.out j (.inr hj)).1) (Sh2.keep STm.ps g6 (fun j hj => (SZ.out j (.inr hj)).2))
  have OM6 : Hid ((x6.ownsRow X2.heap.size 9 1 (.slice pg NS.length cg) NS.length (strRow (marksN 1 NS.length)) ∧ x6.ownsRow X2.heap.size 9 1 (.slice qg CS.length dg) CS.length (strRow (marksN (NS.length + 1) CS.length)))) := ⟨o6, o6b⟩
  have hH := heldShownOut_any K A0 IX SA VA C0 pg cg NS.length qg dg CS.length x6 (ownS_marks (OM6.out).1) (ownS_marks (OM6.out).2) (by omega) CG.out.1 CG.out.2
  clear ST5 o6 o6b g6 STm gm
  obtain ⟨y0, y1, y2, y3, y4, y5, y6, y7⟩ := ST6.out.bg.eight
  go_wp2_with fail
  refine hH.mono ?_
  clear hH y0 y1 y2 y3 y4 y5 y6 y7
  rintro e x7 ⟨rfl, b7⟩
  have ST7 := ST6.out.below PB.out b7
  have OM7 := And.intro (ownS_below OM6.out.1 b7) (ownS_below OM6.out.2 b7)
  have hI := HI.out x7 (HG.out.below ST7.bel HG.out.1)
  have dm : decide ((CS.length : Int) + ((NS.length : Int) + 1) < 0) = false := decide_eq_false (by omega)
  clear ST6 OM6 b7
  go_wp2_with fail
  refine hI.mono ?_
  clear hI
  rintro e x8 ⟨ph, ch, qh, dh, rfl, oh, b8⟩
  obtain ⟨X9, hX9⟩ : ∃ X9, X9 = x8.alloc (.cells #[.string K, .int .i64 A0, .slice ph NS.length ch, .slice qh CS.length dh, .int .i64 IX, .string SA, .string VA, .int .i64 C0] 42) := ⟨_, rfl⟩
  have HX9 : Hid (X9 = x8.alloc (.cells #[.string K, .int .i64 A0, .slice ph NS.length ch, .slice qh CS.length dh, .int .i64 IX, .string SA, .string VA, .int .i64 C0] 42)) := hX9
  have b9 : Below x7.heap.size x7 X9 := by rw [hX9]; exact alB b8 _
  have ST9 : Hid (MkT w 42 #[.string K, .int .i64 A0, .slice ps NS.length cs, .slice qs CS.length ds, .int .i64 IX, .string SA, .string VA, .int .i64 C0] #[.string K, .int .i64 A0, .slice pg NS.length cg, .slice qg CS.length dg, .int .i64 IX, .string SA, .string VA, .int .i64 C0] x1.heap.size x3.heap.size (fun x => Sh2 w.heap.size ps cs NS qs ds CS x) X9) := ST7.below PB.out b9
  have OM9 : Hid ((X9.ownsRow X2.heap.size 9 1 (.slice pg NS.length cg) NS.length (strRow (marksN 1 NS.length)) ∧ X9.ownsRow X2.heap.size 9 1 (.slice qg CS.length dg) CS.length (strRow (marksN (NS.length + 1) CS.length)))) := And.intro (ownS_below OM7.1 b9) (ownS_below OM7.2 b9)
  have OH9 : Sh2 x7.heap.size ph ch NS qh dh CS X9 := by rw [hX9]; exact oh.alloc _
  have hE := eqShownOut_any K A0 IX SA VA C0 ph ch ps cs NS qh dh qs ds CS X9 (Sh2.txt OH9).1.1 (Sh2.txt ST9.out.ps).1.1 (Sh2.txt OH9).1.2 (Sh2.txt ST9.out.ps).1.2 (by omega) (by omega) (Sh2.txt OH9).2.1 (Sh2.txt OH9).2.2 (Sh2.txt ST9.out.ps).2.1 (Sh2.txt ST9.out.ps).2.2
  obtain ⟨y0, y1, y2, y3, y4, y5, y6, y7⟩ : X9.cell? ⟨x8.heap.size, 0, none⟩ = some (.string K) ∧ X9.cell? ⟨x8.heap.size, 1, none⟩ = some (.int .i64 A0) ∧ X9.cell? ⟨x8.heap.size, 2, none⟩ = some (.slice ph NS.length ch) ∧ X9.cell? ⟨x8.heap.size, 3, none⟩ = some (.slice qh CS.length dh) ∧ X9.cell? ⟨x8.heap.size, 4, none⟩ = some (.int .i64 IX) ∧ X9.cell? ⟨x8.heap.size, 5, none⟩ = some (.string SA) ∧ X9.cell? ⟨x8.heap.size, 6, none⟩ = some (.string VA) ∧ X9.cell? ⟨x8.heap.size, 7, none⟩ = some (.int .i64 C0) := by rw [hX9]; exact (Bxs.new _ _ _).eight
  obtain ⟨z0, z1, z2, z3, z4, z5, z6, z7⟩ := ST9.out.bw.eight
  rw [hX9] at y0 y1 y2 y3 y4 y5 y6 y7 z0 z1 z2 z3 z4 z5 z6 z7
  clear hX9 oh b8 b9 ST7 OM7 OH9
  go_wp2_with fail
  rw [← HX9.out]
  refine hE.mono ?_
  clear hE y0 y1 y2 y3 y4 y5 y6 y7 z0 z1 z2 z3 z4 z5 z6 z7 HX9
  rintro e x10 ⟨rfl, b10⟩
  have ST10 := ST9.out.below PB.out b10
  have OM10 := And.intro (ownS_below OM9.out.1 b10) (ownS_below OM9.out.2 b10)
  have hH := heldShownOut_any K A0 IX SA VA C0 pg cg NS.length qg dg CS.length x10 (ownS_marks (OM10).1) (ownS_marks (OM10).2) (by omega) CG.out.1 CG.out.2
  obtain ⟨y0, y1, y2, y3, y4, y5, y6, y7⟩ := ST10.bg.eight
  have B10 := ST10.bel
  clear ST9 OM9 ST10 OM10 b10
  go_wp2_with fail
  refine hH.mono ?_
  clear hH y0 y1 y2 y3 y4 y5 y6 y7
  rintro e x11 ⟨rfl, b11⟩
  have b11 := chainB B10 b11
  go_wp2_with fail
  go_ret
  exact ⟨rfl, b11⟩

theorem contract (H : Type) (enc : TypeId × Value → H) (W : World) (base : Nat) (args : Array Value) (ds gs : List (DataW H)) (before : List MemPlace)
    (hval : ∀ (j : Nat) t v, Tryd.f7.params[j]? = some t → args[j]? = some v → Value.okWide Tryd.prog W .any base t v)
    (hW : DataW.Whole enc Tryd.prog Tryd.f7.params.toList Rows.fnExactShownReadSpec.vars false W args.toList ds gs before) (hL : laidMetH Tryd.prog Rows.fnExactShownReadRow.laid W) :
    Calls Tryd.prog 7 args W fun e W' => ∃ v, e = .returned v ∧ Rows.fnExactShownReadSpec.post enc Tryd.prog Tryd.f7 false true false false W args v W' := by
  have hW' := hW
  obtain ⟨p, q, hA0, hV, rfl, hfz, hnd⟩ := hW
  have hA : DataW.TrodAll enc Tryd.prog W 0 (fun _ => true) true Tryd.f7.params.toList args.toList ds p := hA0
  rw [Tryd.params7] at hA hval
  obtain ⟨v0, vs0, d0, ds0, p0, q0, hargs, rfl, rfl, h0, r0⟩ := trodAll_cons hA
  obtain ⟨rfl, rfl, rfl⟩ := trodAll_nil r0
  obtain rfl : args = #[v0] := by cases args; simp_all
  have hV2 : DataW.TrodVars enc Tryd.prog W (fun _ => true) ["loop.example/g00633/impl.firstState", "loop.example/g00633/impl.roundNums"] gs q := hV
  obtain ⟨_, _, _, _, e0, _, _, _, _, _, e1, _, rfl, _⟩ := trodVars_two hV2
  obtain ⟨a0, rfl, rfl, rfl, w0⟩ := open_string Tryd.underlying9 (hval 0 9 v0 rfl rfl) h0
  clear hA0
  have hT : Tabs W := tabs_of hL
  refine (walk a0 W w0 hT).mono fun e W' ⟨he, hg⟩ => ?_
  subst he
  exact ⟨_, rfl, _, _, _, [], _, _, hW', (trodAll_cons_mk (shut_bool Tryd.underlying4 _) trodAll_mk0), (trodAll_cons_mk (shut_string Tryd.underlying9 w0) trodAll_mk0), Below.trodVars laidOut hg (by kernel_rfl) hV, hg.frame _, fun h => by cases h⟩

/-- The variables' blocks as the initialisers leave them, for the witness. -/
def setTab (zs : List Int) : Obj → Obj
  | .cells _ t frozen => .cells (zs.map (Value.int .u32)).toArray t frozen
  | o => o
noncomputable def wit (os : Os) : World := { World.holding Tryd.prog os ⟨#[], #[], []⟩ with heap := ((World.holding Tryd.prog os ⟨#[], #[], []⟩).heap.modify 0 (setTab startN)).modify 1 (setTab keysN) }

theorem laid_met (os : Os) : laidMetH Tryd.prog Rows.fnExactShownReadRow.laid ((wit os).forCall (fun _ _ => 0) ⟨#[], #[.string ByteArray.empty], []⟩).memory :=
  laidMetH_of_parts (laidMet_of_run' 8 (by kernel_rfl) (by kernel_rfl)) (by kernel_rfl)
theorem reads (os : Os) {H : Type} (enc : TypeId × Value → H) : ∃ places, DataW.whole enc Tryd.prog ((wit os).forCall (fun _ _ => 0) ⟨#[], #[.string ByteArray.empty], []⟩).memory Tryd.f7.params.toList Rows.fnExactShownReadSpec.vars false #[Value.string ByteArray.empty].toList 8 = some ([.lit (.string [])], [Rows.laid_loop_example_g00633_impl_firstState, Rows.laid_loop_example_g00633_impl_roundNums], places) := by
  have h : (DataW.whole enc Tryd.prog ((wit os).forCall (fun _ _ => 0) ⟨#[], #[.string ByteArray.empty], []⟩).memory Tryd.f7.params.toList Rows.fnExactShownReadSpec.vars false #[Value.string ByteArray.empty].toList 8).map (fun x => (x.1, x.2.1)) = some ([.lit (.string [])], [Rows.laid_loop_example_g00633_impl_firstState, Rows.laid_loop_example_g00633_impl_roundNums]) := by kernel_rfl
  obtain ⟨⟨a, b, c⟩, hx, hy⟩ := Option.map_eq_some_iff.1 h
  cases hy
  exact ⟨c, hx⟩

set_option maxRecDepth 100000 in
theorem lifted (os : Os) (started : os.Started) (H : Type) (enc : TypeId × Value → H) (F : Stop.Interp) :
    ReturnsInHanded {} Tryd.checked os 7 .any ((OpenSpec.ofChange Rows.fnExactShownReadSpec).preRow enc Tryd.prog Tryd.f7 Rows.fnExactShownReadRow.domain false Rows.fnExactShownReadRow.laid) (((OpenSpec.ofChange Rows.fnExactShownReadSpec).at F).post enc Tryd.prog Tryd.f7 false true false false) := by
  obtain ⟨places, hx⟩ := reads os enc
  refine returnsInHanded_of_row (C := Tryd.checked) (s := OpenSpec.ofChange Rows.fnExactShownReadSpec) own started (by kernel_rfl) Tryd.func7
    (witness_row_at (enc := enc) (C := Tryd.checked) false (wit os) #[.string ByteArray.empty] rfl (by kernel_rfl) (by kernel_rfl) (by kernel_rfl)
      (OpenSpec.preRow_of_cond 8 hx (by kernel_rfl) (fun k hk => by cases hk) (by kernel_rfl) (laid_met os))) ?_
  intro W base args ds gs before hval hW _ _ _ hL _ _
  exact contract H enc W base args ds gs before hval hW hL

theorem said : Rows.FnExactShownReadSaid :=
  OpenClaim.holds_of_cond 7 Tryd.f7 rfl rfl rfl rfl rfl rfl rfl ⟨rfl, rfl, rfl, rfl, rfl⟩ rfl rfl rfl rfl rfl (by kernel_rfl) Tryd.func7 (by kernel_rfl)
    (of_decide_eq_true (by kernel_rfl)) (by unfold Func.isWrapper; first | (rw [if_pos (by decide +kernel)]; kernel_rfl) | (rw [if_neg (by decide +kernel)]; exact ⟨rfl, rfl⟩))
    (fun os started H enc _ F => by rw [OpenClaim.pre_eq_preRow]; exact lifted os started H enc F)

theorem plain (f : FuncId) (fn : Func) (hf : Tryd.pinned.checked.prog.funcNamed "loop.example/g00633/laws.FnExactShownRead" = some f) (hfn : Tryd.pinned.checked.prog.funcs[f]? = some fn) :
    Rows.fnExactShownReadCard.stood.looks = Tryd.pinned.checked.prog.looks [] ∧ ∀ (j : Nat) t, fn.params[j]? = some t → Tryd.pinned.checked.prog.wantsStandIn t = false := by
  obtain rfl : f = 7 := Option.some.inj ((show Tryd.prog.funcNamed "loop.example/g00633/laws.FnExactShownRead" = some 7 by kernel_rfl).symm.trans hf) |>.symm
  obtain rfl : fn = Tryd.f7 := (Option.some.inj (Tryd.func7.symm.trans hfn)).symm
  refine ⟨by kernel_rfl, fun j t ht => ?_⟩
  rw [Tryd.params7] at ht
  have hm := Array.mem_of_getElem? ht
  have hl : t ∈ ([9] : List TypeId) := by simpa using hm
  simp only [List.mem_cons, List.not_mem_nil, or_false] at hl
  subst hl
  exact (show Tryd.prog.wantsStandIn 9 = false by kernel_rfl)

theorem proved : Rows.FnExactShownReadCardSaid :=
  Claim7.holds_tied_plain_at .later [] _ _ _ _ said (fun _ h => by cases h) (by kernel_rfl) (fun _ h => by cases h) fnExactShownRead_row_tie rfl ⟨rfl, rfl⟩ (by kernel_rfl) rfl plain (by kernel_rfl)
#print axioms proved
end Go.Proofs.YtefakcpclihaealDoor.fnExactShownRead
