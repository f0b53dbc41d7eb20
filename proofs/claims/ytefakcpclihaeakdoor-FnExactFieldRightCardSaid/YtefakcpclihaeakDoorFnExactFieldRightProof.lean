/-
  For every field the law FnExactFieldRight returns true: the program's FieldRight answers as the specification's; the card ties the two listed tables, firstState and roundNums, to the program's text.
  Conditions: none of mine; the form's own reach; the two tables as the program's text lays them (the given tie). The card speaks of the pruned copy of the project that the seat names.
-/
import Derived.Test.YtefakcpclihaeakDoorCards
import Derived.Test.YtefakcpclihaeakDoorTie
import Derived.Test.YtefakcpclihaeakDoorSlA
import Derived.Test.YtefakcpclihaeakDoorBxK
import Derived.Test.YtefakcpclihaeakDoorFldC
import Derived.Test.YtefakcpclihaeakDoorImplFC
import Derived.Test.YtefakcpclihaeakDoorLawF
import Derived.Test.YtefakcpclihaeakDoorOpF
import Derived.Test.YtefakcpclihaeakDoorTabsOf
import Derived.WalkKit
import Derived.ProofKit
import Derived.OpenShut
import Derived.OpenVars
import Derived.ShutString
import Derived.LaidHandle
import Derived.LaidLaws
import Derived.Deep.DeepHandedRow
import Derived.ChangeOld
import Derived.Below
namespace Go.Proofs.YtefakcpclihaeakDoor.fnExactFieldRight
open Go.ChangeShapes Go.WideShapes Go.ChangeAt Go.RowKit
open Go.ChangeMaps (open_string shut_string)
set_option linter.unusedVariables false
set_option maxRecDepth 100000

theorem own : ownKnob Tryd.prog.godebug = none := by kernel_rfl
theorem laidOut : laidOutB Tryd.prog = true := by kernel_rfl

set_option maxHeartbeats 1000000 in
theorem walk (f : Fld) (w : World) (w0 : FldLe f) (hg : Tabs w) :
    Calls Tryd.prog 4 #[.agg #[.string f.n, .string f.c, .string f.s, .string f.v, .bool f.g]] w fun e w' => e = .returned (.bool true) ∧ Below w.heap.size w w' := by
  obtain ⟨h1, h2, h3, h4⟩ := w0
  have HG : Hid (Tabs w) := hg
  have HS : Hid (∀ x, Calls Tryd.prog 11 #[.agg #[.string f.n, .string f.c, .string f.s, .string f.v, .bool f.g]] x fun e w' => e = .returned (.bool (fdB f)) ∧ Below x.heap.size x w') := fun x => specFieldRight_any f x h1 h2 h3 h4
  have HI : Hid (∀ x, Tabs x → Calls Tryd.prog 13 #[.agg #[.string f.n, .string f.c, .string f.s, .string f.v, .bool f.g]] x fun e w' => e = .returned (.bool (fdB f)) ∧ Below x.heap.size x w') := fun x hx => implFieldRight_any f x hx h1 h2 h3 h4
  have HZ : Hid (∀ x, Calls Tryd.prog 10 #[.agg #[.string f.n, .string f.c, .string f.s, .string f.v, .bool f.g], .int .i64 1048576] x fun e w' => (∃ r : Int, e = .returned (.int .i64 r) ∧ (r = -1 ∨ (0 ≤ r ∧ r ≤ 1048576))) ∧ Below x.heap.size x w') := fun x => by
    unfold maxLen at h1 h2 h3 h4
    exact szFld_any f 1048576 x (by omega) (by omega) h1 h2 h3 h4
  have HT : Hid (∀ x, Calls Tryd.prog 12 #[.agg #[.string f.n, .string f.c, .string f.s, .string f.v, .bool f.g]] x fun e w' => e = .returned (.agg #[.string f.n, .string f.c, .string f.s, .string f.v, .bool f.g]) ∧ Below x.heap.size x w') := fun x => toFld_any f x
  clear hg h1 h2 h3 h4
  generalize fdB f = R at *
  obtain ⟨n, c, s, v, g⟩ := f
  obtain ⟨W1, hW1⟩ : ∃ W1, W1 = w.alloc (.cells #[.string n, .string c, .string s, .string v, .bool g] 25) := ⟨_, rfl⟩
  have B0 : Hid (Below w.heap.size w W1) := by rw [hW1]; exact (Below.refl _ _).alloc (Nat.le_refl _) _
  have X0 : Hid (Bxs W1 w.heap.size 25 #[.string n, .string c, .string s, .string v, .bool g]) := by rw [hW1]; exact Bxs.new _ _ _
  have HWA : Hid (W1 = w.alloc (.cells #[.string n, .string c, .string s, .string v, .bool g] 25)) := hW1
  have HBX : Hid (∀ x, Below W1.heap.size W1 x → x.cell? ⟨w.heap.size, 0, none⟩ = some (.string n) ∧ x.cell? ⟨w.heap.size, 1, none⟩ = some (.string c) ∧ x.cell? ⟨w.heap.size, 2, none⟩ = some (.string s) ∧ x.cell? ⟨w.heap.size, 3, none⟩ = some (.string v) ∧ x.cell? ⟨w.heap.size, 4, none⟩ = some (.bool g)) := fun x hb => ⟨(X0.out.below hb).cell 0, (X0.out.below hb).cell 1, (X0.out.below hb).cell 2, (X0.out.below hb).cell 3, (X0.out.below hb).cell 4⟩
  clear hW1 X0
  go_enter Tryd.func4, Tryd.ntmps4
  go_wp2_with fail
  rw [← HWA.out]
  refine (HZ.out W1).mono ?_
  rintro e w2 ⟨⟨r, rfl, hr⟩, b2⟩
  rcases hr with rfl | ⟨hr0, hr1⟩
  · go_wp2_with fail
    go_ret
    exact ⟨rfl, chainB B0.out b2⟩
  have dr : decide (r < 0) = false := decide_eq_false (by omega)
  obtain ⟨x0, x1, x2, x3, x4⟩ := HBX.out w2 b2
  go_wp2_with fail
  refine (HT.out w2).mono ?_
  rintro e w3 ⟨rfl, b3⟩
  have b3 := chainB b2 b3
  clear x0 x1 x2 x3 x4
  go_wp2_with fail
  refine (HS.out w3).mono ?_
  rintro e w4 ⟨rfl, b4⟩
  have b4 := chainB b3 b4
  obtain ⟨x0, x1, x2, x3, x4⟩ := HBX.out w4 b4
  go_wp2_with fail
  refine (HT.out w4).mono ?_
  rintro e w5 ⟨rfl, b5⟩
  have b5 := chainB b4 b5
  clear x0 x1 x2 x3 x4
  go_wp2_with fail
  refine (HI.out w5 (HG.out.below (chainB B0.out b5) HG.out.1)).mono ?_
  rintro e w6 ⟨rfl, b6⟩
  have b6 := chainB b5 b6
  go_wp2_with fail
  go_ret
  exact ⟨rfl, chainB B0.out b6⟩

theorem contract (H : Type) (enc : TypeId × Value → H) (W : World) (base : Nat) (args : Array Value) (ds gs : List (DataW H)) (before : List MemPlace)
    (hval : ∀ (j : Nat) t v, Tryd.f4.params[j]? = some t → args[j]? = some v → Value.okWide Tryd.prog W .any base t v)
    (hW : DataW.Whole enc Tryd.prog Tryd.f4.params.toList Rows.fnExactFieldRightSpec.vars false W args.toList ds gs before) (hL : laidMetH Tryd.prog Rows.fnExactFieldRightRow.laid W) :
    Calls Tryd.prog 4 args W fun e W' => ∃ v, e = .returned v ∧ Rows.fnExactFieldRightSpec.post enc Tryd.prog Tryd.f4 false true false false W args v W' := by
  have hW' := hW
  obtain ⟨p, q, hA0, hV, rfl, hfz, hnd⟩ := hW
  have hA : DataW.TrodAll enc Tryd.prog W 0 (fun _ => true) true Tryd.f4.params.toList args.toList ds p := hA0
  rw [Tryd.params4] at hA hval
  obtain ⟨v0, vs0, d0, ds0, p0, q0, hargs, rfl, rfl, h0, r0⟩ := trodAll_cons hA
  obtain ⟨rfl, rfl, rfl⟩ := trodAll_nil r0
  obtain rfl : args = #[v0] := by cases args; simp_all
  have hV2 : DataW.TrodVars enc Tryd.prog W (fun _ => true) ["loop.example/g00633/impl.firstState", "loop.example/g00633/impl.roundNums"] gs q := hV
  obtain ⟨_, _, _, _, e0, _, _, _, _, _, e1, _, rfl, _⟩ := trodVars_two hV2
  have k0 := h0
  have lt0 : ∀ x ∈ p0, x.block < W.heap.size := by obtain ⟨m, hm⟩ := k0; exact DataW.trod_lt m _ _ _ hm
  obtain ⟨f0, rfl, w0⟩ := open_field (hval 0 25 v0 rfl rfl) h0
  clear hA0
  have hT : Tabs W := tabs_of hL
  refine (walk f0 W w0 hT).mono fun e W' ⟨he, hg⟩ => ?_
  subst he
  exact ⟨_, rfl, _, _, _, [], _, _, hW', (trodAll_cons_mk (shut_bool Tryd.underlying4 _) trodAll_mk0), (trodAll_cons_mk (Below.trod laidOut (by kernel_rfl) (of_decide_eq_true (by kernel_rfl)) k0 hg lt0) trodAll_mk0), Below.trodVars laidOut hg (by kernel_rfl) hV, hg.frame _, fun h => by cases h⟩

/-- The variables' blocks as the initialisers leave them, for the witness. -/
def setTab (zs : List Int) : Obj → Obj
  | .cells _ t frozen => .cells (zs.map (Value.int .u32)).toArray t frozen
  | o => o
noncomputable def wit (os : Os) : World := { World.holding Tryd.prog os ⟨#[], #[], []⟩ with heap := ((World.holding Tryd.prog os ⟨#[], #[], []⟩).heap.modify 0 (setTab startN)).modify 1 (setTab keysN) }

theorem laid_met (os : Os) : laidMetH Tryd.prog Rows.fnExactFieldRightRow.laid ((wit os).forCall (fun _ _ => 0) ⟨#[], #[.agg #[.string ByteArray.empty, .string ByteArray.empty, .string ByteArray.empty, .string ByteArray.empty, .bool false]], []⟩).memory :=
  laidMetH_of_parts (laidMet_of_run' 8 (by kernel_rfl) (by kernel_rfl)) (by kernel_rfl)
theorem reads (os : Os) {H : Type} (enc : TypeId × Value → H) : ∃ places, DataW.whole enc Tryd.prog ((wit os).forCall (fun _ _ => 0) ⟨#[], #[.agg #[.string ByteArray.empty, .string ByteArray.empty, .string ByteArray.empty, .string ByteArray.empty, .bool false]], []⟩).memory Tryd.f4.params.toList Rows.fnExactFieldRightSpec.vars false #[Value.agg #[.string ByteArray.empty, .string ByteArray.empty, .string ByteArray.empty, .string ByteArray.empty, .bool false]].toList 8 = some ([.agg [.lit (.string []), .lit (.string []), .lit (.string []), .lit (.string []), .lit (.bool false)]], [Rows.laid_loop_example_g00633_impl_firstState, Rows.laid_loop_example_g00633_impl_roundNums], places) := by
  have h : (DataW.whole enc Tryd.prog ((wit os).forCall (fun _ _ => 0) ⟨#[], #[.agg #[.string ByteArray.empty, .string ByteArray.empty, .string ByteArray.empty, .string ByteArray.empty, .bool false]], []⟩).memory Tryd.f4.params.toList Rows.fnExactFieldRightSpec.vars false #[Value.agg #[.string ByteArray.empty, .string ByteArray.empty, .string ByteArray.empty, .string ByteArray.empty, .bool false]].toList 8).map (fun x => (x.1, x.2.1)) = some ([.agg [.lit (.string []), .lit (.string []), .lit (.string []), .lit (.string []), .lit (.bool false)]], [Rows.laid_loop_example_g00633_impl_firstState, Rows.laid_loop_example_g00633_impl_roundNums]) := by kernel_rfl
  obtain ⟨⟨a, b, c⟩, hx, hy⟩ := Option.map_eq_some_iff.1 h
  cases hy
  exact ⟨c, hx⟩

set_option maxRecDepth 100000 in
theorem lifted (os : Os) (started : os.Started) (H : Type) (enc : TypeId × Value → H) (F : Stop.Interp) :
    ReturnsInHanded {} Tryd.checked os 4 .any ((OpenSpec.ofChange Rows.fnExactFieldRightSpec).preRow enc Tryd.prog Tryd.f4 Rows.fnExactFieldRightRow.domain false Rows.fnExactFieldRightRow.laid) (((OpenSpec.ofChange Rows.fnExactFieldRightSpec).at F).post enc Tryd.prog Tryd.f4 false true false false) := by
  obtain ⟨places, hx⟩ := reads os enc
  refine returnsInHanded_of_row (C := Tryd.checked) (s := OpenSpec.ofChange Rows.fnExactFieldRightSpec) own started (by kernel_rfl) Tryd.func4
    (witness_row_at (enc := enc) (C := Tryd.checked) false (wit os) #[.agg #[.string ByteArray.empty, .string ByteArray.empty, .string ByteArray.empty, .string ByteArray.empty, .bool false]] rfl (by kernel_rfl) (by kernel_rfl) (by kernel_rfl)
      (OpenSpec.preRow_of_cond 8 hx (by kernel_rfl) (fun k hk => by cases hk) (by kernel_rfl) (laid_met os))) ?_
  intro W base args ds gs before hval hW _ _ _ hL _ _
  exact contract H enc W base args ds gs before hval hW hL

theorem said : Rows.FnExactFieldRightSaid :=
  OpenClaim.holds_of_cond 4 Tryd.f4 rfl rfl rfl rfl rfl rfl rfl ⟨rfl, rfl, rfl, rfl, rfl⟩ rfl rfl rfl rfl rfl (by kernel_rfl) Tryd.func4 (by kernel_rfl)
    (of_decide_eq_true (by kernel_rfl)) (by unfold Func.isWrapper; first | (rw [if_pos (by decide +kernel)]; kernel_rfl) | (rw [if_neg (by decide +kernel)]; exact ⟨rfl, rfl⟩))
    (fun os started H enc _ F => by rw [OpenClaim.pre_eq_preRow]; exact lifted os started H enc F)

theorem plain (f : FuncId) (fn : Func) (hf : Tryd.pinned.checked.prog.funcNamed "loop.example/g00633/laws.FnExactFieldRight" = some f) (hfn : Tryd.pinned.checked.prog.funcs[f]? = some fn) :
    Rows.fnExactFieldRightCard.stood.looks = Tryd.pinned.checked.prog.looks [] ∧ ∀ (j : Nat) t, fn.params[j]? = some t → Tryd.pinned.checked.prog.wantsStandIn t = false := by
  obtain rfl : f = 4 := Option.some.inj ((show Tryd.prog.funcNamed "loop.example/g00633/laws.FnExactFieldRight" = some 4 by kernel_rfl).symm.trans hf) |>.symm
  obtain rfl : fn = Tryd.f4 := (Option.some.inj (Tryd.func4.symm.trans hfn)).symm
  refine ⟨by kernel_rfl, fun j t ht => ?_⟩
  rw [Tryd.params4] at ht
  have hm := Array.mem_of_getElem? ht
  have hl : t ∈ ([25] : List TypeId) := by simpa using hm
  simp only [List.mem_cons, List.not_mem_nil, or_false] at hl
  subst hl
  exact (show Tryd.prog.wantsStandIn 25 = false by kernel_rfl)

theorem proved : Rows.FnExactFieldRightCardSaid :=
  Claim7.holds_tied_plain_at .later [] _ _ _ _ said (fun _ h => by cases h) (by kernel_rfl) (fun _ h => by cases h) fnExactFieldRight_row_tie rfl ⟨rfl, rfl⟩ (by kernel_rfl) rfl plain (by kernel_rfl)
#print axioms proved
end Go.Proofs.YtefakcpclihaeakDoor.fnExactFieldRight
