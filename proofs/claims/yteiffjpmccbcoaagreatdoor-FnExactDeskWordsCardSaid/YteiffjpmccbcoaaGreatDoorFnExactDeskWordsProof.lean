/-
  The law FnExactDeskWords returns true: the program's DeskWords answers the specification's six words, keeps nothing, and its answer owns its memory, behind another call too; the card ties the variables that the row lists to the program's text.
  Conditions: none of mine; the form's own reach; the listed variables as the program's text lays them (the given tie). The card speaks of the pruned copy of the project that the seat names.
-/
import Derived.Test.YteiffjpmccbcoaaGreatDoorCards
import Derived.Test.YteiffjpmccbcoaaGreatDoorTie
import Derived.Test.YteiffjpmccbcoaaGreatDoorDeskWordsW
import Derived.Test.YteiffjpmccbcoaaGreatDoorDwWit
import Derived.Test.YteiffjpmccbcoaaGreatDoorDwSaid
import Derived.Test.YteiffjpmccbcoaaGreatDoorDwSaidB
import Derived.WalkKit
import Derived.ProofKit
import Derived.OpenShut
import Derived.OpenVars
import Derived.ShutString
import Derived.LaidHandle
import Derived.LaidLaws
import Derived.LaidMore
import Derived.Deep.DeepHandedRow
import Derived.ChangeOld
import Derived.Below
namespace Go.Proofs.YteiffjpmccbcoaaGreatDoor.fnExactDeskWords
open Go.ChangeShapes Go.WideShapes Go.ChangeAt Go.RowKit
set_option linter.unusedVariables false
set_option maxRecDepth 100000

theorem own : ownKnob Tryz.prog.godebug = none := by kernel_rfl
theorem laidOut : laidOutB Tryz.prog = true := by kernel_rfl
theorem six_vars {H : Type} {enc : TypeId × Value → H} {P : Program} {w : World} {sp : Nat → Bool} {n0 n1 n2 n3 n4 n5 : String} {gs : List (DataW H)} {ps : List MemPlace} (h : DataW.TrodVars enc P w sp [n0, n1, n2, n3, n4, n5] gs ps) : ∃ d0 d1 d2 d3 d4 d5, gs = [d0, d1, d2, d3, d4, d5] := by
  cases gs with
  | nil => exact h.elim
  | cons d0 gs =>
  obtain ⟨_, _, _, _, _, _, _, _, _, _, h, _⟩ := h
  cases gs with
  | nil => exact h.elim
  | cons d1 gs =>
  obtain ⟨_, _, _, _, _, _, _, _, _, _, h, _⟩ := h
  cases gs with
  | nil => exact h.elim
  | cons d2 gs =>
  obtain ⟨_, _, _, _, _, _, _, _, _, _, h, _⟩ := h
  cases gs with
  | nil => exact h.elim
  | cons d3 gs =>
  obtain ⟨_, _, _, _, _, _, _, _, _, _, h, _⟩ := h
  cases gs with
  | nil => exact h.elim
  | cons d4 gs =>
  obtain ⟨_, _, _, _, _, _, _, _, _, _, h, _⟩ := h
  cases gs with
  | nil => exact h.elim
  | cons d5 gs =>
  obtain ⟨_, _, _, _, _, _, _, _, _, _, h, _⟩ := h
  cases gs with
  | nil => exact ⟨_, _, _, _, _, _, rfl⟩
  | cons d6 gs => exact h.elim
theorem contract (H : Type) (enc : TypeId × Value → H) (W : World) (base : Nat) (args : Array Value) (ds gs : List (DataW H)) (before : List MemPlace)
    (hval : ∀ (j : Nat) t v, Tryz.f3.params[j]? = some t → args[j]? = some v → Value.okWide Tryz.prog W .any base t v)
    (hW : DataW.Whole enc Tryz.prog Tryz.f3.params.toList Rows.fnExactDeskWordsSpec.vars false W args.toList ds gs before) (hL : laidMetH Tryz.prog Rows.fnExactDeskWordsRow.laid W) :
    Calls Tryz.prog 3 args W fun e W' => ∃ v, e = .returned v ∧ Rows.fnExactDeskWordsSpec.post enc Tryz.prog Tryz.f3 false true false false W args v W' := by
  have hW' := hW
  obtain ⟨p, q, hA0, hV, rfl, hfz, hnd⟩ := hW
  have hA : DataW.TrodAll enc Tryz.prog W 0 (fun _ => true) true Tryz.f3.params.toList args.toList ds p := hA0
  rw [Tryz.params3] at hA hval
  have hA2 : DataW.TrodAll enc Tryz.prog W 0 (fun _ => true) true [] args.toList ds p := hA
  obtain ⟨hargs, rfl, rfl⟩ := trodAll_nil hA2
  obtain rfl : args = #[] := by cases args; simp_all
  have hV2 : DataW.TrodVars enc Tryz.prog W (fun _ => true) ["loop.example/g00633/impl.errDiskForm", "loop.example/g00633/impl.errNoHead", "loop.example/g00633/impl.errLacking", "loop.example/g00633/impl.errNoRoom", "loop.example/g00633/impl.firstState", "loop.example/g00633/impl.roundNums"] gs q := hV
  obtain ⟨g0, g1, g2, g3, g4, g5, rfl⟩ := six_vars hV2
  clear hA0 hA hA2 hargs hval
  refine (deskWordsWalk W).mono fun e W' ⟨he, hg⟩ => ?_
  subst he
  exact ⟨_, rfl, _, _, _, [], _, _, hW', (trodAll_cons_mk (shut_bool Tryz.underlying4 _) trodAll_mk0), trodAll_mk0, Below.trodVars laidOut hg (by kernel_rfl) hV, hg.frame _, fun h => by cases h⟩

set_option maxRecDepth 100000 in
theorem lifted (os : Os) (started : os.Started) (H : Type) (enc : TypeId × Value → H) (F : Stop.Interp) :
    ReturnsInHanded {} Tryz.checked os 3 .any ((OpenSpec.ofChange Rows.fnExactDeskWordsSpec).preRow enc Tryz.prog Tryz.f3 Rows.fnExactDeskWordsRow.domain false Rows.fnExactDeskWordsRow.laid) (((OpenSpec.ofChange Rows.fnExactDeskWordsSpec).at F).post enc Tryz.prog Tryz.f3 false true false false) := by
  obtain ⟨gs, places, hx⟩ := reads os enc
  refine returnsInHanded_of_row (C := Tryz.checked) (s := OpenSpec.ofChange Rows.fnExactDeskWordsSpec) own started (by kernel_rfl) Tryz.func3
    (witness_row_at (enc := enc) (C := Tryz.checked) false (wit os) #[] rfl (by kernel_rfl) (by kernel_rfl) (by kernel_rfl)
      (OpenSpec.preRow_of_cond 8 hx rfl (fun k hk => by cases hk) (by kernel_rfl) (laid_met os))) ?_
  intro W base args ds gs before hval hW _ _ _ hL _ _
  exact contract H enc W base args ds gs before hval hW hL

theorem said : Rows.FnExactDeskWordsSaid :=
  OpenClaim.holds_of_cond 3 Tryz.f3 rfl rfl rfl rfl rfl rfl rfl ⟨rfl, rfl, rfl, rfl, rfl⟩ rfl rfl rfl rfl rfl saidA Tryz.func3 saidB
    saidC saidD
    (fun os started H enc _ F => by rw [OpenClaim.pre_eq_preRow]; exact lifted os started H enc F)

theorem plain (f : FuncId) (fn : Func) (hf : Tryz.pinned.checked.prog.funcNamed "loop.example/g00633/laws.FnExactDeskWords" = some f) (hfn : Tryz.pinned.checked.prog.funcs[f]? = some fn) :
    Rows.fnExactDeskWordsCard.stood.looks = Tryz.pinned.checked.prog.looks [] ∧ ∀ (j : Nat) t, fn.params[j]? = some t → Tryz.pinned.checked.prog.wantsStandIn t = false := by
  obtain rfl : f = 3 := Option.some.inj ((show Tryz.prog.funcNamed "loop.example/g00633/laws.FnExactDeskWords" = some 3 by kernel_rfl).symm.trans hf) |>.symm
  obtain rfl : fn = Tryz.f3 := (Option.some.inj (Tryz.func3.symm.trans hfn)).symm
  refine ⟨by kernel_rfl, fun j t ht => ?_⟩
  rw [Tryz.params3] at ht
  have hm := Array.mem_of_getElem? ht
  simp at hm

theorem proved : Rows.FnExactDeskWordsCardSaid :=
  Claim7.holds_tied_plain_at .later [] _ _ _ _ said (fun _ h => by cases h) (by kernel_rfl) (fun _ h => by cases h) fnExactDeskWords_row_tie rfl ⟨rfl, rfl⟩ (by kernel_rfl) rfl plain (by kernel_rfl)
#print axioms proved
end Go.Proofs.YteiffjpmccbcoaaGreatDoor.fnExactDeskWords
