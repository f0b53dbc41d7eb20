/-
  For every text the law FnExactTombRead returns true: the program's TombRead answers as the specification's; the card ties the one listed variable, errors.errorType, to the program's text.
  Conditions: none of mine; the form's own reach; errors.errorType as the program's text lays it (the given tie). The card speaks of the pruned copy of the project that the seat names.
-/
import Derived.Test.YtnomkcbcjaagmamDoorCards
import Derived.Test.YtnomkcbcjaagmamDoorTie
import Derived.Test.YtnomkcbcjaagmamDoorImplTr
import Derived.Test.YtnomkcbcjaagmamDoorFldTr
import Derived.Test.YtnomkcbcjaagmamDoorExEq
import Derived.Test.YtnomkcbcjaagmamDoorBxK
import Derived.Test.YtnomkcbcjaagmamDoorBytes
import Derived.Deep.Cut
import Derived.WalkKit
import Derived.ProofKit
import Derived.OpenShut
import Derived.ShutString
import Derived.LaidHandle
import Derived.Deep.DeepHandedRow
import Derived.ChangeOld
namespace Go.Proofs.YtnomkcbcjaagmamDoor.fnExactTombRead
open Go.ChangeShapes Go.WideShapes Go.ChangeAt Go.RowKit
open Go.ChangeMaps (open_string shut_string)
set_option linter.unusedVariables false
set_option maxRecDepth 100000

theorem own : ownKnob Tryd.prog.godebug = none := by kernel_rfl
theorem et : Tryd.prog.globalNamed "errors.errorType" = some 0 := by kernel_rfl
theorem rt : (Tryd.prog.cutTypes.find? (·.1 == "internal/reflectlite.rtype")).map (·.2) = some 78 := by kernel_rfl
theorem oneRow : ((List.range 121).filter fun t => Tryd.prog.rowNamed t [101, 114, 114, 111, 114]) = [51] := by kernel_rfl
theorem size : Tryd.prog.types.size = 121 := by kernel_rfl

/-- What the listed variable gives a walk. -/
theorem laid_of {W : World} (h : laidMetH Tryd.prog Rows.fnExactTombReadRow.laid W) : Laid W := by
  have h' : laidMet Tryd.prog [] W ∧ handlesMet Tryd.prog Rows.fnExactTombReadRow.laid W := h
  obtain ⟨name, u, ty, e1, e2, e3, e4, e5⟩ := h'.2 _ (List.mem_singleton.2 rfl)
  have en : name = [101, 114, 114, 111, 114] := (Option.some.inj e1).symm
  subst en
  obtain rfl := Option.some.inj (rt.symm.trans e2)
  have hm : ty ∈ (List.range 121).filter fun t => Tryd.prog.rowNamed t [101, 114, 114, 111, 114] := List.mem_filter.2 ⟨List.mem_range.2 (by rw [← size]; exact e3), e4⟩
  rw [oneRow] at hm
  obtain rfl := List.mem_singleton.1 hm
  have hh : typeHandle Tryd.prog 51 = .pointer (some ⟨1, 51, none⟩) := by kernel_rfl
  rw [hh] at e5
  show W.cell? ⟨0, 0, none⟩ = _
  simpa using World.var?_cell et e5 0

set_option maxHeartbeats 1000000 in
theorem walk (a0 : ByteArray) (w0 : a0.size ≤ maxLen) (w : World) (hg : Laid w) :
    Calls Tryd.prog 3 #[.string a0] w fun e w' => e = .returned (.bool true) ∧ Below w.heap.size w w' := by
  by_cases hb : 1048576 < a0.size
  · unfold maxLen at w0
    have d : decide (1048576 < (a0.size : Int)) = true := decide_eq_true (by omega)
    clear hg
    go_enter Tryd.func3, Tryd.ntmps3
    go_wp2_with fail
    go_ret
    exact ⟨rfl, Below.refl _ _⟩
  · have hS := fun x => specTombRead_any a0 x w0
    have hI := fun x hx => implTombRead_any a0 x w0 hx
    unfold tmO at hS hI
    generalize trC a0 = c at *
    generalize (trO a0).r = r at *
    generalize (trO a0).f = f at *
    generalize (trO a0).y = y at *
    generalize (trO a0).a = a at *
    have HG : Hid (Laid w) := hg
    have d : decide (1048576 < (a0.size : Int)) = false := decide_eq_false (by omega)
    have HI : Hid (∀ x, Laid x → Calls Tryd.prog 6 #[.string a0] x fun e w' => e = .returned (.agg #[.int .i64 r, .int .i64 f, .int .i64 y, .int .i64 a, .int .i64 c]) ∧ Below x.heap.size x w') := hI
    have HE : Hid (∀ x, Calls Tryd.prog 7 #[.agg #[.int .i64 r, .int .i64 f, .int .i64 y, .int .i64 a, .int .i64 c], .agg #[.int .i64 r, .int .i64 f, .int .i64 y, .int .i64 a, .int .i64 c]] x fun e w' => e = .returned (.bool true) ∧ Below x.heap.size x w') := fun x => eqTombOut_same r f y a c x
    clear hg hI
    unfold maxLen at w0
    go_enter Tryd.func3, Tryd.ntmps3
    go_wp2_with fail
    refine (hS w).mono ?_
    rintro e w1 ⟨rfl, b1⟩
    have HB1 : Hid (Below w.heap.size w w1) := b1
    obtain ⟨v1, hv1⟩ : ∃ v1, v1 = w1.alloc (.cells #[.int .i64 r, .int .i64 f, .int .i64 y, .int .i64 a, .int .i64 c] 25) := ⟨_, rfl⟩
    have k1 : Bxs v1 w1.heap.size 25 #[.int .i64 r, .int .i64 f, .int .i64 y, .int .i64 a, .int .i64 c] := by rw [hv1]; exact Bxs.new _ _ _
    have bv : Below w.heap.size w v1 := by rw [hv1]; exact alB b1 _
    have HLv : Hid (Laid v1) := HG.out.below bv
    have HV : Hid (v1 = w1.alloc (.cells #[.int .i64 r, .int .i64 f, .int .i64 y, .int .i64 a, .int .i64 c] 25)) := hv1
    have HK : Hid (Bxs v1 w1.heap.size 25 #[.int .i64 r, .int .i64 f, .int .i64 y, .int .i64 a, .int .i64 c]) := k1
    have HBv : Hid (Below w.heap.size w v1) := bv
    clear hv1 k1 bv b1 hS
    go_wp2_with fail
    rw [← HV.out]
    refine (HI.out v1 HLv.out).mono ?_
    rintro e w2 ⟨rfl, b2⟩
    have HB2 : Hid (Below w.heap.size w w2) := chainB HBv.out b2
    have HK2 : Hid (Bxs w2 w1.heap.size 25 #[.int .i64 r, .int .i64 f, .int .i64 y, .int .i64 a, .int .i64 c]) := HK.out.below b2
    clear b2
    go_upto_region 5 with fail
    obtain ⟨z, hz⟩ : ∃ z, z = w2.alloc (.cells #[.int .i64 r, .int .i64 f, .int .i64 y, .int .i64 a, .int .i64 c] 25) := ⟨_, rfl⟩
    rw [← hz]
    obtain ⟨x0, x1, x2, x3, x4⟩ := (show Bxs z w1.heap.size 25 #[.int .i64 r, .int .i64 f, .int .i64 y, .int .i64 a, .int .i64 c] by rw [hz]; exact HK2.out.alloc _).five
    obtain ⟨y0, y1, y2, y3, y4⟩ := (show Bxs z w2.heap.size 25 #[.int .i64 r, .int .i64 f, .int .i64 y, .int .i64 a, .int .i64 c] by rw [hz]; exact Bxs.new _ _ _).five
    have HBz : Hid (Below w.heap.size w z) := by rw [hz]; exact alB HB2.out _
    clear hz
    go_wp2_with fail
    refine (HE.out z).mono ?_
    rintro e w3 ⟨rfl, hb3⟩
    go_wp2_with fail
    go_ret
    exact ⟨rfl, chainB HBz.out hb3⟩

theorem contract (H : Type) (enc : TypeId × Value → H) (W : World) (base : Nat) (args : Array Value) (ds gs : List (DataW H)) (before : List MemPlace)
    (hval : ∀ (j : Nat) t v, Tryd.f3.params[j]? = some t → args[j]? = some v → Value.okWide Tryd.prog W .any base t v)
    (hW : DataW.Whole enc Tryd.prog Tryd.f3.params.toList Rows.fnExactTombReadSpec.vars false W args.toList ds gs before) (hL : laidMetH Tryd.prog Rows.fnExactTombReadRow.laid W) :
    Calls Tryd.prog 3 args W fun e W' => ∃ v, e = .returned v ∧ Rows.fnExactTombReadSpec.post enc Tryd.prog Tryd.f3 false true false false W args v W' := by
  have hW' := hW
  obtain ⟨p, q, hA0, hV, rfl, hfz, hnd⟩ := hW
  have hA : DataW.TrodAll enc Tryd.prog W 0 (fun _ => true) true Tryd.f3.params.toList args.toList ds p := hA0
  rw [Tryd.params3] at hA hval
  obtain ⟨v0, vs0, d0, ds0, p0, q0, hargs, rfl, rfl, h0, r0⟩ := trodAll_cons hA
  obtain ⟨rfl, rfl, rfl⟩ := trodAll_nil r0
  obtain rfl : args = #[v0] := by cases args; simp_all
  obtain ⟨rfl, rfl⟩ := trodVars_none hV
  obtain ⟨a0, rfl, rfl, rfl, w0⟩ := open_string Tryd.underlying9 (hval 0 9 v0 rfl rfl) h0
  clear hA0
  simp only [List.append_nil] at hW'
  refine (walk a0 w0 W (laid_of hL)).mono fun e W' ⟨he, hg⟩ => ?_
  subst he
  exact ⟨_, rfl, _, _, _, [], _, [], hW', (trodAll_cons_mk (shut_bool Tryd.underlying4 _) trodAll_mk0), (trodAll_cons_mk (shut_string Tryd.underlying9 w0) trodAll_mk0), rfl, hg.frame _, fun h => by cases h⟩

/-- The variable's block as the initialiser leaves it, for the witness. -/
def setEt : Obj → Obj
  | .cells _ t frozen => .cells #[.iface 78 (.agg #[.pointer (some ⟨1, 51, none⟩)])] t frozen
  | o => o

theorem laid_met (os : Os) : laidMetH Tryd.prog Rows.fnExactTombReadRow.laid (({ World.holding Tryd.prog os ⟨#[], #[], []⟩ with heap := (World.holding Tryd.prog os ⟨#[], #[], []⟩).heap.modify 0 setEt } : World).forCall (fun _ _ => 0) ⟨#[], #[.string ByteArray.empty], []⟩).memory :=
  laidMetH_of_parts (laidMet_nil _ _) (by kernel_rfl)
theorem reads (os : Os) {H : Type} (enc : TypeId × Value → H) : ∃ places, DataW.whole enc Tryd.prog (({ World.holding Tryd.prog os ⟨#[], #[], []⟩ with heap := (World.holding Tryd.prog os ⟨#[], #[], []⟩).heap.modify 0 setEt } : World).forCall (fun _ _ => 0) ⟨#[], #[.string ByteArray.empty], []⟩).memory Tryd.f3.params.toList Rows.fnExactTombReadSpec.vars false #[Value.string ByteArray.empty].toList 8 = some ([.lit (.string [])], [], places) :=
  ⟨[], by kernel_rfl⟩

set_option maxRecDepth 100000 in
theorem lifted (os : Os) (started : os.Started) (H : Type) (enc : TypeId × Value → H) (F : Stop.Interp) :
    ReturnsInHanded {} Tryd.checked os 3 .any ((OpenSpec.ofChange Rows.fnExactTombReadSpec).preRow enc Tryd.prog Tryd.f3 Rows.fnExactTombReadRow.domain false Rows.fnExactTombReadRow.laid) (((OpenSpec.ofChange Rows.fnExactTombReadSpec).at F).post enc Tryd.prog Tryd.f3 false true false false) := by
  obtain ⟨places, hx⟩ := reads os enc
  refine returnsInHanded_of_row (C := Tryd.checked) (s := OpenSpec.ofChange Rows.fnExactTombReadSpec) own started (by kernel_rfl) Tryd.func3
    (witness_row_at (enc := enc) (C := Tryd.checked) false ({ World.holding Tryd.prog os ⟨#[], #[], []⟩ with heap := (World.holding Tryd.prog os ⟨#[], #[], []⟩).heap.modify 0 setEt } : World) #[.string ByteArray.empty] rfl (by kernel_rfl) (by kernel_rfl) (by kernel_rfl)
      (OpenSpec.preRow_of_cond 8 hx (by kernel_rfl) (fun k hk => by cases hk) (by kernel_rfl) (laid_met os))) ?_
  intro W base args ds gs before hval hW _ _ _ hL _ _
  exact contract H enc W base args ds gs before hval hW hL

theorem said : Rows.FnExactTombReadSaid :=
  OpenClaim.holds_of_cond 3 Tryd.f3 rfl rfl rfl rfl rfl rfl rfl ⟨rfl, rfl, rfl, rfl, rfl⟩ rfl rfl rfl rfl rfl (by kernel_rfl) Tryd.func3 (by kernel_rfl)
    (of_decide_eq_true (by kernel_rfl)) (by unfold Func.isWrapper; first | (rw [if_pos (by decide +kernel)]; kernel_rfl) | (rw [if_neg (by decide +kernel)]; exact ⟨rfl, rfl⟩))
    (fun os started H enc _ F => by rw [OpenClaim.pre_eq_preRow]; exact lifted os started H enc F)

theorem plain (f : FuncId) (fn : Func) (hf : Tryd.pinned.checked.prog.funcNamed "loop.example/g00633/laws.FnExactTombRead" = some f) (hfn : Tryd.pinned.checked.prog.funcs[f]? = some fn) :
    true = Tryd.pinned.checked.prog.looks [] ∧ ∀ (j : Nat) t, fn.params[j]? = some t → Tryd.pinned.checked.prog.wantsStandIn t = false := by
  obtain rfl : f = 3 := Option.some.inj ((show Tryd.prog.funcNamed "loop.example/g00633/laws.FnExactTombRead" = some 3 by kernel_rfl).symm.trans hf) |>.symm
  obtain rfl : fn = Tryd.f3 := (Option.some.inj (Tryd.func3.symm.trans hfn)).symm
  refine ⟨by kernel_rfl, fun j t ht => ?_⟩
  rw [Tryd.params3] at ht
  have hm := Array.mem_of_getElem? ht
  have ht' : t = 9 := by simpa using hm
  subst ht'
  exact (show Tryd.prog.wantsStandIn 9 = false by kernel_rfl)

theorem proved : Rows.FnExactTombReadCardSaid :=
  Claim7.holds_tied_plain_at .later [] _ _ _ _ said (fun _ h => by cases h) (by kernel_rfl) (fun _ h => by cases h) fnExactTombRead_row_tie rfl ⟨rfl, rfl⟩ (by kernel_rfl) rfl plain (by kernel_rfl)
#print axioms proved
end Go.Proofs.YtnomkcbcjaagmamDoor.fnExactTombRead
