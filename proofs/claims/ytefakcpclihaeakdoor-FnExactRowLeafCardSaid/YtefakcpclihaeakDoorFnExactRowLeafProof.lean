/-
  For every row the law FnExactRowLeaf returns true: the program's RowLeaf answers as the specification's; the card ties the two listed tables, firstState and roundNums, to the program's text.
  Conditions: none of mine; the form's own reach; the two tables as the program's text lays them (the given tie). The card speaks of the pruned copy of the project that the seat names.
-/
import Derived.Test.YtefakcpclihaeakDoorCards
import Derived.Test.YtefakcpclihaeakDoorTie
import Derived.Test.YtefakcpclihaeakDoorSlA
import Derived.Test.YtefakcpclihaeakDoorBxK
import Derived.Test.YtefakcpclihaeakDoorFldL
import Derived.Test.YtefakcpclihaeakDoorImplFk
import Derived.Test.YtefakcpclihaeakDoorLawFR
import Derived.Test.YtefakcpclihaeakDoorOpF
import Derived.Test.YtefakcpclihaeakDoorTabsOf
import Derived.WalkKit
import Derived.ProofKit
import Derived.OpenShut
import Derived.OpenVars
import Derived.ShutString
import Derived.LaidHandle
import Derived.LaidLaws
import Derived.Deep.DeepHandedRow
import Derived.ChangeOld
import Derived.Below
namespace Go.Proofs.YtefakcpclihaeakDoor.fnExactRowLeaf
open Go.ChangeShapes Go.WideShapes Go.ChangeAt Go.RowKit
open Go.ChangeMaps (open_string shut_string)
set_option linter.unusedVariables false
set_option maxRecDepth 100000

theorem own : ownKnob Tryd.prog.godebug = none := by kernel_rfl
theorem laidOut : laidOutB Tryd.prog = true := by kernel_rfl

set_option maxHeartbeats 1000000 in
theorem walk (kd : ByteArray) (at_ : Int) (a0 : Option Addr) (len0 cap0 : Nat) (fs : List Fld) (w : World) (w0 : kd.size ≤ maxLen ∧ (Lit.int .i64 at_).wf = true ∧ IsFlds w a0 len0 cap0 fs) (hg : Tabs w) :
    Calls Tryd.prog 7 #[.agg #[.string kd, .int .i64 at_, .slice a0 len0 cap0]] w fun e w' => e = .returned (.bool true) ∧ Below w.heap.size w w' := by
  obtain ⟨hkd, hwf, rfl, hp, hcap, hm, hz⟩ := w0
  have HG : Hid (Tabs w) := hg
  have HP : Hid (FldAt w a0 fs) := hp
  have HS : Hid (FldsLe fs) := hz
  have HB0 : Hid (FldsBig fs) := fun f hf => by have := hz f hf; unfold maxLen at this; exact this
  have HK : Hid (kd.size ≤ maxLen) := hkd
  clear hg hp hz hwf
  unfold maxLen at hm hkd
  obtain ⟨W1, hW1⟩ : ∃ W1, W1 = w.alloc (.cells #[.string kd, .int .i64 at_, .slice a0 fs.length cap0] 33) := ⟨_, rfl⟩
  have B0 : Hid (Below w.heap.size w W1) := by rw [hW1]; exact (Below.refl _ _).alloc (Nat.le_refl _) _
  have HBX : Hid (∀ w2, Below W1.heap.size W1 w2 → w2.cell? ⟨w.heap.size, 0, none⟩ = some (.string kd) ∧ w2.cell? ⟨w.heap.size, 1, none⟩ = some (.int .i64 at_) ∧ w2.cell? ⟨w.heap.size, 2, none⟩ = some (.slice a0 fs.length cap0)) := by
    rw [hW1]; exact fun w2 hb => ⟨((Bxs.new _ _ _).below hb).cell 0, ((Bxs.new _ _ _).below hb).cell 1, ((Bxs.new _ _ _).below hb).cell 2⟩
  have HWA : Hid (W1 = w.alloc (.cells #[.string kd, .int .i64 at_, .slice a0 fs.length cap0] 33)) := hW1
  clear hW1
  have hSz := szRow_any kd at_ a0 cap0 fs W1 (HP.out.below B0.out) (by omega) hcap HB0.out (by omega)
  clear HB0
  go_enter Tryd.func7, Tryd.ntmps7
  go_wp2_with fail
  rw [← HWA.out]
  refine hSz.mono ?_
  rintro e w2 ⟨⟨r, rfl, hr⟩, b2⟩
  clear hSz
  rcases hr with rfl | ⟨hr0, hr1, hl⟩
  · go_wp2_with fail
    go_ret
    exact ⟨rfl, chainB B0.out b2⟩
  have dr : decide (r < 0) = false := decide_eq_false (by omega)
  obtain ⟨x0, x1, x2⟩ := HBX.out w2 b2
  have hT := toRow_any kd at_ a0 cap0 fs w2 (HP.out.below (chainB B0.out b2)) hl hcap
  go_wp2_with fail
  refine hT.mono ?_
  rintro e w3 ⟨g3, hg3, rfl, hB3, b3⟩
  have hS := specRowLeaf_any kd at_ (some ⟨g3, 0, none⟩) fs.length fs w3 hB3.at hl (Nat.le_refl _) HK.out HS.out
  have b3' := chainB b2 b3
  clear hT hB3 x0 x1 x2
  generalize HR : lfB kd at_ fs = R at hS
  go_wp2_with fail
  refine hS.mono ?_
  rintro e w4 ⟨rfl, b4⟩
  have b4' := chainB b3' b4
  clear hS
  obtain ⟨x0, x1, x2⟩ := HBX.out w4 b4'
  have hT := toRow_any kd at_ a0 cap0 fs w4 (HP.out.below (chainB B0.out b4')) hl hcap
  go_wp2_with fail
  refine hT.mono ?_
  rintro e w5 ⟨g5, hg5, rfl, hB5, b5⟩
  have b5' := chainB b4' b5
  clear hT x0 x1 x2
  obtain ⟨W6, hW6⟩ : ∃ W6, W6 = w5.alloc (.cells #[.string kd, .int .i64 at_, .slice (some ⟨g5, 0, none⟩) fs.length fs.length] 38) := ⟨_, rfl⟩
  have b6 : Below w5.heap.size w5 W6 := by rw [hW6]; exact (Below.refl _ _).alloc (Nat.le_refl _) _
  have B6 : Hid (BlkF W6 g5 fs) := hB5.below b6
  have b6' := chainB b5' b6
  have HY : Hid (∀ w2, Below W6.heap.size W6 w2 → w2.cell? ⟨w5.heap.size, 0, none⟩ = some (.string kd) ∧ w2.cell? ⟨w5.heap.size, 1, none⟩ = some (.int .i64 at_) ∧ w2.cell? ⟨w5.heap.size, 2, none⟩ = some (.slice (some ⟨g5, 0, none⟩) fs.length fs.length)) := by
    rw [hW6]; exact fun w2 hb => ⟨((Bxs.new _ _ _).below hb).cell 0, ((Bxs.new _ _ _).below hb).cell 1, ((Bxs.new _ _ _).below hb).cell 2⟩
  have HW6 : Hid (W6 = w5.alloc (.cells #[.string kd, .int .i64 at_, .slice (some ⟨g5, 0, none⟩) fs.length fs.length] 38)) := hW6
  have hI := implRowLeaf_any kd at_ (some ⟨g5, 0, none⟩) fs.length fs W6 (HG.out.below (chainB B0.out b6') HG.out.1) B6.out.at hl (Nat.le_refl _) HK.out HS.out
  clear hW6 hB5
  rw [HR] at hI
  go_wp2_with fail
  rw [← HW6.out]
  refine hI.mono ?_
  rintro e w7 ⟨rfl, b7⟩
  have B7 : Hid (BlkF w7 g5 fs) := B6.out.below b7
  have b7' := chainB b6' b7
  clear hI
  obtain ⟨x0, x1, x2⟩ := HBX.out w7 b7'
  obtain ⟨y0, y1, y2⟩ := HY.out w7 b7
  go_wp2_with fail
  have HT7 : Hid (∀ w', Below w7.heap.size w7 w' → Calls Tryd.prog 16 #[.agg #[.string kd, .int .i64 at_, .slice a0 fs.length cap0]] w' fun e w'' => ∃ g, w'.heap.size ≤ g ∧ e = .returned (.agg #[.string kd, .int .i64 at_, .slice (some ⟨g, 0, none⟩) fs.length fs.length]) ∧ BlkF w'' g fs ∧ Below w'.heap.size w' w'') := fun w' hb =>
    toRow_any kd at_ a0 cap0 fs w' (HP.out.below (chainB (chainB B0.out b7') hb)) hl hcap
  have HE7 : Hid (∀ w' g, BlkF w' g5 fs → BlkF w' g fs → Calls Tryd.prog 18 #[.agg #[.string kd, .int .i64 at_, .slice (some ⟨g5, 0, none⟩) fs.length fs.length], .agg #[.string kd, .int .i64 at_, .slice (some ⟨g, 0, none⟩) fs.length fs.length]] w' fun e w'' => e = .returned (.bool true) ∧ Below w'.heap.size w' w'') := fun w' g h1 h2 =>
    eqRow_any kd at_ _ _ fs.length fs.length fs w' h1.at h2.at hl (Nat.le_refl _) (Nat.le_refl _)
  go_region_with (first
    | (go_at_call 18; refine (HE7.out _ _ B8x.out B8.out).mono ?_; rintro e w9 ⟨rfl, b9⟩; have b9' := chainB b8 b9)
    | (go_at_call 16; refine (HT7.out _ ((Below.refl _ _).drew)).mono ?_; rintro e w8 ⟨g8, hg8, rfl, hB8, b8⟩; have B8 : Hid (BlkF w8 g8 fs) := hB8; have b8 := chainB ((Below.refl _ _).drew) b8; have B8x : Hid (BlkF w8 g5 fs) := B7.out.below b8; clear hB8; obtain ⟨z0, z1, z2⟩ := HY.out w8 (chainB b7 b8)))
  all_goals
    go_wp2_with fail
    go_ret
    exact ⟨rfl, chainB (chainB B0.out b7') b9'⟩

theorem contract (H : Type) (enc : TypeId × Value → H) (W : World) (base : Nat) (args : Array Value) (ds gs : List (DataW H)) (before : List MemPlace)
    (hval : ∀ (j : Nat) t v, Tryd.f7.params[j]? = some t → args[j]? = some v → Value.okWide Tryd.prog W .any base t v)
    (hW : DataW.Whole enc Tryd.prog Tryd.f7.params.toList Rows.fnExactRowLeafSpec.vars false W args.toList ds gs before) (hL : laidMetH Tryd.prog Rows.fnExactRowLeafRow.laid W) :
    Calls Tryd.prog 7 args W fun e W' => ∃ v, e = .returned v ∧ Rows.fnExactRowLeafSpec.post enc Tryd.prog Tryd.f7 false true false false W args v W' := by
  have hW' := hW
  obtain ⟨p, q, hA0, hV, rfl, hfz, hnd⟩ := hW
  have hA : DataW.TrodAll enc Tryd.prog W 0 (fun _ => true) true Tryd.f7.params.toList args.toList ds p := hA0
  rw [Tryd.params7] at hA hval
  obtain ⟨v0, vs0, d0, ds0, p0, q0, hargs, rfl, rfl, h0, r0⟩ := trodAll_cons hA
  obtain ⟨rfl, rfl, rfl⟩ := trodAll_nil r0
  obtain rfl : args = #[v0] := by cases args; simp_all
  have hV2 : DataW.TrodVars enc Tryd.prog W (fun _ => true) ["loop.example/g00633/impl.firstState", "loop.example/g00633/impl.roundNums"] gs q := hV
  obtain ⟨_, _, _, _, e0, _, _, _, _, _, e1, _, rfl, _⟩ := trodVars_two hV2
  have k0 := h0
  have lt0 : ∀ x ∈ p0, x.block < W.heap.size := by obtain ⟨m, hm⟩ := k0; exact DataW.trod_lt m _ _ _ hm
  obtain ⟨kd0, at0, a0, len0, cap0, fs0, rfl, w0⟩ := open_row (hval 0 33 v0 rfl rfl) h0
  clear hA0
  have hT : Tabs W := tabs_of hL
  refine (walk kd0 at0 a0 len0 cap0 fs0 W w0 hT).mono fun e W' ⟨he, hg⟩ => ?_
  subst he
  exact ⟨_, rfl, _, _, _, [], _, _, hW', (trodAll_cons_mk (shut_bool Tryd.underlying4 _) trodAll_mk0), (trodAll_cons_mk (Below.trod laidOut (by kernel_rfl) (of_decide_eq_true (by kernel_rfl)) k0 hg lt0) trodAll_mk0), Below.trodVars laidOut hg (by kernel_rfl) hV, hg.frame _, fun h => by cases h⟩

/-- The variables' blocks as the initialisers leave them, for the witness. -/
def setTab (zs : List Int) : Obj → Obj
  | .cells _ t frozen => .cells (zs.map (Value.int .u32)).toArray t frozen
  | o => o
noncomputable def wit (os : Os) : World := { World.holding Tryd.prog os ⟨#[], #[], []⟩ with heap := ((World.holding Tryd.prog os ⟨#[], #[], []⟩).heap.modify 0 (setTab startN)).modify 1 (setTab keysN) }

theorem laid_met (os : Os) : laidMetH Tryd.prog Rows.fnExactRowLeafRow.laid ((wit os).forCall (fun _ _ => 0) ⟨#[], #[.agg #[.string ByteArray.empty, .int .i64 0, .slice none 0 0]], []⟩).memory :=
  laidMetH_of_parts (laidMet_of_run' 8 (by kernel_rfl) (by kernel_rfl)) (by kernel_rfl)
theorem reads (os : Os) {H : Type} (enc : TypeId × Value → H) : ∃ places, DataW.whole enc Tryd.prog ((wit os).forCall (fun _ _ => 0) ⟨#[], #[.agg #[.string ByteArray.empty, .int .i64 0, .slice none 0 0]], []⟩).memory Tryd.f7.params.toList Rows.fnExactRowLeafSpec.vars false #[Value.agg #[.string ByteArray.empty, .int .i64 0, .slice none 0 0]].toList 8 = some ([.agg [.lit (.string []), .lit (.int .i64 0), .nil]], [Rows.laid_loop_example_g00633_impl_firstState, Rows.laid_loop_example_g00633_impl_roundNums], places) := by
  have h : (DataW.whole enc Tryd.prog ((wit os).forCall (fun _ _ => 0) ⟨#[], #[.agg #[.string ByteArray.empty, .int .i64 0, .slice none 0 0]], []⟩).memory Tryd.f7.params.toList Rows.fnExactRowLeafSpec.vars false #[Value.agg #[.string ByteArray.empty, .int .i64 0, .slice none 0 0]].toList 8).map (fun x => (x.1, x.2.1)) = some ([.agg [.lit (.string []), .lit (.int .i64 0), .nil]], [Rows.laid_loop_example_g00633_impl_firstState, Rows.laid_loop_example_g00633_impl_roundNums]) := by kernel_rfl
  obtain ⟨⟨a, b, c⟩, hx, hy⟩ := Option.map_eq_some_iff.1 h
  cases hy
  exact ⟨c, hx⟩

set_option maxRecDepth 100000 in
theorem lifted (os : Os) (started : os.Started) (H : Type) (enc : TypeId × Value → H) (F : Stop.Interp) :
    ReturnsInHanded {} Tryd.checked os 7 .any ((OpenSpec.ofChange Rows.fnExactRowLeafSpec).preRow enc Tryd.prog Tryd.f7 Rows.fnExactRowLeafRow.domain false Rows.fnExactRowLeafRow.laid) (((OpenSpec.ofChange Rows.fnExactRowLeafSpec).at F).post enc Tryd.prog Tryd.f7 false true false false) := by
  obtain ⟨places, hx⟩ := reads os enc
  refine returnsInHanded_of_row (C := Tryd.checked) (s := OpenSpec.ofChange Rows.fnExactRowLeafSpec) own started (by kernel_rfl) Tryd.func7
    (witness_row_at (enc := enc) (C := Tryd.checked) false (wit os) #[.agg #[.string ByteArray.empty, .int .i64 0, .slice none 0 0]] rfl (by kernel_rfl) (by kernel_rfl) (by kernel_rfl)
      (OpenSpec.preRow_of_cond 8 hx (by kernel_rfl) (fun k hk => by cases hk) (by kernel_rfl) (laid_met os))) ?_
  intro W base args ds gs before hval hW _ _ _ hL _ _
  exact contract H enc W base args ds gs before hval hW hL

theorem said : Rows.FnExactRowLeafSaid :=
  OpenClaim.holds_of_cond 7 Tryd.f7 rfl rfl rfl rfl rfl rfl rfl ⟨rfl, rfl, rfl, rfl, rfl⟩ rfl rfl rfl rfl rfl (by kernel_rfl) Tryd.func7 (by kernel_rfl)
    (of_decide_eq_true (by kernel_rfl)) (by unfold Func.isWrapper; first | (rw [if_pos (by decide +kernel)]; kernel_rfl) | (rw [if_neg (by decide +kernel)]; exact ⟨rfl, rfl⟩))
    (fun os started H enc _ F => by rw [OpenClaim.pre_eq_preRow]; exact lifted os started H enc F)

theorem plain (f : FuncId) (fn : Func) (hf : Tryd.pinned.checked.prog.funcNamed "loop.example/g00633/laws.FnExactRowLeaf" = some f) (hfn : Tryd.pinned.checked.prog.funcs[f]? = some fn) :
    Rows.fnExactRowLeafCard.stood.looks = Tryd.pinned.checked.prog.looks [] ∧ ∀ (j : Nat) t, fn.params[j]? = some t → Tryd.pinned.checked.prog.wantsStandIn t = false := by
  obtain rfl : f = 7 := Option.some.inj ((show Tryd.prog.funcNamed "loop.example/g00633/laws.FnExactRowLeaf" = some 7 by kernel_rfl).symm.trans hf) |>.symm
  obtain rfl : fn = Tryd.f7 := (Option.some.inj (Tryd.func7.symm.trans hfn)).symm
  refine ⟨by kernel_rfl, fun j t ht => ?_⟩
  rw [Tryd.params7] at ht
  have hm := Array.mem_of_getElem? ht
  have hl : t ∈ ([33] : List TypeId) := by simpa using hm
  simp only [List.mem_cons, List.not_mem_nil, or_false] at hl
  subst hl
  exact (show Tryd.prog.wantsStandIn 33 = false by kernel_rfl)

theorem proved : Rows.FnExactRowLeafCardSaid :=
  Claim7.holds_tied_plain_at .later [] _ _ _ _ said (fun _ h => by cases h) (by kernel_rfl) (fun _ h => by cases h) fnExactRowLeaf_row_tie rfl ⟨rfl, rfl⟩ (by kernel_rfl) rfl plain (by kernel_rfl)
#print axioms proved
end Go.Proofs.YtefakcpclihaeakDoor.fnExactRowLeaf
