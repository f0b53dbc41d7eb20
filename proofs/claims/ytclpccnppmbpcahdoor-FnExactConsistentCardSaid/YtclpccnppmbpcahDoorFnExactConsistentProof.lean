/-
  For every two texts, list of texts and two int64 the law FnExactConsistent returns true: the program's Consistent answers as the specification's; the card ties the two listed tables, firstState and roundNums, to the program's text.
  Conditions: none of mine; the form's own reach; the two tables as the program's text lays them (the given tie). The card speaks of the pruned copy of the project that the seat names.
-/
import Derived.Test.YtclpccnppmbpcahDoorCards
import Derived.Test.YtclpccnppmbpcahDoorTie
import Derived.Test.YtclpccnppmbpcahDoorConI
import Derived.Test.YtclpccnppmbpcahDoorCon2
import Derived.Test.YtclpccnppmbpcahDoorLawS
import Derived.Test.YtclpccnppmbpcahDoorTabsOf
import Derived.WalkKit
import Derived.ProofKit
import Derived.OpenShut
import Derived.OpenVars
import Derived.ShutString
import Derived.LaidHandle
import Derived.LaidLaws
import Derived.Deep.DeepHandedRow
import Derived.ChangeOld
import Derived.Below
import Derived.Deep.Strs
namespace Go.Proofs.YtclpccnppmbpcahDoor.fnExactConsistent
open Go.ChangeShapes Go.WideShapes Go.ChangeAt Go.RowKit
open Go.ChangeMaps (open_string shut_string)
set_option linter.unusedVariables false

theorem own : ownKnob Tryd.prog.godebug = none := by kernel_rfl
theorem laidOut : laidOutB Tryd.prog = true := by kernel_rfl

/-- What the walk is told of a slice of texts that came in. -/
def IsTexts (w : World) (a : Option Addr) (len cap : Nat) (ss : List ByteArray) : Prop :=
  ss.length = len ∧ TxtAt w a ss ∧ len ≤ cap ∧ cap ≤ maxLen ∧ ∀ x ∈ ss, x.size ≤ maxLen
theorem texts_of {H : Type} {enc : TypeId × Value → H} {W : World} {base : Nat} {fuel : Nat} {x : DataW H × List MemPlace} {a : Option Addr} {len cap : Nat}
    (h : DataW.trod enc Tryd.prog W base (fun _ => true) true fuel 22 [.slice a len cap] = some x) : ∃ ss, IsTexts W a len cap ss := by
  rcases Go.Deep.open_strs Tryd.underlying22 Tryd.underlying9 (by kernel_rfl) h with ⟨hcs, _⟩ | ⟨ad, l, c, m, Sx, hcs, _, hl, hm, hmm, _, hx⟩
  · simp at hcs
    obtain ⟨rfl, rfl, rfl⟩ := hcs
    exact ⟨[], rfl, TxtAt.nil _ _, Nat.le_refl _, by unfold maxLen; omega, fun x hx => by cases hx⟩
  · simp at hcs
    obtain ⟨rfl, rfl, rfl⟩ := hcs
    rw [if_pos rfl] at hmm
    subst hmm
    refine ⟨(List.range len).map Sx, by simp, ?_, hl, hm, ?_⟩
    · intro i hi
      have hi2 : i < len := by simpa using hi
      obtain ⟨b, off, spot⟩ := ad
      have hc := (hx i (by omega)).1
      have hspot : spot = none := by simpa [Addr.add] using World.cell?_spot (hx 0 (by omega)).1
      subst hspot
      have hadd : (⟨b, off, none⟩ : Addr).add i = ⟨b, off + i, none⟩ := by unfold Addr.add; split <;> simp_all
      rw [hadd] at hc
      exact ⟨b, off, rfl, World.block_lt_of_cell? W _ hc, by rw [hc]; simp⟩
    · intro x hxm
      obtain ⟨i, hi, rfl⟩ := List.mem_map.1 hxm
      exact (hx i (by have := List.mem_range.1 hi; omega)).2

theorem int_bd {k : Int} (h : (Lit.int .i64 k).wf = true) : -9223372036854775808 ≤ k ∧ k ≤ 9223372036854775807 := by simpa [Lit.wf, IntKind.min, IntKind.max, IntKind.signed, IntKind.bits] using h
set_option maxHeartbeats 2000000 in
theorem walk (a1 a2 : Int) (a3 : Option Addr) (len3 cap3 : Nat) (ss : List ByteArray) (a0 a4 : ByteArray) (w : World) (w1 : (Lit.int .i64 a1).wf = true) (w2 : (Lit.int .i64 a2).wf = true) (w3 : IsTexts w a3 len3 cap3 ss) (w0 : a0.size ≤ maxLen) (w4 : a4.size ≤ maxLen) (hg : Tabs w) :
    Calls Tryd.prog 5 #[.int .i64 a1, .int .i64 a2, .slice a3 len3 cap3, .string a0, .string a4] w fun e w' => e = .returned (.bool true) ∧ Below w.heap.size w w' := by
  obtain ⟨rfl, hp, hcap, hm, hsz⟩ := w3
  obtain ⟨i0, i1⟩ := int_bd w1
  obtain ⟨n0, n1⟩ := int_bd w2
  have HG : Hid (Tabs w) := hg
  have HP : Hid (TxtAt w a3 ss) := hp
  have HS : Hid (∀ x ∈ ss, x.size ≤ maxLen) := hsz
  have hw0 := w0
  have hw4 := w4
  clear hg hp hsz w1 w2
  unfold maxLen at hm w0 w4
  by_cases hb : 1048576 < a0.size
  · go_enter Tryd.func5, Tryd.ntmps5
    go_wp2_with fail
    go_ret
    exact ⟨rfl, Below.refl _ _⟩
  by_cases hb4 : 1048576 < a4.size
  · go_enter Tryd.func5, Tryd.ntmps5
    go_wp2_with fail
    go_ret
    exact ⟨rfl, Below.refl _ _⟩
  go_enter Tryd.func5, Tryd.ntmps5
  go_wp2_with fail
  refine (sz_any a3 cap3 ss _ HP.out (by omega) hcap (fun x hx => by have := HS.out x hx; unfold maxLen at this; exact this)).mono ?_
  rintro e w1 ⟨⟨r, rfl, hr⟩, hw1⟩
  subst hw1
  rcases hr with rfl | ⟨hr0, hl, hx⟩
  · go_wp2_with fail
    go_ret
    exact ⟨rfl, Below.refl _ _⟩
  · clear hx
    go_wp2_with fail
    refine (to_any a3 cap3 ss _ HP.out hl hcap).mono ?_
    rintro e w2 ⟨rfl, hB2, hb2⟩
    have B2 : Hid (BlkS w2 w1.heap.size ss) := hB2
    clear hB2
    go_wp2_with fail
    refine (specCon_any a1 a2 _ ss.length ss a0 a4 _ B2.out.txt (by omega) (Nat.le_refl _) hw0 hw4 i0 i1 n0 n1).mono ?_
    rintro e w3 ⟨rfl, hb3⟩
    have hb3 := chainB hb2 hb3
    go_wp2_with fail
    refine (to_any a3 cap3 ss _ (HP.out.below hb3) hl hcap).mono ?_
    rintro e w4 ⟨rfl, hB4, hb4'⟩
    have B4 : Hid (BlkS w4 w3.heap.size ss) := hB4
    have hb5 := chainB hb3 hb4'
    clear hB4
    go_wp2_with fail
    refine (implCon_any a1 a2 _ ss.length ss a0 a4 _ (HG.out.below hb5 HG.out.1) B4.out.txt (by omega) (Nat.le_refl _) i0 i1 n0 n1).mono ?_
    rintro e w5 ⟨rfl, hb6⟩
    have B5 : Hid (BlkS w5 w3.heap.size ss) := B4.out.below hb6 B4.out.lt
    have hb7 := chainB hb5 hb6
    generalize conA a1 a2 ss a0 a4 = R at *
    have hR : ((R != R)) = false := by simp
    go_wp2_with fail
    refine (to_any a3 cap3 ss _ (HP.out.below hb7) hl hcap).mono ?_
    rintro e w6 ⟨rfl, hB6, hb8⟩
    have B6 : Hid (BlkS w6 w5.heap.size ss) := hB6
    have B7 : Hid (BlkS w6 w3.heap.size ss) := B5.out.below hb8 B5.out.lt
    have hb9 := chainB hb7 hb8
    clear hB6
    have hq := eq_any _ _ ss.length ss.length ss ss w6 B7.out.txt B6.out.txt (by omega) (by omega) (Nat.le_refl _) (Nat.le_refl _)
    rw [decide_eq_true rfl] at hq
    go_wp2_with fail
    refine hq.mono ?_
    rintro e w7 ⟨rfl, hb10⟩
    go_wp2_with fail
    go_ret
    exact ⟨rfl, chainB hb9 hb10⟩

theorem contract (H : Type) (enc : TypeId × Value → H) (W : World) (base : Nat) (args : Array Value) (ds gs : List (DataW H)) (before : List MemPlace)
    (hval : ∀ (j : Nat) t v, Tryd.f5.params[j]? = some t → args[j]? = some v → Value.okWide Tryd.prog W .any base t v)
    (hW : DataW.Whole enc Tryd.prog Tryd.f5.params.toList Rows.fnExactConsistentSpec.vars false W args.toList ds gs before) (hL : laidMetH Tryd.prog Rows.fnExactConsistentRow.laid W) :
    Calls Tryd.prog 5 args W fun e W' => ∃ v, e = .returned v ∧ Rows.fnExactConsistentSpec.post enc Tryd.prog Tryd.f5 false true false false W args v W' := by
  have hW' := hW
  obtain ⟨p, q, hA0, hV, rfl, hfz, hnd⟩ := hW
  have hA : DataW.TrodAll enc Tryd.prog W 0 (fun _ => true) true Tryd.f5.params.toList args.toList ds p := hA0
  rw [Tryd.params5] at hA hval
  obtain ⟨v0, vs0, d0, ds0, p0, q0, hargs, rfl, rfl, h0, r0⟩ := trodAll_cons hA
  obtain ⟨v1, vs1, d1, ds1, p1, q1, rfl, rfl, rfl, h1, r1⟩ := trodAll_cons r0
  obtain ⟨v2, vs2, d2, ds2, p2, q2, rfl, rfl, rfl, h2, r2⟩ := trodAll_cons r1
  obtain ⟨v3, vs3, d3, ds3, p3, q3, rfl, rfl, rfl, h3, r3⟩ := trodAll_cons r2
  obtain ⟨v4, vs4, d4, ds4, p4, q4, rfl, rfl, rfl, h4, r4⟩ := trodAll_cons r3
  obtain ⟨rfl, rfl, rfl⟩ := trodAll_nil r4
  obtain rfl : args = #[v0, v1, v2, v3, v4] := by cases args; simp_all
  have hV2 : DataW.TrodVars enc Tryd.prog W (fun _ => true) ["loop.example/g00633/impl.firstState", "loop.example/g00633/impl.roundNums"] gs q := hV
  obtain ⟨_, _, _, _, e0, _, _, _, _, _, e1, _, rfl, _⟩ := trodVars_two hV2
  obtain ⟨a0, rfl, rfl, rfl, w0⟩ := open_int Tryd.underlying2 (hval 0 2 v0 rfl rfl) h0
  obtain ⟨a1, rfl, rfl, rfl, w1⟩ := open_int Tryd.underlying2 (hval 1 2 v1 rfl rfl) h1
  obtain ⟨a2, len2, cap2, rfl⟩ := okWide_slice Tryd.underlying22 (hval 2 22 v2 rfl rfl)
  have k2 := h2
  have lt2 : ∀ x ∈ p2, x.block < W.heap.size := by obtain ⟨m, hm⟩ := k2; exact DataW.trod_lt m _ _ _ hm
  obtain ⟨ss2, w2⟩ : ∃ ss, IsTexts W a2 len2 cap2 ss := by
    obtain ⟨fuel, hf⟩ := h2
    exact texts_of hf
  obtain ⟨a3, rfl, rfl, rfl, w3⟩ := open_string Tryd.underlying9 (hval 3 9 v3 rfl rfl) h3
  obtain ⟨a4, rfl, rfl, rfl, w4⟩ := open_string Tryd.underlying9 (hval 4 9 v4 rfl rfl) h4
  clear hA0
  have hT : Tabs W := tabs_of hL
  refine (walk a0 a1 a2 len2 cap2 ss2 a3 a4 W w0 w1 w2 w3 w4 hT).mono fun e W' ⟨he, hg⟩ => ?_
  subst he
  exact ⟨_, rfl, _, _, _, [], _, _, hW', (trodAll_cons_mk (shut_bool Tryd.underlying4 _) trodAll_mk0), (trodAll_cons_mk (shut_int Tryd.underlying2 w0) (trodAll_cons_mk (shut_int Tryd.underlying2 w1) (trodAll_cons_mk (Below.trod laidOut (by kernel_rfl) (of_decide_eq_true (by kernel_rfl)) k2 hg lt2) (trodAll_cons_mk (shut_string Tryd.underlying9 w3) (trodAll_cons_mk (shut_string Tryd.underlying9 w4) trodAll_mk0))))), Below.trodVars laidOut hg (by kernel_rfl) hV, hg.frame _, fun h => by cases h⟩

/-- The variables' blocks as the initialisers leave them, for the witness. -/
def setTab (zs : List Int) : Obj → Obj
  | .cells _ t frozen => .cells (zs.map (Value.int .u32)).toArray t frozen
  | o => o
noncomputable def wit (os : Os) : World := { World.holding Tryd.prog os ⟨#[], #[], []⟩ with heap := ((World.holding Tryd.prog os ⟨#[], #[], []⟩).heap.modify 0 (setTab startN)).modify 1 (setTab keysN) }

theorem laid_met (os : Os) : laidMetH Tryd.prog Rows.fnExactConsistentRow.laid ((wit os).forCall (fun _ _ => 0) ⟨#[], #[.int .i64 0, .int .i64 0, .slice none 0 0, .string ByteArray.empty, .string ByteArray.empty], []⟩).memory :=
  laidMetH_of_parts (laidMet_of_run' 8 (by kernel_rfl) (by kernel_rfl)) (by kernel_rfl)
theorem reads (os : Os) {H : Type} (enc : TypeId × Value → H) : ∃ places, DataW.whole enc Tryd.prog ((wit os).forCall (fun _ _ => 0) ⟨#[], #[.int .i64 0, .int .i64 0, .slice none 0 0, .string ByteArray.empty, .string ByteArray.empty], []⟩).memory Tryd.f5.params.toList Rows.fnExactConsistentSpec.vars false #[Value.int .i64 0, Value.int .i64 0, Value.slice none 0 0, Value.string ByteArray.empty, Value.string ByteArray.empty].toList 8 = some ([.lit (.int .i64 0), .lit (.int .i64 0), .nil, .lit (.string []), .lit (.string [])], [Rows.laid_loop_example_g00633_impl_firstState, Rows.laid_loop_example_g00633_impl_roundNums], places) := by
  have h : (DataW.whole enc Tryd.prog ((wit os).forCall (fun _ _ => 0) ⟨#[], #[.int .i64 0, .int .i64 0, .slice none 0 0, .string ByteArray.empty, .string ByteArray.empty], []⟩).memory Tryd.f5.params.toList Rows.fnExactConsistentSpec.vars false #[Value.int .i64 0, Value.int .i64 0, Value.slice none 0 0, Value.string ByteArray.empty, Value.string ByteArray.empty].toList 8).map (fun x => (x.1, x.2.1)) = some ([.lit (.int .i64 0), .lit (.int .i64 0), .nil, .lit (.string []), .lit (.string [])], [Rows.laid_loop_example_g00633_impl_firstState, Rows.laid_loop_example_g00633_impl_roundNums]) := by kernel_rfl
  obtain ⟨⟨a, b, c⟩, hx, hy⟩ := Option.map_eq_some_iff.1 h
  cases hy
  exact ⟨c, hx⟩

set_option maxRecDepth 100000 in
theorem lifted (os : Os) (started : os.Started) (H : Type) (enc : TypeId × Value → H) (F : Stop.Interp) :
    ReturnsInHanded {} Tryd.checked os 5 .any ((OpenSpec.ofChange Rows.fnExactConsistentSpec).preRow enc Tryd.prog Tryd.f5 Rows.fnExactConsistentRow.domain false Rows.fnExactConsistentRow.laid) (((OpenSpec.ofChange Rows.fnExactConsistentSpec).at F).post enc Tryd.prog Tryd.f5 false true false false) := by
  obtain ⟨places, hx⟩ := reads os enc
  refine returnsInHanded_of_row (C := Tryd.checked) (s := OpenSpec.ofChange Rows.fnExactConsistentSpec) own started (by kernel_rfl) Tryd.func5
    (witness_row_at (enc := enc) (C := Tryd.checked) false (wit os) #[.int .i64 0, .int .i64 0, .slice none 0 0, .string ByteArray.empty, .string ByteArray.empty] rfl (by kernel_rfl) (by kernel_rfl) (by kernel_rfl)
      (OpenSpec.preRow_of_cond 8 hx (by kernel_rfl) (fun k hk => by cases hk) (by kernel_rfl) (laid_met os))) ?_
  intro W base args ds gs before hval hW _ _ _ hL _ _
  exact contract H enc W base args ds gs before hval hW hL

theorem said : Rows.FnExactConsistentSaid :=
  OpenClaim.holds_of_cond 5 Tryd.f5 rfl rfl rfl rfl rfl rfl rfl ⟨rfl, rfl, rfl, rfl, rfl⟩ rfl rfl rfl rfl rfl (by kernel_rfl) Tryd.func5 (by kernel_rfl)
    (of_decide_eq_true (by kernel_rfl)) (by unfold Func.isWrapper; first | (rw [if_pos (by decide +kernel)]; kernel_rfl) | (rw [if_neg (by decide +kernel)]; exact ⟨rfl, rfl⟩))
    (fun os started H enc _ F => by rw [OpenClaim.pre_eq_preRow]; exact lifted os started H enc F)

theorem plain (f : FuncId) (fn : Func) (hf : Tryd.pinned.checked.prog.funcNamed "loop.example/g00633/laws.FnExactConsistent" = some f) (hfn : Tryd.pinned.checked.prog.funcs[f]? = some fn) :
    Rows.fnExactConsistentCard.stood.looks = Tryd.pinned.checked.prog.looks [] ∧ ∀ (j : Nat) t, fn.params[j]? = some t → Tryd.pinned.checked.prog.wantsStandIn t = false := by
  obtain rfl : f = 5 := Option.some.inj ((show Tryd.prog.funcNamed "loop.example/g00633/laws.FnExactConsistent" = some 5 by kernel_rfl).symm.trans hf) |>.symm
  obtain rfl : fn = Tryd.f5 := (Option.some.inj (Tryd.func5.symm.trans hfn)).symm
  refine ⟨by kernel_rfl, fun j t ht => ?_⟩
  rw [Tryd.params5] at ht
  have hm := Array.mem_of_getElem? ht
  have hl : t ∈ ([2, 2, 22, 9, 9] : List TypeId) := by simpa using hm
  simp only [List.mem_cons, List.not_mem_nil, or_false] at hl
  rcases hl with rfl | rfl | rfl | rfl | rfl
  · exact (show Tryd.prog.wantsStandIn 2 = false by kernel_rfl)
  · exact (show Tryd.prog.wantsStandIn 2 = false by kernel_rfl)
  · exact (show Tryd.prog.wantsStandIn 22 = false by kernel_rfl)
  · exact (show Tryd.prog.wantsStandIn 9 = false by kernel_rfl)
  · exact (show Tryd.prog.wantsStandIn 9 = false by kernel_rfl)

theorem proved : Rows.FnExactConsistentCardSaid :=
  Claim7.holds_tied_plain_at .later [] _ _ _ _ said (fun _ h => by cases h) (by kernel_rfl) (fun _ h => by cases h) fnExactConsistent_row_tie rfl ⟨rfl, rfl⟩ (by kernel_rfl) rfl plain (by kernel_rfl)
#print axioms proved
end Go.Proofs.YtclpccnppmbpcahDoor.fnExactConsistent
