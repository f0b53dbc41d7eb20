/-
  For every Range the law FnExactRangeRoot returns true: the program's RangeRoot answers as the specification's; the card ties the two listed tables, firstState and roundNums, to the program's text.
  Conditions: none of mine; the form's own reach; the two tables as the program's text lays them (the given tie). The card speaks of the pruned copy of the project that the seat names.
-/
import Derived.Test.YtclpccnppmbpcahDoorCards
import Derived.Test.YtclpccnppmbpcahDoorTie
import Derived.Test.YtclpccnppmbpcahDoorRootI
import Derived.Test.YtclpccnppmbpcahDoorLawR
import Derived.Test.YtclpccnppmbpcahDoorLawS
import Derived.Test.YtclpccnppmbpcahDoorTabsOf
import Derived.WalkKit
import Derived.ProofKit
import Derived.OpenShut
import Derived.OpenVars
import Derived.ShutString
import Derived.LaidHandle
import Derived.LaidLaws
import Derived.Deep.DeepHandedRow
import Derived.ChangeOld
import Derived.Below
import Derived.Deep.Strs
namespace Go.Proofs.YtclpccnppmbpcahDoor.fnExactRangeRoot
open Go.ChangeShapes Go.WideShapes Go.ChangeAt Go.RowKit
open Go.ChangeMaps (open_string shut_string)
set_option linter.unusedVariables false

theorem own : ownKnob Tryd.prog.godebug = none := by kernel_rfl
theorem laidOut : laidOutB Tryd.prog = true := by kernel_rfl

/-- What the walk is told of a slice of texts that came in. -/
def IsTexts (w : World) (a : Option Addr) (len cap : Nat) (ss : List ByteArray) : Prop :=
  ss.length = len ∧ TxtAt w a ss ∧ len ≤ cap ∧ cap ≤ maxLen ∧ ∀ x ∈ ss, x.size ≤ maxLen
theorem texts_of {H : Type} {enc : TypeId × Value → H} {W : World} {base : Nat} {fuel : Nat} {x : DataW H × List MemPlace} {a : Option Addr} {len cap : Nat}
    (h : DataW.trod enc Tryd.prog W base (fun _ => true) true fuel 22 [.slice a len cap] = some x) : ∃ ss, IsTexts W a len cap ss := by
  rcases Go.Deep.open_strs Tryd.underlying22 Tryd.underlying9 (by kernel_rfl) h with ⟨hcs, _⟩ | ⟨ad, l, c, m, Sx, hcs, _, hl, hm, hmm, _, hx⟩
  · simp at hcs
    obtain ⟨rfl, rfl, rfl⟩ := hcs
    exact ⟨[], rfl, TxtAt.nil _ _, Nat.le_refl _, by unfold maxLen; omega, fun x hx => by cases hx⟩
  · simp at hcs
    obtain ⟨rfl, rfl, rfl⟩ := hcs
    rw [if_pos rfl] at hmm
    subst hmm
    refine ⟨(List.range len).map Sx, by simp, ?_, hl, hm, ?_⟩
    · intro i hi
      have hi2 : i < len := by simpa using hi
      obtain ⟨b, off, spot⟩ := ad
      have hc := (hx i (by omega)).1
      have hspot : spot = none := by simpa [Addr.add] using World.cell?_spot (hx 0 (by omega)).1
      subst hspot
      have hadd : (⟨b, off, none⟩ : Addr).add i = ⟨b, off + i, none⟩ := by unfold Addr.add; split <;> simp_all
      rw [hadd] at hc
      exact ⟨b, off, rfl, World.block_lt_of_cell? W _ hc, by rw [hc]; simp⟩
    · intro x hxm
      obtain ⟨i, hi, rfl⟩ := List.mem_map.1 hxm
      exact (hx i (by have := List.mem_range.1 hi; omega)).2

theorem open_range {H : Type} {enc : TypeId × Value → H} {W : World} {base : Nat} {v : Value} {d : DataW H} {ps : List MemPlace} (hval : Value.okWide Tryd.prog W .any base 31 v)
    (h : DataW.Trod enc Tryd.prog W 0 (fun _ => true) true 31 v d ps) : ∃ n a len cap, v = .agg #[.int .i64 n, .slice a len cap] ∧ (Lit.int .i64 n).wf = true ∧ ∃ ss, IsTexts W a len cap ss := by
  obtain ⟨cs, rfl, hsz⟩ := okWide_struct Tryd.underlying31 hval
  have h2 : cs.size = 2 := hsz.trans (by kernel_rfl)
  obtain ⟨fuel, hf⟩ := h
  obtain ⟨y0, y1, m, _, _, ht0, ht1⟩ := trod_struct2 Tryd.underlying31 hf
  obtain ⟨c0, c1, rfl⟩ : ∃ c0 c1, cs = #[c0, c1] := by
    match cs, h2 with
    | ⟨[c0, c1]⟩, _ => exact ⟨c0, c1, rfl⟩
  have e0 : Tryd.prog.cellsOf 2 = 1 := by kernel_rfl
  have e1 : Tryd.prog.cellsOf 22 = 1 := by kernel_rfl
  simp only [Value.cells, e0, e1, List.drop_zero, List.take_succ_cons, List.take_zero, List.drop_succ_cons] at ht0 ht1
  obtain ⟨n, hc0, _, hw⟩ := DataW.trod_int Tryd.underlying2 ht0
  simp at hc0
  subst hc0
  rcases Go.Deep.open_strs Tryd.underlying22 Tryd.underlying9 (by kernel_rfl) ht1 with ⟨hcs, _⟩ | ⟨ad, l, c, mm, Sx, hcs, _⟩
  · simp at hcs
    subst hcs
    exact ⟨n, _, _, _, rfl, hw, texts_of ht1⟩
  · simp at hcs
    subst hcs
    exact ⟨n, _, _, _, rfl, hw, texts_of ht1⟩

theorem int_bd {k : Int} (h : (Lit.int .i64 k).wf = true) : -9223372036854775808 ≤ k ∧ k ≤ 9223372036854775807 := by simpa [Lit.wf, IntKind.min, IntKind.max, IntKind.signed, IntKind.bits] using h
set_option maxHeartbeats 1000000 in
theorem walk (n : Int) (a0 : Option Addr) (len0 cap0 : Nat) (ss : List ByteArray) (hwf : (Lit.int .i64 n).wf = true) (w : World) (w0 : IsTexts w a0 len0 cap0 ss) (hg : Tabs w) :
    Calls Tryd.prog 7 #[.agg #[.int .i64 n, .slice a0 len0 cap0]] w fun e w' => e = .returned (.bool true) ∧ Below w.heap.size w w' := by
  obtain ⟨rfl, hp, hcap, hm, hsz⟩ := w0
  obtain ⟨n0, n1⟩ := int_bd hwf
  have HG : Hid (Tabs w) := hg
  have HP : Hid (TxtAt w a0 ss) := hp
  have HS : Hid (∀ x ∈ ss, x.size ≤ maxLen) := hsz
  clear hg hp hsz hwf
  unfold maxLen at hm
  obtain ⟨W1, hW1⟩ : ∃ W1, W1 = w.alloc (.cells #[.int .i64 n, .slice a0 ss.length cap0] 31) := ⟨_, rfl⟩
  have B0 : Hid (Below w.heap.size w W1) := by rw [hW1]; exact (Below.refl _ _).alloc (Nat.le_refl _) _
  have HBX : Hid (∀ w2, Below W1.heap.size W1 w2 → w2.cell? ⟨w.heap.size, 0, none⟩ = some (.int .i64 n) ∧ w2.cell? ⟨w.heap.size, 1, none⟩ = some (.slice a0 ss.length cap0)) := by
    rw [hW1]; exact fun w2 hb => ⟨box_at hb 0, box_at hb 1⟩
  have HWA : Hid (W1 = w.alloc (.cells #[.int .i64 n, .slice a0 ss.length cap0] 31)) := hW1
  have hlt1 : w.heap.size < W1.heap.size := by rw [hW1]; simp
  clear hW1
  go_enter Tryd.func7, Tryd.ntmps7
  go_wp2_with fail
  rw [← HWA.out]
  refine (szR_any n a0 cap0 ss W1 (HP.out.below B0.out) (by omega) hcap (fun x hx => by have := HS.out x hx; unfold maxLen at this; exact this)).mono ?_
  rintro e w2 ⟨⟨r, rfl, hr⟩, b2⟩
  rcases hr with rfl | ⟨hr0, hl, hx⟩
  · go_wp2_with fail
    go_ret
    exact ⟨rfl, chainB B0.out b2⟩
  clear hx HS
  obtain ⟨x0, x1⟩ := HBX.out w2 b2
  go_wp2_with fail
  refine (toR_any n a0 cap0 ss w2 (HP.out.below (chainB B0.out b2)) hl hcap).mono ?_
  rintro e w3 ⟨g3, hg3, rfl, hB3, b3⟩
  have B3 : Hid (BlkS w3 g3 ss) := hB3
  have b3' := chainB b2 b3
  clear hB3 x0 x1
  go_wp2_with fail
  refine (specRoot_any n _ ss.length ss w3 B3.out.txt hl (Nat.le_refl _) n0 n1).mono ?_
  rintro e w4 ⟨rfl, b4⟩
  have b4' := chainB b3' b4
  obtain ⟨x0, x1⟩ := HBX.out w4 b4'
  go_wp2_with fail
  refine (toR_any n a0 cap0 ss w4 (HP.out.below (chainB B0.out b4')) hl hcap).mono ?_
  rintro e w5 ⟨g5, hg5, rfl, hB5, b5⟩
  have B5 : Hid (BlkS w5 g5 ss) := hB5
  have b5' := chainB b4' b5
  clear hB5 x0 x1
  obtain ⟨W6, hW6⟩ : ∃ W6, W6 = w5.alloc (.cells #[.int .i64 n, .slice (some ⟨g5, 0, none⟩) ss.length ss.length] 33) := ⟨_, rfl⟩
  have b6 : Below w5.heap.size w5 W6 := by rw [hW6]; exact (Below.refl _ _).alloc (Nat.le_refl _) _
  have B6 : Hid (BlkS W6 g5 ss) := B5.out.below b6 B5.out.lt
  have b6' := chainB b5' b6
  have HY : Hid (∀ w2, Below W6.heap.size W6 w2 → w2.cell? ⟨w5.heap.size, 0, none⟩ = some (.int .i64 n) ∧ w2.cell? ⟨w5.heap.size, 1, none⟩ = some (.slice (some ⟨g5, 0, none⟩) ss.length ss.length)) := by
    rw [hW6]; exact fun w2 hb => ⟨box_at hb 0, box_at hb 1⟩
  have HW6 : Hid (W6 = w5.alloc (.cells #[.int .i64 n, .slice (some ⟨g5, 0, none⟩) ss.length ss.length] 33)) := hW6
  have hlt6 : w5.heap.size < W6.heap.size := by rw [hW6]; simp
  clear hW6
  go_wp2_with fail
  rw [← HW6.out]
  refine (implRoot_any n _ ss.length ss W6 (HG.out.below (chainB B0.out b6') HG.out.1) B6.out.txt hl (Nat.le_refl _) n0 n1).mono ?_
  rintro e w7 ⟨rfl, b7⟩
  have B7 : Hid (BlkS w7 g5 ss) := B6.out.below b7 B6.out.lt
  have b7' := chainB b6' b7
  obtain ⟨x0, x1⟩ := HBX.out w7 b7'
  obtain ⟨y0, y1⟩ := HY.out w7 b7
  generalize rngRootA n ss = R at *
  go_wp2_with fail
  have HT7 : Hid (∀ w', Below w7.heap.size w7 w' → Calls Tryd.prog 21 #[.agg #[.int .i64 n, .slice a0 ss.length cap0]] w' fun e w'' => ∃ g, w'.heap.size ≤ g ∧ e = .returned (.agg #[.int .i64 n, .slice (some ⟨g, 0, none⟩) ss.length ss.length]) ∧ BlkS w'' g ss ∧ Below w'.heap.size w' w'') := fun w' hb =>
    toR_any n a0 cap0 ss w' (HP.out.below (chainB (chainB B0.out b7') hb)) hl hcap
  have HE7 : Hid (∀ w' g, BlkS w' g5 ss → BlkS w' g ss → Calls Tryd.prog 23 #[.agg #[.int .i64 n, .slice (some ⟨g5, 0, none⟩) ss.length ss.length], .agg #[.int .i64 n, .slice (some ⟨g, 0, none⟩) ss.length ss.length]] w' fun e w'' => e = .returned (.bool true) ∧ Below w'.heap.size w' w'') := fun w' g h1 h2 => by
    have := eqR_any n n _ _ ss.length ss.length ss ss w' h1.txt h2.txt (by omega) (by omega) (Nat.le_refl _) (Nat.le_refl _)
    rw [decide_eq_true (And.intro rfl rfl)] at this
    exact this
  go_region_with (first
    | (go_at_call 23; refine (HE7.out _ _ B8x.out B8.out).mono ?_; rintro e w9 ⟨rfl, b9⟩; have b9' := chainB b8 b9)
    | (go_at_call 21; refine (HT7.out _ ((Below.refl _ _).drew)).mono ?_; rintro e w8 ⟨g8, hg8, rfl, hB8, b8⟩; have B8 : Hid (BlkS w8 g8 ss) := hB8; have b8 := chainB ((Below.refl _ _).drew) b8; have B8x : Hid (BlkS w8 g5 ss) := B7.out.below b8 B7.out.lt; clear hB8; obtain ⟨z0, z1⟩ := HY.out w8 (chainB b7 b8)))
  all_goals
    go_wp2_with fail
    go_ret
    exact ⟨rfl, chainB (chainB B0.out b7') b9'⟩

theorem contract (H : Type) (enc : TypeId × Value → H) (W : World) (base : Nat) (args : Array Value) (ds gs : List (DataW H)) (before : List MemPlace)
    (hval : ∀ (j : Nat) t v, Tryd.f7.params[j]? = some t → args[j]? = some v → Value.okWide Tryd.prog W .any base t v)
    (hW : DataW.Whole enc Tryd.prog Tryd.f7.params.toList Rows.fnExactRangeRootSpec.vars false W args.toList ds gs before) (hL : laidMetH Tryd.prog Rows.fnExactRangeRootRow.laid W) :
    Calls Tryd.prog 7 args W fun e W' => ∃ v, e = .returned v ∧ Rows.fnExactRangeRootSpec.post enc Tryd.prog Tryd.f7 false true false false W args v W' := by
  have hW' := hW
  obtain ⟨p, q, hA0, hV, rfl, hfz, hnd⟩ := hW
  have hA : DataW.TrodAll enc Tryd.prog W 0 (fun _ => true) true Tryd.f7.params.toList args.toList ds p := hA0
  rw [Tryd.params7] at hA hval
  obtain ⟨v0, vs0, d0, ds0, p0, q0, hargs, rfl, rfl, h0, r0⟩ := trodAll_cons hA
  obtain ⟨rfl, rfl, rfl⟩ := trodAll_nil r0
  obtain rfl : args = #[v0] := by cases args; simp_all
  have hV2 : DataW.TrodVars enc Tryd.prog W (fun _ => true) ["loop.example/g00633/impl.firstState", "loop.example/g00633/impl.roundNums"] gs q := hV
  obtain ⟨_, _, _, _, e0, _, _, _, _, _, e1, _, rfl, _⟩ := trodVars_two hV2
  have k0 := h0
  have lt0 : ∀ x ∈ p0, x.block < W.heap.size := by obtain ⟨m, hm⟩ := k0; exact DataW.trod_lt m _ _ _ hm
  obtain ⟨n0, a0, len0, cap0, rfl, z0, ss0, w0⟩ := open_range (hval 0 31 v0 rfl rfl) h0
  clear hA0
  have hT : Tabs W := tabs_of hL
  refine (walk n0 a0 len0 cap0 ss0 z0 W w0 hT).mono fun e W' ⟨he, hg⟩ => ?_
  subst he
  exact ⟨_, rfl, _, _, _, [], _, _, hW', (trodAll_cons_mk (shut_bool Tryd.underlying4 _) trodAll_mk0), (trodAll_cons_mk (Below.trod laidOut (by kernel_rfl) (of_decide_eq_true (by kernel_rfl)) k0 hg lt0) trodAll_mk0), Below.trodVars laidOut hg (by kernel_rfl) hV, hg.frame _, fun h => by cases h⟩

/-- The variables' blocks as the initialisers leave them, for the witness. -/
def setTab (zs : List Int) : Obj → Obj
  | .cells _ t frozen => .cells (zs.map (Value.int .u32)).toArray t frozen
  | o => o
noncomputable def wit (os : Os) : World := { World.holding Tryd.prog os ⟨#[], #[], []⟩ with heap := ((World.holding Tryd.prog os ⟨#[], #[], []⟩).heap.modify 0 (setTab startN)).modify 1 (setTab keysN) }

theorem laid_met (os : Os) : laidMetH Tryd.prog Rows.fnExactRangeRootRow.laid ((wit os).forCall (fun _ _ => 0) ⟨#[], #[.agg #[.int .i64 0, .slice none 0 0]], []⟩).memory :=
  laidMetH_of_parts (laidMet_of_run' 8 (by kernel_rfl) (by kernel_rfl)) (by kernel_rfl)
theorem reads (os : Os) {H : Type} (enc : TypeId × Value → H) : ∃ places, DataW.whole enc Tryd.prog ((wit os).forCall (fun _ _ => 0) ⟨#[], #[.agg #[.int .i64 0, .slice none 0 0]], []⟩).memory Tryd.f7.params.toList Rows.fnExactRangeRootSpec.vars false #[Value.agg #[.int .i64 0, .slice none 0 0]].toList 8 = some ([.agg [.lit (.int .i64 0), .nil]], [Rows.laid_loop_example_g00633_impl_firstState, Rows.laid_loop_example_g00633_impl_roundNums], places) := by
  have h : (DataW.whole enc Tryd.prog ((wit os).forCall (fun _ _ => 0) ⟨#[], #[.agg #[.int .i64 0, .slice none 0 0]], []⟩).memory Tryd.f7.params.toList Rows.fnExactRangeRootSpec.vars false #[Value.agg #[.int .i64 0, .slice none 0 0]].toList 8).map (fun x => (x.1, x.2.1)) = some ([.agg [.lit (.int .i64 0), .nil]], [Rows.laid_loop_example_g00633_impl_firstState, Rows.laid_loop_example_g00633_impl_roundNums]) := by kernel_rfl
  obtain ⟨⟨a, b, c⟩, hx, hy⟩ := Option.map_eq_some_iff.1 h
  cases hy
  exact ⟨c, hx⟩

set_option maxRecDepth 100000 in
theorem lifted (os : Os) (started : os.Started) (H : Type) (enc : TypeId × Value → H) (F : Stop.Interp) :
    ReturnsInHanded {} Tryd.checked os 7 .any ((OpenSpec.ofChange Rows.fnExactRangeRootSpec).preRow enc Tryd.prog Tryd.f7 Rows.fnExactRangeRootRow.domain false Rows.fnExactRangeRootRow.laid) (((OpenSpec.ofChange Rows.fnExactRangeRootSpec).at F).post enc Tryd.prog Tryd.f7 false true false false) := by
  obtain ⟨places, hx⟩ := reads os enc
  refine returnsInHanded_of_row (C := Tryd.checked) (s := OpenSpec.ofChange Rows.fnExactRangeRootSpec) own started (by kernel_rfl) Tryd.func7
    (witness_row_at (enc := enc) (C := Tryd.checked) false (wit os) #[.agg #[.int .i64 0, .slice none 0 0]] rfl (by kernel_rfl) (by kernel_rfl) (by kernel_rfl)
      (OpenSpec.preRow_of_cond 8 hx (by kernel_rfl) (fun k hk => by cases hk) (by kernel_rfl) (laid_met os))) ?_
  intro W base args ds gs before hval hW _ _ _ hL _ _
  exact contract H enc W base args ds gs before hval hW hL

theorem said : Rows.FnExactRangeRootSaid :=
  OpenClaim.holds_of_cond 7 Tryd.f7 rfl rfl rfl rfl rfl rfl rfl ⟨rfl, rfl, rfl, rfl, rfl⟩ rfl rfl rfl rfl rfl (by kernel_rfl) Tryd.func7 (by kernel_rfl)
    (of_decide_eq_true (by kernel_rfl)) (by unfold Func.isWrapper; first | (rw [if_pos (by decide +kernel)]; kernel_rfl) | (rw [if_neg (by decide +kernel)]; exact ⟨rfl, rfl⟩))
    (fun os started H enc _ F => by rw [OpenClaim.pre_eq_preRow]; exact lifted os started H enc F)

theorem plain (f : FuncId) (fn : Func) (hf : Tryd.pinned.checked.prog.funcNamed "loop.example/g00633/laws.FnExactRangeRoot" = some f) (hfn : Tryd.pinned.checked.prog.funcs[f]? = some fn) :
    Rows.fnExactRangeRootCard.stood.looks = Tryd.pinned.checked.prog.looks [] ∧ ∀ (j : Nat) t, fn.params[j]? = some t → Tryd.pinned.checked.prog.wantsStandIn t = false := by
  obtain rfl : f = 7 := Option.some.inj ((show Tryd.prog.funcNamed "loop.example/g00633/laws.FnExactRangeRoot" = some 7 by kernel_rfl).symm.trans hf) |>.symm
  obtain rfl : fn = Tryd.f7 := (Option.some.inj (Tryd.func7.symm.trans hfn)).symm
  refine ⟨by kernel_rfl, fun j t ht => ?_⟩
  rw [Tryd.params7] at ht
  have hm := Array.mem_of_getElem? ht
  have hl : t ∈ ([31] : List TypeId) := by simpa using hm
  simp only [List.mem_cons, List.not_mem_nil, or_false] at hl
  subst hl
  exact (show Tryd.prog.wantsStandIn 31 = false by kernel_rfl)

theorem proved : Rows.FnExactRangeRootCardSaid :=
  Claim7.holds_tied_plain_at .later [] _ _ _ _ said (fun _ h => by cases h) (by kernel_rfl) (fun _ h => by cases h) fnExactRangeRoot_row_tie rfl ⟨rfl, rfl⟩ (by kernel_rfl) rfl plain (by kernel_rfl)
#print axioms proved
end Go.Proofs.YtclpccnppmbpcahDoor.fnExactRangeRoot
