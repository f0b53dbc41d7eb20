/-
  For every Proof and every text the law FnExactProofGood returns true: the program's ProofGood answers as the specification's and writes into no argument; the card ties the two listed tables, firstState and roundNums, to the program's text.
  Conditions: none of mine; the form's own reach; the two tables as the program's text lays them (the given tie). The card speaks of the pruned copy of the project that the seat names.
-/
import Derived.Test.YtnaonldkbaapeacDoorCards
import Derived.Test.YtnaonldkbaapeacDoorTie
import Derived.Test.YtnaonldkbaapeacDoorSlA
import Derived.Test.YtnaonldkbaapeacDoorSlB
import Derived.Test.YtnaonldkbaapeacDoorBxK
import Derived.Test.YtnaonldkbaapeacDoorTakes
import Derived.Test.YtnaonldkbaapeacDoorProofG
import Derived.Test.YtnaonldkbaapeacDoorTabsOf
import Derived.Handy
import Derived.WalkSpells
import Derived.OwnWalk
import Derived.Deep.RegionHeld3
import Derived.Deep.Cut
import Derived.WalkKit
import Derived.ProofKit
import Derived.OpenShut
import Derived.OpenVars
import Derived.ShutString
import Derived.LaidHandle
import Derived.LaidLaws
import Derived.Deep.DeepHandedRow
import Derived.ChangeOld
import Derived.Below
namespace Go.Proofs.YtnaonldkbaapeacDoor.fnExactProofGood
open Go.ChangeShapes Go.WideShapes Go.ChangeAt Go.RowKit
open Go.ChangeMaps (open_string shut_string)
set_option linter.unusedVariables false
set_option maxRecDepth 100000

theorem own : ownKnob Tryd.prog.godebug = none := by kernel_rfl
theorem laidOut : laidOutB Tryd.prog = true := by kernel_rfl

theorem int_bd {k : Int} (h : (Lit.int .i64 k).wf = true) : -9223372036854775808 ≤ k ∧ k ≤ 9223372036854775807 := by simpa [Lit.wf, IntKind.min, IntKind.max, IntKind.signed, IntKind.bits] using h
set_option maxHeartbeats 4000000 in
theorem walk (lf : ByteArray) (ix sz : Int) (a : Option Addr) (c : Nat) (ss : List ByteArray) (rt : ByteArray) (w : World) (w0 : IsProof w lf ix sz a c ss) (w1 : rt.size ≤ maxLen) (hT : Tabs w) :
    Calls Tryd.prog 3 #[.agg #[.string lf, .int .i64 ix, .int .i64 sz, .slice a ss.length c], .string rt] w fun e w' => e = .returned (.bool true) ∧ Below w.heap.size w w' := by
  obtain ⟨hlf, wi, ws, hp, hc, hm, hz⟩ := w0
  have HI0 := int_bd wi
  have HS0 := int_bd ws
  have HP : Hid (TxtAt w a ss) := hp
  have HT : Hid (Tabs w) := hT
  have HZ : Hid (∀ x ∈ ss, x.size ≤ 9223372036854775807) := fun x hx => by have := hz x hx; unfold maxLen at this; exact this
  unfold maxLen at hm hlf w1
  clear hp hz hT wi ws
  obtain ⟨W1, hW1⟩ : ∃ W1, W1 = w.alloc (.cells #[.string lf, .int .i64 ix, .int .i64 sz, .slice a ss.length c] 24) := ⟨_, rfl⟩
  have HW1 : Hid (W1 = w.alloc (.cells #[.string lf, .int .i64 ix, .int .i64 sz, .slice a ss.length c] 24)) := hW1
  have B1 : Hid (Below w.heap.size w W1) := by rw [hW1]; exact (Below.refl _ _).alloc (Nat.le_refl _) _
  have K1 : Hid (Bxs W1 w.heap.size 24 #[.string lf, .int .i64 ix, .int .i64 sz, .slice a ss.length c]) := by rw [hW1]; exact Bxs.new _ _ _
  by_cases hb : 1048576 < rt.size
  · clear hW1
    go_enter Tryd.func3, Tryd.ntmps3
    go_wp2_with fail
    go_ret
    rw [← HW1.out]
    exact ⟨rfl, B1.out⟩
  have hSz := szProof_any lf ix sz a c ss W1 (HP.out.below B1.out) (by omega) hc HZ.out (by omega)
  have db : decide ((1048576 : Int) < (rt.size : Int)) = false := decide_eq_false (by omega)
  clear hW1
  go_enter Tryd.func3, Tryd.ntmps3
  go_wp2_with fail
  rw [← HW1.out]
  refine hSz.mono ?_
  rintro e w2 ⟨⟨r0, rfl, hr⟩, b2⟩
  clear hSz
  rcases hr with rfl | ⟨hr0, hr1, hlf2, hln⟩
  · go_wp2_with fail
    go_ret
    exact ⟨rfl, chainB B1.out b2⟩
  have dr : decide (r0 < 0) = false := decide_eq_false (by omega)
  have HB2 : Hid (Below w.heap.size w w2) := chainB B1.out b2
  have K2 : Hid (Bxs w2 w.heap.size 24 #[.string lf, .int .i64 ix, .int .i64 sz, .slice a ss.length c]) := K1.out.below b2
  have HTo : Hid (∀ x, Below w.heap.size w x → Calls Tryd.prog 6 #[.agg #[.string lf, .int .i64 ix, .int .i64 sz, .slice a ss.length c]] x fun e w' => ∃ g, e = .returned (.agg #[.string lf, .int .i64 ix, .int .i64 sz, .slice (some ⟨g, 0, none⟩) ss.length ss.length]) ∧ TxtAt w' (some ⟨g, 0, none⟩) ss ∧ Below x.heap.size x w') := fun x hb => toProof_any lf ix sz a c ss x (HP.out.below hb) hln hc
  have HS : Hid (∀ g x, TxtAt x (some ⟨g, 0, none⟩) ss → Calls Tryd.prog 5 #[.agg #[.string lf, .int .i64 ix, .int .i64 sz, .slice (some ⟨g, 0, none⟩) ss.length ss.length], .string rt] x fun e w' => e = .returned (.bool (pgB lf ix sz ss rt)) ∧ Below x.heap.size x w') := fun g x h => specProofGood_any lf ix sz (some ⟨g, 0, none⟩) ss.length ss rt x h hln (Nat.le_refl _) hlf2 (by omega) HI0 HS0
  have HI : Hid (∀ g x, Below w.heap.size w x → TxtAt x (some ⟨g, 0, none⟩) ss → Calls Tryd.prog 7 #[.agg #[.string lf, .int .i64 ix, .int .i64 sz, .slice (some ⟨g, 0, none⟩) ss.length ss.length], .string rt] x fun e w' => e = .returned (.bool (pgB lf ix sz ss rt)) ∧ Below x.heap.size x w') := fun g x hb h => implProofGood_any lf ix sz (some ⟨g, 0, none⟩) ss.length ss rt x (HT.out.below hb HT.out.1) h hln (Nat.le_refl _) hlf2 (by omega) HI0 HS0
  generalize pgB lf ix sz ss rt = R at *
  clear b2 K1 HZ HT HI0 HS0
  obtain ⟨x0, x1, x2, x3⟩ := K2.out.four
  have hTo1 := HTo.out w2 HB2.out
  go_wp2_with fail
  refine hTo1.mono ?_
  rintro e w3 ⟨g3, rfl, hB3, b3⟩
  have hS := HS.out g3 w3 hB3
  clear hTo1 HS hB3 x0 x1 x2 x3
  go_wp2_with fail
  refine hS.mono ?_
  rintro e w4 ⟨rfl, b4⟩
  have b24 : Below w2.heap.size w2 w4 := chainB b3 b4
  have HB4 : Hid (Below w.heap.size w w4) := chainB HB2.out b24
  have K4 : Hid (Bxs w4 w.heap.size 24 #[.string lf, .int .i64 ix, .int .i64 sz, .slice a ss.length c]) := K2.out.below b24
  have hTo2 := HTo.out w4 HB4.out
  obtain ⟨x0, x1, x2, x3⟩ := K4.out.four
  clear hS b3 b4 b24 K2 HB2
  go_wp2_with fail
  refine hTo2.mono ?_
  rintro e w6 ⟨g6, rfl, hB6, b6⟩
  clear hTo2 x0 x1 x2 x3
  obtain ⟨W7, hW7⟩ : ∃ W7, W7 = w6.alloc (.cells #[.string lf, .int .i64 ix, .int .i64 sz, .slice (some ⟨g6, 0, none⟩) ss.length ss.length] 27) := ⟨_, rfl⟩
  have HW7 : Hid (W7 = w6.alloc (.cells #[.string lf, .int .i64 ix, .int .i64 sz, .slice (some ⟨g6, 0, none⟩) ss.length ss.length] 27)) := hW7
  have b67 : Below w6.heap.size w6 W7 := by rw [hW7]; exact (Below.refl _ _).alloc (Nat.le_refl _) _
  have K7 : Hid (Bxs W7 w6.heap.size 27 #[.string lf, .int .i64 ix, .int .i64 sz, .slice (some ⟨g6, 0, none⟩) ss.length ss.length]) := by rw [hW7]; exact Bxs.new _ _ _
  have HB7 : Hid (TxtAt W7 (some ⟨g6, 0, none⟩) ss) := hB6.below b67
  have KA7 : Hid (Bxs W7 w.heap.size 24 #[.string lf, .int .i64 ix, .int .i64 sz, .slice a ss.length c]) := (K4.out.below b6).below b67
  have B7 : Hid (Below w.heap.size w W7) := chainB (chainB HB4.out b6) b67
  have hI := HI.out g6 W7 B7.out HB7.out
  obtain ⟨y0, y1, y2, y3⟩ := K7.out.four
  rw [HW7.out] at y0 y1 y2 y3
  clear hW7 b67 hB6 b6 K4 HB4 HI
  go_wp2_with fail
  rw [← HW7.out]
  refine hI.mono ?_
  rintro e w8 ⟨rfl, b8⟩
  clear hI y0 y1 y2 y3 HW7
  have K8 : Hid (Bxs w8 w6.heap.size 27 #[.string lf, .int .i64 ix, .int .i64 sz, .slice (some ⟨g6, 0, none⟩) ss.length ss.length]) := K7.out.below b8
  have KA8 : Hid (Bxs w8 w.heap.size 24 #[.string lf, .int .i64 ix, .int .i64 sz, .slice a ss.length c]) := KA7.out.below b8
  have HL8 : Hid (TxtAt w8 (some ⟨g6, 0, none⟩) ss) := HB7.out.below b8
  have HB8 : Hid (Below w.heap.size w w8) := chainB B7.out b8
  have HX : Hid (∀ x, Below w8.heap.size w8 x → (x.cell? ⟨w.heap.size, 0, none⟩ = some (.string lf) ∧ x.cell? ⟨w.heap.size, 1, none⟩ = some (.int .i64 ix) ∧ x.cell? ⟨w.heap.size, 2, none⟩ = some (.int .i64 sz) ∧ x.cell? ⟨w.heap.size, 3, none⟩ = some (.slice a ss.length c)) ∧ x.cell? ⟨w6.heap.size, 0, none⟩ = some (.string lf) ∧ x.cell? ⟨w6.heap.size, 1, none⟩ = some (.int .i64 ix) ∧ x.cell? ⟨w6.heap.size, 2, none⟩ = some (.int .i64 sz) ∧ x.cell? ⟨w6.heap.size, 3, none⟩ = some (.slice (some ⟨g6, 0, none⟩) ss.length ss.length)) := fun x hb => ⟨(KA8.out.below hb).four, (K8.out.below hb).four⟩
  have HEq : Hid (∀ x, Below w8.heap.size w8 x → ∀ g, TxtAt x (some ⟨g, 0, none⟩) ss → Calls Tryd.prog 8 #[.agg #[.string lf, .int .i64 ix, .int .i64 sz, .slice (some ⟨g6, 0, none⟩) ss.length ss.length], .agg #[.string lf, .int .i64 ix, .int .i64 sz, .slice (some ⟨g, 0, none⟩) ss.length ss.length]] x fun e w' => e = .returned (.bool true) ∧ Below x.heap.size x w') := fun x hb g hB => eqProof_any lf ix sz (some ⟨g6, 0, none⟩) (some ⟨g, 0, none⟩) ss.length ss.length ss x (HL8.out.below hb) hB hln (Nat.le_refl _) (Nat.le_refl _)
  clear b8 K7 KA7 B7 HB7
  go_upto_region 12 with fail
  refine wp_region_held_drew (S := (fun w' => (w'.cell? ⟨w.heap.size, 0, none⟩ = some (.string lf) ∧ w'.cell? ⟨w.heap.size, 1, none⟩ = some (.int .i64 ix) ∧ w'.cell? ⟨w.heap.size, 2, none⟩ = some (.int .i64 sz) ∧ w'.cell? ⟨w.heap.size, 3, none⟩ = some (.slice a ss.length c)) ∧ w'.cell? ⟨w6.heap.size, 0, none⟩ = some (.string lf) ∧ w'.cell? ⟨w6.heap.size, 1, none⟩ = some (.int .i64 ix) ∧ w'.cell? ⟨w6.heap.size, 2, none⟩ = some (.int .i64 sz) ∧ w'.cell? ⟨w6.heap.size, 3, none⟩ = some (.slice (some ⟨g6, 0, none⟩) ss.length ss.length))) (by kernel_rfl) (HX.out _ (Below.refl _ _).drew) (fun hHeld => ?_)
  refine take_at 0 (v := ?_) rfl (by kernel_rfl) (by kernel_rfl) (by kernel_rfl) (fun _ _ _ h => h) hHeld (Or.inl ⟨by rfl, ?_⟩) ?_
  rotate_left
  · (intro w hSw; (try dsimp only at hSw); go_simp; try with_reducible rfl)
  simp only [Act.put, List.setIfInBounds_toArray, List.set_cons_zero, List.set_cons_succ]
  refine take_at 1 (v := ?_) rfl (by kernel_rfl) (by kernel_rfl) (by kernel_rfl) (fun _ _ _ h => h) hHeld (Or.inl ⟨by rfl, ?_⟩) ?_
  rotate_left
  · (intro w hSw; (try dsimp only at hSw); go_simp; try with_reducible rfl)
  simp only [Act.put, List.setIfInBounds_toArray, List.set_cons_zero, List.set_cons_succ]
  refine ready_at 2 rfl (by kernel_rfl) (fun K hK => ?_)
  go_simp
  (go_at_call 6; with_reducible refine (HTo.out _ (chainB HB8.out (Below.refl _ _).drew)).mono ?_; rintro e z1 ⟨g9, rfl, hB9, bz1⟩; have by1 : Below w8.heap.size w8 z1 := chainB (Below.refl _ _).drew bz1)
  refine hK.out _ _ (HX.out _ by1) (fun hHeld => ?_)
  clear hK K
  try simp only [Act.put, List.setIfInBounds_toArray, List.set_cons_zero, List.set_cons_succ]
  refine ready_at 3 rfl (by kernel_rfl) (fun K hK => ?_)
  go_simp
  (go_at_call 8; with_reducible refine (HEq.out z1 by1 g9 hB9).mono ?_; rintro e z2 ⟨rfl, bz2⟩; have by2 : Below w8.heap.size w8 z2 := chainB by1 bz2)
  refine hK.out _ _ (HX.out _ by2) (fun hHeld => ?_)
  clear hK K
  try simp only [Act.put, List.setIfInBounds_toArray, List.set_cons_zero, List.set_cons_succ]
  refine take_at 4 (v := ?_) rfl (by kernel_rfl) (by kernel_rfl) (by kernel_rfl) (fun _ _ _ h => h) hHeld (Or.inl ⟨by rfl, ?_⟩) ?_
  rotate_left
  · (intro w hSw; (try dsimp only at hSw); go_simp; try with_reducible rfl)
  simp only [Act.put, List.setIfInBounds_toArray, List.set_cons_zero, List.set_cons_succ]
  refine wpAnyH_done (by kernel_rfl) ?_ _
  go_wp2_with fail
  go_ret
  exact ⟨rfl, chainB HB8.out by2⟩

theorem contract (H : Type) (enc : TypeId × Value → H) (W : World) (base : Nat) (args : Array Value) (ds gs : List (DataW H)) (before : List MemPlace)
    (hval : ∀ (j : Nat) t v, Tryd.f3.params[j]? = some t → args[j]? = some v → Value.okWide Tryd.prog W .any base t v)
    (hW : DataW.Whole enc Tryd.prog Tryd.f3.params.toList Rows.fnExactProofGoodSpec.vars false W args.toList ds gs before) (hL : laidMetH Tryd.prog Rows.fnExactProofGoodRow.laid W) :
    Calls Tryd.prog 3 args W fun e W' => ∃ v, e = .returned v ∧ Rows.fnExactProofGoodSpec.post enc Tryd.prog Tryd.f3 false true false false W args v W' := by
  have hW' := hW
  obtain ⟨p, q, hA0, hV, rfl, hfz, hnd⟩ := hW
  have hA : DataW.TrodAll enc Tryd.prog W 0 (fun _ => true) true Tryd.f3.params.toList args.toList ds p := hA0
  rw [Tryd.params3] at hA hval
  obtain ⟨v0, vs0, d0, ds0, p0, q0, hargs, rfl, rfl, h0, r0⟩ := trodAll_cons hA
  obtain ⟨v1, vs1, d1, ds1, p1, q1, rfl, rfl, rfl, h1, r1⟩ := trodAll_cons r0
  obtain ⟨rfl, rfl, rfl⟩ := trodAll_nil r1
  obtain rfl : args = #[v0, v1] := by cases args; simp_all
  have hV2 : DataW.TrodVars enc Tryd.prog W (fun _ => true) ["loop.example/g00633/impl.firstState", "loop.example/g00633/impl.roundNums"] gs q := hV
  obtain ⟨_, _, _, _, e0, _, _, _, _, _, e1, _, rfl, _⟩ := trodVars_two hV2
  have k0 := h0
  have lt0 : ∀ x ∈ p0, x.block < W.heap.size := by obtain ⟨m, hm⟩ := k0; exact DataW.trod_lt m _ _ _ hm
  obtain ⟨lf0, ix0, sz0, a0, cap0, ss0, rfl, w0⟩ := open_proof (hval 0 24 v0 rfl rfl) h0
  obtain ⟨a1, rfl, rfl, rfl, w1⟩ := open_string Tryd.underlying9 (hval 1 9 v1 rfl rfl) h1
  clear hA0
  have hT : Tabs W := tabs_of hL
  refine (walk lf0 ix0 sz0 a0 cap0 ss0 a1 W w0 w1 hT).mono fun e W' ⟨he, hg⟩ => ?_
  subst he
  exact ⟨_, rfl, _, _, _, [], _, _, hW', (trodAll_cons_mk (shut_bool Tryd.underlying4 _) trodAll_mk0), (trodAll_cons_mk (Below.trod laidOut (by kernel_rfl) (of_decide_eq_true (by kernel_rfl)) k0 hg lt0) (trodAll_cons_mk (shut_string Tryd.underlying9 w1) trodAll_mk0)), Below.trodVars laidOut hg (by kernel_rfl) hV, hg.frame _, fun h => by cases h⟩

/-- The variables' blocks as the initialisers leave them, for the witness. -/
def setTab (zs : List Int) : Obj → Obj
  | .cells _ t frozen => .cells (zs.map (Value.int .u32)).toArray t frozen
  | o => o
noncomputable def wit (os : Os) : World := { World.holding Tryd.prog os ⟨#[], #[], []⟩ with heap := ((World.holding Tryd.prog os ⟨#[], #[], []⟩).heap.modify 0 (setTab startN)).modify 1 (setTab keysN) }

theorem laid_met (os : Os) : laidMetH Tryd.prog Rows.fnExactProofGoodRow.laid ((wit os).forCall (fun _ _ => 0) ⟨#[], #[.agg #[.string ByteArray.empty, .int .i64 0, .int .i64 0, .slice none 0 0], .string ByteArray.empty], []⟩).memory :=
  laidMetH_of_parts (laidMet_of_run' 8 (by kernel_rfl) (by kernel_rfl)) (by kernel_rfl)
theorem reads (os : Os) {H : Type} (enc : TypeId × Value → H) : ∃ places, DataW.whole enc Tryd.prog ((wit os).forCall (fun _ _ => 0) ⟨#[], #[.agg #[.string ByteArray.empty, .int .i64 0, .int .i64 0, .slice none 0 0], .string ByteArray.empty], []⟩).memory Tryd.f3.params.toList Rows.fnExactProofGoodSpec.vars false #[Value.agg #[.string ByteArray.empty, .int .i64 0, .int .i64 0, .slice none 0 0], Value.string ByteArray.empty].toList 8 = some ([.agg [.lit (.string []), .lit (.int .i64 0), .lit (.int .i64 0), .nil], .lit (.string [])], [Rows.laid_loop_example_g00633_impl_firstState, Rows.laid_loop_example_g00633_impl_roundNums], places) := by
  have h : (DataW.whole enc Tryd.prog ((wit os).forCall (fun _ _ => 0) ⟨#[], #[.agg #[.string ByteArray.empty, .int .i64 0, .int .i64 0, .slice none 0 0], .string ByteArray.empty], []⟩).memory Tryd.f3.params.toList Rows.fnExactProofGoodSpec.vars false #[Value.agg #[.string ByteArray.empty, .int .i64 0, .int .i64 0, .slice none 0 0], Value.string ByteArray.empty].toList 8).map (fun x => (x.1, x.2.1)) = some ([.agg [.lit (.string []), .lit (.int .i64 0), .lit (.int .i64 0), .nil], .lit (.string [])], [Rows.laid_loop_example_g00633_impl_firstState, Rows.laid_loop_example_g00633_impl_roundNums]) := by kernel_rfl
  obtain ⟨⟨a, b, c⟩, hx, hy⟩ := Option.map_eq_some_iff.1 h
  cases hy
  exact ⟨c, hx⟩

set_option maxRecDepth 100000 in
theorem lifted (os : Os) (started : os.Started) (H : Type) (enc : TypeId × Value → H) (F : Stop.Interp) :
    ReturnsInHanded {} Tryd.checked os 3 .any ((OpenSpec.ofChange Rows.fnExactProofGoodSpec).preRow enc Tryd.prog Tryd.f3 Rows.fnExactProofGoodRow.domain false Rows.fnExactProofGoodRow.laid) (((OpenSpec.ofChange Rows.fnExactProofGoodSpec).at F).post enc Tryd.prog Tryd.f3 false true false false) := by
  obtain ⟨places, hx⟩ := reads os enc
  refine returnsInHanded_of_row (C := Tryd.checked) (s := OpenSpec.ofChange Rows.fnExactProofGoodSpec) own started (by kernel_rfl) Tryd.func3
    (witness_row_at (enc := enc) (C := Tryd.checked) false (wit os) #[.agg #[.string ByteArray.empty, .int .i64 0, .int .i64 0, .slice none 0 0], .string ByteArray.empty] rfl (by kernel_rfl) (by kernel_rfl) (by kernel_rfl)
      (OpenSpec.preRow_of_cond 8 hx (by kernel_rfl) (fun k hk => by cases hk) (by kernel_rfl) (laid_met os))) ?_
  intro W base args ds gs before hval hW _ _ _ hL _ _
  exact contract H enc W base args ds gs before hval hW hL

theorem said : Rows.FnExactProofGoodSaid :=
  OpenClaim.holds_of_cond 3 Tryd.f3 rfl rfl rfl rfl rfl rfl rfl ⟨rfl, rfl, rfl, rfl, rfl⟩ rfl rfl rfl rfl rfl (by kernel_rfl) Tryd.func3 (by kernel_rfl)
    (of_decide_eq_true (by kernel_rfl)) (by unfold Func.isWrapper; first | (rw [if_pos (by decide +kernel)]; kernel_rfl) | (rw [if_neg (by decide +kernel)]; exact ⟨rfl, rfl⟩))
    (fun os started H enc _ F => by rw [OpenClaim.pre_eq_preRow]; exact lifted os started H enc F)

theorem plain (f : FuncId) (fn : Func) (hf : Tryd.pinned.checked.prog.funcNamed "loop.example/g00633/laws.FnExactProofGood" = some f) (hfn : Tryd.pinned.checked.prog.funcs[f]? = some fn) :
    Rows.fnExactProofGoodCard.stood.looks = Tryd.pinned.checked.prog.looks [] ∧ ∀ (j : Nat) t, fn.params[j]? = some t → Tryd.pinned.checked.prog.wantsStandIn t = false := by
  obtain rfl : f = 3 := Option.some.inj ((show Tryd.prog.funcNamed "loop.example/g00633/laws.FnExactProofGood" = some 3 by kernel_rfl).symm.trans hf) |>.symm
  obtain rfl : fn = Tryd.f3 := (Option.some.inj (Tryd.func3.symm.trans hfn)).symm
  refine ⟨by kernel_rfl, fun j t ht => ?_⟩
  rw [Tryd.params3] at ht
  have hm := Array.mem_of_getElem? ht
  have hl : t ∈ ([24, 9] : List TypeId) := by simpa using hm
  simp only [List.mem_cons, List.not_mem_nil, or_false] at hl
  rcases hl with rfl | rfl
  · exact (show Tryd.prog.wantsStandIn 24 = false by kernel_rfl)
  · exact (show Tryd.prog.wantsStandIn 9 = false by kernel_rfl)

theorem proved : Rows.FnExactProofGoodCardSaid :=
  Claim7.holds_tied_plain_at .later [] _ _ _ _ said (fun _ h => by cases h) (by kernel_rfl) (fun _ h => by cases h) fnExactProofGood_row_tie rfl ⟨rfl, rfl⟩ (by kernel_rfl) rfl plain (by kernel_rfl)
#print axioms proved
end Go.Proofs.YtnaonldkbaapeacDoor.fnExactProofGood
