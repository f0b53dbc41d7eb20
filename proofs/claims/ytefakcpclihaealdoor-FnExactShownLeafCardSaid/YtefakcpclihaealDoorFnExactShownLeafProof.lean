/-
  For every Shown the law FnExactShownLeaf returns true: the program's ShownLeaf answers as the specification's; the card ties the two listed tables, firstState and roundNums, to the program's text.
  Conditions: none of mine; the form's own reach; the two tables as the program's text lays them (the given tie). The card speaks of the pruned copy of the project that the seat names.
-/
import Derived.Test.YtefakcpclihaealDoorCards
import Derived.Test.YtefakcpclihaealDoorTie
import Derived.Test.YtefakcpclihaealDoorSlA
import Derived.Test.YtefakcpclihaealDoorSlB
import Derived.Test.YtefakcpclihaealDoorBxK
import Derived.Test.YtefakcpclihaealDoorFldV
import Derived.Test.YtefakcpclihaealDoorImplSh
import Derived.Test.YtefakcpclihaealDoorLawSh
import Derived.Test.YtefakcpclihaealDoorOpSh
import Derived.Test.YtefakcpclihaealDoorTabsOf
import Derived.WalkKit
import Derived.ProofKit
import Derived.OpenShut
import Derived.OpenVars
import Derived.ShutString
import Derived.LaidHandle
import Derived.LaidLaws
import Derived.Deep.DeepHandedRow
import Derived.ChangeOld
import Derived.Below
namespace Go.Proofs.YtefakcpclihaealDoor.fnExactShownLeaf
open Go.ChangeShapes Go.WideShapes Go.ChangeAt Go.RowKit
open Go.ChangeMaps (open_string shut_string)
set_option linter.unusedVariables false
set_option maxRecDepth 100000

theorem own : ownKnob Tryd.prog.godebug = none := by kernel_rfl
theorem laidOut : laidOutB Tryd.prog = true := by kernel_rfl

set_option maxHeartbeats 2000000 in
theorem walk (o : Shw) (a1 : Option Addr) (l1 c1 : Nat) (a2 : Option Addr) (l2 c2 : Nat) (w : World) (w0 : IsShown w o a1 l1 c1 a2 l2 c2) (hg : Tabs w) :
    Calls Tryd.prog 5 #[.agg #[.string o.k, .int .i64 o.at_, .slice a1 l1 c1, .slice a2 l2 c2, .int .i64 o.ix, .string o.s, .string o.v]] w fun e w' => e = .returned (.bool true) ∧ Below w.heap.size w w' := by
  obtain ⟨⟨rfl, hp1, hc1, hm1, hz1⟩, ⟨rfl, hp2, hc2, hm2, hz2⟩, y0, y1, y2, -, -⟩ := w0
  have hle : ShwLe o := ⟨y0, hz1, hz2, y1, y2⟩
  have HG : Hid (Tabs w) := hg
  have HS : Hid (∀ q1 q2 x, TxtAt x q1 o.ns → TxtAt x q2 o.cs → o.ns.length ≤ 1048576 → o.cs.length ≤ 1048576 → Calls Tryd.prog 23 #[.agg #[.string o.k, .int .i64 o.at_, .slice q1 o.ns.length o.ns.length, .slice q2 o.cs.length o.cs.length, .int .i64 o.ix, .string o.s, .string o.v]] x fun e w' => e = .returned (.string (svB o)) ∧ Below x.heap.size x w') := fun q1 q2 x h1 h2 n1 n2 => specShownLeaf_any o q1 _ q2 _ x h1 h2 n1 n2 (Nat.le_refl _) (Nat.le_refl _) hle
  have HI : Hid (∀ q1 q2 x, Tabs x → TxtAt x q1 o.ns → TxtAt x q2 o.cs → o.ns.length ≤ 1048576 → o.cs.length ≤ 1048576 → Calls Tryd.prog 25 #[.agg #[.string o.k, .int .i64 o.at_, .slice q1 o.ns.length o.ns.length, .slice q2 o.cs.length o.cs.length, .int .i64 o.ix, .string o.s, .string o.v]] x fun e w' => e = .returned (.string (svB o)) ∧ Below x.heap.size x w') := fun q1 q2 x hT h1 h2 n1 n2 => implShownLeaf_any o q1 _ q2 _ x hT h1 h2 n1 n2 (Nat.le_refl _) (Nat.le_refl _) hle
  clear hg hle
  generalize svB o = R at *
  obtain ⟨k, at_, ns, cs, ix, s, v⟩ := o
  have HP1 : Hid (TxtAt w a1 ns) := hp1
  have HP2 : Hid (TxtAt w a2 cs) := hp2
  have hz1 : ∀ x ∈ ns, x.size ≤ maxLen := hz1
  have hz2 : ∀ x ∈ cs, x.size ≤ maxLen := hz2
  have y0 : k.size ≤ maxLen := y0
  have y1 : s.size ≤ maxLen := y1
  have y2 : v.size ≤ maxLen := y2
  have hc1 : ns.length ≤ c1 := hc1
  have hc2 : cs.length ≤ c2 := hc2
  unfold maxLen at hm1 hm2 hz1 hz2 y0 y1 y2
  obtain ⟨W1, hW1⟩ : ∃ W1, W1 = w.alloc (.cells #[.string k, .int .i64 at_, .slice a1 ns.length c1, .slice a2 cs.length c2, .int .i64 ix, .string s, .string v] 46) := ⟨_, rfl⟩
  have B0 : Hid (Below w.heap.size w W1) := by rw [hW1]; exact (Below.refl _ _).alloc (Nat.le_refl _) _
  have HBX : Hid (∀ x, Below W1.heap.size W1 x → x.cell? ⟨w.heap.size, 0, none⟩ = some (.string k) ∧ x.cell? ⟨w.heap.size, 1, none⟩ = some (.int .i64 at_) ∧ x.cell? ⟨w.heap.size, 2, none⟩ = some (.slice a1 ns.length c1) ∧ x.cell? ⟨w.heap.size, 3, none⟩ = some (.slice a2 cs.length c2) ∧ x.cell? ⟨w.heap.size, 4, none⟩ = some (.int .i64 ix) ∧ x.cell? ⟨w.heap.size, 5, none⟩ = some (.string s) ∧ x.cell? ⟨w.heap.size, 6, none⟩ = some (.string v)) := by
    rw [hW1]; exact fun x hb => ⟨((Bxs.new _ _ _).below hb).cell 0, ((Bxs.new _ _ _).below hb).cell 1, ((Bxs.new _ _ _).below hb).cell 2, ((Bxs.new _ _ _).below hb).cell 3, ((Bxs.new _ _ _).below hb).cell 4, ((Bxs.new _ _ _).below hb).cell 5, ((Bxs.new _ _ _).below hb).cell 6⟩
  have HWA : Hid (W1 = w.alloc (.cells #[.string k, .int .i64 at_, .slice a1 ns.length c1, .slice a2 cs.length c2, .int .i64 ix, .string s, .string v] 46)) := hW1
  clear hW1
  have hSz := szShown_any k at_ ix s v a1 c1 ns a2 c2 cs W1 (HP1.out.below B0.out) (HP2.out.below B0.out) (by omega) (by omega) hc1 hc2 hz1 hz2 y0 y1 y2
  clear hz1 hz2 hp1 hp2 y0 y1 y2
  show Calls Tryd.prog 5 #[.agg #[.string k, .int .i64 at_, .slice a1 ns.length c1, .slice a2 cs.length c2, .int .i64 ix, .string s, .string v]] w _
  go_enter Tryd.func5, Tryd.ntmps5
  go_wp2_with fail
  rw [← HWA.out]
  refine hSz.mono ?_
  rintro e w2 ⟨⟨r, rfl, hr⟩, b2⟩
  clear hSz
  rcases hr with rfl | ⟨hr0, hr1, hl1, hl2⟩
  · go_wp2_with fail
    go_ret
    exact ⟨rfl, chainB B0.out b2⟩
  have dr : decide (r < 0) = false := decide_eq_false (by omega)
  obtain ⟨x0, x1, x2, x3, x4, x5, x6⟩ := HBX.out w2 b2
  have hT := toShown_any k at_ ix s v a1 c1 ns a2 c2 cs w2 (HP1.out.below (chainB B0.out b2)) (HP2.out.below (chainB B0.out b2)) hl1 hl2 hc1 hc2
  go_wp2_with fail
  refine hT.mono ?_
  rintro e w3 ⟨g3, k3, hg3, hk3, rfl, hB3, hD3, b3⟩
  have hS := HS.out (some ⟨g3, 0, none⟩) (some ⟨k3, 0, none⟩) w3 hB3.txt hD3.txt hl1 hl2
  have b3' := chainB b2 b3
  clear hT hB3 hD3 x0 x1 x2 x3 x4 x5 x6
  go_wp2_with fail
  refine hS.mono ?_
  rintro e w4 ⟨rfl, b4⟩
  have b4' := chainB b3' b4
  clear hS
  obtain ⟨x0, x1, x2, x3, x4, x5, x6⟩ := HBX.out w4 b4'
  have hT := toShown_any k at_ ix s v a1 c1 ns a2 c2 cs w4 (HP1.out.below (chainB B0.out b4')) (HP2.out.below (chainB B0.out b4')) hl1 hl2 hc1 hc2
  go_wp2_with fail
  refine hT.mono ?_
  rintro e w5 ⟨g5, k5, hg5, hk5, rfl, hB5, hD5, b5⟩
  have b5' := chainB b4' b5
  clear hT x0 x1 x2 x3 x4 x5 x6
  obtain ⟨W6, hW6⟩ : ∃ W6, W6 = w5.alloc (.cells #[.string k, .int .i64 at_, .slice (some ⟨g5, 0, none⟩) ns.length ns.length, .slice (some ⟨k5, 0, none⟩) cs.length cs.length, .int .i64 ix, .string s, .string v] 40) := ⟨_, rfl⟩
  have b6 : Below w5.heap.size w5 W6 := by rw [hW6]; exact (Below.refl _ _).alloc (Nat.le_refl _) _
  have B6 : Hid (BlkS W6 g5 ns ∧ BlkS W6 k5 cs) := ⟨hB5.below b6 hB5.lt, hD5.below b6 hD5.lt⟩
  have b6' := chainB b5' b6
  have HY : Hid (∀ x, Below W6.heap.size W6 x → x.cell? ⟨w5.heap.size, 0, none⟩ = some (.string k) ∧ x.cell? ⟨w5.heap.size, 1, none⟩ = some (.int .i64 at_) ∧ x.cell? ⟨w5.heap.size, 2, none⟩ = some (.slice (some ⟨g5, 0, none⟩) ns.length ns.length) ∧ x.cell? ⟨w5.heap.size, 3, none⟩ = some (.slice (some ⟨k5, 0, none⟩) cs.length cs.length) ∧ x.cell? ⟨w5.heap.size, 4, none⟩ = some (.int .i64 ix) ∧ x.cell? ⟨w5.heap.size, 5, none⟩ = some (.string s) ∧ x.cell? ⟨w5.heap.size, 6, none⟩ = some (.string v)) := by
    rw [hW6]; exact fun x hb => ⟨((Bxs.new _ _ _).below hb).cell 0, ((Bxs.new _ _ _).below hb).cell 1, ((Bxs.new _ _ _).below hb).cell 2, ((Bxs.new _ _ _).below hb).cell 3, ((Bxs.new _ _ _).below hb).cell 4, ((Bxs.new _ _ _).below hb).cell 5, ((Bxs.new _ _ _).below hb).cell 6⟩
  have HW6 : Hid (W6 = w5.alloc (.cells #[.string k, .int .i64 at_, .slice (some ⟨g5, 0, none⟩) ns.length ns.length, .slice (some ⟨k5, 0, none⟩) cs.length cs.length, .int .i64 ix, .string s, .string v] 40)) := hW6
  have hI := HI.out (some ⟨g5, 0, none⟩) (some ⟨k5, 0, none⟩) W6 (HG.out.below (chainB B0.out b6') HG.out.1) B6.out.1.txt B6.out.2.txt hl1 hl2
  clear hW6 hB5 hD5
  go_wp2_with fail
  rw [← HW6.out]
  refine hI.mono ?_
  rintro e w7 ⟨rfl, b7⟩
  have B7 : Hid (BlkS w7 g5 ns ∧ BlkS w7 k5 cs) := ⟨B6.out.1.below b7 B6.out.1.lt, B6.out.2.below b7 B6.out.2.lt⟩
  have b7' := chainB b6' b7
  clear hI
  obtain ⟨x0, x1, x2, x3, x4, x5, x6⟩ := HBX.out w7 b7'
  obtain ⟨y0, y1, y2, y3, y4, y5, y6⟩ := HY.out w7 b7
  go_wp2_with fail
  have HT7 : Hid (∀ w', Below w7.heap.size w7 w' → Calls Tryd.prog 24 #[.agg #[.string k, .int .i64 at_, .slice a1 ns.length c1, .slice a2 cs.length c2, .int .i64 ix, .string s, .string v]] w' fun e w'' => ∃ g1 g2, w'.heap.size ≤ g1 ∧ g1 < g2 ∧ e = .returned (.agg #[.string k, .int .i64 at_, .slice (some ⟨g1, 0, none⟩) ns.length ns.length, .slice (some ⟨g2, 0, none⟩) cs.length cs.length, .int .i64 ix, .string s, .string v]) ∧ BlkS w'' g1 ns ∧ BlkS w'' g2 cs ∧ Below w'.heap.size w' w'') := fun w' hb =>
    toShown_any k at_ ix s v a1 c1 ns a2 c2 cs w' (HP1.out.below (chainB (chainB B0.out b7') hb)) (HP2.out.below (chainB (chainB B0.out b7') hb)) hl1 hl2 hc1 hc2
  have HE7 : Hid (∀ w' g h, (BlkS w' g5 ns ∧ BlkS w' k5 cs) → (BlkS w' g ns ∧ BlkS w' h cs) → Calls Tryd.prog 26 #[.agg #[.string k, .int .i64 at_, .slice (some ⟨g5, 0, none⟩) ns.length ns.length, .slice (some ⟨k5, 0, none⟩) cs.length cs.length, .int .i64 ix, .string s, .string v], .agg #[.string k, .int .i64 at_, .slice (some ⟨g, 0, none⟩) ns.length ns.length, .slice (some ⟨h, 0, none⟩) cs.length cs.length, .int .i64 ix, .string s, .string v]] w' fun e w'' => e = .returned (.bool true) ∧ Below w'.heap.size w' w'') := fun w' g h h1 h2 =>
    eqShown_any k at_ ix s v _ _ _ _ ns _ _ _ _ cs w' h1.1.txt h2.1.txt h1.2.txt h2.2.txt hl1 hl2 (Nat.le_refl _) (Nat.le_refl _) (Nat.le_refl _) (Nat.le_refl _)
  go_region_with (first
    | (go_at_call 26; refine (HE7.out _ _ _ B8x.out B8.out).mono ?_; rintro e w9 ⟨rfl, b9⟩; have b9' := chainB b8 b9)
    | (go_at_call 24; refine (HT7.out _ ((Below.refl _ _).drew)).mono ?_; rintro e w8 ⟨g8, k8, hg8, hk8, rfl, hB8, hD8, b8⟩; have B8 : Hid (BlkS w8 g8 ns ∧ BlkS w8 k8 cs) := ⟨hB8, hD8⟩; have b8 := chainB ((Below.refl _ _).drew) b8; have B8x : Hid (BlkS w8 g5 ns ∧ BlkS w8 k5 cs) := ⟨B7.out.1.below b8 B7.out.1.lt, B7.out.2.below b8 B7.out.2.lt⟩; clear hB8 hD8; obtain ⟨z0, z1, z2, z3, z4, z5, z6⟩ := HY.out w8 (chainB b7 b8)))
  all_goals
    go_wp2_with fail
    go_ret
    exact ⟨rfl, chainB (chainB B0.out b7') b9'⟩

theorem contract (H : Type) (enc : TypeId × Value → H) (W : World) (base : Nat) (args : Array Value) (ds gs : List (DataW H)) (before : List MemPlace)
    (hval : ∀ (j : Nat) t v, Tryd.f5.params[j]? = some t → args[j]? = some v → Value.okWide Tryd.prog W .any base t v)
    (hW : DataW.Whole enc Tryd.prog Tryd.f5.params.toList Rows.fnExactShownLeafSpec.vars false W args.toList ds gs before) (hL : laidMetH Tryd.prog Rows.fnExactShownLeafRow.laid W) :
    Calls Tryd.prog 5 args W fun e W' => ∃ v, e = .returned v ∧ Rows.fnExactShownLeafSpec.post enc Tryd.prog Tryd.f5 false true false false W args v W' := by
  have hW' := hW
  obtain ⟨p, q, hA0, hV, rfl, hfz, hnd⟩ := hW
  have hA : DataW.TrodAll enc Tryd.prog W 0 (fun _ => true) true Tryd.f5.params.toList args.toList ds p := hA0
  rw [Tryd.params5] at hA hval
  obtain ⟨v0, vs0, d0, ds0, p0, q0, hargs, rfl, rfl, h0, r0⟩ := trodAll_cons hA
  obtain ⟨rfl, rfl, rfl⟩ := trodAll_nil r0
  obtain rfl : args = #[v0] := by cases args; simp_all
  have hV2 : DataW.TrodVars enc Tryd.prog W (fun _ => true) ["loop.example/g00633/impl.firstState", "loop.example/g00633/impl.roundNums"] gs q := hV
  obtain ⟨_, _, _, _, e0, _, _, _, _, _, e1, _, rfl, _⟩ := trodVars_two hV2
  have k0 := h0
  have lt0 : ∀ x ∈ p0, x.block < W.heap.size := by obtain ⟨m, hm⟩ := k0; exact DataW.trod_lt m _ _ _ hm
  obtain ⟨o0, a0, len0, cap0, b0, lenb0, capb0, rfl, w0⟩ := open_shown (hval 0 46 v0 rfl rfl) h0
  clear hA0
  have hT : Tabs W := tabs_of hL
  refine (walk o0 a0 len0 cap0 b0 lenb0 capb0 W w0 hT).mono fun e W' ⟨he, hg⟩ => ?_
  subst he
  exact ⟨_, rfl, _, _, _, [], _, _, hW', (trodAll_cons_mk (shut_bool Tryd.underlying4 _) trodAll_mk0), (trodAll_cons_mk (Below.trod laidOut (by kernel_rfl) (of_decide_eq_true (by kernel_rfl)) k0 hg lt0) trodAll_mk0), Below.trodVars laidOut hg (by kernel_rfl) hV, hg.frame _, fun h => by cases h⟩

/-- The variables' blocks as the initialisers leave them, for the witness. -/
def setTab (zs : List Int) : Obj → Obj
  | .cells _ t frozen => .cells (zs.map (Value.int .u32)).toArray t frozen
  | o => o
noncomputable def wit (os : Os) : World := { World.holding Tryd.prog os ⟨#[], #[], []⟩ with heap := ((World.holding Tryd.prog os ⟨#[], #[], []⟩).heap.modify 0 (setTab startN)).modify 1 (setTab keysN) }

theorem laid_met (os : Os) : laidMetH Tryd.prog Rows.fnExactShownLeafRow.laid ((wit os).forCall (fun _ _ => 0) ⟨#[], #[.agg #[.string ByteArray.empty, .int .i64 0, .slice none 0 0, .slice none 0 0, .int .i64 0, .string ByteArray.empty, .string ByteArray.empty]], []⟩).memory :=
  laidMetH_of_parts (laidMet_of_run' 8 (by kernel_rfl) (by kernel_rfl)) (by kernel_rfl)
theorem reads (os : Os) {H : Type} (enc : TypeId × Value → H) : ∃ places, DataW.whole enc Tryd.prog ((wit os).forCall (fun _ _ => 0) ⟨#[], #[.agg #[.string ByteArray.empty, .int .i64 0, .slice none 0 0, .slice none 0 0, .int .i64 0, .string ByteArray.empty, .string ByteArray.empty]], []⟩).memory Tryd.f5.params.toList Rows.fnExactShownLeafSpec.vars false #[Value.agg #[.string ByteArray.empty, .int .i64 0, .slice none 0 0, .slice none 0 0, .int .i64 0, .string ByteArray.empty, .string ByteArray.empty]].toList 8 = some ([.agg [.lit (.string []), .lit (.int .i64 0), .nil, .nil, .lit (.int .i64 0), .lit (.string []), .lit (.string [])]], [Rows.laid_loop_example_g00633_impl_firstState, Rows.laid_loop_example_g00633_impl_roundNums], places) := by
  have h : (DataW.whole enc Tryd.prog ((wit os).forCall (fun _ _ => 0) ⟨#[], #[.agg #[.string ByteArray.empty, .int .i64 0, .slice none 0 0, .slice none 0 0, .int .i64 0, .string ByteArray.empty, .string ByteArray.empty]], []⟩).memory Tryd.f5.params.toList Rows.fnExactShownLeafSpec.vars false #[Value.agg #[.string ByteArray.empty, .int .i64 0, .slice none 0 0, .slice none 0 0, .int .i64 0, .string ByteArray.empty, .string ByteArray.empty]].toList 8).map (fun x => (x.1, x.2.1)) = some ([.agg [.lit (.string []), .lit (.int .i64 0), .nil, .nil, .lit (.int .i64 0), .lit (.string []), .lit (.string [])]], [Rows.laid_loop_example_g00633_impl_firstState, Rows.laid_loop_example_g00633_impl_roundNums]) := by kernel_rfl
  obtain ⟨⟨a, b, c⟩, hx, hy⟩ := Option.map_eq_some_iff.1 h
  cases hy
  exact ⟨c, hx⟩

set_option maxRecDepth 100000 in
theorem lifted (os : Os) (started : os.Started) (H : Type) (enc : TypeId × Value → H) (F : Stop.Interp) :
    ReturnsInHanded {} Tryd.checked os 5 .any ((OpenSpec.ofChange Rows.fnExactShownLeafSpec).preRow enc Tryd.prog Tryd.f5 Rows.fnExactShownLeafRow.domain false Rows.fnExactShownLeafRow.laid) (((OpenSpec.ofChange Rows.fnExactShownLeafSpec).at F).post enc Tryd.prog Tryd.f5 false true false false) := by
  obtain ⟨places, hx⟩ := reads os enc
  refine returnsInHanded_of_row (C := Tryd.checked) (s := OpenSpec.ofChange Rows.fnExactShownLeafSpec) own started (by kernel_rfl) Tryd.func5
    (witness_row_at (enc := enc) (C := Tryd.checked) false (wit os) #[.agg #[.string ByteArray.empty, .int .i64 0, .slice none 0 0, .slice none 0 0, .int .i64 0, .string ByteArray.empty, .string ByteArray.empty]] rfl (by kernel_rfl) (by kernel_rfl) (by kernel_rfl)
      (OpenSpec.preRow_of_cond 8 hx (by kernel_rfl) (fun k hk => by cases hk) (by kernel_rfl) (laid_met os))) ?_
  intro W base args ds gs before hval hW _ _ _ hL _ _
  exact contract H enc W base args ds gs before hval hW hL

theorem said : Rows.FnExactShownLeafSaid :=
  OpenClaim.holds_of_cond 5 Tryd.f5 rfl rfl rfl rfl rfl rfl rfl ⟨rfl, rfl, rfl, rfl, rfl⟩ rfl rfl rfl rfl rfl (by kernel_rfl) Tryd.func5 (by kernel_rfl)
    (of_decide_eq_true (by kernel_rfl)) (by unfold Func.isWrapper; first | (rw [if_pos (by decide +kernel)]; kernel_rfl) | (rw [if_neg (by decide +kernel)]; exact ⟨rfl, rfl⟩))
    (fun os started H enc _ F => by rw [OpenClaim.pre_eq_preRow]; exact lifted os started H enc F)

theorem plain (f : FuncId) (fn : Func) (hf : Tryd.pinned.checked.prog.funcNamed "loop.example/g00633/laws.FnExactShownLeaf" = some f) (hfn : Tryd.pinned.checked.prog.funcs[f]? = some fn) :
    Rows.fnExactShownLeafCard.stood.looks = Tryd.pinned.checked.prog.looks [] ∧ ∀ (j : Nat) t, fn.params[j]? = some t → Tryd.pinned.checked.prog.wantsStandIn t = false := by
  obtain rfl : f = 5 := Option.some.inj ((show Tryd.prog.funcNamed "loop.example/g00633/laws.FnExactShownLeaf" = some 5 by kernel_rfl).symm.trans hf) |>.symm
  obtain rfl : fn = Tryd.f5 := (Option.some.inj (Tryd.func5.symm.trans hfn)).symm
  refine ⟨by kernel_rfl, fun j t ht => ?_⟩
  rw [Tryd.params5] at ht
  have hm := Array.mem_of_getElem? ht
  have hl : t ∈ ([46] : List TypeId) := by simpa using hm
  simp only [List.mem_cons, List.not_mem_nil, or_false] at hl
  subst hl
  exact (show Tryd.prog.wantsStandIn 46 = false by kernel_rfl)

theorem proved : Rows.FnExactShownLeafCardSaid :=
  Claim7.holds_tied_plain_at .later [] _ _ _ _ said (fun _ h => by cases h) (by kernel_rfl) (fun _ h => by cases h) fnExactShownLeaf_row_tie rfl ⟨rfl, rfl⟩ (by kernel_rfl) rfl plain (by kernel_rfl)
#print axioms proved
end Go.Proofs.YtefakcpclihaealDoor.fnExactShownLeaf
