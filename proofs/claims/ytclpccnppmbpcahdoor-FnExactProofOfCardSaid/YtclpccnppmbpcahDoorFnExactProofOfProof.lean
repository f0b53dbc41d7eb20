/-
  For every list of texts and int64 the law FnExactProofOf returns true: the program's ProofOf answers as the specification's, writes into no argument, and its answer owns its memory; the card ties the two listed tables, firstState and roundNums, to the program's text.
  Conditions: none of mine; the form's own reach; the two tables as the program's text lays them (the given tie). The card speaks of the pruned copy of the project that the seat names.
-/
import Derived.Test.YtclpccnppmbpcahDoorCards
import Derived.Test.YtclpccnppmbpcahDoorTie
import Derived.Test.YtclpccnppmbpcahDoorProofI
import Derived.Test.YtclpccnppmbpcahDoorProof2
import Derived.Test.YtclpccnppmbpcahDoorLawS
import Derived.Test.YtclpccnppmbpcahDoorLawM
import Derived.Test.YtclpccnppmbpcahDoorTabsOf
import Derived.WalkKit
import Derived.ProofKit
import Derived.OpenShut
import Derived.OpenVars
import Derived.ShutString
import Derived.LaidHandle
import Derived.LaidLaws
import Derived.Deep.DeepHandedRow
import Derived.ChangeOld
import Derived.Below
import Derived.Deep.Strs
namespace Go.Proofs.YtclpccnppmbpcahDoor.fnExactProofOf
open Go.ChangeShapes Go.WideShapes Go.ChangeAt Go.RowKit
open Go.ChangeMaps (open_string shut_string)
set_option linter.unusedVariables false

theorem own : ownKnob Tryd.prog.godebug = none := by kernel_rfl
theorem laidOut : laidOutB Tryd.prog = true := by kernel_rfl

/-- What the walk is told of a slice of texts that came in. -/
def IsTexts (w : World) (a : Option Addr) (len cap : Nat) (ss : List ByteArray) : Prop :=
  ss.length = len ∧ TxtAt w a ss ∧ len ≤ cap ∧ cap ≤ maxLen ∧ ∀ x ∈ ss, x.size ≤ maxLen
theorem texts_of {H : Type} {enc : TypeId × Value → H} {W : World} {base : Nat} {fuel : Nat} {x : DataW H × List MemPlace} {a : Option Addr} {len cap : Nat}
    (h : DataW.trod enc Tryd.prog W base (fun _ => true) true fuel 22 [.slice a len cap] = some x) : ∃ ss, IsTexts W a len cap ss := by
  rcases Go.Deep.open_strs Tryd.underlying22 Tryd.underlying9 (by kernel_rfl) h with ⟨hcs, _⟩ | ⟨ad, l, c, m, Sx, hcs, _, hl, hm, hmm, _, hx⟩
  · simp at hcs
    obtain ⟨rfl, rfl, rfl⟩ := hcs
    exact ⟨[], rfl, TxtAt.nil _ _, Nat.le_refl _, by unfold maxLen; omega, fun x hx => by cases hx⟩
  · simp at hcs
    obtain ⟨rfl, rfl, rfl⟩ := hcs
    rw [if_pos rfl] at hmm
    subst hmm
    refine ⟨(List.range len).map Sx, by simp, ?_, hl, hm, ?_⟩
    · intro i hi
      have hi2 : i < len := by simpa using hi
      obtain ⟨b, off, spot⟩ := ad
      have hc := (hx i (by omega)).1
      have hspot : spot = none := by simpa [Addr.add] using World.cell?_spot (hx 0 (by omega)).1
      subst hspot
      have hadd : (⟨b, off, none⟩ : Addr).add i = ⟨b, off + i, none⟩ := by unfold Addr.add; split <;> simp_all
      rw [hadd] at hc
      exact ⟨b, off, rfl, World.block_lt_of_cell? W _ hc, by rw [hc]; simp⟩
    · intro x hxm
      obtain ⟨i, hi, rfl⟩ := List.mem_map.1 hxm
      exact (hx i (by have := List.mem_range.1 hi; omega)).2

theorem int_bd {k : Int} (h : (Lit.int .i64 k).wf = true) : -9223372036854775808 ≤ k ∧ k ≤ 9223372036854775807 := by simpa [Lit.wf, IntKind.min, IntKind.max, IntKind.signed, IntKind.bits] using h
set_option maxHeartbeats 2000000 in
theorem walk (a0 : Option Addr) (len0 cap0 : Nat) (ss : List ByteArray) (a1 : Int) (w : World) (w0 : IsTexts w a0 len0 cap0 ss) (w1 : (Lit.int .i64 a1).wf = true) (hg : Tabs w) :
    Calls Tryd.prog 4 #[.slice a0 len0 cap0, .int .i64 a1] w fun e w' => e = .returned (.bool true) ∧ Below w.heap.size w w' := by
  obtain ⟨rfl, hp, hcap, hm, hsz⟩ := w0
  obtain ⟨i0, i1⟩ := int_bd w1
  have HG : Hid (Tabs w) := hg
  have HP : Hid (TxtAt w a0 ss) := hp
  have HS : Hid (∀ x ∈ ss, x.size ≤ maxLen) := hsz
  clear hg hp hsz w1
  unfold maxLen at hm
  have hRl : (proofA ss a1).length ≤ 1024 := proofA_len ss a1
  go_enter Tryd.func4, Tryd.ntmps4
  go_wp2_with fail
  refine (sz_any a0 cap0 ss _ HP.out (by omega) hcap (fun x hx => by have := HS.out x hx; unfold maxLen at this; exact this)).mono ?_
  rintro e w1 ⟨⟨r, rfl, hr⟩, hw1⟩
  subst hw1
  rcases hr with rfl | ⟨hr0, hl, hx⟩
  · go_wp2_with fail
    go_ret
    exact ⟨rfl, Below.refl _ _⟩
  clear hx HS
  go_wp2_with fail
  refine (to_any a0 cap0 ss _ HP.out hl hcap).mono ?_
  rintro e w2 ⟨rfl, hB2, hb2⟩
  have B2 : Hid (BlkS w2 w1.heap.size ss) := hB2
  clear hB2
  go_wp2_with fail
  refine (specProof_any _ ss.length ss a1 _ B2.out.txt (by omega) (Nat.le_refl _) i0 i1).mono ?_
  rintro e w3 ⟨vw, rfl, oW, hb3⟩
  have hb23 := chainB hb2 hb3
  obtain ⟨R, hR⟩ : ∃ R, R = proofA ss a1 := ⟨_, rfl⟩
  have EQR : Hid (proofA ss a1 = R) := hR.symm
  rw [← hR] at oW hRl
  have OW3 : Hid (w3.ownsRow w1.heap.size 9 1 vw R.length (strRow R)) := ownS_mono oW hb2.size
  clear oW hR
  -- x0 := toStringS(..)
  go_wp2_with fail
  refine (to_any a0 cap0 ss _ (HP.out.below hb23) hl hcap).mono ?_
  rintro e w4 ⟨rfl, hB4, hb4⟩
  have B4 : Hid (BlkS w4 w3.heap.size ss) := hB4
  have OW4 : Hid (w4.ownsRow w1.heap.size 9 1 vw R.length (strRow R)) := ownS_below OW3.out hb4
  have hb24 := chainB hb23 hb4
  clear hB4
  -- g0 := impl
  go_wp2_with fail
  have hI := implProof_any (some ⟨w3.heap.size, 0, none⟩) ss.length ss a1 w4 (HG.out.below hb24 HG.out.1) B4.out.txt (by omega) (Nat.le_refl _) i0 i1
  rw [EQR.out] at hI
  refine hI.mono ?_
  rintro e w5 ⟨vg, rfl, oG, hb5⟩
  have OG5 : Hid (w5.ownsRow w4.heap.size 9 1 vg R.length (strRow R)) := oG
  have OW5 : Hid (w5.ownsRow w1.heap.size 9 1 vw R.length (strRow R)) := ownS_below OW4.out hb5
  have B5 : Hid (BlkS w5 w3.heap.size ss) := B4.out.below hb5 B4.out.lt
  have hb25 := chainB hb24 hb5
  clear oG hI
  obtain ⟨pg, cg, rfl, hcg, tg5⟩ := ownS_form OG5.out
  obtain ⟨pw, cw, rfl, hcw, tw5⟩ := ownS_form OW5.out
  -- !eqStringS(g0, w0)
  have q5 := eq_any pg pw cg cw R R w5 tg5 tw5 (by omega) (by omega) hcg hcw
  rw [decide_eq_true rfl] at q5
  clear tg5 tw5
  go_wp2_with fail
  refine q5.mono ?_
  rintro e w6 ⟨rfl, hb6⟩
  have OG6 : Hid (w6.ownsRow w4.heap.size 9 1 (.slice pg R.length cg) R.length (strRow R)) := ownS_below OG5.out hb6
  have OW6 : Hid (w6.ownsRow w1.heap.size 9 1 (.slice pw R.length cw) R.length (strRow R)) := ownS_below OW5.out hb6
  have B6 : Hid (BlkS w6 w3.heap.size ss) := B5.out.below hb6 B5.out.lt
  have hb26 := chainB hb25 hb6
  clear q5
  -- !eqStringS(x0, toStringS(aEntries))
  go_wp2_with fail
  refine (to_any a0 cap0 ss _ (HP.out.below hb26) hl hcap).mono ?_
  rintro e w7 ⟨rfl, hB7, hb7⟩
  have B7 : Hid (BlkS w7 w6.heap.size ss) := hB7
  have B7x : Hid (BlkS w7 w3.heap.size ss) := B6.out.below hb7 B6.out.lt
  have OG7 : Hid (w7.ownsRow w4.heap.size 9 1 (.slice pg R.length cg) R.length (strRow R)) := ownS_below OG6.out hb7
  have OW7 : Hid (w7.ownsRow w1.heap.size 9 1 (.slice pw R.length cw) R.length (strRow R)) := ownS_below OW6.out hb7
  have hb27 := chainB hb26 hb7
  clear hB7
  have q7 := eq_any _ _ ss.length ss.length ss ss w7 B7x.out.txt B7.out.txt (by omega) (by omega) (Nat.le_refl _) (Nat.le_refl _)
  rw [decide_eq_true rfl] at q7
  go_wp2_with fail
  refine q7.mono ?_
  rintro e w8 ⟨rfl, hb8⟩
  have OG8 : Hid (w8.ownsRow w4.heap.size 9 1 (.slice pg R.length cg) R.length (strRow R)) := ownS_below OG7.out hb8
  have OW8 : Hid (w8.ownsRow w1.heap.size 9 1 (.slice pw R.length cw) R.length (strRow R)) := ownS_below OW7.out hb8
  have B8 : Hid (BlkS w8 w3.heap.size ss) := B7x.out.below hb8 B7x.out.lt
  have hb28 := chainB hb27 hb8
  clear q7
  -- k = markStringS(x0, k)
  have hx3 : w1.heap.size ≤ w3.heap.size := hb23.size
  have hx34 : w3.heap.size < w4.heap.size := B4.out.lt
  go_wp2_with fail
  refine (mark_any w3.heap.size _ ss w8 (B8.out.own _ (Nat.le_refl _) (by unfold maxLen; omega)) hl).mono ?_
  rintro e w9 ⟨rfl, _, hg9⟩
  have OG9 : Hid (w9.ownsRow w4.heap.size 9 1 (.slice pg R.length cg) R.length (strRow R)) := OG8.out.kept hg9 (by
    by_cases h0 : (Value.slice pg R.length cg).ownBlock = none
    · exact .inl h0
    · exact .inr fun h => by have := (OG8.out.lt w3.heap.size h).1; omega)
  have OW9 : Hid (w9.ownsRow w1.heap.size 9 1 (.slice pw R.length cw) R.length (strRow R)) := OW8.out.kept hg9 (by
    refine .inr fun h => ?_
    have h8 := (ownS_block OW3.out (g := w3.heap.size) h)
    omega)
  have hb29 : Below w1.heap.size w1 w9 := hb28.grown hg9 hb28.size (fun j hj => by simp only [Value.ownBlock, Option.some.injEq] at hj; omega)
  obtain ⟨pg', cg', hvg, hcg', tg9⟩ := ownS_form OG9.out
  obtain ⟨pw', cw', hvw, hcw', tw9⟩ := ownS_form OW9.out
  cases hvg
  cases hvw
  have q9 := eq_any pg pw cg cw R R w9 tg9 tw9 (by omega) (by omega) hcg hcw
  rw [decide_eq_true rfl] at q9
  clear tg9 tw9
  have d9 : decide ((ss.length : Int) + 1 < 0) = false := decide_eq_false (by omega)
  go_wp2_with fail
  refine q9.mono ?_
  rintro e w10 ⟨rfl, hb10⟩
  have OG10 : Hid (w10.ownsRow w4.heap.size 9 1 (.slice pg R.length cg) R.length (strRow R)) := ownS_below OG9.out hb10
  have OW10 : Hid (w10.ownsRow w1.heap.size 9 1 (.slice pw R.length cw) R.length (strRow R)) := ownS_below OW9.out hb10
  have hb210 := chainB hb29 hb10
  clear q9
  -- m = markStringS(g0, m)
  go_wp2_with fail
  refine (mark_any w4.heap.size _ R w10 OG10.out (by omega)).mono ?_
  rintro e w11 ⟨rfl, oG11, hg11⟩
  have hML : (marksL R.length).length = R.length := by simp [marksL]
  have OG11 : Hid (w11.ownsRow w4.heap.size 9 1 (.slice pg R.length cg) (marksL R.length).length (strRow (marksL R.length))) := by rw [hML]; exact oG11
  have OW11 : Hid (w11.ownsRow w1.heap.size 9 1 (.slice pw R.length cw) R.length (strRow R)) := OW10.out.kept hg11 (by
    by_cases h0 : (Value.slice pw R.length cw).ownBlock = none
    · exact .inl h0
    · refine .inr fun h => ?_
      cases hb0 : (Value.slice pw R.length cw).ownBlock with
      | none => exact h0 hb0
      | some g =>
        have h8 := ownS_block OW3.out (g := g) hb0
        have h9 := (OG10.out.lt g (by rw [← h, hb0])).1
        omega)
  have hb211 : Below w1.heap.size w1 w11 := hb210.grown hg11 hb210.size (fun j hj => by have := (OG10.out.lt j hj).1; omega)
  clear oG11
  obtain ⟨pg', cg', hvg, hcg2, tg11⟩ := ownS_form OG11.out
  rw [hML] at hvg
  cases hvg
  -- q = heldStringS(g0, q)
  go_wp2_with fail
  refine (held_any pg cg R.length w11 tg11 (by omega) hcg).mono ?_
  rintro e w12 ⟨rfl, hb12⟩
  have OG12 : Hid (w12.ownsRow w4.heap.size 9 1 (.slice pg R.length cg) (marksL R.length).length (strRow (marksL R.length))) := ownS_below OG11.out hb12
  have OW12 : Hid (w12.ownsRow w1.heap.size 9 1 (.slice pw R.length cw) R.length (strRow R)) := ownS_below OW11.out hb12
  have hb212 := chainB hb211 hb12
  clear tg11
  -- h0 := impl(toStringS(..))
  go_wp2_with fail
  refine (to_any a0 cap0 ss _ (HP.out.below hb212) hl hcap).mono ?_
  rintro e w13 ⟨rfl, hB13, hb13⟩
  have B13 : Hid (BlkS w13 w12.heap.size ss) := hB13
  have OG13 : Hid (w13.ownsRow w4.heap.size 9 1 (.slice pg R.length cg) (marksL R.length).length (strRow (marksL R.length))) := ownS_below OG12.out hb13
  have OW13 : Hid (w13.ownsRow w1.heap.size 9 1 (.slice pw R.length cw) R.length (strRow R)) := ownS_below OW12.out hb13
  have hb213 := chainB hb212 hb13
  clear hB13
  have hI2 := implProof_any (some ⟨w12.heap.size, 0, none⟩) ss.length ss a1 w13 (HG.out.below hb213 HG.out.1) B13.out.txt (by omega) (Nat.le_refl _) i0 i1
  rw [EQR.out] at hI2
  go_wp2_with fail
  refine hI2.mono ?_
  rintro e w14 ⟨vh, rfl, oH, hb14⟩
  have OG14 : Hid (w14.ownsRow w4.heap.size 9 1 (.slice pg R.length cg) (marksL R.length).length (strRow (marksL R.length))) := ownS_below OG13.out hb14
  have OW14 : Hid (w14.ownsRow w1.heap.size 9 1 (.slice pw R.length cw) R.length (strRow R)) := ownS_below OW13.out hb14
  have hb214 := chainB hb213 hb14
  obtain ⟨ph, ch, rfl, hch, th14⟩ := ownS_form oH
  obtain ⟨pw', cw', hvw, hcw2, tw14⟩ := ownS_form OW14.out
  cases hvw
  have q14 := eq_any ph pw ch cw R R w14 th14 tw14 (by omega) (by omega) hch hcw
  rw [decide_eq_true rfl] at q14
  clear th14 tw14 oH hI2
  go_wp2_with fail
  refine q14.mono ?_
  rintro e w15 ⟨rfl, hb15⟩
  have OG15 : Hid (w15.ownsRow w4.heap.size 9 1 (.slice pg R.length cg) (marksL R.length).length (strRow (marksL R.length))) := ownS_below OG14.out hb15
  have hb215 := chainB hb214 hb15
  clear q14
  obtain ⟨pg', cg', hvg, hcg3, tg15⟩ := ownS_form OG15.out
  rw [hML] at hvg
  cases hvg
  go_wp2_with fail
  refine (held_any pg cg R.length w15 tg15 (by omega) hcg).mono ?_
  rintro e w16 ⟨rfl, hb16⟩
  have hb216 := chainB hb215 hb16
  clear tg15
  go_wp2_with fail
  go_ret
  exact ⟨rfl, hb216⟩

theorem contract (H : Type) (enc : TypeId × Value → H) (W : World) (base : Nat) (args : Array Value) (ds gs : List (DataW H)) (before : List MemPlace)
    (hval : ∀ (j : Nat) t v, Tryd.f4.params[j]? = some t → args[j]? = some v → Value.okWide Tryd.prog W .any base t v)
    (hW : DataW.Whole enc Tryd.prog Tryd.f4.params.toList Rows.fnExactProofOfSpec.vars false W args.toList ds gs before) (hL : laidMetH Tryd.prog Rows.fnExactProofOfRow.laid W) :
    Calls Tryd.prog 4 args W fun e W' => ∃ v, e = .returned v ∧ Rows.fnExactProofOfSpec.post enc Tryd.prog Tryd.f4 false true false false W args v W' := by
  have hW' := hW
  obtain ⟨p, q, hA0, hV, rfl, hfz, hnd⟩ := hW
  have hA : DataW.TrodAll enc Tryd.prog W 0 (fun _ => true) true Tryd.f4.params.toList args.toList ds p := hA0
  rw [Tryd.params4] at hA hval
  obtain ⟨v0, vs0, d0, ds0, p0, q0, hargs, rfl, rfl, h0, r0⟩ := trodAll_cons hA
  obtain ⟨v1, vs1, d1, ds1, p1, q1, rfl, rfl, rfl, h1, r1⟩ := trodAll_cons r0
  obtain ⟨rfl, rfl, rfl⟩ := trodAll_nil r1
  obtain rfl : args = #[v0, v1] := by cases args; simp_all
  have hV2 : DataW.TrodVars enc Tryd.prog W (fun _ => true) ["loop.example/g00633/impl.firstState", "loop.example/g00633/impl.roundNums"] gs q := hV
  obtain ⟨_, _, _, _, e0, _, _, _, _, _, e1, _, rfl, _⟩ := trodVars_two hV2
  obtain ⟨a0, len0, cap0, rfl⟩ := okWide_slice Tryd.underlying22 (hval 0 22 v0 rfl rfl)
  have k0 := h0
  have lt0 : ∀ x ∈ p0, x.block < W.heap.size := by obtain ⟨m, hm⟩ := k0; exact DataW.trod_lt m _ _ _ hm
  obtain ⟨ss0, w0⟩ : ∃ ss, IsTexts W a0 len0 cap0 ss := by
    obtain ⟨fuel, hf⟩ := h0
    exact texts_of hf
  obtain ⟨a1, rfl, rfl, rfl, w1⟩ := open_int Tryd.underlying2 (hval 1 2 v1 rfl rfl) h1
  clear hA0
  have hT : Tabs W := tabs_of hL
  refine (walk a0 len0 cap0 ss0 a1 W w0 w1 hT).mono fun e W' ⟨he, hg⟩ => ?_
  subst he
  exact ⟨_, rfl, _, _, _, [], _, _, hW', (trodAll_cons_mk (shut_bool Tryd.underlying4 _) trodAll_mk0), (trodAll_cons_mk (Below.trod laidOut (by kernel_rfl) (of_decide_eq_true (by kernel_rfl)) k0 hg lt0) (trodAll_cons_mk (shut_int Tryd.underlying2 w1) trodAll_mk0)), Below.trodVars laidOut hg (by kernel_rfl) hV, hg.frame _, fun h => by cases h⟩

/-- The variables' blocks as the initialisers leave them, for the witness. -/
def setTab (zs : List Int) : Obj → Obj
  | .cells _ t frozen => .cells (zs.map (Value.int .u32)).toArray t frozen
  | o => o
noncomputable def wit (os : Os) : World := { World.holding Tryd.prog os ⟨#[], #[], []⟩ with heap := ((World.holding Tryd.prog os ⟨#[], #[], []⟩).heap.modify 0 (setTab startN)).modify 1 (setTab keysN) }

theorem laid_met (os : Os) : laidMetH Tryd.prog Rows.fnExactProofOfRow.laid ((wit os).forCall (fun _ _ => 0) ⟨#[], #[.slice none 0 0, .int .i64 0], []⟩).memory :=
  laidMetH_of_parts (laidMet_of_run' 8 (by kernel_rfl) (by kernel_rfl)) (by kernel_rfl)
theorem reads (os : Os) {H : Type} (enc : TypeId × Value → H) : ∃ places, DataW.whole enc Tryd.prog ((wit os).forCall (fun _ _ => 0) ⟨#[], #[.slice none 0 0, .int .i64 0], []⟩).memory Tryd.f4.params.toList Rows.fnExactProofOfSpec.vars false #[Value.slice none 0 0, Value.int .i64 0].toList 8 = some ([.nil, .lit (.int .i64 0)], [Rows.laid_loop_example_g00633_impl_firstState, Rows.laid_loop_example_g00633_impl_roundNums], places) := by
  have h : (DataW.whole enc Tryd.prog ((wit os).forCall (fun _ _ => 0) ⟨#[], #[.slice none 0 0, .int .i64 0], []⟩).memory Tryd.f4.params.toList Rows.fnExactProofOfSpec.vars false #[Value.slice none 0 0, Value.int .i64 0].toList 8).map (fun x => (x.1, x.2.1)) = some ([.nil, .lit (.int .i64 0)], [Rows.laid_loop_example_g00633_impl_firstState, Rows.laid_loop_example_g00633_impl_roundNums]) := by kernel_rfl
  obtain ⟨⟨a, b, c⟩, hx, hy⟩ := Option.map_eq_some_iff.1 h
  cases hy
  exact ⟨c, hx⟩

set_option maxRecDepth 100000 in
theorem lifted (os : Os) (started : os.Started) (H : Type) (enc : TypeId × Value → H) (F : Stop.Interp) :
    ReturnsInHanded {} Tryd.checked os 4 .any ((OpenSpec.ofChange Rows.fnExactProofOfSpec).preRow enc Tryd.prog Tryd.f4 Rows.fnExactProofOfRow.domain false Rows.fnExactProofOfRow.laid) (((OpenSpec.ofChange Rows.fnExactProofOfSpec).at F).post enc Tryd.prog Tryd.f4 false true false false) := by
  obtain ⟨places, hx⟩ := reads os enc
  refine returnsInHanded_of_row (C := Tryd.checked) (s := OpenSpec.ofChange Rows.fnExactProofOfSpec) own started (by kernel_rfl) Tryd.func4
    (witness_row_at (enc := enc) (C := Tryd.checked) false (wit os) #[.slice none 0 0, .int .i64 0] rfl (by kernel_rfl) (by kernel_rfl) (by kernel_rfl)
      (OpenSpec.preRow_of_cond 8 hx (by kernel_rfl) (fun k hk => by cases hk) (by kernel_rfl) (laid_met os))) ?_
  intro W base args ds gs before hval hW _ _ _ hL _ _
  exact contract H enc W base args ds gs before hval hW hL

theorem said : Rows.FnExactProofOfSaid :=
  OpenClaim.holds_of_cond 4 Tryd.f4 rfl rfl rfl rfl rfl rfl rfl ⟨rfl, rfl, rfl, rfl, rfl⟩ rfl rfl rfl rfl rfl (by kernel_rfl) Tryd.func4 (by kernel_rfl)
    (of_decide_eq_true (by kernel_rfl)) (by unfold Func.isWrapper; first | (rw [if_pos (by decide +kernel)]; kernel_rfl) | (rw [if_neg (by decide +kernel)]; exact ⟨rfl, rfl⟩))
    (fun os started H enc _ F => by rw [OpenClaim.pre_eq_preRow]; exact lifted os started H enc F)

theorem plain (f : FuncId) (fn : Func) (hf : Tryd.pinned.checked.prog.funcNamed "loop.example/g00633/laws.FnExactProofOf" = some f) (hfn : Tryd.pinned.checked.prog.funcs[f]? = some fn) :
    Rows.fnExactProofOfCard.stood.looks = Tryd.pinned.checked.prog.looks [] ∧ ∀ (j : Nat) t, fn.params[j]? = some t → Tryd.pinned.checked.prog.wantsStandIn t = false := by
  obtain rfl : f = 4 := Option.some.inj ((show Tryd.prog.funcNamed "loop.example/g00633/laws.FnExactProofOf" = some 4 by kernel_rfl).symm.trans hf) |>.symm
  obtain rfl : fn = Tryd.f4 := (Option.some.inj (Tryd.func4.symm.trans hfn)).symm
  refine ⟨by kernel_rfl, fun j t ht => ?_⟩
  rw [Tryd.params4] at ht
  have hm := Array.mem_of_getElem? ht
  have hl : t ∈ ([22, 2] : List TypeId) := by simpa using hm
  simp only [List.mem_cons, List.not_mem_nil, or_false] at hl
  rcases hl with rfl | rfl
  · exact (show Tryd.prog.wantsStandIn 22 = false by kernel_rfl)
  · exact (show Tryd.prog.wantsStandIn 2 = false by kernel_rfl)

theorem proved : Rows.FnExactProofOfCardSaid :=
  Claim7.holds_tied_plain_at .later [] _ _ _ _ said (fun _ h => by cases h) (by kernel_rfl) (fun _ h => by cases h) fnExactProofOf_row_tie rfl ⟨rfl, rfl⟩ (by kernel_rfl) rfl plain (by kernel_rfl)
#print axioms proved
end Go.Proofs.YtclpccnppmbpcahDoor.fnExactProofOf
