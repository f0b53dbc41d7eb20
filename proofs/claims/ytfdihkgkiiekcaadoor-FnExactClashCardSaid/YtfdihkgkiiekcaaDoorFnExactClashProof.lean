/-
  For every two Auditors and every proof the law FnExactClash returns true: the program's Clash answers as the specification's, and writes into no argument; the card ties the listed variables, the two tables firstState and roundNums, to the program's text.
  Conditions: none of mine; the form's own reach; the two tables as the program's text lays them (the given tie). The card speaks of the pruned copy of the project that the seat names.
-/
import Derived.Test.YtfdihkgkiiekcaaDoorCards
import Derived.Test.YtfdihkgkiiekcaaDoorTie
import Derived.Test.YtfdihkgkiiekcaaDoorSlA
import Derived.Test.YtfdihkgkiiekcaaDoorSlB
import Derived.Test.YtfdihkgkiiekcaaDoorBxK
import Derived.Test.YtfdihkgkiiekcaaDoorLawS
import Derived.Test.YtfdihkgkiiekcaaDoorLawSG
import Derived.Test.YtfdihkgkiiekcaaDoorAudMath
import Derived.Test.YtfdihkgkiiekcaaDoorClaMath
import Derived.Test.YtfdihkgkiiekcaaDoorClaS
import Derived.Test.YtfdihkgkiiekcaaDoorClaI
import Derived.Test.YtfdihkgkiiekcaaDoorLawAu
import Derived.Test.YtfdihkgkiiekcaaDoorOpAu
import Derived.Test.YtfdihkgkiiekcaaDoorTabsOf
import Derived.WalkKit
import Derived.ProofKit
import Derived.OpenShut
import Derived.OpenVars
import Derived.ShutString
import Derived.LaidHandle
import Derived.LaidLaws
import Derived.Deep.DeepHandedRow
import Derived.ChangeOld
import Derived.Below
import Derived.Deep.Strs
import Derived.Deep.RegionHeld3
import Derived.Deep.Cut
import Derived.Handy
import Derived.WalkSpells
namespace Go.Proofs.YtfdihkgkiiekcaaDoor.fnExactClash
open Go.ChangeShapes Go.WideShapes Go.ChangeAt Go.RowKit
open Go.ChangeMaps (open_string shut_string)
set_option linter.unusedVariables false
set_option maxRecDepth 100000

theorem own : ownKnob Tryd.prog.godebug = none := by kernel_rfl
theorem laidOut : laidOutB Tryd.prog = true := by kernel_rfl

/-- What the walk is told of a slice of texts that came in. -/
def IsTexts (w : World) (a : Option Addr) (len cap : Nat) (ss : List ByteArray) : Prop :=
  ss.length = len ∧ TxtAt w a ss ∧ len ≤ cap ∧ cap ≤ maxLen ∧ ∀ x ∈ ss, x.size ≤ maxLen
theorem texts_of {H : Type} {enc : TypeId × Value → H} {W : World} {base : Nat} {fuel : Nat} {x : DataW H × List MemPlace} {a : Option Addr} {len cap : Nat}
    (h : DataW.trod enc Tryd.prog W base (fun _ => true) true fuel 24 [.slice a len cap] = some x) : ∃ ss, IsTexts W a len cap ss := by
  rcases Go.Deep.open_strs Tryd.underlying24 Tryd.underlying9 (by kernel_rfl) h with ⟨hcs, _⟩ | ⟨ad, l, c, m, Sx, hcs, _, hl, hm, hmm, _, hx⟩
  · simp at hcs
    obtain ⟨rfl, rfl, rfl⟩ := hcs
    exact ⟨[], rfl, TxtAt.nil _ _, Nat.le_refl _, by unfold maxLen; omega, fun x hx => by cases hx⟩
  · simp at hcs
    obtain ⟨rfl, rfl, rfl⟩ := hcs
    rw [if_pos rfl] at hmm
    subst hmm
    refine ⟨(List.range len).map Sx, by simp, ?_, hl, hm, ?_⟩
    · intro i hi
      have hi2 : i < len := by simpa using hi
      obtain ⟨b, off, spot⟩ := ad
      have hc := (hx i (by omega)).1
      have hspot : spot = none := by simpa [Addr.add] using World.cell?_spot (hx 0 (by omega)).1
      subst hspot
      have hadd : (⟨b, off, none⟩ : Addr).add i = ⟨b, off + i, none⟩ := by unfold Addr.add; split <;> simp_all
      rw [hadd] at hc
      exact ⟨b, off, rfl, World.block_lt_of_cell? W _ hc, by rw [hc]; simp⟩
    · intro x hxm
      obtain ⟨i, hi, rfl⟩ := List.mem_map.1 hxm
      exact (hx i (by have := List.mem_range.1 hi; omega)).2

theorem int_bd {k : Int} (h : (Lit.int .i64 k).wf = true) : -9223372036854775808 ≤ k ∧ k ≤ 9223372036854775807 := by simpa [Lit.wf, IntKind.min, IntKind.max, IntKind.signed, IntKind.bits] using h
set_option maxHeartbeats 4000000 in
theorem walk (ka : ByteArray) (sa : Int) (ra : ByteArray) (kb : ByteArray) (sb : Int) (rb : ByteArray) (a2 : Option Addr) (len2 cap2 : Nat) (ss : List ByteArray) (w : World) (w0 : (Lit.int .i64 sa).wf = true ∧ ka.size ≤ maxLen ∧ ra.size ≤ maxLen) (w1 : (Lit.int .i64 sb).wf = true ∧ kb.size ≤ maxLen ∧ rb.size ≤ maxLen) (w2 : IsTexts w a2 len2 cap2 ss) (hg : Tabs w) :
    Calls Tryd.prog 4 #[.agg #[.string ka, .int .i64 sa, .string ra], .agg #[.string kb, .int .i64 sb, .string rb], .slice a2 len2 cap2] w fun e w' => e = .returned (.bool true) ∧ Below w.heap.size w w' := by
  obtain ⟨rfl, hp, hcap, hm, hsz⟩ := w2
  obtain ⟨v0, w0⟩ := w0
  obtain ⟨v1, w1⟩ := w1
  have a0 := int_bd v0
  have b0 := int_bd v1
  have HG : Hid (Tabs w) := hg
  have HP : Hid (TxtAt w a2 ss) := hp
  have HSz : Hid (∀ x ∈ ss, x.size ≤ maxLen) := hsz
  have hra := w0.2
  have hrb := w1.2
  obtain ⟨W1, hW1⟩ : ∃ W1, W1 = (w.alloc (.cells #[.string ka, .int .i64 sa, .string ra] 23)).alloc (.cells #[.string kb, .int .i64 sb, .string rb] 23) := ⟨_, rfl⟩
  have HW1 : Hid (W1 = (w.alloc (.cells #[.string ka, .int .i64 sa, .string ra] 23)).alloc (.cells #[.string kb, .int .i64 sb, .string rb] 23)) := hW1
  obtain ⟨b1, k1, k2⟩ := two_boxes w 23 ka sa ra kb sb rb hW1
  have B1 : Hid (Below w.heap.size w W1) := b1
  have K1 : Hid (Bxs W1 w.heap.size 23 #[.string ka, .int .i64 sa, .string ra]) := k1
  have K2 : Hid (Bxs W1 (w.heap.size + 1) 23 #[.string kb, .int .i64 sb, .string rb]) := k2
  have HX : Hid (∀ x, Below W1.heap.size W1 x → x.cell? ⟨w.heap.size, 0, none⟩ = some (.string ka) ∧ x.cell? ⟨w.heap.size, 1, none⟩ = some (.int .i64 sa) ∧ x.cell? ⟨w.heap.size, 2, none⟩ = some (.string ra) ∧ x.cell? ⟨w.heap.size + 1, 0, none⟩ = some (.string kb) ∧ x.cell? ⟨w.heap.size + 1, 1, none⟩ = some (.int .i64 sb) ∧ x.cell? ⟨w.heap.size + 1, 2, none⟩ = some (.string rb)) := fun x hb => by
    obtain ⟨h0, h1, h2⟩ := (K1.out.below hb).thr
    obtain ⟨h3, h4, h5⟩ := (K2.out.below hb).thr
    exact ⟨h0, h1, h2, h3, h4, h5⟩
  have hZa := szAud_any ka sa ra 1048576 (by omega) (by omega) W1 w0.1 w0.2
  have HZb : Hid (∀ l0 x, 0 ≤ l0 → l0 ≤ 1048576 → Calls Tryd.prog 5 #[.agg #[.string kb, .int .i64 sb, .string rb], .int .i64 l0] x fun e w' => (∃ m, e = .returned (.int .i64 m) ∧ (m = -1 ∨ (0 ≤ m ∧ m ≤ l0 ∧ kb.size ≤ 1048576 ∧ rb.size ≤ 1048576))) ∧ Below x.heap.size x w') := fun l0 x h1 h2 => szAud_any kb sb rb l0 h1 h2 x w1.1 w1.2
  have HTA : Hid (∀ x, Calls Tryd.prog 9 #[.agg #[.string ka, .int .i64 sa, .string ra]] x fun e w' => e = .returned (.agg #[.string ka, .int .i64 sa, .string ra]) ∧ Below x.heap.size x w') := fun x => toAud_any ka sa ra x
  have HTB : Hid (∀ x, Calls Tryd.prog 9 #[.agg #[.string kb, .int .i64 sb, .string rb]] x fun e w' => e = .returned (.agg #[.string kb, .int .i64 sb, .string rb]) ∧ Below x.heap.size x w') := fun x => toAud_any kb sb rb x
  clear hW1 b1 k1 k2 hp hsz hg v0 v1 w0 w1
  unfold maxLen at hm
  go_enter Tryd.func4, Tryd.ntmps4
  go_wp2_with fail
  rw [← HW1.out]
  with_reducible refine hZa.mono ?_
  rintro e y1 ⟨⟨m, rfl, hmm⟩, z1⟩
  rcases hmm with rfl | ⟨m0, m1, _, _⟩
  · go_wp2_with fail
    go_ret
    exact ⟨rfl, chainB B1.out z1⟩
  have d1 : decide (m < 0) = false := decide_eq_false (by omega)
  obtain ⟨x0, x1, x2, x3, x4, x5⟩ := HX.out y1 z1
  go_wp2_with fail
  with_reducible refine (HZb.out m y1 m0 m1).mono ?_
  rintro e y2 ⟨⟨m', rfl, hmm⟩, z2⟩
  have z2 := chainB z1 z2
  have Z2 : Hid (Below w.heap.size w y2) := chainB B1.out z2
  clear x0 x1 x2 x3 x4 x5 d1
  rcases hmm with rfl | ⟨m2, m3, _, _⟩
  · go_wp2_with fail
    go_ret
    exact ⟨rfl, Z2.out⟩
  have d1 : decide (m' < 0) = false := decide_eq_false (by omega)
  go_wp2_with fail
  refine (szG_any m' m2 (by omega) a2 cap2 ss y2 (HP.out.below Z2.out) (by omega) hcap (fun x hx => by have := HSz.out x hx; unfold maxLen at this; exact this)).mono ?_
  rintro e y3 ⟨⟨r, rfl, hr⟩, hw3⟩
  subst hw3
  clear d1
  rcases hr with rfl | ⟨hr0, hr1, hl, hx⟩
  · go_wp2_with fail
    go_ret
    exact ⟨rfl, Z2.out⟩
  have d1 : decide (r < 0) = false := decide_eq_false (by omega)
  have HTS : Hid (∀ x, Below w.heap.size w x → Calls Tryd.prog 11 #[.slice a2 ss.length cap2] x fun e w' => ∃ g, e = .returned (.slice (some ⟨g, 0, none⟩) ss.length ss.length) ∧ BlkS w' g ss ∧ Below x.heap.size x w') := fun x hb => (to_any a2 cap2 ss x (HP.out.below hb) hl hcap).mono (by
    rintro e w' ⟨he, hb2, hb3⟩
    exact ⟨_, he, hb2, hb3⟩)
  have HSp : Hid (∀ x g, BlkS x g ss → Calls Tryd.prog 16 #[.agg #[.string ka, .int .i64 sa, .string ra], .agg #[.string kb, .int .i64 sb, .string rb], .slice (some ⟨g, 0, none⟩) ss.length ss.length] x fun e w' => e = .returned (.bool (claB ka sa ra kb sb rb ss)) ∧ Below x.heap.size x w') := fun x g hb => specClash_any ka sa ra kb sb rb _ ss.length ss x hb.txt hl (Nat.le_refl _) hra hrb a0 b0
  have HIm : Hid (∀ x g, Below w.heap.size w x → BlkS x g ss → Calls Tryd.prog 17 #[.agg #[.string ka, .int .i64 sa, .string ra], .agg #[.string kb, .int .i64 sb, .string rb], .slice (some ⟨g, 0, none⟩) ss.length ss.length] x fun e w' => e = .returned (.bool (claB ka sa ra kb sb rb ss)) ∧ Below x.heap.size x w') := fun x g hx hb => implClash_any ka sa ra kb sb rb _ ss.length ss x (HG.out.on hx) hb.txt hl (Nat.le_refl _) a0 b0
  have HQ : Hid (∀ x g g', BlkS x g ss → BlkS x g' ss → Calls Tryd.prog 15 #[.slice (some ⟨g, 0, none⟩) ss.length ss.length, .slice (some ⟨g', 0, none⟩) ss.length ss.length] x fun e w' => e = .returned (.bool true) ∧ Below x.heap.size x w') := fun x g g' h h' => by
    have hq := eq_any _ _ ss.length ss.length ss ss x h.txt h'.txt (by omega) (by omega) (Nat.le_refl _) (Nat.le_refl _)
    rwa [decide_eq_true rfl] at hq
  generalize claB ka sa ra kb sb rb ss = R at *
  clear hx hra hrb a0 b0 hZa
  generalize hn : ss.length = n at *
  clear hn
  -- the specification's answer
  have BR : Hid (Below W1.heap.size W1 y3.drew) := z2.drew
  go_upto_region 11 with fail
  go_region_held3 (fun x => x.cell? ⟨w.heap.size, 0, none⟩ = some (.string ka) ∧ x.cell? ⟨w.heap.size, 1, none⟩ = some (.int .i64 sa) ∧ x.cell? ⟨w.heap.size, 2, none⟩ = some (.string ra) ∧ x.cell? ⟨w.heap.size + 1, 0, none⟩ = some (.string kb) ∧ x.cell? ⟨w.heap.size + 1, 1, none⟩ = some (.int .i64 sb) ∧ x.cell? ⟨w.heap.size + 1, 2, none⟩ = some (.string rb)) ((first | exact HX.out _ BR.out | exact HX.out _ p1 | exact HX.out _ p2 | exact HX.out _ p3 | exact HX.out _ p4)) (first
    | (go_at_call 9; with_reducible refine (HTA.out _).mono ?_; rintro e u1 ⟨rfl, q1⟩; have p1 : Below W1.heap.size W1 u1 := chainB BR.out q1)
    | (go_at_call 9; with_reducible refine (HTB.out _).mono ?_; rintro e u2 ⟨rfl, q2⟩; have p2 : Below W1.heap.size W1 u2 := chainB p1 q2)
    | (go_at_call 11; with_reducible refine (HTS.out _ (chainB B1.out p2)).mono ?_; rintro e u3 ⟨g1, rfl, j3, q3⟩; have p3 : Below W1.heap.size W1 u3 := chainB p2 q3)
    | (go_at_call 16; with_reducible refine (HSp.out _ g1 j3).mono ?_; rintro e u4 ⟨rfl, q4⟩; have p4 : Below W1.heap.size W1 u4 := chainB p3 q4))
  all_goals
    have P4 : Hid (Below W1.heap.size W1 u4) := p4
    clear p1 p2 p3 p4 q1 q2 q3 q4 j3
    go_wp2_with fail
    with_reducible refine (HTS.out u4 (chainB B1.out P4.out)).mono ?_
    rintro e y5 ⟨g5, rfl, j5, q5⟩
    have J5 : Hid (BlkS y5 g5 ss) := j5
    have P5 : Hid (Below W1.heap.size W1 y5) := chainB P4.out q5
    have BR5 : Hid (Below y5.heap.size y5 y5.drew) := (Below.refl _ _).drew
    clear j5 q5
    go_upto_region 13 with fail
    go_region_held3 (fun x => x.cell? ⟨w.heap.size, 0, none⟩ = some (.string ka) ∧ x.cell? ⟨w.heap.size, 1, none⟩ = some (.int .i64 sa) ∧ x.cell? ⟨w.heap.size, 2, none⟩ = some (.string ra) ∧ x.cell? ⟨w.heap.size + 1, 0, none⟩ = some (.string kb) ∧ x.cell? ⟨w.heap.size + 1, 1, none⟩ = some (.int .i64 sb) ∧ x.cell? ⟨w.heap.size + 1, 2, none⟩ = some (.string rb)) ((first | exact HX.out _ (chainB P5.out BR5.out) | exact HX.out _ (chainB P5.out p1) | exact HX.out _ (chainB P5.out p2) | exact HX.out _ (chainB P5.out p3))) (first
      | (go_at_call 9; with_reducible refine (HTA.out _).mono ?_; rintro e u1 ⟨rfl, q1⟩; have p1 : Below y5.heap.size y5 u1 := chainB BR5.out q1)
      | (go_at_call 9; with_reducible refine (HTB.out _).mono ?_; rintro e u2 ⟨rfl, q2⟩; have p2 : Below y5.heap.size y5 u2 := chainB p1 q2)
      | (go_at_call 17; with_reducible refine (HIm.out _ g5 (chainB B1.out (chainB P5.out p2)) (J5.out.below p2 J5.out.lt)).mono ?_; rintro e u3 ⟨rfl, q3⟩; have p3 : Below y5.heap.size y5 u3 := chainB p2 q3))
    all_goals
      have P6 : Hid (Below W1.heap.size W1 u3) := chainB P5.out p3
      have J6 : Hid (BlkS u3 g5 ss) := J5.out.below p3 J5.out.lt
      clear p1 p2 p3 q1 q2 q3
      have hR : ((R != R)) = false := by simp
      go_wp2_with fail
      with_reducible refine (HTS.out u3 (chainB B1.out P6.out)).mono ?_
      rintro e y7 ⟨g7, rfl, j7, q7⟩
      have hQ := HQ.out y7 g5 g7 (J6.out.below q7 J6.out.lt) j7
      have P7 : Hid (Below W1.heap.size W1 y7) := chainB P6.out q7
      clear j7 q7
      go_wp2_with fail
      with_reducible refine hQ.mono ?_
      rintro e y8 ⟨rfl, q8⟩
      go_wp2_with fail
      go_ret
      exact ⟨rfl, chainB B1.out (chainB P7.out q8)⟩

theorem contract (H : Type) (enc : TypeId × Value → H) (W : World) (base : Nat) (args : Array Value) (ds gs : List (DataW H)) (before : List MemPlace)
    (hval : ∀ (j : Nat) t v, Tryd.f4.params[j]? = some t → args[j]? = some v → Value.okWide Tryd.prog W .any base t v)
    (hW : DataW.Whole enc Tryd.prog Tryd.f4.params.toList Rows.fnExactClashSpec.vars false W args.toList ds gs before) (hL : laidMetH Tryd.prog Rows.fnExactClashRow.laid W) :
    Calls Tryd.prog 4 args W fun e W' => ∃ v, e = .returned v ∧ Rows.fnExactClashSpec.post enc Tryd.prog Tryd.f4 false true false false W args v W' := by
  have hW' := hW
  obtain ⟨p, q, hA0, hV, rfl, hfz, hnd⟩ := hW
  have hA : DataW.TrodAll enc Tryd.prog W 0 (fun _ => true) true Tryd.f4.params.toList args.toList ds p := hA0
  rw [Tryd.params4] at hA hval
  obtain ⟨v0, vs0, d0, ds0, p0, q0, hargs, rfl, rfl, h0, r0⟩ := trodAll_cons hA
  obtain ⟨v1, vs1, d1, ds1, p1, q1, rfl, rfl, rfl, h1, r1⟩ := trodAll_cons r0
  obtain ⟨v2, vs2, d2, ds2, p2, q2, rfl, rfl, rfl, h2, r2⟩ := trodAll_cons r1
  obtain ⟨rfl, rfl, rfl⟩ := trodAll_nil r2
  obtain rfl : args = #[v0, v1, v2] := by cases args; simp_all
  have hV2 : DataW.TrodVars enc Tryd.prog W (fun _ => true) ["loop.example/g00633/impl.firstState", "loop.example/g00633/impl.roundNums"] gs q := hV
  obtain ⟨_, _, _, _, e0, _, _, _, _, _, e1, _, rfl, _⟩ := trodVars_two hV2
  have k0 := h0
  have lt0 : ∀ x ∈ p0, x.block < W.heap.size := by obtain ⟨m, hm⟩ := k0; exact DataW.trod_lt m _ _ _ hm
  obtain ⟨ak0, as0, ar0, rfl, zz0, ww0⟩ := open_auditor (hval 0 23 v0 rfl rfl) h0
  have w0 := And.intro zz0 ww0
  have k1 := h1
  have lt1 : ∀ x ∈ p1, x.block < W.heap.size := by obtain ⟨m, hm⟩ := k1; exact DataW.trod_lt m _ _ _ hm
  obtain ⟨ak1, as1, ar1, rfl, zz1, ww1⟩ := open_auditor (hval 1 23 v1 rfl rfl) h1
  have w1 := And.intro zz1 ww1
  obtain ⟨a2, len2, cap2, rfl⟩ := okWide_slice Tryd.underlying24 (hval 2 24 v2 rfl rfl)
  have k2 := h2
  have lt2 : ∀ x ∈ p2, x.block < W.heap.size := by obtain ⟨m, hm⟩ := k2; exact DataW.trod_lt m _ _ _ hm
  obtain ⟨ss2, w2⟩ : ∃ ss, IsTexts W a2 len2 cap2 ss := by
    obtain ⟨fuel, hf⟩ := h2
    exact texts_of hf
  clear hA0
  have hT : Tabs W := tabs_of hL
  refine (walk ak0 as0 ar0 ak1 as1 ar1 a2 len2 cap2 ss2 W w0 w1 w2 hT).mono fun e W' ⟨he, hg⟩ => ?_
  subst he
  exact ⟨_, rfl, _, _, _, [], _, _, hW', (trodAll_cons_mk (shut_bool Tryd.underlying4 _) trodAll_mk0), (trodAll_cons_mk (Below.trod laidOut (by kernel_rfl) (of_decide_eq_true (by kernel_rfl)) k0 hg lt0) (trodAll_cons_mk (Below.trod laidOut (by kernel_rfl) (of_decide_eq_true (by kernel_rfl)) k1 hg lt1) (trodAll_cons_mk (Below.trod laidOut (by kernel_rfl) (of_decide_eq_true (by kernel_rfl)) k2 hg lt2) trodAll_mk0))), Below.trodVars laidOut hg (by kernel_rfl) hV, hg.frame _, fun h => by cases h⟩

/-- The variables' blocks as the initialisers leave them, for the witness. -/
def setTab (zs : List Int) : Obj → Obj
  | .cells _ t frozen => .cells (zs.map (Value.int .u32)).toArray t frozen
  | o => o
noncomputable def wit (os : Os) : World := { World.holding Tryd.prog os ⟨#[], #[], []⟩ with heap := ((World.holding Tryd.prog os ⟨#[], #[], []⟩).heap.modify 0 (setTab startN)).modify 1 (setTab keysN) }

theorem laid_met (os : Os) : laidMetH Tryd.prog Rows.fnExactClashRow.laid ((wit os).forCall (fun _ _ => 0) ⟨#[], #[.agg #[.string ByteArray.empty, .int .i64 0, .string ByteArray.empty], .agg #[.string ByteArray.empty, .int .i64 0, .string ByteArray.empty], .slice none 0 0], []⟩).memory :=
  laidMetH_of_parts (laidMet_of_run' 8 (by kernel_rfl) (by kernel_rfl)) (by kernel_rfl)
theorem reads (os : Os) {H : Type} (enc : TypeId × Value → H) : ∃ places, DataW.whole enc Tryd.prog ((wit os).forCall (fun _ _ => 0) ⟨#[], #[.agg #[.string ByteArray.empty, .int .i64 0, .string ByteArray.empty], .agg #[.string ByteArray.empty, .int .i64 0, .string ByteArray.empty], .slice none 0 0], []⟩).memory Tryd.f4.params.toList Rows.fnExactClashSpec.vars false #[Value.agg #[.string ByteArray.empty, .int .i64 0, .string ByteArray.empty], Value.agg #[.string ByteArray.empty, .int .i64 0, .string ByteArray.empty], Value.slice none 0 0].toList 8 = some ([.agg [.lit (.string []), .lit (.int .i64 0), .lit (.string [])], .agg [.lit (.string []), .lit (.int .i64 0), .lit (.string [])], .nil], [Rows.laid_loop_example_g00633_impl_firstState, Rows.laid_loop_example_g00633_impl_roundNums], places) := by
  have h : (DataW.whole enc Tryd.prog ((wit os).forCall (fun _ _ => 0) ⟨#[], #[.agg #[.string ByteArray.empty, .int .i64 0, .string ByteArray.empty], .agg #[.string ByteArray.empty, .int .i64 0, .string ByteArray.empty], .slice none 0 0], []⟩).memory Tryd.f4.params.toList Rows.fnExactClashSpec.vars false #[Value.agg #[.string ByteArray.empty, .int .i64 0, .string ByteArray.empty], Value.agg #[.string ByteArray.empty, .int .i64 0, .string ByteArray.empty], Value.slice none 0 0].toList 8).map (fun x => (x.1, x.2.1)) = some ([.agg [.lit (.string []), .lit (.int .i64 0), .lit (.string [])], .agg [.lit (.string []), .lit (.int .i64 0), .lit (.string [])], .nil], [Rows.laid_loop_example_g00633_impl_firstState, Rows.laid_loop_example_g00633_impl_roundNums]) := by kernel_rfl
  obtain ⟨⟨a, b, c⟩, hx, hy⟩ := Option.map_eq_some_iff.1 h
  cases hy
  exact ⟨c, hx⟩

set_option maxRecDepth 100000 in
theorem lifted (os : Os) (started : os.Started) (H : Type) (enc : TypeId × Value → H) (F : Stop.Interp) :
    ReturnsInHanded {} Tryd.checked os 4 .any ((OpenSpec.ofChange Rows.fnExactClashSpec).preRow enc Tryd.prog Tryd.f4 Rows.fnExactClashRow.domain false Rows.fnExactClashRow.laid) (((OpenSpec.ofChange Rows.fnExactClashSpec).at F).post enc Tryd.prog Tryd.f4 false true false false) := by
  obtain ⟨places, hx⟩ := reads os enc
  refine returnsInHanded_of_row (C := Tryd.checked) (s := OpenSpec.ofChange Rows.fnExactClashSpec) own started (by kernel_rfl) Tryd.func4
    (witness_row_at (enc := enc) (C := Tryd.checked) false (wit os) #[.agg #[.string ByteArray.empty, .int .i64 0, .string ByteArray.empty], .agg #[.string ByteArray.empty, .int .i64 0, .string ByteArray.empty], .slice none 0 0] rfl (by kernel_rfl) (by kernel_rfl) (by kernel_rfl)
      (OpenSpec.preRow_of_cond 8 hx (by kernel_rfl) (fun k hk => by cases hk) (by kernel_rfl) (laid_met os))) ?_
  intro W base args ds gs before hval hW _ _ _ hL _ _
  exact contract H enc W base args ds gs before hval hW hL

theorem said : Rows.FnExactClashSaid :=
  OpenClaim.holds_of_cond 4 Tryd.f4 rfl rfl rfl rfl rfl rfl rfl ⟨rfl, rfl, rfl, rfl, rfl⟩ rfl rfl rfl rfl rfl (by kernel_rfl) Tryd.func4 (by kernel_rfl)
    (of_decide_eq_true (by kernel_rfl)) (by unfold Func.isWrapper; first | (rw [if_pos (by decide +kernel)]; kernel_rfl) | (rw [if_neg (by decide +kernel)]; exact ⟨rfl, rfl⟩))
    (fun os started H enc _ F => by rw [OpenClaim.pre_eq_preRow]; exact lifted os started H enc F)

theorem plain (f : FuncId) (fn : Func) (hf : Tryd.pinned.checked.prog.funcNamed "loop.example/g00633/laws.FnExactClash" = some f) (hfn : Tryd.pinned.checked.prog.funcs[f]? = some fn) :
    Rows.fnExactClashCard.stood.looks = Tryd.pinned.checked.prog.looks [] ∧ ∀ (j : Nat) t, fn.params[j]? = some t → Tryd.pinned.checked.prog.wantsStandIn t = false := by
  obtain rfl : f = 4 := Option.some.inj ((show Tryd.prog.funcNamed "loop.example/g00633/laws.FnExactClash" = some 4 by kernel_rfl).symm.trans hf) |>.symm
  obtain rfl : fn = Tryd.f4 := (Option.some.inj (Tryd.func4.symm.trans hfn)).symm
  refine ⟨by kernel_rfl, fun j t ht => ?_⟩
  rw [Tryd.params4] at ht
  have hm := Array.mem_of_getElem? ht
  have hl : t ∈ ([23, 23, 24] : List TypeId) := by simpa using hm
  simp only [List.mem_cons, List.not_mem_nil, or_false] at hl
  rcases hl with rfl | rfl | rfl
  · exact (show Tryd.prog.wantsStandIn 23 = false by kernel_rfl)
  · exact (show Tryd.prog.wantsStandIn 23 = false by kernel_rfl)
  · exact (show Tryd.prog.wantsStandIn 24 = false by kernel_rfl)

theorem proved : Rows.FnExactClashCardSaid :=
  Claim7.holds_tied_plain_at .later [] _ _ _ _ said (fun _ h => by cases h) (by kernel_rfl) (fun _ h => by cases h) fnExactClash_row_tie rfl ⟨rfl, rfl⟩ (by kernel_rfl) rfl plain (by kernel_rfl)
#print axioms proved
end Go.Proofs.YtfdihkgkiiekcaaDoor.fnExactClash
