/-
  For every row and every index the law FnExactShow returns true: the program's Show answers as the specification's, writes into no argument, keeps nothing of one, and its answer owns its memory; the card ties the two listed tables, firstState and roundNums, to the program's text.
  Conditions: none of mine; the form's own reach; the two tables as the program's text lays them (the given tie). The card speaks of the pruned copy of the project that the seat names.
-/
import Derived.Test.YtefakcpclihaealDoorCards
import Derived.Test.YtefakcpclihaealDoorTie
import Derived.Test.YtefakcpclihaealDoorSlABxKSlBOwnS
import Derived.Test.YtefakcpclihaealDoorFldS
import Derived.Test.YtefakcpclihaealDoorImplSw
import Derived.Test.YtefakcpclihaealDoorLawFRLawS
import Derived.Test.YtefakcpclihaealDoorLawFXOpFTabsOf
import Derived.Test.YtefakcpclihaealDoorLawSh
import Derived.Test.YtefakcpclihaealDoorLawSX
import Derived.WalkKit
import Derived.ProofKit
import Derived.OpenShut
import Derived.OpenVars
import Derived.ShutString
import Derived.LaidHandle
import Derived.LaidLaws
import Derived.Deep.DeepHandedRow
import Derived.ChangeOld
import Derived.Below
namespace Go.Proofs.YtefakcpclihaealDoor.fnExactShow
open Go.ChangeShapes Go.WideShapes Go.ChangeAt Go.RowKit
open Go.ChangeMaps (open_string shut_string)
set_option linter.unusedVariables false
set_option maxRecDepth 100000

theorem own : ownKnob Tryd.prog.godebug = none := by kernel_rfl
theorem laidOut : laidOutB Tryd.prog = true := by kernel_rfl

theorem shO_len (k : ByteArray) (at_ : Int) (fs : List Fld) (i : Int) : (shO k at_ fs i).ns.length ≤ fs.length ∧ (shO k at_ fs i).cs.length ≤ fs.length := by
  unfold shO
  split
  · exact ⟨by simp, by simp⟩
  · exact ⟨Nat.zero_le _, Nat.zero_le _⟩
set_option maxHeartbeats 4000000 in
theorem walk (kd : ByteArray) (at_ : Int) (a0 : Option Addr) (len0 cap0 : Nat) (fs : List Fld) (ix : Int) (w : World) (w0 : kd.size ≤ maxLen ∧ (Lit.int .i64 at_).wf = true ∧ IsFlds w a0 len0 cap0 fs) (w1 : (Lit.int .i64 ix).wf = true) (hg : Tabs w) :
    Calls Tryd.prog 4 #[.agg #[.string kd, .int .i64 at_, .slice a0 len0 cap0], .int .i64 ix] w fun e w' => e = .returned (.bool true) ∧ Below w.heap.size w w' := by
  obtain ⟨hkd, hwf, rfl, hp, hcap, hm, hz⟩ := w0
  have HG : Hid (Tabs w) := hg
  have HP : Hid (FldAt w a0 fs) := hp
  have HB0 : Hid (FldsBig fs) := fun f hf => by have := hz f hf; unfold maxLen at this; exact this
  have HLE : Hid (fs.length ≤ 1048576 → (shO kd at_ fs ix).ns.length ≤ 1048576 ∧ (shO kd at_ fs ix).cs.length ≤ 1048576) := fun h => ⟨Nat.le_trans (shO_len kd at_ fs ix).1 h, Nat.le_trans (shO_len kd at_ fs ix).2 h⟩
  have HS : Hid (∀ q x, FldAt x q fs → fs.length ≤ 1048576 → Calls Tryd.prog 17 #[.agg #[.string kd, .int .i64 at_, .slice q fs.length fs.length], .int .i64 ix] x fun e x' => ∃ p c q d, e = .returned (.agg #[.string (shO kd at_ fs ix).k, .int .i64 (shO kd at_ fs ix).at_, .slice p (shO kd at_ fs ix).ns.length c, .slice q (shO kd at_ fs ix).cs.length d, .int .i64 (shO kd at_ fs ix).ix, .string (shO kd at_ fs ix).s, .string (shO kd at_ fs ix).v, .int .i64 (shC kd at_ fs ix)]) ∧ Sh2 x.heap.size p c (shO kd at_ fs ix).ns q d (shO kd at_ fs ix).cs x' ∧ Below x.heap.size x x') := fun q x h n => (specShow_any kd at_ q _ fs ix x h n (Nat.le_refl _) hkd hz).mono (by rintro e x2 ⟨v1, v2, rfl, ho, hb⟩; obtain ⟨p, c, q, d, rfl, rfl, h2⟩ := Sh2.of ho; exact ⟨p, c, q, d, rfl, h2, hb⟩)
  have HI : Hid (∀ q x, Tabs x → FldAt x q fs → fs.length ≤ 1048576 → Calls Tryd.prog 18 #[.agg #[.string kd, .int .i64 at_, .slice q fs.length fs.length], .int .i64 ix] x fun e x' => ∃ p c q d, e = .returned (.agg #[.string (shO kd at_ fs ix).k, .int .i64 (shO kd at_ fs ix).at_, .slice p (shO kd at_ fs ix).ns.length c, .slice q (shO kd at_ fs ix).cs.length d, .int .i64 (shO kd at_ fs ix).ix, .string (shO kd at_ fs ix).s, .string (shO kd at_ fs ix).v, .int .i64 (shC kd at_ fs ix)]) ∧ Sh2 x.heap.size p c (shO kd at_ fs ix).ns q d (shO kd at_ fs ix).cs x' ∧ Below x.heap.size x x') := fun q x hT h n => (implShow_any kd at_ q _ fs ix x hT h n (Nat.le_refl _) hkd hz).mono (by rintro e x2 ⟨v1, v2, rfl, ho, hb⟩; obtain ⟨p, c, q, d, rfl, rfl, h2⟩ := Sh2.of ho; exact ⟨p, c, q, d, rfl, h2, hb⟩)
  generalize shC kd at_ fs ix = C0 at *
  generalize shO kd at_ fs ix = o at *
  obtain ⟨K, A0, NS, CS, IX, SA, VA⟩ := o
  clear hg hp hz hwf w1
  unfold maxLen at hm hkd
  obtain ⟨W1, hW1⟩ : ∃ W1, W1 = w.alloc (.cells #[.string kd, .int .i64 at_, .slice a0 fs.length cap0] 24) := ⟨_, rfl⟩
  have B0 : Hid (Below w.heap.size w W1) := by rw [hW1]; exact (Below.refl _ _).alloc (Nat.le_refl _) _
  have HA : Hid (Bxs W1 w.heap.size 24 #[.string kd, .int .i64 at_, .slice a0 fs.length cap0]) := by rw [hW1]; exact Bxs.new _ _ _
  have HWA : Hid (W1 = w.alloc (.cells #[.string kd, .int .i64 at_, .slice a0 fs.length cap0] 24)) := hW1
  have S1 : Hid (W1.heap.size = w.heap.size + 1) := by show _ = _; rw [hW1]; simp
  clear hW1
  have hSz := szRow_any kd at_ a0 cap0 fs W1 (HP.out.below B0.out) (by omega) hcap HB0.out (by omega)
  clear HB0
  go_enter Tryd.func4, Tryd.ntmps4
  go_wp2_with fail
  rw [← HWA.out]
  refine hSz.mono ?_
  rintro e w2 ⟨⟨r, rfl, hr⟩, b2⟩
  clear hSz
  rcases hr with rfl | ⟨hr0, hr1, hl⟩
  · go_wp2_with fail
    go_ret
    exact ⟨rfl, chainB B0.out b2⟩
  have dr : decide (r < 0) = false := decide_eq_false (by omega)
  have hL : NS.length ≤ 1048576 ∧ CS.length ≤ 1048576 := HLE.out hl
  obtain ⟨hL1, hL2⟩ := hL
  clear HLE
  have HA2 : Hid (Bxs w2 w.heap.size 24 #[.string kd, .int .i64 at_, .slice a0 fs.length cap0]) := HA.out.below b2
  have B2 : Hid (Below w.heap.size w w2) := chainB B0.out b2
  have S2 : Hid (w.heap.size < w2.heap.size) := by have := S1.out; have := b2.size; show _ < _; omega
  clear HA S1 b2 B0 HWA
  obtain ⟨x0, x1, x2⟩ := HA2.out.read3
  have hT := toRow_any kd at_ a0 cap0 fs w2 (HP.out.below B2.out) hl hcap
  go_wp2_with fail
  refine hT.mono ?_
  rintro e w3 ⟨g3, hg3, rfl, hB3, b3⟩
  have hS := HS.out (some ⟨g3, 0, none⟩) w3 hB3.at hl
  clear hT hB3 x0 x1 x2 HS
  go_wp2_with fail
  refine hS.mono ?_
  clear hS
  rintro e w4 ⟨ps, cs, qs, ds, rfl, os, b4⟩
  have b4 := chainB b3 b4
  obtain ⟨W5, hW5⟩ : ∃ W5, W5 = w4.alloc (.cells #[.string K, .int .i64 A0, .slice ps NS.length cs, .slice qs CS.length ds, .int .i64 IX, .string SA, .string VA, .int .i64 C0] 42) := ⟨_, rfl⟩
  have HW5 : Hid (W5 = w4.alloc (.cells #[.string K, .int .i64 A0, .slice ps NS.length cs, .slice qs CS.length ds, .int .i64 IX, .string SA, .string VA, .int .i64 C0] 42)) := hW5
  have b5 : Below w2.heap.size w2 W5 := by rw [hW5]; exact alB b4 _
  have HA5 : Hid (Bxs W5 w.heap.size 24 #[.string kd, .int .i64 at_, .slice a0 fs.length cap0]) := HA2.out.below b5
  have B5 : Hid (Below w.heap.size w W5) := chainB B2.out b5
  have HV5 : Hid (Bxs W5 w4.heap.size 42 #[.string K, .int .i64 A0, .slice ps NS.length cs, .slice qs CS.length ds, .int .i64 IX, .string SA, .string VA, .int .i64 C0]) := by rw [hW5]; exact Bxs.new _ _ _
  have OS5 : Hid (Sh2 w3.heap.size ps cs NS qs ds CS W5) := by rw [hW5]; exact os.alloc _
  have S5 : Hid (w.heap.size < w4.heap.size ∧ W5.heap.size = w4.heap.size + 1 ∧ ∀ j, Bl2 ps cs NS.length qs ds CS.length j → j < w4.heap.size) := ⟨by have := S2.out; have := b4.size; omega, by rw [hW5]; simp, fun j hj => (os.lt2 j hj).2⟩
  clear hW5 os b3 b4 b5 HA2 B2 S2
  obtain ⟨x0, x1, x2⟩ := HA5.out.read3
  have hT := toRow_any kd at_ a0 cap0 fs W5 (HP.out.below B5.out) hl hcap
  rw [HW5.out] at x0 x1 x2
  go_wp2_with fail
  rw [← HW5.out]
  refine hT.mono ?_
  rintro e w6 ⟨g6, hg6, rfl, hB6, b6⟩
  clear hT x0 x1 x2
  obtain ⟨W7, hW7⟩ : ∃ W7, W7 = w6.alloc (.cells #[.string kd, .int .i64 at_, .slice (some ⟨g6, 0, none⟩) fs.length fs.length] 28) := ⟨_, rfl⟩
  have HW7 : Hid (W7 = w6.alloc (.cells #[.string kd, .int .i64 at_, .slice (some ⟨g6, 0, none⟩) fs.length fs.length] 28)) := hW7
  have b7' : Below w6.heap.size w6 W7 := by rw [hW7]; exact (Below.refl _ _).alloc (Nat.le_refl _) _
  have b7 : Below W5.heap.size W5 W7 := chainB b6 b7'
  have B7 : Hid (Below w.heap.size w W7) := chainB B5.out b7
  have HA7 : Hid (Bxs W7 w.heap.size 24 #[.string kd, .int .i64 at_, .slice a0 fs.length cap0]) := HA5.out.below b7
  have HV7 : Hid (Bxs W7 w4.heap.size 42 #[.string K, .int .i64 A0, .slice ps NS.length cs, .slice qs CS.length ds, .int .i64 IX, .string SA, .string VA, .int .i64 C0]) := HV5.out.below b7
  have OS7 : Hid (Sh2 w3.heap.size ps cs NS qs ds CS W7) := Sh2.below OS5.out b7
  have HX7 : Hid (Bxs W7 w6.heap.size 28 #[.string kd, .int .i64 at_, .slice (some ⟨g6, 0, none⟩) fs.length fs.length]) := by rw [hW7]; exact Bxs.new _ _ _
  have HF7 : Hid (BlkF W7 g6 fs) := hB6.below b7'
  have S7 : Hid (w.heap.size < w4.heap.size ∧ w4.heap.size < g6 ∧ g6 < w6.heap.size ∧ W7.heap.size = w6.heap.size + 1 ∧ ∀ j, Bl2 ps cs NS.length qs ds CS.length j → j < w4.heap.size) := ⟨S5.out.1, by have := S5.out.2.1; omega, Bxs.lt hB6, by rw [hW7]; simp, S5.out.2.2⟩
  have hI := HI.out (some ⟨g6, 0, none⟩) W7 (HG.out.below B7.out HG.out.1) HF7.out.at hl
  clear hW7 hB6 b6 b7 b7' B5 HA5 HV5 OS5 S5 HW5
  go_wp2_with fail
  rw [← HW7.out]
  refine hI.mono ?_
  clear hI
  rintro e w8 ⟨pg, cg, qg, dg, rfl, og, b8⟩
  obtain ⟨W9, hW9⟩ : ∃ W9, W9 = w8.alloc (.cells #[.string K, .int .i64 A0, .slice pg NS.length cg, .slice qg CS.length dg, .int .i64 IX, .string SA, .string VA, .int .i64 C0] 42) := ⟨_, rfl⟩
  have HW9 : Hid (W9 = w8.alloc (.cells #[.string K, .int .i64 A0, .slice pg NS.length cg, .slice qg CS.length dg, .int .i64 IX, .string SA, .string VA, .int .i64 C0] 42)) := hW9
  have b9 : Below W7.heap.size W7 W9 := by rw [hW9]; exact alB b8 _
  have OG9 : Hid (Sh2 W7.heap.size pg cg NS qg dg CS W9) := by rw [hW9]; exact og.alloc _
  have HX9 : Hid (Bxs W9 w6.heap.size 28 #[.string kd, .int .i64 at_, .slice (some ⟨g6, 0, none⟩) fs.length fs.length]) := HX7.out.below b9
  have HF9 : Hid (BlkF W9 g6 fs) := HF7.out.below b9
  have ST9 : Hid (MkS w 24 42 #[.string kd, .int .i64 at_, .slice a0 fs.length cap0] #[.string K, .int .i64 A0, .slice ps NS.length cs, .slice qs CS.length ds, .int .i64 IX, .string SA, .string VA, .int .i64 C0] #[.string K, .int .i64 A0, .slice pg NS.length cg, .slice qg CS.length dg, .int .i64 IX, .string SA, .string VA, .int .i64 C0] w4.heap.size w8.heap.size (fun x => Sh2 w3.heap.size ps cs NS qs ds CS x) W9) := ⟨chainB B7.out b9, HA7.out.below b9, HV7.out.below b9, by rw [hW9]; exact Bxs.new _ _ _, Sh2.below OS7.out b9⟩
  have SZ : Hid ((w.heap.size < g6 ∧ g6 ≠ w4.heap.size ∧ g6 ≠ w8.heap.size ∧ ¬ Bl2 ps cs NS.length qs ds CS.length g6 ∧ ¬ Bl2 pg cg NS.length qg dg CS.length g6) ∧ ∀ j, Bl2 pg cg NS.length qg dg CS.length j → w.heap.size < j ∧ j ≠ w4.heap.size ∧ j ≠ w8.heap.size ∧ ¬ Bl2 ps cs NS.length qs ds CS.length j) := by
    obtain ⟨q1, q2, q3, q4, q5⟩ := S7.out
    have q6 := b8.size
    refine ⟨⟨by omega, by omega, by omega, fun e => by have := q5 _ e; omega, fun e => by have := (og.lt2 _ e).1; omega⟩, fun j hj => ?_⟩
    have q7 := og.lt2 j hj
    exact ⟨by omega, by omega, by omega, fun e => by have := q5 _ e; omega⟩
  clear hW9 og b8 b9 B7 HA7 HV7 OS7 HX7 HF7 S7 HW7
  have PB : Hid (∀ x y : World, Sh2 w3.heap.size ps cs NS qs ds CS x → Below x.heap.size x y → Sh2 w3.heap.size ps cs NS qs ds CS y) := fun x y h hb => Sh2.below h hb
  obtain ⟨y0, y1, y2, y3, y4, y5, y6, y7⟩ := ST9.out.bg.eight
  obtain ⟨z0, z1, z2, z3, z4, z5, z6, z7⟩ := ST9.out.bw.eight
  rw [HW9.out] at y0 y1 y2 y3 y4 y5 y6 y7 z0 z1 z2 z3 z4 z5 z6 z7
  have hE := eqShownOut_any K A0 IX SA VA C0 pg cg ps cs NS qg dg qs ds CS W9 (Sh2.txt OG9.out).1.1 (Sh2.txt ST9.out.ps).1.1 (Sh2.txt OG9.out).1.2 (Sh2.txt ST9.out.ps).1.2 hL1 hL2 (Sh2.txt OG9.out).2.1 (Sh2.txt OG9.out).2.2 (Sh2.txt ST9.out.ps).2.1 (Sh2.txt ST9.out.ps).2.2
  go_wp2_with fail
  rw [← HW9.out]
  refine hE.mono ?_
  clear hE y0 y1 y2 y3 y4 y5 y6 y7 z0 z1 z2 z3 z4 z5 z6 z7 HW9
  rintro e w10 ⟨rfl, b10⟩
  have ST10 := ST9.out.below PB.out b10
  obtain ⟨x0, x1, x2⟩ := ST10.ba.read3
  obtain ⟨y0, y1, y2⟩ := (HX9.out.below b10).read3
  go_wp2_with fail
  have HT10 : Hid (∀ x, Below w10.heap.size w10 x → Calls Tryd.prog 10 #[.agg #[.string kd, .int .i64 at_, .slice a0 fs.length cap0]] x fun e x' => ∃ g, x.heap.size ≤ g ∧ e = .returned (.agg #[.string kd, .int .i64 at_, .slice (some ⟨g, 0, none⟩) fs.length fs.length]) ∧ BlkF x' g fs ∧ Below x.heap.size x x') := fun x hb =>
    toRow_any kd at_ a0 cap0 fs x (HP.out.below (chainB ST10.bel hb)) hl hcap
  have HE10 : Hid (∀ x g, BlkF x g6 fs → BlkF x g fs → Calls Tryd.prog 13 #[.agg #[.string kd, .int .i64 at_, .slice (some ⟨g6, 0, none⟩) fs.length fs.length], .agg #[.string kd, .int .i64 at_, .slice (some ⟨g, 0, none⟩) fs.length fs.length]] x fun e x' => e = .returned (.bool true) ∧ Below x.heap.size x x') := fun x g h1 h2 =>
    eqRow_any kd at_ _ _ fs.length fs.length fs x h1.at h2.at hl (Nat.le_refl _) (Nat.le_refl _)
  have HST10 : Hid (MkS w 24 42 #[.string kd, .int .i64 at_, .slice a0 fs.length cap0] #[.string K, .int .i64 A0, .slice ps NS.length cs, .slice qs CS.length ds, .int .i64 IX, .string SA, .string VA, .int .i64 C0] #[.string K, .int .i64 A0, .slice pg NS.length cg, .slice qg CS.length dg, .int .i64 IX, .string SA, .string VA, .int .i64 C0] w4.heap.size w8.heap.size (fun x => Sh2 w3.heap.size ps cs NS qs ds CS x) w10) := ST10
  have HX10 : Hid (Bxs w10 w6.heap.size 28 #[.string kd, .int .i64 at_, .slice (some ⟨g6, 0, none⟩) fs.length fs.length]) := HX9.out.below b10
  have HF10 : Hid (BlkF w10 g6 fs) := HF9.out.below b10
  have OG10 : Hid (Sh2 W7.heap.size pg cg NS qg dg CS w10) := Sh2.below OG9.out b10
  clear ST10 ST9 HX9 HF9 OG9 b10
  go_region_with (first
    | (go_at_call 13; refine (HE10.out _ _ B11x.out B11.out).mono ?_; rintro e w12 ⟨rfl, b12⟩; have b12 := chainB b11 b12)
    | (go_at_call 10; refine (HT10.out _ ((Below.refl _ _).drew)).mono ?_; rintro e w11 ⟨g11, hg11, rfl, hB11, b11⟩; have B11 : Hid (BlkF w11 g11 fs) := hB11; have b11 := chainB ((Below.refl _ _).drew) b11; have B11x : Hid (BlkF w11 g6 fs) := HF10.out.below b11; clear hB11; obtain ⟨u0, u1, u2⟩ := (HX10.out.below b11).read3))
  all_goals
    have ST12 : Hid (MkS w 24 42 #[.string kd, .int .i64 at_, .slice a0 fs.length cap0] #[.string K, .int .i64 A0, .slice ps NS.length cs, .slice qs CS.length ds, .int .i64 IX, .string SA, .string VA, .int .i64 C0] #[.string K, .int .i64 A0, .slice pg NS.length cg, .slice qg CS.length dg, .int .i64 IX, .string SA, .string VA, .int .i64 C0] w4.heap.size w8.heap.size (fun x => Sh2 w3.heap.size ps cs NS qs ds CS x) w12) := HST10.out.below PB.out b12
    have OG12 : Hid (Sh2 W7.heap.size pg cg NS qg dg CS w12) := Sh2.below OG10.out b12
    have hM := markRow_any kd at_ 0 (some ⟨g6, 0, none⟩) fs.length fs w12 ((HF10.out.below b12).own 0 (Nat.zero_le _) (by unfold maxLen; omega)) hl
    obtain ⟨v0, v1, v2⟩ := (HX10.out.below b12).read3
    clear HST10 OG10 HF10 HX10 b12 b11 HT10 HE10 B11 B11x
    go_wp2_with fail
    refine hM.mono ?_
    clear hM v0 v1 v2
    rintro e w13 ⟨rfl, -, g13⟩
    have g13 : w12.grownBy w13 (some g6) := g13
    have ST13 : Hid (MkS w 24 42 #[.string kd, .int .i64 at_, .slice a0 fs.length cap0] #[.string K, .int .i64 A0, .slice ps NS.length cs, .slice qs CS.length ds, .int .i64 IX, .string SA, .string VA, .int .i64 C0] #[.string K, .int .i64 A0, .slice pg NS.length cg, .slice qg CS.length dg, .int .i64 IX, .string SA, .string VA, .int .i64 C0] w4.heap.size w8.heap.size (fun x => Sh2 w3.heap.size ps cs NS qs ds CS x) w13) := ST12.out.grown g13 (fun j hj => by cases hj; exact ⟨SZ.out.1.1, SZ.out.1.2.1, SZ.out.1.2.2.1⟩) (Sh2.keep ST12.out.ps g13 (fun j hj => by cases hj; exact SZ.out.1.2.2.2.1))
    have OG13 : Hid (Sh2 W7.heap.size pg cg NS qg dg CS w13) := Sh2.keep OG12.out g13 (fun j hj => by cases hj; exact SZ.out.1.2.2.2.2)
    clear ST12 OG12 g13
    have hE := eqShownOut_any K A0 IX SA VA C0 pg cg ps cs NS qg dg qs ds CS w13 (Sh2.txt OG13.out).1.1 (Sh2.txt ST13.out.ps).1.1 (Sh2.txt OG13.out).1.2 (Sh2.txt ST13.out.ps).1.2 hL1 hL2 (Sh2.txt OG13.out).2.1 (Sh2.txt OG13.out).2.2 (Sh2.txt ST13.out.ps).2.1 (Sh2.txt ST13.out.ps).2.2
    obtain ⟨y0, y1, y2, y3, y4, y5, y6, y7⟩ := ST13.out.bg.eight
    obtain ⟨z0, z1, z2, z3, z4, z5, z6, z7⟩ := ST13.out.bw.eight
    have dk : decide (5 * (fs.length : Int) + 1 < 0) = false := decide_eq_false (by omega)
    go_wp2_with fail
    refine hE.mono ?_
    clear hE y0 y1 y2 y3 y4 y5 y6 y7 z0 z1 z2 z3 z4 z5 z6 z7 dk
    rintro e w14 ⟨rfl, b14⟩
    have ST14 : Hid (MkS w 24 42 #[.string kd, .int .i64 at_, .slice a0 fs.length cap0] #[.string K, .int .i64 A0, .slice ps NS.length cs, .slice qs CS.length ds, .int .i64 IX, .string SA, .string VA, .int .i64 C0] #[.string K, .int .i64 A0, .slice pg NS.length cg, .slice qg CS.length dg, .int .i64 IX, .string SA, .string VA, .int .i64 C0] w4.heap.size w8.heap.size (fun x => Sh2 w3.heap.size ps cs NS qs ds CS x) w14) := ST13.out.below PB.out b14
    have OG14 := Sh2.below OG13.out b14
    have hM := markShownOut_any K A0 IX SA VA C0 W7.heap.size pg cg NS qg dg CS w14 OG14.1 OG14.2.1 (Sh2.ne OG14) (by omega)
    have CG : Hid (NS.length ≤ cg ∧ CS.length ≤ dg) := (Sh2.txt OG14).2
    clear ST13 OG13 b14 OG14
    obtain ⟨y0, y1, y2, y3, y4, y5, y6, y7⟩ := ST14.out.bg.eight
    go_wp2_with fail
    refine hM.mono ?_
    clear hM y0 y1 y2 y3 y4 y5 y6 y7
    rintro e w15 ⟨rfl, o15, o15b, wm, gm, g15⟩
    have STm := ST14.out.grown gm (fun j hj => ⟨(SZ.out.2 j (.inl hj)).1, (SZ.out.2 j (.inl hj)).2.1, (SZ.out.2 j (.inl hj)).2.2.1⟩) (Sh2.keep ST14.out.ps gm (fun j hj => (SZ.out.2 j (.inl hj)).2.2.2))
    have ST15 : Hid (MkS w 24 42 #[.string kd, .int .i64 at_, .slice a0 fs.length cap0] #[.string K, .int .i64 A0, .slice ps NS.length cs, .slice qs CS.length ds, .int .i64 IX, .string SA, .string VA, .int .i64 C0] #[.string K, .int .i64 A0, .slice pg NS.length cg, .slice qg CS.length dg, .int .i64 IX, .string SA, .string VA, .int .i64 C0] w4.heap.size w8.heap.size (fun x => Sh2 w3.heap.size ps cs NS qs ds CS x) w15) := STm.grown g15 (fun j hj => ⟨(SZ.out.2 j (.inr hj)).1, (SZ.out.2 j (.inr hj)).2.1, (SZ.out.2 j (.inr hj)).2.2.1⟩) (Sh2.keep STm.ps g15 (fun j hj => (SZ.out.2 j (.inr hj)).2.2.2))
    clear STm gm
    have OM15 : Hid ((w15.ownsRow W7.heap.size 9 1 (.slice pg NS.length cg) NS.length (strRow (marksN 1 NS.length)) ∧ w15.ownsRow W7.heap.size 9 1 (.slice qg CS.length dg) CS.length (strRow (marksN (NS.length + 1) CS.length)))) := ⟨o15, o15b⟩
    have hH := heldShownOut_any K A0 IX SA VA C0 pg cg NS.length qg dg CS.length w15 (ownS_marks (OM15.out).1) (ownS_marks (OM15.out).2) (by omega) (CG.out).1 (CG.out).2
    clear ST14 o15 o15b g15
    obtain ⟨y0, y1, y2, y3, y4, y5, y6, y7⟩ := ST15.out.bg.eight
    go_wp2_with fail
    refine hH.mono ?_
    clear hH y0 y1 y2 y3 y4 y5 y6 y7
    rintro e w16 ⟨rfl, b16⟩
    have ST16 := ST15.out.below PB.out b16
    have OM16 : Hid ((w16.ownsRow W7.heap.size 9 1 (.slice pg NS.length cg) NS.length (strRow (marksN 1 NS.length)) ∧ w16.ownsRow W7.heap.size 9 1 (.slice qg CS.length dg) CS.length (strRow (marksN (NS.length + 1) CS.length)))) := And.intro (ownS_below (OM15.out).1 b16) (ownS_below (OM15.out).2 b16)
    have HST16 : Hid (MkS w 24 42 #[.string kd, .int .i64 at_, .slice a0 fs.length cap0] #[.string K, .int .i64 A0, .slice ps NS.length cs, .slice qs CS.length ds, .int .i64 IX, .string SA, .string VA, .int .i64 C0] #[.string K, .int .i64 A0, .slice pg NS.length cg, .slice qg CS.length dg, .int .i64 IX, .string SA, .string VA, .int .i64 C0] w4.heap.size w8.heap.size (fun x => Sh2 w3.heap.size ps cs NS qs ds CS x) w16) := ST16
    have hT := toRow_any kd at_ a0 cap0 fs w16 (HP.out.below ST16.bel) hl hcap
    obtain ⟨x0, x1, x2⟩ := ST16.ba.read3
    have dm : decide ((CS.length : Int) + ((NS.length : Int) + 1) < 0) = false := decide_eq_false (by omega)
    clear ST15 OM15 ST16 b16
    go_wp2_with fail
    refine hT.mono ?_
    clear hT x0 x1 x2
    rintro e w17 ⟨g17, hg17, rfl, hB17, b17⟩
    have ST17 := HST16.out.below PB.out b17
    have hI := HI.out (some ⟨g17, 0, none⟩) w17 (HG.out.below ST17.bel HG.out.1) hB17.at hl
    have OM17 := And.intro (ownS_below (OM16.out).1 b17) (ownS_below (OM16.out).2 b17)
    clear hB17
    go_wp2_with fail
    refine hI.mono ?_
    clear hI
    rintro e w18 ⟨ph, ch, qh, dh, rfl, oh, b18⟩
    obtain ⟨W19, hW19⟩ : ∃ W19, W19 = w18.alloc (.cells #[.string K, .int .i64 A0, .slice ph NS.length ch, .slice qh CS.length dh, .int .i64 IX, .string SA, .string VA, .int .i64 C0] 42) := ⟨_, rfl⟩
    have HW19 : Hid (W19 = w18.alloc (.cells #[.string K, .int .i64 A0, .slice ph NS.length ch, .slice qh CS.length dh, .int .i64 IX, .string SA, .string VA, .int .i64 C0] 42)) := hW19
    have b19 : Below w17.heap.size w17 W19 := by rw [hW19]; exact alB b18 _
    have ST19 : Hid (MkS w 24 42 #[.string kd, .int .i64 at_, .slice a0 fs.length cap0] #[.string K, .int .i64 A0, .slice ps NS.length cs, .slice qs CS.length ds, .int .i64 IX, .string SA, .string VA, .int .i64 C0] #[.string K, .int .i64 A0, .slice pg NS.length cg, .slice qg CS.length dg, .int .i64 IX, .string SA, .string VA, .int .i64 C0] w4.heap.size w8.heap.size (fun x => Sh2 w3.heap.size ps cs NS qs ds CS x) W19) := ST17.below PB.out b19
    have OM19 : Hid ((W19.ownsRow W7.heap.size 9 1 (.slice pg NS.length cg) NS.length (strRow (marksN 1 NS.length)) ∧ W19.ownsRow W7.heap.size 9 1 (.slice qg CS.length dg) CS.length (strRow (marksN (NS.length + 1) CS.length)))) := And.intro (ownS_below (OM17).1 b19) (ownS_below (OM17).2 b19)
    have OH19 : Sh2 w17.heap.size ph ch NS qh dh CS W19 := by rw [hW19]; exact oh.alloc _
    have hE := eqShownOut_any K A0 IX SA VA C0 ph ch ps cs NS qh dh qs ds CS W19 (Sh2.txt OH19).1.1 (Sh2.txt ST19.out.ps).1.1 (Sh2.txt OH19).1.2 (Sh2.txt ST19.out.ps).1.2 hL1 hL2 (Sh2.txt OH19).2.1 (Sh2.txt OH19).2.2 (Sh2.txt ST19.out.ps).2.1 (Sh2.txt ST19.out.ps).2.2
    obtain ⟨y0, y1, y2, y3, y4, y5, y6, y7⟩ : W19.cell? ⟨w18.heap.size, 0, none⟩ = some (.string K) ∧ W19.cell? ⟨w18.heap.size, 1, none⟩ = some (.int .i64 A0) ∧ W19.cell? ⟨w18.heap.size, 2, none⟩ = some (.slice ph NS.length ch) ∧ W19.cell? ⟨w18.heap.size, 3, none⟩ = some (.slice qh CS.length dh) ∧ W19.cell? ⟨w18.heap.size, 4, none⟩ = some (.int .i64 IX) ∧ W19.cell? ⟨w18.heap.size, 5, none⟩ = some (.string SA) ∧ W19.cell? ⟨w18.heap.size, 6, none⟩ = some (.string VA) ∧ W19.cell? ⟨w18.heap.size, 7, none⟩ = some (.int .i64 C0) := by rw [hW19]; exact (Bxs.new _ _ _).eight
    obtain ⟨z0, z1, z2, z3, z4, z5, z6, z7⟩ := ST19.out.bw.eight
    rw [hW19] at y0 y1 y2 y3 y4 y5 y6 y7 z0 z1 z2 z3 z4 z5 z6 z7
    clear hW19 oh b18 b19 ST17 OM17 b17 HST16 OM16 OH19
    go_wp2_with fail
    rw [← HW19.out]
    refine hE.mono ?_
    clear hE y0 y1 y2 y3 y4 y5 y6 y7 z0 z1 z2 z3 z4 z5 z6 z7 HW19
    rintro e w20 ⟨rfl, b20⟩
    have ST20 := ST19.out.below PB.out b20
    have OM20 := And.intro (ownS_below (OM19.out).1 b20) (ownS_below (OM19.out).2 b20)
    have hH := heldShownOut_any K A0 IX SA VA C0 pg cg NS.length qg dg CS.length w20 (ownS_marks (OM20).1) (ownS_marks (OM20).2) (by omega) (CG.out).1 (CG.out).2
    obtain ⟨y0, y1, y2, y3, y4, y5, y6, y7⟩ := ST20.bg.eight
    have B20 := ST20.bel
    clear ST19 OM19 ST20 OM20 b20
    go_wp2_with fail
    refine hH.mono ?_
    clear hH y0 y1 y2 y3 y4 y5 y6 y7
    rintro e w21 ⟨rfl, b21⟩
    have b21 := chainB B20 b21
    go_wp2_with fail
    go_ret
    exact ⟨rfl, b21⟩

theorem contract (H : Type) (enc : TypeId × Value → H) (W : World) (base : Nat) (args : Array Value) (ds gs : List (DataW H)) (before : List MemPlace)
    (hval : ∀ (j : Nat) t v, Tryd.f4.params[j]? = some t → args[j]? = some v → Value.okWide Tryd.prog W .any base t v)
    (hW : DataW.Whole enc Tryd.prog Tryd.f4.params.toList Rows.fnExactShowSpec.vars false W args.toList ds gs before) (hL : laidMetH Tryd.prog Rows.fnExactShowRow.laid W) :
    Calls Tryd.prog 4 args W fun e W' => ∃ v, e = .returned v ∧ Rows.fnExactShowSpec.post enc Tryd.prog Tryd.f4 false true false false W args v W' := by
  have hW' := hW
  obtain ⟨p, q, hA0, hV, rfl, hfz, hnd⟩ := hW
  have hA : DataW.TrodAll enc Tryd.prog W 0 (fun _ => true) true Tryd.f4.params.toList args.toList ds p := hA0
  rw [Tryd.params4] at hA hval
  obtain ⟨v0, vs0, d0, ds0, p0, q0, hargs, rfl, rfl, h0, r0⟩ := trodAll_cons hA
  obtain ⟨v1, vs1, d1, ds1, p1, q1, rfl, rfl, rfl, h1, r1⟩ := trodAll_cons r0
  obtain ⟨rfl, rfl, rfl⟩ := trodAll_nil r1
  obtain rfl : args = #[v0, v1] := by cases args; simp_all
  have hV2 : DataW.TrodVars enc Tryd.prog W (fun _ => true) ["loop.example/g00633/impl.firstState", "loop.example/g00633/impl.roundNums"] gs q := hV
  obtain ⟨_, _, _, _, e0, _, _, _, _, _, e1, _, rfl, _⟩ := trodVars_two hV2
  have k0 := h0
  have lt0 : ∀ x ∈ p0, x.block < W.heap.size := by obtain ⟨m, hm⟩ := k0; exact DataW.trod_lt m _ _ _ hm
  obtain ⟨kd0, at0, a0, len0, cap0, fs0, rfl, w0⟩ := open_row (hval 0 24 v0 rfl rfl) h0
  obtain ⟨a1, rfl, rfl, rfl, w1⟩ := open_int Tryd.underlying2 (hval 1 2 v1 rfl rfl) h1
  clear hA0
  have hT : Tabs W := tabs_of hL
  refine (walk kd0 at0 a0 len0 cap0 fs0 a1 W w0 w1 hT).mono fun e W' ⟨he, hg⟩ => ?_
  subst he
  exact ⟨_, rfl, _, _, _, [], _, _, hW', (trodAll_cons_mk (shut_bool Tryd.underlying4 _) trodAll_mk0), (trodAll_cons_mk (Below.trod laidOut (by kernel_rfl) (of_decide_eq_true (by kernel_rfl)) k0 hg lt0) (trodAll_cons_mk (shut_int Tryd.underlying2 w1) trodAll_mk0)), Below.trodVars laidOut hg (by kernel_rfl) hV, hg.frame _, fun h => by cases h⟩

/-- The variables' blocks as the initialisers leave them, for the witness. -/
def setTab (zs : List Int) : Obj → Obj
  | .cells _ t frozen => .cells (zs.map (Value.int .u32)).toArray t frozen
  | o => o
noncomputable def wit (os : Os) : World := { World.holding Tryd.prog os ⟨#[], #[], []⟩ with heap := ((World.holding Tryd.prog os ⟨#[], #[], []⟩).heap.modify 0 (setTab startN)).modify 1 (setTab keysN) }

theorem laid_met (os : Os) : laidMetH Tryd.prog Rows.fnExactShowRow.laid ((wit os).forCall (fun _ _ => 0) ⟨#[], #[.agg #[.string ByteArray.empty, .int .i64 0, .slice none 0 0], .int .i64 0], []⟩).memory :=
  laidMetH_of_parts (laidMet_of_run' 8 (by kernel_rfl) (by kernel_rfl)) (by kernel_rfl)
theorem reads (os : Os) {H : Type} (enc : TypeId × Value → H) : ∃ places, DataW.whole enc Tryd.prog ((wit os).forCall (fun _ _ => 0) ⟨#[], #[.agg #[.string ByteArray.empty, .int .i64 0, .slice none 0 0], .int .i64 0], []⟩).memory Tryd.f4.params.toList Rows.fnExactShowSpec.vars false #[Value.agg #[.string ByteArray.empty, .int .i64 0, .slice none 0 0], Value.int .i64 0].toList 8 = some ([.agg [.lit (.string []), .lit (.int .i64 0), .nil], .lit (.int .i64 0)], [Rows.laid_loop_example_g00633_impl_firstState, Rows.laid_loop_example_g00633_impl_roundNums], places) := by
  have h : (DataW.whole enc Tryd.prog ((wit os).forCall (fun _ _ => 0) ⟨#[], #[.agg #[.string ByteArray.empty, .int .i64 0, .slice none 0 0], .int .i64 0], []⟩).memory Tryd.f4.params.toList Rows.fnExactShowSpec.vars false #[Value.agg #[.string ByteArray.empty, .int .i64 0, .slice none 0 0], Value.int .i64 0].toList 8).map (fun x => (x.1, x.2.1)) = some ([.agg [.lit (.string []), .lit (.int .i64 0), .nil], .lit (.int .i64 0)], [Rows.laid_loop_example_g00633_impl_firstState, Rows.laid_loop_example_g00633_impl_roundNums]) := by kernel_rfl
  obtain ⟨⟨a, b, c⟩, hx, hy⟩ := Option.map_eq_some_iff.1 h
  cases hy
  exact ⟨c, hx⟩

set_option maxRecDepth 100000 in
theorem lifted (os : Os) (started : os.Started) (H : Type) (enc : TypeId × Value → H) (F : Stop.Interp) :
    ReturnsInHanded {} Tryd.checked os 4 .any ((OpenSpec.ofChange Rows.fnExactShowSpec).preRow enc Tryd.prog Tryd.f4 Rows.fnExactShowRow.domain false Rows.fnExactShowRow.laid) (((OpenSpec.ofChange Rows.fnExactShowSpec).at F).post enc Tryd.prog Tryd.f4 false true false false) := by
  obtain ⟨places, hx⟩ := reads os enc
  refine returnsInHanded_of_row (C := Tryd.checked) (s := OpenSpec.ofChange Rows.fnExactShowSpec) own started (by kernel_rfl) Tryd.func4
    (witness_row_at (enc := enc) (C := Tryd.checked) false (wit os) #[.agg #[.string ByteArray.empty, .int .i64 0, .slice none 0 0], .int .i64 0] rfl (by kernel_rfl) (by kernel_rfl) (by kernel_rfl)
      (OpenSpec.preRow_of_cond 8 hx (by kernel_rfl) (fun k hk => by cases hk) (by kernel_rfl) (laid_met os))) ?_
  intro W base args ds gs before hval hW _ _ _ hL _ _
  exact contract H enc W base args ds gs before hval hW hL

theorem said : Rows.FnExactShowSaid :=
  OpenClaim.holds_of_cond 4 Tryd.f4 rfl rfl rfl rfl rfl rfl rfl ⟨rfl, rfl, rfl, rfl, rfl⟩ rfl rfl rfl rfl rfl (by kernel_rfl) Tryd.func4 (by kernel_rfl)
    (of_decide_eq_true (by kernel_rfl)) (by unfold Func.isWrapper; first | (rw [if_pos (by decide +kernel)]; kernel_rfl) | (rw [if_neg (by decide +kernel)]; exact ⟨rfl, rfl⟩))
    (fun os started H enc _ F => by rw [OpenClaim.pre_eq_preRow]; exact lifted os started H enc F)

theorem plain (f : FuncId) (fn : Func) (hf : Tryd.pinned.checked.prog.funcNamed "loop.example/g00633/laws.FnExactShow" = some f) (hfn : Tryd.pinned.checked.prog.funcs[f]? = some fn) :
    Rows.fnExactShowCard.stood.looks = Tryd.pinned.checked.prog.looks [] ∧ ∀ (j : Nat) t, fn.params[j]? = some t → Tryd.pinned.checked.prog.wantsStandIn t = false := by
  obtain rfl : f = 4 := Option.some.inj ((show Tryd.prog.funcNamed "loop.example/g00633/laws.FnExactShow" = some 4 by kernel_rfl).symm.trans hf) |>.symm
  obtain rfl : fn = Tryd.f4 := (Option.some.inj (Tryd.func4.symm.trans hfn)).symm
  refine ⟨by kernel_rfl, fun j t ht => ?_⟩
  rw [Tryd.params4] at ht
  have hm := Array.mem_of_getElem? ht
  have hl : t ∈ ([24, 2] : List TypeId) := by simpa using hm
  simp only [List.mem_cons, List.not_mem_nil, or_false] at hl
  rcases hl with rfl | rfl
  · exact (show Tryd.prog.wantsStandIn 24 = false by kernel_rfl)
  · exact (show Tryd.prog.wantsStandIn 2 = false by kernel_rfl)

theorem proved : Rows.FnExactShowCardSaid :=
  Claim7.holds_tied_plain_at .later [] _ _ _ _ said (fun _ h => by cases h) (by kernel_rfl) (fun _ h => by cases h) fnExactShow_row_tie rfl ⟨rfl, rfl⟩ (by kernel_rfl) rfl plain (by kernel_rfl)
#print axioms proved
end Go.Proofs.YtefakcpclihaealDoor.fnExactShow
