/-
  For every Auditor, head, Sig and proof the law FnExactHearHead returns true: the program's HearHead answers as the specification's, every field, and writes into no argument; the card ties the listed variables, the two tables firstState and roundNums, to the program's text.
  Conditions: none of mine; the form's own reach; the two tables as the program's text lays them (the given tie). The card speaks of the pruned copy of the project that the seat names.
-/
import Derived.Test.YtfdihkgkiiekcaaDoorCards
import Derived.Test.YtfdihkgkiiekcaaDoorTie
import Derived.Test.YtfdihkgkiiekcaaDoorSlASlBBxK
import Derived.Test.YtfdihkgkiiekcaaDoorTakesLTillTwo
import Derived.Test.YtfdihkgkiiekcaaDoorLawSLawSGOwnSBox3
import Derived.Test.YtfdihkgkiiekcaaDoorLawSig
import Derived.Test.YtfdihkgkiiekcaaDoorLawSigLAudMathScanMath
import Derived.Test.YtfdihkgkiiekcaaDoorHearMath
import Derived.Test.YtfdihkgkiiekcaaDoorHearS
import Derived.Test.YtfdihkgkiiekcaaDoorHearI
import Derived.Test.YtfdihkgkiiekcaaDoorLawAuOpAuTabsOf
import Derived.WalkKit
import Derived.ProofKit
import Derived.OpenShut
import Derived.OpenVars
import Derived.ShutString
import Derived.LaidHandle
import Derived.LaidLaws
import Derived.Deep.DeepHandedRow
import Derived.ChangeOld
import Derived.Below
import Derived.Deep.Strs
import Derived.Deep.RegionHeld3
import Derived.Deep.Cut
import Derived.Deep.CutRange
import Derived.Handy
import Derived.WalkSpells
namespace Go.Proofs.YtfdihkgkiiekcaaDoor.fnExactHearHead
open Go.ChangeShapes Go.WideShapes Go.ChangeAt Go.RowKit
open Go.ChangeMaps (open_string shut_string)
set_option linter.unusedVariables false
set_option maxRecDepth 100000

theorem own : ownKnob Tryd.prog.godebug = none := by kernel_rfl
theorem laidOut : laidOutB Tryd.prog = true := by kernel_rfl

/-- What the walk is told of a slice of texts that came in. -/
def IsTexts (w : World) (a : Option Addr) (len cap : Nat) (ss : List ByteArray) : Prop :=
  ss.length = len ∧ TxtAt w a ss ∧ len ≤ cap ∧ cap ≤ maxLen ∧ ∀ x ∈ ss, x.size ≤ maxLen
theorem texts_of {H : Type} {enc : TypeId × Value → H} {W : World} {base : Nat} {fuel : Nat} {x : DataW H × List MemPlace} {a : Option Addr} {len cap : Nat}
    (h : DataW.trod enc Tryd.prog W base (fun _ => true) true fuel 24 [.slice a len cap] = some x) : ∃ ss, IsTexts W a len cap ss := by
  rcases Go.Deep.open_strs Tryd.underlying24 Tryd.underlying9 (by kernel_rfl) h with ⟨hcs, _⟩ | ⟨ad, l, c, m, Sx, hcs, _, hl, hm, hmm, _, hx⟩
  · simp at hcs
    obtain ⟨rfl, rfl, rfl⟩ := hcs
    exact ⟨[], rfl, TxtAt.nil _ _, Nat.le_refl _, by unfold maxLen; omega, fun x hx => by cases hx⟩
  · simp at hcs
    obtain ⟨rfl, rfl, rfl⟩ := hcs
    rw [if_pos rfl] at hmm
    subst hmm
    refine ⟨(List.range len).map Sx, by simp, ?_, hl, hm, ?_⟩
    · intro i hi
      have hi2 : i < len := by simpa using hi
      obtain ⟨b, off, spot⟩ := ad
      have hc := (hx i (by omega)).1
      have hspot : spot = none := by simpa [Addr.add] using World.cell?_spot (hx 0 (by omega)).1
      subst hspot
      have hadd : (⟨b, off, none⟩ : Addr).add i = ⟨b, off + i, none⟩ := by unfold Addr.add; split <;> simp_all
      rw [hadd] at hc
      exact ⟨b, off, rfl, World.block_lt_of_cell? W _ hc, by rw [hc]; simp⟩
    · intro x hxm
      obtain ⟨i, hi, rfl⟩ := List.mem_map.1 hxm
      exact (hx i (by have := List.mem_range.1 hi; omega)).2

theorem open_sig {H : Type} {enc : TypeId × Value → H} {W : World} {base : Nat} {v : Value} {d : DataW H} {ps : List MemPlace} (hval : Value.okWide Tryd.prog W .any base 26 v)
    (h : DataW.Trod enc Tryd.prog W 0 (fun _ => true) true 26 v d ps) : ∃ n a1 len1 cap1 a2 len2 cap2, v = .agg #[.int .i64 n, .slice a1 len1 cap1, .slice a2 len2 cap2] ∧ (Lit.int .i64 n).wf = true ∧ (∃ ss, IsTexts W a1 len1 cap1 ss) ∧ ∃ ss, IsTexts W a2 len2 cap2 ss := by
  obtain ⟨cs, rfl, hsz⟩ := okWide_struct Tryd.underlying26 hval
  have h2 : cs.size = 3 := hsz.trans (by kernel_rfl)
  obtain ⟨fuel, hf⟩ := h
  obtain ⟨y0, y1, y2, m, _, _, ht0, ht1, ht2⟩ := Go.Deep.trod_struct3 Tryd.underlying26 hf
  obtain ⟨c0, c1, c2, rfl⟩ : ∃ c0 c1 c2, cs = #[c0, c1, c2] := by
    match cs, h2 with
    | ⟨[c0, c1, c2]⟩, _ => exact ⟨c0, c1, c2, rfl⟩
  have e0 : Tryd.prog.cellsOf 2 = 1 := by kernel_rfl
  have e1 : Tryd.prog.cellsOf 24 = 1 := by kernel_rfl
  simp only [Value.cells, e0, e1, List.drop_zero, List.take_succ_cons, List.take_zero, List.drop_succ_cons] at ht0 ht1 ht2
  obtain ⟨n, hc0, _, hw⟩ := DataW.trod_int Tryd.underlying2 ht0
  simp at hc0
  subst hc0
  have f1 : ∃ a l c, c1 = .slice a l c := by
    rcases Go.Deep.open_strs Tryd.underlying24 Tryd.underlying9 (by kernel_rfl) ht1 with ⟨hcs, _⟩ | ⟨ad, l, c, mm, Sx, hcs, _⟩
    · simp at hcs; exact ⟨_, _, _, hcs⟩
    · simp at hcs; exact ⟨_, _, _, hcs⟩
  have f2 : ∃ a l c, c2 = .slice a l c := by
    rcases Go.Deep.open_strs Tryd.underlying24 Tryd.underlying9 (by kernel_rfl) ht2 with ⟨hcs, _⟩ | ⟨ad, l, c, mm, Sx, hcs, _⟩
    · simp at hcs; exact ⟨_, _, _, hcs⟩
    · simp at hcs; exact ⟨_, _, _, hcs⟩
  obtain ⟨a1, l1, k1, rfl⟩ := f1
  obtain ⟨a2, l2, k2, rfl⟩ := f2
  exact ⟨n, a1, l1, k1, a2, l2, k2, rfl, hw, texts_of ht1, texts_of ht2⟩

theorem int_bd {k : Int} (h : (Lit.int .i64 k).wf = true) : -9223372036854775808 ≤ k ∧ k ≤ 9223372036854775807 := by simpa [Lit.wf, IntKind.min, IntKind.max, IntKind.signed, IntKind.bits] using h
set_option maxHeartbeats 8000000 in
theorem walk (k : ByteArray) (s : Int) (r : ByteArray) (h : ByteArray) (key : Int) (b0 : Option Addr) (lenb capb : Nat) (ss1 : List ByteArray) (c0 : Option Addr) (lenc capc : Nat) (ss2 : List ByteArray) (hwf : (Lit.int .i64 key).wf = true) (p0 : Option Addr) (len3 cap3 : Nat) (ss : List ByteArray) (w : World) (w0 : (Lit.int .i64 s).wf = true ∧ k.size ≤ maxLen ∧ r.size ≤ maxLen) (w1 : h.size ≤ maxLen) (w2 : IsTexts w b0 lenb capb ss1 ∧ IsTexts w c0 lenc capc ss2) (w3 : IsTexts w p0 len3 cap3 ss) (hg : Tabs w) :
    Calls Tryd.prog 3 #[.agg #[.string k, .int .i64 s, .string r], .string h, .agg #[.int .i64 key, .slice b0 lenb capb, .slice c0 lenc capc], .slice p0 len3 cap3] w fun e w' => e = .returned (.bool true) ∧ Below w.heap.size w w' := by
  obtain ⟨⟨rfl, hq1, hcap1, hm1, hz1⟩, ⟨rfl, hq2, hcap2, hm2, hz2⟩⟩ := w2
  obtain ⟨rfl, hq3, hcap3, hm3, hz3⟩ := w3
  obtain ⟨v0, w0, w0'⟩ := w0
  have a0 := int_bd v0
  have k0 := int_bd hwf
  have HG : Hid (Tabs w) := hg
  have P1 : Hid (TxtAt w b0 ss1) := hq1
  have P2 : Hid (TxtAt w c0 ss2) := hq2
  have P3 : Hid (TxtAt w p0 ss) := hq3
  have Z1 : Hid (∀ x ∈ ss1, x.size ≤ maxLen) := hz1
  have Z2 : Hid (∀ x ∈ ss2, x.size ≤ maxLen) := hz2
  have Z3 : Hid (∀ x ∈ ss, x.size ≤ maxLen) := hz3
  obtain ⟨W2, hW2⟩ : ∃ W2, W2 = (w.alloc (.cells #[.string k, .int .i64 s, .string r] 23)).alloc (.cells #[.int .i64 key, .slice b0 ss1.length capb, .slice c0 ss2.length capc] 26) := ⟨_, rfl⟩
  have HW2 : Hid (W2 = (w.alloc (.cells #[.string k, .int .i64 s, .string r] 23)).alloc (.cells #[.int .i64 key, .slice b0 ss1.length capb, .slice c0 ss2.length capc] 26)) := hW2
  have B2 : Hid (Below w.heap.size w W2) := by rw [hW2]; exact alB ((Below.refl _ _).alloc (Nat.le_refl _) _) _
  have K1 : Hid (Bxs W2 w.heap.size 23 #[.string k, .int .i64 s, .string r]) := by rw [hW2]; exact (Bxs.new _ _ _).alloc _
  have K2 : Hid (Bxs W2 (w.heap.size + 1) 26 #[.int .i64 key, .slice b0 ss1.length capb, .slice c0 ss2.length capc]) := by
    rw [hW2]
    have h := Bxs.new (w.alloc (.cells #[.string k, .int .i64 s, .string r] 23)) 26 #[.int .i64 key, .slice b0 ss1.length capb, .slice c0 ss2.length capc]
    rwa [szA] at h
  have HX0 : Hid (∀ x, Below W2.heap.size W2 x → x.cell? ⟨w.heap.size, 0, none⟩ = some (.string k) ∧ x.cell? ⟨w.heap.size, 1, none⟩ = some (.int .i64 s) ∧ x.cell? ⟨w.heap.size, 2, none⟩ = some (.string r) ∧ x.cell? ⟨w.heap.size + 1, 0, none⟩ = some (.int .i64 key) ∧ x.cell? ⟨w.heap.size + 1, 1, none⟩ = some (.slice b0 ss1.length capb) ∧ x.cell? ⟨w.heap.size + 1, 2, none⟩ = some (.slice c0 ss2.length capc)) := fun x hb => ⟨(K1.out.below hb).cell 0, (K1.out.below hb).cell 1, (K1.out.below hb).cell 2, (K2.out.below hb).cell 0, (K2.out.below hb).cell 1, (K2.out.below hb).cell 2⟩
  have HZa : Hid (∀ x, Calls Tryd.prog 5 #[.agg #[.string k, .int .i64 s, .string r], .int .i64 1048576] x fun e w' => (∃ m, e = .returned (.int .i64 m) ∧ (m = -1 ∨ (0 ≤ m ∧ m ≤ 1048576 ∧ k.size ≤ 1048576 ∧ r.size ≤ 1048576))) ∧ Below x.heap.size x w') := fun x => szAud_any k s r 1048576 (by omega) (by omega) x w0 w0'
  have HTA : Hid (∀ x, Calls Tryd.prog 9 #[.agg #[.string k, .int .i64 s, .string r]] x fun e w' => e = .returned (.agg #[.string k, .int .i64 s, .string r]) ∧ Below x.heap.size x w') := fun x => toAud_any k s r x
  clear hW2 hq1 hq2 hq3 hz1 hz2 hz3 hg v0 hwf w0 w0'
  unfold maxLen at hm1 hm2 hm3 w1
  by_cases hbt : 1048576 < h.size
  · have d1 : decide (1048576 < (h.size : Int)) = true := decide_eq_true (by omega)
    go_enter Tryd.func3, Tryd.ntmps3
    go_upto_region 1 with fail
    rw [← HW2.out]
    go_wp2_with fail
    go_ret
    exact ⟨rfl, B2.out⟩
  have d1 : decide (1048576 < (h.size : Int)) = false := decide_eq_false (by omega)
  obtain ⟨x0, x1, x2, x3, x4, x5⟩ := HX0.out W2 (Below.refl _ _)
  have hZa := HZa.out W2
  go_enter Tryd.func3, Tryd.ntmps3
  go_upto_region 1 with fail
  rw [← HW2.out]
  go_wp2_with fail
  with_reducible refine hZa.mono ?_
  rintro e W3 ⟨⟨m, rfl, hmm⟩, z1⟩
  clear x0 x1 x2 x3 x4 x5 hZa d1
  rcases hmm with rfl | ⟨m0, m1, hk1, hr1⟩
  · go_wp2_with fail
    go_ret
    exact ⟨rfl, chainB B2.out z1⟩
  have d1 : decide (m < 0) = false := decide_eq_false (by omega)
  have B3 : Hid (Below w.heap.size w W3) := chainB B2.out z1
  obtain ⟨x0, x1, x2, x3, x4, x5⟩ := HX0.out W3 z1
  go_wp2_with fail
  refine (szSigL_any m m0 m1 key b0 c0 capb capc ss1 ss2 W3 (P1.out.below B3.out) (P2.out.below B3.out) (by omega) (by omega) hcap1 hcap2 (fun x hx => by have := Z1.out x hx; unfold maxLen at this; exact this) (fun x hx => by have := Z2.out x hx; unfold maxLen at this; exact this)).mono ?_
  rintro e W4 ⟨⟨m', rfl, hmm⟩, z2⟩
  clear x0 x1 x2 x3 x4 x5 d1
  have z2 := chainB z1 z2
  rcases hmm with rfl | ⟨m2, m3, ⟨l1, _⟩, ⟨l2, _⟩⟩
  · go_wp2_with fail
    go_ret
    exact ⟨rfl, chainB B2.out z2⟩
  have d1 : decide (m' < 0) = false := decide_eq_false (by omega)
  have B4 : Hid (Below w.heap.size w W4) := chainB B2.out z2
  go_wp2_with fail
  refine (szG_any m' m2 (by omega) p0 cap3 ss W4 (P3.out.below B4.out) (by omega) hcap3 (fun x hx => by have := Z3.out x hx; unfold maxLen at this; exact this)).mono ?_
  rintro e W5 ⟨⟨q, rfl, hr⟩, hw5⟩
  subst hw5
  clear d1
  rcases hr with rfl | ⟨hr0, hr1', l3, _⟩
  · go_wp2_with fail
    go_ret
    exact ⟨rfl, B4.out⟩
  have d1 : decide (q < 0) = false := decide_eq_false (by omega)
  have B5 : Hid (Below w.heap.size w W5) := B4.out
  have HX : Hid (∀ x, Below W5.heap.size W5 x → x.cell? ⟨w.heap.size, 0, none⟩ = some (.string k) ∧ x.cell? ⟨w.heap.size, 1, none⟩ = some (.int .i64 s) ∧ x.cell? ⟨w.heap.size, 2, none⟩ = some (.string r) ∧ x.cell? ⟨w.heap.size + 1, 0, none⟩ = some (.int .i64 key) ∧ x.cell? ⟨w.heap.size + 1, 1, none⟩ = some (.slice b0 ss1.length capb) ∧ x.cell? ⟨w.heap.size + 1, 2, none⟩ = some (.slice c0 ss2.length capc)) := fun x hb => HX0.out x (chainB z2 hb)
  have HTS : Hid (∀ x, Below w.heap.size w x → Calls Tryd.prog 10 #[.agg #[.int .i64 key, .slice b0 ss1.length capb, .slice c0 ss2.length capc]] x fun e x1 => ∃ g1 g2, e = .returned (.agg #[.int .i64 key, .slice (some ⟨g1, 0, none⟩) ss1.length ss1.length, .slice (some ⟨g2, 0, none⟩) ss2.length ss2.length]) ∧ TxtAt x1 (some ⟨g1, 0, none⟩) ss1 ∧ TxtAt x1 (some ⟨g2, 0, none⟩) ss2 ∧ Below x.heap.size x x1) := fun x hb => (toSig_any key b0 c0 capb capc ss1 ss2 x (P1.out.below hb) (P2.out.below hb) l1 l2 hcap1 hcap2).mono (by
    rintro e x1 ⟨g1, g2, _, _, he, j1, j2, y⟩
    exact ⟨g1, g2, he, j1.txt, j2.txt, y⟩)
  have HTT : Hid (∀ x, Below w.heap.size w x → Calls Tryd.prog 11 #[.slice p0 ss.length cap3] x fun e x1 => ∃ g3, e = .returned (.slice (some ⟨g3, 0, none⟩) ss.length ss.length) ∧ TxtAt x1 (some ⟨g3, 0, none⟩) ss ∧ Below x.heap.size x x1) := fun x hb => (to_any p0 cap3 ss x (P3.out.below hb) l3 hcap3).mono (by
    rintro e x1 ⟨he, j1, y⟩
    exact ⟨_, he, j1.txt, y⟩)
  have HSp : Hid (∀ x g1 g2 g3, TxtAt x (some ⟨g1, 0, none⟩) ss1 → TxtAt x (some ⟨g2, 0, none⟩) ss2 → TxtAt x (some ⟨g3, 0, none⟩) ss → Calls Tryd.prog 8 #[.agg #[.string k, .int .i64 s, .string r], .string h, .agg #[.int .i64 key, .slice (some ⟨g1, 0, none⟩) ss1.length ss1.length, .slice (some ⟨g2, 0, none⟩) ss2.length ss2.length], .slice (some ⟨g3, 0, none⟩) ss.length ss.length] x fun e w' => e = .returned (hhV k s r h key ss1 ss2 ss) ∧ Below x.heap.size x w') := fun x g1 g2 g3 j1 j2 j3 => specHear_any k s r h key _ ss1.length ss1 _ ss2.length ss2 _ ss.length ss x j1 j2 j3 l1 l2 l3 (Nat.le_refl _) (Nat.le_refl _) (Nat.le_refl _) hk1 hr1 (by omega) a0 k0
  have HIm : Hid (∀ x g1 g2 g3, Below w.heap.size w x → TxtAt x (some ⟨g1, 0, none⟩) ss1 → TxtAt x (some ⟨g2, 0, none⟩) ss2 → TxtAt x (some ⟨g3, 0, none⟩) ss → Calls Tryd.prog 12 #[.agg #[.string k, .int .i64 s, .string r], .string h, .agg #[.int .i64 key, .slice (some ⟨g1, 0, none⟩) ss1.length ss1.length, .slice (some ⟨g2, 0, none⟩) ss2.length ss2.length], .slice (some ⟨g3, 0, none⟩) ss.length ss.length] x fun e w' => e = .returned (hhV k s r h key ss1 ss2 ss) ∧ Below x.heap.size x w') := fun x g1 g2 g3 hx j1 j2 j3 => implHear_any k s r h key _ ss1.length ss1 _ ss2.length ss2 _ ss.length ss x (HG.out.on hx) j1 j2 j3 l1 l2 l3 (Nat.le_refl _) (Nat.le_refl _) (Nat.le_refl _) hk1 hr1 (by omega) a0 k0
  have HQ : Hid (∀ x g g', TxtAt x (some ⟨g, 0, none⟩) ss → TxtAt x (some ⟨g', 0, none⟩) ss → Calls Tryd.prog 15 #[.slice (some ⟨g, 0, none⟩) ss.length ss.length, .slice (some ⟨g', 0, none⟩) ss.length ss.length] x fun e w' => e = .returned (.bool true) ∧ Below x.heap.size x w') := fun x g g' h h' => by
    have hq := eq_any _ _ ss.length ss.length ss ss x h h' (by omega) (by omega) (Nat.le_refl _) (Nat.le_refl _)
    rwa [decide_eq_true rfl] at hq
  have HQS : Hid (∀ x g1 g2 g3 g4, TxtAt x (some ⟨g1, 0, none⟩) ss1 → TxtAt x (some ⟨g2, 0, none⟩) ss2 → TxtAt x (some ⟨g3, 0, none⟩) ss1 → TxtAt x (some ⟨g4, 0, none⟩) ss2 → Calls Tryd.prog 14 #[.agg #[.int .i64 key, .slice (some ⟨g1, 0, none⟩) ss1.length ss1.length, .slice (some ⟨g2, 0, none⟩) ss2.length ss2.length], .agg #[.int .i64 key, .slice (some ⟨g3, 0, none⟩) ss1.length ss1.length, .slice (some ⟨g4, 0, none⟩) ss2.length ss2.length]] x fun e x1 => e = .returned (.bool true) ∧ Below x.heap.size x x1) := fun x g1 g2 g3 g4 i1 i2 i3 i4 => eqSig_any key _ _ _ _ ss1.length ss2.length ss1.length ss2.length ss1 ss2 x i1 i2 i3 i4 l1 l2 (Nat.le_refl _) (Nat.le_refl _) (Nat.le_refl _) (Nat.le_refl _)
  have HQA : Hid (∀ K S R C x, Calls Tryd.prog 13 #[.agg #[.string K, .int .i64 S, .string R, .int .i64 C], .agg #[.string K, .int .i64 S, .string R, .int .i64 C]] x fun e w' => e = .returned (.bool true) ∧ Below x.heap.size x w') := fun K S R C x => eqAudO_same K S R C x
  unfold hhV at HSp HIm
  generalize hhK k s r h key ss1 ss2 ss = K0 at *
  generalize hhS k s r h key ss1 ss2 ss = S0 at *
  generalize hhR k s r h key ss1 ss2 ss = R0 at *
  generalize hhC k s r h key ss1 ss2 ss = C0 at *
  clear a0 k0 hm1 hm2 hm3 w1 hcap1 hcap2 hcap3 HX0 z1 z2 hk1 hr1 l1 l2 l3 hbt m0 m1 m2 m3 hr1'
  have BR : Below W5.heap.size W5 W5.drew := (Below.refl _ _).drew
  go_upto_region 13 with fail
  go_cut [10] from 13 to 14 (fun s10 wx => ∃ Eb, s10 = .pointer (some ⟨Eb, 0, none⟩) ∧ Hid (Bxs wx Eb 32 #[.string K0, .int .i64 S0, .string R0, .int .i64 C0] ∧ Below W5.heap.size W5 wx))
  case first =>
    refine region_till (fun w' => w'.cell? ⟨w.heap.size, 0, none⟩ = some (.string k) ∧ w'.cell? ⟨w.heap.size, 1, none⟩ = some (.int .i64 s) ∧ w'.cell? ⟨w.heap.size, 2, none⟩ = some (.string r) ∧ w'.cell? ⟨w.heap.size + 1, 0, none⟩ = some (.int .i64 key) ∧ w'.cell? ⟨w.heap.size + 1, 1, none⟩ = some (.slice b0 ss1.length capb) ∧ w'.cell? ⟨w.heap.size + 1, 2, none⟩ = some (.slice c0 ss2.length capc)) 9 (by kernel_rfl) (HX.out _ BR) (fun hHeld => ?_)
    generalize W5.drew = x0 at *
    refine till_take 0 (v := ?_) rfl (by kernel_rfl) (by kernel_rfl) (by kernel_rfl) (by kernel_rfl) (fun _ _ _ h => h) hHeld (Or.inl ⟨by rfl, ?_⟩) ?_
    rotate_left
    · (intro w hSw; (try dsimp only at hSw); go_simp; try with_reducible rfl)
    simp only [Act.put, List.setIfInBounds_toArray, List.set_cons_zero, List.set_cons_succ]
    refine till_take 2 (v := ?_) rfl (by kernel_rfl) (by kernel_rfl) (by kernel_rfl) (by kernel_rfl) (fun _ _ _ h => h) hHeld (Or.inl ⟨by rfl, ?_⟩) ?_
    rotate_left
    · (intro w hSw; (try dsimp only at hSw); go_simp; try with_reducible rfl)
    simp only [Act.put, List.setIfInBounds_toArray, List.set_cons_zero, List.set_cons_succ]
    refine till_take 3 (v := ?_) rfl (by kernel_rfl) (by kernel_rfl) (by kernel_rfl) (by kernel_rfl) (fun _ _ _ h => h) hHeld (Or.inl ⟨by rfl, ?_⟩) ?_
    rotate_left
    · (intro w hSw; (try dsimp only at hSw); go_simp; try with_reducible rfl)
    simp only [Act.put, List.setIfInBounds_toArray, List.set_cons_zero, List.set_cons_succ]
    refine till_take 5 (v := ?_) rfl (by kernel_rfl) (by kernel_rfl) (by kernel_rfl) (by kernel_rfl) (fun _ _ _ h => h) hHeld (Or.inl ⟨by rfl, ?_⟩) ?_
    rotate_left
    · (intro w hSw; (try dsimp only at hSw); go_simp; try with_reducible rfl)
    simp only [Act.put, List.setIfInBounds_toArray, List.set_cons_zero, List.set_cons_succ]
    refine till_ready2 1 8 rfl rfl (by kernel_rfl) (fun K hK => ?_) (fun K hK => ?_)
    · go_simp
      (go_at_call 9; with_reducible refine (HTA.out _).mono ?_; rintro e y_1 ⟨rfl, z_1⟩)
      have b_1 := chainB BR z_1
      refine hK.out _ _ (HX.out _ b_1) (fun hHeld => ?_)
      clear hK K
      try simp only [Act.put, List.setIfInBounds_toArray, List.set_cons_zero, List.set_cons_succ]
      refine till_ready2 4 8 rfl rfl (by kernel_rfl) (fun K hK => ?_) (fun K hK => ?_)
      · go_simp
        (go_at_call 10; with_reducible refine (HTS.out _ (chainB B5.out b_1)).mono ?_; rintro e y_2 ⟨g1, g2, rfl, j1, j2, z_2⟩)
        have b_2 := chainB b_1 z_2
        refine hK.out _ _ (HX.out _ b_2) (fun hHeld => ?_)
        clear hK K
        try simp only [Act.put, List.setIfInBounds_toArray, List.set_cons_zero, List.set_cons_succ]
        refine till_ready2 6 8 rfl rfl (by kernel_rfl) (fun K hK => ?_) (fun K hK => ?_)
        · go_simp
          (go_at_call 11; with_reducible refine (HTT.out _ (chainB B5.out b_2)).mono ?_; rintro e y_3 ⟨g3, rfl, j3, z_3⟩)
          have b_3 := chainB b_2 z_3
          have j1 := j1.below z_3
          have j2 := j2.below z_3
          refine hK.out _ _ (HX.out _ b_3) (fun hHeld => ?_)
          clear hK K
          try simp only [Act.put, List.setIfInBounds_toArray, List.set_cons_zero, List.set_cons_succ]
          refine till_ready2 7 8 rfl rfl (by kernel_rfl) (fun K hK => ?_) (fun K hK => ?_)
          · go_simp
            (go_at_call 8; with_reducible refine (HSp.out _ g1 g2 g3 j1 j2 j3).mono ?_; rintro e y_4 ⟨rfl, z_4⟩)
            have b_4 := chainB b_3 z_4
            have j1 := j1.below z_4
            have j2 := j2.below z_4
            have j3 := j3.below z_4
            refine hK.out _ _ (HX.out _ b_4) (fun hHeld => ?_)
            clear hK K
            try simp only [Act.put, List.setIfInBounds_toArray, List.set_cons_zero, List.set_cons_succ]
            refine till_ready 8 rfl (by kernel_rfl) (fun K hK => ?_)
            go_simp
            have kE : Bxs (y_4.alloc (.cells #[.string ⟨#[]⟩, .int .i64 0, .string ⟨#[]⟩, .int .i64 0] 32)) y_4.heap.size 32 #[.string ⟨#[]⟩, .int .i64 0, .string ⟨#[]⟩, .int .i64 0] := Bxs.new _ _ _
            have b_5 : Below W5.heap.size W5 (y_4.alloc (.cells #[.string ⟨#[]⟩, .int .i64 0, .string ⟨#[]⟩, .int .i64 0] 32)) := alB b_4 _
            have hEb : W5.heap.size ≤ y_4.heap.size := b_4.size
            replace j1 := j1.below (alB (Below.refl _ _) (.cells #[.string ⟨#[]⟩, .int .i64 0, .string ⟨#[]⟩, .int .i64 0] 32))
            replace j2 := j2.below (alB (Below.refl _ _) (.cells #[.string ⟨#[]⟩, .int .i64 0, .string ⟨#[]⟩, .int .i64 0] 32))
            replace j3 := j3.below (alB (Below.refl _ _) (.cells #[.string ⟨#[]⟩, .int .i64 0, .string ⟨#[]⟩, .int .i64 0] 32))
            refine hK.out _ _ (HX.out _ b_5) (fun hHeld => ?_)
            clear hK K
            try simp only [Act.put, List.setIfInBounds_toArray, List.set_cons_zero, List.set_cons_succ]
            generalize y_4.alloc (.cells #[.string ⟨#[]⟩, .int .i64 0, .string ⟨#[]⟩, .int .i64 0] 32) = u at *
            generalize y_4.heap.size = Eb at *
            have HP : Hid (Bxs ((((u.setCell ⟨Eb, 0, none⟩ (.string K0)).setCell ⟨Eb, 1, none⟩ (.int .i64 S0)).setCell ⟨Eb, 2, none⟩ (.string R0)).setCell ⟨Eb, 3, none⟩ (.int .i64 C0)) Eb 32 #[.string K0, .int .i64 S0, .string R0, .int .i64 C0] ∧ Below W5.heap.size W5 ((((u.setCell ⟨Eb, 0, none⟩ (.string K0)).setCell ⟨Eb, 1, none⟩ (.int .i64 S0)).setCell ⟨Eb, 2, none⟩ (.string R0)).setCell ⟨Eb, 3, none⟩ (.int .i64 C0))) := ⟨((((kE.set 0 _).set 1 _).set 2 _).set 3 _), ((((b_5.setCell (p := ⟨Eb, 0, none⟩) hEb _).setCell (p := ⟨Eb, 1, none⟩) hEb _).setCell (p := ⟨Eb, 2, none⟩) hEb _).setCell (p := ⟨Eb, 3, none⟩) hEb _)⟩
            have qc0 : u.cell? ⟨Eb, 0, none⟩ = some (.string ⟨#[]⟩) := kE.cell 0
            have qc1 : u.cell? ⟨Eb, 1, none⟩ = some (.int .i64 0) := kE.cell 1
            have qc2 : u.cell? ⟨Eb, 2, none⟩ = some (.string ⟨#[]⟩) := kE.cell 2
            have qc3 : u.cell? ⟨Eb, 3, none⟩ = some (.int .i64 0) := kE.cell 3
            have qf0 := kE.fr 0
            have qf1 := kE.fr 1
            have qf2 := kE.fr 2
            have qf3 := kE.fr 3
            refine till_last rfl (by kernel_rfl) (by kernel_rfl) (fun K hK => ?_)
            go_simp
            refine hK.out _ _ ?_
            clear hK K hHeld qc0 qf0 qc1 qf1 qc2 qf2 qc3 qf3
            go_wp2_with fail
            go_meet
            exact ⟨_, rfl, HP⟩
          · go_simp
            have kE : Bxs (y_3.alloc (.cells #[.string ⟨#[]⟩, .int .i64 0, .string ⟨#[]⟩, .int .i64 0] 32)) y_3.heap.size 32 #[.string ⟨#[]⟩, .int .i64 0, .string ⟨#[]⟩, .int .i64 0] := Bxs.new _ _ _
            have b_6 : Below W5.heap.size W5 (y_3.alloc (.cells #[.string ⟨#[]⟩, .int .i64 0, .string ⟨#[]⟩, .int .i64 0] 32)) := alB b_3 _
            have hEb : W5.heap.size ≤ y_3.heap.size := b_3.size
            replace j1 := j1.below (alB (Below.refl _ _) (.cells #[.string ⟨#[]⟩, .int .i64 0, .string ⟨#[]⟩, .int .i64 0] 32))
            replace j2 := j2.below (alB (Below.refl _ _) (.cells #[.string ⟨#[]⟩, .int .i64 0, .string ⟨#[]⟩, .int .i64 0] 32))
            replace j3 := j3.below (alB (Below.refl _ _) (.cells #[.string ⟨#[]⟩, .int .i64 0, .string ⟨#[]⟩, .int .i64 0] 32))
            refine hK.out _ _ (HX.out _ b_6) (fun hHeld => ?_)
            clear hK K
            try simp only [Act.put, List.setIfInBounds_toArray, List.set_cons_zero, List.set_cons_succ]
            generalize y_3.alloc (.cells #[.string ⟨#[]⟩, .int .i64 0, .string ⟨#[]⟩, .int .i64 0] 32) = u at *
            generalize y_3.heap.size = Eb at *
            refine till_ready 7 rfl (by kernel_rfl) (fun K hK => ?_)
            go_simp
            (go_at_call 8; with_reducible refine (HSp.out _ g1 g2 g3 j1 j2 j3).mono ?_; rintro e y_7 ⟨rfl, z_7⟩)
            have b_7 := chainB b_6 z_7
            have j1 := j1.below z_7
            have j2 := j2.below z_7
            have j3 := j3.below z_7
            have kE := kE.below z_7
            refine hK.out _ _ (HX.out _ b_7) (fun hHeld => ?_)
            clear hK K
            try simp only [Act.put, List.setIfInBounds_toArray, List.set_cons_zero, List.set_cons_succ]
            have HP : Hid (Bxs ((((y_7.setCell ⟨Eb, 0, none⟩ (.string K0)).setCell ⟨Eb, 1, none⟩ (.int .i64 S0)).setCell ⟨Eb, 2, none⟩ (.string R0)).setCell ⟨Eb, 3, none⟩ (.int .i64 C0)) Eb 32 #[.string K0, .int .i64 S0, .string R0, .int .i64 C0] ∧ Below W5.heap.size W5 ((((y_7.setCell ⟨Eb, 0, none⟩ (.string K0)).setCell ⟨Eb, 1, none⟩ (.int .i64 S0)).setCell ⟨Eb, 2, none⟩ (.string R0)).setCell ⟨Eb, 3, none⟩ (.int .i64 C0))) := ⟨((((kE.set 0 _).set 1 _).set 2 _).set 3 _), ((((b_7.setCell (p := ⟨Eb, 0, none⟩) hEb _).setCell (p := ⟨Eb, 1, none⟩) hEb _).setCell (p := ⟨Eb, 2, none⟩) hEb _).setCell (p := ⟨Eb, 3, none⟩) hEb _)⟩
            have qc0 : y_7.cell? ⟨Eb, 0, none⟩ = some (.string ⟨#[]⟩) := kE.cell 0
            have qc1 : y_7.cell? ⟨Eb, 1, none⟩ = some (.int .i64 0) := kE.cell 1
            have qc2 : y_7.cell? ⟨Eb, 2, none⟩ = some (.string ⟨#[]⟩) := kE.cell 2
            have qc3 : y_7.cell? ⟨Eb, 3, none⟩ = some (.int .i64 0) := kE.cell 3
            have qf0 := kE.fr 0
            have qf1 := kE.fr 1
            have qf2 := kE.fr 2
            have qf3 := kE.fr 3
            refine till_last rfl (by kernel_rfl) (by kernel_rfl) (fun K hK => ?_)
            go_simp
            refine hK.out _ _ ?_
            clear hK K hHeld qc0 qf0 qc1 qf1 qc2 qf2 qc3 qf3
            go_wp2_with fail
            go_meet
            exact ⟨_, rfl, HP⟩
        · go_simp
          have kE : Bxs (y_2.alloc (.cells #[.string ⟨#[]⟩, .int .i64 0, .string ⟨#[]⟩, .int .i64 0] 32)) y_2.heap.size 32 #[.string ⟨#[]⟩, .int .i64 0, .string ⟨#[]⟩, .int .i64 0] := Bxs.new _ _ _
          have b_8 : Below W5.heap.size W5 (y_2.alloc (.cells #[.string ⟨#[]⟩, .int .i64 0, .string ⟨#[]⟩, .int .i64 0] 32)) := alB b_2 _
          have hEb : W5.heap.size ≤ y_2.heap.size := b_2.size
          replace j1 := j1.below (alB (Below.refl _ _) (.cells #[.string ⟨#[]⟩, .int .i64 0, .string ⟨#[]⟩, .int .i64 0] 32))
          replace j2 := j2.below (alB (Below.refl _ _) (.cells #[.string ⟨#[]⟩, .int .i64 0, .string ⟨#[]⟩, .int .i64 0] 32))
          refine hK.out _ _ (HX.out _ b_8) (fun hHeld => ?_)
          clear hK K
          try simp only [Act.put, List.setIfInBounds_toArray, List.set_cons_zero, List.set_cons_succ]
          generalize y_2.alloc (.cells #[.string ⟨#[]⟩, .int .i64 0, .string ⟨#[]⟩, .int .i64 0] 32) = u at *
          generalize y_2.heap.size = Eb at *
          refine till_ready 6 rfl (by kernel_rfl) (fun K hK => ?_)
          go_simp
          (go_at_call 11; with_reducible refine (HTT.out _ (chainB B5.out b_8)).mono ?_; rintro e y_9 ⟨g3, rfl, j3, z_9⟩)
          have b_9 := chainB b_8 z_9
          have j1 := j1.below z_9
          have j2 := j2.below z_9
          have kE := kE.below z_9
          refine hK.out _ _ (HX.out _ b_9) (fun hHeld => ?_)
          clear hK K
          try simp only [Act.put, List.setIfInBounds_toArray, List.set_cons_zero, List.set_cons_succ]
          refine till_ready 7 rfl (by kernel_rfl) (fun K hK => ?_)
          go_simp
          (go_at_call 8; with_reducible refine (HSp.out _ g1 g2 g3 j1 j2 j3).mono ?_; rintro e y_10 ⟨rfl, z_10⟩)
          have b_10 := chainB b_9 z_10
          have j1 := j1.below z_10
          have j2 := j2.below z_10
          have j3 := j3.below z_10
          have kE := kE.below z_10
          refine hK.out _ _ (HX.out _ b_10) (fun hHeld => ?_)
          clear hK K
          try simp only [Act.put, List.setIfInBounds_toArray, List.set_cons_zero, List.set_cons_succ]
          have HP : Hid (Bxs ((((y_10.setCell ⟨Eb, 0, none⟩ (.string K0)).setCell ⟨Eb, 1, none⟩ (.int .i64 S0)).setCell ⟨Eb, 2, none⟩ (.string R0)).setCell ⟨Eb, 3, none⟩ (.int .i64 C0)) Eb 32 #[.string K0, .int .i64 S0, .string R0, .int .i64 C0] ∧ Below W5.heap.size W5 ((((y_10.setCell ⟨Eb, 0, none⟩ (.string K0)).setCell ⟨Eb, 1, none⟩ (.int .i64 S0)).setCell ⟨Eb, 2, none⟩ (.string R0)).setCell ⟨Eb, 3, none⟩ (.int .i64 C0))) := ⟨((((kE.set 0 _).set 1 _).set 2 _).set 3 _), ((((b_10.setCell (p := ⟨Eb, 0, none⟩) hEb _).setCell (p := ⟨Eb, 1, none⟩) hEb _).setCell (p := ⟨Eb, 2, none⟩) hEb _).setCell (p := ⟨Eb, 3, none⟩) hEb _)⟩
          have qc0 : y_10.cell? ⟨Eb, 0, none⟩ = some (.string ⟨#[]⟩) := kE.cell 0
          have qc1 : y_10.cell? ⟨Eb, 1, none⟩ = some (.int .i64 0) := kE.cell 1
          have qc2 : y_10.cell? ⟨Eb, 2, none⟩ = some (.string ⟨#[]⟩) := kE.cell 2
          have qc3 : y_10.cell? ⟨Eb, 3, none⟩ = some (.int .i64 0) := kE.cell 3
          have qf0 := kE.fr 0
          have qf1 := kE.fr 1
          have qf2 := kE.fr 2
          have qf3 := kE.fr 3
          refine till_last rfl (by kernel_rfl) (by kernel_rfl) (fun K hK => ?_)
          go_simp
          refine hK.out _ _ ?_
          clear hK K hHeld qc0 qf0 qc1 qf1 qc2 qf2 qc3 qf3
          go_wp2_with fail
          go_meet
          exact ⟨_, rfl, HP⟩
      · go_simp
        have kE : Bxs (y_1.alloc (.cells #[.string ⟨#[]⟩, .int .i64 0, .string ⟨#[]⟩, .int .i64 0] 32)) y_1.heap.size 32 #[.string ⟨#[]⟩, .int .i64 0, .string ⟨#[]⟩, .int .i64 0] := Bxs.new _ _ _
        have b_11 : Below W5.heap.size W5 (y_1.alloc (.cells #[.string ⟨#[]⟩, .int .i64 0, .string ⟨#[]⟩, .int .i64 0] 32)) := alB b_1 _
        have hEb : W5.heap.size ≤ y_1.heap.size := b_1.size
        refine hK.out _ _ (HX.out _ b_11) (fun hHeld => ?_)
        clear hK K
        try simp only [Act.put, List.setIfInBounds_toArray, List.set_cons_zero, List.set_cons_succ]
        generalize y_1.alloc (.cells #[.string ⟨#[]⟩, .int .i64 0, .string ⟨#[]⟩, .int .i64 0] 32) = u at *
        generalize y_1.heap.size = Eb at *
        refine till_ready 4 rfl (by kernel_rfl) (fun K hK => ?_)
        go_simp
        (go_at_call 10; with_reducible refine (HTS.out _ (chainB B5.out b_11)).mono ?_; rintro e y_12 ⟨g1, g2, rfl, j1, j2, z_12⟩)
        have b_12 := chainB b_11 z_12
        have kE := kE.below z_12
        refine hK.out _ _ (HX.out _ b_12) (fun hHeld => ?_)
        clear hK K
        try simp only [Act.put, List.setIfInBounds_toArray, List.set_cons_zero, List.set_cons_succ]
        refine till_ready 6 rfl (by kernel_rfl) (fun K hK => ?_)
        go_simp
        (go_at_call 11; with_reducible refine (HTT.out _ (chainB B5.out b_12)).mono ?_; rintro e y_13 ⟨g3, rfl, j3, z_13⟩)
        have b_13 := chainB b_12 z_13
        have j1 := j1.below z_13
        have j2 := j2.below z_13
        have kE := kE.below z_13
        refine hK.out _ _ (HX.out _ b_13) (fun hHeld => ?_)
        clear hK K
        try simp only [Act.put, List.setIfInBounds_toArray, List.set_cons_zero, List.set_cons_succ]
        refine till_ready 7 rfl (by kernel_rfl) (fun K hK => ?_)
        go_simp
        (go_at_call 8; with_reducible refine (HSp.out _ g1 g2 g3 j1 j2 j3).mono ?_; rintro e y_14 ⟨rfl, z_14⟩)
        have b_14 := chainB b_13 z_14
        have j1 := j1.below z_14
        have j2 := j2.below z_14
        have j3 := j3.below z_14
        have kE := kE.below z_14
        refine hK.out _ _ (HX.out _ b_14) (fun hHeld => ?_)
        clear hK K
        try simp only [Act.put, List.setIfInBounds_toArray, List.set_cons_zero, List.set_cons_succ]
        have HP : Hid (Bxs ((((y_14.setCell ⟨Eb, 0, none⟩ (.string K0)).setCell ⟨Eb, 1, none⟩ (.int .i64 S0)).setCell ⟨Eb, 2, none⟩ (.string R0)).setCell ⟨Eb, 3, none⟩ (.int .i64 C0)) Eb 32 #[.string K0, .int .i64 S0, .string R0, .int .i64 C0] ∧ Below W5.heap.size W5 ((((y_14.setCell ⟨Eb, 0, none⟩ (.string K0)).setCell ⟨Eb, 1, none⟩ (.int .i64 S0)).setCell ⟨Eb, 2, none⟩ (.string R0)).setCell ⟨Eb, 3, none⟩ (.int .i64 C0))) := ⟨((((kE.set 0 _).set 1 _).set 2 _).set 3 _), ((((b_14.setCell (p := ⟨Eb, 0, none⟩) hEb _).setCell (p := ⟨Eb, 1, none⟩) hEb _).setCell (p := ⟨Eb, 2, none⟩) hEb _).setCell (p := ⟨Eb, 3, none⟩) hEb _)⟩
        have qc0 : y_14.cell? ⟨Eb, 0, none⟩ = some (.string ⟨#[]⟩) := kE.cell 0
        have qc1 : y_14.cell? ⟨Eb, 1, none⟩ = some (.int .i64 0) := kE.cell 1
        have qc2 : y_14.cell? ⟨Eb, 2, none⟩ = some (.string ⟨#[]⟩) := kE.cell 2
        have qc3 : y_14.cell? ⟨Eb, 3, none⟩ = some (.int .i64 0) := kE.cell 3
        have qf0 := kE.fr 0
        have qf1 := kE.fr 1
        have qf2 := kE.fr 2
        have qf3 := kE.fr 3
        refine till_last rfl (by kernel_rfl) (by kernel_rfl) (fun K hK => ?_)
        go_simp
        refine hK.out _ _ ?_
        clear hK K hHeld qc0 qf0 qc1 qf1 qc2 qf2 qc3 qf3
        go_wp2_with fail
        go_meet
        exact ⟨_, rfl, HP⟩
    · go_simp
      have kE : Bxs (x0.alloc (.cells #[.string ⟨#[]⟩, .int .i64 0, .string ⟨#[]⟩, .int .i64 0] 32)) x0.heap.size 32 #[.string ⟨#[]⟩, .int .i64 0, .string ⟨#[]⟩, .int .i64 0] := Bxs.new _ _ _
      have b_15 : Below W5.heap.size W5 (x0.alloc (.cells #[.string ⟨#[]⟩, .int .i64 0, .string ⟨#[]⟩, .int .i64 0] 32)) := alB BR _
      have hEb : W5.heap.size ≤ x0.heap.size := BR.size
      refine hK.out _ _ (HX.out _ b_15) (fun hHeld => ?_)
      clear hK K
      try simp only [Act.put, List.setIfInBounds_toArray, List.set_cons_zero, List.set_cons_succ]
      generalize x0.alloc (.cells #[.string ⟨#[]⟩, .int .i64 0, .string ⟨#[]⟩, .int .i64 0] 32) = u at *
      generalize x0.heap.size = Eb at *
      refine till_ready 1 rfl (by kernel_rfl) (fun K hK => ?_)
      go_simp
      (go_at_call 9; with_reducible refine (HTA.out _).mono ?_; rintro e y_16 ⟨rfl, z_16⟩)
      have b_16 := chainB b_15 z_16
      have kE := kE.below z_16
      refine hK.out _ _ (HX.out _ b_16) (fun hHeld => ?_)
      clear hK K
      try simp only [Act.put, List.setIfInBounds_toArray, List.set_cons_zero, List.set_cons_succ]
      refine till_ready 4 rfl (by kernel_rfl) (fun K hK => ?_)
      go_simp
      (go_at_call 10; with_reducible refine (HTS.out _ (chainB B5.out b_16)).mono ?_; rintro e y_17 ⟨g1, g2, rfl, j1, j2, z_17⟩)
      have b_17 := chainB b_16 z_17
      have kE := kE.below z_17
      refine hK.out _ _ (HX.out _ b_17) (fun hHeld => ?_)
      clear hK K
      try simp only [Act.put, List.setIfInBounds_toArray, List.set_cons_zero, List.set_cons_succ]
      refine till_ready 6 rfl (by kernel_rfl) (fun K hK => ?_)
      go_simp
      (go_at_call 11; with_reducible refine (HTT.out _ (chainB B5.out b_17)).mono ?_; rintro e y_18 ⟨g3, rfl, j3, z_18⟩)
      have b_18 := chainB b_17 z_18
      have j1 := j1.below z_18
      have j2 := j2.below z_18
      have kE := kE.below z_18
      refine hK.out _ _ (HX.out _ b_18) (fun hHeld => ?_)
      clear hK K
      try simp only [Act.put, List.setIfInBounds_toArray, List.set_cons_zero, List.set_cons_succ]
      refine till_ready 7 rfl (by kernel_rfl) (fun K hK => ?_)
      go_simp
      (go_at_call 8; with_reducible refine (HSp.out _ g1 g2 g3 j1 j2 j3).mono ?_; rintro e y_19 ⟨rfl, z_19⟩)
      have b_19 := chainB b_18 z_19
      have j1 := j1.below z_19
      have j2 := j2.below z_19
      have j3 := j3.below z_19
      have kE := kE.below z_19
      refine hK.out _ _ (HX.out _ b_19) (fun hHeld => ?_)
      clear hK K
      try simp only [Act.put, List.setIfInBounds_toArray, List.set_cons_zero, List.set_cons_succ]
      have HP : Hid (Bxs ((((y_19.setCell ⟨Eb, 0, none⟩ (.string K0)).setCell ⟨Eb, 1, none⟩ (.int .i64 S0)).setCell ⟨Eb, 2, none⟩ (.string R0)).setCell ⟨Eb, 3, none⟩ (.int .i64 C0)) Eb 32 #[.string K0, .int .i64 S0, .string R0, .int .i64 C0] ∧ Below W5.heap.size W5 ((((y_19.setCell ⟨Eb, 0, none⟩ (.string K0)).setCell ⟨Eb, 1, none⟩ (.int .i64 S0)).setCell ⟨Eb, 2, none⟩ (.string R0)).setCell ⟨Eb, 3, none⟩ (.int .i64 C0))) := ⟨((((kE.set 0 _).set 1 _).set 2 _).set 3 _), ((((b_19.setCell (p := ⟨Eb, 0, none⟩) hEb _).setCell (p := ⟨Eb, 1, none⟩) hEb _).setCell (p := ⟨Eb, 2, none⟩) hEb _).setCell (p := ⟨Eb, 3, none⟩) hEb _)⟩
      have qc0 : y_19.cell? ⟨Eb, 0, none⟩ = some (.string ⟨#[]⟩) := kE.cell 0
      have qc1 : y_19.cell? ⟨Eb, 1, none⟩ = some (.int .i64 0) := kE.cell 1
      have qc2 : y_19.cell? ⟨Eb, 2, none⟩ = some (.string ⟨#[]⟩) := kE.cell 2
      have qc3 : y_19.cell? ⟨Eb, 3, none⟩ = some (.int .i64 0) := kE.cell 3
      have qf0 := kE.fr 0
      have qf1 := kE.fr 1
      have qf2 := kE.fr 2
      have qf3 := kE.fr 3
      refine till_last rfl (by kernel_rfl) (by kernel_rfl) (fun K hK => ?_)
      go_simp
      refine hK.out _ _ ?_
      clear hK K hHeld qc0 qf0 qc1 qf1 qc2 qf2 qc3 qf3
      go_wp2_with fail
      go_meet
      exact ⟨_, rfl, HP⟩
  case rest =>
  obtain ⟨E1, rfl, HC1⟩ := hcut
  rename World => W6
  clear BR d1
  have B6 : Hid (Below w.heap.size w W6) := chainB B5.out HC1.out.2
  obtain ⟨x0, x1, x2, x3, x4, x5⟩ := HX.out W6 HC1.out.2
  have hT := HTS.out W6 B6.out
  go_wp2_with fail
  with_reducible refine hT.mono ?_
  rintro e W7 ⟨g4, g5, rfl, j4, j5, z7⟩
  have al7 : Below W7.heap.size W7 (W7.alloc (.cells #[.int .i64 key, .slice (some ⟨g4, 0, none⟩) ss1.length ss1.length, .slice (some ⟨g5, 0, none⟩) ss2.length ss2.length] 35)) := (Below.refl _ _).alloc (Nat.le_refl _) _
  have b7 : Below W6.heap.size W6 (W7.alloc (.cells #[.int .i64 key, .slice (some ⟨g4, 0, none⟩) ss1.length ss1.length, .slice (some ⟨g5, 0, none⟩) ss2.length ss2.length] 35)) := alB z7 _
  have XS : Hid (Bxs (W7.alloc (.cells #[.int .i64 key, .slice (some ⟨g4, 0, none⟩) ss1.length ss1.length, .slice (some ⟨g5, 0, none⟩) ss2.length ss2.length] 35)) W7.heap.size 35 #[.int .i64 key, .slice (some ⟨g4, 0, none⟩) ss1.length ss1.length, .slice (some ⟨g5, 0, none⟩) ss2.length ss2.length]) := Bxs.new _ _ _
  have G4' : Hid (TxtAt (W7.alloc (.cells #[.int .i64 key, .slice (some ⟨g4, 0, none⟩) ss1.length ss1.length, .slice (some ⟨g5, 0, none⟩) ss2.length ss2.length] 35)) (some ⟨g4, 0, none⟩) ss1) := j4.below al7
  have G5' : Hid (TxtAt (W7.alloc (.cells #[.int .i64 key, .slice (some ⟨g4, 0, none⟩) ss1.length ss1.length, .slice (some ⟨g5, 0, none⟩) ss2.length ss2.length] 35)) (some ⟨g5, 0, none⟩) ss2) := j5.below al7
  have B8 : Hid (Below W6.heap.size W6 (W7.alloc (.cells #[.int .i64 key, .slice (some ⟨g4, 0, none⟩) ss1.length ss1.length, .slice (some ⟨g5, 0, none⟩) ss2.length ss2.length] 35))) := b7
  clear x0 x1 x2 x3 x4 x5 hT j4 j5 z7 al7 b7
  go_upto_region 15 with fail
  generalize W7.heap.size = E2 at *
  generalize W7.alloc (.cells #[.int .i64 key, .slice (some ⟨g4, 0, none⟩) ss1.length ss1.length, .slice (some ⟨g5, 0, none⟩) ss2.length ss2.length] 35) = W8 at *
  have hT := HTT.out W8 (chainB B6.out B8.out)
  go_wp2_with fail
  with_reducible refine hT.mono ?_
  rintro e W9 ⟨g6, rfl, j6, z9⟩
  have G4 : Hid (TxtAt W9 (some ⟨g4, 0, none⟩) ss1) := G4'.out.below z9
  have G5 : Hid (TxtAt W9 (some ⟨g5, 0, none⟩) ss2) := G5'.out.below z9
  have G6 : Hid (TxtAt W9 (some ⟨g6, 0, none⟩) ss) := j6
  have C9 : Hid (Below W6.heap.size W6 W9) := chainB B8.out z9
  have B9 : Hid (Below w.heap.size w W9) := chainB B6.out C9.out
  have HX9 : Hid (∀ x, Below W9.heap.size W9 x → (x.cell? ⟨w.heap.size, 0, none⟩ = some (.string k) ∧ x.cell? ⟨w.heap.size, 1, none⟩ = some (.int .i64 s) ∧ x.cell? ⟨w.heap.size, 2, none⟩ = some (.string r) ∧ x.cell? ⟨w.heap.size + 1, 0, none⟩ = some (.int .i64 key) ∧ x.cell? ⟨w.heap.size + 1, 1, none⟩ = some (.slice b0 ss1.length capb) ∧ x.cell? ⟨w.heap.size + 1, 2, none⟩ = some (.slice c0 ss2.length capc)) ∧ x.cell? ⟨E2, 0, none⟩ = some (.int .i64 key) ∧ x.cell? ⟨E2, 1, none⟩ = some (.slice (some ⟨g4, 0, none⟩) ss1.length ss1.length) ∧ x.cell? ⟨E2, 2, none⟩ = some (.slice (some ⟨g5, 0, none⟩) ss2.length ss2.length)) := fun x hb => ⟨HX.out x (chainB HC1.out.2 (chainB C9.out hb)), ((XS.out.below z9).below hb).cell 0, ((XS.out.below z9).below hb).cell 1, ((XS.out.below z9).below hb).cell 2⟩
  have X1 : Hid (Bxs W9 E1 32 #[.string K0, .int .i64 S0, .string R0, .int .i64 C0]) := HC1.out.1.below C9.out
  clear hT j6 z9 G4' G5' B8 XS
  have BR : Below W9.heap.size W9 W9.drew := (Below.refl _ _).drew
  have hrefl : Below W9.heap.size W9 W9 := Below.refl _ _
  go_upto_region 16 with fail
  go_cut [13] from 16 to 17 (fun s10 wx => ∃ Eb, s10 = .pointer (some ⟨Eb, 0, none⟩) ∧ Hid (Bxs wx Eb 32 #[.string K0, .int .i64 S0, .string R0, .int .i64 C0] ∧ Below W9.heap.size W9 wx))
  case first =>
    refine region_till (fun w' => (w'.cell? ⟨w.heap.size, 0, none⟩ = some (.string k) ∧ w'.cell? ⟨w.heap.size, 1, none⟩ = some (.int .i64 s) ∧ w'.cell? ⟨w.heap.size, 2, none⟩ = some (.string r) ∧ w'.cell? ⟨w.heap.size + 1, 0, none⟩ = some (.int .i64 key) ∧ w'.cell? ⟨w.heap.size + 1, 1, none⟩ = some (.slice b0 ss1.length capb) ∧ w'.cell? ⟨w.heap.size + 1, 2, none⟩ = some (.slice c0 ss2.length capc)) ∧ w'.cell? ⟨E2, 0, none⟩ = some (.int .i64 key) ∧ w'.cell? ⟨E2, 1, none⟩ = some (.slice (some ⟨g4, 0, none⟩) ss1.length ss1.length) ∧ w'.cell? ⟨E2, 2, none⟩ = some (.slice (some ⟨g5, 0, none⟩) ss2.length ss2.length)) 7 (by kernel_rfl) (HX9.out _ BR) (fun hHeld => ?_)
    generalize W9.drew = x0 at *
    refine till_take 0 (v := ?_) rfl (by kernel_rfl) (by kernel_rfl) (by kernel_rfl) (by kernel_rfl) (fun _ _ _ h => h) hHeld (Or.inl ⟨by rfl, ?_⟩) ?_
    rotate_left
    · (intro w hSw; (try dsimp only at hSw); go_simp; try with_reducible rfl)
    simp only [Act.put, List.setIfInBounds_toArray, List.set_cons_zero, List.set_cons_succ]
    refine till_take 2 (v := ?_) rfl (by kernel_rfl) (by kernel_rfl) (by kernel_rfl) (by kernel_rfl) (fun _ _ _ h => h) hHeld (Or.inl ⟨by rfl, ?_⟩) ?_
    rotate_left
    · (intro w hSw; (try dsimp only at hSw); go_simp; try with_reducible rfl)
    simp only [Act.put, List.setIfInBounds_toArray, List.set_cons_zero, List.set_cons_succ]
    refine till_take 3 (v := ?_) rfl (by kernel_rfl) (by kernel_rfl) (by kernel_rfl) (by kernel_rfl) (fun _ _ _ h => h) hHeld (Or.inl ⟨by rfl, ?_⟩) ?_
    rotate_left
    · (intro w hSw; (try dsimp only at hSw); go_simp; try with_reducible rfl)
    simp only [Act.put, List.setIfInBounds_toArray, List.set_cons_zero, List.set_cons_succ]
    refine till_take 4 (v := ?_) rfl (by kernel_rfl) (by kernel_rfl) (by kernel_rfl) (by kernel_rfl) (fun _ _ _ h => h) hHeld (Or.inl ⟨by rfl, ?_⟩) ?_
    rotate_left
    · (intro w hSw; (try dsimp only at hSw); go_simp; try with_reducible rfl)
    simp only [Act.put, List.setIfInBounds_toArray, List.set_cons_zero, List.set_cons_succ]
    refine till_ready2 1 6 rfl rfl (by kernel_rfl) (fun K hK => ?_) (fun K hK => ?_)
    · go_simp
      (go_at_call 9; with_reducible refine (HTA.out _).mono ?_; rintro e y_1 ⟨rfl, z_1⟩)
      have b_1 := chainB BR z_1
      refine hK.out _ _ (HX9.out _ b_1) (fun hHeld => ?_)
      clear hK K
      try simp only [Act.put, List.setIfInBounds_toArray, List.set_cons_zero, List.set_cons_succ]
      refine till_ready2 5 6 rfl rfl (by kernel_rfl) (fun K hK => ?_) (fun K hK => ?_)
      · go_simp
        (go_at_call 12; with_reducible refine (HIm.out _ g4 g5 g6 (chainB B9.out b_1) (G4.out.below (chainB hrefl b_1)) (G5.out.below (chainB hrefl b_1)) (G6.out.below (chainB hrefl b_1))).mono ?_; rintro e y_2 ⟨rfl, z_2⟩)
        have b_2 := chainB b_1 z_2
        refine hK.out _ _ (HX9.out _ b_2) (fun hHeld => ?_)
        clear hK K
        try simp only [Act.put, List.setIfInBounds_toArray, List.set_cons_zero, List.set_cons_succ]
        refine till_ready 6 rfl (by kernel_rfl) (fun K hK => ?_)
        go_simp
        have kE : Bxs (y_2.alloc (.cells #[.string ⟨#[]⟩, .int .i64 0, .string ⟨#[]⟩, .int .i64 0] 32)) y_2.heap.size 32 #[.string ⟨#[]⟩, .int .i64 0, .string ⟨#[]⟩, .int .i64 0] := Bxs.new _ _ _
        have b_3 : Below W9.heap.size W9 (y_2.alloc (.cells #[.string ⟨#[]⟩, .int .i64 0, .string ⟨#[]⟩, .int .i64 0] 32)) := alB b_2 _
        have hEb : W9.heap.size ≤ y_2.heap.size := b_2.size
        refine hK.out _ _ (HX9.out _ b_3) (fun hHeld => ?_)
        clear hK K
        try simp only [Act.put, List.setIfInBounds_toArray, List.set_cons_zero, List.set_cons_succ]
        generalize y_2.alloc (.cells #[.string ⟨#[]⟩, .int .i64 0, .string ⟨#[]⟩, .int .i64 0] 32) = u at *
        generalize y_2.heap.size = Eb at *
        have HP : Hid (Bxs ((((u.setCell ⟨Eb, 0, none⟩ (.string K0)).setCell ⟨Eb, 1, none⟩ (.int .i64 S0)).setCell ⟨Eb, 2, none⟩ (.string R0)).setCell ⟨Eb, 3, none⟩ (.int .i64 C0)) Eb 32 #[.string K0, .int .i64 S0, .string R0, .int .i64 C0] ∧ Below W9.heap.size W9 ((((u.setCell ⟨Eb, 0, none⟩ (.string K0)).setCell ⟨Eb, 1, none⟩ (.int .i64 S0)).setCell ⟨Eb, 2, none⟩ (.string R0)).setCell ⟨Eb, 3, none⟩ (.int .i64 C0))) := ⟨((((kE.set 0 _).set 1 _).set 2 _).set 3 _), ((((b_3.setCell (p := ⟨Eb, 0, none⟩) hEb _).setCell (p := ⟨Eb, 1, none⟩) hEb _).setCell (p := ⟨Eb, 2, none⟩) hEb _).setCell (p := ⟨Eb, 3, none⟩) hEb _)⟩
        have qc0 : u.cell? ⟨Eb, 0, none⟩ = some (.string ⟨#[]⟩) := kE.cell 0
        have qc1 : u.cell? ⟨Eb, 1, none⟩ = some (.int .i64 0) := kE.cell 1
        have qc2 : u.cell? ⟨Eb, 2, none⟩ = some (.string ⟨#[]⟩) := kE.cell 2
        have qc3 : u.cell? ⟨Eb, 3, none⟩ = some (.int .i64 0) := kE.cell 3
        have qf0 := kE.fr 0
        have qf1 := kE.fr 1
        have qf2 := kE.fr 2
        have qf3 := kE.fr 3
        refine till_last rfl (by kernel_rfl) (by kernel_rfl) (fun K hK => ?_)
        go_simp
        refine hK.out _ _ ?_
        clear hK K hHeld qc0 qf0 qc1 qf1 qc2 qf2 qc3 qf3
        go_wp2_with fail
        go_meet
        exact ⟨_, rfl, HP⟩
      · go_simp
        have kE : Bxs (y_1.alloc (.cells #[.string ⟨#[]⟩, .int .i64 0, .string ⟨#[]⟩, .int .i64 0] 32)) y_1.heap.size 32 #[.string ⟨#[]⟩, .int .i64 0, .string ⟨#[]⟩, .int .i64 0] := Bxs.new _ _ _
        have b_4 : Below W9.heap.size W9 (y_1.alloc (.cells #[.string ⟨#[]⟩, .int .i64 0, .string ⟨#[]⟩, .int .i64 0] 32)) := alB b_1 _
        have hEb : W9.heap.size ≤ y_1.heap.size := b_1.size
        refine hK.out _ _ (HX9.out _ b_4) (fun hHeld => ?_)
        clear hK K
        try simp only [Act.put, List.setIfInBounds_toArray, List.set_cons_zero, List.set_cons_succ]
        generalize y_1.alloc (.cells #[.string ⟨#[]⟩, .int .i64 0, .string ⟨#[]⟩, .int .i64 0] 32) = u at *
        generalize y_1.heap.size = Eb at *
        refine till_ready 5 rfl (by kernel_rfl) (fun K hK => ?_)
        go_simp
        (go_at_call 12; with_reducible refine (HIm.out _ g4 g5 g6 (chainB B9.out b_4) (G4.out.below (chainB hrefl b_4)) (G5.out.below (chainB hrefl b_4)) (G6.out.below (chainB hrefl b_4))).mono ?_; rintro e y_5 ⟨rfl, z_5⟩)
        have b_5 := chainB b_4 z_5
        have kE := kE.below z_5
        refine hK.out _ _ (HX9.out _ b_5) (fun hHeld => ?_)
        clear hK K
        try simp only [Act.put, List.setIfInBounds_toArray, List.set_cons_zero, List.set_cons_succ]
        have HP : Hid (Bxs ((((y_5.setCell ⟨Eb, 0, none⟩ (.string K0)).setCell ⟨Eb, 1, none⟩ (.int .i64 S0)).setCell ⟨Eb, 2, none⟩ (.string R0)).setCell ⟨Eb, 3, none⟩ (.int .i64 C0)) Eb 32 #[.string K0, .int .i64 S0, .string R0, .int .i64 C0] ∧ Below W9.heap.size W9 ((((y_5.setCell ⟨Eb, 0, none⟩ (.string K0)).setCell ⟨Eb, 1, none⟩ (.int .i64 S0)).setCell ⟨Eb, 2, none⟩ (.string R0)).setCell ⟨Eb, 3, none⟩ (.int .i64 C0))) := ⟨((((kE.set 0 _).set 1 _).set 2 _).set 3 _), ((((b_5.setCell (p := ⟨Eb, 0, none⟩) hEb _).setCell (p := ⟨Eb, 1, none⟩) hEb _).setCell (p := ⟨Eb, 2, none⟩) hEb _).setCell (p := ⟨Eb, 3, none⟩) hEb _)⟩
        have qc0 : y_5.cell? ⟨Eb, 0, none⟩ = some (.string ⟨#[]⟩) := kE.cell 0
        have qc1 : y_5.cell? ⟨Eb, 1, none⟩ = some (.int .i64 0) := kE.cell 1
        have qc2 : y_5.cell? ⟨Eb, 2, none⟩ = some (.string ⟨#[]⟩) := kE.cell 2
        have qc3 : y_5.cell? ⟨Eb, 3, none⟩ = some (.int .i64 0) := kE.cell 3
        have qf0 := kE.fr 0
        have qf1 := kE.fr 1
        have qf2 := kE.fr 2
        have qf3 := kE.fr 3
        refine till_last rfl (by kernel_rfl) (by kernel_rfl) (fun K hK => ?_)
        go_simp
        refine hK.out _ _ ?_
        clear hK K hHeld qc0 qf0 qc1 qf1 qc2 qf2 qc3 qf3
        go_wp2_with fail
        go_meet
        exact ⟨_, rfl, HP⟩
    · go_simp
      have kE : Bxs (x0.alloc (.cells #[.string ⟨#[]⟩, .int .i64 0, .string ⟨#[]⟩, .int .i64 0] 32)) x0.heap.size 32 #[.string ⟨#[]⟩, .int .i64 0, .string ⟨#[]⟩, .int .i64 0] := Bxs.new _ _ _
      have b_6 : Below W9.heap.size W9 (x0.alloc (.cells #[.string ⟨#[]⟩, .int .i64 0, .string ⟨#[]⟩, .int .i64 0] 32)) := alB BR _
      have hEb : W9.heap.size ≤ x0.heap.size := BR.size
      refine hK.out _ _ (HX9.out _ b_6) (fun hHeld => ?_)
      clear hK K
      try simp only [Act.put, List.setIfInBounds_toArray, List.set_cons_zero, List.set_cons_succ]
      generalize x0.alloc (.cells #[.string ⟨#[]⟩, .int .i64 0, .string ⟨#[]⟩, .int .i64 0] 32) = u at *
      generalize x0.heap.size = Eb at *
      refine till_ready 1 rfl (by kernel_rfl) (fun K hK => ?_)
      go_simp
      (go_at_call 9; with_reducible refine (HTA.out _).mono ?_; rintro e y_7 ⟨rfl, z_7⟩)
      have b_7 := chainB b_6 z_7
      have kE := kE.below z_7
      refine hK.out _ _ (HX9.out _ b_7) (fun hHeld => ?_)
      clear hK K
      try simp only [Act.put, List.setIfInBounds_toArray, List.set_cons_zero, List.set_cons_succ]
      refine till_ready 5 rfl (by kernel_rfl) (fun K hK => ?_)
      go_simp
      (go_at_call 12; with_reducible refine (HIm.out _ g4 g5 g6 (chainB B9.out b_7) (G4.out.below (chainB hrefl b_7)) (G5.out.below (chainB hrefl b_7)) (G6.out.below (chainB hrefl b_7))).mono ?_; rintro e y_8 ⟨rfl, z_8⟩)
      have b_8 := chainB b_7 z_8
      have kE := kE.below z_8
      refine hK.out _ _ (HX9.out _ b_8) (fun hHeld => ?_)
      clear hK K
      try simp only [Act.put, List.setIfInBounds_toArray, List.set_cons_zero, List.set_cons_succ]
      have HP : Hid (Bxs ((((y_8.setCell ⟨Eb, 0, none⟩ (.string K0)).setCell ⟨Eb, 1, none⟩ (.int .i64 S0)).setCell ⟨Eb, 2, none⟩ (.string R0)).setCell ⟨Eb, 3, none⟩ (.int .i64 C0)) Eb 32 #[.string K0, .int .i64 S0, .string R0, .int .i64 C0] ∧ Below W9.heap.size W9 ((((y_8.setCell ⟨Eb, 0, none⟩ (.string K0)).setCell ⟨Eb, 1, none⟩ (.int .i64 S0)).setCell ⟨Eb, 2, none⟩ (.string R0)).setCell ⟨Eb, 3, none⟩ (.int .i64 C0))) := ⟨((((kE.set 0 _).set 1 _).set 2 _).set 3 _), ((((b_8.setCell (p := ⟨Eb, 0, none⟩) hEb _).setCell (p := ⟨Eb, 1, none⟩) hEb _).setCell (p := ⟨Eb, 2, none⟩) hEb _).setCell (p := ⟨Eb, 3, none⟩) hEb _)⟩
      have qc0 : y_8.cell? ⟨Eb, 0, none⟩ = some (.string ⟨#[]⟩) := kE.cell 0
      have qc1 : y_8.cell? ⟨Eb, 1, none⟩ = some (.int .i64 0) := kE.cell 1
      have qc2 : y_8.cell? ⟨Eb, 2, none⟩ = some (.string ⟨#[]⟩) := kE.cell 2
      have qc3 : y_8.cell? ⟨Eb, 3, none⟩ = some (.int .i64 0) := kE.cell 3
      have qf0 := kE.fr 0
      have qf1 := kE.fr 1
      have qf2 := kE.fr 2
      have qf3 := kE.fr 3
      refine till_last rfl (by kernel_rfl) (by kernel_rfl) (fun K hK => ?_)
      go_simp
      refine hK.out _ _ ?_
      clear hK K hHeld qc0 qf0 qc1 qf1 qc2 qf2 qc3 qf3
      go_wp2_with fail
      go_meet
      exact ⟨_, rfl, HP⟩
  case rest =>
  obtain ⟨E3, rfl, HC3⟩ := hcut
  rename World => W10
  clear BR hrefl
  obtain ⟨e0, e1, e2, e3⟩ := HC3.out.1.four
  obtain ⟨f0, f1, f2, f3⟩ := (X1.out.below HC3.out.2).four
  have hQ := HQA.out K0 S0 R0 C0 W10
  go_wp2_with fail
  with_reducible refine hQ.mono ?_
  rintro e W11 ⟨rfl, z11⟩
  have B11 : Hid (Below W9.heap.size W9 W11) := chainB HC3.out.2 z11
  clear e0 e1 e2 e3 f0 f1 f2 f3 hQ z11
  have BR : Hid (Below W9.heap.size W9 W11.drew) := B11.out.drew
  go_upto_region 19 with fail
  go_region_held3 (fun w' => (w'.cell? ⟨w.heap.size, 0, none⟩ = some (.string k) ∧ w'.cell? ⟨w.heap.size, 1, none⟩ = some (.int .i64 s) ∧ w'.cell? ⟨w.heap.size, 2, none⟩ = some (.string r) ∧ w'.cell? ⟨w.heap.size + 1, 0, none⟩ = some (.int .i64 key) ∧ w'.cell? ⟨w.heap.size + 1, 1, none⟩ = some (.slice b0 ss1.length capb) ∧ w'.cell? ⟨w.heap.size + 1, 2, none⟩ = some (.slice c0 ss2.length capc)) ∧ w'.cell? ⟨E2, 0, none⟩ = some (.int .i64 key) ∧ w'.cell? ⟨E2, 1, none⟩ = some (.slice (some ⟨g4, 0, none⟩) ss1.length ss1.length) ∧ w'.cell? ⟨E2, 2, none⟩ = some (.slice (some ⟨g5, 0, none⟩) ss2.length ss2.length)) ((first | exact HX9.out _ BR.out | exact HX9.out _ p1 | exact HX9.out _ p2)) (first
    | (go_at_call 10; with_reducible refine (HTS.out _ (chainB B9.out BR.out)).mono ?_; rintro e u1 ⟨g7, g8, rfl, j7, j8, q1⟩; have p1 : Below W9.heap.size W9 u1 := chainB BR.out q1)
    | (go_at_call 14; with_reducible refine (HQS.out _ g4 g5 g7 g8 (G4.out.below p1) (G5.out.below p1) j7 j8).mono ?_; rintro e u2 ⟨rfl, q2⟩; have p2 : Below W9.heap.size W9 u2 := chainB p1 q2))
  all_goals
    have B12 : Hid (Below W9.heap.size W9 u2) := p2
    clear p1 p2 q1 q2 j7 j8
    have hT := HTT.out u2 (chainB B9.out B12.out)
    go_wp2_with fail
    with_reducible refine hT.mono ?_
    rintro e W13 ⟨g9, rfl, j9, z13⟩
    have hQ := HQ.out W13 g6 g9 (G6.out.below (chainB B12.out z13)) j9
    have B13 : Hid (Below W9.heap.size W9 W13) := chainB B12.out z13
    clear hT j9 z13
    go_wp2_with fail
    with_reducible refine hQ.mono ?_
    rintro e W14 ⟨rfl, z14⟩
    go_wp2_with fail
    go_ret
    exact ⟨rfl, chainB B9.out (chainB B13.out z14)⟩

theorem contract (H : Type) (enc : TypeId × Value → H) (W : World) (base : Nat) (args : Array Value) (ds gs : List (DataW H)) (before : List MemPlace)
    (hval : ∀ (j : Nat) t v, Tryd.f3.params[j]? = some t → args[j]? = some v → Value.okWide Tryd.prog W .any base t v)
    (hW : DataW.Whole enc Tryd.prog Tryd.f3.params.toList Rows.fnExactHearHeadSpec.vars false W args.toList ds gs before) (hL : laidMetH Tryd.prog Rows.fnExactHearHeadRow.laid W) :
    Calls Tryd.prog 3 args W fun e W' => ∃ v, e = .returned v ∧ Rows.fnExactHearHeadSpec.post enc Tryd.prog Tryd.f3 false true false false W args v W' := by
  have hW' := hW
  obtain ⟨p, q, hA0, hV, rfl, hfz, hnd⟩ := hW
  have hA : DataW.TrodAll enc Tryd.prog W 0 (fun _ => true) true Tryd.f3.params.toList args.toList ds p := hA0
  rw [Tryd.params3] at hA hval
  obtain ⟨v0, vs0, d0, ds0, p0, q0, hargs, rfl, rfl, h0, r0⟩ := trodAll_cons hA
  obtain ⟨v1, vs1, d1, ds1, p1, q1, rfl, rfl, rfl, h1, r1⟩ := trodAll_cons r0
  obtain ⟨v2, vs2, d2, ds2, p2, q2, rfl, rfl, rfl, h2, r2⟩ := trodAll_cons r1
  obtain ⟨v3, vs3, d3, ds3, p3, q3, rfl, rfl, rfl, h3, r3⟩ := trodAll_cons r2
  obtain ⟨rfl, rfl, rfl⟩ := trodAll_nil r3
  obtain rfl : args = #[v0, v1, v2, v3] := by cases args; simp_all
  have hV2 : DataW.TrodVars enc Tryd.prog W (fun _ => true) ["loop.example/g00633/impl.firstState", "loop.example/g00633/impl.roundNums"] gs q := hV
  obtain ⟨_, _, _, _, e0, _, _, _, _, _, e1, _, rfl, _⟩ := trodVars_two hV2
  have k0 := h0
  have lt0 : ∀ x ∈ p0, x.block < W.heap.size := by obtain ⟨m, hm⟩ := k0; exact DataW.trod_lt m _ _ _ hm
  obtain ⟨ak0, as0, ar0, rfl, zz0, ww0⟩ := open_auditor (hval 0 23 v0 rfl rfl) h0
  have w0 := And.intro zz0 ww0
  obtain ⟨a1, rfl, rfl, rfl, w1⟩ := open_string Tryd.underlying9 (hval 1 9 v1 rfl rfl) h1
  have k2 := h2
  have lt2 : ∀ x ∈ p2, x.block < W.heap.size := by obtain ⟨m, hm⟩ := k2; exact DataW.trod_lt m _ _ _ hm
  obtain ⟨n2, a2, len2, cap2, b2, lenb2, capb2, rfl, z2, ⟨ss2, wa2⟩, ⟨ts2, wb2⟩⟩ := open_sig (hval 2 26 v2 rfl rfl) h2
  have w2 := And.intro wa2 wb2
  obtain ⟨a3, len3, cap3, rfl⟩ := okWide_slice Tryd.underlying24 (hval 3 24 v3 rfl rfl)
  have k3 := h3
  have lt3 : ∀ x ∈ p3, x.block < W.heap.size := by obtain ⟨m, hm⟩ := k3; exact DataW.trod_lt m _ _ _ hm
  obtain ⟨ss3, w3⟩ : ∃ ss, IsTexts W a3 len3 cap3 ss := by
    obtain ⟨fuel, hf⟩ := h3
    exact texts_of hf
  clear hA0
  have hT : Tabs W := tabs_of hL
  refine (walk ak0 as0 ar0 a1 n2 a2 len2 cap2 ss2 b2 lenb2 capb2 ts2 z2 a3 len3 cap3 ss3 W w0 w1 w2 w3 hT).mono fun e W' ⟨he, hg⟩ => ?_
  subst he
  exact ⟨_, rfl, _, _, _, [], _, _, hW', (trodAll_cons_mk (shut_bool Tryd.underlying4 _) trodAll_mk0), (trodAll_cons_mk (Below.trod laidOut (by kernel_rfl) (of_decide_eq_true (by kernel_rfl)) k0 hg lt0) (trodAll_cons_mk (shut_string Tryd.underlying9 w1) (trodAll_cons_mk (Below.trod laidOut (by kernel_rfl) (of_decide_eq_true (by kernel_rfl)) k2 hg lt2) (trodAll_cons_mk (Below.trod laidOut (by kernel_rfl) (of_decide_eq_true (by kernel_rfl)) k3 hg lt3) trodAll_mk0)))), Below.trodVars laidOut hg (by kernel_rfl) hV, hg.frame _, fun h => by cases h⟩

/-- The variables' blocks as the initialisers leave them, for the witness. -/
def setTab (zs : List Int) : Obj → Obj
  | .cells _ t frozen => .cells (zs.map (Value.int .u32)).toArray t frozen
  | o => o
noncomputable def wit (os : Os) : World := { World.holding Tryd.prog os ⟨#[], #[], []⟩ with heap := ((World.holding Tryd.prog os ⟨#[], #[], []⟩).heap.modify 0 (setTab startN)).modify 1 (setTab keysN) }

theorem laid_met (os : Os) : laidMetH Tryd.prog Rows.fnExactHearHeadRow.laid ((wit os).forCall (fun _ _ => 0) ⟨#[], #[.agg #[.string ByteArray.empty, .int .i64 0, .string ByteArray.empty], .string ByteArray.empty, .agg #[.int .i64 0, .slice none 0 0, .slice none 0 0], .slice none 0 0], []⟩).memory :=
  laidMetH_of_parts (laidMet_of_run' 8 (by kernel_rfl) (by kernel_rfl)) (by kernel_rfl)
theorem reads (os : Os) {H : Type} (enc : TypeId × Value → H) : ∃ places, DataW.whole enc Tryd.prog ((wit os).forCall (fun _ _ => 0) ⟨#[], #[.agg #[.string ByteArray.empty, .int .i64 0, .string ByteArray.empty], .string ByteArray.empty, .agg #[.int .i64 0, .slice none 0 0, .slice none 0 0], .slice none 0 0], []⟩).memory Tryd.f3.params.toList Rows.fnExactHearHeadSpec.vars false #[Value.agg #[.string ByteArray.empty, .int .i64 0, .string ByteArray.empty], Value.string ByteArray.empty, Value.agg #[.int .i64 0, .slice none 0 0, .slice none 0 0], Value.slice none 0 0].toList 8 = some ([.agg [.lit (.string []), .lit (.int .i64 0), .lit (.string [])], .lit (.string []), .agg [.lit (.int .i64 0), .nil, .nil], .nil], [Rows.laid_loop_example_g00633_impl_firstState, Rows.laid_loop_example_g00633_impl_roundNums], places) := by
  have h : (DataW.whole enc Tryd.prog ((wit os).forCall (fun _ _ => 0) ⟨#[], #[.agg #[.string ByteArray.empty, .int .i64 0, .string ByteArray.empty], .string ByteArray.empty, .agg #[.int .i64 0, .slice none 0 0, .slice none 0 0], .slice none 0 0], []⟩).memory Tryd.f3.params.toList Rows.fnExactHearHeadSpec.vars false #[Value.agg #[.string ByteArray.empty, .int .i64 0, .string ByteArray.empty], Value.string ByteArray.empty, Value.agg #[.int .i64 0, .slice none 0 0, .slice none 0 0], Value.slice none 0 0].toList 8).map (fun x => (x.1, x.2.1)) = some ([.agg [.lit (.string []), .lit (.int .i64 0), .lit (.string [])], .lit (.string []), .agg [.lit (.int .i64 0), .nil, .nil], .nil], [Rows.laid_loop_example_g00633_impl_firstState, Rows.laid_loop_example_g00633_impl_roundNums]) := by kernel_rfl
  obtain ⟨⟨a, b, c⟩, hx, hy⟩ := Option.map_eq_some_iff.1 h
  cases hy
  exact ⟨c, hx⟩

set_option maxRecDepth 100000 in
theorem lifted (os : Os) (started : os.Started) (H : Type) (enc : TypeId × Value → H) (F : Stop.Interp) :
    ReturnsInHanded {} Tryd.checked os 3 .any ((OpenSpec.ofChange Rows.fnExactHearHeadSpec).preRow enc Tryd.prog Tryd.f3 Rows.fnExactHearHeadRow.domain false Rows.fnExactHearHeadRow.laid) (((OpenSpec.ofChange Rows.fnExactHearHeadSpec).at F).post enc Tryd.prog Tryd.f3 false true false false) := by
  obtain ⟨places, hx⟩ := reads os enc
  refine returnsInHanded_of_row (C := Tryd.checked) (s := OpenSpec.ofChange Rows.fnExactHearHeadSpec) own started (by kernel_rfl) Tryd.func3
    (witness_row_at (enc := enc) (C := Tryd.checked) false (wit os) #[.agg #[.string ByteArray.empty, .int .i64 0, .string ByteArray.empty], .string ByteArray.empty, .agg #[.int .i64 0, .slice none 0 0, .slice none 0 0], .slice none 0 0] rfl (by kernel_rfl) (by kernel_rfl) (by kernel_rfl)
      (OpenSpec.preRow_of_cond 8 hx (by kernel_rfl) (fun k hk => by cases hk) (by kernel_rfl) (laid_met os))) ?_
  intro W base args ds gs before hval hW _ _ _ hL _ _
  exact contract H enc W base args ds gs before hval hW hL

theorem said : Rows.FnExactHearHeadSaid :=
  OpenClaim.holds_of_cond 3 Tryd.f3 rfl rfl rfl rfl rfl rfl rfl ⟨rfl, rfl, rfl, rfl, rfl⟩ rfl rfl rfl rfl rfl (by kernel_rfl) Tryd.func3 (by kernel_rfl)
    (of_decide_eq_true (by kernel_rfl)) (by unfold Func.isWrapper; first | (rw [if_pos (by decide +kernel)]; kernel_rfl) | (rw [if_neg (by decide +kernel)]; exact ⟨rfl, rfl⟩))
    (fun os started H enc _ F => by rw [OpenClaim.pre_eq_preRow]; exact lifted os started H enc F)

theorem plain (f : FuncId) (fn : Func) (hf : Tryd.pinned.checked.prog.funcNamed "loop.example/g00633/laws.FnExactHearHead" = some f) (hfn : Tryd.pinned.checked.prog.funcs[f]? = some fn) :
    Rows.fnExactHearHeadCard.stood.looks = Tryd.pinned.checked.prog.looks [] ∧ ∀ (j : Nat) t, fn.params[j]? = some t → Tryd.pinned.checked.prog.wantsStandIn t = false := by
  obtain rfl : f = 3 := Option.some.inj ((show Tryd.prog.funcNamed "loop.example/g00633/laws.FnExactHearHead" = some 3 by kernel_rfl).symm.trans hf) |>.symm
  obtain rfl : fn = Tryd.f3 := (Option.some.inj (Tryd.func3.symm.trans hfn)).symm
  refine ⟨by kernel_rfl, fun j t ht => ?_⟩
  rw [Tryd.params3] at ht
  have hm := Array.mem_of_getElem? ht
  have hl : t ∈ ([23, 9, 26, 24] : List TypeId) := by simpa using hm
  simp only [List.mem_cons, List.not_mem_nil, or_false] at hl
  rcases hl with rfl | rfl | rfl | rfl
  · exact (show Tryd.prog.wantsStandIn 23 = false by kernel_rfl)
  · exact (show Tryd.prog.wantsStandIn 9 = false by kernel_rfl)
  · exact (show Tryd.prog.wantsStandIn 26 = false by kernel_rfl)
  · exact (show Tryd.prog.wantsStandIn 24 = false by kernel_rfl)

theorem proved : Rows.FnExactHearHeadCardSaid :=
  Claim7.holds_tied_plain_at .later [] _ _ _ _ said (fun _ h => by cases h) (by kernel_rfl) (fun _ h => by cases h) fnExactHearHead_row_tie rfl ⟨rfl, rfl⟩ (by kernel_rfl) rfl plain (by kernel_rfl)
#print axioms proved
end Go.Proofs.YtfdihkgkiiekcaaDoor.fnExactHearHead
