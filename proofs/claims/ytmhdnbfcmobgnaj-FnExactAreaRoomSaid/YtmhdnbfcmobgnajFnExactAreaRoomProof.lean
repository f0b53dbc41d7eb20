/-
  For every disk the law FnExactAreaRoom returns true: the program's AreaRoom answers as the specification's, and writes into no argument.
  Conditions: none of mine; the form's own reach. The statement speaks of the pruned copy of the project that the seat names.
-/
import Derived.Test.YtmhdnbfcmobgnajRows
import Derived.Test.YtmhdnbfcmobgnajImplAA
import Derived.Test.YtmhdnbfcmobgnajAreaA
import Derived.Test.YtmhdnbfcmobgnajDskMath
import Derived.Test.YtmhdnbfcmobgnajDskR
import Derived.Test.YtmhdnbfcmobgnajLawD
import Derived.WalkKit
import Derived.ProofKit
import Derived.OpenShut
import Derived.ShutString
import Derived.ChangeOld
import Derived.Below
import Derived.Deep.Strs
import Derived.Deep.SlicePairs
import Derived.Deep.RegionWith
import Derived.Deep.Cut
import Derived.Deep.CutRange
import Derived.Handy
import Derived.WalkSpells
namespace Go.Proofs.Ytmhdnbfcmobgnaj.fnExactAreaRoom
open Go.ChangeShapes Go.WideShapes Go.ChangeAt Go.RowKit
open Go.ChangeMaps (open_string shut_string)
set_option linter.unusedVariables false

theorem own : ownKnob Try.prog.godebug = none := by kernel_rfl
theorem laidOut : laidOutB Try.prog = true := by kernel_rfl

/-- What the walk is told of a slice of texts that came in. -/
def IsTexts (w : World) (a : Option Addr) (len cap : Nat) (ss : List ByteArray) : Prop :=
  ss.length = len ∧ TxtAt w a ss ∧ len ≤ cap ∧ cap ≤ maxLen ∧ ∀ x ∈ ss, x.size ≤ maxLen
theorem texts_of {H : Type} {enc : TypeId × Value → H} {W : World} {base : Nat} {fuel : Nat} {x : DataW H × List MemPlace} {a : Option Addr} {len cap : Nat}
    (h : DataW.trod enc Try.prog W base (fun _ => true) true fuel 22 [.slice a len cap] = some x) : ∃ ss, IsTexts W a len cap ss := by
  rcases Go.Deep.open_strs Try.underlying22 Try.underlying9 (by kernel_rfl) h with ⟨hcs, _⟩ | ⟨ad, l, c, m, Sx, hcs, _, hl, hm, hmm, _, hx⟩
  · simp at hcs
    obtain ⟨rfl, rfl, rfl⟩ := hcs
    exact ⟨[], rfl, TxtAt.nil _ _, Nat.le_refl _, by unfold maxLen; omega, fun x hx => by cases hx⟩
  · simp at hcs
    obtain ⟨rfl, rfl, rfl⟩ := hcs
    rw [if_pos rfl] at hmm
    subst hmm
    refine ⟨(List.range len).map Sx, by simp, ?_, hl, hm, ?_⟩
    · intro i hi
      have hi2 : i < len := by simpa using hi
      obtain ⟨b, off, spot⟩ := ad
      have hc := (hx i (by omega)).1
      have hspot : spot = none := by simpa [Addr.add] using World.cell?_spot (hx 0 (by omega)).1
      subst hspot
      have hadd : (⟨b, off, none⟩ : Addr).add i = ⟨b, off + i, none⟩ := by unfold Addr.add; split <;> simp_all
      rw [hadd] at hc
      exact ⟨b, off, rfl, World.block_lt_of_cell? W _ hc, by rw [hc]; simp⟩
    · intro x hxm
      obtain ⟨i, hi, rfl⟩ := List.mem_map.1 hxm
      exact (hx i (by have := List.mem_range.1 hi; omega)).2

/-- What the walk is told of a slice of pendings that came in. -/
def IsPends (w : World) (a : Option Addr) (len cap : Nat) (ps : List Pnd) : Prop :=
  ps.length = len ∧ PndAt w a ps ∧ len ≤ cap ∧ cap ≤ maxLen ∧ ∀ x ∈ ps, x.2.size ≤ maxLen
theorem pends_of {H : Type} {enc : TypeId × Value → H} {W : World} {base : Nat} {fuel : Nat} {x : DataW H × List MemPlace} {c0 : Value}
    (h : DataW.trod enc Try.prog W base (fun _ => true) true fuel 23 [c0] = some x) : ∃ a len cap, c0 = .slice a len cap ∧ ∃ ps, IsPends W a len cap ps := by
  rcases Go.Deep.open_slice_pairs Try.underlying23 Try.underlying78 (by kernel_rfl) (by kernel_rfl) (by kernel_rfl) (by kernel_rfl) (by kernel_rfl) h with ⟨hcs, _⟩ | ⟨ad, l, c, m, k, V0, V1, D0, D1, P0, P1, hcs, _, hl, hm, hmm, _, hx⟩
  · simp at hcs
    exact ⟨_, _, _, hcs, [], rfl, PndAt.nil _ _, Nat.le_refl _, by unfold maxLen; omega, fun x hx => by cases hx⟩
  · simp at hcs
    refine ⟨_, _, _, hcs, ?_⟩
    rw [if_pos rfl] at hmm
    subst hmm
    have hall : ∀ i, i < m → ∃ q : Pnd, V0 i = .int .i64 q.1 ∧ V1 i = .string q.2 ∧ q.2.size ≤ maxLen := by
      intro i hi
      obtain ⟨_, _, h3, h4⟩ := hx i hi
      obtain ⟨n, e0, _, _⟩ := DataW.trod_int Try.underlying2 h3
      obtain ⟨s, e1, _, hz⟩ := DataW.trod_string Try.underlying9 h4
      simp at e0 e1
      exact ⟨(n, s), e0, e1, hz⟩
    let f : Nat → Pnd := fun i => if h : i < m then Classical.choose (hall i h) else (0, ByteArray.empty)
    have hf : ∀ i, i < m → V0 i = .int .i64 (f i).1 ∧ V1 i = .string (f i).2 ∧ (f i).2.size ≤ maxLen := by
      intro i hi
      have := Classical.choose_spec (hall i hi)
      simp only [f, hi, dif_pos]
      exact this
    refine ⟨(List.range l).map f, by simp, ?_, hl, hm, ?_⟩
    · intro i hi
      have hi2 : i < l := by simpa using hi
      obtain ⟨b, off, spot⟩ := ad
      obtain ⟨h1, h2, _, _⟩ := hx i (by omega)
      have hspot : spot = none := by simpa [Addr.add] using World.cell?_spot (hx 0 (by omega)).1
      subst hspot
      have hadd : ∀ j, (⟨b, off, none⟩ : Addr).add j = ⟨b, off + j, none⟩ := by intro j; unfold Addr.add; split <;> simp_all
      rw [hadd] at h1 h2
      obtain ⟨f0, f1, _⟩ := hf i (by omega)
      refine ⟨b, off, rfl, World.block_lt_of_cell? W _ h1, ?_, ?_⟩
      · rw [h1, f0]; simp
      · rw [Nat.add_assoc, h2, f1]; simp
    · intro x hxm
      obtain ⟨i, hi, rfl⟩ := List.mem_map.1 hxm
      exact (hf i (by have := List.mem_range.1 hi; omega)).2.2
theorem open_disk {H : Type} {enc : TypeId × Value → H} {W : World} {base : Nat} {v : Value} {d : DataW H} {qs : List MemPlace} (hval : Value.okWide Try.prog W .any base 25 v)
    (h : DataW.Trod enc Try.prog W 0 (fun _ => true) true 25 v d qs) : ∃ a1 len1 cap1 a2 len2 cap2, v = .agg #[.slice a1 len1 cap1, .slice a2 len2 cap2] ∧ (∃ ss, IsTexts W a1 len1 cap1 ss) ∧ ∃ ps, IsPends W a2 len2 cap2 ps := by
  obtain ⟨cs, rfl, hsz⟩ := okWide_struct Try.underlying25 hval
  have h2 : cs.size = 2 := hsz.trans (by kernel_rfl)
  obtain ⟨fuel, hf⟩ := h
  obtain ⟨y0, y1, m, _, _, ht0, ht1⟩ := trod_struct2 Try.underlying25 hf
  obtain ⟨c0, c1, rfl⟩ : ∃ c0 c1, cs = #[c0, c1] := by
    match cs, h2 with
    | ⟨[c0, c1]⟩, _ => exact ⟨c0, c1, rfl⟩
  have e0 : Try.prog.cellsOf 22 = 1 := by kernel_rfl
  have e1 : Try.prog.cellsOf 23 = 1 := by kernel_rfl
  simp only [Value.cells, e0, e1, List.drop_zero, List.take_succ_cons, List.take_zero, List.drop_succ_cons] at ht0 ht1
  obtain ⟨a2, l2, k2, rfl, wp⟩ := pends_of ht1
  rcases Go.Deep.open_strs Try.underlying22 Try.underlying9 (by kernel_rfl) ht0 with ⟨hcs, _⟩ | ⟨ad, l, c, mm, Sx, hcs, _⟩
  · simp at hcs
    subst hcs
    exact ⟨_, _, _, a2, l2, k2, rfl, texts_of ht0, wp⟩
  · simp at hcs
    subst hcs
    exact ⟨_, _, _, a2, l2, k2, rfl, texts_of ht0, wp⟩

set_option maxRecDepth 20000 in
set_option maxHeartbeats 4000000 in
theorem walk (a0 : Option Addr) (len0 cap0 : Nat) (ss : List ByteArray) (b0 : Option Addr) (lenb capb : Nat) (ps : List Pnd) (w : World) (w0 : IsTexts w a0 len0 cap0 ss ∧ IsPends w b0 lenb capb ps) :
    Calls Try.prog 6 #[.agg #[.slice a0 len0 cap0, .slice b0 lenb capb]] w fun e w' => e = .returned (.bool true) ∧ Below w.heap.size w w' := by
  obtain ⟨⟨rfl, hp, hcap, hm, hsz⟩, ⟨rfl, hq, hcap2, hm2, hsz2⟩⟩ := w0
  have P1 : Hid (TxtAt w a0 ss) := hp
  have P2 : Hid (PndAt w b0 ps) := hq
  have Z1 : Hid (∀ x ∈ ss, x.size ≤ maxLen) := hsz
  have Z2 : Hid (∀ x ∈ ps, x.2.size ≤ maxLen) := hsz2
  clear hp hq hsz hsz2
  unfold maxLen at hm hm2
  obtain ⟨W1, hW1⟩ : ∃ W1, W1 = w.alloc (.cells #[.slice a0 ss.length cap0, .slice b0 ps.length capb] 25) := ⟨_, rfl⟩
  have HW1 : Hid (W1 = w.alloc (.cells #[.slice a0 ss.length cap0, .slice b0 ps.length capb] 25)) := hW1
  have b1 : Below w.heap.size w W1 := by rw [hW1]; exact (Below.refl _ _).alloc (Nat.le_refl _) _
  have A1 : Hid (Bxs W1 w.heap.size 25 #[.slice a0 ss.length cap0, .slice b0 ps.length capb]) := by rw [hW1]; exact Bxs.new _ _ _
  have B1 : Hid (Below w.heap.size w W1) := b1
  clear hW1 b1
  go_enter Try.func6, Try.ntmps6
  go_wp2_with fail
  rw [← HW1.out]
  refine (szDisk_any a0 b0 cap0 capb ss ps W1 (P1.out.below B1.out) (P2.out.below B1.out) (by omega) (by omega) hcap hcap2 (fun x hx => by have := Z1.out x hx; unfold maxLen at this; exact this) (fun x hx => by have := Z2.out x hx; unfold maxLen at this; exact this)).mono ?_
  rintro e w2 ⟨⟨r, rfl, hr⟩, b2⟩
  have A2 : Hid (Bxs w2 w.heap.size 25 #[.slice a0 ss.length cap0, .slice b0 ps.length capb]) := A1.out.below b2
  have B2 := chainB B1.out b2
  rcases hr with rfl | ⟨hr0, hr1, ⟨l1, x1⟩, ⟨l2, x2⟩⟩
  · go_wp2_with fail
    go_ret
    exact ⟨rfl, B2⟩
  have dr : decide (r < 0) = false := decide_eq_false (by omega)
  clear A1 b2 x1 x2 Z1 Z2
  have y0 : w2.cell? ⟨w.heap.size, 0, none⟩ = some (.slice a0 ss.length cap0) := A2.out.cell 0
  have y1 : w2.cell? ⟨w.heap.size, 1, none⟩ = some (.slice b0 ps.length capb) := A2.out.cell 1
  go_wp2_with fail
  refine (toDisk_any a0 b0 cap0 capb ss ps w2 (P1.out.below B2) (P2.out.below B2) l1 l2 hcap hcap2).mono ?_
  rintro e w3 ⟨g1, g2, hg1, hg2, rfl, k1, k2, b3⟩
  have A3 : Hid (Bxs w3 w.heap.size 25 #[.slice a0 ss.length cap0, .slice b0 ps.length capb]) := A2.out.below b3
  have B3' := chainB B2 b3
  have hS := specAreaRoom_any (some ⟨g1, 0, none⟩) ss.length ss (some ⟨g2, 0, none⟩) ps.length ps w3 k1.txt k2.pnd l1 l2 (Nat.le_refl _) (Nat.le_refl _)
  have hI := fun x q1 c1 q2 c2 h1 h2 m1 m2 => implAreaRoom_any q1 c1 ss q2 c2 ps x h1 h2 l1 l2 m1 m2
  generalize roomB ss ps = V at *
  clear y0 y1 A2 b3 k1 k2
  go_wp2_with fail
  refine hS.mono ?_
  rintro e w4 ⟨rfl, b4⟩
  have A4 : Hid (Bxs w4 w.heap.size 25 #[.slice a0 ss.length cap0, .slice b0 ps.length capb]) := A3.out.below b4
  have B4 := chainB B3' b4
  have y0 : w4.cell? ⟨w.heap.size, 0, none⟩ = some (.slice a0 ss.length cap0) := A4.out.cell 0
  have y1 : w4.cell? ⟨w.heap.size, 1, none⟩ = some (.slice b0 ps.length capb) := A4.out.cell 1
  clear hS b4 A3
  go_wp2_with fail
  refine (toDisk_any a0 b0 cap0 capb ss ps w4 (P1.out.below B4) (P2.out.below B4) l1 l2 hcap hcap2).mono ?_
  rintro e w5 ⟨g3, g4, hg3, hg4, rfl, k3, k4, b5⟩
  obtain ⟨W6, hW6⟩ : ∃ W6, W6 = w5.alloc (.cells #[.slice (some ⟨g3, 0, none⟩) ss.length ss.length, .slice (some ⟨g4, 0, none⟩) ps.length ps.length] 29) := ⟨_, rfl⟩
  have HW6 : Hid (W6 = w5.alloc (.cells #[.slice (some ⟨g3, 0, none⟩) ss.length ss.length, .slice (some ⟨g4, 0, none⟩) ps.length ps.length] 29)) := hW6
  have ba : Below w5.heap.size w5 W6 := by rw [hW6]; exact (Below.refl _ _).alloc (Nat.le_refl _) _
  have A6 : Hid (Bxs W6 w.heap.size 25 #[.slice a0 ss.length cap0, .slice b0 ps.length capb]) := (A4.out.below b5).below ba
  have X6 : Hid (Bxs W6 w5.heap.size 29 #[.slice (some ⟨g3, 0, none⟩) ss.length ss.length, .slice (some ⟨g4, 0, none⟩) ps.length ps.length]) := by rw [hW6]; exact Bxs.new _ _ _
  have T3 : Hid (TxtAt W6 (some ⟨g3, 0, none⟩) ss) := k3.txt.below ba
  have T4 : Hid (PndAt W6 (some ⟨g4, 0, none⟩) ps) := k4.pnd.below ba
  have B6 := chainB (chainB B4 b5) ba
  have hV := hI W6 _ ss.length _ ps.length T3.out T4.out (Nat.le_refl _) (Nat.le_refl _)
  clear hW6 ba b5 k3 k4 A4 y0 y1 hI
  go_wp2_with fail
  rw [← HW6.out]
  refine hV.mono ?_
  rintro e w7 ⟨rfl, b7⟩
  have A7 : Hid (Bxs w7 w.heap.size 25 #[.slice a0 ss.length cap0, .slice b0 ps.length capb]) := A6.out.below b7
  have X7 : Hid (Bxs w7 w5.heap.size 29 #[.slice (some ⟨g3, 0, none⟩) ss.length ss.length, .slice (some ⟨g4, 0, none⟩) ps.length ps.length]) := X6.out.below b7
  have T5 : Hid (TxtAt w7 (some ⟨g3, 0, none⟩) ss) := T3.out.below b7
  have T6 : Hid (PndAt w7 (some ⟨g4, 0, none⟩) ps) := T4.out.below b7
  have B7 : Hid (Below w.heap.size w w7) := chainB B6 b7
  have y0 : w7.cell? ⟨w.heap.size, 0, none⟩ = some (.slice a0 ss.length cap0) := A7.out.cell 0
  have y1 : w7.cell? ⟨w.heap.size, 1, none⟩ = some (.slice b0 ps.length capb) := A7.out.cell 1
  have v0 : w7.cell? ⟨w5.heap.size, 0, none⟩ = some (.slice (some ⟨g3, 0, none⟩) ss.length ss.length) := X7.out.cell 0
  have v1 : w7.cell? ⟨w5.heap.size, 1, none⟩ = some (.slice (some ⟨g4, 0, none⟩) ps.length ps.length) := X7.out.cell 1
  have QT : Hid (∀ x, Below w7.heap.size w7 x → Calls Try.prog 10 #[.agg #[.slice a0 ss.length cap0, .slice b0 ps.length capb]] x fun e x1 => ∃ g5 g6, e = .returned (.agg #[.slice (some ⟨g5, 0, none⟩) ss.length ss.length, .slice (some ⟨g6, 0, none⟩) ps.length ps.length]) ∧ TxtAt x1 (some ⟨g5, 0, none⟩) ss ∧ PndAt x1 (some ⟨g6, 0, none⟩) ps ∧ Below w7.heap.size w7 x1) := fun x hb => (toDisk_any a0 b0 cap0 capb ss ps x (P1.out.below (chainB B7.out hb)) (P2.out.below (chainB B7.out hb)) l1 l2 hcap hcap2).mono (by
    rintro e x1 ⟨g5, g6, _, _, rfl, j1, j2, y⟩
    exact ⟨g5, g6, rfl, j1.txt, j2.pnd, chainB hb y⟩)
  have QE : Hid (∀ x g5 g6, Below w7.heap.size w7 x → TxtAt x (some ⟨g5, 0, none⟩) ss → PndAt x (some ⟨g6, 0, none⟩) ps → Calls Try.prog 13 #[.agg #[.slice (some ⟨g3, 0, none⟩) ss.length ss.length, .slice (some ⟨g4, 0, none⟩) ps.length ps.length], .agg #[.slice (some ⟨g5, 0, none⟩) ss.length ss.length, .slice (some ⟨g6, 0, none⟩) ps.length ps.length]] x fun e x1 => e = .returned (.bool true) ∧ Below w7.heap.size w7 x1) := fun x g5 g6 hb h1 h2 => (eqDisk_any _ _ _ _ _ _ _ _ ss ps x (T5.out.below hb) (T6.out.below hb) h1 h2 l1 l2 (Nat.le_refl _) (Nat.le_refl _) (Nat.le_refl _) (Nat.le_refl _)).mono (by
    rintro e x1 ⟨rfl, y⟩
    exact ⟨rfl, chainB hb y⟩)
  have HX : Hid (∀ x, Below w7.heap.size w7 x → x.cell? ⟨w5.heap.size, 0, none⟩ = some (.slice (some ⟨g3, 0, none⟩) ss.length ss.length) ∧ x.cell? ⟨w5.heap.size, 1, none⟩ = some (.slice (some ⟨g4, 0, none⟩) ps.length ps.length)) := fun x hb => ⟨(X7.out.below hb).cell 0, (X7.out.below hb).cell 1⟩
  have HR7 : Hid (Below w7.heap.size w7 w7) := Below.refl _ _
  clear hV b7 A6 X6 T3 T4 B6 A7 X7 T5 T6
  go_wp2_with fail
  go_region_with (first
    | (go_at_call 10; refine (QT.out _ (by first | exact HR7.out | exact HR7.out.drew)).mono ?_; rintro e x1 ⟨g5, g6, rfl, j1, j2, z1⟩; obtain ⟨u0, u1⟩ := HX.out _ z1)
    | (go_at_call 13; refine (QE.out _ g5 g6 (by first | exact z1 | exact z1.drew) (by first | exact j1 | exact j1.below (Below.refl _ _).drew) (by first | exact j2 | exact j2.below (Below.refl _ _).drew)).mono ?_; rintro e x2 ⟨rfl, z2⟩))
  all_goals
    have z3 := chainB B7.out z2
    go_wp2_with fail
    go_ret
    exact ⟨rfl, z3⟩

set_option maxRecDepth 100000 in
theorem lifted (os : Os) (started : os.Started) (H : Type) (enc : TypeId × Value → H) :
    ReturnsInHanded {} Try.checked os 6 .any (Rows.fnExactAreaRoomSpec.pre6 enc Try.prog Try.f6 Rows.fnExactAreaRoomRow.domain false) (Rows.fnExactAreaRoomSpec.post enc Try.prog Try.f6 false true false false) := by
  refine returnsInHanded_of_change (C := Try.checked) own started (by kernel_rfl) Try.func6
    (ChangeSpec.witness6 (enc := enc) (C := Try.checked) false ⟨#[], #[.agg #[.slice none 0 0, .slice none 0 0]], []⟩ 8 (by kernel_rfl) (by kernel_rfl) (by kernel_rfl) (by kernel_rfl)) ?_
  intro W base args ds gs before hval0 hW hcnd _
  have hval : ∀ (j : Nat) t v, Try.f6.params[j]? = some t → args[j]? = some v → Value.okWide Try.prog W .any base t v := hval0
  have hW' := hW
  obtain ⟨p, q, hA0, hV, rfl, hfz, hnd⟩ := hW
  have hA : DataW.TrodAll enc Try.prog W 0 (fun _ => true) true Try.f6.params.toList args.toList ds p := hA0
  rw [Try.params6] at hA hval
  obtain ⟨v0, vs0, d0, ds0, p0, q0, hargs, rfl, rfl, h0, r0⟩ := trodAll_cons hA
  obtain ⟨rfl, rfl, rfl⟩ := trodAll_nil r0
  obtain rfl : args = #[v0] := by cases args; simp_all
  obtain ⟨rfl, rfl⟩ := trodVars_none hV
  have k0 := h0
  have lt0 : ∀ x ∈ p0, x.block < W.heap.size := by obtain ⟨m, hm⟩ := k0; exact DataW.trod_lt m _ _ _ hm
  obtain ⟨a0, len0, cap0, b0, lenb0, capb0, rfl, ⟨ss0, wa0⟩, ⟨ts0, wb0⟩⟩ := open_disk (hval 0 25 v0 rfl rfl) h0
  have w0 := And.intro wa0 wb0
  clear hA0 hval0
  simp only [List.append_nil] at hW'
  refine (walk a0 len0 cap0 ss0 b0 lenb0 capb0 ts0 W w0).mono fun e W' ⟨he, hg⟩ => ?_
  subst he
  exact ⟨_, rfl, _, _, _, [], _, [], hW', (trodAll_cons_mk (shut_bool Try.underlying4 _) trodAll_mk0), (trodAll_cons_mk (Below.trod laidOut (by kernel_rfl) (of_decide_eq_true (by kernel_rfl)) k0 hg lt0) trodAll_mk0), rfl, hg.frame _, fun h => by cases h⟩

theorem over : Rows.fnExactAreaRoomRow.holds Try.pinned (OpenSpec.ofChange Rows.fnExactAreaRoomSpec) :=
  OpenClaim.holds_of_wide 6 Try.f6 rfl rfl rfl rfl rfl rfl rfl ⟨rfl, rfl, rfl, rfl, rfl⟩ rfl rfl rfl rfl rfl (by kernel_rfl) Try.func6 (by kernel_rfl)
    (of_decide_eq_true (by kernel_rfl)) (by unfold Func.isWrapper; first | (rw [if_pos (by decide +kernel)]; kernel_rfl) | (rw [if_neg (by decide +kernel)]; exact ⟨rfl, rfl⟩))
    (fun os started H enc _ => lifted os started H enc)

theorem proved : Rows.FnExactAreaRoomSaid :=
  over
#print axioms proved
end Go.Proofs.Ytmhdnbfcmobgnaj.fnExactAreaRoom
