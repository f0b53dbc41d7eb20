/-
  For every disk the law FnExactTraces returns true: the program's Traces answers as the specification's, and writes into no argument; the card ties the listed variables, three sentinels, to the program's text.
  Conditions: none of mine; the form's own reach; the listed variables as the program's text lays them (the given tie). The card speaks of the pruned copy of the project that the seat names.
-/
import Derived.Test.YtnppgldafhpchaaDoorCards
import Derived.Test.YtnppgldafhpchaaDoorTie
import Derived.Test.YtnppgldafhpchaaDoorDskMath
import Derived.Test.YtnppgldafhpchaaDoorDskR
import Derived.Test.YtnppgldafhpchaaDoorLawD
import Derived.Test.YtnppgldafhpchaaDoorBxK
import Derived.Test.YtnppgldafhpchaaDoorSen3PutMath
import Derived.Test.YtnppgldafhpchaaDoorTcMathAreaF
import Derived.Test.YtnppgldafhpchaaDoorTcS
import Derived.Test.YtnppgldafhpchaaDoorTcI
import Derived.Test.YtnppgldafhpchaaDoorSen3Of
import Derived.WalkKit
import Derived.OpenVars
import Derived.LaidHandle
import Derived.LaidLaws
import Derived.LaidMore
import Derived.Deep.DeepHandedRow
import Derived.ProofKit
import Derived.OpenShut
import Derived.ShutString
import Derived.ChangeOld
import Derived.Below
import Derived.Deep.Strs
import Derived.Deep.SlicePairs
import Derived.Deep.RegionWith
import Derived.Deep.Cut
import Derived.Deep.CutRange
import Derived.Handy
import Derived.WalkSpells
namespace Go.Proofs.YtnppgldafhpchaaDoor.fnExactTraces
open Go.ChangeShapes Go.WideShapes Go.ChangeAt Go.RowKit
open Go.ChangeMaps (open_string shut_string)
set_option linter.unusedVariables false
set_option maxRecDepth 100000

theorem own : ownKnob Tryd.prog.godebug = none := by kernel_rfl
theorem laidOut : laidOutB Tryd.prog = true := by kernel_rfl

/-- What the walk is told of a slice of texts that came in. -/
def IsTexts (w : World) (a : Option Addr) (len cap : Nat) (ss : List ByteArray) : Prop :=
  ss.length = len ∧ TxtAt w a ss ∧ len ≤ cap ∧ cap ≤ maxLen ∧ ∀ x ∈ ss, x.size ≤ maxLen
theorem texts_of {H : Type} {enc : TypeId × Value → H} {W : World} {base : Nat} {fuel : Nat} {x : DataW H × List MemPlace} {a : Option Addr} {len cap : Nat}
    (h : DataW.trod enc Tryd.prog W base (fun _ => true) true fuel 22 [.slice a len cap] = some x) : ∃ ss, IsTexts W a len cap ss := by
  rcases Go.Deep.open_strs Tryd.underlying22 Tryd.underlying9 (by kernel_rfl) h with ⟨hcs, _⟩ | ⟨ad, l, c, m, Sx, hcs, _, hl, hm, hmm, _, hx⟩
  · simp at hcs
    obtain ⟨rfl, rfl, rfl⟩ := hcs
    exact ⟨[], rfl, TxtAt.nil _ _, Nat.le_refl _, by unfold maxLen; omega, fun x hx => by cases hx⟩
  · simp at hcs
    obtain ⟨rfl, rfl, rfl⟩ := hcs
    rw [if_pos rfl] at hmm
    subst hmm
    refine ⟨(List.range len).map Sx, by simp, ?_, hl, hm, ?_⟩
    · intro i hi
      have hi2 : i < len := by simpa using hi
      obtain ⟨b, off, spot⟩ := ad
      have hc := (hx i (by omega)).1
      have hspot : spot = none := by simpa [Addr.add] using World.cell?_spot (hx 0 (by omega)).1
      subst hspot
      have hadd : (⟨b, off, none⟩ : Addr).add i = ⟨b, off + i, none⟩ := by unfold Addr.add; split <;> simp_all
      rw [hadd] at hc
      exact ⟨b, off, rfl, World.block_lt_of_cell? W _ hc, by rw [hc]; simp⟩
    · intro x hxm
      obtain ⟨i, hi, rfl⟩ := List.mem_map.1 hxm
      exact (hx i (by have := List.mem_range.1 hi; omega)).2

/-- What the walk is told of a slice of pendings that came in. -/
def IsPends (w : World) (a : Option Addr) (len cap : Nat) (ps : List Pnd) : Prop :=
  ps.length = len ∧ PndAt w a ps ∧ len ≤ cap ∧ cap ≤ maxLen ∧ ∀ x ∈ ps, x.2.size ≤ maxLen
theorem pends_of {H : Type} {enc : TypeId × Value → H} {W : World} {base : Nat} {fuel : Nat} {x : DataW H × List MemPlace} {c0 : Value}
    (h : DataW.trod enc Tryd.prog W base (fun _ => true) true fuel 23 [c0] = some x) : ∃ a len cap, c0 = .slice a len cap ∧ ∃ ps, IsPends W a len cap ps := by
  rcases Go.Deep.open_slice_pairs Tryd.underlying23 Tryd.underlying54 (by kernel_rfl) (by kernel_rfl) (by kernel_rfl) (by kernel_rfl) (by kernel_rfl) h with ⟨hcs, _⟩ | ⟨ad, l, c, m, k, V0, V1, D0, D1, P0, P1, hcs, _, hl, hm, hmm, _, hx⟩
  · simp at hcs
    exact ⟨_, _, _, hcs, [], rfl, PndAt.nil _ _, Nat.le_refl _, by unfold maxLen; omega, fun x hx => by cases hx⟩
  · simp at hcs
    refine ⟨_, _, _, hcs, ?_⟩
    rw [if_pos rfl] at hmm
    subst hmm
    have hall : ∀ i, i < m → ∃ q : Pnd, V0 i = .int .i64 q.1 ∧ V1 i = .string q.2 ∧ q.2.size ≤ maxLen := by
      intro i hi
      obtain ⟨_, _, h3, h4⟩ := hx i hi
      obtain ⟨n, e0, _, _⟩ := DataW.trod_int Tryd.underlying2 h3
      obtain ⟨s, e1, _, hz⟩ := DataW.trod_string Tryd.underlying9 h4
      simp at e0 e1
      exact ⟨(n, s), e0, e1, hz⟩
    let f : Nat → Pnd := fun i => if h : i < m then Classical.choose (hall i h) else (0, ByteArray.empty)
    have hf : ∀ i, i < m → V0 i = .int .i64 (f i).1 ∧ V1 i = .string (f i).2 ∧ (f i).2.size ≤ maxLen := by
      intro i hi
      have := Classical.choose_spec (hall i hi)
      simp only [f, hi, dif_pos]
      exact this
    refine ⟨(List.range l).map f, by simp, ?_, hl, hm, ?_⟩
    · intro i hi
      have hi2 : i < l := by simpa using hi
      obtain ⟨b, off, spot⟩ := ad
      obtain ⟨h1, h2, _, _⟩ := hx i (by omega)
      have hspot : spot = none := by simpa [Addr.add] using World.cell?_spot (hx 0 (by omega)).1
      subst hspot
      have hadd : ∀ j, (⟨b, off, none⟩ : Addr).add j = ⟨b, off + j, none⟩ := by intro j; unfold Addr.add; split <;> simp_all
      rw [hadd] at h1 h2
      obtain ⟨f0, f1, _⟩ := hf i (by omega)
      refine ⟨b, off, rfl, World.block_lt_of_cell? W _ h1, ?_, ?_⟩
      · rw [h1, f0]; simp
      · rw [Nat.add_assoc, h2, f1]; simp
    · intro x hxm
      obtain ⟨i, hi, rfl⟩ := List.mem_map.1 hxm
      exact (hf i (by have := List.mem_range.1 hi; omega)).2.2
theorem open_disk {H : Type} {enc : TypeId × Value → H} {W : World} {base : Nat} {v : Value} {d : DataW H} {qs : List MemPlace} (hval : Value.okWide Tryd.prog W .any base 25 v)
    (h : DataW.Trod enc Tryd.prog W 0 (fun _ => true) true 25 v d qs) : ∃ a1 len1 cap1 a2 len2 cap2, v = .agg #[.slice a1 len1 cap1, .slice a2 len2 cap2] ∧ (∃ ss, IsTexts W a1 len1 cap1 ss) ∧ ∃ ps, IsPends W a2 len2 cap2 ps := by
  obtain ⟨cs, rfl, hsz⟩ := okWide_struct Tryd.underlying25 hval
  have h2 : cs.size = 2 := hsz.trans (by kernel_rfl)
  obtain ⟨fuel, hf⟩ := h
  obtain ⟨y0, y1, m, _, _, ht0, ht1⟩ := trod_struct2 Tryd.underlying25 hf
  obtain ⟨c0, c1, rfl⟩ : ∃ c0 c1, cs = #[c0, c1] := by
    match cs, h2 with
    | ⟨[c0, c1]⟩, _ => exact ⟨c0, c1, rfl⟩
  have e0 : Tryd.prog.cellsOf 22 = 1 := by kernel_rfl
  have e1 : Tryd.prog.cellsOf 23 = 1 := by kernel_rfl
  simp only [Value.cells, e0, e1, List.drop_zero, List.take_succ_cons, List.take_zero, List.drop_succ_cons] at ht0 ht1
  obtain ⟨a2, l2, k2, rfl, wp⟩ := pends_of ht1
  rcases Go.Deep.open_strs Tryd.underlying22 Tryd.underlying9 (by kernel_rfl) ht0 with ⟨hcs, _⟩ | ⟨ad, l, c, mm, Sx, hcs, _⟩
  · simp at hcs
    subst hcs
    exact ⟨_, _, _, a2, l2, k2, rfl, texts_of ht0, wp⟩
  · simp at hcs
    subst hcs
    exact ⟨_, _, _, a2, l2, k2, rfl, texts_of ht0, wp⟩

set_option maxRecDepth 20000 in
set_option maxHeartbeats 4000000 in
theorem walk (a0 : Option Addr) (len0 cap0 : Nat) (ss : List ByteArray) (b0 : Option Addr) (lenb capb : Nat) (ps : List Pnd) (w : World) (w0 : IsTexts w a0 len0 cap0 ss ∧ IsPends w b0 lenb capb ps) (e1 e2 e3 e4 : Addr) (hSn : Sents e1 e2 e3 e4 w) :
    Calls Tryd.prog 3 #[.agg #[.slice a0 len0 cap0, .slice b0 lenb capb]] w fun e w' => e = .returned (.bool true) ∧ Below w.heap.size w w' := by
  obtain ⟨⟨rfl, hp, hcap, hm, hsz⟩, ⟨rfl, hq, hcap2, hm2, hsz2⟩⟩ := w0
  have P1 : Hid (TxtAt w a0 ss) := hp
  have P2 : Hid (PndAt w b0 ps) := hq
  have Z1 : Hid (∀ x ∈ ss, x.size ≤ maxLen) := hsz
  have Z2 : Hid (∀ x ∈ ps, x.2.size ≤ maxLen) := hsz2
  clear hp hq hsz hsz2
  have HSn : Hid (Sents e1 e2 e3 e4 w) := hSn
  clear hSn
  unfold maxLen at hm hm2
  obtain ⟨W1, hW1⟩ : ∃ W1, W1 = w.alloc (.cells #[.slice a0 ss.length cap0, .slice b0 ps.length capb] 25) := ⟨_, rfl⟩
  have HW1 : Hid (W1 = w.alloc (.cells #[.slice a0 ss.length cap0, .slice b0 ps.length capb] 25)) := hW1
  have b1 : Below w.heap.size w W1 := by rw [hW1]; exact (Below.refl _ _).alloc (Nat.le_refl _) _
  have A1 : Hid (Bxs W1 w.heap.size 25 #[.slice a0 ss.length cap0, .slice b0 ps.length capb]) := by rw [hW1]; exact Bxs.new _ _ _
  have B1 : Hid (Below w.heap.size w W1) := b1
  clear hW1 b1
  go_enter Tryd.func3, Tryd.ntmps3
  go_wp2_with fail
  rw [← HW1.out]
  refine (szDisk_any a0 b0 cap0 capb ss ps W1 (P1.out.below B1.out) (P2.out.below B1.out) (by omega) (by omega) hcap hcap2 (fun x hx => by have := Z1.out x hx; unfold maxLen at this; exact this) (fun x hx => by have := Z2.out x hx; unfold maxLen at this; exact this)).mono ?_
  rintro e w2 ⟨⟨r, rfl, hr⟩, b2⟩
  have A2 : Hid (Bxs w2 w.heap.size 25 #[.slice a0 ss.length cap0, .slice b0 ps.length capb]) := A1.out.below b2
  have B2 := chainB B1.out b2
  rcases hr with rfl | ⟨hr0, hr1, ⟨l1, x1⟩, ⟨l2, x2⟩⟩
  · go_wp2_with fail
    go_ret
    exact ⟨rfl, B2⟩
  have dr : decide (r < 0) = false := decide_eq_false (by omega)
  clear A1 b2 x1 x2 Z1 Z2
  have y0 : w2.cell? ⟨w.heap.size, 0, none⟩ = some (.slice a0 ss.length cap0) := A2.out.cell 0
  have y1 : w2.cell? ⟨w.heap.size, 1, none⟩ = some (.slice b0 ps.length capb) := A2.out.cell 1
  go_wp2_with fail
  refine (toDisk_any a0 b0 cap0 capb ss ps w2 (P1.out.below B2) (P2.out.below B2) l1 l2 hcap hcap2).mono ?_
  rintro e w3 ⟨g1, g2, hg1, hg2, rfl, k1, k2, b3⟩
  have A3 : Hid (Bxs w3 w.heap.size 25 #[.slice a0 ss.length cap0, .slice b0 ps.length capb]) := A2.out.below b3
  have B3' := chainB B2 b3
  have hS := specTraces_any (some ⟨g1, 0, none⟩) ss.length ss (some ⟨g2, 0, none⟩) ps.length ps w3 k1.txt k2.pnd l1 l2 (Nat.le_refl _) (Nat.le_refl _)
  have hI := fun x q1 c1 q2 c2 h1 h2 m1 m2 hb => implTraces_any q1 c1 ss q2 c2 ps e1 e2 e3 e4 x h1 h2 l1 l2 m1 m2 (HSn.out.below hb)
  generalize tcO ss ps = V at *
  clear y0 y1 A2 b3 k1 k2
  go_wp2_with fail
  refine hS.mono ?_
  rintro e w4 ⟨rfl, b4⟩
  have A4 : Hid (Bxs w4 w.heap.size 25 #[.slice a0 ss.length cap0, .slice b0 ps.length capb]) := A3.out.below b4
  have B4 := chainB B3' b4
  have y0 : w4.cell? ⟨w.heap.size, 0, none⟩ = some (.slice a0 ss.length cap0) := A4.out.cell 0
  have y1 : w4.cell? ⟨w.heap.size, 1, none⟩ = some (.slice b0 ps.length capb) := A4.out.cell 1
  clear hS b4 A3
  go_wp2_with fail
  refine (toDisk_any a0 b0 cap0 capb ss ps w4 (P1.out.below B4) (P2.out.below B4) l1 l2 hcap hcap2).mono ?_
  rintro e w5 ⟨g3, g4, hg3, hg4, rfl, k3, k4, b5⟩
  obtain ⟨W6, hW6⟩ : ∃ W6, W6 = w5.alloc (.cells #[.slice (some ⟨g3, 0, none⟩) ss.length ss.length, .slice (some ⟨g4, 0, none⟩) ps.length ps.length] 30) := ⟨_, rfl⟩
  have HW6 : Hid (W6 = w5.alloc (.cells #[.slice (some ⟨g3, 0, none⟩) ss.length ss.length, .slice (some ⟨g4, 0, none⟩) ps.length ps.length] 30)) := hW6
  have ba : Below w5.heap.size w5 W6 := by rw [hW6]; exact (Below.refl _ _).alloc (Nat.le_refl _) _
  have A6 : Hid (Bxs W6 w.heap.size 25 #[.slice a0 ss.length cap0, .slice b0 ps.length capb]) := (A4.out.below b5).below ba
  have X6 : Hid (Bxs W6 w5.heap.size 30 #[.slice (some ⟨g3, 0, none⟩) ss.length ss.length, .slice (some ⟨g4, 0, none⟩) ps.length ps.length]) := by rw [hW6]; exact Bxs.new _ _ _
  have T3 : Hid (TxtAt W6 (some ⟨g3, 0, none⟩) ss) := k3.txt.below ba
  have T4 : Hid (PndAt W6 (some ⟨g4, 0, none⟩) ps) := k4.pnd.below ba
  have B6 := chainB (chainB B4 b5) ba
  have hV := hI W6 _ ss.length _ ps.length T3.out T4.out (Nat.le_refl _) (Nat.le_refl _) B6
  clear hW6 ba b5 k3 k4 A4 y0 y1 hI
  go_wp2_with fail
  rw [← HW6.out]
  refine hV.mono ?_
  rintro e w7 ⟨rfl, b7⟩
  have A7 : Hid (Bxs w7 w.heap.size 25 #[.slice a0 ss.length cap0, .slice b0 ps.length capb]) := A6.out.below b7
  have X7 : Hid (Bxs w7 w5.heap.size 30 #[.slice (some ⟨g3, 0, none⟩) ss.length ss.length, .slice (some ⟨g4, 0, none⟩) ps.length ps.length]) := X6.out.below b7
  have T5 : Hid (TxtAt w7 (some ⟨g3, 0, none⟩) ss) := T3.out.below b7
  have T6 : Hid (PndAt w7 (some ⟨g4, 0, none⟩) ps) := T4.out.below b7
  have B7 : Hid (Below w.heap.size w w7) := chainB B6 b7
  have y0 : w7.cell? ⟨w.heap.size, 0, none⟩ = some (.slice a0 ss.length cap0) := A7.out.cell 0
  have y1 : w7.cell? ⟨w.heap.size, 1, none⟩ = some (.slice b0 ps.length capb) := A7.out.cell 1
  have v0 : w7.cell? ⟨w5.heap.size, 0, none⟩ = some (.slice (some ⟨g3, 0, none⟩) ss.length ss.length) := X7.out.cell 0
  have v1 : w7.cell? ⟨w5.heap.size, 1, none⟩ = some (.slice (some ⟨g4, 0, none⟩) ps.length ps.length) := X7.out.cell 1
  have QT : Hid (∀ x, Below w7.heap.size w7 x → Calls Tryd.prog 6 #[.agg #[.slice a0 ss.length cap0, .slice b0 ps.length capb]] x fun e x1 => ∃ g5 g6, e = .returned (.agg #[.slice (some ⟨g5, 0, none⟩) ss.length ss.length, .slice (some ⟨g6, 0, none⟩) ps.length ps.length]) ∧ TxtAt x1 (some ⟨g5, 0, none⟩) ss ∧ PndAt x1 (some ⟨g6, 0, none⟩) ps ∧ Below w7.heap.size w7 x1) := fun x hb => (toDisk_any a0 b0 cap0 capb ss ps x (P1.out.below (chainB B7.out hb)) (P2.out.below (chainB B7.out hb)) l1 l2 hcap hcap2).mono (by
    rintro e x1 ⟨g5, g6, _, _, rfl, j1, j2, y⟩
    exact ⟨g5, g6, rfl, j1.txt, j2.pnd, chainB hb y⟩)
  have QE : Hid (∀ x g5 g6, Below w7.heap.size w7 x → TxtAt x (some ⟨g5, 0, none⟩) ss → PndAt x (some ⟨g6, 0, none⟩) ps → Calls Tryd.prog 8 #[.agg #[.slice (some ⟨g3, 0, none⟩) ss.length ss.length, .slice (some ⟨g4, 0, none⟩) ps.length ps.length], .agg #[.slice (some ⟨g5, 0, none⟩) ss.length ss.length, .slice (some ⟨g6, 0, none⟩) ps.length ps.length]] x fun e x1 => e = .returned (.bool true) ∧ Below w7.heap.size w7 x1) := fun x g5 g6 hb h1 h2 => (eqDisk_any _ _ _ _ _ _ _ _ ss ps x (T5.out.below hb) (T6.out.below hb) h1 h2 l1 l2 (Nat.le_refl _) (Nat.le_refl _) (Nat.le_refl _) (Nat.le_refl _)).mono (by
    rintro e x1 ⟨rfl, y⟩
    exact ⟨rfl, chainB hb y⟩)
  have HX : Hid (∀ x, Below w7.heap.size w7 x → x.cell? ⟨w5.heap.size, 0, none⟩ = some (.slice (some ⟨g3, 0, none⟩) ss.length ss.length) ∧ x.cell? ⟨w5.heap.size, 1, none⟩ = some (.slice (some ⟨g4, 0, none⟩) ps.length ps.length)) := fun x hb => ⟨(X7.out.below hb).cell 0, (X7.out.below hb).cell 1⟩
  have HR7 : Hid (Below w7.heap.size w7 w7) := Below.refl _ _
  clear hV b7 A6 X6 T3 T4 B6 A7 X7 T5 T6
  go_wp2_with fail
  go_region_with (first
    | (go_at_call 6; refine (QT.out _ (by first | exact HR7.out | exact HR7.out.drew)).mono ?_; rintro e x1 ⟨g5, g6, rfl, j1, j2, z1⟩; obtain ⟨u0, u1⟩ := HX.out _ z1)
    | (go_at_call 8; refine (QE.out _ g5 g6 (by first | exact z1 | exact z1.drew) (by first | exact j1 | exact j1.below (Below.refl _ _).drew) (by first | exact j2 | exact j2.below (Below.refl _ _).drew)).mono ?_; rintro e x2 ⟨rfl, z2⟩))
  all_goals
    have z3 := chainB B7.out z2
    go_wp2_with fail
    go_ret
    exact ⟨rfl, z3⟩

theorem contract (H : Type) (enc : TypeId × Value → H) (W : World) (base : Nat) (args : Array Value) (ds gs : List (DataW H)) (before : List MemPlace)
    (hval : ∀ (j : Nat) t v, Tryd.f3.params[j]? = some t → args[j]? = some v → Value.okWide Tryd.prog W .any base t v)
    (hW : DataW.Whole enc Tryd.prog Tryd.f3.params.toList Rows.fnExactTracesSpec.vars false W args.toList ds gs before) (hL : laidMetH Tryd.prog Rows.fnExactTracesRow.laid W) :
    Calls Tryd.prog 3 args W fun e W' => ∃ v, e = .returned v ∧ Rows.fnExactTracesSpec.post enc Tryd.prog Tryd.f3 false true false false W args v W' := by
  have hW' := hW
  obtain ⟨p, q, hA0, hV, rfl, hfz, hnd⟩ := hW
  have hA : DataW.TrodAll enc Tryd.prog W 0 (fun _ => true) true Tryd.f3.params.toList args.toList ds p := hA0
  rw [Tryd.params3] at hA hval
  obtain ⟨v0, vs0, d0, ds0, p0, q0, hargs, rfl, rfl, h0, r0⟩ := trodAll_cons hA
  obtain ⟨rfl, rfl, rfl⟩ := trodAll_nil r0
  obtain rfl : args = #[v0] := by cases args; simp_all
  have hV2 : DataW.TrodVars enc Tryd.prog W (fun _ => true) ["loop.example/g00633/impl.errDiskForm", "loop.example/g00633/impl.errNoHead", "loop.example/g00633/impl.errLacking"] gs q := hV
  obtain ⟨g0, g1, g2, rfl⟩ := three_vars hV2
  have k0 := h0
  have lt0 : ∀ x ∈ p0, x.block < W.heap.size := by obtain ⟨m, hm⟩ := k0; exact DataW.trod_lt m _ _ _ hm
  obtain ⟨a0, len0, cap0, b0, lenb0, capb0, rfl, ⟨ss0, wa0⟩, ⟨ts0, wb0⟩⟩ := open_disk (hval 0 25 v0 rfl rfl) h0
  have w0 := And.intro wa0 wb0
  clear hA0
  obtain ⟨e1, e2, e3, e4, hSn⟩ := laidS3_of hL
  refine (walk a0 len0 cap0 ss0 b0 lenb0 capb0 ts0 W w0 e1 e2 e3 e4 hSn).mono fun e W' ⟨he, hg⟩ => ?_
  subst he
  exact ⟨_, rfl, _, _, _, [], _, _, hW', (trodAll_cons_mk (shut_bool Tryd.underlying4 _) trodAll_mk0), (trodAll_cons_mk (Below.trod laidOut (by kernel_rfl) (of_decide_eq_true (by kernel_rfl)) k0 hg lt0) trodAll_mk0), Below.trodVars laidOut hg (by kernel_rfl) hV, hg.frame _, fun h => by cases h⟩

/-- A start in which the listed variables lie as the program's text lays them: what the door's own run leaves. -/
noncomputable def wit (os : Os) : World := World.doorLaid Tryd.prog 66 os
theorem laid_met (os : Os) : laidMetH Tryd.prog Rows.fnExactTracesRow.laid ((wit os).forCall (fun _ _ => 0) ⟨#[], #[.agg #[.slice none 0 0, .slice none 0 0]], []⟩).memory :=
  laidMetH_of_parts3 (fuel := 8) (laidMet_of_run' 8 (by kernel_rfl) (by kernel_rfl)) (by kernel_rfl) (by kernel_rfl)
theorem reads (os : Os) {H : Type} (enc : TypeId × Value → H) : ∃ gs places, DataW.whole enc Tryd.prog ((wit os).forCall (fun _ _ => 0) ⟨#[], #[.agg #[.slice none 0 0, .slice none 0 0]], []⟩).memory Tryd.f3.params.toList Rows.fnExactTracesSpec.vars false #[.agg #[.slice none 0 0, .slice none 0 0]].toList 8 = some ([.agg [.nil, .nil]], gs, places) := by
  have h : (DataW.whole enc Tryd.prog ((wit os).forCall (fun _ _ => 0) ⟨#[], #[.agg #[.slice none 0 0, .slice none 0 0]], []⟩).memory Tryd.f3.params.toList Rows.fnExactTracesSpec.vars false #[.agg #[.slice none 0 0, .slice none 0 0]].toList 8).map (fun x => x.1) = some [.agg [.nil, .nil]] := by kernel_rfl
  obtain ⟨⟨a, b, c⟩, hx, hy⟩ := Option.map_eq_some_iff.1 h
  cases hy
  exact ⟨b, c, hx⟩

theorem lifted (os : Os) (started : os.Started) (H : Type) (enc : TypeId × Value → H) (F : Stop.Interp) :
    ReturnsInHanded {} Tryd.checked os 3 .any ((OpenSpec.ofChange Rows.fnExactTracesSpec).preRow enc Tryd.prog Tryd.f3 Rows.fnExactTracesRow.domain false Rows.fnExactTracesRow.laid) (((OpenSpec.ofChange Rows.fnExactTracesSpec).at F).post enc Tryd.prog Tryd.f3 false true false false) := by
  obtain ⟨gs, places, hx⟩ := reads os enc
  refine returnsInHanded_of_row (C := Tryd.checked) (s := OpenSpec.ofChange Rows.fnExactTracesSpec) own started (by kernel_rfl) Tryd.func3
    (witness_row_at (enc := enc) (C := Tryd.checked) false (wit os) #[.agg #[.slice none 0 0, .slice none 0 0]] rfl (by kernel_rfl) (by kernel_rfl) (by kernel_rfl)
      (OpenSpec.preRow_of_cond 8 hx rfl (fun k hk => by cases hk) (by kernel_rfl) (laid_met os))) ?_
  intro W base args ds gs before hval hW _ _ _ hL _ _
  exact contract H enc W base args ds gs before hval hW hL

theorem said : Rows.FnExactTracesSaid :=
  OpenClaim.holds_of_cond 3 Tryd.f3 rfl rfl rfl rfl rfl rfl rfl ⟨rfl, rfl, rfl, rfl, rfl⟩ rfl rfl rfl rfl rfl (by kernel_rfl) Tryd.func3 (by kernel_rfl)
    (of_decide_eq_true (by kernel_rfl)) (by unfold Func.isWrapper; first | (rw [if_pos (by decide +kernel)]; kernel_rfl) | (rw [if_neg (by decide +kernel)]; exact ⟨rfl, rfl⟩))
    (fun os started H enc _ F => by rw [OpenClaim.pre_eq_preRow]; exact lifted os started H enc F)

theorem plain (f : FuncId) (fn : Func) (hf : Tryd.pinned.checked.prog.funcNamed "loop.example/g00633/laws.FnExactTraces" = some f) (hfn : Tryd.pinned.checked.prog.funcs[f]? = some fn) :
    Rows.fnExactTracesCard.stood.looks = Tryd.pinned.checked.prog.looks [] ∧ ∀ (j : Nat) t, fn.params[j]? = some t → Tryd.pinned.checked.prog.wantsStandIn t = false := by
  obtain rfl : f = 3 := Option.some.inj ((show Tryd.prog.funcNamed "loop.example/g00633/laws.FnExactTraces" = some 3 by kernel_rfl).symm.trans hf) |>.symm
  obtain rfl : fn = Tryd.f3 := (Option.some.inj (Tryd.func3.symm.trans hfn)).symm
  refine ⟨by kernel_rfl, fun j t ht => ?_⟩
  rw [Tryd.params3] at ht
  have hm := Array.mem_of_getElem? ht
  have hl : t ∈ ([25] : List TypeId) := by simpa using hm
  simp only [List.mem_cons, List.not_mem_nil, or_false] at hl
  subst hl
  exact (show Tryd.prog.wantsStandIn 25 = false by kernel_rfl)

theorem proved : Rows.FnExactTracesCardSaid :=
  Claim7.holds_tied_plain_at .later [] _ _ _ _ said (fun _ h => by cases h) (by kernel_rfl) (fun _ h => by cases h) fnExactTraces_row_tie rfl ⟨rfl, rfl⟩ (by kernel_rfl) rfl plain (by kernel_rfl)
#print axioms proved
end Go.Proofs.YtnppgldafhpchaaDoor.fnExactTraces
