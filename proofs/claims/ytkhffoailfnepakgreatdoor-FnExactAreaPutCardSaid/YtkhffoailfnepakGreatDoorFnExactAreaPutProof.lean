/-
  For every disk, text and number the law FnExactAreaPut returns true: the program's AreaPut answers as the specification's, writes into no argument, and its answer owns its memory.
  Conditions: none of mine; the form's own reach; the five listed variables as the program's text lays them (the given tie). The card speaks of the pruned copy of the project that the seat names.
-/
import Derived.Test.YtkhffoailfnepakGreatDoorCards
import Derived.Test.YtkhffoailfnepakGreatDoorTie
import Derived.Test.YtkhffoailfnepakGreatDoorImplPu
import Derived.Test.YtkhffoailfnepakGreatDoorAreaPt
import Derived.Test.YtkhffoailfnepakGreatDoorPuLeLawM
import Derived.Test.YtkhffoailfnepakGreatDoorDskT
import Derived.Test.YtkhffoailfnepakGreatDoorSlASlBOwnSDskMath
import Derived.Test.YtkhffoailfnepakGreatDoorDskCDskRDskS
import Derived.Test.YtkhffoailfnepakGreatDoorLawD
import Derived.Test.YtkhffoailfnepakGreatDoorLawDMLawDG
import Derived.Test.YtkhffoailfnepakGreatDoorLawASentOf
import Derived.WalkKit
import Derived.OpenVars
import Derived.LaidHandle
import Derived.LaidLaws
import Derived.LaidMore
import Derived.Deep.DeepHandedRow
import Derived.ProofKit
import Derived.OpenShut
import Derived.ShutString
import Derived.ChangeOld
import Derived.Below
import Derived.Deep.Strs
import Derived.Deep.SlicePairs
import Derived.Deep.RegionWith
import Derived.Deep.Cut
import Derived.Deep.CutRange
import Derived.Handy
import Derived.WalkSpells
namespace Go.Proofs.YtkhffoailfnepakGreatDoor.fnExactAreaPut
open Go.ChangeShapes Go.WideShapes Go.ChangeAt Go.RowKit
open Go.ChangeMaps (open_string shut_string)
set_option linter.unusedVariables false
set_option maxRecDepth 100000

theorem own : ownKnob Tryz.prog.godebug = none := by kernel_rfl
theorem laidOut : laidOutB Tryz.prog = true := by kernel_rfl

/-- What the walk is told of a slice of texts that came in. -/
def IsTexts (w : World) (a : Option Addr) (len cap : Nat) (ss : List ByteArray) : Prop :=
  ss.length = len ∧ TxtAt w a ss ∧ len ≤ cap ∧ cap ≤ maxLen ∧ ∀ x ∈ ss, x.size ≤ maxLen
theorem texts_of {H : Type} {enc : TypeId × Value → H} {W : World} {base : Nat} {fuel : Nat} {x : DataW H × List MemPlace} {a : Option Addr} {len cap : Nat}
    (h : DataW.trod enc Tryz.prog W base (fun _ => true) true fuel 22 [.slice a len cap] = some x) : ∃ ss, IsTexts W a len cap ss := by
  rcases Go.Deep.open_strs Tryz.underlying22 Tryz.underlying9 (by kernel_rfl) h with ⟨hcs, _⟩ | ⟨ad, l, c, m, Sx, hcs, _, hl, hm, hmm, _, hx⟩
  · simp at hcs
    obtain ⟨rfl, rfl, rfl⟩ := hcs
    exact ⟨[], rfl, TxtAt.nil _ _, Nat.le_refl _, by unfold maxLen; omega, fun x hx => by cases hx⟩
  · simp at hcs
    obtain ⟨rfl, rfl, rfl⟩ := hcs
    rw [if_pos rfl] at hmm
    subst hmm
    refine ⟨(List.range len).map Sx, by simp, ?_, hl, hm, ?_⟩
    · intro i hi
      have hi2 : i < len := by simpa using hi
      obtain ⟨b, off, spot⟩ := ad
      have hc := (hx i (by omega)).1
      have hspot : spot = none := by simpa [Addr.add] using World.cell?_spot (hx 0 (by omega)).1
      subst hspot
      have hadd : (⟨b, off, none⟩ : Addr).add i = ⟨b, off + i, none⟩ := by unfold Addr.add; split <;> simp_all
      rw [hadd] at hc
      exact ⟨b, off, rfl, World.block_lt_of_cell? W _ hc, by rw [hc]; simp⟩
    · intro x hxm
      obtain ⟨i, hi, rfl⟩ := List.mem_map.1 hxm
      exact (hx i (by have := List.mem_range.1 hi; omega)).2

/-- What the walk is told of a slice of pendings that came in. -/
def IsPends (w : World) (a : Option Addr) (len cap : Nat) (ps : List Pnd) : Prop :=
  ps.length = len ∧ PndAt w a ps ∧ len ≤ cap ∧ cap ≤ maxLen ∧ ∀ x ∈ ps, x.2.size ≤ maxLen
theorem pends_of {H : Type} {enc : TypeId × Value → H} {W : World} {base : Nat} {fuel : Nat} {x : DataW H × List MemPlace} {c0 : Value}
    (h : DataW.trod enc Tryz.prog W base (fun _ => true) true fuel 23 [c0] = some x) : ∃ a len cap, c0 = .slice a len cap ∧ ∃ ps, IsPends W a len cap ps := by
  rcases Go.Deep.open_slice_pairs Tryz.underlying23 Tryz.underlying69 (by kernel_rfl) (by kernel_rfl) (by kernel_rfl) (by kernel_rfl) (by kernel_rfl) h with ⟨hcs, _⟩ | ⟨ad, l, c, m, k, V0, V1, D0, D1, P0, P1, hcs, _, hl, hm, hmm, _, hx⟩
  · simp at hcs
    exact ⟨_, _, _, hcs, [], rfl, PndAt.nil _ _, Nat.le_refl _, by unfold maxLen; omega, fun x hx => by cases hx⟩
  · simp at hcs
    refine ⟨_, _, _, hcs, ?_⟩
    rw [if_pos rfl] at hmm
    subst hmm
    have hall : ∀ i, i < m → ∃ q : Pnd, V0 i = .int .i64 q.1 ∧ V1 i = .string q.2 ∧ q.2.size ≤ maxLen := by
      intro i hi
      obtain ⟨_, _, h3, h4⟩ := hx i hi
      obtain ⟨n, e0, _, _⟩ := DataW.trod_int Tryz.underlying2 h3
      obtain ⟨s, e1, _, hz⟩ := DataW.trod_string Tryz.underlying9 h4
      simp at e0 e1
      exact ⟨(n, s), e0, e1, hz⟩
    let f : Nat → Pnd := fun i => if h : i < m then Classical.choose (hall i h) else (0, ByteArray.empty)
    have hf : ∀ i, i < m → V0 i = .int .i64 (f i).1 ∧ V1 i = .string (f i).2 ∧ (f i).2.size ≤ maxLen := by
      intro i hi
      have := Classical.choose_spec (hall i hi)
      simp only [f, hi, dif_pos]
      exact this
    refine ⟨(List.range l).map f, by simp, ?_, hl, hm, ?_⟩
    · intro i hi
      have hi2 : i < l := by simpa using hi
      obtain ⟨b, off, spot⟩ := ad
      obtain ⟨h1, h2, _, _⟩ := hx i (by omega)
      have hspot : spot = none := by simpa [Addr.add] using World.cell?_spot (hx 0 (by omega)).1
      subst hspot
      have hadd : ∀ j, (⟨b, off, none⟩ : Addr).add j = ⟨b, off + j, none⟩ := by intro j; unfold Addr.add; split <;> simp_all
      rw [hadd] at h1 h2
      obtain ⟨f0, f1, _⟩ := hf i (by omega)
      refine ⟨b, off, rfl, World.block_lt_of_cell? W _ h1, ?_, ?_⟩
      · rw [h1, f0]; simp
      · rw [Nat.add_assoc, h2, f1]; simp
    · intro x hxm
      obtain ⟨i, hi, rfl⟩ := List.mem_map.1 hxm
      exact (hf i (by have := List.mem_range.1 hi; omega)).2.2
theorem open_disk {H : Type} {enc : TypeId × Value → H} {W : World} {base : Nat} {v : Value} {d : DataW H} {qs : List MemPlace} (hval : Value.okWide Tryz.prog W .any base 25 v)
    (h : DataW.Trod enc Tryz.prog W 0 (fun _ => true) true 25 v d qs) : ∃ a1 len1 cap1 a2 len2 cap2, v = .agg #[.slice a1 len1 cap1, .slice a2 len2 cap2] ∧ (∃ ss, IsTexts W a1 len1 cap1 ss) ∧ ∃ ps, IsPends W a2 len2 cap2 ps := by
  obtain ⟨cs, rfl, hsz⟩ := okWide_struct Tryz.underlying25 hval
  have h2 : cs.size = 2 := hsz.trans (by kernel_rfl)
  obtain ⟨fuel, hf⟩ := h
  obtain ⟨y0, y1, m, _, _, ht0, ht1⟩ := trod_struct2 Tryz.underlying25 hf
  obtain ⟨c0, c1, rfl⟩ : ∃ c0 c1, cs = #[c0, c1] := by
    match cs, h2 with
    | ⟨[c0, c1]⟩, _ => exact ⟨c0, c1, rfl⟩
  have e0 : Tryz.prog.cellsOf 22 = 1 := by kernel_rfl
  have e1 : Tryz.prog.cellsOf 23 = 1 := by kernel_rfl
  simp only [Value.cells, e0, e1, List.drop_zero, List.take_succ_cons, List.take_zero, List.drop_succ_cons] at ht0 ht1
  obtain ⟨a2, l2, k2, rfl, wp⟩ := pends_of ht1
  rcases Go.Deep.open_strs Tryz.underlying22 Tryz.underlying9 (by kernel_rfl) ht0 with ⟨hcs, _⟩ | ⟨ad, l, c, mm, Sx, hcs, _⟩
  · simp at hcs
    subst hcs
    exact ⟨_, _, _, a2, l2, k2, rfl, texts_of ht0, wp⟩
  · simp at hcs
    subst hcs
    exact ⟨_, _, _, a2, l2, k2, rfl, texts_of ht0, wp⟩

theorem ite_le {α : Type} (c : Prop) [Decidable c] (l : List α) (h : l.length ≤ 1048576) : (if c then l else []).length ≤ 1048576 := by
  split
  · exact h
  · simp
set_option maxRecDepth 20000 in
set_option maxHeartbeats 8000000 in
theorem walk (a0 : Option Addr) (len0 cap0 : Nat) (ss : List ByteArray) (b0 : Option Addr) (lenb capb : Nat) (ps : List Pnd) (data : ByteArray) (st : Int) (w : World) (w0 : IsTexts w a0 len0 cap0 ss ∧ IsPends w b0 lenb capb ps) (hwd : data.size ≤ maxLen) (hwi : (Lit.int .i64 st).wf = true) (a1 a2 a3 a4 : Addr) (hSn : Sents a1 a2 a3 a4 w) (hLd : Laid w) :
    Calls Tryz.prog 3 #[.agg #[.slice a0 len0 cap0, .slice b0 lenb capb], .string data, .int .i64 st] w fun e w' => e = .returned (.bool true) ∧ Below w.heap.size w w' := by
  obtain ⟨⟨rfl, hp, hcap, hm, hsz⟩, ⟨rfl, hq, hcap2, hm2, hsz2⟩⟩ := w0
  have P1 : Hid (TxtAt w a0 ss) := hp
  have P2 : Hid (PndAt w b0 ps) := hq
  have Z1 : Hid (∀ x ∈ ss, x.size ≤ maxLen) := hsz
  have Z2 : Hid (∀ x ∈ ps, x.2.size ≤ maxLen) := hsz2
  have HSn : Hid (Sents a1 a2 a3 a4 w) := hSn
  have HLd : Hid (Laid w) := hLd
  clear hp hq hsz hsz2 hSn hLd
  unfold maxLen at hm hm2 hwd
  obtain ⟨W1, hW1⟩ : ∃ W1, W1 = w.alloc (.cells #[.slice a0 ss.length cap0, .slice b0 ps.length capb] 25) := ⟨_, rfl⟩
  have HW1 : Hid (W1 = w.alloc (.cells #[.slice a0 ss.length cap0, .slice b0 ps.length capb] 25)) := hW1
  have b1 : Below w.heap.size w W1 := by rw [hW1]; exact (Below.refl _ _).alloc (Nat.le_refl _) _
  have A1 : Hid (Bxs W1 w.heap.size 25 #[.slice a0 ss.length cap0, .slice b0 ps.length capb]) := by rw [hW1]; exact Bxs.new _ _ _
  by_cases hbd : 1048576 < data.size
  · have d1 : decide (1048576 < (data.size : Int)) = true := decide_eq_true (by omega)
    rw [hW1] at b1
    clear hW1 A1 HW1
    go_enter Tryz.func3, Tryz.ntmps3
    go_wp2_with fail
    go_ret
    exact ⟨rfl, b1⟩
  have d1 : decide (1048576 < (data.size : Int)) = false := decide_eq_false (by omega)
  have B1 : Hid (Below w.heap.size w W1) := b1
  have S1 := A1.out.lt
  clear hW1 b1
  go_enter Tryz.func3, Tryz.ntmps3
  go_wp2_with fail
  rw [← HW1.out]
  refine (szDisk_any a0 b0 cap0 capb ss ps W1 (P1.out.below B1.out) (P2.out.below B1.out) (by omega) (by omega) hcap hcap2 (fun x hx => by have := Z1.out x hx; unfold maxLen at this; exact this) (fun x hx => by have := Z2.out x hx; unfold maxLen at this; exact this)).mono ?_
  rintro e w2 ⟨⟨r, rfl, hr⟩, b2⟩
  have A2 : Hid (Bxs w2 w.heap.size 25 #[.slice a0 ss.length cap0, .slice b0 ps.length capb]) := A1.out.below b2
  have S2 := b2.size
  have B2 := chainB B1.out b2
  rcases hr with rfl | ⟨hr0, hr1, ⟨l1, x1⟩, ⟨l2, x2⟩⟩
  · go_wp2_with fail
    go_ret
    exact ⟨rfl, B2⟩
  have dr : decide (r < 0) = false := decide_eq_false (by omega)
  clear A1 b2 x1 x2 Z1 Z2 B1
  obtain ⟨RS, hRS⟩ : ∃ RS, RS = puS ss ps data st := ⟨_, rfl⟩
  obtain ⟨RP, hRP⟩ : ∃ RP, RP = puP ss ps data st := ⟨_, rfl⟩
  obtain ⟨T0, hT0⟩ : ∃ T0, T0 = ByteArray.empty := ⟨_, rfl⟩
  obtain ⟨N0, hN0⟩ : ∃ N0, N0 = (0 : Int) := ⟨_, rfl⟩
  obtain ⟨C0, hC0⟩ : ∃ C0, C0 = puC ss ps data st := ⟨_, rfl⟩
  have L1 : RS.length ≤ 1048576 := by
    rw [hRS]
    exact puS_le ss ps data st
  have L2 : RP.length ≤ 1048576 := by
    rw [hRP]
    exact puP_le ss ps data st
  have hS : Hid (∀ x q1 c1 q2 c2, TxtAt x q1 ss → PndAt x q2 ps → ss.length ≤ c1 → ps.length ≤ c2 → Calls Tryz.prog 5 #[.agg #[.slice q1 ss.length c1, .slice q2 ps.length c2], .string data, .int .i64 st] x fun e x' => ∃ v1 v2, e = .returned (.agg #[v1, v2, .string T0, .int .i64 N0, .int .i64 C0]) ∧ DskO x.heap.size RS RP v1 v2 x' ∧ Below x.heap.size x x') := by
    intro x q1 c1 q2 c2 h1 h2 m1 m2
    rw [hRS, hRP, hT0, hN0, hC0]
    exact specAreaPut_any q1 c1 ss q2 c2 ps data st x h1 h2 l1 l2 m1 m2 (by omega)
  have hI : Hid (∀ x q1 c1 q2 c2, Below w.heap.size w x → TxtAt x q1 ss → PndAt x q2 ps → ss.length ≤ c1 → ps.length ≤ c2 → Calls Tryz.prog 7 #[.agg #[.slice q1 ss.length c1, .slice q2 ps.length c2], .string data, .int .i64 st] x fun e x' => ∃ v1 v2, e = .returned (.agg #[v1, v2, .string T0, .int .i64 N0, .int .i64 C0]) ∧ DskO x.heap.size RS RP v1 v2 x' ∧ Below x.heap.size x x') := by
    intro x q1 c1 q2 c2 hBx h1 h2 m1 m2
    rw [hRS, hRP, hT0, hN0, hC0]
    exact implAreaPut_any q1 c1 ss q2 c2 ps data st a1 a2 a3 a4 x h1 h2 l1 l2 m1 m2 (by omega) (HSn.out.below hBx) (HLd.out.below hBx)
  clear hRS hRP hT0 hN0 hC0
  obtain ⟨y0, y1⟩ := A2.out.two
  go_wp2_with fail
  refine (toDisk_any a0 b0 cap0 capb ss ps w2 (P1.out.below B2) (P2.out.below B2) l1 l2 hcap hcap2).mono ?_
  rintro e w3 ⟨g1, g2, hg1, hg2, rfl, k1, k2, b3⟩
  have A3 : Hid (Bxs w3 w.heap.size 25 #[.slice a0 ss.length cap0, .slice b0 ps.length capb]) := A2.out.below b3
  have S3 := b3.size
  have B3 := chainB B2 b3
  have h4 := hS.out w3 _ ss.length _ ps.length k1.txt k2.pnd (Nat.le_refl _) (Nat.le_refl _)
  clear y0 y1 A2 b3 k1 k2 hS hg1 hg2
  go_wp2_with fail
  refine h4.mono ?_
  rintro e w4 ⟨vw1, vw2, rfl, oW, b4⟩
  obtain ⟨pw1, cw1, pw2, cw2, rfl, rfl, mw1, mw2⟩ := oW.form
  have IW : Hid (In2 (.slice pw1 RS.length cw1) (.slice pw2 RP.length cw2) w3.heap.size w4.heap.size) := oW.in2
  obtain ⟨W5, hW5⟩ : ∃ W5, W5 = w4.alloc (.cells #[.slice pw1 RS.length cw1, .slice pw2 RP.length cw2, .string T0, .int .i64 N0, .int .i64 C0] 31) := ⟨_, rfl⟩
  have HW5 : Hid (W5 = w4.alloc (.cells #[.slice pw1 RS.length cw1, .slice pw2 RP.length cw2, .string T0, .int .i64 N0, .int .i64 C0] 31)) := hW5
  have b5 : Below w4.heap.size w4 W5 := by rw [hW5]; exact (Below.refl _ _).alloc (Nat.le_refl _) _
  have E5 : Hid (Bxs W5 w4.heap.size 31 #[.slice pw1 RS.length cw1, .slice pw2 RP.length cw2, .string T0, .int .i64 N0, .int .i64 C0]) := by rw [hW5]; exact Bxs.new _ _ _
  have A5 : Hid (Bxs W5 w.heap.size 25 #[.slice a0 ss.length cap0, .slice b0 ps.length capb]) := (A3.out.below b4).below b5
  have OW5 : Hid (DskO w3.heap.size RS RP (.slice pw1 RS.length cw1) (.slice pw2 RP.length cw2) W5) := oW.below b5
  have S4 := b4.size
  have S5 := E5.out.lt
  have B5 := chainB (chainB B3 b4) b5
  obtain ⟨y0, y1⟩ := A5.out.two
  rw [hW5] at y0 y1
  clear hW5 b4 b5 oW A3 h4
  go_wp2_with fail
  rw [← HW5.out] at y0 y1 ⊢
  refine (toDisk_any a0 b0 cap0 capb ss ps W5 (P1.out.below B5) (P2.out.below B5) l1 l2 hcap hcap2).mono ?_
  rintro e w6 ⟨g6, g7, hg6, hg7, rfl, k6, k7, b6⟩
  obtain ⟨W7, hW7⟩ : ∃ W7, W7 = w6.alloc (.cells #[.slice (some ⟨g6, 0, none⟩) ss.length ss.length, .slice (some ⟨g7, 0, none⟩) ps.length ps.length] 29) := ⟨_, rfl⟩
  have HW7 : Hid (W7 = w6.alloc (.cells #[.slice (some ⟨g6, 0, none⟩) ss.length ss.length, .slice (some ⟨g7, 0, none⟩) ps.length ps.length] 29)) := hW7
  have b7 : Below w6.heap.size w6 W7 := by rw [hW7]; exact (Below.refl _ _).alloc (Nat.le_refl _) _
  have X7 : Hid (Bxs W7 w6.heap.size 29 #[.slice (some ⟨g6, 0, none⟩) ss.length ss.length, .slice (some ⟨g7, 0, none⟩) ps.length ps.length]) := by rw [hW7]; exact Bxs.new _ _ _
  have S6 := b6.size
  have hg7s := k7.lt
  have S7 := X7.out.lt
  have K6 : Hid (BlkS W7 g6 ss) := k6.below b7 k6.lt
  have K7 : Hid (BlkP W7 g7 ps) := k7.below b7 k7.lt
  have b67 := chainB b6 b7
  have A7 : Hid (Bxs W7 w.heap.size 25 #[.slice a0 ss.length cap0, .slice b0 ps.length capb]) := A5.out.below b67
  have E7 : Hid (Bxs W7 w4.heap.size 31 #[.slice pw1 RS.length cw1, .slice pw2 RP.length cw2, .string T0, .int .i64 N0, .int .i64 C0]) := E5.out.below b67
  have OW7 : Hid (DskO w3.heap.size RS RP (.slice pw1 RS.length cw1) (.slice pw2 RP.length cw2) W7) := OW5.out.below b67
  have B7 := chainB B5 b67
  have h8 := hI.out W7 _ ss.length _ ps.length B7 K6.out.txt K7.out.pnd (Nat.le_refl _) (Nat.le_refl _)
  clear y0 y1 hW7 b7 b67 k6 k7 b6 A5 E5 OW5
  go_wp2_with fail
  rw [← HW7.out]
  refine h8.mono ?_
  rintro e w8 ⟨vg1, vg2, rfl, oG, b8⟩
  obtain ⟨pg1, cg1, pg2, cg2, rfl, rfl, mg1, mg2⟩ := oG.form
  have IG : Hid (In2 (.slice pg1 RS.length cg1) (.slice pg2 RP.length cg2) W7.heap.size w8.heap.size) := oG.in2
  obtain ⟨W9, hW9⟩ : ∃ W9, W9 = w8.alloc (.cells #[.slice pg1 RS.length cg1, .slice pg2 RP.length cg2, .string T0, .int .i64 N0, .int .i64 C0] 31) := ⟨_, rfl⟩
  have HW9 : Hid (W9 = w8.alloc (.cells #[.slice pg1 RS.length cg1, .slice pg2 RP.length cg2, .string T0, .int .i64 N0, .int .i64 C0] 31)) := hW9
  have b9 : Below w8.heap.size w8 W9 := by rw [hW9]; exact (Below.refl _ _).alloc (Nat.le_refl _) _
  have G9 : Hid (Bxs W9 w8.heap.size 31 #[.slice pg1 RS.length cg1, .slice pg2 RP.length cg2, .string T0, .int .i64 N0, .int .i64 C0]) := by rw [hW9]; exact Bxs.new _ _ _
  have S8 := b8.size
  have S9 := G9.out.lt
  have b89 := chainB b8 b9
  have A9 : Hid (Bxs W9 w.heap.size 25 #[.slice a0 ss.length cap0, .slice b0 ps.length capb]) := A7.out.below b89
  have E9 : Hid (Bxs W9 w4.heap.size 31 #[.slice pw1 RS.length cw1, .slice pw2 RP.length cw2, .string T0, .int .i64 N0, .int .i64 C0]) := E7.out.below b89
  have X9 : Hid (Bxs W9 w6.heap.size 29 #[.slice (some ⟨g6, 0, none⟩) ss.length ss.length, .slice (some ⟨g7, 0, none⟩) ps.length ps.length]) := X7.out.below b89
  have K9 : Hid (BlkS W9 g6 ss) := K6.out.below b89 K6.out.lt
  have J9 : Hid (BlkP W9 g7 ps) := K7.out.below b89 K7.out.lt
  have OW9 : Hid (DskO w3.heap.size RS RP (.slice pw1 RS.length cw1) (.slice pw2 RP.length cw2) W9) := OW7.out.below b89
  have OG9 : Hid (DskO W7.heap.size RS RP (.slice pg1 RS.length cg1) (.slice pg2 RP.length cg2) W9) := oG.below b9
  have B9 := chainB B7 b89
  obtain ⟨y0, y1, y2, y3, y4⟩ := E9.out.five
  rw [hW9] at y0 y1 y2 y3 y4
  have HEQ : Hid (∀ x, DskO W7.heap.size RS RP (.slice pg1 RS.length cg1) (.slice pg2 RP.length cg2) x → DskO w3.heap.size RS RP (.slice pw1 RS.length cw1) (.slice pw2 RP.length cw2) x → Calls Tryz.prog 8 #[.agg #[.slice pg1 RS.length cg1, .slice pg2 RP.length cg2, .string T0, .int .i64 N0, .int .i64 C0], .agg #[.slice pw1 RS.length cw1, .slice pw2 RP.length cw2, .string T0, .int .i64 N0, .int .i64 C0]] x fun e x' => e = .returned (.bool true) ∧ Below x.heap.size x x') := fun x h1 h2 => eqAreaOut_any T0 N0 C0 _ _ _ _ _ _ _ _ RS RP x h1.read.1 h1.read.2 h2.read.1 h2.read.2 L1 L2 mg1 mg2 mw1 mw2
  clear hW9 b8 b9 b89 oG A7 E7 X7 K6 K7 OW7 h8
  go_wp2_with fail
  rw [← HW9.out] at y0 y1 y2 y3 y4 ⊢
  refine (HEQ.out _ OG9.out OW9.out).mono ?_
  rintro e w10 ⟨rfl, b10⟩
  have A10 : Hid (Bxs w10 w.heap.size 25 #[.slice a0 ss.length cap0, .slice b0 ps.length capb]) := A9.out.below b10
  have E10 : Hid (Bxs w10 w4.heap.size 31 #[.slice pw1 RS.length cw1, .slice pw2 RP.length cw2, .string T0, .int .i64 N0, .int .i64 C0]) := E9.out.below b10
  have X10 : Hid (Bxs w10 w6.heap.size 29 #[.slice (some ⟨g6, 0, none⟩) ss.length ss.length, .slice (some ⟨g7, 0, none⟩) ps.length ps.length]) := X9.out.below b10
  have G10 : Hid (Bxs w10 w8.heap.size 31 #[.slice pg1 RS.length cg1, .slice pg2 RP.length cg2, .string T0, .int .i64 N0, .int .i64 C0]) := G9.out.below b10
  have K10 : Hid (BlkS w10 g6 ss) := K9.out.below b10 K9.out.lt
  have J10 : Hid (BlkP w10 g7 ps) := J9.out.below b10 J9.out.lt
  have OW10 : Hid (DskO w3.heap.size RS RP (.slice pw1 RS.length cw1) (.slice pw2 RP.length cw2) w10) := OW9.out.below b10
  have OG10 : Hid (DskO W7.heap.size RS RP (.slice pg1 RS.length cg1) (.slice pg2 RP.length cg2) w10) := OG9.out.below b10
  have S10 := b10.size
  have B10 := chainB B9 b10
  clear y0 y1 y2 y3 y4 b10 A9 E9 X9 G9 K9 J9 OW9 OG9
  obtain ⟨x0, x1⟩ := A10.out.two
  obtain ⟨y0, y1⟩ := X10.out.two
  have QT : Hid (∀ x, Below w10.heap.size w10 x → Calls Tryz.prog 6 #[.agg #[.slice a0 ss.length cap0, .slice b0 ps.length capb]] x fun e x1 => ∃ g8 g9, e = .returned (.agg #[.slice (some ⟨g8, 0, none⟩) ss.length ss.length, .slice (some ⟨g9, 0, none⟩) ps.length ps.length]) ∧ TxtAt x1 (some ⟨g8, 0, none⟩) ss ∧ PndAt x1 (some ⟨g9, 0, none⟩) ps ∧ Below w10.heap.size w10 x1) := fun x hb => (toDisk_any a0 b0 cap0 capb ss ps x (P1.out.below (chainB B10 hb)) (P2.out.below (chainB B10 hb)) l1 l2 hcap hcap2).mono (by
    rintro e x1 ⟨g8, g9, _, _, rfl, j1, j2, y⟩
    exact ⟨g8, g9, rfl, j1.txt, j2.pnd, chainB hb y⟩)
  have QE : Hid (∀ x g8 g9, Below w10.heap.size w10 x → TxtAt x (some ⟨g8, 0, none⟩) ss → PndAt x (some ⟨g9, 0, none⟩) ps → Calls Tryz.prog 9 #[.agg #[.slice (some ⟨g6, 0, none⟩) ss.length ss.length, .slice (some ⟨g7, 0, none⟩) ps.length ps.length], .agg #[.slice (some ⟨g8, 0, none⟩) ss.length ss.length, .slice (some ⟨g9, 0, none⟩) ps.length ps.length]] x fun e x1 => e = .returned (.bool true) ∧ Below w10.heap.size w10 x1) := fun x g8 g9 hb h1 h2 => (eqDisk_any _ _ _ _ _ _ _ _ ss ps x (K10.out.txt.below hb) (J10.out.pnd.below hb) h1 h2 l1 l2 (Nat.le_refl _) (Nat.le_refl _) (Nat.le_refl _) (Nat.le_refl _)).mono (by
    rintro e x1 ⟨rfl, y⟩
    exact ⟨rfl, chainB hb y⟩)
  have HX10 : Hid (∀ x, Below w10.heap.size w10 x → x.cell? ⟨w6.heap.size, 0, none⟩ = some (.slice (some ⟨g6, 0, none⟩) ss.length ss.length) ∧ x.cell? ⟨w6.heap.size, 1, none⟩ = some (.slice (some ⟨g7, 0, none⟩) ps.length ps.length)) := fun x hb => (X10.out.below hb).two
  have HR10 : Hid (Below w10.heap.size w10 w10) := Below.refl _ _
  go_upto_region 12 with fail
  go_cut [42] from 38 to 42 (fun s35 wx => s35 = .bool false ∧ Hid (Below w10.heap.size w10 wx))
  case first =>
    go_region_with (first
      | (go_at_call 6; refine (QT.out _ (by first | exact HR10.out | exact HR10.out.drew)).mono ?_; rintro e z1 ⟨g8, g9, rfl, j1, j2, z2⟩; obtain ⟨u0, u1⟩ := HX10.out _ z2)
      | (go_at_call 9; refine (QE.out _ g8 g9 (by first | exact z2 | exact z2.drew) (by first | exact j1 | exact j1.below (Below.refl _ _).drew) (by first | exact j2 | exact j2.below (Below.refl _ _).drew)).mono ?_; rintro e z3 ⟨rfl, z4⟩))
    all_goals (go_wp2_with fail; go_meet; exact ⟨rfl, z4⟩)
  case rest =>
  obtain ⟨rfl, hc⟩ := hcut
  have b12 := hc.out
  rename World => w12
  have A12 : Hid (Bxs w12 w.heap.size 25 #[.slice a0 ss.length cap0, .slice b0 ps.length capb]) := A10.out.below b12
  have E12 : Hid (Bxs w12 w4.heap.size 31 #[.slice pw1 RS.length cw1, .slice pw2 RP.length cw2, .string T0, .int .i64 N0, .int .i64 C0]) := E10.out.below b12
  have X12 : Hid (Bxs w12 w6.heap.size 29 #[.slice (some ⟨g6, 0, none⟩) ss.length ss.length, .slice (some ⟨g7, 0, none⟩) ps.length ps.length]) := X10.out.below b12
  have G12 : Hid (Bxs w12 w8.heap.size 31 #[.slice pg1 RS.length cg1, .slice pg2 RP.length cg2, .string T0, .int .i64 N0, .int .i64 C0]) := G10.out.below b12
  have K12 : Hid (BlkS w12 g6 ss) := K10.out.below b12 K10.out.lt
  have J12 : Hid (BlkP w12 g7 ps) := J10.out.below b12 J10.out.lt
  have OW12 : Hid (DskO w3.heap.size RS RP (.slice pw1 RS.length cw1) (.slice pw2 RP.length cw2) w12) := OW10.out.below b12
  have OG12 : Hid (DskO W7.heap.size RS RP (.slice pg1 RS.length cg1) (.slice pg2 RP.length cg2) w12) := OG10.out.below b12
  have S12 := b12.size
  have B12 := chainB B10 b12
  have hm12 := markDisk_any W5.heap.size _ _ ss.length ps.length ss ps w12 (K12.out.own W5.heap.size hg6 (by unfold maxLen; omega)) (J12.out.own W5.heap.size (by omega) (by unfold maxLen; omega)) (.inr (fun h => by simp [Value.ownBlock] at h; omega)) l1 l2
  clear x0 x1 y0 y1 b12 hc A10 E10 X10 G10 K10 J10 OW10 OG10 QT QE HX10 HR10
  obtain ⟨y0, y1⟩ := X12.out.two
  go_wp2_with fail
  refine hm12.mono ?_
  rintro e w13 ⟨rfl, -, -, wm, gm1, gm2⟩
  have gr := Gr2.mk2 gm1 gm2
  have A13 : Hid (Bxs w13 w.heap.size 25 #[.slice a0 ss.length cap0, .slice b0 ps.length capb]) := A12.out.gr2 gr (fun h => by simp [Value.ownBlock] at h; omega) (fun h => by simp [Value.ownBlock] at h; omega)
  have E13 : Hid (Bxs w13 w4.heap.size 31 #[.slice pw1 RS.length cw1, .slice pw2 RP.length cw2, .string T0, .int .i64 N0, .int .i64 C0]) := E12.out.gr2 gr (fun h => by simp [Value.ownBlock] at h; omega) (fun h => by simp [Value.ownBlock] at h; omega)
  have G13 : Hid (Bxs w13 w8.heap.size 31 #[.slice pg1 RS.length cg1, .slice pg2 RP.length cg2, .string T0, .int .i64 N0, .int .i64 C0]) := G12.out.gr2 gr (fun h => by simp [Value.ownBlock] at h; omega) (fun h => by simp [Value.ownBlock] at h; omega)
  have OW13 : Hid (DskO w3.heap.size RS RP (.slice pw1 RS.length cw1) (.slice pw2 RP.length cw2) w13) := OW12.out.gr2 gr ⟨fun j hj => by have := IW.out.1 j hj; exact ⟨fun h => by simp [Value.ownBlock] at h; omega, fun h => by simp [Value.ownBlock] at h; omega⟩, fun j hj => by have := IW.out.2 j hj; exact ⟨fun h => by simp [Value.ownBlock] at h; omega, fun h => by simp [Value.ownBlock] at h; omega⟩⟩
  have OG13 : Hid (DskO W7.heap.size RS RP (.slice pg1 RS.length cg1) (.slice pg2 RP.length cg2) w13) := OG12.out.gr2 gr ⟨fun j hj => by have := IG.out.1 j hj; exact ⟨fun h => by simp [Value.ownBlock] at h; omega, fun h => by simp [Value.ownBlock] at h; omega⟩, fun j hj => by have := IG.out.2 j hj; exact ⟨fun h => by simp [Value.ownBlock] at h; omega, fun h => by simp [Value.ownBlock] at h; omega⟩⟩
  have B13 : Below w.heap.size w w13 := below_gr2 B12 gr B12.size (fun k h => by simp [Value.ownBlock] at h; omega) (fun k h => by simp [Value.ownBlock] at h; omega)
  have S13 := gr.size
  clear y0 y1 hm12 gm1 gm2 gr A12 E12 X12 G12 K12 J12 OW12 OG12
  obtain ⟨y0, y1, y2, y3, y4⟩ := E13.out.five
  obtain ⟨z0, z1, z2, z3, z4⟩ := G13.out.five
  have d9 : decide (2 * (ps.length : Int) + ((ss.length : Int) + 1) < 0) = false := decide_eq_false (by omega)
  go_wp2_with fail
  refine (HEQ.out _ OG13.out OW13.out).mono ?_
  rintro e w14 ⟨rfl, b14⟩
  have A14 : Hid (Bxs w14 w.heap.size 25 #[.slice a0 ss.length cap0, .slice b0 ps.length capb]) := A13.out.below b14
  have E14 : Hid (Bxs w14 w4.heap.size 31 #[.slice pw1 RS.length cw1, .slice pw2 RP.length cw2, .string T0, .int .i64 N0, .int .i64 C0]) := E13.out.below b14
  have G14 : Hid (Bxs w14 w8.heap.size 31 #[.slice pg1 RS.length cg1, .slice pg2 RP.length cg2, .string T0, .int .i64 N0, .int .i64 C0]) := G13.out.below b14
  have OW14 : Hid (DskO w3.heap.size RS RP (.slice pw1 RS.length cw1) (.slice pw2 RP.length cw2) w14) := OW13.out.below b14
  have OG14 : Hid (DskO W7.heap.size RS RP (.slice pg1 RS.length cg1) (.slice pg2 RP.length cg2) w14) := OG13.out.below b14
  have S14 := b14.size
  have B14 := chainB B13 b14
  have hm14 := markAreaOut_any T0 N0 C0 W7.heap.size _ _ cg1 cg2 RS RP w14 OG14.out.own1 OG14.out.own2 OG14.out.ne L1 L2
  clear y0 y1 y2 y3 y4 z0 z1 z2 z3 z4 b14 A13 E13 G13 OW13 OG13
  obtain ⟨z0, z1, z2, z3, z4⟩ := G14.out.five
  go_wp2_with fail
  refine hm14.mono ?_
  rintro e w15 ⟨rfl, oM1, oM2, wm, gm1, gm2⟩
  have gr := Gr2.mk2 gm1 gm2
  have A15 : Hid (Bxs w15 w.heap.size 25 #[.slice a0 ss.length cap0, .slice b0 ps.length capb]) := A14.out.gr2 gr (IG.out.off (.inl (by omega))).1 (IG.out.off (.inl (by omega))).2
  have E15 : Hid (Bxs w15 w4.heap.size 31 #[.slice pw1 RS.length cw1, .slice pw2 RP.length cw2, .string T0, .int .i64 N0, .int .i64 C0]) := E14.out.gr2 gr (IG.out.off (.inl (by omega))).1 (IG.out.off (.inl (by omega))).2
  have G15 : Hid (Bxs w15 w8.heap.size 31 #[.slice pg1 RS.length cg1, .slice pg2 RP.length cg2, .string T0, .int .i64 N0, .int .i64 C0]) := G14.out.gr2 gr (IG.out.off (.inr (by omega))).1 (IG.out.off (.inr (by omega))).2
  have OW15 : Hid (DskO w3.heap.size RS RP (.slice pw1 RS.length cw1) (.slice pw2 RP.length cw2) w15) := OW14.out.gr2 gr (IW.out.apart IG.out (.inl (by omega)))
  have B15 : Below w.heap.size w w15 := below_gr2 B14 gr B14.size (fun k h => by have := IG.out.1 k h; omega) (fun k h => by have := IG.out.2 k h; omega)
  have S15 := gr.size
  have hN1 : (marksN 1 RS.length).length = RS.length := by simp [marksN]
  have hN2 := mpN_len (RS.length + 1) RP.length
  have M15 : Hid (DskO W7.heap.size (marksN 1 RS.length) (mpN (RS.length + 1) RP.length) (.slice pg1 RS.length cg1) (.slice pg2 RP.length cg2) w15) := ⟨by rw [hN1]; exact oM1, by rw [hN2]; exact oM2, OG14.out.ne⟩
  have HM : Hid (∀ x, DskO W7.heap.size (marksN 1 RS.length) (mpN (RS.length + 1) RP.length) (.slice pg1 RS.length cg1) (.slice pg2 RP.length cg2) x → Calls Tryz.prog 12 #[.agg #[.slice pg1 RS.length cg1, .slice pg2 RP.length cg2, .string T0, .int .i64 N0, .int .i64 C0], .int .i64 1] x fun e x' => e = .returned (.int .i64 (2 * (RP.length : Int) + ((RS.length : Int) + 1))) ∧ Below x.heap.size x x') := fun x h => by
    have h' : DskO W7.heap.size (marksN 1 RS.length) (mpN (RS.length + 1) RP.length) (.slice pg1 (marksN 1 RS.length).length cg1) (.slice pg2 (mpN (RS.length + 1) RP.length).length cg2) x := by rw [hN1, hN2]; exact h
    exact heldAreaOut_any T0 N0 C0 pg1 pg2 cg1 cg2 RS.length RP.length x h'.read.1 h'.read.2 L1 L2 mg1 mg2
  clear z0 z1 z2 z3 z4 hm14 gm1 gm2 gr A14 E14 G14 OW14 OG14 oM1 oM2 hN1 hN2
  obtain ⟨z0, z1, z2, z3, z4⟩ := G15.out.five
  have d10 : decide (2 * (RP.length : Int) + ((RS.length : Int) + 1) < 0) = false := decide_eq_false (by omega)
  go_wp2_with fail
  refine (HM.out _ M15.out).mono ?_
  rintro e w16 ⟨rfl, b16⟩
  have A16 : Hid (Bxs w16 w.heap.size 25 #[.slice a0 ss.length cap0, .slice b0 ps.length capb]) := A15.out.below b16
  have E16 : Hid (Bxs w16 w4.heap.size 31 #[.slice pw1 RS.length cw1, .slice pw2 RP.length cw2, .string T0, .int .i64 N0, .int .i64 C0]) := E15.out.below b16
  have G16 : Hid (Bxs w16 w8.heap.size 31 #[.slice pg1 RS.length cg1, .slice pg2 RP.length cg2, .string T0, .int .i64 N0, .int .i64 C0]) := G15.out.below b16
  have OW16 : Hid (DskO w3.heap.size RS RP (.slice pw1 RS.length cw1) (.slice pw2 RP.length cw2) w16) := OW15.out.below b16
  have M16 : Hid (DskO W7.heap.size (marksN 1 RS.length) (mpN (RS.length + 1) RP.length) (.slice pg1 RS.length cg1) (.slice pg2 RP.length cg2) w16) := M15.out.below b16
  have B16 := chainB B15 b16
  clear z0 z1 z2 z3 z4 b16 A15 E15 G15 OW15 M15
  obtain ⟨x0, x1⟩ := A16.out.two
  go_wp2_with fail
  refine (toDisk_any a0 b0 cap0 capb ss ps w16 (P1.out.below B16) (P2.out.below B16) l1 l2 hcap hcap2).mono ?_
  rintro e w17 ⟨g17, g18, hg17, hg18, rfl, k17, k18, b17⟩
  have h17 := hI.out w17 _ ss.length _ ps.length (chainB B16 b17) k17.txt k18.pnd (Nat.le_refl _) (Nat.le_refl _)
  clear x0 x1 A16
  go_wp2_with fail
  refine h17.mono ?_
  rintro e w18 ⟨vh1, vh2, rfl, oH, b18⟩
  obtain ⟨ph1, ch1, ph2, ch2, rfl, rfl, mh1, mh2⟩ := oH.form
  obtain ⟨W19, hW19⟩ : ∃ W19, W19 = w18.alloc (.cells #[.slice ph1 RS.length ch1, .slice ph2 RP.length ch2, .string T0, .int .i64 N0, .int .i64 C0] 31) := ⟨_, rfl⟩
  have HW19 : Hid (W19 = w18.alloc (.cells #[.slice ph1 RS.length ch1, .slice ph2 RP.length ch2, .string T0, .int .i64 N0, .int .i64 C0] 31)) := hW19
  have b19 : Below w18.heap.size w18 W19 := by rw [hW19]; exact (Below.refl _ _).alloc (Nat.le_refl _) _
  have b169 := chainB (chainB b17 b18) b19
  have E19 := E16.out.below b169
  have G19 : Hid (Bxs W19 w8.heap.size 31 #[.slice pg1 RS.length cg1, .slice pg2 RP.length cg2, .string T0, .int .i64 N0, .int .i64 C0]) := G16.out.below b169
  have OW19 := OW16.out.below b169
  have M19 : Hid (DskO W7.heap.size (marksN 1 RS.length) (mpN (RS.length + 1) RP.length) (.slice pg1 RS.length cg1) (.slice pg2 RP.length cg2) W19) := M16.out.below b169
  have OH19 := oH.below b19
  have B19 := chainB B16 b169
  obtain ⟨y0, y1, y2, y3, y4⟩ := E19.five
  rw [hW19] at y0 y1 y2 y3 y4
  have q19 := eqAreaOut_any T0 N0 C0 ph1 ph2 pw1 pw2 ch1 ch2 cw1 cw2 RS RP W19 OH19.read.1 OH19.read.2 OW19.read.1 OW19.read.2 L1 L2 mh1 mh2 mw1 mw2
  clear hW19 b17 b18 b19 b169 E16 G16 OW16 M16 oH OH19 OW19 E19 k17 k18 hg17 hg18 h17
  go_wp2_with fail
  rw [← HW19.out] at y0 y1 y2 y3 y4 ⊢
  refine q19.mono ?_
  rintro e w20 ⟨rfl, b20⟩
  have G20 := G19.out.below b20
  have h20 := HM.out _ (M19.out.below b20)
  have B20 := chainB B19 b20
  clear y0 y1 y2 y3 y4 q19 b20 G19 M19
  obtain ⟨z0, z1, z2, z3, z4⟩ := G20.five
  go_wp2_with fail
  refine h20.mono ?_
  rintro e w21 ⟨rfl, b21⟩
  have B21 := chainB B20 b21
  clear z0 z1 z2 z3 z4 h20 G20
  go_wp2_with fail
  go_ret
  exact ⟨rfl, B21⟩

theorem contract (H : Type) (enc : TypeId × Value → H) (W : World) (base : Nat) (args : Array Value) (ds gs : List (DataW H)) (before : List MemPlace)
    (hval : ∀ (j : Nat) t v, Tryz.f3.params[j]? = some t → args[j]? = some v → Value.okWide Tryz.prog W .any base t v)
    (hW : DataW.Whole enc Tryz.prog Tryz.f3.params.toList Rows.fnExactAreaPutSpec.vars false W args.toList ds gs before) (hL : laidMetH Tryz.prog Rows.fnExactAreaPutRow.laid W) :
    Calls Tryz.prog 3 args W fun e W' => ∃ v, e = .returned v ∧ Rows.fnExactAreaPutSpec.post enc Tryz.prog Tryz.f3 false true false false W args v W' := by
  have hW' := hW
  obtain ⟨p, q, hA0, hV, rfl, hfz, hnd⟩ := hW
  have hA : DataW.TrodAll enc Tryz.prog W 0 (fun _ => true) true Tryz.f3.params.toList args.toList ds p := hA0
  rw [Tryz.params3] at hA hval
  obtain ⟨v0, vs0, d0, ds0, p0, q0, hargs, rfl, rfl, h0, r0⟩ := trodAll_cons hA
  obtain ⟨v1, vs1, d1, ds1, p1, q1, rfl, rfl, rfl, h1, r1⟩ := trodAll_cons r0
  obtain ⟨v2, vs2, d2, ds2, p2, q2, rfl, rfl, rfl, h2, r2⟩ := trodAll_cons r1
  obtain ⟨rfl, rfl, rfl⟩ := trodAll_nil r2
  obtain rfl : args = #[v0, v1, v2] := by cases args; simp_all
  have hV2 : DataW.TrodVars enc Tryz.prog W (fun _ => true) ["loop.example/g00633/impl.errNoRoom", "loop.example/g00633/impl.errDiskForm", "loop.example/g00633/impl.errNoHead", "loop.example/g00633/impl.errLacking"] gs q := hV
  obtain ⟨g0, g1, g2, g3, rfl⟩ := four_vars hV2
  have k0 := h0
  have lt0 : ∀ x ∈ p0, x.block < W.heap.size := by obtain ⟨m, hm⟩ := k0; exact DataW.trod_lt m _ _ _ hm
  obtain ⟨a0, len0, cap0, b0, lenb0, capb0, rfl, ⟨ss0, wa0⟩, ⟨ts0, wb0⟩⟩ := open_disk (hval 0 25 v0 rfl rfl) h0
  have w0 := And.intro wa0 wb0
  obtain ⟨a1, rfl, rfl, rfl, w1⟩ := open_string Tryz.underlying9 (hval 1 9 v1 rfl rfl) h1
  obtain ⟨a2, rfl, rfl, rfl, w2⟩ := open_int Tryz.underlying2 (hval 2 2 v2 rfl rfl) h2
  clear hA0
  obtain ⟨hLd, e1, e2, e3, e4, hSn⟩ := laid5_of hL
  refine (walk a0 len0 cap0 ss0 b0 lenb0 capb0 ts0 a1 a2 W w0 w1 w2 e1 e2 e3 e4 hSn hLd).mono fun e W' ⟨he, hg⟩ => ?_
  subst he
  exact ⟨_, rfl, _, _, _, [], _, _, hW', (trodAll_cons_mk (shut_bool Tryz.underlying4 _) trodAll_mk0), (trodAll_cons_mk (Below.trod laidOut (by kernel_rfl) (of_decide_eq_true (by kernel_rfl)) k0 hg lt0) (trodAll_cons_mk (shut_string Tryz.underlying9 w1) (trodAll_cons_mk (shut_int Tryz.underlying2 w2) trodAll_mk0))), Below.trodVars laidOut hg (by kernel_rfl) hV, hg.frame _, fun h => by cases h⟩

/-- A start in which the listed variables lie as the program's text lays them: what the door's own run leaves. -/
noncomputable def wit (os : Os) : World := World.doorLaid Tryz.prog 92 os
theorem laid_met (os : Os) : laidMetH Tryz.prog Rows.fnExactAreaPutRow.laid ((wit os).forCall (fun _ _ => 0) ⟨#[], #[.agg #[.slice none 0 0, .slice none 0 0], .string ByteArray.empty, .int .i64 0], []⟩).memory :=
  laidMetH_of_parts3 (fuel := 8) (laidMet_of_run' 8 (by kernel_rfl) (by kernel_rfl)) (by kernel_rfl) (by kernel_rfl)
theorem reads (os : Os) {H : Type} (enc : TypeId × Value → H) : ∃ gs places, DataW.whole enc Tryz.prog ((wit os).forCall (fun _ _ => 0) ⟨#[], #[.agg #[.slice none 0 0, .slice none 0 0], .string ByteArray.empty, .int .i64 0], []⟩).memory Tryz.f3.params.toList Rows.fnExactAreaPutSpec.vars false #[.agg #[.slice none 0 0, .slice none 0 0], .string ByteArray.empty, .int .i64 0].toList 8 = some ([.agg [.nil, .nil], .lit (.string []), .lit (.int .i64 0)], gs, places) := by
  have h : (DataW.whole enc Tryz.prog ((wit os).forCall (fun _ _ => 0) ⟨#[], #[.agg #[.slice none 0 0, .slice none 0 0], .string ByteArray.empty, .int .i64 0], []⟩).memory Tryz.f3.params.toList Rows.fnExactAreaPutSpec.vars false #[.agg #[.slice none 0 0, .slice none 0 0], .string ByteArray.empty, .int .i64 0].toList 8).map (fun x => x.1) = some [.agg [.nil, .nil], .lit (.string []), .lit (.int .i64 0)] := by kernel_rfl
  obtain ⟨⟨a, b, c⟩, hx, hy⟩ := Option.map_eq_some_iff.1 h
  cases hy
  exact ⟨b, c, hx⟩

theorem lifted (os : Os) (started : os.Started) (H : Type) (enc : TypeId × Value → H) (F : Stop.Interp) :
    ReturnsInHanded {} Tryz.checked os 3 .any ((OpenSpec.ofChange Rows.fnExactAreaPutSpec).preRow enc Tryz.prog Tryz.f3 Rows.fnExactAreaPutRow.domain false Rows.fnExactAreaPutRow.laid) (((OpenSpec.ofChange Rows.fnExactAreaPutSpec).at F).post enc Tryz.prog Tryz.f3 false true false false) := by
  obtain ⟨gs, places, hx⟩ := reads os enc
  refine returnsInHanded_of_row (C := Tryz.checked) (s := OpenSpec.ofChange Rows.fnExactAreaPutSpec) own started (by kernel_rfl) Tryz.func3
    (witness_row_at (enc := enc) (C := Tryz.checked) false (wit os) #[.agg #[.slice none 0 0, .slice none 0 0], .string ByteArray.empty, .int .i64 0] rfl (by kernel_rfl) (by kernel_rfl) (by kernel_rfl)
      (OpenSpec.preRow_of_cond 8 hx rfl (fun k hk => by cases hk) (by kernel_rfl) (laid_met os))) ?_
  intro W base args ds gs before hval hW _ _ _ hL _ _
  exact contract H enc W base args ds gs before hval hW hL

theorem said : Rows.FnExactAreaPutSaid :=
  OpenClaim.holds_of_cond 3 Tryz.f3 rfl rfl rfl rfl rfl rfl rfl ⟨rfl, rfl, rfl, rfl, rfl⟩ rfl rfl rfl rfl rfl (by kernel_rfl) Tryz.func3 (by kernel_rfl)
    (of_decide_eq_true (by kernel_rfl)) (by unfold Func.isWrapper; first | (rw [if_pos (by decide +kernel)]; kernel_rfl) | (rw [if_neg (by decide +kernel)]; exact ⟨rfl, rfl⟩))
    (fun os started H enc _ F => by rw [OpenClaim.pre_eq_preRow]; exact lifted os started H enc F)

theorem plain (f : FuncId) (fn : Func) (hf : Tryz.pinned.checked.prog.funcNamed "loop.example/g00633/laws.FnExactAreaPut" = some f) (hfn : Tryz.pinned.checked.prog.funcs[f]? = some fn) :
    Rows.fnExactAreaPutCard.stood.looks = Tryz.pinned.checked.prog.looks [] ∧ ∀ (j : Nat) t, fn.params[j]? = some t → Tryz.pinned.checked.prog.wantsStandIn t = false := by
  obtain rfl : f = 3 := Option.some.inj ((show Tryz.prog.funcNamed "loop.example/g00633/laws.FnExactAreaPut" = some 3 by kernel_rfl).symm.trans hf) |>.symm
  obtain rfl : fn = Tryz.f3 := (Option.some.inj (Tryz.func3.symm.trans hfn)).symm
  refine ⟨by kernel_rfl, fun j t ht => ?_⟩
  rw [Tryz.params3] at ht
  have hm := Array.mem_of_getElem? ht
  have hl : t ∈ ([25, 9, 2] : List TypeId) := by simpa using hm
  simp only [List.mem_cons, List.not_mem_nil, or_false] at hl
  rcases hl with rfl | rfl | rfl
  · exact (show Tryz.prog.wantsStandIn 25 = false by kernel_rfl)
  · exact (show Tryz.prog.wantsStandIn 9 = false by kernel_rfl)
  · exact (show Tryz.prog.wantsStandIn 2 = false by kernel_rfl)

theorem proved : Rows.FnExactAreaPutCardSaid :=
  Claim7.holds_tied_plain_at .later [] _ _ _ _ said (fun _ h => by cases h) (by kernel_rfl) (fun _ h => by cases h) fnExactAreaPut_row_tie rfl ⟨rfl, rfl⟩ (by kernel_rfl) rfl plain (by kernel_rfl)
#print axioms proved
end Go.Proofs.YtkhffoailfnepakGreatDoor.fnExactAreaPut
