/-
  For every Range and text the law FnExactRangeAdd returns true: the program's RangeAdd answers as the specification's, writes into no argument, and its answer owns its memory; the card ties the two listed tables, firstState and roundNums, to the program's text.
  Conditions: none of mine; the form's own reach; the two tables as the program's text lays them (the given tie). The card speaks of the pruned copy of the project that the seat names.
-/
import Derived.Test.YtclpccnppmbpcahDoorCards
import Derived.Test.YtclpccnppmbpcahDoorTie
import Derived.Test.YtclpccnppmbpcahDoorAddI
import Derived.Test.YtclpccnppmbpcahDoorAdd2
import Derived.Test.YtclpccnppmbpcahDoorLawR
import Derived.Test.YtclpccnppmbpcahDoorLawS
import Derived.Test.YtclpccnppmbpcahDoorLawM
import Derived.Test.YtclpccnppmbpcahDoorLawRM
import Derived.Test.YtclpccnppmbpcahDoorTabsOf
import Derived.WalkKit
import Derived.ProofKit
import Derived.OpenShut
import Derived.OpenVars
import Derived.ShutString
import Derived.LaidHandle
import Derived.LaidLaws
import Derived.Deep.DeepHandedRow
import Derived.ChangeOld
import Derived.Below
import Derived.Deep.Strs
namespace Go.Proofs.YtclpccnppmbpcahDoor.fnExactRangeAdd
open Go.ChangeShapes Go.WideShapes Go.ChangeAt Go.RowKit
open Go.ChangeMaps (open_string shut_string)
set_option linter.unusedVariables false

theorem own : ownKnob Tryd.prog.godebug = none := by kernel_rfl
theorem laidOut : laidOutB Tryd.prog = true := by kernel_rfl

/-- What the walk is told of a slice of texts that came in. -/
def IsTexts (w : World) (a : Option Addr) (len cap : Nat) (ss : List ByteArray) : Prop :=
  ss.length = len ∧ TxtAt w a ss ∧ len ≤ cap ∧ cap ≤ maxLen ∧ ∀ x ∈ ss, x.size ≤ maxLen
theorem texts_of {H : Type} {enc : TypeId × Value → H} {W : World} {base : Nat} {fuel : Nat} {x : DataW H × List MemPlace} {a : Option Addr} {len cap : Nat}
    (h : DataW.trod enc Tryd.prog W base (fun _ => true) true fuel 22 [.slice a len cap] = some x) : ∃ ss, IsTexts W a len cap ss := by
  rcases Go.Deep.open_strs Tryd.underlying22 Tryd.underlying9 (by kernel_rfl) h with ⟨hcs, _⟩ | ⟨ad, l, c, m, Sx, hcs, _, hl, hm, hmm, _, hx⟩
  · simp at hcs
    obtain ⟨rfl, rfl, rfl⟩ := hcs
    exact ⟨[], rfl, TxtAt.nil _ _, Nat.le_refl _, by unfold maxLen; omega, fun x hx => by cases hx⟩
  · simp at hcs
    obtain ⟨rfl, rfl, rfl⟩ := hcs
    rw [if_pos rfl] at hmm
    subst hmm
    refine ⟨(List.range len).map Sx, by simp, ?_, hl, hm, ?_⟩
    · intro i hi
      have hi2 : i < len := by simpa using hi
      obtain ⟨b, off, spot⟩ := ad
      have hc := (hx i (by omega)).1
      have hspot : spot = none := by simpa [Addr.add] using World.cell?_spot (hx 0 (by omega)).1
      subst hspot
      have hadd : (⟨b, off, none⟩ : Addr).add i = ⟨b, off + i, none⟩ := by unfold Addr.add; split <;> simp_all
      rw [hadd] at hc
      exact ⟨b, off, rfl, World.block_lt_of_cell? W _ hc, by rw [hc]; simp⟩
    · intro x hxm
      obtain ⟨i, hi, rfl⟩ := List.mem_map.1 hxm
      exact (hx i (by have := List.mem_range.1 hi; omega)).2

theorem open_range {H : Type} {enc : TypeId × Value → H} {W : World} {base : Nat} {v : Value} {d : DataW H} {ps : List MemPlace} (hval : Value.okWide Tryd.prog W .any base 31 v)
    (h : DataW.Trod enc Tryd.prog W 0 (fun _ => true) true 31 v d ps) : ∃ n a len cap, v = .agg #[.int .i64 n, .slice a len cap] ∧ (Lit.int .i64 n).wf = true ∧ ∃ ss, IsTexts W a len cap ss := by
  obtain ⟨cs, rfl, hsz⟩ := okWide_struct Tryd.underlying31 hval
  have h2 : cs.size = 2 := hsz.trans (by kernel_rfl)
  obtain ⟨fuel, hf⟩ := h
  obtain ⟨y0, y1, m, _, _, ht0, ht1⟩ := trod_struct2 Tryd.underlying31 hf
  obtain ⟨c0, c1, rfl⟩ : ∃ c0 c1, cs = #[c0, c1] := by
    match cs, h2 with
    | ⟨[c0, c1]⟩, _ => exact ⟨c0, c1, rfl⟩
  have e0 : Tryd.prog.cellsOf 2 = 1 := by kernel_rfl
  have e1 : Tryd.prog.cellsOf 22 = 1 := by kernel_rfl
  simp only [Value.cells, e0, e1, List.drop_zero, List.take_succ_cons, List.take_zero, List.drop_succ_cons] at ht0 ht1
  obtain ⟨n, hc0, _, hw⟩ := DataW.trod_int Tryd.underlying2 ht0
  simp at hc0
  subst hc0
  rcases Go.Deep.open_strs Tryd.underlying22 Tryd.underlying9 (by kernel_rfl) ht1 with ⟨hcs, _⟩ | ⟨ad, l, c, mm, Sx, hcs, _⟩
  · simp at hcs
    subst hcs
    exact ⟨n, _, _, _, rfl, hw, texts_of ht1⟩
  · simp at hcs
    subst hcs
    exact ⟨n, _, _, _, rfl, hw, texts_of ht1⟩

theorem int_bd {k : Int} (h : (Lit.int .i64 k).wf = true) : -9223372036854775808 ≤ k ∧ k ≤ 9223372036854775807 := by simpa [Lit.wf, IntKind.min, IntKind.max, IntKind.signed, IntKind.bits] using h
theorem tyR : 33 ≠ 9 := by decide
theorem tyL : 31 ≠ 9 := by decide
theorem addL_le (n : Int) (ss : List ByteArray) (t : ByteArray) (h : ss.length ≤ 1048576) : (addL n ss t).length ≤ 1048576 := by
  unfold addL; split
  · simp
  · split
    · rename_i hok
      obtain ⟨h1, h2, h3, _⟩ := rngB_of hok.1
      obtain ⟨_, _, _, _, _, _, _, _, _, _, _, _, _, _, h7⟩ := swar n.toNat (by omega)
      have := carry_len n.toNat ss (leafB t)
      omega
    · exact h
set_option maxHeartbeats 2000000 in
theorem walk (n : Int) (a0 : Option Addr) (len0 cap0 : Nat) (ss : List ByteArray) (hwf : (Lit.int .i64 n).wf = true) (t : ByteArray) (w : World) (w0 : IsTexts w a0 len0 cap0 ss) (w1 : t.size ≤ maxLen) (hg : Tabs w) :
    Calls Tryd.prog 6 #[.agg #[.int .i64 n, .slice a0 len0 cap0], .string t] w fun e w' => e = .returned (.bool true) ∧ Below w.heap.size w w' := by
  obtain ⟨rfl, hp, hcap, hm, hsz⟩ := w0
  obtain ⟨n0, n1⟩ := int_bd hwf
  have ht := w1
  have HG : Hid (Tabs w) := hg
  have HP : Hid (TxtAt w a0 ss) := hp
  have HS : Hid (∀ x ∈ ss, x.size ≤ maxLen) := hsz
  clear hg hp hsz hwf
  unfold maxLen at hm w1
  have b1 : Below w.heap.size w (w.alloc (.cells #[.int .i64 n, .slice a0 ss.length cap0] 31)) := (Below.refl _ _).alloc (Nat.le_refl _) _
  by_cases hbt : 1048576 < t.size
  · go_enter Tryd.func6, Tryd.ntmps6
    go_wp2_with fail
    go_ret
    exact ⟨rfl, b1⟩
  obtain ⟨W1, hW1⟩ : ∃ W1, W1 = w.alloc (.cells #[.int .i64 n, .slice a0 ss.length cap0] 31) := ⟨_, rfl⟩
  rw [← hW1] at b1
  have A1 : Hid (Bx W1 w.heap.size 31 n (.slice a0 ss.length cap0)) := by rw [hW1]; exact Bx.new w _ _ _
  have HWA : Hid (W1 = w.alloc (.cells #[.int .i64 n, .slice a0 ss.length cap0] 31)) := hW1
  clear hW1
  go_enter Tryd.func6, Tryd.ntmps6
  go_wp2_with fail
  rw [← HWA.out]
  refine (szR_any n a0 cap0 ss W1 (HP.out.below b1) (by omega) hcap (fun x hx => by have := HS.out x hx; unfold maxLen at this; exact this)).mono ?_
  rintro e w2 ⟨⟨r, rfl, hr⟩, b2⟩
  have B2 := chainB b1 b2
  rcases hr with rfl | ⟨hr0, hl, hx⟩
  · go_wp2_with fail
    go_ret
    exact ⟨rfl, B2⟩
  have HX : Hid (∀ x ∈ ss, x.size ≤ 1048576) := hx
  clear hx HS
  have A2 : Hid (Bx w2 w.heap.size 31 n (.slice a0 ss.length cap0)) := A1.out.below b2
  obtain ⟨x0, x1⟩ := A2.out.cells
  -- w0
  go_wp2_with fail
  refine (toR_any n a0 cap0 ss w2 (HP.out.below B2) hl hcap).mono ?_
  rintro e w3 ⟨g3, hg3, rfl, hB3, b3⟩
  have K3 : Hid (BlkS w3 g3 ss) := hB3
  have B3 := chainB B2 b3
  have A3 : Hid (Bx w3 w.heap.size 31 n (.slice a0 ss.length cap0)) := A2.out.below b3
  clear hB3 x0 x1
  go_wp2_with fail
  refine (specAdd_any n _ ss.length ss t w3 K3.out.txt hl (Nat.le_refl _) HX.out ht n0 n1).mono ?_
  rintro e w4 ⟨vw, rfl, oW, b4⟩
  have B4 := chainB B3 b4
  have A4 : Hid (Bx w4 w.heap.size 31 n (.slice a0 ss.length cap0)) := A3.out.below b4
  have hRl := addL_le n ss t hl
  obtain ⟨m, hm'⟩ : ∃ m, m = addN n ss t := ⟨_, rfl⟩
  obtain ⟨R, hR⟩ : ∃ R, R = addL n ss t := ⟨_, rfl⟩
  have EQM : Hid (addN n ss t = m) := hm'.symm
  have EQR : Hid (addL n ss t = R) := hR.symm
  rw [← hm']
  rw [← hR] at oW hRl
  clear hm' hR
  have OW4 : Hid (w4.ownsRow w3.heap.size 9 1 vw R.length (strRow R)) := oW
  obtain ⟨pw, cw, rfl, hcw, _⟩ := ownS_form OW4.out
  clear oW
  obtain ⟨W5, hW5⟩ : ∃ W5, W5 = w4.alloc (.cells #[.int .i64 m, .slice pw R.length cw] 33) := ⟨_, rfl⟩
  have b5 : Below w4.heap.size w4 W5 := by rw [hW5]; exact (Below.refl _ _).alloc (Nat.le_refl _) _
  have W5b : Hid (Bx W5 w4.heap.size 33 m (.slice pw R.length cw)) := by rw [hW5]; exact Bx.new w4 _ _ _
  have HW5 : Hid (W5 = w4.alloc (.cells #[.int .i64 m, .slice pw R.length cw] 33)) := hW5
  have B5 := chainB B4 b5
  have A5 : Hid (Bx W5 w.heap.size 31 n (.slice a0 ss.length cap0)) := A4.out.below b5
  have OW5 : Hid (W5.ownsRow w3.heap.size 9 1 (.slice pw R.length cw) R.length (strRow R)) := ownS_below OW4.out b5
  obtain ⟨x0, x1⟩ := A5.out.cells
  rw [hW5] at x0 x1
  clear hW5
  -- x0
  go_wp2_with fail
  rw [← HW5.out] at x0 x1 ⊢
  refine (toR_any n a0 cap0 ss W5 (HP.out.below B5) hl hcap).mono ?_
  rintro e w6 ⟨g6, hg6, rfl, hB6, b6⟩
  have K6 : Hid (BlkS w6 g6 ss) := hB6
  have B6 := chainB B5 b6
  have A6 := A5.out.below b6
  have W6b := W5b.out.below b6
  have OW6 := ownS_below OW5.out b6
  clear hB6 x0 x1
  obtain ⟨W7, hW7⟩ : ∃ W7, W7 = w6.alloc (.cells #[.int .i64 n, .slice (some ⟨g6, 0, none⟩) ss.length ss.length] 33) := ⟨_, rfl⟩
  have b7 : Below w6.heap.size w6 W7 := by rw [hW7]; exact (Below.refl _ _).alloc (Nat.le_refl _) _
  have X7 : Hid (Bx W7 w6.heap.size 33 n (.slice (some ⟨g6, 0, none⟩) ss.length ss.length)) := by rw [hW7]; exact Bx.new w6 _ _ _
  have HW7 : Hid (W7 = w6.alloc (.cells #[.int .i64 n, .slice (some ⟨g6, 0, none⟩) ss.length ss.length] 33)) := hW7
  have B7 := chainB B6 b7
  have A7 : Hid (Bx W7 w.heap.size 31 n (.slice a0 ss.length cap0)) := A6.below b7
  have W7b : Hid (Bx W7 w4.heap.size 33 m (.slice pw R.length cw)) := W6b.below b7
  have OW7 : Hid (W7.ownsRow w3.heap.size 9 1 (.slice pw R.length cw) R.length (strRow R)) := ownS_below OW6 b7
  have K7 : Hid (BlkS W7 g6 ss) := K6.out.below b7 K6.out.lt
  clear hW7 A6 W6b OW6
  -- g0
  have hI := implAdd_any n (some ⟨g6, 0, none⟩) ss.length ss t W7 (HG.out.below B7 HG.out.1) K7.out.txt hl (Nat.le_refl _) HX.out ht n0 n1
  rw [EQM.out, EQR.out] at hI
  go_wp2_with fail
  rw [← HW7.out]
  refine hI.mono ?_
  rintro e w8 ⟨vg, rfl, oG, b8⟩
  have B8 := chainB B7 b8
  have OG8 : Hid (w8.ownsRow W7.heap.size 9 1 vg R.length (strRow R)) := oG
  obtain ⟨pg, cg, rfl, hcg, _⟩ := ownS_form OG8.out
  have A8 := A7.out.below b8
  have W8b := W7b.out.below b8
  have X8 := X7.out.below b8
  have OW8 := ownS_below OW7.out b8
  have K8 := K7.out.below b8 K7.out.lt
  clear oG hI
  obtain ⟨W9, hW9⟩ : ∃ W9, W9 = w8.alloc (.cells #[.int .i64 m, .slice pg R.length cg] 33) := ⟨_, rfl⟩
  have b9 : Below w8.heap.size w8 W9 := by rw [hW9]; exact (Below.refl _ _).alloc (Nat.le_refl _) _
  have G9 : Hid (Bx W9 w8.heap.size 33 m (.slice pg R.length cg)) := by rw [hW9]; exact Bx.new w8 _ _ _
  have HW9 : Hid (W9 = w8.alloc (.cells #[.int .i64 m, .slice pg R.length cg] 33)) := hW9
  have B9 := chainB B8 b9
  have A9 : Hid (Bx W9 w.heap.size 31 n (.slice a0 ss.length cap0)) := A8.below b9
  have W9b : Hid (Bx W9 w4.heap.size 33 m (.slice pw R.length cw)) := W8b.below b9
  have X9 : Hid (Bx W9 w6.heap.size 33 n (.slice (some ⟨g6, 0, none⟩) ss.length ss.length)) := X8.below b9
  have OW9 : Hid (W9.ownsRow w3.heap.size 9 1 (.slice pw R.length cw) R.length (strRow R)) := ownS_below OW8 b9
  have OG9 : Hid (W9.ownsRow W7.heap.size 9 1 (.slice pg R.length cg) R.length (strRow R)) := ownS_below OG8.out b9
  have K9 : Hid (BlkS W9 g6 ss) := K8.below b9 K8.lt
  obtain ⟨y0, y1⟩ := W9b.out.cells
  rw [hW9] at y0 y1
  clear hW9 A8 W8b X8 OW8 K8
  -- eqRange(g0, w0)
  have HEQ : Hid (∀ w', w'.ownsRow W7.heap.size 9 1 (.slice pg R.length cg) R.length (strRow R) → w'.ownsRow w3.heap.size 9 1 (.slice pw R.length cw) R.length (strRow R) → Calls Tryd.prog 23 #[.agg #[.int .i64 m, .slice pg R.length cg], .agg #[.int .i64 m, .slice pw R.length cw]] w' fun e w'' => e = .returned (.bool true) ∧ Below w'.heap.size w' w'') := by
    intro w' h1 h2
    obtain ⟨p1, c1, e1, _, t1⟩ := ownS_form h1
    obtain ⟨p2, c2, e2, _, t2⟩ := ownS_form h2
    cases e1
    cases e2
    have := eqR_any m m pg pw cg cw R R w' t1 t2 (by omega) (by omega) hcg hcw
    rw [decide_eq_true (And.intro rfl rfl)] at this
    exact this
  go_wp2_with fail
  rw [← HW9.out] at y0 y1 ⊢
  refine (HEQ.out _ OG9.out OW9.out).mono ?_
  rintro e w10 ⟨rfl, b10⟩
  have B10 := chainB B9 b10
  have A10 : Hid (Bx w10 w.heap.size 31 n (.slice a0 ss.length cap0)) := A9.out.below b10
  have W10 : Hid (Bx w10 w4.heap.size 33 m (.slice pw R.length cw)) := W9b.out.below b10
  have X10 : Hid (Bx w10 w6.heap.size 33 n (.slice (some ⟨g6, 0, none⟩) ss.length ss.length)) := X9.out.below b10
  have G10 : Hid (Bx w10 w8.heap.size 33 m (.slice pg R.length cg)) := G9.out.below b10
  have OW10 : Hid (w10.ownsRow w3.heap.size 9 1 (.slice pw R.length cw) R.length (strRow R)) := ownS_below OW9.out b10
  have OG10 : Hid (w10.ownsRow W7.heap.size 9 1 (.slice pg R.length cg) R.length (strRow R)) := ownS_below OG9.out b10
  have K10 : Hid (BlkS w10 g6 ss) := K9.out.below b10 K9.out.lt
  clear y0 y1
  obtain ⟨x0, x1⟩ := A10.out.cells
  obtain ⟨y0, y1⟩ := X10.out.cells
  go_wp2_with fail
  have HT7 : Hid (∀ w', Below w10.heap.size w10 w' → Calls Tryd.prog 21 #[.agg #[.int .i64 n, .slice a0 ss.length cap0]] w' fun e w'' => ∃ g, w'.heap.size ≤ g ∧ e = .returned (.agg #[.int .i64 n, .slice (some ⟨g, 0, none⟩) ss.length ss.length]) ∧ BlkS w'' g ss ∧ Below w'.heap.size w' w'') := fun w' hb =>
    toR_any n a0 cap0 ss w' (HP.out.below (chainB B10 hb)) hl hcap
  have HE7 : Hid (∀ w' g, BlkS w' g6 ss → BlkS w' g ss → Calls Tryd.prog 23 #[.agg #[.int .i64 n, .slice (some ⟨g6, 0, none⟩) ss.length ss.length], .agg #[.int .i64 n, .slice (some ⟨g, 0, none⟩) ss.length ss.length]] w' fun e w'' => e = .returned (.bool true) ∧ Below w'.heap.size w' w'') := fun w' g h1 h2 => by
    have := eqR_any n n _ _ ss.length ss.length ss ss w' h1.txt h2.txt (by omega) (by omega) (Nat.le_refl _) (Nat.le_refl _)
    rw [decide_eq_true (And.intro rfl rfl)] at this
    exact this
  go_region_with (first
    | (go_at_call 23; refine (HE7.out _ _ K11x.out K11.out).mono ?_; rintro e w12 ⟨rfl, b12⟩; have b12 := chainB b11 b12)
    | (go_at_call 21; refine (HT7.out _ ((Below.refl _ _).drew)).mono ?_; rintro e w11 ⟨g11, hg11, rfl, hB11, b11⟩; have K11 : Hid (BlkS w11 g11 ss) := hB11; have b11 := chainB ((Below.refl _ _).drew) b11; have K11x : Hid (BlkS w11 g6 ss) := K10.out.below b11 K10.out.lt; clear hB11; obtain ⟨z0, z1⟩ := (X10.out.below b11).cells))
  all_goals
    have B12 := chainB B10 b12
    have A12 : Hid (Bx w12 w.heap.size 31 n (.slice a0 ss.length cap0)) := A10.out.below b12
    have W12 : Hid (Bx w12 w4.heap.size 33 m (.slice pw R.length cw)) := W10.out.below b12
    have X12 : Hid (Bx w12 w6.heap.size 33 n (.slice (some ⟨g6, 0, none⟩) ss.length ss.length)) := X10.out.below b12
    have G12 : Hid (Bx w12 w8.heap.size 33 m (.slice pg R.length cg)) := G10.out.below b12
    have OW12 : Hid (w12.ownsRow w3.heap.size 9 1 (.slice pw R.length cw) R.length (strRow R)) := ownS_below OW10.out b12
    have OG12 : Hid (w12.ownsRow W7.heap.size 9 1 (.slice pg R.length cg) R.length (strRow R)) := ownS_below OG10.out b12
    have K12 : Hid (BlkS w12 g6 ss) := K10.out.below b12 K10.out.lt
    have hk6 : g6 < W7.heap.size := K7.out.lt
    have hb6 := b6.size
    have OX12 := K12.out.own w3.heap.size (Nat.le_trans (Nat.le_trans b4.size b5.size) hg6) (by unfold maxLen; omega)
    have hneW : (Value.slice pw R.length cw).ownBlock ≠ (Value.slice (some ⟨g6, 0, none⟩) ss.length ss.length).ownBlock := by
      intro h
      have := (OW5.out.lt g6 h).2
      omega
    have hneG : (Value.slice pg R.length cg).ownBlock ≠ (Value.slice (some ⟨g6, 0, none⟩) ss.length ss.length).ownBlock := by
      intro h
      have := (OG8.out.lt g6 h).1
      omega
    clear x0 x1 y0 y1
    obtain ⟨y0, y1⟩ := X12.out.cells
    -- markRange(x0)
    go_wp2_with fail
    refine (markR_any n w3.heap.size _ ss.length ss w12 OX12 hl).mono ?_
    rintro e w13 ⟨rfl, _, hg13⟩
    have A13 : Hid (Bx w13 w.heap.size 31 n (.slice a0 ss.length cap0)) := A12.out.grown hg13 (A12.out.ne tyL OX12)
    have W13 : Hid (Bx w13 w4.heap.size 33 m (.slice pw R.length cw)) := W12.out.grown hg13 (W12.out.ne tyR OX12)
    have G13 : Hid (Bx w13 w8.heap.size 33 m (.slice pg R.length cg)) := G12.out.grown hg13 (G12.out.ne tyR OX12)
    have OW13 : Hid (w13.ownsRow w3.heap.size 9 1 (.slice pw R.length cw) R.length (strRow R)) := OW12.out.kept hg13 (.inr hneW)
    have OG13 : Hid (w13.ownsRow W7.heap.size 9 1 (.slice pg R.length cg) R.length (strRow R)) := OG12.out.kept hg13 (.inr hneG)
    have B13 : Below w.heap.size w w13 := B12.grown hg13 B12.size (fun j hj => by have := (OX12.lt j hj).1; have := B3.size; omega)
    clear y0 y1 hneW hneG OX12
    obtain ⟨y0, y1⟩ := W13.out.cells
    obtain ⟨z0, z1⟩ := G13.out.cells
    have d9 : decide ((ss.length : Int) + 1 < 0) = false := decide_eq_false (by omega)
    go_wp2_with fail
    refine (HEQ.out _ OG13.out OW13.out).mono ?_
    rintro e w14 ⟨rfl, b14⟩
    have B14 := chainB B13 b14
    have A14 : Hid (Bx w14 w.heap.size 31 n (.slice a0 ss.length cap0)) := A13.out.below b14
    have W14 : Hid (Bx w14 w4.heap.size 33 m (.slice pw R.length cw)) := W13.out.below b14
    have G14 : Hid (Bx w14 w8.heap.size 33 m (.slice pg R.length cg)) := G13.out.below b14
    have OW14 : Hid (w14.ownsRow w3.heap.size 9 1 (.slice pw R.length cw) R.length (strRow R)) := ownS_below OW13.out b14
    have OG14 : Hid (w14.ownsRow W7.heap.size 9 1 (.slice pg R.length cg) R.length (strRow R)) := ownS_below OG13.out b14
    clear y0 y1 z0 z1
    obtain ⟨z0, z1⟩ := G14.out.cells
    -- markRange(g0)
    go_wp2_with fail
    refine (markR_any m W7.heap.size pg cg R w14 OG14.out (by omega)).mono ?_
    rintro e w15 ⟨rfl, oG15, hg15⟩
    have hML : (marksL R.length).length = R.length := by simp [marksL]
    have OG15 : Hid (w15.ownsRow W7.heap.size 9 1 (.slice pg R.length cg) (marksL R.length).length (strRow (marksL R.length))) := by rw [hML]; exact oG15
    have A15 : Hid (Bx w15 w.heap.size 31 n (.slice a0 ss.length cap0)) := A14.out.grown hg15 (A14.out.ne tyL OG14.out)
    have W15 : Hid (Bx w15 w4.heap.size 33 m (.slice pw R.length cw)) := W14.out.grown hg15 (W14.out.ne tyR OG14.out)
    have G15 : Hid (Bx w15 w8.heap.size 33 m (.slice pg R.length cg)) := G14.out.grown hg15 (G14.out.ne tyR OG14.out)
    have OW15 : Hid (w15.ownsRow w3.heap.size 9 1 (.slice pw R.length cw) R.length (strRow R)) := OW14.out.kept hg15 (by
      by_cases h0 : (Value.slice pw R.length cw).ownBlock = none
      · exact .inl h0
      · refine .inr fun h => ?_
        cases hb0 : (Value.slice pw R.length cw).ownBlock with
        | none => exact h0 hb0
        | some g =>
          have h8 := (OW5.out.lt g hb0).2
          have h9 := (OG14.out.lt g (by rw [← h, hb0])).1
          have := b7.size
          omega)
    have B15 : Below w.heap.size w w15 := B14.grown hg15 B14.size (fun j hj => by have := (OG14.out.lt j hj).1; have := B7.size; omega)
    clear oG15 z0 z1
    obtain ⟨z0, z1⟩ := G15.out.cells
    obtain ⟨pg', cg', hvg, hcg2, tg15⟩ := ownS_form OG15.out
    rw [hML] at hvg
    cases hvg
    -- heldRange(g0)
    go_wp2_with fail
    refine (heldR_any m pg cg R.length w15 tg15 (by omega) hcg).mono ?_
    rintro e w16 ⟨rfl, b16⟩
    have B16 := chainB B15 b16
    have A16 : Hid (Bx w16 w.heap.size 31 n (.slice a0 ss.length cap0)) := A15.out.below b16
    have W16 : Hid (Bx w16 w4.heap.size 33 m (.slice pw R.length cw)) := W15.out.below b16
    have G16 : Hid (Bx w16 w8.heap.size 33 m (.slice pg R.length cg)) := G15.out.below b16
    have OW16 : Hid (w16.ownsRow w3.heap.size 9 1 (.slice pw R.length cw) R.length (strRow R)) := ownS_below OW15.out b16
    have OG16 : Hid (w16.ownsRow W7.heap.size 9 1 (.slice pg R.length cg) (marksL R.length).length (strRow (marksL R.length))) := ownS_below OG15.out b16
    clear z0 z1 tg15
    obtain ⟨x0, x1⟩ := A16.out.cells
    -- h0
    go_wp2_with fail
    refine (toR_any n a0 cap0 ss w16 (HP.out.below B16) hl hcap).mono ?_
    rintro e w17 ⟨g17, hg17, rfl, hB17, b17⟩
    have K17 : Hid (BlkS w17 g17 ss) := hB17
    have B17 := chainB B16 b17
    have W17 := W16.out.below b17
    have G17 := G16.out.below b17
    have OW17 := ownS_below OW16.out b17
    have OG17 := ownS_below OG16.out b17
    clear hB17 x0 x1
    have hI := implAdd_any n (some ⟨g17, 0, none⟩) ss.length ss t w17 (HG.out.below B17 HG.out.1) K17.out.txt hl (Nat.le_refl _) HX.out ht n0 n1
    rw [EQM.out, EQR.out] at hI
    go_wp2_with fail
    refine hI.mono ?_
    rintro e w18 ⟨vh, rfl, oH, b18⟩
    have B18 := chainB B17 b18
    obtain ⟨ph, ch, rfl, hch, _⟩ := ownS_form oH
    have W18 := W17.below b18
    have G18 := G17.below b18
    have OW18 := ownS_below OW17 b18
    have OG18 := ownS_below OG17 b18
    clear hI W17 G17 OW17 OG17
    obtain ⟨W19, hW19⟩ : ∃ W19, W19 = w18.alloc (.cells #[.int .i64 m, .slice ph R.length ch] 33) := ⟨_, rfl⟩
    have b19 : Below w18.heap.size w18 W19 := by rw [hW19]; exact (Below.refl _ _).alloc (Nat.le_refl _) _
    have HW19 : Hid (W19 = w18.alloc (.cells #[.int .i64 m, .slice ph R.length ch] 33)) := hW19
    have B19 := chainB B18 b19
    have W19b := W18.below b19
    have G19 : Hid (Bx W19 w8.heap.size 33 m (.slice pg R.length cg)) := G18.below b19
    have OW19 := ownS_below OW18 b19
    have OG19 : Hid (W19.ownsRow W7.heap.size 9 1 (.slice pg R.length cg) (marksL R.length).length (strRow (marksL R.length))) := ownS_below OG18 b19
    have OH19 := ownS_below oH b19
    obtain ⟨y0, y1⟩ := W19b.cells
    rw [hW19] at y0 y1
    obtain ⟨ph', ch', hvh, hch2, th19⟩ := ownS_form OH19
    cases hvh
    obtain ⟨pw', cw', hvw, hcw2, tw19⟩ := ownS_form OW19
    cases hvw
    have q19 := eqR_any m m ph pw ch cw R R W19 th19 tw19 (by omega) (by omega) hch hcw
    rw [decide_eq_true (And.intro rfl rfl)] at q19
    clear hW19 W18 G18 OW18 OG18 oH th19 tw19 OH19 OW19
    go_wp2_with fail
    rw [← HW19.out] at y0 y1 ⊢
    refine q19.mono ?_
    rintro e w20 ⟨rfl, b20⟩
    have B20 := chainB B19 b20
    have G20 : Hid (Bx w20 w8.heap.size 33 m (.slice pg R.length cg)) := G19.out.below b20
    have OG20 : Hid (w20.ownsRow W7.heap.size 9 1 (.slice pg R.length cg) (marksL R.length).length (strRow (marksL R.length))) := ownS_below OG19.out b20
    clear y0 y1 q19
    obtain ⟨z0, z1⟩ := G20.out.cells
    obtain ⟨pg', cg', hvg, hcg3, tg20⟩ := ownS_form OG20.out
    rw [hML] at hvg
    cases hvg
    go_wp2_with fail
    refine (heldR_any m pg cg R.length w20 tg20 (by omega) hcg).mono ?_
    rintro e w21 ⟨rfl, b21⟩
    have B21 := chainB B20 b21
    clear tg20
    go_wp2_with fail
    go_ret
    exact ⟨rfl, B21⟩

theorem contract (H : Type) (enc : TypeId × Value → H) (W : World) (base : Nat) (args : Array Value) (ds gs : List (DataW H)) (before : List MemPlace)
    (hval : ∀ (j : Nat) t v, Tryd.f6.params[j]? = some t → args[j]? = some v → Value.okWide Tryd.prog W .any base t v)
    (hW : DataW.Whole enc Tryd.prog Tryd.f6.params.toList Rows.fnExactRangeAddSpec.vars false W args.toList ds gs before) (hL : laidMetH Tryd.prog Rows.fnExactRangeAddRow.laid W) :
    Calls Tryd.prog 6 args W fun e W' => ∃ v, e = .returned v ∧ Rows.fnExactRangeAddSpec.post enc Tryd.prog Tryd.f6 false true false false W args v W' := by
  have hW' := hW
  obtain ⟨p, q, hA0, hV, rfl, hfz, hnd⟩ := hW
  have hA : DataW.TrodAll enc Tryd.prog W 0 (fun _ => true) true Tryd.f6.params.toList args.toList ds p := hA0
  rw [Tryd.params6] at hA hval
  obtain ⟨v0, vs0, d0, ds0, p0, q0, hargs, rfl, rfl, h0, r0⟩ := trodAll_cons hA
  obtain ⟨v1, vs1, d1, ds1, p1, q1, rfl, rfl, rfl, h1, r1⟩ := trodAll_cons r0
  obtain ⟨rfl, rfl, rfl⟩ := trodAll_nil r1
  obtain rfl : args = #[v0, v1] := by cases args; simp_all
  have hV2 : DataW.TrodVars enc Tryd.prog W (fun _ => true) ["loop.example/g00633/impl.firstState", "loop.example/g00633/impl.roundNums"] gs q := hV
  obtain ⟨_, _, _, _, e0, _, _, _, _, _, e1, _, rfl, _⟩ := trodVars_two hV2
  have k0 := h0
  have lt0 : ∀ x ∈ p0, x.block < W.heap.size := by obtain ⟨m, hm⟩ := k0; exact DataW.trod_lt m _ _ _ hm
  obtain ⟨n0, a0, len0, cap0, rfl, z0, ss0, w0⟩ := open_range (hval 0 31 v0 rfl rfl) h0
  obtain ⟨a1, rfl, rfl, rfl, w1⟩ := open_string Tryd.underlying9 (hval 1 9 v1 rfl rfl) h1
  clear hA0
  have hT : Tabs W := tabs_of hL
  refine (walk n0 a0 len0 cap0 ss0 z0 a1 W w0 w1 hT).mono fun e W' ⟨he, hg⟩ => ?_
  subst he
  exact ⟨_, rfl, _, _, _, [], _, _, hW', (trodAll_cons_mk (shut_bool Tryd.underlying4 _) trodAll_mk0), (trodAll_cons_mk (Below.trod laidOut (by kernel_rfl) (of_decide_eq_true (by kernel_rfl)) k0 hg lt0) (trodAll_cons_mk (shut_string Tryd.underlying9 w1) trodAll_mk0)), Below.trodVars laidOut hg (by kernel_rfl) hV, hg.frame _, fun h => by cases h⟩

/-- The variables' blocks as the initialisers leave them, for the witness. -/
def setTab (zs : List Int) : Obj → Obj
  | .cells _ t frozen => .cells (zs.map (Value.int .u32)).toArray t frozen
  | o => o
noncomputable def wit (os : Os) : World := { World.holding Tryd.prog os ⟨#[], #[], []⟩ with heap := ((World.holding Tryd.prog os ⟨#[], #[], []⟩).heap.modify 0 (setTab startN)).modify 1 (setTab keysN) }

theorem laid_met (os : Os) : laidMetH Tryd.prog Rows.fnExactRangeAddRow.laid ((wit os).forCall (fun _ _ => 0) ⟨#[], #[.agg #[.int .i64 0, .slice none 0 0], .string ByteArray.empty], []⟩).memory :=
  laidMetH_of_parts (laidMet_of_run' 8 (by kernel_rfl) (by kernel_rfl)) (by kernel_rfl)
theorem reads (os : Os) {H : Type} (enc : TypeId × Value → H) : ∃ places, DataW.whole enc Tryd.prog ((wit os).forCall (fun _ _ => 0) ⟨#[], #[.agg #[.int .i64 0, .slice none 0 0], .string ByteArray.empty], []⟩).memory Tryd.f6.params.toList Rows.fnExactRangeAddSpec.vars false #[Value.agg #[.int .i64 0, .slice none 0 0], Value.string ByteArray.empty].toList 8 = some ([.agg [.lit (.int .i64 0), .nil], .lit (.string [])], [Rows.laid_loop_example_g00633_impl_firstState, Rows.laid_loop_example_g00633_impl_roundNums], places) := by
  have h : (DataW.whole enc Tryd.prog ((wit os).forCall (fun _ _ => 0) ⟨#[], #[.agg #[.int .i64 0, .slice none 0 0], .string ByteArray.empty], []⟩).memory Tryd.f6.params.toList Rows.fnExactRangeAddSpec.vars false #[Value.agg #[.int .i64 0, .slice none 0 0], Value.string ByteArray.empty].toList 8).map (fun x => (x.1, x.2.1)) = some ([.agg [.lit (.int .i64 0), .nil], .lit (.string [])], [Rows.laid_loop_example_g00633_impl_firstState, Rows.laid_loop_example_g00633_impl_roundNums]) := by kernel_rfl
  obtain ⟨⟨a, b, c⟩, hx, hy⟩ := Option.map_eq_some_iff.1 h
  cases hy
  exact ⟨c, hx⟩

set_option maxRecDepth 100000 in
theorem lifted (os : Os) (started : os.Started) (H : Type) (enc : TypeId × Value → H) (F : Stop.Interp) :
    ReturnsInHanded {} Tryd.checked os 6 .any ((OpenSpec.ofChange Rows.fnExactRangeAddSpec).preRow enc Tryd.prog Tryd.f6 Rows.fnExactRangeAddRow.domain false Rows.fnExactRangeAddRow.laid) (((OpenSpec.ofChange Rows.fnExactRangeAddSpec).at F).post enc Tryd.prog Tryd.f6 false true false false) := by
  obtain ⟨places, hx⟩ := reads os enc
  refine returnsInHanded_of_row (C := Tryd.checked) (s := OpenSpec.ofChange Rows.fnExactRangeAddSpec) own started (by kernel_rfl) Tryd.func6
    (witness_row_at (enc := enc) (C := Tryd.checked) false (wit os) #[.agg #[.int .i64 0, .slice none 0 0], .string ByteArray.empty] rfl (by kernel_rfl) (by kernel_rfl) (by kernel_rfl)
      (OpenSpec.preRow_of_cond 8 hx (by kernel_rfl) (fun k hk => by cases hk) (by kernel_rfl) (laid_met os))) ?_
  intro W base args ds gs before hval hW _ _ _ hL _ _
  exact contract H enc W base args ds gs before hval hW hL

theorem said : Rows.FnExactRangeAddSaid :=
  OpenClaim.holds_of_cond 6 Tryd.f6 rfl rfl rfl rfl rfl rfl rfl ⟨rfl, rfl, rfl, rfl, rfl⟩ rfl rfl rfl rfl rfl (by kernel_rfl) Tryd.func6 (by kernel_rfl)
    (of_decide_eq_true (by kernel_rfl)) (by unfold Func.isWrapper; first | (rw [if_pos (by decide +kernel)]; kernel_rfl) | (rw [if_neg (by decide +kernel)]; exact ⟨rfl, rfl⟩))
    (fun os started H enc _ F => by rw [OpenClaim.pre_eq_preRow]; exact lifted os started H enc F)

theorem plain (f : FuncId) (fn : Func) (hf : Tryd.pinned.checked.prog.funcNamed "loop.example/g00633/laws.FnExactRangeAdd" = some f) (hfn : Tryd.pinned.checked.prog.funcs[f]? = some fn) :
    Rows.fnExactRangeAddCard.stood.looks = Tryd.pinned.checked.prog.looks [] ∧ ∀ (j : Nat) t, fn.params[j]? = some t → Tryd.pinned.checked.prog.wantsStandIn t = false := by
  obtain rfl : f = 6 := Option.some.inj ((show Tryd.prog.funcNamed "loop.example/g00633/laws.FnExactRangeAdd" = some 6 by kernel_rfl).symm.trans hf) |>.symm
  obtain rfl : fn = Tryd.f6 := (Option.some.inj (Tryd.func6.symm.trans hfn)).symm
  refine ⟨by kernel_rfl, fun j t ht => ?_⟩
  rw [Tryd.params6] at ht
  have hm := Array.mem_of_getElem? ht
  have hl : t ∈ ([31, 9] : List TypeId) := by simpa using hm
  simp only [List.mem_cons, List.not_mem_nil, or_false] at hl
  rcases hl with rfl | rfl
  · exact (show Tryd.prog.wantsStandIn 31 = false by kernel_rfl)
  · exact (show Tryd.prog.wantsStandIn 9 = false by kernel_rfl)

theorem proved : Rows.FnExactRangeAddCardSaid :=
  Claim7.holds_tied_plain_at .later [] _ _ _ _ said (fun _ h => by cases h) (by kernel_rfl) (fun _ h => by cases h) fnExactRangeAdd_row_tie rfl ⟨rfl, rfl⟩ (by kernel_rfl) rfl plain (by kernel_rfl)
#print axioms proved
end Go.Proofs.YtclpccnppmbpcahDoor.fnExactRangeAdd
