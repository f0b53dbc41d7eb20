/-
  For every two texts and every signature the law FnExactVerify returns true: the program's Verify answers as the specification's, and writes into no argument; the card ties the two listed tables, firstState and roundNums, to the program's text.
  Conditions: none of mine; the form's own reach; the two tables as the program's text lays them (the given tie). The card speaks of the pruned copy of the project that the seat names.
-/
import Derived.Test.YtlmkfjlaakmmpaiDoorCards
import Derived.Test.YtlmkfjlaakmmpaiDoorTie
import Derived.Test.YtlmkfjlaakmmpaiDoorImplVerImplSign
import Derived.Test.YtlmkfjlaakmmpaiDoorSignRSignW
import Derived.Test.YtlmkfjlaakmmpaiDoorLawSLawSGBox3LawSig
import Derived.Test.YtlmkfjlaakmmpaiDoorTabsOf
import Derived.WalkKit
import Derived.ProofKit
import Derived.OpenShut
import Derived.OpenVars
import Derived.ShutString
import Derived.LaidHandle
import Derived.LaidLaws
import Derived.Deep.DeepHandedRow
import Derived.ChangeOld
import Derived.Below
import Derived.Deep.Strs
namespace Go.Proofs.YtlmkfjlaakmmpaiDoor.fnExactVerify
open Go.ChangeShapes Go.WideShapes Go.ChangeAt Go.RowKit
open Go.ChangeMaps (open_string shut_string)
set_option linter.unusedVariables false
set_option maxRecDepth 100000

theorem own : ownKnob Tryd.prog.godebug = none := by kernel_rfl
theorem laidOut : laidOutB Tryd.prog = true := by kernel_rfl

/-- What the walk is told of a slice of texts that came in. -/
def IsTexts (w : World) (a : Option Addr) (len cap : Nat) (ss : List ByteArray) : Prop :=
  ss.length = len ∧ TxtAt w a ss ∧ len ≤ cap ∧ cap ≤ maxLen ∧ ∀ x ∈ ss, x.size ≤ maxLen
theorem texts_of {H : Type} {enc : TypeId × Value → H} {W : World} {base : Nat} {fuel : Nat} {x : DataW H × List MemPlace} {a : Option Addr} {len cap : Nat}
    (h : DataW.trod enc Tryd.prog W base (fun _ => true) true fuel 24 [.slice a len cap] = some x) : ∃ ss, IsTexts W a len cap ss := by
  rcases Go.Deep.open_strs Tryd.underlying24 Tryd.underlying9 (by kernel_rfl) h with ⟨hcs, _⟩ | ⟨ad, l, c, m, Sx, hcs, _, hl, hm, hmm, _, hx⟩
  · simp at hcs
    obtain ⟨rfl, rfl, rfl⟩ := hcs
    exact ⟨[], rfl, TxtAt.nil _ _, Nat.le_refl _, by unfold maxLen; omega, fun x hx => by cases hx⟩
  · simp at hcs
    obtain ⟨rfl, rfl, rfl⟩ := hcs
    rw [if_pos rfl] at hmm
    subst hmm
    refine ⟨(List.range len).map Sx, by simp, ?_, hl, hm, ?_⟩
    · intro i hi
      have hi2 : i < len := by simpa using hi
      obtain ⟨b, off, spot⟩ := ad
      have hc := (hx i (by omega)).1
      have hspot : spot = none := by simpa [Addr.add] using World.cell?_spot (hx 0 (by omega)).1
      subst hspot
      have hadd : (⟨b, off, none⟩ : Addr).add i = ⟨b, off + i, none⟩ := by unfold Addr.add; split <;> simp_all
      rw [hadd] at hc
      exact ⟨b, off, rfl, World.block_lt_of_cell? W _ hc, by rw [hc]; simp⟩
    · intro x hxm
      obtain ⟨i, hi, rfl⟩ := List.mem_map.1 hxm
      exact (hx i (by have := List.mem_range.1 hi; omega)).2

theorem open_sig {H : Type} {enc : TypeId × Value → H} {W : World} {base : Nat} {v : Value} {d : DataW H} {ps : List MemPlace} (hval : Value.okWide Tryd.prog W .any base 31 v)
    (h : DataW.Trod enc Tryd.prog W 0 (fun _ => true) true 31 v d ps) : ∃ n a1 len1 cap1 a2 len2 cap2, v = .agg #[.int .i64 n, .slice a1 len1 cap1, .slice a2 len2 cap2] ∧ (Lit.int .i64 n).wf = true ∧ (∃ ss, IsTexts W a1 len1 cap1 ss) ∧ ∃ ss, IsTexts W a2 len2 cap2 ss := by
  obtain ⟨cs, rfl, hsz⟩ := okWide_struct Tryd.underlying31 hval
  have h2 : cs.size = 3 := hsz.trans (by kernel_rfl)
  obtain ⟨fuel, hf⟩ := h
  obtain ⟨y0, y1, y2, m, _, _, ht0, ht1, ht2⟩ := Go.Deep.trod_struct3 Tryd.underlying31 hf
  obtain ⟨c0, c1, c2, rfl⟩ : ∃ c0 c1 c2, cs = #[c0, c1, c2] := by
    match cs, h2 with
    | ⟨[c0, c1, c2]⟩, _ => exact ⟨c0, c1, c2, rfl⟩
  have e0 : Tryd.prog.cellsOf 2 = 1 := by kernel_rfl
  have e1 : Tryd.prog.cellsOf 24 = 1 := by kernel_rfl
  simp only [Value.cells, e0, e1, List.drop_zero, List.take_succ_cons, List.take_zero, List.drop_succ_cons] at ht0 ht1 ht2
  obtain ⟨n, hc0, _, hw⟩ := DataW.trod_int Tryd.underlying2 ht0
  simp at hc0
  subst hc0
  have f1 : ∃ a l c, c1 = .slice a l c := by
    rcases Go.Deep.open_strs Tryd.underlying24 Tryd.underlying9 (by kernel_rfl) ht1 with ⟨hcs, _⟩ | ⟨ad, l, c, mm, Sx, hcs, _⟩
    · simp at hcs; exact ⟨_, _, _, hcs⟩
    · simp at hcs; exact ⟨_, _, _, hcs⟩
  have f2 : ∃ a l c, c2 = .slice a l c := by
    rcases Go.Deep.open_strs Tryd.underlying24 Tryd.underlying9 (by kernel_rfl) ht2 with ⟨hcs, _⟩ | ⟨ad, l, c, mm, Sx, hcs, _⟩
    · simp at hcs; exact ⟨_, _, _, hcs⟩
    · simp at hcs; exact ⟨_, _, _, hcs⟩
  obtain ⟨a1, l1, k1, rfl⟩ := f1
  obtain ⟨a2, l2, k2, rfl⟩ := f2
  exact ⟨n, a1, l1, k1, a2, l2, k2, rfl, hw, texts_of ht1, texts_of ht2⟩

theorem int_bd {k : Int} (h : (Lit.int .i64 k).wf = true) : -9223372036854775808 ≤ k ∧ k ≤ 9223372036854775807 := by simpa [Lit.wf, IntKind.min, IntKind.max, IntKind.signed, IntKind.bits] using h
set_option maxRecDepth 20000 in
set_option maxHeartbeats 4000000 in
theorem walk (root text : ByteArray) (n : Int) (a0 : Option Addr) (len0 cap0 : Nat) (ss : List ByteArray) (b0 : Option Addr) (lenb capb : Nat) (ts : List ByteArray) (hwf : (Lit.int .i64 n).wf = true) (w : World) (wr : root.size ≤ maxLen) (wt : text.size ≤ maxLen) (w0 : IsTexts w a0 len0 cap0 ss ∧ IsTexts w b0 lenb capb ts) (hg : Tabs w) :
    Calls Tryd.prog 5 #[.string root, .string text, .agg #[.int .i64 n, .slice a0 len0 cap0, .slice b0 lenb capb]] w fun e w' => e = .returned (.bool true) ∧ Below w.heap.size w w' := by
  obtain ⟨⟨rfl, hp, hcap, hm, hsz⟩, ⟨rfl, hq, hcap2, hm2, hsz2⟩⟩ := w0
  obtain ⟨n0, n1⟩ := int_bd hwf
  have HT : Hid (Tabs w) := hg
  have P1 : Hid (TxtAt w a0 ss) := hp
  have P2 : Hid (TxtAt w b0 ts) := hq
  have Z1 : Hid (∀ x ∈ ss, x.size ≤ maxLen) := hsz
  have Z2 : Hid (∀ x ∈ ts, x.size ≤ maxLen) := hsz2
  clear hg hp hq hsz hsz2 hwf
  unfold maxLen at hm hm2 wr wt
  obtain ⟨W1, hW1⟩ : ∃ W1, W1 = w.alloc (.cells #[.int .i64 n, .slice a0 ss.length cap0, .slice b0 ts.length capb] 31) := ⟨_, rfl⟩
  have HW1 : Hid (W1 = w.alloc (.cells #[.int .i64 n, .slice a0 ss.length cap0, .slice b0 ts.length capb] 31)) := hW1
  have b1 : Below w.heap.size w W1 := by rw [hW1]; exact (Below.refl _ _).alloc (Nat.le_refl _) _
  have A1 : Hid (B3 W1 w.heap.size 31 (.int .i64 n) (.slice a0 ss.length cap0) (.slice b0 ts.length capb)) := by rw [hW1]; exact B3.new _ _ _ _ _
  by_cases hbr : 1048576 < root.size
  · have d1 : decide (1048576 < (root.size : Int)) = true := decide_eq_true (by omega)
    rw [hW1] at b1
    clear hW1 A1 HW1
    go_enter Tryd.func5, Tryd.ntmps5
    go_wp2_with fail
    go_ret
    exact ⟨rfl, b1⟩
  have d1 : decide (1048576 < (root.size : Int)) = false := decide_eq_false (by omega)
  by_cases hbt : 1048576 < text.size
  · have d2 : decide (1048576 < (text.size : Int)) = true := decide_eq_true (by omega)
    rw [hW1] at b1
    clear hW1 A1 HW1
    go_enter Tryd.func5, Tryd.ntmps5
    go_wp2_with fail
    go_ret
    exact ⟨rfl, b1⟩
  have d2 : decide (1048576 < (text.size : Int)) = false := decide_eq_false (by omega)
  have B1 : Hid (Below w.heap.size w W1) := b1
  clear hW1 b1
  go_enter Tryd.func5, Tryd.ntmps5
  go_wp2_with fail
  rw [← HW1.out]
  refine (szSig_any n a0 b0 cap0 capb ss ts W1 (P1.out.below B1.out) (P2.out.below B1.out) (by omega) (by omega) hcap hcap2 (fun x hx => by have := Z1.out x hx; unfold maxLen at this; exact this) (fun x hx => by have := Z2.out x hx; unfold maxLen at this; exact this)).mono ?_
  rintro e w2 ⟨⟨r, rfl, hr⟩, b2⟩
  have A2 : Hid (B3 w2 w.heap.size 31 (.int .i64 n) (.slice a0 ss.length cap0) (.slice b0 ts.length capb)) := A1.out.below b2
  have B2 := chainB B1.out b2
  rcases hr with rfl | ⟨hr0, ⟨l1, x1⟩, ⟨l2, x2⟩⟩
  · go_wp2_with fail
    go_ret
    exact ⟨rfl, B2⟩
  clear A1 b2 x1 x2 Z1 Z2
  have y0 := A2.out.c0
  have y1 := A2.out.c1
  have y2 := A2.out.c2
  go_wp2_with fail
  refine (toSig_any n a0 b0 cap0 capb ss ts w2 (P1.out.below B2) (P2.out.below B2) l1 l2 hcap hcap2).mono ?_
  rintro e w3 ⟨g1, g2, hg1, hg2, rfl, k1, k2, b3⟩
  have A3 : Hid (B3 w3 w.heap.size 31 (.int .i64 n) (.slice a0 ss.length cap0) (.slice b0 ts.length capb)) := A2.out.below b3
  have B3' := chainB B2 b3
  have hS := specVerify_any root text n (some ⟨g1, 0, none⟩) ss.length ss (some ⟨g2, 0, none⟩) ts.length ts w3 k1.txt k2.txt l1 l2 (Nat.le_refl _) (Nat.le_refl _) (by omega) (by omega) n0 n1
  have hI := fun x q1 c1 q2 c2 hT h1 h2 m1 m2 => implVerify_any root text n q1 c1 ss q2 c2 ts x hT h1 h2 l1 l2 m1 m2 (by omega) (by omega) n0 n1
  generalize verA root text n ss ts = V at *
  clear y0 y1 y2 A2 b3 k1 k2
  go_wp2_with fail
  refine hS.mono ?_
  rintro e w4 ⟨rfl, b4⟩
  have A4 : Hid (B3 w4 w.heap.size 31 (.int .i64 n) (.slice a0 ss.length cap0) (.slice b0 ts.length capb)) := A3.out.below b4
  have B4 := chainB B3' b4
  have y0 := A4.out.c0
  have y1 := A4.out.c1
  have y2 := A4.out.c2
  clear hS b4 A3
  go_wp2_with fail
  refine (toSig_any n a0 b0 cap0 capb ss ts w4 (P1.out.below B4) (P2.out.below B4) l1 l2 hcap hcap2).mono ?_
  rintro e w5 ⟨g3, g4, hg3, hg4, rfl, k3, k4, b5⟩
  obtain ⟨W6, hW6⟩ : ∃ W6, W6 = w5.alloc (.cells #[.int .i64 n, .slice (some ⟨g3, 0, none⟩) ss.length ss.length, .slice (some ⟨g4, 0, none⟩) ts.length ts.length] 26) := ⟨_, rfl⟩
  have HW6 : Hid (W6 = w5.alloc (.cells #[.int .i64 n, .slice (some ⟨g3, 0, none⟩) ss.length ss.length, .slice (some ⟨g4, 0, none⟩) ts.length ts.length] 26)) := hW6
  have ba : Below w5.heap.size w5 W6 := by rw [hW6]; exact (Below.refl _ _).alloc (Nat.le_refl _) _
  have A6 : Hid (B3 W6 w.heap.size 31 (.int .i64 n) (.slice a0 ss.length cap0) (.slice b0 ts.length capb)) := (A4.out.below b5).below ba
  have X6 : Hid (B3 W6 w5.heap.size 26 (.int .i64 n) (.slice (some ⟨g3, 0, none⟩) ss.length ss.length) (.slice (some ⟨g4, 0, none⟩) ts.length ts.length)) := by rw [hW6]; exact B3.new _ _ _ _ _
  have T3 : Hid (TxtAt W6 (some ⟨g3, 0, none⟩) ss) := k3.txt.below ba
  have T4 : Hid (TxtAt W6 (some ⟨g4, 0, none⟩) ts) := k4.txt.below ba
  have B6 := chainB (chainB B4 b5) ba
  have hV := hI W6 _ ss.length _ ts.length (HT.out.below B6 HT.out.1) T3.out T4.out (Nat.le_refl _) (Nat.le_refl _)
  clear hW6 ba b5 k3 k4 A4 y0 y1 y2 hI
  go_wp2_with fail
  rw [← HW6.out]
  refine hV.mono ?_
  rintro e w7 ⟨rfl, b7⟩
  have A7 : Hid (B3 w7 w.heap.size 31 (.int .i64 n) (.slice a0 ss.length cap0) (.slice b0 ts.length capb)) := A6.out.below b7
  have X7 : Hid (B3 w7 w5.heap.size 26 (.int .i64 n) (.slice (some ⟨g3, 0, none⟩) ss.length ss.length) (.slice (some ⟨g4, 0, none⟩) ts.length ts.length)) := X6.out.below b7
  have T5 : Hid (TxtAt w7 (some ⟨g3, 0, none⟩) ss) := T3.out.below b7
  have T6 : Hid (TxtAt w7 (some ⟨g4, 0, none⟩) ts) := T4.out.below b7
  have B7 : Hid (Below w.heap.size w w7) := chainB B6 b7
  have y0 := A7.out.c0
  have y1 := A7.out.c1
  have y2 := A7.out.c2
  have v0 := X7.out.c0
  have v1 := X7.out.c1
  have v2 := X7.out.c2
  have QT : Hid (∀ x, Below w7.heap.size w7 x → Calls Tryd.prog 15 #[.agg #[.int .i64 n, .slice a0 ss.length cap0, .slice b0 ts.length capb]] x fun e x1 => ∃ g5 g6, e = .returned (.agg #[.int .i64 n, .slice (some ⟨g5, 0, none⟩) ss.length ss.length, .slice (some ⟨g6, 0, none⟩) ts.length ts.length]) ∧ TxtAt x1 (some ⟨g5, 0, none⟩) ss ∧ TxtAt x1 (some ⟨g6, 0, none⟩) ts ∧ Below w7.heap.size w7 x1) := fun x hb => (toSig_any n a0 b0 cap0 capb ss ts x (P1.out.below (chainB B7.out hb)) (P2.out.below (chainB B7.out hb)) l1 l2 hcap hcap2).mono (by
    rintro e x1 ⟨g5, g6, _, _, rfl, j1, j2, y⟩
    exact ⟨g5, g6, rfl, j1.txt, j2.txt, chainB hb y⟩)
  have QE : Hid (∀ x g5 g6, Below w7.heap.size w7 x → TxtAt x (some ⟨g5, 0, none⟩) ss → TxtAt x (some ⟨g6, 0, none⟩) ts → Calls Tryd.prog 10 #[.agg #[.int .i64 n, .slice (some ⟨g3, 0, none⟩) ss.length ss.length, .slice (some ⟨g4, 0, none⟩) ts.length ts.length], .agg #[.int .i64 n, .slice (some ⟨g5, 0, none⟩) ss.length ss.length, .slice (some ⟨g6, 0, none⟩) ts.length ts.length]] x fun e x1 => e = .returned (.bool true) ∧ Below w7.heap.size w7 x1) := fun x g5 g6 hb j1 j2 => (eqSig_any n _ _ _ _ ss.length ts.length ss.length ts.length ss ts x (T5.out.below hb) (T6.out.below hb) j1 j2 l1 l2 (Nat.le_refl _) (Nat.le_refl _) (Nat.le_refl _) (Nat.le_refl _)).mono (by
    rintro e x1 ⟨rfl, y⟩
    exact ⟨rfl, chainB hb y⟩)
  have HX : Hid (∀ x, Below w7.heap.size w7 x → x.cell? ⟨w5.heap.size, 0, none⟩ = some (.int .i64 n) ∧ x.cell? ⟨w5.heap.size, 1, none⟩ = some (.slice (some ⟨g3, 0, none⟩) ss.length ss.length) ∧ x.cell? ⟨w5.heap.size, 2, none⟩ = some (.slice (some ⟨g4, 0, none⟩) ts.length ts.length)) := fun x hb => ⟨(X7.out.below hb).c0, (X7.out.below hb).c1, (X7.out.below hb).c2⟩
  have HR7 : Hid (Below w7.heap.size w7 w7) := Below.refl _ _
  clear hV b7 A6 X6 T3 T4 B6 A7 X7 T5 T6
  go_wp2_with fail
  go_region_with (first
    | (go_at_call 15; refine (QT.out _ (by first | exact HR7.out | exact HR7.out.drew)).mono ?_; rintro e x1 ⟨g5, g6, rfl, j1, j2, z1⟩; obtain ⟨u0, u1, u2⟩ := HX.out _ z1)
    | (go_at_call 10; refine (QE.out _ g5 g6 (by first | exact z1 | exact z1.drew) (by first | exact j1 | exact j1.below (Below.refl _ _).drew) (by first | exact j2 | exact j2.below (Below.refl _ _).drew)).mono ?_; rintro e x2 ⟨rfl, z2⟩))
  all_goals
    have z3 := chainB B7.out z2
    go_wp2_with fail
    go_ret
    exact ⟨rfl, z3⟩

theorem contract (H : Type) (enc : TypeId × Value → H) (W : World) (base : Nat) (args : Array Value) (ds gs : List (DataW H)) (before : List MemPlace)
    (hval : ∀ (j : Nat) t v, Tryd.f5.params[j]? = some t → args[j]? = some v → Value.okWide Tryd.prog W .any base t v)
    (hW : DataW.Whole enc Tryd.prog Tryd.f5.params.toList Rows.fnExactVerifySpec.vars false W args.toList ds gs before) (hL : laidMetH Tryd.prog Rows.fnExactVerifyRow.laid W) :
    Calls Tryd.prog 5 args W fun e W' => ∃ v, e = .returned v ∧ Rows.fnExactVerifySpec.post enc Tryd.prog Tryd.f5 false true false false W args v W' := by
  have hW' := hW
  obtain ⟨p, q, hA0, hV, rfl, hfz, hnd⟩ := hW
  have hA : DataW.TrodAll enc Tryd.prog W 0 (fun _ => true) true Tryd.f5.params.toList args.toList ds p := hA0
  rw [Tryd.params5] at hA hval
  obtain ⟨v0, vs0, d0, ds0, p0, q0, hargs, rfl, rfl, h0, r0⟩ := trodAll_cons hA
  obtain ⟨v1, vs1, d1, ds1, p1, q1, rfl, rfl, rfl, h1, r1⟩ := trodAll_cons r0
  obtain ⟨v2, vs2, d2, ds2, p2, q2, rfl, rfl, rfl, h2, r2⟩ := trodAll_cons r1
  obtain ⟨rfl, rfl, rfl⟩ := trodAll_nil r2
  obtain rfl : args = #[v0, v1, v2] := by cases args; simp_all
  have hV2 : DataW.TrodVars enc Tryd.prog W (fun _ => true) ["loop.example/g00633/impl.firstState", "loop.example/g00633/impl.roundNums"] gs q := hV
  obtain ⟨_, _, _, _, e0, _, _, _, _, _, e1, _, rfl, _⟩ := trodVars_two hV2
  obtain ⟨a0, rfl, rfl, rfl, w0⟩ := open_string Tryd.underlying9 (hval 0 9 v0 rfl rfl) h0
  obtain ⟨a1, rfl, rfl, rfl, w1⟩ := open_string Tryd.underlying9 (hval 1 9 v1 rfl rfl) h1
  have k2 := h2
  have lt2 : ∀ x ∈ p2, x.block < W.heap.size := by obtain ⟨m, hm⟩ := k2; exact DataW.trod_lt m _ _ _ hm
  obtain ⟨n2, a2, len2, cap2, b2, lenb2, capb2, rfl, z2, ⟨ss2, wa2⟩, ⟨ts2, wb2⟩⟩ := open_sig (hval 2 31 v2 rfl rfl) h2
  have w2 := And.intro wa2 wb2
  clear hA0
  have hT : Tabs W := tabs_of hL
  refine (walk a0 a1 n2 a2 len2 cap2 ss2 b2 lenb2 capb2 ts2 z2 W w0 w1 w2 hT).mono fun e W' ⟨he, hg⟩ => ?_
  subst he
  exact ⟨_, rfl, _, _, _, [], _, _, hW', (trodAll_cons_mk (shut_bool Tryd.underlying4 _) trodAll_mk0), (trodAll_cons_mk (shut_string Tryd.underlying9 w0) (trodAll_cons_mk (shut_string Tryd.underlying9 w1) (trodAll_cons_mk (Below.trod laidOut (by kernel_rfl) (of_decide_eq_true (by kernel_rfl)) k2 hg lt2) trodAll_mk0))), Below.trodVars laidOut hg (by kernel_rfl) hV, hg.frame _, fun h => by cases h⟩

/-- The variables' blocks as the initialisers leave them, for the witness. -/
def setTab (zs : List Int) : Obj → Obj
  | .cells _ t frozen => .cells (zs.map (Value.int .u32)).toArray t frozen
  | o => o
noncomputable def wit (os : Os) : World := { World.holding Tryd.prog os ⟨#[], #[], []⟩ with heap := ((World.holding Tryd.prog os ⟨#[], #[], []⟩).heap.modify 0 (setTab startN)).modify 1 (setTab keysN) }

theorem laid_met (os : Os) : laidMetH Tryd.prog Rows.fnExactVerifyRow.laid ((wit os).forCall (fun _ _ => 0) ⟨#[], #[.string ByteArray.empty, .string ByteArray.empty, .agg #[.int .i64 0, .slice none 0 0, .slice none 0 0]], []⟩).memory :=
  laidMetH_of_parts (laidMet_of_run' 8 (by kernel_rfl) (by kernel_rfl)) (by kernel_rfl)
theorem reads (os : Os) {H : Type} (enc : TypeId × Value → H) : ∃ places, DataW.whole enc Tryd.prog ((wit os).forCall (fun _ _ => 0) ⟨#[], #[.string ByteArray.empty, .string ByteArray.empty, .agg #[.int .i64 0, .slice none 0 0, .slice none 0 0]], []⟩).memory Tryd.f5.params.toList Rows.fnExactVerifySpec.vars false #[Value.string ByteArray.empty, Value.string ByteArray.empty, Value.agg #[.int .i64 0, .slice none 0 0, .slice none 0 0]].toList 8 = some ([.lit (.string []), .lit (.string []), .agg [.lit (.int .i64 0), .nil, .nil]], [Rows.laid_loop_example_g00633_impl_firstState, Rows.laid_loop_example_g00633_impl_roundNums], places) := by
  have h : (DataW.whole enc Tryd.prog ((wit os).forCall (fun _ _ => 0) ⟨#[], #[.string ByteArray.empty, .string ByteArray.empty, .agg #[.int .i64 0, .slice none 0 0, .slice none 0 0]], []⟩).memory Tryd.f5.params.toList Rows.fnExactVerifySpec.vars false #[Value.string ByteArray.empty, Value.string ByteArray.empty, Value.agg #[.int .i64 0, .slice none 0 0, .slice none 0 0]].toList 8).map (fun x => (x.1, x.2.1)) = some ([.lit (.string []), .lit (.string []), .agg [.lit (.int .i64 0), .nil, .nil]], [Rows.laid_loop_example_g00633_impl_firstState, Rows.laid_loop_example_g00633_impl_roundNums]) := by kernel_rfl
  obtain ⟨⟨a, b, c⟩, hx, hy⟩ := Option.map_eq_some_iff.1 h
  cases hy
  exact ⟨c, hx⟩

set_option maxRecDepth 100000 in
theorem lifted (os : Os) (started : os.Started) (H : Type) (enc : TypeId × Value → H) (F : Stop.Interp) :
    ReturnsInHanded {} Tryd.checked os 5 .any ((OpenSpec.ofChange Rows.fnExactVerifySpec).preRow enc Tryd.prog Tryd.f5 Rows.fnExactVerifyRow.domain false Rows.fnExactVerifyRow.laid) (((OpenSpec.ofChange Rows.fnExactVerifySpec).at F).post enc Tryd.prog Tryd.f5 false true false false) := by
  obtain ⟨places, hx⟩ := reads os enc
  refine returnsInHanded_of_row (C := Tryd.checked) (s := OpenSpec.ofChange Rows.fnExactVerifySpec) own started (by kernel_rfl) Tryd.func5
    (witness_row_at (enc := enc) (C := Tryd.checked) false (wit os) #[.string ByteArray.empty, .string ByteArray.empty, .agg #[.int .i64 0, .slice none 0 0, .slice none 0 0]] rfl (by kernel_rfl) (by kernel_rfl) (by kernel_rfl)
      (OpenSpec.preRow_of_cond 8 hx (by kernel_rfl) (fun k hk => by cases hk) (by kernel_rfl) (laid_met os))) ?_
  intro W base args ds gs before hval hW _ _ _ hL _ _
  exact contract H enc W base args ds gs before hval hW hL

theorem said : Rows.FnExactVerifySaid :=
  OpenClaim.holds_of_cond 5 Tryd.f5 rfl rfl rfl rfl rfl rfl rfl ⟨rfl, rfl, rfl, rfl, rfl⟩ rfl rfl rfl rfl rfl (by kernel_rfl) Tryd.func5 (by kernel_rfl)
    (of_decide_eq_true (by kernel_rfl)) (by unfold Func.isWrapper; first | (rw [if_pos (by decide +kernel)]; kernel_rfl) | (rw [if_neg (by decide +kernel)]; exact ⟨rfl, rfl⟩))
    (fun os started H enc _ F => by rw [OpenClaim.pre_eq_preRow]; exact lifted os started H enc F)

theorem plain (f : FuncId) (fn : Func) (hf : Tryd.pinned.checked.prog.funcNamed "loop.example/g00633/laws.FnExactVerify" = some f) (hfn : Tryd.pinned.checked.prog.funcs[f]? = some fn) :
    Rows.fnExactVerifyCard.stood.looks = Tryd.pinned.checked.prog.looks [] ∧ ∀ (j : Nat) t, fn.params[j]? = some t → Tryd.pinned.checked.prog.wantsStandIn t = false := by
  obtain rfl : f = 5 := Option.some.inj ((show Tryd.prog.funcNamed "loop.example/g00633/laws.FnExactVerify" = some 5 by kernel_rfl).symm.trans hf) |>.symm
  obtain rfl : fn = Tryd.f5 := (Option.some.inj (Tryd.func5.symm.trans hfn)).symm
  refine ⟨by kernel_rfl, fun j t ht => ?_⟩
  rw [Tryd.params5] at ht
  have hm := Array.mem_of_getElem? ht
  have hl : t ∈ ([9, 9, 31] : List TypeId) := by simpa using hm
  simp only [List.mem_cons, List.not_mem_nil, or_false] at hl
  rcases hl with rfl | rfl | rfl
  · exact (show Tryd.prog.wantsStandIn 9 = false by kernel_rfl)
  · exact (show Tryd.prog.wantsStandIn 9 = false by kernel_rfl)
  · exact (show Tryd.prog.wantsStandIn 31 = false by kernel_rfl)

theorem proved : Rows.FnExactVerifyCardSaid :=
  Claim7.holds_tied_plain_at .later [] _ _ _ _ said (fun _ h => by cases h) (by kernel_rfl) (fun _ h => by cases h) fnExactVerify_row_tie rfl ⟨rfl, rfl⟩ (by kernel_rfl) rfl plain (by kernel_rfl)
#print axioms proved
end Go.Proofs.YtlmkfjlaakmmpaiDoor.fnExactVerify
