/-
  What the laws' own helpers answer for a Sig: szSig, toSig, eqSig, markSig, heldSig.
  Conditions: the cells of Ends and Path hold the texts.
-/
import Derived.Test.YtfdihkgkiiekcaaDoorRows
import Derived.Test.YtfdihkgkiiekcaaDoorBytesDigMath
import Derived.Test.YtfdihkgkiiekcaaDoorSlASlBBxK
import Derived.Test.YtfdihkgkiiekcaaDoorLawSLawSGOwnSBox3
import Derived.Handy
import Derived.OwnWalk
namespace Go.Proofs.YtfdihkgkiiekcaaDoor
open Go.RowKit Go.Lib
set_option linter.unusedVariables false
set_option maxRecDepth 20000

def SmallS (ss : List ByteArray) : Prop := ss.length ≤ 1048576 ∧ ∀ x ∈ ss, x.size ≤ 1048576
set_option maxHeartbeats 1000000 in
theorem szSig_any (k : Int) (p1 p2 : Option Addr) (c1 c2 : Nat) (L1 L2 : List ByteArray) (w : World) (h1 : TxtAt w p1 L1) (h2 : TxtAt w p2 L2) (n1 : L1.length ≤ 9223372036854775807) (n2 : L2.length ≤ 9223372036854775807) (m1 : L1.length ≤ c1) (m2 : L2.length ≤ c2) (s1 : ∀ x ∈ L1, x.size ≤ 9223372036854775807) (s2 : ∀ x ∈ L2, x.size ≤ 9223372036854775807) :
    Calls Tryd.prog 6 #[.agg #[.int .i64 k, .slice p1 L1.length c1, .slice p2 L2.length c2], .int .i64 1048576] w fun e w' => (∃ r : Int, e = .returned (.int .i64 r) ∧ (r = -1 ∨ (0 ≤ r ∧ SmallS L1 ∧ SmallS L2))) ∧ Below w.heap.size w w' := by
  obtain ⟨W1, hW1⟩ : ∃ W1, W1 = w.alloc (.cells #[.int .i64 k, .slice p1 L1.length c1, .slice p2 L2.length c2] 26) := ⟨_, rfl⟩
  have HW1 : Hid (W1 = w.alloc (.cells #[.int .i64 k, .slice p1 L1.length c1, .slice p2 L2.length c2] 26)) := hW1
  have B1 : Hid (Below w.heap.size w W1) := by rw [hW1]; exact (Below.refl _ _).alloc (Nat.le_refl _) _
  have X1 : B3 W1 w.heap.size 26 (.int .i64 k) (.slice p1 L1.length c1) (.slice p2 L2.length c2) := by rw [hW1]; exact B3.new _ _ _ _ _
  have t2 := X1.c2
  have H1 := szG_any 1048576 (by omega) (by omega) p1 c1 L1 W1 (h1.below B1.out) n1 m1 s1
  have H2 := fun (l0 : Int) (a : 0 ≤ l0) (b : l0 ≤ 1048576) => szG_any l0 a b p2 c2 L2 W1 (h2.below B1.out) n2 m2 s2
  clear hW1 X1 h1 h2 s1 s2
  go_enter Tryd.func6, Tryd.ntmps6
  go_wp2_with fail
  rw [← HW1.out]
  refine H1.mono ?_
  rintro e w1 ⟨⟨r, rfl, hr⟩, rfl⟩
  rcases hr with rfl | ⟨r0, r1, r2, r3⟩
  · go_wp2_with fail
    go_ret
    exact ⟨⟨_, rfl, .inl rfl⟩, B1.out⟩
  · have H3 := H2 r r0 r1
    have HR3 : Hid (∀ x ∈ L1, x.size ≤ 1048576) := r3
    clear H2 r3
    go_wp2_with fail
    refine H3.mono ?_
    rintro e w1 ⟨⟨r', rfl, hr'⟩, rfl⟩
    rcases hr' with rfl | ⟨r4, r5, r6, r7⟩
    · go_wp2_with fail
      go_ret
      exact ⟨⟨_, rfl, .inl rfl⟩, B1.out⟩
    · have HR7 : Hid (∀ x ∈ L2, x.size ≤ 1048576) := r7
      clear r7
      go_wp2_with fail
      go_ret
      exact ⟨⟨_, rfl, .inr ⟨r4, ⟨r2, HR3.out⟩, ⟨r6, HR7.out⟩⟩⟩, B1.out⟩

set_option maxHeartbeats 1000000 in
theorem eqSig_any (k : Int) (p1 p2 q1 q2 : Option Addr) (c1 c2 d1 d2 : Nat) (L1 L2 : List ByteArray) (w : World) (h1 : TxtAt w p1 L1) (h2 : TxtAt w p2 L2) (g1 : TxtAt w q1 L1) (g2 : TxtAt w q2 L2) (n1 : L1.length ≤ 1048576) (n2 : L2.length ≤ 1048576) (m1 : L1.length ≤ c1) (m2 : L2.length ≤ c2) (m3 : L1.length ≤ d1) (m4 : L2.length ≤ d2) :
    Calls Tryd.prog 14 #[.agg #[.int .i64 k, .slice p1 L1.length c1, .slice p2 L2.length c2], .agg #[.int .i64 k, .slice q1 L1.length d1, .slice q2 L2.length d2]] w fun e w' => e = .returned (.bool true) ∧ Below w.heap.size w w' := by
  obtain ⟨W0, hW0⟩ : ∃ W0, W0 = w.alloc (.cells #[.int .i64 k, .slice p1 L1.length c1, .slice p2 L2.length c2] 35) := ⟨_, rfl⟩
  have hz : W0.heap.size = w.heap.size + 1 := by rw [hW0]; simp
  obtain ⟨W1, hW1⟩ : ∃ W1, W1 = W0.alloc (.cells #[.int .i64 k, .slice q1 L1.length d1, .slice q2 L2.length d2] 35) := ⟨_, rfl⟩
  have HW1 : Hid (W1 = (w.alloc (.cells #[.int .i64 k, .slice p1 L1.length c1, .slice p2 L2.length c2] 35)).alloc (.cells #[.int .i64 k, .slice q1 L1.length d1, .slice q2 L2.length d2] 35)) := by rw [hW1, hW0]; exact rfl
  have hB0 : Below w.heap.size w W0 := by rw [hW0]; exact (Below.refl _ _).alloc (Nat.le_refl _) _
  have B1 : Hid (Below w.heap.size w W1) := by rw [hW1]; exact hB0.alloc hB0.size _
  have X1 : Hid (B3 W1 w.heap.size 35 (.int .i64 k) (.slice p1 L1.length c1) (.slice p2 L2.length c2)) := by
    rw [hW1]; refine B3.alloc ?_ _; rw [hW0]; exact B3.new _ _ _ _ _
  have X2 : Hid (B3 W1 (w.heap.size + 1) 35 (.int .i64 k) (.slice q1 L1.length d1) (.slice q2 L2.length d2)) := by
    rw [hW1, ← hz]; exact B3.new _ _ _ _ _
  have hE := eq_any p1 q1 c1 d1 L1 L1 W1 (h1.below B1.out) (g1.below B1.out) (by omega) (by omega) m1 m3
  rw [decide_eq_true rfl] at hE
  have T2 : Hid (TxtAt W1 p2 L2 ∧ TxtAt W1 q2 L2) := ⟨h2.below B1.out, g2.below B1.out⟩
  clear hW1 hW0 h1 h2 g1 g2 hB0 hz
  go_enter Tryd.func14, Tryd.ntmps14
  go_wp2_with fail
  rw [← HW1.out]
  refine hE.mono ?_
  rintro e w1 ⟨rfl, b1⟩
  have x1 := (X1.out.below b1).c2
  have x2 := (X2.out.below b1).c2
  have hF := eq_any p2 q2 c2 d2 L2 L2 w1 (T2.out.1.below b1) (T2.out.2.below b1) (by omega) (by omega) m2 m4
  rw [decide_eq_true rfl] at hF
  have b1 := chainB B1.out b1
  clear hE T2
  go_wp2_with fail
  refine hF.mono ?_
  rintro e w2 ⟨rfl, b2⟩
  have b2 := chainB b1 b2
  clear hF x1 x2
  go_wp2_with fail
  go_ret
  exact ⟨rfl, b2⟩

set_option maxHeartbeats 2000000 in
theorem toSig_any (k : Int) (p1 p2 : Option Addr) (c1 c2 : Nat) (L1 L2 : List ByteArray) (w : World) (h1 : TxtAt w p1 L1) (h2 : TxtAt w p2 L2) (n1 : L1.length ≤ 1048576) (n2 : L2.length ≤ 1048576) (m1 : L1.length ≤ c1) (m2 : L2.length ≤ c2) :
    Calls Tryd.prog 10 #[.agg #[.int .i64 k, .slice p1 L1.length c1, .slice p2 L2.length c2]] w fun e w' => ∃ g1 g2, w.heap.size ≤ g1 ∧ g1 < g2 ∧ e = .returned (.agg #[.int .i64 k, .slice (some ⟨g1, 0, none⟩) L1.length L1.length, .slice (some ⟨g2, 0, none⟩) L2.length L2.length]) ∧ BlkS w' g1 L1 ∧ BlkS w' g2 L2 ∧ Below w.heap.size w w' := by
  obtain ⟨W1, hW1⟩ : ∃ W1, W1 = w.alloc (.cells #[.int .i64 k, .slice p1 L1.length c1, .slice p2 L2.length c2] 26) := ⟨_, rfl⟩
  obtain ⟨W2, hW2⟩ : ∃ W2, W2 = W1.alloc (.cells #[.int .i64 0, .slice none 0 0, .slice none 0 0] 35) := ⟨_, rfl⟩
  obtain ⟨W3, hW3⟩ : ∃ W3, W3 = W2.alloc (.cells #[.int .i64 k, .slice none 0 0, .slice none 0 0] 35) := ⟨_, rfl⟩
  have z1 : W1.heap.size = w.heap.size + 1 := by rw [hW1]; simp
  have z2 : W2.heap.size = w.heap.size + 1 + 1 := by rw [hW2]; simp [z1]
  have z3 : W3.heap.size = w.heap.size + 3 := by rw [hW3]; simp [z2]
  have b1 : Below w.heap.size w W1 := by rw [hW1]; exact (Below.refl _ _).alloc (Nat.le_refl _) _
  have b2 : Below w.heap.size w W2 := by rw [hW2]; exact b1.alloc b1.size _
  have B0 : Hid (Below w.heap.size w W3) := by rw [hW3]; exact b2.alloc b2.size _
  have XA : Hid (B3 W3 w.heap.size 26 (.int .i64 k) (.slice p1 L1.length c1) (.slice p2 L2.length c2)) := by
    rw [hW3, hW2, hW1]; exact ((B3.new _ _ _ _ _).alloc _).alloc _
  have XR : Hid (B3 W3 (w.heap.size + 1) 35 (.int .i64 0) (.slice none 0 0) (.slice none 0 0)) := by
    rw [hW3]; refine B3.alloc ?_ _; rw [hW2, ← z1]; exact B3.new _ _ _ _ _
  have XO : Hid (B3 W3 (w.heap.size + 1 + 1) 35 (.int .i64 k) (.slice none 0 0) (.slice none 0 0)) := by
    rw [hW3, ← z2]; exact B3.new _ _ _ _ _
  have HW3 : Hid (W3 = ((w.alloc (.cells #[.int .i64 k, .slice p1 L1.length c1, .slice p2 L2.length c2] 26)).alloc (.cells #[.int .i64 0, .slice none 0 0, .slice none 0 0] 35)).alloc (.cells #[.int .i64 k, .slice none 0 0, .slice none 0 0] 35)) := by rw [hW3, hW2, hW1]; exact rfl
  have HC := to_any p1 c1 L1 W3 (h1.below B0.out) n1 m1
  have HT2 : Hid (TxtAt w p2 L2) := h2
  have HZ3 : Hid (W3.heap.size = w.heap.size + 3) := z3
  clear hW1 hW2 hW3 z1 z2 z3 b1 b2 h1 h2
  go_enter Tryd.func10, Tryd.ntmps10
  go_wp2_with fail
  rw [← HW3.out]
  refine HC.mono ?_
  rintro e w4 ⟨rfl, hB4, b4⟩
  have hz3 := HZ3.out
  have hz4 := b4.size
  have xo := XO.out.below b4
  have o1 := xo.c1
  have fo := xo.fr 1
  have s1 : Value.slice (some ⟨W3.heap.size, 0, none⟩) L1.length L1.length = Value.slice (some ⟨w.heap.size + 3, 0, none⟩) L1.length L1.length := by rw [hz3]
  obtain ⟨W5, hW5⟩ : ∃ W5, W5 = w4.setCell ⟨w.heap.size + 1 + 1, 1, none⟩ (.slice (some ⟨w.heap.size + 3, 0, none⟩) L1.length L1.length) := ⟨_, rfl⟩
  have HW5 : Hid (W5 = w4.setCell ⟨w.heap.size + 1 + 1, 1, none⟩ (.slice (some ⟨w.heap.size + 3, 0, none⟩) L1.length L1.length)) := hW5
  have z5 : W5.heap.size = w4.heap.size := by rw [hW5]; simp [World.setCell]
  have bb5 := (chainB B0.out b4).setCell (p := ⟨w.heap.size + 1 + 1, 1, none⟩) (by show w.heap.size ≤ w.heap.size + 1 + 1; omega) (.slice (some ⟨w.heap.size + 3, 0, none⟩) L1.length L1.length)
  rw [← hW5] at bb5
  have HB5 : Hid (Below w.heap.size w W5) := bb5
  have XA5 : Hid (B3 W5 w.heap.size 26 (.int .i64 k) (.slice p1 L1.length c1) (.slice p2 L2.length c2)) := by rw [hW5]; exact (XA.out.below b4).other _ _ (by omega) _
  have XR5 : Hid (B3 W5 (w.heap.size + 1) 35 (.int .i64 0) (.slice none 0 0) (.slice none 0 0)) := by rw [hW5]; exact (XR.out.below b4).other _ _ (by omega) _
  have XO5 : Hid (B3 W5 (w.heap.size + 1 + 1) 35 (.int .i64 k) (.slice (some ⟨w.heap.size + 3, 0, none⟩) L1.length L1.length) (.slice none 0 0)) := by rw [hW5]; exact xo.set1 _
  have HK5 : Hid (BlkS W5 (w.heap.size + 3) L1) := by rw [hW5, ← hz3]; exact hB4.setOther _ _ (by omega) _
  have HC2 := to_any p2 c2 L2 W5 (HT2.out.below HB5.out) n2 m2
  have a2 := XA5.out.c2
  rw [hW5] at a2
  rw [s1]
  clear hW5 bb5 hB4 b4 xo XA XR XO HT2 s1 HC hz3
  go_wp2_with fail
  rw [← HW5.out]
  refine HC2.mono ?_
  rintro e w6 ⟨rfl, hB6, b6⟩
  have xo := XO5.out.below b6
  have xr := XR5.out.below b6
  have g1 := xo.c0
  have g2 := xo.c1
  have g3 := xo.c2
  have f3 := xo.fr 2
  have r0 := xr.c0
  have r1 := xr.c1
  have r2 := xr.c2
  have e0 := xr.fr 0
  have e1 := xr.fr 1
  have e2 := xr.fr 2
  have hz6 := b6.size
  have s2 : Value.slice (some ⟨W5.heap.size, 0, none⟩) L2.length L2.length = Value.slice (some ⟨w4.heap.size, 0, none⟩) L2.length L2.length := by rw [z5]
  have HEnd : Hid (∀ v0 v1 v2 v3 : Value, BlkS ((((w6.setCell ⟨w.heap.size + 1 + 1, 2, none⟩ v0).setCell ⟨w.heap.size + 1, 0, none⟩ v1).setCell ⟨w.heap.size + 1, 1, none⟩ v2).setCell ⟨w.heap.size + 1, 2, none⟩ v3) (w.heap.size + 3) L1 ∧ BlkS ((((w6.setCell ⟨w.heap.size + 1 + 1, 2, none⟩ v0).setCell ⟨w.heap.size + 1, 0, none⟩ v1).setCell ⟨w.heap.size + 1, 1, none⟩ v2).setCell ⟨w.heap.size + 1, 2, none⟩ v3) w4.heap.size L2 ∧ Below w.heap.size w ((((w6.setCell ⟨w.heap.size + 1 + 1, 2, none⟩ v0).setCell ⟨w.heap.size + 1, 0, none⟩ v1).setCell ⟨w.heap.size + 1, 1, none⟩ v2).setCell ⟨w.heap.size + 1, 2, none⟩ v3)) := by
    intro v0 v1 v2 v3
    have k1 := HK5.out.below b6 HK5.out.lt
    rw [z5] at hB6
    have hz := HZ3.out
    have hb := chainB HB5.out b6
    exact ⟨(((k1.setOther _ _ (by omega) _).setOther _ _ (by omega) _).setOther _ _ (by omega) _).setOther _ _ (by omega) _, (((hB6.setOther _ _ (by omega) _).setOther _ _ (by omega) _).setOther _ _ (by omega) _).setOther _ _ (by omega) _, (((hb.setCell (by show w.heap.size ≤ w.heap.size + 1 + 1; omega) _).setCell (by show w.heap.size ≤ w.heap.size + 1; omega) _).setCell (by show w.heap.size ≤ w.heap.size + 1; omega) _).setCell (by show w.heap.size ≤ w.heap.size + 1; omega) _⟩
  rw [s2]
  have hlt : w.heap.size + 3 < w4.heap.size := by have h1 := HK5.out.lt; rw [z5] at h1; exact h1
  clear hB6 b6 xo xr s2 z5 HC2 XA5 XR5 XO5 HK5 HB5 HW5 a2 o1 fo hz6
  go_wp2_with fail
  refine bodyPost_ret (v := .agg #[.int .i64 k, .slice (some ⟨w.heap.size + 3, 0, none⟩) L1.length L1.length, .slice (some ⟨w4.heap.size, 0, none⟩) L2.length L2.length]) (by simp [results, Tryd.results10, go_sem, r0, r1, r2]) rfl ?_
  obtain ⟨q1, q2, q3⟩ := HEnd.out (.slice (some ⟨w4.heap.size, 0, none⟩) L2.length L2.length) (.int .i64 k) (.slice (some ⟨w.heap.size + 3, 0, none⟩) L1.length L1.length) (.slice (some ⟨w4.heap.size, 0, none⟩) L2.length L2.length)
  exact ⟨w.heap.size + 3, w4.heap.size, by omega, hlt, rfl, q1, q2, q3⟩
end Go.Proofs.YtfdihkgkiiekcaaDoor
