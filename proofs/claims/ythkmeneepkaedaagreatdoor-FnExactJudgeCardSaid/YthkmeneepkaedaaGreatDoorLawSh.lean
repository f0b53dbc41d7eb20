/-
  What the laws' own helpers answer for what is shown: szShown, toShown, eqShown, eqShownOut (of two that are alike), markShown, heldShown, markShownOut, heldShownOut.
  Conditions: the slices' cells hold the texts.
-/
import Derived.Test.YthkmeneepkaedaaGreatDoorRows
import Derived.Test.YthkmeneepkaedaaGreatDoorBytesDigMath
import Derived.Test.YthkmeneepkaedaaGreatDoorTreeMathSlASlBBxKOwnS
import Derived.Test.YthkmeneepkaedaaGreatDoorLgAtKLgAnsLawSLawMLawMGLawPfLawSG
import Derived.Test.YthkmeneepkaedaaGreatDoorFldGShwKFldHTakesAudMathLawAuOpAuFldRiseScanMath
import Derived.Handy
import Derived.WalkSpells
import Derived.OwnWalk
import Derived.Laws.OwnMore
namespace Go.Proofs.YthkmeneepkaedaaGreatDoor
open Go.RowKit Go.Lib
set_option linter.unusedVariables false
set_option maxRecDepth 20000

set_option maxHeartbeats 2000000 in
theorem szShown_any (k : ByteArray) (at_ ix : Int) (s v : ByteArray) (p1 : Option Addr) (c1 : Nat) (ns : List ByteArray) (p2 : Option Addr) (c2 : Nat) (cs : List ByteArray) (w : World) (h1 : TxtAt w p1 ns) (h2 : TxtAt w p2 cs) (n1 : ns.length ≤ 9223372036854775807) (n2 : cs.length ≤ 9223372036854775807) (m1 : ns.length ≤ c1) (m2 : cs.length ≤ c2) (s1 : ∀ x ∈ ns, x.size ≤ 9223372036854775807) (s2 : ∀ x ∈ cs, x.size ≤ 9223372036854775807) (z0 : k.size ≤ 9223372036854775807) (z1 : s.size ≤ 9223372036854775807) (z2 : v.size ≤ 9223372036854775807) :
    Calls Tryz.prog 53 #[.agg #[.string k, .int .i64 at_, .slice p1 ns.length c1, .slice p2 cs.length c2, .int .i64 ix, .string s, .string v], .int .i64 1048576] w fun e w' => (∃ r : Int, e = .returned (.int .i64 r) ∧ (r = -1 ∨ (0 ≤ r ∧ r ≤ 1048576 ∧ ns.length ≤ 1048576 ∧ cs.length ≤ 1048576))) ∧ Below w.heap.size w w' := by
  obtain ⟨W1, hW1⟩ : ∃ W1, W1 = w.alloc (.cells #[.string k, .int .i64 at_, .slice p1 ns.length c1, .slice p2 cs.length c2, .int .i64 ix, .string s, .string v] 48) := ⟨_, rfl⟩
  have HW1 : Hid (W1 = w.alloc (.cells #[.string k, .int .i64 at_, .slice p1 ns.length c1, .slice p2 cs.length c2, .int .i64 ix, .string s, .string v] 48)) := hW1
  have B1 : Hid (Below w.heap.size w W1) := by rw [hW1]; exact (Below.refl _ _).alloc (Nat.le_refl _) _
  have X1 : Bxs W1 w.heap.size 48 #[.string k, .int .i64 at_, .slice p1 ns.length c1, .slice p2 cs.length c2, .int .i64 ix, .string s, .string v] := by rw [hW1]; exact Bxs.new _ _ _
  have y3 : W1.cell? ⟨w.heap.size, 3, none⟩ = some (.slice p2 cs.length c2) := X1.cell 3
  have y5 : W1.cell? ⟨w.heap.size, 5, none⟩ = some (.string s) := X1.cell 5
  have y6 : W1.cell? ⟨w.heap.size, 6, none⟩ = some (.string v) := X1.cell 6
  have H1 : Hid (∀ l0 : Int, 0 ≤ l0 → l0 ≤ 1048576 → Calls Tryz.prog 24 #[.slice p1 ns.length c1, .int .i64 l0] W1 fun e w' => (∃ r : Int, e = .returned (.int .i64 r) ∧ SzTo r l0 ns) ∧ w' = W1) := fun l0 a b => szG_any l0 a b p1 c1 ns W1 (h1.below B1.out) n1 m1 s1
  have H2 : Hid (∀ l0 : Int, 0 ≤ l0 → l0 ≤ 1048576 → Calls Tryz.prog 24 #[.slice p2 cs.length c2, .int .i64 l0] W1 fun e w' => (∃ r : Int, e = .returned (.int .i64 r) ∧ SzTo r l0 cs) ∧ w' = W1) := fun l0 a b => szG_any l0 a b p2 c2 cs W1 (h2.below B1.out) n2 m2 s2
  clear hW1 X1 h1 h2 s1 s2
  by_cases hk : (k.size : Int) ≤ 1048576
  · have H1 := H1.out (1048576 - k.size) (by omega) (by omega)
    go_enter Tryz.func53, Tryz.ntmps53
    go_wp2_with fail
    rw [← HW1.out]
    refine H1.mono ?_
    rintro e w1 ⟨⟨r, rfl, hr⟩, rfl⟩
    clear H1
    rcases hr with rfl | ⟨r0, r1, r2, -⟩
    · go_wp2_with fail
      go_ret
      exact ⟨⟨_, rfl, .inl rfl⟩, B1.out⟩
    · have H3 := H2.out r r0 (by omega)
      clear H2
      have dr : decide (r < 0) = false := decide_eq_false (by omega)
      go_wp2_with fail
      refine H3.mono ?_
      rintro e w1 ⟨⟨r', rfl, hr'⟩, rfl⟩
      clear H3 dr
      rcases hr' with rfl | ⟨r4, r5, r6, -⟩
      · go_wp2_with fail
        go_ret
        exact ⟨⟨_, rfl, .inl rfl⟩, B1.out⟩
      · have dr : decide (r' < 0) = false := decide_eq_false (by omega)
        by_cases hs : (s.size : Int) ≤ r'
        · have ds : decide (r' - (s.size : Int) < 0) = false := decide_eq_false (by omega)
          by_cases hv : (s.size : Int) + v.size ≤ r'
          · have dv : decide (r' - (s.size : Int) - v.size < 0) = false := decide_eq_false (by omega)
            go_wp2_with fail
            go_ret
            exact ⟨⟨_, rfl, .inr ⟨by omega, by omega, r2, r6⟩⟩, B1.out⟩
          · have dv : decide (r' - (s.size : Int) - v.size < 0) = true := decide_eq_true (by omega)
            go_wp2_with fail
            go_ret
            exact ⟨⟨_, rfl, .inl rfl⟩, B1.out⟩
        · have ds : decide (r' - (s.size : Int) < 0) = true := decide_eq_true (by omega)
          go_wp2_with fail
          go_ret
          exact ⟨⟨_, rfl, .inl rfl⟩, B1.out⟩
  · clear H1 H2
    go_enter Tryz.func53, Tryz.ntmps53
    go_wp2_with fail
    rw [← HW1.out]
    go_ret
    exact ⟨⟨_, rfl, .inl rfl⟩, B1.out⟩

set_option maxHeartbeats 2000000 in
theorem eqShown_any (k : ByteArray) (at_ ix : Int) (s v : ByteArray) (p1 : Option Addr) (c1 : Nat) (q1 : Option Addr) (d1 : Nat) (ns : List ByteArray) (p2 : Option Addr) (c2 : Nat) (q2 : Option Addr) (d2 : Nat) (cs : List ByteArray) (w : World) (h1 : TxtAt w p1 ns) (g1 : TxtAt w q1 ns) (h2 : TxtAt w p2 cs) (g2 : TxtAt w q2 cs) (n1 : ns.length ≤ 1048576) (n2 : cs.length ≤ 1048576) (m1 : ns.length ≤ c1) (m2 : cs.length ≤ c2) (m3 : ns.length ≤ d1) (m4 : cs.length ≤ d2) :
    Calls Tryz.prog 45 #[.agg #[.string k, .int .i64 at_, .slice p1 ns.length c1, .slice p2 cs.length c2, .int .i64 ix, .string s, .string v], .agg #[.string k, .int .i64 at_, .slice q1 ns.length d1, .slice q2 cs.length d2, .int .i64 ix, .string s, .string v]] w fun e w' => e = .returned (.bool true) ∧ Below w.heap.size w w' := by
  obtain ⟨W0, hW0⟩ : ∃ W0, W0 = w.alloc (.cells #[.string k, .int .i64 at_, .slice p1 ns.length c1, .slice p2 cs.length c2, .int .i64 ix, .string s, .string v] 37) := ⟨_, rfl⟩
  have hz : W0.heap.size = w.heap.size + 1 := by rw [hW0]; simp
  obtain ⟨W1, hW1⟩ : ∃ W1, W1 = W0.alloc (.cells #[.string k, .int .i64 at_, .slice q1 ns.length d1, .slice q2 cs.length d2, .int .i64 ix, .string s, .string v] 37) := ⟨_, rfl⟩
  have HW1 : Hid (W1 = (w.alloc (.cells #[.string k, .int .i64 at_, .slice p1 ns.length c1, .slice p2 cs.length c2, .int .i64 ix, .string s, .string v] 37)).alloc (.cells #[.string k, .int .i64 at_, .slice q1 ns.length d1, .slice q2 cs.length d2, .int .i64 ix, .string s, .string v] 37)) := by rw [hW1, hW0]; exact rfl
  have hB0 : Below w.heap.size w W0 := by rw [hW0]; exact (Below.refl _ _).alloc (Nat.le_refl _) _
  have B1 : Hid (Below w.heap.size w W1) := by rw [hW1]; exact alB hB0 _
  have X1 : Hid (Bxs W1 w.heap.size 37 #[.string k, .int .i64 at_, .slice p1 ns.length c1, .slice p2 cs.length c2, .int .i64 ix, .string s, .string v]) := by rw [hW1]; refine Bxs.alloc ?_ _; rw [hW0]; exact Bxs.new _ _ _
  have X2 : Hid (Bxs W1 (w.heap.size + 1) 37 #[.string k, .int .i64 at_, .slice q1 ns.length d1, .slice q2 cs.length d2, .int .i64 ix, .string s, .string v]) := by rw [hW1, ← hz]; exact Bxs.new _ _ _
  have hE := eq_any p1 q1 c1 d1 ns ns W1 (h1.below B1.out) (g1.below B1.out) (by omega) (by omega) m1 m3
  rw [decide_eq_true rfl] at hE
  have T2 : Hid (TxtAt W1 p2 cs ∧ TxtAt W1 q2 cs) := ⟨h2.below B1.out, g2.below B1.out⟩
  clear hW1 hW0 h1 h2 g1 g2 hB0 hz
  go_enter Tryz.func45, Tryz.ntmps45
  go_wp2_with fail
  rw [← HW1.out]
  refine hE.mono ?_
  rintro e w1 ⟨rfl, b1⟩
  have x1 : w1.cell? ⟨w.heap.size, 3, none⟩ = some (.slice p2 cs.length c2) := (X1.out.below b1).cell 3
  have x2 : w1.cell? ⟨w.heap.size + 1, 3, none⟩ = some (.slice q2 cs.length d2) := (X2.out.below b1).cell 3
  have hF := eq_any p2 q2 c2 d2 cs cs w1 (T2.out.1.below b1) (T2.out.2.below b1) (by omega) (by omega) m2 m4
  rw [decide_eq_true rfl] at hF
  clear hE T2
  go_wp2_with fail
  refine hF.mono ?_
  rintro e w2 ⟨rfl, b2⟩
  have b2 := chainB b1 b2
  have x4 : w2.cell? ⟨w.heap.size, 4, none⟩ = some (.int .i64 ix) := (X1.out.below b2).cell 4
  have x5 : w2.cell? ⟨w.heap.size, 5, none⟩ = some (.string s) := (X1.out.below b2).cell 5
  have x6 : w2.cell? ⟨w.heap.size, 6, none⟩ = some (.string v) := (X1.out.below b2).cell 6
  have y4 : w2.cell? ⟨w.heap.size + 1, 4, none⟩ = some (.int .i64 ix) := (X2.out.below b2).cell 4
  have y5 : w2.cell? ⟨w.heap.size + 1, 5, none⟩ = some (.string s) := (X2.out.below b2).cell 5
  have y6 : w2.cell? ⟨w.heap.size + 1, 6, none⟩ = some (.string v) := (X2.out.below b2).cell 6
  have b2 := chainB B1.out b2
  clear hF x1 x2 b1
  go_wp2_with fail
  go_ret
  exact ⟨rfl, b2⟩

set_option maxHeartbeats 4000000 in
theorem toShown_any (k : ByteArray) (at_ ix : Int) (s v : ByteArray) (p1 : Option Addr) (c1 : Nat) (ns : List ByteArray) (p2 : Option Addr) (c2 : Nat) (cs : List ByteArray) (w : World) (h1 : TxtAt w p1 ns) (h2 : TxtAt w p2 cs) (n1 : ns.length ≤ 1048576) (n2 : cs.length ≤ 1048576) (m1 : ns.length ≤ c1) (m2 : cs.length ≤ c2) :
    Calls Tryz.prog 59 #[.agg #[.string k, .int .i64 at_, .slice p1 ns.length c1, .slice p2 cs.length c2, .int .i64 ix, .string s, .string v]] w fun e w' => ∃ g1 g2, w.heap.size ≤ g1 ∧ g1 < g2 ∧ e = .returned (.agg #[.string k, .int .i64 at_, .slice (some ⟨g1, 0, none⟩) ns.length ns.length, .slice (some ⟨g2, 0, none⟩) cs.length cs.length, .int .i64 ix, .string s, .string v]) ∧ BlkS w' g1 ns ∧ BlkS w' g2 cs ∧ Below w.heap.size w w' := by
  obtain ⟨W1, hW1⟩ : ∃ W1, W1 = w.alloc (.cells #[.string k, .int .i64 at_, .slice p1 ns.length c1, .slice p2 cs.length c2, .int .i64 ix, .string s, .string v] 48) := ⟨_, rfl⟩
  obtain ⟨W2, hW2⟩ : ∃ W2, W2 = W1.alloc (.cells #[.string ⟨#[]⟩, .int .i64 0, .slice none 0 0, .slice none 0 0, .int .i64 0, .string ⟨#[]⟩, .string ⟨#[]⟩] 37) := ⟨_, rfl⟩
  obtain ⟨W3, hW3⟩ : ∃ W3, W3 = W2.alloc (.cells #[.string k, .int .i64 at_, .slice none 0 0, .slice none 0 0, .int .i64 0, .string ⟨#[]⟩, .string ⟨#[]⟩] 37) := ⟨_, rfl⟩
  have z1 : W1.heap.size = w.heap.size + 1 := by rw [hW1]; simp
  have z2 : W2.heap.size = w.heap.size + 1 + 1 := by rw [hW2]; simp [z1]
  have z3 : W3.heap.size = w.heap.size + 3 := by rw [hW3]; simp [z2]
  have b1 : Below w.heap.size w W1 := by rw [hW1]; exact (Below.refl _ _).alloc (Nat.le_refl _) _
  have b2 : Below w.heap.size w W2 := by rw [hW2]; exact alB b1 _
  have B0 : Hid (Below w.heap.size w W3) := by rw [hW3]; exact alB b2 _
  have XA : Hid (Bxs W3 w.heap.size 48 #[.string k, .int .i64 at_, .slice p1 ns.length c1, .slice p2 cs.length c2, .int .i64 ix, .string s, .string v]) := by rw [hW3, hW2, hW1]; exact ((Bxs.new _ _ _).alloc _).alloc _
  have XR : Hid (Bxs W3 (w.heap.size + 1) 37 #[.string ⟨#[]⟩, .int .i64 0, .slice none 0 0, .slice none 0 0, .int .i64 0, .string ⟨#[]⟩, .string ⟨#[]⟩]) := by rw [hW3]; refine Bxs.alloc ?_ _; rw [hW2, ← z1]; exact Bxs.new _ _ _
  have XO : Hid (Bxs W3 (w.heap.size + 1 + 1) 37 #[.string k, .int .i64 at_, .slice none 0 0, .slice none 0 0, .int .i64 0, .string ⟨#[]⟩, .string ⟨#[]⟩]) := by rw [hW3, ← z2]; exact Bxs.new _ _ _
  have HW3 : Hid (W3 = ((w.alloc (.cells #[.string k, .int .i64 at_, .slice p1 ns.length c1, .slice p2 cs.length c2, .int .i64 ix, .string s, .string v] 48)).alloc (.cells #[.string ⟨#[]⟩, .int .i64 0, .slice none 0 0, .slice none 0 0, .int .i64 0, .string ⟨#[]⟩, .string ⟨#[]⟩] 37)).alloc (.cells #[.string k, .int .i64 at_, .slice none 0 0, .slice none 0 0, .int .i64 0, .string ⟨#[]⟩, .string ⟨#[]⟩] 37)) := by rw [hW3, hW2, hW1]; exact rfl
  have HC := to_any p1 c1 ns W3 (h1.below B0.out) n1 m1
  have HT2 : Hid (TxtAt w p2 cs) := h2
  have HZ3 : Hid (W3.heap.size = w.heap.size + 3) := z3
  clear hW1 hW2 hW3 z1 z2 z3 b1 b2 h1 h2
  go_enter Tryz.func59, Tryz.ntmps59
  go_wp2_with fail
  rw [← HW3.out]
  refine HC.mono ?_
  rintro e w4 ⟨rfl, hB4, b4⟩
  rw [HZ3.out] at hB4 ⊢
  have hz4 := b4.size
  have xo := XO.out.below b4
  have o0 : w4.cell? ⟨w.heap.size + 1 + 1, 2, none⟩ = some (.slice none 0 0) := xo.cell 2
  have fo := xo.fr 2
  obtain ⟨W5, hW5⟩ : ∃ W5, W5 = w4.setCell ⟨w.heap.size + 1 + 1, 2, none⟩ (.slice (some ⟨w.heap.size + 3, 0, none⟩) ns.length ns.length) := ⟨_, rfl⟩
  have HW5 : Hid (W5 = w4.setCell ⟨w.heap.size + 1 + 1, 2, none⟩ (.slice (some ⟨w.heap.size + 3, 0, none⟩) ns.length ns.length)) := hW5
  have z5 : W5.heap.size = w4.heap.size := by rw [hW5]; simp [World.setCell]
  have bb5 := (chainB B0.out b4).setCell (p := ⟨w.heap.size + 1 + 1, 2, none⟩) (by show w.heap.size ≤ w.heap.size + 1 + 1; omega) (.slice (some ⟨w.heap.size + 3, 0, none⟩) ns.length ns.length)
  rw [← hW5] at bb5
  have HB5 : Hid (Below w.heap.size w W5) := bb5
  have XA5 : Hid (Bxs W5 w.heap.size 48 #[.string k, .int .i64 at_, .slice p1 ns.length c1, .slice p2 cs.length c2, .int .i64 ix, .string s, .string v]) := by rw [hW5]; exact (XA.out.below b4).other _ _ (by omega) _
  have XR5 : Hid (Bxs W5 (w.heap.size + 1) 37 #[.string ⟨#[]⟩, .int .i64 0, .slice none 0 0, .slice none 0 0, .int .i64 0, .string ⟨#[]⟩, .string ⟨#[]⟩]) := by rw [hW5]; exact (XR.out.below b4).other _ _ (by omega) _
  have XO5 : Hid (Bxs W5 (w.heap.size + 1 + 1) 37 #[.string k, .int .i64 at_, .slice (some ⟨w.heap.size + 3, 0, none⟩) ns.length ns.length, .slice none 0 0, .int .i64 0, .string ⟨#[]⟩, .string ⟨#[]⟩]) := by rw [hW5]; exact xo.set 2 _
  have HK5 : Hid (BlkS W5 (w.heap.size + 3) ns) := by rw [hW5]; exact hB4.setOther _ _ (by omega) _
  have HC2 := to_any p2 c2 cs W5 (HT2.out.below HB5.out) n2 m2
  rw [z5] at HC2
  have a1 : W5.cell? ⟨w.heap.size, 3, none⟩ = some (.slice p2 cs.length c2) := XA5.out.cell 3
  rw [hW5] at a1
  have hlt : w.heap.size + 3 < w4.heap.size := hB4.lt
  clear hW5 bb5 hB4 b4 xo XA XR XO HT2 HC
  go_wp2_with fail
  rw [← HW5.out]
  refine HC2.mono ?_
  rintro e w6 ⟨rfl, hB6, b6⟩
  have b6 : Below W5.heap.size W5 w6 := by rw [z5]; exact b6
  have xo := XO5.out.below b6
  have xr := XR5.out.below b6
  have xa := XA5.out.below b6
  have qa4 : w6.cell? ⟨w.heap.size, 4, none⟩ = some (.int .i64 ix) := xa.cell 4
  have qa5 : w6.cell? ⟨w.heap.size, 5, none⟩ = some (.string s) := xa.cell 5
  have qa6 : w6.cell? ⟨w.heap.size, 6, none⟩ = some (.string v) := xa.cell 6
  have qo0 : w6.cell? ⟨w.heap.size + 1 + 1, 0, none⟩ = some (.string k) := xo.cell 0
  have qo1 : w6.cell? ⟨w.heap.size + 1 + 1, 1, none⟩ = some (.int .i64 at_) := xo.cell 1
  have qo2 : w6.cell? ⟨w.heap.size + 1 + 1, 2, none⟩ = some (.slice (some ⟨w.heap.size + 3, 0, none⟩) ns.length ns.length) := xo.cell 2
  have qo3 : w6.cell? ⟨w.heap.size + 1 + 1, 3, none⟩ = some (.slice none 0 0) := xo.cell 3
  have fo3 := xo.fr 3
  have qo4 : w6.cell? ⟨w.heap.size + 1 + 1, 4, none⟩ = some (.int .i64 0) := xo.cell 4
  have fo4 := xo.fr 4
  have qo5 : w6.cell? ⟨w.heap.size + 1 + 1, 5, none⟩ = some (.string ⟨#[]⟩) := xo.cell 5
  have fo5 := xo.fr 5
  have qo6 : w6.cell? ⟨w.heap.size + 1 + 1, 6, none⟩ = some (.string ⟨#[]⟩) := xo.cell 6
  have fo6 := xo.fr 6
  have qr0 : w6.cell? ⟨w.heap.size + 1, 0, none⟩ = some (.string ⟨#[]⟩) := xr.cell 0
  have fr0 := xr.fr 0
  have qr1 : w6.cell? ⟨w.heap.size + 1, 1, none⟩ = some (.int .i64 0) := xr.cell 1
  have fr1 := xr.fr 1
  have qr2 : w6.cell? ⟨w.heap.size + 1, 2, none⟩ = some (.slice none 0 0) := xr.cell 2
  have fr2 := xr.fr 2
  have qr3 : w6.cell? ⟨w.heap.size + 1, 3, none⟩ = some (.slice none 0 0) := xr.cell 3
  have fr3 := xr.fr 3
  have qr4 : w6.cell? ⟨w.heap.size + 1, 4, none⟩ = some (.int .i64 0) := xr.cell 4
  have fr4 := xr.fr 4
  have qr5 : w6.cell? ⟨w.heap.size + 1, 5, none⟩ = some (.string ⟨#[]⟩) := xr.cell 5
  have fr5 := xr.fr 5
  have qr6 : w6.cell? ⟨w.heap.size + 1, 6, none⟩ = some (.string ⟨#[]⟩) := xr.cell 6
  have fr6 := xr.fr 6
  have HEnd : Hid (∀ v0 v1 v2 v3 u0 u1 u2 u3 u4 u5 u6 : Value, BlkS (((((((((((w6.setCell ⟨w.heap.size + 1 + 1, 3, none⟩ v0).setCell ⟨w.heap.size + 1 + 1, 4, none⟩ v1).setCell ⟨w.heap.size + 1 + 1, 5, none⟩ v2).setCell ⟨w.heap.size + 1 + 1, 6, none⟩ v3).setCell ⟨w.heap.size + 1, 0, none⟩ u0).setCell ⟨w.heap.size + 1, 1, none⟩ u1).setCell ⟨w.heap.size + 1, 2, none⟩ u2).setCell ⟨w.heap.size + 1, 3, none⟩ u3).setCell ⟨w.heap.size + 1, 4, none⟩ u4).setCell ⟨w.heap.size + 1, 5, none⟩ u5).setCell ⟨w.heap.size + 1, 6, none⟩ u6) (w.heap.size + 3) ns ∧ BlkS (((((((((((w6.setCell ⟨w.heap.size + 1 + 1, 3, none⟩ v0).setCell ⟨w.heap.size + 1 + 1, 4, none⟩ v1).setCell ⟨w.heap.size + 1 + 1, 5, none⟩ v2).setCell ⟨w.heap.size + 1 + 1, 6, none⟩ v3).setCell ⟨w.heap.size + 1, 0, none⟩ u0).setCell ⟨w.heap.size + 1, 1, none⟩ u1).setCell ⟨w.heap.size + 1, 2, none⟩ u2).setCell ⟨w.heap.size + 1, 3, none⟩ u3).setCell ⟨w.heap.size + 1, 4, none⟩ u4).setCell ⟨w.heap.size + 1, 5, none⟩ u5).setCell ⟨w.heap.size + 1, 6, none⟩ u6) w4.heap.size cs ∧ Below w.heap.size w (((((((((((w6.setCell ⟨w.heap.size + 1 + 1, 3, none⟩ v0).setCell ⟨w.heap.size + 1 + 1, 4, none⟩ v1).setCell ⟨w.heap.size + 1 + 1, 5, none⟩ v2).setCell ⟨w.heap.size + 1 + 1, 6, none⟩ v3).setCell ⟨w.heap.size + 1, 0, none⟩ u0).setCell ⟨w.heap.size + 1, 1, none⟩ u1).setCell ⟨w.heap.size + 1, 2, none⟩ u2).setCell ⟨w.heap.size + 1, 3, none⟩ u3).setCell ⟨w.heap.size + 1, 4, none⟩ u4).setCell ⟨w.heap.size + 1, 5, none⟩ u5).setCell ⟨w.heap.size + 1, 6, none⟩ u6)) := by
    intro v0 v1 v2 v3 u0 u1 u2 u3 u4 u5 u6
    have k1 := HK5.out.below b6 HK5.out.lt
    have hb := chainB HB5.out b6
    exact ⟨(((((((((((k1.setOther _ _ (by omega) _).setOther _ _ (by omega) _).setOther _ _ (by omega) _).setOther _ _ (by omega) _).setOther _ _ (by omega) _).setOther _ _ (by omega) _).setOther _ _ (by omega) _).setOther _ _ (by omega) _).setOther _ _ (by omega) _).setOther _ _ (by omega) _).setOther _ _ (by omega) _), (((((((((((hB6.setOther _ _ (by omega) _).setOther _ _ (by omega) _).setOther _ _ (by omega) _).setOther _ _ (by omega) _).setOther _ _ (by omega) _).setOther _ _ (by omega) _).setOther _ _ (by omega) _).setOther _ _ (by omega) _).setOther _ _ (by omega) _).setOther _ _ (by omega) _).setOther _ _ (by omega) _), (((((((((((hb.setCell (by show w.heap.size ≤ w.heap.size + 1 + 1; omega) _).setCell (by show w.heap.size ≤ w.heap.size + 1 + 1; omega) _).setCell (by show w.heap.size ≤ w.heap.size + 1 + 1; omega) _).setCell (by show w.heap.size ≤ w.heap.size + 1 + 1; omega) _).setCell (by show w.heap.size ≤ w.heap.size + 1; omega) _).setCell (by show w.heap.size ≤ w.heap.size + 1; omega) _).setCell (by show w.heap.size ≤ w.heap.size + 1; omega) _).setCell (by show w.heap.size ≤ w.heap.size + 1; omega) _).setCell (by show w.heap.size ≤ w.heap.size + 1; omega) _).setCell (by show w.heap.size ≤ w.heap.size + 1; omega) _).setCell (by show w.heap.size ≤ w.heap.size + 1; omega) _)⟩
  clear hB6 b6 xo xr xa z5 HC2 XA5 XR5 XO5 HK5 HB5 HW5 a1 o0 fo
  go_wp2_with fail
  refine bodyPost_ret (v := .agg #[.string k, .int .i64 at_, .slice (some ⟨w.heap.size + 3, 0, none⟩) ns.length ns.length, .slice (some ⟨w4.heap.size, 0, none⟩) cs.length cs.length, .int .i64 ix, .string s, .string v]) (by simp [results, Tryz.results59, go_sem, qr0, qr1, qr2, qr3, qr4, qr5, qr6]) rfl ?_
  exact ⟨w.heap.size + 3, w4.heap.size, by omega, hlt, rfl, HEnd.out _ _ _ _ _ _ _ _ _ _ _⟩

/-- What marking the two rows of a Shown leaves. -/
def MkP (base : Nat) (p1 : Option Addr) (c1 : Nat) (ns : List ByteArray) (p2 : Option Addr) (c2 : Nat) (cs : List ByteArray) (w w' : World) : Prop :=
  w'.ownsRow base 9 1 (.slice p1 ns.length c1) ns.length (strRow (marksN 1 ns.length)) ∧ w'.ownsRow base 9 1 (.slice p2 cs.length c2) cs.length (strRow (marksN (ns.length + 1) cs.length)) ∧ ∃ wm, w.grownBy wm (Value.slice p1 ns.length c1).ownBlock ∧ wm.grownBy w' (Value.slice p2 cs.length c2).ownBlock
theorem MkP.alloc {base : Nat} {p1 : Option Addr} {c1 : Nat} {ns : List ByteArray} {p2 : Option Addr} {c2 : Nat} {cs : List ByteArray} {w w' : World} {o : Obj} (h : MkP base p1 c1 ns p2 c2 cs (w.alloc o) w') : MkP base p1 c1 ns p2 c2 cs w w' := by
  obtain ⟨h1, h2, wm, g, g2⟩ := h
  exact ⟨h1, h2, wm, ⟨g.os, g.tape, g.output, by have := g.size; simp at this; omega, fun b hb hn => (g.block b (by simp; omega) hn).trans (Below.heap_alloc _ _ _ hb)⟩, g2⟩
set_option maxHeartbeats 2000000 in
theorem markShown_any (k : ByteArray) (at_ ix : Int) (s v : ByteArray) (base : Nat) (p1 : Option Addr) (c1 : Nat) (ns : List ByteArray) (p2 : Option Addr) (c2 : Nat) (cs : List ByteArray) (w : World) (o1 : w.ownsRow base 9 1 (.slice p1 ns.length c1) ns.length (strRow ns)) (o2 : w.ownsRow base 9 1 (.slice p2 cs.length c2) cs.length (strRow cs)) (hne : (Value.slice p2 cs.length c2).ownBlock = none ∨ (Value.slice p2 cs.length c2).ownBlock ≠ (Value.slice p1 ns.length c1).ownBlock) (hl : ns.length + cs.length ≤ 4000000) :
    Calls Tryz.prog 49 #[.agg #[.string k, .int .i64 at_, .slice p1 ns.length c1, .slice p2 cs.length c2, .int .i64 ix, .string s, .string v], .int .i64 1] w fun e w' => e = .returned (.int .i64 ((cs.length : Int) + ((ns.length : Int) + 1))) ∧ MkP base p1 c1 ns p2 c2 cs w w' := by
  obtain ⟨W1, hW1⟩ : ∃ W1, W1 = w.alloc (.cells #[.string k, .int .i64 at_, .slice p1 ns.length c1, .slice p2 cs.length c2, .int .i64 ix, .string s, .string v] 37) := ⟨_, rfl⟩
  have HW1 : Hid (W1 = w.alloc (.cells #[.string k, .int .i64 at_, .slice p1 ns.length c1, .slice p2 cs.length c2, .int .i64 ix, .string s, .string v] 37)) := hW1
  have X1 : Hid (Bxs W1 w.heap.size 37 #[.string k, .int .i64 at_, .slice p1 ns.length c1, .slice p2 cs.length c2, .int .i64 ix, .string s, .string v]) := by rw [hW1]; exact Bxs.new _ _ _
  have O1 : Hid (W1.ownsRow base 9 1 (.slice p1 ns.length c1) ns.length (strRow ns)) := by rw [hW1]; exact o1.alloc _
  have O2 : Hid (W1.ownsRow base 9 1 (.slice p2 cs.length c2) cs.length (strRow cs)) := by rw [hW1]; exact o2.alloc _
  have HNB : Hid (some w.heap.size ≠ (Value.slice p1 ns.length c1).ownBlock) := fun e => by have := ownS_block o1 e.symm; omega
  have HG : Hid (∀ w', MkP base p1 c1 ns p2 c2 cs W1 w' → MkP base p1 c1 ns p2 c2 cs w w') := by rw [hW1]; exact fun w' h => h.alloc
  have H1 := markG_any 1 (by omega) base (.slice p1 ns.length c1) ns W1 O1.out (by omega)
  rw [show ((1 : Nat) : Int) = 1 from rfl] at H1
  have HN : Hid ((Value.slice p2 cs.length c2).ownBlock = none ∨ (Value.slice p2 cs.length c2).ownBlock ≠ (Value.slice p1 ns.length c1).ownBlock) := hne
  clear hW1 o1 o2 hne
  go_enter Tryz.func49, Tryz.ntmps49
  go_wp2_with fail
  rw [← HW1.out]
  refine H1.mono ?_
  rintro e w2 ⟨rfl, q1, g1⟩
  have x2 : w2.cell? ⟨w.heap.size, 3, none⟩ = some (.slice p2 cs.length c2) := (X1.out.grown g1 HNB.out).cell 3
  have q2 := O2.out.kept g1 HN.out
  have H2 := markG_any (ns.length + 1) (by omega) base (.slice p2 cs.length c2) cs w2 q2 (by omega)
  rw [show ((ns.length + 1 : Nat) : Int) = (ns.length : Int) + 1 by omega] at H2
  have Q1 : Hid (w2.ownsRow base 9 1 (.slice p1 ns.length c1) ns.length (strRow (marksN 1 ns.length))) := q1
  have G1 : Hid (W1.grownBy w2 (Value.slice p1 ns.length c1).ownBlock) := g1
  have HN2 : Hid ((Value.slice p1 ns.length c1).ownBlock = none ∨ (Value.slice p1 ns.length c1).ownBlock ≠ (Value.slice p2 cs.length c2).ownBlock) := by
    rcases HN.out with h | h
    · cases h1 : (Value.slice p1 ns.length c1).ownBlock with
      | none => exact .inl rfl
      | some b => exact .inr (by rw [h]; simp)
    · exact .inr (fun e => h e.symm)
  clear q1 q2 g1 H1 O1 O2 X1 HNB
  go_wp2_with fail
  refine H2.mono ?_
  rintro e w3 ⟨rfl, q3, g3⟩
  have HP : Hid (MkP base p1 c1 ns p2 c2 cs w w3) := HG.out w3 ⟨by have h := Q1.out.kept g3 HN2.out; exact h, q3, w2, G1.out, g3⟩
  clear q3 g3 H2 x2 Q1
  go_wp2_with fail
  go_ret
  exact ⟨rfl, HP.out⟩

set_option maxHeartbeats 2000000 in
theorem heldShown_any (k : ByteArray) (at_ ix : Int) (s v : ByteArray) (p1 : Option Addr) (c1 n1 : Nat) (p2 : Option Addr) (c2 n2 : Nat) (w : World) (h1 : TxtAt w p1 (marksN 1 n1)) (h2 : TxtAt w p2 (marksN (n1 + 1) n2)) (hl : n1 + n2 ≤ 4000000) (m1 : n1 ≤ c1) (m2 : n2 ≤ c2) :
    Calls Tryz.prog 51 #[.agg #[.string k, .int .i64 at_, .slice p1 n1 c1, .slice p2 n2 c2, .int .i64 ix, .string s, .string v], .int .i64 1] w fun e w' => e = .returned (.int .i64 ((n2 : Int) + ((n1 : Int) + 1))) ∧ Below w.heap.size w w' := by
  obtain ⟨W1, hW1⟩ : ∃ W1, W1 = w.alloc (.cells #[.string k, .int .i64 at_, .slice p1 n1 c1, .slice p2 n2 c2, .int .i64 ix, .string s, .string v] 37) := ⟨_, rfl⟩
  have HW1 : Hid (W1 = w.alloc (.cells #[.string k, .int .i64 at_, .slice p1 n1 c1, .slice p2 n2 c2, .int .i64 ix, .string s, .string v] 37)) := hW1
  have X1 : Hid (Bxs W1 w.heap.size 37 #[.string k, .int .i64 at_, .slice p1 n1 c1, .slice p2 n2 c2, .int .i64 ix, .string s, .string v]) := by rw [hW1]; exact Bxs.new _ _ _
  have B1 : Hid (Below w.heap.size w W1) := by rw [hW1]; exact (Below.refl _ _).alloc (Nat.le_refl _) _
  have H1 := heldG_any 1 (by omega) p1 c1 n1 W1 (h1.below B1.out) (by omega) m1
  rw [show ((1 : Nat) : Int) = 1 from rfl] at H1
  have T2 : Hid (TxtAt W1 p2 (marksN (n1 + 1) n2)) := h2.below B1.out
  clear hW1 h1 h2
  have d1 : decide ((n1 : Int) + 1 < 0) = false := decide_eq_false (by omega)
  have d2 : decide ((n2 : Int) + ((n1 : Int) + 1) < 0) = false := decide_eq_false (by omega)
  go_enter Tryz.func51, Tryz.ntmps51
  go_wp2_with fail
  rw [← HW1.out]
  refine H1.mono ?_
  rintro e w2 ⟨rfl, b2⟩
  have x2 : w2.cell? ⟨w.heap.size, 3, none⟩ = some (.slice p2 n2 c2) := (X1.out.below b2).cell 3
  have H2 := heldG_any (n1 + 1) (by omega) p2 c2 n2 w2 (T2.out.below b2) (by omega) m2
  rw [show ((n1 + 1 : Nat) : Int) = (n1 : Int) + 1 by omega] at H2
  have b2 := chainB B1.out b2
  clear H1 T2 X1
  go_wp2_with fail
  refine H2.mono ?_
  rintro e w3 ⟨rfl, b3⟩
  have b3 := chainB b2 b3
  clear H2 x2
  go_wp2_with fail
  go_ret
  exact ⟨rfl, b3⟩

end Go.Proofs.YthkmeneepkaedaaGreatDoor
