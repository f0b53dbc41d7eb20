/-
  What the laws' own helpers answer for disks: szDisk, toDisk, eqDisk, eqDiskOut (of two that are alike).
  Conditions: the slices' cells hold the texts and the pendings.
-/
import Derived.Test.YtnppgldafhpchaaDoorRows
import Derived.Test.YtnppgldafhpchaaDoorBytes
import Derived.Test.YtnppgldafhpchaaDoorSlASlBOwnS
import Derived.Test.YtnppgldafhpchaaDoorBxK
import Derived.Test.YtnppgldafhpchaaDoorLawS
import Derived.Test.YtnppgldafhpchaaDoorLawSGAppSStepApp
import Derived.Test.YtnppgldafhpchaaDoorDskMath
import Derived.Test.YtnppgldafhpchaaDoorDskA
import Derived.Test.YtnppgldafhpchaaDoorLawP
import Derived.Handy
import Derived.WalkSpells
import Derived.OwnWalk
namespace Go.Proofs.YtnppgldafhpchaaDoor
open Go.RowKit Go.Lib
set_option linter.unusedVariables false
set_option maxRecDepth 20000

def SmallT (ss : List ByteArray) : Prop := ss.length ≤ 1048576 ∧ ∀ x ∈ ss, x.size ≤ 1048576
def SmallP (ps : List Pnd) : Prop := ps.length ≤ 1048576 ∧ ∀ p ∈ ps, p.2.size ≤ 1048576
set_option maxHeartbeats 1000000 in
theorem szDisk_any (p1 p2 : Option Addr) (c1 c2 : Nat) (ss : List ByteArray) (ps : List Pnd) (w : World) (h1 : TxtAt w p1 ss) (h2 : PndAt w p2 ps) (n1 : ss.length ≤ 9223372036854775807) (n2 : ps.length ≤ 9223372036854775807) (m1 : ss.length ≤ c1) (m2 : ps.length ≤ c2) (s1 : ∀ x ∈ ss, x.size ≤ 9223372036854775807) (s2 : ∀ x ∈ ps, x.2.size ≤ 9223372036854775807) :
    Calls Tryd.prog 4 #[.agg #[.slice p1 ss.length c1, .slice p2 ps.length c2], .int .i64 1048576] w fun e w' => (∃ r : Int, e = .returned (.int .i64 r) ∧ (r = -1 ∨ (0 ≤ r ∧ r ≤ 1048576 ∧ SmallT ss ∧ SmallP ps))) ∧ Below w.heap.size w w' := by
  obtain ⟨W1, hW1⟩ : ∃ W1, W1 = w.alloc (.cells #[.slice p1 ss.length c1, .slice p2 ps.length c2] 25) := ⟨_, rfl⟩
  have HW1 : Hid (W1 = w.alloc (.cells #[.slice p1 ss.length c1, .slice p2 ps.length c2] 25)) := hW1
  have B1 : Hid (Below w.heap.size w W1) := by rw [hW1]; exact (Below.refl _ _).alloc (Nat.le_refl _) _
  have X1 : Bxs W1 w.heap.size 25 #[.slice p1 ss.length c1, .slice p2 ps.length c2] := by rw [hW1]; exact Bxs.new _ _ _
  have t1 : W1.cell? ⟨w.heap.size, 1, none⟩ = some (.slice p2 ps.length c2) := X1.cell 1
  have H1 := szG_any 1048576 (by omega) (by omega) p1 c1 ss W1 (h1.below B1.out) n1 m1 s1
  have H2 : Hid (∀ (l0 : Int), 0 ≤ l0 → l0 ≤ 1048576 → Calls Tryd.prog 10 #[.slice p2 ps.length c2, .int .i64 l0] W1 fun e w' => (∃ r : Int, e = .returned (.int .i64 r) ∧ SzPn r l0 ps) ∧ Below W1.heap.size W1 w') := fun l0 a b => szP_any l0 a b p2 c2 ps W1 (h2.below B1.out) n2 m2 s2
  clear hW1 X1 h1 h2 s1 s2
  go_enter Tryd.func4, Tryd.ntmps4
  go_wp2_with fail
  rw [← HW1.out]
  refine H1.mono ?_
  rintro e w1 ⟨⟨r, rfl, hr⟩, rfl⟩
  rcases hr with rfl | ⟨r0, r1, r2, r3⟩
  · go_wp2_with fail
    go_ret
    exact ⟨⟨_, rfl, .inl rfl⟩, B1.out⟩
  · have H3 := H2.out r r0 r1
    have HR3 : Hid (∀ x ∈ ss, x.size ≤ 1048576) := r3
    clear H2 r3
    have dr : decide (r < 0) = false := decide_eq_false (by omega)
    go_wp2_with fail
    refine H3.mono ?_
    rintro e w2 ⟨⟨r', rfl, hr'⟩, b2⟩
    have b2 := chainB B1.out b2
    rcases hr' with rfl | ⟨r4, r5, r6, r7⟩
    · go_wp2_with fail
      go_ret
      exact ⟨⟨_, rfl, .inl rfl⟩, b2⟩
    · have HR7 : Hid (∀ x ∈ ps, x.2.size ≤ 1048576) := r7
      clear r7
      have dr : decide (r' < 0) = false := decide_eq_false (by omega)
      go_wp2_with fail
      go_ret
      exact ⟨⟨_, rfl, .inr ⟨r4, by omega, ⟨r2, HR3.out⟩, ⟨r6, HR7.out⟩⟩⟩, b2⟩

set_option maxHeartbeats 2000000 in
theorem toDisk_any (p1 p2 : Option Addr) (c1 c2 : Nat) (ss : List ByteArray) (ps : List Pnd) (w : World) (h1 : TxtAt w p1 ss) (h2 : PndAt w p2 ps) (n1 : ss.length ≤ 1048576) (n2 : ps.length ≤ 1048576) (m1 : ss.length ≤ c1) (m2 : ps.length ≤ c2) :
    Calls Tryd.prog 6 #[.agg #[.slice p1 ss.length c1, .slice p2 ps.length c2]] w fun e w' => ∃ g1 g2, w.heap.size ≤ g1 ∧ g1 < g2 ∧ e = .returned (.agg #[.slice (some ⟨g1, 0, none⟩) ss.length ss.length, .slice (some ⟨g2, 0, none⟩) ps.length ps.length]) ∧ BlkS w' g1 ss ∧ BlkP w' g2 ps ∧ Below w.heap.size w w' := by
  obtain ⟨W1, hW1⟩ : ∃ W1, W1 = w.alloc (.cells #[.slice p1 ss.length c1, .slice p2 ps.length c2] 25) := ⟨_, rfl⟩
  obtain ⟨W2, hW2⟩ : ∃ W2, W2 = W1.alloc (.cells #[.slice none 0 0, .slice none 0 0] 30) := ⟨_, rfl⟩
  obtain ⟨W3, hW3⟩ : ∃ W3, W3 = W2.alloc (.cells #[.slice none 0 0, .slice none 0 0] 30) := ⟨_, rfl⟩
  have z1 : W1.heap.size = w.heap.size + 1 := by rw [hW1]; simp
  have z2 : W2.heap.size = w.heap.size + 1 + 1 := by rw [hW2]; simp [z1]
  have z3 : W3.heap.size = w.heap.size + 3 := by rw [hW3]; simp [z2]
  have b1 : Below w.heap.size w W1 := by rw [hW1]; exact (Below.refl _ _).alloc (Nat.le_refl _) _
  have b2 : Below w.heap.size w W2 := by rw [hW2]; exact alB b1 _
  have B0 : Hid (Below w.heap.size w W3) := by rw [hW3]; exact alB b2 _
  have XA : Hid (Bxs W3 w.heap.size 25 #[.slice p1 ss.length c1, .slice p2 ps.length c2]) := by rw [hW3, hW2, hW1]; exact ((Bxs.new _ _ _).alloc _).alloc _
  have XR : Hid (Bxs W3 (w.heap.size + 1) 30 #[.slice none 0 0, .slice none 0 0]) := by rw [hW3]; refine Bxs.alloc ?_ _; rw [hW2, ← z1]; exact Bxs.new _ _ _
  have XO : Hid (Bxs W3 (w.heap.size + 1 + 1) 30 #[.slice none 0 0, .slice none 0 0]) := by rw [hW3, ← z2]; exact Bxs.new _ _ _
  have HW3 : Hid (W3 = ((w.alloc (.cells #[.slice p1 ss.length c1, .slice p2 ps.length c2] 25)).alloc (.cells #[.slice none 0 0, .slice none 0 0] 30)).alloc (.cells #[.slice none 0 0, .slice none 0 0] 30)) := by rw [hW3, hW2, hW1]; exact rfl
  have HC := to_any p1 c1 ss W3 (h1.below B0.out) n1 m1
  have HT2 : Hid (PndAt w p2 ps) := h2
  have HZ3 : Hid (W3.heap.size = w.heap.size + 3) := z3
  clear hW1 hW2 hW3 z1 z2 z3 b1 b2 h1 h2
  go_enter Tryd.func6, Tryd.ntmps6
  go_wp2_with fail
  rw [← HW3.out]
  refine HC.mono ?_
  rintro e w4 ⟨rfl, hB4, b4⟩
  rw [HZ3.out] at hB4 ⊢
  have hz4 := b4.size
  have xo := XO.out.below b4
  have o0 : w4.cell? ⟨w.heap.size + 1 + 1, 0, none⟩ = some (.slice none 0 0) := xo.cell 0
  have fo := xo.fr 0
  obtain ⟨W5, hW5⟩ : ∃ W5, W5 = w4.setCell ⟨w.heap.size + 1 + 1, 0, none⟩ (.slice (some ⟨w.heap.size + 3, 0, none⟩) ss.length ss.length) := ⟨_, rfl⟩
  have HW5 : Hid (W5 = w4.setCell ⟨w.heap.size + 1 + 1, 0, none⟩ (.slice (some ⟨w.heap.size + 3, 0, none⟩) ss.length ss.length)) := hW5
  have z5 : W5.heap.size = w4.heap.size := by rw [hW5]; simp [World.setCell]
  have bb5 := (chainB B0.out b4).setCell (p := ⟨w.heap.size + 1 + 1, 0, none⟩) (by show w.heap.size ≤ w.heap.size + 1 + 1; omega) (.slice (some ⟨w.heap.size + 3, 0, none⟩) ss.length ss.length)
  rw [← hW5] at bb5
  have HB5 : Hid (Below w.heap.size w W5) := bb5
  have XA5 : Hid (Bxs W5 w.heap.size 25 #[.slice p1 ss.length c1, .slice p2 ps.length c2]) := by rw [hW5]; exact (XA.out.below b4).other _ _ (by omega) _
  have XR5 : Hid (Bxs W5 (w.heap.size + 1) 30 #[.slice none 0 0, .slice none 0 0]) := by rw [hW5]; exact (XR.out.below b4).other _ _ (by omega) _
  have XO5 : Hid (Bxs W5 (w.heap.size + 1 + 1) 30 #[.slice (some ⟨w.heap.size + 3, 0, none⟩) ss.length ss.length, .slice none 0 0]) := by rw [hW5]; exact xo.set 0 _
  have HK5 : Hid (BlkS W5 (w.heap.size + 3) ss) := by rw [hW5]; exact hB4.setOther _ _ (by omega) _
  have HC2 := toP_any p2 c2 ps W5 (HT2.out.below HB5.out) n2 m2
  rw [z5] at HC2
  have a1 : W5.cell? ⟨w.heap.size, 1, none⟩ = some (.slice p2 ps.length c2) := XA5.out.cell 1
  rw [hW5] at a1
  have hlt : w.heap.size + 3 < w4.heap.size := hB4.lt
  clear hW5 bb5 hB4 b4 xo XA XR XO HT2 HC
  go_wp2_with fail
  rw [← HW5.out]
  refine HC2.mono ?_
  rintro e w6 ⟨rfl, hB6, b6⟩
  have b6 : Below W5.heap.size W5 w6 := by rw [z5]; exact b6
  have xo := XO5.out.below b6
  have xr := XR5.out.below b6
  have g0 : w6.cell? ⟨w.heap.size + 1 + 1, 0, none⟩ = some (.slice (some ⟨w.heap.size + 3, 0, none⟩) ss.length ss.length) := xo.cell 0
  have g1 : w6.cell? ⟨w.heap.size + 1 + 1, 1, none⟩ = some (.slice none 0 0) := xo.cell 1
  have fg := xo.fr 1
  have r0 : w6.cell? ⟨w.heap.size + 1, 0, none⟩ = some (.slice none 0 0) := xr.cell 0
  have r1 : w6.cell? ⟨w.heap.size + 1, 1, none⟩ = some (.slice none 0 0) := xr.cell 1
  have e0 := xr.fr 0
  have e1 := xr.fr 1
  have HEnd : Hid (∀ v0 v1 v2 : Value, BlkS (((w6.setCell ⟨w.heap.size + 1 + 1, 1, none⟩ v0).setCell ⟨w.heap.size + 1, 0, none⟩ v1).setCell ⟨w.heap.size + 1, 1, none⟩ v2) (w.heap.size + 3) ss ∧ BlkP (((w6.setCell ⟨w.heap.size + 1 + 1, 1, none⟩ v0).setCell ⟨w.heap.size + 1, 0, none⟩ v1).setCell ⟨w.heap.size + 1, 1, none⟩ v2) w4.heap.size ps ∧ Below w.heap.size w (((w6.setCell ⟨w.heap.size + 1 + 1, 1, none⟩ v0).setCell ⟨w.heap.size + 1, 0, none⟩ v1).setCell ⟨w.heap.size + 1, 1, none⟩ v2)) := by
    intro v0 v1 v2
    have k1 := HK5.out.below b6 HK5.out.lt
    have hb := chainB HB5.out b6
    exact ⟨((k1.setOther _ _ (by omega) _).setOther _ _ (by omega) _).setOther _ _ (by omega) _, ((hB6.setOther _ _ (by omega) _).setOther _ _ (by omega) _).setOther _ _ (by omega) _, ((hb.setCell (by show w.heap.size ≤ w.heap.size + 1 + 1; omega) _).setCell (by show w.heap.size ≤ w.heap.size + 1; omega) _).setCell (by show w.heap.size ≤ w.heap.size + 1; omega) _⟩
  clear hB6 b6 xo xr z5 HC2 XA5 XR5 XO5 HK5 HB5 HW5 a1 o0 fo
  go_wp2_with fail
  refine bodyPost_ret (v := .agg #[.slice (some ⟨w.heap.size + 3, 0, none⟩) ss.length ss.length, .slice (some ⟨w4.heap.size, 0, none⟩) ps.length ps.length]) (by simp [results, Tryd.results6, go_sem, r0, r1]) rfl ?_
  exact ⟨w.heap.size + 3, w4.heap.size, by omega, hlt, rfl, HEnd.out _ _ _⟩

set_option maxHeartbeats 1000000 in
theorem eqDisk_any (p1 p2 q1 q2 : Option Addr) (c1 c2 d1 d2 : Nat) (ss : List ByteArray) (ps : List Pnd) (w : World) (h1 : TxtAt w p1 ss) (h2 : PndAt w p2 ps) (g1 : TxtAt w q1 ss) (g2 : PndAt w q2 ps) (n1 : ss.length ≤ 1048576) (n2 : ps.length ≤ 1048576) (m1 : ss.length ≤ c1) (m2 : ps.length ≤ c2) (m3 : ss.length ≤ d1) (m4 : ps.length ≤ d2) :
    Calls Tryd.prog 8 #[.agg #[.slice p1 ss.length c1, .slice p2 ps.length c2], .agg #[.slice q1 ss.length d1, .slice q2 ps.length d2]] w fun e w' => e = .returned (.bool true) ∧ Below w.heap.size w w' := by
  obtain ⟨W0, hW0⟩ : ∃ W0, W0 = w.alloc (.cells #[.slice p1 ss.length c1, .slice p2 ps.length c2] 30) := ⟨_, rfl⟩
  have hz : W0.heap.size = w.heap.size + 1 := by rw [hW0]; simp
  obtain ⟨W1, hW1⟩ : ∃ W1, W1 = W0.alloc (.cells #[.slice q1 ss.length d1, .slice q2 ps.length d2] 30) := ⟨_, rfl⟩
  have HW1 : Hid (W1 = (w.alloc (.cells #[.slice p1 ss.length c1, .slice p2 ps.length c2] 30)).alloc (.cells #[.slice q1 ss.length d1, .slice q2 ps.length d2] 30)) := by rw [hW1, hW0]; exact rfl
  have hB0 : Below w.heap.size w W0 := by rw [hW0]; exact (Below.refl _ _).alloc (Nat.le_refl _) _
  have B1 : Hid (Below w.heap.size w W1) := by rw [hW1]; exact alB hB0 _
  have X1 : Hid (Bxs W1 w.heap.size 30 #[.slice p1 ss.length c1, .slice p2 ps.length c2]) := by rw [hW1]; refine Bxs.alloc ?_ _; rw [hW0]; exact Bxs.new _ _ _
  have X2 : Hid (Bxs W1 (w.heap.size + 1) 30 #[.slice q1 ss.length d1, .slice q2 ps.length d2]) := by rw [hW1, ← hz]; exact Bxs.new _ _ _
  have hE := eq_any p1 q1 c1 d1 ss ss W1 (h1.below B1.out) (g1.below B1.out) (by omega) (by omega) m1 m3
  rw [decide_eq_true rfl] at hE
  have T2 : Hid (PndAt W1 p2 ps ∧ PndAt W1 q2 ps) := ⟨h2.below B1.out, g2.below B1.out⟩
  clear hW1 hW0 h1 h2 g1 g2 hB0 hz
  go_enter Tryd.func8, Tryd.ntmps8
  go_wp2_with fail
  rw [← HW1.out]
  refine hE.mono ?_
  rintro e w1 ⟨rfl, b1⟩
  have x1 : w1.cell? ⟨w.heap.size, 1, none⟩ = some (.slice p2 ps.length c2) := (X1.out.below b1).cell 1
  have x2 : w1.cell? ⟨w.heap.size + 1, 1, none⟩ = some (.slice q2 ps.length d2) := (X2.out.below b1).cell 1
  have hF := eqP_any p2 q2 c2 d2 ps w1 (T2.out.1.below b1) (T2.out.2.below b1) n2 m2 m4
  have b1 := chainB B1.out b1
  clear hE T2
  go_wp2_with fail
  refine hF.mono ?_
  rintro e w2 ⟨rfl, b2⟩
  have b2 := chainB b1 b2
  clear hF x1 x2
  go_wp2_with fail
  go_ret
  exact ⟨rfl, b2⟩

end Go.Proofs.YtnppgldafhpchaaDoor
