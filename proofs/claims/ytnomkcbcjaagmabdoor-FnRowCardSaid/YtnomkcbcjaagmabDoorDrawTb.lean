/-
  What l08Tomb, DrawTombText, DrawTombRead, DrawRowLeaf and DrawLeafKind draw.
  Conditions: the source is one ('Src'), or the code's bytes lie there.
-/
import Derived.Test.YtnomkcbcjaagmabDoorRows
import Derived.Test.YtnomkcbcjaagmabDoorBytesDigMath
import Derived.Test.YtnomkcbcjaagmabDoorSlASlBOwnS
import Derived.Test.YtnomkcbcjaagmabDoorBxKGrKTakesSrc
import Derived.Test.YtnomkcbcjaagmabDoorDrawsDrawKit
import Derived.Test.YtnomkcbcjaagmabDoorSomeDrawFld
import Derived.Test.YtnomkcbcjaagmabDoorSpoilTScanMath
import Derived.Test.YtnomkcbcjaagmabDoorTmbMath
import Derived.Test.YtnomkcbcjaagmabDoorFldTb
import Derived.Test.YtnomkcbcjaagmabDoorFldL
import Derived.Test.YtnomkcbcjaagmabDoorDrawRow
import Derived.Test.YtnomkcbcjaagmabDoorDrawSm
import Derived.Handy
import Derived.WalkSpells
import Derived.OwnWalk
import Derived.Deep.Cut
import Derived.Deep.CutRange
namespace Go.Proofs.YtnomkcbcjaagmabDoor
open Go.RowKit Go.Lib
set_option linter.unusedVariables false
set_option maxRecDepth 20000

/-- A source, a result's box, a Tomb's box. -/
structure TbS (w : World) (B p : Nat) (a : Option Addr) (len cap : Nat) (Z : Nat) (r f y t : Int) (x : World) : Prop where
  src : Src 100 B p a len cap x
  gr : w.grownBy x (some p)
  res : Bxs x w.heap.size 48 #[.int .i64 0, .int .i64 0, .int .i64 0, .int .i64 0]
  box : Bxs x Z 48 #[.int .i64 r, .int .i64 f, .int .i64 y, .int .i64 t]
  hp : p < w.heap.size
  hZ : w.heap.size + 1 ≤ Z
section
variable {w : World} {B p : Nat} {a : Option Addr} {len cap Z : Nat} {r f y t r' f' y' t' : Int} {x z : World}
theorem TbS.draw (h : TbS w B p a len cap Z r f y t x) (hs : Src 100 B p a len cap z) (g : x.grownBy z (some p)) : TbS w B p a len cap Z r f y t z := by
  have hp := h.hp
  have hZ := h.hZ
  exact ⟨hs, touch_trans h.gr g, h.res.grown g (fun e => by cases e; omega), h.box.grown g (fun e => by cases e; omega), hp, hZ⟩
theorem TbS.below (h : TbS w B p a len cap Z r f y t x) (b : Below x.heap.size x z) : TbS w B p a len cap Z r f y t z :=
  ⟨h.src.below b, touch_below h.gr b, h.res.below b, h.box.below b, h.hp, h.hZ⟩
theorem TbS.put (h : TbS w B p a len cap Z r f y t x) (i : Nat) (u : Value) (hc : (#[.int .i64 r, .int .i64 f, .int .i64 y, .int .i64 t] : Array Value).setIfInBounds i u = #[.int .i64 r', .int .i64 f', .int .i64 y', .int .i64 t']) : TbS w B p a len cap Z r' f' y' t' (x.setCell ⟨Z, i, none⟩ u) := by
  have hp := h.hp
  have hZ := h.hZ
  have hr : ∀ j, some Z = some j → p < j := fun j hj => by cases hj; omega
  have hr2 : ∀ j, some Z = some j → w.heap.size ≤ j := fun j hj => by cases hj; omega
  refine ⟨h.src.other (set_grown x Z i u) hr, touch_own h.gr (set_grown x Z i u) hr2, h.res.other Z i (by omega) _, ?_, hp, hZ⟩
  have := h.box.set i u
  rw [hc] at this
  exact this
theorem TbS.done (h : TbS w B p a len cap Z r f y t x) (x0 x1 x2 x3 : Value) : Src 100 B p a len cap ((((x.setCell ⟨w.heap.size, 0, none⟩ x0).setCell ⟨w.heap.size, 1, none⟩ x1).setCell ⟨w.heap.size, 2, none⟩ x2).setCell ⟨w.heap.size, 3, none⟩ x3) ∧ w.grownBy ((((x.setCell ⟨w.heap.size, 0, none⟩ x0).setCell ⟨w.heap.size, 1, none⟩ x1).setCell ⟨w.heap.size, 2, none⟩ x2).setCell ⟨w.heap.size, 3, none⟩ x3) (some p) := by
  have hp := h.hp
  have hr : ∀ j, some w.heap.size = some j → p < j := fun j hj => by cases hj; omega
  have hr2 : ∀ j, some w.heap.size = some j → w.heap.size ≤ j := fun j hj => by cases hj; omega
  exact ⟨(((h.src.other (set_grown _ _ 0 _) hr).other (set_grown _ _ 1 _) hr).other (set_grown _ _ 2 _) hr).other (set_grown _ _ 3 _) hr, touch_own (touch_own (touch_own (touch_own h.gr (set_grown _ _ 0 _) hr2) (set_grown _ _ 1 _) hr2) (set_grown _ _ 2 _) hr2) (set_grown _ _ 3 _) hr2⟩
end
def tbS4 (w : World) (B p : Nat) (a : Option Addr) (len cap : Nat) (Z : Nat) (x : World) : Prop := ∃ r f y t : Int, TbS w B p a len cap Z r f y t x
theorem ints_at {c : Array Value} {n : Nat} (h : ∀ k : Nat, k < n → ∃ v : Int, c[k]? = some (.int .i64 v)) {w x : World} {p : Nat} (hx : (w.alloc (.cells c 2)).grownBy x (some p)) (hp : p < w.heap.size) (k : Nat) (hk : k < n) : ∃ v : Int, x.cell? ⟨w.heap.size, k, none⟩ = some (.int .i64 v) := by
  obtain ⟨v, hv⟩ := h k hk
  have b : Bxs (w.alloc (.cells c 2)) w.heap.size 2 c := Bxs.new _ _ _
  have := (b.grown hx (fun e => by cases e; omega)).cell k
  exact ⟨v, this.trans hv⟩
theorem three_at : ∀ k : Nat, k < 3 → ∃ v : Int, (#[.int .i64 (-1), .int .i64 63, .int .i64 64] : Array Value)[k]? = some (.int .i64 v)
  | 0, _ => ⟨_, rfl⟩
  | 1, _ => ⟨_, rfl⟩
  | 2, _ => ⟨_, rfl⟩
  | k + 3, h => by omega
theorem two_at (u v : Int) : ∀ k : Nat, k < 2 → ∃ z : Int, (#[.int .i64 u, .int .i64 v] : Array Value)[k]? = some (.int .i64 z)
  | 0, _ => ⟨_, rfl⟩
  | 1, _ => ⟨_, rfl⟩
  | k + 2, h => by omega
set_option maxHeartbeats 8000000 in
theorem l08Tomb_any (B p : Nat) (a : Option Addr) (len cap : Nat) (w : World) (hs : Src 100 B p a len cap w) :
    Calls Tryd.prog 62 #[.pointer (some ⟨p, 0, none⟩)] w fun e w' =>
      (∃ r f y t : Int, e = .returned (.agg #[.int .i64 r, .int .i64 f, .int .i64 y, .int .i64 t])) ∧ Src 100 B p a len cap w' ∧ w.grownBy w' (some p) := by
  have hp := hs.lt
  obtain ⟨W1, hW1⟩ : ∃ W1, W1 = w.alloc (.cells #[.int .i64 0, .int .i64 0, .int .i64 0, .int .i64 0] 48) := ⟨_, rfl⟩
  have HW : Hid (W1 = w.alloc (.cells #[.int .i64 0, .int .i64 0, .int .i64 0, .int .i64 0] 48)) := hW1
  have b1 : Below w.heap.size w W1 := by rw [hW1]; exact (Below.refl _ _).alloc (Nat.le_refl _) _
  have R1 : Hid (Bxs W1 w.heap.size 48 #[.int .i64 0, .int .i64 0, .int .i64 0, .int .i64 0]) := by rw [hW1]; exact Bxs.new _ _ _
  have S1 : Hid (Src 100 B p a len cap W1) := hs.below b1
  have G1 : Hid (w.grownBy W1 (some p)) := grown_below b1
  have HZ1 : Hid (W1.heap.size = w.heap.size + 1) := by rw [hW1]; exact szA _ _
  clear hW1 b1 hs
  go_enter Tryd.func62, Tryd.ntmps62
  go_wp2_with fail
  rw [← HW.out]
  clear HW
  refine (n_any B p a len cap 6 W1 S1.out (by omega)).mono ?_
  rintro e y1 ⟨⟨n1, rfl, -⟩, s1, g1⟩
  go_wp2_with fail
  refine (n_any B p a len cap 3 y1 s1 (by omega)).mono ?_
  rintro e y2 ⟨⟨n2, rfl, -⟩, s2, g2⟩
  go_wp2_with fail
  refine (n_any B p a len cap 2 y2 s2 (by omega)).mono ?_
  rintro e y3 ⟨⟨n3, rfl, n30, n31, -⟩, s3, g3⟩
  have n32 := n31 (by omega)
  have hw3 : IntKind.i64.wrap (1 + n3) = 1 + n3 := by rw [IntKind.wrap_i64]; omega
  go_wp2_with fail
  refine (n_any B p a len cap 90 y3 s3 (by omega)).mono ?_
  rintro e y4 ⟨⟨n4, rfl, -⟩, s4, g4⟩
  go_upto_region 2 with fail
  obtain ⟨y5, hy5⟩ : ∃ y5, y5 = y4.alloc (.cells #[.int .i64 n1, .int .i64 n2, .int .i64 (1 + n3), .int .i64 n4] 48) := ⟨_, rfl⟩
  rw [← hy5]
  obtain ⟨Z, hZ⟩ : ∃ Z, Z = y4.heap.size := ⟨_, rfl⟩
  rw [← hZ]
  have S5 : Hid (TbS w B p a len cap Z n1 n2 (1 + n3) n4 y5) := by
    have gg := touch_trans (touch_trans (touch_trans (touch_trans G1.out g1) g2) g3) g4
    have e4 := HZ1.out
    have e5 := g1.size
    have e6 := g2.size
    have e7 := g3.size
    have e8 := g4.size
    have ba : Below y4.heap.size y4 y5 := by rw [hy5]; exact (Below.refl _ _).alloc (Nat.le_refl _) _
    have ne : some w.heap.size ≠ some p := fun e => by cases e; omega
    exact ⟨s4.below ba, touch_below gg ba, ((((R1.out.grown g1 ne).grown g2 ne).grown g3 ne).grown g4 ne).below ba, by rw [hy5, hZ]; exact Bxs.new _ _ _, hp, by omega⟩
  clear hy5 hZ s1 s2 s3 s4 g1 g2 g3 g4 R1 S1 G1 HZ1 n30 n31 n32 hw3
  go_wp2_with fail
  refine (one_any B p a len cap 10 y5 S5.out.src (by omega)).mono ?_
  rintro e y6 ⟨⟨bo, rfl⟩, hs6, hg6⟩
  have S6 : Hid (TbS w B p a len cap Z n1 n2 (1 + n3) n4 y6) := S5.out.draw hs6 hg6
  clear S5 hs6 hg6
  generalize 1 + n3 = n5 at *
  go_upto_if 15 with fail
  go_cut [3] from 16 to 44 (fun s3 wx => s3 = .pointer (some ⟨Z, 0, none⟩) ∧ Hid (tbS4 w B p a len cap Z wx))
  case first =>
    cases bo
    · have HF : Hid (tbS4 w B p a len cap Z y6) := ⟨_, _, _, _, S6.out⟩
      go_wp2_with fail
      go_meet
      exact ⟨rfl, HF⟩
    · go_wp2_with fail
      refine (n_any B p a len cap 4 y6 S6.out.src (by omega)).mono ?_
      rintro e y7 ⟨⟨q, rfl, q0, q1, -⟩, hs7, hg7⟩
      have q2 := q1 (by omega)
      have S7 : Hid (TbS w B p a len cap Z n1 n2 n5 n4 y7) := S6.out.draw hs7 hg7
      have hp7 : p < y7.heap.size := hs7.lt
      clear S6 hs7 hg7 q1
      by_cases e0 : q = 0
      · subst e0
        obtain ⟨u, hu⟩ : ∃ u, u = y7.alloc (.cells #[.int .i64 (-1), .int .i64 63, .int .i64 64] 2) := ⟨_, rfl⟩
        have HU : Hid (u = y7.alloc (.cells #[.int .i64 (-1), .int .i64 63, .int .i64 64] 2)) := hu
        have S8 : Hid (TbS w B p a len cap Z n1 n2 n5 n4 u) := by rw [hu]; exact S7.out.below ((Below.refl _ _).alloc (Nat.le_refl _) _)
        clear hu
        go_wp2_with fail
        rw [← HU.out]
        refine (n_any B p a len cap 3 u S8.out.src (by omega)).mono ?_
        rintro e z1 ⟨⟨m, rfl, m0, m1, -⟩, sz, gz⟩
        have m2 := m1 (by omega)
        obtain ⟨M, rfl⟩ := Int.eq_ofNat_of_zero_le m0
        obtain ⟨v, hv⟩ := ints_at three_at (by rw [← HU.out]; exact gz) hp7 M (by omega)
        have S9 := S8.out.draw sz gz
        have T : Hid (tbS4 w B p a len cap Z (z1.setCell ⟨Z, 0, none⟩ (.int .i64 v))) := ⟨v, n2, n5, n4, S9.put 0 (.int .i64 v) rfl⟩
        have d0 : z1.cell? ⟨Z, 0, none⟩ = some (.int .i64 n1) := S9.box.cell 0
        have f0 := S9.box.fr 0
        clear S9 sz gz HU S8 m1
        go_wp2_with fail
        go_meet
        exact ⟨rfl, T⟩
      by_cases e1 : q = 1
      · subst e1
        obtain ⟨u, hu⟩ : ∃ u, u = y7.alloc (.cells #[.int .i64 (-1), .int .i64 3] 2) := ⟨_, rfl⟩
        have HU : Hid (u = y7.alloc (.cells #[.int .i64 (-1), .int .i64 3] 2)) := hu
        have S8 : Hid (TbS w B p a len cap Z n1 n2 n5 n4 u) := by rw [hu]; exact S7.out.below ((Below.refl _ _).alloc (Nat.le_refl _) _)
        clear hu
        go_wp2_with fail
        rw [← HU.out]
        refine (n_any B p a len cap 2 u S8.out.src (by omega)).mono ?_
        rintro e z1 ⟨⟨m, rfl, m0, m1, -⟩, sz, gz⟩
        have m2 := m1 (by omega)
        obtain ⟨M, rfl⟩ := Int.eq_ofNat_of_zero_le m0
        obtain ⟨v, hv⟩ := ints_at (two_at (-1) 3) (by rw [← HU.out]; exact gz) hp7 M (by omega)
        have S9 := S8.out.draw sz gz
        have T : Hid (tbS4 w B p a len cap Z (z1.setCell ⟨Z, 1, none⟩ (.int .i64 v))) := ⟨n1, v, n5, n4, S9.put 1 (.int .i64 v) rfl⟩
        have d0 : z1.cell? ⟨Z, 1, none⟩ = some (.int .i64 n2) := S9.box.cell 1
        have f0 := S9.box.fr 1
        clear S9 sz gz HU S8 m1
        go_wp2_with fail
        go_meet
        exact ⟨rfl, T⟩
      by_cases e2 : q = 2
      · subst e2
        obtain ⟨u, hu⟩ : ∃ u, u = y7.alloc (.cells #[.int .i64 0, .int .i64 3] 2) := ⟨_, rfl⟩
        have HU : Hid (u = y7.alloc (.cells #[.int .i64 0, .int .i64 3] 2)) := hu
        have S8 : Hid (TbS w B p a len cap Z n1 n2 n5 n4 u) := by rw [hu]; exact S7.out.below ((Below.refl _ _).alloc (Nat.le_refl _) _)
        clear hu
        go_wp2_with fail
        rw [← HU.out]
        refine (n_any B p a len cap 2 u S8.out.src (by omega)).mono ?_
        rintro e z1 ⟨⟨m, rfl, m0, m1, -⟩, sz, gz⟩
        have m2 := m1 (by omega)
        obtain ⟨M, rfl⟩ := Int.eq_ofNat_of_zero_le m0
        obtain ⟨v, hv⟩ := ints_at (two_at 0 3) (by rw [← HU.out]; exact gz) hp7 M (by omega)
        have S9 := S8.out.draw sz gz
        have T : Hid (tbS4 w B p a len cap Z (z1.setCell ⟨Z, 2, none⟩ (.int .i64 v))) := ⟨n1, n2, v, n4, S9.put 2 (.int .i64 v) rfl⟩
        have d0 : z1.cell? ⟨Z, 2, none⟩ = some (.int .i64 n5) := S9.box.cell 2
        have f0 := S9.box.fr 2
        clear S9 sz gz HU S8 m1
        go_wp2_with fail
        go_meet
        exact ⟨rfl, T⟩
      · have b0 : (q == 0) = false := beq_eq_false_iff_ne.2 e0
        have b1 : (q == 1) = false := beq_eq_false_iff_ne.2 e1
        have b2 : (q == 2) = false := beq_eq_false_iff_ne.2 e2
        go_wp2_with fail
        refine (edge_any B p a len cap y7 S7.out.src).mono ?_
        rintro e z1 ⟨⟨v, rfl, -⟩, sz, gz⟩
        have S9 := S7.out.draw sz gz
        have T : Hid (tbS4 w B p a len cap Z (z1.setCell ⟨Z, 3, none⟩ (.int .i64 v))) := ⟨n1, n2, n5, v, S9.put 3 (.int .i64 v) rfl⟩
        have d0 : z1.cell? ⟨Z, 3, none⟩ = some (.int .i64 n4) := S9.box.cell 3
        have f0 := S9.box.fr 3
        clear S9 sz gz S7
        go_wp2_with fail
        go_meet
        exact ⟨rfl, T⟩
  case rest =>
    obtain ⟨rfl, HC⟩ := hcut
    obtain ⟨w9, rfl⟩ : ∃ w9 : World, w9 = wc := ⟨_, rfl⟩
    clear S6
    obtain ⟨r, f, y, t, S9⟩ := HC.out
    have HD : Hid (∀ x0 x1 x2 x3 : Value, _) := S9.done
    obtain ⟨c0, c1, c2, c3⟩ := S9.box.four
    obtain ⟨d0, d1, d2, d3⟩ := S9.res.four
    have f0 := S9.res.fr 0
    have f1 := S9.res.fr 1
    have f2 := S9.res.fr 2
    have f3 := S9.res.fr 3
    clear HC S9
    go_wp2_with fail
    refine bodyPost_ret (v := .agg #[.int .i64 r, .int .i64 f, .int .i64 y, .int .i64 t]) (by simp [results, Tryd.results62, go_sem, d0, d1, d2, d3]) rfl ?_
    exact ⟨⟨r, f, y, t, rfl⟩, HD.out _ _ _ _⟩
set_option maxHeartbeats 2000000 in
theorem drawTombText_any (B : Nat) (a : Option Addr) (len cap : Nat) (w : World) (hlen : len ≤ 1048576) (hB : B ≤ w.heap.size) (hc : CodeAt B a len w) :
    Calls Tryd.prog 23 #[.slice a len cap] w fun e w' => (∃ r f y t : Int, e = .returned (.agg #[.int .i64 r, .int .i64 f, .int .i64 y, .int .i64 t])) ∧ Below w.heap.size w w' := by
  obtain ⟨W1, hW1⟩ : ∃ W1, W1 = w.alloc (.cells #[.int .i64 0, .int .i64 0, .int .i64 0, .int .i64 0] 48) := ⟨_, rfl⟩
  have HW : Hid (W1 = w.alloc (.cells #[.int .i64 0, .int .i64 0, .int .i64 0, .int .i64 0] 48)) := hW1
  have b1 : Hid (Below w.heap.size w W1) := by rw [hW1]; exact (Below.refl _ _).alloc (Nat.le_refl _) _
  have R1 : Hid (Bxs W1 w.heap.size 48 #[.int .i64 0, .int .i64 0, .int .i64 0, .int .i64 0]) := by rw [hW1]; exact Bxs.new _ _ _
  have hB1 : B ≤ W1.heap.size := Nat.le_trans hB b1.out.size
  have HC : Hid (CodeAt B a len W1) := hc.below (b1.out.mono hB)
  clear hW1 hc
  go_enter Tryd.func23, Tryd.ntmps23
  go_wp2_with fail
  rw [← HW.out]
  refine (source_any B a len cap W1 hlen hB1 HC.out).mono ?_
  rintro e y1 ⟨rfl, s1, bs1⟩
  go_wp2_with fail
  refine (l08Tomb_any B W1.heap.size a len cap y1 s1).mono ?_
  rintro e y2 ⟨⟨r, f, y, t, rfl⟩, s2, g2⟩
  have bb : Below W1.heap.size W1 y2 := below_touch bs1 g2 (Nat.le_refl _)
  obtain ⟨d0, d1, d2, d3⟩ := (R1.out.below bb).four
  have f0 := (R1.out.below bb).fr 0
  have f1 := (R1.out.below bb).fr 1
  have f2 := (R1.out.below bb).fr 2
  have f3 := (R1.out.below bb).fr 3
  have HB : Hid (∀ x0 x1 x2 x3 : Value, Below w.heap.size w ((((y2.setCell ⟨w.heap.size, 0, none⟩ x0).setCell ⟨w.heap.size, 1, none⟩ x1).setCell ⟨w.heap.size, 2, none⟩ x2).setCell ⟨w.heap.size, 3, none⟩ x3)) := fun x0 x1 x2 x3 => below_set4 (chainB b1.out bb) (Nat.le_refl _) _ _ _ _
  clear s1 bs1 s2 g2 bb HW HC
  go_wp2_with fail
  refine bodyPost_ret (v := .agg #[.int .i64 r, .int .i64 f, .int .i64 y, .int .i64 t]) (by simp [results, Tryd.results23, go_sem, d0, d1, d2, d3]) rfl ?_
  exact ⟨⟨r, f, y, t, rfl⟩, HB.out _ _ _ _⟩
set_option maxHeartbeats 4000000 in
theorem drawTombRead_any (B : Nat) (a : Option Addr) (len cap : Nat) (w : World) (hlen : len ≤ 1048576) (hB : B ≤ w.heap.size) (hc : CodeAt B a len w) :
    Calls Tryd.prog 25 #[.slice a len cap] w fun e w' => (∃ t : ByteArray, e = .returned (.string t) ∧ t.size ≤ 42) ∧ Below w.heap.size w w' := by
  have HC : Hid (CodeAt B a len w) := hc
  clear hc
  go_enter Tryd.func25, Tryd.ntmps25
  go_wp2_with fail
  refine (source_any B a len cap w hlen hB HC.out).mono ?_
  rintro e y1 ⟨rfl, s1, bs1⟩
  go_wp2_with fail
  refine (l08Tomb_any B w.heap.size a len cap y1 s1).mono ?_
  rintro e y2 ⟨⟨r, f, y, t, rfl⟩, s2, g2⟩
  have bb : Below w.heap.size w y2 := below_touch bs1 g2 (Nat.le_refl _)
  have hT : Calls Tryd.prog 28 #[.agg #[.int .i64 r, .int .i64 f, .int .i64 y, .int .i64 t]] y2 fun e w' => e = .returned (.string (tmT ⟨r, f, y, t⟩)) ∧ Below y2.heap.size y2 w' := specTombText_any ⟨r, f, y, t⟩ y2
  have hz := tmT_size ⟨r, f, y, t⟩
  generalize tmT ⟨r, f, y, t⟩ = X at *
  go_wp2_with fail
  refine hT.mono ?_
  rintro e y3 ⟨rfl, b3⟩
  have s3 := s2.below b3
  have bb3 := chainB bb b3
  clear hT s1 bs1 s2 g2 b3 bb
  go_wp2_with fail
  refine (n_any B w.heap.size a len cap 4 y3 s3 (by omega)).mono ?_
  rintro e y4 ⟨⟨q, rfl, q0, q1, -⟩, s4, g4⟩
  have HB4 : Hid (Below w.heap.size w y4) := below_touch bb3 g4 (Nat.le_refl _)
  clear s3 bb3 g4
  by_cases e0 : q = 0
  · subst e0
    go_wp2_with fail
    refine (spoilT_any B w.heap.size a len cap X y4 s4 (by omega)).mono ?_
    rintro e y5 ⟨⟨u, rfl, hu⟩, s5, g5⟩
    have HB5 : Hid (Below w.heap.size w y5) := below_touch HB4.out g5 (Nat.le_refl _)
    have hu2 : u.size ≤ 42 := by omega
    clear s5 g5 s4
    go_wp2_with fail
    go_ret
    exact ⟨⟨u, rfl, hu2⟩, HB5.out⟩
  by_cases e1 : q = 1
  · subst e1
    have hw : IntKind.i64.wrap ((X.size : Int) + 1) = (X.size : Int) + 1 := by rw [IntKind.wrap_i64]; omega
    go_wp2_with fail
    refine (n_any B w.heap.size a len cap ((X.size : Int) + 1) y4 s4 (by omega)).mono ?_
    rintro e y5 ⟨⟨m, rfl, m0, m1, m2⟩, s5, g5⟩
    have HB5 : Hid (Below w.heap.size w y5) := below_touch HB4.out g5 (Nat.le_refl _)
    obtain ⟨M, rfl⟩ := Int.eq_ofNat_of_zero_le m0
    have hM : M ≤ X.size := by
      by_cases h : 1 < (X.size : Int) + 1
      · have := m1 h; omega
      · have := m2 (by omega); omega
    have hsl : ∀ wx, (Instr.slice 9 (.string X) none (some (.int .i64 (M : Int))) none).run Tryd.prog wx = .ok (.string (X.extract 0 M)) wx := fun wx => by
      rw [run_slice_string_h (P := Tryd.prog) wx 9 X Tryd.underlying9 .i64 (M : Int) (by omega) (by omega)]
      rfl
    have hu2 : (X.extract 0 M).size ≤ 42 := by rw [ByteArray.size_extract]; omega
    generalize X.extract 0 M = U at *
    clear s5 g5 s4 m1 m2
    go_wp2_with fail
    go_ret
    exact ⟨⟨U, rfl, hu2⟩, HB5.out⟩
  · have b0 : (q == 0) = false := beq_eq_false_iff_ne.2 e0
    have b1 : (q == 1) = false := beq_eq_false_iff_ne.2 e1
    have hu2 : X.size ≤ 42 := by omega
    go_wp2_with fail
    go_ret
    exact ⟨⟨X, rfl, hu2⟩, HB4.out⟩
set_option maxHeartbeats 2000000 in
theorem drawRowLeaf_any (B : Nat) (a : Option Addr) (len cap : Nat) (w : World) (hlen : len ≤ 1048576) (hB : B ≤ w.heap.size) (hc : CodeAt B a len w) :
    Calls Tryd.prog 11 #[.slice a len cap] w fun e w' => (∃ (k : ByteArray) (at_ : Int) (fs : List Fld) (v : Value), e = .returned (.agg #[.string k, .int .i64 at_, v]) ∧ w'.ownsRow w.heap.size 26 5 v fs.length (fldRow fs) ∧ SmOk 4 k at_ fs) ∧ Below w.heap.size w w' := by
  obtain ⟨W1, hW1⟩ : ∃ W1, W1 = w.alloc (.cells #[.string ⟨#[]⟩, .int .i64 0, .slice none 0 0] 33) := ⟨_, rfl⟩
  have HW : Hid (W1 = w.alloc (.cells #[.string ⟨#[]⟩, .int .i64 0, .slice none 0 0] 33)) := hW1
  have b1 : Hid (Below w.heap.size w W1) := by rw [hW1]; exact (Below.refl _ _).alloc (Nat.le_refl _) _
  have R1 : Hid (Bxs W1 w.heap.size 33 #[.string ByteArray.empty, .int .i64 0, .slice none 0 0]) := by rw [hW1]; exact Bxs.new _ _ _
  have hB1 : B ≤ W1.heap.size := Nat.le_trans hB b1.out.size
  have HC : Hid (CodeAt B a len W1) := hc.below (b1.out.mono hB)
  clear hW1 hc
  go_enter Tryd.func11, Tryd.ntmps11
  go_wp2_with fail
  rw [← HW.out]
  refine (source_any B a len cap W1 hlen hB1 HC.out).mono ?_
  rintro e y1 ⟨rfl, s1, bs1⟩
  go_wp2_with fail
  refine (l07Some_any B W1.heap.size a len cap y1 s1).mono ?_
  rintro e y2 ⟨⟨k, at_, fs, v, rfl, own, ok⟩, s2, g2⟩
  have bb : Below W1.heap.size W1 y2 := below_touch bs1 g2 (Nat.le_refl _)
  have R2 := R1.out.below bb
  obtain ⟨d0, d1, d2⟩ : y2.cell? ⟨w.heap.size, 0, none⟩ = some (.string ByteArray.empty) ∧ y2.cell? ⟨w.heap.size, 1, none⟩ = some (.int .i64 0) ∧ y2.cell? ⟨w.heap.size, 2, none⟩ = some (.slice none 0 0) := ⟨R2.cell 0, R2.cell 1, R2.cell 2⟩
  have f0 := R2.fr 0
  have f1 := R2.fr 1
  have f2 := R2.fr 2
  obtain ⟨bq, cq, rfl, -⟩ := ownF_one own ok.2.2.1.1
  have hn := ownF_ne own R2 (by decide)
  have HB : Hid (∀ x0 x1 x2 : Value, (((y2.setCell ⟨w.heap.size, 0, none⟩ x0).setCell ⟨w.heap.size, 1, none⟩ x1).setCell ⟨w.heap.size, 2, none⟩ x2).ownsRow w.heap.size 26 5 (.slice (some ⟨bq, 0, none⟩) fs.length cq) fs.length (fldRow fs) ∧ Below w.heap.size w (((y2.setCell ⟨w.heap.size, 0, none⟩ x0).setCell ⟨w.heap.size, 1, none⟩ x1).setCell ⟨w.heap.size, 2, none⟩ x2)) := fun x0 x1 x2 => ⟨ownS_mono (ownsRow_setCell_other (ownsRow_setCell_other (ownsRow_setCell_other own hn _) hn _) hn _) (by have := b1.out.size; have := bs1.size; omega), below_set3 (chainB b1.out bb) (Nat.le_refl _) _ _ _⟩
  have HOk : Hid (SmOk 4 k at_ fs) := ok
  clear s1 bs1 s2 g2 bb HW HC own ok hn R2
  go_wp2_with fail
  refine bodyPost_ret (v := .agg #[.string k, .int .i64 at_, .slice (some ⟨bq, 0, none⟩) fs.length cq]) (by simp [results, Tryd.results11, go_sem, d0, d1, d2]) rfl ?_
  exact ⟨⟨k, at_, fs, _, rfl, (HB.out _ _ _).1, HOk.out⟩, (HB.out _ _ _).2⟩
theorem lfB_size (k : ByteArray) (at_ : Int) (fs : List Fld) : (lfB k at_ fs).size ≤ 33 := by
  unfold lfB; split
  · rw [ByteArray.size_append, digB_size]; exact Nat.le_refl _
  · show 0 ≤ 33; omega
set_option maxHeartbeats 4000000 in
theorem drawLeafKind_any (B : Nat) (a : Option Addr) (len cap : Nat) (w : World) (hlen : len ≤ 1048576) (hB : B ≤ w.heap.size) (hc : CodeAt B a len w) :
    Calls Tryd.prog 27 #[.slice a len cap] w fun e w' => (∃ t : ByteArray, e = .returned (.string t) ∧ t.size ≤ 42) ∧ Below w.heap.size w w' := by
  have HC : Hid (CodeAt B a len w) := hc
  clear hc
  go_enter Tryd.func27, Tryd.ntmps27
  go_wp2_with fail
  refine (source_any B a len cap w hlen hB HC.out).mono ?_
  rintro e y1 ⟨rfl, s1, bs1⟩
  go_wp2_with fail
  refine (n_any B w.heap.size a len cap 3 y1 s1 (by omega)).mono ?_
  rintro e y2 ⟨⟨q, rfl, q0, q1, -⟩, s2, g2⟩
  have HB2 : Hid (Below w.heap.size w y2) := below_touch bs1 g2 (Nat.le_refl _)
  clear s1 bs1 g2
  by_cases e0 : q = 0
  · subst e0
    have hD := drawTombRead_any B a len cap y2 hlen (Nat.le_trans hB HB2.out.size) (HC.out.below (HB2.out.mono hB))
    go_wp2_with fail
    refine hD.mono ?_
    rintro e y3 ⟨⟨t, rfl, ht⟩, b3⟩
    have HB3 : Hid (Below w.heap.size w y3) := chainB HB2.out b3
    clear hD b3 s2
    go_wp2_with fail
    go_ret
    exact ⟨⟨t, rfl, ht⟩, HB3.out⟩
  by_cases e1 : q = 1
  · subst e1
    go_wp2_with fail
    refine (l07Some_any B w.heap.size a len cap y2 s2).mono ?_
    rintro e y3 ⟨⟨k, at_, fs, v, rfl, own, ok⟩, s3, g3⟩
    have HB3 : Hid (Below w.heap.size w y3) := below_touch HB2.out g3 (Nat.le_refl _)
    obtain ⟨qq, cq, rfl, hcq, hf⟩ := ownF_form own
    have hL := specRowLeaf_any k at_ qq cq fs y3 hf (by have := ok.2.2.1.2; omega) hcq (by have := ok.1; unfold maxLen; omega) ok.le
    have hz := lfB_size k at_ fs
    generalize lfB k at_ fs = X at *
    clear s2 s3 g3 own ok hf hcq
    go_wp2_with fail
    refine hL.mono ?_
    rintro e y4 ⟨rfl, b4⟩
    have HB4 : Hid (Below w.heap.size w y4) := chainB HB3.out b4
    have hz2 : X.size ≤ 42 := by omega
    clear hL b4
    go_wp2_with fail
    go_ret
    exact ⟨⟨X, rfl, hz2⟩, HB4.out⟩
  · have b0 : (q == 0) = false := beq_eq_false_iff_ne.2 e0
    have b1 : (q == 1) = false := beq_eq_false_iff_ne.2 e1
    have hmk := run_make_u8s 33 (by omega) y2
    rw [show ((33 : Nat) : Int) = (33 : Int) from rfl] at hmk
    have hzc := zconv 33 y2
    have hz3 : (strOfNums (List.replicate 33 0)).size ≤ 42 := by rw [strOfNums_size, List.length_replicate]; omega
    obtain ⟨u, hu⟩ : ∃ u, u = y2.alloc (.cells (zrow 33).toArray 5) := ⟨_, rfl⟩
    rw [← hu] at hmk hzc
    generalize strOfNums (List.replicate 33 0) = X at *
    obtain ⟨u2, hu2⟩ : ∃ u2, u2 = u.alloc (.cells #[.string ⟨#[]⟩, .string ⟨#[101]⟩, .string X, .string ⟨#[116]⟩] 9) := ⟨_, rfl⟩
    have HU2 : Hid (u2 = u.alloc (.cells #[.string ⟨#[]⟩, .string ⟨#[101]⟩, .string X, .string ⟨#[116]⟩] 9)) := hu2
    have BK : Hid (BlkS u2 u.heap.size [⟨#[]⟩, ⟨#[101]⟩, X, ⟨#[116]⟩]) := by rw [hu2]; exact alloc_str u [⟨#[]⟩, ⟨#[101]⟩, X, ⟨#[116]⟩]
    have bu : Below y2.heap.size y2 u2 := by rw [hu2, hu]; exact alB ((Below.refl _ _).alloc (Nat.le_refl _) _) _
    have S2 : Hid (Src 100 B w.heap.size a len cap u2) := s2.below bu
    have HBu : Hid (Below w.heap.size w u2) := chainB HB2.out bu
    have hne : u.heap.size ≠ w.heap.size := by have := s2.lt; rw [hu, szA]; omega
    have hsm : ∀ t ∈ ([⟨#[]⟩, ⟨#[101]⟩, X, ⟨#[116]⟩] : List ByteArray), t.size ≤ 42 := by
      intro t ht
      simp only [List.mem_cons, List.not_mem_nil, or_false] at ht
      rcases ht with rfl | rfl | rfl | rfl
      · exact Nat.zero_le _
      · show 1 ≤ 42; omega
      · exact hz3
      · show 1 ≤ 42; omega
    clear hu hu2 bu s2
    go_wp2_with fail
    rw [← HU2.out]
    refine (pick_any B w.heap.size a len cap u.heap.size [⟨#[]⟩, ⟨#[101]⟩, X, ⟨#[116]⟩] u2 S2.out BK.out hne (by simp) (by simp)).mono ?_
    rintro e y3 ⟨⟨t, ht, rfl⟩, s3, g3⟩
    have HB3 : Hid (Below w.heap.size w y3) := below_touch HBu.out g3 (Nat.le_refl _)
    have ht2 := hsm t ht
    clear s3 g3 ht hsm
    go_wp2_with fail
    go_ret
    exact ⟨⟨t, rfl, ht2⟩, HB3.out⟩
end Go.Proofs.YtnomkcbcjaagmabDoor
