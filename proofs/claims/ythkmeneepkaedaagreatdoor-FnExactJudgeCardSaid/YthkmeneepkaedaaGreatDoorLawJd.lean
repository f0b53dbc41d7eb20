/-
  The laws' helpers of an Answer that came in: its size, a copy, two held against each other.
-/
import Derived.Test.YthkmeneepkaedaaGreatDoorRows
import Derived.Test.YthkmeneepkaedaaGreatDoorBytesDigMath
import Derived.Test.YthkmeneepkaedaaGreatDoorTreeMathSlASlBBxKOwnS
import Derived.Test.YthkmeneepkaedaaGreatDoorTimeBPutMathPutNumJoinedPutTextFldMath
import Derived.Test.YthkmeneepkaedaaGreatDoorFldGShwKFldHTakesAudMathLawAuOpAuFldRiseScanMath
import Derived.Test.YthkmeneepkaedaaGreatDoorGetValGetTxtNumMathFldRdNumFromTmbMathLgMath
import Derived.Test.YthkmeneepkaedaaGreatDoorLgAtKLgAnsLawSLawMLawMGLawPfLawSG
import Derived.Test.YthkmeneepkaedaaGreatDoorLawSh
import Derived.Test.YthkmeneepkaedaaGreatDoorLawSXOneKFldBlkLawFLawFM
import Derived.Test.YthkmeneepkaedaaGreatDoorLawLhLawLzLawLm
import Derived.Test.YthkmeneepkaedaaGreatDoorProofG
import Derived.Test.YthkmeneepkaedaaGreatDoorFldV
import Derived.Test.YthkmeneepkaedaaGreatDoorLogRITreeHImplRtPrfLsAnMath
import Derived.Test.YthkmeneepkaedaaGreatDoorLawAn
import Derived.Test.YthkmeneepkaedaaGreatDoorJdMathAudS
import Derived.Test.YthkmeneepkaedaaGreatDoorJdS
import Derived.Handy
import Derived.WalkSpells
import Derived.OwnWalk
import Derived.Laws.OwnMore
namespace Go.Proofs.YthkmeneepkaedaaGreatDoor
open Go.RowKit Go.Lib
set_option linter.unusedVariables false
set_option maxRecDepth 20000

set_option maxHeartbeats 4000000 in
theorem szProofL_any (l0 : Int) (l00 : 0 ≤ l0) (l01 : l0 ≤ 1048576) (lf : ByteArray) (ix sz : Int) (a : Option Addr) (c : Nat) (ss : List ByteArray) (w : World) (hp : TxtAt w a ss) (hn : ss.length ≤ 9223372036854775807) (hc : ss.length ≤ c) (hz : ∀ x ∈ ss, x.size ≤ 9223372036854775807) (hlf : lf.size ≤ 9223372036854775807) :
    Calls Tryz.prog 52 #[.agg #[.string lf, .int .i64 ix, .int .i64 sz, .slice a ss.length c], .int .i64 l0] w fun e w' => (∃ r : Int, e = .returned (.int .i64 r) ∧ (r = -1 ∨ (0 ≤ r ∧ r ≤ l0 ∧ lf.size ≤ 1048576 ∧ ss.length ≤ 1048576))) ∧ Below w.heap.size w w' := by
  obtain ⟨W1, hW1⟩ : ∃ W1, W1 = w.alloc (.cells #[.string lf, .int .i64 ix, .int .i64 sz, .slice a ss.length c] 47) := ⟨_, rfl⟩
  have HW1 : Hid (W1 = w.alloc (.cells #[.string lf, .int .i64 ix, .int .i64 sz, .slice a ss.length c] 47)) := hW1
  have B1 : Hid (Below w.heap.size w W1) := by rw [hW1]; exact (Below.refl _ _).alloc (Nat.le_refl _) _
  have HT : Hid (∀ (l9 : Int), 0 ≤ l9 → l9 ≤ 1048576 → Calls Tryz.prog 24 #[.slice a ss.length c, .int .i64 l9] W1 fun e w' => (∃ r : Int, e = .returned (.int .i64 r) ∧ SzTo r l9 ss) ∧ w' = W1) := fun l9 x y => szG_any l9 x y a c ss W1 (hp.below B1.out) hn hc hz
  clear hW1 hp hz
  by_cases hk : (lf.size : Int) ≤ l0
  · have H3 := HT.out (l0 - lf.size) (by omega) (by omega)
    have d0 : decide (l0 - (lf.size : Int) < 0) = false := decide_eq_false (by omega)
    clear HT
    go_enter Tryz.func52, Tryz.ntmps52
    go_wp2_with fail
    rw [← HW1.out]
    refine H3.mono ?_
    rintro e w2 ⟨⟨r', rfl, hr'⟩, rfl⟩
    clear H3
    rcases hr' with rfl | ⟨r4, r5, r6, r7⟩
    · go_wp2_with fail
      go_ret
      exact ⟨⟨_, rfl, .inl rfl⟩, B1.out⟩
    · have dr : decide (r' < 0) = false := decide_eq_false (by omega)
      go_wp2_with fail
      go_ret
      exact ⟨⟨_, rfl, .inr ⟨r4, by omega, by omega, r6⟩⟩, B1.out⟩
  · have d0 : decide (l0 - (lf.size : Int) < 0) = true := decide_eq_true (by omega)
    clear HT
    go_enter Tryz.func52, Tryz.ntmps52
    go_wp2_with fail
    rw [← HW1.out]
    go_ret
    exact ⟨⟨_, rfl, .inl rfl⟩, B1.out⟩
set_option maxHeartbeats 4000000 in
theorem szShownL_any (l0 : Int) (l00 : 0 ≤ l0) (l01 : l0 ≤ 1048576) (k : ByteArray) (at_ ix : Int) (s v : ByteArray) (p1 : Option Addr) (c1 : Nat) (ns : List ByteArray) (p2 : Option Addr) (c2 : Nat) (cs : List ByteArray) (w : World) (h1 : TxtAt w p1 ns) (h2 : TxtAt w p2 cs) (n1 : ns.length ≤ 9223372036854775807) (n2 : cs.length ≤ 9223372036854775807) (m1 : ns.length ≤ c1) (m2 : cs.length ≤ c2) (s1 : ∀ x ∈ ns, x.size ≤ 9223372036854775807) (s2 : ∀ x ∈ cs, x.size ≤ 9223372036854775807) (z0 : k.size ≤ 9223372036854775807) (z1 : s.size ≤ 9223372036854775807) (z2 : v.size ≤ 9223372036854775807) :
    Calls Tryz.prog 53 #[.agg #[.string k, .int .i64 at_, .slice p1 ns.length c1, .slice p2 cs.length c2, .int .i64 ix, .string s, .string v], .int .i64 l0] w fun e w' => (∃ r : Int, e = .returned (.int .i64 r) ∧ (r = -1 ∨ (0 ≤ r ∧ r ≤ l0 ∧ ns.length ≤ 1048576 ∧ cs.length ≤ 1048576))) ∧ Below w.heap.size w w' := by
  obtain ⟨W1, hW1⟩ : ∃ W1, W1 = w.alloc (.cells #[.string k, .int .i64 at_, .slice p1 ns.length c1, .slice p2 cs.length c2, .int .i64 ix, .string s, .string v] 48) := ⟨_, rfl⟩
  have HW1 : Hid (W1 = w.alloc (.cells #[.string k, .int .i64 at_, .slice p1 ns.length c1, .slice p2 cs.length c2, .int .i64 ix, .string s, .string v] 48)) := hW1
  have B1 : Hid (Below w.heap.size w W1) := by rw [hW1]; exact (Below.refl _ _).alloc (Nat.le_refl _) _
  have X1 : Bxs W1 w.heap.size 48 #[.string k, .int .i64 at_, .slice p1 ns.length c1, .slice p2 cs.length c2, .int .i64 ix, .string s, .string v] := by rw [hW1]; exact Bxs.new _ _ _
  have y3 : W1.cell? ⟨w.heap.size, 3, none⟩ = some (.slice p2 cs.length c2) := X1.cell 3
  have y5 : W1.cell? ⟨w.heap.size, 5, none⟩ = some (.string s) := X1.cell 5
  have y6 : W1.cell? ⟨w.heap.size, 6, none⟩ = some (.string v) := X1.cell 6
  have H1 : Hid (∀ l9 : Int, 0 ≤ l9 → l9 ≤ 1048576 → Calls Tryz.prog 24 #[.slice p1 ns.length c1, .int .i64 l9] W1 fun e w' => (∃ r : Int, e = .returned (.int .i64 r) ∧ SzTo r l9 ns) ∧ w' = W1) := fun l9 a b => szG_any l9 a b p1 c1 ns W1 (h1.below B1.out) n1 m1 s1
  have H2 : Hid (∀ l9 : Int, 0 ≤ l9 → l9 ≤ 1048576 → Calls Tryz.prog 24 #[.slice p2 cs.length c2, .int .i64 l9] W1 fun e w' => (∃ r : Int, e = .returned (.int .i64 r) ∧ SzTo r l9 cs) ∧ w' = W1) := fun l9 a b => szG_any l9 a b p2 c2 cs W1 (h2.below B1.out) n2 m2 s2
  clear hW1 X1 h1 h2 s1 s2
  by_cases hk : (k.size : Int) ≤ l0
  · have d0 : decide (l0 - (k.size : Int) < 0) = false := decide_eq_false (by omega)
    have H1 := H1.out (l0 - k.size) (by omega) (by omega)
    go_enter Tryz.func53, Tryz.ntmps53
    go_wp2_with fail
    rw [← HW1.out]
    refine H1.mono ?_
    rintro e w1 ⟨⟨r, rfl, hr⟩, rfl⟩
    clear H1
    rcases hr with rfl | ⟨r0, r1, r2, -⟩
    · go_wp2_with fail
      go_ret
      exact ⟨⟨_, rfl, .inl rfl⟩, B1.out⟩
    · have H3 := H2.out r r0 (by omega)
      clear H2
      have dr : decide (r < 0) = false := decide_eq_false (by omega)
      go_wp2_with fail
      refine H3.mono ?_
      rintro e w1 ⟨⟨r', rfl, hr'⟩, rfl⟩
      clear H3 dr
      rcases hr' with rfl | ⟨r4, r5, r6, -⟩
      · go_wp2_with fail
        go_ret
        exact ⟨⟨_, rfl, .inl rfl⟩, B1.out⟩
      · have dr : decide (r' < 0) = false := decide_eq_false (by omega)
        by_cases hs : (s.size : Int) ≤ r'
        · have ds : decide (r' - (s.size : Int) < 0) = false := decide_eq_false (by omega)
          by_cases hv : (s.size : Int) + v.size ≤ r'
          · have dv : decide (r' - (s.size : Int) - v.size < 0) = false := decide_eq_false (by omega)
            go_wp2_with fail
            go_ret
            exact ⟨⟨_, rfl, .inr ⟨by omega, by omega, r2, r6⟩⟩, B1.out⟩
          · have dv : decide (r' - (s.size : Int) - v.size < 0) = true := decide_eq_true (by omega)
            go_wp2_with fail
            go_ret
            exact ⟨⟨_, rfl, .inl rfl⟩, B1.out⟩
        · have ds : decide (r' - (s.size : Int) < 0) = true := decide_eq_true (by omega)
          go_wp2_with fail
          go_ret
          exact ⟨⟨_, rfl, .inl rfl⟩, B1.out⟩
  · have d0 : decide (l0 - (k.size : Int) < 0) = true := decide_eq_true (by omega)
    clear H1 H2
    go_enter Tryz.func53, Tryz.ntmps53
    go_wp2_with fail
    rw [← HW1.out]
    go_ret
    exact ⟨⟨_, rfl, .inl rfl⟩, B1.out⟩
set_option maxHeartbeats 4000000 in
theorem toProofG_any (lf : ByteArray) (ix sz : Int) (a : Option Addr) (c : Nat) (ss : List ByteArray) (w : World) (hp : TxtAt w a ss) (hn : ss.length ≤ 1048576) (hc : ss.length ≤ c) :
    Calls Tryz.prog 58 #[.agg #[.string lf, .int .i64 ix, .int .i64 sz, .slice a ss.length c]] w fun e w' => ∃ g, w.heap.size ≤ g ∧ e = .returned (.agg #[.string lf, .int .i64 ix, .int .i64 sz, .slice (some ⟨g, 0, none⟩) ss.length ss.length]) ∧ TxtAt w' (some ⟨g, 0, none⟩) ss ∧ Below w.heap.size w w' := by
  obtain ⟨W3, hW3⟩ : ∃ W3, W3 = ((w.alloc (.cells #[.string lf, .int .i64 ix, .int .i64 sz, .slice a ss.length c] 47)).alloc (.cells #[.string ⟨#[]⟩, .int .i64 0, .int .i64 0, .slice none 0 0] 35)).alloc (.cells #[.string lf, .int .i64 ix, .int .i64 sz, .slice none 0 0] 35) := ⟨_, rfl⟩
  have HW3 : Hid (W3 = ((w.alloc (.cells #[.string lf, .int .i64 ix, .int .i64 sz, .slice a ss.length c] 47)).alloc (.cells #[.string ⟨#[]⟩, .int .i64 0, .int .i64 0, .slice none 0 0] 35)).alloc (.cells #[.string lf, .int .i64 ix, .int .i64 sz, .slice none 0 0] 35)) := hW3
  have B3 : Hid (Below w.heap.size w W3) := by rw [hW3]; exact (((Below.refl _ _).alloc (Nat.le_refl _) _).alloc (by simp) _).alloc (by simp; omega) _
  have K1 : Hid (Bxs W3 (w.heap.size + 1) 35 #[.string ⟨#[]⟩, .int .i64 0, .int .i64 0, .slice none 0 0]) := by
    rw [hW3]
    have := Bxs.new (w.alloc (.cells #[.string lf, .int .i64 ix, .int .i64 sz, .slice a ss.length c] 47)) 35 #[.string ⟨#[]⟩, .int .i64 0, .int .i64 0, .slice none 0 0]
    rw [szA] at this
    exact this.alloc _
  have K2 : Hid (Bxs W3 (w.heap.size + 1 + 1) 35 #[.string lf, .int .i64 ix, .int .i64 sz, .slice none 0 0]) := by
    rw [hW3]
    have := Bxs.new ((w.alloc (.cells #[.string lf, .int .i64 ix, .int .i64 sz, .slice a ss.length c] 47)).alloc (.cells #[.string ⟨#[]⟩, .int .i64 0, .int .i64 0, .slice none 0 0] 35)) 35 #[.string lf, .int .i64 ix, .int .i64 sz, .slice none 0 0]
    rw [szA, szA] at this
    exact this
  have HZ : Hid (W3.heap.size = w.heap.size + 3) := by rw [hW3]; show _ = _; simp
  have HGe : Hid (w.heap.size ≤ W3.heap.size) := by have := HZ.out; show _ ≤ _; omega
  have hTo := to_any a c ss W3 (hp.below B3.out) hn hc
  clear hW3 hp
  go_enter Tryz.func58, Tryz.ntmps58
  go_wp2_with fail
  rw [← HW3.out]
  refine hTo.mono ?_
  rintro e y ⟨rfl, hS, by_⟩
  clear hTo HW3
  have hzz := HZ.out
  obtain ⟨q0, q1, q2, q3⟩ := (K2.out.below by_).four
  have q3f := (K2.out.below by_).fr 3
  obtain ⟨r0, r1, r2, r3⟩ := (K1.out.below by_).four
  have f0 := (K1.out.below by_).fr 0
  have f1 := (K1.out.below by_).fr 1
  have f2 := (K1.out.below by_).fr 2
  have f3 := (K1.out.below by_).fr 3
  have HEnd : Hid (∀ v0 v1 v2 v3 v4 : Value, TxtAt (((((y.setCell ⟨w.heap.size + 1 + 1, 3, none⟩ v0).setCell ⟨w.heap.size + 1, 0, none⟩ v1).setCell ⟨w.heap.size + 1, 1, none⟩ v2).setCell ⟨w.heap.size + 1, 2, none⟩ v3).setCell ⟨w.heap.size + 1, 3, none⟩ v4) (some ⟨W3.heap.size, 0, none⟩) ss ∧ Below w.heap.size w (((((y.setCell ⟨w.heap.size + 1 + 1, 3, none⟩ v0).setCell ⟨w.heap.size + 1, 0, none⟩ v1).setCell ⟨w.heap.size + 1, 1, none⟩ v2).setCell ⟨w.heap.size + 1, 2, none⟩ v3).setCell ⟨w.heap.size + 1, 3, none⟩ v4)) := by
    intro v0 v1 v2 v3 v4
    have hb := chainB B3.out by_
    refine ⟨BlkS.txt (BlkS.setOther (BlkS.setOther (BlkS.setOther (BlkS.setOther (BlkS.setOther hS _ _ (by omega) _) _ _ (by omega) _) _ _ (by omega) _) _ _ (by omega) _) _ _ (by omega) _), ?_⟩
    exact ((((hb.setCell (p := ⟨w.heap.size + 1 + 1, 3, none⟩) (by show w.heap.size ≤ w.heap.size + 1 + 1; omega) _).setCell (p := ⟨w.heap.size + 1, 0, none⟩) (by show w.heap.size ≤ w.heap.size + 1; omega) _).setCell (p := ⟨w.heap.size + 1, 1, none⟩) (by show w.heap.size ≤ w.heap.size + 1; omega) _).setCell (p := ⟨w.heap.size + 1, 2, none⟩) (by show w.heap.size ≤ w.heap.size + 1; omega) _).setCell (p := ⟨w.heap.size + 1, 3, none⟩) (by show w.heap.size ≤ w.heap.size + 1; omega) _
  clear hS by_ hzz K1 K2 B3 HZ
  generalize W3.heap.size = g at *
  go_wp2_with fail
  refine bodyPost_ret (v := .agg #[.string lf, .int .i64 ix, .int .i64 sz, .slice (some ⟨g, 0, none⟩) ss.length ss.length]) (by simp [results, Tryz.results58, go_sem, r0, r1, r2, r3]) rfl ?_
  exact ⟨g, HGe.out, rfl, HEnd.out _ _ _ _ _⟩
theorem lj_grw (x : World) (g i : Nat) (v : Value) : x.grownBy (x.setCell ⟨g, i, none⟩ v) (some g) := by
  refine ⟨rfl, rfl, rfl, by simp [World.setCell], fun q hq hne => ?_⟩
  have hq' : g ≠ q := fun e => hne (by rw [e])
  simp [World.setCell, Array.getElem?_modify, hq']
theorem txt_set {x : World} {b g : Nat} {l : List ByteArray} (h : TxtAt x (some ⟨b, 0, none⟩) l) (hne : b ≠ g) (i : Nat) (v : Value) : TxtAt (x.setCell ⟨g, i, none⟩ v) (some ⟨b, 0, none⟩) l := fun j hj => by
  obtain ⟨b', off, e, h1, h2⟩ := h j hj
  cases e
  exact ⟨b, 0, rfl, by simpa [World.setCell] using h1, ((lj_grw x g i v).cell_far ⟨b, 0 + j, none⟩ h1 (by simpa using hne)).trans h2⟩
structure TA (w : World) (A R C : Array Value) (x : World) : Prop where
  bel : Below w.heap.size w x
  big : w.heap.size + 3 ≤ x.heap.size
  ba : Bxs x w.heap.size 50 A
  br : Bxs x (w.heap.size + 1) 39 R
  bo : Bxs x (w.heap.size + 2) 39 C
theorem TA.below {w x y : World} {A R C : Array Value} (h : TA w A R C x) (hb : Below x.heap.size x y) : TA w A R C y := ⟨chainB h.bel hb, Nat.le_trans h.big hb.size, h.ba.below hb, h.br.below hb, h.bo.below hb⟩
theorem TA.set {w x : World} {A R C : Array Value} (h : TA w A R C x) (i : Nat) (v : Value) : TA w A R (C.setIfInBounds i v) (x.setCell ⟨w.heap.size + 2, i, none⟩ v) := ⟨h.bel.setCell (p := ⟨w.heap.size + 2, i, none⟩) (by simp) v, by simpa [World.setCell] using h.big, h.ba.other _ _ (by omega) v, h.br.other _ _ (by omega) v, h.bo.set i v⟩
theorem TA.setR {w x : World} {A R C : Array Value} (h : TA w A R C x) (i : Nat) (v : Value) : TA w A (R.setIfInBounds i v) C (x.setCell ⟨w.heap.size + 1, i, none⟩ v) := ⟨h.bel.setCell (p := ⟨w.heap.size + 1, i, none⟩) (by simp) v, by simpa [World.setCell] using h.big, h.ba.other _ _ (by omega) v, h.br.set i v, h.bo.other _ _ (by omega) v⟩
set_option maxHeartbeats 4000000 in
theorem szAnswer_any (l0 : Int) (l00 : 0 ≤ l0) (l01 : l0 ≤ 1048576) (o : Ans) (p1 : Option Addr) (c1 : Nat) (p2 : Option Addr) (c2 : Nat) (p3 : Option Addr) (c3 : Nat) (p4 : Option Addr) (c4 : Nat) (w : World) (hin : AnIn o p1 c1 p2 c2 p3 c3 p4 c4 w) (hb : o.l1.size ≤ 9223372036854775807 ∧ o.sh.k.size ≤ 9223372036854775807 ∧ o.sh.s.size ≤ 9223372036854775807 ∧ o.sh.v.size ≤ 9223372036854775807 ∧ o.l2.size ≤ 9223372036854775807 ∧ o.p1.length ≤ 9223372036854775807 ∧ (∀ x ∈ o.p1, x.size ≤ 9223372036854775807) ∧ o.sh.ns.length ≤ 9223372036854775807 ∧ (∀ x ∈ o.sh.ns, x.size ≤ 9223372036854775807) ∧ o.sh.cs.length ≤ 9223372036854775807 ∧ (∀ x ∈ o.sh.cs, x.size ≤ 9223372036854775807) ∧ o.p2.length ≤ 9223372036854775807 ∧ (∀ x ∈ o.p2, x.size ≤ 9223372036854775807)) :
    Calls Tryz.prog 18 #[.agg #[.string o.l1, .int .i64 o.i1, .int .i64 o.s1, .slice p1 o.p1.length c1, .string o.sh.k, .int .i64 o.sh.at_, .slice p2 o.sh.ns.length c2, .slice p3 o.sh.cs.length c3, .int .i64 o.sh.ix, .string o.sh.s, .string o.sh.v, .string o.l2, .int .i64 o.i2, .int .i64 o.s2, .slice p4 o.p2.length c4], .int .i64 l0] w fun e w' => (∃ r : Int, e = .returned (.int .i64 r) ∧ (r = -1 ∨ (0 ≤ r ∧ r ≤ l0 ∧ o.l1.size ≤ 1048576 ∧ o.l2.size ≤ 1048576 ∧ o.p1.length ≤ 1048576 ∧ o.sh.ns.length ≤ 1048576 ∧ o.sh.cs.length ≤ 1048576 ∧ o.p2.length ≤ 1048576))) ∧ Below w.heap.size w w' := by
  obtain ⟨x1, x2, x3, x4, x5, y1, y2, y3, y4, y5, y6, y7, y8⟩ := hb
  obtain ⟨W1, hW1⟩ : ∃ W1, W1 = w.alloc (.cells #[.string o.l1, .int .i64 o.i1, .int .i64 o.s1, .slice p1 o.p1.length c1, .string o.sh.k, .int .i64 o.sh.at_, .slice p2 o.sh.ns.length c2, .slice p3 o.sh.cs.length c3, .int .i64 o.sh.ix, .string o.sh.s, .string o.sh.v, .string o.l2, .int .i64 o.i2, .int .i64 o.s2, .slice p4 o.p2.length c4] 50) := ⟨_, rfl⟩
  have HW1 : Hid (W1 = w.alloc (.cells #[.string o.l1, .int .i64 o.i1, .int .i64 o.s1, .slice p1 o.p1.length c1, .string o.sh.k, .int .i64 o.sh.at_, .slice p2 o.sh.ns.length c2, .slice p3 o.sh.cs.length c3, .int .i64 o.sh.ix, .string o.sh.s, .string o.sh.v, .string o.l2, .int .i64 o.i2, .int .i64 o.s2, .slice p4 o.p2.length c4] 50)) := hW1
  have B1 : Hid (Below w.heap.size w W1) := by rw [hW1]; exact (Below.refl _ _).alloc (Nat.le_refl _) _
  have X1 : Hid (Bxs W1 w.heap.size 50 #[.string o.l1, .int .i64 o.i1, .int .i64 o.s1, .slice p1 o.p1.length c1, .string o.sh.k, .int .i64 o.sh.at_, .slice p2 o.sh.ns.length c2, .slice p3 o.sh.cs.length c3, .int .i64 o.sh.ix, .string o.sh.s, .string o.sh.v, .string o.l2, .int .i64 o.i2, .int .i64 o.s2, .slice p4 o.p2.length c4]) := by rw [hW1]; exact Bxs.new _ _ _
  have h1 := szProofL_any l0 l00 l01 o.l1 o.i1 o.s1 p1 c1 o.p1 W1 (hin.t1.below B1.out) y1 hin.m1 y2 x1
  have H2 : Hid (∀ (l9 : Int) (y : World), 0 ≤ l9 → l9 ≤ 1048576 → Below w.heap.size w y → Calls Tryz.prog 53 #[.agg #[.string o.sh.k, .int .i64 o.sh.at_, .slice p2 o.sh.ns.length c2, .slice p3 o.sh.cs.length c3, .int .i64 o.sh.ix, .string o.sh.s, .string o.sh.v], .int .i64 l9] y fun e w' => (∃ r : Int, e = .returned (.int .i64 r) ∧ (r = -1 ∨ (0 ≤ r ∧ r ≤ l9 ∧ o.sh.ns.length ≤ 1048576 ∧ o.sh.cs.length ≤ 1048576))) ∧ Below y.heap.size y w') := fun l9 y u v hb => szShownL_any l9 u v o.sh.k o.sh.at_ o.sh.ix o.sh.s o.sh.v p2 c2 o.sh.ns p3 c3 o.sh.cs y (hin.t2.below hb) (hin.t3.below hb) y3 y5 hin.m2 hin.m3 y4 y6 x2 x3 x4
  have H3 : Hid (∀ (l9 : Int) (y : World), 0 ≤ l9 → l9 ≤ 1048576 → Below w.heap.size w y → Calls Tryz.prog 52 #[.agg #[.string o.l2, .int .i64 o.i2, .int .i64 o.s2, .slice p4 o.p2.length c4], .int .i64 l9] y fun e w' => (∃ r : Int, e = .returned (.int .i64 r) ∧ (r = -1 ∨ (0 ≤ r ∧ r ≤ l9 ∧ o.l2.size ≤ 1048576 ∧ o.p2.length ≤ 1048576))) ∧ Below y.heap.size y w') := fun l9 y u v hb => szProofL_any l9 u v o.l2 o.i2 o.s2 p4 c4 o.p2 y (hin.t4.below hb) y7 hin.m4 y8 x5
  obtain ⟨r0, r1, r2, r3, r4, r5, r6, r7, r8, r9, r10, r11, r12, r13, r14⟩ := box15 X1.out
  rw [HW1.out] at r0 r1 r2 r3 r4 r5 r6 r7 r8 r9 r10 r11 r12 r13 r14
  clear hW1 hin x1 x2 x3 x4 x5 y1 y2 y3 y4 y5 y6 y7 y8
  go_enter Tryz.func18, Tryz.ntmps18
  go_wp2_with fail
  rw [← HW1.out]
  refine h1.mono ?_
  rintro e w2 ⟨⟨m1, rfl, hm1⟩, b2⟩
  clear h1 r0 r1 r2 r3 r4 r5 r6 r7 r8 r9 r10 r11 r12 r13 r14
  have B2 : Hid (Below w.heap.size w w2) := chainB B1.out b2
  have X2 : Hid (Bxs w2 w.heap.size 50 #[.string o.l1, .int .i64 o.i1, .int .i64 o.s1, .slice p1 o.p1.length c1, .string o.sh.k, .int .i64 o.sh.at_, .slice p2 o.sh.ns.length c2, .slice p3 o.sh.cs.length c3, .int .i64 o.sh.ix, .string o.sh.s, .string o.sh.v, .string o.l2, .int .i64 o.i2, .int .i64 o.s2, .slice p4 o.p2.length c4]) := X1.out.below b2
  clear b2 X1 B1 HW1
  rcases hm1 with rfl | ⟨a1, a2, a3, a4⟩
  · go_wp2_with fail
    go_ret
    exact ⟨⟨_, rfl, .inl rfl⟩, B2.out⟩
  have d1 : decide (m1 < 0) = false := decide_eq_false (by omega)
  have h2 := H2.out m1 w2 a1 (by omega) B2.out
  obtain ⟨r0, r1, r2, r3, r4, r5, r6, r7, r8, r9, r10, r11, r12, r13, r14⟩ := box15 X2.out
  go_wp2_with fail
  refine h2.mono ?_
  rintro e w3 ⟨⟨m2, rfl, hm2⟩, b3⟩
  clear h2 r0 r1 r2 r3 r4 r5 r6 r7 r8 r9 r10 r11 r12 r13 r14 d1
  have B3 : Hid (Below w.heap.size w w3) := chainB B2.out b3
  have X3 : Hid (Bxs w3 w.heap.size 50 #[.string o.l1, .int .i64 o.i1, .int .i64 o.s1, .slice p1 o.p1.length c1, .string o.sh.k, .int .i64 o.sh.at_, .slice p2 o.sh.ns.length c2, .slice p3 o.sh.cs.length c3, .int .i64 o.sh.ix, .string o.sh.s, .string o.sh.v, .string o.l2, .int .i64 o.i2, .int .i64 o.s2, .slice p4 o.p2.length c4]) := X2.out.below b3
  clear b3 X2 B2 H2
  rcases hm2 with rfl | ⟨e1, e2, e3, e4⟩
  · go_wp2_with fail
    go_ret
    exact ⟨⟨_, rfl, .inl rfl⟩, B3.out⟩
  have d1 : decide (m2 < 0) = false := decide_eq_false (by omega)
  have h3 := H3.out m2 w3 e1 (by omega) B3.out
  obtain ⟨r0, r1, r2, r3, r4, r5, r6, r7, r8, r9, r10, r11, r12, r13, r14⟩ := box15 X3.out
  go_wp2_with fail
  refine h3.mono ?_
  rintro e w4 ⟨⟨m3, rfl, hm3⟩, b4⟩
  clear h3 r0 r1 r2 r3 r4 r5 r6 r7 r8 r9 r10 r11 r12 r13 r14 d1
  have B4 : Hid (Below w.heap.size w w4) := chainB B3.out b4
  clear b4 X3 B3 H3
  rcases hm3 with rfl | ⟨f1, f2, f3, f4⟩
  · go_wp2_with fail
    go_ret
    exact ⟨⟨_, rfl, .inl rfl⟩, B4.out⟩
  have d1 : decide (m3 < 0) = false := decide_eq_false (by omega)
  go_wp2_with fail
  go_ret
  exact ⟨⟨_, rfl, .inr ⟨f1, by omega, a3, f3, a4, e3, e4, f4⟩⟩, B4.out⟩
set_option maxHeartbeats 16000000 in
theorem toAnswer_any (o : Ans) (p1 : Option Addr) (c1 : Nat) (p2 : Option Addr) (c2 : Nat) (p3 : Option Addr) (c3 : Nat) (p4 : Option Addr) (c4 : Nat) (w : World) (hin : AnIn o p1 c1 p2 c2 p3 c3 p4 c4 w) (hz : o.p1.length ≤ 1048576 ∧ o.sh.ns.length ≤ 1048576 ∧ o.sh.cs.length ≤ 1048576 ∧ o.p2.length ≤ 1048576) :
    Calls Tryz.prog 21 #[.agg #[.string o.l1, .int .i64 o.i1, .int .i64 o.s1, .slice p1 o.p1.length c1, .string o.sh.k, .int .i64 o.sh.at_, .slice p2 o.sh.ns.length c2, .slice p3 o.sh.cs.length c3, .int .i64 o.sh.ix, .string o.sh.s, .string o.sh.v, .string o.l2, .int .i64 o.i2, .int .i64 o.s2, .slice p4 o.p2.length c4]] w fun e w' => ∃ g1 g2 g3 g4, e = .returned (.agg #[.string o.l1, .int .i64 o.i1, .int .i64 o.s1, .slice (some ⟨g1, 0, none⟩) o.p1.length o.p1.length, .string o.sh.k, .int .i64 o.sh.at_, .slice (some ⟨g2, 0, none⟩) o.sh.ns.length o.sh.ns.length, .slice (some ⟨g3, 0, none⟩) o.sh.cs.length o.sh.cs.length, .int .i64 o.sh.ix, .string o.sh.s, .string o.sh.v, .string o.l2, .int .i64 o.i2, .int .i64 o.s2, .slice (some ⟨g4, 0, none⟩) o.p2.length o.p2.length]) ∧ AnIn o (some ⟨g1, 0, none⟩) o.p1.length (some ⟨g2, 0, none⟩) o.sh.ns.length (some ⟨g3, 0, none⟩) o.sh.cs.length (some ⟨g4, 0, none⟩) o.p2.length w' ∧ Below w.heap.size w w' := by
  obtain ⟨n1, n2, n3, n4⟩ := hz
  obtain ⟨W3, hW3⟩ : ∃ W3, W3 = ((w.alloc (.cells #[.string o.l1, .int .i64 o.i1, .int .i64 o.s1, .slice p1 o.p1.length c1, .string o.sh.k, .int .i64 o.sh.at_, .slice p2 o.sh.ns.length c2, .slice p3 o.sh.cs.length c3, .int .i64 o.sh.ix, .string o.sh.s, .string o.sh.v, .string o.l2, .int .i64 o.i2, .int .i64 o.s2, .slice p4 o.p2.length c4] 50)).alloc (.cells #[.string ⟨#[]⟩, .int .i64 0, .int .i64 0, .slice none 0 0, .string ⟨#[]⟩, .int .i64 0, .slice none 0 0, .slice none 0 0, .int .i64 0, .string ⟨#[]⟩, .string ⟨#[]⟩, .string ⟨#[]⟩, .int .i64 0, .int .i64 0, .slice none 0 0] 39)).alloc (.cells #[.string ⟨#[]⟩, .int .i64 0, .int .i64 0, .slice none 0 0, .string ⟨#[]⟩, .int .i64 0, .slice none 0 0, .slice none 0 0, .int .i64 0, .string ⟨#[]⟩, .string ⟨#[]⟩, .string ⟨#[]⟩, .int .i64 0, .int .i64 0, .slice none 0 0] 39) := ⟨_, rfl⟩
  have HW3 : Hid (W3 = ((w.alloc (.cells #[.string o.l1, .int .i64 o.i1, .int .i64 o.s1, .slice p1 o.p1.length c1, .string o.sh.k, .int .i64 o.sh.at_, .slice p2 o.sh.ns.length c2, .slice p3 o.sh.cs.length c3, .int .i64 o.sh.ix, .string o.sh.s, .string o.sh.v, .string o.l2, .int .i64 o.i2, .int .i64 o.s2, .slice p4 o.p2.length c4] 50)).alloc (.cells #[.string ⟨#[]⟩, .int .i64 0, .int .i64 0, .slice none 0 0, .string ⟨#[]⟩, .int .i64 0, .slice none 0 0, .slice none 0 0, .int .i64 0, .string ⟨#[]⟩, .string ⟨#[]⟩, .string ⟨#[]⟩, .int .i64 0, .int .i64 0, .slice none 0 0] 39)).alloc (.cells #[.string ⟨#[]⟩, .int .i64 0, .int .i64 0, .slice none 0 0, .string ⟨#[]⟩, .int .i64 0, .slice none 0 0, .slice none 0 0, .int .i64 0, .string ⟨#[]⟩, .string ⟨#[]⟩, .string ⟨#[]⟩, .int .i64 0, .int .i64 0, .slice none 0 0] 39)) := hW3
  have H3 : Hid (TA w #[.string o.l1, .int .i64 o.i1, .int .i64 o.s1, .slice p1 o.p1.length c1, .string o.sh.k, .int .i64 o.sh.at_, .slice p2 o.sh.ns.length c2, .slice p3 o.sh.cs.length c3, .int .i64 o.sh.ix, .string o.sh.s, .string o.sh.v, .string o.l2, .int .i64 o.i2, .int .i64 o.s2, .slice p4 o.p2.length c4] #[.string ⟨#[]⟩, .int .i64 0, .int .i64 0, .slice none 0 0, .string ⟨#[]⟩, .int .i64 0, .slice none 0 0, .slice none 0 0, .int .i64 0, .string ⟨#[]⟩, .string ⟨#[]⟩, .string ⟨#[]⟩, .int .i64 0, .int .i64 0, .slice none 0 0] #[.string ⟨#[]⟩, .int .i64 0, .int .i64 0, .slice none 0 0, .string ⟨#[]⟩, .int .i64 0, .slice none 0 0, .slice none 0 0, .int .i64 0, .string ⟨#[]⟩, .string ⟨#[]⟩, .string ⟨#[]⟩, .int .i64 0, .int .i64 0, .slice none 0 0] W3) := by
    have h1 := Bxs.new (w.alloc (.cells #[.string o.l1, .int .i64 o.i1, .int .i64 o.s1, .slice p1 o.p1.length c1, .string o.sh.k, .int .i64 o.sh.at_, .slice p2 o.sh.ns.length c2, .slice p3 o.sh.cs.length c3, .int .i64 o.sh.ix, .string o.sh.s, .string o.sh.v, .string o.l2, .int .i64 o.i2, .int .i64 o.s2, .slice p4 o.p2.length c4] 50)) 39 #[.string ⟨#[]⟩, .int .i64 0, .int .i64 0, .slice none 0 0, .string ⟨#[]⟩, .int .i64 0, .slice none 0 0, .slice none 0 0, .int .i64 0, .string ⟨#[]⟩, .string ⟨#[]⟩, .string ⟨#[]⟩, .int .i64 0, .int .i64 0, .slice none 0 0]
    rw [szA] at h1
    have h2 := Bxs.new ((w.alloc (.cells #[.string o.l1, .int .i64 o.i1, .int .i64 o.s1, .slice p1 o.p1.length c1, .string o.sh.k, .int .i64 o.sh.at_, .slice p2 o.sh.ns.length c2, .slice p3 o.sh.cs.length c3, .int .i64 o.sh.ix, .string o.sh.s, .string o.sh.v, .string o.l2, .int .i64 o.i2, .int .i64 o.s2, .slice p4 o.p2.length c4] 50)).alloc (.cells #[.string ⟨#[]⟩, .int .i64 0, .int .i64 0, .slice none 0 0, .string ⟨#[]⟩, .int .i64 0, .slice none 0 0, .slice none 0 0, .int .i64 0, .string ⟨#[]⟩, .string ⟨#[]⟩, .string ⟨#[]⟩, .int .i64 0, .int .i64 0, .slice none 0 0] 39)) 39 #[.string ⟨#[]⟩, .int .i64 0, .int .i64 0, .slice none 0 0, .string ⟨#[]⟩, .int .i64 0, .slice none 0 0, .slice none 0 0, .int .i64 0, .string ⟨#[]⟩, .string ⟨#[]⟩, .string ⟨#[]⟩, .int .i64 0, .int .i64 0, .slice none 0 0]
    rw [szA, szA] at h2
    rw [hW3]
    exact ⟨alB (alB ((Below.refl _ _).alloc (Nat.le_refl _) _) _) _, by simp, ((Bxs.new _ _ _).alloc _).alloc _, h1.alloc _, h2⟩
  have hT1 := toProofG_any o.l1 o.i1 o.s1 p1 c1 o.p1 W3 (hin.t1.below H3.out.bel) n1 hin.m1
  have HT2 : Hid (∀ y, Below w.heap.size w y → Calls Tryz.prog 59 #[.agg #[.string o.sh.k, .int .i64 o.sh.at_, .slice p2 o.sh.ns.length c2, .slice p3 o.sh.cs.length c3, .int .i64 o.sh.ix, .string o.sh.s, .string o.sh.v]] y fun e w' => ∃ g2 g3, y.heap.size ≤ g2 ∧ g2 < g3 ∧ e = .returned (.agg #[.string o.sh.k, .int .i64 o.sh.at_, .slice (some ⟨g2, 0, none⟩) o.sh.ns.length o.sh.ns.length, .slice (some ⟨g3, 0, none⟩) o.sh.cs.length o.sh.cs.length, .int .i64 o.sh.ix, .string o.sh.s, .string o.sh.v]) ∧ BlkS w' g2 o.sh.ns ∧ BlkS w' g3 o.sh.cs ∧ Below y.heap.size y w') := fun y hb => toShown_any o.sh.k o.sh.at_ o.sh.ix o.sh.s o.sh.v p2 c2 o.sh.ns p3 c3 o.sh.cs y (hin.t2.below hb) (hin.t3.below hb) n2 n3 hin.m2 hin.m3
  have HT3 : Hid (∀ y, Below w.heap.size w y → Calls Tryz.prog 58 #[.agg #[.string o.l2, .int .i64 o.i2, .int .i64 o.s2, .slice p4 o.p2.length c4]] y fun e w' => ∃ g4, y.heap.size ≤ g4 ∧ e = .returned (.agg #[.string o.l2, .int .i64 o.i2, .int .i64 o.s2, .slice (some ⟨g4, 0, none⟩) o.p2.length o.p2.length]) ∧ TxtAt w' (some ⟨g4, 0, none⟩) o.p2 ∧ Below y.heap.size y w') := fun y hb => toProofG_any o.l2 o.i2 o.s2 p4 c4 o.p2 y (hin.t4.below hb) n4 hin.m4
  clear hW3 hin n1 n2 n3 n4
  go_enter Tryz.func21, Tryz.ntmps21
  go_upto_region 2 with fail
  rw [← HW3.out]
  obtain ⟨r0, r1, r2, r3, r4, r5, r6, r7, r8, r9, r10, r11, r12, r13, r14⟩ := box15 H3.out.ba
  go_wp2_with fail
  refine hT1.mono ?_
  rintro e y1 ⟨g1, hg1, rfl, tx1, b1⟩
  have H4 := H3.out.below b1
  have G1 : Hid (w.heap.size + 3 ≤ g1) := Nat.le_trans H3.out.big hg1
  clear hT1 b1 hg1 r0 r1 r2 r3 r4 r5 r6 r7 r8 r9 r10 r11 r12 r13 r14 HW3 H3
  have z0 := H4.bo.cell 0
  have f0 := H4.bo.fr 0
  have z1 := H4.bo.cell 1
  have f1 := H4.bo.fr 1
  have z2 := H4.bo.cell 2
  have f2 := H4.bo.fr 2
  have z3 := H4.bo.cell 3
  have f3 := H4.bo.fr 3
  go_upto_region 3 with fail
  have H5 := ((((H4.set 0 (.string o.l1)).set 1 (.int .i64 o.i1)).set 2 (.int .i64 o.s1)).set 3 (.slice (some ⟨g1, 0, none⟩) o.p1.length o.p1.length))
  simp only [List.setIfInBounds_toArray, List.set_cons_zero, List.set_cons_succ] at H5
  have tx1 := txt_set (txt_set (txt_set (txt_set tx1 (g := w.heap.size + 2) (by have := G1.out; omega) 0 (.string o.l1)) (g := w.heap.size + 2) (by have := G1.out; omega) 1 (.int .i64 o.i1)) (g := w.heap.size + 2) (by have := G1.out; omega) 2 (.int .i64 o.s1)) (g := w.heap.size + 2) (by have := G1.out; omega) 3 (.slice (some ⟨g1, 0, none⟩) o.p1.length o.p1.length)
  clear H4 z0 f0 z1 f1 z2 f2 z3 f3
  generalize ((((y1.setCell ⟨w.heap.size + 2, 0, none⟩ (.string o.l1)).setCell ⟨w.heap.size + 2, 1, none⟩ (.int .i64 o.i1)).setCell ⟨w.heap.size + 2, 2, none⟩ (.int .i64 o.s1)).setCell ⟨w.heap.size + 2, 3, none⟩ (.slice (some ⟨g1, 0, none⟩) o.p1.length o.p1.length)) = x1 at *
  have HA1 : Hid (TA w #[.string o.l1, .int .i64 o.i1, .int .i64 o.s1, .slice p1 o.p1.length c1, .string o.sh.k, .int .i64 o.sh.at_, .slice p2 o.sh.ns.length c2, .slice p3 o.sh.cs.length c3, .int .i64 o.sh.ix, .string o.sh.s, .string o.sh.v, .string o.l2, .int .i64 o.i2, .int .i64 o.s2, .slice p4 o.p2.length c4] #[.string ⟨#[]⟩, .int .i64 0, .int .i64 0, .slice none 0 0, .string ⟨#[]⟩, .int .i64 0, .slice none 0 0, .slice none 0 0, .int .i64 0, .string ⟨#[]⟩, .string ⟨#[]⟩, .string ⟨#[]⟩, .int .i64 0, .int .i64 0, .slice none 0 0] #[.string o.l1, .int .i64 o.i1, .int .i64 o.s1, .slice (some ⟨g1, 0, none⟩) o.p1.length o.p1.length, .string ⟨#[]⟩, .int .i64 0, .slice none 0 0, .slice none 0 0, .int .i64 0, .string ⟨#[]⟩, .string ⟨#[]⟩, .string ⟨#[]⟩, .int .i64 0, .int .i64 0, .slice none 0 0] x1) := H5
  have T1 : Hid (TxtAt x1 (some ⟨g1, 0, none⟩) o.p1) := tx1
  clear H5 tx1
  obtain ⟨r0, r1, r2, r3, r4, r5, r6, r7, r8, r9, r10, r11, r12, r13, r14⟩ := box15 HA1.out.ba
  have hT2 := HT2.out x1 HA1.out.bel
  go_wp2_with fail
  refine hT2.mono ?_
  rintro e y2 ⟨g2, g3, hg2, hg3, rfl, bk2, bk3, b2⟩
  have H4 := HA1.out.below b2
  have T1b := T1.out.below b2
  have G2 : Hid (w.heap.size + 3 ≤ g2 ∧ w.heap.size + 3 ≤ g3) := ⟨Nat.le_trans HA1.out.big hg2, by have := HA1.out.big; omega⟩
  have tx2 := BlkS.txt bk2
  have tx3 := BlkS.txt bk3
  clear hT2 b2 hg2 hg3 bk2 bk3 r0 r1 r2 r3 r4 r5 r6 r7 r8 r9 r10 r11 r12 r13 r14 HA1 T1 HT2
  have z4 := H4.bo.cell 4
  have f4 := H4.bo.fr 4
  have z5 := H4.bo.cell 5
  have f5 := H4.bo.fr 5
  have z6 := H4.bo.cell 6
  have f6 := H4.bo.fr 6
  have z7 := H4.bo.cell 7
  have f7 := H4.bo.fr 7
  have z8 := H4.bo.cell 8
  have f8 := H4.bo.fr 8
  have z9 := H4.bo.cell 9
  have f9 := H4.bo.fr 9
  have z10 := H4.bo.cell 10
  have f10 := H4.bo.fr 10
  go_upto_region 4 with fail
  have H5 := (((((((H4.set 4 (.string o.sh.k)).set 5 (.int .i64 o.sh.at_)).set 6 (.slice (some ⟨g2, 0, none⟩) o.sh.ns.length o.sh.ns.length)).set 7 (.slice (some ⟨g3, 0, none⟩) o.sh.cs.length o.sh.cs.length)).set 8 (.int .i64 o.sh.ix)).set 9 (.string o.sh.s)).set 10 (.string o.sh.v))
  simp only [List.setIfInBounds_toArray, List.set_cons_zero, List.set_cons_succ] at H5
  have key : ∀ (b : Nat) (l : List ByteArray), w.heap.size + 3 ≤ b → TxtAt y2 (some ⟨b, 0, none⟩) l → TxtAt (((((((y2.setCell ⟨w.heap.size + 2, 4, none⟩ (.string o.sh.k)).setCell ⟨w.heap.size + 2, 5, none⟩ (.int .i64 o.sh.at_)).setCell ⟨w.heap.size + 2, 6, none⟩ (.slice (some ⟨g2, 0, none⟩) o.sh.ns.length o.sh.ns.length)).setCell ⟨w.heap.size + 2, 7, none⟩ (.slice (some ⟨g3, 0, none⟩) o.sh.cs.length o.sh.cs.length)).setCell ⟨w.heap.size + 2, 8, none⟩ (.int .i64 o.sh.ix)).setCell ⟨w.heap.size + 2, 9, none⟩ (.string o.sh.s)).setCell ⟨w.heap.size + 2, 10, none⟩ (.string o.sh.v)) (some ⟨b, 0, none⟩) l := fun b l hb h => txt_set (txt_set (txt_set (txt_set (txt_set (txt_set (txt_set h (by omega) _ _) (by omega) _ _) (by omega) _ _) (by omega) _ _) (by omega) _ _) (by omega) _ _) (by omega) _ _
  have T1c := key g1 _ G1.out T1b
  have T2c := key g2 _ G2.out.1 tx2
  have T3c := key g3 _ G2.out.2 tx3
  clear H4 z4 f4 z5 f5 z6 f6 z7 f7 z8 f8 z9 f9 z10 f10 key T1b tx2 tx3
  generalize (((((((y2.setCell ⟨w.heap.size + 2, 4, none⟩ (.string o.sh.k)).setCell ⟨w.heap.size + 2, 5, none⟩ (.int .i64 o.sh.at_)).setCell ⟨w.heap.size + 2, 6, none⟩ (.slice (some ⟨g2, 0, none⟩) o.sh.ns.length o.sh.ns.length)).setCell ⟨w.heap.size + 2, 7, none⟩ (.slice (some ⟨g3, 0, none⟩) o.sh.cs.length o.sh.cs.length)).setCell ⟨w.heap.size + 2, 8, none⟩ (.int .i64 o.sh.ix)).setCell ⟨w.heap.size + 2, 9, none⟩ (.string o.sh.s)).setCell ⟨w.heap.size + 2, 10, none⟩ (.string o.sh.v)) = x2 at *
  have HA2 : Hid (TA w #[.string o.l1, .int .i64 o.i1, .int .i64 o.s1, .slice p1 o.p1.length c1, .string o.sh.k, .int .i64 o.sh.at_, .slice p2 o.sh.ns.length c2, .slice p3 o.sh.cs.length c3, .int .i64 o.sh.ix, .string o.sh.s, .string o.sh.v, .string o.l2, .int .i64 o.i2, .int .i64 o.s2, .slice p4 o.p2.length c4] #[.string ⟨#[]⟩, .int .i64 0, .int .i64 0, .slice none 0 0, .string ⟨#[]⟩, .int .i64 0, .slice none 0 0, .slice none 0 0, .int .i64 0, .string ⟨#[]⟩, .string ⟨#[]⟩, .string ⟨#[]⟩, .int .i64 0, .int .i64 0, .slice none 0 0] #[.string o.l1, .int .i64 o.i1, .int .i64 o.s1, .slice (some ⟨g1, 0, none⟩) o.p1.length o.p1.length, .string o.sh.k, .int .i64 o.sh.at_, .slice (some ⟨g2, 0, none⟩) o.sh.ns.length o.sh.ns.length, .slice (some ⟨g3, 0, none⟩) o.sh.cs.length o.sh.cs.length, .int .i64 o.sh.ix, .string o.sh.s, .string o.sh.v, .string ⟨#[]⟩, .int .i64 0, .int .i64 0, .slice none 0 0] x2) := H5
  have T123 : Hid (TxtAt x2 (some ⟨g1, 0, none⟩) o.p1 ∧ TxtAt x2 (some ⟨g2, 0, none⟩) o.sh.ns ∧ TxtAt x2 (some ⟨g3, 0, none⟩) o.sh.cs) := ⟨T1c, T2c, T3c⟩
  clear H5 T1c T2c T3c
  obtain ⟨r0, r1, r2, r3, r4, r5, r6, r7, r8, r9, r10, r11, r12, r13, r14⟩ := box15 HA2.out.ba
  have hT3 := HT3.out x2 HA2.out.bel
  go_wp2_with fail
  refine hT3.mono ?_
  rintro e y3 ⟨g4, hg4, rfl, tx4, b3⟩
  have H4 := HA2.out.below b3
  have G4 : Hid (w.heap.size + 3 ≤ g4) := Nat.le_trans HA2.out.big hg4
  have T1b := T123.out.1.below b3
  have T2b := T123.out.2.1.below b3
  have T3b := T123.out.2.2.below b3
  clear hT3 b3 hg4 r0 r1 r2 r3 r4 r5 r6 r7 r8 r9 r10 r11 r12 r13 r14 HA2 T123 HT3
  have z11 := H4.bo.cell 11
  have f11 := H4.bo.fr 11
  have z12 := H4.bo.cell 12
  have f12 := H4.bo.fr 12
  have z13 := H4.bo.cell 13
  have f13 := H4.bo.fr 13
  have z14 := H4.bo.cell 14
  have f14 := H4.bo.fr 14
  go_upto_region 5 with fail
  have H5 := ((((H4.set 11 (.string o.l2)).set 12 (.int .i64 o.i2)).set 13 (.int .i64 o.s2)).set 14 (.slice (some ⟨g4, 0, none⟩) o.p2.length o.p2.length))
  simp only [List.setIfInBounds_toArray, List.set_cons_zero, List.set_cons_succ] at H5
  have key : ∀ (b : Nat) (l : List ByteArray), w.heap.size + 3 ≤ b → TxtAt y3 (some ⟨b, 0, none⟩) l → TxtAt ((((y3.setCell ⟨w.heap.size + 2, 11, none⟩ (.string o.l2)).setCell ⟨w.heap.size + 2, 12, none⟩ (.int .i64 o.i2)).setCell ⟨w.heap.size + 2, 13, none⟩ (.int .i64 o.s2)).setCell ⟨w.heap.size + 2, 14, none⟩ (.slice (some ⟨g4, 0, none⟩) o.p2.length o.p2.length)) (some ⟨b, 0, none⟩) l := fun b l hb h => txt_set (txt_set (txt_set (txt_set h (by omega) _ _) (by omega) _ _) (by omega) _ _) (by omega) _ _
  have T1c := key g1 _ G1.out T1b
  have T2c := key g2 _ G2.out.1 T2b
  have T3c := key g3 _ G2.out.2 T3b
  have T4c := key g4 _ G4.out tx4
  clear H4 z11 f11 z12 f12 z13 f13 z14 f14 key T1b T2b T3b tx4
  generalize ((((y3.setCell ⟨w.heap.size + 2, 11, none⟩ (.string o.l2)).setCell ⟨w.heap.size + 2, 12, none⟩ (.int .i64 o.i2)).setCell ⟨w.heap.size + 2, 13, none⟩ (.int .i64 o.s2)).setCell ⟨w.heap.size + 2, 14, none⟩ (.slice (some ⟨g4, 0, none⟩) o.p2.length o.p2.length)) = x3 at *
  have HA3 : Hid (TA w #[.string o.l1, .int .i64 o.i1, .int .i64 o.s1, .slice p1 o.p1.length c1, .string o.sh.k, .int .i64 o.sh.at_, .slice p2 o.sh.ns.length c2, .slice p3 o.sh.cs.length c3, .int .i64 o.sh.ix, .string o.sh.s, .string o.sh.v, .string o.l2, .int .i64 o.i2, .int .i64 o.s2, .slice p4 o.p2.length c4] #[.string ⟨#[]⟩, .int .i64 0, .int .i64 0, .slice none 0 0, .string ⟨#[]⟩, .int .i64 0, .slice none 0 0, .slice none 0 0, .int .i64 0, .string ⟨#[]⟩, .string ⟨#[]⟩, .string ⟨#[]⟩, .int .i64 0, .int .i64 0, .slice none 0 0] #[.string o.l1, .int .i64 o.i1, .int .i64 o.s1, .slice (some ⟨g1, 0, none⟩) o.p1.length o.p1.length, .string o.sh.k, .int .i64 o.sh.at_, .slice (some ⟨g2, 0, none⟩) o.sh.ns.length o.sh.ns.length, .slice (some ⟨g3, 0, none⟩) o.sh.cs.length o.sh.cs.length, .int .i64 o.sh.ix, .string o.sh.s, .string o.sh.v, .string o.l2, .int .i64 o.i2, .int .i64 o.s2, .slice (some ⟨g4, 0, none⟩) o.p2.length o.p2.length] x3) := H5
  have T1234 : Hid (TxtAt x3 (some ⟨g1, 0, none⟩) o.p1 ∧ TxtAt x3 (some ⟨g2, 0, none⟩) o.sh.ns ∧ TxtAt x3 (some ⟨g3, 0, none⟩) o.sh.cs ∧ TxtAt x3 (some ⟨g4, 0, none⟩) o.p2) := ⟨T1c, T2c, T3c, T4c⟩
  clear H5 T1c T2c T3c T4c
  obtain ⟨r0, r1, r2, r3, r4, r5, r6, r7, r8, r9, r10, r11, r12, r13, r14⟩ := box15 HA3.out.bo
  have z0 := HA3.out.br.cell 0
  have f0 := HA3.out.br.fr 0
  have z1 := HA3.out.br.cell 1
  have f1 := HA3.out.br.fr 1
  have z2 := HA3.out.br.cell 2
  have f2 := HA3.out.br.fr 2
  have z3 := HA3.out.br.cell 3
  have f3 := HA3.out.br.fr 3
  have z4 := HA3.out.br.cell 4
  have f4 := HA3.out.br.fr 4
  have z5 := HA3.out.br.cell 5
  have f5 := HA3.out.br.fr 5
  have z6 := HA3.out.br.cell 6
  have f6 := HA3.out.br.fr 6
  have z7 := HA3.out.br.cell 7
  have f7 := HA3.out.br.fr 7
  have z8 := HA3.out.br.cell 8
  have f8 := HA3.out.br.fr 8
  have z9 := HA3.out.br.cell 9
  have f9 := HA3.out.br.fr 9
  have z10 := HA3.out.br.cell 10
  have f10 := HA3.out.br.fr 10
  have z11 := HA3.out.br.cell 11
  have f11 := HA3.out.br.fr 11
  have z12 := HA3.out.br.cell 12
  have f12 := HA3.out.br.fr 12
  have z13 := HA3.out.br.cell 13
  have f13 := HA3.out.br.fr 13
  have z14 := HA3.out.br.cell 14
  have f14 := HA3.out.br.fr 14
  go_wp2_with fail
  clear r0 r1 r2 r3 r4 r5 r6 r7 r8 r9 r10 r11 r12 r13 r14 z0 f0 z1 f1 z2 f2 z3 f3 z4 f4 z5 f5 z6 f6 z7 f7 z8 f8 z9 f9 z10 f10 z11 f11 z12 f12 z13 f13 z14 f14
  have H5 := ((((((((((((((HA3.out.setR 0 (.string o.l1)).setR 1 (.int .i64 o.i1)).setR 2 (.int .i64 o.s1)).setR 3 (.slice (some ⟨g1, 0, none⟩) o.p1.length o.p1.length)).setR 4 (.string o.sh.k)).setR 5 (.int .i64 o.sh.at_)).setR 6 (.slice (some ⟨g2, 0, none⟩) o.sh.ns.length o.sh.ns.length)).setR 7 (.slice (some ⟨g3, 0, none⟩) o.sh.cs.length o.sh.cs.length)).setR 8 (.int .i64 o.sh.ix)).setR 9 (.string o.sh.s)).setR 10 (.string o.sh.v)).setR 11 (.string o.l2)).setR 12 (.int .i64 o.i2)).setR 13 (.int .i64 o.s2)).setR 14 (.slice (some ⟨g4, 0, none⟩) o.p2.length o.p2.length)
  simp only [List.setIfInBounds_toArray, List.set_cons_zero, List.set_cons_succ] at H5
  have key : ∀ (b : Nat) (l : List ByteArray), w.heap.size + 3 ≤ b → TxtAt x3 (some ⟨b, 0, none⟩) l → TxtAt (((((((((((((((x3.setCell ⟨w.heap.size + 1, 0, none⟩ (.string o.l1)).setCell ⟨w.heap.size + 1, 1, none⟩ (.int .i64 o.i1)).setCell ⟨w.heap.size + 1, 2, none⟩ (.int .i64 o.s1)).setCell ⟨w.heap.size + 1, 3, none⟩ (.slice (some ⟨g1, 0, none⟩) o.p1.length o.p1.length)).setCell ⟨w.heap.size + 1, 4, none⟩ (.string o.sh.k)).setCell ⟨w.heap.size + 1, 5, none⟩ (.int .i64 o.sh.at_)).setCell ⟨w.heap.size + 1, 6, none⟩ (.slice (some ⟨g2, 0, none⟩) o.sh.ns.length o.sh.ns.length)).setCell ⟨w.heap.size + 1, 7, none⟩ (.slice (some ⟨g3, 0, none⟩) o.sh.cs.length o.sh.cs.length)).setCell ⟨w.heap.size + 1, 8, none⟩ (.int .i64 o.sh.ix)).setCell ⟨w.heap.size + 1, 9, none⟩ (.string o.sh.s)).setCell ⟨w.heap.size + 1, 10, none⟩ (.string o.sh.v)).setCell ⟨w.heap.size + 1, 11, none⟩ (.string o.l2)).setCell ⟨w.heap.size + 1, 12, none⟩ (.int .i64 o.i2)).setCell ⟨w.heap.size + 1, 13, none⟩ (.int .i64 o.s2)).setCell ⟨w.heap.size + 1, 14, none⟩ (.slice (some ⟨g4, 0, none⟩) o.p2.length o.p2.length)) (some ⟨b, 0, none⟩) l := fun b l hb h => txt_set (txt_set (txt_set (txt_set (txt_set (txt_set (txt_set (txt_set (txt_set (txt_set (txt_set (txt_set (txt_set (txt_set (txt_set h (by omega) _ _) (by omega) _ _) (by omega) _ _) (by omega) _ _) (by omega) _ _) (by omega) _ _) (by omega) _ _) (by omega) _ _) (by omega) _ _) (by omega) _ _) (by omega) _ _) (by omega) _ _) (by omega) _ _) (by omega) _ _) (by omega) _ _
  have T1c := key g1 _ G1.out T1234.out.1
  have T2c := key g2 _ G2.out.1 T1234.out.2.1
  have T3c := key g3 _ G2.out.2 T1234.out.2.2.1
  have T4c := key g4 _ G4.out T1234.out.2.2.2
  clear key
  generalize (((((((((((((((x3.setCell ⟨w.heap.size + 1, 0, none⟩ (.string o.l1)).setCell ⟨w.heap.size + 1, 1, none⟩ (.int .i64 o.i1)).setCell ⟨w.heap.size + 1, 2, none⟩ (.int .i64 o.s1)).setCell ⟨w.heap.size + 1, 3, none⟩ (.slice (some ⟨g1, 0, none⟩) o.p1.length o.p1.length)).setCell ⟨w.heap.size + 1, 4, none⟩ (.string o.sh.k)).setCell ⟨w.heap.size + 1, 5, none⟩ (.int .i64 o.sh.at_)).setCell ⟨w.heap.size + 1, 6, none⟩ (.slice (some ⟨g2, 0, none⟩) o.sh.ns.length o.sh.ns.length)).setCell ⟨w.heap.size + 1, 7, none⟩ (.slice (some ⟨g3, 0, none⟩) o.sh.cs.length o.sh.cs.length)).setCell ⟨w.heap.size + 1, 8, none⟩ (.int .i64 o.sh.ix)).setCell ⟨w.heap.size + 1, 9, none⟩ (.string o.sh.s)).setCell ⟨w.heap.size + 1, 10, none⟩ (.string o.sh.v)).setCell ⟨w.heap.size + 1, 11, none⟩ (.string o.l2)).setCell ⟨w.heap.size + 1, 12, none⟩ (.int .i64 o.i2)).setCell ⟨w.heap.size + 1, 13, none⟩ (.int .i64 o.s2)).setCell ⟨w.heap.size + 1, 14, none⟩ (.slice (some ⟨g4, 0, none⟩) o.p2.length o.p2.length)) = zz at *
  have HB5 : Hid (Below w.heap.size w zz ∧ AnIn o (some ⟨g1, 0, none⟩) o.p1.length (some ⟨g2, 0, none⟩) o.sh.ns.length (some ⟨g3, 0, none⟩) o.sh.cs.length (some ⟨g4, 0, none⟩) o.p2.length zz) := ⟨H5.bel, T1c, T2c, T3c, T4c, Nat.le_refl _, Nat.le_refl _, Nat.le_refl _, Nat.le_refl _⟩
  obtain ⟨k0, k1, k2, k3, k4, k5, k6, k7, k8, k9, k10, k11, k12, k13, k14⟩ := box15 H5.br
  clear H5 T1c T2c T3c T4c
  refine bodyPost_ret (v := .agg #[.string o.l1, .int .i64 o.i1, .int .i64 o.s1, .slice (some ⟨g1, 0, none⟩) o.p1.length o.p1.length, .string o.sh.k, .int .i64 o.sh.at_, .slice (some ⟨g2, 0, none⟩) o.sh.ns.length o.sh.ns.length, .slice (some ⟨g3, 0, none⟩) o.sh.cs.length o.sh.cs.length, .int .i64 o.sh.ix, .string o.sh.s, .string o.sh.v, .string o.l2, .int .i64 o.i2, .int .i64 o.s2, .slice (some ⟨g4, 0, none⟩) o.p2.length o.p2.length]) (by simp [results, Tryz.results21, go_sem, k0, k1, k2, k3, k4, k5, k6, k7, k8, k9, k10, k11, k12, k13, k14]) rfl ?_
  exact ⟨g1, g2, g3, g4, rfl, HB5.out.2, HB5.out.1⟩
set_option maxHeartbeats 4000000 in
theorem eqAnswerI_any (o : Ans) (p1 : Option Addr) (c1 : Nat) (p2 : Option Addr) (c2 : Nat) (p3 : Option Addr) (c3 : Nat) (p4 : Option Addr) (c4 : Nat) (q1 : Option Addr) (d1 : Nat) (q2 : Option Addr) (d2 : Nat) (q3 : Option Addr) (d3 : Nat) (q4 : Option Addr) (d4 : Nat) (w : World) (h : AnIn o p1 c1 p2 c2 p3 c3 p4 c4 w) (g : AnIn o q1 d1 q2 d2 q3 d3 q4 d4 w) (hz : anSm o) :
    Calls Tryz.prog 13 #[.agg #[.string o.l1, .int .i64 o.i1, .int .i64 o.s1, .slice p1 o.p1.length c1, .string o.sh.k, .int .i64 o.sh.at_, .slice p2 o.sh.ns.length c2, .slice p3 o.sh.cs.length c3, .int .i64 o.sh.ix, .string o.sh.s, .string o.sh.v, .string o.l2, .int .i64 o.i2, .int .i64 o.s2, .slice p4 o.p2.length c4], .agg #[.string o.l1, .int .i64 o.i1, .int .i64 o.s1, .slice q1 o.p1.length d1, .string o.sh.k, .int .i64 o.sh.at_, .slice q2 o.sh.ns.length d2, .slice q3 o.sh.cs.length d3, .int .i64 o.sh.ix, .string o.sh.s, .string o.sh.v, .string o.l2, .int .i64 o.i2, .int .i64 o.s2, .slice q4 o.p2.length d4]] w fun e w' => e = .returned (.bool true) ∧ Below w.heap.size w w' := by
  obtain ⟨z1, z2, z3, z4⟩ := hz
  obtain ⟨t1, t2, t3, t4, m1, m2, m3, m4⟩ := h
  obtain ⟨u1, u2, u3, u4, r1, r2, r3, r4⟩ := g
  obtain ⟨W0, hW0⟩ : ∃ W0, W0 = w.alloc (.cells #[.string o.l1, .int .i64 o.i1, .int .i64 o.s1, .slice p1 o.p1.length c1, .string o.sh.k, .int .i64 o.sh.at_, .slice p2 o.sh.ns.length c2, .slice p3 o.sh.cs.length c3, .int .i64 o.sh.ix, .string o.sh.s, .string o.sh.v, .string o.l2, .int .i64 o.i2, .int .i64 o.s2, .slice p4 o.p2.length c4] 39) := ⟨_, rfl⟩
  have hz0 : W0.heap.size = w.heap.size + 1 := by rw [hW0]; exact szA _ _
  obtain ⟨W1, hW1⟩ : ∃ W1, W1 = W0.alloc (.cells #[.string o.l1, .int .i64 o.i1, .int .i64 o.s1, .slice q1 o.p1.length d1, .string o.sh.k, .int .i64 o.sh.at_, .slice q2 o.sh.ns.length d2, .slice q3 o.sh.cs.length d3, .int .i64 o.sh.ix, .string o.sh.s, .string o.sh.v, .string o.l2, .int .i64 o.i2, .int .i64 o.s2, .slice q4 o.p2.length d4] 39) := ⟨_, rfl⟩
  have X1 : Hid (Bxs W1 w.heap.size 39 #[.string o.l1, .int .i64 o.i1, .int .i64 o.s1, .slice p1 o.p1.length c1, .string o.sh.k, .int .i64 o.sh.at_, .slice p2 o.sh.ns.length c2, .slice p3 o.sh.cs.length c3, .int .i64 o.sh.ix, .string o.sh.s, .string o.sh.v, .string o.l2, .int .i64 o.i2, .int .i64 o.s2, .slice p4 o.p2.length c4]) := by rw [hW1, hW0]; exact (Bxs.new _ _ _).alloc _
  have Y1 : Hid (Bxs W1 (w.heap.size + 1) 39 #[.string o.l1, .int .i64 o.i1, .int .i64 o.s1, .slice q1 o.p1.length d1, .string o.sh.k, .int .i64 o.sh.at_, .slice q2 o.sh.ns.length d2, .slice q3 o.sh.cs.length d3, .int .i64 o.sh.ix, .string o.sh.s, .string o.sh.v, .string o.l2, .int .i64 o.i2, .int .i64 o.s2, .slice q4 o.p2.length d4]) := by have hh := Bxs.new W0 39 #[.string o.l1, .int .i64 o.i1, .int .i64 o.s1, .slice q1 o.p1.length d1, .string o.sh.k, .int .i64 o.sh.at_, .slice q2 o.sh.ns.length d2, .slice q3 o.sh.cs.length d3, .int .i64 o.sh.ix, .string o.sh.s, .string o.sh.v, .string o.l2, .int .i64 o.i2, .int .i64 o.s2, .slice q4 o.p2.length d4]; rw [hz0] at hh; rw [hW1]; exact hh
  have B1 : Hid (Below w.heap.size w W1) := by rw [hW1, hW0]; exact alB ((Below.refl _ _).alloc (Nat.le_refl _) _) _
  have HW1 : Hid (W1 = (w.alloc (.cells #[.string o.l1, .int .i64 o.i1, .int .i64 o.s1, .slice p1 o.p1.length c1, .string o.sh.k, .int .i64 o.sh.at_, .slice p2 o.sh.ns.length c2, .slice p3 o.sh.cs.length c3, .int .i64 o.sh.ix, .string o.sh.s, .string o.sh.v, .string o.l2, .int .i64 o.i2, .int .i64 o.s2, .slice p4 o.p2.length c4] 39)).alloc (.cells #[.string o.l1, .int .i64 o.i1, .int .i64 o.s1, .slice q1 o.p1.length d1, .string o.sh.k, .int .i64 o.sh.at_, .slice q2 o.sh.ns.length d2, .slice q3 o.sh.cs.length d3, .int .i64 o.sh.ix, .string o.sh.s, .string o.sh.v, .string o.l2, .int .i64 o.i2, .int .i64 o.s2, .slice q4 o.p2.length d4] 39)) := hW1.trans (by rw [hW0])
  have HT : Hid (∀ x, Below w.heap.size w x → (TxtAt x p2 o.sh.ns ∧ TxtAt x q2 o.sh.ns ∧ TxtAt x p3 o.sh.cs ∧ TxtAt x q3 o.sh.cs) ∧ TxtAt x p4 o.p2 ∧ TxtAt x q4 o.p2) := fun x hb => ⟨⟨t2.below hb, u2.below hb, t3.below hb, u3.below hb⟩, t4.below hb, u4.below hb⟩
  have hM1 := eqProof_any o.l1 o.i1 o.s1 p1 q1 c1 d1 o.p1 W1 (t1.below B1.out) (u1.below B1.out) z1 m1 r1
  have k0 := X1.out.cell 0
  have k1 := X1.out.cell 1
  have k2 := X1.out.cell 2
  have k3 := X1.out.cell 3
  have j0 := Y1.out.cell 0
  have j1 := Y1.out.cell 1
  have j2 := Y1.out.cell 2
  have j3 := Y1.out.cell 3
  rw [HW1.out] at k0 k1 k2 k3 j0 j1 j2 j3
  clear hW1 hW0 hz0 t1 t2 t3 t4 u1 u2 u3 u4
  go_enter Tryz.func13, Tryz.ntmps13
  go_wp2_with fail
  rw [← HW1.out]
  refine hM1.mono ?_
  rintro e w2 ⟨rfl, b2⟩
  have HX2 : Hid (Bxs w2 w.heap.size 39 #[.string o.l1, .int .i64 o.i1, .int .i64 o.s1, .slice p1 o.p1.length c1, .string o.sh.k, .int .i64 o.sh.at_, .slice p2 o.sh.ns.length c2, .slice p3 o.sh.cs.length c3, .int .i64 o.sh.ix, .string o.sh.s, .string o.sh.v, .string o.l2, .int .i64 o.i2, .int .i64 o.s2, .slice p4 o.p2.length c4]) := X1.out.below b2
  have HY2 : Hid (Bxs w2 (w.heap.size + 1) 39 #[.string o.l1, .int .i64 o.i1, .int .i64 o.s1, .slice q1 o.p1.length d1, .string o.sh.k, .int .i64 o.sh.at_, .slice q2 o.sh.ns.length d2, .slice q3 o.sh.cs.length d3, .int .i64 o.sh.ix, .string o.sh.s, .string o.sh.v, .string o.l2, .int .i64 o.i2, .int .i64 o.s2, .slice q4 o.p2.length d4]) := Y1.out.below b2
  have HB2 : Hid (Below w.heap.size w w2) := chainB B1.out b2
  obtain ⟨⟨s1, s2, s3, s4⟩, -, -⟩ := HT.out w2 HB2.out
  have hM2 := eqShown_any o.sh.k o.sh.at_ o.sh.ix o.sh.s o.sh.v p2 c2 q2 d2 o.sh.ns p3 c3 q3 d3 o.sh.cs w2 s1 s2 s3 s4 z2 z3 m2 m3 r2 r3
  clear hM1 k0 k1 k2 k3 j0 j1 j2 j3 X1 Y1 B1 HW1 b2 s1 s2 s3 s4
  have k4 := HX2.out.cell 4
  have k5 := HX2.out.cell 5
  have k6 := HX2.out.cell 6
  have k7 := HX2.out.cell 7
  have k8 := HX2.out.cell 8
  have k9 := HX2.out.cell 9
  have k10 := HX2.out.cell 10
  have j4 := HY2.out.cell 4
  have j5 := HY2.out.cell 5
  have j6 := HY2.out.cell 6
  have j7 := HY2.out.cell 7
  have j8 := HY2.out.cell 8
  have j9 := HY2.out.cell 9
  have j10 := HY2.out.cell 10
  go_wp2_with fail
  refine hM2.mono ?_
  rintro e w3 ⟨rfl, b3⟩
  have HX3 : Hid (Bxs w3 w.heap.size 39 #[.string o.l1, .int .i64 o.i1, .int .i64 o.s1, .slice p1 o.p1.length c1, .string o.sh.k, .int .i64 o.sh.at_, .slice p2 o.sh.ns.length c2, .slice p3 o.sh.cs.length c3, .int .i64 o.sh.ix, .string o.sh.s, .string o.sh.v, .string o.l2, .int .i64 o.i2, .int .i64 o.s2, .slice p4 o.p2.length c4]) := HX2.out.below b3
  have HY3 : Hid (Bxs w3 (w.heap.size + 1) 39 #[.string o.l1, .int .i64 o.i1, .int .i64 o.s1, .slice q1 o.p1.length d1, .string o.sh.k, .int .i64 o.sh.at_, .slice q2 o.sh.ns.length d2, .slice q3 o.sh.cs.length d3, .int .i64 o.sh.ix, .string o.sh.s, .string o.sh.v, .string o.l2, .int .i64 o.i2, .int .i64 o.s2, .slice q4 o.p2.length d4]) := HY2.out.below b3
  have HB3 : Hid (Below w.heap.size w w3) := chainB HB2.out b3
  obtain ⟨-, s1, s2⟩ := HT.out w3 HB3.out
  have hM3 := eqProof_any o.l2 o.i2 o.s2 p4 q4 c4 d4 o.p2 w3 s1 s2 z4 m4 r4
  clear hM2 k4 k5 k6 k7 k8 k9 k10 j4 j5 j6 j7 j8 j9 j10 HX2 HY2 HB2 b3 s1 s2 HT
  have k11 := HX3.out.cell 11
  have k12 := HX3.out.cell 12
  have k13 := HX3.out.cell 13
  have k14 := HX3.out.cell 14
  have j11 := HY3.out.cell 11
  have j12 := HY3.out.cell 12
  have j13 := HY3.out.cell 13
  have j14 := HY3.out.cell 14
  go_wp2_with fail
  refine hM3.mono ?_
  rintro e w4 ⟨rfl, b4⟩
  have HB4 : Hid (Below w.heap.size w w4) := chainB HB3.out b4
  clear hM3 b4 k11 k12 k13 k14 j11 j12 j13 j14
  go_wp2_with fail
  go_ret
  exact ⟨rfl, HB4.out⟩
end Go.Proofs.YthkmeneepkaedaaGreatDoor
