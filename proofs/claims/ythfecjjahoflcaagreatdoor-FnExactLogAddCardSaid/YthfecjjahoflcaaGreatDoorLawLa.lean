/-
  The laws' helpers for a log and a row: sizes, marks, what stays, an answer put into a box that was made at any time.
-/
import Derived.Test.YthfecjjahoflcaaGreatDoorRows
import Derived.Test.YthfecjjahoflcaaGreatDoorBytesDigMathTreeMath
import Derived.Test.YthfecjjahoflcaaGreatDoorSlASlBBxKOwnSTakesLTillTwo
import Derived.Test.YthfecjjahoflcaaGreatDoorJoinedPutTextFldMathFldGShwK
import Derived.Test.YthfecjjahoflcaaGreatDoorOneKFldBlkFldRiseScanMathGetValGetTxtNumMathFldRdNumFromTmbMath
import Derived.Test.YthfecjjahoflcaaGreatDoorLgMathLgAtKRwBlkLawF
import Derived.Test.YthfecjjahoflcaaGreatDoorLawFMLawFXTakesLawSG
import Derived.Test.YthfecjjahoflcaaGreatDoorLawFRLawSLawM
import Derived.Test.YthfecjjahoflcaaGreatDoorLawLgLawLh
import Derived.Test.YthfecjjahoflcaaGreatDoorLawLzLawMGLawLm
import Derived.Test.YthfecjjahoflcaaGreatDoorLawLoLawLqLgAnsLgRtLtMathLawLt
import Derived.Test.YthfecjjahoflcaaGreatDoorLawLkRowOpsLgO
import Derived.Handy
import Derived.WalkSpells
import Derived.OwnWalk
namespace Go.Proofs.YthfecjjahoflcaaGreatDoor
open Go.RowKit Go.Lib
set_option linter.unusedVariables false
set_option maxRecDepth 20000

set_option maxHeartbeats 2000000 in
theorem szLogU_any (q : Option Addr) (cq : Nat) (rs : List Rw) (p : Option Addr) (cp : Nat) (lv : List ByteArray) (now : Int) (w : World) (hq : RwAt w q rs) (hn : rs.length ≤ 9223372036854775807) (hcq : rs.length ≤ cq) (hs : RwsBig rs) (hp : TxtAt w p lv) (hl : lv.length ≤ 9223372036854775807) (hcp : lv.length ≤ cp) (hz : ∀ x ∈ lv, x.size ≤ 9223372036854775807) :
    Calls Tryz.prog 5 #[.agg #[.slice q rs.length cq, .slice p lv.length cp, .int .i64 now], .int .i64 1048576] w fun e w' => (∃ r : Int, e = .returned (.int .i64 r) ∧ (r = -1 ∨ (0 ≤ r ∧ r + rs.length + fsN rs + lv.length ≤ 1048576))) ∧ Below w.heap.size w w' := by
  obtain ⟨W1, hW1⟩ : ∃ W1, W1 = w.alloc (.cells #[.slice q rs.length cq, .slice p lv.length cp, .int .i64 now] 25) := ⟨_, rfl⟩
  have HW1 : Hid (W1 = w.alloc (.cells #[.slice q rs.length cq, .slice p lv.length cp, .int .i64 now] 25)) := hW1
  have B1 : Hid (Below w.heap.size w W1) := by rw [hW1]; exact (Below.refl _ _).alloc (Nat.le_refl _) _
  have K1 : Hid (Bxs W1 w.heap.size 25 #[.slice q rs.length cq, .slice p lv.length cp, .int .i64 now]) := by rw [hW1]; exact Bxs.new _ _ _
  have hR := szRowsZ_any q cq rs W1 (hq.below B1.out) hn hcq hs
  have HT : Hid (∀ (l0 : Int), 0 ≤ l0 → l0 ≤ 1048576 → ∀ x, Below W1.heap.size W1 x → Calls Tryz.prog 21 #[.slice p lv.length cp, .int .i64 l0] x fun e w' => (∃ r : Int, e = .returned (.int .i64 r) ∧ (r = -1 ∨ (0 ≤ r ∧ r + lv.length ≤ l0))) ∧ w' = x) := fun l0 a b x hb => szGz_any l0 a b p cp lv x ((hp.below B1.out).below hb) hl hcp hz
  clear hW1 hq hp hs hz
  go_enter Tryz.func5, Tryz.ntmps5
  go_wp2_with fail
  rw [← HW1.out]
  refine hR.mono ?_
  rintro e y ⟨⟨r, rfl, hr⟩, by_⟩
  clear hR
  have x1 := (K1.out.below by_).cell 1
  rcases hr with rfl | ⟨r0, r1⟩
  · go_wp2_with fail
    go_ret
    exact ⟨⟨_, rfl, .inl rfl⟩, chainB B1.out by_⟩
  · have dr : decide (r < 0) = false := decide_eq_false (by omega)
    have hT := HT.out r r0 (by omega) y by_
    go_wp2_with fail
    refine hT.mono ?_
    rintro e y2 ⟨⟨r', rfl, hr'⟩, rfl⟩
    clear hT HT
    rcases hr' with rfl | ⟨r4, r5⟩
    · go_wp2_with fail
      go_ret
      exact ⟨⟨_, rfl, .inl rfl⟩, chainB B1.out by_⟩
    · have dr' : decide (r' < 0) = false := decide_eq_false (by omega)
      go_wp2_with fail
      go_ret
      exact ⟨⟨_, rfl, .inr ⟨r4, by omega⟩⟩, chainB B1.out by_⟩
set_option maxHeartbeats 2000000 in
theorem markLogB_any (g : Nat) (xs : List (Rw × Nat)) (gl : Nat) (lv : List ByteArray) (now : Int) (s : Nat) (w : World) (h : LgB w g xs gl lv) (hs1 : 1 ≤ s) (hn : xs.length ≤ 1048576) (hl : lv.length ≤ 1048576) (hb : s + 2 * xs.length + 5 * fsN (xs.map (·.1)) + lv.length ≤ 16777210) :
    Calls Tryz.prog 14 #[.agg #[.slice (some ⟨g, 0, none⟩) xs.length xs.length, .slice (some ⟨gl, 0, none⟩) lv.length lv.length, .int .i64 now], .int .i64 (s : Int)] w fun e w' => (∃ r : Nat, e = .returned (.int .i64 (r : Int)) ∧ s ≤ r ∧ r ≤ s + 2 * xs.length + 5 * fsN (xs.map (·.1)) + lv.length) ∧ But (lgS g xs gl) w w' := by
  obtain ⟨W1, hW1⟩ : ∃ W1, W1 = w.alloc (.cells #[.slice (some ⟨g, 0, none⟩) xs.length xs.length, .slice (some ⟨gl, 0, none⟩) lv.length lv.length, .int .i64 now] 33) := ⟨_, rfl⟩
  have HW1 : Hid (W1 = w.alloc (.cells #[.slice (some ⟨g, 0, none⟩) xs.length xs.length, .slice (some ⟨gl, 0, none⟩) lv.length lv.length, .int .i64 now] 33)) := hW1
  have B1 : Below w.heap.size w W1 := by rw [hW1]; exact (Below.refl _ _).alloc (Nat.le_refl _) _
  have K1 : Hid (Bxs W1 w.heap.size 33 #[.slice (some ⟨g, 0, none⟩) xs.length xs.length, .slice (some ⟨gl, 0, none⟩) lv.length lv.length, .int .i64 now]) := by rw [hW1]; exact Bxs.new _ _ _
  have hL1 := h.below B1
  have hR := markRowS_any (fun k => k = g ∨ ∃ x ∈ xs, k = x.2) g xs s W1 hL1.rw hs1 (.inl rfl) (fun x hx => .inr ⟨x, hx, rfl⟩) hn (by omega)
  have HB1 : Hid (But (lgS g xs gl) w W1) := (But.refl _ _).more B1
  have HLF : Hid (BlkS W1 gl lv) := hL1.lf
  have HG : Hid (gl ≠ g ∧ ∀ x ∈ xs, gl ≠ x.2) := ⟨by have := h.gg; omega, fun x hx => by have := h.gx x hx; omega⟩
  have HLt : Hid (g < w.heap.size ∧ ∀ x ∈ xs, x.2 < w.heap.size) := ⟨h.rw.lt, fun x hx => Bxs.lt (h.rw.fld x hx)⟩
  have x0 := K1.out.cell 0
  rw [HW1.out] at x0
  clear hW1 h hL1 B1
  go_enter Tryz.func14, Tryz.ntmps14
  go_wp2_with fail
  rw [← HW1.out]
  refine hR.mono ?_
  rintro e y ⟨⟨r, rfl, r0, r1⟩, hbut⟩
  clear hR x0 HW1
  have K2 : Bxs y w.heap.size 33 #[.slice (some ⟨g, 0, none⟩) xs.length xs.length, .slice (some ⟨gl, 0, none⟩) lv.length lv.length, .int .i64 now] := K1.out.but hbut (by
    rintro (e | ⟨x, hx, e⟩)
    · have := HLt.out.1; omega
    · have := HLt.out.2 x hx; omega)
  have x1 := K2.cell 1
  have hLF : BlkS y gl lv := Bxs.but HLF.out hbut (by
    rintro (e | ⟨x, hx, e⟩)
    · exact HG.out.1 e
    · exact HG.out.2 x hx e)
  have HR : Hid (s ≤ r ∧ r ≤ s + 2 * xs.length + 5 * fsN (xs.map (·.1))) := ⟨r0, r1⟩
  have hM := markG_any r (by omega) 0 _ lv y (hLF.own 0 (Nat.zero_le _) (by unfold maxLen; omega)) (by omega)
  have HB2 : Hid (But (lgS g xs gl) w y) := ⟨hbut.os.trans HB1.out.os, hbut.tape.trans HB1.out.tape, hbut.output.trans HB1.out.output, Nat.le_trans HB1.out.size hbut.size, fun q hq hnq => (hbut.block q (Nat.lt_of_lt_of_le hq HB1.out.size) (fun e => hnq (by rcases e with e | e; exact .inl e; exact .inr (.inr e)))).trans (HB1.out.block q hq hnq)⟩
  clear hbut K2 hLF K1 HLF HB1
  go_wp2_with fail
  refine hM.mono ?_
  rintro e y2 ⟨rfl, -, hg⟩
  have HB3 : Hid (But (lgS g xs gl) w y2) := HB2.out.grown hg (.inr (.inl rfl))
  clear hM hg HB2
  go_wp2_with fail
  go_ret
  exact ⟨⟨lv.length + r, by simp, by have := HR.out; omega, by have := HR.out; omega⟩, HB3.out⟩
set_option maxHeartbeats 1000000 in
theorem markRowK_any (s : Nat) (hs : 1 ≤ s) (kd : ByteArray) (at_ : Int) (base : Nat) (p : Option Addr) (c : Nat) (l : List Fld) (w : World) (o : w.ownsRow base 87 5 (.slice p l.length c) l.length (fldRow l)) (hl : s + 5 * l.length ≤ 16777210) :
    Calls Tryz.prog 15 #[.agg #[.string kd, .int .i64 at_, .slice p l.length c], .int .i64 (s : Int)] w fun e w' => e = .returned (.int .i64 (5 * (l.length : Int) + s)) ∧ w.grownBy w' (Value.slice p l.length c).ownBlock := by
  obtain ⟨W1, hW1⟩ : ∃ W1, W1 = w.alloc (.cells #[.string kd, .int .i64 at_, .slice p l.length c] 40) := ⟨_, rfl⟩
  have HW1 : Hid (W1 = w.alloc (.cells #[.string kd, .int .i64 at_, .slice p l.length c] 40)) := hW1
  have HG : Hid (∀ w', W1.grownBy w' (Value.slice p l.length c).ownBlock → w.grownBy w' (Value.slice p l.length c).ownBlock) := by rw [hW1]; exact fun w' g => ⟨g.os, g.tape, g.output, by have := g.size; simp at this; omega, fun b hb hn => (g.block b (by simp; omega) hn).trans (Below.heap_alloc _ _ _ hb)⟩
  have H1 := markF_any s hs base (.slice p l.length c) l W1 (by rw [hW1]; exact o.alloc _) (by omega)
  clear hW1 o
  go_enter Tryz.func15, Tryz.ntmps15
  go_wp2_with fail
  rw [← HW1.out]
  refine H1.mono ?_
  rintro e w2 ⟨rfl, q1, g1⟩
  have HP : Hid (w.grownBy w2 (Value.slice p l.length c).ownBlock) := HG.out w2 g1
  clear q1 g1 H1
  go_wp2_with fail
  go_ret
  exact ⟨rfl, HP.out⟩

/-- What stays: the arguments' boxes, two boxes of answers, a log of its own. -/
structure LaK (w : World) (A R : Array Value) (E1 E8 : Nat) (c1 c8 : Array Value) (xs : List (Rw × Value)) (lv : List ByteArray) (v1 v2 : Value) (x : World) : Prop where
  bel : Below w.heap.size w x
  ba : Bxs x w.heap.size 25 A
  br : Bxs x (w.heap.size + 1) 28 R
  b1 : Bxs x E1 35 c1
  b8 : Bxs x E8 35 c8
  lw : LgO w.heap.size xs lv v1 v2 x
section
variable {w x y : World} {A R c1 c8 : Array Value} {E1 E8 : Nat} {xs : List (Rw × Value)} {lv : List ByteArray} {v1 v2 : Value}
theorem LaK.below (h : LaK w A R E1 E8 c1 c8 xs lv v1 v2 x) (hb : Below x.heap.size x y) : LaK w A R E1 E8 c1 c8 xs lv v1 v2 y := ⟨chainB h.bel hb, h.ba.below hb, h.br.below hb, h.b1.below hb, h.b8.below hb, h.lw.below hb⟩
theorem LaK.but {S : Nat → Prop} (h : LaK w A R E1 E8 c1 c8 xs lv v1 v2 x) (k : But S x y) (hS : ∀ q, S q → w.heap.size + 1 < q ∧ q ≠ E1 ∧ q ≠ E8 ∧ ¬ lqS xs v1 v2 q) : LaK w A R E1 E8 c1 c8 xs lv v1 v2 y :=
  ⟨k.below h.bel h.bel.size (fun q hq => by have := (hS q hq).1; omega), h.ba.but k (fun e => by have := (hS _ e).1; omega), h.br.but k (fun e => by have := (hS _ e).1; omega), h.b1.but k (fun e => (hS _ e).2.1 rfl), h.b8.but k (fun e => (hS _ e).2.2.1 rfl), h.lw.but k (fun q hq hs => (hS q hs).2.2.2 hq)⟩
end
/-- A LogOut that was put into a box of its own, made at some time behind the world x. -/
structure PuL (x : World) (xs : List (Rw × Value)) (lv : List ByteArray) (v1 v2 : Value) (NW CC : Int) (Eb : Nat) (wx : World) : Prop where
  eb : x.heap.size ≤ Eb
  box : Bxs wx Eb 35 #[v1, v2, .int .i64 NW, .int .i64 CC]
  lg : LgO x.heap.size xs lv v1 v2 wx
  bel : Below x.heap.size x wx
theorem PuL.put {x y : World} {xs : List (Rw × Value)} {lv : List ByteArray} {v1 v2 u0 u1 u2 u3 : Value} {NW CC : Int} {Eb : Nat} (k : Bxs y Eb 35 #[u0, u1, u2, u3]) (eb : x.heap.size ≤ Eb) (lg : LgO x.heap.size xs lv v1 v2 y) (bel : Below x.heap.size x y) :
    PuL x xs lv v1 v2 NW CC Eb ((((y.setCell ⟨Eb, 0, none⟩ v1).setCell ⟨Eb, 1, none⟩ v2).setCell ⟨Eb, 2, none⟩ (.int .i64 NW)).setCell ⟨Eb, 3, none⟩ (.int .i64 CC)) :=
  ⟨eb, (((k.set 0 _).set 1 _).set 2 _).set 3 _, (((lg.box k (by decide) (by decide) (by decide) (set_grw y _ 0 v1)).box (k.set 0 v1) (by decide) (by decide) (by decide) (set_grw _ _ 1 v2)).box ((k.set 0 v1).set 1 v2) (by decide) (by decide) (by decide) (set_grw _ _ 2 _)).box (((k.set 0 v1).set 1 v2).set 2 _) (by decide) (by decide) (by decide) (set_grw _ _ 3 _), below_set4 bel eb _ _ _ _⟩
end Go.Proofs.YthfecjjahoflcaaGreatDoor
