/-
  Parts of one proof, laid as one text: LawA, SentOf; what each says stands at its head.
-/
import Derived.Test.YtkhffoailfnepakGreatDoorRows
import Derived.Test.YtkhffoailfnepakGreatDoorBytesDigMath
import Derived.Test.YtkhffoailfnepakGreatDoorSlASlBOwnSDskMath
import Derived.Test.YtkhffoailfnepakGreatDoorPuLeLawM
import Derived.Test.YtkhffoailfnepakGreatDoorLawMGLawPM
import Derived.Test.YtkhffoailfnepakGreatDoorAppSStepAppDskA
import Derived.Test.YtkhffoailfnepakGreatDoorLawP
import Derived.Test.YtkhffoailfnepakGreatDoorLawD
import Derived.Test.YtkhffoailfnepakGreatDoorLawDMLawDG
import Derived.Handy
import Derived.WalkSpells
import Derived.OwnWalk
import Derived.Test.YtkhffoailfnepakGreatDoorGetValAsDAs2CodeOfGetNumI
import Derived.Test.YtkhffoailfnepakGreatDoorIsEImplAC
import Derived.Stop.LaidErr
import Derived.LaidHandle
/-
  What the laws' own helpers answer for AreaOuts: eqAreaOut, markAreaOut, heldAreaOut.
  Conditions: the two rows are the call's own, in two blocks.
-/
namespace Go.Proofs.YtkhffoailfnepakGreatDoor
open Go.RowKit Go.Lib
set_option linter.unusedVariables false
set_option maxRecDepth 20000

theorem Bxs.five {w : World} {g : Nat} {T : TypeId} {a b c d e : Value} (h : Bxs w g T #[a, b, c, d, e]) : w.cell? ⟨g, 0, none⟩ = some a ∧ w.cell? ⟨g, 1, none⟩ = some b ∧ w.cell? ⟨g, 2, none⟩ = some c ∧ w.cell? ⟨g, 3, none⟩ = some d ∧ w.cell? ⟨g, 4, none⟩ = some e := ⟨h.cell 0, h.cell 1, h.cell 2, h.cell 3, h.cell 4⟩
theorem eqAreaOut_any (t : ByteArray) (gn c : Int) (p1 p2 q1 q2 : Option Addr) (c1 c2 d1 d2 : Nat) (ss : List ByteArray) (ps : List Pnd) (w : World) (h1 : TxtAt w p1 ss) (h2 : PndAt w p2 ps) (g1 : TxtAt w q1 ss) (g2 : PndAt w q2 ps) (n1 : ss.length ≤ 1048576) (n2 : ps.length ≤ 1048576) (m1 : ss.length ≤ c1) (m2 : ps.length ≤ c2) (m3 : ss.length ≤ d1) (m4 : ps.length ≤ d2) :
    Calls Tryz.prog 8 #[.agg #[.slice p1 ss.length c1, .slice p2 ps.length c2, .string t, .int .i64 gn, .int .i64 c], .agg #[.slice q1 ss.length d1, .slice q2 ps.length d2, .string t, .int .i64 gn, .int .i64 c]] w fun e w' => e = .returned (.bool true) ∧ Below w.heap.size w w' := by
  obtain ⟨W0, hW0⟩ : ∃ W0, W0 = w.alloc (.cells #[.slice p1 ss.length c1, .slice p2 ps.length c2, .string t, .int .i64 gn, .int .i64 c] 31) := ⟨_, rfl⟩
  have hz : W0.heap.size = w.heap.size + 1 := by rw [hW0]; simp
  obtain ⟨W1, hW1⟩ : ∃ W1, W1 = W0.alloc (.cells #[.slice q1 ss.length d1, .slice q2 ps.length d2, .string t, .int .i64 gn, .int .i64 c] 31) := ⟨_, rfl⟩
  have HW1 : Hid (W1 = (w.alloc (.cells #[.slice p1 ss.length c1, .slice p2 ps.length c2, .string t, .int .i64 gn, .int .i64 c] 31)).alloc (.cells #[.slice q1 ss.length d1, .slice q2 ps.length d2, .string t, .int .i64 gn, .int .i64 c] 31)) := by rw [hW1, hW0]; exact rfl
  have hB0 : Below w.heap.size w W0 := by rw [hW0]; exact (Below.refl _ _).alloc (Nat.le_refl _) _
  have B1 : Hid (Below w.heap.size w W1) := by rw [hW1]; exact alB hB0 _
  have X1 : Hid (Bxs W1 w.heap.size 31 #[.slice p1 ss.length c1, .slice p2 ps.length c2, .string t, .int .i64 gn, .int .i64 c]) := by rw [hW1]; refine Bxs.alloc ?_ _; rw [hW0]; exact Bxs.new _ _ _
  have X2 : Hid (Bxs W1 (w.heap.size + 1) 31 #[.slice q1 ss.length d1, .slice q2 ps.length d2, .string t, .int .i64 gn, .int .i64 c]) := by rw [hW1, ← hz]; exact Bxs.new _ _ _
  have hE := eqDisk_any p1 p2 q1 q2 c1 c2 d1 d2 ss ps W1 (h1.below B1.out) (h2.below B1.out) (g1.below B1.out) (g2.below B1.out) n1 n2 m1 m2 m3 m4
  clear hW1 hW0 h1 h2 g1 g2 hB0 hz
  go_enter Tryz.func8, Tryz.ntmps8
  go_wp2_with fail
  rw [← HW1.out]
  refine hE.mono ?_
  rintro e w1 ⟨rfl, b1⟩
  have x1 : w1.cell? ⟨w.heap.size, 2, none⟩ = some (.string t) := (X1.out.below b1).cell 2
  have x2 : w1.cell? ⟨w.heap.size, 3, none⟩ = some (.int .i64 gn) := (X1.out.below b1).cell 3
  have x5 : w1.cell? ⟨w.heap.size, 4, none⟩ = some (.int .i64 c) := (X1.out.below b1).cell 4
  have x3 : w1.cell? ⟨w.heap.size + 1, 2, none⟩ = some (.string t) := (X2.out.below b1).cell 2
  have x4 : w1.cell? ⟨w.heap.size + 1, 3, none⟩ = some (.int .i64 gn) := (X2.out.below b1).cell 3
  have x6 : w1.cell? ⟨w.heap.size + 1, 4, none⟩ = some (.int .i64 c) := (X2.out.below b1).cell 4
  have b1 := chainB B1.out b1
  clear hE X1 X2
  go_wp2_with fail
  go_ret
  exact ⟨rfl, b1⟩
set_option maxHeartbeats 1000000 in
theorem markAreaOut_any (t : ByteArray) (gn c : Int) (base : Nat) (p1 p2 : Option Addr) (c1 c2 : Nat) (ss : List ByteArray) (ps : List Pnd) (w : World) (o1 : w.ownsRow base 9 1 (.slice p1 ss.length c1) ss.length (strRow ss)) (o2 : w.ownsRow base 71 2 (.slice p2 ps.length c2) ps.length (pndRow ps)) (hne : (Value.slice p1 ss.length c1).ownBlock = none ∨ (Value.slice p1 ss.length c1).ownBlock ≠ (Value.slice p2 ps.length c2).ownBlock) (n1 : ss.length ≤ 1048576) (n2 : ps.length ≤ 1048576) :
    Calls Tryz.prog 11 #[.agg #[.slice p1 ss.length c1, .slice p2 ps.length c2, .string t, .int .i64 gn, .int .i64 c], .int .i64 1] w fun e w' => e = .returned (.int .i64 (2 * (ps.length : Int) + ((ss.length : Int) + 1))) ∧ w'.ownsRow base 9 1 (.slice p1 ss.length c1) ss.length (strRow (marksN 1 ss.length)) ∧ w'.ownsRow base 71 2 (.slice p2 ps.length c2) ps.length (pndRow (mpN (ss.length + 1) ps.length)) ∧
      ∃ wm, w.grownBy wm (Value.slice p1 ss.length c1).ownBlock ∧ wm.grownBy w' (Value.slice p2 ps.length c2).ownBlock := by
  obtain ⟨W1, hW1⟩ : ∃ W1, W1 = w.alloc (.cells #[.slice p1 ss.length c1, .slice p2 ps.length c2, .string t, .int .i64 gn, .int .i64 c] 31) := ⟨_, rfl⟩
  have HW1 : Hid (W1 = w.alloc (.cells #[.slice p1 ss.length c1, .slice p2 ps.length c2, .string t, .int .i64 gn, .int .i64 c] 31)) := hW1
  have H1 := markDisk_any base p1 p2 c1 c2 ss ps W1 (by rw [hW1]; exact o1.alloc _) (by rw [hW1]; exact o2.alloc _) hne n1 n2
  have HG : Hid (∀ wm, W1.grownBy wm (Value.slice p1 ss.length c1).ownBlock → w.grownBy wm (Value.slice p1 ss.length c1).ownBlock) := by
    rw [hW1]
    intro wm h
    exact ⟨h.os, h.tape, h.output, by have := h.size; simp at this; omega, fun b hb hn => (h.block b (by simp; omega) hn).trans (Below.heap_alloc _ _ _ hb)⟩
  clear hW1 o1 o2 hne
  go_enter Tryz.func11, Tryz.ntmps11
  go_wp2_with fail
  rw [← HW1.out]
  refine H1.mono ?_
  rintro e w2 ⟨rfl, q1, q2, wm, g1, g2⟩
  have Q : Hid _ := q1
  have Q2 : Hid _ := q2
  have G1 : Hid _ := g1
  have G2 : Hid _ := g2
  clear q1 q2 g1 g2 H1
  go_wp2_with fail
  go_ret
  exact ⟨rfl, Q.out, Q2.out, wm, HG.out _ G1.out, G2.out⟩

set_option maxHeartbeats 1000000 in
theorem heldAreaOut_any (t : ByteArray) (gn c : Int) (p1 p2 : Option Addr) (c1 c2 n1 n2 : Nat) (w : World) (h1 : TxtAt w p1 (marksN 1 n1)) (h2 : PndAt w p2 (mpN (n1 + 1) n2)) (l1 : n1 ≤ 1048576) (l2 : n2 ≤ 1048576) (m1 : n1 ≤ c1) (m2 : n2 ≤ c2) :
    Calls Tryz.prog 12 #[.agg #[.slice p1 n1 c1, .slice p2 n2 c2, .string t, .int .i64 gn, .int .i64 c], .int .i64 1] w fun e w' => e = .returned (.int .i64 (2 * (n2 : Int) + ((n1 : Int) + 1))) ∧ Below w.heap.size w w' := by
  obtain ⟨W1, hW1⟩ : ∃ W1, W1 = w.alloc (.cells #[.slice p1 n1 c1, .slice p2 n2 c2, .string t, .int .i64 gn, .int .i64 c] 31) := ⟨_, rfl⟩
  have HW1 : Hid (W1 = w.alloc (.cells #[.slice p1 n1 c1, .slice p2 n2 c2, .string t, .int .i64 gn, .int .i64 c] 31)) := hW1
  have B1 : Hid (Below w.heap.size w W1) := by rw [hW1]; exact (Below.refl _ _).alloc (Nat.le_refl _) _
  have H1 := heldDisk_any p1 p2 c1 c2 n1 n2 W1 (h1.below B1.out) (h2.below B1.out) l1 l2 m1 m2
  clear hW1 h1 h2
  have d2 : decide (2 * (n2 : Int) + ((n1 : Int) + 1) < 0) = false := decide_eq_false (by omega)
  go_enter Tryz.func12, Tryz.ntmps12
  go_wp2_with fail
  rw [← HW1.out]
  refine H1.mono ?_
  rintro e w2 ⟨rfl, b2⟩
  have b2 := chainB B1.out b2
  clear H1
  go_wp2_with fail
  go_ret
  exact ⟨rfl, b2⟩
end Go.Proofs.YtkhffoailfnepakGreatDoor
/-
  What the listed variables give a walk: errors.errorType, and the four sentinels of the area, four different pointers.
-/
namespace Go.Proofs.YtkhffoailfnepakGreatDoor
open Go.RowKit
set_option linter.unusedVariables false

theorem et5 : Tryz.prog.globalNamed "errors.errorType" = some 4 := by kernel_rfl
theorem rt5 : (Tryz.prog.cutTypes.find? (·.1 == "internal/reflectlite.rtype")).map (·.2) = some 124 := by kernel_rfl
theorem oneRow5 : ((List.range 191).filter fun t => Tryz.prog.rowNamed t [101, 114, 114, 111, 114]) = [59] := by kernel_rfl
theorem size5 : Tryz.prog.types.size = 191 := by kernel_rfl
theorem star5 : "*" ++ "errors.errorString" = "*errors.errorString" := by decide
theorem rowEs (u : TypeId) (h : Tryz.prog.typeName? 3 u = some "*errors.errorString") : u = 159 :=
  typeName_ptr_named (nm := "errors.errorString") (by rw [star5]; kernel_rfl) (by kernel_rfl) (by decide) u (by rw [star5]; exact h)
theorem g51 : Tryz.prog.globalNamed "loop.example/g00633/impl.errDiskForm" = some 1 := by kernel_rfl
theorem g52 : Tryz.prog.globalNamed "loop.example/g00633/impl.errNoHead" = some 2 := by kernel_rfl
theorem g53 : Tryz.prog.globalNamed "loop.example/g00633/impl.errLacking" = some 3 := by kernel_rfl
theorem g54 : Tryz.prog.globalNamed "loop.example/g00633/impl.errNoRoom" = some 0 := by kernel_rfl
theorem t51 : (Tryz.prog.globals[1]?).map (·.type) = some 59 := by kernel_rfl
theorem t52 : (Tryz.prog.globals[2]?).map (·.type) = some 59 := by kernel_rfl
theorem t53 : (Tryz.prog.globals[3]?).map (·.type) = some 59 := by kernel_rfl
theorem t54 : (Tryz.prog.globals[0]?).map (·.type) = some 59 := by kernel_rfl
theorem cellsEs : Tryz.prog.cellsOf 179 = 1 := by kernel_rfl
theorem cellsSt : Tryz.prog.cellsOf 9 = 1 := by kernel_rfl
theorem sentinels4 {P : Program} {n0 n1 n2 n3 nm : String} {x0 x1 x2 x3 : List UInt8} {W : World} {g0 g1 g2 g3 : Nat} {ti tp te ts : TypeId} {ms : Array (String × TypeId)} {f : Field}
    (h : laidMet P [(n0, .iface nm (.ptr (.agg [.lit (.string x0)]))), (n1, .iface nm (.ptr (.agg [.lit (.string x1)]))), (n2, .iface nm (.ptr (.agg [.lit (.string x2)]))), (n3, .iface nm (.ptr (.agg [.lit (.string x3)])))] W)
    (hg0 : P.globalNamed n0 = some g0) (ht0 : (P.globals[g0]?).map (·.type) = some ti) (hg1 : P.globalNamed n1 = some g1) (ht1 : (P.globals[g1]?).map (·.type) = some ti) (hg2 : P.globalNamed n2 = some g2) (ht2 : (P.globals[g2]?).map (·.type) = some ti) (hg3 : P.globalNamed n3 = some g3) (ht3 : (P.globals[g3]?).map (·.type) = some ti)
    (hi : P.underlying ti = some (.interface ms)) (hrow : ∀ u, P.typeName? 3 u = some nm → u = tp)
    (hp : P.underlying tp = some (.pointer te)) (he : P.underlying te = some (.struct #[f])) (hft : f.type = ts) (hfo : f.offset = 0) (hs : P.underlying ts = some .string) (hc : P.cellsOf te = 1) (hcs : P.cellsOf ts = 1) :
    ∃ a0 a1 a2 a3 : Addr, (W.cell? ⟨g0, 0, none⟩ = some (.iface tp (.pointer (some a0))) ∧ W.cell? ⟨g1, 0, none⟩ = some (.iface tp (.pointer (some a1))) ∧ W.cell? ⟨g2, 0, none⟩ = some (.iface tp (.pointer (some a2))) ∧ W.cell? ⟨g3, 0, none⟩ = some (.iface tp (.pointer (some a3)))) ∧
      ((∃ c t, W.heap[a0.block]? = some (.cells c t (0, 0))) ∧ (∃ c t, W.heap[a1.block]? = some (.cells c t (0, 0))) ∧ (∃ c t, W.heap[a2.block]? = some (.cells c t (0, 0))) ∧ ∃ c t, W.heap[a3.block]? = some (.cells c t (0, 0))) ∧
      a0 ≠ a1 ∧ a0 ≠ a2 ∧ a0 ≠ a3 ∧ a1 ≠ a2 ∧ a1 ≠ a3 ∧ a2 ≠ a3 := by
  obtain ⟨ps, ⟨g0', t0, cs0, f0, p0, q0, hg0', ht0', hv0, hd0, ⟨g1', t1, cs1, f1, p1, q1, hg1', ht1', hv1, hd1, ⟨g2', t2, cs2, f2, p2, q2, hg2', ht2', hv2, hd2, ⟨g3', t3, cs3, f3, p3, q3, hg3', ht3', hv3, hd3, _, e3⟩, e2⟩, e1⟩, e0⟩, hnd, hrows⟩ := h
  obtain rfl := Option.some.inj (hg0.symm.trans hg0')
  obtain rfl := Option.some.inj (hg1.symm.trans hg1')
  obtain rfl := Option.some.inj (hg2.symm.trans hg2')
  obtain rfl := Option.some.inj (hg3.symm.trans hg3')
  obtain rfl := Option.some.inj (ht0.symm.trans ht0')
  obtain rfl := Option.some.inj (ht1.symm.trans ht1')
  obtain rfl := Option.some.inj (ht2.symm.trans ht2')
  obtain rfl := Option.some.inj (ht3.symm.trans ht3')
  subst e3
  subst e2
  subst e1
  subst e0
  obtain ⟨l0⟩ := cs0
  obtain ⟨l1⟩ := cs1
  obtain ⟨l2⟩ := cs2
  obtain ⟨l3⟩ := cs3
  have ok0 : ∀ u v, l0 = [.iface u v] → Value.okWide P W .any 0 u v := fun u v e => by
    subst e
    exact (hrows g0 0 (by simp [MemPlace.row])).2 u v (by simpa using World.var?_cell hg0' hv0 0)
  have ok1 : ∀ u v, l1 = [.iface u v] → Value.okWide P W .any 0 u v := fun u v e => by
    subst e
    exact (hrows g1 0 (by simp [MemPlace.row])).2 u v (by simpa using World.var?_cell hg1' hv1 0)
  have ok2 : ∀ u v, l2 = [.iface u v] → Value.okWide P W .any 0 u v := fun u v e => by
    subst e
    exact (hrows g2 0 (by simp [MemPlace.row])).2 u v (by simpa using World.var?_cell hg2' hv2 0)
  have ok3 : ∀ u v, l3 = [.iface u v] → Value.okWide P W .any 0 u v := fun u v e => by
    subst e
    exact (hrows g3 0 (by simp [MemPlace.row])).2 u v (by simpa using World.var?_cell hg3' hv3 0)
  obtain ⟨a0, s0, rfl, hc0, -, -, rfl⟩ := errorString_of_trod hi hrow hp he hft hfo hs hc hcs hd0 ok0
  obtain ⟨a1, s1, rfl, hc1, -, -, rfl⟩ := errorString_of_trod hi hrow hp he hft hfo hs hc hcs hd1 ok1
  obtain ⟨a2, s2, rfl, hc2, -, -, rfl⟩ := errorString_of_trod hi hrow hp he hft hfo hs hc hcs hd2 ok2
  obtain ⟨a3, s3, rfl, hc3, -, -, rfl⟩ := errorString_of_trod hi hrow hp he hft hfo hs hc hcs hd3 ok3
  refine ⟨a0, a1, a2, a3, ⟨?_, ?_, ?_, ?_⟩, ⟨(hrows a0.block a0.off (by simp [MemPlace.row])).1, (hrows a1.block a1.off (by simp [MemPlace.row])).1, (hrows a2.block a2.off (by simp [MemPlace.row])).1, (hrows a3.block a3.off (by simp [MemPlace.row])).1⟩, ?_, ?_, ?_, ?_, ?_, ?_⟩
  · simpa using World.var?_cell hg0 hv0 0
  · simpa using World.var?_cell hg1 hv1 0
  · simpa using World.var?_cell hg2 hv2 0
  · simpa using World.var?_cell hg3 hv3 0
  all_goals
    rintro rfl
    simp [MemPlace.row] at hnd
theorem sents_of {W : World} (h : laidMet Tryz.prog [("loop.example/g00633/impl.errDiskForm", Rows.laid_loop_example_g00633_impl_errDiskForm), ("loop.example/g00633/impl.errNoHead", Rows.laid_loop_example_g00633_impl_errNoHead), ("loop.example/g00633/impl.errLacking", Rows.laid_loop_example_g00633_impl_errLacking), ("loop.example/g00633/impl.errNoRoom", Rows.laid_loop_example_g00633_impl_errNoRoom)] W) : ∃ a1 a2 a3 a4, Sents a1 a2 a3 a4 W := by
  unfold Rows.laid_loop_example_g00633_impl_errDiskForm Rows.laid_loop_example_g00633_impl_errNoHead Rows.laid_loop_example_g00633_impl_errLacking Rows.laid_loop_example_g00633_impl_errNoRoom at h
  obtain ⟨a1, a2, a3, a4, ⟨c1, c2, c3, c4⟩, ⟨r1, r2, r3, r4⟩, n12, n13, n14, n23, n24, n34⟩ := sentinels4 h g51 t51 g52 t52 g53 t53 g54 t54 Tryz.underlying59 rowEs Tryz.underlying159 Tryz.underlying179 rfl rfl Tryz.underlying9 cellsEs cellsSt
  exact ⟨a1, a2, a3, a4, c1, c2, c3, c4, r1, r2, r3, r4, n12, n13, n14, n23, n24, n34⟩
theorem laid5_of {W : World} (h : laidMetH Tryz.prog [("errors.errorType", Rows.laid_errors_errorType), ("loop.example/g00633/impl.errDiskForm", Rows.laid_loop_example_g00633_impl_errDiskForm), ("loop.example/g00633/impl.errNoHead", Rows.laid_loop_example_g00633_impl_errNoHead), ("loop.example/g00633/impl.errLacking", Rows.laid_loop_example_g00633_impl_errLacking), ("loop.example/g00633/impl.errNoRoom", Rows.laid_loop_example_g00633_impl_errNoRoom)] W) : Laid W ∧ ∃ a1 a2 a3 a4, Sents a1 a2 a3 a4 W := by
  have h' : laidMet Tryz.prog [("loop.example/g00633/impl.errDiskForm", Rows.laid_loop_example_g00633_impl_errDiskForm), ("loop.example/g00633/impl.errNoHead", Rows.laid_loop_example_g00633_impl_errNoHead), ("loop.example/g00633/impl.errLacking", Rows.laid_loop_example_g00633_impl_errLacking), ("loop.example/g00633/impl.errNoRoom", Rows.laid_loop_example_g00633_impl_errNoRoom)] W ∧ handlesMet Tryz.prog [("errors.errorType", Rows.laid_errors_errorType)] W := h
  refine ⟨?_, sents_of h'.1⟩
  obtain ⟨name, u, ty, e1, e2, e3, e4, e5⟩ := h'.2 _ (List.mem_singleton.2 rfl)
  have en : name = [101, 114, 114, 111, 114] := (Option.some.inj e1).symm
  subst en
  obtain rfl := Option.some.inj (rt5.symm.trans e2)
  have hm : ty ∈ (List.range 191).filter fun t => Tryz.prog.rowNamed t [101, 114, 114, 111, 114] := List.mem_filter.2 ⟨List.mem_range.2 (by rw [← size5]; exact e3), e4⟩
  rw [oneRow5] at hm
  obtain rfl := List.mem_singleton.1 hm
  have hh : typeHandle Tryz.prog 59 = .pointer (some ⟨5, 59, none⟩) := by kernel_rfl
  rw [hh] at e5
  show W.cell? ⟨4, 0, none⟩ = _
  simpa using World.var?_cell et5 e5 0
theorem four_vars {H : Type} {enc : TypeId × Value → H} {P : Program} {w : World} {sp : Nat → Bool} {n0 n1 n2 n3 : String} {gs : List (DataW H)} {ps : List MemPlace} (h : DataW.TrodVars enc P w sp [n0, n1, n2, n3] gs ps) : ∃ d0 d1 d2 d3, gs = [d0, d1, d2, d3] := by
  cases gs with
  | nil => exact h.elim
  | cons d0 gs =>
  obtain ⟨_, _, _, _, _, _, _, _, _, _, h, _⟩ := h
  cases gs with
  | nil => exact h.elim
  | cons d1 gs =>
  obtain ⟨_, _, _, _, _, _, _, _, _, _, h, _⟩ := h
  cases gs with
  | nil => exact h.elim
  | cons d2 gs =>
  obtain ⟨_, _, _, _, _, _, _, _, _, _, h, _⟩ := h
  cases gs with
  | nil => exact h.elim
  | cons d3 gs =>
  obtain ⟨_, _, _, _, _, _, _, _, _, _, h, _⟩ := h
  cases gs with
  | nil => exact ⟨d0, d1, d2, d3, rfl⟩
  | cons _ _ => exact h.elim
end Go.Proofs.YtkhffoailfnepakGreatDoor
