/-
  What the listed variables give a walk: errors.errorType, and the four sentinels of the area, four different pointers.
-/
import Derived.Test.YtkhffoailfnepabGreatDoorRows
import Derived.Test.YtkhffoailfnepabGreatDoorBytesDigMath
import Derived.Test.YtkhffoailfnepabGreatDoorGetValAsDAs2CodeOfGetNumI
import Derived.Test.YtkhffoailfnepabGreatDoorImplAFIsEImplACErrI
import Derived.Stop.LaidErr
import Derived.LaidHandle
namespace Go.Proofs.YtkhffoailfnepabGreatDoor
open Go.RowKit
set_option linter.unusedVariables false

theorem et5 : Tryz.prog.globalNamed "errors.errorType" = some 4 := by kernel_rfl
theorem rt5 : (Tryz.prog.cutTypes.find? (·.1 == "internal/reflectlite.rtype")).map (·.2) = some 127 := by kernel_rfl
theorem oneRow5 : ((List.range 192).filter fun t => Tryz.prog.rowNamed t [101, 114, 114, 111, 114]) = [51] := by kernel_rfl
theorem size5 : Tryz.prog.types.size = 192 := by kernel_rfl
theorem star5 : "*" ++ "errors.errorString" = "*errors.errorString" := by decide
theorem rowEs (u : TypeId) (h : Tryz.prog.typeName? 3 u = some "*errors.errorString") : u = 159 :=
  typeName_ptr_named (nm := "errors.errorString") (by rw [star5]; kernel_rfl) (by kernel_rfl) (by decide) u (by rw [star5]; exact h)
theorem g51 : Tryz.prog.globalNamed "loop.example/g00633/impl.errDiskForm" = some 0 := by kernel_rfl
theorem g52 : Tryz.prog.globalNamed "loop.example/g00633/impl.errNoHead" = some 1 := by kernel_rfl
theorem g53 : Tryz.prog.globalNamed "loop.example/g00633/impl.errLacking" = some 2 := by kernel_rfl
theorem g54 : Tryz.prog.globalNamed "loop.example/g00633/impl.errNoRoom" = some 3 := by kernel_rfl
theorem t51 : (Tryz.prog.globals[0]?).map (·.type) = some 51 := by kernel_rfl
theorem t52 : (Tryz.prog.globals[1]?).map (·.type) = some 51 := by kernel_rfl
theorem t53 : (Tryz.prog.globals[2]?).map (·.type) = some 51 := by kernel_rfl
theorem t54 : (Tryz.prog.globals[3]?).map (·.type) = some 51 := by kernel_rfl
theorem cellsEs : Tryz.prog.cellsOf 180 = 1 := by kernel_rfl
theorem cellsSt : Tryz.prog.cellsOf 9 = 1 := by kernel_rfl
theorem sentinels4 {P : Program} {n0 n1 n2 n3 nm : String} {x0 x1 x2 x3 : List UInt8} {W : World} {g0 g1 g2 g3 : Nat} {ti tp te ts : TypeId} {ms : Array (String × TypeId)} {f : Field}
    (h : laidMet P [(n0, .iface nm (.ptr (.agg [.lit (.string x0)]))), (n1, .iface nm (.ptr (.agg [.lit (.string x1)]))), (n2, .iface nm (.ptr (.agg [.lit (.string x2)]))), (n3, .iface nm (.ptr (.agg [.lit (.string x3)])))] W)
    (hg0 : P.globalNamed n0 = some g0) (ht0 : (P.globals[g0]?).map (·.type) = some ti) (hg1 : P.globalNamed n1 = some g1) (ht1 : (P.globals[g1]?).map (·.type) = some ti) (hg2 : P.globalNamed n2 = some g2) (ht2 : (P.globals[g2]?).map (·.type) = some ti) (hg3 : P.globalNamed n3 = some g3) (ht3 : (P.globals[g3]?).map (·.type) = some ti)
    (hi : P.underlying ti = some (.interface ms)) (hrow : ∀ u, P.typeName? 3 u = some nm → u = tp)
    (hp : P.underlying tp = some (.pointer te)) (he : P.underlying te = some (.struct #[f])) (hft : f.type = ts) (hfo : f.offset = 0) (hs : P.underlying ts = some .string) (hc : P.cellsOf te = 1) (hcs : P.cellsOf ts = 1) :
    ∃ a0 a1 a2 a3 : Addr, (W.cell? ⟨g0, 0, none⟩ = some (.iface tp (.pointer (some a0))) ∧ W.cell? ⟨g1, 0, none⟩ = some (.iface tp (.pointer (some a1))) ∧ W.cell? ⟨g2, 0, none⟩ = some (.iface tp (.pointer (some a2))) ∧ W.cell? ⟨g3, 0, none⟩ = some (.iface tp (.pointer (some a3)))) ∧
      ((∃ c t, W.heap[a0.block]? = some (.cells c t (0, 0))) ∧ (∃ c t, W.heap[a1.block]? = some (.cells c t (0, 0))) ∧ (∃ c t, W.heap[a2.block]? = some (.cells c t (0, 0))) ∧ ∃ c t, W.heap[a3.block]? = some (.cells c t (0, 0))) ∧
      a0 ≠ a1 ∧ a0 ≠ a2 ∧ a0 ≠ a3 ∧ a1 ≠ a2 ∧ a1 ≠ a3 ∧ a2 ≠ a3 := by
  obtain ⟨ps, ⟨g0', t0, cs0, f0, p0, q0, hg0', ht0', hv0, hd0, ⟨g1', t1, cs1, f1, p1, q1, hg1', ht1', hv1, hd1, ⟨g2', t2, cs2, f2, p2, q2, hg2', ht2', hv2, hd2, ⟨g3', t3, cs3, f3, p3, q3, hg3', ht3', hv3, hd3, _, e3⟩, e2⟩, e1⟩, e0⟩, hnd, hrows⟩ := h
  obtain rfl := Option.some.inj (hg0.symm.trans hg0')
  obtain rfl := Option.some.inj (hg1.symm.trans hg1')
  obtain rfl := Option.some.inj (hg2.symm.trans hg2')
  obtain rfl := Option.some.inj (hg3.symm.trans hg3')
  obtain rfl := Option.some.inj (ht0.symm.trans ht0')
  obtain rfl := Option.some.inj (ht1.symm.trans ht1')
  obtain rfl := Option.some.inj (ht2.symm.trans ht2')
  obtain rfl := Option.some.inj (ht3.symm.trans ht3')
  subst e3
  subst e2
  subst e1
  subst e0
  obtain ⟨l0⟩ := cs0
  obtain ⟨l1⟩ := cs1
  obtain ⟨l2⟩ := cs2
  obtain ⟨l3⟩ := cs3
  have ok0 : ∀ u v, l0 = [.iface u v] → Value.okWide P W .any 0 u v := fun u v e => by
    subst e
    exact (hrows g0 0 (by simp [MemPlace.row])).2 u v (by simpa using World.var?_cell hg0' hv0 0)
  have ok1 : ∀ u v, l1 = [.iface u v] → Value.okWide P W .any 0 u v := fun u v e => by
    subst e
    exact (hrows g1 0 (by simp [MemPlace.row])).2 u v (by simpa using World.var?_cell hg1' hv1 0)
  have ok2 : ∀ u v, l2 = [.iface u v] → Value.okWide P W .any 0 u v := fun u v e => by
    subst e
    exact (hrows g2 0 (by simp [MemPlace.row])).2 u v (by simpa using World.var?_cell hg2' hv2 0)
  have ok3 : ∀ u v, l3 = [.iface u v] → Value.okWide P W .any 0 u v := fun u v e => by
    subst e
    exact (hrows g3 0 (by simp [MemPlace.row])).2 u v (by simpa using World.var?_cell hg3' hv3 0)
  obtain ⟨a0, s0, rfl, hc0, -, -, rfl⟩ := errorString_of_trod hi hrow hp he hft hfo hs hc hcs hd0 ok0
  obtain ⟨a1, s1, rfl, hc1, -, -, rfl⟩ := errorString_of_trod hi hrow hp he hft hfo hs hc hcs hd1 ok1
  obtain ⟨a2, s2, rfl, hc2, -, -, rfl⟩ := errorString_of_trod hi hrow hp he hft hfo hs hc hcs hd2 ok2
  obtain ⟨a3, s3, rfl, hc3, -, -, rfl⟩ := errorString_of_trod hi hrow hp he hft hfo hs hc hcs hd3 ok3
  refine ⟨a0, a1, a2, a3, ⟨?_, ?_, ?_, ?_⟩, ⟨(hrows a0.block a0.off (by simp [MemPlace.row])).1, (hrows a1.block a1.off (by simp [MemPlace.row])).1, (hrows a2.block a2.off (by simp [MemPlace.row])).1, (hrows a3.block a3.off (by simp [MemPlace.row])).1⟩, ?_, ?_, ?_, ?_, ?_, ?_⟩
  · simpa using World.var?_cell hg0 hv0 0
  · simpa using World.var?_cell hg1 hv1 0
  · simpa using World.var?_cell hg2 hv2 0
  · simpa using World.var?_cell hg3 hv3 0
  all_goals
    rintro rfl
    simp [MemPlace.row] at hnd
theorem sents_of {W : World} (h : laidMet Tryz.prog [("loop.example/g00633/impl.errDiskForm", Rows.laid_loop_example_g00633_impl_errDiskForm), ("loop.example/g00633/impl.errNoHead", Rows.laid_loop_example_g00633_impl_errNoHead), ("loop.example/g00633/impl.errLacking", Rows.laid_loop_example_g00633_impl_errLacking), ("loop.example/g00633/impl.errNoRoom", Rows.laid_loop_example_g00633_impl_errNoRoom)] W) : ∃ a1 a2 a3 a4, Sents a1 a2 a3 a4 W := by
  unfold Rows.laid_loop_example_g00633_impl_errDiskForm Rows.laid_loop_example_g00633_impl_errNoHead Rows.laid_loop_example_g00633_impl_errLacking Rows.laid_loop_example_g00633_impl_errNoRoom at h
  obtain ⟨a1, a2, a3, a4, ⟨c1, c2, c3, c4⟩, ⟨r1, r2, r3, r4⟩, n12, n13, n14, n23, n24, n34⟩ := sentinels4 h g51 t51 g52 t52 g53 t53 g54 t54 Tryz.underlying51 rowEs Tryz.underlying159 Tryz.underlying180 rfl rfl Tryz.underlying9 cellsEs cellsSt
  exact ⟨a1, a2, a3, a4, c1, c2, c3, c4, r1, r2, r3, r4, n12, n13, n14, n23, n24, n34⟩
theorem laid5_of {W : World} (h : laidMetH Tryz.prog [("errors.errorType", Rows.laid_errors_errorType), ("loop.example/g00633/impl.errDiskForm", Rows.laid_loop_example_g00633_impl_errDiskForm), ("loop.example/g00633/impl.errNoHead", Rows.laid_loop_example_g00633_impl_errNoHead), ("loop.example/g00633/impl.errLacking", Rows.laid_loop_example_g00633_impl_errLacking), ("loop.example/g00633/impl.errNoRoom", Rows.laid_loop_example_g00633_impl_errNoRoom)] W) : Laid W ∧ ∃ a1 a2 a3 a4, Sents a1 a2 a3 a4 W := by
  have h' : laidMet Tryz.prog [("loop.example/g00633/impl.errDiskForm", Rows.laid_loop_example_g00633_impl_errDiskForm), ("loop.example/g00633/impl.errNoHead", Rows.laid_loop_example_g00633_impl_errNoHead), ("loop.example/g00633/impl.errLacking", Rows.laid_loop_example_g00633_impl_errLacking), ("loop.example/g00633/impl.errNoRoom", Rows.laid_loop_example_g00633_impl_errNoRoom)] W ∧ handlesMet Tryz.prog [("errors.errorType", Rows.laid_errors_errorType)] W := h
  refine ⟨?_, sents_of h'.1⟩
  obtain ⟨name, u, ty, e1, e2, e3, e4, e5⟩ := h'.2 _ (List.mem_singleton.2 rfl)
  have en : name = [101, 114, 114, 111, 114] := (Option.some.inj e1).symm
  subst en
  obtain rfl := Option.some.inj (rt5.symm.trans e2)
  have hm : ty ∈ (List.range 192).filter fun t => Tryz.prog.rowNamed t [101, 114, 114, 111, 114] := List.mem_filter.2 ⟨List.mem_range.2 (by rw [← size5]; exact e3), e4⟩
  rw [oneRow5] at hm
  obtain rfl := List.mem_singleton.1 hm
  have hh : typeHandle Tryz.prog 51 = .pointer (some ⟨5, 51, none⟩) := by kernel_rfl
  rw [hh] at e5
  show W.cell? ⟨4, 0, none⟩ = _
  simpa using World.var?_cell et5 e5 0
theorem four_vars {H : Type} {enc : TypeId × Value → H} {P : Program} {w : World} {sp : Nat → Bool} {n0 n1 n2 n3 : String} {gs : List (DataW H)} {ps : List MemPlace} (h : DataW.TrodVars enc P w sp [n0, n1, n2, n3] gs ps) : ∃ d0 d1 d2 d3, gs = [d0, d1, d2, d3] := by
  cases gs with
  | nil => exact h.elim
  | cons d0 gs =>
  obtain ⟨_, _, _, _, _, _, _, _, _, _, h, _⟩ := h
  cases gs with
  | nil => exact h.elim
  | cons d1 gs =>
  obtain ⟨_, _, _, _, _, _, _, _, _, _, h, _⟩ := h
  cases gs with
  | nil => exact h.elim
  | cons d2 gs =>
  obtain ⟨_, _, _, _, _, _, _, _, _, _, h, _⟩ := h
  cases gs with
  | nil => exact h.elim
  | cons d3 gs =>
  obtain ⟨_, _, _, _, _, _, _, _, _, _, h, _⟩ := h
  cases gs with
  | nil => exact ⟨d0, d1, d2, d3, rfl⟩
  | cons _ _ => exact h.elim
end Go.Proofs.YtkhffoailfnepabGreatDoor
