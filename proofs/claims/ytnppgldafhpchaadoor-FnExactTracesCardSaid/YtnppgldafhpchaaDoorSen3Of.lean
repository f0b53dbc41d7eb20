/-
  What the three listed variables give a walk: the area's sentinels.
-/
import Derived.Test.YtnppgldafhpchaaDoorRows
import Derived.Test.YtnppgldafhpchaaDoorBytes
import Derived.Test.YtnppgldafhpchaaDoorSen3PutMath
import Derived.Stop.LaidErr
import Derived.LaidHandle
namespace Go.Proofs.YtnppgldafhpchaaDoor
open Go.RowKit
set_option linter.unusedVariables false

theorem star5 : "*" ++ "errors.errorString" = "*errors.errorString" := by decide
theorem rowEs (u : TypeId) (h : Tryd.prog.typeName? 3 u = some "*errors.errorString") : u = 107 :=
  typeName_ptr_named (nm := "errors.errorString") (by rw [star5]; kernel_rfl) (by kernel_rfl) (by decide) u (by rw [star5]; exact h)
theorem g51 : Tryd.prog.globalNamed "loop.example/g00633/impl.errDiskForm" = some 0 := by kernel_rfl
theorem g52 : Tryd.prog.globalNamed "loop.example/g00633/impl.errNoHead" = some 1 := by kernel_rfl
theorem g53 : Tryd.prog.globalNamed "loop.example/g00633/impl.errLacking" = some 2 := by kernel_rfl
theorem t51 : (Tryd.prog.globals[0]?).map (·.type) = some 47 := by kernel_rfl
theorem t52 : (Tryd.prog.globals[1]?).map (·.type) = some 47 := by kernel_rfl
theorem t53 : (Tryd.prog.globals[2]?).map (·.type) = some 47 := by kernel_rfl
theorem cellsEs : Tryd.prog.cellsOf 124 = 1 := by kernel_rfl
theorem cellsSt : Tryd.prog.cellsOf 9 = 1 := by kernel_rfl
theorem sentinels3 {P : Program} {n0 n1 n2 nm : String} {x0 x1 x2 : List UInt8} {W : World} {g0 g1 g2 : Nat} {ti tp te ts : TypeId} {ms : Array (String × TypeId)} {f : Field}
    (h : laidMet P [(n0, .iface nm (.ptr (.agg [.lit (.string x0)]))), (n1, .iface nm (.ptr (.agg [.lit (.string x1)]))), (n2, .iface nm (.ptr (.agg [.lit (.string x2)])))] W)
    (hg0 : P.globalNamed n0 = some g0) (ht0 : (P.globals[g0]?).map (·.type) = some ti) (hg1 : P.globalNamed n1 = some g1) (ht1 : (P.globals[g1]?).map (·.type) = some ti) (hg2 : P.globalNamed n2 = some g2) (ht2 : (P.globals[g2]?).map (·.type) = some ti)
    (hi : P.underlying ti = some (.interface ms)) (hrow : ∀ u, P.typeName? 3 u = some nm → u = tp)
    (hp : P.underlying tp = some (.pointer te)) (he : P.underlying te = some (.struct #[f])) (hft : f.type = ts) (hfo : f.offset = 0) (hs : P.underlying ts = some .string) (hc : P.cellsOf te = 1) (hcs : P.cellsOf ts = 1) :
    ∃ a0 a1 a2 : Addr, W.cell? ⟨g0, 0, none⟩ = some (.iface tp (.pointer (some a0))) ∧ W.cell? ⟨g1, 0, none⟩ = some (.iface tp (.pointer (some a1))) ∧ W.cell? ⟨g2, 0, none⟩ = some (.iface tp (.pointer (some a2))) := by
  obtain ⟨ps, ⟨g0', t0, cs0, f0, p0, q0, hg0', ht0', hv0, hd0, ⟨g1', t1, cs1, f1, p1, q1, hg1', ht1', hv1, hd1, ⟨g2', t2, cs2, f2, p2, q2, hg2', ht2', hv2, hd2, _, e2⟩, e1⟩, e0⟩, hnd, hrows⟩ := h
  obtain rfl := Option.some.inj (hg0.symm.trans hg0')
  obtain rfl := Option.some.inj (hg1.symm.trans hg1')
  obtain rfl := Option.some.inj (hg2.symm.trans hg2')
  obtain rfl := Option.some.inj (ht0.symm.trans ht0')
  obtain rfl := Option.some.inj (ht1.symm.trans ht1')
  obtain rfl := Option.some.inj (ht2.symm.trans ht2')
  subst e2
  subst e1
  subst e0
  obtain ⟨l0⟩ := cs0
  obtain ⟨l1⟩ := cs1
  obtain ⟨l2⟩ := cs2
  have ok0 : ∀ u v, l0 = [.iface u v] → Value.okWide P W .any 0 u v := fun u v e => by
    subst e
    exact (hrows g0 0 (by simp [MemPlace.row])).2 u v (by simpa using World.var?_cell hg0' hv0 0)
  have ok1 : ∀ u v, l1 = [.iface u v] → Value.okWide P W .any 0 u v := fun u v e => by
    subst e
    exact (hrows g1 0 (by simp [MemPlace.row])).2 u v (by simpa using World.var?_cell hg1' hv1 0)
  have ok2 : ∀ u v, l2 = [.iface u v] → Value.okWide P W .any 0 u v := fun u v e => by
    subst e
    exact (hrows g2 0 (by simp [MemPlace.row])).2 u v (by simpa using World.var?_cell hg2' hv2 0)
  obtain ⟨a0, s0, rfl, hc0, -, -, rfl⟩ := errorString_of_trod hi hrow hp he hft hfo hs hc hcs hd0 ok0
  obtain ⟨a1, s1, rfl, hc1, -, -, rfl⟩ := errorString_of_trod hi hrow hp he hft hfo hs hc hcs hd1 ok1
  obtain ⟨a2, s2, rfl, hc2, -, -, rfl⟩ := errorString_of_trod hi hrow hp he hft hfo hs hc hcs hd2 ok2
  refine ⟨a0, a1, a2, ?_, ?_, ?_⟩
  · simpa using World.var?_cell hg0 hv0 0
  · simpa using World.var?_cell hg1 hv1 0
  · simpa using World.var?_cell hg2 hv2 0
theorem laidS3_of {W : World} (h : laidMetH Tryd.prog [("loop.example/g00633/impl.errDiskForm", Rows.laid_loop_example_g00633_impl_errDiskForm), ("loop.example/g00633/impl.errNoHead", Rows.laid_loop_example_g00633_impl_errNoHead), ("loop.example/g00633/impl.errLacking", Rows.laid_loop_example_g00633_impl_errLacking)] W) : ∃ a1 a2 a3 a4, Sents a1 a2 a3 a4 W := by
  have h' : laidMet Tryd.prog [("loop.example/g00633/impl.errDiskForm", Rows.laid_loop_example_g00633_impl_errDiskForm), ("loop.example/g00633/impl.errNoHead", Rows.laid_loop_example_g00633_impl_errNoHead), ("loop.example/g00633/impl.errLacking", Rows.laid_loop_example_g00633_impl_errLacking)] W := h
  unfold Rows.laid_loop_example_g00633_impl_errDiskForm Rows.laid_loop_example_g00633_impl_errNoHead Rows.laid_loop_example_g00633_impl_errLacking at h'
  obtain ⟨a1, a2, a3, c1, c2, c3⟩ := sentinels3 h' g51 t51 g52 t52 g53 t53 Tryd.underlying47 rowEs Tryd.underlying107 Tryd.underlying124 rfl rfl Tryd.underlying9 cellsEs cellsSt
  exact ⟨a1, a2, a3, a1, c1, c2, c3⟩
theorem three_vars {H : Type} {enc : TypeId × Value → H} {P : Program} {w : World} {sp : Nat → Bool} {n0 n1 n2 : String} {gs : List (DataW H)} {ps : List MemPlace} (h : DataW.TrodVars enc P w sp [n0, n1, n2] gs ps) : ∃ d0 d1 d2, gs = [d0, d1, d2] := by
  cases gs with
  | nil => exact h.elim
  | cons d0 gs =>
  obtain ⟨_, _, _, _, _, _, _, _, _, _, h, _⟩ := h
  cases gs with
  | nil => exact h.elim
  | cons d1 gs =>
  obtain ⟨_, _, _, _, _, _, _, _, _, _, h, _⟩ := h
  cases gs with
  | nil => exact h.elim
  | cons d2 gs =>
  obtain ⟨_, _, _, _, _, _, _, _, _, _, h, _⟩ := h
  cases gs with
  | nil => exact ⟨_, _, _, rfl⟩
  | cons d3 gs => exact h.elim
end Go.Proofs.YtnppgldafhpchaaDoor
