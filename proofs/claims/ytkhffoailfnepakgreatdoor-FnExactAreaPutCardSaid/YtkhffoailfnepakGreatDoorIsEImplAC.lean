/-
  Parts of one proof, laid as one text: IsE, ImplAC; what each says stands at its head.
-/
import Derived.Test.YtkhffoailfnepakGreatDoorChecked
import Derived.WalkKit
import Derived.LaidEql
import Derived.Stop.Asserts
import Derived.RowKitTokens
import Derived.Test.YtkhffoailfnepakGreatDoorRows
import Derived.Test.YtkhffoailfnepakGreatDoorBytesDigMath
import Derived.Test.YtkhffoailfnepakGreatDoorGetValAsDAs2CodeOfGetNumI
import Derived.Handy
/-
  errors.Is by its contracts: of two sentinels (pointers to errors.errorString), and of a wrongBytes against a sentinel.
  Conditions: the sentinels' cells are there, not frozen.
-/
namespace Go.Proofs.YtkhffoailfnepakGreatDoor
open Go.RowKit Go.Extern.Stop Go.Stop Go.Extern
set_option linter.unusedVariables false
set_option maxRecDepth 20000

theorem isTypeOf (v : Value) (w : World) : (Extern.ReflectliteType.typeOf #[.iface 159 v]).run Tryz.prog w = .ok (.iface 124 (.agg #[.pointer (some ⟨5, 159, none⟩)])) w := by kernel_rfl
def compFn := Extern.ReflectliteType.method fun t => do Go.Extern.Rtype.noPackHeld "Comparable" t; pure (.bool (← typeInfo t).comparable)
theorem isComparable (w : World) : (compFn #[.agg #[.pointer (some ⟨5, 159, none⟩)]]).run Tryz.prog w = .ok (.bool true) w := by kernel_rfl
theorem isMethodComparable (v : Value) (w : World) : (Go.method 291 124 v "Comparable").run Tryz.prog w = .ok (115, v) w := by kernel_rfl
theorem isComp : (Tryz.prog.info? 159).map (·.comparable) = some true := by kernel_rfl
theorem isSize : (Tryz.prog.info? 179).map (·.size) = some 1 := by kernel_rfl
theorem noIsE (v : Value) (xT : TypeId) (w : World) : (Instr.typeAssert (.iface 159 v) xT 126 true).run Tryz.prog w = .ok (.tuple #[.nilIface, .bool false]) w := run_typeAssert_lacksB Tryz.underlying126 (by kernel_rfl) (by kernel_rfl) v xT w
theorem noUnwrapE (v : Value) (xT : TypeId) (w : World) : (Instr.typeAssert (.iface 159 v) xT 129 true).run Tryz.prog w = .ok (.tuple #[.nilIface, .bool false]) w := run_typeAssert_lacksB Tryz.underlying129 (by kernel_rfl) (by kernel_rfl) v xT w
theorem noUnwrapsE (v : Value) (xT : TypeId) (w : World) : (Instr.typeAssert (.iface 159 v) xT 131 true).run Tryz.prog w = .ok (.tuple #[.nilIface, .bool false]) w := run_typeAssert_lacksB Tryz.underlying131 (by kernel_rfl) (by kernel_rfl) v xT w
theorem noIsB (v : Value) (xT : TypeId) (w : World) : (Instr.typeAssert (.iface 115 v) xT 126 true).run Tryz.prog w = .ok (.tuple #[.nilIface, .bool false]) w := run_typeAssert_lacksB Tryz.underlying126 (by kernel_rfl) (by kernel_rfl) v xT w
theorem noUnwrapB (v : Value) (xT : TypeId) (w : World) : (Instr.typeAssert (.iface 115 v) xT 129 true).run Tryz.prog w = .ok (.tuple #[.nilIface, .bool false]) w := run_typeAssert_lacksB Tryz.underlying129 (by kernel_rfl) (by kernel_rfl) v xT w
theorem noUnwrapsB (v : Value) (xT : TypeId) (w : World) : (Instr.typeAssert (.iface 115 v) xT 131 true).run Tryz.prog w = .ok (.tuple #[.nilIface, .bool false]) w := run_typeAssert_lacksB Tryz.underlying131 (by kernel_rfl) (by kernel_rfl) v xT w

/-- errors.Is(x, x), x a sentinel. -/
theorem is_same (a : Addr) (w : World) :
    Calls Tryz.prog 51 #[.iface 159 (.pointer (some a)), .iface 159 (.pointer (some a))] w fun e w' => e = .returned (.bool true) ∧ w' = w := by
  obtain ⟨i, hi, hcmp⟩ := Option.map_eq_some_iff.1 isComp
  obtain ⟨j, hj, hjs⟩ := Option.map_eq_some_iff.1 isSize
  have h8 := @run_callFunc_extern Tryz.prog 69 _ Extern.ReflectliteType.typeOf Tryz.func69 (by kernel_rfl) (by kernel_rfl) (by kernel_rfl) (by kernel_rfl)
  have h32 := @run_callFunc_extern Tryz.prog 115 _ compFn Tryz.func115 (by kernel_rfl) (by kernel_rfl) (by kernel_rfl) (by kernel_rfl)
  have tT := isTypeOf
  have cT := isComparable
  have mR := isMethodComparable
  have heq := run_eql_iface_ptr_same (P := Tryz.prog) w a Tryz.underlying59 Tryz.underlying159 hi hcmp hj
  go_enter Tryz.func51, Tryz.ntmps51
  go_wp2
  refine wp_loop_rounds 1 ?_
  rw [rounds_succ]
  go_wp2
  go_ret
  exact ⟨rfl, rfl⟩
/-- errors.Is of two sentinels that are not one. -/
theorem is_other (a b : Addr) (ca cb : Array Value) (ta tb : TypeId) (w : World) (hne : a ≠ b) (ha : w.heap[a.block]? = some (.cells ca ta (0, 0))) (hb : w.heap[b.block]? = some (.cells cb tb (0, 0))) :
    Calls Tryz.prog 51 #[.iface 159 (.pointer (some a)), .iface 159 (.pointer (some b))] w fun e w' => e = .returned (.bool false) ∧ w' = w := by
  obtain ⟨i, hi, hcmp⟩ := Option.map_eq_some_iff.1 isComp
  obtain ⟨j, hj, hjs⟩ := Option.map_eq_some_iff.1 isSize
  have h8 := @run_callFunc_extern Tryz.prog 69 _ Extern.ReflectliteType.typeOf Tryz.func69 (by kernel_rfl) (by kernel_rfl) (by kernel_rfl) (by kernel_rfl)
  have h32 := @run_callFunc_extern Tryz.prog 115 _ compFn Tryz.func115 (by kernel_rfl) (by kernel_rfl) (by kernel_rfl) (by kernel_rfl)
  have tT := isTypeOf
  have cT := isComparable
  have mR := isMethodComparable
  have nE := noIsE
  have uE := noUnwrapE
  have vE := noUnwrapsE
  have heq := run_eql_iface_ptr_other (P := Tryz.prog) w Tryz.underlying59 Tryz.underlying159 hi hcmp hj (by rw [hjs]; decide) hne ha hb
  go_enter Tryz.func51, Tryz.ntmps51
  go_wp2
  refine wp_loop_rounds 1 ?_
  rw [rounds_succ]
  go_wp2
  go_ret
  exact ⟨rfl, rfl⟩
/-- errors.Is of a wrongBytes and a sentinel. -/
theorem is_wrong (v : Value) (b : Addr) (w : World) :
    Calls Tryz.prog 51 #[.iface 115 v, .iface 159 (.pointer (some b))] w fun e w' => e = .returned (.bool false) ∧ w' = w := by
  have h8 := @run_callFunc_extern Tryz.prog 69 _ Extern.ReflectliteType.typeOf Tryz.func69 (by kernel_rfl) (by kernel_rfl) (by kernel_rfl) (by kernel_rfl)
  have h32 := @run_callFunc_extern Tryz.prog 115 _ compFn Tryz.func115 (by kernel_rfl) (by kernel_rfl) (by kernel_rfl) (by kernel_rfl)
  have tT := isTypeOf
  have cT := isComparable
  have mR := isMethodComparable
  have nB := noIsB
  have uB := noUnwrapB
  have vB := noUnwrapsB
  have hty := run_eql_iface_types (P := Tryz.prog) 115 159 v (.pointer (some b)) Tryz.underlying59 (by decide) w
  go_enter Tryz.func51, Tryz.ntmps51
  go_wp2
  refine wp_loop_rounds 1 ?_
  rw [rounds_succ]
  go_wp2
  go_ret
  exact ⟨rfl, rfl⟩
end Go.Proofs.YtkhffoailfnepakGreatDoor
/-
  What the program's areaCode answers: of each sentinel its code, of a wrongBytes what it bears.
  Conditions: the four sentinels and errors.errorType are laid as the program's text lays them.
-/
namespace Go.Proofs.YtkhffoailfnepakGreatDoor
open Go.RowKit Go.Lib
set_option linter.unusedVariables false
set_option maxRecDepth 20000

/-- The four sentinels: where they lie, and that they are four. -/
structure Sents (a1 a2 a3 a4 : Addr) (w : World) : Prop where
  c1 : w.cell? ⟨1, 0, none⟩ = some (.iface 159 (.pointer (some a1)))
  c2 : w.cell? ⟨2, 0, none⟩ = some (.iface 159 (.pointer (some a2)))
  c3 : w.cell? ⟨3, 0, none⟩ = some (.iface 159 (.pointer (some a3)))
  c4 : w.cell? ⟨0, 0, none⟩ = some (.iface 159 (.pointer (some a4)))
  r1 : ∃ cs t, w.heap[a1.block]? = some (.cells cs t (0, 0))
  r2 : ∃ cs t, w.heap[a2.block]? = some (.cells cs t (0, 0))
  r3 : ∃ cs t, w.heap[a3.block]? = some (.cells cs t (0, 0))
  r4 : ∃ cs t, w.heap[a4.block]? = some (.cells cs t (0, 0))
  n12 : a1 ≠ a2
  n13 : a1 ≠ a3
  n14 : a1 ≠ a4
  n23 : a2 ≠ a3
  n24 : a2 ≠ a4
  n34 : a3 ≠ a4
theorem Sents.below {a1 a2 a3 a4 : Addr} {w w' : World} (h : Sents a1 a2 a3 a4 w) (hb : Below w.heap.size w w') : Sents a1 a2 a3 a4 w' where
  c1 := (hb.cell (p := ⟨1, 0, none⟩) (World.block_lt_of_cell? w _ h.c1)).trans h.c1
  c2 := (hb.cell (p := ⟨2, 0, none⟩) (World.block_lt_of_cell? w _ h.c2)).trans h.c2
  c3 := (hb.cell (p := ⟨3, 0, none⟩) (World.block_lt_of_cell? w _ h.c3)).trans h.c3
  c4 := (hb.cell (p := ⟨0, 0, none⟩) (World.block_lt_of_cell? w _ h.c4)).trans h.c4
  r1 := by
    obtain ⟨cs, t, e⟩ := h.r1
    exact ⟨cs, t, (hb.block a1.block (lt_of_block e)).trans e⟩
  r2 := by
    obtain ⟨cs, t, e⟩ := h.r2
    exact ⟨cs, t, (hb.block a2.block (lt_of_block e)).trans e⟩
  r3 := by
    obtain ⟨cs, t, e⟩ := h.r3
    exact ⟨cs, t, (hb.block a3.block (lt_of_block e)).trans e⟩
  r4 := by
    obtain ⟨cs, t, e⟩ := h.r4
    exact ⟨cs, t, (hb.block a4.block (lt_of_block e)).trans e⟩
  n12 := h.n12
  n13 := h.n13
  n14 := h.n14
  n23 := h.n23
  n24 := h.n24
  n34 := h.n34
theorem areaCode_1 (a1 a2 a3 a4 : Addr) (w : World) (h : Sents a1 a2 a3 a4 w) :
    Calls Tryz.prog 29 #[.iface 159 (.pointer (some a1))] w fun e w' => e = .returned (.int .i64 1) ∧ w' = w := by
  have g1 := h.c1
  have g2 := h.c2
  have g3 := h.c3
  have g4 := h.c4
  have I1 : Hid (Calls Tryz.prog 51 #[.iface 159 (.pointer (some a1)), .iface 159 (.pointer (some a1))] w fun e w' => e = .returned (.bool true) ∧ w' = w) := is_same a1 w
  clear h
  go_enter Tryz.func29, Tryz.ntmps29
  go_wp2_with fail
  refine I1.out.mono ?_
  rintro e wx ⟨rfl, rfl⟩
  go_wp2_with fail
  go_ret
  exact ⟨rfl, rfl⟩
theorem areaCode_2 (a1 a2 a3 a4 : Addr) (w : World) (h : Sents a1 a2 a3 a4 w) :
    Calls Tryz.prog 29 #[.iface 159 (.pointer (some a2))] w fun e w' => e = .returned (.int .i64 3) ∧ w' = w := by
  have g1 := h.c1
  have g2 := h.c2
  have g3 := h.c3
  have g4 := h.c4
  obtain ⟨ck1, tk1, ek1⟩ := h.r2
  obtain ⟨ci1, ti1, ei1⟩ := h.r1
  have I1 : Hid (Calls Tryz.prog 51 #[.iface 159 (.pointer (some a2)), .iface 159 (.pointer (some a1))] w fun e w' => e = .returned (.bool false) ∧ w' = w) := is_other a2 a1 _ _ _ _ w h.n12.symm ek1 ei1
  have I2 : Hid (Calls Tryz.prog 51 #[.iface 159 (.pointer (some a2)), .iface 159 (.pointer (some a2))] w fun e w' => e = .returned (.bool true) ∧ w' = w) := is_same a2 w
  clear h
  clear ek1 ei1
  go_enter Tryz.func29, Tryz.ntmps29
  go_wp2_with fail
  refine I1.out.mono ?_
  rintro e wx ⟨rfl, rfl⟩
  go_wp2_with fail
  refine I2.out.mono ?_
  rintro e wx ⟨rfl, rfl⟩
  go_wp2_with fail
  go_ret
  exact ⟨rfl, rfl⟩
theorem areaCode_3 (a1 a2 a3 a4 : Addr) (w : World) (h : Sents a1 a2 a3 a4 w) :
    Calls Tryz.prog 29 #[.iface 159 (.pointer (some a3))] w fun e w' => e = .returned (.int .i64 5) ∧ w' = w := by
  have g1 := h.c1
  have g2 := h.c2
  have g3 := h.c3
  have g4 := h.c4
  obtain ⟨ck1, tk1, ek1⟩ := h.r3
  obtain ⟨ci1, ti1, ei1⟩ := h.r1
  have I1 : Hid (Calls Tryz.prog 51 #[.iface 159 (.pointer (some a3)), .iface 159 (.pointer (some a1))] w fun e w' => e = .returned (.bool false) ∧ w' = w) := is_other a3 a1 _ _ _ _ w h.n13.symm ek1 ei1
  obtain ⟨ck2, tk2, ek2⟩ := h.r3
  obtain ⟨ci2, ti2, ei2⟩ := h.r2
  have I2 : Hid (Calls Tryz.prog 51 #[.iface 159 (.pointer (some a3)), .iface 159 (.pointer (some a2))] w fun e w' => e = .returned (.bool false) ∧ w' = w) := is_other a3 a2 _ _ _ _ w h.n23.symm ek2 ei2
  have I3 : Hid (Calls Tryz.prog 51 #[.iface 159 (.pointer (some a3)), .iface 159 (.pointer (some a3))] w fun e w' => e = .returned (.bool true) ∧ w' = w) := is_same a3 w
  clear h
  clear ek1 ei1
  clear ek2 ei2
  go_enter Tryz.func29, Tryz.ntmps29
  go_wp2_with fail
  refine I1.out.mono ?_
  rintro e wx ⟨rfl, rfl⟩
  go_wp2_with fail
  refine I2.out.mono ?_
  rintro e wx ⟨rfl, rfl⟩
  go_wp2_with fail
  refine I3.out.mono ?_
  rintro e wx ⟨rfl, rfl⟩
  go_wp2_with fail
  go_ret
  exact ⟨rfl, rfl⟩
theorem areaCode_4 (a1 a2 a3 a4 : Addr) (w : World) (h : Sents a1 a2 a3 a4 w) :
    Calls Tryz.prog 29 #[.iface 159 (.pointer (some a4))] w fun e w' => e = .returned (.int .i64 9) ∧ w' = w := by
  have g1 := h.c1
  have g2 := h.c2
  have g3 := h.c3
  have g4 := h.c4
  obtain ⟨ck1, tk1, ek1⟩ := h.r4
  obtain ⟨ci1, ti1, ei1⟩ := h.r1
  have I1 : Hid (Calls Tryz.prog 51 #[.iface 159 (.pointer (some a4)), .iface 159 (.pointer (some a1))] w fun e w' => e = .returned (.bool false) ∧ w' = w) := is_other a4 a1 _ _ _ _ w h.n14.symm ek1 ei1
  obtain ⟨ck2, tk2, ek2⟩ := h.r4
  obtain ⟨ci2, ti2, ei2⟩ := h.r2
  have I2 : Hid (Calls Tryz.prog 51 #[.iface 159 (.pointer (some a4)), .iface 159 (.pointer (some a2))] w fun e w' => e = .returned (.bool false) ∧ w' = w) := is_other a4 a2 _ _ _ _ w h.n24.symm ek2 ei2
  obtain ⟨ck3, tk3, ek3⟩ := h.r4
  obtain ⟨ci3, ti3, ei3⟩ := h.r3
  have I3 : Hid (Calls Tryz.prog 51 #[.iface 159 (.pointer (some a4)), .iface 159 (.pointer (some a3))] w fun e w' => e = .returned (.bool false) ∧ w' = w) := is_other a4 a3 _ _ _ _ w h.n34.symm ek3 ei3
  have I4 : Hid (Calls Tryz.prog 51 #[.iface 159 (.pointer (some a4)), .iface 159 (.pointer (some a4))] w fun e w' => e = .returned (.bool true) ∧ w' = w) := is_same a4 w
  clear h
  clear ek1 ei1
  clear ek2 ei2
  clear ek3 ei3
  go_enter Tryz.func29, Tryz.ntmps29
  go_wp2_with fail
  refine I1.out.mono ?_
  rintro e wx ⟨rfl, rfl⟩
  go_wp2_with fail
  refine I2.out.mono ?_
  rintro e wx ⟨rfl, rfl⟩
  go_wp2_with fail
  refine I3.out.mono ?_
  rintro e wx ⟨rfl, rfl⟩
  go_wp2_with fail
  refine I4.out.mono ?_
  rintro e wx ⟨rfl, rfl⟩
  go_wp2_with fail
  go_ret
  exact ⟨rfl, rfl⟩
theorem areaCode_wrong (c : Int) (a1 a2 a3 a4 : Addr) (w : World) (h : Sents a1 a2 a3 a4 w) (hl : Laid w) :
    Calls Tryz.prog 29 #[errV c] w fun e w' => e = .returned (.int .i64 c) ∧ Below w.heap.size w w' := by
  unfold errV
  have g1 := h.c1
  have g2 := h.c2
  have g3 := h.c3
  have g4 := h.c4
  have I1 : Hid (Calls Tryz.prog 51 #[.iface 115 (.agg #[.int .i64 c]), .iface 159 (.pointer (some a1))] w fun e w' => e = .returned (.bool false) ∧ w' = w) := is_wrong _ a1 w
  have I2 : Hid (Calls Tryz.prog 51 #[.iface 115 (.agg #[.int .i64 c]), .iface 159 (.pointer (some a2))] w fun e w' => e = .returned (.bool false) ∧ w' = w) := is_wrong _ a2 w
  have I3 : Hid (Calls Tryz.prog 51 #[.iface 115 (.agg #[.int .i64 c]), .iface 159 (.pointer (some a3))] w fun e w' => e = .returned (.bool false) ∧ w' = w) := is_wrong _ a3 w
  have I4 : Hid (Calls Tryz.prog 51 #[.iface 115 (.agg #[.int .i64 c]), .iface 159 (.pointer (some a4))] w fun e w' => e = .returned (.bool false) ∧ w' = w) := is_wrong _ a4 w
  have IC : Hid (Calls Tryz.prog 52 #[.iface 115 (.agg #[.int .i64 c])] w fun e w' => e = .returned (.int .i64 c) ∧ Below w.heap.size w w') := codeOf_hit c w hl
  clear h hl
  go_enter Tryz.func29, Tryz.ntmps29
  go_wp2_with fail
  refine I1.out.mono ?_
  rintro e wx ⟨rfl, rfl⟩
  go_wp2_with fail
  refine I2.out.mono ?_
  rintro e wx ⟨rfl, rfl⟩
  go_wp2_with fail
  refine I3.out.mono ?_
  rintro e wx ⟨rfl, rfl⟩
  go_wp2_with fail
  refine I4.out.mono ?_
  rintro e wx ⟨rfl, rfl⟩
  go_wp2_with fail
  refine IC.out.mono ?_
  rintro e wx ⟨rfl, b⟩
  go_wp2_with fail
  go_ret
  exact ⟨rfl, b⟩
end Go.Proofs.YtkhffoailfnepakGreatDoor
