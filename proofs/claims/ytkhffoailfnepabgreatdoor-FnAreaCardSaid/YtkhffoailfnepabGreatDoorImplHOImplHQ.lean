/-
  Parts of one proof, laid as one text: ImplHO, ImplHQ; what each says stands at its head.
-/
import Derived.Test.YtkhffoailfnepabGreatDoorRows
import Derived.Test.YtkhffoailfnepabGreatDoorBytesDigMath
import Derived.Test.YtkhffoailfnepabGreatDoorScanMathNumMathNumInv
import Derived.Test.YtkhffoailfnepabGreatDoorGetValAsDAs2CodeOfGetNumI
import Derived.Test.YtkhffoailfnepabGreatDoorGetTextITextMathAreaMath
import Derived.Test.YtkhffoailfnepabGreatDoorImplAFIsEImplACErrI
import Derived.Handy
import Derived.WalkSpells
/-
  What the program's headOf answers: the three numbers of a head's text, or that it is none.
  Conditions: the text fits the form's own reach; the sentinels are laid.
-/
namespace Go.Proofs.YtkhffoailfnepabGreatDoor
open Go.RowKit Go.Lib
set_option linter.unusedVariables false
set_option maxRecDepth 20000

/-- Three numbers not below 0, a side, and nothing behind them. -/
def HdI (t : ByteArray) : Prop :=
  ((hd1 t).2.2 = 0 ∧ 0 ≤ (hd1 t).1) ∧ ((hd2 t).2.2 = 0 ∧ 0 ≤ (hd2 t).1) ∧ ((hd3 t).2.2 = 0 ∧ 0 ≤ (hd3 t).1) ∧ (hd3 t).2.1 = (t.size : Int) ∧ (hd2 t).1 < 2
instance (t : ByteArray) : Decidable (HdI t) := by unfold HdI; infer_instance
def hoV (t : ByteArray) (a2 : Addr) : Value := if HdI t then .tuple #[.agg #[.int .i64 (hd1 t).1, .int .i64 (hd2 t).1, .int .i64 (hd3 t).1], .nilIface] else .tuple #[.agg #[.int .i64 0, .int .i64 0, .int .i64 0], .iface 159 (.pointer (some a2))]
theorem below_set3 {B : Nat} {a w : World} (h : Below B a w) {g : Nat} (hg : B ≤ g) (x0 x1 x2 : Value) : Below B a (((w.setCell ⟨g, 0, none⟩ x0).setCell ⟨g, 1, none⟩ x1).setCell ⟨g, 2, none⟩ x2) := ((h.setCell hg _).setCell hg _).setCell hg _
set_option maxHeartbeats 2000000 in
theorem headOf_c1 (t : ByteArray) (a1 a2 a3 a4 : Addr) (w : World) (hS : Sents a1 a2 a3 a4 w) (c : Int) (R1 : Hid (∀ x, Calls Tryz.prog 87 #[.string t, .int .i64 0] x fun e w' => e = .returned (.tuple #[.int .i64 0, .int .i64 0, .iface 112 (.agg #[.int .i64 c])]) ∧ w' = x)) :
    Calls Tryz.prog 75 #[.string t] w fun e w' => e = .returned (.tuple #[.agg #[.int .i64 0, .int .i64 0, .int .i64 0], .iface 159 (.pointer (some a2))]) ∧ Below w.heap.size w w' := by
  have g2 := hS.c2
  have hlt := World.block_lt_of_cell? w _ hS.c2
  have hlt : 1 < w.heap.size := hlt
  have gA : ∀ o1 o2, ((w.alloc o1).alloc o2).cell? ⟨1, 0, none⟩ = some (.iface 159 (.pointer (some a2))) := fun o1 o2 => by
    rw [World.cell?_alloc_lt _ _ ⟨1, 0, none⟩ (by simp <;> omega), World.cell?_alloc_lt _ _ ⟨1, 0, none⟩ hlt]; exact g2
  have gB : ∀ o1 o2 o3, (((w.alloc o1).alloc o2).alloc o3).cell? ⟨1, 0, none⟩ = some (.iface 159 (.pointer (some a2))) := fun o1 o2 o3 => by
    rw [World.cell?_alloc_lt _ _ ⟨1, 0, none⟩ (by simp <;> omega)]; exact gA o1 o2
  clear hS
  go_enter Tryz.func75, Tryz.ntmps75
  go_wp2_with fail
  refine wp_loop_rounds 1 ?_
  rw [rounds_succ]
  go_wp2_with (go_at_call 87; with_reducible refine (R1.out _).mono ?_; rintro e wx ⟨rfl, rfl⟩)
  go_region
  all_goals
    go_wp2_with fail
    refine bodyPost_ret (v := .tuple #[.agg #[.int .i64 0, .int .i64 0, .int .i64 0], .iface 159 (.pointer (some a2))]) (by simp [results, Tryz.results75, go_sem]; first | done | rfl) rfl ?_
    exact ⟨rfl, by go_grown⟩
set_option maxHeartbeats 2000000 in
theorem headOf_n1 (t : ByteArray) (a1 a2 a3 a4 : Addr) (w : World) (hS : Sents a1 a2 a3 a4 w) (g b1 : Int) (hg : decide (g < 0) = true) (R1 : Hid (∀ x, Calls Tryz.prog 87 #[.string t, .int .i64 0] x fun e w' => e = .returned (.tuple #[.int .i64 g, .int .i64 b1, .nilIface]) ∧ w' = x)) :
    Calls Tryz.prog 75 #[.string t] w fun e w' => e = .returned (.tuple #[.agg #[.int .i64 0, .int .i64 0, .int .i64 0], .iface 159 (.pointer (some a2))]) ∧ Below w.heap.size w w' := by
  have g2 := hS.c2
  have hlt := World.block_lt_of_cell? w _ hS.c2
  have hlt : 1 < w.heap.size := hlt
  have gA : ∀ o1 o2, ((w.alloc o1).alloc o2).cell? ⟨1, 0, none⟩ = some (.iface 159 (.pointer (some a2))) := fun o1 o2 => by
    rw [World.cell?_alloc_lt _ _ ⟨1, 0, none⟩ (by simp <;> omega), World.cell?_alloc_lt _ _ ⟨1, 0, none⟩ hlt]; exact g2
  have gB : ∀ o1 o2 o3, (((w.alloc o1).alloc o2).alloc o3).cell? ⟨1, 0, none⟩ = some (.iface 159 (.pointer (some a2))) := fun o1 o2 o3 => by
    rw [World.cell?_alloc_lt _ _ ⟨1, 0, none⟩ (by simp <;> omega)]; exact gA o1 o2
  clear hS
  go_enter Tryz.func75, Tryz.ntmps75
  go_wp2_with fail
  refine wp_loop_rounds 1 ?_
  rw [rounds_succ]
  go_wp2_with (go_at_call 87; with_reducible refine (R1.out _).mono ?_; rintro e wx ⟨rfl, rfl⟩)
  go_region
  all_goals
    go_wp2_with fail
    refine bodyPost_ret (v := .tuple #[.agg #[.int .i64 0, .int .i64 0, .int .i64 0], .iface 159 (.pointer (some a2))]) (by simp [results, Tryz.results75, go_sem]; first | done | rfl) rfl ?_
    exact ⟨rfl, by go_grown⟩
set_option maxHeartbeats 2000000 in
theorem headOf_c2 (t : ByteArray) (a1 a2 a3 a4 : Addr) (w : World) (hS : Sents a1 a2 a3 a4 w) (g b1 : Int) (hg : decide (g < 0) = false) (R1 : Hid (∀ x, Calls Tryz.prog 87 #[.string t, .int .i64 0] x fun e w' => e = .returned (.tuple #[.int .i64 g, .int .i64 b1, .nilIface]) ∧ w' = x)) (c : Int) (R2 : Hid (∀ x, Calls Tryz.prog 87 #[.string t, .int .i64 b1] x fun e w' => e = .returned (.tuple #[.int .i64 0, .int .i64 0, .iface 112 (.agg #[.int .i64 c])]) ∧ w' = x)) :
    Calls Tryz.prog 75 #[.string t] w fun e w' => e = .returned (.tuple #[.agg #[.int .i64 0, .int .i64 0, .int .i64 0], .iface 159 (.pointer (some a2))]) ∧ Below w.heap.size w w' := by
  have g2 := hS.c2
  have hlt := World.block_lt_of_cell? w _ hS.c2
  have hlt : 1 < w.heap.size := hlt
  have gA : ∀ o1 o2, ((w.alloc o1).alloc o2).cell? ⟨1, 0, none⟩ = some (.iface 159 (.pointer (some a2))) := fun o1 o2 => by
    rw [World.cell?_alloc_lt _ _ ⟨1, 0, none⟩ (by simp <;> omega), World.cell?_alloc_lt _ _ ⟨1, 0, none⟩ hlt]; exact g2
  have gB : ∀ o1 o2 o3, (((w.alloc o1).alloc o2).alloc o3).cell? ⟨1, 0, none⟩ = some (.iface 159 (.pointer (some a2))) := fun o1 o2 o3 => by
    rw [World.cell?_alloc_lt _ _ ⟨1, 0, none⟩ (by simp <;> omega)]; exact gA o1 o2
  clear hS
  go_enter Tryz.func75, Tryz.ntmps75
  go_wp2_with fail
  refine wp_loop_rounds 2 ?_
  rw [rounds_succ]
  go_wp2_with (go_at_call 87; with_reducible refine (R1.out _).mono ?_; rintro e wx ⟨rfl, rfl⟩)
  rw [rounds_succ]
  go_wp2_with (go_at_call 87; with_reducible refine (R2.out _).mono ?_; rintro e wx ⟨rfl, rfl⟩)
  go_region
  all_goals
    go_wp2_with fail
    refine bodyPost_ret (v := .tuple #[.agg #[.int .i64 0, .int .i64 0, .int .i64 0], .iface 159 (.pointer (some a2))]) (by simp [results, Tryz.results75, go_sem]; first | done | rfl) rfl ?_
    exact ⟨rfl, by go_grown⟩
set_option maxHeartbeats 2000000 in
theorem headOf_n2 (t : ByteArray) (a1 a2 a3 a4 : Addr) (w : World) (hS : Sents a1 a2 a3 a4 w) (g b1 : Int) (hg : decide (g < 0) = false) (R1 : Hid (∀ x, Calls Tryz.prog 87 #[.string t, .int .i64 0] x fun e w' => e = .returned (.tuple #[.int .i64 g, .int .i64 b1, .nilIface]) ∧ w' = x)) (s b2 : Int) (hs : decide (s < 0) = true) (R2 : Hid (∀ x, Calls Tryz.prog 87 #[.string t, .int .i64 b1] x fun e w' => e = .returned (.tuple #[.int .i64 s, .int .i64 b2, .nilIface]) ∧ w' = x)) :
    Calls Tryz.prog 75 #[.string t] w fun e w' => e = .returned (.tuple #[.agg #[.int .i64 0, .int .i64 0, .int .i64 0], .iface 159 (.pointer (some a2))]) ∧ Below w.heap.size w w' := by
  have g2 := hS.c2
  have hlt := World.block_lt_of_cell? w _ hS.c2
  have hlt : 1 < w.heap.size := hlt
  have gA : ∀ o1 o2, ((w.alloc o1).alloc o2).cell? ⟨1, 0, none⟩ = some (.iface 159 (.pointer (some a2))) := fun o1 o2 => by
    rw [World.cell?_alloc_lt _ _ ⟨1, 0, none⟩ (by simp <;> omega), World.cell?_alloc_lt _ _ ⟨1, 0, none⟩ hlt]; exact g2
  have gB : ∀ o1 o2 o3, (((w.alloc o1).alloc o2).alloc o3).cell? ⟨1, 0, none⟩ = some (.iface 159 (.pointer (some a2))) := fun o1 o2 o3 => by
    rw [World.cell?_alloc_lt _ _ ⟨1, 0, none⟩ (by simp <;> omega)]; exact gA o1 o2
  clear hS
  go_enter Tryz.func75, Tryz.ntmps75
  go_wp2_with fail
  refine wp_loop_rounds 2 ?_
  rw [rounds_succ]
  go_wp2_with (go_at_call 87; with_reducible refine (R1.out _).mono ?_; rintro e wx ⟨rfl, rfl⟩)
  rw [rounds_succ]
  go_wp2_with (go_at_call 87; with_reducible refine (R2.out _).mono ?_; rintro e wx ⟨rfl, rfl⟩)
  go_region
  all_goals
    go_wp2_with fail
    refine bodyPost_ret (v := .tuple #[.agg #[.int .i64 0, .int .i64 0, .int .i64 0], .iface 159 (.pointer (some a2))]) (by simp [results, Tryz.results75, go_sem]; first | done | rfl) rfl ?_
    exact ⟨rfl, by go_grown⟩
set_option maxHeartbeats 2000000 in
theorem headOf_c3 (t : ByteArray) (a1 a2 a3 a4 : Addr) (w : World) (hS : Sents a1 a2 a3 a4 w) (g b1 : Int) (hg : decide (g < 0) = false) (R1 : Hid (∀ x, Calls Tryz.prog 87 #[.string t, .int .i64 0] x fun e w' => e = .returned (.tuple #[.int .i64 g, .int .i64 b1, .nilIface]) ∧ w' = x)) (s b2 : Int) (hs : decide (s < 0) = false) (R2 : Hid (∀ x, Calls Tryz.prog 87 #[.string t, .int .i64 b1] x fun e w' => e = .returned (.tuple #[.int .i64 s, .int .i64 b2, .nilIface]) ∧ w' = x)) (c : Int) (R3 : Hid (∀ x, Calls Tryz.prog 87 #[.string t, .int .i64 b2] x fun e w' => e = .returned (.tuple #[.int .i64 0, .int .i64 0, .iface 112 (.agg #[.int .i64 c])]) ∧ w' = x)) :
    Calls Tryz.prog 75 #[.string t] w fun e w' => e = .returned (.tuple #[.agg #[.int .i64 0, .int .i64 0, .int .i64 0], .iface 159 (.pointer (some a2))]) ∧ Below w.heap.size w w' := by
  have g2 := hS.c2
  have hlt := World.block_lt_of_cell? w _ hS.c2
  have hlt : 1 < w.heap.size := hlt
  have gA : ∀ o1 o2, ((w.alloc o1).alloc o2).cell? ⟨1, 0, none⟩ = some (.iface 159 (.pointer (some a2))) := fun o1 o2 => by
    rw [World.cell?_alloc_lt _ _ ⟨1, 0, none⟩ (by simp <;> omega), World.cell?_alloc_lt _ _ ⟨1, 0, none⟩ hlt]; exact g2
  have gB : ∀ o1 o2 o3, (((w.alloc o1).alloc o2).alloc o3).cell? ⟨1, 0, none⟩ = some (.iface 159 (.pointer (some a2))) := fun o1 o2 o3 => by
    rw [World.cell?_alloc_lt _ _ ⟨1, 0, none⟩ (by simp <;> omega)]; exact gA o1 o2
  clear hS
  go_enter Tryz.func75, Tryz.ntmps75
  go_wp2_with fail
  refine wp_loop_rounds 3 ?_
  rw [rounds_succ]
  go_wp2_with (go_at_call 87; with_reducible refine (R1.out _).mono ?_; rintro e wx ⟨rfl, rfl⟩)
  rw [rounds_succ]
  go_wp2_with (go_at_call 87; with_reducible refine (R2.out _).mono ?_; rintro e wx ⟨rfl, rfl⟩)
  rw [rounds_succ]
  go_wp2_with (go_at_call 87; with_reducible refine (R3.out _).mono ?_; rintro e wx ⟨rfl, rfl⟩)
  go_region
  all_goals
    go_wp2_with fail
    refine bodyPost_ret (v := .tuple #[.agg #[.int .i64 0, .int .i64 0, .int .i64 0], .iface 159 (.pointer (some a2))]) (by simp [results, Tryz.results75, go_sem]; first | done | rfl) rfl ?_
    exact ⟨rfl, by go_grown⟩
set_option maxHeartbeats 2000000 in
theorem headOf_n3 (t : ByteArray) (a1 a2 a3 a4 : Addr) (w : World) (hS : Sents a1 a2 a3 a4 w) (g b1 : Int) (hg : decide (g < 0) = false) (R1 : Hid (∀ x, Calls Tryz.prog 87 #[.string t, .int .i64 0] x fun e w' => e = .returned (.tuple #[.int .i64 g, .int .i64 b1, .nilIface]) ∧ w' = x)) (s b2 : Int) (hs : decide (s < 0) = false) (R2 : Hid (∀ x, Calls Tryz.prog 87 #[.string t, .int .i64 b1] x fun e w' => e = .returned (.tuple #[.int .i64 s, .int .i64 b2, .nilIface]) ∧ w' = x)) (z b3 : Int) (hz : decide (z < 0) = true) (R3 : Hid (∀ x, Calls Tryz.prog 87 #[.string t, .int .i64 b2] x fun e w' => e = .returned (.tuple #[.int .i64 z, .int .i64 b3, .nilIface]) ∧ w' = x)) :
    Calls Tryz.prog 75 #[.string t] w fun e w' => e = .returned (.tuple #[.agg #[.int .i64 0, .int .i64 0, .int .i64 0], .iface 159 (.pointer (some a2))]) ∧ Below w.heap.size w w' := by
  have g2 := hS.c2
  have hlt := World.block_lt_of_cell? w _ hS.c2
  have hlt : 1 < w.heap.size := hlt
  have gA : ∀ o1 o2, ((w.alloc o1).alloc o2).cell? ⟨1, 0, none⟩ = some (.iface 159 (.pointer (some a2))) := fun o1 o2 => by
    rw [World.cell?_alloc_lt _ _ ⟨1, 0, none⟩ (by simp <;> omega), World.cell?_alloc_lt _ _ ⟨1, 0, none⟩ hlt]; exact g2
  have gB : ∀ o1 o2 o3, (((w.alloc o1).alloc o2).alloc o3).cell? ⟨1, 0, none⟩ = some (.iface 159 (.pointer (some a2))) := fun o1 o2 o3 => by
    rw [World.cell?_alloc_lt _ _ ⟨1, 0, none⟩ (by simp <;> omega)]; exact gA o1 o2
  clear hS
  go_enter Tryz.func75, Tryz.ntmps75
  go_wp2_with fail
  refine wp_loop_rounds 3 ?_
  rw [rounds_succ]
  go_wp2_with (go_at_call 87; with_reducible refine (R1.out _).mono ?_; rintro e wx ⟨rfl, rfl⟩)
  rw [rounds_succ]
  go_wp2_with (go_at_call 87; with_reducible refine (R2.out _).mono ?_; rintro e wx ⟨rfl, rfl⟩)
  rw [rounds_succ]
  go_wp2_with (go_at_call 87; with_reducible refine (R3.out _).mono ?_; rintro e wx ⟨rfl, rfl⟩)
  go_region
  all_goals
    go_wp2_with fail
    refine bodyPost_ret (v := .tuple #[.agg #[.int .i64 0, .int .i64 0, .int .i64 0], .iface 159 (.pointer (some a2))]) (by simp [results, Tryz.results75, go_sem]; first | done | rfl) rfl ?_
    exact ⟨rfl, by go_grown⟩
set_option maxHeartbeats 2000000 in
theorem headOf_t1 (t : ByteArray) (a1 a2 a3 a4 : Addr) (w : World) (hS : Sents a1 a2 a3 a4 w) (g b1 : Int) (hg : decide (g < 0) = false) (R1 : Hid (∀ x, Calls Tryz.prog 87 #[.string t, .int .i64 0] x fun e w' => e = .returned (.tuple #[.int .i64 g, .int .i64 b1, .nilIface]) ∧ w' = x)) (s b2 : Int) (hs : decide (s < 0) = false) (R2 : Hid (∀ x, Calls Tryz.prog 87 #[.string t, .int .i64 b1] x fun e w' => e = .returned (.tuple #[.int .i64 s, .int .i64 b2, .nilIface]) ∧ w' = x)) (z b3 : Int) (hz : decide (z < 0) = false) (R3 : Hid (∀ x, Calls Tryz.prog 87 #[.string t, .int .i64 b2] x fun e w' => e = .returned (.tuple #[.int .i64 z, .int .i64 b3, .nilIface]) ∧ w' = x)) (h4 : (b3 == (t.size : Int)) = false) (h4n : (b3 != (t.size : Int)) = true) :
    Calls Tryz.prog 75 #[.string t] w fun e w' => e = .returned (.tuple #[.agg #[.int .i64 0, .int .i64 0, .int .i64 0], .iface 159 (.pointer (some a2))]) ∧ Below w.heap.size w w' := by
  have g2 := hS.c2
  have hlt := World.block_lt_of_cell? w _ hS.c2
  have hlt : 1 < w.heap.size := hlt
  have gA : ∀ o1 o2, ((w.alloc o1).alloc o2).cell? ⟨1, 0, none⟩ = some (.iface 159 (.pointer (some a2))) := fun o1 o2 => by
    rw [World.cell?_alloc_lt _ _ ⟨1, 0, none⟩ (by simp <;> omega), World.cell?_alloc_lt _ _ ⟨1, 0, none⟩ hlt]; exact g2
  have gB : ∀ o1 o2 o3, (((w.alloc o1).alloc o2).alloc o3).cell? ⟨1, 0, none⟩ = some (.iface 159 (.pointer (some a2))) := fun o1 o2 o3 => by
    rw [World.cell?_alloc_lt _ _ ⟨1, 0, none⟩ (by simp <;> omega)]; exact gA o1 o2
  clear hS
  go_enter Tryz.func75, Tryz.ntmps75
  go_wp2_with fail
  refine wp_loop_rounds 4 ?_
  rw [rounds_succ]
  go_wp2_with (go_at_call 87; with_reducible refine (R1.out _).mono ?_; rintro e wx ⟨rfl, rfl⟩)
  rw [rounds_succ]
  go_wp2_with (go_at_call 87; with_reducible refine (R2.out _).mono ?_; rintro e wx ⟨rfl, rfl⟩)
  rw [rounds_succ]
  go_wp2_with (go_at_call 87; with_reducible refine (R3.out _).mono ?_; rintro e wx ⟨rfl, rfl⟩)
  rw [rounds_succ]
  go_wp2_with fail
  go_region
  all_goals
    go_wp2_with fail
    refine bodyPost_ret (v := .tuple #[.agg #[.int .i64 0, .int .i64 0, .int .i64 0], .iface 159 (.pointer (some a2))]) (by simp [results, Tryz.results75, go_sem]; first | done | rfl) rfl ?_
    exact ⟨rfl, by go_grown⟩
set_option maxHeartbeats 2000000 in
theorem headOf_t2 (t : ByteArray) (a1 a2 a3 a4 : Addr) (w : World) (hS : Sents a1 a2 a3 a4 w) (g b1 : Int) (hg : decide (g < 0) = false) (R1 : Hid (∀ x, Calls Tryz.prog 87 #[.string t, .int .i64 0] x fun e w' => e = .returned (.tuple #[.int .i64 g, .int .i64 b1, .nilIface]) ∧ w' = x)) (s b2 : Int) (hs : decide (s < 0) = false) (R2 : Hid (∀ x, Calls Tryz.prog 87 #[.string t, .int .i64 b1] x fun e w' => e = .returned (.tuple #[.int .i64 s, .int .i64 b2, .nilIface]) ∧ w' = x)) (z b3 : Int) (hz : decide (z < 0) = false) (R3 : Hid (∀ x, Calls Tryz.prog 87 #[.string t, .int .i64 b2] x fun e w' => e = .returned (.tuple #[.int .i64 z, .int .i64 b3, .nilIface]) ∧ w' = x)) (h4 : (b3 == (t.size : Int)) = true) (h4n : (b3 != (t.size : Int)) = false) (h5 : decide (2 ≤ s) = true) :
    Calls Tryz.prog 75 #[.string t] w fun e w' => e = .returned (.tuple #[.agg #[.int .i64 0, .int .i64 0, .int .i64 0], .iface 159 (.pointer (some a2))]) ∧ Below w.heap.size w w' := by
  have g2 := hS.c2
  have hlt := World.block_lt_of_cell? w _ hS.c2
  have hlt : 1 < w.heap.size := hlt
  have gA : ∀ o1 o2, ((w.alloc o1).alloc o2).cell? ⟨1, 0, none⟩ = some (.iface 159 (.pointer (some a2))) := fun o1 o2 => by
    rw [World.cell?_alloc_lt _ _ ⟨1, 0, none⟩ (by simp <;> omega), World.cell?_alloc_lt _ _ ⟨1, 0, none⟩ hlt]; exact g2
  have gB : ∀ o1 o2 o3, (((w.alloc o1).alloc o2).alloc o3).cell? ⟨1, 0, none⟩ = some (.iface 159 (.pointer (some a2))) := fun o1 o2 o3 => by
    rw [World.cell?_alloc_lt _ _ ⟨1, 0, none⟩ (by simp <;> omega)]; exact gA o1 o2
  clear hS
  go_enter Tryz.func75, Tryz.ntmps75
  go_wp2_with fail
  refine wp_loop_rounds 4 ?_
  rw [rounds_succ]
  go_wp2_with (go_at_call 87; with_reducible refine (R1.out _).mono ?_; rintro e wx ⟨rfl, rfl⟩)
  rw [rounds_succ]
  go_wp2_with (go_at_call 87; with_reducible refine (R2.out _).mono ?_; rintro e wx ⟨rfl, rfl⟩)
  rw [rounds_succ]
  go_wp2_with (go_at_call 87; with_reducible refine (R3.out _).mono ?_; rintro e wx ⟨rfl, rfl⟩)
  rw [rounds_succ]
  go_wp2_with fail
  go_region
  all_goals
    go_wp2_with fail
    refine bodyPost_ret (v := .tuple #[.agg #[.int .i64 0, .int .i64 0, .int .i64 0], .iface 159 (.pointer (some a2))]) (by simp [results, Tryz.results75, go_sem]; first | done | rfl) rfl ?_
    exact ⟨rfl, by go_grown⟩
set_option maxHeartbeats 2000000 in
theorem headOf_ok (t : ByteArray) (a1 a2 a3 a4 : Addr) (w : World) (hS : Sents a1 a2 a3 a4 w) (g b1 : Int) (hg : decide (g < 0) = false) (R1 : Hid (∀ x, Calls Tryz.prog 87 #[.string t, .int .i64 0] x fun e w' => e = .returned (.tuple #[.int .i64 g, .int .i64 b1, .nilIface]) ∧ w' = x)) (s b2 : Int) (hs : decide (s < 0) = false) (R2 : Hid (∀ x, Calls Tryz.prog 87 #[.string t, .int .i64 b1] x fun e w' => e = .returned (.tuple #[.int .i64 s, .int .i64 b2, .nilIface]) ∧ w' = x)) (z b3 : Int) (hz : decide (z < 0) = false) (R3 : Hid (∀ x, Calls Tryz.prog 87 #[.string t, .int .i64 b2] x fun e w' => e = .returned (.tuple #[.int .i64 z, .int .i64 b3, .nilIface]) ∧ w' = x)) (h4 : (b3 == (t.size : Int)) = true) (h4n : (b3 != (t.size : Int)) = false) (h5 : decide (2 ≤ s) = false) :
    Calls Tryz.prog 75 #[.string t] w fun e w' => e = .returned (.tuple #[.agg #[.int .i64 g, .int .i64 s, .int .i64 z], .nilIface]) ∧ Below w.heap.size w w' := by
  have g2 := hS.c2
  have hlt := World.block_lt_of_cell? w _ hS.c2
  have hlt : 1 < w.heap.size := hlt
  have gA : ∀ o1 o2, ((w.alloc o1).alloc o2).cell? ⟨1, 0, none⟩ = some (.iface 159 (.pointer (some a2))) := fun o1 o2 => by
    rw [World.cell?_alloc_lt _ _ ⟨1, 0, none⟩ (by simp <;> omega), World.cell?_alloc_lt _ _ ⟨1, 0, none⟩ hlt]; exact g2
  have gB : ∀ o1 o2 o3, (((w.alloc o1).alloc o2).alloc o3).cell? ⟨1, 0, none⟩ = some (.iface 159 (.pointer (some a2))) := fun o1 o2 o3 => by
    rw [World.cell?_alloc_lt _ _ ⟨1, 0, none⟩ (by simp <;> omega)]; exact gA o1 o2
  clear hS
  go_enter Tryz.func75, Tryz.ntmps75
  go_wp2_with fail
  refine wp_loop_rounds 4 ?_
  rw [rounds_succ]
  go_wp2_with (go_at_call 87; with_reducible refine (R1.out _).mono ?_; rintro e wx ⟨rfl, rfl⟩)
  rw [rounds_succ]
  go_wp2_with (go_at_call 87; with_reducible refine (R2.out _).mono ?_; rintro e wx ⟨rfl, rfl⟩)
  rw [rounds_succ]
  go_wp2_with (go_at_call 87; with_reducible refine (R3.out _).mono ?_; rintro e wx ⟨rfl, rfl⟩)
  rw [rounds_succ]
  go_wp2_with fail
  refine bodyPost_ret (v := .tuple #[.agg #[.int .i64 g, .int .i64 s, .int .i64 z], .nilIface]) (by simp [results, Tryz.results75, go_sem]; first | done | rfl) rfl ?_
  exact ⟨rfl, by go_grown⟩
end Go.Proofs.YtkhffoailfnepabGreatDoor
/-
  What the program's headOf answers, whole: the three numbers of a head's text, or that it is none.
  Conditions: the text fits the form's own reach; the sentinels are laid.
-/
namespace Go.Proofs.YtkhffoailfnepabGreatDoor
open Go.RowKit Go.Lib
set_option linter.unusedVariables false

theorem hoV_bad {t : ByteArray} {a2 : Addr} (h : ¬ HdI t) : hoV t a2 = .tuple #[.agg #[.int .i64 0, .int .i64 0, .int .i64 0], .iface 159 (.pointer (some a2))] := if_neg h
theorem headOf_any (t : ByteArray) (a1 a2 a3 a4 : Addr) (w : World) (hS : Sents a1 a2 a3 a4 w) (ht : t.size ≤ 8000) :
    Calls Tryz.prog 75 #[.string t] w fun e w' => e = .returned (hoV t a2) ∧ Below w.heap.size w w' := by
  have hm : t.size ≤ maxLen := by unfold maxLen; omega
  have key : ∀ (a : Int), a ≤ 9223372036854775807 → (∃ n b, getN t a = (n, b, 0) ∧ Hid (∀ x, Calls Tryz.prog 87 #[.string t, .int .i64 a] x fun e w' => e = .returned (.tuple #[.int .i64 n, .int .i64 b, .nilIface]) ∧ w' = x)) ∨ (∃ c, c ≠ 0 ∧ getN t a = (0, 0, c) ∧ Hid (∀ x, Calls Tryz.prog 87 #[.string t, .int .i64 a] x fun e w' => e = .returned (.tuple #[.int .i64 0, .int .i64 0, .iface 112 (.agg #[.int .i64 c])]) ∧ w' = x)) := fun a ha => by
    rcases getN_cases t a with ⟨n, b, h⟩ | ⟨c, hc, h⟩
    · refine .inl ⟨n, b, h, fun x => ?_⟩
      have := readNum_any t a x hm ha
      rw [rnV_okk h] at this
      exact this
    · refine .inr ⟨c, hc, h, fun x => ?_⟩
      have := readNum_any t a x hm ha
      rw [rnV_of h hc] at this
      exact this
  obtain ⟨-, -, n1, u3, u4⟩ := getN_bd t 0 ht
  rcases key 0 (by omega) with ⟨g, b1, E1, R1⟩ | ⟨c, hc, E1, R1⟩
  · have H1 : hd1 t = (g, b1, 0) := E1
    have e1 : b1 = (n1 : Int) := by
      have : (getN t ((0 : Nat) : Int)).2.1 = (n1 : Int) := u3
      rw [show ((0 : Nat) : Int) = 0 from rfl, E1] at this; exact this
    by_cases hg : g < 0
    · rw [hoV_bad (fun h => by have := h.1.2; rw [H1] at this; omega)]
      exact headOf_n1 t a1 a2 a3 a4 w hS g b1 (decide_eq_true hg) R1
    obtain ⟨-, -, n2, v3, v4⟩ := getN_bd t n1 ht
    rcases key b1 (by omega) with ⟨s, b2, E2, R2⟩ | ⟨c, hc, E2, R2⟩
    · have H2 : hd2 t = (s, b2, 0) := by unfold hd2; rw [H1]; exact E2
      have e2 : b2 = (n2 : Int) := by rw [← e1, E2] at v3; exact v3
      by_cases hs : s < 0
      · rw [hoV_bad (fun h => by have := h.2.1.2; rw [H2] at this; omega)]
        exact headOf_n2 t a1 a2 a3 a4 w hS g b1 (decide_eq_false hg) R1 s b2 (decide_eq_true hs) R2
      rcases key b2 (by omega) with ⟨z, b3, E3, R3⟩ | ⟨c, hc, E3, R3⟩
      · have H3 : hd3 t = (z, b3, 0) := by unfold hd3; rw [H2]; exact E3
        by_cases hz : z < 0
        · rw [hoV_bad (fun h => by have := h.2.2.1.2; rw [H3] at this; omega)]
          exact headOf_n3 t a1 a2 a3 a4 w hS g b1 (decide_eq_false hg) R1 s b2 (decide_eq_false hs) R2 z b3 (decide_eq_true hz) R3
        by_cases h4 : b3 = (t.size : Int)
        · by_cases h5 : 2 ≤ s
          · rw [hoV_bad (fun h => by have := h.2.2.2.2; rw [H2] at this; omega)]
            exact headOf_t2 t a1 a2 a3 a4 w hS g b1 (decide_eq_false hg) R1 s b2 (decide_eq_false hs) R2 z b3 (decide_eq_false hz) R3 (by simp [h4]) (by simp [h4]) (decide_eq_true h5)
          · have hk : HdI t := by
              unfold HdI; rw [H1, H2, H3]
              exact ⟨⟨rfl, by omega⟩, ⟨rfl, by omega⟩, ⟨rfl, by omega⟩, h4, by omega⟩
            have hv : hoV t a2 = .tuple #[.agg #[.int .i64 g, .int .i64 s, .int .i64 z], .nilIface] := by
              unfold hoV; rw [if_pos hk, H1, H2, H3]
            rw [hv]
            exact headOf_ok t a1 a2 a3 a4 w hS g b1 (decide_eq_false hg) R1 s b2 (decide_eq_false hs) R2 z b3 (decide_eq_false hz) R3 (by simp [h4]) (by simp [h4]) (decide_eq_false h5)
        · rw [hoV_bad (fun h => by have := h.2.2.2.1; rw [H3] at this; exact h4 this)]
          exact headOf_t1 t a1 a2 a3 a4 w hS g b1 (decide_eq_false hg) R1 s b2 (decide_eq_false hs) R2 z b3 (decide_eq_false hz) R3 (by simpa using h4) (by simpa using h4)
      · have H3 : hd3 t = (0, 0, c) := by unfold hd3; rw [H2]; exact E3
        rw [hoV_bad (fun h => by have := h.2.2.1.1; rw [H3] at this; exact hc this)]
        exact headOf_c3 t a1 a2 a3 a4 w hS g b1 (decide_eq_false hg) R1 s b2 (decide_eq_false hs) R2 c R3
    · have H2 : hd2 t = (0, 0, c) := by unfold hd2; rw [H1]; exact E2
      rw [hoV_bad (fun h => by have := h.2.1.1; rw [H2] at this; exact hc this)]
      exact headOf_c2 t a1 a2 a3 a4 w hS g b1 (decide_eq_false hg) R1 c R2
  · have H1 : hd1 t = (0, 0, c) := E1
    rw [hoV_bad (fun h => by have := h.1.1; rw [H1] at this; exact hc this)]
    exact headOf_c1 t a1 a2 a3 a4 w hS c R1
end Go.Proofs.YtkhffoailfnepabGreatDoor
