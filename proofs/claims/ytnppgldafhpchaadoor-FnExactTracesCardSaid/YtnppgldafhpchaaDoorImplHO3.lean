/-
  What the program's headOf answers: the three numbers of a head's text, or that it is none.
  Conditions: the text fits the form's own reach; the sentinels are laid.
-/
import Derived.Test.YtnppgldafhpchaaDoorRows
import Derived.Test.YtnppgldafhpchaaDoorBytes
import Derived.Test.YtnppgldafhpchaaDoorBxK
import Derived.Test.YtnppgldafhpchaaDoorScanMath
import Derived.Test.YtnppgldafhpchaaDoorPutTextGetValGetTxtScopes
import Derived.Test.YtnppgldafhpchaaDoorRdNumIAsDAs2CodeOfGetNumIRdTextIGetTextI
import Derived.Test.YtnppgldafhpchaaDoorAreaMath
import Derived.Test.YtnppgldafhpchaaDoorSen3PutMath
import Derived.Handy
import Derived.WalkSpells
namespace Go.Proofs.YtnppgldafhpchaaDoor
open Go.RowKit Go.Lib
set_option linter.unusedVariables false
set_option maxRecDepth 20000

/-- Three numbers not below 0, a side, and nothing behind them. -/
def HdI (t : ByteArray) : Prop :=
  ((hd1 t).2.2 = 0 ∧ 0 ≤ (hd1 t).1) ∧ ((hd2 t).2.2 = 0 ∧ 0 ≤ (hd2 t).1) ∧ ((hd3 t).2.2 = 0 ∧ 0 ≤ (hd3 t).1) ∧ (hd3 t).2.1 = (t.size : Int) ∧ (hd2 t).1 < 2
instance (t : ByteArray) : Decidable (HdI t) := by unfold HdI; infer_instance
def hoV (t : ByteArray) (a2 : Addr) : Value := if HdI t then .tuple #[.agg #[.int .i64 (hd1 t).1, .int .i64 (hd2 t).1, .int .i64 (hd3 t).1], .nilIface] else .tuple #[.agg #[.int .i64 0, .int .i64 0, .int .i64 0], .iface 107 (.pointer (some a2))]
set_option maxHeartbeats 2000000 in
theorem headOf_c1 (t : ByteArray) (a1 a2 a3 a4 : Addr) (w : World) (hS : Sents a1 a2 a3 a4 w) (c : Int) (R1 : Hid (∀ x, Calls Tryd.prog 53 #[.string t, .int .i64 0] x fun e w' => e = .returned (.tuple #[.int .i64 0, .int .i64 0, .iface 95 (.agg #[.int .i64 c])]) ∧ w' = x)) :
    Calls Tryd.prog 49 #[.string t] w fun e w' => e = .returned (.tuple #[.agg #[.int .i64 0, .int .i64 0, .int .i64 0], .iface 107 (.pointer (some a2))]) ∧ Below w.heap.size w w' := by
  have g2 := hS.c2
  have hlt := World.block_lt_of_cell? w _ hS.c2
  have hlt : 1 < w.heap.size := hlt
  have gA : ∀ o1 o2, ((w.alloc o1).alloc o2).cell? ⟨1, 0, none⟩ = some (.iface 107 (.pointer (some a2))) := fun o1 o2 => by
    rw [World.cell?_alloc_lt _ _ ⟨1, 0, none⟩ (by simp <;> omega), World.cell?_alloc_lt _ _ ⟨1, 0, none⟩ hlt]; exact g2
  have gB : ∀ o1 o2 o3, (((w.alloc o1).alloc o2).alloc o3).cell? ⟨1, 0, none⟩ = some (.iface 107 (.pointer (some a2))) := fun o1 o2 o3 => by
    rw [World.cell?_alloc_lt _ _ ⟨1, 0, none⟩ (by simp <;> omega)]; exact gA o1 o2
  clear hS
  go_enter Tryd.func49, Tryd.ntmps49
  go_wp2_with fail
  refine wp_loop_rounds 1 ?_
  rw [rounds_succ]
  go_wp2_with (go_at_call 53; with_reducible refine (R1.out _).mono ?_; rintro e wx ⟨rfl, rfl⟩)
  go_region
  all_goals
    go_wp2_with fail
    refine bodyPost_ret (v := .tuple #[.agg #[.int .i64 0, .int .i64 0, .int .i64 0], .iface 107 (.pointer (some a2))]) (by simp [results, Tryd.results49, go_sem]; first | done | rfl) rfl ?_
    exact ⟨rfl, by go_grown⟩
set_option maxHeartbeats 2000000 in
theorem headOf_n1 (t : ByteArray) (a1 a2 a3 a4 : Addr) (w : World) (hS : Sents a1 a2 a3 a4 w) (g b1 : Int) (hg : decide (g < 0) = true) (R1 : Hid (∀ x, Calls Tryd.prog 53 #[.string t, .int .i64 0] x fun e w' => e = .returned (.tuple #[.int .i64 g, .int .i64 b1, .nilIface]) ∧ w' = x)) :
    Calls Tryd.prog 49 #[.string t] w fun e w' => e = .returned (.tuple #[.agg #[.int .i64 0, .int .i64 0, .int .i64 0], .iface 107 (.pointer (some a2))]) ∧ Below w.heap.size w w' := by
  have g2 := hS.c2
  have hlt := World.block_lt_of_cell? w _ hS.c2
  have hlt : 1 < w.heap.size := hlt
  have gA : ∀ o1 o2, ((w.alloc o1).alloc o2).cell? ⟨1, 0, none⟩ = some (.iface 107 (.pointer (some a2))) := fun o1 o2 => by
    rw [World.cell?_alloc_lt _ _ ⟨1, 0, none⟩ (by simp <;> omega), World.cell?_alloc_lt _ _ ⟨1, 0, none⟩ hlt]; exact g2
  have gB : ∀ o1 o2 o3, (((w.alloc o1).alloc o2).alloc o3).cell? ⟨1, 0, none⟩ = some (.iface 107 (.pointer (some a2))) := fun o1 o2 o3 => by
    rw [World.cell?_alloc_lt _ _ ⟨1, 0, none⟩ (by simp <;> omega)]; exact gA o1 o2
  clear hS
  go_enter Tryd.func49, Tryd.ntmps49
  go_wp2_with fail
  refine wp_loop_rounds 1 ?_
  rw [rounds_succ]
  go_wp2_with (go_at_call 53; with_reducible refine (R1.out _).mono ?_; rintro e wx ⟨rfl, rfl⟩)
  go_region
  all_goals
    go_wp2_with fail
    refine bodyPost_ret (v := .tuple #[.agg #[.int .i64 0, .int .i64 0, .int .i64 0], .iface 107 (.pointer (some a2))]) (by simp [results, Tryd.results49, go_sem]; first | done | rfl) rfl ?_
    exact ⟨rfl, by go_grown⟩
set_option maxHeartbeats 2000000 in
theorem headOf_c2 (t : ByteArray) (a1 a2 a3 a4 : Addr) (w : World) (hS : Sents a1 a2 a3 a4 w) (g b1 : Int) (hg : decide (g < 0) = false) (R1 : Hid (∀ x, Calls Tryd.prog 53 #[.string t, .int .i64 0] x fun e w' => e = .returned (.tuple #[.int .i64 g, .int .i64 b1, .nilIface]) ∧ w' = x)) (c : Int) (R2 : Hid (∀ x, Calls Tryd.prog 53 #[.string t, .int .i64 b1] x fun e w' => e = .returned (.tuple #[.int .i64 0, .int .i64 0, .iface 95 (.agg #[.int .i64 c])]) ∧ w' = x)) :
    Calls Tryd.prog 49 #[.string t] w fun e w' => e = .returned (.tuple #[.agg #[.int .i64 0, .int .i64 0, .int .i64 0], .iface 107 (.pointer (some a2))]) ∧ Below w.heap.size w w' := by
  have g2 := hS.c2
  have hlt := World.block_lt_of_cell? w _ hS.c2
  have hlt : 1 < w.heap.size := hlt
  have gA : ∀ o1 o2, ((w.alloc o1).alloc o2).cell? ⟨1, 0, none⟩ = some (.iface 107 (.pointer (some a2))) := fun o1 o2 => by
    rw [World.cell?_alloc_lt _ _ ⟨1, 0, none⟩ (by simp <;> omega), World.cell?_alloc_lt _ _ ⟨1, 0, none⟩ hlt]; exact g2
  have gB : ∀ o1 o2 o3, (((w.alloc o1).alloc o2).alloc o3).cell? ⟨1, 0, none⟩ = some (.iface 107 (.pointer (some a2))) := fun o1 o2 o3 => by
    rw [World.cell?_alloc_lt _ _ ⟨1, 0, none⟩ (by simp <;> omega)]; exact gA o1 o2
  clear hS
  go_enter Tryd.func49, Tryd.ntmps49
  go_wp2_with fail
  refine wp_loop_rounds 2 ?_
  rw [rounds_succ]
  go_wp2_with (go_at_call 53; with_reducible refine (R1.out _).mono ?_; rintro e wx ⟨rfl, rfl⟩)
  rw [rounds_succ]
  go_wp2_with (go_at_call 53; with_reducible refine (R2.out _).mono ?_; rintro e wx ⟨rfl, rfl⟩)
  go_region
  all_goals
    go_wp2_with fail
    refine bodyPost_ret (v := .tuple #[.agg #[.int .i64 0, .int .i64 0, .int .i64 0], .iface 107 (.pointer (some a2))]) (by simp [results, Tryd.results49, go_sem]; first | done | rfl) rfl ?_
    exact ⟨rfl, by go_grown⟩
set_option maxHeartbeats 2000000 in
theorem headOf_n2 (t : ByteArray) (a1 a2 a3 a4 : Addr) (w : World) (hS : Sents a1 a2 a3 a4 w) (g b1 : Int) (hg : decide (g < 0) = false) (R1 : Hid (∀ x, Calls Tryd.prog 53 #[.string t, .int .i64 0] x fun e w' => e = .returned (.tuple #[.int .i64 g, .int .i64 b1, .nilIface]) ∧ w' = x)) (s b2 : Int) (hs : decide (s < 0) = true) (R2 : Hid (∀ x, Calls Tryd.prog 53 #[.string t, .int .i64 b1] x fun e w' => e = .returned (.tuple #[.int .i64 s, .int .i64 b2, .nilIface]) ∧ w' = x)) :
    Calls Tryd.prog 49 #[.string t] w fun e w' => e = .returned (.tuple #[.agg #[.int .i64 0, .int .i64 0, .int .i64 0], .iface 107 (.pointer (some a2))]) ∧ Below w.heap.size w w' := by
  have g2 := hS.c2
  have hlt := World.block_lt_of_cell? w _ hS.c2
  have hlt : 1 < w.heap.size := hlt
  have gA : ∀ o1 o2, ((w.alloc o1).alloc o2).cell? ⟨1, 0, none⟩ = some (.iface 107 (.pointer (some a2))) := fun o1 o2 => by
    rw [World.cell?_alloc_lt _ _ ⟨1, 0, none⟩ (by simp <;> omega), World.cell?_alloc_lt _ _ ⟨1, 0, none⟩ hlt]; exact g2
  have gB : ∀ o1 o2 o3, (((w.alloc o1).alloc o2).alloc o3).cell? ⟨1, 0, none⟩ = some (.iface 107 (.pointer (some a2))) := fun o1 o2 o3 => by
    rw [World.cell?_alloc_lt _ _ ⟨1, 0, none⟩ (by simp <;> omega)]; exact gA o1 o2
  clear hS
  go_enter Tryd.func49, Tryd.ntmps49
  go_wp2_with fail
  refine wp_loop_rounds 2 ?_
  rw [rounds_succ]
  go_wp2_with (go_at_call 53; with_reducible refine (R1.out _).mono ?_; rintro e wx ⟨rfl, rfl⟩)
  rw [rounds_succ]
  go_wp2_with (go_at_call 53; with_reducible refine (R2.out _).mono ?_; rintro e wx ⟨rfl, rfl⟩)
  go_region
  all_goals
    go_wp2_with fail
    refine bodyPost_ret (v := .tuple #[.agg #[.int .i64 0, .int .i64 0, .int .i64 0], .iface 107 (.pointer (some a2))]) (by simp [results, Tryd.results49, go_sem]; first | done | rfl) rfl ?_
    exact ⟨rfl, by go_grown⟩
set_option maxHeartbeats 2000000 in
theorem headOf_c3 (t : ByteArray) (a1 a2 a3 a4 : Addr) (w : World) (hS : Sents a1 a2 a3 a4 w) (g b1 : Int) (hg : decide (g < 0) = false) (R1 : Hid (∀ x, Calls Tryd.prog 53 #[.string t, .int .i64 0] x fun e w' => e = .returned (.tuple #[.int .i64 g, .int .i64 b1, .nilIface]) ∧ w' = x)) (s b2 : Int) (hs : decide (s < 0) = false) (R2 : Hid (∀ x, Calls Tryd.prog 53 #[.string t, .int .i64 b1] x fun e w' => e = .returned (.tuple #[.int .i64 s, .int .i64 b2, .nilIface]) ∧ w' = x)) (c : Int) (R3 : Hid (∀ x, Calls Tryd.prog 53 #[.string t, .int .i64 b2] x fun e w' => e = .returned (.tuple #[.int .i64 0, .int .i64 0, .iface 95 (.agg #[.int .i64 c])]) ∧ w' = x)) :
    Calls Tryd.prog 49 #[.string t] w fun e w' => e = .returned (.tuple #[.agg #[.int .i64 0, .int .i64 0, .int .i64 0], .iface 107 (.pointer (some a2))]) ∧ Below w.heap.size w w' := by
  have g2 := hS.c2
  have hlt := World.block_lt_of_cell? w _ hS.c2
  have hlt : 1 < w.heap.size := hlt
  have gA : ∀ o1 o2, ((w.alloc o1).alloc o2).cell? ⟨1, 0, none⟩ = some (.iface 107 (.pointer (some a2))) := fun o1 o2 => by
    rw [World.cell?_alloc_lt _ _ ⟨1, 0, none⟩ (by simp <;> omega), World.cell?_alloc_lt _ _ ⟨1, 0, none⟩ hlt]; exact g2
  have gB : ∀ o1 o2 o3, (((w.alloc o1).alloc o2).alloc o3).cell? ⟨1, 0, none⟩ = some (.iface 107 (.pointer (some a2))) := fun o1 o2 o3 => by
    rw [World.cell?_alloc_lt _ _ ⟨1, 0, none⟩ (by simp <;> omega)]; exact gA o1 o2
  clear hS
  go_enter Tryd.func49, Tryd.ntmps49
  go_wp2_with fail
  refine wp_loop_rounds 3 ?_
  rw [rounds_succ]
  go_wp2_with (go_at_call 53; with_reducible refine (R1.out _).mono ?_; rintro e wx ⟨rfl, rfl⟩)
  rw [rounds_succ]
  go_wp2_with (go_at_call 53; with_reducible refine (R2.out _).mono ?_; rintro e wx ⟨rfl, rfl⟩)
  rw [rounds_succ]
  go_wp2_with (go_at_call 53; with_reducible refine (R3.out _).mono ?_; rintro e wx ⟨rfl, rfl⟩)
  go_region
  all_goals
    go_wp2_with fail
    refine bodyPost_ret (v := .tuple #[.agg #[.int .i64 0, .int .i64 0, .int .i64 0], .iface 107 (.pointer (some a2))]) (by simp [results, Tryd.results49, go_sem]; first | done | rfl) rfl ?_
    exact ⟨rfl, by go_grown⟩
set_option maxHeartbeats 2000000 in
theorem headOf_n3 (t : ByteArray) (a1 a2 a3 a4 : Addr) (w : World) (hS : Sents a1 a2 a3 a4 w) (g b1 : Int) (hg : decide (g < 0) = false) (R1 : Hid (∀ x, Calls Tryd.prog 53 #[.string t, .int .i64 0] x fun e w' => e = .returned (.tuple #[.int .i64 g, .int .i64 b1, .nilIface]) ∧ w' = x)) (s b2 : Int) (hs : decide (s < 0) = false) (R2 : Hid (∀ x, Calls Tryd.prog 53 #[.string t, .int .i64 b1] x fun e w' => e = .returned (.tuple #[.int .i64 s, .int .i64 b2, .nilIface]) ∧ w' = x)) (z b3 : Int) (hz : decide (z < 0) = true) (R3 : Hid (∀ x, Calls Tryd.prog 53 #[.string t, .int .i64 b2] x fun e w' => e = .returned (.tuple #[.int .i64 z, .int .i64 b3, .nilIface]) ∧ w' = x)) :
    Calls Tryd.prog 49 #[.string t] w fun e w' => e = .returned (.tuple #[.agg #[.int .i64 0, .int .i64 0, .int .i64 0], .iface 107 (.pointer (some a2))]) ∧ Below w.heap.size w w' := by
  have g2 := hS.c2
  have hlt := World.block_lt_of_cell? w _ hS.c2
  have hlt : 1 < w.heap.size := hlt
  have gA : ∀ o1 o2, ((w.alloc o1).alloc o2).cell? ⟨1, 0, none⟩ = some (.iface 107 (.pointer (some a2))) := fun o1 o2 => by
    rw [World.cell?_alloc_lt _ _ ⟨1, 0, none⟩ (by simp <;> omega), World.cell?_alloc_lt _ _ ⟨1, 0, none⟩ hlt]; exact g2
  have gB : ∀ o1 o2 o3, (((w.alloc o1).alloc o2).alloc o3).cell? ⟨1, 0, none⟩ = some (.iface 107 (.pointer (some a2))) := fun o1 o2 o3 => by
    rw [World.cell?_alloc_lt _ _ ⟨1, 0, none⟩ (by simp <;> omega)]; exact gA o1 o2
  clear hS
  go_enter Tryd.func49, Tryd.ntmps49
  go_wp2_with fail
  refine wp_loop_rounds 3 ?_
  rw [rounds_succ]
  go_wp2_with (go_at_call 53; with_reducible refine (R1.out _).mono ?_; rintro e wx ⟨rfl, rfl⟩)
  rw [rounds_succ]
  go_wp2_with (go_at_call 53; with_reducible refine (R2.out _).mono ?_; rintro e wx ⟨rfl, rfl⟩)
  rw [rounds_succ]
  go_wp2_with (go_at_call 53; with_reducible refine (R3.out _).mono ?_; rintro e wx ⟨rfl, rfl⟩)
  go_region
  all_goals
    go_wp2_with fail
    refine bodyPost_ret (v := .tuple #[.agg #[.int .i64 0, .int .i64 0, .int .i64 0], .iface 107 (.pointer (some a2))]) (by simp [results, Tryd.results49, go_sem]; first | done | rfl) rfl ?_
    exact ⟨rfl, by go_grown⟩
set_option maxHeartbeats 2000000 in
theorem headOf_t1 (t : ByteArray) (a1 a2 a3 a4 : Addr) (w : World) (hS : Sents a1 a2 a3 a4 w) (g b1 : Int) (hg : decide (g < 0) = false) (R1 : Hid (∀ x, Calls Tryd.prog 53 #[.string t, .int .i64 0] x fun e w' => e = .returned (.tuple #[.int .i64 g, .int .i64 b1, .nilIface]) ∧ w' = x)) (s b2 : Int) (hs : decide (s < 0) = false) (R2 : Hid (∀ x, Calls Tryd.prog 53 #[.string t, .int .i64 b1] x fun e w' => e = .returned (.tuple #[.int .i64 s, .int .i64 b2, .nilIface]) ∧ w' = x)) (z b3 : Int) (hz : decide (z < 0) = false) (R3 : Hid (∀ x, Calls Tryd.prog 53 #[.string t, .int .i64 b2] x fun e w' => e = .returned (.tuple #[.int .i64 z, .int .i64 b3, .nilIface]) ∧ w' = x)) (h4 : (b3 == (t.size : Int)) = false) (h4n : (b3 != (t.size : Int)) = true) :
    Calls Tryd.prog 49 #[.string t] w fun e w' => e = .returned (.tuple #[.agg #[.int .i64 0, .int .i64 0, .int .i64 0], .iface 107 (.pointer (some a2))]) ∧ Below w.heap.size w w' := by
  have g2 := hS.c2
  have hlt := World.block_lt_of_cell? w _ hS.c2
  have hlt : 1 < w.heap.size := hlt
  have gA : ∀ o1 o2, ((w.alloc o1).alloc o2).cell? ⟨1, 0, none⟩ = some (.iface 107 (.pointer (some a2))) := fun o1 o2 => by
    rw [World.cell?_alloc_lt _ _ ⟨1, 0, none⟩ (by simp <;> omega), World.cell?_alloc_lt _ _ ⟨1, 0, none⟩ hlt]; exact g2
  have gB : ∀ o1 o2 o3, (((w.alloc o1).alloc o2).alloc o3).cell? ⟨1, 0, none⟩ = some (.iface 107 (.pointer (some a2))) := fun o1 o2 o3 => by
    rw [World.cell?_alloc_lt _ _ ⟨1, 0, none⟩ (by simp <;> omega)]; exact gA o1 o2
  clear hS
  go_enter Tryd.func49, Tryd.ntmps49
  go_wp2_with fail
  refine wp_loop_rounds 4 ?_
  rw [rounds_succ]
  go_wp2_with (go_at_call 53; with_reducible refine (R1.out _).mono ?_; rintro e wx ⟨rfl, rfl⟩)
  rw [rounds_succ]
  go_wp2_with (go_at_call 53; with_reducible refine (R2.out _).mono ?_; rintro e wx ⟨rfl, rfl⟩)
  rw [rounds_succ]
  go_wp2_with (go_at_call 53; with_reducible refine (R3.out _).mono ?_; rintro e wx ⟨rfl, rfl⟩)
  rw [rounds_succ]
  go_wp2_with fail
  go_region
  all_goals
    go_wp2_with fail
    refine bodyPost_ret (v := .tuple #[.agg #[.int .i64 0, .int .i64 0, .int .i64 0], .iface 107 (.pointer (some a2))]) (by simp [results, Tryd.results49, go_sem]; first | done | rfl) rfl ?_
    exact ⟨rfl, by go_grown⟩
set_option maxHeartbeats 2000000 in
theorem headOf_t2 (t : ByteArray) (a1 a2 a3 a4 : Addr) (w : World) (hS : Sents a1 a2 a3 a4 w) (g b1 : Int) (hg : decide (g < 0) = false) (R1 : Hid (∀ x, Calls Tryd.prog 53 #[.string t, .int .i64 0] x fun e w' => e = .returned (.tuple #[.int .i64 g, .int .i64 b1, .nilIface]) ∧ w' = x)) (s b2 : Int) (hs : decide (s < 0) = false) (R2 : Hid (∀ x, Calls Tryd.prog 53 #[.string t, .int .i64 b1] x fun e w' => e = .returned (.tuple #[.int .i64 s, .int .i64 b2, .nilIface]) ∧ w' = x)) (z b3 : Int) (hz : decide (z < 0) = false) (R3 : Hid (∀ x, Calls Tryd.prog 53 #[.string t, .int .i64 b2] x fun e w' => e = .returned (.tuple #[.int .i64 z, .int .i64 b3, .nilIface]) ∧ w' = x)) (h4 : (b3 == (t.size : Int)) = true) (h4n : (b3 != (t.size : Int)) = false) (h5 : decide (2 ≤ s) = true) :
    Calls Tryd.prog 49 #[.string t] w fun e w' => e = .returned (.tuple #[.agg #[.int .i64 0, .int .i64 0, .int .i64 0], .iface 107 (.pointer (some a2))]) ∧ Below w.heap.size w w' := by
  have g2 := hS.c2
  have hlt := World.block_lt_of_cell? w _ hS.c2
  have hlt : 1 < w.heap.size := hlt
  have gA : ∀ o1 o2, ((w.alloc o1).alloc o2).cell? ⟨1, 0, none⟩ = some (.iface 107 (.pointer (some a2))) := fun o1 o2 => by
    rw [World.cell?_alloc_lt _ _ ⟨1, 0, none⟩ (by simp <;> omega), World.cell?_alloc_lt _ _ ⟨1, 0, none⟩ hlt]; exact g2
  have gB : ∀ o1 o2 o3, (((w.alloc o1).alloc o2).alloc o3).cell? ⟨1, 0, none⟩ = some (.iface 107 (.pointer (some a2))) := fun o1 o2 o3 => by
    rw [World.cell?_alloc_lt _ _ ⟨1, 0, none⟩ (by simp <;> omega)]; exact gA o1 o2
  clear hS
  go_enter Tryd.func49, Tryd.ntmps49
  go_wp2_with fail
  refine wp_loop_rounds 4 ?_
  rw [rounds_succ]
  go_wp2_with (go_at_call 53; with_reducible refine (R1.out _).mono ?_; rintro e wx ⟨rfl, rfl⟩)
  rw [rounds_succ]
  go_wp2_with (go_at_call 53; with_reducible refine (R2.out _).mono ?_; rintro e wx ⟨rfl, rfl⟩)
  rw [rounds_succ]
  go_wp2_with (go_at_call 53; with_reducible refine (R3.out _).mono ?_; rintro e wx ⟨rfl, rfl⟩)
  rw [rounds_succ]
  go_wp2_with fail
  go_region
  all_goals
    go_wp2_with fail
    refine bodyPost_ret (v := .tuple #[.agg #[.int .i64 0, .int .i64 0, .int .i64 0], .iface 107 (.pointer (some a2))]) (by simp [results, Tryd.results49, go_sem]; first | done | rfl) rfl ?_
    exact ⟨rfl, by go_grown⟩
set_option maxHeartbeats 2000000 in
theorem headOf_ok (t : ByteArray) (a1 a2 a3 a4 : Addr) (w : World) (hS : Sents a1 a2 a3 a4 w) (g b1 : Int) (hg : decide (g < 0) = false) (R1 : Hid (∀ x, Calls Tryd.prog 53 #[.string t, .int .i64 0] x fun e w' => e = .returned (.tuple #[.int .i64 g, .int .i64 b1, .nilIface]) ∧ w' = x)) (s b2 : Int) (hs : decide (s < 0) = false) (R2 : Hid (∀ x, Calls Tryd.prog 53 #[.string t, .int .i64 b1] x fun e w' => e = .returned (.tuple #[.int .i64 s, .int .i64 b2, .nilIface]) ∧ w' = x)) (z b3 : Int) (hz : decide (z < 0) = false) (R3 : Hid (∀ x, Calls Tryd.prog 53 #[.string t, .int .i64 b2] x fun e w' => e = .returned (.tuple #[.int .i64 z, .int .i64 b3, .nilIface]) ∧ w' = x)) (h4 : (b3 == (t.size : Int)) = true) (h4n : (b3 != (t.size : Int)) = false) (h5 : decide (2 ≤ s) = false) :
    Calls Tryd.prog 49 #[.string t] w fun e w' => e = .returned (.tuple #[.agg #[.int .i64 g, .int .i64 s, .int .i64 z], .nilIface]) ∧ Below w.heap.size w w' := by
  have g2 := hS.c2
  have hlt := World.block_lt_of_cell? w _ hS.c2
  have hlt : 1 < w.heap.size := hlt
  have gA : ∀ o1 o2, ((w.alloc o1).alloc o2).cell? ⟨1, 0, none⟩ = some (.iface 107 (.pointer (some a2))) := fun o1 o2 => by
    rw [World.cell?_alloc_lt _ _ ⟨1, 0, none⟩ (by simp <;> omega), World.cell?_alloc_lt _ _ ⟨1, 0, none⟩ hlt]; exact g2
  have gB : ∀ o1 o2 o3, (((w.alloc o1).alloc o2).alloc o3).cell? ⟨1, 0, none⟩ = some (.iface 107 (.pointer (some a2))) := fun o1 o2 o3 => by
    rw [World.cell?_alloc_lt _ _ ⟨1, 0, none⟩ (by simp <;> omega)]; exact gA o1 o2
  clear hS
  go_enter Tryd.func49, Tryd.ntmps49
  go_wp2_with fail
  refine wp_loop_rounds 4 ?_
  rw [rounds_succ]
  go_wp2_with (go_at_call 53; with_reducible refine (R1.out _).mono ?_; rintro e wx ⟨rfl, rfl⟩)
  rw [rounds_succ]
  go_wp2_with (go_at_call 53; with_reducible refine (R2.out _).mono ?_; rintro e wx ⟨rfl, rfl⟩)
  rw [rounds_succ]
  go_wp2_with (go_at_call 53; with_reducible refine (R3.out _).mono ?_; rintro e wx ⟨rfl, rfl⟩)
  rw [rounds_succ]
  go_wp2_with fail
  refine bodyPost_ret (v := .tuple #[.agg #[.int .i64 g, .int .i64 s, .int .i64 z], .nilIface]) (by simp [results, Tryd.results49, go_sem]; first | done | rfl) rfl ?_
  exact ⟨rfl, by go_grown⟩
end Go.Proofs.YtnppgldafhpchaaDoor
