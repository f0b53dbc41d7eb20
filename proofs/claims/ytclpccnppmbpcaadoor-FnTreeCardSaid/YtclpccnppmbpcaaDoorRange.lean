/-
  Is a Range right: the program's rangeRight and the specification's l03Range: 'rngB'.
  Conditions: Size is an int64; the cells of Nodes hold the texts.
-/
import Derived.Test.YtclpccnppmbpcaaDoorRows
import Derived.Test.YtclpccnppmbpcaaDoorBytes
import Derived.Test.YtclpccnppmbpcaaDoorSlA
import Derived.Test.YtclpccnppmbpcaaDoorWide2
import Derived.Test.YtclpccnppmbpcaaDoorOnesMathOnes
import Derived.Handy
import Derived.Deep.QuietTactic
import Derived.BigQuiet
namespace Go.Proofs.YtclpccnppmbpcaaDoor
open Go.RowKit Go.Lib
set_option linter.unusedVariables false
set_option maxRecDepth 20000

def rngB (n : Int) (ss : List ByteArray) : Bool := decide (0 ≤ n ∧ n ≤ 1000000) && (decide (ss.length = onesN n.toNat) && wideB ss)
theorem belowDn {B : Nat} {a w : World} (h : Below B a w) (n : Nat) : Below B a (w.drewN n) := ⟨h.os, h.tape, h.output, h.size, h.block⟩
theorem rngB_of {n : Int} {ss : List ByteArray} (h : rngB n ss = true) : 0 ≤ n ∧ n ≤ 1000000 ∧ ss.length = onesN n.toNat ∧ wideB ss = true := by
  unfold rngB at h; simp only [Bool.and_eq_true, decide_eq_true_eq] at h
  exact ⟨h.1.1, h.1.2, h.2.1, h.2.2⟩

set_option maxHeartbeats 1000000 in
theorem rangeRight_any (n : Int) (p : Option Addr) (cap : Nat) (ss : List ByteArray) (w : World) (hp : TxtAt w p ss) (hn : ss.length ≤ 140737488355328) (hcap : ss.length ≤ cap) (n0 : -9223372036854775808 ≤ n) (n1 : n ≤ 9223372036854775807) :
    Calls Tryd.prog 71 #[.agg #[.int .i64 n, .slice p ss.length cap]] w fun e w' => e = .returned (.bool (rngB n ss)) ∧ Below w.heap.size w w' := by
  have B0 : Hid (Below w.heap.size w (w.alloc (.cells #[.int .i64 n, .slice p ss.length cap] 48))) := (Below.refl _ _).alloc (Nat.le_refl _) _
  have HP : Hid (∀ m, TxtAt ((w.alloc (.cells #[.int .i64 n, .slice p ss.length cap] 48)).drewN m) p ss) := fun m => hp.below (belowDn B0.out m)
  clear hp
  have H0 : Hid (rngB n ss = (decide (0 ≤ n ∧ n ≤ 1000000) && (decide (ss.length = onesN n.toNat) && wideB ss))) := rfl
  by_cases c1 : 0 ≤ n
  case neg =>
    have d1 : decide (n < 0) = true := decide_eq_true (by omega)
    have H : Hid (rngB n ss = false) := by show _ = _; rw [H0.out, decide_eq_false (fun h => c1 h.1)]; rfl
    go_enter Tryd.func71, Tryd.ntmps71
    go_wp2_with fail
    go_ret
    exact ⟨ret_bool H.out.symm, B0.out⟩
  have d1 : decide (n < 0) = false := decide_eq_false (by omega)
  by_cases c2 : n ≤ 1000000
  case neg =>
    have d2 : decide (1000000 < n) = true := decide_eq_true (by omega)
    have H : Hid (rngB n ss = false) := by show _ = _; rw [H0.out, decide_eq_false (fun h => c2 h.2)]; rfl
    go_enter Tryd.func71, Tryd.ntmps71
    go_wp2_with fail
    go_ret
    exact ⟨ret_bool H.out.symm, B0.out⟩
  have d2 : decide (1000000 < n) = false := decide_eq_false (by omega)
  obtain ⟨I, rfl⟩ := Int.eq_ofNat_of_zero_le c1
  have d3 : decide (1000000 < I) = false := decide_eq_false (by omega)
  rw [decide_eq_true (show (0 : Int) ≤ I ∧ (I : Int) ≤ 1000000 from ⟨c1, c2⟩), Bool.true_and, Int.toNat_natCast] at H0
  have HO : Hid (∀ w, Calls Tryd.prog 98 #[.int .u64 (I : Int)] w fun e w' => e = .returned (.int .i64 (onesN I : Int)) ∧ w' = w) := fun w => ones64_any I w (by omega)
  by_cases c3 : ss.length = onesN I
  · have d4 : ((ss.length : Int) == (onesN I : Int)) = true := beq_iff_eq.2 (by omega)
    rw [decide_eq_true c3, Bool.true_and] at H0
    clear c3
    generalize onesN I = K at *
    go_enter Tryd.func71, Tryd.ntmps71
    go_wp2_with fail
    go_quiet (first
      | (go_at_call 98; refine Calls.quiet_of_same (HO.out _))
      | (go_at_call 72; refine Calls.quiet_of_same (areD_any p cap ss _ (HP.out _) hn hcap)))
    go_wp2_with fail
    go_ret
    exact ⟨ret_bool H0.out.symm, belowDn B0.out _⟩
  · have d4 : ((ss.length : Int) == (onesN I : Int)) = false := beq_eq_false_iff_ne.2 (by omega)
    have H : Hid (rngB I ss = false) := by show _ = _; rw [H0.out, decide_eq_false c3]; rfl
    clear c3 H0
    generalize onesN I = K at *
    go_enter Tryd.func71, Tryd.ntmps71
    go_wp2_with fail
    go_quiet (first
      | (go_at_call 98; refine Calls.quiet_of_same (HO.out _))
      | (go_at_call 72; refine Calls.quiet_of_same (areD_any p cap ss _ (HP.out _) hn hcap)))
    go_wp2_with fail
    go_ret
    exact ⟨ret_bool H.out.symm, belowDn B0.out _⟩

set_option maxHeartbeats 400000 in
theorem is_any (n : Int) (w : World) (n0 : -9223372036854775808 ≤ n) (n1 : n ≤ 9223372036854775807) :
    Calls Tryd.prog 103 #[.int .i64 n, .int .i64 0, .int .i64 1000000] w fun e w' => e = .returned (.bool (decide (0 ≤ n ∧ n ≤ 1000000))) ∧ w' = w := by
  by_cases c1 : 0 ≤ n
  · have d1 : decide (0 ≤ n) = true := decide_eq_true c1
    by_cases c2 : n ≤ 1000000
    · have d2 : decide (n ≤ 1000000) = true := decide_eq_true c2
      rw [decide_eq_true (And.intro c1 c2)]
      go_enter Tryd.func103, Tryd.ntmps103
      go_wp2_with fail
      go_ret
      exact ⟨rfl, rfl⟩
    · have d2 : decide (n ≤ 1000000) = false := decide_eq_false c2
      rw [decide_eq_false (fun h => c2 h.2)]
      go_enter Tryd.func103, Tryd.ntmps103
      go_wp2_with fail
      go_ret
      exact ⟨rfl, rfl⟩
  · have d1 : decide (0 ≤ n) = false := decide_eq_false c1
    rw [decide_eq_false (fun h => c1 h.1)]
    go_enter Tryd.func103, Tryd.ntmps103
    go_wp2_with fail
    go_ret
    exact ⟨rfl, rfl⟩

set_option maxHeartbeats 1000000 in
theorem range2_any (n : Int) (p : Option Addr) (cap : Nat) (ss : List ByteArray) (w : World) (hp : TxtAt w p ss) (hn : ss.length ≤ 140737488355328) (hcap : ss.length ≤ cap) (n0 : -9223372036854775808 ≤ n) (n1 : n ≤ 9223372036854775807) :
    Calls Tryd.prog 78 #[.agg #[.int .i64 n, .slice p ss.length cap]] w fun e w' => e = .returned (.bool (rngB n ss)) ∧ Below w.heap.size w w' := by
  have B0 : Hid (Below w.heap.size w (w.alloc (.cells #[.int .i64 n, .slice p ss.length cap] 48))) := (Below.refl _ _).alloc (Nat.le_refl _) _
  have HP : Hid (∀ m, TxtAt ((w.alloc (.cells #[.int .i64 n, .slice p ss.length cap] 48)).drewN m) p ss) := fun m => hp.below (belowDn B0.out m)
  clear hp
  have H0 : Hid (rngB n ss = (decide (0 ≤ n ∧ n ≤ 1000000) && (decide (ss.length = onesN n.toNat) && wideB ss))) := rfl
  have HI : Hid (∀ w, Calls Tryd.prog 103 #[.int .i64 n, .int .i64 0, .int .i64 1000000] w fun e w' => e = .returned (.bool (decide (0 ≤ n ∧ n ≤ 1000000))) ∧ w' = w) := fun w => is_any n w n0 n1
  by_cases c1 : 0 ≤ n ∧ n ≤ 1000000
  case neg =>
    rw [decide_eq_false c1] at HI
    have H : Hid (rngB n ss = false) := by show _ = _; rw [H0.out, decide_eq_false c1]; rfl
    clear c1 H0
    go_enter Tryd.func78, Tryd.ntmps78
    go_wp2_with fail
    go_quiet (first | (go_at_call 103; refine Calls.quiet_of_same (HI.out _)))
    go_wp2_with fail
    go_ret
    exact ⟨ret_bool H.out.symm, belowDn B0.out _⟩
  rw [decide_eq_true c1] at HI H0
  rw [Bool.true_and] at H0
  obtain ⟨c1, c2⟩ := c1
  obtain ⟨I, rfl⟩ := Int.eq_ofNat_of_zero_le c1
  rw [Int.toNat_natCast] at H0
  have HO : Hid (∀ w, Calls Tryd.prog 102 #[.int .i64 (I : Int)] w fun e w' => e = .returned (.int .i64 (onesN I : Int)) ∧ w' = w) := fun w => ones2_any I w (by omega)
  by_cases c3 : ss.length = onesN I
  · have d4 : ((ss.length : Int) == (onesN I : Int)) = true := beq_iff_eq.2 (by omega)
    rw [decide_eq_true c3, Bool.true_and] at H0
    clear c3
    generalize onesN I = K at *
    go_enter Tryd.func78, Tryd.ntmps78
    go_wp2_with fail
    go_quiet (first
      | (go_at_call 103; refine Calls.quiet_of_same (HI.out _))
      | (go_at_call 102; refine Calls.quiet_of_same (HO.out _))
      | (go_at_call 81; refine Calls.quiet_of_same (wide2_any p cap ss _ (HP.out _) hn hcap)))
    go_wp2_with fail
    go_ret
    exact ⟨ret_bool H0.out.symm, belowDn B0.out _⟩
  · have d4 : ((ss.length : Int) == (onesN I : Int)) = false := beq_eq_false_iff_ne.2 (by omega)
    have H : Hid (rngB I ss = false) := by show _ = _; rw [H0.out, decide_eq_false c3]; rfl
    clear c3 H0
    generalize onesN I = K at *
    go_enter Tryd.func78, Tryd.ntmps78
    go_wp2_with fail
    go_quiet (first
      | (go_at_call 103; refine Calls.quiet_of_same (HI.out _))
      | (go_at_call 102; refine Calls.quiet_of_same (HO.out _))
      | (go_at_call 81; refine Calls.quiet_of_same (wide2_any p cap ss _ (HP.out _) hn hcap)))
    go_wp2_with fail
    go_ret
    exact ⟨ret_bool H.out.symm, belowDn B0.out _⟩
end Go.Proofs.YtclpccnppmbpcaaDoor
