/-
  The program's halves: two slices over the first k and the other entries.
  Conditions: there are 2 or more.
-/
import Derived.Test.YtclpccnppmbpcaaDoorRows
import Derived.Test.YtclpccnppmbpcaaDoorBytes
import Derived.Test.YtclpccnppmbpcaaDoorTreeMath
import Derived.Test.YtclpccnppmbpcaaDoorSlA
import Derived.Test.YtclpccnppmbpcaaDoorPower
import Derived.Handy
import Derived.Deep.QuietTactic
import Derived.BigQuiet
namespace Go.Proofs.YtclpccnppmbpcaaDoor
open Go.RowKit Go.Lib
set_option linter.unusedVariables false

theorem belowDr {B : Nat} {a w : World} (h : Below B a w) (n : Nat) : Below B a (w.drewN n) := ⟨h.os, h.tape, h.output, h.size, h.block⟩
set_option maxHeartbeats 400000 in
theorem halves_any (b off n cap : Nat) (w : World) (h2 : 2 ≤ n) (hn : n ≤ 140737488355328) (hcap : n ≤ cap) :
    Calls Tryd.prog 94 #[.slice (some ⟨b, off, none⟩) n cap] w fun e w' =>
      e = .returned (.tuple #[.slice (some ⟨b, off, none⟩) (halfN n) (halfN n), .slice (some ⟨b, off + halfN n, none⟩) (n - halfN n) (n - halfN n)]) ∧ Below w.heap.size w w' := by
  have h1 := halfN_lt h2
  have h0 := halfN_pos n
  have hc := fun w => power_any n w h2 (by omega)
  generalize halfN n = k at *
  have q1 : (k : Int) ≤ cap := by omega
  have q2 : (k : Int) ≤ n := by omega
  have q3 : (n : Int) ≤ cap := by omega
  have q4 : ¬ n = k := by omega
  have q5 : (0 : Int) ≤ k := by omega
  go_enter Tryd.func94, Tryd.ntmps94
  go_wp2_with (go_at_call 101; refine (hc _).mono ?_; rintro e w1 ⟨rfl, rfl⟩)
  go_quiet (fail)
  go_wp2
  go_ret2
  exact ⟨rfl, belowDr (Below.refl _ _) _⟩
end Go.Proofs.YtclpccnppmbpcaaDoor
