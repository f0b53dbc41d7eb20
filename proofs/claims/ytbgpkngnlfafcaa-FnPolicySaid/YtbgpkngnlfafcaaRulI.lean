/-
  What the program's ruleRight and heldRowRight answer.
-/
import Derived.Test.YtbgpkngnlfafcaaRows
import Derived.Test.YtbgpkngnlfafcaaBytes
import Derived.Test.YtbgpkngnlfafcaaNameRight
import Derived.Test.YtbgpkngnlfafcaaTimeB
import Derived.Test.YtbgpkngnlfafcaaTimeI
import Derived.Test.YtbgpkngnlfafcaaRulMath
import Derived.Handy
import Derived.WalkSpells
import Derived.OwnWalk
namespace Go.Proofs.Ytbgpkngnlfafcaa
open Go.RowKit Go.Lib
set_option linter.unusedVariables false
set_option maxRecDepth 20000

set_option maxHeartbeats 2000000 in
theorem ruleRight_any (k f : ByteArray) (l m : Int) (w : World) (hk : k.size ≤ maxLen) (hf : f.size ≤ maxLen) :
    Calls Try.prog 22 #[.agg #[.string k, .string f, .int .i64 l, .int .i64 m]] w fun e w' => e = .returned (.bool (rlB k f l m)) ∧ Below w.heap.size w w' := by
  have B1 : Below w.heap.size w (w.alloc (.cells #[.string k, .string f, .int .i64 l, .int .i64 m] 28)) := (Below.refl _ _).alloc (Nat.le_refl _) _
  have h1 := implNameRight_any k (w.alloc (.cells #[.string k, .string f, .int .i64 l, .int .i64 m] 28)) hk
  have h2 := implNameRight_any f (w.alloc (.cells #[.string k, .string f, .int .i64 l, .int .i64 m] 28)) hf
  have h3 := timeRight_any l (w.alloc (.cells #[.string k, .string f, .int .i64 l, .int .i64 m] 28))
  have h4 := timeRight_any m (w.alloc (.cells #[.string k, .string f, .int .i64 l, .int .i64 m] 28))
  unfold rlB
  generalize nrB k = b1 at *
  generalize nrB f = b2 at *
  generalize timeB l = b3 at *
  generalize timeB m = b4 at *
  cases b1
  · go_enter Try.func22, Try.ntmps22
    go_wp2_with fail
    refine h1.mono ?_
    rintro e w1 ⟨rfl, rfl⟩
    go_wp2_with fail
    go_ret
    exact ⟨rfl, B1⟩
  · skip
    cases b2
    · go_enter Try.func22, Try.ntmps22
      go_wp2_with fail
      refine h1.mono ?_
      rintro e w1 ⟨rfl, rfl⟩
      go_wp2_with fail
      refine h2.mono ?_
      rintro e w2 ⟨rfl, rfl⟩
      go_wp2_with fail
      go_ret
      exact ⟨rfl, B1⟩
    · skip
      cases b3
      · go_enter Try.func22, Try.ntmps22
        go_wp2_with fail
        refine h1.mono ?_
        rintro e w1 ⟨rfl, rfl⟩
        go_wp2_with fail
        refine h2.mono ?_
        rintro e w2 ⟨rfl, rfl⟩
        go_wp2_with fail
        refine h3.mono ?_
        rintro e w3 ⟨rfl, rfl⟩
        go_wp2_with fail
        go_ret
        exact ⟨rfl, B1⟩
      · skip
        cases b4
        · go_enter Try.func22, Try.ntmps22
          go_wp2_with fail
          refine h1.mono ?_
          rintro e w1 ⟨rfl, rfl⟩
          go_wp2_with fail
          refine h2.mono ?_
          rintro e w2 ⟨rfl, rfl⟩
          go_wp2_with fail
          refine h3.mono ?_
          rintro e w3 ⟨rfl, rfl⟩
          go_wp2_with fail
          refine h4.mono ?_
          rintro e w4 ⟨rfl, rfl⟩
          go_wp2_with fail
          go_ret
          exact ⟨rfl, B1⟩
        · skip
          by_cases hd : l ≤ m
          · have d1 : decide (l ≤ m) = true := decide_eq_true hd
            rw [d1]
            clear hd
            go_enter Try.func22, Try.ntmps22
            go_wp2_with fail
            refine h1.mono ?_
            rintro e w1 ⟨rfl, rfl⟩
            go_wp2_with fail
            refine h2.mono ?_
            rintro e w2 ⟨rfl, rfl⟩
            go_wp2_with fail
            refine h3.mono ?_
            rintro e w3 ⟨rfl, rfl⟩
            go_wp2_with fail
            refine h4.mono ?_
            rintro e w4 ⟨rfl, rfl⟩
            go_wp2_with fail
            go_ret
            exact ⟨rfl, B1⟩
          · have d1 : decide (l ≤ m) = false := decide_eq_false hd
            rw [d1]
            clear hd
            go_enter Try.func22, Try.ntmps22
            go_wp2_with fail
            refine h1.mono ?_
            rintro e w1 ⟨rfl, rfl⟩
            go_wp2_with fail
            refine h2.mono ?_
            rintro e w2 ⟨rfl, rfl⟩
            go_wp2_with fail
            refine h3.mono ?_
            rintro e w3 ⟨rfl, rfl⟩
            go_wp2_with fail
            refine h4.mono ?_
            rintro e w4 ⟨rfl, rfl⟩
            go_wp2_with fail
            go_ret
            exact ⟨rfl, B1⟩

theorem heldRowRight_any (n : Int) (w : World) : Calls Try.prog 29 #[.int .i64 n] w fun e w' => e = .returned (.bool (decide (0 ≤ n ∧ n ≤ 5))) ∧ w' = w := by
  by_cases h1 : 0 ≤ n
  · have d1 : decide (0 ≤ n) = true := decide_eq_true h1
    by_cases h2 : n ≤ 5
    · have d2 : decide (n < 6) = true := decide_eq_true (by omega)
      rw [decide_eq_true (And.intro h1 h2)]
      clear h1 h2
      go_enter Try.func29, Try.ntmps29
      go_wp2_with fail
      go_ret
      exact ⟨rfl, rfl⟩
    · have d2 : decide (n < 6) = false := decide_eq_false (by omega)
      rw [decide_eq_false (fun h => h2 h.2)]
      clear h1 h2
      go_enter Try.func29, Try.ntmps29
      go_wp2_with fail
      go_ret
      exact ⟨rfl, rfl⟩
  · have d1 : decide (0 ≤ n) = false := decide_eq_false h1
    rw [decide_eq_false (fun h => h1 h.1)]
    clear h1
    go_enter Try.func29, Try.ntmps29
    go_wp2_with fail
    go_ret
    exact ⟨rfl, rfl⟩
end Go.Proofs.Ytbgpkngnlfafcaa
