/-
  What the specification's l10Rule and l10Less answer.
-/
import Derived.Test.YtokkeadbkeehgaaGreatDoorRows
import Derived.Test.YtokkeadbkeehgaaGreatDoorBytesDigMathTreeMathSlASlBBxKOwnSTakesLTillTwo
import Derived.Test.YtokkeadbkeehgaaGreatDoorNameRight
import Derived.Test.YtokkeadbkeehgaaGreatDoorTimeBPutMathPutNumJoinedPutTextFldMathFldRiseScanMath
import Derived.Test.YtokkeadbkeehgaaGreatDoorAll2FldIsFldC
import Derived.Test.YtokkeadbkeehgaaGreatDoorLgAtKShwKOneKFldGFldBlkRwBlkIntKLawILawOGLawImBlNotRulMathAppS
import Derived.Handy
import Derived.WalkSpells
import Derived.OwnWalk
namespace Go.Proofs.YtokkeadbkeehgaaGreatDoor
open Go.RowKit Go.Lib
set_option linter.unusedVariables false
set_option maxRecDepth 20000

set_option maxHeartbeats 2000000 in
theorem l10Rule_any (k f : ByteArray) (l m : Int) (w : World) (hk : k.size ≤ maxLen) (hf : f.size ≤ maxLen) :
    Calls Tryz.prog 64 #[.agg #[.string k, .string f, .int .i64 l, .int .i64 m]] w fun e w' => e = .returned (.bool (rulB k f l m)) ∧ Below w.heap.size w w' := by
  have B1 : Below w.heap.size w (w.alloc (.cells #[.string k, .string f, .int .i64 l, .int .i64 m] 101)) := (Below.refl _ _).alloc (Nat.le_refl _) _
  have h1 := specNameRight_any k (w.alloc (.cells #[.string k, .string f, .int .i64 l, .int .i64 m] 101)) hk
  have h2 := specNameRight_any f (w.alloc (.cells #[.string k, .string f, .int .i64 l, .int .i64 m] 101)) hf
  have h3 := l07Time_any l (w.alloc (.cells #[.string k, .string f, .int .i64 l, .int .i64 m] 101))
  have h4 := l07Time_any m (w.alloc (.cells #[.string k, .string f, .int .i64 l, .int .i64 m] 101))
  unfold rulB
  generalize nrB k = b1 at *
  generalize nrB f = b2 at *
  generalize timeB l = b3 at *
  generalize timeB m = b4 at *
  cases b1
  · go_enter Tryz.func64, Tryz.ntmps64
    go_wp2_with fail
    refine h1.mono ?_
    rintro e w1 ⟨rfl, rfl⟩
    go_wp2_with fail
    go_ret
    exact ⟨rfl, B1⟩
  · skip
    cases b2
    · go_enter Tryz.func64, Tryz.ntmps64
      go_wp2_with fail
      refine h1.mono ?_
      rintro e w1 ⟨rfl, rfl⟩
      go_wp2_with fail
      refine h2.mono ?_
      rintro e w2 ⟨rfl, rfl⟩
      go_wp2_with fail
      go_ret
      exact ⟨rfl, B1⟩
    · skip
      cases b3
      · go_enter Tryz.func64, Tryz.ntmps64
        go_wp2_with fail
        refine h1.mono ?_
        rintro e w1 ⟨rfl, rfl⟩
        go_wp2_with fail
        refine h2.mono ?_
        rintro e w2 ⟨rfl, rfl⟩
        go_wp2_with fail
        refine h3.mono ?_
        rintro e w3 ⟨rfl, rfl⟩
        go_wp2_with fail
        go_ret
        exact ⟨rfl, B1⟩
      · skip
        cases b4
        · go_enter Tryz.func64, Tryz.ntmps64
          go_wp2_with fail
          refine h1.mono ?_
          rintro e w1 ⟨rfl, rfl⟩
          go_wp2_with fail
          refine h2.mono ?_
          rintro e w2 ⟨rfl, rfl⟩
          go_wp2_with fail
          refine h3.mono ?_
          rintro e w3 ⟨rfl, rfl⟩
          go_wp2_with fail
          refine h4.mono ?_
          rintro e w4 ⟨rfl, rfl⟩
          go_wp2_with fail
          go_ret
          exact ⟨rfl, B1⟩
        · skip
          by_cases hd : l ≤ m
          · have d1 : decide (l ≤ m) = true := decide_eq_true hd
            rw [d1]
            clear hd
            go_enter Tryz.func64, Tryz.ntmps64
            go_wp2_with fail
            refine h1.mono ?_
            rintro e w1 ⟨rfl, rfl⟩
            go_wp2_with fail
            refine h2.mono ?_
            rintro e w2 ⟨rfl, rfl⟩
            go_wp2_with fail
            refine h3.mono ?_
            rintro e w3 ⟨rfl, rfl⟩
            go_wp2_with fail
            refine h4.mono ?_
            rintro e w4 ⟨rfl, rfl⟩
            go_wp2_with fail
            go_ret
            exact ⟨rfl, B1⟩
          · have d1 : decide (l ≤ m) = false := decide_eq_false hd
            rw [d1]
            clear hd
            go_enter Tryz.func64, Tryz.ntmps64
            go_wp2_with fail
            refine h1.mono ?_
            rintro e w1 ⟨rfl, rfl⟩
            go_wp2_with fail
            refine h2.mono ?_
            rintro e w2 ⟨rfl, rfl⟩
            go_wp2_with fail
            refine h3.mono ?_
            rintro e w3 ⟨rfl, rfl⟩
            go_wp2_with fail
            refine h4.mono ?_
            rintro e w4 ⟨rfl, rfl⟩
            go_wp2_with fail
            go_ret
            exact ⟨rfl, B1⟩

set_option maxHeartbeats 2000000 in
theorem l10Less_any (ak af : ByteArray) (al am : Int) (bk bf : ByteArray) (bl bm : Int) (w : World) :
    Calls Tryz.prog 65 #[.agg #[.string ak, .string af, .int .i64 al, .int .i64 am], .agg #[.string bk, .string bf, .int .i64 bl, .int .i64 bm]] w fun e w' => e = .returned (.bool (rlLess ak af bk bf)) ∧ Below w.heap.size w w' := by
  have B1 : Below w.heap.size w ((w.alloc (.cells #[.string ak, .string af, .int .i64 al, .int .i64 am] 101)).alloc (.cells #[.string bk, .string bf, .int .i64 bl, .int .i64 bm] 101)) := ((Below.refl _ _).alloc (Nat.le_refl _) _).alloc (by simp) _
  unfold rlLess
  cases h1 : Op.bytesLess ak.toList bk.toList
  · cases h2 : (ak.toList == bk.toList)
    · go_enter Tryz.func65, Tryz.ntmps65
      go_wp2_with fail
      go_ret
      exact ⟨rfl, B1⟩
    · go_enter Tryz.func65, Tryz.ntmps65
      go_wp2_with fail
      go_ret
      exact ⟨rfl, B1⟩
  · go_enter Tryz.func65, Tryz.ntmps65
    go_wp2_with fail
    go_ret
    exact ⟨rfl, B1⟩
end Go.Proofs.YtokkeadbkeehgaaGreatDoor
