/-
  What the specification's l05Ill, DiskNew and l05Copy answer.
-/
import Derived.Test.YtmhdnbfcmobgnajRows
import Derived.Test.YtmhdnbfcmobgnajBytes
import Derived.Test.YtmhdnbfcmobgnajSlA
import Derived.Test.YtmhdnbfcmobgnajSlB
import Derived.Test.YtmhdnbfcmobgnajOwnS
import Derived.Test.YtmhdnbfcmobgnajAppS
import Derived.Test.YtmhdnbfcmobgnajDskMath
import Derived.Test.YtmhdnbfcmobgnajDskR
import Derived.Test.YtmhdnbfcmobgnajDskA
import Derived.Handy
import Derived.WalkSpells
import Derived.OwnWalk
namespace Go.Proofs.Ytmhdnbfcmobgnaj
open Go.RowKit Go.Lib
set_option linter.unusedVariables false
set_option maxRecDepth 20000

theorem l05Ill_any (c : Int) (w : World) : Calls Try.prog 34 #[.int .i64 c] w fun e w' => e = .returned (.agg #[.slice none 0 0, .slice none 0 0, .string ByteArray.empty, .int .i64 c]) ∧ Below w.heap.size w w' := by
  have B1 : Below w.heap.size w (w.alloc (.cells #[.slice none 0 0, .slice none 0 0, .string ByteArray.empty, .int .i64 c] 31)) := (Below.refl _ _).alloc (Nat.le_refl _) _
  go_enter Try.func34, Try.ntmps34
  go_wp2_with fail
  refine bodyPost_ret (v := .agg #[.slice none 0 0, .slice none 0 0, .string ByteArray.empty, .int .i64 c]) (by simp [results, Try.results34, go_sem]; rfl) rfl ?_
  exact ⟨rfl, B1⟩

/-- What DiskNew makes. -/
def newS (n : Int) : List ByteArray := if 1 ≤ n ∧ n ≤ 64 then List.replicate n.toNat ByteArray.empty else []
end Go.Proofs.Ytmhdnbfcmobgnaj
