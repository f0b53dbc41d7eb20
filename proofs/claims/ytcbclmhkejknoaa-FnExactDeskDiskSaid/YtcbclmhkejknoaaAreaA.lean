/-
  What the specification's l06Half, l06First, l06Ill, AreaRoom and l06Head answer.
  Conditions: the cells of Sectors and Pending hold the texts and the pendings; the numbers lie within 64 bits.
-/
import Derived.Test.YtcbclmhkejknoaaRows
import Derived.Test.YtcbclmhkejknoaaBytes
import Derived.Test.YtcbclmhkejknoaaSlA
import Derived.Test.YtcbclmhkejknoaaPutMath
import Derived.Test.YtcbclmhkejknoaaPutNum
import Derived.Test.YtcbclmhkejknoaaPutText
import Derived.Test.YtcbclmhkejknoaaSeal
import Derived.Test.YtcbclmhkejknoaaDskMath
import Derived.Test.YtcbclmhkejknoaaDskR
import Derived.Handy
import Derived.WalkSpells
import Derived.OwnWalk
namespace Go.Proofs.Ytcbclmhkejknoaa
open Go.RowKit Go.Lib
set_option linter.unusedVariables false
set_option maxRecDepth 20000

/-- How many sectors a side has. -/
def sideN (n : Nat) : Nat := (n - 1) / 2
theorem l06Ill_any (c : Int) (w : World) : Calls Try.prog 20 #[.int .i64 c] w fun e w' => e = .returned (.agg #[.slice none 0 0, .slice none 0 0, .string ByteArray.empty, .int .i64 0, .int .i64 c]) ∧ Below w.heap.size w w' := by
  have B1 : Below w.heap.size w (w.alloc (.cells #[.slice none 0 0, .slice none 0 0, .string ByteArray.empty, .int .i64 0, .int .i64 c] 31)) := (Below.refl _ _).alloc (Nat.le_refl _) _
  go_enter Try.func20, Try.ntmps20
  go_wp2_with fail
  refine bodyPost_ret (v := .agg #[.slice none 0 0, .slice none 0 0, .string ByteArray.empty, .int .i64 0, .int .i64 c]) (by simp [results, Try.results20, go_sem]; rfl) rfl ?_
  exact ⟨rfl, B1⟩
/-- How many bytes there is room for. -/
def roomB (ss : List ByteArray) (ps : List Pnd) : Nat := if dskB ss ps = true then 64 * sideN ss.length else 0
/-- The head's text. -/
def headB (g s z : Int) : ByteArray := sealB (putB g ++ putB s ++ putB z)
theorem putB_ten (n : Int) : (putB n).size ≤ 10 := by unfold putB; rw [strOfNums_size]; exact putI_len 9 _
theorem l06Head_any (g s z : Int) (w : World) (g0 : -9223372036854775808 ≤ g) (g1 : g ≤ 9223372036854775807) (s0 : -9223372036854775808 ≤ s) (s1 : s ≤ 9223372036854775807) (z0 : -9223372036854775808 ≤ z) (z1 : z ≤ 9223372036854775807) :
    Calls Try.prog 22 #[.int .i64 g, .int .i64 s, .int .i64 z] w fun e w' => e = .returned (.string (headB g s z)) ∧ Below w.heap.size w w' := by
  have tg := putB_ten g
  have ts := putB_ten s
  have tz := putB_ten z
  have tgs : (putB g ++ putB s).size ≤ 20 := by rw [ByteArray.size_append]; omega
  have hG := fun x => specPutNum_any g x g0 g1
  have hS := fun x => specPutNum_any s x s0 s1
  have hZ := fun x => specPutNum_any z x z0 z1
  have hE := fun x => specSeal_any (putB g ++ putB s ++ putB z) x (by unfold maxLen; rw [ByteArray.size_append]; omega)
  have HH : Hid (headB g s z = sealB (putB g ++ putB s ++ putB z)) := rfl
  have HG : Hid (∀ x, _) := hG
  have HS : Hid (∀ x, _) := hS
  have HZ : Hid (∀ x, _) := hZ
  have HE : Hid (∀ x, _) := hE
  rw [HH.out]
  clear hG hS hZ hE
  go_enter Try.func22, Try.ntmps22
  go_wp2_with fail
  refine (HG.out _).mono ?_
  rintro e w1 ⟨rfl, b1⟩
  go_wp2_with fail
  refine (HS.out _).mono ?_
  rintro e w2 ⟨rfl, b2⟩
  have b2 := chainB b1 b2
  go_wp2_with fail
  refine (HZ.out _).mono ?_
  rintro e w3 ⟨rfl, b3⟩
  have b3 := chainB b2 b3
  go_wp2_with fail
  refine (HE.out _).mono ?_
  rintro e w4 ⟨rfl, b4⟩
  have b4 := chainB b3 b4
  go_wp2_with fail
  go_ret
  exact ⟨rfl, b4⟩
end Go.Proofs.Ytcbclmhkejknoaa
