/-
  What the specification's l06Half, l06First, l06Ill, AreaRoom and l06Head answer.
  Conditions: the cells of Sectors and Pending hold the texts and the pendings; the numbers lie within 64 bits.
-/
import Derived.Test.YtnppgldafhpchaaDoorRows
import Derived.Test.YtnppgldafhpchaaDoorBytes
import Derived.Test.YtnppgldafhpchaaDoorSlASlBOwnS
import Derived.Test.YtnppgldafhpchaaDoorSen3PutMath
import Derived.Test.YtnppgldafhpchaaDoorSealMathPutNum
import Derived.Test.YtnppgldafhpchaaDoorPutTextGetValGetTxtScopes
import Derived.Test.YtnppgldafhpchaaDoorSealUnsealI
import Derived.Test.YtnppgldafhpchaaDoorDskMath
import Derived.Test.YtnppgldafhpchaaDoorDskR
import Derived.Handy
import Derived.WalkSpells
import Derived.OwnWalk
namespace Go.Proofs.YtnppgldafhpchaaDoor
open Go.RowKit Go.Lib
set_option linter.unusedVariables false
set_option maxRecDepth 20000

/-- How many sectors a side has. -/
def sideN (n : Nat) : Nat := (n - 1) / 2
theorem l06Half_any (q1 : Option Addr) (n c1 : Nat) (q2 : Option Addr) (m c2 : Nat) (w : World) (h0 : 1 ≤ n) (hn : n ≤ 1048576) :
    Calls Tryd.prog 37 #[.agg #[.slice q1 n c1, .slice q2 m c2]] w fun e w' => e = .returned (.int .i64 (sideN n : Nat)) ∧ Below w.heap.size w w' := by
  have B1 : Below w.heap.size w (w.alloc (.cells #[.slice q1 n c1, .slice q2 m c2] 30)) := (Below.refl _ _).alloc (Nat.le_refl _) _
  have hw : IntKind.i64.wrap ((n : Int) - 1) = (n : Int) - 1 := by rw [IntKind.wrap_i64]; omega
  have hq : ((n : Int) - 1).tdiv 2 = ((sideN n : Nat) : Int) := by
    unfold sideN
    rw [Int.tdiv_eq_ediv_of_nonneg (by omega)]
    omega
  have hw2 : IntKind.i64.wrap ((sideN n : Nat) : Int) = ((sideN n : Nat) : Int) := by
    have : sideN n ≤ 1048576 := by unfold sideN; omega
    rw [IntKind.wrap_i64]; omega
  generalize sideN n = H at *
  go_enter Tryd.func37, Tryd.ntmps37
  go_wp2
  go_ret
  exact ⟨rfl, B1⟩
theorem l06First_any (q1 : Option Addr) (n c1 : Nat) (q2 : Option Addr) (m c2 : Nat) (side : Nat) (w : World) (h0 : 1 ≤ n) (hn : n ≤ 1048576) (hs : side ≤ 1) :
    Calls Tryd.prog 23 #[.agg #[.slice q1 n c1, .slice q2 m c2], .int .i64 (side : Int)] w fun e w' => e = .returned (.int .i64 ((1 + side * sideN n : Nat) : Int)) ∧ Below w.heap.size w w' := by
  obtain ⟨W1, hW1⟩ : ∃ W1, W1 = w.alloc (.cells #[.slice q1 n c1, .slice q2 m c2] 30) := ⟨_, rfl⟩
  have HW1 : Hid (W1 = w.alloc (.cells #[.slice q1 n c1, .slice q2 m c2] 30)) := hW1
  have B1 : Below w.heap.size w W1 := by rw [hW1]; exact (Below.refl _ _).alloc (Nat.le_refl _) _
  have hh := l06Half_any q1 n c1 q2 m c2 W1 h0 hn
  have hH : sideN n ≤ 1048576 := by unfold sideN; omega
  generalize sideN n = H at *
  have hp : side * H ≤ 1048576 := by
    rcases Nat.le_one_iff_eq_zero_or_eq_one.1 hs with rfl | rfl <;> omega
  have hw1 : IntKind.i64.wrap ((side : Int) * (H : Int)) = (side : Int) * (H : Int) := by
    rw [IntKind.wrap_i64, ← Int.natCast_mul]; omega
  have hw2 : IntKind.i64.wrap (1 + (side : Int) * (H : Int)) = 1 + (side : Int) * (H : Int) := by
    rw [IntKind.wrap_i64, ← Int.natCast_mul]; omega
  have he : ((1 + side * H : Nat) : Int) = 1 + (side : Int) * (H : Int) := by simp
  rw [he]
  clear hW1 he
  go_enter Tryd.func23, Tryd.ntmps23
  go_wp2_with fail
  rw [← HW1.out]
  refine hh.mono ?_
  rintro e w2 ⟨rfl, b2⟩
  have b2 := chainB B1 b2
  go_wp2_with fail
  go_ret
  exact ⟨rfl, b2⟩
theorem l06Ill_any (c : Int) (w : World) : Calls Tryd.prog 21 #[.int .i64 c] w fun e w' => e = .returned (.agg #[.slice none 0 0, .slice none 0 0, .string ByteArray.empty, .int .i64 0, .int .i64 c]) ∧ Below w.heap.size w w' := by
  have B1 : Below w.heap.size w (w.alloc (.cells #[.slice none 0 0, .slice none 0 0, .string ByteArray.empty, .int .i64 0, .int .i64 c] 37)) := (Below.refl _ _).alloc (Nat.le_refl _) _
  go_enter Tryd.func21, Tryd.ntmps21
  go_wp2_with fail
  refine bodyPost_ret (v := .agg #[.slice none 0 0, .slice none 0 0, .string ByteArray.empty, .int .i64 0, .int .i64 c]) (by simp [results, Tryd.results21, go_sem]; rfl) rfl ?_
  exact ⟨rfl, B1⟩
/-- How many bytes there is room for. -/
def roomB (ss : List ByteArray) (ps : List Pnd) : Nat := if dskB ss ps = true then 64 * sideN ss.length else 0
/-- The head's text. -/
def headB (g s z : Int) : ByteArray := sealB (putB g ++ putB s ++ putB z)
theorem putB_ten (n : Int) : (putB n).size ≤ 10 := by unfold putB; rw [strOfNums_size]; exact putI_len 9 _
theorem l06Head_any (g s z : Int) (w : World) (g0 : -9223372036854775808 ≤ g) (g1 : g ≤ 9223372036854775807) (s0 : -9223372036854775808 ≤ s) (s1 : s ≤ 9223372036854775807) (z0 : -9223372036854775808 ≤ z) (z1 : z ≤ 9223372036854775807) :
    Calls Tryd.prog 36 #[.int .i64 g, .int .i64 s, .int .i64 z] w fun e w' => e = .returned (.string (headB g s z)) ∧ Below w.heap.size w w' := by
  have tg := putB_ten g
  have ts := putB_ten s
  have tz := putB_ten z
  have tgs : (putB g ++ putB s).size ≤ 20 := by rw [ByteArray.size_append]; omega
  have hG := fun x => specPutNum_any g x g0 g1
  have hS := fun x => specPutNum_any s x s0 s1
  have hZ := fun x => specPutNum_any z x z0 z1
  have hE := fun x => specSeal_any (putB g ++ putB s ++ putB z) x (by unfold maxLen; rw [ByteArray.size_append]; omega)
  have HH : Hid (headB g s z = sealB (putB g ++ putB s ++ putB z)) := rfl
  have HG : Hid (∀ x, _) := hG
  have HS : Hid (∀ x, _) := hS
  have HZ : Hid (∀ x, _) := hZ
  have HE : Hid (∀ x, _) := hE
  rw [HH.out]
  clear hG hS hZ hE
  go_enter Tryd.func36, Tryd.ntmps36
  go_wp2_with fail
  refine (HG.out _).mono ?_
  rintro e w1 ⟨rfl, b1⟩
  go_wp2_with fail
  refine (HS.out _).mono ?_
  rintro e w2 ⟨rfl, b2⟩
  have b2 := chainB b1 b2
  go_wp2_with fail
  refine (HZ.out _).mono ?_
  rintro e w3 ⟨rfl, b3⟩
  have b3 := chainB b2 b3
  go_wp2_with fail
  refine (HE.out _).mono ?_
  rintro e w4 ⟨rfl, b4⟩
  have b4 := chainB b3 b4
  go_wp2_with fail
  go_ret
  exact ⟨rfl, b4⟩
end Go.Proofs.YtnppgldafhpchaaDoor
