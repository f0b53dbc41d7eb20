/-
  What the specification's l06Half, l06First, l06Ill, AreaRoom and l06Head answer.
  Conditions: the cells of Sectors and Pending hold the texts and the pendings; the numbers lie within 64 bits.
-/
import Derived.Test.YtmhdnbfcmobgnajRows
import Derived.Test.YtmhdnbfcmobgnajBytes
import Derived.Test.YtmhdnbfcmobgnajSlA
import Derived.Test.YtmhdnbfcmobgnajPutMath
import Derived.Test.YtmhdnbfcmobgnajPutNum
import Derived.Test.YtmhdnbfcmobgnajPutText
import Derived.Test.YtmhdnbfcmobgnajSeal
import Derived.Test.YtmhdnbfcmobgnajDskMath
import Derived.Test.YtmhdnbfcmobgnajDskR
import Derived.Handy
import Derived.WalkSpells
import Derived.OwnWalk
namespace Go.Proofs.Ytmhdnbfcmobgnaj
open Go.RowKit Go.Lib
set_option linter.unusedVariables false
set_option maxRecDepth 20000

/-- How many sectors a side has. -/
def sideN (n : Nat) : Nat := (n - 1) / 2
theorem l06Half_any (q1 : Option Addr) (n c1 : Nat) (q2 : Option Addr) (m c2 : Nat) (w : World) (h0 : 1 ≤ n) (hn : n ≤ 1048576) :
    Calls Try.prog 52 #[.agg #[.slice q1 n c1, .slice q2 m c2]] w fun e w' => e = .returned (.int .i64 (sideN n : Nat)) ∧ Below w.heap.size w w' := by
  have B1 : Below w.heap.size w (w.alloc (.cells #[.slice q1 n c1, .slice q2 m c2] 29)) := (Below.refl _ _).alloc (Nat.le_refl _) _
  have hw : IntKind.i64.wrap ((n : Int) - 1) = (n : Int) - 1 := by rw [IntKind.wrap_i64]; omega
  have hq : ((n : Int) - 1).tdiv 2 = ((sideN n : Nat) : Int) := by
    unfold sideN
    rw [Int.tdiv_eq_ediv_of_nonneg (by omega)]
    omega
  have hw2 : IntKind.i64.wrap ((sideN n : Nat) : Int) = ((sideN n : Nat) : Int) := by
    have : sideN n ≤ 1048576 := by unfold sideN; omega
    rw [IntKind.wrap_i64]; omega
  generalize sideN n = H at *
  go_enter Try.func52, Try.ntmps52
  go_wp2
  go_ret
  exact ⟨rfl, B1⟩
theorem l06Ill_any (c : Int) (w : World) : Calls Try.prog 54 #[.int .i64 c] w fun e w' => e = .returned (.agg #[.slice none 0 0, .slice none 0 0, .string ByteArray.empty, .int .i64 0, .int .i64 c]) ∧ Below w.heap.size w w' := by
  have B1 : Below w.heap.size w (w.alloc (.cells #[.slice none 0 0, .slice none 0 0, .string ByteArray.empty, .int .i64 0, .int .i64 c] 49)) := (Below.refl _ _).alloc (Nat.le_refl _) _
  go_enter Try.func54, Try.ntmps54
  go_wp2_with fail
  refine bodyPost_ret (v := .agg #[.slice none 0 0, .slice none 0 0, .string ByteArray.empty, .int .i64 0, .int .i64 c]) (by simp [results, Try.results54, go_sem]; rfl) rfl ?_
  exact ⟨rfl, B1⟩
/-- How many bytes there is room for. -/
def roomB (ss : List ByteArray) (ps : List Pnd) : Nat := if dskB ss ps = true then 64 * sideN ss.length else 0
theorem specAreaRoom_any (q1 : Option Addr) (c1 : Nat) (ss : List ByteArray) (q2 : Option Addr) (c2 : Nat) (ps : List Pnd) (w : World) (h1 : TxtAt w q1 ss) (h2 : PndAt w q2 ps) (n1 : ss.length ≤ 1048576) (n2 : ps.length ≤ 1048576) (m1 : ss.length ≤ c1) (m2 : ps.length ≤ c2) :
    Calls Try.prog 25 #[.agg #[.slice q1 ss.length c1, .slice q2 ps.length c2]] w fun e w' => e = .returned (.int .i64 (roomB ss ps : Nat)) ∧ Below w.heap.size w w' := by
  obtain ⟨W1, hW1⟩ : ∃ W1, W1 = w.alloc (.cells #[.slice q1 ss.length c1, .slice q2 ps.length c2] 29) := ⟨_, rfl⟩
  have HW1 : Hid (W1 = w.alloc (.cells #[.slice q1 ss.length c1, .slice q2 ps.length c2] 29)) := hW1
  have B1 : Below w.heap.size w W1 := by rw [hW1]; exact (Below.refl _ _).alloc (Nat.le_refl _) _
  have X1 : W1.heap[w.heap.size]? = some (.cells #[.slice q1 ss.length c1, .slice q2 ps.length c2] 29 (0, 0)) := by rw [hW1]; exact (MapKept.heap_alloc w _).1
  have HX : Hid (∀ x, Below W1.heap.size W1 x → x.cell? ⟨w.heap.size, 0, none⟩ = some (.slice q1 ss.length c1) ∧ x.cell? ⟨w.heap.size, 1, none⟩ = some (.slice q2 ps.length c2)) := fun x hb => by
    have h0 := (hb.block w.heap.size (by rw [hW1]; simp)).trans X1
    simp [World.cell?, h0]
  have hD := specDiskRight_any q1 c1 ss q2 c2 ps W1 (h1.below B1) (h2.below B1) n1 n2 m1 m2
  cases hd : dskB ss ps with
  | false =>
    have HR : Hid (roomB ss ps = 0) := if_neg (by rw [hd]; exact Bool.false_ne_true)
    rw [hd] at hD
    rw [HR.out]
    clear hW1 hd X1
    go_enter Try.func25, Try.ntmps25
    go_wp2_with fail
    rw [← HW1.out]
    refine hD.mono ?_
    rintro e w2 ⟨rfl, b2⟩
    have b2 := chainB B1 b2
    go_wp2_with fail
    go_ret
    exact ⟨rfl, b2⟩
  | true =>
    have HR : Hid (roomB ss ps = 64 * sideN ss.length) := if_pos hd
    obtain ⟨⟨p1, p2⟩, -⟩ := dskB_parts hd
    rw [hd] at hD
    have HH : Hid (∀ x, Calls Try.prog 52 #[.agg #[.slice q1 ss.length c1, .slice q2 ps.length c2]] x fun e w' => e = .returned (.int .i64 (sideN ss.length : Nat)) ∧ Below x.heap.size x w') := fun x => l06Half_any _ _ _ _ _ _ x p1 n1
    have hH : sideN ss.length ≤ 1048576 := by unfold sideN; omega
    rw [HR.out]
    generalize sideN ss.length = H at *
    have hw : IntKind.i64.wrap (64 * (H : Int)) = 64 * (H : Int) := by rw [IntKind.wrap_i64]; omega
    have he : ((64 * H : Nat) : Int) = 64 * (H : Int) := by simp
    rw [he]
    clear hW1 hd X1 he HR
    go_enter Try.func25, Try.ntmps25
    go_wp2_with fail
    rw [← HW1.out]
    refine hD.mono ?_
    rintro e w2 ⟨rfl, b2⟩
    obtain ⟨x0, x1⟩ := HX.out w2 b2
    have b2 := chainB B1 b2
    go_wp2_with fail
    refine (HH.out _).mono ?_
    rintro e w3 ⟨rfl, b3⟩
    have b3 := chainB b2 b3
    go_wp2_with fail
    go_ret
    exact ⟨rfl, b3⟩
/-- The head's text. -/
def headB (g s z : Int) : ByteArray := sealB (putB g ++ putB s ++ putB z)
theorem putB_ten (n : Int) : (putB n).size ≤ 10 := by unfold putB; rw [strOfNums_size]; exact putI_len 9 _
theorem l06Head_any (g s z : Int) (w : World) (g0 : -9223372036854775808 ≤ g) (g1 : g ≤ 9223372036854775807) (s0 : -9223372036854775808 ≤ s) (s1 : s ≤ 9223372036854775807) (z0 : -9223372036854775808 ≤ z) (z1 : z ≤ 9223372036854775807) :
    Calls Try.prog 55 #[.int .i64 g, .int .i64 s, .int .i64 z] w fun e w' => e = .returned (.string (headB g s z)) ∧ Below w.heap.size w w' := by
  have tg := putB_ten g
  have ts := putB_ten s
  have tz := putB_ten z
  have tgs : (putB g ++ putB s).size ≤ 20 := by rw [ByteArray.size_append]; omega
  have hG := fun x => specPutNum_any g x g0 g1
  have hS := fun x => specPutNum_any s x s0 s1
  have hZ := fun x => specPutNum_any z x z0 z1
  have hE := fun x => specSeal_any (putB g ++ putB s ++ putB z) x (by unfold maxLen; rw [ByteArray.size_append]; omega)
  have HH : Hid (headB g s z = sealB (putB g ++ putB s ++ putB z)) := rfl
  have HG : Hid (∀ x, _) := hG
  have HS : Hid (∀ x, _) := hS
  have HZ : Hid (∀ x, _) := hZ
  have HE : Hid (∀ x, _) := hE
  rw [HH.out]
  clear hG hS hZ hE
  go_enter Try.func55, Try.ntmps55
  go_wp2_with fail
  refine (HG.out _).mono ?_
  rintro e w1 ⟨rfl, b1⟩
  go_wp2_with fail
  refine (HS.out _).mono ?_
  rintro e w2 ⟨rfl, b2⟩
  have b2 := chainB b1 b2
  go_wp2_with fail
  refine (HZ.out _).mono ?_
  rintro e w3 ⟨rfl, b3⟩
  have b3 := chainB b2 b3
  go_wp2_with fail
  refine (HE.out _).mono ?_
  rintro e w4 ⟨rfl, b4⟩
  have b4 := chainB b3 b4
  go_wp2_with fail
  go_ret
  exact ⟨rfl, b4⟩
end Go.Proofs.Ytmhdnbfcmobgnaj
