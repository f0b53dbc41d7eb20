/-
  Parts of one proof, laid as one text: Four, Seal, AreaA, AreaF; what each says stands at its head.
-/
import Derived.Test.YtkhffoailfnepabGreatDoorRows
import Derived.Test.YtkhffoailfnepabGreatDoorBytesDigMath
import Derived.Test.YtkhffoailfnepabGreatDoorJoinedPutTextCrc
import Derived.Handy
import Derived.Laws.BytesArg
import Derived.Test.YtkhffoailfnepabGreatDoorSlASlBOwnSOwnBSrc
import Derived.Test.YtkhffoailfnepabGreatDoorLawDLwDskLwArLawIPutMathPutNum
import Derived.Test.YtkhffoailfnepabGreatDoorDrawsDrawKitDskMath
import Derived.Test.YtkhffoailfnepabGreatDoorDskRAppSStepAppDskA
import Derived.WalkSpells
import Derived.OwnWalk
import Derived.Test.YtkhffoailfnepabGreatDoorDskSDskCDskT
import Derived.Test.YtkhffoailfnepabGreatDoorDskW
import Derived.Test.YtkhffoailfnepabGreatDoorDskFDskK
import Derived.Test.YtkhffoailfnepabGreatDoorDskLawLawSLawSGLawP
import Derived.Deep.RegionHeld3
import Derived.Deep.Cut
import Derived.Deep.CutRange
/-
  The four bytes of a number below 2^32, as the specification's l01Four and the program's sumOf make them: 'four n', in new memory; nothing that was there turns.
  Conditions: the number is from 0 to 2^32 - 1; the string fits the form's own reach.
-/
namespace Go.Proofs.YtkhffoailfnepabGreatDoor
open Go.RowKit Go.Lib
set_option linter.unusedVariables false

def fourN (n : Int) : List Int := [n % 256, n / 256 % 256, n / 65536 % 256, n / 16777216]
def fourV (n : Int) : Array Value := #[.int .u8 (n % 256), .int .u8 (n / 256 % 256), .int .u8 (n / 65536 % 256), .int .u8 (n / 16777216)]
def four (n : Int) : ByteArray := strOfNums (fourN n)
theorem four_size (n : Int) : (four n).size = 4 := strOfNums_size _

theorem four_cells (w : World) (n : Int) (t : TypeId) : ∀ i, i < 4 → (w.alloc (.cells (fourV n) t)).cell? ⟨w.heap.size, 0 + i, none⟩ = some (.int .u8 ((fourN n).getD i 0)) := by
  intro i hi
  rw [World.cell?_alloc_mark]
  match i, hi with
  | 0, _ => rfl
  | 1, _ => rfl
  | 2, _ => rfl
  | 3, _ => rfl

theorem four_conv (w : World) (n : Int) (t : TypeId) :
    (convert 22 9 (.slice (some ⟨w.heap.size, 0, none⟩) 4 4)).run Tryz.prog (w.alloc (.cells (fourV n) t)) = .ok (.string (four n)) (w.alloc (.cells (fourV n) t)) :=
  run_convert_bytes_arg (P := Tryz.prog) (w.alloc (.cells (fourV n) t)) 22 5 Tryz.underlying22 Tryz.underlying5 w.heap.size 0 4 4 (fourN n) rfl (four_cells w n t) 9 Tryz.underlying9

set_option maxHeartbeats 1000000 in
theorem specFour_any (n : Int) (w : World) (h0 : 0 ≤ n) (h1 : n ≤ 4294967295) :
    Calls Tryz.prog 83 #[.int .i64 n] w fun e w' => e = .returned (.string (four n)) ∧ Below w.heap.size w w' := by
  have hconv := four_conv w n 5
  unfold fourV at hconv
  go_enter Tryz.func83, Tryz.ntmps83
  go_wp2
  go_ret
  exact ⟨rfl, (Below.refl _ _).alloc (Nat.le_refl _) _⟩

set_option maxHeartbeats 1000000 in
theorem sumOf_any (s : ByteArray) (w : World) (hs : s.size ≤ maxLen)  :
    Calls Tryz.prog 86 #[.string s] w fun e w' => e = .returned (.string (four (crcB 0 s))) ∧ Below w.heap.size w w' := by
  have hb := crcB_bd 0 s
  go_enter Tryz.func86, Tryz.ntmps86
  go_wp2_with (go_at_call 92; refine (implCrc_any _ _ hs).mono ?_; rintro e w1 ⟨rfl, hw⟩)
  subst hw
  generalize hN : crcB 0 s = n at *
  have HN : Hid (crcB 0 s = n) := hN
  clear hN
  obtain ⟨n0, n1⟩ := hb
  have hconv := four_conv w1 n 150
  unfold fourV at hconv
  go_rounds 5
  go_ret
  exact ⟨ret_str (by rw [HN.out]), (Below.refl _ _).alloc (Nat.le_refl _) _⟩
end Go.Proofs.YtkhffoailfnepabGreatDoor
/-
  What Seal answers, in the program and in the specification: the text with its four bytes behind it, or the empty text.
  Conditions: the string fits the form's own reach.
-/
namespace Go.Proofs.YtkhffoailfnepabGreatDoor
open Go.RowKit Go.Lib
set_option linter.unusedVariables false

def sealB (s : ByteArray) : ByteArray := if 7996 < s.size then ByteArray.empty else s ++ four (crcV 0 s)

set_option maxHeartbeats 1000000 in
theorem specSeal_any (s : ByteArray) (w : World) (hs : s.size ≤ maxLen) :
    Calls Tryz.prog 70 #[.string s] w fun e w' => e = .returned (.string (sealB s)) ∧ Below w.heap.size w w' := by
  have hs' := hs
  unfold maxLen at hs'
  by_cases h : 7996 < s.size
  · have H : Hid (sealB s = ByteArray.empty) := if_pos h
    go_enter Tryz.func70, Tryz.ntmps70
    go_wp2_with fail
    go_ret
    exact ⟨ret_str (H.out.trans rfl).symm, Below.refl _ _⟩
  · have H : Hid (sealB s = s ++ four (crcV 0 s)) := if_neg h
    have hb := crcV_bd 0 s
    have h4 := four_size (crcV 0 s)
    go_enter Tryz.func70, Tryz.ntmps70
    go_wp2_with (first | (go_at_call 84; refine (specL01Crc_any _ _ _ hs (by omega) (by omega)).mono ?_; rintro e w' ⟨rfl, rfl⟩) | (go_at_call 83; refine (specFour_any _ _ (by omega) (by omega)).mono ?_; rintro e w' ⟨rfl, hbel⟩))
    go_ret
    exact ⟨ret_str (by rw [H.out]), hbel⟩

set_option maxHeartbeats 1000000 in
theorem implSeal_any (s : ByteArray) (w : World) (hs : s.size ≤ maxLen) :
    Calls Tryz.prog 81 #[.string s] w fun e w' => e = .returned (.string (sealB s)) ∧ Below w.heap.size w w' := by
  have hs' := hs
  unfold maxLen at hs'
  by_cases h : 7996 < s.size
  · have H : Hid (sealB s = ByteArray.empty) := if_pos h
    go_enter Tryz.func81, Tryz.ntmps81
    go_wp2_with fail
    go_ret
    exact ⟨ret_str (H.out.trans rfl).symm, Below.refl _ _⟩
  · have H : Hid (sealB s = s ++ four (crcV 0 s)) := if_neg h
    have HB : Hid (crcB 0 s = crcV 0 s) := if_neg (by omega)
    go_enter Tryz.func81, Tryz.ntmps81
    have h4 := four_size (crcB 0 s)
    go_wp2_with (first | (go_at_call 86; refine (sumOf_any _ _ hs).mono ?_; rintro e w1 ⟨rfl, hbel⟩) | (go_at_call 58; refine (joined_two _ _ _ (by omega)).mono ?_; rintro e w2 ⟨rfl, hbel2⟩))
    go_ret
    exact ⟨ret_str (by rw [H.out, HB.out]), hbel.trans (hbel2.mono hbel.size)⟩
end Go.Proofs.YtkhffoailfnepabGreatDoor
/-
  What the specification's l06Half, l06First, l06Ill, AreaRoom and l06Head answer.
  Conditions: the cells of Sectors and Pending hold the texts and the pendings; the numbers lie within 64 bits.
-/
namespace Go.Proofs.YtkhffoailfnepabGreatDoor
open Go.RowKit Go.Lib
set_option linter.unusedVariables false
set_option maxRecDepth 20000

/-- How many sectors a side has. -/
def sideN (n : Nat) : Nat := (n - 1) / 2
theorem l06Half_any (q1 : Option Addr) (n c1 : Nat) (q2 : Option Addr) (m c2 : Nat) (w : World) (h0 : 1 ≤ n) (hn : n ≤ 1048576) :
    Calls Tryz.prog 40 #[.agg #[.slice q1 n c1, .slice q2 m c2]] w fun e w' => e = .returned (.int .i64 (sideN n : Nat)) ∧ Below w.heap.size w w' := by
  have B1 : Below w.heap.size w (w.alloc (.cells #[.slice q1 n c1, .slice q2 m c2] 26)) := (Below.refl _ _).alloc (Nat.le_refl _) _
  have hw : IntKind.i64.wrap ((n : Int) - 1) = (n : Int) - 1 := by rw [IntKind.wrap_i64]; omega
  have hq : ((n : Int) - 1).tdiv 2 = ((sideN n : Nat) : Int) := by
    unfold sideN
    rw [Int.tdiv_eq_ediv_of_nonneg (by omega)]
    omega
  have hw2 : IntKind.i64.wrap ((sideN n : Nat) : Int) = ((sideN n : Nat) : Int) := by
    have : sideN n ≤ 1048576 := by unfold sideN; omega
    rw [IntKind.wrap_i64]; omega
  generalize sideN n = H at *
  go_enter Tryz.func40, Tryz.ntmps40
  go_wp2
  go_ret
  exact ⟨rfl, B1⟩
theorem l06First_any (q1 : Option Addr) (n c1 : Nat) (q2 : Option Addr) (m c2 : Nat) (side : Nat) (w : World) (h0 : 1 ≤ n) (hn : n ≤ 1048576) (hs : side ≤ 1) :
    Calls Tryz.prog 37 #[.agg #[.slice q1 n c1, .slice q2 m c2], .int .i64 (side : Int)] w fun e w' => e = .returned (.int .i64 ((1 + side * sideN n : Nat) : Int)) ∧ Below w.heap.size w w' := by
  obtain ⟨W1, hW1⟩ : ∃ W1, W1 = w.alloc (.cells #[.slice q1 n c1, .slice q2 m c2] 26) := ⟨_, rfl⟩
  have HW1 : Hid (W1 = w.alloc (.cells #[.slice q1 n c1, .slice q2 m c2] 26)) := hW1
  have B1 : Below w.heap.size w W1 := by rw [hW1]; exact (Below.refl _ _).alloc (Nat.le_refl _) _
  have hh := l06Half_any q1 n c1 q2 m c2 W1 h0 hn
  have hH : sideN n ≤ 1048576 := by unfold sideN; omega
  generalize sideN n = H at *
  have hp : side * H ≤ 1048576 := by
    rcases Nat.le_one_iff_eq_zero_or_eq_one.1 hs with rfl | rfl <;> omega
  have hw1 : IntKind.i64.wrap ((side : Int) * (H : Int)) = (side : Int) * (H : Int) := by
    rw [IntKind.wrap_i64, ← Int.natCast_mul]; omega
  have hw2 : IntKind.i64.wrap (1 + (side : Int) * (H : Int)) = 1 + (side : Int) * (H : Int) := by
    rw [IntKind.wrap_i64, ← Int.natCast_mul]; omega
  have he : ((1 + side * H : Nat) : Int) = 1 + (side : Int) * (H : Int) := by simp
  rw [he]
  clear hW1 he
  go_enter Tryz.func37, Tryz.ntmps37
  go_wp2_with fail
  rw [← HW1.out]
  refine hh.mono ?_
  rintro e w2 ⟨rfl, b2⟩
  have b2 := chainB B1 b2
  go_wp2_with fail
  go_ret
  exact ⟨rfl, b2⟩
theorem l06Ill_any (c : Int) (w : World) : Calls Tryz.prog 34 #[.int .i64 c] w fun e w' => e = .returned (.agg #[.slice none 0 0, .slice none 0 0, .string ByteArray.empty, .int .i64 0, .int .i64 c]) ∧ Below w.heap.size w w' := by
  have B1 : Below w.heap.size w (w.alloc (.cells #[.slice none 0 0, .slice none 0 0, .string ByteArray.empty, .int .i64 0, .int .i64 c] 31)) := (Below.refl _ _).alloc (Nat.le_refl _) _
  go_enter Tryz.func34, Tryz.ntmps34
  go_wp2_with fail
  refine bodyPost_ret (v := .agg #[.slice none 0 0, .slice none 0 0, .string ByteArray.empty, .int .i64 0, .int .i64 c]) (by simp [results, Tryz.results34, go_sem]; rfl) rfl ?_
  exact ⟨rfl, B1⟩
/-- How many bytes there is room for. -/
def roomB (ss : List ByteArray) (ps : List Pnd) : Nat := if dskB ss ps = true then 64 * sideN ss.length else 0
theorem specAreaRoom_any (q1 : Option Addr) (c1 : Nat) (ss : List ByteArray) (q2 : Option Addr) (c2 : Nat) (ps : List Pnd) (w : World) (h1 : TxtAt w q1 ss) (h2 : PndAt w q2 ps) (n1 : ss.length ≤ 1048576) (n2 : ps.length ≤ 1048576) (m1 : ss.length ≤ c1) (m2 : ps.length ≤ c2) :
    Calls Tryz.prog 16 #[.agg #[.slice q1 ss.length c1, .slice q2 ps.length c2]] w fun e w' => e = .returned (.int .i64 (roomB ss ps : Nat)) ∧ Below w.heap.size w w' := by
  obtain ⟨W1, hW1⟩ : ∃ W1, W1 = w.alloc (.cells #[.slice q1 ss.length c1, .slice q2 ps.length c2] 26) := ⟨_, rfl⟩
  have HW1 : Hid (W1 = w.alloc (.cells #[.slice q1 ss.length c1, .slice q2 ps.length c2] 26)) := hW1
  have B1 : Below w.heap.size w W1 := by rw [hW1]; exact (Below.refl _ _).alloc (Nat.le_refl _) _
  have X1 : W1.heap[w.heap.size]? = some (.cells #[.slice q1 ss.length c1, .slice q2 ps.length c2] 26 (0, 0)) := by rw [hW1]; exact (MapKept.heap_alloc w _).1
  have HX : Hid (∀ x, Below W1.heap.size W1 x → x.cell? ⟨w.heap.size, 0, none⟩ = some (.slice q1 ss.length c1) ∧ x.cell? ⟨w.heap.size, 1, none⟩ = some (.slice q2 ps.length c2)) := fun x hb => by
    have h0 := (hb.block w.heap.size (by rw [hW1]; simp)).trans X1
    simp [World.cell?, h0]
  have hD := specDiskRight_any q1 c1 ss q2 c2 ps W1 (h1.below B1) (h2.below B1) n1 n2 m1 m2
  cases hd : dskB ss ps with
  | false =>
    have HR : Hid (roomB ss ps = 0) := if_neg (by rw [hd]; exact Bool.false_ne_true)
    rw [hd] at hD
    rw [HR.out]
    clear hW1 hd X1
    go_enter Tryz.func16, Tryz.ntmps16
    go_wp2_with fail
    rw [← HW1.out]
    refine hD.mono ?_
    rintro e w2 ⟨rfl, b2⟩
    have b2 := chainB B1 b2
    go_wp2_with fail
    go_ret
    exact ⟨rfl, b2⟩
  | true =>
    have HR : Hid (roomB ss ps = 64 * sideN ss.length) := if_pos hd
    obtain ⟨⟨p1, p2⟩, -⟩ := dskB_parts hd
    rw [hd] at hD
    have HH : Hid (∀ x, Calls Tryz.prog 40 #[.agg #[.slice q1 ss.length c1, .slice q2 ps.length c2]] x fun e w' => e = .returned (.int .i64 (sideN ss.length : Nat)) ∧ Below x.heap.size x w') := fun x => l06Half_any _ _ _ _ _ _ x p1 n1
    have hH : sideN ss.length ≤ 1048576 := by unfold sideN; omega
    rw [HR.out]
    generalize sideN ss.length = H at *
    have hw : IntKind.i64.wrap (64 * (H : Int)) = 64 * (H : Int) := by rw [IntKind.wrap_i64]; omega
    have he : ((64 * H : Nat) : Int) = 64 * (H : Int) := by simp
    rw [he]
    clear hW1 hd X1 he HR
    go_enter Tryz.func16, Tryz.ntmps16
    go_wp2_with fail
    rw [← HW1.out]
    refine hD.mono ?_
    rintro e w2 ⟨rfl, b2⟩
    obtain ⟨x0, x1⟩ := HX.out w2 b2
    have b2 := chainB B1 b2
    go_wp2_with fail
    refine (HH.out _).mono ?_
    rintro e w3 ⟨rfl, b3⟩
    have b3 := chainB b2 b3
    go_wp2_with fail
    go_ret
    exact ⟨rfl, b3⟩
/-- The head's text. -/
def headB (g s z : Int) : ByteArray := sealB (putB g ++ putB s ++ putB z)
theorem putB_ten (n : Int) : (putB n).size ≤ 10 := by unfold putB; rw [strOfNums_size]; exact putI_len 9 _
theorem l06Head_any (g s z : Int) (w : World) (g0 : -9223372036854775808 ≤ g) (g1 : g ≤ 9223372036854775807) (s0 : -9223372036854775808 ≤ s) (s1 : s ≤ 9223372036854775807) (z0 : -9223372036854775808 ≤ z) (z1 : z ≤ 9223372036854775807) :
    Calls Tryz.prog 42 #[.int .i64 g, .int .i64 s, .int .i64 z] w fun e w' => e = .returned (.string (headB g s z)) ∧ Below w.heap.size w w' := by
  have tg := putB_ten g
  have ts := putB_ten s
  have tz := putB_ten z
  have tgs : (putB g ++ putB s).size ≤ 20 := by rw [ByteArray.size_append]; omega
  have hG := fun x => specPutNum_any g x g0 g1
  have hS := fun x => specPutNum_any s x s0 s1
  have hZ := fun x => specPutNum_any z x z0 z1
  have hE := fun x => specSeal_any (putB g ++ putB s ++ putB z) x (by unfold maxLen; rw [ByteArray.size_append]; omega)
  have HH : Hid (headB g s z = sealB (putB g ++ putB s ++ putB z)) := rfl
  have HG : Hid (∀ x, _) := hG
  have HS : Hid (∀ x, _) := hS
  have HZ : Hid (∀ x, _) := hZ
  have HE : Hid (∀ x, _) := hE
  rw [HH.out]
  clear hG hS hZ hE
  go_enter Tryz.func42, Tryz.ntmps42
  go_wp2_with fail
  refine (HG.out _).mono ?_
  rintro e w1 ⟨rfl, b1⟩
  go_wp2_with fail
  refine (HS.out _).mono ?_
  rintro e w2 ⟨rfl, b2⟩
  have b2 := chainB b1 b2
  go_wp2_with fail
  refine (HZ.out _).mono ?_
  rintro e w3 ⟨rfl, b3⟩
  have b3 := chainB b2 b3
  go_wp2_with fail
  refine (HE.out _).mono ?_
  rintro e w4 ⟨rfl, b4⟩
  have b4 := chainB b3 b4
  go_wp2_with fail
  go_ret
  exact ⟨rfl, b4⟩
end Go.Proofs.YtkhffoailfnepabGreatDoor
/-
  What the specification's AreaFormat answers.
  Conditions: the cells of Sectors and Pending hold the texts and the pendings.
-/
namespace Go.Proofs.YtkhffoailfnepabGreatDoor
open Go.RowKit Go.Lib
set_option linter.unusedVariables false
set_option maxRecDepth 20000

theorem DskO.set5 {base : Nat} {ss : List ByteArray} {ps : List Pnd} {v1 v2 : Value} {w : World} (h : DskO base ss ps v1 v2 w) {g : Nat} (hg : g < base) (x0 x1 x2 x3 x4 : Value) : DskO base ss ps v1 v2 (((((w.setCell ⟨g, 0, none⟩ x0).setCell ⟨g, 1, none⟩ x1).setCell ⟨g, 2, none⟩ x2).setCell ⟨g, 3, none⟩ x3).setCell ⟨g, 4, none⟩ x4) := (h.set4 hg x0 x1 x2 x3).set hg 4 x4
theorem below_set5 {B : Nat} {a w : World} (h : Below B a w) {g : Nat} (hg : B ≤ g) (x0 x1 x2 x3 x4 : Value) : Below B a (((((w.setCell ⟨g, 0, none⟩ x0).setCell ⟨g, 1, none⟩ x1).setCell ⟨g, 2, none⟩ x2).setCell ⟨g, 3, none⟩ x3).setCell ⟨g, 4, none⟩ x4) := (below_set4 h hg x0 x1 x2 x3).setCell hg _
theorem headB_small (g s z : Int) : (headB g s z).size ≤ 34 := by
  have h1 := putB_ten g
  have h2 := putB_ten s
  have h3 := putB_ten z
  unfold headB sealB
  split
  · simp
  · rw [ByteArray.size_append, ByteArray.size_append, ByteArray.size_append, four_size]; omega

/-- A call under way: W2 as it was, and, if it was made, the box of what a step will answer. -/
structure ArT (W : World) (Yo : Option Nat) (x : World) : Prop where
  bel : Below W.heap.size W x
  y : ∀ Y, Yo = some Y → Bxs x Y 66 #[.slice none 0 0, .slice none 0 0, .string ⟨#[]⟩, .int .i64 0] ∧ W.heap.size ≤ Y
theorem ArT.of {W x : World} (h : Below W.heap.size W x) : ArT W none x := ⟨h, fun Y e => by cases e⟩
theorem ArT.below {W x x' : World} {Yo : Option Nat} (h : ArT W Yo x) (hb : Below x.heap.size x x') : ArT W Yo x' := ⟨chainB h.bel hb, fun Y e => ⟨(h.y Y e).1.below hb, (h.y Y e).2⟩⟩
theorem ArT.drew {W x : World} {Yo : Option Nat} (h : ArT W Yo x) : ArT W Yo x.drew := h.below (Below.refl _ _).drew
theorem ArT.al {W x : World} (h : ArT W none x) : ArT W (some x.heap.size) (x.alloc (.cells #[.slice none 0 0, .slice none 0 0, .string ⟨#[]⟩, .int .i64 0] 66)) := ⟨alB h.bel _, fun Y e => by cases e; exact ⟨Bxs.new _ _ _, h.bel.size⟩⟩
theorem ArT.alA {W x : World} {Yo : Option Nat} (h : ArT W Yo x) (o : Obj) : ArT W Yo (x.alloc o) := h.below ((Below.refl _ _).alloc (Nat.le_refl _) o)
theorem ArT.outs {W x : World} {Y : Nat} (h : ArT W (some Y) x) : x.cell? ⟨Y, 0, none⟩ = some (.slice none 0 0) ∧ x.cell? ⟨Y, 1, none⟩ = some (.slice none 0 0) ∧ x.cell? ⟨Y, 2, none⟩ = some (.string ⟨#[]⟩) ∧ x.cell? ⟨Y, 3, none⟩ = some (.int .i64 0) ∧ x.frozen? ⟨Y, 0, none⟩ = false ∧ x.frozen? ⟨Y, 1, none⟩ = false ∧ x.frozen? ⟨Y, 2, none⟩ = false ∧ x.frozen? ⟨Y, 3, none⟩ = false := by
  obtain ⟨k, -⟩ := h.y Y rfl
  exact ⟨k.cell 0, k.cell 1, k.cell 2, k.cell 3, k.fr 0, k.fr 1, k.fr 2, k.fr 3⟩
/-- What a step answered, in its box at Y; its rows can be read. -/
def ArO (W : World) (Y : Nat) (ss : List ByteArray) (ps : List Pnd) (c : Int) (x : World) : Prop :=
  ∃ q1 c1 q2 c2, Bxs x Y 66 #[.slice q1 ss.length c1, .slice q2 ps.length c2, .string ByteArray.empty, .int .i64 c] ∧ ss.length ≤ c1 ∧ ps.length ≤ c2 ∧ TxtAt x q1 ss ∧ PndAt x q2 ps ∧ Below W.heap.size W x
theorem ArO.new {W x : World} {ss : List ByteArray} {ps : List Pnd} {c : Int} {q1 : Option Addr} {c1 : Nat} {q2 : Option Addr} {c2 : Nat} (h : ArT W none x) (m1 : ss.length ≤ c1) (m2 : ps.length ≤ c2) (t1 : TxtAt x q1 ss) (t2 : PndAt x q2 ps) :
    ArO W x.heap.size ss ps c (x.alloc (.cells #[.slice q1 ss.length c1, .slice q2 ps.length c2, .string ByteArray.empty, .int .i64 c] 66)) := by
  have hb := (Below.refl x.heap.size x).alloc (Nat.le_refl _) (.cells #[.slice q1 ss.length c1, .slice q2 ps.length c2, .string ByteArray.empty, .int .i64 c] 66)
  exact ⟨q1, c1, q2, c2, Bxs.new _ _ _, m1, m2, t1.below hb, t2.below hb, alB h.bel _⟩
theorem ArO.put {W x : World} {Y : Nat} {ss : List ByteArray} {ps : List Pnd} {c : Int} {q1 : Option Addr} {c1 : Nat} {q2 : Option Addr} {c2 : Nat} (h : ArT W (some Y) x) (m1 : ss.length ≤ c1) (m2 : ps.length ≤ c2) (t1 : TxtAt x q1 ss) (t2 : PndAt x q2 ps) (n1 : ∀ b o, q1 = some ⟨b, o, none⟩ → ss ≠ [] → b ≠ Y) (n2 : ∀ b o, q2 = some ⟨b, o, none⟩ → ps ≠ [] → b ≠ Y) :
    ArO W Y ss ps c ((((x.setCell ⟨Y, 0, none⟩ (.slice q1 ss.length c1)).setCell ⟨Y, 1, none⟩ (.slice q2 ps.length c2)).setCell ⟨Y, 2, none⟩ (.string ByteArray.empty)).setCell ⟨Y, 3, none⟩ (.int .i64 c)) := by
  obtain ⟨k, hY⟩ := h.y Y rfl
  have k4 := (((k.set 0 (.slice q1 ss.length c1)).set 1 (.slice q2 ps.length c2)).set 2 (.string ByteArray.empty)).set 3 (.int .i64 c)
  have b4 := below_set4 h.bel hY (.slice q1 ss.length c1) (.slice q2 ps.length c2) (.string ByteArray.empty) (.int .i64 c)
  have hoff : ∀ (b : Nat), b ≠ Y → ((((x.setCell ⟨Y, 0, none⟩ (.slice q1 ss.length c1)).setCell ⟨Y, 1, none⟩ (.slice q2 ps.length c2)).setCell ⟨Y, 2, none⟩ (.string ByteArray.empty)).setCell ⟨Y, 3, none⟩ (.int .i64 c)).heap[b]? = x.heap[b]? := fun b hb => by
    simp [World.setCell, Array.getElem?_modify, Ne.symm hb]
  have hsz : ((((x.setCell ⟨Y, 0, none⟩ (.slice q1 ss.length c1)).setCell ⟨Y, 1, none⟩ (.slice q2 ps.length c2)).setCell ⟨Y, 2, none⟩ (.string ByteArray.empty)).setCell ⟨Y, 3, none⟩ (.int .i64 c)).heap.size = x.heap.size := by simp [World.setCell]
  generalize ((((x.setCell ⟨Y, 0, none⟩ (.slice q1 ss.length c1)).setCell ⟨Y, 1, none⟩ (.slice q2 ps.length c2)).setCell ⟨Y, 2, none⟩ (.string ByteArray.empty)).setCell ⟨Y, 3, none⟩ (.int .i64 c)) = X at *
  refine ⟨q1, c1, q2, c2, k4, m1, m2, fun i hi => ?_, fun i hi => ?_, b4⟩
  · obtain ⟨b, o, e, h1, h2⟩ := t1 i hi
    have hb := n1 b o e (fun z => by rw [z] at hi; simp at hi)
    exact ⟨b, o, e, by omega, (World.cell?_of_block (w := x) (hoff b hb) : X.cell? ⟨b, o + i, none⟩ = _).trans h2⟩
  · obtain ⟨b, o, e, h1, h2, h3⟩ := t2 i hi
    have hb := n2 b o e (fun z => by rw [z] at hi; simp at hi)
    exact ⟨b, o, e, by omega, (World.cell?_of_block (w := x) (hoff b hb) : X.cell? ⟨b, o + i * 2, none⟩ = _).trans h2, (World.cell?_of_block (w := x) (hoff b hb) : X.cell? ⟨b, o + i * 2 + 1, none⟩ = _).trans h3⟩
theorem ArO.newH {W x : World} {ss : List ByteArray} {ps : List Pnd} {c : Int} {q1 : Option Addr} {c1 : Nat} {q2 : Option Addr} {c2 : Nat} (h : ArT W none x) (m1 : ss.length ≤ c1) (m2 : ps.length ≤ c2) (t1 : TxtAt x q1 ss) (t2 : PndAt x q2 ps) :
    Hid (ArO W x.heap.size ss ps c (x.alloc (.cells #[.slice q1 ss.length c1, .slice q2 ps.length c2, .string ByteArray.empty, .int .i64 c] 66))) := ArO.new h m1 m2 t1 t2
theorem ArO.putH {W x : World} {Y : Nat} {ss : List ByteArray} {ps : List Pnd} {c : Int} {q1 : Option Addr} {c1 : Nat} {q2 : Option Addr} {c2 : Nat} (h : ArT W (some Y) x) (m1 : ss.length ≤ c1) (m2 : ps.length ≤ c2) (t1 : TxtAt x q1 ss) (t2 : PndAt x q2 ps) (nn : ∀ Z, some Y = some Z → (∀ b o, q1 = some ⟨b, o, none⟩ → ss ≠ [] → b ≠ Z) ∧ (∀ b o, q2 = some ⟨b, o, none⟩ → ps ≠ [] → b ≠ Z)) :
    Hid (ArO W Y ss ps c ((((x.setCell ⟨Y, 0, none⟩ (.slice q1 ss.length c1)).setCell ⟨Y, 1, none⟩ (.slice q2 ps.length c2)).setCell ⟨Y, 2, none⟩ (.string ByteArray.empty)).setCell ⟨Y, 3, none⟩ (.int .i64 c))) := ArO.put h m1 m2 t1 t2 (nn Y rfl).1 (nn Y rfl).2
end Go.Proofs.YtkhffoailfnepabGreatDoor
