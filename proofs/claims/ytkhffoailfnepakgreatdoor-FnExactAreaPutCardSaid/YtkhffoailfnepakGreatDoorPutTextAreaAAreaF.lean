/-
  Parts of one proof, laid as one text: PutText, AreaA, AreaF; what each says stands at its head.
-/
import Derived.Test.YtkhffoailfnepakGreatDoorRows
import Derived.Test.YtkhffoailfnepakGreatDoorBytesDigMath
import Derived.Test.YtkhffoailfnepakGreatDoorPutMathCrc
import Derived.Test.YtkhffoailfnepakGreatDoorPutNum
import Derived.Test.YtkhffoailfnepakGreatDoorFourJoinedSealOwnB
import Derived.Handy
import Derived.Test.YtkhffoailfnepakGreatDoorSlASlBOwnSDskMath
import Derived.Test.YtkhffoailfnepakGreatDoorDskCDskRDskS
import Derived.WalkSpells
import Derived.OwnWalk
import Derived.Test.YtkhffoailfnepakGreatDoorAppSStepAppDskA
import Derived.Test.YtkhffoailfnepakGreatDoorDskT
import Derived.Test.YtkhffoailfnepakGreatDoorDskW
import Derived.Test.YtkhffoailfnepakGreatDoorDskFDskKDskLaw
import Derived.Test.YtkhffoailfnepakGreatDoorLawD
import Derived.Deep.RegionHeld3
import Derived.Deep.Cut
import Derived.Deep.CutRange
/-
  What PutText answers, in the program and in the specification: the length's bytes and the text behind them, or the empty text.
  Conditions: the string fits the form's own reach.
-/
namespace Go.Proofs.YtkhffoailfnepakGreatDoor
open Go.RowKit Go.Lib
set_option linter.unusedVariables false

def putTextB (s : ByteArray) : ByteArray := if 8000 < s.size then ByteArray.empty else putB (s.size : Int) ++ s

theorem putI_len : ∀ (f : Nat) (u : Int), (putI f u).length ≤ f + 1
  | 0, u => Nat.le_refl _
  | f + 1, u => by
    unfold putI; split
    · simp
    · have := putI_len f (u / 128); simp; omega
theorem putB_size (n : Int) : (putB n).size ≤ 10 := by unfold putB; rw [strOfNums_size]; exact putI_len 9 _

end Go.Proofs.YtkhffoailfnepakGreatDoor
/-
  What the specification's l06Half, l06First, l06Ill, AreaRoom and l06Head answer.
  Conditions: the cells of Sectors and Pending hold the texts and the pendings; the numbers lie within 64 bits.
-/
namespace Go.Proofs.YtkhffoailfnepakGreatDoor
open Go.RowKit Go.Lib
set_option linter.unusedVariables false
set_option maxRecDepth 20000

/-- How many sectors a side has. -/
def sideN (n : Nat) : Nat := (n - 1) / 2
theorem l06Half_any (q1 : Option Addr) (n c1 : Nat) (q2 : Option Addr) (m c2 : Nat) (w : World) (h0 : 1 ≤ n) (hn : n ≤ 1048576) :
    Calls Tryz.prog 19 #[.agg #[.slice q1 n c1, .slice q2 m c2]] w fun e w' => e = .returned (.int .i64 (sideN n : Nat)) ∧ Below w.heap.size w w' := by
  have B1 : Below w.heap.size w (w.alloc (.cells #[.slice q1 n c1, .slice q2 m c2] 29)) := (Below.refl _ _).alloc (Nat.le_refl _) _
  have hw : IntKind.i64.wrap ((n : Int) - 1) = (n : Int) - 1 := by rw [IntKind.wrap_i64]; omega
  have hq : ((n : Int) - 1).tdiv 2 = ((sideN n : Nat) : Int) := by
    unfold sideN
    rw [Int.tdiv_eq_ediv_of_nonneg (by omega)]
    omega
  have hw2 : IntKind.i64.wrap ((sideN n : Nat) : Int) = ((sideN n : Nat) : Int) := by
    have : sideN n ≤ 1048576 := by unfold sideN; omega
    rw [IntKind.wrap_i64]; omega
  generalize sideN n = H at *
  go_enter Tryz.func19, Tryz.ntmps19
  go_wp2
  go_ret
  exact ⟨rfl, B1⟩
theorem l06First_any (q1 : Option Addr) (n c1 : Nat) (q2 : Option Addr) (m c2 : Nat) (side : Nat) (w : World) (h0 : 1 ≤ n) (hn : n ≤ 1048576) (hs : side ≤ 1) :
    Calls Tryz.prog 22 #[.agg #[.slice q1 n c1, .slice q2 m c2], .int .i64 (side : Int)] w fun e w' => e = .returned (.int .i64 ((1 + side * sideN n : Nat) : Int)) ∧ Below w.heap.size w w' := by
  obtain ⟨W1, hW1⟩ : ∃ W1, W1 = w.alloc (.cells #[.slice q1 n c1, .slice q2 m c2] 29) := ⟨_, rfl⟩
  have HW1 : Hid (W1 = w.alloc (.cells #[.slice q1 n c1, .slice q2 m c2] 29)) := hW1
  have B1 : Below w.heap.size w W1 := by rw [hW1]; exact (Below.refl _ _).alloc (Nat.le_refl _) _
  have hh := l06Half_any q1 n c1 q2 m c2 W1 h0 hn
  have hH : sideN n ≤ 1048576 := by unfold sideN; omega
  generalize sideN n = H at *
  have hp : side * H ≤ 1048576 := by
    rcases Nat.le_one_iff_eq_zero_or_eq_one.1 hs with rfl | rfl <;> omega
  have hw1 : IntKind.i64.wrap ((side : Int) * (H : Int)) = (side : Int) * (H : Int) := by
    rw [IntKind.wrap_i64, ← Int.natCast_mul]; omega
  have hw2 : IntKind.i64.wrap (1 + (side : Int) * (H : Int)) = 1 + (side : Int) * (H : Int) := by
    rw [IntKind.wrap_i64, ← Int.natCast_mul]; omega
  have he : ((1 + side * H : Nat) : Int) = 1 + (side : Int) * (H : Int) := by simp
  rw [he]
  clear hW1 he
  go_enter Tryz.func22, Tryz.ntmps22
  go_wp2_with fail
  rw [← HW1.out]
  refine hh.mono ?_
  rintro e w2 ⟨rfl, b2⟩
  have b2 := chainB B1 b2
  go_wp2_with fail
  go_ret
  exact ⟨rfl, b2⟩
theorem l06Ill_any (c : Int) (w : World) : Calls Tryz.prog 15 #[.int .i64 c] w fun e w' => e = .returned (.agg #[.slice none 0 0, .slice none 0 0, .string ByteArray.empty, .int .i64 0, .int .i64 c]) ∧ Below w.heap.size w w' := by
  have B1 : Below w.heap.size w (w.alloc (.cells #[.slice none 0 0, .slice none 0 0, .string ByteArray.empty, .int .i64 0, .int .i64 c] 31)) := (Below.refl _ _).alloc (Nat.le_refl _) _
  go_enter Tryz.func15, Tryz.ntmps15
  go_wp2_with fail
  refine bodyPost_ret (v := .agg #[.slice none 0 0, .slice none 0 0, .string ByteArray.empty, .int .i64 0, .int .i64 c]) (by simp [results, Tryz.results15, go_sem]; rfl) rfl ?_
  exact ⟨rfl, B1⟩
/-- How many bytes there is room for. -/
def roomB (ss : List ByteArray) (ps : List Pnd) : Nat := if dskB ss ps = true then 64 * sideN ss.length else 0
/-- The head's text. -/
def headB (g s z : Int) : ByteArray := sealB (putB g ++ putB s ++ putB z)
theorem putB_ten (n : Int) : (putB n).size ≤ 10 := by unfold putB; rw [strOfNums_size]; exact putI_len 9 _
theorem l06Head_any (g s z : Int) (w : World) (g0 : -9223372036854775808 ≤ g) (g1 : g ≤ 9223372036854775807) (s0 : -9223372036854775808 ≤ s) (s1 : s ≤ 9223372036854775807) (z0 : -9223372036854775808 ≤ z) (z1 : z ≤ 9223372036854775807) :
    Calls Tryz.prog 24 #[.int .i64 g, .int .i64 s, .int .i64 z] w fun e w' => e = .returned (.string (headB g s z)) ∧ Below w.heap.size w w' := by
  have tg := putB_ten g
  have ts := putB_ten s
  have tz := putB_ten z
  have tgs : (putB g ++ putB s).size ≤ 20 := by rw [ByteArray.size_append]; omega
  have hG := fun x => specPutNum_any g x g0 g1
  have hS := fun x => specPutNum_any s x s0 s1
  have hZ := fun x => specPutNum_any z x z0 z1
  have hE := fun x => specSeal_any (putB g ++ putB s ++ putB z) x (by unfold maxLen; rw [ByteArray.size_append]; omega)
  have HH : Hid (headB g s z = sealB (putB g ++ putB s ++ putB z)) := rfl
  have HG : Hid (∀ x, _) := hG
  have HS : Hid (∀ x, _) := hS
  have HZ : Hid (∀ x, _) := hZ
  have HE : Hid (∀ x, _) := hE
  rw [HH.out]
  clear hG hS hZ hE
  go_enter Tryz.func24, Tryz.ntmps24
  go_wp2_with fail
  refine (HG.out _).mono ?_
  rintro e w1 ⟨rfl, b1⟩
  go_wp2_with fail
  refine (HS.out _).mono ?_
  rintro e w2 ⟨rfl, b2⟩
  have b2 := chainB b1 b2
  go_wp2_with fail
  refine (HZ.out _).mono ?_
  rintro e w3 ⟨rfl, b3⟩
  have b3 := chainB b2 b3
  go_wp2_with fail
  refine (HE.out _).mono ?_
  rintro e w4 ⟨rfl, b4⟩
  have b4 := chainB b3 b4
  go_wp2_with fail
  go_ret
  exact ⟨rfl, b4⟩
end Go.Proofs.YtkhffoailfnepakGreatDoor
/-
  What the specification's AreaFormat answers.
  Conditions: the cells of Sectors and Pending hold the texts and the pendings.
-/
namespace Go.Proofs.YtkhffoailfnepakGreatDoor
open Go.RowKit Go.Lib
set_option linter.unusedVariables false
set_option maxRecDepth 20000

theorem DskO.set5 {base : Nat} {ss : List ByteArray} {ps : List Pnd} {v1 v2 : Value} {w : World} (h : DskO base ss ps v1 v2 w) {g : Nat} (hg : g < base) (x0 x1 x2 x3 x4 : Value) : DskO base ss ps v1 v2 (((((w.setCell ⟨g, 0, none⟩ x0).setCell ⟨g, 1, none⟩ x1).setCell ⟨g, 2, none⟩ x2).setCell ⟨g, 3, none⟩ x3).setCell ⟨g, 4, none⟩ x4) := (h.set4 hg x0 x1 x2 x3).set hg 4 x4
theorem below_set5 {B : Nat} {a w : World} (h : Below B a w) {g : Nat} (hg : B ≤ g) (x0 x1 x2 x3 x4 : Value) : Below B a (((((w.setCell ⟨g, 0, none⟩ x0).setCell ⟨g, 1, none⟩ x1).setCell ⟨g, 2, none⟩ x2).setCell ⟨g, 3, none⟩ x3).setCell ⟨g, 4, none⟩ x4) := (below_set4 h hg x0 x1 x2 x3).setCell hg _
theorem headB_small (g s z : Int) : (headB g s z).size ≤ 34 := by
  have h1 := putB_ten g
  have h2 := putB_ten s
  have h3 := putB_ten z
  unfold headB sealB
  split
  · simp
  · rw [ByteArray.size_append, ByteArray.size_append, ByteArray.size_append, four_size]; omega

/-- A call under way: W2 as it was, and, if it was made, the box of what a step will answer. -/
structure ArT (W : World) (Yo : Option Nat) (x : World) : Prop where
  bel : Below W.heap.size W x
  y : ∀ Y, Yo = some Y → Bxs x Y 49 #[.slice none 0 0, .slice none 0 0, .string ⟨#[]⟩, .int .i64 0] ∧ W.heap.size ≤ Y
theorem ArT.of {W x : World} (h : Below W.heap.size W x) : ArT W none x := ⟨h, fun Y e => by cases e⟩
theorem ArT.below {W x x' : World} {Yo : Option Nat} (h : ArT W Yo x) (hb : Below x.heap.size x x') : ArT W Yo x' := ⟨chainB h.bel hb, fun Y e => ⟨(h.y Y e).1.below hb, (h.y Y e).2⟩⟩
theorem ArT.drew {W x : World} {Yo : Option Nat} (h : ArT W Yo x) : ArT W Yo x.drew := h.below (Below.refl _ _).drew
theorem ArT.al {W x : World} (h : ArT W none x) : ArT W (some x.heap.size) (x.alloc (.cells #[.slice none 0 0, .slice none 0 0, .string ⟨#[]⟩, .int .i64 0] 49)) := ⟨alB h.bel _, fun Y e => by cases e; exact ⟨Bxs.new _ _ _, h.bel.size⟩⟩
theorem ArT.alA {W x : World} {Yo : Option Nat} (h : ArT W Yo x) (o : Obj) : ArT W Yo (x.alloc o) := h.below ((Below.refl _ _).alloc (Nat.le_refl _) o)
theorem ArT.outs {W x : World} {Y : Nat} (h : ArT W (some Y) x) : x.cell? ⟨Y, 0, none⟩ = some (.slice none 0 0) ∧ x.cell? ⟨Y, 1, none⟩ = some (.slice none 0 0) ∧ x.cell? ⟨Y, 2, none⟩ = some (.string ⟨#[]⟩) ∧ x.cell? ⟨Y, 3, none⟩ = some (.int .i64 0) ∧ x.frozen? ⟨Y, 0, none⟩ = false ∧ x.frozen? ⟨Y, 1, none⟩ = false ∧ x.frozen? ⟨Y, 2, none⟩ = false ∧ x.frozen? ⟨Y, 3, none⟩ = false := by
  obtain ⟨k, -⟩ := h.y Y rfl
  exact ⟨k.cell 0, k.cell 1, k.cell 2, k.cell 3, k.fr 0, k.fr 1, k.fr 2, k.fr 3⟩
/-- What a step answered, in its box at Y; its rows can be read. -/
def ArO (W : World) (Y : Nat) (ss : List ByteArray) (ps : List Pnd) (c : Int) (x : World) : Prop :=
  ∃ q1 c1 q2 c2, Bxs x Y 49 #[.slice q1 ss.length c1, .slice q2 ps.length c2, .string ByteArray.empty, .int .i64 c] ∧ ss.length ≤ c1 ∧ ps.length ≤ c2 ∧ TxtAt x q1 ss ∧ PndAt x q2 ps ∧ Below W.heap.size W x
theorem ArO.new {W x : World} {ss : List ByteArray} {ps : List Pnd} {c : Int} {q1 : Option Addr} {c1 : Nat} {q2 : Option Addr} {c2 : Nat} (h : ArT W none x) (m1 : ss.length ≤ c1) (m2 : ps.length ≤ c2) (t1 : TxtAt x q1 ss) (t2 : PndAt x q2 ps) :
    ArO W x.heap.size ss ps c (x.alloc (.cells #[.slice q1 ss.length c1, .slice q2 ps.length c2, .string ByteArray.empty, .int .i64 c] 49)) := by
  have hb := (Below.refl x.heap.size x).alloc (Nat.le_refl _) (.cells #[.slice q1 ss.length c1, .slice q2 ps.length c2, .string ByteArray.empty, .int .i64 c] 49)
  exact ⟨q1, c1, q2, c2, Bxs.new _ _ _, m1, m2, t1.below hb, t2.below hb, alB h.bel _⟩
theorem ArO.put {W x : World} {Y : Nat} {ss : List ByteArray} {ps : List Pnd} {c : Int} {q1 : Option Addr} {c1 : Nat} {q2 : Option Addr} {c2 : Nat} (h : ArT W (some Y) x) (m1 : ss.length ≤ c1) (m2 : ps.length ≤ c2) (t1 : TxtAt x q1 ss) (t2 : PndAt x q2 ps) (n1 : ∀ b o, q1 = some ⟨b, o, none⟩ → ss ≠ [] → b ≠ Y) (n2 : ∀ b o, q2 = some ⟨b, o, none⟩ → ps ≠ [] → b ≠ Y) :
    ArO W Y ss ps c ((((x.setCell ⟨Y, 0, none⟩ (.slice q1 ss.length c1)).setCell ⟨Y, 1, none⟩ (.slice q2 ps.length c2)).setCell ⟨Y, 2, none⟩ (.string ByteArray.empty)).setCell ⟨Y, 3, none⟩ (.int .i64 c)) := by
  obtain ⟨k, hY⟩ := h.y Y rfl
  have k4 := (((k.set 0 (.slice q1 ss.length c1)).set 1 (.slice q2 ps.length c2)).set 2 (.string ByteArray.empty)).set 3 (.int .i64 c)
  have b4 := below_set4 h.bel hY (.slice q1 ss.length c1) (.slice q2 ps.length c2) (.string ByteArray.empty) (.int .i64 c)
  have hoff : ∀ (b : Nat), b ≠ Y → ((((x.setCell ⟨Y, 0, none⟩ (.slice q1 ss.length c1)).setCell ⟨Y, 1, none⟩ (.slice q2 ps.length c2)).setCell ⟨Y, 2, none⟩ (.string ByteArray.empty)).setCell ⟨Y, 3, none⟩ (.int .i64 c)).heap[b]? = x.heap[b]? := fun b hb => by
    simp [World.setCell, Array.getElem?_modify, Ne.symm hb]
  have hsz : ((((x.setCell ⟨Y, 0, none⟩ (.slice q1 ss.length c1)).setCell ⟨Y, 1, none⟩ (.slice q2 ps.length c2)).setCell ⟨Y, 2, none⟩ (.string ByteArray.empty)).setCell ⟨Y, 3, none⟩ (.int .i64 c)).heap.size = x.heap.size := by simp [World.setCell]
  generalize ((((x.setCell ⟨Y, 0, none⟩ (.slice q1 ss.length c1)).setCell ⟨Y, 1, none⟩ (.slice q2 ps.length c2)).setCell ⟨Y, 2, none⟩ (.string ByteArray.empty)).setCell ⟨Y, 3, none⟩ (.int .i64 c)) = X at *
  refine ⟨q1, c1, q2, c2, k4, m1, m2, fun i hi => ?_, fun i hi => ?_, b4⟩
  · obtain ⟨b, o, e, h1, h2⟩ := t1 i hi
    have hb := n1 b o e (fun z => by rw [z] at hi; simp at hi)
    exact ⟨b, o, e, by omega, (World.cell?_of_block (w := x) (hoff b hb) : X.cell? ⟨b, o + i, none⟩ = _).trans h2⟩
  · obtain ⟨b, o, e, h1, h2, h3⟩ := t2 i hi
    have hb := n2 b o e (fun z => by rw [z] at hi; simp at hi)
    exact ⟨b, o, e, by omega, (World.cell?_of_block (w := x) (hoff b hb) : X.cell? ⟨b, o + i * 2, none⟩ = _).trans h2, (World.cell?_of_block (w := x) (hoff b hb) : X.cell? ⟨b, o + i * 2 + 1, none⟩ = _).trans h3⟩
theorem ArO.newH {W x : World} {ss : List ByteArray} {ps : List Pnd} {c : Int} {q1 : Option Addr} {c1 : Nat} {q2 : Option Addr} {c2 : Nat} (h : ArT W none x) (m1 : ss.length ≤ c1) (m2 : ps.length ≤ c2) (t1 : TxtAt x q1 ss) (t2 : PndAt x q2 ps) :
    Hid (ArO W x.heap.size ss ps c (x.alloc (.cells #[.slice q1 ss.length c1, .slice q2 ps.length c2, .string ByteArray.empty, .int .i64 c] 49))) := ArO.new h m1 m2 t1 t2
theorem ArO.putH {W x : World} {Y : Nat} {ss : List ByteArray} {ps : List Pnd} {c : Int} {q1 : Option Addr} {c1 : Nat} {q2 : Option Addr} {c2 : Nat} (h : ArT W (some Y) x) (m1 : ss.length ≤ c1) (m2 : ps.length ≤ c2) (t1 : TxtAt x q1 ss) (t2 : PndAt x q2 ps) (nn : ∀ Z, some Y = some Z → (∀ b o, q1 = some ⟨b, o, none⟩ → ss ≠ [] → b ≠ Z) ∧ (∀ b o, q2 = some ⟨b, o, none⟩ → ps ≠ [] → b ≠ Z)) :
    Hid (ArO W Y ss ps c ((((x.setCell ⟨Y, 0, none⟩ (.slice q1 ss.length c1)).setCell ⟨Y, 1, none⟩ (.slice q2 ps.length c2)).setCell ⟨Y, 2, none⟩ (.string ByteArray.empty)).setCell ⟨Y, 3, none⟩ (.int .i64 c))) := ArO.put h m1 m2 t1 t2 (nn Y rfl).1 (nn Y rfl).2
end Go.Proofs.YtkhffoailfnepakGreatDoor
