/-
  Parts of one proof, laid as one text: TcMath, AreaF; what each says stands at its head.
-/
import Derived.Test.YtnppgldafhpchaaDoorRows
import Derived.Test.YtnppgldafhpchaaDoorBytes
import Derived.Test.YtnppgldafhpchaaDoorDskMath
import Derived.Test.YtnppgldafhpchaaDoorAreaMath
import Derived.Handy
import Derived.Test.YtnppgldafhpchaaDoorSlASlBOwnS
import Derived.Test.YtnppgldafhpchaaDoorSen3PutMath
import Derived.Test.YtnppgldafhpchaaDoorFourCrcMath
import Derived.Test.YtnppgldafhpchaaDoorSealUnsealI
import Derived.Test.YtnppgldafhpchaaDoorDskR
import Derived.Test.YtnppgldafhpchaaDoorTextMathDskS
import Derived.Test.YtnppgldafhpchaaDoorDskA
import Derived.Test.YtnppgldafhpchaaDoorDskC
import Derived.Test.YtnppgldafhpchaaDoorDskT
import Derived.Test.YtnppgldafhpchaaDoorDskWDskFIntKDskK
import Derived.Test.YtnppgldafhpchaaDoorDskLaw
import Derived.Test.YtnppgldafhpchaaDoorLawD
import Derived.Test.YtnppgldafhpchaaDoorAreaA
import Derived.WalkSpells
import Derived.OwnWalk
import Derived.Deep.RegionHeld3
import Derived.Deep.Cut
import Derived.Deep.CutRange
/-
  What Traces answers (plain).
-/
namespace Go.Proofs.YtnppgldafhpchaaDoor
open Go.RowKit Go.Lib
set_option linter.unusedVariables false
set_option maxRecDepth 20000

/-- There is something in that sector, but neither the head nor the text that it names. -/
def tcT (ss : List ByteArray) (ps : List Pnd) (st en k : Nat) : Bool := !(k == 0) && (!(decide (st ≤ k) && decide (k < en)) && !(readB ss ps (k : Int)).toList.isEmpty)
def tcN (ss : List ByteArray) (ps : List Pnd) (st en : Nat) : Nat → Nat
  | 0 => 0
  | k + 1 => tcN ss ps st en k + (if tcT ss ps st en k = true then 1 else 0)
theorem tcN_le (ss : List ByteArray) (ps : List Pnd) (st en : Nat) : ∀ k, tcN ss ps st en k ≤ k
  | 0 => Nat.le_refl _
  | k + 1 => by
    have := tcN_le ss ps st en k
    unfold tcN
    split <;> omega
def tcS (ss : List ByteArray) (S : Nat) : Nat := 1 + S * sideN ss.length
def tcE (ss : List ByteArray) (S Z : Nat) : Nat := tcS ss S + (Z + 63) / 64
def tcO (ss : List ByteArray) (ps : List Pnd) : Int := if arC ss ps = 0 then ((tcN ss ps (tcS ss (seS (readB ss ps 0) (roomN ss))) (tcE ss (seS (readB ss ps 0) (roomN ss)) (seZ (readB ss ps 0) (roomN ss))) ss.length : Nat) : Int) else -1
theorem ret_tc {a b : Int} (h : a = b) : Ending.returned (.int .i64 a) = .returned (.int .i64 b) := by rw [h]
theorem se_bd {R : ByteArray} {room : Nat} (h : seC R room = 0) : seS R room ≤ 1 ∧ seZ R room ≤ room := by
  have hk : HdOk R room := by
    unfold seC at h
    by_cases hu : unC R = 0
    · rw [if_pos hu] at h
      by_cases hk : HdOk R room
      · exact hk
      · rw [if_neg hk] at h; omega
    · rw [if_neg hu] at h; exact absurd h hu
  unfold seS seZ
  rw [if_pos h, if_pos h]
  obtain ⟨-, -, -, -, -, ⟨a, b⟩, ⟨c, d⟩⟩ := hk
  omega
/-- What is known of a disk that bears an area. -/
theorem ar_bd {ss : List ByteArray} {ps : List Pnd} (h : arC ss ps = 0) : (1 ≤ ss.length ∧ ss.length ≤ 64) ∧ seS (readB ss ps 0) (roomN ss) ≤ 1 ∧ seZ (readB ss ps 0) (roomN ss) ≤ 2048 ∧ tcS ss (seS (readB ss ps 0) (roomN ss)) ≤ 64 := by
  obtain ⟨h1, h2, -⟩ := arC_ok h
  obtain ⟨⟨p1, p2⟩, -⟩ := dskB_parts h1
  obtain ⟨s1, s2⟩ := se_bd h2
  have hN : sideN ss.length ≤ 32 := by unfold sideN; omega
  have hR : roomN ss ≤ 2048 := by unfold roomN; omega
  refine ⟨⟨p1, p2⟩, s1, by omega, ?_⟩
  unfold tcS
  have : seS (readB ss ps 0) (roomN ss) * sideN ss.length ≤ 1 * sideN ss.length := Nat.mul_le_mul_right _ s1
  omega
end Go.Proofs.YtnppgldafhpchaaDoor
/-
  What the specification's AreaFormat answers.
  Conditions: the cells of Sectors and Pending hold the texts and the pendings.
-/
namespace Go.Proofs.YtnppgldafhpchaaDoor
open Go.RowKit Go.Lib
set_option linter.unusedVariables false
set_option maxRecDepth 20000

theorem DskO.set5 {base : Nat} {ss : List ByteArray} {ps : List Pnd} {v1 v2 : Value} {w : World} (h : DskO base ss ps v1 v2 w) {g : Nat} (hg : g < base) (x0 x1 x2 x3 x4 : Value) : DskO base ss ps v1 v2 (((((w.setCell ⟨g, 0, none⟩ x0).setCell ⟨g, 1, none⟩ x1).setCell ⟨g, 2, none⟩ x2).setCell ⟨g, 3, none⟩ x3).setCell ⟨g, 4, none⟩ x4) := (h.set4 hg x0 x1 x2 x3).set hg 4 x4
theorem headB_small (g s z : Int) : (headB g s z).size ≤ 34 := by
  have h1 := putB_ten g
  have h2 := putB_ten s
  have h3 := putB_ten z
  unfold headB sealB
  split
  · simp
  · rw [ByteArray.size_append, ByteArray.size_append, ByteArray.size_append, four_size]; omega

/-- A call under way: W2 as it was, and, if it was made, the box of what a step will answer. -/
structure ArT (W : World) (Yo : Option Nat) (x : World) : Prop where
  bel : Below W.heap.size W x
  y : ∀ Y, Yo = some Y → Bxs x Y 41 #[.slice none 0 0, .slice none 0 0, .string ⟨#[]⟩, .int .i64 0] ∧ W.heap.size ≤ Y
theorem ArT.of {W x : World} (h : Below W.heap.size W x) : ArT W none x := ⟨h, fun Y e => by cases e⟩
theorem ArT.below {W x x' : World} {Yo : Option Nat} (h : ArT W Yo x) (hb : Below x.heap.size x x') : ArT W Yo x' := ⟨chainB h.bel hb, fun Y e => ⟨(h.y Y e).1.below hb, (h.y Y e).2⟩⟩
theorem ArT.drew {W x : World} {Yo : Option Nat} (h : ArT W Yo x) : ArT W Yo x.drew := h.below (Below.refl _ _).drew
theorem ArT.al {W x : World} (h : ArT W none x) : ArT W (some x.heap.size) (x.alloc (.cells #[.slice none 0 0, .slice none 0 0, .string ⟨#[]⟩, .int .i64 0] 41)) := ⟨alB h.bel _, fun Y e => by cases e; exact ⟨Bxs.new _ _ _, h.bel.size⟩⟩
theorem ArT.alA {W x : World} {Yo : Option Nat} (h : ArT W Yo x) (o : Obj) : ArT W Yo (x.alloc o) := h.below ((Below.refl _ _).alloc (Nat.le_refl _) o)
theorem ArT.outs {W x : World} {Y : Nat} (h : ArT W (some Y) x) : x.cell? ⟨Y, 0, none⟩ = some (.slice none 0 0) ∧ x.cell? ⟨Y, 1, none⟩ = some (.slice none 0 0) ∧ x.cell? ⟨Y, 2, none⟩ = some (.string ⟨#[]⟩) ∧ x.cell? ⟨Y, 3, none⟩ = some (.int .i64 0) ∧ x.frozen? ⟨Y, 0, none⟩ = false ∧ x.frozen? ⟨Y, 1, none⟩ = false ∧ x.frozen? ⟨Y, 2, none⟩ = false ∧ x.frozen? ⟨Y, 3, none⟩ = false := by
  obtain ⟨k, -⟩ := h.y Y rfl
  exact ⟨k.cell 0, k.cell 1, k.cell 2, k.cell 3, k.fr 0, k.fr 1, k.fr 2, k.fr 3⟩
/-- What a step answered, in its box at Y; its rows can be read. -/
def ArO (W : World) (Y : Nat) (ss : List ByteArray) (ps : List Pnd) (c : Int) (x : World) : Prop :=
  ∃ q1 c1 q2 c2, Bxs x Y 41 #[.slice q1 ss.length c1, .slice q2 ps.length c2, .string ByteArray.empty, .int .i64 c] ∧ ss.length ≤ c1 ∧ ps.length ≤ c2 ∧ TxtAt x q1 ss ∧ PndAt x q2 ps ∧ Below W.heap.size W x
theorem ArO.new {W x : World} {ss : List ByteArray} {ps : List Pnd} {c : Int} {q1 : Option Addr} {c1 : Nat} {q2 : Option Addr} {c2 : Nat} (h : ArT W none x) (m1 : ss.length ≤ c1) (m2 : ps.length ≤ c2) (t1 : TxtAt x q1 ss) (t2 : PndAt x q2 ps) :
    ArO W x.heap.size ss ps c (x.alloc (.cells #[.slice q1 ss.length c1, .slice q2 ps.length c2, .string ByteArray.empty, .int .i64 c] 41)) := by
  have hb := (Below.refl x.heap.size x).alloc (Nat.le_refl _) (.cells #[.slice q1 ss.length c1, .slice q2 ps.length c2, .string ByteArray.empty, .int .i64 c] 41)
  exact ⟨q1, c1, q2, c2, Bxs.new _ _ _, m1, m2, t1.below hb, t2.below hb, alB h.bel _⟩
theorem ArO.put {W x : World} {Y : Nat} {ss : List ByteArray} {ps : List Pnd} {c : Int} {q1 : Option Addr} {c1 : Nat} {q2 : Option Addr} {c2 : Nat} (h : ArT W (some Y) x) (m1 : ss.length ≤ c1) (m2 : ps.length ≤ c2) (t1 : TxtAt x q1 ss) (t2 : PndAt x q2 ps) (n1 : ∀ b o, q1 = some ⟨b, o, none⟩ → ss ≠ [] → b ≠ Y) (n2 : ∀ b o, q2 = some ⟨b, o, none⟩ → ps ≠ [] → b ≠ Y) :
    ArO W Y ss ps c ((((x.setCell ⟨Y, 0, none⟩ (.slice q1 ss.length c1)).setCell ⟨Y, 1, none⟩ (.slice q2 ps.length c2)).setCell ⟨Y, 2, none⟩ (.string ByteArray.empty)).setCell ⟨Y, 3, none⟩ (.int .i64 c)) := by
  obtain ⟨k, hY⟩ := h.y Y rfl
  have k4 := (((k.set 0 (.slice q1 ss.length c1)).set 1 (.slice q2 ps.length c2)).set 2 (.string ByteArray.empty)).set 3 (.int .i64 c)
  have b4 := below_set4 h.bel hY (.slice q1 ss.length c1) (.slice q2 ps.length c2) (.string ByteArray.empty) (.int .i64 c)
  have hoff : ∀ (b : Nat), b ≠ Y → ((((x.setCell ⟨Y, 0, none⟩ (.slice q1 ss.length c1)).setCell ⟨Y, 1, none⟩ (.slice q2 ps.length c2)).setCell ⟨Y, 2, none⟩ (.string ByteArray.empty)).setCell ⟨Y, 3, none⟩ (.int .i64 c)).heap[b]? = x.heap[b]? := fun b hb => by
    simp [World.setCell, Array.getElem?_modify, Ne.symm hb]
  have hsz : ((((x.setCell ⟨Y, 0, none⟩ (.slice q1 ss.length c1)).setCell ⟨Y, 1, none⟩ (.slice q2 ps.length c2)).setCell ⟨Y, 2, none⟩ (.string ByteArray.empty)).setCell ⟨Y, 3, none⟩ (.int .i64 c)).heap.size = x.heap.size := by simp [World.setCell]
  generalize ((((x.setCell ⟨Y, 0, none⟩ (.slice q1 ss.length c1)).setCell ⟨Y, 1, none⟩ (.slice q2 ps.length c2)).setCell ⟨Y, 2, none⟩ (.string ByteArray.empty)).setCell ⟨Y, 3, none⟩ (.int .i64 c)) = X at *
  refine ⟨q1, c1, q2, c2, k4, m1, m2, fun i hi => ?_, fun i hi => ?_, b4⟩
  · obtain ⟨b, o, e, h1, h2⟩ := t1 i hi
    have hb := n1 b o e (fun z => by rw [z] at hi; simp at hi)
    exact ⟨b, o, e, by omega, (World.cell?_of_block (w := x) (hoff b hb) : X.cell? ⟨b, o + i, none⟩ = _).trans h2⟩
  · obtain ⟨b, o, e, h1, h2, h3⟩ := t2 i hi
    have hb := n2 b o e (fun z => by rw [z] at hi; simp at hi)
    exact ⟨b, o, e, by omega, (World.cell?_of_block (w := x) (hoff b hb) : X.cell? ⟨b, o + i * 2, none⟩ = _).trans h2, (World.cell?_of_block (w := x) (hoff b hb) : X.cell? ⟨b, o + i * 2 + 1, none⟩ = _).trans h3⟩
theorem ArO.newH {W x : World} {ss : List ByteArray} {ps : List Pnd} {c : Int} {q1 : Option Addr} {c1 : Nat} {q2 : Option Addr} {c2 : Nat} (h : ArT W none x) (m1 : ss.length ≤ c1) (m2 : ps.length ≤ c2) (t1 : TxtAt x q1 ss) (t2 : PndAt x q2 ps) :
    Hid (ArO W x.heap.size ss ps c (x.alloc (.cells #[.slice q1 ss.length c1, .slice q2 ps.length c2, .string ByteArray.empty, .int .i64 c] 41))) := ArO.new h m1 m2 t1 t2
theorem ArO.putH {W x : World} {Y : Nat} {ss : List ByteArray} {ps : List Pnd} {c : Int} {q1 : Option Addr} {c1 : Nat} {q2 : Option Addr} {c2 : Nat} (h : ArT W (some Y) x) (m1 : ss.length ≤ c1) (m2 : ps.length ≤ c2) (t1 : TxtAt x q1 ss) (t2 : PndAt x q2 ps) (nn : ∀ Z, some Y = some Z → (∀ b o, q1 = some ⟨b, o, none⟩ → ss ≠ [] → b ≠ Z) ∧ (∀ b o, q2 = some ⟨b, o, none⟩ → ps ≠ [] → b ≠ Z)) :
    Hid (ArO W Y ss ps c ((((x.setCell ⟨Y, 0, none⟩ (.slice q1 ss.length c1)).setCell ⟨Y, 1, none⟩ (.slice q2 ps.length c2)).setCell ⟨Y, 2, none⟩ (.string ByteArray.empty)).setCell ⟨Y, 3, none⟩ (.int .i64 c))) := ArO.put h m1 m2 t1 t2 (nn Y rfl).1 (nn Y rfl).2
end Go.Proofs.YtnppgldafhpchaaDoor
