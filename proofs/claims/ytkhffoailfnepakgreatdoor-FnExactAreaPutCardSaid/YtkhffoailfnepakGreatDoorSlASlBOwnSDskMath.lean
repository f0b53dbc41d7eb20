/-
  Parts of one proof, laid as one text: SlA, SlB, OwnS, DskMath; what each says stands at its head.
-/
import Derived.Test.YtkhffoailfnepakGreatDoorRows
import Derived.Test.YtkhffoailfnepakGreatDoorBytesDigMath
import Derived.Test.YtkhffoailfnepakGreatDoorTreeMath
import Derived.Handy
import Derived.Deep.QuietTactic
import Derived.BigQuiet
import Derived.OwnWalk
import Derived.Deep.AppendLies
/-
  Slices of texts that are only read: what areDigests, entriesRight and l03Entries answer.
  Conditions: the slice's cells hold those texts; it is at most 2^47 long.
-/
namespace Go.Proofs.YtkhffoailfnepakGreatDoor
open Go.RowKit Go.Lib
set_option linter.unusedVariables false

/-- The cells that a slice of texts leads to hold these texts (of none nothing is asked: also nil). -/
def TxtAt (w : World) (p : Option Addr) (ss : List ByteArray) : Prop :=
  ∀ i (h : i < ss.length), ∃ b off, p = some ⟨b, off, none⟩ ∧ b < w.heap.size ∧ w.cell? ⟨b, off + i, none⟩ = some (.string ss[i])
theorem TxtAt.below {w w' : World} {p : Option Addr} {ss : List ByteArray} (h : TxtAt w p ss) (hb : Below w.heap.size w w') : TxtAt w' p ss := by
  intro i hi
  obtain ⟨b, off, rfl, h1, h2⟩ := h i hi
  exact ⟨b, off, rfl, Nat.lt_of_lt_of_le h1 hb.size, (hb.cell (p := ⟨b, off + i, none⟩) h1).trans h2⟩
theorem TxtAt.nil (w : World) (p : Option Addr) : TxtAt w p [] := fun i h => by simp at h
theorem TxtAt.take {w : World} {p : Option Addr} {ss : List ByteArray} (h : TxtAt w p ss) (k : Nat) : TxtAt w p (ss.take k) := by
  intro i hi
  obtain ⟨b, off, h0, h1, h2⟩ := h i (by simp at hi; omega)
  exact ⟨b, off, h0, h1, by rw [h2, List.getElem_take]⟩
theorem TxtAt.drop {w : World} {b off : Nat} {ss : List ByteArray} (h : TxtAt w (some ⟨b, off, none⟩) ss) (k : Nat) : TxtAt w (some ⟨b, off + k, none⟩) (ss.drop k) := by
  intro i hi
  obtain ⟨b', off', h0, h1, h2⟩ := h (k + i) (by simp at hi; omega)
  cases h0
  exact ⟨b, off + k, rfl, h1, by rw [List.getElem_drop, ← h2, Nat.add_assoc]⟩
theorem TxtAt.at {w : World} {b off : Nat} {ss : List ByteArray} (h : TxtAt w (some ⟨b, off, none⟩) ss) (i : Nat) (hi : i < ss.length) : w.cell? ⟨b, off + i, none⟩ = some (.string ss[i]) := by
  obtain ⟨b', off', h0, h1, h2⟩ := h i hi
  cases h0; exact h2

theorem chainB {w w1 w2 : World} (b1 : Below w.heap.size w w1) (b2 : Below w1.heap.size w1 w2) : Below w.heap.size w w2 := b1.trans (b2.mono b1.size)
def wideB (ss : List ByteArray) : Bool := ss.all fun x => x.size == 32
def entB (ss : List ByteArray) : Bool := decide (ss.length ≤ 64) && ss.all fun x => decide (x.size ≤ 100)
theorem wideB_true {ss : List ByteArray} (h : ∀ j (h : j < ss.length), ss[j].size = 32) : wideB ss = true := by
  unfold wideB; rw [List.all_eq_true]; intro x hx
  obtain ⟨j, hj, rfl⟩ := List.getElem_of_mem hx
  simpa using h j hj
theorem wideB_false {ss : List ByteArray} {k : Nat} (hk : k < ss.length) (h : ss[k].size ≠ 32) : wideB ss = false := by
  unfold wideB; rw [List.all_eq_false]; exact ⟨_, List.getElem_mem hk, by simpa using h⟩
theorem wideB_all {ss : List ByteArray} (h : wideB ss = true) : ∀ x ∈ ss, x.size = 32 := by
  unfold wideB at h; rw [List.all_eq_true] at h; intro x hx; simpa using h x hx
theorem entB_true {ss : List ByteArray} (hl : ss.length ≤ 64) (h : ∀ j (h : j < ss.length), ss[j].size ≤ 100) : entB ss = true := by
  unfold entB; rw [Bool.and_eq_true, List.all_eq_true]; refine ⟨by simpa using hl, fun x hx => ?_⟩
  obtain ⟨j, hj, rfl⟩ := List.getElem_of_mem hx
  simpa using h j hj
theorem entB_false {ss : List ByteArray} {k : Nat} (hk : k < ss.length) (h : ¬ ss[k].size ≤ 100) : entB ss = false := by
  unfold entB; rw [Bool.and_eq_false_iff]; right; rw [List.all_eq_false]; exact ⟨_, List.getElem_mem hk, by simpa using h⟩
theorem entB_long {ss : List ByteArray} (h : ¬ ss.length ≤ 64) : entB ss = false := by
  unfold entB; rw [Bool.and_eq_false_iff]; left; simpa using h
theorem entB_len {ss : List ByteArray} (h : entB ss = true) : ss.length ≤ 64 := by
  unfold entB at h; rw [Bool.and_eq_true] at h; simpa using h.1
theorem entB_all {ss : List ByteArray} (h : entB ss = true) : ∀ x ∈ ss, x.size ≤ 100 := by
  unfold entB at h; rw [Bool.and_eq_true, List.all_eq_true] at h; intro x hx; simpa using h.2 x hx
theorem ret_bool {a b : Bool} (h : a = b) : Ending.returned (.bool a) = .returned (.bool b) := by rw [h]

end Go.Proofs.YtkhffoailfnepakGreatDoor
/-
  A block that holds texts (BlkS), made and written; nothing here speaks of a function of the program.
-/
namespace Go.Proofs.YtkhffoailfnepakGreatDoor
open Go.RowKit Go.Lib
set_option linter.unusedVariables false

def strRow (l : List ByteArray) : List Value := l.map Value.string
/-- A block that holds these texts and no more; nothing of it is frozen. -/
def BlkS (w : World) (g : Nat) (l : List ByteArray) : Prop := w.heap[g]? = some (.cells (strRow l).toArray 9 (0, 0))
theorem BlkS.lt {w : World} {g : Nat} {l : List ByteArray} (h : BlkS w g l) : g < w.heap.size := by
  rcases Nat.lt_or_ge g w.heap.size with q | q
  · exact q
  · unfold BlkS at h; rw [Array.getElem?_eq_none q] at h; cases h
theorem BlkS.cell {w : World} {g : Nat} {l : List ByteArray} (h : BlkS w g l) (i : Nat) (hi : i < l.length) : w.cell? ⟨g, i, none⟩ = some (.string l[i]) ∧ w.frozen? ⟨g, i, none⟩ = false := by
  unfold BlkS at h
  constructor
  · simp [World.cell?, h, strRow, hi]
  · simp [World.frozen?, h]
theorem BlkS.txt {w : World} {g : Nat} {l : List ByteArray} (h : BlkS w g l) : TxtAt w (some ⟨g, 0, none⟩) l := fun i hi => ⟨g, 0, rfl, h.lt, by rw [Nat.zero_add]; exact (h.cell i hi).1⟩
theorem BlkS.below {w w' : World} {g : Nat} {l : List ByteArray} (h : BlkS w g l) {B : Nat} (hb : Below B w w') (hg : g < B) : BlkS w' g l := (hb.block g hg).trans h
theorem BlkS.set {w : World} {g : Nat} {l : List ByteArray} (h : BlkS w g l) (k : Nat) (s : ByteArray) : BlkS (w.setCell ⟨g, k, none⟩ (.string s)) g (l.set k s) := by
  unfold BlkS at h ⊢
  simp [World.setCell, Array.getElem?_modify, h, strRow, List.map_set]
theorem BlkS.setOther {w : World} {g : Nat} {l : List ByteArray} (h : BlkS w g l) (g' k : Nat) (hne : g' ≠ g) (v : Value) : BlkS (w.setCell ⟨g', k, none⟩ v) g l := by
  unfold BlkS at h ⊢
  have : (w.setCell ⟨g', k, none⟩ v).heap[g]? = w.heap[g]? := by simp [World.setCell, Array.getElem?_modify, hne]
  rw [this, h]
theorem BlkS.own {w : World} {g : Nat} {l : List ByteArray} (h : BlkS w g l) (base : Nat) (hb : base ≤ g) (hm : l.length ≤ maxLen) : w.ownsRow base 9 1 (.slice (some ⟨g, 0, none⟩) l.length l.length) l.length (strRow l) :=
  ⟨by simp [strRow], .inr ⟨g, l.length, (strRow l).toArray, rfl, hb, h, Nat.le_refl _, hm, by simp [strRow], by rw [Nat.mul_one]; exact List.take_of_length_le (by simp [strRow])⟩⟩

theorem infoStr : (Tryz.prog.info? 9).map (fun i => (i.zero, i.size, i.bytes)) = some (some (.string ByteArray.empty), 1, 16) := by kernel_rfl
theorem made_str (n : Nat) : madeCells #[.string ByteArray.empty] n = (strRow (List.replicate n ByteArray.empty)).toArray := by
  unfold madeCells strRow
  apply Array.ext
  · simp
  · intro i h1 h2; simp [Nat.mod_one]
theorem run_make_str (n : Nat) (hn : n ≤ 1048576) (w : World) :
    (Instr.makeSlice 22 (.int .i64 (n : Int)) (.int .i64 (n : Int))).run Tryz.prog w = .ok (.slice (some ⟨w.heap.size, 0, none⟩) n n) (w.alloc (.cells (strRow (List.replicate n ByteArray.empty)).toArray 9)) := by
  obtain ⟨i0, hi, hz0, hz1, hz2⟩ := info_parts infoStr
  have := run_make (P := Tryz.prog) w 22 9 i0 (.string ByteArray.empty) Tryz.underlying22 hi hz0 .i64 .i64 (n : Int) (n : Int) (by omega) (by omega) (by rw [hz2]; omega) (by omega)
  rw [this, hz1]
  simp only [Int.toNat_natCast, Nat.mul_one]
  rw [← made_str]; rfl

theorem alloc_str (w : World) (l : List ByteArray) : BlkS (w.alloc (.cells (strRow l).toArray 9)) w.heap.size l := by
  exact (MapKept.heap_alloc w _).1

theorem toList_inj {x y : ByteArray} (h : x.toList = y.toList) : x = y := by rw [ByteArray.toList_eq, ByteArray.toList_eq] at h; exact ByteArray.ext (Array.toList_inj.1 h)
end Go.Proofs.YtkhffoailfnepakGreatDoor
/-
  Rows of texts that a call owns: carried over what turns nothing that was there.
-/
namespace Go.Proofs.YtkhffoailfnepakGreatDoor
open Go.RowKit Go.Lib
set_option linter.unusedVariables false

theorem ownS_below {w w' : World} {base : Nat} {e : TypeId} {s : Nat} {v : Value} {n : Nat} {xs : List Value} (h : w.ownsRow base e s v n xs) (hb : Below w.heap.size w w') : w'.ownsRow base e s v n xs := by
  refine ⟨h.1, ?_⟩
  rcases h.2 with h0 | ⟨g, cap, cur, h1, h2, h3, h4⟩
  · exact .inl h0
  · exact .inr ⟨g, cap, cur, h1, h2, (hb.block g (lt_of_block h3)).trans h3, h4⟩
theorem ownS_mono {w : World} {base base' : Nat} {e : TypeId} {s : Nat} {v : Value} {n : Nat} {xs : List Value} (h : w.ownsRow base e s v n xs) (hb : base' ≤ base) : w.ownsRow base' e s v n xs := by
  refine ⟨h.1, ?_⟩
  rcases h.2 with h0 | ⟨g, cap, cur, h1, h2, h3⟩
  · exact .inl h0
  · exact .inr ⟨g, cap, cur, h1, Nat.le_trans hb h2, h3⟩
theorem ownS_none (w : World) : (w.alloc (.cells #[] 9)).ownsRow w.heap.size 9 1 (.slice (some ⟨w.heap.size, 0, none⟩) 0 0) ([] : List ByteArray).length (strRow []) :=
  World.ownsRow_made w #[] 0 (Nat.le_refl _) (by unfold maxLen; omega) rfl
theorem alloc_own (w : World) (T : ByteArray) : (w.alloc (.cells #[.string T] 9)).ownsRow w.heap.size 9 1 (.slice (some ⟨w.heap.size, 0, none⟩) 1 1) [T].length (strRow [T]) :=
  (alloc_str w [T]).own w.heap.size (Nat.le_refl _) (by unfold maxLen; simp)
/-- What a value that owns a row of texts is, for a walk that reads it. -/
theorem ownS_form {w : World} {base : Nat} {v : Value} {l : List ByteArray} (h : w.ownsRow base 9 1 v l.length (strRow l)) : ∃ p cap, v = .slice p l.length cap ∧ l.length ≤ cap ∧ TxtAt w p l := by
  rcases h.2 with ⟨rfl, h0⟩ | ⟨g, cap, cur, rfl, h2, h3, h4, h5, h6, h7⟩
  · have hl : l = [] := List.length_eq_zero_iff.1 h0
    subst hl
    exact ⟨none, 0, rfl, Nat.le_refl _, TxtAt.nil _ _⟩
  · refine ⟨some ⟨g, 0, none⟩, cap, rfl, h4, fun i hi => ⟨g, 0, rfl, lt_of_block h3, ?_⟩⟩
    have h8 : (cur.toList.take (l.length * 1))[i]? = some (.string l[i]) := by rw [h7]; simp [strRow, hi]
    rw [List.getElem?_take_of_lt (by omega)] at h8
    rw [Nat.zero_add]
    simpa [World.cell?, h3] using h8
theorem ownS_block {w : World} {base : Nat} {e : TypeId} {s : Nat} {v : Value} {n : Nat} {xs : List Value} (h : w.ownsRow base e s v n xs) {g : Nat} (hg : v.ownBlock = some g) : g < w.heap.size := (h.lt g hg).2
end Go.Proofs.YtkhffoailfnepakGreatDoor
/-
  Disks as plain functions: when one is right, what is read, written, flushed, and what a crash leaves; cells that hold what is pending.
-/
namespace Go.Proofs.YtkhffoailfnepakGreatDoor
open Go.RowKit Go.Lib
set_option linter.unusedVariables false

abbrev Pnd := Int × ByteArray
/-- The cells that a slice of pendings leads to hold these (of none nothing is asked: also nil). -/
def PndAt (w : World) (p : Option Addr) (ps : List Pnd) : Prop :=
  ∀ i (h : i < ps.length), ∃ b off, p = some ⟨b, off, none⟩ ∧ b < w.heap.size ∧ w.cell? ⟨b, off + i * 2, none⟩ = some (.int .i64 ps[i].1) ∧ w.cell? ⟨b, off + i * 2 + 1, none⟩ = some (.string ps[i].2)
theorem PndAt.below {w w' : World} {p : Option Addr} {ps : List Pnd} (h : PndAt w p ps) (hb : Below w.heap.size w w') : PndAt w' p ps := by
  intro i hi
  obtain ⟨b, off, rfl, h1, h2, h3⟩ := h i hi
  exact ⟨b, off, rfl, Nat.lt_of_lt_of_le h1 hb.size, (hb.cell (p := ⟨b, off + i * 2, none⟩) h1).trans h2, (hb.cell (p := ⟨b, off + i * 2 + 1, none⟩) h1).trans h3⟩
theorem PndAt.nil (w : World) (p : Option Addr) : PndAt w p [] := fun i h => by simp at h
theorem PndAt.at {w : World} {b off : Nat} {ps : List Pnd} (h : PndAt w (some ⟨b, off, none⟩) ps) (i : Nat) (hi : i < ps.length) : w.cell? ⟨b, off + i * 2, none⟩ = some (.int .i64 ps[i].1) ∧ w.cell? ⟨b, off + i * 2 + 1, none⟩ = some (.string ps[i].2) := by
  obtain ⟨b', off', h0, h1, h2⟩ := h i hi
  cases h0; exact h2
def pndRow (ps : List Pnd) : List Value := ps.flatMap fun p => [.int .i64 p.1, .string p.2]
theorem pndRow_len (ps : List Pnd) : (pndRow ps).length = ps.length * 2 := by
  induction ps with
  | nil => rfl
  | cons p ps ih => unfold pndRow at *; rw [List.flatMap_cons, List.length_append, ih]; simp; omega
theorem pndRow_append (ps qs : List Pnd) : pndRow (ps ++ qs) = pndRow ps ++ pndRow qs := by simp [pndRow]
theorem pndRow_at (ps : List Pnd) : ∀ (i : Nat) (h : i < ps.length), (pndRow ps)[i * 2]? = some (.int .i64 ps[i].1) ∧ (pndRow ps)[i * 2 + 1]? = some (.string ps[i].2) := by
  induction ps with
  | nil => intro i h; simp at h
  | cons p ps ih =>
    intro i h
    match i with
    | 0 => exact ⟨rfl, rfl⟩
    | i + 1 =>
      have := ih i (by simpa using h)
      rw [show (i + 1) * 2 = i * 2 + 2 by omega]
      exact this
theorem ownP_form {w : World} {base : Nat} {v : Value} {l : List Pnd} (h : w.ownsRow base 71 2 v l.length (pndRow l)) : ∃ p cap, v = .slice p l.length cap ∧ l.length ≤ cap ∧ PndAt w p l := by
  rcases h.2 with ⟨rfl, h0⟩ | ⟨g, cap, cur, rfl, h2, h3, h4, h5, h6, h7⟩
  · have hl : l = [] := List.length_eq_zero_iff.1 h0
    subst hl
    exact ⟨none, 0, rfl, Nat.le_refl _, PndAt.nil _ _⟩
  · refine ⟨some ⟨g, 0, none⟩, cap, rfl, h4, fun i hi => ⟨g, 0, rfl, lt_of_block h3, ?_⟩⟩
    have h8 := pndRow_at l i hi
    rw [← h7, List.getElem?_take_of_lt (by omega), List.getElem?_take_of_lt (by omega)] at h8
    rw [Nat.zero_add]
    simpa [World.cell?, h3] using h8

def secB (ss : List ByteArray) : Bool := ss.all fun x => decide (x.size ≤ 64)
def pndB (n : Nat) (ps : List Pnd) : Bool := ps.all fun p => decide (0 ≤ p.1 ∧ p.1 ≤ (n : Int) - 1) && decide (p.2.size ≤ 64)
def dskB (ss : List ByteArray) (ps : List Pnd) : Bool := decide (1 ≤ ss.length ∧ ss.length ≤ 64) && (decide (ps.length ≤ 200) && (secB ss && pndB ss.length ps))
theorem secB_true {ss : List ByteArray} (h : ∀ j (h : j < ss.length), ss[j].size ≤ 64) : secB ss = true := by
  unfold secB; rw [List.all_eq_true]; intro x hx
  obtain ⟨j, hj, rfl⟩ := List.getElem_of_mem hx
  simpa using h j hj
theorem secB_false {ss : List ByteArray} {k : Nat} (hk : k < ss.length) (h : ¬ ss[k].size ≤ 64) : secB ss = false := by
  unfold secB; rw [List.all_eq_false]; exact ⟨_, List.getElem_mem hk, by simpa using h⟩
def pndOk (n : Nat) (p : Pnd) : Prop := (0 ≤ p.1 ∧ p.1 ≤ (n : Int) - 1) ∧ p.2.size ≤ 64
theorem pndB_true {n : Nat} {ps : List Pnd} (h : ∀ j (h : j < ps.length), pndOk n ps[j]) : pndB n ps = true := by
  unfold pndB; rw [List.all_eq_true]; intro x hx
  obtain ⟨j, hj, rfl⟩ := List.getElem_of_mem hx
  obtain ⟨h1, h2⟩ := h j hj
  rw [Bool.and_eq_true, decide_eq_true_iff, decide_eq_true_iff]
  exact ⟨h1, h2⟩
theorem pndB_false {n : Nat} {ps : List Pnd} {k : Nat} (hk : k < ps.length) (h : ¬ pndOk n ps[k]) : pndB n ps = false := by
  unfold pndB; rw [List.all_eq_false]; refine ⟨_, List.getElem_mem hk, ?_⟩
  rw [Bool.and_eq_true, decide_eq_true_iff, decide_eq_true_iff]
  exact h
theorem dskB_parts {ss : List ByteArray} {ps : List Pnd} (h : dskB ss ps = true) : (1 ≤ ss.length ∧ ss.length ≤ 64) ∧ ps.length ≤ 200 ∧ (∀ x ∈ ss, x.size ≤ 64) ∧ ∀ p ∈ ps, pndOk ss.length p := by
  unfold dskB secB pndB at h
  rw [Bool.and_eq_true, Bool.and_eq_true, Bool.and_eq_true, decide_eq_true_iff, decide_eq_true_iff, List.all_eq_true, List.all_eq_true] at h
  refine ⟨h.1, h.2.1, fun x hx => by simpa using h.2.2.1 x hx, fun p hp => ?_⟩
  have := h.2.2.2 p hp
  rw [Bool.and_eq_true, decide_eq_true_iff, decide_eq_true_iff] at this
  exact this
theorem dskB_of {ss : List ByteArray} {ps : List Pnd} (h1 : 1 ≤ ss.length ∧ ss.length ≤ 64) (h2 : ps.length ≤ 200) (h3 : ∀ x ∈ ss, x.size ≤ 64) (h4 : ∀ p ∈ ps, pndOk ss.length p) : dskB ss ps = true := by
  unfold dskB
  rw [decide_eq_true h1, decide_eq_true h2, secB_true (fun j h => h3 _ (List.getElem_mem h)), pndB_true (fun j h => h4 _ (List.getElem_mem h))]
  rfl

/-- The last of what is pending at a place, or what was there. -/
def readTo (at_ : Int) (t : ByteArray) : List Pnd → ByteArray
  | [] => t
  | p :: ps => readTo at_ (if p.1 = at_ then p.2 else t) ps
theorem readTo_append (at_ : Int) (ps : List Pnd) : ∀ (t : ByteArray) (qs : List Pnd), readTo at_ t (ps ++ qs) = readTo at_ (readTo at_ t ps) qs := by
  induction ps with
  | nil => intro t qs; rfl
  | cons p ps ih => intro t qs; exact ih _ qs
theorem readTo_snoc (at_ : Int) (ps : List Pnd) (k : Nat) (h : k < ps.length) (t : ByteArray) : readTo at_ t (ps.take (k + 1)) = if ps[k].1 = at_ then ps[k].2 else readTo at_ t (ps.take k) := by
  rw [List.take_succ_eq_append_getElem h, readTo_append]; rfl
def secAt (ss : List ByteArray) (i : Int) : ByteArray := ss.getD i.toNat ByteArray.empty
def readB (ss : List ByteArray) (ps : List Pnd) (at_ : Int) : ByteArray := readTo at_ (secAt ss at_) ps
/-- All of what is pending, in order, put into the sectors. -/
def flushB (ss : List ByteArray) (ps : List Pnd) : List ByteArray := ps.foldl (fun s p => s.set p.1.toNat p.2) ss
theorem flushB_len (ps : List Pnd) : ∀ ss : List ByteArray, (flushB ss ps).length = ss.length := by
  induction ps with
  | nil => intro ss; rfl
  | cons p ps ih => intro ss; show (flushB (ss.set p.1.toNat p.2) ps).length = _; rw [ih]; simp
theorem flushB_snoc (ss : List ByteArray) (ps : List Pnd) (k : Nat) (h : k < ps.length) : flushB ss (ps.take (k + 1)) = (flushB ss (ps.take k)).set ps[k].1.toNat ps[k].2 := by
  unfold flushB
  rw [List.take_succ_eq_append_getElem h, List.foldl_append]; rfl
/-- What a crash keeps of what is pending, from the number i on. -/
def keptB (keep : List Int) : Nat → List Pnd → List Pnd
  | _, [] => []
  | i, p :: ps => if 0 < keep.getD i 0 then p :: keptB keep (i + 1) ps else keptB keep (i + 1) ps
theorem keptB_snoc (keep : List Int) (ps : List Pnd) : ∀ (i : Nat) (q : Pnd), keptB keep i (ps ++ [q]) = keptB keep i ps ++ (if 0 < keep.getD (i + ps.length) 0 then [q] else []) := by
  induction ps with
  | nil => intro i q; simp [keptB]
  | cons p ps ih =>
    intro i q
    have e : i + 1 + ps.length = i + (p :: ps).length := by simp; omega
    show (if 0 < keep.getD i 0 then p :: keptB keep (i + 1) (ps ++ [q]) else keptB keep (i + 1) (ps ++ [q])) = (if 0 < keep.getD i 0 then p :: keptB keep (i + 1) ps else keptB keep (i + 1) ps) ++ _
    rw [ih, e]
    split <;> rfl
def crashB (ss : List ByteArray) (ps : List Pnd) (keep : List Int) : List ByteArray := flushB ss (keptB keep 0 ps)
theorem crashB_len (ss : List ByteArray) (ps : List Pnd) (keep : List Int) : (crashB ss ps keep).length = ss.length := flushB_len _ _
theorem crashB_snoc (ss : List ByteArray) (ps : List Pnd) (keep : List Int) (k : Nat) (h : k < ps.length) : crashB ss (ps.take (k + 1)) keep = if 0 < keep.getD k 0 then (crashB ss (ps.take k) keep).set ps[k].1.toNat ps[k].2 else crashB ss (ps.take k) keep := by
  unfold crashB flushB
  have hl : (ps.take k).length = k := by simp; omega
  rw [List.take_succ_eq_append_getElem h, keptB_snoc, hl, Nat.zero_add, List.foldl_append]
  split <;> rfl
end Go.Proofs.YtkhffoailfnepakGreatDoor
