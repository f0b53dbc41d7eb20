/-
  Rows of fields as plain functions: a field's digest, when a field and a row are right, a row's leaf, what forgetting leaves; cells that hold fields.
-/
import Derived.Test.YteiffjpmccbcoaaGreatDoorRows
import Derived.Test.YteiffjpmccbcoaaGreatDoorBytes
import Derived.Test.YteiffjpmccbcoaaGreatDoorDigMath
import Derived.Test.YteiffjpmccbcoaaGreatDoorTreeMath
import Derived.Test.YteiffjpmccbcoaaGreatDoorSlA
import Derived.Test.YteiffjpmccbcoaaGreatDoorSlB
import Derived.Test.YteiffjpmccbcoaaGreatDoorOwnS
import Derived.Test.YteiffjpmccbcoaaGreatDoorNameRight
import Derived.Test.YteiffjpmccbcoaaGreatDoorTimeB
import Derived.Test.YteiffjpmccbcoaaGreatDoorPutMath
import Derived.Test.YteiffjpmccbcoaaGreatDoorPutNum
import Derived.Test.YteiffjpmccbcoaaGreatDoorPutText
import Derived.Handy
import Derived.OwnWalk
namespace Go.Proofs.YteiffjpmccbcoaaGreatDoor
open Go.RowKit Go.Lib
set_option linter.unusedVariables false

/-- A field of a row. -/
structure Fld where
  n : ByteArray
  c : ByteArray
  s : ByteArray
  v : ByteArray
  g : Bool
/-- The cells that a slice of fields leads to hold these (of none nothing is asked: also nil). -/
def FldAt (w : World) (p : Option Addr) (fs : List Fld) : Prop :=
  ∀ i (h : i < fs.length), ∃ b off, p = some ⟨b, off, none⟩ ∧ b < w.heap.size ∧ w.cell? ⟨b, off + i * 5, none⟩ = some (.string fs[i].n) ∧ w.cell? ⟨b, off + i * 5 + 1, none⟩ = some (.string fs[i].c) ∧ w.cell? ⟨b, off + i * 5 + 2, none⟩ = some (.string fs[i].s) ∧ w.cell? ⟨b, off + i * 5 + 3, none⟩ = some (.string fs[i].v) ∧ w.cell? ⟨b, off + i * 5 + 4, none⟩ = some (.bool fs[i].g)
theorem FldAt.below {w w' : World} {p : Option Addr} {fs : List Fld} (h : FldAt w p fs) (hb : Below w.heap.size w w') : FldAt w' p fs := by
  intro i hi
  obtain ⟨b, off, rfl, h1, h2, h3, h4, h5, h6⟩ := h i hi
  exact ⟨b, off, rfl, Nat.lt_of_lt_of_le h1 hb.size, (hb.cell (p := ⟨b, off + i * 5, none⟩) h1).trans h2, (hb.cell (p := ⟨b, off + i * 5 + 1, none⟩) h1).trans h3, (hb.cell (p := ⟨b, off + i * 5 + 2, none⟩) h1).trans h4, (hb.cell (p := ⟨b, off + i * 5 + 3, none⟩) h1).trans h5, (hb.cell (p := ⟨b, off + i * 5 + 4, none⟩) h1).trans h6⟩
theorem FldAt.nil (w : World) (p : Option Addr) : FldAt w p [] := fun i h => by simp at h
theorem FldAt.at {w : World} {b off : Nat} {fs : List Fld} (h : FldAt w (some ⟨b, off, none⟩) fs) (i : Nat) (hi : i < fs.length) : w.cell? ⟨b, off + i * 5, none⟩ = some (.string fs[i].n) ∧ w.cell? ⟨b, off + i * 5 + 1, none⟩ = some (.string fs[i].c) ∧ w.cell? ⟨b, off + i * 5 + 2, none⟩ = some (.string fs[i].s) ∧ w.cell? ⟨b, off + i * 5 + 3, none⟩ = some (.string fs[i].v) ∧ w.cell? ⟨b, off + i * 5 + 4, none⟩ = some (.bool fs[i].g) := by
  obtain ⟨b', off', h0, h1, h2⟩ := h i hi
  cases h0; exact h2
theorem FldAt.some_of {w : World} {p : Option Addr} {fs : List Fld} (h : FldAt w p fs) (h0 : 0 < fs.length) : ∃ b off, p = some ⟨b, off, none⟩ ∧ b < w.heap.size := by
  obtain ⟨b, off, rfl, hb, -⟩ := h 0 h0
  exact ⟨b, off, rfl, hb⟩
def fldCells (f : Fld) : List Value := [.string f.n, .string f.c, .string f.s, .string f.v, .bool f.g]
def fldRow (fs : List Fld) : List Value := fs.flatMap fldCells
theorem fldRow_len (fs : List Fld) : (fldRow fs).length = fs.length * 5 := by
  induction fs with
  | nil => rfl
  | cons f fs ih => unfold fldRow at *; rw [List.flatMap_cons, List.length_append, ih]; simp [fldCells]; omega
theorem fldRow_append (fs gs : List Fld) : fldRow (fs ++ gs) = fldRow fs ++ fldRow gs := by simp [fldRow]
theorem fldRow_at (fs : List Fld) : ∀ (i : Nat) (h : i < fs.length), (fldRow fs)[i * 5]? = some (.string fs[i].n) ∧ (fldRow fs)[i * 5 + 1]? = some (.string fs[i].c) ∧ (fldRow fs)[i * 5 + 2]? = some (.string fs[i].s) ∧ (fldRow fs)[i * 5 + 3]? = some (.string fs[i].v) ∧ (fldRow fs)[i * 5 + 4]? = some (.bool fs[i].g) := by
  induction fs with
  | nil => intro i h; simp at h
  | cons f fs ih =>
    intro i h
    match i with
    | 0 => exact ⟨rfl, rfl, rfl, rfl, rfl⟩
    | i + 1 =>
      have := ih i (by simpa using h)
      rw [show (i + 1) * 5 = i * 5 + 5 by omega]
      exact this
theorem ownF_form {w : World} {base : Nat} {v : Value} {l : List Fld} (h : w.ownsRow base 139 5 v l.length (fldRow l)) : ∃ p cap, v = .slice p l.length cap ∧ l.length ≤ cap ∧ FldAt w p l := by
  rcases h.2 with ⟨rfl, h0⟩ | ⟨g, cap, cur, rfl, h2, h3, h4, h5, h6, h7⟩
  · have hl : l = [] := List.length_eq_zero_iff.1 h0
    subst hl
    exact ⟨none, 0, rfl, Nat.le_refl _, FldAt.nil _ _⟩
  · refine ⟨some ⟨g, 0, none⟩, cap, rfl, h4, fun i hi => ⟨g, 0, rfl, lt_of_block h3, ?_⟩⟩
    have h8 := fldRow_at l i hi
    rw [← h7, List.getElem?_take_of_lt (by omega), List.getElem?_take_of_lt (by omega), List.getElem?_take_of_lt (by omega), List.getElem?_take_of_lt (by omega), List.getElem?_take_of_lt (by omega)] at h8
    rw [Nat.zero_add]
    simpa [World.cell?, h3] using h8

/-! ### A field's digest -/
def cmOk (n s v : ByteArray) : Bool := nrB n && (decide (1 ≤ s.size ∧ s.size ≤ 8) && decide (v.size ≤ 16))
def two1 : ByteArray := ⟨#[2]⟩
def cmT (n s v : ByteArray) : ByteArray := two1 ++ putTextB n ++ putTextB s ++ putTextB v
def cmB (n s v : ByteArray) : ByteArray := if cmOk n s v = true then digB (cmT n s v) else ByteArray.empty
theorem cmB_size (n s v : ByteArray) : (cmB n s v).size ≤ 32 := by
  unfold cmB; split
  · rw [digB_size]; exact Nat.le_refl _
  · simp
theorem putTextB_le (s : ByteArray) (h : s.size ≤ 8000) : (putTextB s).size ≤ s.size + 10 := by
  unfold putTextB
  rw [if_neg (by omega), ByteArray.size_append]
  have : (putB (s.size : Int)).size ≤ 10 := by unfold putB; rw [strOfNums_size]; exact putI_len 9 _
  omega
theorem nrB_le {s : ByteArray} (h : nrB s = true) : 1 ≤ s.size ∧ s.size ≤ 20 := by
  unfold nrB at h
  rw [decide_eq_true_iff] at h
  exact ⟨h.1, h.2.1⟩
/-! ### When a field and a row are right -/
def emB (s : ByteArray) : Bool := s.toList == ByteArray.empty.toList
def fdB (f : Fld) : Bool := nrB f.n && (decide (f.c.size = 32) && (if f.g = true then emB f.s && emB f.v else f.c.toList == (cmB f.n f.s f.v).toList))
theorem toL_iff (a b : ByteArray) : (a.toList == b.toList) = true ↔ a = b := by
  rw [beq_iff_eq]
  constructor
  · intro h; apply ByteArray.ext; apply Array.ext'; simpa [toList_data] using h
  · rintro rfl; rfl
theorem emB_iff (s : ByteArray) : emB s = true ↔ s = ByteArray.empty := toL_iff s _
theorem emB_isEmpty (s : ByteArray) : s.toList.isEmpty = emB s := by
  have e : ByteArray.empty.toList = [] := by simp [toList_data]
  unfold emB
  rw [e]
  cases s.toList <;> rfl
theorem fdB_parts {f : Fld} (h : fdB f = true) : nrB f.n = true ∧ f.c.size = 32 ∧ (f.g = true → f.s = ByteArray.empty ∧ f.v = ByteArray.empty) ∧ (f.g = false → f.c = cmB f.n f.s f.v ∧ cmOk f.n f.s f.v = true) := by
  unfold fdB at h
  rw [Bool.and_eq_true, Bool.and_eq_true, decide_eq_true_iff] at h
  obtain ⟨h1, h2, h3⟩ := h
  refine ⟨h1, h2, fun hg => ?_, fun hg => ?_⟩
  · rw [if_pos hg, Bool.and_eq_true, emB_iff, emB_iff] at h3; exact h3
  · rw [if_neg (by rw [hg]; exact Bool.false_ne_true), toL_iff] at h3
    refine ⟨h3, ?_⟩
    cases hk : cmOk f.n f.s f.v with
    | true => rfl
    | false =>
      unfold cmB at h3
      rw [if_neg (by rw [hk]; exact Bool.false_ne_true)] at h3
      rw [h3] at h2; simp at h2
/-- The names rise. -/
def rise : List Fld → Bool
  | [] => true
  | [_] => true
  | a :: b :: r => Op.bytesLess a.n.toList b.n.toList && rise (b :: r)
def rwB (k : ByteArray) (at_ : Int) (fs : List Fld) : Bool := nrB k && (timeB at_ && (decide (1 ≤ fs.length ∧ fs.length ≤ 3) && (fs.all fdB && rise fs)))
theorem rwB_parts {k : ByteArray} {at_ : Int} {fs : List Fld} (h : rwB k at_ fs = true) : nrB k = true ∧ (0 ≤ at_ ∧ at_ ≤ 1000000) ∧ (1 ≤ fs.length ∧ fs.length ≤ 3) ∧ (∀ f ∈ fs, fdB f = true) ∧ rise fs = true := by
  unfold rwB timeB at h
  rw [Bool.and_eq_true, Bool.and_eq_true, Bool.and_eq_true, Bool.and_eq_true, decide_eq_true_iff, decide_eq_true_iff, List.all_eq_true] at h
  exact ⟨h.1, h.2.1, h.2.2.1, h.2.2.2.1, h.2.2.2.2⟩
theorem rwB_of {k : ByteArray} {at_ : Int} {fs : List Fld} (h1 : nrB k = true) (h2 : 0 ≤ at_ ∧ at_ ≤ 1000000) (h3 : 1 ≤ fs.length ∧ fs.length ≤ 3) (h4 : ∀ f ∈ fs, fdB f = true) (h5 : rise fs = true) : rwB k at_ fs = true := by
  unfold rwB timeB
  rw [h1, decide_eq_true h2, decide_eq_true h3, h5, List.all_eq_true.2 h4]; rfl
/-! ### The leaf -/
def fdT (f : Fld) : ByteArray := putTextB f.n ++ putTextB f.c
def lfTo (t : ByteArray) : List Fld → ByteArray
  | [] => t
  | f :: r => lfTo (t ++ putTextB f.n ++ putTextB f.c) r
def lfT (k : ByteArray) (at_ : Int) (fs : List Fld) : ByteArray := lfTo (putTextB k ++ putB at_ ++ putB (fs.length : Int)) fs
def one101 : ByteArray := ⟨#[101]⟩
def lfB (k : ByteArray) (at_ : Int) (fs : List Fld) : ByteArray := if rwB k at_ fs = true then one101 ++ digB (lfT k at_ fs) else ByteArray.empty
/-- The name and the digest are the same. -/
def same2 (fs gs : List Fld) : Prop := fs.map (fun f => (f.n, f.c)) = gs.map (fun f => (f.n, f.c))
theorem same2.len {fs gs : List Fld} (h : same2 fs gs) : fs.length = gs.length := by simpa using congrArg List.length h
theorem lfTo_same : ∀ {fs gs : List Fld} (t : ByteArray), same2 fs gs → lfTo t fs = lfTo t gs
  | [], [], _, _ => rfl
  | [], _ :: _, _, h => by cases h
  | _ :: _, [], _, h => by cases h
  | f :: fs, g :: gs, t, h => by
    unfold same2 at h
    simp only [List.map_cons, List.cons.injEq, Prod.mk.injEq] at h
    obtain ⟨⟨h1, h2⟩, h3⟩ := h
    show lfTo (t ++ putTextB f.n ++ putTextB f.c) fs = lfTo (t ++ putTextB g.n ++ putTextB g.c) gs
    rw [h1, h2]
    exact lfTo_same _ h3
theorem lfT_same {k : ByteArray} {at_ : Int} {fs gs : List Fld} (h : same2 fs gs) : lfT k at_ fs = lfT k at_ gs := by
  unfold lfT; rw [h.len]; exact lfTo_same _ h
theorem rise_same : ∀ {fs gs : List Fld}, same2 fs gs → rise fs = rise gs
  | [], [], _ => rfl
  | [], _ :: _, h => by cases h
  | _ :: _, [], h => by cases h
  | [_], [_], _ => rfl
  | [_], _ :: _ :: _, h => by simp [same2] at h
  | _ :: _ :: _, [_], h => by simp [same2] at h
  | a :: b :: r, c :: d :: s, h => by
    unfold same2 at h
    simp only [List.map_cons, List.cons.injEq, Prod.mk.injEq] at h
    obtain ⟨⟨h1, h2⟩, ⟨h3, h4⟩, h5⟩ := h
    show (Op.bytesLess a.n.toList b.n.toList && rise (b :: r)) = (Op.bytesLess c.n.toList d.n.toList && rise (d :: s))
    rw [h1, h3, rise_same (fs := b :: r) (gs := d :: s) (by unfold same2; simp [h3, h4, h5])]
/-! ### What forgetting leaves -/
def goneF (f : Fld) : Fld := ⟨f.n, f.c, ByteArray.empty, ByteArray.empty, true⟩
theorem fdB_gone {f : Fld} (h : fdB f = true) : fdB (goneF f) = true := by
  obtain ⟨h1, h2, -⟩ := fdB_parts h
  have e1 : emB ByteArray.empty = true := (emB_iff _).2 rfl
  show (nrB f.n && (decide (f.c.size = 32) && (emB ByteArray.empty && emB ByteArray.empty))) = true
  rw [h1, decide_eq_true h2, e1]; rfl
theorem same2_set {fs : List Fld} (i : Nat) (f : Fld) (h : ∀ (hi : i < fs.length), f.n = fs[i].n ∧ f.c = fs[i].c) : same2 (fs.set i f) fs := by
  unfold same2
  apply List.ext_getElem
  · simp
  · intro j h1 h2
    simp only [List.getElem_map, List.getElem_set]
    by_cases hij : i = j
    · subst hij
      have := h (by simpa using h2)
      simp [this.1, this.2]
    · simp [hij]
theorem rwB_same {k : ByteArray} {at_ : Int} {fs gs : List Fld} (h : same2 gs fs) (hr : rwB k at_ fs = true) (hg : ∀ f ∈ gs, fdB f = true) : rwB k at_ gs = true := by
  obtain ⟨h1, h2, h3, h4, h5⟩ := rwB_parts hr
  exact rwB_of h1 h2 (by rw [h.len]; exact h3) hg (by rw [rise_same h]; exact h5)
theorem forget_right {k : ByteArray} {at_ : Int} {fs : List Fld} (hr : rwB k at_ fs = true) (i : Nat) (hi : i < fs.length) : rwB k at_ (fs.set i (goneF fs[i])) = true := by
  refine rwB_same (same2_set i _ (fun _ => ⟨rfl, rfl⟩)) hr (fun f hf => ?_)
  rcases List.mem_or_eq_of_mem_set hf with h | h
  · exact (rwB_parts hr).2.2.2.1 f h
  · rw [h]; exact fdB_gone ((rwB_parts hr).2.2.2.1 _ (List.getElem_mem hi))
theorem forget_leaf {k : ByteArray} {at_ : Int} {fs : List Fld} (hr : rwB k at_ fs = true) (i : Nat) (hi : i < fs.length) : lfB k at_ (fs.set i (goneF fs[i])) = lfB k at_ fs := by
  unfold lfB
  rw [if_pos hr, if_pos (forget_right hr i hi), lfT_same (same2_set i _ (fun _ => ⟨rfl, rfl⟩))]
end Go.Proofs.YteiffjpmccbcoaaGreatDoor
