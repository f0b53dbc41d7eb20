/-
  Parts of one proof, laid as one text: RwBlk, BlNot, RulMath, IntK, PolMath, Takes; what each says stands at its head.
-/
import Derived.Test.YtpijadhfdpihkaaGreatDoorRows
import Derived.Test.YtpijadhfdpihkaaGreatDoorBytesDigMath
import Derived.Test.YtpijadhfdpihkaaGreatDoorSlASlBBxKOwnS
import Derived.Test.YtpijadhfdpihkaaGreatDoorJoinedPutTextFldMath
import Derived.Test.YtpijadhfdpihkaaGreatDoorLgAtKShwKOneKFldGFldBlk
import Derived.Test.YtpijadhfdpihkaaGreatDoorLgMath
import Derived.Handy
import Derived.OwnWalk
import Derived.Test.YtpijadhfdpihkaaGreatDoorNameRight
import Derived.Test.YtpijadhfdpihkaaGreatDoorTimeBPutMathPutNum
import Derived.WalkSpells
import Derived.Deep.RegionHeld3
/-
  Blocks of rows: their cells, a row stored, a new one of rows that say nothing; rows with blocks of fields of their own.
-/
namespace Go.Proofs.YtpijadhfdpihkaaGreatDoor
open Go.RowKit Go.Lib
set_option linter.unusedVariables false
set_option maxRecDepth 20000

/-- A row as its three cells. -/
structure Rc where
  k : ByteArray
  a : Int
  v : Value
def rcCells (x : Rc) : List Value := [.string x.k, .int .i64 x.a, x.v]
def rcRow (l : List Rc) : List Value := l.flatMap rcCells
def rcE : Rc := ⟨⟨#[]⟩, 0, .slice none 0 0⟩
theorem rcRow_len (l : List Rc) : (rcRow l).length = l.length * 3 := by
  induction l with
  | nil => rfl
  | cons f l ih => unfold rcRow at *; rw [List.flatMap_cons, List.length_append, ih]; simp [rcCells]; omega
theorem rcRow_append (l m : List Rc) : rcRow (l ++ m) = rcRow l ++ rcRow m := by simp [rcRow]
theorem rcRow_at (l : List Rc) : ∀ (i : Nat) (h : i < l.length), (rcRow l)[i * 3]? = some (.string l[i].k) ∧ (rcRow l)[i * 3 + 1]? = some (.int .i64 l[i].a) ∧ (rcRow l)[i * 3 + 2]? = some l[i].v := by
  induction l with
  | nil => intro i h; simp at h
  | cons f l ih =>
    intro i h
    match i with
    | 0 => exact ⟨rfl, rfl, rfl⟩
    | i + 1 =>
      have := ih i (by simpa using h)
      rw [show (i + 1) * 3 = i * 3 + 3 by omega]
      exact this
theorem rcRow_set : ∀ (l : List Rc) (i : Nat) (x : Rc), (((rcRow l).set (i * 3) (.string x.k)).set (i * 3 + 1) (.int .i64 x.a)).set (i * 3 + 2) x.v = rcRow (l.set i x)
  | [], i, x => by simp [rcRow]
  | f :: l, 0, x => rfl
  | f :: l, i + 1, x => by
    have ih := rcRow_set l i x
    have e : rcRow (f :: l) = .string f.k :: .int .i64 f.a :: f.v :: rcRow l := rfl
    have e2 : rcRow ((f :: l).set (i + 1) x) = .string f.k :: .int .i64 f.a :: f.v :: rcRow (l.set i x) := rfl
    rw [e, e2, ← ih, show (i + 1) * 3 = i * 3 + 3 by omega]
    rfl
def BlkR (w : World) (g : Nat) (l : List Rc) : Prop := Bxs w g 61 (rcRow l).toArray
theorem BlkR.cells {w : World} {g : Nat} {l : List Rc} (h : BlkR w g l) (i : Nat) (hi : i < l.length) : (w.cell? ⟨g, i * 3, none⟩ = some (.string l[i].k) ∧ w.cell? ⟨g, i * 3 + 1, none⟩ = some (.int .i64 l[i].a) ∧ w.cell? ⟨g, i * 3 + 2, none⟩ = some l[i].v) ∧ w.frozen? ⟨g, i * 3, none⟩ = false ∧ w.frozen? ⟨g, i * 3 + 1, none⟩ = false ∧ w.frozen? ⟨g, i * 3 + 2, none⟩ = false := by
  have hr := rcRow_at l i hi
  have hc : ∀ j, w.cell? ⟨g, j, none⟩ = (rcRow l)[j]? := fun j => by rw [Bxs.cell h j]; simp
  rw [← hc, ← hc, ← hc] at hr
  exact ⟨hr, Bxs.fr h _, Bxs.fr h _, Bxs.fr h _⟩
def set3 (w : World) (g o : Nat) (x : Rc) : World := ((w.setCell ⟨g, o, none⟩ (.string x.k)).setCell ⟨g, o + 1, none⟩ (.int .i64 x.a)).setCell ⟨g, o + 2, none⟩ x.v
theorem bxs_set1 {w : World} {g : Nat} {T : TypeId} {l : List Value} (h : Bxs w g T l.toArray) (j : Nat) (v : Value) : Bxs (w.setCell ⟨g, j, none⟩ v) g T (l.set j v).toArray := by
  have h1 := h.set j v
  rwa [List.setIfInBounds_toArray] at h1
theorem BlkR.set3 {w : World} {g : Nat} {l : List Rc} (h : BlkR w g l) (i : Nat) (x : Rc) : BlkR (set3 w g (i * 3) x) g (l.set i x) := by
  unfold BlkR
  rw [← rcRow_set]
  exact bxs_set1 (bxs_set1 (bxs_set1 h _ _) _ _) _ _
theorem set3_other {w : World} {g b o : Nat} {T : TypeId} {cs : Array Value} (h : Bxs w g T cs) (hne : b ≠ g) (x : Rc) : Bxs (set3 w b o x) g T cs := ((h.other b _ hne _).other b _ hne _).other b _ hne _
theorem set3_below {B : Nat} {a w : World} (h : Below B a w) {g : Nat} (hg : B ≤ g) (o : Nat) (x : Rc) : Below B a (set3 w g o x) := ((h.setCell hg _).setCell hg _).setCell hg _
theorem infoRow : (Tryz.prog.info? 61).map (fun i => (i.zero, i.size, i.bytes)) = some (some (.agg #[.string ByteArray.empty, .int .i64 0, .slice none 0 0]), 3, 48) := by kernel_rfl
theorem made_rc (n : Nat) : madeCells #[.string ByteArray.empty, .int .i64 0, .slice none 0 0] (n * 3) = (rcRow (List.replicate n rcE)).toArray := by
  unfold madeCells
  apply Array.ext
  · simp [rcRow_len]
  · intro i h0 h2
    have h1 : i < n * 3 := by simpa using h0
    have hr := rcRow_at (List.replicate n rcE) (i / 3) (by rw [List.length_replicate]; omega)
    simp only [List.getElem_replicate] at hr
    have hm : i % 3 < 3 := Nat.mod_lt _ (by omega)
    have hd : i = i / 3 * 3 + i % 3 := by omega
    have hl : i < (rcRow (List.replicate n rcE)).length := by simpa using h2
    have hg : ∀ v, (rcRow (List.replicate n rcE))[i]? = some v → (rcRow (List.replicate n rcE)).toArray[i] = v := fun v hv => by
      rw [List.getElem?_eq_getElem hl] at hv
      have := Option.some.inj hv
      simpa using this
    simp only [Array.getElem_map, Array.getElem_range]
    match hq : i % 3, hm with
    | 0, _ => rw [hq] at hd; rw [hg _ (by rw [hd]; exact hr.1)]; simp [rcE]; rfl
    | 1, _ => rw [hq] at hd; rw [hg _ (by rw [hd]; exact hr.2.1)]; simp [rcE]
    | 2, _ => rw [hq] at hd; rw [hg _ (by rw [hd]; exact hr.2.2)]; simp [rcE]
theorem run_make_rc (n : Nat) (hn : n ≤ 1048576) (w : World) :
    (Instr.makeSlice 34 (.int .i64 (n : Int)) (.int .i64 (n : Int))).run Tryz.prog w = .ok (.slice (some ⟨w.heap.size, 0, none⟩) n n) (w.alloc (.cells (rcRow (List.replicate n rcE)).toArray 61)) := by
  obtain ⟨i0, hi, hz0, hz1, hz2⟩ := info_parts infoRow
  have := run_make (P := Tryz.prog) w 34 61 i0 _ Tryz.underlying34 hi hz0 .i64 .i64 (n : Int) (n : Int) (by omega) (by omega) (by rw [hz2]; omega) (by omega)
  rw [this, hz1]
  simp only [Int.toNat_natCast]
  rw [← made_rc]; rfl
theorem alloc_rc (w : World) (l : List Rc) : BlkR (w.alloc (.cells (rcRow l).toArray 61)) w.heap.size l := (MapKept.heap_alloc w _).1
/-! ### Rows with blocks of fields of their own -/
def rcOf (x : Rw × Nat) : Rc := ⟨x.1.k, x.1.a, .slice (some ⟨x.2, 0, none⟩) x.1.fs.length x.1.fs.length⟩
/-- The block g holds rows, the fields of each lie in a block of their own behind it. -/
structure RwsB (w : World) (g : Nat) (xs : List (Rw × Nat)) : Prop where
  blk : BlkR w g (xs.map rcOf)
  fld : ∀ x ∈ xs, BlkF w x.2 x.1.fs
  up : ∀ x ∈ xs, g < x.2
  apart : xs.Pairwise (fun x y => x.2 < y.2)
theorem RwsB.below {w w' : World} {g : Nat} {xs : List (Rw × Nat)} (h : RwsB w g xs) (hb : Below w.heap.size w w') : RwsB w' g xs := ⟨Bxs.below h.blk hb, fun x hx => (h.fld x hx).below hb, h.up, h.apart⟩
theorem RwsB.lt {w : World} {g : Nat} {xs : List (Rw × Nat)} (h : RwsB w g xs) : g < w.heap.size := Bxs.lt h.blk
theorem RwsB.at {w : World} {g : Nat} {xs : List (Rw × Nat)} (h : RwsB w g xs) : RwAt w (some ⟨g, 0, none⟩) (xs.map (·.1)) := by
  intro i hi
  have hi2 : i < xs.length := by simpa using hi
  obtain ⟨⟨c0, c1, c2⟩, -⟩ := h.blk.cells i (by simpa using hi2)
  rw [List.getElem_map] at c0 c1 c2
  have e : (xs.map (·.1))[i] = xs[i].1 := by simp
  refine ⟨g, 0, some ⟨xs[i].2, 0, none⟩, xs[i].1.fs.length, rfl, h.lt, ?_, ?_, ?_, ?_, ?_⟩
  · rw [Nat.zero_add, e]; exact c0
  · rw [Nat.zero_add, e]; exact c1
  · rw [Nat.zero_add, e]; exact c2
  · rw [e]; exact Nat.le_refl _
  · rw [e]; exact (h.fld _ (List.getElem_mem hi2)).at
end Go.Proofs.YtpijadhfdpihkaaGreatDoor
/-
  Of two texts: not less is less the other way round, or alike.
-/
namespace Go.Proofs.YtpijadhfdpihkaaGreatDoor
open Go.RowKit
set_option linter.unusedVariables false

theorem bl_not : ∀ (x y : List UInt8), (Op.bytesLess y x || y == x) = !Op.bytesLess x y
  | [], [] => rfl
  | [], b :: y => by simp [Op.bytesLess]
  | a :: x, [] => by simp [Op.bytesLess]
  | a :: x, b :: y => by
    have ih := bl_not x y
    simp only [Op.bytesLess]
    by_cases h1 : a < b
    · have h2 : ¬ b < a := UInt8.lt_asymm h1
      have h3 : ¬ b = a := fun h => by subst h; exact UInt8.lt_irrefl _ h1
      simp [h1, h2, h3]
    · by_cases h2 : b < a
      · have h3 : ¬ a = b := fun h => by subst h; exact UInt8.lt_irrefl _ h2
        simp [h1, h2, h3]
      · have h3 : a = b := UInt8.le_antisymm (UInt8.not_lt.1 h2) (UInt8.not_lt.1 h1)
        subst h3
        simpa [h1] using ih
end Go.Proofs.YtpijadhfdpihkaaGreatDoor
/-
  Rules as plain functions: which is right, which stands ahead of which; cells that hold rules.
-/
namespace Go.Proofs.YtpijadhfdpihkaaGreatDoor
open Go.RowKit Go.Lib
set_option linter.unusedVariables false
set_option maxRecDepth 20000

structure Rul where
  k : ByteArray
  f : ByteArray
  l : Int
  m : Int
/-- The cells that a slice of rules leads to hold these (of none nothing is asked: also nil). -/
def RulAt (w : World) (p : Option Addr) (rs : List Rul) : Prop :=
  ∀ i (h : i < rs.length), ∃ b off, p = some ⟨b, off, none⟩ ∧ b < w.heap.size ∧ w.cell? ⟨b, off + i * 4, none⟩ = some (.string rs[i].k) ∧ w.cell? ⟨b, off + i * 4 + 1, none⟩ = some (.string rs[i].f) ∧ w.cell? ⟨b, off + i * 4 + 2, none⟩ = some (.int .i64 rs[i].l) ∧ w.cell? ⟨b, off + i * 4 + 3, none⟩ = some (.int .i64 rs[i].m)
theorem RulAt.below {w w' : World} {p : Option Addr} {rs : List Rul} (h : RulAt w p rs) (hb : Below w.heap.size w w') : RulAt w' p rs := by
  intro i hi
  obtain ⟨b, off, rfl, h1, h2, h3, h4, h5⟩ := h i hi
  exact ⟨b, off, rfl, Nat.lt_of_lt_of_le h1 hb.size, (hb.cell (p := ⟨b, off + i * 4, none⟩) h1).trans h2, (hb.cell (p := ⟨b, off + i * 4 + 1, none⟩) h1).trans h3, (hb.cell (p := ⟨b, off + i * 4 + 2, none⟩) h1).trans h4, (hb.cell (p := ⟨b, off + i * 4 + 3, none⟩) h1).trans h5⟩
theorem RulAt.nil (w : World) (p : Option Addr) : RulAt w p [] := fun i h => by simp at h
/-- A rule is right. -/
def rulB (k f : ByteArray) (l m : Int) : Bool := nrB k && (nrB f && (timeB l && (timeB m && decide (l ≤ m))))
/-- A rule stands ahead of another one. -/
def rlLess (ak af bk bf : ByteArray) : Bool := Op.bytesLess ak.toList bk.toList || ((ak.toList == bk.toList) && Op.bytesLess af.toList bf.toList)
/-- Texts compared, as the program does. -/
def cmpI (a b : ByteArray) : Int := if Op.bytesLess a.toList b.toList = true then -1 else if Op.bytesLess b.toList a.toList = true then 1 else 0
def crI (ak af bk bf : ByteArray) : Int := if cmpI ak bk = 0 then cmpI af bf else cmpI ak bk
theorem cmpI_cases (a b : ByteArray) : (Op.bytesLess a.toList b.toList = true ∧ cmpI a b = -1) ∨ (Op.bytesLess a.toList b.toList = false ∧ Op.bytesLess b.toList a.toList = true ∧ (a.toList == b.toList) = false ∧ cmpI a b = 1) ∨ (Op.bytesLess a.toList b.toList = false ∧ (a.toList == b.toList) = true ∧ cmpI a b = 0) := by
  unfold cmpI
  cases h1 : Op.bytesLess a.toList b.toList with
  | true => exact .inl ⟨rfl, by simp⟩
  | false =>
    have n1 := bl_not a.toList b.toList
    rw [h1] at n1
    cases h2 : Op.bytesLess b.toList a.toList with
    | true =>
      refine .inr (.inl ⟨rfl, rfl, ?_, by simp⟩)
      have n2 := bl_not b.toList a.toList
      rw [h2, h1] at n2
      simpa using n2
    | false =>
      refine .inr (.inr ⟨rfl, ?_, by simp⟩)
      rw [h2] at n1
      have n3 : b.toList = a.toList := by simpa using n1
      rw [n3]; exact beq_self_eq_true _
theorem crI_less (ak af bk bf : ByteArray) : decide (0 ≤ crI ak af bk bf) = !rlLess ak af bk bf := by
  unfold crI rlLess
  rcases cmpI_cases ak bk with ⟨h1, h2⟩ | ⟨h1, -, h3, h2⟩ | ⟨h1, h3, h2⟩
  · rw [h1, h2]; simp
  · rw [h1, h2, h3]; simp
  · rw [h1, h2, h3]
    rcases cmpI_cases af bf with ⟨g1, g2⟩ | ⟨g1, -, -, g2⟩ | ⟨g1, -, g2⟩ <;> rw [g1, g2] <;> simp
end Go.Proofs.YtpijadhfdpihkaaGreatDoor
/-
  Cells that hold numbers.
-/
namespace Go.Proofs.YtpijadhfdpihkaaGreatDoor
open Go.RowKit Go.Lib
set_option linter.unusedVariables false

/-- The cells that a slice of numbers leads to hold these numbers (of none nothing is asked: also nil). -/
def IntAt (w : World) (p : Option Addr) (ks : List Int) : Prop :=
  ∀ i (h : i < ks.length), ∃ b off, p = some ⟨b, off, none⟩ ∧ b < w.heap.size ∧ w.cell? ⟨b, off + i, none⟩ = some (.int .i64 ks[i])
theorem IntAt.below {w w' : World} {p : Option Addr} {ks : List Int} (h : IntAt w p ks) (hb : Below w.heap.size w w') : IntAt w' p ks := by
  intro i hi
  obtain ⟨b, off, rfl, h1, h2⟩ := h i hi
  exact ⟨b, off, rfl, Nat.lt_of_lt_of_le h1 hb.size, (hb.cell (p := ⟨b, off + i, none⟩) h1).trans h2⟩
theorem IntAt.nil (w : World) (p : Option Addr) : IntAt w p [] := fun i h => by simp at h
end Go.Proofs.YtpijadhfdpihkaaGreatDoor
/-
  Policies as plain functions: which is right. A list all of whose elements are right, each ahead of the next.
-/
namespace Go.Proofs.YtpijadhfdpihkaaGreatDoor
open Go.RowKit Go.Lib
set_option linter.unusedVariables false

def riseBy {α : Type} (lt : α → α → Bool) : List α → Bool
  | a :: b :: r => lt a b && riseBy lt (b :: r)
  | _ => true
theorem riseBy_iff {α : Type} (lt : α → α → Bool) : ∀ (l : List α), riseBy lt l = true ↔ ∀ j (h0 : 0 < j) (h : j < l.length), lt (l[j - 1]'(by omega)) l[j] = true
  | [] => ⟨fun _ j h0 h => by simp at h, fun _ => rfl⟩
  | [a] => ⟨fun _ j h0 h => by simp at h; omega, fun _ => rfl⟩
  | a :: b :: r => by
    have ih := riseBy_iff lt (b :: r)
    show (lt a b && riseBy lt (b :: r)) = true ↔ _
    rw [Bool.and_eq_true, ih]
    constructor
    · rintro ⟨h1, h2⟩ j h0 h
      match j, h0 with
      | 1, _ => exact h1
      | j + 2, _ => exact h2 (j + 1) (by omega) (by simpa using h)
    · intro h
      exact ⟨h 1 (by omega) (by simp), fun j h0 hj => by
        obtain ⟨m, rfl⟩ : ∃ m, j = m + 1 := ⟨j - 1, by omega⟩
        exact h (m + 1 + 1) (by omega) (by simpa using hj)⟩
def okL {α : Type} (p : α → Bool) (lt : α → α → Bool) (l : List α) : Bool := l.all p && riseBy lt l
theorem okL_not_all {α : Type} {p : α → Bool} {lt : α → α → Bool} {l : List α} {i : Nat} (hi : i < l.length) (h : p l[i] = false) : okL p lt l = false := by
  cases hr : l.all p with
  | false => unfold okL; rw [hr]; rfl
  | true =>
    have := List.all_eq_true.1 hr _ (List.getElem_mem hi)
    rw [h] at this; cases this
theorem okL_not_rise {α : Type} {p : α → Bool} {lt : α → α → Bool} {l : List α} {i : Nat} (h0 : 0 < i) (hi : i < l.length) (h : lt (l[i - 1]'(by omega)) l[i] = false) : okL p lt l = false := by
  cases hr : riseBy lt l with
  | false => unfold okL; rw [hr]; simp
  | true =>
    have := (riseBy_iff lt l).1 hr i h0 hi
    rw [h] at this; cases this
theorem okL_true {α : Type} {p : α → Bool} {lt : α → α → Bool} {l : List α} (h1 : ∀ j (h : j < l.length), p l[j] = true) (h2 : ∀ j (h0 : 0 < j) (h : j < l.length), lt (l[j - 1]'(by omega)) l[j] = true) : okL p lt l = true := by
  unfold okL
  rw [List.all_eq_true.2 (fun f hf => by obtain ⟨j, hj, rfl⟩ := List.getElem_of_mem hf; exact h1 j hj), Bool.true_and]
  exact (riseBy_iff lt l).2 h2
theorem okL_parts {α : Type} {p : α → Bool} {lt : α → α → Bool} {l : List α} (h : okL p lt l = true) : (∀ x ∈ l, p x = true) ∧ ∀ j (h0 : 0 < j) (h : j < l.length), lt (l[j - 1]'(by omega)) l[j] = true := by
  unfold okL at h
  rw [Bool.and_eq_true] at h
  exact ⟨List.all_eq_true.1 h.1, (riseBy_iff lt l).1 h.2⟩
def ruB (r : Rul) : Bool := rulB r.k r.f r.l r.m
def ruLt (a b : Rul) : Bool := rlLess a.k a.f b.k b.f
def heB (n : Int) : Bool := decide (0 ≤ n ∧ n ≤ 5)
def heLt (a b : Int) : Bool := decide (a < b)
/-- A policy is right. -/
def polB (rs : List Rul) (hs : List Int) : Bool := decide (rs.length ≤ 6) && (okL ruB ruLt rs && okL heB heLt hs)
theorem held_ge {hs : List Int} (h : okL heB heLt hs = true) : ∀ i (hi : i < hs.length), (i : Int) ≤ hs[i] := by
  obtain ⟨h1, h2⟩ := okL_parts h
  intro i
  induction i with
  | zero => intro hi; have := h1 _ (List.getElem_mem hi); unfold heB at this; simp at this; exact this.1
  | succ i ih =>
    intro hi
    have a := ih (by omega)
    have b := h2 (i + 1) (by omega) hi
    unfold heLt at b
    simp at b
    omega
theorem held_len {hs : List Int} (h : okL heB heLt hs = true) : hs.length ≤ 6 := by
  by_cases h0 : hs.length = 0
  · omega
  · have a := held_ge h (hs.length - 1) (by omega)
    have b := (okL_parts h).1 _ (List.getElem_mem (show hs.length - 1 < hs.length by omega))
    unfold heB at b
    simp at b
    omega
/-- No text of a rule is too long to be read. -/
def RulsLe (rs : List Rul) : Prop := ∀ r ∈ rs, r.k.size ≤ maxLen ∧ r.f.size ≤ maxLen
theorem RulAt.some_of {w : World} {p : Option Addr} {rs : List Rul} (h : RulAt w p rs) (h0 : 0 < rs.length) : ∃ b off, p = some ⟨b, off, none⟩ ∧ b < w.heap.size := by
  obtain ⟨b, off, e, hb, -⟩ := h 0 h0
  exact ⟨b, off, e, hb⟩
theorem RulAt.at {w : World} {b off : Nat} {rs : List Rul} (h : RulAt w (some ⟨b, off, none⟩) rs) (i : Nat) (hi : i < rs.length) : w.cell? ⟨b, off + i * 4, none⟩ = some (.string rs[i].k) ∧ w.cell? ⟨b, off + i * 4 + 1, none⟩ = some (.string rs[i].f) ∧ w.cell? ⟨b, off + i * 4 + 2, none⟩ = some (.int .i64 rs[i].l) ∧ w.cell? ⟨b, off + i * 4 + 3, none⟩ = some (.int .i64 rs[i].m) := by
  obtain ⟨b', off', e, hb, h⟩ := h i hi
  cases e
  exact h
theorem IntAt.some_of {w : World} {p : Option Addr} {ks : List Int} (h : IntAt w p ks) (h0 : 0 < ks.length) : ∃ b off, p = some ⟨b, off, none⟩ ∧ b < w.heap.size := by
  obtain ⟨b, off, e, hb, -⟩ := h 0 h0
  exact ⟨b, off, e, hb⟩
theorem IntAt.at {w : World} {b off : Nat} {ks : List Int} (h : IntAt w (some ⟨b, off, none⟩) ks) (i : Nat) (hi : i < ks.length) : w.cell? ⟨b, off + i, none⟩ = some (.int .i64 ks[i]) := by
  obtain ⟨b', off', e, hb, h⟩ := h i hi
  cases e
  exact h
end Go.Proofs.YtpijadhfdpihkaaGreatDoor
/-
  One operation of a drawing region taken by hand: wanted or not, a call that stands alone.
-/
namespace Go.Proofs.YtpijadhfdpihkaaGreatDoor
open Go.RowKit Go.Lib
set_option linter.unusedVariables false

theorem take_at {P : Program} {md : Region.Mode} {ops : Array Oper} {Q : Exit → Act → World → Prop} {S : World → Prop} (i : Nat) {oi : Oper} {v : Value} {fuel : Nat} {listed : Array Bool} {a : Act} {w : World} (hi : ops.toList[i]? = some oi)
    (hs : Region.noSelect ops = true) (hf : Region.free md ops listed i = true) (hr : (Region.ready md ops listed).contains i = true)
    (hQ : ∀ c a w, Q (.panic c) (a.put oi.dst v) w → Q (.panic c) a w) (hS : S w) (hy : YieldsIf P ops S oi v a)
    (h : wpAnyH P md ops Q S fuel (listed.setIfInBounds i true) (a.put oi.dst v) w) : wpAnyH P md ops Q S (fuel + 1) listed a w :=
  wpAnyH_take (by rw [← hi]; simp) hs hf hr hQ hy hS h
theorem ready_at {P : Program} {md : Region.Mode} {ops : Array Oper} {Q : Exit → Act → World → Prop} {S : World → Prop} (i : Nat) {o : Oper} {fuel : Nat} {listed : Array Bool} {a : Act} {w : World} (hi : ops.toList[i]? = some o) (hr : Region.ready md ops listed = [i])
    (h : ∀ K' : Act → World → Prop, Shut (∀ a w, S w → (S w → wpAnyH P md ops Q S fuel (listed.setIfInBounds i true) a w) → K' a w) → if Region.wanted o (yielded ops a.tmps) = true then Oper.wp P o a w K' Q else K' (a.put o.dst undef) w) : wpAnyH P md ops Q S (fuel + 1) listed a w :=
  wpAnyH_ready hr (by simp) (AllReadyH.cons (by rw [← hi]; simp) h AllReadyH.nil)
end Go.Proofs.YtpijadhfdpihkaaGreatDoor
