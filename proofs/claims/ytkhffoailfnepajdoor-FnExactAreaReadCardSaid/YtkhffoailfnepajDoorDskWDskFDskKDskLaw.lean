/-
  Parts of one proof, laid as one text: DskW, DskF, DskK, DskLaw; what each says stands at its head.
-/
import Derived.Test.YtkhffoailfnepajDoorRows
import Derived.Test.YtkhffoailfnepajDoorBytes
import Derived.Test.YtkhffoailfnepajDoorSlASlBOwnS
import Derived.Test.YtkhffoailfnepajDoorDskMath
import Derived.Test.YtkhffoailfnepajDoorDskRDskS
import Derived.Test.YtkhffoailfnepajDoorAppSStepAppDskA
import Derived.Test.YtkhffoailfnepajDoorDskC
import Derived.Test.YtkhffoailfnepajDoorDskT
import Derived.Test.YtkhffoailfnepajDoorOwnB
import Derived.Handy
import Derived.WalkSpells
import Derived.OwnWalk
import Derived.Deep.AppendLies
import Derived.Laws.OwnMore
/-
  What the specification's DiskWrite answers.
-/
namespace Go.Proofs.YtkhffoailfnepajDoor
open Go.RowKit Go.Lib
set_option linter.unusedVariables false
set_option maxRecDepth 20000

theorem app_pend (w : World) (base : Nat) (v : Value) (l : List Pnd) (own : w.ownsRow base 68 2 v l.length (pndRow l)) (x : Pnd) (hl : l.length + 1 ≤ 1048576) (hbase : base ≤ w.heap.size) :
    ∃ g c w', (Builtin.append_ #[27, 27] 27 #[v, .slice (some ⟨w.heap.size, 0, none⟩) 1 1]).run Tryd.prog (w.alloc (.cells #[.int .i64 x.1, .string x.2] 68)) = .ok (.slice (some ⟨g, 0, none⟩) (l.length + 1) c) w' ∧
      w'.ownsRow base 68 2 (.slice (some ⟨g, 0, none⟩) (l.length + 1) c) (l ++ [x]).length (pndRow (l ++ [x])) ∧ (w.alloc (.cells #[.int .i64 x.1, .string x.2] 68)).grownBy w' v.ownBlock ∧ (v.ownBlock = some g ∨ g = w.heap.size + 1) := by
  obtain ⟨i0, hi, hz0, hz1, hz2⟩ := info_parts infoPnd
  obtain ⟨g, c, w', h1, h2, h3, h4, _⟩ := run_append_lies (P := Tryd.prog) (w.alloc (.cells #[.int .i64 x.1, .string x.2] 68)) 27 27 base 68 i0 _ 2 24 Tryd.underlying27 hi hz0 hz1 hz2 rfl (by omega) v l.length (pndRow l) (own.alloc _) ⟨w.heap.size, 0, none⟩ 1 1 (pndRow [x]) rfl (fun j u hu => by
      have hj : j < 2 := by
        rcases Nat.lt_or_ge j 2 with q | q
        · exact q
        · rw [List.getElem?_eq_none (by rw [pndRow_len]; exact q)] at hu; cases hu
      have hadd : (⟨w.heap.size, 0, none⟩ : Addr).add j = ⟨w.heap.size, 0 + j, none⟩ := by unfold Addr.add; split <;> simp_all
      rw [hadd, Nat.zero_add, World.cell?_alloc_mark]
      match j, hj with
      | 0, _ => exact hu
      | 1, _ => exact hu) (fun u hu => by
      simp [pndRow] at hu
      rcases hu with rfl | rfl <;> rfl) (by omega) (by unfold maxLen; omega) (by omega) (by simp; omega) (w.heap.size + 1) (by simp)
  refine ⟨g, c, w', h1, ?_, h3, h4⟩
  have e1 : (l ++ [x]).length = l.length + 1 := by simp
  rw [e1, pndRow_append]; exact h2

def wrC (ss : List ByteArray) (ps : List Pnd) (at_ : Int) (data : ByteArray) : Int := if 8000 < data.size then 2 else if dskB ss ps = true ∧ data.size ≤ 64 then (if inB ss at_ = true then (if 200 ≤ ps.length then 9 else 0) else 8) else 1
def wrS (ss : List ByteArray) (ps : List Pnd) (at_ : Int) (data : ByteArray) : List ByteArray := if wrC ss ps at_ data = 0 then ss else []
def wrP (ss : List ByteArray) (ps : List Pnd) (at_ : Int) (data : ByteArray) : List Pnd := if wrC ss ps at_ data = 0 then ps ++ [(at_, data)] else []

end Go.Proofs.YtkhffoailfnepajDoor
/-
  What the specification's DiskFlush answers.
-/
namespace Go.Proofs.YtkhffoailfnepajDoor
open Go.RowKit Go.Lib
set_option linter.unusedVariables false
set_option maxRecDepth 20000

/-- A disk that is put together in a box at X: its sectors lie in the row at b. -/
structure FlS (W2 : World) (X b d n : Nat) (L : List ByteArray) (w : World) : Prop where
  own : w.ownsRow W2.heap.size 9 1 (.slice (some ⟨b, 0, none⟩) n d) n (strRow L)
  bel : Below W2.heap.size W2 w
  box : w.heap[X]? = some (.cells #[.slice (some ⟨b, 0, none⟩) n d, .slice none 0 0] 29 (0, 0))
  len : L.length = n
  hX : W2.heap.size ≤ X
  ne : b ≠ X
theorem FlS.drew {W2 : World} {X b d n : Nat} {L : List ByteArray} {w : World} (h : FlS W2 X b d n L w) : FlS W2 X b d n L w.drew := ⟨ownS_below h.own (Below.refl _ _).drew, h.bel.drew, h.box, h.len, h.hX, h.ne⟩
theorem FlS.cells {W2 : World} {X b d n : Nat} {L : List ByteArray} {w : World} (h : FlS W2 X b d n L w) : w.cell? ⟨X, 0, none⟩ = some (.slice (some ⟨b, 0, none⟩) n d) ∧ w.cell? ⟨X, 1, none⟩ = some (.slice none 0 0) := by simp [World.cell?, h.box]
theorem FlS.at_ {W2 : World} {X b d n : Nat} {L : List ByteArray} {w : World} (h : FlS W2 X b d n L w) (A : Nat) (hA : A < n) : (∃ x, w.cell? ⟨b, A, none⟩ = some (.string x)) ∧ w.frozen? ⟨b, A, none⟩ = false := by
  have hl := h.len
  refine ⟨⟨L[A]'(by omega), ?_⟩, h.own.frozenAt A⟩
  rw [h.own.cellAt A (by omega)]
  simp [strRow, show A < L.length by omega]
theorem FlS.put {W2 : World} {X b d n : Nat} {L : List ByteArray} {w : World} (h : FlS W2 X b d n L w) (A : Nat) (D : ByteArray) : FlS W2 X b d n (L.set A D) (w.setCell ⟨b, A, none⟩ (.string D)) := by
  refine ⟨?_, h.bel.setCell (by show W2.heap.size ≤ b; exact (h.own.lt b rfl).1) _, ?_, by rw [List.length_set]; exact h.len, h.hX, h.ne⟩
  · have := (h.own.stored A (.string D)).1
    have e : (strRow L).set A (.string D) = strRow (L.set A D) := by simp [strRow, List.map_set]
    rw [e] at this; exact this
  · rw [show (w.setCell ⟨b, A, none⟩ (.string D)).heap[X]? = w.heap[X]? by simp [World.setCell, Array.getElem?_modify, h.ne]]
    exact h.box
def flC (ss : List ByteArray) (ps : List Pnd) : Int := if dskB ss ps = true then 0 else 1
def flS (ss : List ByteArray) (ps : List Pnd) : List ByteArray := if dskB ss ps = true then flushB ss ps else []

end Go.Proofs.YtkhffoailfnepajDoor
/-
  What the specification's DiskCrash answers.
  Conditions: the cells of keep hold the numbers.
-/
namespace Go.Proofs.YtkhffoailfnepajDoor
open Go.RowKit Go.Lib
set_option linter.unusedVariables false
set_option maxRecDepth 20000

/-- The cells that a slice of numbers leads to hold these numbers (of none nothing is asked: also nil). -/
def IntAt (w : World) (p : Option Addr) (ks : List Int) : Prop :=
  ∀ i (h : i < ks.length), ∃ b off, p = some ⟨b, off, none⟩ ∧ b < w.heap.size ∧ w.cell? ⟨b, off + i, none⟩ = some (.int .i64 ks[i])
theorem IntAt.below {w w' : World} {p : Option Addr} {ks : List Int} (h : IntAt w p ks) (hb : Below w.heap.size w w') : IntAt w' p ks := by
  intro i hi
  obtain ⟨b, off, rfl, h1, h2⟩ := h i hi
  exact ⟨b, off, rfl, Nat.lt_of_lt_of_le h1 hb.size, (hb.cell (p := ⟨b, off + i, none⟩) h1).trans h2⟩
theorem IntAt.nil (w : World) (p : Option Addr) : IntAt w p [] := fun i h => by simp at h
theorem DskO.set2 {base : Nat} {ss : List ByteArray} {ps : List Pnd} {v1 v2 : Value} {w : World} (h : DskO base ss ps v1 v2 w) {g : Nat} (hg : g < base) (x0 x1 : Value) : DskO base ss ps v1 v2 ((w.setCell ⟨g, 0, none⟩ x0).setCell ⟨g, 1, none⟩ x1) := (h.set hg 0 x0).set hg 1 x1
theorem below_set2 {B : Nat} {a w : World} (h : Below B a w) {g : Nat} (hg : B ≤ g) (x0 x1 : Value) : Below B a ((w.setCell ⟨g, 0, none⟩ x0).setCell ⟨g, 1, none⟩ x1) := (h.setCell hg _).setCell hg _

def crS (ss : List ByteArray) (ps : List Pnd) (keep : List Int) : List ByteArray := if 400 < keep.length then [] else if dskB ss ps = true then crashB ss ps keep else ss
def crP (ss : List ByteArray) (ps : List Pnd) (keep : List Int) : List Pnd := if 400 < keep.length then [] else if dskB ss ps = true then [] else ps

end Go.Proofs.YtkhffoailfnepajDoor
/-
  Promise 7 as plain laws: what is written is read, and no other sector reads as another one; flushed, all reads as it did, and is there behind any crash; a crash leaves what was flushed, or something that was written since.
-/
namespace Go.Proofs.YtkhffoailfnepajDoor
open Go.RowKit Go.Lib
set_option linter.unusedVariables false

theorem secAt_set (ss : List ByteArray) (a i : Nat) (D : ByteArray) (ha : a < ss.length) : secAt (ss.set a D) (i : Int) = if a = i then D else secAt ss (i : Int) := by
  unfold secAt
  rw [Int.toNat_natCast, List.getD_eq_getElem?_getD, List.getD_eq_getElem?_getD, List.getElem?_set]
  by_cases h : a = i
  · subst h; simp [ha]
  · simp [h]
/-- Flushed, all reads as it did. -/
theorem flush_read (ps : List Pnd) : ∀ (ss : List ByteArray) (i : Nat), (∀ p ∈ ps, pndOk ss.length p) → secAt (flushB ss ps) (i : Int) = readTo (i : Int) (secAt ss (i : Int)) ps := by
  induction ps with
  | nil => intro ss i _; rfl
  | cons p ps ih =>
    intro ss i h
    obtain ⟨⟨h1, h2⟩, h3⟩ := h p (by simp)
    obtain ⟨a, ha⟩ := Int.eq_ofNat_of_zero_le h1
    show secAt (flushB (ss.set p.1.toNat p.2) ps) (i : Int) = readTo (i : Int) (if p.1 = (i : Int) then p.2 else secAt ss (i : Int)) ps
    rw [ih (ss.set p.1.toNat p.2) i (fun q hq => by rw [List.length_set]; exact h q (by simp [hq]))]
    congr 1
    rw [ha, Int.toNat_natCast, secAt_set ss a i p.2 (by omega)]
    by_cases e : a = i
    · subst e; simp
    · rw [if_neg e, if_neg (by omega)]
theorem readTo_or (i : Int) (ps : List Pnd) : ∀ t : ByteArray, readTo i t ps = t ∨ ∃ p ∈ ps, p.1 = i ∧ p.2 = readTo i t ps := by
  induction ps with
  | nil => intro t; exact .inl rfl
  | cons p ps ih =>
    intro t
    show readTo i (if p.1 = i then p.2 else t) ps = t ∨ ∃ q ∈ p :: ps, q.1 = i ∧ q.2 = readTo i (if p.1 = i then p.2 else t) ps
    rcases ih (if p.1 = i then p.2 else t) with h | ⟨q, hq, h1, h2⟩
    · by_cases e : p.1 = i
      · exact .inr ⟨p, by simp, e, by rw [h, if_pos e]⟩
      · rw [if_neg e] at h ⊢; exact .inl h
    · exact .inr ⟨q, by simp [hq], h1, h2⟩
theorem kept_sub (keep : List Int) (ps : List Pnd) : ∀ i, ∀ p ∈ keptB keep i ps, p ∈ ps := by
  induction ps with
  | nil => intro i p hp; exact hp
  | cons q ps ih =>
    intro i p hp
    unfold keptB at hp
    split at hp
    · rcases List.mem_cons.1 hp with rfl | h
      · simp
      · exact List.mem_cons_of_mem _ (ih _ p h)
    · exact List.mem_cons_of_mem _ (ih _ p hp)
/-- A crash leaves of each sector what was flushed, or something that was written since. -/
theorem crash_some (ss : List ByteArray) (ps : List Pnd) (keep : List Int) (i : Nat) (h : ∀ p ∈ ps, pndOk ss.length p) : secAt (crashB ss ps keep) (i : Int) = secAt ss (i : Int) ∨ ∃ j, ∃ hj : j < ps.length, ps[j].1 = (i : Int) ∧ ps[j].2 = secAt (crashB ss ps keep) (i : Int) := by
  unfold crashB
  rw [flush_read _ ss i (fun p hp => h p (kept_sub keep ps 0 p hp))]
  rcases readTo_or (i : Int) (keptB keep 0 ps) (secAt ss (i : Int)) with e | ⟨p, hp, h1, h2⟩
  · exact .inl e
  · obtain ⟨j, hj, e⟩ := List.getElem_of_mem (kept_sub keep ps 0 p hp)
    exact .inr ⟨j, hj, by rw [e]; exact h1, by rw [e]; exact h2⟩
theorem flushB_small (ps : List Pnd) : ∀ ss : List ByteArray, (∀ x ∈ ss, x.size ≤ 64) → (∀ p ∈ ps, p.2.size ≤ 64) → ∀ x ∈ flushB ss ps, x.size ≤ 64 := by
  induction ps with
  | nil => intro ss h _; exact h
  | cons p ps ih =>
    intro ss h1 h2
    refine ih (ss.set p.1.toNat p.2) (fun x hx => ?_) (fun q hq => h2 q (by simp [hq]))
    rcases List.mem_or_eq_of_mem_set hx with hx | rfl
    · exact h1 x hx
    · exact h2 p (by simp)
theorem flush_right {ss : List ByteArray} {ps : List Pnd} (h : dskB ss ps = true) : dskB (flushB ss ps) [] = true := by
  obtain ⟨h1, h2, h3, h4⟩ := dskB_parts h
  exact dskB_of (by rw [flushB_len]; exact h1) (by simp) (flushB_small ps ss h3 (fun p hp => (h4 p hp).2)) (fun p hp => by cases hp)
theorem wrC_ok {ss : List ByteArray} {ps : List Pnd} {at_ : Int} {data : ByteArray} (h : wrC ss ps at_ data = 0) : dskB ss ps = true ∧ data.size ≤ 64 ∧ (0 ≤ at_ ∧ at_ ≤ (ss.length : Int) - 1) ∧ ps.length < 200 := by
  unfold wrC at h
  split at h
  · omega
  · split at h
    · rename_i hd
      split at h
      · rename_i hi
        split at h
        · omega
        · unfold inB at hi
          rw [decide_eq_true_iff] at hi
          exact ⟨hd.1, hd.2, hi, by omega⟩
      · omega
    · omega
theorem write_right {ss : List ByteArray} {ps : List Pnd} {at_ : Int} {data : ByteArray} (h : wrC ss ps at_ data = 0) : dskB ss (ps ++ [(at_, data)]) = true := by
  obtain ⟨h0, h1, h2, h3⟩ := wrC_ok h
  obtain ⟨a1, a2, a3, a4⟩ := dskB_parts h0
  refine dskB_of a1 (by simp; omega) a3 (fun p hp => ?_)
  rcases List.mem_append.1 hp with hp | hp
  · exact a4 p hp
  · rw [List.mem_singleton.1 hp]; exact ⟨h2, h1⟩
theorem inB_of (ss : List ByteArray) (i : Nat) (hi : i < ss.length) : inB ss (i : Int) = true := decide_eq_true (by omega)
theorem rdT_of {ss : List ByteArray} {ps : List Pnd} (h : dskB ss ps = true) (i : Nat) (hi : i < ss.length) : rdT ss ps (i : Int) = readB ss ps (i : Int) := if_pos (by unfold rdC; rw [if_pos h, if_pos (inB_of ss i hi)])
/-- What is written is read, and no other sector reads as another one. -/
theorem write_read {ss : List ByteArray} {ps : List Pnd} {at_ : Int} {data : ByteArray} (h : wrC ss ps at_ data = 0) (i : Nat) (hi : i < ss.length) : rdT ss (ps ++ [(at_, data)]) (i : Int) = if (i : Int) = at_ then data else rdT ss ps (i : Int) := by
  rw [rdT_of (write_right h) i hi, rdT_of (wrC_ok h).1 i hi]
  unfold readB
  rw [readTo_append]
  show (if at_ = (i : Int) then data else _) = _
  by_cases e : (i : Int) = at_
  · rw [if_pos e, if_pos e.symm]
  · rw [if_neg e, if_neg (fun h => e h.symm)]
/-- Flushed, it is there, behind any crash. -/
theorem flush_there {ss : List ByteArray} {ps : List Pnd} (h : dskB ss ps = true) (i : Nat) (hi : i < ss.length) : rdT (flushB ss ps) [] (i : Int) = rdT ss ps (i : Int) := by
  rw [rdT_of (flush_right h) i (by rw [flushB_len]; exact hi), rdT_of h i hi]
  exact flush_read ps ss i (dskB_parts h).2.2.2
theorem crash_flushed {ss : List ByteArray} (h : dskB ss [] = true) (keep : List Int) (hk : keep.length ≤ 400) : crS ss [] keep = ss ∧ crP ss [] keep = [] := by
  have hn : ¬ 400 < keep.length := by omega
  exact ⟨(if_neg hn).trans (if_pos h), (if_neg hn).trans (if_pos h)⟩
theorem crash_of {ss : List ByteArray} {ps : List Pnd} (h : dskB ss ps = true) (keep : List Int) (hk : keep.length ≤ 400) : crS ss ps keep = crashB ss ps keep ∧ crP ss ps keep = [] := by
  have hn : ¬ 400 < keep.length := by omega
  exact ⟨(if_neg hn).trans (if_pos h), (if_neg hn).trans (if_pos h)⟩
end Go.Proofs.YtkhffoailfnepajDoor
