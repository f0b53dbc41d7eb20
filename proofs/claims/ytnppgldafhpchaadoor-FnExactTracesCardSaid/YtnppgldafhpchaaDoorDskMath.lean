/-
  Disks as plain functions: when one is right, what is read, written, flushed, and what a crash leaves; cells that hold what is pending.
-/
import Derived.Test.YtnppgldafhpchaaDoorRows
import Derived.Test.YtnppgldafhpchaaDoorBytes
import Derived.Test.YtnppgldafhpchaaDoorTreeMath
import Derived.Test.YtnppgldafhpchaaDoorSlASlBOwnS
import Derived.Handy
import Derived.OwnWalk
namespace Go.Proofs.YtnppgldafhpchaaDoor
open Go.RowKit Go.Lib
set_option linter.unusedVariables false

abbrev Pnd := Int × ByteArray
/-- The cells that a slice of pendings leads to hold these (of none nothing is asked: also nil). -/
def PndAt (w : World) (p : Option Addr) (ps : List Pnd) : Prop :=
  ∀ i (h : i < ps.length), ∃ b off, p = some ⟨b, off, none⟩ ∧ b < w.heap.size ∧ w.cell? ⟨b, off + i * 2, none⟩ = some (.int .i64 ps[i].1) ∧ w.cell? ⟨b, off + i * 2 + 1, none⟩ = some (.string ps[i].2)
theorem PndAt.below {w w' : World} {p : Option Addr} {ps : List Pnd} (h : PndAt w p ps) (hb : Below w.heap.size w w') : PndAt w' p ps := by
  intro i hi
  obtain ⟨b, off, rfl, h1, h2, h3⟩ := h i hi
  exact ⟨b, off, rfl, Nat.lt_of_lt_of_le h1 hb.size, (hb.cell (p := ⟨b, off + i * 2, none⟩) h1).trans h2, (hb.cell (p := ⟨b, off + i * 2 + 1, none⟩) h1).trans h3⟩
theorem PndAt.nil (w : World) (p : Option Addr) : PndAt w p [] := fun i h => by simp at h
theorem PndAt.at {w : World} {b off : Nat} {ps : List Pnd} (h : PndAt w (some ⟨b, off, none⟩) ps) (i : Nat) (hi : i < ps.length) : w.cell? ⟨b, off + i * 2, none⟩ = some (.int .i64 ps[i].1) ∧ w.cell? ⟨b, off + i * 2 + 1, none⟩ = some (.string ps[i].2) := by
  obtain ⟨b', off', h0, h1, h2⟩ := h i hi
  cases h0; exact h2
def pndRow (ps : List Pnd) : List Value := ps.flatMap fun p => [.int .i64 p.1, .string p.2]
theorem pndRow_len (ps : List Pnd) : (pndRow ps).length = ps.length * 2 := by
  induction ps with
  | nil => rfl
  | cons p ps ih => unfold pndRow at *; rw [List.flatMap_cons, List.length_append, ih]; simp; omega
theorem pndRow_append (ps qs : List Pnd) : pndRow (ps ++ qs) = pndRow ps ++ pndRow qs := by simp [pndRow]
theorem pndRow_at (ps : List Pnd) : ∀ (i : Nat) (h : i < ps.length), (pndRow ps)[i * 2]? = some (.int .i64 ps[i].1) ∧ (pndRow ps)[i * 2 + 1]? = some (.string ps[i].2) := by
  induction ps with
  | nil => intro i h; simp at h
  | cons p ps ih =>
    intro i h
    match i with
    | 0 => exact ⟨rfl, rfl⟩
    | i + 1 =>
      have := ih i (by simpa using h)
      rw [show (i + 1) * 2 = i * 2 + 2 by omega]
      exact this
theorem ownP_form {w : World} {base : Nat} {v : Value} {l : List Pnd} (h : w.ownsRow base 65 2 v l.length (pndRow l)) : ∃ p cap, v = .slice p l.length cap ∧ l.length ≤ cap ∧ PndAt w p l := by
  rcases h.2 with ⟨rfl, h0⟩ | ⟨g, cap, cur, rfl, h2, h3, h4, h5, h6, h7⟩
  · have hl : l = [] := List.length_eq_zero_iff.1 h0
    subst hl
    exact ⟨none, 0, rfl, Nat.le_refl _, PndAt.nil _ _⟩
  · refine ⟨some ⟨g, 0, none⟩, cap, rfl, h4, fun i hi => ⟨g, 0, rfl, lt_of_block h3, ?_⟩⟩
    have h8 := pndRow_at l i hi
    rw [← h7, List.getElem?_take_of_lt (by omega), List.getElem?_take_of_lt (by omega)] at h8
    rw [Nat.zero_add]
    simpa [World.cell?, h3] using h8

def secB (ss : List ByteArray) : Bool := ss.all fun x => decide (x.size ≤ 64)
def pndB (n : Nat) (ps : List Pnd) : Bool := ps.all fun p => decide (0 ≤ p.1 ∧ p.1 ≤ (n : Int) - 1) && decide (p.2.size ≤ 64)
def dskB (ss : List ByteArray) (ps : List Pnd) : Bool := decide (1 ≤ ss.length ∧ ss.length ≤ 64) && (decide (ps.length ≤ 200) && (secB ss && pndB ss.length ps))
theorem secB_true {ss : List ByteArray} (h : ∀ j (h : j < ss.length), ss[j].size ≤ 64) : secB ss = true := by
  unfold secB; rw [List.all_eq_true]; intro x hx
  obtain ⟨j, hj, rfl⟩ := List.getElem_of_mem hx
  simpa using h j hj
theorem secB_false {ss : List ByteArray} {k : Nat} (hk : k < ss.length) (h : ¬ ss[k].size ≤ 64) : secB ss = false := by
  unfold secB; rw [List.all_eq_false]; exact ⟨_, List.getElem_mem hk, by simpa using h⟩
def pndOk (n : Nat) (p : Pnd) : Prop := (0 ≤ p.1 ∧ p.1 ≤ (n : Int) - 1) ∧ p.2.size ≤ 64
theorem pndB_true {n : Nat} {ps : List Pnd} (h : ∀ j (h : j < ps.length), pndOk n ps[j]) : pndB n ps = true := by
  unfold pndB; rw [List.all_eq_true]; intro x hx
  obtain ⟨j, hj, rfl⟩ := List.getElem_of_mem hx
  obtain ⟨h1, h2⟩ := h j hj
  rw [Bool.and_eq_true, decide_eq_true_iff, decide_eq_true_iff]
  exact ⟨h1, h2⟩
theorem pndB_false {n : Nat} {ps : List Pnd} {k : Nat} (hk : k < ps.length) (h : ¬ pndOk n ps[k]) : pndB n ps = false := by
  unfold pndB; rw [List.all_eq_false]; refine ⟨_, List.getElem_mem hk, ?_⟩
  rw [Bool.and_eq_true, decide_eq_true_iff, decide_eq_true_iff]
  exact h
theorem dskB_parts {ss : List ByteArray} {ps : List Pnd} (h : dskB ss ps = true) : (1 ≤ ss.length ∧ ss.length ≤ 64) ∧ ps.length ≤ 200 ∧ (∀ x ∈ ss, x.size ≤ 64) ∧ ∀ p ∈ ps, pndOk ss.length p := by
  unfold dskB secB pndB at h
  rw [Bool.and_eq_true, Bool.and_eq_true, Bool.and_eq_true, decide_eq_true_iff, decide_eq_true_iff, List.all_eq_true, List.all_eq_true] at h
  refine ⟨h.1, h.2.1, fun x hx => by simpa using h.2.2.1 x hx, fun p hp => ?_⟩
  have := h.2.2.2 p hp
  rw [Bool.and_eq_true, decide_eq_true_iff, decide_eq_true_iff] at this
  exact this
theorem dskB_of {ss : List ByteArray} {ps : List Pnd} (h1 : 1 ≤ ss.length ∧ ss.length ≤ 64) (h2 : ps.length ≤ 200) (h3 : ∀ x ∈ ss, x.size ≤ 64) (h4 : ∀ p ∈ ps, pndOk ss.length p) : dskB ss ps = true := by
  unfold dskB
  rw [decide_eq_true h1, decide_eq_true h2, secB_true (fun j h => h3 _ (List.getElem_mem h)), pndB_true (fun j h => h4 _ (List.getElem_mem h))]
  rfl

/-- The last of what is pending at a place, or what was there. -/
def readTo (at_ : Int) (t : ByteArray) : List Pnd → ByteArray
  | [] => t
  | p :: ps => readTo at_ (if p.1 = at_ then p.2 else t) ps
theorem readTo_append (at_ : Int) (ps : List Pnd) : ∀ (t : ByteArray) (qs : List Pnd), readTo at_ t (ps ++ qs) = readTo at_ (readTo at_ t ps) qs := by
  induction ps with
  | nil => intro t qs; rfl
  | cons p ps ih => intro t qs; exact ih _ qs
theorem readTo_snoc (at_ : Int) (ps : List Pnd) (k : Nat) (h : k < ps.length) (t : ByteArray) : readTo at_ t (ps.take (k + 1)) = if ps[k].1 = at_ then ps[k].2 else readTo at_ t (ps.take k) := by
  rw [List.take_succ_eq_append_getElem h, readTo_append]; rfl
def secAt (ss : List ByteArray) (i : Int) : ByteArray := ss.getD i.toNat ByteArray.empty
def readB (ss : List ByteArray) (ps : List Pnd) (at_ : Int) : ByteArray := readTo at_ (secAt ss at_) ps
/-- All of what is pending, in order, put into the sectors. -/
def flushB (ss : List ByteArray) (ps : List Pnd) : List ByteArray := ps.foldl (fun s p => s.set p.1.toNat p.2) ss
theorem flushB_len (ps : List Pnd) : ∀ ss : List ByteArray, (flushB ss ps).length = ss.length := by
  induction ps with
  | nil => intro ss; rfl
  | cons p ps ih => intro ss; show (flushB (ss.set p.1.toNat p.2) ps).length = _; rw [ih]; simp
theorem flushB_snoc (ss : List ByteArray) (ps : List Pnd) (k : Nat) (h : k < ps.length) : flushB ss (ps.take (k + 1)) = (flushB ss (ps.take k)).set ps[k].1.toNat ps[k].2 := by
  unfold flushB
  rw [List.take_succ_eq_append_getElem h, List.foldl_append]; rfl
/-- What a crash keeps of what is pending, from the number i on. -/
def keptB (keep : List Int) : Nat → List Pnd → List Pnd
  | _, [] => []
  | i, p :: ps => if 0 < keep.getD i 0 then p :: keptB keep (i + 1) ps else keptB keep (i + 1) ps
theorem keptB_snoc (keep : List Int) (ps : List Pnd) : ∀ (i : Nat) (q : Pnd), keptB keep i (ps ++ [q]) = keptB keep i ps ++ (if 0 < keep.getD (i + ps.length) 0 then [q] else []) := by
  induction ps with
  | nil => intro i q; simp [keptB]
  | cons p ps ih =>
    intro i q
    have e : i + 1 + ps.length = i + (p :: ps).length := by simp; omega
    show (if 0 < keep.getD i 0 then p :: keptB keep (i + 1) (ps ++ [q]) else keptB keep (i + 1) (ps ++ [q])) = (if 0 < keep.getD i 0 then p :: keptB keep (i + 1) ps else keptB keep (i + 1) ps) ++ _
    rw [ih, e]
    split <;> rfl
def crashB (ss : List ByteArray) (ps : List Pnd) (keep : List Int) : List ByteArray := flushB ss (keptB keep 0 ps)
theorem crashB_len (ss : List ByteArray) (ps : List Pnd) (keep : List Int) : (crashB ss ps keep).length = ss.length := flushB_len _ _
theorem crashB_snoc (ss : List ByteArray) (ps : List Pnd) (keep : List Int) (k : Nat) (h : k < ps.length) : crashB ss (ps.take (k + 1)) keep = if 0 < keep.getD k 0 then (crashB ss (ps.take k) keep).set ps[k].1.toNat ps[k].2 else crashB ss (ps.take k) keep := by
  unfold crashB flushB
  have hl : (ps.take k).length = k := by simp; omega
  rw [List.take_succ_eq_append_getElem h, keptB_snoc, hl, Nat.zero_add, List.foldl_append]
  split <;> rfl
end Go.Proofs.YtnppgldafhpchaaDoor
