/-
  Steps of a disk, as plain functions: one, and all till one tells a code; cells that hold steps.
-/
import Derived.Test.YtcbclmhkejknoaaRows
import Derived.Test.YtcbclmhkejknoaaBytes
import Derived.Test.YtcbclmhkejknoaaSlA
import Derived.Test.YtcbclmhkejknoaaSlB
import Derived.Test.YtcbclmhkejknoaaOwnS
import Derived.Test.YtcbclmhkejknoaaDskMath
import Derived.Test.YtcbclmhkejknoaaDskT
import Derived.Test.YtcbclmhkejknoaaDskW
import Derived.Test.YtcbclmhkejknoaaDskF
import Derived.Test.YtcbclmhkejknoaaDskK
import Derived.Test.YtcbclmhkejknoaaDskLaw
namespace Go.Proofs.Ytcbclmhkejknoaa
open Go.RowKit Go.Lib
set_option linter.unusedVariables false

/-! ### Steps -/
inductive Stp where
  | wr (a : Nat) (t : ByteArray)
  | fl
def stpC (ss : List ByteArray) (ps : List Pnd) : Stp → Int
  | .wr a t => wrC ss ps (a : Int) t
  | .fl => flC ss ps
def stpS (ss : List ByteArray) (ps : List Pnd) : Stp → List ByteArray
  | .wr a t => wrS ss ps (a : Int) t
  | .fl => flS ss ps
def stpP (ss : List ByteArray) (ps : List Pnd) : Stp → List Pnd
  | .wr a t => wrP ss ps (a : Int) t
  | .fl => []
/-- All steps, till one tells a code. -/
def doC (ss : List ByteArray) (ps : List Pnd) : List Stp → Int
  | [] => 0
  | s :: r => if stpC ss ps s = 0 then doC (stpS ss ps s) (stpP ss ps s) r else stpC ss ps s
def doS (ss : List ByteArray) (ps : List Pnd) : List Stp → List ByteArray
  | [] => ss
  | s :: r => if stpC ss ps s = 0 then doS (stpS ss ps s) (stpP ss ps s) r else []
def doP (ss : List ByteArray) (ps : List Pnd) : List Stp → List Pnd
  | [] => ps
  | s :: r => if stpC ss ps s = 0 then doP (stpS ss ps s) (stpP ss ps s) r else []
theorem doC_y {ss : List ByteArray} {ps : List Pnd} {s : Stp} (h : stpC ss ps s = 0) (r : List Stp) : doC ss ps (s :: r) = doC (stpS ss ps s) (stpP ss ps s) r := if_pos h
theorem doC_n {ss : List ByteArray} {ps : List Pnd} {s : Stp} (h : ¬ stpC ss ps s = 0) (r : List Stp) : doC ss ps (s :: r) = stpC ss ps s := if_neg h
theorem doS_y {ss : List ByteArray} {ps : List Pnd} {s : Stp} (h : stpC ss ps s = 0) (r : List Stp) : doS ss ps (s :: r) = doS (stpS ss ps s) (stpP ss ps s) r := if_pos h
theorem doS_n {ss : List ByteArray} {ps : List Pnd} {s : Stp} (h : ¬ stpC ss ps s = 0) (r : List Stp) : doS ss ps (s :: r) = [] := if_neg h
theorem doP_y {ss : List ByteArray} {ps : List Pnd} {s : Stp} (h : stpC ss ps s = 0) (r : List Stp) : doP ss ps (s :: r) = doP (stpS ss ps s) (stpP ss ps s) r := if_pos h
theorem doP_n {ss : List ByteArray} {ps : List Pnd} {s : Stp} (h : ¬ stpC ss ps s = 0) (r : List Stp) : doP ss ps (s :: r) = [] := if_neg h
theorem do_ill (l : List Stp) : ∀ (ss : List ByteArray) (ps : List Pnd), doC ss ps l ≠ 0 → doS ss ps l = [] ∧ doP ss ps l = [] := by
  induction l with
  | nil => intro ss ps h; exact absurd rfl h
  | cons s r ih =>
    intro ss ps h
    by_cases hs : stpC ss ps s = 0
    · rw [doC_y hs] at h; rw [doS_y hs, doP_y hs]; exact ih _ _ h
    · rw [doS_n hs, doP_n hs]; exact ⟨rfl, rfl⟩
theorem do_append (l : List Stp) : ∀ (ss : List ByteArray) (ps : List Pnd) (m : List Stp), doC ss ps l = 0 → doC ss ps (l ++ m) = doC (doS ss ps l) (doP ss ps l) m ∧ doS ss ps (l ++ m) = doS (doS ss ps l) (doP ss ps l) m ∧ doP ss ps (l ++ m) = doP (doS ss ps l) (doP ss ps l) m := by
  induction l with
  | nil => intro ss ps m _; exact ⟨rfl, rfl, rfl⟩
  | cons s r ih =>
    intro ss ps m h
    rw [List.cons_append]
    by_cases hs : stpC ss ps s = 0
    · rw [doC_y hs] at h
      rw [doC_y hs, doS_y hs, doP_y hs, doS_y hs, doP_y hs]
      exact ih _ _ m h
    · rw [doC_n hs] at h; exact absurd h hs
theorem do_stop (l : List Stp) : ∀ (ss : List ByteArray) (ps : List Pnd) (m : List Stp), doC ss ps l ≠ 0 → doC ss ps (l ++ m) = doC ss ps l := by
  induction l with
  | nil => intro ss ps m h; exact absurd rfl h
  | cons s r ih =>
    intro ss ps m h
    rw [List.cons_append]
    by_cases hs : stpC ss ps s = 0
    · rw [doC_y hs] at h; rw [doC_y hs, doC_y hs]; exact ih _ _ m h
    · rw [doC_n hs, doC_n hs]
theorem do_take {l : List Stp} {ss : List ByteArray} {ps : List Pnd} (k : Nat) (h : doC ss ps l = 0) : doC ss ps (l.take k) = 0 := by
  by_cases h0 : doC ss ps (l.take k) = 0
  · exact h0
  · have := do_stop (l.take k) ss ps (l.drop k) h0
    rw [List.take_append_drop] at this
    rw [← this]; exact h
theorem do_one_any (ss : List ByteArray) (ps : List Pnd) (s : Stp) : doC ss ps [s] = stpC ss ps s := by
  by_cases hs : stpC ss ps s = 0
  · rw [doC_y hs, hs]; rfl
  · rw [doC_n hs]
/-- One step more. -/
theorem do_snoc {l : List Stp} {ss : List ByteArray} {ps : List Pnd} {k : Nat} (hk : k < l.length) (h : doC ss ps (l.take k) = 0) :
    doC ss ps (l.take (k + 1)) = stpC (doS ss ps (l.take k)) (doP ss ps (l.take k)) l[k] ∧
    (stpC (doS ss ps (l.take k)) (doP ss ps (l.take k)) l[k] = 0 → doS ss ps (l.take (k + 1)) = stpS (doS ss ps (l.take k)) (doP ss ps (l.take k)) l[k] ∧ doP ss ps (l.take (k + 1)) = stpP (doS ss ps (l.take k)) (doP ss ps (l.take k)) l[k]) := by
  rw [List.take_succ_eq_append_getElem hk]
  obtain ⟨h1, h2, h3⟩ := do_append (l.take k) ss ps [l[k]] h
  rw [h1, h2, h3]
  refine ⟨do_one_any _ _ _, fun e => ?_⟩
  rw [doS_y e, doP_y e]; exact ⟨rfl, rfl⟩
/-- A code that is told early is told at the end. -/
theorem do_early {l : List Stp} {ss : List ByteArray} {ps : List Pnd} {k m : Nat} (hk : k ≤ m) (h : doC ss ps (l.take k) ≠ 0) : doC ss ps (l.take m) = doC ss ps (l.take k) := by
  have e : l.take k = (l.take m).take k := by rw [List.take_take, Nat.min_eq_left hk]
  rw [e] at h ⊢
  have := do_stop ((l.take m).take k) ss ps ((l.take m).drop k) h
  rw [List.take_append_drop] at this
  exact this

/-! ### Steps in memory -/
def Stp.f : Stp → Bool
  | .wr _ _ => false
  | .fl => true
def Stp.a : Stp → Nat
  | .wr a _ => a
  | .fl => 0
def Stp.t : Stp → ByteArray
  | .wr _ t => t
  | .fl => ByteArray.empty
/-- The cells that a slice of steps leads to hold these. -/
def StpAt (w : World) (p : Option Addr) (l : List Stp) : Prop :=
  ∀ i (h : i < l.length), ∃ b off, p = some ⟨b, off, none⟩ ∧ b < w.heap.size ∧ w.cell? ⟨b, off + i * 3, none⟩ = some (.bool l[i].f) ∧ w.cell? ⟨b, off + i * 3 + 1, none⟩ = some (.int .i64 (l[i].a : Int)) ∧ w.cell? ⟨b, off + i * 3 + 2, none⟩ = some (.string l[i].t)
theorem StpAt.below {w w' : World} {p : Option Addr} {l : List Stp} (h : StpAt w p l) (hb : Below w.heap.size w w') : StpAt w' p l := by
  intro i hi
  obtain ⟨b, off, rfl, h1, h2, h3, h4⟩ := h i hi
  exact ⟨b, off, rfl, Nat.lt_of_lt_of_le h1 hb.size, (hb.cell (p := ⟨b, off + i * 3, none⟩) h1).trans h2, (hb.cell (p := ⟨b, off + i * 3 + 1, none⟩) h1).trans h3, (hb.cell (p := ⟨b, off + i * 3 + 2, none⟩) h1).trans h4⟩
theorem StpAt.nil (w : World) (p : Option Addr) : StpAt w p [] := fun i h => by simp at h
theorem StpAt.take {w : World} {p : Option Addr} {l : List Stp} (h : StpAt w p l) (k : Nat) : StpAt w p (l.take k) := by
  intro i hi
  have hi' : i < l.length := by rw [List.length_take] at hi; omega
  have := h i hi'
  rwa [List.getElem_take]
theorem StpAt.at {w : World} {b off : Nat} {l : List Stp} (h : StpAt w (some ⟨b, off, none⟩) l) (i : Nat) (hi : i < l.length) : w.cell? ⟨b, off + i * 3, none⟩ = some (.bool l[i].f) ∧ w.cell? ⟨b, off + i * 3 + 1, none⟩ = some (.int .i64 (l[i].a : Int)) ∧ w.cell? ⟨b, off + i * 3 + 2, none⟩ = some (.string l[i].t) := by
  obtain ⟨b', off', h0, h1, h2⟩ := h i hi
  cases h0; exact h2
def stpRow (l : List Stp) : List Value := l.flatMap fun s => [.bool s.f, .int .i64 (s.a : Int), .string s.t]
theorem stpRow_len (l : List Stp) : (stpRow l).length = l.length * 3 := by
  induction l with
  | nil => rfl
  | cons p ps ih => unfold stpRow at *; rw [List.flatMap_cons, List.length_append, ih]; simp; omega
theorem stpRow_append (l m : List Stp) : stpRow (l ++ m) = stpRow l ++ stpRow m := by simp [stpRow]
theorem stpRow_at (l : List Stp) : ∀ (i : Nat) (h : i < l.length), (stpRow l)[i * 3]? = some (.bool l[i].f) ∧ (stpRow l)[i * 3 + 1]? = some (.int .i64 (l[i].a : Int)) ∧ (stpRow l)[i * 3 + 2]? = some (.string l[i].t) := by
  induction l with
  | nil => intro i h; simp at h
  | cons p ps ih =>
    intro i h
    match i with
    | 0 => exact ⟨rfl, rfl, rfl⟩
    | i + 1 =>
      have := ih i (by simpa using h)
      rw [show (i + 1) * 3 = i * 3 + 3 by omega]
      exact this
/-- A right disk stays right while no step tells a code. -/
theorem stp_right {ss : List ByteArray} {ps : List Pnd} {s : Stp} (hr : dskB ss ps = true) (h : stpC ss ps s = 0) : dskB (stpS ss ps s) (stpP ss ps s) = true := by
  cases s with
  | wr a t =>
    have hw : wrC ss ps (a : Int) t = 0 := h
    show dskB (wrS ss ps (a : Int) t) (wrP ss ps (a : Int) t) = true
    rw [show wrS ss ps (a : Int) t = ss from if_pos hw, show wrP ss ps (a : Int) t = ps ++ [((a : Int), t)] from if_pos hw]
    exact write_right hw
  | fl =>
    show dskB (flS ss ps) [] = true
    rw [show flS ss ps = flushB ss ps from if_pos hr]
    exact flush_right hr
theorem do_right {l : List Stp} : ∀ {ss : List ByteArray} {ps : List Pnd}, dskB ss ps = true → doC ss ps l = 0 → dskB (doS ss ps l) (doP ss ps l) = true := by
  induction l with
  | nil => intro ss ps hr _; exact hr
  | cons s r ih =>
    intro ss ps hr h
    by_cases hs : stpC ss ps s = 0
    · rw [doC_y hs] at h
      rw [doS_y hs, doP_y hs]
      exact ih (stp_right hr hs) h
    · rw [doC_n hs] at h; exact absurd h hs
end Go.Proofs.Ytcbclmhkejknoaa
