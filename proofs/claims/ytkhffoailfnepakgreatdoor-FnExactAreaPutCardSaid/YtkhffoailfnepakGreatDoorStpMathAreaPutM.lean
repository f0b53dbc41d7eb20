/-
  Parts of one proof, laid as one text: StpMath, AreaPutM; what each says stands at its head.
-/
import Derived.Test.YtkhffoailfnepakGreatDoorRows
import Derived.Test.YtkhffoailfnepakGreatDoorBytesDigMath
import Derived.Test.YtkhffoailfnepakGreatDoorSlASlBOwnSDskMath
import Derived.Test.YtkhffoailfnepakGreatDoorDskT
import Derived.Test.YtkhffoailfnepakGreatDoorDskW
import Derived.Test.YtkhffoailfnepakGreatDoorDskFDskKDskLaw
import Derived.Test.YtkhffoailfnepakGreatDoorAreaMath
/-
  Steps of a disk, as plain functions: one, and all till one tells a code; cells that hold steps.
-/
namespace Go.Proofs.YtkhffoailfnepakGreatDoor
open Go.RowKit Go.Lib
set_option linter.unusedVariables false

/-! ### Steps -/
inductive Stp where
  | wr (a : Nat) (t : ByteArray)
  | fl
def stpC (ss : List ByteArray) (ps : List Pnd) : Stp → Int
  | .wr a t => wrC ss ps (a : Int) t
  | .fl => flC ss ps
def stpS (ss : List ByteArray) (ps : List Pnd) : Stp → List ByteArray
  | .wr a t => wrS ss ps (a : Int) t
  | .fl => flS ss ps
def stpP (ss : List ByteArray) (ps : List Pnd) : Stp → List Pnd
  | .wr a t => wrP ss ps (a : Int) t
  | .fl => []
/-- All steps, till one tells a code. -/
def doC (ss : List ByteArray) (ps : List Pnd) : List Stp → Int
  | [] => 0
  | s :: r => if stpC ss ps s = 0 then doC (stpS ss ps s) (stpP ss ps s) r else stpC ss ps s
def doS (ss : List ByteArray) (ps : List Pnd) : List Stp → List ByteArray
  | [] => ss
  | s :: r => if stpC ss ps s = 0 then doS (stpS ss ps s) (stpP ss ps s) r else []
def doP (ss : List ByteArray) (ps : List Pnd) : List Stp → List Pnd
  | [] => ps
  | s :: r => if stpC ss ps s = 0 then doP (stpS ss ps s) (stpP ss ps s) r else []
theorem doC_y {ss : List ByteArray} {ps : List Pnd} {s : Stp} (h : stpC ss ps s = 0) (r : List Stp) : doC ss ps (s :: r) = doC (stpS ss ps s) (stpP ss ps s) r := if_pos h
theorem doC_n {ss : List ByteArray} {ps : List Pnd} {s : Stp} (h : ¬ stpC ss ps s = 0) (r : List Stp) : doC ss ps (s :: r) = stpC ss ps s := if_neg h
theorem doS_y {ss : List ByteArray} {ps : List Pnd} {s : Stp} (h : stpC ss ps s = 0) (r : List Stp) : doS ss ps (s :: r) = doS (stpS ss ps s) (stpP ss ps s) r := if_pos h
theorem doS_n {ss : List ByteArray} {ps : List Pnd} {s : Stp} (h : ¬ stpC ss ps s = 0) (r : List Stp) : doS ss ps (s :: r) = [] := if_neg h
theorem doP_y {ss : List ByteArray} {ps : List Pnd} {s : Stp} (h : stpC ss ps s = 0) (r : List Stp) : doP ss ps (s :: r) = doP (stpS ss ps s) (stpP ss ps s) r := if_pos h
theorem doP_n {ss : List ByteArray} {ps : List Pnd} {s : Stp} (h : ¬ stpC ss ps s = 0) (r : List Stp) : doP ss ps (s :: r) = [] := if_neg h
theorem do_ill (l : List Stp) : ∀ (ss : List ByteArray) (ps : List Pnd), doC ss ps l ≠ 0 → doS ss ps l = [] ∧ doP ss ps l = [] := by
  induction l with
  | nil => intro ss ps h; exact absurd rfl h
  | cons s r ih =>
    intro ss ps h
    by_cases hs : stpC ss ps s = 0
    · rw [doC_y hs] at h; rw [doS_y hs, doP_y hs]; exact ih _ _ h
    · rw [doS_n hs, doP_n hs]; exact ⟨rfl, rfl⟩
theorem do_append (l : List Stp) : ∀ (ss : List ByteArray) (ps : List Pnd) (m : List Stp), doC ss ps l = 0 → doC ss ps (l ++ m) = doC (doS ss ps l) (doP ss ps l) m ∧ doS ss ps (l ++ m) = doS (doS ss ps l) (doP ss ps l) m ∧ doP ss ps (l ++ m) = doP (doS ss ps l) (doP ss ps l) m := by
  induction l with
  | nil => intro ss ps m _; exact ⟨rfl, rfl, rfl⟩
  | cons s r ih =>
    intro ss ps m h
    rw [List.cons_append]
    by_cases hs : stpC ss ps s = 0
    · rw [doC_y hs] at h
      rw [doC_y hs, doS_y hs, doP_y hs, doS_y hs, doP_y hs]
      exact ih _ _ m h
    · rw [doC_n hs] at h; exact absurd h hs
theorem do_stop (l : List Stp) : ∀ (ss : List ByteArray) (ps : List Pnd) (m : List Stp), doC ss ps l ≠ 0 → doC ss ps (l ++ m) = doC ss ps l := by
  induction l with
  | nil => intro ss ps m h; exact absurd rfl h
  | cons s r ih =>
    intro ss ps m h
    rw [List.cons_append]
    by_cases hs : stpC ss ps s = 0
    · rw [doC_y hs] at h; rw [doC_y hs, doC_y hs]; exact ih _ _ m h
    · rw [doC_n hs, doC_n hs]
theorem do_take {l : List Stp} {ss : List ByteArray} {ps : List Pnd} (k : Nat) (h : doC ss ps l = 0) : doC ss ps (l.take k) = 0 := by
  by_cases h0 : doC ss ps (l.take k) = 0
  · exact h0
  · have := do_stop (l.take k) ss ps (l.drop k) h0
    rw [List.take_append_drop] at this
    rw [← this]; exact h
theorem do_one_any (ss : List ByteArray) (ps : List Pnd) (s : Stp) : doC ss ps [s] = stpC ss ps s := by
  by_cases hs : stpC ss ps s = 0
  · rw [doC_y hs, hs]; rfl
  · rw [doC_n hs]
/-- One step more. -/
theorem do_snoc {l : List Stp} {ss : List ByteArray} {ps : List Pnd} {k : Nat} (hk : k < l.length) (h : doC ss ps (l.take k) = 0) :
    doC ss ps (l.take (k + 1)) = stpC (doS ss ps (l.take k)) (doP ss ps (l.take k)) l[k] ∧
    (stpC (doS ss ps (l.take k)) (doP ss ps (l.take k)) l[k] = 0 → doS ss ps (l.take (k + 1)) = stpS (doS ss ps (l.take k)) (doP ss ps (l.take k)) l[k] ∧ doP ss ps (l.take (k + 1)) = stpP (doS ss ps (l.take k)) (doP ss ps (l.take k)) l[k]) := by
  rw [List.take_succ_eq_append_getElem hk]
  obtain ⟨h1, h2, h3⟩ := do_append (l.take k) ss ps [l[k]] h
  rw [h1, h2, h3]
  refine ⟨do_one_any _ _ _, fun e => ?_⟩
  rw [doS_y e, doP_y e]; exact ⟨rfl, rfl⟩
/-- A code that is told early is told at the end. -/
theorem do_early {l : List Stp} {ss : List ByteArray} {ps : List Pnd} {k m : Nat} (hk : k ≤ m) (h : doC ss ps (l.take k) ≠ 0) : doC ss ps (l.take m) = doC ss ps (l.take k) := by
  have e : l.take k = (l.take m).take k := by rw [List.take_take, Nat.min_eq_left hk]
  rw [e] at h ⊢
  have := do_stop ((l.take m).take k) ss ps ((l.take m).drop k) h
  rw [List.take_append_drop] at this
  exact this

/-! ### Steps in memory -/
def Stp.f : Stp → Bool
  | .wr _ _ => false
  | .fl => true
def Stp.a : Stp → Nat
  | .wr a _ => a
  | .fl => 0
def Stp.t : Stp → ByteArray
  | .wr _ t => t
  | .fl => ByteArray.empty
/-- The cells that a slice of steps leads to hold these. -/
def StpAt (w : World) (p : Option Addr) (l : List Stp) : Prop :=
  ∀ i (h : i < l.length), ∃ b off, p = some ⟨b, off, none⟩ ∧ b < w.heap.size ∧ w.cell? ⟨b, off + i * 3, none⟩ = some (.bool l[i].f) ∧ w.cell? ⟨b, off + i * 3 + 1, none⟩ = some (.int .i64 (l[i].a : Int)) ∧ w.cell? ⟨b, off + i * 3 + 2, none⟩ = some (.string l[i].t)
theorem StpAt.below {w w' : World} {p : Option Addr} {l : List Stp} (h : StpAt w p l) (hb : Below w.heap.size w w') : StpAt w' p l := by
  intro i hi
  obtain ⟨b, off, rfl, h1, h2, h3, h4⟩ := h i hi
  exact ⟨b, off, rfl, Nat.lt_of_lt_of_le h1 hb.size, (hb.cell (p := ⟨b, off + i * 3, none⟩) h1).trans h2, (hb.cell (p := ⟨b, off + i * 3 + 1, none⟩) h1).trans h3, (hb.cell (p := ⟨b, off + i * 3 + 2, none⟩) h1).trans h4⟩
theorem StpAt.nil (w : World) (p : Option Addr) : StpAt w p [] := fun i h => by simp at h
theorem StpAt.take {w : World} {p : Option Addr} {l : List Stp} (h : StpAt w p l) (k : Nat) : StpAt w p (l.take k) := by
  intro i hi
  have hi' : i < l.length := by rw [List.length_take] at hi; omega
  have := h i hi'
  rwa [List.getElem_take]
theorem StpAt.at {w : World} {b off : Nat} {l : List Stp} (h : StpAt w (some ⟨b, off, none⟩) l) (i : Nat) (hi : i < l.length) : w.cell? ⟨b, off + i * 3, none⟩ = some (.bool l[i].f) ∧ w.cell? ⟨b, off + i * 3 + 1, none⟩ = some (.int .i64 (l[i].a : Int)) ∧ w.cell? ⟨b, off + i * 3 + 2, none⟩ = some (.string l[i].t) := by
  obtain ⟨b', off', h0, h1, h2⟩ := h i hi
  cases h0; exact h2
def stpRow (l : List Stp) : List Value := l.flatMap fun s => [.bool s.f, .int .i64 (s.a : Int), .string s.t]
theorem stpRow_len (l : List Stp) : (stpRow l).length = l.length * 3 := by
  induction l with
  | nil => rfl
  | cons p ps ih => unfold stpRow at *; rw [List.flatMap_cons, List.length_append, ih]; simp; omega
theorem stpRow_append (l m : List Stp) : stpRow (l ++ m) = stpRow l ++ stpRow m := by simp [stpRow]
theorem stpRow_at (l : List Stp) : ∀ (i : Nat) (h : i < l.length), (stpRow l)[i * 3]? = some (.bool l[i].f) ∧ (stpRow l)[i * 3 + 1]? = some (.int .i64 (l[i].a : Int)) ∧ (stpRow l)[i * 3 + 2]? = some (.string l[i].t) := by
  induction l with
  | nil => intro i h; simp at h
  | cons p ps ih =>
    intro i h
    match i with
    | 0 => exact ⟨rfl, rfl, rfl⟩
    | i + 1 =>
      have := ih i (by simpa using h)
      rw [show (i + 1) * 3 = i * 3 + 3 by omega]
      exact this
/-- A right disk stays right while no step tells a code. -/
theorem stp_right {ss : List ByteArray} {ps : List Pnd} {s : Stp} (hr : dskB ss ps = true) (h : stpC ss ps s = 0) : dskB (stpS ss ps s) (stpP ss ps s) = true := by
  cases s with
  | wr a t =>
    have hw : wrC ss ps (a : Int) t = 0 := h
    show dskB (wrS ss ps (a : Int) t) (wrP ss ps (a : Int) t) = true
    rw [show wrS ss ps (a : Int) t = ss from if_pos hw, show wrP ss ps (a : Int) t = ps ++ [((a : Int), t)] from if_pos hw]
    exact write_right hw
  | fl =>
    show dskB (flS ss ps) [] = true
    rw [show flS ss ps = flushB ss ps from if_pos hr]
    exact flush_right hr
theorem do_right {l : List Stp} : ∀ {ss : List ByteArray} {ps : List Pnd}, dskB ss ps = true → doC ss ps l = 0 → dskB (doS ss ps l) (doP ss ps l) = true := by
  induction l with
  | nil => intro ss ps hr _; exact hr
  | cons s r ih =>
    intro ss ps hr h
    by_cases hs : stpC ss ps s = 0
    · rw [doC_y hs] at h
      rw [doS_y hs, doP_y hs]
      exact ih (stp_right hr hs) h
    · rw [doC_n hs] at h; exact absurd h hs
end Go.Proofs.YtkhffoailfnepakGreatDoor
/-
  The steps of putting a text to a disk, as plain functions; promises 8 and 9 as plain laws.
-/
namespace Go.Proofs.YtkhffoailfnepakGreatDoor
open Go.RowKit Go.Lib
set_option linter.unusedVariables false

/-! ### The steps of putting -/
def pieceB (t : ByteArray) (k : Nat) : ByteArray := t.extract (64 * k) (min t.size (64 * (k + 1)))
def putW (first : Nat) (t : ByteArray) (n : Nat) : List Stp := (List.range n).map fun k => .wr (first + k) (pieceB t k)
def putL (first : Nat) (t : ByteArray) (g s : Nat) : List Stp := putW first t (needN t.size) ++ [.fl, .wr 0 (headB ((g + 1 : Nat) : Int) (s : Int) (t.size : Int)), .fl]
theorem putW_len (first : Nat) (t : ByteArray) (n : Nat) : (putW first t n).length = n := by unfold putW; simp
theorem putL_len (first : Nat) (t : ByteArray) (g s : Nat) : (putL first t g s).length = needN t.size + 3 := by unfold putL; rw [List.length_append, putW_len]; rfl
/-- What AreaPut tells: the code, and the disk. -/
def otherN (ss : List ByteArray) (ps : List Pnd) : Nat := 1 - seS (readB ss ps 0) (roomN ss)
def puL (ss : List ByteArray) (ps : List Pnd) (t : ByteArray) : List Stp := putL (1 + otherN ss ps * sideN ss.length) t (arG ss ps) (otherN ss ps)
def puOk (ss : List ByteArray) (ps : List Pnd) (t : ByteArray) : Int :=
  if 8000 < t.size then 2 else if arC ss ps = 0 then (if roomN ss < t.size ∨ 1000000 ≤ arG ss ps then 9 else 0) else arC ss ps
def puC (ss : List ByteArray) (ps : List Pnd) (t : ByteArray) (k : Int) : Int := if puOk ss ps t = 0 then doC ss ps ((puL ss ps t).take k.toNat) else puOk ss ps t
def puS (ss : List ByteArray) (ps : List Pnd) (t : ByteArray) (k : Int) : List ByteArray := if puOk ss ps t = 0 then doS ss ps ((puL ss ps t).take k.toNat) else []
def puP (ss : List ByteArray) (ps : List Pnd) (t : ByteArray) (k : Int) : List Pnd := if puOk ss ps t = 0 then doP ss ps ((puL ss ps t).take k.toNat) else []
theorem puC_ok {ss : List ByteArray} {ps : List Pnd} {t : ByteArray} {k : Int} (h : puC ss ps t k = 0) : t.size ≤ 8000 ∧ arC ss ps = 0 ∧ t.size ≤ roomN ss ∧ arG ss ps < 1000000 ∧ doC ss ps ((puL ss ps t).take k.toNat) = 0 ∧ puOk ss ps t = 0 := by
  unfold puC at h
  by_cases h0 : puOk ss ps t = 0
  · have h0' := h0
    rw [if_pos h0] at h
    unfold puOk at h0
    split at h0
    · exact absurd h0 (by decide)
    rename_i h1
    split at h0
    · rename_i h2
      split at h0
      · exact absurd h0 (by decide)
      · rename_i h3; exact ⟨by omega, h2, by omega, by omega, h, h0'⟩
    · rename_i h2; exact absurd h0 h2
  · rw [if_neg h0] at h; exact absurd h h0

/-- Writes alone: all of them are pending. -/
def asP (first : Nat) (t : ByteArray) (n : Nat) : List Pnd := (List.range n).map fun k => (((first + k : Nat) : Int), pieceB t k)
theorem asP_succ (first : Nat) (t : ByteArray) (n : Nat) : asP first t (n + 1) = asP first t n ++ [(((first + n : Nat) : Int), pieceB t n)] := by
  unfold asP; rw [List.range_succ]; simp
theorem putW_succ (first : Nat) (t : ByteArray) (n : Nat) : putW first t (n + 1) = putW first t n ++ [.wr (first + n) (pieceB t n)] := by
  unfold putW; rw [List.range_succ]; simp
theorem do_writes (ss : List ByteArray) (ps : List Pnd) (first : Nat) (t : ByteArray) (n : Nat) (h : doC ss ps (putW first t n) = 0) : doS ss ps (putW first t n) = ss ∧ doP ss ps (putW first t n) = ps ++ asP first t n ∧ (0 < n ∨ dskB ss ps = true → dskB ss (ps ++ asP first t n) = true) := by
  induction n with
  | zero =>
    refine ⟨rfl, by simp [asP]; rfl, fun h => ?_⟩
    rcases h with h | h
    · omega
    · simpa [asP] using h
  | succ n ih =>
    rw [putW_succ] at h ⊢
    by_cases h0 : doC ss ps (putW first t n) = 0
    · obtain ⟨e1, e2, e3⟩ := ih h0
      obtain ⟨a1, a2, a3⟩ := do_append _ ss ps [.wr (first + n) (pieceB t n)] h0
      rw [a1, e1, e2] at h
      unfold doC at h
      by_cases hs : stpC ss (ps ++ asP first t n) (.wr (first + n) (pieceB t n)) = 0
      · have hw : wrC ss (ps ++ asP first t n) ((first + n : Nat) : Int) (pieceB t n) = 0 := hs
        rw [a2, a3, e1, e2]
        unfold doS doP
        rw [if_pos hs, if_pos hs]
        refine ⟨if_pos hw, ?_, fun _ => ?_⟩
        · show doP _ _ [] = _
          unfold doP
          show wrP _ _ _ _ = _
          rw [show wrP ss (ps ++ asP first t n) ((first + n : Nat) : Int) (pieceB t n) = _ from if_pos hw, asP_succ, List.append_assoc]
        · rw [asP_succ, ← List.append_assoc]; exact write_right hw
      · rw [if_neg hs] at h; exact absurd h hs
    · rw [do_stop _ _ _ _ h0] at h; exact absurd h h0
/-- The states in which the power may go. -/
inductive PutAt (ss : List ByteArray) (ps : List Pnd) (first : Nat) (t : ByteArray) (h : ByteArray) : List ByteArray → List Pnd → Bool → Prop
  | some (k : Nat) (hk : k ≤ needN t.size) (hr : dskB ss (ps ++ asP first t k) = true) : PutAt ss ps first t h ss (ps ++ asP first t k) false
  | flushed (hr : dskB ss (ps ++ asP first t (needN t.size)) = true) : PutAt ss ps first t h (flushB ss (ps ++ asP first t (needN t.size))) [] false
  | headed (hr : dskB ss (ps ++ asP first t (needN t.size)) = true) (hh : dskB (flushB ss (ps ++ asP first t (needN t.size))) [(0, h)] = true) : PutAt ss ps first t h (flushB ss (ps ++ asP first t (needN t.size))) [(0, h)] false
  | done (hr : dskB ss (ps ++ asP first t (needN t.size)) = true) (hh : dskB (flushB ss (ps ++ asP first t (needN t.size))) [(0, h)] = true) : PutAt ss ps first t h (flushB (flushB ss (ps ++ asP first t (needN t.size))) [(0, h)]) [] true
theorem do_one {ss : List ByteArray} {ps : List Pnd} {s : Stp} (h : doC ss ps [s] = 0) : stpC ss ps s = 0 ∧ doS ss ps [s] = stpS ss ps s ∧ doP ss ps [s] = stpP ss ps s := by
  unfold doC at h
  by_cases hs : stpC ss ps s = 0
  · refine ⟨hs, ?_, ?_⟩
    · show (if _ then _ else _) = _; rw [if_pos hs]; rfl
    · show (if _ then _ else _) = _; rw [if_pos hs]; rfl
  · rw [if_neg hs] at h; exact absurd h hs
theorem flC_ok {ss : List ByteArray} {ps : List Pnd} (h : flC ss ps = 0) : dskB ss ps = true := by
  unfold flC at h; split at h
  · assumption
  · exact absurd h (by decide)
theorem put_at {ss : List ByteArray} {ps : List Pnd} (first : Nat) (t : ByteArray) (g s k : Nat) (hr : dskB ss ps = true) (h : doC ss ps ((putL first t g s).take k) = 0) :
    PutAt ss ps first t (headB ((g + 1 : Nat) : Int) (s : Int) (t.size : Int)) (doS ss ps ((putL first t g s).take k)) (doP ss ps ((putL first t g s).take k)) (decide (needN t.size + 3 ≤ k)) := by
  obtain ⟨n, hn⟩ : ∃ n, n = needN t.size := ⟨_, rfl⟩
  obtain ⟨H, hH⟩ : ∃ H, H = headB ((g + 1 : Nat) : Int) (s : Int) (t.size : Int) := ⟨_, rfl⟩
  have hL : putL first t g s = putW first t n ++ [.fl, .wr 0 H, .fl] := by unfold putL; rw [← hn, ← hH]
  have hWl := putW_len first t n
  by_cases hk : k ≤ n
  · have e : (putL first t g s).take k = putW first t k := by
      rw [hL, List.take_append_of_le_length (by omega)]
      unfold putW
      rw [← List.map_take, List.take_range, Nat.min_eq_left hk]
    rw [e] at h ⊢
    obtain ⟨e1, e2, e3⟩ := do_writes ss ps first t k h
    rw [e1, e2, decide_eq_false (by omega)]
    exact .some k (by omega) (e3 (.inr hr))
  have hlast : (putL first t g s).take k = putW first t n ++ ([.fl, .wr 0 H, .fl] : List Stp).take (k - n) := by
    rw [hL, List.take_append, hWl, List.take_of_length_le (by omega)]
  rw [hlast] at h ⊢
  have h0 : doC ss ps (putW first t n) = 0 := by
    by_cases h0 : doC ss ps (putW first t n) = 0
    · exact h0
    · rw [do_stop _ _ _ _ h0] at h; exact absurd h h0
  obtain ⟨e1, e2, e3⟩ := do_writes ss ps first t n h0
  have hr1 := e3 (.inr hr)
  obtain ⟨a1, a2, a3⟩ := do_append _ ss ps (([.fl, .wr 0 H, .fl] : List Stp).take (k - n)) h0
  rw [a2, a3]
  rw [a1] at h
  rw [e1, e2] at h ⊢
  have hfl : ∀ (S : List ByteArray) (P : List Pnd), dskB S P = true → stpC S P .fl = 0 ∧ stpS S P .fl = flushB S P ∧ stpP S P .fl = [] := fun S P hd => ⟨if_pos hd, if_pos hd, rfl⟩
  obtain ⟨f1, f2, f3⟩ := hfl _ _ hr1
  rw [← hH]
  match hm : k - n, h with
  | 0, _ => omega
  | 1, h =>
    rw [decide_eq_false (by omega)]
    show PutAt _ _ _ _ _ (doS _ _ [.fl]) (doP _ _ [.fl]) _
    have : doC ss (ps ++ asP first t n) [.fl] = 0 := h
    obtain ⟨-, s1, s2⟩ := do_one this
    rw [s1, s2, f2, f3, hn]
    rw [hn] at hr1
    exact .flushed hr1
  | 2, h =>
    rw [decide_eq_false (by omega)]
    show PutAt _ _ _ _ _ (doS _ _ [.fl, .wr 0 H]) (doP _ _ [.fl, .wr 0 H]) _
    have h : doC ss (ps ++ asP first t n) [.fl, .wr 0 H] = 0 := h
    unfold doC at h
    rw [if_pos f1, f2, f3] at h
    obtain ⟨s0, s1, s2⟩ := do_one h
    unfold doS doP
    rw [if_pos f1, if_pos f1, f2, f3, s1, s2]
    have hw : wrC (flushB ss (ps ++ asP first t n)) [] 0 H = 0 := s0
    rw [show stpS (flushB ss (ps ++ asP first t n)) [] (.wr 0 H) = _ from if_pos hw, show stpP (flushB ss (ps ++ asP first t n)) [] (.wr 0 H) = _ from if_pos hw, hn]
    have hr3 : dskB (flushB ss (ps ++ asP first t n)) [(0, H)] = true := write_right hw
    rw [hn] at hr3 hr1
    exact .headed hr1 hr3
  | m + 3, h =>
    rw [decide_eq_true (by omega)]
    have ht : ([.fl, .wr 0 H, .fl] : List Stp).take (m + 3) = [.fl, .wr 0 H, .fl] := List.take_of_length_le (by simp)
    rw [ht] at h ⊢
    unfold doC at h
    rw [if_pos f1, f2, f3] at h
    have h1 : doC (flushB ss (ps ++ asP first t n)) [] [.wr 0 H] = 0 := do_take (l := [.wr 0 H, .fl]) 1 h
    obtain ⟨s0, s1, s2⟩ := do_one h1
    have hw : wrC (flushB ss (ps ++ asP first t n)) [] 0 H = 0 := s0
    have hr3 : dskB (flushB ss (ps ++ asP first t n)) [(0, H)] = true := write_right hw
    obtain ⟨g1, g2, g3⟩ := hfl _ _ hr3
    have q1 : stpS (flushB ss (ps ++ asP first t n)) [] (.wr 0 H) = flushB ss (ps ++ asP first t n) := if_pos hw
    have q2 : stpP (flushB ss (ps ++ asP first t n)) [] (.wr 0 H) = [(0, H)] := if_pos hw
    have q3 : stpC (flushB ss (ps ++ asP first t n)) [] (.wr 0 H) = 0 := hw
    have w1 : doS ss (ps ++ asP first t n) [.fl, .wr 0 H, .fl] = flushB (flushB ss (ps ++ asP first t n)) [(0, H)] := by
      unfold doS; rw [if_pos f1, f2, f3]
      unfold doS; rw [if_pos q3, q1, q2]
      unfold doS; rw [if_pos g1]; exact g2
    have w2 : doP ss (ps ++ asP first t n) [.fl, .wr 0 H, .fl] = [] := by
      unfold doP; rw [if_pos f1, f2, f3]
      unfold doP; rw [if_pos q3, q1, q2]
      unfold doP; rw [if_pos g1]; exact g3
    rw [w1, w2]
    rw [hn] at hr1 hr3 ⊢
    exact .done hr1 hr3
end Go.Proofs.YtkhffoailfnepakGreatDoor
