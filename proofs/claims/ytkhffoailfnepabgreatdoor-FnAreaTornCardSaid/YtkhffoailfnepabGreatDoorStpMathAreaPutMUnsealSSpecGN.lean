/-
  Parts of one proof, laid as one text: StpMath, AreaPutM, UnsealS, SpecGN; what each says stands at its head.
-/
import Derived.Test.YtkhffoailfnepabGreatDoorRows
import Derived.Test.YtkhffoailfnepabGreatDoorBytesDigMath
import Derived.Test.YtkhffoailfnepabGreatDoorSlASlBOwnSOwnBSrc
import Derived.Test.YtkhffoailfnepabGreatDoorDrawsDrawKitDskMath
import Derived.Test.YtkhffoailfnepabGreatDoorDskSDskCDskT
import Derived.Test.YtkhffoailfnepabGreatDoorDskW
import Derived.Test.YtkhffoailfnepabGreatDoorDskFDskK
import Derived.Test.YtkhffoailfnepabGreatDoorDskLawLawSLawSGLawP
import Derived.Test.YtkhffoailfnepabGreatDoorGetTextITextMathAreaMath
import Derived.Test.YtkhffoailfnepabGreatDoorJoinedPutTextCrc
import Derived.Test.YtkhffoailfnepabGreatDoorFourSealAreaAAreaF
import Derived.Handy
import Derived.Deep.QuietTactic
import Derived.BigQuiet
import Derived.WalkSpells
import Derived.Deep.RegionWith
import Derived.Test.YtkhffoailfnepabGreatDoorCrcMathUnsealISealMathScopes
import Derived.Test.YtkhffoailfnepabGreatDoorScanMathNumMathNumInv
import Derived.Test.YtkhffoailfnepabGreatDoorGetValAsDAs2CodeOfGetNumI
/-
  Steps of a disk, as plain functions: one, and all till one tells a code; cells that hold steps.
-/
namespace Go.Proofs.YtkhffoailfnepabGreatDoor
open Go.RowKit Go.Lib
set_option linter.unusedVariables false

/-! ### Steps -/
inductive Stp where
  | wr (a : Nat) (t : ByteArray)
  | fl
def stpC (ss : List ByteArray) (ps : List Pnd) : Stp → Int
  | .wr a t => wrC ss ps (a : Int) t
  | .fl => flC ss ps
def stpS (ss : List ByteArray) (ps : List Pnd) : Stp → List ByteArray
  | .wr a t => wrS ss ps (a : Int) t
  | .fl => flS ss ps
def stpP (ss : List ByteArray) (ps : List Pnd) : Stp → List Pnd
  | .wr a t => wrP ss ps (a : Int) t
  | .fl => []
/-- All steps, till one tells a code. -/
def doC (ss : List ByteArray) (ps : List Pnd) : List Stp → Int
  | [] => 0
  | s :: r => if stpC ss ps s = 0 then doC (stpS ss ps s) (stpP ss ps s) r else stpC ss ps s
def doS (ss : List ByteArray) (ps : List Pnd) : List Stp → List ByteArray
  | [] => ss
  | s :: r => if stpC ss ps s = 0 then doS (stpS ss ps s) (stpP ss ps s) r else []
def doP (ss : List ByteArray) (ps : List Pnd) : List Stp → List Pnd
  | [] => ps
  | s :: r => if stpC ss ps s = 0 then doP (stpS ss ps s) (stpP ss ps s) r else []
theorem doC_y {ss : List ByteArray} {ps : List Pnd} {s : Stp} (h : stpC ss ps s = 0) (r : List Stp) : doC ss ps (s :: r) = doC (stpS ss ps s) (stpP ss ps s) r := if_pos h
theorem doC_n {ss : List ByteArray} {ps : List Pnd} {s : Stp} (h : ¬ stpC ss ps s = 0) (r : List Stp) : doC ss ps (s :: r) = stpC ss ps s := if_neg h
theorem doS_y {ss : List ByteArray} {ps : List Pnd} {s : Stp} (h : stpC ss ps s = 0) (r : List Stp) : doS ss ps (s :: r) = doS (stpS ss ps s) (stpP ss ps s) r := if_pos h
theorem doS_n {ss : List ByteArray} {ps : List Pnd} {s : Stp} (h : ¬ stpC ss ps s = 0) (r : List Stp) : doS ss ps (s :: r) = [] := if_neg h
theorem doP_y {ss : List ByteArray} {ps : List Pnd} {s : Stp} (h : stpC ss ps s = 0) (r : List Stp) : doP ss ps (s :: r) = doP (stpS ss ps s) (stpP ss ps s) r := if_pos h
theorem doP_n {ss : List ByteArray} {ps : List Pnd} {s : Stp} (h : ¬ stpC ss ps s = 0) (r : List Stp) : doP ss ps (s :: r) = [] := if_neg h
theorem do_ill (l : List Stp) : ∀ (ss : List ByteArray) (ps : List Pnd), doC ss ps l ≠ 0 → doS ss ps l = [] ∧ doP ss ps l = [] := by
  induction l with
  | nil => intro ss ps h; exact absurd rfl h
  | cons s r ih =>
    intro ss ps h
    by_cases hs : stpC ss ps s = 0
    · rw [doC_y hs] at h; rw [doS_y hs, doP_y hs]; exact ih _ _ h
    · rw [doS_n hs, doP_n hs]; exact ⟨rfl, rfl⟩
theorem do_append (l : List Stp) : ∀ (ss : List ByteArray) (ps : List Pnd) (m : List Stp), doC ss ps l = 0 → doC ss ps (l ++ m) = doC (doS ss ps l) (doP ss ps l) m ∧ doS ss ps (l ++ m) = doS (doS ss ps l) (doP ss ps l) m ∧ doP ss ps (l ++ m) = doP (doS ss ps l) (doP ss ps l) m := by
  induction l with
  | nil => intro ss ps m _; exact ⟨rfl, rfl, rfl⟩
  | cons s r ih =>
    intro ss ps m h
    rw [List.cons_append]
    by_cases hs : stpC ss ps s = 0
    · rw [doC_y hs] at h
      rw [doC_y hs, doS_y hs, doP_y hs, doS_y hs, doP_y hs]
      exact ih _ _ m h
    · rw [doC_n hs] at h; exact absurd h hs
theorem do_stop (l : List Stp) : ∀ (ss : List ByteArray) (ps : List Pnd) (m : List Stp), doC ss ps l ≠ 0 → doC ss ps (l ++ m) = doC ss ps l := by
  induction l with
  | nil => intro ss ps m h; exact absurd rfl h
  | cons s r ih =>
    intro ss ps m h
    rw [List.cons_append]
    by_cases hs : stpC ss ps s = 0
    · rw [doC_y hs] at h; rw [doC_y hs, doC_y hs]; exact ih _ _ m h
    · rw [doC_n hs, doC_n hs]
theorem do_take {l : List Stp} {ss : List ByteArray} {ps : List Pnd} (k : Nat) (h : doC ss ps l = 0) : doC ss ps (l.take k) = 0 := by
  by_cases h0 : doC ss ps (l.take k) = 0
  · exact h0
  · have := do_stop (l.take k) ss ps (l.drop k) h0
    rw [List.take_append_drop] at this
    rw [← this]; exact h
theorem do_one_any (ss : List ByteArray) (ps : List Pnd) (s : Stp) : doC ss ps [s] = stpC ss ps s := by
  by_cases hs : stpC ss ps s = 0
  · rw [doC_y hs, hs]; rfl
  · rw [doC_n hs]
/-- One step more. -/
theorem do_snoc {l : List Stp} {ss : List ByteArray} {ps : List Pnd} {k : Nat} (hk : k < l.length) (h : doC ss ps (l.take k) = 0) :
    doC ss ps (l.take (k + 1)) = stpC (doS ss ps (l.take k)) (doP ss ps (l.take k)) l[k] ∧
    (stpC (doS ss ps (l.take k)) (doP ss ps (l.take k)) l[k] = 0 → doS ss ps (l.take (k + 1)) = stpS (doS ss ps (l.take k)) (doP ss ps (l.take k)) l[k] ∧ doP ss ps (l.take (k + 1)) = stpP (doS ss ps (l.take k)) (doP ss ps (l.take k)) l[k]) := by
  rw [List.take_succ_eq_append_getElem hk]
  obtain ⟨h1, h2, h3⟩ := do_append (l.take k) ss ps [l[k]] h
  rw [h1, h2, h3]
  refine ⟨do_one_any _ _ _, fun e => ?_⟩
  rw [doS_y e, doP_y e]; exact ⟨rfl, rfl⟩
/-- A code that is told early is told at the end. -/
theorem do_early {l : List Stp} {ss : List ByteArray} {ps : List Pnd} {k m : Nat} (hk : k ≤ m) (h : doC ss ps (l.take k) ≠ 0) : doC ss ps (l.take m) = doC ss ps (l.take k) := by
  have e : l.take k = (l.take m).take k := by rw [List.take_take, Nat.min_eq_left hk]
  rw [e] at h ⊢
  have := do_stop ((l.take m).take k) ss ps ((l.take m).drop k) h
  rw [List.take_append_drop] at this
  exact this

/-! ### Steps in memory -/
def Stp.f : Stp → Bool
  | .wr _ _ => false
  | .fl => true
def Stp.a : Stp → Nat
  | .wr a _ => a
  | .fl => 0
def Stp.t : Stp → ByteArray
  | .wr _ t => t
  | .fl => ByteArray.empty
/-- The cells that a slice of steps leads to hold these. -/
def StpAt (w : World) (p : Option Addr) (l : List Stp) : Prop :=
  ∀ i (h : i < l.length), ∃ b off, p = some ⟨b, off, none⟩ ∧ b < w.heap.size ∧ w.cell? ⟨b, off + i * 3, none⟩ = some (.bool l[i].f) ∧ w.cell? ⟨b, off + i * 3 + 1, none⟩ = some (.int .i64 (l[i].a : Int)) ∧ w.cell? ⟨b, off + i * 3 + 2, none⟩ = some (.string l[i].t)
theorem StpAt.below {w w' : World} {p : Option Addr} {l : List Stp} (h : StpAt w p l) (hb : Below w.heap.size w w') : StpAt w' p l := by
  intro i hi
  obtain ⟨b, off, rfl, h1, h2, h3, h4⟩ := h i hi
  exact ⟨b, off, rfl, Nat.lt_of_lt_of_le h1 hb.size, (hb.cell (p := ⟨b, off + i * 3, none⟩) h1).trans h2, (hb.cell (p := ⟨b, off + i * 3 + 1, none⟩) h1).trans h3, (hb.cell (p := ⟨b, off + i * 3 + 2, none⟩) h1).trans h4⟩
theorem StpAt.nil (w : World) (p : Option Addr) : StpAt w p [] := fun i h => by simp at h
theorem StpAt.take {w : World} {p : Option Addr} {l : List Stp} (h : StpAt w p l) (k : Nat) : StpAt w p (l.take k) := by
  intro i hi
  have hi' : i < l.length := by rw [List.length_take] at hi; omega
  have := h i hi'
  rwa [List.getElem_take]
theorem StpAt.at {w : World} {b off : Nat} {l : List Stp} (h : StpAt w (some ⟨b, off, none⟩) l) (i : Nat) (hi : i < l.length) : w.cell? ⟨b, off + i * 3, none⟩ = some (.bool l[i].f) ∧ w.cell? ⟨b, off + i * 3 + 1, none⟩ = some (.int .i64 (l[i].a : Int)) ∧ w.cell? ⟨b, off + i * 3 + 2, none⟩ = some (.string l[i].t) := by
  obtain ⟨b', off', h0, h1, h2⟩ := h i hi
  cases h0; exact h2
def stpRow (l : List Stp) : List Value := l.flatMap fun s => [.bool s.f, .int .i64 (s.a : Int), .string s.t]
theorem stpRow_len (l : List Stp) : (stpRow l).length = l.length * 3 := by
  induction l with
  | nil => rfl
  | cons p ps ih => unfold stpRow at *; rw [List.flatMap_cons, List.length_append, ih]; simp; omega
theorem stpRow_append (l m : List Stp) : stpRow (l ++ m) = stpRow l ++ stpRow m := by simp [stpRow]
theorem stpRow_at (l : List Stp) : ∀ (i : Nat) (h : i < l.length), (stpRow l)[i * 3]? = some (.bool l[i].f) ∧ (stpRow l)[i * 3 + 1]? = some (.int .i64 (l[i].a : Int)) ∧ (stpRow l)[i * 3 + 2]? = some (.string l[i].t) := by
  induction l with
  | nil => intro i h; simp at h
  | cons p ps ih =>
    intro i h
    match i with
    | 0 => exact ⟨rfl, rfl, rfl⟩
    | i + 1 =>
      have := ih i (by simpa using h)
      rw [show (i + 1) * 3 = i * 3 + 3 by omega]
      exact this
/-- A right disk stays right while no step tells a code. -/
theorem stp_right {ss : List ByteArray} {ps : List Pnd} {s : Stp} (hr : dskB ss ps = true) (h : stpC ss ps s = 0) : dskB (stpS ss ps s) (stpP ss ps s) = true := by
  cases s with
  | wr a t =>
    have hw : wrC ss ps (a : Int) t = 0 := h
    show dskB (wrS ss ps (a : Int) t) (wrP ss ps (a : Int) t) = true
    rw [show wrS ss ps (a : Int) t = ss from if_pos hw, show wrP ss ps (a : Int) t = ps ++ [((a : Int), t)] from if_pos hw]
    exact write_right hw
  | fl =>
    show dskB (flS ss ps) [] = true
    rw [show flS ss ps = flushB ss ps from if_pos hr]
    exact flush_right hr
theorem do_right {l : List Stp} : ∀ {ss : List ByteArray} {ps : List Pnd}, dskB ss ps = true → doC ss ps l = 0 → dskB (doS ss ps l) (doP ss ps l) = true := by
  induction l with
  | nil => intro ss ps hr _; exact hr
  | cons s r ih =>
    intro ss ps hr h
    by_cases hs : stpC ss ps s = 0
    · rw [doC_y hs] at h
      rw [doS_y hs, doP_y hs]
      exact ih (stp_right hr hs) h
    · rw [doC_n hs] at h; exact absurd h hs
end Go.Proofs.YtkhffoailfnepabGreatDoor
/-
  The steps of putting a text to a disk, as plain functions; promises 8 and 9 as plain laws.
-/
namespace Go.Proofs.YtkhffoailfnepabGreatDoor
open Go.RowKit Go.Lib
set_option linter.unusedVariables false

/-! ### The steps of putting -/
def pieceB (t : ByteArray) (k : Nat) : ByteArray := t.extract (64 * k) (min t.size (64 * (k + 1)))
def putW (first : Nat) (t : ByteArray) (n : Nat) : List Stp := (List.range n).map fun k => .wr (first + k) (pieceB t k)
def putL (first : Nat) (t : ByteArray) (g s : Nat) : List Stp := putW first t (needN t.size) ++ [.fl, .wr 0 (headB ((g + 1 : Nat) : Int) (s : Int) (t.size : Int)), .fl]
theorem putW_len (first : Nat) (t : ByteArray) (n : Nat) : (putW first t n).length = n := by unfold putW; simp
theorem putL_len (first : Nat) (t : ByteArray) (g s : Nat) : (putL first t g s).length = needN t.size + 3 := by unfold putL; rw [List.length_append, putW_len]; rfl
/-- What AreaPut tells: the code, and the disk. -/
def otherN (ss : List ByteArray) (ps : List Pnd) : Nat := 1 - seS (readB ss ps 0) (roomN ss)
def puL (ss : List ByteArray) (ps : List Pnd) (t : ByteArray) : List Stp := putL (1 + otherN ss ps * sideN ss.length) t (arG ss ps) (otherN ss ps)
def puOk (ss : List ByteArray) (ps : List Pnd) (t : ByteArray) : Int :=
  if 8000 < t.size then 2 else if arC ss ps = 0 then (if roomN ss < t.size ∨ 1000000 ≤ arG ss ps then 9 else 0) else arC ss ps
def puC (ss : List ByteArray) (ps : List Pnd) (t : ByteArray) (k : Int) : Int := if puOk ss ps t = 0 then doC ss ps ((puL ss ps t).take k.toNat) else puOk ss ps t
def puS (ss : List ByteArray) (ps : List Pnd) (t : ByteArray) (k : Int) : List ByteArray := if puOk ss ps t = 0 then doS ss ps ((puL ss ps t).take k.toNat) else []
def puP (ss : List ByteArray) (ps : List Pnd) (t : ByteArray) (k : Int) : List Pnd := if puOk ss ps t = 0 then doP ss ps ((puL ss ps t).take k.toNat) else []
theorem puC_ok {ss : List ByteArray} {ps : List Pnd} {t : ByteArray} {k : Int} (h : puC ss ps t k = 0) : t.size ≤ 8000 ∧ arC ss ps = 0 ∧ t.size ≤ roomN ss ∧ arG ss ps < 1000000 ∧ doC ss ps ((puL ss ps t).take k.toNat) = 0 ∧ puOk ss ps t = 0 := by
  unfold puC at h
  by_cases h0 : puOk ss ps t = 0
  · have h0' := h0
    rw [if_pos h0] at h
    unfold puOk at h0
    split at h0
    · exact absurd h0 (by decide)
    rename_i h1
    split at h0
    · rename_i h2
      split at h0
      · exact absurd h0 (by decide)
      · rename_i h3; exact ⟨by omega, h2, by omega, by omega, h, h0'⟩
    · rename_i h2; exact absurd h0 h2
  · rw [if_neg h0] at h; exact absurd h h0

/-- Writes alone: all of them are pending. -/
def asP (first : Nat) (t : ByteArray) (n : Nat) : List Pnd := (List.range n).map fun k => (((first + k : Nat) : Int), pieceB t k)
theorem asP_succ (first : Nat) (t : ByteArray) (n : Nat) : asP first t (n + 1) = asP first t n ++ [(((first + n : Nat) : Int), pieceB t n)] := by
  unfold asP; rw [List.range_succ]; simp
theorem putW_succ (first : Nat) (t : ByteArray) (n : Nat) : putW first t (n + 1) = putW first t n ++ [.wr (first + n) (pieceB t n)] := by
  unfold putW; rw [List.range_succ]; simp
theorem do_writes (ss : List ByteArray) (ps : List Pnd) (first : Nat) (t : ByteArray) (n : Nat) (h : doC ss ps (putW first t n) = 0) : doS ss ps (putW first t n) = ss ∧ doP ss ps (putW first t n) = ps ++ asP first t n ∧ (0 < n ∨ dskB ss ps = true → dskB ss (ps ++ asP first t n) = true) := by
  induction n with
  | zero =>
    refine ⟨rfl, by simp [asP]; rfl, fun h => ?_⟩
    rcases h with h | h
    · omega
    · simpa [asP] using h
  | succ n ih =>
    rw [putW_succ] at h ⊢
    by_cases h0 : doC ss ps (putW first t n) = 0
    · obtain ⟨e1, e2, e3⟩ := ih h0
      obtain ⟨a1, a2, a3⟩ := do_append _ ss ps [.wr (first + n) (pieceB t n)] h0
      rw [a1, e1, e2] at h
      unfold doC at h
      by_cases hs : stpC ss (ps ++ asP first t n) (.wr (first + n) (pieceB t n)) = 0
      · have hw : wrC ss (ps ++ asP first t n) ((first + n : Nat) : Int) (pieceB t n) = 0 := hs
        rw [a2, a3, e1, e2]
        unfold doS doP
        rw [if_pos hs, if_pos hs]
        refine ⟨if_pos hw, ?_, fun _ => ?_⟩
        · show doP _ _ [] = _
          unfold doP
          show wrP _ _ _ _ = _
          rw [show wrP ss (ps ++ asP first t n) ((first + n : Nat) : Int) (pieceB t n) = _ from if_pos hw, asP_succ, List.append_assoc]
        · rw [asP_succ, ← List.append_assoc]; exact write_right hw
      · rw [if_neg hs] at h; exact absurd h hs
    · rw [do_stop _ _ _ _ h0] at h; exact absurd h h0
/-- The states in which the power may go. -/
inductive PutAt (ss : List ByteArray) (ps : List Pnd) (first : Nat) (t : ByteArray) (h : ByteArray) : List ByteArray → List Pnd → Bool → Prop
  | some (k : Nat) (hk : k ≤ needN t.size) (hr : dskB ss (ps ++ asP first t k) = true) : PutAt ss ps first t h ss (ps ++ asP first t k) false
  | flushed (hr : dskB ss (ps ++ asP first t (needN t.size)) = true) : PutAt ss ps first t h (flushB ss (ps ++ asP first t (needN t.size))) [] false
  | headed (hr : dskB ss (ps ++ asP first t (needN t.size)) = true) (hh : dskB (flushB ss (ps ++ asP first t (needN t.size))) [(0, h)] = true) : PutAt ss ps first t h (flushB ss (ps ++ asP first t (needN t.size))) [(0, h)] false
  | done (hr : dskB ss (ps ++ asP first t (needN t.size)) = true) (hh : dskB (flushB ss (ps ++ asP first t (needN t.size))) [(0, h)] = true) : PutAt ss ps first t h (flushB (flushB ss (ps ++ asP first t (needN t.size))) [(0, h)]) [] true
theorem do_one {ss : List ByteArray} {ps : List Pnd} {s : Stp} (h : doC ss ps [s] = 0) : stpC ss ps s = 0 ∧ doS ss ps [s] = stpS ss ps s ∧ doP ss ps [s] = stpP ss ps s := by
  unfold doC at h
  by_cases hs : stpC ss ps s = 0
  · refine ⟨hs, ?_, ?_⟩
    · show (if _ then _ else _) = _; rw [if_pos hs]; rfl
    · show (if _ then _ else _) = _; rw [if_pos hs]; rfl
  · rw [if_neg hs] at h; exact absurd h hs
theorem flC_ok {ss : List ByteArray} {ps : List Pnd} (h : flC ss ps = 0) : dskB ss ps = true := by
  unfold flC at h; split at h
  · assumption
  · exact absurd h (by decide)
theorem put_at {ss : List ByteArray} {ps : List Pnd} (first : Nat) (t : ByteArray) (g s k : Nat) (hr : dskB ss ps = true) (h : doC ss ps ((putL first t g s).take k) = 0) :
    PutAt ss ps first t (headB ((g + 1 : Nat) : Int) (s : Int) (t.size : Int)) (doS ss ps ((putL first t g s).take k)) (doP ss ps ((putL first t g s).take k)) (decide (needN t.size + 3 ≤ k)) := by
  obtain ⟨n, hn⟩ : ∃ n, n = needN t.size := ⟨_, rfl⟩
  obtain ⟨H, hH⟩ : ∃ H, H = headB ((g + 1 : Nat) : Int) (s : Int) (t.size : Int) := ⟨_, rfl⟩
  have hL : putL first t g s = putW first t n ++ [.fl, .wr 0 H, .fl] := by unfold putL; rw [← hn, ← hH]
  have hWl := putW_len first t n
  by_cases hk : k ≤ n
  · have e : (putL first t g s).take k = putW first t k := by
      rw [hL, List.take_append_of_le_length (by omega)]
      unfold putW
      rw [← List.map_take, List.take_range, Nat.min_eq_left hk]
    rw [e] at h ⊢
    obtain ⟨e1, e2, e3⟩ := do_writes ss ps first t k h
    rw [e1, e2, decide_eq_false (by omega)]
    exact .some k (by omega) (e3 (.inr hr))
  have hlast : (putL first t g s).take k = putW first t n ++ ([.fl, .wr 0 H, .fl] : List Stp).take (k - n) := by
    rw [hL, List.take_append, hWl, List.take_of_length_le (by omega)]
  rw [hlast] at h ⊢
  have h0 : doC ss ps (putW first t n) = 0 := by
    by_cases h0 : doC ss ps (putW first t n) = 0
    · exact h0
    · rw [do_stop _ _ _ _ h0] at h; exact absurd h h0
  obtain ⟨e1, e2, e3⟩ := do_writes ss ps first t n h0
  have hr1 := e3 (.inr hr)
  obtain ⟨a1, a2, a3⟩ := do_append _ ss ps (([.fl, .wr 0 H, .fl] : List Stp).take (k - n)) h0
  rw [a2, a3]
  rw [a1] at h
  rw [e1, e2] at h ⊢
  have hfl : ∀ (S : List ByteArray) (P : List Pnd), dskB S P = true → stpC S P .fl = 0 ∧ stpS S P .fl = flushB S P ∧ stpP S P .fl = [] := fun S P hd => ⟨if_pos hd, if_pos hd, rfl⟩
  obtain ⟨f1, f2, f3⟩ := hfl _ _ hr1
  rw [← hH]
  match hm : k - n, h with
  | 0, _ => omega
  | 1, h =>
    rw [decide_eq_false (by omega)]
    show PutAt _ _ _ _ _ (doS _ _ [.fl]) (doP _ _ [.fl]) _
    have : doC ss (ps ++ asP first t n) [.fl] = 0 := h
    obtain ⟨-, s1, s2⟩ := do_one this
    rw [s1, s2, f2, f3, hn]
    rw [hn] at hr1
    exact .flushed hr1
  | 2, h =>
    rw [decide_eq_false (by omega)]
    show PutAt _ _ _ _ _ (doS _ _ [.fl, .wr 0 H]) (doP _ _ [.fl, .wr 0 H]) _
    have h : doC ss (ps ++ asP first t n) [.fl, .wr 0 H] = 0 := h
    unfold doC at h
    rw [if_pos f1, f2, f3] at h
    obtain ⟨s0, s1, s2⟩ := do_one h
    unfold doS doP
    rw [if_pos f1, if_pos f1, f2, f3, s1, s2]
    have hw : wrC (flushB ss (ps ++ asP first t n)) [] 0 H = 0 := s0
    rw [show stpS (flushB ss (ps ++ asP first t n)) [] (.wr 0 H) = _ from if_pos hw, show stpP (flushB ss (ps ++ asP first t n)) [] (.wr 0 H) = _ from if_pos hw, hn]
    have hr3 : dskB (flushB ss (ps ++ asP first t n)) [(0, H)] = true := write_right hw
    rw [hn] at hr3 hr1
    exact .headed hr1 hr3
  | m + 3, h =>
    rw [decide_eq_true (by omega)]
    have ht : ([.fl, .wr 0 H, .fl] : List Stp).take (m + 3) = [.fl, .wr 0 H, .fl] := List.take_of_length_le (by simp)
    rw [ht] at h ⊢
    unfold doC at h
    rw [if_pos f1, f2, f3] at h
    have h1 : doC (flushB ss (ps ++ asP first t n)) [] [.wr 0 H] = 0 := do_take (l := [.wr 0 H, .fl]) 1 h
    obtain ⟨s0, s1, s2⟩ := do_one h1
    have hw : wrC (flushB ss (ps ++ asP first t n)) [] 0 H = 0 := s0
    have hr3 : dskB (flushB ss (ps ++ asP first t n)) [(0, H)] = true := write_right hw
    obtain ⟨g1, g2, g3⟩ := hfl _ _ hr3
    have q1 : stpS (flushB ss (ps ++ asP first t n)) [] (.wr 0 H) = flushB ss (ps ++ asP first t n) := if_pos hw
    have q2 : stpP (flushB ss (ps ++ asP first t n)) [] (.wr 0 H) = [(0, H)] := if_pos hw
    have q3 : stpC (flushB ss (ps ++ asP first t n)) [] (.wr 0 H) = 0 := hw
    have w1 : doS ss (ps ++ asP first t n) [.fl, .wr 0 H, .fl] = flushB (flushB ss (ps ++ asP first t n)) [(0, H)] := by
      unfold doS; rw [if_pos f1, f2, f3]
      unfold doS; rw [if_pos q3, q1, q2]
      unfold doS; rw [if_pos g1]; exact g2
    have w2 : doP ss (ps ++ asP first t n) [.fl, .wr 0 H, .fl] = [] := by
      unfold doP; rw [if_pos f1, f2, f3]
      unfold doP; rw [if_pos q3, q1, q2]
      unfold doP; rw [if_pos g1]; exact g3
    rw [w1, w2]
    rw [hn] at hr1 hr3 ⊢
    exact .done hr1 hr3
end Go.Proofs.YtkhffoailfnepabGreatDoor
/-
  What the specification's Unseal answers (beside the program's half, UnsealI).
-/
namespace Go.Proofs.YtkhffoailfnepabGreatDoor
open Go.RowKit Go.Lib
set_option linter.unusedVariables false

set_option maxHeartbeats 1000000 in
theorem specUnseal_any (s : ByteArray) (w : World) (hs : s.size ≤ maxLen) :
    Calls Tryz.prog 67 #[.string s] w fun e w' => e = .returned (unsealB s) ∧ Below w.heap.size w w' := by
  have hs' := hs
  unfold maxLen at hs'
  by_cases h : 8000 < s.size
  · have H : Hid (unsealB s = textOut ByteArray.empty 0 2) := if_pos h
    go_enter Tryz.func67, Tryz.ntmps67
    go_wp2_with fail
    go_returns
    exact ⟨ret_val (H.out.trans rfl).symm, (Below.refl _ _).alloc (Nat.le_refl _) _⟩
  by_cases h4 : s.size < 4
  · have H : Hid (unsealB s = textOut ByteArray.empty 0 4) := by unfold unsealB; rw [if_neg h, if_pos h4]; rfl
    go_enter Tryz.func67, Tryz.ntmps67
    go_wp2_with fail
    go_returns
    exact ⟨ret_val (H.out.trans rfl).symm, (Below.refl _ _).alloc (Nat.le_refl _) _⟩
  · have HU : Hid (unsealB s = if ((four (crcV 0 (body s))).toList == (tail4 s).toList) = true then textOut (body s) 0 0 else textOut ByteArray.empty 0 5) := by unfold unsealB; rw [if_neg h, if_neg h4]; rfl
    have i4 : (4 : Int) ≤ (s.size : Int) := by omega
    have hb1 : (s.extract 0 (s.size - 4)).size ≤ maxLen := by unfold maxLen; simp; omega
    have hcb := crcV_bd 0 (s.extract 0 (s.size - 4))
    have hwr : IntKind.i64.wrap ((s.size : Int) - 4) = (s.size : Int) - 4 := by rw [IntKind.wrap_i64]; omega
    have hsl := tail_run s h4
    go_enter Tryz.func67, Tryz.ntmps67
    go_wp2_with fail
    go_region_with (first | (go_at_call 84; refine (specL01Crc_any _ _ _ hb1 (by omega) (by omega)).mono ?_; rintro e w1 ⟨rfl, hw⟩; subst hw) | (go_at_call 83; refine (specFour_any _ _ hcb.1 hcb.2).mono ?_; rintro e w2 ⟨rfl, hbel⟩))
    obtain ⟨hc, hf⟩ := bcell hbel
    have hz : w.heap.size + 1 ≤ w2.heap.size := by have := hbel.size; simp at this; omega
    cases hq : ((four (crcV 0 (s.extract 0 (s.size - 4)))).toList == (tail4 s).toList)
    · have HV : Hid (unsealB s = textOut ByteArray.empty 0 5) := HU.out.trans (if_neg (by unfold body; rw [hq]; simp))
      clear HU
      go_wp2
      refine bodyPost_ret (v := textOut ByteArray.empty 0 5) (by simp [textOut, results, Tryz.results67, go_sem, hc]; rfl) rfl ⟨ret_val HV.out.symm, (((below_box hbel).setCell (Nat.le_refl _) _).setCell (Nat.le_refl _) _).setCell (Nat.le_refl _) _⟩
    · have HV : Hid (unsealB s = textOut (body s) 0 0) := HU.out.trans (if_pos (by unfold body; rw [hq]))
      clear HU
      go_wp2
      refine bodyPost_ret (v := textOut (body s) 0 0) (by simp [textOut, results, Tryz.results67, go_sem, hc]; rfl) rfl ⟨ret_val HV.out.symm, (((below_box hbel).setCell (Nat.le_refl _) _).setCell (Nat.le_refl _) _).setCell (Nat.le_refl _) _⟩
end Go.Proofs.YtkhffoailfnepabGreatDoor
/-
  What the specification's GetNum answers: 'getN' of the text and the place, in new memory.
  Conditions: the string fits the form's own reach; the place is an int64.
-/
namespace Go.Proofs.YtkhffoailfnepabGreatDoor
open Go.RowKit
set_option linter.unusedVariables false

set_option maxRecDepth 20000 in
set_option maxHeartbeats 2000000 in
theorem specGetNum_any (s : ByteArray) (at0 : Int) (w : World) (hs : s.size ≤ maxLen) (h1 : at0 ≤ 9223372036854775807) :
    Calls Tryz.prog 68 #[.string s, .int .i64 at0] w fun e w' => e = .returned (getV s at0) ∧ Below w.heap.size w w' := by
  unfold maxLen at hs
  by_cases hb : 8000 < s.size
  · have H : Hid (getV s at0 = numOut 0 0 2) := getV_size hb
    go_enter Tryz.func68, Tryz.ntmps68
    go_wp2
    go_returns
    exact ⟨ret_valN (H.out.trans rfl).symm, (Below.refl _ _).alloc (Nat.le_refl _) _⟩
  by_cases h0 : at0 < 0
  · have H : Hid (getV s at0 = numOut 0 0 1) := getV_form hb h0
    go_enter Tryz.func68, Tryz.ntmps68
    go_wp2
    go_returns
    exact ⟨ret_valN (H.out.trans rfl).symm, (Below.refl _ _).alloc (Nat.le_refl _) _⟩
  obtain ⟨a, ha⟩ : ∃ a : Nat, at0 = a := ⟨at0.toNat, by omega⟩
  subst ha
  have d1 : decide (8000 < (s.size : Int)) = false := by simp; omega
  have d2 : decide ((a : Int) < 0) = false := by simp
  have HB : Hid (¬ 8000 < s.size) := hb
  go_enter Tryz.func68, Tryz.ntmps68
  go_wp2
  go_loop [5, 6] (fun x i => ∃ (k : Nat) (u : Int), i = .int .i64 k ∧ x = .int .u64 u ∧ Hid (GetTo s a k u)) (fun _ i => 10 - (intOf i).toNat)
  case atStart => exact ⟨0, 0, rfl, rfl, getTo_start s a⟩
  case round =>
    obtain ⟨k, u, rfl, rfl, HT⟩ := hrel
    have hk : k ≤ 9 := HT.out.1
    have hu0 : 0 ≤ u := HT.out.2.1
    have hu1 : Hid (u < 2 ^ (7 * k)) := HT.out.2.2.1
    by_cases hl : s.size ≤ a + k
    · have H : Hid (getV s (a : Int) = numOut 0 0 4) := getV_bad HB.out (by decide) (getTo_short HT.out hl)
      go_wp2
      go_returns
      exact ⟨ret_valN (H.out.trans rfl).symm, (Below.refl _ _).alloc (Nat.le_refl _) _⟩
    have hak : a + k < s.size := by omega
    have hcb : (s[a + k].toNat : Int) ≤ 255 := by have := s[a + k].toNat_lt; omega
    by_cases hbig : k = 9 ∧ 1 < (s[a + k].toNat : Int)
    · have H : Hid (getV s (a : Int) = numOut 0 0 3) := getV_bad HB.out (by decide) (getTo_big HT.out hak hbig.1 hbig.2)
      have k9 : ((k : Int) == 9) = true := by simp; omega
      obtain ⟨e9, hc1⟩ := hbig
      clear e9
      go_wp2
      go_returns
      exact ⟨ret_valN (H.out.trans rfl).symm, (Below.refl _ _).alloc (Nat.le_refl _) _⟩
    by_cases hc : 128 ≤ (s[a + k].toNat : Int)
    · have hk8 : k ≤ 8 := by omega
      have k9 : ((k : Int) == 9) = false := by simp; omega
      have HM : Hid (GetTo s a (k + 1) (u + ((s[a + k].toNat : Int) - 128) * 2 ^ (7 * k))) := getTo_more HT.out hak hk8 hc
      have HA : Hid (IntKind.u64.wrap (u + IntKind.u64.wrap ((s[a + k].toNat : Int) % 128 * 2 ^ (7 * k))) = u + ((s[a + k].toNat : Int) - 128) * 2 ^ (7 * k)) := by
        show _ = _
        rw [spec_add hk hu0 hu1.out (by omega) (by omega) (by omega), show (s[a + k].toNat : Int) % 128 = (s[a + k].toNat : Int) - 128 by omega]
      clear hbig hb
      go_wp2
      go_round
      case rel => exact ⟨k + 1, _, by go_num, by rw [HA.out], HM⟩
      case measure => simp [intOf]; omega
    · have h9 : k = 9 → (s[a + k].toNat : Int) ≤ 1 := fun e => by omega
      obtain ⟨v, hv⟩ : ∃ v, v = u + (s[a + k].toNat : Int) * 2 ^ (7 * k) := ⟨_, rfl⟩
      have hvb := add_fits (x := (s[a + k].toNat : Int)) hk hu0 hu1.out (by omega) (by omega) h9
      have hA : IntKind.u64.wrap (u + IntKind.u64.wrap ((s[a + k].toNat : Int) % 128 * 2 ^ (7 * k))) = v := by
        rw [show (s[a + k].toNat : Int) % 128 = (s[a + k].toNat : Int) by omega, spec_add hk hu0 hu1.out (by omega) (by omega) h9, hv]
      have v0 : 0 ≤ v := by omega
      have v1 : v ≤ 18446744073709551615 := by omega
      have HV : Hid (v = u + (s[a + k].toNat : Int) * 2 ^ (7 * k)) := hv
      have H9 : Hid (k = 9 → (s[a + k].toNat : Int) ≤ 1) := h9
      clear hv hvb hbig hb h9
      by_cases hz : (s[a + k].toNat : Int) = 0 ∧ 0 < k
      · have H : Hid (getV s (a : Int) = numOut 0 0 3) := getV_bad HB.out (by decide) (getTo_zero HT.out hak hz.1 hz.2)
        have c0 : ((s[a + k].toNat : Int) == 0) = true := by simp; omega
        have hkp : 0 < k := hz.2
        have c1 : (s[a + k].toNat : Int) ≤ 0 := by omega
        clear hz
        cases k9 : ((k : Int) == 9)
        · go_wp2
          go_returns
          exact ⟨ret_valN (H.out.trans rfl).symm, (Below.refl _ _).alloc (Nat.le_refl _) _⟩
        · go_wp2
          go_returns
          exact ⟨ret_valN (H.out.trans rfl).symm, (Below.refl _ _).alloc (Nat.le_refl _) _⟩
      · have H : Hid (getV s (a : Int) = numOut (unfoldN v) ((a : Int) + (k : Int) + 1) 0) := by
          show _ = _
          rw [getV_ok HB.out (getTo_ok HT.out hak (by omega) H9.out (fun hp hc0 => hz ⟨hc0, hp⟩)), ← HV.out]
          congr 1
        have h9i : ((k : Int) == 9) = true → (s[a + k].toNat : Int) ≤ 1 := fun e => H9.out (by simp at e; omega)
        have hzi : ((s[a + k].toNat : Int) == 0) = true → (k : Int) ≤ 0 := fun e => by simp at e; omega
        have H9i : Hid (((k : Int) == 9) = true → (s[a + k].toNat : Int) ≤ 1) := h9i
        have Hzi : Hid (((s[a + k].toNat : Int) == 0) = true → (k : Int) ≤ 0) := hzi
        clear hz h9i hzi
        cases hp : (v % 2 == 1)
        · have HU : Hid (unfoldN v = v / 2) := if_neg (by simp at hp; omega)
          cases k9 : ((k : Int) == 9)
          · cases c0 : ((s[a + k].toNat : Int) == 0)
            · go_wp2
              go_returns
              exact ⟨ret_valN (by rw [H.out, HU.out]; rfl), (Below.refl _ _).alloc (Nat.le_refl _) _⟩
            · have hk0 := Hzi.out c0
              go_wp2
              go_returns
              exact ⟨ret_valN (by rw [H.out, HU.out]; rfl), (Below.refl _ _).alloc (Nat.le_refl _) _⟩
          · have hc1 := H9i.out k9
            cases c0 : ((s[a + k].toNat : Int) == 0)
            · go_wp2
              go_returns
              exact ⟨ret_valN (by rw [H.out, HU.out]; rfl), (Below.refl _ _).alloc (Nat.le_refl _) _⟩
            · have hk0 := Hzi.out c0
              exfalso
              simp at k9; omega
        · have HU : Hid (unfoldN v = -(v / 2) - 1) := if_pos (by simpa using hp)
          cases k9 : ((k : Int) == 9)
          · cases c0 : ((s[a + k].toNat : Int) == 0)
            · go_wp2
              go_returns
              exact ⟨ret_valN (by rw [H.out, HU.out]; rfl), (Below.refl _ _).alloc (Nat.le_refl _) _⟩
            · have hk0 := Hzi.out c0
              go_wp2
              go_returns
              exact ⟨ret_valN (by rw [H.out, HU.out]; rfl), (Below.refl _ _).alloc (Nat.le_refl _) _⟩
          · have hc1 := H9i.out k9
            cases c0 : ((s[a + k].toNat : Int) == 0)
            · go_wp2
              go_returns
              exact ⟨ret_valN (by rw [H.out, HU.out]; rfl), (Below.refl _ _).alloc (Nat.le_refl _) _⟩
            · have hk0 := Hzi.out c0
              exfalso
              simp at k9; omega
end Go.Proofs.YtkhffoailfnepabGreatDoor
