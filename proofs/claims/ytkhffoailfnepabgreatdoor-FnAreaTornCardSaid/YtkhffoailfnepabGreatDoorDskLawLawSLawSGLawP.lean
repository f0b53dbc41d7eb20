/-
  Parts of one proof, laid as one text: DskLaw, LawS, LawSG, LawP; what each says stands at its head.
-/
import Derived.Test.YtkhffoailfnepabGreatDoorRows
import Derived.Test.YtkhffoailfnepabGreatDoorBytesDigMath
import Derived.Test.YtkhffoailfnepabGreatDoorSlASlBOwnSOwnBSrc
import Derived.Test.YtkhffoailfnepabGreatDoorDrawsDrawKitDskMath
import Derived.Test.YtkhffoailfnepabGreatDoorDskSDskCDskT
import Derived.Test.YtkhffoailfnepabGreatDoorDskW
import Derived.Test.YtkhffoailfnepabGreatDoorDskFDskK
import Derived.Test.YtkhffoailfnepabGreatDoorTreeMath
import Derived.Handy
import Derived.Deep.QuietTactic
import Derived.BigQuiet
import Derived.OwnWalk
import Derived.Test.YtkhffoailfnepabGreatDoorDskRAppSStepAppDskA
import Derived.WalkSpells
import Derived.Deep.RegionLaw
import Derived.Deep.RegionWith
/-
  Promise 7 as plain laws: what is written is read, and no other sector reads as another one; flushed, all reads as it did, and is there behind any crash; a crash leaves what was flushed, or something that was written since.
-/
namespace Go.Proofs.YtkhffoailfnepabGreatDoor
open Go.RowKit Go.Lib
set_option linter.unusedVariables false

theorem secAt_set (ss : List ByteArray) (a i : Nat) (D : ByteArray) (ha : a < ss.length) : secAt (ss.set a D) (i : Int) = if a = i then D else secAt ss (i : Int) := by
  unfold secAt
  rw [Int.toNat_natCast, List.getD_eq_getElem?_getD, List.getD_eq_getElem?_getD, List.getElem?_set]
  by_cases h : a = i
  · subst h; simp [ha]
  · simp [h]
/-- Flushed, all reads as it did. -/
theorem flush_read (ps : List Pnd) : ∀ (ss : List ByteArray) (i : Nat), (∀ p ∈ ps, pndOk ss.length p) → secAt (flushB ss ps) (i : Int) = readTo (i : Int) (secAt ss (i : Int)) ps := by
  induction ps with
  | nil => intro ss i _; rfl
  | cons p ps ih =>
    intro ss i h
    obtain ⟨⟨h1, h2⟩, h3⟩ := h p (by simp)
    obtain ⟨a, ha⟩ := Int.eq_ofNat_of_zero_le h1
    show secAt (flushB (ss.set p.1.toNat p.2) ps) (i : Int) = readTo (i : Int) (if p.1 = (i : Int) then p.2 else secAt ss (i : Int)) ps
    rw [ih (ss.set p.1.toNat p.2) i (fun q hq => by rw [List.length_set]; exact h q (by simp [hq]))]
    congr 1
    rw [ha, Int.toNat_natCast, secAt_set ss a i p.2 (by omega)]
    by_cases e : a = i
    · subst e; simp
    · rw [if_neg e, if_neg (by omega)]
theorem readTo_or (i : Int) (ps : List Pnd) : ∀ t : ByteArray, readTo i t ps = t ∨ ∃ p ∈ ps, p.1 = i ∧ p.2 = readTo i t ps := by
  induction ps with
  | nil => intro t; exact .inl rfl
  | cons p ps ih =>
    intro t
    show readTo i (if p.1 = i then p.2 else t) ps = t ∨ ∃ q ∈ p :: ps, q.1 = i ∧ q.2 = readTo i (if p.1 = i then p.2 else t) ps
    rcases ih (if p.1 = i then p.2 else t) with h | ⟨q, hq, h1, h2⟩
    · by_cases e : p.1 = i
      · exact .inr ⟨p, by simp, e, by rw [h, if_pos e]⟩
      · rw [if_neg e] at h ⊢; exact .inl h
    · exact .inr ⟨q, by simp [hq], h1, h2⟩
theorem kept_sub (keep : List Int) (ps : List Pnd) : ∀ i, ∀ p ∈ keptB keep i ps, p ∈ ps := by
  induction ps with
  | nil => intro i p hp; exact hp
  | cons q ps ih =>
    intro i p hp
    unfold keptB at hp
    split at hp
    · rcases List.mem_cons.1 hp with rfl | h
      · simp
      · exact List.mem_cons_of_mem _ (ih _ p h)
    · exact List.mem_cons_of_mem _ (ih _ p hp)
/-- A crash leaves of each sector what was flushed, or something that was written since. -/
theorem crash_some (ss : List ByteArray) (ps : List Pnd) (keep : List Int) (i : Nat) (h : ∀ p ∈ ps, pndOk ss.length p) : secAt (crashB ss ps keep) (i : Int) = secAt ss (i : Int) ∨ ∃ j, ∃ hj : j < ps.length, ps[j].1 = (i : Int) ∧ ps[j].2 = secAt (crashB ss ps keep) (i : Int) := by
  unfold crashB
  rw [flush_read _ ss i (fun p hp => h p (kept_sub keep ps 0 p hp))]
  rcases readTo_or (i : Int) (keptB keep 0 ps) (secAt ss (i : Int)) with e | ⟨p, hp, h1, h2⟩
  · exact .inl e
  · obtain ⟨j, hj, e⟩ := List.getElem_of_mem (kept_sub keep ps 0 p hp)
    exact .inr ⟨j, hj, by rw [e]; exact h1, by rw [e]; exact h2⟩
theorem flushB_small (ps : List Pnd) : ∀ ss : List ByteArray, (∀ x ∈ ss, x.size ≤ 64) → (∀ p ∈ ps, p.2.size ≤ 64) → ∀ x ∈ flushB ss ps, x.size ≤ 64 := by
  induction ps with
  | nil => intro ss h _; exact h
  | cons p ps ih =>
    intro ss h1 h2
    refine ih (ss.set p.1.toNat p.2) (fun x hx => ?_) (fun q hq => h2 q (by simp [hq]))
    rcases List.mem_or_eq_of_mem_set hx with hx | rfl
    · exact h1 x hx
    · exact h2 p (by simp)
theorem flush_right {ss : List ByteArray} {ps : List Pnd} (h : dskB ss ps = true) : dskB (flushB ss ps) [] = true := by
  obtain ⟨h1, h2, h3, h4⟩ := dskB_parts h
  exact dskB_of (by rw [flushB_len]; exact h1) (by simp) (flushB_small ps ss h3 (fun p hp => (h4 p hp).2)) (fun p hp => by cases hp)
theorem wrC_ok {ss : List ByteArray} {ps : List Pnd} {at_ : Int} {data : ByteArray} (h : wrC ss ps at_ data = 0) : dskB ss ps = true ∧ data.size ≤ 64 ∧ (0 ≤ at_ ∧ at_ ≤ (ss.length : Int) - 1) ∧ ps.length < 200 := by
  unfold wrC at h
  split at h
  · omega
  · split at h
    · rename_i hd
      split at h
      · rename_i hi
        split at h
        · omega
        · unfold inB at hi
          rw [decide_eq_true_iff] at hi
          exact ⟨hd.1, hd.2, hi, by omega⟩
      · omega
    · omega
theorem write_right {ss : List ByteArray} {ps : List Pnd} {at_ : Int} {data : ByteArray} (h : wrC ss ps at_ data = 0) : dskB ss (ps ++ [(at_, data)]) = true := by
  obtain ⟨h0, h1, h2, h3⟩ := wrC_ok h
  obtain ⟨a1, a2, a3, a4⟩ := dskB_parts h0
  refine dskB_of a1 (by simp; omega) a3 (fun p hp => ?_)
  rcases List.mem_append.1 hp with hp | hp
  · exact a4 p hp
  · rw [List.mem_singleton.1 hp]; exact ⟨h2, h1⟩
theorem inB_of (ss : List ByteArray) (i : Nat) (hi : i < ss.length) : inB ss (i : Int) = true := decide_eq_true (by omega)
theorem rdT_of {ss : List ByteArray} {ps : List Pnd} (h : dskB ss ps = true) (i : Nat) (hi : i < ss.length) : rdT ss ps (i : Int) = readB ss ps (i : Int) := if_pos (by unfold rdC; rw [if_pos h, if_pos (inB_of ss i hi)])
/-- What is written is read, and no other sector reads as another one. -/
theorem write_read {ss : List ByteArray} {ps : List Pnd} {at_ : Int} {data : ByteArray} (h : wrC ss ps at_ data = 0) (i : Nat) (hi : i < ss.length) : rdT ss (ps ++ [(at_, data)]) (i : Int) = if (i : Int) = at_ then data else rdT ss ps (i : Int) := by
  rw [rdT_of (write_right h) i hi, rdT_of (wrC_ok h).1 i hi]
  unfold readB
  rw [readTo_append]
  show (if at_ = (i : Int) then data else _) = _
  by_cases e : (i : Int) = at_
  · rw [if_pos e, if_pos e.symm]
  · rw [if_neg e, if_neg (fun h => e h.symm)]
/-- Flushed, it is there, behind any crash. -/
theorem flush_there {ss : List ByteArray} {ps : List Pnd} (h : dskB ss ps = true) (i : Nat) (hi : i < ss.length) : rdT (flushB ss ps) [] (i : Int) = rdT ss ps (i : Int) := by
  rw [rdT_of (flush_right h) i (by rw [flushB_len]; exact hi), rdT_of h i hi]
  exact flush_read ps ss i (dskB_parts h).2.2.2
theorem crash_flushed {ss : List ByteArray} (h : dskB ss [] = true) (keep : List Int) (hk : keep.length ≤ 400) : crS ss [] keep = ss ∧ crP ss [] keep = [] := by
  have hn : ¬ 400 < keep.length := by omega
  exact ⟨(if_neg hn).trans (if_pos h), (if_neg hn).trans (if_pos h)⟩
theorem crash_of {ss : List ByteArray} {ps : List Pnd} (h : dskB ss ps = true) (keep : List Int) (hk : keep.length ≤ 400) : crS ss ps keep = crashB ss ps keep ∧ crP ss ps keep = [] := by
  have hn : ¬ 400 < keep.length := by omega
  exact ⟨(if_neg hn).trans (if_pos h), (if_neg hn).trans (if_pos h)⟩
end Go.Proofs.YtkhffoailfnepabGreatDoor
/-
  What the laws' own helpers answer for slices of texts: szStringS (of few and small ones, a number that is not below 0, else -1), toStringS (a copy in new memory), eqStringS (are they alike).
  Conditions: the slices' cells hold those texts.
-/
namespace Go.Proofs.YtkhffoailfnepabGreatDoor
open Go.RowKit Go.Lib
set_option linter.unusedVariables false

def cutS (ss : List ByteArray) (k : Nat) : List ByteArray := ss.take k ++ List.replicate (ss.length - k) ByteArray.empty
theorem cutS_len (ss : List ByteArray) (k : Nat) (h : k ≤ ss.length) : (cutS ss k).length = ss.length := by simp [cutS]; omega
theorem cutS_set (ss : List ByteArray) (k : Nat) (h : k < ss.length) : (cutS ss k).set k ss[k] = cutS ss (k + 1) := by
  unfold cutS
  rw [show ss.length - k = (ss.length - (k + 1)) + 1 by omega, List.replicate_succ]
  have hl : (ss.take k).length = k := by simp; omega
  rw [List.set_append_right _ _ (by omega), hl, Nat.sub_self, List.set_cons_zero, List.take_succ_eq_append_getElem h, List.append_assoc]; rfl

def SzEnd (r : Int) (ss : List ByteArray) : Prop := r = -1 ∨ (0 ≤ r ∧ ss.length ≤ 1048576 ∧ ∀ x ∈ ss, x.size ≤ 1048576)
end Go.Proofs.YtkhffoailfnepabGreatDoor
/-
  szStringS from any number on.
-/
namespace Go.Proofs.YtkhffoailfnepabGreatDoor
open Go.RowKit Go.Lib
set_option linter.unusedVariables false

def SzTo (r l0 : Int) (ss : List ByteArray) : Prop := r = -1 ∨ (0 ≤ r ∧ r ≤ l0 ∧ ss.length ≤ 1048576 ∧ ∀ x ∈ ss, x.size ≤ 1048576)
end Go.Proofs.YtkhffoailfnepabGreatDoor
/-
  What the laws' own helpers answer for slices of pendings: szPendingS, toPendingS (a copy in new memory), eqPendingS (of two that are alike).
  Conditions: the slices' cells hold the pendings.
-/
namespace Go.Proofs.YtkhffoailfnepabGreatDoor
open Go.RowKit Go.Lib
set_option linter.unusedVariables false
set_option maxRecDepth 20000

/-- A block that holds these pendings and no more. -/
def BlkP (w : World) (g : Nat) (l : List Pnd) : Prop := w.heap[g]? = some (.cells (pndRow l).toArray 76 (0, 0))
theorem BlkP.lt {w : World} {g : Nat} {l : List Pnd} (h : BlkP w g l) : g < w.heap.size := lt_of_block h
theorem BlkP.below {w w' : World} {g : Nat} {l : List Pnd} (h : BlkP w g l) {B : Nat} (hb : Below B w w') (hg : g < B) : BlkP w' g l := (hb.block g hg).trans h
theorem BlkP.cell {w : World} {g : Nat} {l : List Pnd} (h : BlkP w g l) (i : Nat) (hi : i < l.length) : w.cell? ⟨g, i * 2, none⟩ = some (.int .i64 l[i].1) ∧ w.cell? ⟨g, i * 2 + 1, none⟩ = some (.string l[i].2) ∧ (∀ j, w.frozen? ⟨g, j, none⟩ = false) := by
  unfold BlkP at h
  have hr := pndRow_at l i hi
  refine ⟨?_, ?_, fun j => ?_⟩
  · simp [World.cell?, h, hr.1]
  · simp [World.cell?, h, hr.2]
  · simp [World.frozen?, h]
theorem BlkP.pnd {w : World} {g : Nat} {l : List Pnd} (h : BlkP w g l) : PndAt w (some ⟨g, 0, none⟩) l := fun i hi => ⟨g, 0, rfl, h.lt, by rw [Nat.zero_add]; exact ⟨(h.cell i hi).1, (h.cell i hi).2.1⟩⟩
theorem BlkP.setOther {w : World} {g : Nat} {l : List Pnd} (h : BlkP w g l) (g' k : Nat) (hne : g' ≠ g) (v : Value) : BlkP (w.setCell ⟨g', k, none⟩ v) g l := by
  unfold BlkP at h ⊢
  have : (w.setCell ⟨g', k, none⟩ v).heap[g]? = w.heap[g]? := by simp [World.setCell, Array.getElem?_modify, hne]
  rw [this, h]
theorem BlkP.own {w : World} {g : Nat} {l : List Pnd} (h : BlkP w g l) (base : Nat) (hb : base ≤ g) (hm : l.length ≤ maxLen) : w.ownsRow base 76 2 (.slice (some ⟨g, 0, none⟩) l.length l.length) l.length (pndRow l) :=
  ⟨pndRow_len l, .inr ⟨g, l.length, (pndRow l).toArray, rfl, hb, h, Nat.le_refl _, hm, by rw [List.size_toArray, pndRow_len], List.take_of_length_le (by rw [pndRow_len]; exact Nat.le_refl _)⟩⟩
theorem pndRow_set (l : List Pnd) : ∀ (k : Nat) (p : Pnd), ((pndRow l).set (k * 2) (.int .i64 p.1)).set (k * 2 + 1) (.string p.2) = pndRow (l.set k p) ∨ ¬ k < l.length := by
  induction l with
  | nil => intro k p; exact .inr (by simp)
  | cons q l ih =>
    intro k p
    match k with
    | 0 => exact .inl rfl
    | k + 1 =>
      rcases ih k p with h | h
      · left
        have e : pndRow (q :: l) = .int .i64 q.1 :: .string q.2 :: pndRow l := rfl
        rw [e, show (k + 1) * 2 = k * 2 + 2 by omega, List.set_cons_succ, List.set_cons_succ, List.set_cons_succ, List.set_cons_succ, h]
        rfl
      · exact .inr (by simpa using h)
theorem BlkP.set {w : World} {g : Nat} {l : List Pnd} (h : BlkP w g l) (k : Nat) (hk : k < l.length) (a : Int) (D : ByteArray) : BlkP ((w.setCell ⟨g, k * 2, none⟩ (.int .i64 a)).setCell ⟨g, k * 2 + 1, none⟩ (.string D)) g (l.set k (a, D)) := by
  rcases pndRow_set l k (a, D) with e | e
  · unfold BlkP at h ⊢
    rw [← e]
    simp [World.setCell, Array.getElem?_modify, h]
  · exact absurd hk e
def cutP (ps : List Pnd) (k : Nat) : List Pnd := ps.take k ++ List.replicate (ps.length - k) (0, ByteArray.empty)
theorem cutP_len (ps : List Pnd) (k : Nat) (h : k ≤ ps.length) : (cutP ps k).length = ps.length := by simp [cutP]; omega
theorem cutP_set (ps : List Pnd) (k : Nat) (h : k < ps.length) : (cutP ps k).set k ps[k] = cutP ps (k + 1) := by
  unfold cutP
  rw [show ps.length - k = (ps.length - (k + 1)) + 1 by omega, List.replicate_succ]
  have hl : (ps.take k).length = k := by simp; omega
  rw [List.set_append_right _ _ (by omega), hl, Nat.sub_self, List.set_cons_zero, List.take_succ_eq_append_getElem h, List.append_assoc]; rfl
theorem made_pnd (n : Nat) : madeCells #[.int .i64 0, .string ByteArray.empty] (n * 2) = (pndRow (List.replicate n (0, ByteArray.empty))).toArray := by
  unfold madeCells
  apply Array.ext
  · simp [pndRow_len]
  · intro i h1 h2
    have hi : i < n * 2 := by simpa using h1
    have hr := pndRow_at (List.replicate n ((0 : Int), ByteArray.empty)) (i / 2) (by simp; omega)
    rcases Nat.mod_two_eq_zero_or_one i with h | h
    · have e : i / 2 * 2 = i := by omega
      rw [e] at hr
      have := hr.1
      rw [List.getElem?_eq_getElem (by simpa using h2)] at this
      simp [h] at this ⊢
      exact this.symm
    · have e : i / 2 * 2 + 1 = i := by omega
      rw [e] at hr
      have := hr.2
      rw [List.getElem?_eq_getElem (by simpa using h2)] at this
      simp [h] at this ⊢
      exact this.symm
theorem run_make_pnd (n : Nat) (hn : n ≤ 1048576) (w : World) :
    (Instr.makeSlice 24 (.int .i64 (n : Int)) (.int .i64 (n : Int))).run Tryz.prog w = .ok (.slice (some ⟨w.heap.size, 0, none⟩) n n) (w.alloc (.cells (pndRow (List.replicate n (0, ByteArray.empty))).toArray 76)) := by
  obtain ⟨i0, hi, hz0, hz1, hz2⟩ := info_parts infoPnd
  have := run_make (P := Tryz.prog) w 24 76 i0 _ Tryz.underlying24 hi hz0 .i64 .i64 (n : Int) (n : Int) (by omega) (by omega) (by rw [hz2]; omega) (by omega)
  rw [this, hz1]
  simp only [Int.toNat_natCast]
  rw [← made_pnd]; rfl

def SzPn (r l0 : Int) (ps : List Pnd) : Prop := r = -1 ∨ (0 ≤ r ∧ r ≤ l0 ∧ ps.length ≤ 1048576 ∧ ∀ p ∈ ps, p.2.size ≤ 1048576)
end Go.Proofs.YtkhffoailfnepabGreatDoor
