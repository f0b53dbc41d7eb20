/-
  Promise 7 as plain laws: what is written is read, and no other sector reads as another one; flushed, all reads as it did, and is there behind any crash; a crash leaves what was flushed, or something that was written since.
-/
import Derived.Test.YtnppgldafhpchaaDoorRows
import Derived.Test.YtnppgldafhpchaaDoorBytes
import Derived.Test.YtnppgldafhpchaaDoorSlASlBOwnS
import Derived.Test.YtnppgldafhpchaaDoorDskMath
import Derived.Test.YtnppgldafhpchaaDoorDskT
import Derived.Test.YtnppgldafhpchaaDoorDskWDskFIntKDskK
namespace Go.Proofs.YtnppgldafhpchaaDoor
open Go.RowKit Go.Lib
set_option linter.unusedVariables false

theorem secAt_set (ss : List ByteArray) (a i : Nat) (D : ByteArray) (ha : a < ss.length) : secAt (ss.set a D) (i : Int) = if a = i then D else secAt ss (i : Int) := by
  unfold secAt
  rw [Int.toNat_natCast, List.getD_eq_getElem?_getD, List.getD_eq_getElem?_getD, List.getElem?_set]
  by_cases h : a = i
  · subst h; simp [ha]
  · simp [h]
/-- Flushed, all reads as it did. -/
theorem flush_read (ps : List Pnd) : ∀ (ss : List ByteArray) (i : Nat), (∀ p ∈ ps, pndOk ss.length p) → secAt (flushB ss ps) (i : Int) = readTo (i : Int) (secAt ss (i : Int)) ps := by
  induction ps with
  | nil => intro ss i _; rfl
  | cons p ps ih =>
    intro ss i h
    obtain ⟨⟨h1, h2⟩, h3⟩ := h p (by simp)
    obtain ⟨a, ha⟩ := Int.eq_ofNat_of_zero_le h1
    show secAt (flushB (ss.set p.1.toNat p.2) ps) (i : Int) = readTo (i : Int) (if p.1 = (i : Int) then p.2 else secAt ss (i : Int)) ps
    rw [ih (ss.set p.1.toNat p.2) i (fun q hq => by rw [List.length_set]; exact h q (by simp [hq]))]
    congr 1
    rw [ha, Int.toNat_natCast, secAt_set ss a i p.2 (by omega)]
    by_cases e : a = i
    · subst e; simp
    · rw [if_neg e, if_neg (by omega)]
theorem readTo_or (i : Int) (ps : List Pnd) : ∀ t : ByteArray, readTo i t ps = t ∨ ∃ p ∈ ps, p.1 = i ∧ p.2 = readTo i t ps := by
  induction ps with
  | nil => intro t; exact .inl rfl
  | cons p ps ih =>
    intro t
    show readTo i (if p.1 = i then p.2 else t) ps = t ∨ ∃ q ∈ p :: ps, q.1 = i ∧ q.2 = readTo i (if p.1 = i then p.2 else t) ps
    rcases ih (if p.1 = i then p.2 else t) with h | ⟨q, hq, h1, h2⟩
    · by_cases e : p.1 = i
      · exact .inr ⟨p, by simp, e, by rw [h, if_pos e]⟩
      · rw [if_neg e] at h ⊢; exact .inl h
    · exact .inr ⟨q, by simp [hq], h1, h2⟩
theorem kept_sub (keep : List Int) (ps : List Pnd) : ∀ i, ∀ p ∈ keptB keep i ps, p ∈ ps := by
  induction ps with
  | nil => intro i p hp; exact hp
  | cons q ps ih =>
    intro i p hp
    unfold keptB at hp
    split at hp
    · rcases List.mem_cons.1 hp with rfl | h
      · simp
      · exact List.mem_cons_of_mem _ (ih _ p h)
    · exact List.mem_cons_of_mem _ (ih _ p hp)
/-- A crash leaves of each sector what was flushed, or something that was written since. -/
theorem crash_some (ss : List ByteArray) (ps : List Pnd) (keep : List Int) (i : Nat) (h : ∀ p ∈ ps, pndOk ss.length p) : secAt (crashB ss ps keep) (i : Int) = secAt ss (i : Int) ∨ ∃ j, ∃ hj : j < ps.length, ps[j].1 = (i : Int) ∧ ps[j].2 = secAt (crashB ss ps keep) (i : Int) := by
  unfold crashB
  rw [flush_read _ ss i (fun p hp => h p (kept_sub keep ps 0 p hp))]
  rcases readTo_or (i : Int) (keptB keep 0 ps) (secAt ss (i : Int)) with e | ⟨p, hp, h1, h2⟩
  · exact .inl e
  · obtain ⟨j, hj, e⟩ := List.getElem_of_mem (kept_sub keep ps 0 p hp)
    exact .inr ⟨j, hj, by rw [e]; exact h1, by rw [e]; exact h2⟩
theorem flushB_small (ps : List Pnd) : ∀ ss : List ByteArray, (∀ x ∈ ss, x.size ≤ 64) → (∀ p ∈ ps, p.2.size ≤ 64) → ∀ x ∈ flushB ss ps, x.size ≤ 64 := by
  induction ps with
  | nil => intro ss h _; exact h
  | cons p ps ih =>
    intro ss h1 h2
    refine ih (ss.set p.1.toNat p.2) (fun x hx => ?_) (fun q hq => h2 q (by simp [hq]))
    rcases List.mem_or_eq_of_mem_set hx with hx | rfl
    · exact h1 x hx
    · exact h2 p (by simp)
theorem flush_right {ss : List ByteArray} {ps : List Pnd} (h : dskB ss ps = true) : dskB (flushB ss ps) [] = true := by
  obtain ⟨h1, h2, h3, h4⟩ := dskB_parts h
  exact dskB_of (by rw [flushB_len]; exact h1) (by simp) (flushB_small ps ss h3 (fun p hp => (h4 p hp).2)) (fun p hp => by cases hp)
theorem wrC_ok {ss : List ByteArray} {ps : List Pnd} {at_ : Int} {data : ByteArray} (h : wrC ss ps at_ data = 0) : dskB ss ps = true ∧ data.size ≤ 64 ∧ (0 ≤ at_ ∧ at_ ≤ (ss.length : Int) - 1) ∧ ps.length < 200 := by
  unfold wrC at h
  split at h
  · omega
  · split at h
    · rename_i hd
      split at h
      · rename_i hi
        split at h
        · omega
        · unfold inB at hi
          rw [decide_eq_true_iff] at hi
          exact ⟨hd.1, hd.2, hi, by omega⟩
      · omega
    · omega
theorem write_right {ss : List ByteArray} {ps : List Pnd} {at_ : Int} {data : ByteArray} (h : wrC ss ps at_ data = 0) : dskB ss (ps ++ [(at_, data)]) = true := by
  obtain ⟨h0, h1, h2, h3⟩ := wrC_ok h
  obtain ⟨a1, a2, a3, a4⟩ := dskB_parts h0
  refine dskB_of a1 (by simp; omega) a3 (fun p hp => ?_)
  rcases List.mem_append.1 hp with hp | hp
  · exact a4 p hp
  · rw [List.mem_singleton.1 hp]; exact ⟨h2, h1⟩
theorem inB_of (ss : List ByteArray) (i : Nat) (hi : i < ss.length) : inB ss (i : Int) = true := decide_eq_true (by omega)
theorem rdT_of {ss : List ByteArray} {ps : List Pnd} (h : dskB ss ps = true) (i : Nat) (hi : i < ss.length) : rdT ss ps (i : Int) = readB ss ps (i : Int) := if_pos (by unfold rdC; rw [if_pos h, if_pos (inB_of ss i hi)])
/-- What is written is read, and no other sector reads as another one. -/
theorem write_read {ss : List ByteArray} {ps : List Pnd} {at_ : Int} {data : ByteArray} (h : wrC ss ps at_ data = 0) (i : Nat) (hi : i < ss.length) : rdT ss (ps ++ [(at_, data)]) (i : Int) = if (i : Int) = at_ then data else rdT ss ps (i : Int) := by
  rw [rdT_of (write_right h) i hi, rdT_of (wrC_ok h).1 i hi]
  unfold readB
  rw [readTo_append]
  show (if at_ = (i : Int) then data else _) = _
  by_cases e : (i : Int) = at_
  · rw [if_pos e, if_pos e.symm]
  · rw [if_neg e, if_neg (fun h => e h.symm)]
/-- Flushed, it is there, behind any crash. -/
theorem flush_there {ss : List ByteArray} {ps : List Pnd} (h : dskB ss ps = true) (i : Nat) (hi : i < ss.length) : rdT (flushB ss ps) [] (i : Int) = rdT ss ps (i : Int) := by
  rw [rdT_of (flush_right h) i (by rw [flushB_len]; exact hi), rdT_of h i hi]
  exact flush_read ps ss i (dskB_parts h).2.2.2
theorem crash_flushed {ss : List ByteArray} (h : dskB ss [] = true) (keep : List Int) (hk : keep.length ≤ 400) : crS ss [] keep = ss ∧ crP ss [] keep = [] := by
  have hn : ¬ 400 < keep.length := by omega
  exact ⟨(if_neg hn).trans (if_pos h), (if_neg hn).trans (if_pos h)⟩
theorem crash_of {ss : List ByteArray} {ps : List Pnd} (h : dskB ss ps = true) (keep : List Int) (hk : keep.length ≤ 400) : crS ss ps keep = crashB ss ps keep ∧ crP ss ps keep = [] := by
  have hn : ¬ 400 < keep.length := by omega
  exact ⟨(if_neg hn).trans (if_pos h), (if_neg hn).trans (if_pos h)⟩
end Go.Proofs.YtnppgldafhpchaaDoor
