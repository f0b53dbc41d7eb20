/-
  Promises 8 and 9 as plain laws: a text that is put with all steps is read again; wherever the power goes, what is read is what there was, or that text.
-/
import Derived.Test.YtkhffoailfnepabGreatDoorStpMathAreaPutMUnsealSSpecGN
namespace Go.Proofs.YtkhffoailfnepabGreatDoor
open Go.RowKit Go.Lib
set_option linter.unusedVariables false

theorem need_le {z n : Nat} (h : z ≤ 64 * n) : needN z ≤ n := by unfold needN; omega
theorem ar_same {ss ss' : List ByteArray} {ps ps' : List Pnd} (hl : ss'.length = ss.length) (hr' : dskB ss' ps' = true) (h0 : readB ss' ps' 0 = readB ss ps 0) (hs : ∀ i, i < sideN ss.length → arRd ss' ps' (seS (readB ss ps 0) (roomN ss)) i = arRd ss ps (seS (readB ss ps 0) (roomN ss)) i) (h : arC ss ps = 0) :
    arC ss' ps' = 0 ∧ arT ss' ps' = arT ss ps ∧ arG ss' ps' = arG ss ps := by
  have hroom : roomN ss' = roomN ss := by unfold roomN; rw [hl]
  obtain ⟨h1, h2, h3⟩ := arC_ok h
  have hz := (seC_ok h2).2.2.2
  have hc := sideB_congr (rd := arRd ss' ps' (seS (readB ss ps 0) (roomN ss))) (rd' := arRd ss ps (seS (readB ss ps 0) (roomN ss))) (seZ (readB ss ps 0) (roomN ss)) (needN (seZ (readB ss ps 0) (roomN ss))) (fun i hi => hs i (Nat.lt_of_lt_of_le hi (need_le hz)))
  have hC : arC ss' ps' = 0 := arC_of hr' (by rw [h0, hroom]; exact h2) (by rw [h0, hroom, hc.1]; exact h3)
  refine ⟨hC, ?_, ?_⟩
  · unfold arT; rw [if_pos hC, if_pos h, h0, hroom, hc.2]
  · unfold arG; rw [if_pos hC, if_pos h, h0, hroom]
theorem ar_new {ss : List ByteArray} {ps : List Pnd} (hr : dskB ss ps = true) {g s : Nat} {t : ByteArray} (hg : g ≤ 1000000) (hs : s ≤ 1) (hz : t.size ≤ roomN ss) (h0 : readB ss ps 0 = headB (g : Int) (s : Int) (t.size : Int)) (hp : ∀ i, i < needN t.size → arRd ss ps s i = pieceB t i) :
    arC ss ps = 0 ∧ arT ss ps = t ∧ arG ss ps = g := by
  obtain ⟨⟨p1, p2⟩, -⟩ := dskB_parts hr
  have hrm : roomN ss ≤ 1000000 := by unfold roomN sideN; omega
  obtain ⟨e1, e2, e3, e4⟩ := se_head g s t.size (roomN ss) (by omega) hs hz hrm
  obtain ⟨q1, q2⟩ := sideB_pieces (arRd ss ps s) t (needN t.size) hp
  have hC : arC ss ps = 0 := arC_of hr (by rw [h0]; exact e1) (by rw [h0, e3, e4]; exact q1)
  refine ⟨hC, ?_, ?_⟩
  · unfold arT; rw [if_pos hC, h0, e3, e4, q2]
    have : min t.size (64 * needN t.size) = t.size := by unfold needN; omega
    rw [this]; simp
  · unfold arG; rw [if_pos hC, h0, e2]
theorem readTo_asP (a first n : Nat) (t t0 : ByteArray) : readTo (a : Int) t0 (asP first t n) = if first ≤ a ∧ a < first + n then pieceB t (a - first) else t0 := by
  induction n with
  | zero => rw [if_neg (by omega)]; rfl
  | succ n ih =>
    rw [asP_succ, readTo_append, ih]
    show (if ((first + n : Nat) : Int) = (a : Int) then pieceB t n else _) = _
    by_cases h : first + n = a
    · rw [if_pos (by omega), if_pos (by omega)]; congr 1; omega
    · rw [if_neg (by omega)]
      by_cases h2 : first ≤ a ∧ a < first + n
      · rw [if_pos h2, if_pos (by omega)]
      · rw [if_neg h2, if_neg (by omega)]
theorem readB_nil (ss : List ByteArray) (i : Nat) : readB ss [] (i : Int) = secAt ss (i : Int) := rfl
theorem asP_at {first n : Nat} {t : ByteArray} {p : Pnd} (h : p ∈ asP first t n) : ∃ k, k < n ∧ p.1 = ((first + k : Nat) : Int) := by
  unfold asP at h
  obtain ⟨k, hk, rfl⟩ := List.mem_map.1 h
  exact ⟨k, List.mem_range.1 hk, rfl⟩
/-- The two sides, and the head, lie apart. -/
theorem sides_apart {h s i k : Nat} (hs : s ≤ 1) (hi : i < h) (hk : k < h) : 1 + s * h + i ≠ 1 + (1 - s) * h + k := by
  rcases Nat.le_one_iff_eq_zero_or_eq_one.1 hs with rfl | rfl
  · simp; omega
  · simp; omega
/-- Behind a crash all that was there, but for the other side, is there. -/
theorem crash_off {ss : List ByteArray} {first n : Nat} {t : ByteArray} (keep : List Int) (hr : dskB ss (asP first t n) = true) (i : Nat) (hi : i < first ∨ first + n ≤ i) : secAt (crashB ss (asP first t n) keep) (i : Int) = secAt ss (i : Int) := by
  rcases crash_some ss (asP first t n) keep i (dskB_parts hr).2.2.2 with h | ⟨j, hj, h1, -⟩
  · exact h
  · obtain ⟨k, hk, e⟩ := asP_at (List.getElem_mem hj)
    rw [h1] at e; omega
theorem flush_off {ss : List ByteArray} {ps : List Pnd} {first n : Nat} {t : ByteArray} (hr : dskB ss (ps ++ asP first t n) = true) (i : Nat) : secAt (flushB ss (ps ++ asP first t n)) (i : Int) = if first ≤ i ∧ i < first + n then pieceB t (i - first) else readB ss ps (i : Int) := by
  rw [flush_read _ ss i (dskB_parts hr).2.2.2, readTo_append, readTo_asP]; rfl
theorem flush_head {ss : List ByteArray} {H : ByteArray} (hr : dskB ss [(0, H)] = true) (i : Nat) : secAt (flushB ss [(0, H)]) (i : Int) = if i = 0 then H else secAt ss (i : Int) := by
  rw [flush_read _ ss i (dskB_parts hr).2.2.2]
  show (if (0 : Int) = (i : Int) then H else secAt ss (i : Int)) = _
  by_cases h : i = 0
  · rw [if_pos (by omega), if_pos h]
  · rw [if_neg (by omega), if_neg h]
theorem crash_right {ss : List ByteArray} {ps : List Pnd} (keep : List Int) (hr : dskB ss ps = true) : dskB (crashB ss ps keep) [] = true := by
  obtain ⟨h1, h2, h3, h4⟩ := dskB_parts hr
  unfold crashB
  exact dskB_of (by rw [flushB_len]; exact h1) (by simp) (flushB_small _ ss h3 (fun p hp => (h4 p (kept_sub keep ps 0 p hp)).2)) (fun p hp => by cases hp)
theorem arRd_nil (ss : List ByteArray) (s i : Nat) : arRd ss [] s i = secAt ss ((1 + s * sideN ss.length + i : Nat) : Int) := rfl
theorem side_s {ss : List ByteArray} {ps : List Pnd} (h : arC ss ps = 0) : seS (readB ss ps 0) (roomN ss) ≤ 1 := (seC_ok (arC_ok h).2.1).2.2.1
/-- What is done with all steps is read again. -/
theorem put_done {ss : List ByteArray} {ps : List Pnd} {t : ByteArray} (hA : arC ss ps = 0) (hz : t.size ≤ roomN ss) (hg : arG ss ps < 1000000)
    (hr3 : dskB (flushB ss (ps ++ asP (1 + otherN ss ps * sideN ss.length) t (needN t.size))) [(0, headB ((arG ss ps + 1 : Nat) : Int) (otherN ss ps : Int) (t.size : Int))] = true)
    (hr2 : dskB ss (ps ++ asP (1 + otherN ss ps * sideN ss.length) t (needN t.size)) = true) :
    arC (flushB (flushB ss (ps ++ asP (1 + otherN ss ps * sideN ss.length) t (needN t.size))) [(0, headB ((arG ss ps + 1 : Nat) : Int) (otherN ss ps : Int) (t.size : Int))]) [] = 0 ∧
    arT (flushB (flushB ss (ps ++ asP (1 + otherN ss ps * sideN ss.length) t (needN t.size))) [(0, headB ((arG ss ps + 1 : Nat) : Int) (otherN ss ps : Int) (t.size : Int))]) [] = t ∧
    arG (flushB (flushB ss (ps ++ asP (1 + otherN ss ps * sideN ss.length) t (needN t.size))) [(0, headB ((arG ss ps + 1 : Nat) : Int) (otherN ss ps : Int) (t.size : Int))]) [] = arG ss ps + 1 := by
  have ho : otherN ss ps ≤ 1 := by unfold otherN; omega
  have hl : (flushB (flushB ss (ps ++ asP (1 + otherN ss ps * sideN ss.length) t (needN t.size))) [(0, headB ((arG ss ps + 1 : Nat) : Int) (otherN ss ps : Int) (t.size : Int))]).length = ss.length := by rw [flushB_len, flushB_len]
  refine ar_new (flush_right hr3) (by omega) ho (by unfold roomN; rw [hl]; exact hz) ?_ ?_
  · have := flush_head hr3 0
    rw [if_pos rfl] at this
    exact this
  · intro i hi
    rw [arRd_nil, hl, flush_head hr3, if_neg (by omega), flush_off hr2, if_pos (by omega)]
    congr 1; omega
theorem put_all {ss : List ByteArray} {ps : List Pnd} {t : ByteArray} {k : Int} (hk : needN t.size + 3 ≤ k.toNat) (h : puC ss ps t k = 0) :
    arC (puS ss ps t k) (puP ss ps t k) = 0 ∧ arT (puS ss ps t k) (puP ss ps t k) = t ∧ arG (puS ss ps t k) (puP ss ps t k) = arG ss ps + 1 := by
  obtain ⟨h1, h2, h3, h4, h5, h6⟩ := puC_ok h
  unfold puS puP
  rw [if_pos h6, if_pos h6]
  have hr := (arC_ok h2).1
  have hp := put_at (1 + otherN ss ps * sideN ss.length) t (arG ss ps) (otherN ss ps) k.toNat hr h5
  rw [decide_eq_true hk] at hp
  unfold puL
  generalize doS ss ps ((putL (1 + otherN ss ps * sideN ss.length) t (arG ss ps) (otherN ss ps)).take k.toNat) = S at hp ⊢
  generalize doP ss ps ((putL (1 + otherN ss ps * sideN ss.length) t (arG ss ps) (otherN ss ps)).take k.toNat) = P at hp ⊢
  cases hp with
  | done hr2 hr3 => exact put_done h2 h3 h4 hr3 hr2
theorem same_off {ss D : List ByteArray} (hA : arC ss [] = 0) (hl : D.length = ss.length) (hr : dskB D [] = true) (hoff : ∀ i : Nat, i < 1 + otherN ss [] * sideN ss.length ∨ 1 + otherN ss [] * sideN ss.length + sideN ss.length ≤ i → secAt D (i : Int) = secAt ss (i : Int)) :
    arC D [] = 0 ∧ arT D [] = arT ss [] ∧ arG D [] = arG ss [] := by
  have hs := side_s hA
  refine ar_same hl hr (hoff 0 (by omega)) (fun i hi => ?_) hA
  rw [arRd_nil, arRd_nil, hl]
  refine hoff _ ?_
  unfold otherN
  rcases Nat.le_one_iff_eq_zero_or_eq_one.1 hs with e | e
  · rw [e]; simp; omega
  · rw [e]; simp
/-- Wherever the power goes. -/
theorem put_torn {ss : List ByteArray} {t : ByteArray} {k : Int} (keep : List Int) (hkp : keep.length ≤ 400) (h : puC ss [] t k = 0) :
    crP (puS ss [] t k) (puP ss [] t k) keep = [] ∧ arC (crS (puS ss [] t k) (puP ss [] t k) keep) [] = 0 ∧
    ((arT (crS (puS ss [] t k) (puP ss [] t k) keep) [] = arT ss [] ∧ arG (crS (puS ss [] t k) (puP ss [] t k) keep) [] = arG ss []) ∨
     (arT (crS (puS ss [] t k) (puP ss [] t k) keep) [] = t ∧ arG (crS (puS ss [] t k) (puP ss [] t k) keep) [] = arG ss [] + 1)) ∧
    (needN t.size + 3 ≤ k.toNat → arT (crS (puS ss [] t k) (puP ss [] t k) keep) [] = t) := by
  obtain ⟨h1, h2, h3, h4, h5, h6⟩ := puC_ok h
  have hr := (arC_ok h2).1
  have hRS : puS ss [] t k = doS ss [] ((puL ss [] t).take k.toNat) := if_pos h6
  have hRP : puP ss [] t k = doP ss [] ((puL ss [] t).take k.toNat) := if_pos h6
  have hright := do_right hr h5
  rw [← hRS, ← hRP] at hright
  obtain ⟨c1, c2⟩ := crash_of hright keep hkp
  rw [c1, c2]
  have hp := put_at (1 + otherN ss [] * sideN ss.length) t (arG ss []) (otherN ss []) k.toNat hr h5
  have e1 : doS ss [] ((putL (1 + otherN ss [] * sideN ss.length) t (arG ss []) (otherN ss [])).take k.toNat) = puS ss [] t k := hRS.symm
  have e2 : doP ss [] ((putL (1 + otherN ss [] * sideN ss.length) t (arG ss []) (otherN ss [])).take k.toNat) = puP ss [] t k := hRP.symm
  rw [e1, e2] at hp
  clear c1 c2 e1 e2 hRS hRP
  refine ⟨rfl, ?_⟩
  have hn := need_le (show t.size ≤ 64 * sideN ss.length from h3)
  have hkk : needN t.size + 3 ≤ k.toNat ↔ decide (needN t.size + 3 ≤ k.toNat) = true := by simp
  rw [hkk]
  generalize decide (needN t.size + 3 ≤ k.toNat) = full at hp ⊢
  generalize puS ss [] t k = S at hp hright ⊢
  generalize puP ss [] t k = P at hp hright ⊢
  cases hp with
  | some j hj hd =>
    rw [List.nil_append] at hd ⊢
    obtain ⟨a1, a2, a3⟩ := same_off h2 (crashB_len ss _ keep) (crash_right keep hd) (fun i hi => crash_off keep hd i (by omega))
    exact ⟨a1, .inl ⟨a2, a3⟩, fun hf => by cases hf⟩
  | flushed hd =>
    have hc : crashB (flushB ss ([] ++ asP (1 + otherN ss [] * sideN ss.length) t (needN t.size))) [] keep = flushB ss ([] ++ asP (1 + otherN ss [] * sideN ss.length) t (needN t.size)) := rfl
    rw [hc]
    obtain ⟨a1, a2, a3⟩ := same_off h2 (flushB_len _ _) (flush_right hd) (fun i hi => by rw [flush_off hd, if_neg (by omega)]; rfl)
    exact ⟨a1, .inl ⟨a2, a3⟩, fun hf => by cases hf⟩
  | headed hd hh =>
    by_cases hkp0 : 0 < keep.getD 0 0
    · have hc : ∀ F H, crashB F [(0, H)] keep = flushB F [(0, H)] := fun F H => by unfold crashB keptB; rw [if_pos hkp0]; rfl
      rw [hc]
      obtain ⟨a1, a2, a3⟩ := put_done h2 h3 h4 hh hd
      exact ⟨a1, .inr ⟨a2, a3⟩, fun _ => a2⟩
    · have hc : ∀ F H, crashB F [(0, H)] keep = F := fun F H => by unfold crashB keptB; rw [if_neg hkp0]; rfl
      rw [hc]
      obtain ⟨a1, a2, a3⟩ := same_off h2 (flushB_len _ _) (flush_right hd) (fun i hi => by rw [flush_off hd, if_neg (by omega)]; rfl)
      exact ⟨a1, .inl ⟨a2, a3⟩, fun hf => by cases hf⟩
  | done hd hh =>
    have hc : ∀ F, crashB F [] keep = F := fun F => rfl
    rw [hc]
    obtain ⟨a1, a2, a3⟩ := put_done h2 h3 h4 hh hd
    exact ⟨a1, .inr ⟨a2, a3⟩, fun _ => a2⟩
/-- A disk that was formatted has no text. -/
theorem ar_format {ss : List ByteArray} {ps : List Pnd} (hr3 : dskB ss (ps ++ [(0, headB 0 0 0)]) = true) : arC (flushB ss (ps ++ [(0, headB 0 0 0)])) [] = 0 ∧ arT (flushB ss (ps ++ [(0, headB 0 0 0)])) [] = ByteArray.empty ∧ arG (flushB ss (ps ++ [(0, headB 0 0 0)])) [] = 0 := by
  refine ar_new (g := 0) (s := 0) (t := ByteArray.empty) (flush_right hr3) (by omega) (by omega) (by simp) ?_ (fun i hi => by simp [needN] at hi)
  have := flush_read _ ss 0 (dskB_parts hr3).2.2.2
  rw [readTo_append] at this
  exact this
end Go.Proofs.YtkhffoailfnepabGreatDoor
