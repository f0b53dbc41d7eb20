/-
  Parts of one proof, laid as one text: Seal, UnsealI; what each says stands at its head.
-/
import Derived.Test.YtnppgldafhpchaaDoorRows
import Derived.Test.YtnppgldafhpchaaDoorBytes
import Derived.Test.YtnppgldafhpchaaDoorCrc
import Derived.Test.YtnppgldafhpchaaDoorFourCrcMath
import Derived.Test.YtnppgldafhpchaaDoorJoined
import Derived.Handy
import Derived.Deep.QuietTactic
import Derived.BigQuiet
import Derived.WalkSpells
import Derived.Deep.RegionWith
/-
  What Seal answers, in the program and in the specification: the text with its four bytes behind it, or the empty text.
  Conditions: the string fits the form's own reach.
-/
namespace Go.Proofs.YtnppgldafhpchaaDoor
open Go.RowKit Go.Lib
set_option linter.unusedVariables false

def sealB (s : ByteArray) : ByteArray := if 7996 < s.size then ByteArray.empty else s ++ four (crcV 0 s)

set_option maxHeartbeats 1000000 in
theorem specSeal_any (s : ByteArray) (w : World) (hs : s.size ≤ maxLen) :
    Calls Tryd.prog 45 #[.string s] w fun e w' => e = .returned (.string (sealB s)) ∧ Below w.heap.size w w' := by
  have hs' := hs
  unfold maxLen at hs'
  by_cases h : 7996 < s.size
  · have H : Hid (sealB s = ByteArray.empty) := if_pos h
    go_enter Tryd.func45, Tryd.ntmps45
    go_wp2_with fail
    go_ret
    exact ⟨ret_str (H.out.trans rfl).symm, Below.refl _ _⟩
  · have H : Hid (sealB s = s ++ four (crcV 0 s)) := if_neg h
    have hb := crcV_bd 0 s
    have h4 := four_size (crcV 0 s)
    go_enter Tryd.func45, Tryd.ntmps45
    go_wp2_with (first | (go_at_call 44; refine (specL01Crc_any _ _ _ hs (by omega) (by omega)).mono ?_; rintro e w' ⟨rfl, rfl⟩) | (go_at_call 43; refine (specFour_any _ _ (by omega) (by omega)).mono ?_; rintro e w' ⟨rfl, hbel⟩))
    go_ret
    exact ⟨ret_str (by rw [H.out]), hbel⟩

end Go.Proofs.YtnppgldafhpchaaDoor
/-
  What Unseal answers, in the program and in the specification.
  Conditions: the string fits the form's own reach.
-/
namespace Go.Proofs.YtnppgldafhpchaaDoor
open Go.RowKit Go.Lib
set_option linter.unusedVariables false

def textOut (t : ByteArray) (a c : Int) : Value := .agg #[.string t, .int .i64 a, .int .i64 c]
def body (s : ByteArray) : ByteArray := s.extract 0 (s.size - 4)
def tail4 (s : ByteArray) : ByteArray := s.extract (s.size - 4) s.size
theorem tail_run (s : ByteArray) (h4 : ¬ s.size < 4) (wx : World) :
    (Instr.slice 9 (.string s) (some (.int .i64 ((s.size : Int) - 4))) none none).run Tryd.prog wx = .ok (.string (tail4 s)) wx := by
  have := run_slice_string_from_if (P := Tryd.prog) wx 9 s .i64 ((s.size : Int) - 4) Tryd.underlying9
  rw [if_pos (by omega)] at this
  rw [this, show ((s.size : Int) - 4).toNat = s.size - 4 by omega]; rfl
theorem ret_val {a b : Value} (h : a = b) : Ending.returned a = .returned b := by rw [h]
def unsealB (s : ByteArray) : Value :=
  if 8000 < s.size then textOut ByteArray.empty 0 2 else if s.size < 4 then textOut ByteArray.empty 0 4 else
  if ((four (crcV 0 (body s))).toList == (tail4 s).toList) = true then textOut (body s) 0 0 else textOut ByteArray.empty 0 5

theorem unsealB_form (s : ByteArray) : ∃ t a c, unsealB s = .agg #[.string t, .int .i64 a, .int .i64 c] := by
  unfold unsealB; split
  · exact ⟨_, _, _, rfl⟩
  · split
    · exact ⟨_, _, _, rfl⟩
    · split
      · exact ⟨_, _, _, rfl⟩
      · exact ⟨_, _, _, rfl⟩

theorem below_box {w w2 : World} {o : Obj} (h : Below (w.alloc o).drew.heap.size (w.alloc o).drew w2) : Below w.heap.size w w2 :=
  ((Below.refl _ _).alloc (Nat.le_refl _) o).drew.trans (h.mono (by simp))

theorem head_run (s : ByteArray) (h4 : ¬ s.size < 4) (wx : World) :
    (Instr.slice 9 (.string s) none (some (.int .i64 ((s.size : Int) - 4))) none).run Tryd.prog wx = .ok (.string (body s)) wx := by
  have := run_slice_string_to_if (P := Tryd.prog) wx 9 s .i64 ((s.size : Int) - 4) Tryd.underlying9
  rw [if_pos (by omega)] at this
  rw [this, show ((s.size : Int) - 4).toNat = s.size - 4 by omega]; rfl

set_option maxHeartbeats 1000000 in
theorem implUnseal_any (s : ByteArray) (w : World) (hs : s.size ≤ maxLen) :
    Calls Tryd.prog 48 #[.string s] w fun e w' => e = .returned (unsealB s) ∧ Below w.heap.size w w' := by
  have hs' := hs
  unfold maxLen at hs'
  by_cases h : 8000 < s.size
  · have H : Hid (unsealB s = textOut ByteArray.empty 0 2) := if_pos h
    go_enter Tryd.func48, Tryd.ntmps48
    go_wp2_with fail
    go_returns
    exact ⟨ret_val (H.out.trans rfl).symm, (Below.refl _ _).alloc (Nat.le_refl _) _⟩
  by_cases h4 : s.size < 4
  · have H : Hid (unsealB s = textOut ByteArray.empty 0 4) := by unfold unsealB; rw [if_neg h, if_pos h4]; rfl
    go_enter Tryd.func48, Tryd.ntmps48
    go_wp2_with fail
    go_returns
    exact ⟨ret_val (H.out.trans rfl).symm, (Below.refl _ _).alloc (Nat.le_refl _) _⟩
  · have HU : Hid (unsealB s = if ((four (crcV 0 (body s))).toList == (tail4 s).toList) = true then textOut (body s) 0 0 else textOut ByteArray.empty 0 5) := by unfold unsealB; rw [if_neg h, if_neg h4]; rfl
    have i4 : (4 : Int) ≤ (s.size : Int) := by omega
    have hbs : (body s).size ≤ 8000 := by unfold body; simp; omega
    have hb1 : (body s).size ≤ maxLen := by unfold maxLen; omega
    have HB : Hid (crcB 0 (body s) = crcV 0 (body s)) := if_neg (by omega)
    have hwr : IntKind.i64.wrap ((s.size : Int) - 4) = (s.size : Int) - 4 := by rw [IntKind.wrap_i64]; omega
    have hsl := tail_run s h4
    have hsh := head_run s h4
    go_enter Tryd.func48, Tryd.ntmps48
    go_wp2_with fail
    go_region_with (go_at_call 52; refine (sumOf_any _ _ hb1).mono ?_; rintro e w2 ⟨rfl, hbel⟩)
    obtain ⟨hc, hf⟩ := bcell hbel
    have hz : w.heap.size + 1 ≤ w2.heap.size := by have := hbel.size; simp at this; omega
    cases hq : ((four (crcB 0 (body s))).toList == (tail4 s).toList)
    · have HV : Hid (unsealB s = textOut ByteArray.empty 0 5) := HU.out.trans (if_neg (by rw [← HB.out, hq]; simp))
      clear HU
      go_wp2_with fail
      refine bodyPost_ret (v := textOut ByteArray.empty 0 5) (by simp [textOut, results, Tryd.results48, go_sem, hc]; rfl) rfl ⟨ret_val HV.out.symm, (((below_box hbel).setCell (Nat.le_refl _) _).setCell (Nat.le_refl _) _).setCell (Nat.le_refl _) _⟩
    · have HV : Hid (unsealB s = textOut (body s) 0 0) := HU.out.trans (if_pos (by rw [← HB.out, hq]))
      clear HU
      go_wp2_with fail
      refine (joined_one _ _ (by omega)).mono ?_
      rintro e w3 ⟨rfl, hbel3⟩
      have hb3 := hbel.trans (hbel3.mono hbel.size)
      clear hc hf hbel hbel3 hz hsl hsh
      obtain ⟨hc, hf⟩ := bcell hb3
      have hz : w.heap.size + 1 ≤ w3.heap.size := by have := hb3.size; simp at this; omega
      go_wp2_with fail
      refine bodyPost_ret (v := textOut (body s) 0 0) (by simp [textOut, results, Tryd.results48, go_sem, hc]) rfl ⟨ret_val HV.out.symm, (((below_box hb3).setCell (Nat.le_refl _) _).setCell (Nat.le_refl _) _).setCell (Nat.le_refl _) _⟩
end Go.Proofs.YtnppgldafhpchaaDoor
