/-
  Parts of one proof, laid as one text: Takes, UnsealS; what each says stands at its head.
-/
import Derived.Test.YtnppgldafhpchaaDoorRows
import Derived.Test.YtnppgldafhpchaaDoorBytes
import Derived.Handy
import Derived.Deep.RegionHeld3
import Derived.Test.YtnppgldafhpchaaDoorCrc
import Derived.Test.YtnppgldafhpchaaDoorFourCrcMath
import Derived.Test.YtnppgldafhpchaaDoorJoined
import Derived.Deep.QuietTactic
import Derived.BigQuiet
import Derived.WalkSpells
import Derived.Deep.RegionWith
import Derived.Test.YtnppgldafhpchaaDoorSealUnsealI
/-
  One operation of a drawing region taken by hand: wanted or not, a call that stands alone.
-/
namespace Go.Proofs.YtnppgldafhpchaaDoor
open Go.RowKit Go.Lib
set_option linter.unusedVariables false

theorem take_at {P : Program} {md : Region.Mode} {ops : Array Oper} {Q : Exit → Act → World → Prop} {S : World → Prop} (i : Nat) {oi : Oper} {v : Value} {fuel : Nat} {listed : Array Bool} {a : Act} {w : World} (hi : ops.toList[i]? = some oi)
    (hs : Region.noSelect ops = true) (hf : Region.free md ops listed i = true) (hr : (Region.ready md ops listed).contains i = true)
    (hQ : ∀ c a w, Q (.panic c) (a.put oi.dst v) w → Q (.panic c) a w) (hS : S w) (hy : YieldsIf P ops S oi v a)
    (h : wpAnyH P md ops Q S fuel (listed.setIfInBounds i true) (a.put oi.dst v) w) : wpAnyH P md ops Q S (fuel + 1) listed a w :=
  wpAnyH_take (by rw [← hi]; simp) hs hf hr hQ hy hS h
theorem ready_at {P : Program} {md : Region.Mode} {ops : Array Oper} {Q : Exit → Act → World → Prop} {S : World → Prop} (i : Nat) {o : Oper} {fuel : Nat} {listed : Array Bool} {a : Act} {w : World} (hi : ops.toList[i]? = some o) (hr : Region.ready md ops listed = [i])
    (h : ∀ K' : Act → World → Prop, Shut (∀ a w, S w → (S w → wpAnyH P md ops Q S fuel (listed.setIfInBounds i true) a w) → K' a w) → if Region.wanted o (yielded ops a.tmps) = true then Oper.wp P o a w K' Q else K' (a.put o.dst undef) w) : wpAnyH P md ops Q S (fuel + 1) listed a w :=
  wpAnyH_ready hr (by simp) (AllReadyH.cons (by rw [← hi]; simp) h AllReadyH.nil)
end Go.Proofs.YtnppgldafhpchaaDoor
/-
  What the specification's Unseal answers (beside the program's half, UnsealI).
-/
namespace Go.Proofs.YtnppgldafhpchaaDoor
open Go.RowKit Go.Lib
set_option linter.unusedVariables false

set_option maxHeartbeats 1000000 in
theorem specUnseal_any (s : ByteArray) (w : World) (hs : s.size ≤ maxLen) :
    Calls Tryd.prog 34 #[.string s] w fun e w' => e = .returned (unsealB s) ∧ Below w.heap.size w w' := by
  have hs' := hs
  unfold maxLen at hs'
  by_cases h : 8000 < s.size
  · have H : Hid (unsealB s = textOut ByteArray.empty 0 2) := if_pos h
    go_enter Tryd.func34, Tryd.ntmps34
    go_wp2_with fail
    go_returns
    exact ⟨ret_val (H.out.trans rfl).symm, (Below.refl _ _).alloc (Nat.le_refl _) _⟩
  by_cases h4 : s.size < 4
  · have H : Hid (unsealB s = textOut ByteArray.empty 0 4) := by unfold unsealB; rw [if_neg h, if_pos h4]; rfl
    go_enter Tryd.func34, Tryd.ntmps34
    go_wp2_with fail
    go_returns
    exact ⟨ret_val (H.out.trans rfl).symm, (Below.refl _ _).alloc (Nat.le_refl _) _⟩
  · have HU : Hid (unsealB s = if ((four (crcV 0 (body s))).toList == (tail4 s).toList) = true then textOut (body s) 0 0 else textOut ByteArray.empty 0 5) := by unfold unsealB; rw [if_neg h, if_neg h4]; rfl
    have i4 : (4 : Int) ≤ (s.size : Int) := by omega
    have hb1 : (s.extract 0 (s.size - 4)).size ≤ maxLen := by unfold maxLen; simp; omega
    have hcb := crcV_bd 0 (s.extract 0 (s.size - 4))
    have hwr : IntKind.i64.wrap ((s.size : Int) - 4) = (s.size : Int) - 4 := by rw [IntKind.wrap_i64]; omega
    have hsl := tail_run s h4
    go_enter Tryd.func34, Tryd.ntmps34
    go_wp2_with fail
    go_region_with (first | (go_at_call 44; refine (specL01Crc_any _ _ _ hb1 (by omega) (by omega)).mono ?_; rintro e w1 ⟨rfl, hw⟩; subst hw) | (go_at_call 43; refine (specFour_any _ _ hcb.1 hcb.2).mono ?_; rintro e w2 ⟨rfl, hbel⟩))
    obtain ⟨hc, hf⟩ := bcell hbel
    have hz : w.heap.size + 1 ≤ w2.heap.size := by have := hbel.size; simp at this; omega
    cases hq : ((four (crcV 0 (s.extract 0 (s.size - 4)))).toList == (tail4 s).toList)
    · have HV : Hid (unsealB s = textOut ByteArray.empty 0 5) := HU.out.trans (if_neg (by unfold body; rw [hq]; simp))
      clear HU
      go_wp2
      refine bodyPost_ret (v := textOut ByteArray.empty 0 5) (by simp [textOut, results, Tryd.results34, go_sem, hc]; rfl) rfl ⟨ret_val HV.out.symm, (((below_box hbel).setCell (Nat.le_refl _) _).setCell (Nat.le_refl _) _).setCell (Nat.le_refl _) _⟩
    · have HV : Hid (unsealB s = textOut (body s) 0 0) := HU.out.trans (if_pos (by unfold body; rw [hq]))
      clear HU
      go_wp2
      refine bodyPost_ret (v := textOut (body s) 0 0) (by simp [textOut, results, Tryd.results34, go_sem, hc]; rfl) rfl ⟨ret_val HV.out.symm, (((below_box hbel).setCell (Nat.le_refl _) _).setCell (Nat.le_refl _) _).setCell (Nat.le_refl _) _⟩
end Go.Proofs.YtnppgldafhpchaaDoor
