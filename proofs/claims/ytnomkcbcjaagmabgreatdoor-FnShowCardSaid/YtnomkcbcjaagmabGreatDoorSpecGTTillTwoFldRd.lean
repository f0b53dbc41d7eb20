/-
  Parts of one proof, laid as one text: SpecGT, TillTwo, FldRd; what each says stands at its head.
-/
import Derived.Test.YtnomkcbcjaagmabGreatDoorRows
import Derived.Test.YtnomkcbcjaagmabGreatDoorBytesDigMath
import Derived.Test.YtnomkcbcjaagmabGreatDoorScanMathGetValGetTxtSpecGN
import Derived.Handy
import Derived.WalkSpells
import Derived.Deep.RegionHeld3
import Derived.Test.YtnomkcbcjaagmabGreatDoorFldHStepAppTakesLOwnBTurn2
/-
  What the specification's GetText answers: 'getTV' of the text and the place, in new memory.
  Conditions: the string fits the form's own reach; the place is an int64.
-/
namespace Go.Proofs.YtnomkcbcjaagmabGreatDoor
open Go.RowKit Go.Extern.Stop Go.Stop Go.Extern
set_option linter.unusedVariables false

set_option maxHeartbeats 2000000 in
theorem specGetText_any (s : ByteArray) (at0 : Int) (w : World) (hs : s.size ≤ maxLen) (h1 : at0 ≤ 9223372036854775807) :
    Calls Tryz.prog 117 #[.string s, .int .i64 at0] w fun e w' => e = .returned (getTV s at0) ∧ Below w.heap.size w w' := by
  rcases getN_cases s at0 with ⟨n, b, hgn⟩ | ⟨c, hc, hgn⟩
  · obtain ⟨b0, b1, hs8, n0, n1⟩ := getN_ok hgn
    have HV : Hid (getV s at0 = .agg #[.int .i64 n, .int .i64 b, .int .i64 0]) := by show _ = _; unfold getV; rw [hgn]; rfl
    by_cases hn0 : n < 0
    · have H : Hid (getTV s at0 = txt ByteArray.empty 0 3) := getTV_syn hgn (.inl hn0)
      have d1 : decide (n < 0) = true := by simp; omega
      clear hgn
      go_enter Tryz.func117, Tryz.ntmps117
      go_wp2_with fail
      refine (specGetNum_any _ _ _ hs h1).mono ?_
      rintro e w1 ⟨rfl, hb1⟩
      rw [HV.out]
      have hh := held_box hb1
      have hf := held_free hb1
      have hz : w.heap.size + 1 ≤ w1.heap.size := by have := hb1.size; simp at this; omega
      go_wp2_with fail
      refine bodyPost_ret (v := txt ByteArray.empty 0 3) (by simp [txt, results, Tryz.results117, go_sem, hh]; rfl) rfl ⟨ret_valN H.out.symm, ?_⟩
      exact ((((((Below.refl _ _).alloc (Nat.le_refl _) _).trans (hb1.mono (by simp))).alloc (by omega) _).setCell (Nat.le_refl _) _).setCell (Nat.le_refl _) _).setCell (Nat.le_refl _) _
    have d1 : decide (n < 0) = false := by simp; omega
    by_cases hn1 : 8000 < n
    · have H : Hid (getTV s at0 = txt ByteArray.empty 0 3) := getTV_syn hgn (.inr hn1)
      have d2 : decide (8000 < n) = true := by simp; omega
      clear hgn
      go_enter Tryz.func117, Tryz.ntmps117
      go_wp2_with fail
      refine (specGetNum_any _ _ _ hs h1).mono ?_
      rintro e w1 ⟨rfl, hb1⟩
      rw [HV.out]
      have hh := held_box hb1
      have hf := held_free hb1
      have hz : w.heap.size + 1 ≤ w1.heap.size := by have := hb1.size; simp at this; omega
      go_wp2_with fail
      refine bodyPost_ret (v := txt ByteArray.empty 0 3) (by simp [txt, results, Tryz.results117, go_sem, hh]; rfl) rfl ⟨ret_valN H.out.symm, ?_⟩
      exact ((((((Below.refl _ _).alloc (Nat.le_refl _) _).trans (hb1.mono (by simp))).alloc (by omega) _).setCell (Nat.le_refl _) _).setCell (Nat.le_refl _) _).setCell (Nat.le_refl _) _
    have d2 : decide (8000 < n) = false := by simp; omega
    by_cases hl : (s.size : Int) < b + n
    · have H : Hid (getTV s at0 = txt ByteArray.empty 0 4) := getTV_short hgn (by omega) hl
      clear hgn
      go_enter Tryz.func117, Tryz.ntmps117
      go_wp2_with fail
      refine (specGetNum_any _ _ _ hs h1).mono ?_
      rintro e w1 ⟨rfl, hb1⟩
      rw [HV.out]
      have hh := held_box hb1
      have hf := held_free hb1
      have hz : w.heap.size + 1 ≤ w1.heap.size := by have := hb1.size; simp at this; omega
      go_wp2_with fail
      refine bodyPost_ret (v := txt ByteArray.empty 0 4) (by simp [txt, results, Tryz.results117, go_sem, hh]; rfl) rfl ⟨ret_valN H.out.symm, ?_⟩
      exact ((((((Below.refl _ _).alloc (Nat.le_refl _) _).trans (hb1.mono (by simp))).alloc (by omega) _).setCell (Nat.le_refl _) _).setCell (Nat.le_refl _) _).setCell (Nat.le_refl _) _
    · have H : Hid (getTV s at0 = txt (s.extract b.toNat (b + n).toNat) (b + n) 0) := getTV_ok hgn (by omega) hl
      clear hgn
      go_enter Tryz.func117, Tryz.ntmps117
      go_wp2_with fail
      refine (specGetNum_any _ _ _ hs h1).mono ?_
      rintro e w1 ⟨rfl, hb1⟩
      rw [HV.out]
      have hh := held_box hb1
      have hf := held_free hb1
      have hz : w.heap.size + 1 ≤ w1.heap.size := by have := hb1.size; simp at this; omega
      have hbel : Below w.heap.size w (w1.alloc (.cells #[.int .i64 n, .int .i64 b, .int .i64 0] 155)) := (((Below.refl _ _).alloc (Nat.le_refl _) _).trans (hb1.mono (by simp))).alloc (by omega) _
      have r0 := hh (.cells #[.int .i64 n, .int .i64 b, .int .i64 0] 155) 0
      have r1 := hh (.cells #[.int .i64 n, .int .i64 b, .int .i64 0] 155) 1
      have r2 := hh (.cells #[.int .i64 n, .int .i64 b, .int .i64 0] 155) 2
      have f0 := hf (.cells #[.int .i64 n, .int .i64 b, .int .i64 0] 155) 0
      have f1 := hf (.cells #[.int .i64 n, .int .i64 b, .int .i64 0] 155) 1
      have f2 := hf (.cells #[.int .i64 n, .int .i64 b, .int .i64 0] 155) 2
      have g0 : (w1.alloc (.cells #[.int .i64 n, .int .i64 b, .int .i64 0] 155)).cell? ⟨w1.heap.size, 0, none⟩ = some (.int .i64 n) := by simp
      have g1 : (w1.alloc (.cells #[.int .i64 n, .int .i64 b, .int .i64 0] 155)).cell? ⟨w1.heap.size, 1, none⟩ = some (.int .i64 b) := by simp
      have hwr : IntKind.i64.wrap (b + n) = b + n := by rw [IntKind.wrap_i64]; omega
      have hsl := fun wx => run_slice_string (P := Tryz.prog) wx 9 s .i64 .i64 b (b + n) Tryz.underlying9 (by omega) (by omega) (by omega)
      go_wp2_with fail
      simp only [List.getElem?_toArray, List.getElem?_cons_zero, List.getElem?_cons_succ] at r0 r1 r2
      clear hh hf hb1
      have hne : ¬ w1.heap.size = w.heap.size := by omega
      have hne' : ¬ w.heap.size = w1.heap.size := by omega
      generalize w1.heap.size = q at *
      generalize w1.alloc (.cells #[.int .i64 n, .int .i64 b, .int .i64 0] 155) = W at *
      go_region_held3 (fun w' => w'.cell? ⟨q, 0, none⟩ = some (.int .i64 n) ∧ w'.cell? ⟨q, 1, none⟩ = some (.int .i64 b)) (go_keep) (fail)
      all_goals go_wp2
      refine bodyPost_ret (v := txt (s.extract b.toNat (b + n).toNat) (b + n) 0) (by simp [txt, results, Tryz.results117, go_sem, r0, r1, r2]) rfl ⟨ret_valN H.out.symm, ?_⟩
      exact (((hbel.setCell (Nat.le_refl _) _).setCell (Nat.le_refl _) _).setCell (Nat.le_refl _) _).drew
  · have HV : Hid (getV s at0 = .agg #[.int .i64 0, .int .i64 0, .int .i64 c]) := by show _ = _; unfold getV; rw [hgn]; rfl
    have H : Hid (getTV s at0 = txt ByteArray.empty 0 c) := getTV_bad hgn hc
    have c0 : (c != 0) = true := by simpa using hc
    clear hgn hc
    go_enter Tryz.func117, Tryz.ntmps117
    go_wp2_with fail
    refine (specGetNum_any _ _ _ hs h1).mono ?_
    rintro e w1 ⟨rfl, hb1⟩
    rw [HV.out]
    have hh := held_box hb1
    have hf := held_free hb1
    have hz : w.heap.size + 1 ≤ w1.heap.size := by have := hb1.size; simp at this; omega
    go_wp2_with fail
    refine bodyPost_ret (v := txt ByteArray.empty 0 c) (by simp [txt, results, Tryz.results117, go_sem, hh]; rfl) rfl ⟨ret_valN H.out.symm, ?_⟩
    exact ((((((Below.refl _ _).alloc (Nat.le_refl _) _).trans (hb1.mono (by simp))).alloc (by omega) _).setCell (Nat.le_refl _) _).setCell (Nat.le_refl _) _).setCell (Nat.le_refl _) _

end Go.Proofs.YtnomkcbcjaagmabGreatDoor
/-
  Two operations of a drawing region that are ready at once, each order written out.
-/
namespace Go.Proofs.YtnomkcbcjaagmabGreatDoor
open Go.RowKit Go.Lib
set_option linter.unusedVariables false

theorem till_ready2 {P : Program} {ops : Array Oper} {Q : Exit → Act → World → Prop} {md : Region.Mode} {S : World → Prop} {l : Nat} (i j : Nat) {oi oj : Oper} {fuel : Nat} {listed : Array Bool} {a : Act} {w : World} (hi : ops.toList[i]? = some oi) (hj : ops.toList[j]? = some oj) (hr : Region.ready md ops listed = [i, j])
    (h1 : ∀ K' : Act → World → Prop, Shut (∀ a w, S w → (S w → AnyTill P md ops Q S l fuel (listed.setIfInBounds i true) a w) → K' a w) → if Region.wanted oi (yielded ops a.tmps) = true then Oper.wp P oi a w K' Q else K' (a.put oi.dst undef) w)
    (h2 : ∀ K' : Act → World → Prop, Shut (∀ a w, S w → (S w → AnyTill P md ops Q S l fuel (listed.setIfInBounds j true) a w) → K' a w) → if Region.wanted oj (yielded ops a.tmps) = true then Oper.wp P oj a w K' Q else K' (a.put oj.dst undef) w) : AnyTill P md ops Q S l (fuel + 1) listed a w :=
  ⟨fun h0 => absurd (hr ▸ h0) (by simp), fun k hk => by
    rw [hr] at hk
    have hk' : k = i ∨ k = j := by simpa using hk
    rcases hk' with rfl | rfl
    · exact wpOp_step (by rw [← hi]; simp) (fun K' hK => h1 K' (fun a w hS hW => hK a w ⟨fun _ => hS, hW hS⟩))
    · exact wpOp_step (by rw [← hj]; simp) (fun K' hK => h2 K' (fun a w hS hW => hK a w ⟨fun _ => hS, hW hS⟩))⟩
end Go.Proofs.YtnomkcbcjaagmabGreatDoor
/-
  What a reader reads, as plain functions: a number, a text, up to the first fault.
-/
namespace Go.Proofs.YtnomkcbcjaagmabGreatDoor
open Go.RowKit Go.Lib
set_option linter.unusedVariables false

/-! ### What is read -/
/-- GetText's answer in its three parts. -/
def getT (s : ByteArray) (a : Int) : ByteArray × Int × Int :=
  if (getN s a).2.2 ≠ 0 then (ByteArray.empty, 0, (getN s a).2.2)
  else if (getN s a).1 < 0 ∨ 8000 < (getN s a).1 then (ByteArray.empty, 0, 3)
  else if (s.size : Int) < (getN s a).2.1 + (getN s a).1 then (ByteArray.empty, 0, 4)
  else (s.extract (getN s a).2.1.toNat ((getN s a).2.1 + (getN s a).1).toNat, (getN s a).2.1 + (getN s a).1, 0)
theorem getT_val (s : ByteArray) (a : Int) : getTV s a = .agg #[.string (getT s a).1, .int .i64 (getT s a).2.1, .int .i64 (getT s a).2.2] := by
  unfold getTV getT
  split
  · rfl
  · split
    · rfl
    · split <;> rfl
theorem getN_place (s : ByteArray) (a : Int) (h : (getN s a).2.2 = 0) : 0 ≤ (getN s a).2.1 ∧ (getN s a).2.1 ≤ s.size := by
  rcases getN_cases s a with ⟨n, b, hg⟩ | ⟨c, hc, hg⟩
  · have := getN_ok hg
    rw [hg]; exact ⟨this.1, this.2.1⟩
  · rw [hg] at h; exact absurd h hc
theorem getT_place (s : ByteArray) (a : Int) (h : (getT s a).2.2 = 0) : 0 ≤ (getT s a).2.1 ∧ (getT s a).2.1 ≤ s.size := by
  have hp := getN_place s a
  unfold getT at h ⊢
  split at h
  · rename_i h1; exact absurd h h1
  · rename_i h1
    split at h
    · cases h
    · split at h
      · cases h
      · rename_i h2 h3
        rw [if_neg h1, if_neg h2, if_neg h3]
        have h4 := hp (by simpa using h1)
        show 0 ≤ (getN s a).2.1 + (getN s a).1 ∧ (getN s a).2.1 + (getN s a).1 ≤ _
        omega
def rnB (t : ByteArray) (a : Int) (bd : Bool) : Bool := bd || ((getN t a).2.2 != 0)
def rnN (t : ByteArray) (a : Int) (bd : Bool) : Int := if rnB t a bd = true then 0 else (getN t a).1
def rnA (t : ByteArray) (a : Int) (bd : Bool) : Int := if rnB t a bd = true then a else (getN t a).2.1
def rtB (t : ByteArray) (a : Int) (bd : Bool) : Bool := bd || ((getT t a).2.2 != 0)
def rtT (t : ByteArray) (a : Int) (bd : Bool) : ByteArray := if rtB t a bd = true then ByteArray.empty else (getT t a).1
def rtA (t : ByteArray) (a : Int) (bd : Bool) : Int := if rtB t a bd = true then a else (getT t a).2.1
end Go.Proofs.YtnomkcbcjaagmabGreatDoor
