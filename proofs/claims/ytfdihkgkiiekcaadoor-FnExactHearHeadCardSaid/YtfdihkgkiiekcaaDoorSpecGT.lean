/-
  What the specification's GetText answers: 'getTV' of the text and the place, in new memory.
  Conditions: the string fits the form's own reach; the place is an int64.
-/
import Derived.Test.YtfdihkgkiiekcaaDoorRows
import Derived.Test.YtfdihkgkiiekcaaDoorBytesDigMath
import Derived.Test.YtfdihkgkiiekcaaDoorLawSigLAudMathScanMath
import Derived.Test.YtfdihkgkiiekcaaDoorGetValGetTxtFldRdHdMath
import Derived.Test.YtfdihkgkiiekcaaDoorTimeBFldIsAudSGrKSpecGN
import Derived.Handy
import Derived.WalkSpells
import Derived.Deep.RegionHeld3
namespace Go.Proofs.YtfdihkgkiiekcaaDoor
open Go.RowKit Go.Extern.Stop Go.Stop Go.Extern
set_option linter.unusedVariables false

set_option maxHeartbeats 2000000 in
theorem specGetText_any (s : ByteArray) (at0 : Int) (w : World) (hs : s.size ≤ maxLen) (h1 : at0 ≤ 9223372036854775807) :
    Calls Tryd.prog 48 #[.string s, .int .i64 at0] w fun e w' => e = .returned (getTV s at0) ∧ Below w.heap.size w w' := by
  rcases getN_cases s at0 with ⟨n, b, hgn⟩ | ⟨c, hc, hgn⟩
  · obtain ⟨b0, b1, hs8, n0, n1⟩ := getN_ok hgn
    have HV : Hid (getV s at0 = .agg #[.int .i64 n, .int .i64 b, .int .i64 0]) := by show _ = _; unfold getV; rw [hgn]; rfl
    by_cases hn0 : n < 0
    · have H : Hid (getTV s at0 = txt ByteArray.empty 0 3) := getTV_syn hgn (.inl hn0)
      have d1 : decide (n < 0) = true := by simp; omega
      clear hgn
      go_enter Tryd.func48, Tryd.ntmps48
      go_wp2_with fail
      refine (specGetNum_any _ _ _ hs h1).mono ?_
      rintro e w1 ⟨rfl, hb1⟩
      rw [HV.out]
      have hh := held_box hb1
      have hf := held_free hb1
      have hz : w.heap.size + 1 ≤ w1.heap.size := by have := hb1.size; simp at this; omega
      go_wp2_with fail
      refine bodyPost_ret (v := txt ByteArray.empty 0 3) (by simp [txt, results, Tryd.results48, go_sem, hh]; rfl) rfl ⟨ret_valN H.out.symm, ?_⟩
      exact ((((((Below.refl _ _).alloc (Nat.le_refl _) _).trans (hb1.mono (by simp))).alloc (by omega) _).setCell (Nat.le_refl _) _).setCell (Nat.le_refl _) _).setCell (Nat.le_refl _) _
    have d1 : decide (n < 0) = false := by simp; omega
    by_cases hn1 : 8000 < n
    · have H : Hid (getTV s at0 = txt ByteArray.empty 0 3) := getTV_syn hgn (.inr hn1)
      have d2 : decide (8000 < n) = true := by simp; omega
      clear hgn
      go_enter Tryd.func48, Tryd.ntmps48
      go_wp2_with fail
      refine (specGetNum_any _ _ _ hs h1).mono ?_
      rintro e w1 ⟨rfl, hb1⟩
      rw [HV.out]
      have hh := held_box hb1
      have hf := held_free hb1
      have hz : w.heap.size + 1 ≤ w1.heap.size := by have := hb1.size; simp at this; omega
      go_wp2_with fail
      refine bodyPost_ret (v := txt ByteArray.empty 0 3) (by simp [txt, results, Tryd.results48, go_sem, hh]; rfl) rfl ⟨ret_valN H.out.symm, ?_⟩
      exact ((((((Below.refl _ _).alloc (Nat.le_refl _) _).trans (hb1.mono (by simp))).alloc (by omega) _).setCell (Nat.le_refl _) _).setCell (Nat.le_refl _) _).setCell (Nat.le_refl _) _
    have d2 : decide (8000 < n) = false := by simp; omega
    by_cases hl : (s.size : Int) < b + n
    · have H : Hid (getTV s at0 = txt ByteArray.empty 0 4) := getTV_short hgn (by omega) hl
      clear hgn
      go_enter Tryd.func48, Tryd.ntmps48
      go_wp2_with fail
      refine (specGetNum_any _ _ _ hs h1).mono ?_
      rintro e w1 ⟨rfl, hb1⟩
      rw [HV.out]
      have hh := held_box hb1
      have hf := held_free hb1
      have hz : w.heap.size + 1 ≤ w1.heap.size := by have := hb1.size; simp at this; omega
      go_wp2_with fail
      refine bodyPost_ret (v := txt ByteArray.empty 0 4) (by simp [txt, results, Tryd.results48, go_sem, hh]; rfl) rfl ⟨ret_valN H.out.symm, ?_⟩
      exact ((((((Below.refl _ _).alloc (Nat.le_refl _) _).trans (hb1.mono (by simp))).alloc (by omega) _).setCell (Nat.le_refl _) _).setCell (Nat.le_refl _) _).setCell (Nat.le_refl _) _
    · have H : Hid (getTV s at0 = txt (s.extract b.toNat (b + n).toNat) (b + n) 0) := getTV_ok hgn (by omega) hl
      clear hgn
      go_enter Tryd.func48, Tryd.ntmps48
      go_wp2_with fail
      refine (specGetNum_any _ _ _ hs h1).mono ?_
      rintro e w1 ⟨rfl, hb1⟩
      rw [HV.out]
      have hh := held_box hb1
      have hf := held_free hb1
      have hz : w.heap.size + 1 ≤ w1.heap.size := by have := hb1.size; simp at this; omega
      have hbel : Below w.heap.size w (w1.alloc (.cells #[.int .i64 n, .int .i64 b, .int .i64 0] 73)) := (((Below.refl _ _).alloc (Nat.le_refl _) _).trans (hb1.mono (by simp))).alloc (by omega) _
      have r0 := hh (.cells #[.int .i64 n, .int .i64 b, .int .i64 0] 73) 0
      have r1 := hh (.cells #[.int .i64 n, .int .i64 b, .int .i64 0] 73) 1
      have r2 := hh (.cells #[.int .i64 n, .int .i64 b, .int .i64 0] 73) 2
      have f0 := hf (.cells #[.int .i64 n, .int .i64 b, .int .i64 0] 73) 0
      have f1 := hf (.cells #[.int .i64 n, .int .i64 b, .int .i64 0] 73) 1
      have f2 := hf (.cells #[.int .i64 n, .int .i64 b, .int .i64 0] 73) 2
      have g0 : (w1.alloc (.cells #[.int .i64 n, .int .i64 b, .int .i64 0] 73)).cell? ⟨w1.heap.size, 0, none⟩ = some (.int .i64 n) := by simp
      have g1 : (w1.alloc (.cells #[.int .i64 n, .int .i64 b, .int .i64 0] 73)).cell? ⟨w1.heap.size, 1, none⟩ = some (.int .i64 b) := by simp
      have hwr : IntKind.i64.wrap (b + n) = b + n := by rw [IntKind.wrap_i64]; omega
      have hsl := fun wx => run_slice_string (P := Tryd.prog) wx 9 s .i64 .i64 b (b + n) Tryd.underlying9 (by omega) (by omega) (by omega)
      go_wp2_with fail
      simp only [List.getElem?_toArray, List.getElem?_cons_zero, List.getElem?_cons_succ] at r0 r1 r2
      clear hh hf hb1
      have hne : ¬ w1.heap.size = w.heap.size := by omega
      have hne' : ¬ w.heap.size = w1.heap.size := by omega
      generalize w1.heap.size = q at *
      generalize w1.alloc (.cells #[.int .i64 n, .int .i64 b, .int .i64 0] 73) = W at *
      go_region_held3 (fun w' => w'.cell? ⟨q, 0, none⟩ = some (.int .i64 n) ∧ w'.cell? ⟨q, 1, none⟩ = some (.int .i64 b)) (go_keep) (fail)
      all_goals go_wp2
      refine bodyPost_ret (v := txt (s.extract b.toNat (b + n).toNat) (b + n) 0) (by simp [txt, results, Tryd.results48, go_sem, r0, r1, r2]) rfl ⟨ret_valN H.out.symm, ?_⟩
      exact (((hbel.setCell (Nat.le_refl _) _).setCell (Nat.le_refl _) _).setCell (Nat.le_refl _) _).drew
  · have HV : Hid (getV s at0 = .agg #[.int .i64 0, .int .i64 0, .int .i64 c]) := by show _ = _; unfold getV; rw [hgn]; rfl
    have H : Hid (getTV s at0 = txt ByteArray.empty 0 c) := getTV_bad hgn hc
    have c0 : (c != 0) = true := by simpa using hc
    clear hgn hc
    go_enter Tryd.func48, Tryd.ntmps48
    go_wp2_with fail
    refine (specGetNum_any _ _ _ hs h1).mono ?_
    rintro e w1 ⟨rfl, hb1⟩
    rw [HV.out]
    have hh := held_box hb1
    have hf := held_free hb1
    have hz : w.heap.size + 1 ≤ w1.heap.size := by have := hb1.size; simp at this; omega
    go_wp2_with fail
    refine bodyPost_ret (v := txt ByteArray.empty 0 c) (by simp [txt, results, Tryd.results48, go_sem, hh]; rfl) rfl ⟨ret_valN H.out.symm, ?_⟩
    exact ((((((Below.refl _ _).alloc (Nat.le_refl _) _).trans (hb1.mono (by simp))).alloc (by omega) _).setCell (Nat.le_refl _) _).setCell (Nat.le_refl _) _).setCell (Nat.le_refl _) _

end Go.Proofs.YtfdihkgkiiekcaaDoor
