/-
  The law FnNums, walked: whatever the codes, it returns true.
  Conditions: the codes' bytes are there; the variable errors.errorType holds the handle of the type error.
-/
import Derived.Test.YtfjiidicnimeeaaDoorRows
import Derived.Test.YtfjiidicnimeeaaDoorBytes
import Derived.Test.YtfjiidicnimeeaaDoorPutNum
import Derived.Test.YtfjiidicnimeeaaDoorPutText
import Derived.Test.YtfjiidicnimeeaaDoorGetNumI
import Derived.Test.YtfjiidicnimeeaaDoorGetTextI
import Derived.Test.YtfjiidicnimeeaaDoorTextMath
import Derived.Test.YtfjiidicnimeeaaDoorDrawNums
import Derived.Handy
import Derived.WalkSpells
namespace Go.Proofs.YtfjiidicnimeeaaDoor
open Go.RowKit Go.Lib
set_option linter.unusedVariables false

theorem field_num4 (wx : World) : (Instr.field 26 (.agg #[.int .i64 0, .int .i64 0, .int .i64 4]) 2).run Tryd.prog wx = .ok (.int .i64 4) wx := by kernel_rfl
theorem field_text4 (wx : World) : (Instr.field 31 (.agg #[.string ByteArray.empty, .int .i64 0, .int .i64 4]) 2).run Tryd.prog wx = .ok (.int .i64 4) wx := by kernel_rfl
theorem not_empty {s : ByteArray} (h : 1 ≤ s.size) : s.toList.isEmpty = false := by
  have : s.toList.length = s.size := by rw [toList_data, ← size_eq]
  cases e : s.toList with
  | nil => rw [e] at this; simp at this; omega
  | cons => rfl

set_option maxRecDepth 20000 in
set_option maxHeartbeats 8000000 in
theorem fnNums_any (a0 : Option Addr) (len0 cap0 : Nat) (a1 : Option Addr) (len1 cap1 : Nat) (w : World) (hl0 : len0 ≤ 1048576) (hl1 : len1 ≤ 1048576)
    (hc0 : CodeAt w.heap.size a0 len0 w) (hc1 : CodeAt w.heap.size a1 len1 w) (hg : Laid w) :
    Calls Tryd.prog 3 #[.slice a0 len0 cap0, .slice a1 len1 cap1] w fun e w' => e = .returned (.bool true) ∧ Below w.heap.size w w' := by
  have HC0 : Hid (CodeAt w.heap.size a0 len0 w) := hc0
  have HC1 : Hid (CodeAt w.heap.size a1 len1 w) := hc1
  have HG : Hid (Laid w) := hg
  clear hc0 hc1 hg
  have d1 : decide (1048576 < (len0 : Int)) = false := by simp; omega
  have d2 : decide (1048576 < (len1 : Int)) = false := by simp; omega
  go_enter Tryd.func3, Tryd.ntmps3
  go_wp2_with fail
  refine (drawPutNum_any w.heap.size a0 len0 cap0 w hl0 (Nat.le_refl _) HC0.out).mono ?_
  rintro e w1 ⟨⟨n, rfl, n0, n1⟩, hb1⟩
  go_wp2_with fail
  refine (implPutNum_any n _ n0 n1).mono ?_
  rintro e w2 ⟨rfl, hb2'⟩
  have hb2 : Below w.heap.size w w2 := hb1.trans (hb2'.mono hb1.size)
  clear hb1 hb2'
  go_wp2_with fail
  refine (specPutNum_any n _ n0 n1).mono ?_
  rintro e w3 ⟨rfl, hb3'⟩
  have hb3 : Below w.heap.size w w3 := hb2.trans (hb3'.mono hb2.size)
  clear hb2 hb3'
  have hp1 := putB_pos n
  have hp2 := putB_size n
  have HN : Hid (getV (⟨#[120, 121]⟩ ++ putB n ++ ⟨#[122]⟩) 2 = .agg #[.int .i64 n, .int .i64 (((putB n).size : Int) + 2), .int .i64 0]) := num_back n n0 n1
  have HT : Hid (getV ((putB n).extract 0 ((putB n).size - 1)) 0 = .agg #[.int .i64 0, .int .i64 0, .int .i64 4]) := num_cut n n0 n1
  have hsz : (⟨#[120, 121]⟩ ++ putB n ++ ⟨#[122]⟩ : ByteArray).size ≤ maxLen := by
    rw [ByteArray.size_append, ByteArray.size_append]; unfold maxLen; show 2 + (putB n).size + 1 ≤ _; omega
  have hsz2 : ((putB n).extract 0 ((putB n).size - 1)).size ≤ maxLen := by rw [cut_size]; unfold maxLen; omega
  generalize putB n = t at *
  have k1 : decide ((t.size : Int) < 1) = false := by simp; omega
  have k2 : decide (10 < (t.size : Int)) = false := by simp; omega
  go_wp2_with fail
  refine (implGetNum_any _ 2 _ hsz (by omega) (HG.out.below hb3)).mono ?_
  rintro e w4 ⟨rfl, hb4'⟩
  rw [HN.out]
  have hb4 : Below w.heap.size w w4 := hb3.trans (hb4'.mono hb3.size)
  have hz4 : w.heap.size ≤ w4.heap.size := hb4.size
  clear hb4' hb3 hsz
  have i1 : (1 : Int) ≤ (t.size : Int) := by omega
  go_wp2_with fail
  have hb5 : Below w.heap.size w (w4.alloc (.cells #[.int .i64 n, .int .i64 ((t.size : Int) + 2), .int .i64 0] 26)) := hb4.alloc hz4 _
  refine (implGetNum_any _ 0 _ hsz2 (by omega) (HG.out.below hb5)).mono ?_
  rintro e w6 ⟨rfl, hb6'⟩
  rw [HT.out]
  have hb6 : Below w.heap.size w w6 := hb5.trans (hb6'.mono hb5.size)
  clear hb6' hb5 hb4 hz4
  have hfd := field_num4
  go_wp2_with fail
  refine (drawPutText_any w.heap.size a1 len1 cap1 _ hl1 hb6.size (HC1.out.below hb6)).mono ?_
  rintro e w7 ⟨⟨u, rfl, hu, hu2⟩, hb7'⟩
  have hb7 : Below w.heap.size w w7 := hb6.trans (hb7'.mono hb6.size)
  have hum : u.size ≤ maxLen := by unfold maxLen; omega
  clear hb7' hb6 hfd HN HT hsz2
  go_wp2_with fail
  refine (implPutText_any u _ hum).mono ?_
  rintro e w8 ⟨rfl, hb8'⟩
  have hb8 : Below w.heap.size w w8 := hb7.trans (hb8'.mono hb7.size)
  clear hb8' hb7
  go_wp2_with fail
  refine (specPutText_any u _ hum).mono ?_
  rintro e w9 ⟨rfl, hb9'⟩
  have hb9 : Below w.heap.size w w9 := hb8.trans (hb9'.mono hb8.size)
  clear hb9' hb8
  rcases hu with hu | hu
  · have hpt : putTextB u = putB (u.size : Int) ++ u := if_neg (by omega)
    have hq1 := putB_pos (u.size : Int)
    have hq2 := putB_size (u.size : Int)
    have HX : Hid (getTV (⟨#[120]⟩ ++ (putB (u.size : Int) ++ u)) 1 = .agg #[.string u, .int .i64 (((putB (u.size : Int) ++ u).size : Int) + 1), .int .i64 0]) := text_back u (by omega)
    have HY : Hid (getTV ((putB (u.size : Int) ++ u).extract 0 ((putB (u.size : Int) ++ u).size - 1)) 0 = .agg #[.string ByteArray.empty, .int .i64 0, .int .i64 4]) := text_cut u (by omega)
    have hz2 : (putB (u.size : Int) ++ u).size = (putB (u.size : Int)).size + u.size := by simp
    have hp1' : 1 ≤ (putB (u.size : Int) ++ u).size := by omega
    have hp2' : (putB (u.size : Int) ++ u).size ≤ 40 := by omega
    have hszx : (⟨#[120]⟩ ++ (putB (u.size : Int) ++ u) : ByteArray).size ≤ maxLen := by
      rw [ByteArray.size_append]; unfold maxLen; show 1 + (putB (u.size : Int) ++ u).size ≤ _; omega
    have hszy : ((putB (u.size : Int) ++ u).extract 0 ((putB (u.size : Int) ++ u).size - 1)).size ≤ maxLen := by rw [cut_size]; unfold maxLen; omega
    have hne := not_empty hp1'
    rw [hpt]
    clear hz2 hq1 hq2 hpt
    generalize putB (u.size : Int) ++ u = p at *
    have i2 : (1 : Int) ≤ (p.size : Int) := by omega
    have d3 : decide (8000 < (p.size : Int) + 1) = false := by simp; omega
    go_wp2_with fail
    refine (implGetText_any _ 1 _ hszx (by omega) (HG.out.below hb9)).mono ?_
    rintro e w10 ⟨rfl, hb10'⟩
    rw [HX.out]
    have hb10 : Below w.heap.size w w10 := hb9.trans (hb10'.mono hb9.size)
    clear hb10' hb9 hszx
    go_wp2_with fail
    refine (implGetText_any _ 0 _ hszy (by omega) (HG.out.below hb10)).mono ?_
    rintro e w11 ⟨rfl, hb11'⟩
    rw [HY.out]
    have hb11 : Below w.heap.size w w11 := hb10.trans (hb11'.mono hb10.size)
    have hfd := field_text4
    clear hb11' hb10
    go_wp2_with fail
    go_ret
    exact ⟨rfl, hb11⟩
  · have hpt : putTextB u = ByteArray.empty := if_pos (by omega)
    have HP : Hid (putTextB u = ByteArray.empty) := hpt
    rw [hpt]
    clear hpt
    go_wp2_with fail
    refine (specPutText_any u _ hum).mono ?_
    rintro e w10 ⟨rfl, hb10'⟩
    rw [HP.out]
    have hb10 : Below w.heap.size w w10 := hb9.trans (hb10'.mono hb9.size)
    clear hb10' hb9
    go_wp2_with fail
    go_ret
    exact ⟨rfl, hb10⟩
end Go.Proofs.YtfjiidicnimeeaaDoor
