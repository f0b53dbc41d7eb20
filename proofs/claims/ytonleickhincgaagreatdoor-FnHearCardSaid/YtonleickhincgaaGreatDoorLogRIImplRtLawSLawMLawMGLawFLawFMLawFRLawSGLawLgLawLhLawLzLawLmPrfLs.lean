/-
  Parts of one proof, laid as one text: LogRI, ImplRt, LawS, LawM, LawMG, LawF, LawFM, LawFR, LawSG, LawLg, LawLh, LawLz, LawLm, PrfLs; what each says stands at its head.
-/
import Derived.Test.YtonleickhincgaaGreatDoorRows
import Derived.Test.YtonleickhincgaaGreatDoorBytesDigMath
import Derived.Test.YtonleickhincgaaGreatDoorTreeMathSlABxKSlBOwnS
import Derived.Test.YtonleickhincgaaGreatDoorAsDAs2CodeOfRngXScopesReadBits
import Derived.Test.YtonleickhincgaaGreatDoorFldIsTimeIGrKSpecGNSpecGTTillTwoFldN
import Derived.Test.YtonleickhincgaaGreatDoorTimeBPutMathPutNumJoinedPutTextFldMath
import Derived.Test.YtonleickhincgaaGreatDoorGetValGetTxtNumMathFldRdNumFromTmbMathLgMath
import Derived.Test.YtonleickhincgaaGreatDoorLgAtKLgAnsLgRtAudMathHdMathClaMathHearMathFldGOneKFldBlkRwBlkRowOps
import Derived.Test.YtonleickhincgaaGreatDoorImplLgFldC
import Derived.Test.YtonleickhincgaaGreatDoorLeavesI
import Derived.Handy
import Derived.WalkSpells
import Derived.OwnWalk
import Derived.Test.YtonleickhincgaaGreatDoorLgLawTakesTakesLPutterPathI
import Derived.Test.YtonleickhincgaaGreatDoorPowerHalvesTreeTree2TreeHPathMathIncMathTakerTakePathConMathProofLawSignMath
import Derived.Test.YtonleickhincgaaGreatDoorFldTbFldTrImplFCBlNot
import Derived.Deep.RegionHeld3
import Derived.Deep.Cut
import Derived.Deep.QuietTactic
import Derived.BigQuiet
import Derived.Laws.OwnMore
import Derived.Deep.AppendLies
import Derived.Test.YtonleickhincgaaGreatDoorImplVerInc2SignRSignWFldRiseScanMath
import Derived.Deep.RegionLaw
import Derived.Deep.RegionWith
import Derived.Test.YtonleickhincgaaGreatDoorMac2AppSSrcDrawsDrawKitSomeIsInSignSSignDWide2StepAppPath2DigestDrawTreeSpoil
import Derived.Test.YtonleickhincgaaGreatDoorSpecLr
/-
  Whether a log is right, as the program answers.
  Conditions: the cells of Rows and Leaves hold the rows and leaves; the tables of the digest and errors.errorType are laid.
-/
namespace Go.Proofs.YtonleickhincgaaGreatDoor
open Go.RowKit Go.Lib
set_option linter.unusedVariables false
set_option maxRecDepth 20000

theorem im_parts (rs : List Rw) (lv : List ByteArray) (now : Int) : lgB rs lv now = (timeB now && ((decide (rs.length ≤ 6) && rsB rs now) && lvOk rs now lv)) := by rw [lg_eq]; rfl
theorem rs_all {rs : List Rw} {now : Int} (h : rsB rs now = true) : ∀ r ∈ rs, rB r = true := fun r hr => by
  unfold rsB at h
  rw [List.all_eq_true] at h
  exact (Bool.and_eq_true_iff.1 (h r hr)).1
set_option maxHeartbeats 2000000 in
theorem right_any (p : Option Addr) (lv : List ByteArray) (cp : Nat) (q : Option Addr) (rs : List Rw) (cq : Nat) (now : Int) (w : World) (hT : Tabs w) (hg : Laid w) (hA : LgAt p lv cp q rs cq w) :
    Calls Tryz.prog 101 #[.agg (wkC p lv cp q rs cq now)] w fun e w' => e = .returned (.bool (lgB rs lv now)) ∧ Below w.heap.size w w' := by
  obtain ⟨W1, hW1⟩ : ∃ W1, W1 = w.alloc (.cells #[.slice p lv.length cp, .slice q rs.length cq, .int .i64 now] 91) := ⟨_, rfl⟩
  have HW1 : Hid (W1 = w.alloc (.cells #[.slice p lv.length cp, .slice q rs.length cq, .int .i64 now] 91)) := hW1
  have K1 : Hid (Bxs W1 w.heap.size 91 #[.slice p lv.length cp, .slice q rs.length cq, .int .i64 now]) := by rw [hW1]; exact Bxs.new _ _ _
  have B1 : Hid (Below w.heap.size w W1) := by rw [hW1]; exact (Below.refl _ _).alloc (Nat.le_refl _) _
  have HA1 : Hid (LgAt p lv cp q rs cq W1) := hA.below B1.out
  have HT1 : Hid (Tabs W1) := hT.to B1.out
  have HG1 : Hid (Laid W1) := hg.below B1.out
  have hTi := timeRight_any now W1
  have hRR := rowsRight_any p lv cp q rs cq now W1 HT1.out HA1.out.rw HA1.out.rn HA1.out.rc HA1.out.rz
  have HLR : Hid (∀ x, Below W1.heap.size W1 x → rs.length ≤ 6 → rsB rs now = true → Calls Tryz.prog 153 #[.agg #[.slice p lv.length cp, .slice q rs.length cq, .int .i64 now]] x fun e w' => e = .returned (.bool (lvOk rs now lv)) ∧ Below x.heap.size x w') := fun x hb h6 hr => leavesRight_any p lv cp q rs cq now x (HT1.out.to hb) (HG1.out.below hb) (HA1.out.tx.below hb) hA.ln hA.lc hA.lz (HA1.out.rw.below hb) hA.rc (rs_all hr) hA.rz h6
  have HE : Hid (lgB rs lv now = (timeB now && ((decide (rs.length ≤ 6) && rsB rs now) && lvOk rs now lv))) := im_parts rs lv now
  rw [HE.out]
  unfold wkC at hRR ⊢
  obtain ⟨x0, x1, x2⟩ := K1.out.three
  rw [HW1.out] at x0 x1 x2
  clear hW1 hT hg hA HT1 HG1 HA1 HE
  cases ht : timeB now with
  | false =>
    rw [ht] at hTi
    clear hRR HLR
    go_enter Tryz.func101, Tryz.ntmps101
    go_wp2_with fail
    rw [← HW1.out]
    refine hTi.mono ?_
    rintro e y ⟨rfl, rfl⟩
    go_wp2_with fail
    go_ret
    exact ⟨rfl, B1.out⟩
  | true =>
    rw [ht] at hTi
    cases hr : (decide (rs.length ≤ 6) && rsB rs now) with
    | false =>
      rw [hr] at hRR
      clear HLR
      go_enter Tryz.func101, Tryz.ntmps101
      go_wp2_with fail
      rw [← HW1.out]
      refine hTi.mono ?_
      rintro e y ⟨rfl, rfl⟩
      rw [← HW1.out] at x0 x1 x2
      go_wp2_with fail
      refine hRR.mono ?_
      rintro e y2 ⟨rfl, b2⟩
      go_wp2_with fail
      go_ret
      exact ⟨rfl, chainB B1.out b2⟩
    | true =>
      rw [hr] at hRR
      obtain ⟨h6, hrs⟩ := Bool.and_eq_true_iff.1 hr
      have HLR2 : Hid (∀ x, Below W1.heap.size W1 x → Calls Tryz.prog 153 #[.agg #[.slice p lv.length cp, .slice q rs.length cq, .int .i64 now]] x fun e w' => e = .returned (.bool (lvOk rs now lv)) ∧ Below x.heap.size x w') := fun x hb => HLR.out x hb (of_decide_eq_true h6) hrs
      clear HLR h6 hrs hr
      generalize lvOk rs now lv = R at *
      go_enter Tryz.func101, Tryz.ntmps101
      go_wp2_with fail
      rw [← HW1.out]
      refine hTi.mono ?_
      rintro e y ⟨rfl, rfl⟩
      rw [← HW1.out] at x0 x1 x2
      go_wp2_with fail
      refine hRR.mono ?_
      rintro e y2 ⟨rfl, b2⟩
      have hL := HLR2.out y2 b2
      clear x0 x1 x2 hRR hTi HLR2
      obtain ⟨x0, x1, x2⟩ := (K1.out.below b2).three
      go_wp2_with fail
      refine hL.mono ?_
      rintro e y3 ⟨rfl, b3⟩
      clear hL
      go_wp2_with fail
      go_ret
      exact ⟨rfl, chainB (chainB B1.out b2) b3⟩
end Go.Proofs.YtonleickhincgaaGreatDoor
/-
  RootOf and HeadText, as the program answers.
  Conditions: the cells hold the rows and leaves; the tables of the digest and errors.errorType are laid.
-/
namespace Go.Proofs.YtonleickhincgaaGreatDoor
open Go.RowKit Go.Lib
set_option linter.unusedVariables false
set_option maxRecDepth 20000

theorem count_any (p : Option Addr) (n cp : Nat) (w : World) : Calls Tryz.prog 103 #[.slice p n cp] w fun e w' => e = .returned (.int .i64 (n : Int)) ∧ w' = w := by
  go_enter Tryz.func103, Tryz.ntmps103
  go_wp2_with fail
  go_ret
  exact ⟨rfl, rfl⟩
def rotB (lv : List ByteArray) (n : Int) : ByteArray := if 0 ≤ n ∧ n ≤ (lv.length : Int) then treeB (lv.take n.toNat) else ByteArray.empty
end Go.Proofs.YtonleickhincgaaGreatDoor
/-
  What the laws' own helpers answer for slices of texts: szStringS (of few and small ones, a number that is not below 0, else -1), toStringS (a copy in new memory), eqStringS (are they alike).
  Conditions: the slices' cells hold those texts.
-/
namespace Go.Proofs.YtonleickhincgaaGreatDoor
open Go.RowKit Go.Lib
set_option linter.unusedVariables false

def cutS (ss : List ByteArray) (k : Nat) : List ByteArray := ss.take k ++ List.replicate (ss.length - k) ByteArray.empty
theorem cutS_len (ss : List ByteArray) (k : Nat) (h : k ≤ ss.length) : (cutS ss k).length = ss.length := by simp [cutS]; omega
theorem cutS_set (ss : List ByteArray) (k : Nat) (h : k < ss.length) : (cutS ss k).set k ss[k] = cutS ss (k + 1) := by
  unfold cutS
  rw [show ss.length - k = (ss.length - (k + 1)) + 1 by omega, List.replicate_succ]
  have hl : (ss.take k).length = k := by simp; omega
  rw [List.set_append_right _ _ (by omega), hl, Nat.sub_self, List.set_cons_zero, List.take_succ_eq_append_getElem h, List.append_assoc]; rfl

def SzEnd (r : Int) (ss : List ByteArray) : Prop := r = -1 ∨ (0 ≤ r ∧ ss.length ≤ 1048576 ∧ ∀ x ∈ ss, x.size ≤ 1048576)
end Go.Proofs.YtonleickhincgaaGreatDoor
/-
  What the laws' own helpers do that mark texts: markText (the mark of a number), markStringS (each text of a slice becomes its mark), heldStringS (are all still marked).
  Conditions: the slice owns its row, of at most 2^20 texts.
-/
namespace Go.Proofs.YtonleickhincgaaGreatDoor
open Go.RowKit Go.Lib
set_option linter.unusedVariables false
set_option maxRecDepth 20000

def digs (k : Nat) (acc : ByteArray) : ByteArray := if h : k = 0 then acc else digs (k / 10) (strOfNums [48 + (k : Int) % 10] ++ acc)
termination_by k
decreasing_by omega
theorem digs_zero (acc : ByteArray) : digs 0 acc = acc := by rw [digs]; simp
theorem digs_pos {k : Nat} (h : k ≠ 0) (acc : ByteArray) : digs k acc = digs (k / 10) (strOfNums [48 + (k : Int) % 10] ++ acc) := by rw [digs]; simp [h]
def mk109 : ByteArray := ⟨#[109]⟩
def markB (k : Nat) : ByteArray := mk109 ++ digs k ByteArray.empty
def marksTo (l : List ByteArray) (k : Nat) : List ByteArray := (List.range k).map (fun j => markB (j + 1)) ++ l.drop k
def marksL (n : Nat) : List ByteArray := (List.range n).map (fun j => markB (j + 1))
theorem marksTo_len (l : List ByteArray) (k : Nat) (h : k ≤ l.length) : (marksTo l k).length = l.length := by simp [marksTo]; omega
theorem marksTo_set (l : List ByteArray) (k : Nat) (h : k < l.length) : (marksTo l k).set k (markB (k + 1)) = marksTo l (k + 1) := by
  unfold marksTo
  have hl : ((List.range k).map (fun j => markB (j + 1))).length = k := by simp
  rw [List.set_append_right _ _ (by omega), hl, Nat.sub_self, List.drop_eq_getElem_cons h, List.set_cons_zero, List.range_succ, List.map_append, List.append_assoc]; rfl
theorem marksTo_all (l : List ByteArray) : marksTo l l.length = marksL l.length := by unfold marksTo marksL; simp

theorem conv_one (w : World) (x : Int) : (convert 22 9 (.slice (some ⟨w.heap.size, 0, none⟩) 1 1)).run Tryz.prog (w.alloc (.cells #[.int .u8 x] 5)) = .ok (.string (strOfNums [x])) (w.alloc (.cells #[.int .u8 x] 5)) :=
  run_convert_bytes_arg (P := Tryz.prog) _ 22 5 Tryz.underlying22 Tryz.underlying5 w.heap.size 0 1 1 [x] rfl (fun i hi => by
    have : i = 0 := by simpa using hi
    subst this
    rw [World.cell?_alloc_mark]; rfl) 9 Tryz.underlying9

end Go.Proofs.YtonleickhincgaaGreatDoor
/-
  markStringS and heldStringS from any number on: what the laws' own helpers answer.
-/
namespace Go.Proofs.YtonleickhincgaaGreatDoor
open Go.RowKit Go.Lib
set_option linter.unusedVariables false
set_option maxRecDepth 20000

def marksT (s : Nat) (l : List ByteArray) (k : Nat) : List ByteArray := (List.range k).map (fun j => markB (j + s)) ++ l.drop k
def marksN (s n : Nat) : List ByteArray := (List.range n).map (fun j => markB (j + s))
theorem marksT_len (s : Nat) (l : List ByteArray) (k : Nat) (h : k ≤ l.length) : (marksT s l k).length = l.length := by simp [marksT]; omega
theorem marksT_set (s : Nat) (l : List ByteArray) (k : Nat) (h : k < l.length) : (marksT s l k).set k (markB (k + s)) = marksT s l (k + 1) := by
  unfold marksT
  have hl : ((List.range k).map (fun j => markB (j + s))).length = k := by simp
  rw [List.set_append_right _ _ (by omega), hl, Nat.sub_self, List.drop_eq_getElem_cons h, List.set_cons_zero, List.range_succ, List.map_append, List.append_assoc]; rfl
theorem marksT_all (s : Nat) (l : List ByteArray) : marksT s l l.length = marksN s l.length := by unfold marksT marksN; simp

end Go.Proofs.YtonleickhincgaaGreatDoor
/-
  What the laws' own helpers answer for slices of fields: szFieldS, toFieldS (a copy in new memory), eqFieldS (of two that are alike).
  Conditions: the slices' cells hold the fields.
-/
namespace Go.Proofs.YtonleickhincgaaGreatDoor
open Go.RowKit Go.Lib
set_option linter.unusedVariables false
set_option maxRecDepth 20000

def FldsBig (fs : List Fld) : Prop := ∀ f ∈ fs, f.n.size ≤ 9223372036854775807 ∧ f.c.size ≤ 9223372036854775807 ∧ f.s.size ≤ 9223372036854775807 ∧ f.v.size ≤ 9223372036854775807
def cutF (fs : List Fld) (k : Nat) : List Fld := fs.take k ++ List.replicate (fs.length - k) fldE5
theorem cutF_len (fs : List Fld) (k : Nat) (h : k ≤ fs.length) : (cutF fs k).length = fs.length := by simp [cutF]; omega
theorem cutF_set (fs : List Fld) (k : Nat) (h : k < fs.length) : (cutF fs k).set k fs[k] = cutF fs (k + 1) := by
  unfold cutF
  rw [show fs.length - k = (fs.length - (k + 1)) + 1 by omega, List.replicate_succ]
  have hl : (fs.take k).length = k := by simp; omega
  rw [List.set_append_right _ _ (by omega), hl, Nat.sub_self, List.set_cons_zero, List.take_succ_eq_append_getElem h, List.append_assoc]; rfl
theorem BlkF.own {w : World} {g : Nat} {l : List Fld} (h : BlkF w g l) (base : Nat) (hb : base ≤ g) (hm : l.length ≤ maxLen) : w.ownsRow base 122 5 (.slice (some ⟨g, 0, none⟩) l.length l.length) l.length (fldRow l) :=
  ⟨fldRow_len l, .inr ⟨g, l.length, (fldRow l).toArray, rfl, hb, h, Nat.le_refl _, hm, by rw [List.size_toArray, fldRow_len], List.take_of_length_le (by rw [fldRow_len]; exact Nat.le_refl _)⟩⟩

end Go.Proofs.YtonleickhincgaaGreatDoor
/-
  What the laws' own helpers do that mark fields: markFieldS, heldFieldS, from any number on.
  Conditions: the slice owns its row, of at most 2^20 fields.
-/
namespace Go.Proofs.YtonleickhincgaaGreatDoor
open Go.RowKit Go.Lib
set_option linter.unusedVariables false
set_option maxRecDepth 20000

def mkF (s j : Nat) : Fld := ⟨markB (s + 5 * j), markB (s + 5 * j + 1), markB (s + 5 * j + 2), markB (s + 5 * j + 3), decide ((s + 5 * j + 4) % 3 = 0)⟩
def mfN (s n : Nat) : List Fld := (List.range n).map (mkF s)
def mfT (s : Nat) (l : List Fld) (k : Nat) : List Fld := mfN s k ++ l.drop k
theorem mfT_len (s : Nat) (l : List Fld) (k : Nat) (h : k ≤ l.length) : (mfT s l k).length = l.length := by simp [mfT, mfN]; omega
theorem mfT_set (s : Nat) (l : List Fld) (k : Nat) (h : k < l.length) : (mfT s l k).set k (mkF s k) = mfT s l (k + 1) := by
  unfold mfT mfN
  have hl : ((List.range k).map (mkF s)).length = k := by simp
  rw [List.set_append_right _ _ (by omega), hl, Nat.sub_self, List.drop_eq_getElem_cons h, List.set_cons_zero, List.range_succ, List.map_append, List.append_assoc]; rfl
theorem mfT_all (s : Nat) (l : List Fld) : mfT s l l.length = mfN s l.length := by unfold mfT; simp
theorem mfN_len (s n : Nat) : (mfN s n).length = n := by simp [mfN]
/-- A step of the marking: a row of its own, and what is told of the world since. -/
structure MfS (w : World) (base g n cap : Nat) (row : List Value) (x : World) : Prop where
  own : x.ownsRow base 122 5 (.slice (some ⟨g, 0, none⟩) n cap) n row
  gr : w.grownBy x (some g)
theorem MfS.cell {w : World} {base g n cap : Nat} {row : List Value} {x y : World} (h : MfS w base g n cap row x) (hb : Below x.heap.size x y) (i : Nat) (hi : i < n * 5) : (∃ v, y.cell? ⟨g, i, none⟩ = some v) ∧ y.frozen? ⟨g, i, none⟩ = false := by
  have ho := ownS_below h.own hb
  refine ⟨?_, ho.frozenAt _⟩
  rw [ho.cellAt i hi]
  have hl : row.length = n * 5 := h.own.1
  exact ⟨row[i]'(by omega), List.getElem?_eq_getElem (by omega)⟩
theorem MfS.step {w : World} {base g n cap : Nat} {row : List Value} {x y : World} (h : MfS w base g n cap row x) (hb : Below x.heap.size x y) (i : Nat) (v : Value) : MfS w base g n cap (row.set i v) (y.setCell ⟨g, i, none⟩ v) := by
  have ho := ownS_below h.own hb
  have hst := ho.stored i v
  refine ⟨hst.1, ?_⟩
  have a := h.gr
  have a2 := hst.2
  refine ⟨(a2.os.trans hb.os).trans a.os, (a2.tape.trans hb.tape).trans a.tape, (a2.output.trans hb.output).trans a.output, by have := a.size; have := hb.size; have := a2.size; omega, fun q hq hne => ?_⟩
  have l1 := Nat.lt_of_lt_of_le hq a.size
  have l3 := Nat.lt_of_lt_of_le l1 hb.size
  exact (a2.block q l3 hne).trans ((hb.block q l1).trans (a.block q hq hne))
theorem mod3 (z : Int) (k : Nat) (hz : z = (k : Int)) : (z % 3 == 0) = decide (k % 3 = 0) := by
  subst hz
  rw [Bool.eq_iff_iff, beq_iff_eq, decide_eq_true_iff]; omega

end Go.Proofs.YtonleickhincgaaGreatDoor
/-
  What the laws' own helpers answer for rows: szRow, toRow, eqRow, eqRowOut (of two that are alike).
  Conditions: the slices' cells hold the fields.
-/
namespace Go.Proofs.YtonleickhincgaaGreatDoor
open Go.RowKit Go.Lib
set_option linter.unusedVariables false
set_option maxRecDepth 20000

end Go.Proofs.YtonleickhincgaaGreatDoor
/-
  szStringS from any number on.
-/
namespace Go.Proofs.YtonleickhincgaaGreatDoor
open Go.RowKit Go.Lib
set_option linter.unusedVariables false

def SzTo (r l0 : Int) (ss : List ByteArray) : Prop := r = -1 ∨ (0 ≤ r ∧ r ≤ l0 ∧ ss.length ≤ 1048576 ∧ ∀ x ∈ ss, x.size ≤ 1048576)
end Go.Proofs.YtonleickhincgaaGreatDoor
/-
  What the laws' own helpers answer for rows and logs: szRowS, szLog (of few and small ones a number that is not below 0, else -1), toRowS, toLog (a copy in new memory), eqRowS, eqLog (of what is alike true).
-/
namespace Go.Proofs.YtonleickhincgaaGreatDoor
open Go.RowKit Go.Lib
set_option linter.unusedVariables false
set_option maxRecDepth 20000

def RwsBig (rs : List Rw) : Prop := ∀ r ∈ rs, r.fs.length ≤ 9223372036854775807 ∧ r.k.size ≤ 9223372036854775807 ∧ FldsBig r.fs
def cutR (rs : List Rw) (xs : List (Rw × Nat)) : List Rc := xs.map rcOf ++ List.replicate (rs.length - xs.length) rcE
/-- k rows are copied. -/
structure CpR (w : World) (rs : List Rw) (k : Nat) (W : World) : Prop where
  ex : ∃ xs : List (Rw × Nat), xs.map (·.1) = rs.take k ∧ BlkR W w.heap.size (cutR rs xs) ∧ (∀ x ∈ xs, BlkF W x.2 x.1.fs) ∧ (∀ x ∈ xs, w.heap.size < x.2) ∧ xs.Pairwise (fun x y => x.2 < y.2)
  bel : Below w.heap.size w W
theorem cutR_set (rs : List Rw) (xs : List (Rw × Nat)) (x : Rw × Nat) (h : xs.length < rs.length) : (cutR rs xs).set xs.length (rcOf x) = cutR rs (xs ++ [x]) := by
  unfold cutR
  rw [List.set_append_right _ _ (by simp)]
  simp only [List.length_map, Nat.sub_self, List.map_append, List.map_cons, List.map_nil, List.append_assoc, List.length_append, List.length_cons, List.length_nil]
  congr 1
  obtain ⟨m, hm⟩ : ∃ m, rs.length - xs.length = m + 1 := ⟨rs.length - xs.length - 1, by omega⟩
  rw [hm, show rs.length - (xs.length + (0 + 1)) = m by omega, List.replicate_succ]
  rfl
theorem CpR.put {w : World} {rs : List Rw} {k : Nat} {W y : World} (h : CpR w rs k W) (hk : k < rs.length) {g : Nat} (hb : Below W.heap.size W y) (hg : W.heap.size ≤ g) (hf : BlkF y g rs[k].fs) : CpR w rs (k + 1) (set3 y w.heap.size (k * 3) (rcOf (rs[k], g))) := by
  obtain ⟨xs, h1, h2, h3, h4, h5⟩ := h.ex
  have hl : xs.length = k := by have := congrArg List.length h1; simp at this; omega
  have hlt : w.heap.size < W.heap.size := Bxs.lt h2
  refine ⟨⟨xs ++ [(rs[k], g)], ?_, ?_, ?_, ?_, ?_⟩, set3_below (chainB h.bel hb) (Nat.le_refl _) _ _⟩
  · rw [List.map_append, h1, List.take_succ_eq_append_getElem hk]; rfl
  · rw [← cutR_set rs xs _ (by omega), hl]
    exact BlkR.set3 (Bxs.below h2 hb) k _
  · intro x hx
    rcases List.mem_append.1 hx with hx | hx
    · have hx2 := h4 x hx
      exact set3_other (Bxs.below (h3 x hx) hb) (by omega) _
    · rw [List.mem_singleton] at hx
      subst hx
      exact set3_other hf (by simp; omega) _
  · intro x hx
    rcases List.mem_append.1 hx with hx | hx
    · exact h4 x hx
    · rw [List.mem_singleton] at hx
      subst hx
      simp; omega
  · rw [List.pairwise_append]
    refine ⟨h5, List.pairwise_singleton _ _, fun a ha b hb' => ?_⟩
    rw [List.mem_singleton] at hb'
    subst hb'
    have := Bxs.lt (h3 a ha)
    simp; omega
theorem CpR.slot {w : World} {rs : List Rw} {k : Nat} {W : World} (h : CpR w rs k W) (hk : k < rs.length) : (∃ x1 x2 x3, W.cell? ⟨w.heap.size, k * 3, none⟩ = some x1 ∧ W.cell? ⟨w.heap.size, k * 3 + 1, none⟩ = some x2 ∧ W.cell? ⟨w.heap.size, k * 3 + 2, none⟩ = some x3) ∧ W.frozen? ⟨w.heap.size, k * 3, none⟩ = false ∧ W.frozen? ⟨w.heap.size, k * 3 + 1, none⟩ = false ∧ W.frozen? ⟨w.heap.size, k * 3 + 2, none⟩ = false := by
  obtain ⟨xs, h1, h2, -⟩ := h.ex
  have hl : xs.length = k := by have := congrArg List.length h1; simp at this; omega
  obtain ⟨g1, g2⟩ := h2.cells k (by unfold cutR; simp; omega)
  exact ⟨⟨_, _, _, g1⟩, g2⟩
theorem CpR.below {w : World} {rs : List Rw} {k : Nat} {W y : World} (h : CpR w rs k W) (hb : Below W.heap.size W y) : CpR w rs k y := by
  obtain ⟨xs, h1, h2, h3, h4, h5⟩ := h.ex
  exact ⟨⟨xs, h1, Bxs.below h2 hb, fun x hx => (h3 x hx).below hb, h4, h5⟩, chainB h.bel hb⟩
end Go.Proofs.YtonleickhincgaaGreatDoor
/-
  What the laws' own helpers toLog, eqRowS and eqLog answer.
-/
namespace Go.Proofs.YtonleickhincgaaGreatDoor
open Go.RowKit Go.Lib
set_option linter.unusedVariables false
set_option maxRecDepth 20000

/-- A log of its own: a block of rows, the fields of each in a block of their own, and behind all these a block of leaves. -/
structure LgB (w : World) (g : Nat) (xs : List (Rw × Nat)) (gl : Nat) (lv : List ByteArray) : Prop where
  rw : RwsB w g xs
  lf : BlkS w gl lv
  gg : g < gl
  gx : ∀ x ∈ xs, x.2 < gl
theorem LgB.below {w w' : World} {g : Nat} {xs : List (Rw × Nat)} {gl : Nat} {lv : List ByteArray} (h : LgB w g xs gl lv) (hb : Below w.heap.size w w') : LgB w' g xs gl lv := ⟨h.rw.below hb, h.lf.below hb h.lf.lt, h.gg, h.gx⟩
theorem BlkS.bxs {w : World} {g : Nat} {l : List ByteArray} (h : BlkS w g l) : Bxs w g 9 (strRow l).toArray := h
end Go.Proofs.YtonleickhincgaaGreatDoor
/-
  What the laws' own helpers szFieldS, szRow, szRowS, szStringS and szLog answer, the sum kept: of what is few and small a number that is not below 0 and that leaves room for the count of all rows, fields and leaves; else -1.
-/
namespace Go.Proofs.YtonleickhincgaaGreatDoor
open Go.RowKit Go.Lib
set_option linter.unusedVariables false
set_option maxRecDepth 20000

/-- How many fields the rows have, all together. -/
def fsN (rs : List Rw) : Nat := (rs.map (fun r => r.fs.length)).sum
theorem fsN_take (rs : List Rw) (k : Nat) (h : k < rs.length) : fsN (rs.take (k + 1)) = fsN (rs.take k) + rs[k].fs.length := by
  unfold fsN
  rw [List.take_succ_eq_append_getElem h, List.map_append, List.sum_append]; simp
theorem fsN_all (rs : List Rw) : fsN (rs.take rs.length) = fsN rs := by rw [List.take_length]
theorem fsN_mem {rs : List Rw} {x : Rw} (h : x ∈ rs) : x.fs.length ≤ fsN rs := by
  unfold fsN
  induction rs with
  | nil => cases h
  | cons y l ih =>
    rw [List.map_cons, List.sum_cons]
    rcases List.mem_cons.1 h with rfl | h
    · omega
    · have := ih h; omega
end Go.Proofs.YtonleickhincgaaGreatDoor
/-
  What the laws' own helpers markRowS and markLog do with a log of its own: all blocks but the log's own stay.
-/
namespace Go.Proofs.YtonleickhincgaaGreatDoor
open Go.RowKit Go.Lib
set_option linter.unusedVariables false
set_option maxRecDepth 20000

/-- What lay is as it was, but for the blocks of S. -/
structure But (S : Nat → Prop) (w w' : World) : Prop where
  os : w'.os = w.os
  tape : w'.tape = w.tape
  output : w'.output = w.output
  size : w.heap.size ≤ w'.heap.size
  block : ∀ k, k < w.heap.size → ¬ S k → w'.heap[k]? = w.heap[k]?
theorem But.refl (S : Nat → Prop) (w : World) : But S w w := ⟨rfl, rfl, rfl, Nat.le_refl _, fun _ _ _ => rfl⟩
theorem But.more {S : Nat → Prop} {a b c : World} (h : But S a b) (k : Below b.heap.size b c) : But S a c :=
  ⟨k.os.trans h.os, k.tape.trans h.tape, k.output.trans h.output, Nat.le_trans h.size k.size, fun q hq hn => (k.block q (Nat.lt_of_lt_of_le hq h.size)).trans (h.block q hq hn)⟩
theorem But.put {S : Nat → Prop} {a b : World} (h : But S a b) {p : Addr} (hp : S p.block) (v : Value) : But S a (b.setCell p v) :=
  ⟨h.os, h.tape, h.output, by simpa [World.setCell] using h.size, fun q hq hn => (Below.heap_setCell b p v q (fun e => hn (e ▸ hp))).trans (h.block q hq hn)⟩
theorem But.grown {S : Nat → Prop} {a b c : World} (h : But S a b) {g : Nat} (k : b.grownBy c (some g)) (hg : S g) : But S a c :=
  ⟨k.os.trans h.os, k.tape.trans h.tape, k.output.trans h.output, Nat.le_trans h.size k.size, fun q hq hn => (k.block q (Nat.lt_of_lt_of_le hq h.size) (fun e => hn (by cases e; exact hg))).trans (h.block q hq hn)⟩
theorem But.below {S : Nat → Prop} {a b c : World} {B : Nat} (h : Below B a b) (hB : B ≤ b.heap.size) (k : But S b c) (hS : ∀ q, S q → B ≤ q) : Below B a c :=
  ⟨k.os.trans h.os, k.tape.trans h.tape, k.output.trans h.output, Nat.le_trans h.size k.size, fun q hq => (k.block q (Nat.lt_of_lt_of_le hq hB) (fun e => by have := hS q e; omega)).trans (h.block q hq)⟩
theorem Bxs.but {S : Nat → Prop} {w w' : World} {g : Nat} {T : TypeId} {cs : Array Value} (h : Bxs w g T cs) (k : But S w w') (hn : ¬ S g) : Bxs w' g T cs := (k.block g h.lt hn).trans h
theorem ownS_but {S : Nat → Prop} {w w' : World} {base : Nat} {e : TypeId} {s : Nat} {v : Value} {n : Nat} {xs : List Value} (h : w.ownsRow base e s v n xs) (k : But S w w') (hn : ∀ g, v.ownBlock = some g → ¬ S g) : w'.ownsRow base e s v n xs := by
  refine ⟨h.1, ?_⟩
  rcases h.2 with h0 | ⟨g, cap, cur, h1, h2, h3, h4⟩
  · exact .inl h0
  · exact .inr ⟨g, cap, cur, h1, h2, (k.block g (lt_of_block h3) (hn g (by rw [h1]; rfl))).trans h3, h4⟩
/-- How many fields the first k rows have. -/
def fX (xs : List (Rw × Nat)) (k : Nat) : Nat := fsN ((xs.map (·.1)).take k)
theorem fX_step (xs : List (Rw × Nat)) (k : Nat) (h : k < xs.length) : fX xs (k + 1) = fX xs k + xs[k].1.fs.length := by
  unfold fX
  rw [fsN_take _ k (by simpa using h), List.getElem_map]
theorem fX_le (xs : List (Rw × Nat)) (k : Nat) : fX xs k ≤ fsN (xs.map (·.1)) := by
  unfold fX fsN
  conv => rhs; rw [← List.take_append_drop k (xs.map (·.1))]
  rw [List.map_append, List.sum_append]; omega
theorem fX_all (xs : List (Rw × Nat)) : fX xs xs.length = fsN (xs.map (·.1)) := by
  have := fsN_all (xs.map (·.1)); rw [List.length_map] at this; exact this
/-- i rows are marked. -/
structure MkR (S : Nat → Prop) (w : World) (g : Nat) (xs : List (Rw × Nat)) (i : Nat) (x : World) : Prop where
  bl : ∃ row : List Value, row.length = xs.length * 3 ∧ (∀ j (h : j < xs.length), row[j * 3 + 2]? = some (.slice (some ⟨xs[j].2, 0, none⟩) xs[j].1.fs.length xs[j].1.fs.length)) ∧ Bxs x g 100 row.toArray
  fl : ∀ j (h : j < xs.length), i ≤ j → BlkF x xs[j].2 xs[j].1.fs
  but : But S w x
theorem MkR.start {S : Nat → Prop} {w : World} {g : Nat} {xs : List (Rw × Nat)} (h : RwsB w g xs) : MkR S w g xs 0 w := by
  refine ⟨⟨rcRow (xs.map rcOf), by rw [rcRow_len]; simp, fun j hj => ?_, h.blk⟩, fun j hj _ => h.fld _ (List.getElem_mem hj), But.refl _ _⟩
  have := (rcRow_at (xs.map rcOf) j (by simpa using hj)).2.2
  rw [this]; simp [rcOf]
theorem MkR.below {S : Nat → Prop} {w : World} {g : Nat} {xs : List (Rw × Nat)} {i : Nat} {x y : World} (h : MkR S w g xs i x) (hb : Below x.heap.size x y) : MkR S w g xs i y := by
  obtain ⟨row, h1, h2, h3⟩ := h.bl
  exact ⟨⟨row, h1, h2, h3.below hb⟩, fun j hj hi => (h.fl j hj hi).below hb, h.but.more hb⟩
theorem MkR.put {S : Nat → Prop} {w : World} {g : Nat} {xs : List (Rw × Nat)} {i : Nat} {x : World} (h : MkR S w g xs i x) (hS : S g) (hu : ∀ x ∈ xs, g < x.2) (a : Nat) (ha : a % 3 ≠ 2) (v : Value) : MkR S w g xs i (x.setCell ⟨g, a, none⟩ v) := by
  obtain ⟨row, h1, h2, h3⟩ := h.bl
  refine ⟨⟨row.set a v, by simpa using h1, fun j hj => ?_, bxs_set1 h3 a v⟩, fun j hj hi => ?_, h.but.put hS v⟩
  · rw [List.getElem?_set_ne (by omega)]; exact h2 j hj
  · have := hu _ (List.getElem_mem hj)
    exact Bxs.other (h.fl j hj hi) _ _ (by omega) _
theorem MkR.cells {S : Nat → Prop} {w : World} {g : Nat} {xs : List (Rw × Nat)} {i : Nat} {x : World} (h : MkR S w g xs i x) (j : Nat) (hj : j < xs.length) : (∃ v, x.cell? ⟨g, j * 3, none⟩ = some v) ∧ (∃ v, x.cell? ⟨g, j * 3 + 1, none⟩ = some v) ∧ x.cell? ⟨g, j * 3 + 2, none⟩ = some (.slice (some ⟨xs[j].2, 0, none⟩) xs[j].1.fs.length xs[j].1.fs.length) ∧ x.frozen? ⟨g, j * 3, none⟩ = false ∧ x.frozen? ⟨g, j * 3 + 1, none⟩ = false := by
  obtain ⟨row, h1, h2, h3⟩ := h.bl
  have hc : ∀ a, x.cell? ⟨g, a, none⟩ = row[a]? := fun a => by rw [h3.cell a]; simp
  refine ⟨⟨row[j * 3]'(by omega), ?_⟩, ⟨row[j * 3 + 1]'(by omega), ?_⟩, ?_, h3.fr _, h3.fr _⟩
  · rw [hc]; exact List.getElem?_eq_getElem _
  · rw [hc]; exact List.getElem?_eq_getElem _
  · rw [hc]; exact h2 j hj
theorem MkR.fields {S : Nat → Prop} {w : World} {g : Nat} {xs : List (Rw × Nat)} {i : Nat} {x y : World} (h : MkR S w g xs i x) (hi : i < xs.length) (hS : S xs[i].2) (hu : ∀ x ∈ xs, g < x.2) (ha : xs.Pairwise (fun x y => x.2 < y.2)) (hg : x.grownBy y (some xs[i].2)) : MkR S w g xs (i + 1) y := by
  obtain ⟨row, h1, h2, h3⟩ := h.bl
  have := hu _ (List.getElem_mem hi)
  refine ⟨⟨row, h1, h2, h3.grown hg (fun e => by have := Option.some.inj e; omega)⟩, fun j hj hij => ?_, h.but.grown hg hS⟩
  have hl := List.pairwise_iff_getElem.1 ha i j hi hj (by omega)
  exact Bxs.grown (h.fl j hj (by omega)) hg (fun e => by have := Option.some.inj e; omega)

/-- The blocks of a log of its own. -/
def lgS (g : Nat) (xs : List (Rw × Nat)) (gl : Nat) (k : Nat) : Prop := k = g ∨ k = gl ∨ ∃ x ∈ xs, k = x.2
theorem lgS_from {w : World} {g : Nat} {xs : List (Rw × Nat)} {gl : Nat} {lv : List ByteArray} (h : LgB w g xs gl lv) {q : Nat} (hq : lgS g xs gl q) : g ≤ q ∧ q < w.heap.size := by
  rcases hq with rfl | rfl | ⟨x, hx, rfl⟩
  · exact ⟨Nat.le_refl _, h.rw.lt⟩
  · exact ⟨Nat.le_of_lt h.gg, h.lf.lt⟩
  · exact ⟨Nat.le_of_lt (h.rw.up x hx), Bxs.lt (h.rw.fld x hx)⟩
end Go.Proofs.YtonleickhincgaaGreatDoor
/-
  What the specification's l09Proof and ProofAt and the program's proofAt and ProofAt answer: of a right log and a leaf that is there the proof of it, else nothing; the answer owns its memory.
-/
namespace Go.Proofs.YtonleickhincgaaGreatDoor
open Go.RowKit Go.Lib
set_option linter.unusedVariables false
set_option maxRecDepth 20000

def pfOk (rs : List Rw) (lv : List ByteArray) (now i : Int) : Prop := lgB rs lv now = true ∧ 0 ≤ i ∧ i < (lv.length : Int)
instance (rs : List Rw) (lv : List ByteArray) (now i : Int) : Decidable (pfOk rs lv now i) := by unfold pfOk; exact inferInstance
def pfL (rs : List Rw) (lv : List ByteArray) (now i : Int) : ByteArray := if pfOk rs lv now i then lv.getD i.toNat ⟨#[]⟩ else ⟨#[]⟩
def pfI (rs : List Rw) (lv : List ByteArray) (now i : Int) : Int := if pfOk rs lv now i then i else 0
def pfS (rs : List Rw) (lv : List ByteArray) (now i : Int) : Int := if pfOk rs lv now i then (lv.length : Int) else 0
def pfP (rs : List Rw) (lv : List ByteArray) (now i : Int) : List ByteArray := if pfOk rs lv now i then pathB lv i.toNat else []
theorem pf_no {rs : List Rw} {lv : List ByteArray} {now i : Int} (h : ¬ pfOk rs lv now i) : pfL rs lv now i = ⟨#[]⟩ ∧ pfI rs lv now i = 0 ∧ pfS rs lv now i = 0 ∧ pfP rs lv now i = [] := ⟨if_neg h, if_neg h, if_neg h, if_neg h⟩
theorem pf_yes {rs : List Rw} {lv : List ByteArray} {now : Int} {I : Nat} (h : pfOk rs lv now (I : Int)) (hI : I < lv.length) : pfL rs lv now (I : Int) = lv[I] ∧ pfI rs lv now (I : Int) = (I : Int) ∧ pfS rs lv now (I : Int) = (lv.length : Int) ∧ pfP rs lv now (I : Int) = pathB lv I := by
  unfold pfL pfI pfS pfP
  rw [if_pos h, if_pos h, if_pos h, if_pos h, Int.toNat_natCast]
  refine ⟨?_, rfl, rfl, rfl⟩
  rw [List.getD_eq_getElem?_getD, List.getElem?_eq_getElem hI]; rfl
theorem below_set4' {w y : World} (hb : Below w.heap.size w y) {g : Nat} (hg : w.heap.size ≤ g) (a b c d : Value) : Below w.heap.size w ((((y.setCell ⟨g, 0, none⟩ a).setCell ⟨g, 1, none⟩ b).setCell ⟨g, 2, none⟩ c).setCell ⟨g, 3, none⟩ d) := below_set4 hb hg _ _ _ _
theorem prf_out {w y : World} (hb : Below w.heap.size w y) {g base : Nat} (hg : w.heap.size ≤ g) (hgb : g < base) {v : Value} {P : List ByteArray} (o : y.ownsRow base 9 1 v P.length (strRow P)) (a b c d : Value) :
    ((((y.setCell ⟨g, 0, none⟩ a).setCell ⟨g, 1, none⟩ b).setCell ⟨g, 2, none⟩ c).setCell ⟨g, 3, none⟩ d).ownsRow w.heap.size 9 1 v P.length (strRow P) ∧ Below w.heap.size w ((((y.setCell ⟨g, 0, none⟩ a).setCell ⟨g, 1, none⟩ b).setCell ⟨g, 2, none⟩ c).setCell ⟨g, 3, none⟩ d) := by
  have hB : But (fun k => k = g) y ((((y.setCell ⟨g, 0, none⟩ a).setCell ⟨g, 1, none⟩ b).setCell ⟨g, 2, none⟩ c).setCell ⟨g, 3, none⟩ d) := ((((But.refl (fun k => k = g) y).put (p := ⟨g, 0, none⟩) rfl a).put (p := ⟨g, 1, none⟩) rfl b).put (p := ⟨g, 2, none⟩) rfl c).put (p := ⟨g, 3, none⟩) rfl d
  exact ⟨ownS_mono (ownS_but o hB (fun j hj e => by have := (o.lt j hj).1; omega)) (by omega), below_set4 hb hg _ _ _ _⟩
theorem prf_none (w y : World) : y.ownsRow w.heap.size 9 1 (.slice none 0 0) ([] : List ByteArray).length (strRow []) := World.ownsRow_nil _ _ _ _
set_option maxHeartbeats 1000000 in
theorem l09Proof_any (p : Option Addr) (lv : List ByteArray) (cp : Nat) (q : Option Addr) (rs : List Rw) (cq : Nat) (now : Int) (I : Nat) (w : World) (hA : LgAt p lv cp q rs cq w) (hI : I < lv.length) (h64 : lv.length ≤ 64) (h100 : ∀ t ∈ lv, t.size ≤ 100) :
    Calls Tryz.prog 61 #[.agg #[.slice q rs.length cq, .slice p lv.length cp, .int .i64 now], .int .i64 (I : Int)] w fun e w' => ∃ v, e = .returned (.agg #[.string lv[I], .int .i64 (I : Int), .int .i64 (lv.length : Int), v]) ∧ w'.ownsRow w.heap.size 9 1 v (pathB lv I).length (strRow (pathB lv I)) ∧ Below w.heap.size w w' := by
  obtain ⟨b, off, rfl, hb0, hc0⟩ := hA.tx I hI
  obtain ⟨W2, hW2⟩ : ∃ W2, W2 = (w.alloc (.cells #[.slice q rs.length cq, .slice (some ⟨b, off, none⟩) lv.length cp, .int .i64 now] 41)).alloc (.cells #[.string ⟨#[]⟩, .int .i64 0, .int .i64 0, .slice none 0 0] 45) := ⟨_, rfl⟩
  have HW2 : Hid (W2 = (w.alloc (.cells #[.slice q rs.length cq, .slice (some ⟨b, off, none⟩) lv.length cp, .int .i64 now] 41)).alloc (.cells #[.string ⟨#[]⟩, .int .i64 0, .int .i64 0, .slice none 0 0] 45)) := hW2
  have B2 : Hid (Below w.heap.size w W2) := by rw [hW2]; exact ((Below.refl _ _).alloc (Nat.le_refl _) _).alloc (by simp) _
  have K1 : Hid (Bxs W2 w.heap.size 41 #[.slice q rs.length cq, .slice (some ⟨b, off, none⟩) lv.length cp, .int .i64 now]) := by rw [hW2]; exact (Bxs.new _ _ _).alloc _
  have K2 : Hid (Bxs W2 (w.heap.size + 1) 45 #[.string ⟨#[]⟩, .int .i64 0, .int .i64 0, .slice none 0 0]) := by
    rw [hW2]
    have := Bxs.new (w.alloc (.cells #[.slice q rs.length cq, .slice (some ⟨b, off, none⟩) lv.length cp, .int .i64 now] 41)) 45 #[.string ⟨#[]⟩, .int .i64 0, .int .i64 0, .slice none 0 0]
    rwa [szA] at this
  have HP : Hid (∀ x, Below w.heap.size w x → Calls Tryz.prog 108 #[.slice (some ⟨b, off, none⟩) lv.length cp, .int .i64 (I : Int)] x fun e w' => ∃ v, e = .returned v ∧ w'.ownsRow x.heap.size 9 1 v (pathB lv I).length (strRow (pathB lv I)) ∧ Below x.heap.size x w') := fun x hb => path2_any lv.length (some ⟨b, off, none⟩) cp lv I x rfl (hA.tx.below hb) (by omega) hA.lc h100 hI
  have HK : Hid (∀ y, Below W2.heap.size W2 y → (y.cell? ⟨w.heap.size + 1, 0, none⟩ = some (.string ⟨#[]⟩) ∧ y.cell? ⟨w.heap.size + 1, 1, none⟩ = some (.int .i64 0) ∧ y.cell? ⟨w.heap.size + 1, 2, none⟩ = some (.int .i64 0) ∧ y.cell? ⟨w.heap.size + 1, 3, none⟩ = some (.slice none 0 0)) ∧ y.frozen? ⟨w.heap.size + 1, 0, none⟩ = false ∧ y.frozen? ⟨w.heap.size + 1, 1, none⟩ = false ∧ y.frozen? ⟨w.heap.size + 1, 2, none⟩ = false ∧ y.frozen? ⟨w.heap.size + 1, 3, none⟩ = false) := fun y hb => ⟨⟨(K2.out.below hb).cell 0, (K2.out.below hb).cell 1, (K2.out.below hb).cell 2, (K2.out.below hb).cell 3⟩, (K2.out.below hb).fr 0, (K2.out.below hb).fr 1, (K2.out.below hb).fr 2, (K2.out.below hb).fr 3⟩
  have HZ : Hid (w.heap.size + 1 < W2.heap.size) := K2.out.lt
  have i1 : (I : Int) < lv.length := by omega
  have hcp := hA.lc
  have HX : Hid (∀ x, Below W2.heap.size W2 x → x.cell? ⟨w.heap.size, 1, none⟩ = some (.slice (some ⟨b, off, none⟩) lv.length cp) ∧ x.cell? ⟨b, off + I, none⟩ = some (.string lv[I])) := fun x hb => ⟨(K1.out.below hb).cell 1, ((chainB B2.out hb).cell (p := ⟨b, off + I, none⟩) hb0).trans hc0⟩
  generalize lv[I] = t at *
  generalize pathB lv I = PB at *
  clear hW2 hA K1 K2 hc0 hb0 h100 hI
  go_enter Tryz.func61, Tryz.ntmps61
  go_upto_region 4 with fail
  rw [← HW2.out]
  refine region_till ((fun w' => w'.cell? ⟨w.heap.size, 1, none⟩ = some (.slice (some ⟨b, off, none⟩) lv.length cp) ∧ w'.cell? ⟨b, off + I, none⟩ = some (.string t))) 14 (by kernel_rfl) (HX.out _ (Below.refl _ _).drew) (fun hHeld => ?_)
  refine till_take 0 (v := ?_) rfl (by kernel_rfl) (by kernel_rfl) (by kernel_rfl) (by kernel_rfl) (fun _ _ _ h => h) hHeld (Or.inl ⟨by rfl, ?_⟩) ?_
  rotate_left
  · (intro w hSw; (try dsimp only at hSw); go_simp; try with_reducible rfl)
  simp only [Act.put, List.setIfInBounds_toArray, List.set_cons_zero, List.set_cons_succ]
  refine till_take 1 (v := ?_) rfl (by kernel_rfl) (by kernel_rfl) (by kernel_rfl) (by kernel_rfl) (fun _ _ _ h => h) hHeld (Or.inl ⟨by rfl, ?_⟩) ?_
  rotate_left
  · (intro w hSw; (try dsimp only at hSw); go_simp; try with_reducible rfl)
  simp only [Act.put, List.setIfInBounds_toArray, List.set_cons_zero, List.set_cons_succ]
  refine till_take 2 (v := ?_) rfl (by kernel_rfl) (by kernel_rfl) (by kernel_rfl) (by kernel_rfl) (fun _ _ _ h => h) hHeld (Or.inl ⟨by rfl, ?_⟩) ?_
  rotate_left
  · (intro w hSw; (try dsimp only at hSw); go_simp; try with_reducible rfl)
  simp only [Act.put, List.setIfInBounds_toArray, List.set_cons_zero, List.set_cons_succ]
  refine till_take 3 (v := ?_) rfl (by kernel_rfl) (by kernel_rfl) (by kernel_rfl) (by kernel_rfl) (fun _ _ _ h => h) hHeld (Or.inl ⟨by rfl, ?_⟩) ?_
  rotate_left
  · (intro w hSw; (try dsimp only at hSw); go_simp; try with_reducible rfl)
  simp only [Act.put, List.setIfInBounds_toArray, List.set_cons_zero, List.set_cons_succ]
  refine till_take 4 (v := ?_) rfl (by kernel_rfl) (by kernel_rfl) (by kernel_rfl) (by kernel_rfl) (fun _ _ _ h => h) hHeld (Or.inl ⟨by rfl, ?_⟩) ?_
  rotate_left
  · (intro w hSw; (try dsimp only at hSw); go_simp; try with_reducible rfl)
  simp only [Act.put, List.setIfInBounds_toArray, List.set_cons_zero, List.set_cons_succ]
  refine till_take 5 (v := ?_) rfl (by kernel_rfl) (by kernel_rfl) (by kernel_rfl) (by kernel_rfl) (fun _ _ _ h => h) hHeld (Or.inl ⟨by rfl, ?_⟩) ?_
  rotate_left
  · (intro w hSw; (try dsimp only at hSw); go_simp; try with_reducible rfl)
  simp only [Act.put, List.setIfInBounds_toArray, List.set_cons_zero, List.set_cons_succ]
  refine till_take 6 (v := ?_) rfl (by kernel_rfl) (by kernel_rfl) (by kernel_rfl) (by kernel_rfl) (fun _ _ _ h => h) hHeld (Or.inl ⟨by rfl, ?_⟩) ?_
  rotate_left
  · (intro w hSw; (try dsimp only at hSw); go_simp; try with_reducible rfl)
  simp only [Act.put, List.setIfInBounds_toArray, List.set_cons_zero, List.set_cons_succ]
  refine till_take 7 (v := ?_) rfl (by kernel_rfl) (by kernel_rfl) (by kernel_rfl) (by kernel_rfl) (fun _ _ _ h => h) hHeld (Or.inl ⟨by rfl, ?_⟩) ?_
  rotate_left
  · (intro w hSw; (try dsimp only at hSw); go_simp; try with_reducible rfl)
  simp only [Act.put, List.setIfInBounds_toArray, List.set_cons_zero, List.set_cons_succ]
  refine till_take 8 (v := ?_) rfl (by kernel_rfl) (by kernel_rfl) (by kernel_rfl) (by kernel_rfl) (fun _ _ _ h => h) hHeld (Or.inl ⟨by rfl, ?_⟩) ?_
  rotate_left
  · (intro w hSw; (try dsimp only at hSw); go_simp; try with_reducible rfl)
  simp only [Act.put, List.setIfInBounds_toArray, List.set_cons_zero, List.set_cons_succ]
  refine till_take 9 (v := ?_) rfl (by kernel_rfl) (by kernel_rfl) (by kernel_rfl) (by kernel_rfl) (fun _ _ _ h => h) hHeld (Or.inl ⟨by rfl, ?_⟩) ?_
  rotate_left
  · (intro w hSw; (try dsimp only at hSw); go_simp; try with_reducible rfl)
  simp only [Act.put, List.setIfInBounds_toArray, List.set_cons_zero, List.set_cons_succ]
  refine till_take 10 (v := ?_) rfl (by kernel_rfl) (by kernel_rfl) (by kernel_rfl) (by kernel_rfl) (fun _ _ _ h => h) hHeld (Or.inl ⟨by rfl, ?_⟩) ?_
  rotate_left
  · (intro w hSw; (try dsimp only at hSw); go_simp; try with_reducible rfl)
  simp only [Act.put, List.setIfInBounds_toArray, List.set_cons_zero, List.set_cons_succ]
  refine till_take 11 (v := ?_) rfl (by kernel_rfl) (by kernel_rfl) (by kernel_rfl) (by kernel_rfl) (fun _ _ _ h => h) hHeld (Or.inl ⟨by rfl, ?_⟩) ?_
  rotate_left
  · (intro w hSw; (try dsimp only at hSw); go_simp; try with_reducible rfl)
  simp only [Act.put, List.setIfInBounds_toArray, List.set_cons_zero, List.set_cons_succ]
  refine till_ready 12 rfl (by kernel_rfl) (fun K hK => ?_)
  go_simp
  (go_at_call 108; with_reducible refine (HP.out _ (chainB B2.out (Below.refl _ _).drew)).mono ?_; rintro e y1 ⟨v, rfl, o1, zb⟩)
  obtain ⟨pv, cv, rfl, mv, -⟩ := ownS_form o1
  have by1 : Below W2.heap.size W2 y1 := chainB (Below.refl _ _).drew zb
  obtain ⟨⟨r0, r1, r2, r3⟩, f0, f1, f2, f3⟩ := HK.out y1 by1
  refine hK.out _ _ (HX.out _ by1) (fun hHeld => ?_)
  clear hK K
  try simp only [Act.put, List.setIfInBounds_toArray, List.set_cons_zero, List.set_cons_succ]
  refine till_take 13 (v := ?_) rfl (by kernel_rfl) (by kernel_rfl) (by kernel_rfl) (by kernel_rfl) (fun _ _ _ h => h) hHeld (Or.inl ⟨by rfl, ?_⟩) ?_
  rotate_left
  · (intro w hSw; (try dsimp only at hSw); go_simp; try with_reducible rfl)
  simp only [Act.put, List.setIfInBounds_toArray, List.set_cons_zero, List.set_cons_succ]
  refine till_last rfl (by kernel_rfl) (by kernel_rfl) (fun K hK => ?_)
  go_simp
  refine hK.out _ _ ?_
  clear hK K
  have hz := HZ.out
  have HO : Hid (∀ a b c d : Value, _) := fun a b c d => prf_out (chainB B2.out by1) (g := w.heap.size + 1) (by omega) (by simp only [szD]; omega) o1 a b c d
  go_wp2_with fail
  refine bodyPost_ret (v := .agg #[.string t, .int .i64 (I : Int), .int .i64 (lv.length : Int), .slice pv PB.length cv]) (by simp [results, Tryz.results61, go_sem, r0, r1, r2, r3]) rfl ?_
  obtain ⟨h1, h3⟩ := HO.out (.string t) (.int .i64 (I : Int)) (.int .i64 (lv.length : Int)) (.slice pv PB.length cv)
  exact ⟨_, rfl, h1, h3⟩
set_option maxHeartbeats 1000000 in
theorem specProofAt_any (p : Option Addr) (lv : List ByteArray) (cp : Nat) (q : Option Addr) (rs : List Rw) (cq : Nat) (now : Int) (i : Int) (w : World) (hA : LgAt p lv cp q rs cq w) :
    Calls Tryz.prog 65 #[.agg #[.slice q rs.length cq, .slice p lv.length cp, .int .i64 now], .int .i64 i] w fun e w' => ∃ v, e = .returned (.agg #[.string (pfL rs lv now i), .int .i64 (pfI rs lv now i), .int .i64 (pfS rs lv now i), v]) ∧ w'.ownsRow w.heap.size 9 1 v (pfP rs lv now i).length (strRow (pfP rs lv now i)) ∧ Below w.heap.size w w' := by
  obtain ⟨W2, hW2⟩ : ∃ W2, W2 = (w.alloc (.cells #[.slice q rs.length cq, .slice p lv.length cp, .int .i64 now] 41)).alloc (.cells #[.string ⟨#[]⟩, .int .i64 0, .int .i64 0, .slice none 0 0] 45) := ⟨_, rfl⟩
  have HW2 : Hid (W2 = (w.alloc (.cells #[.slice q rs.length cq, .slice p lv.length cp, .int .i64 now] 41)).alloc (.cells #[.string ⟨#[]⟩, .int .i64 0, .int .i64 0, .slice none 0 0] 45)) := hW2
  have B2 : Hid (Below w.heap.size w W2) := by rw [hW2]; exact ((Below.refl _ _).alloc (Nat.le_refl _) _).alloc (by simp) _
  have K1 : Hid (Bxs W2 w.heap.size 41 #[.slice q rs.length cq, .slice p lv.length cp, .int .i64 now]) := by rw [hW2]; exact (Bxs.new _ _ _).alloc _
  have K2 : Hid (Bxs W2 (w.heap.size + 1) 45 #[.string ⟨#[]⟩, .int .i64 0, .int .i64 0, .slice none 0 0]) := by
    rw [hW2]
    have := Bxs.new (w.alloc (.cells #[.slice q rs.length cq, .slice p lv.length cp, .int .i64 now] 41)) 45 #[.string ⟨#[]⟩, .int .i64 0, .int .i64 0, .slice none 0 0]
    rwa [szA] at this
  have hR := specLogRight_any p lv cp q rs cq now W2 (hA.below B2.out)
  have HK : Hid (∀ y, Below W2.heap.size W2 y → (y.cell? ⟨w.heap.size + 1, 0, none⟩ = some (.string ⟨#[]⟩) ∧ y.cell? ⟨w.heap.size + 1, 1, none⟩ = some (.int .i64 0) ∧ y.cell? ⟨w.heap.size + 1, 2, none⟩ = some (.int .i64 0) ∧ y.cell? ⟨w.heap.size + 1, 3, none⟩ = some (.slice none 0 0)) ∧ y.frozen? ⟨w.heap.size + 1, 0, none⟩ = false ∧ y.frozen? ⟨w.heap.size + 1, 1, none⟩ = false ∧ y.frozen? ⟨w.heap.size + 1, 2, none⟩ = false ∧ y.frozen? ⟨w.heap.size + 1, 3, none⟩ = false) := fun y hb => ⟨⟨(K2.out.below hb).cell 0, (K2.out.below hb).cell 1, (K2.out.below hb).cell 2, (K2.out.below hb).cell 3⟩, (K2.out.below hb).fr 0, (K2.out.below hb).fr 1, (K2.out.below hb).fr 2, (K2.out.below hb).fr 3⟩
  have HZ : Hid (w.heap.size + 1 < W2.heap.size) := K2.out.lt
  have HL : Hid (∀ y, Below W2.heap.size W2 y → y.cell? ⟨w.heap.size, 0, none⟩ = some (.slice q rs.length cq) ∧ y.cell? ⟨w.heap.size, 1, none⟩ = some (.slice p lv.length cp) ∧ y.cell? ⟨w.heap.size, 2, none⟩ = some (.int .i64 now)) := fun y hb => ⟨(K1.out.below hb).cell 0, (K1.out.below hb).cell 1, (K1.out.below hb).cell 2⟩
  have hln := hA.ln
  have hIs := fun x => l07Is_any i 0 ((lv.length : Int) - 1) x
  have HA : Hid (∀ x, Below w.heap.size w x → LgAt p lv cp q rs cq x) := fun x hb => hA.below hb
  obtain ⟨x0, x1, x2⟩ := HL.out W2 (Below.refl _ _)
  rw [HW2.out] at x0 x1 x2
  clear hW2 hA K1 K2
  by_cases hg : lgB rs lv now = true
  · by_cases h1 : 0 ≤ i ∧ i ≤ (lv.length : Int) - 1
    · rw [decide_eq_true h1] at hIs
      obtain ⟨I, rfl⟩ : ∃ I : Nat, i = (I : Int) := ⟨i.toNat, by omega⟩
      have hI : I < lv.length := by omega
      obtain ⟨e1, e2, e3, e4⟩ := pf_yes (rs := rs) (now := now) ⟨hg, by omega, by omega⟩ hI
      rw [e1, e2, e3, e4]
      have HP : Hid (∀ x, Below w.heap.size w x → Calls Tryz.prog 61 #[.agg #[.slice q rs.length cq, .slice p lv.length cp, .int .i64 now], .int .i64 (I : Int)] x fun e w' => ∃ v, e = .returned (.agg #[.string lv[I], .int .i64 (I : Int), .int .i64 (lv.length : Int), v]) ∧ w'.ownsRow x.heap.size 9 1 v (pathB lv I).length (strRow (pathB lv I)) ∧ Below x.heap.size x w') := fun x hb => l09Proof_any p lv cp q rs cq now I x (HA.out x hb) hI (lg_right hg).2.1 (lg_small hg)
      rw [hg] at hR
      generalize lv[I] = t at *
      generalize pathB lv I = PB at *
      clear e1 e2 e3 e4 h1 hg HA
      go_enter Tryz.func65, Tryz.ntmps65
      go_wp2_with fail
      rw [← HW2.out]
      refine hR.mono ?_
      rintro e y ⟨rfl, by_⟩
      clear hR x0 x1 x2 HW2
      obtain ⟨x0, x1, x2⟩ := HL.out y by_
      have hI2 := hIs y
      clear hIs
      go_wp2_with fail
      refine hI2.mono ?_
      rintro e y2 ⟨rfl, rfl⟩
      have hP := HP.out _ (chainB B2.out by_)
      clear hI2 HP
      go_wp2_with fail
      refine hP.mono ?_
      rintro e y3 ⟨v, rfl, o1, b3⟩
      obtain ⟨pv, cv, rfl, mv, -⟩ := ownS_form o1
      have by2 : Below W2.heap.size W2 y3 := chainB by_ b3
      obtain ⟨⟨r0, r1, r2, r3⟩, f0, f1, f2, f3⟩ := HK.out y3 by2
      have hz := HZ.out
      have hz2 := by_.size
      clear hP x0 x1 x2 HL b3
      have HO : Hid (∀ a b c d : Value, _) := fun a b c d => prf_out (chainB B2.out by2) (g := w.heap.size + 1) (by omega) (by omega) o1 a b c d
      clear HK B2 o1
      go_wp2_with fail
      refine bodyPost_ret (v := .agg #[.string t, .int .i64 (I : Int), .int .i64 (lv.length : Int), .slice pv PB.length cv]) (by simp [results, Tryz.results65, go_sem, r0, r1, r2, r3]) rfl ?_
      obtain ⟨h1, h3⟩ := HO.out (.string t) (.int .i64 (I : Int)) (.int .i64 (lv.length : Int)) (.slice pv PB.length cv)
      exact ⟨_, rfl, h1, h3⟩
    · rw [decide_eq_false h1] at hIs
      obtain ⟨e1, e2, e3, e4⟩ := pf_no (rs := rs) (lv := lv) (now := now) (i := i) (fun h => h1 ⟨h.2.1, by have := h.2.2; omega⟩)
      rw [e1, e2, e3, e4]
      rw [hg] at hR
      clear e1 e2 e3 e4 h1 hg HA
      go_enter Tryz.func65, Tryz.ntmps65
      go_wp2_with fail
      rw [← HW2.out]
      refine hR.mono ?_
      rintro e y ⟨rfl, by_⟩
      clear hR x0 x1 x2 HW2
      obtain ⟨x0, x1, x2⟩ := HL.out y by_
      have hI2 := hIs y
      clear hIs
      go_wp2_with fail
      refine hI2.mono ?_
      rintro e y2 ⟨rfl, rfl⟩
      clear hI2 HL x0 x1 x2
      obtain ⟨⟨r0, r1, r2, r3⟩, f0, f1, f2, f3⟩ := HK.out y2 by_
      have HB : Hid (∀ a b c d : Value, Below w.heap.size w ((((y2.setCell ⟨w.heap.size + 1, 0, none⟩ a).setCell ⟨w.heap.size + 1, 1, none⟩ b).setCell ⟨w.heap.size + 1, 2, none⟩ c).setCell ⟨w.heap.size + 1, 3, none⟩ d)) := fun a b c d => below_set4 (chainB B2.out by_) (by omega) _ _ _ _
      clear HK B2
      go_wp2_with fail
      refine bodyPost_ret (v := .agg #[.string ⟨#[]⟩, .int .i64 0, .int .i64 0, .slice none 0 0]) (by simp [results, Tryz.results65, go_sem, r0, r1, r2, r3]) rfl ?_
      exact ⟨_, rfl, prf_none _ _, HB.out _ _ _ _⟩
  · have hg2 : lgB rs lv now = false := by simpa using hg
    obtain ⟨e1, e2, e3, e4⟩ := pf_no (rs := rs) (lv := lv) (now := now) (i := i) (fun h => hg h.1)
    rw [e1, e2, e3, e4]
    rw [hg2] at hR
    clear e1 e2 e3 e4 hg hg2 HA hIs
    go_enter Tryz.func65, Tryz.ntmps65
    go_wp2_with fail
    rw [← HW2.out]
    refine hR.mono ?_
    rintro e y ⟨rfl, by_⟩
    clear hR x0 x1 x2 HW2 HL
    obtain ⟨⟨r0, r1, r2, r3⟩, f0, f1, f2, f3⟩ := HK.out y by_
    have HB : Hid (∀ a b c d : Value, Below w.heap.size w ((((y.setCell ⟨w.heap.size + 1, 0, none⟩ a).setCell ⟨w.heap.size + 1, 1, none⟩ b).setCell ⟨w.heap.size + 1, 2, none⟩ c).setCell ⟨w.heap.size + 1, 3, none⟩ d)) := fun a b c d => below_set4 (chainB B2.out by_) (by omega) _ _ _ _
    clear HK B2
    go_wp2_with fail
    refine bodyPost_ret (v := .agg #[.string ⟨#[]⟩, .int .i64 0, .int .i64 0, .slice none 0 0]) (by simp [results, Tryz.results65, go_sem, r0, r1, r2, r3]) rfl ?_
    exact ⟨_, rfl, prf_none _ _, HB.out _ _ _ _⟩
end Go.Proofs.YtonleickhincgaaGreatDoor
