/-
  Parts of one proof, laid as one text: LogRI, TreeH, ImplRt, PrfLs, AnMath; what each says stands at its head.
-/
import Derived.Test.YthkmeneepkaedaaGreatDoorRows
import Derived.Test.YthkmeneepkaedaaGreatDoorBytesDigMath
import Derived.Test.YthkmeneepkaedaaGreatDoorTreeMathSlASlBBxKOwnS
import Derived.Test.YthkmeneepkaedaaGreatDoorAsDAs2CodeOfRngXScopesReadBits
import Derived.Test.YthkmeneepkaedaaGreatDoorPathIFldIsLgRtTimeIGrKSpecGNSpecGT
import Derived.Test.YthkmeneepkaedaaGreatDoorTimeBPutMathPutNumJoinedPutTextFldMath
import Derived.Test.YthkmeneepkaedaaGreatDoorGetValGetTxtNumMathFldRdNumFromTmbMathLgMath
import Derived.Test.YthkmeneepkaedaaGreatDoorLgAtKLgAnsLawSLawMLawMGLawPfLawSG
import Derived.Test.YthkmeneepkaedaaGreatDoorImplLgFldC
import Derived.Test.YthkmeneepkaedaaGreatDoorLeavesI
import Derived.Handy
import Derived.WalkSpells
import Derived.OwnWalk
import Derived.Test.YthkmeneepkaedaaGreatDoorAll2LeafNodeIncMath
import Derived.Test.YthkmeneepkaedaaGreatDoorTakesLTillTwoPathMathTree2Path2HalvesTreePutter
import Derived.Test.YthkmeneepkaedaaGreatDoorFldGShwKFldHTakesAudMathLawAuOpAuFldRiseScanMath
import Derived.Test.YthkmeneepkaedaaGreatDoorFldTrDigAllImplFCBlNot
import Derived.Deep.RegionHeld3
import Derived.Deep.Cut
import Derived.Test.YthkmeneepkaedaaGreatDoorSpecLr
import Derived.Test.YthkmeneepkaedaaGreatDoorLawLhLawLzLawLm
/-
  Whether a log is right, as the program answers.
  Conditions: the cells of Rows and Leaves hold the rows and leaves; the tables of the digest and errors.errorType are laid.
-/
namespace Go.Proofs.YthkmeneepkaedaaGreatDoor
open Go.RowKit Go.Lib
set_option linter.unusedVariables false
set_option maxRecDepth 20000

theorem im_parts (rs : List Rw) (lv : List ByteArray) (now : Int) : lgB rs lv now = (timeB now && ((decide (rs.length ≤ 6) && rsB rs now) && lvOk rs now lv)) := by rw [lg_eq]; rfl
theorem rs_all {rs : List Rw} {now : Int} (h : rsB rs now = true) : ∀ r ∈ rs, rB r = true := fun r hr => by
  unfold rsB at h
  rw [List.all_eq_true] at h
  exact (Bool.and_eq_true_iff.1 (h r hr)).1
set_option maxHeartbeats 2000000 in
theorem right_any (p : Option Addr) (lv : List ByteArray) (cp : Nat) (q : Option Addr) (rs : List Rw) (cq : Nat) (now : Int) (w : World) (hT : Tabs w) (hg : Laid w) (hA : LgAt p lv cp q rs cq w) :
    Calls Tryz.prog 32 #[.agg (wkC p lv cp q rs cq now)] w fun e w' => e = .returned (.bool (lgB rs lv now)) ∧ Below w.heap.size w w' := by
  obtain ⟨W1, hW1⟩ : ∃ W1, W1 = w.alloc (.cells #[.slice p lv.length cp, .slice q rs.length cq, .int .i64 now] 72) := ⟨_, rfl⟩
  have HW1 : Hid (W1 = w.alloc (.cells #[.slice p lv.length cp, .slice q rs.length cq, .int .i64 now] 72)) := hW1
  have K1 : Hid (Bxs W1 w.heap.size 72 #[.slice p lv.length cp, .slice q rs.length cq, .int .i64 now]) := by rw [hW1]; exact Bxs.new _ _ _
  have B1 : Hid (Below w.heap.size w W1) := by rw [hW1]; exact (Below.refl _ _).alloc (Nat.le_refl _) _
  have HA1 : Hid (LgAt p lv cp q rs cq W1) := hA.below B1.out
  have HT1 : Hid (Tabs W1) := hT.to B1.out
  have HG1 : Hid (Laid W1) := hg.below B1.out
  have hTi := timeRight_any now W1
  have hRR := rowsRight_any p lv cp q rs cq now W1 HT1.out HA1.out.rw HA1.out.rn HA1.out.rc HA1.out.rz
  have HLR : Hid (∀ x, Below W1.heap.size W1 x → rs.length ≤ 6 → rsB rs now = true → Calls Tryz.prog 72 #[.agg #[.slice p lv.length cp, .slice q rs.length cq, .int .i64 now]] x fun e w' => e = .returned (.bool (lvOk rs now lv)) ∧ Below x.heap.size x w') := fun x hb h6 hr => leavesRight_any p lv cp q rs cq now x (HT1.out.to hb) (HG1.out.below hb) (HA1.out.tx.below hb) hA.ln hA.lc hA.lz (HA1.out.rw.below hb) hA.rc (rs_all hr) hA.rz h6
  have HE : Hid (lgB rs lv now = (timeB now && ((decide (rs.length ≤ 6) && rsB rs now) && lvOk rs now lv))) := im_parts rs lv now
  rw [HE.out]
  unfold wkC at hRR ⊢
  obtain ⟨x0, x1, x2⟩ := K1.out.three
  rw [HW1.out] at x0 x1 x2
  clear hW1 hT hg hA HT1 HG1 HA1 HE
  cases ht : timeB now with
  | false =>
    rw [ht] at hTi
    clear hRR HLR
    go_enter Tryz.func32, Tryz.ntmps32
    go_wp2_with fail
    rw [← HW1.out]
    refine hTi.mono ?_
    rintro e y ⟨rfl, rfl⟩
    go_wp2_with fail
    go_ret
    exact ⟨rfl, B1.out⟩
  | true =>
    rw [ht] at hTi
    cases hr : (decide (rs.length ≤ 6) && rsB rs now) with
    | false =>
      rw [hr] at hRR
      clear HLR
      go_enter Tryz.func32, Tryz.ntmps32
      go_wp2_with fail
      rw [← HW1.out]
      refine hTi.mono ?_
      rintro e y ⟨rfl, rfl⟩
      rw [← HW1.out] at x0 x1 x2
      go_wp2_with fail
      refine hRR.mono ?_
      rintro e y2 ⟨rfl, b2⟩
      go_wp2_with fail
      go_ret
      exact ⟨rfl, chainB B1.out b2⟩
    | true =>
      rw [hr] at hRR
      obtain ⟨h6, hrs⟩ := Bool.and_eq_true_iff.1 hr
      have HLR2 : Hid (∀ x, Below W1.heap.size W1 x → Calls Tryz.prog 72 #[.agg #[.slice p lv.length cp, .slice q rs.length cq, .int .i64 now]] x fun e w' => e = .returned (.bool (lvOk rs now lv)) ∧ Below x.heap.size x w') := fun x hb => HLR.out x hb (of_decide_eq_true h6) hrs
      clear HLR h6 hrs hr
      generalize lvOk rs now lv = R at *
      go_enter Tryz.func32, Tryz.ntmps32
      go_wp2_with fail
      rw [← HW1.out]
      refine hTi.mono ?_
      rintro e y ⟨rfl, rfl⟩
      rw [← HW1.out] at x0 x1 x2
      go_wp2_with fail
      refine hRR.mono ?_
      rintro e y2 ⟨rfl, b2⟩
      have hL := HLR2.out y2 b2
      clear x0 x1 x2 hRR hTi HLR2
      obtain ⟨x0, x1, x2⟩ := (K1.out.below b2).three
      go_wp2_with fail
      refine hL.mono ?_
      rintro e y3 ⟨rfl, b3⟩
      clear hL
      go_wp2_with fail
      go_ret
      exact ⟨rfl, chainB (chainB B1.out b2) b3⟩
set_option maxHeartbeats 1000000 in
theorem implLogRight_any (p : Option Addr) (lv : List ByteArray) (cp : Nat) (q : Option Addr) (rs : List Rw) (cq : Nat) (now : Int) (w : World) (hT : Tabs w) (hg : Laid w) (hA : LgAt p lv cp q rs cq w) :
    Calls Tryz.prog 9 #[.agg (lgC p lv cp q rs cq now)] w fun e w' => e = .returned (.bool (lgB rs lv now)) ∧ Below w.heap.size w w' := by
  obtain ⟨W1, hW1⟩ : ∃ W1, W1 = w.alloc (.cells #[.slice q rs.length cq, .slice p lv.length cp, .int .i64 now] 30) := ⟨_, rfl⟩
  have HW1 : Hid (W1 = w.alloc (.cells #[.slice q rs.length cq, .slice p lv.length cp, .int .i64 now] 30)) := hW1
  have B1 : Hid (Below w.heap.size w W1) := by rw [hW1]; exact (Below.refl _ _).alloc (Nat.le_refl _) _
  have hWk := workOn_any p lv cp q rs cq now W1
  have HR : Hid (∀ x, Below W1.heap.size W1 x → Calls Tryz.prog 32 #[.agg #[.slice p lv.length cp, .slice q rs.length cq, .int .i64 now]] x fun e w' => e = .returned (.bool (lgB rs lv now)) ∧ Below x.heap.size x w') := fun x hb => right_any p lv cp q rs cq now x ((hT.to B1.out).to hb) ((hg.below B1.out).below hb) ((hA.below B1.out).below hb)
  unfold lgC wkC at hWk
  unfold lgC
  generalize lgB rs lv now = R at *
  clear hW1 hT hg hA
  go_enter Tryz.func9, Tryz.ntmps9
  go_wp2_with fail
  rw [← HW1.out]
  refine hWk.mono ?_
  rintro e y ⟨rfl, b2⟩
  have hR := HR.out y b2
  clear hWk HR
  go_wp2_with fail
  refine hR.mono ?_
  rintro e y3 ⟨rfl, b3⟩
  clear hR
  go_wp2_with fail
  go_ret
  exact ⟨rfl, chainB (chainB B1.out b2) b3⟩
end Go.Proofs.YthkmeneepkaedaaGreatDoor
/-
  What TreeHash answers, in the program and in the specification: 'treeA': of right entries their tree, else nothing.
-/
namespace Go.Proofs.YthkmeneepkaedaaGreatDoor
open Go.RowKit Go.Lib
set_option linter.unusedVariables false
set_option maxRecDepth 20000

def treeA (ss : List ByteArray) : ByteArray := if entB ss then treeB ss else ByteArray.empty
end Go.Proofs.YthkmeneepkaedaaGreatDoor
/-
  RootOf and HeadText, as the program answers.
  Conditions: the cells hold the rows and leaves; the tables of the digest and errors.errorType are laid.
-/
namespace Go.Proofs.YthkmeneepkaedaaGreatDoor
open Go.RowKit Go.Lib
set_option linter.unusedVariables false
set_option maxRecDepth 20000

theorem count_any (p : Option Addr) (n cp : Nat) (w : World) : Calls Tryz.prog 78 #[.slice p n cp] w fun e w' => e = .returned (.int .i64 (n : Int)) ∧ w' = w := by
  go_enter Tryz.func78, Tryz.ntmps78
  go_wp2_with fail
  go_ret
  exact ⟨rfl, rfl⟩
def rotB (lv : List ByteArray) (n : Int) : ByteArray := if 0 ≤ n ∧ n ≤ (lv.length : Int) then treeB (lv.take n.toNat) else ByteArray.empty
end Go.Proofs.YthkmeneepkaedaaGreatDoor
/-
  What the specification's l09Proof and ProofAt and the program's proofAt and ProofAt answer: of a right log and a leaf that is there the proof of it, else nothing; the answer owns its memory.
-/
namespace Go.Proofs.YthkmeneepkaedaaGreatDoor
open Go.RowKit Go.Lib
set_option linter.unusedVariables false
set_option maxRecDepth 20000

def pfOk (rs : List Rw) (lv : List ByteArray) (now i : Int) : Prop := lgB rs lv now = true ∧ 0 ≤ i ∧ i < (lv.length : Int)
instance (rs : List Rw) (lv : List ByteArray) (now i : Int) : Decidable (pfOk rs lv now i) := by unfold pfOk; exact inferInstance
def pfL (rs : List Rw) (lv : List ByteArray) (now i : Int) : ByteArray := if pfOk rs lv now i then lv.getD i.toNat ⟨#[]⟩ else ⟨#[]⟩
def pfI (rs : List Rw) (lv : List ByteArray) (now i : Int) : Int := if pfOk rs lv now i then i else 0
def pfS (rs : List Rw) (lv : List ByteArray) (now i : Int) : Int := if pfOk rs lv now i then (lv.length : Int) else 0
def pfP (rs : List Rw) (lv : List ByteArray) (now i : Int) : List ByteArray := if pfOk rs lv now i then pathB lv i.toNat else []
theorem pf_no {rs : List Rw} {lv : List ByteArray} {now i : Int} (h : ¬ pfOk rs lv now i) : pfL rs lv now i = ⟨#[]⟩ ∧ pfI rs lv now i = 0 ∧ pfS rs lv now i = 0 ∧ pfP rs lv now i = [] := ⟨if_neg h, if_neg h, if_neg h, if_neg h⟩
theorem pf_yes {rs : List Rw} {lv : List ByteArray} {now : Int} {I : Nat} (h : pfOk rs lv now (I : Int)) (hI : I < lv.length) : pfL rs lv now (I : Int) = lv[I] ∧ pfI rs lv now (I : Int) = (I : Int) ∧ pfS rs lv now (I : Int) = (lv.length : Int) ∧ pfP rs lv now (I : Int) = pathB lv I := by
  unfold pfL pfI pfS pfP
  rw [if_pos h, if_pos h, if_pos h, if_pos h, Int.toNat_natCast]
  refine ⟨?_, rfl, rfl, rfl⟩
  rw [List.getD_eq_getElem?_getD, List.getElem?_eq_getElem hI]; rfl
theorem below_set4' {w y : World} (hb : Below w.heap.size w y) {g : Nat} (hg : w.heap.size ≤ g) (a b c d : Value) : Below w.heap.size w ((((y.setCell ⟨g, 0, none⟩ a).setCell ⟨g, 1, none⟩ b).setCell ⟨g, 2, none⟩ c).setCell ⟨g, 3, none⟩ d) := below_set4 hb hg _ _ _ _
theorem prf_out {w y : World} (hb : Below w.heap.size w y) {g base : Nat} (hg : w.heap.size ≤ g) (hgb : g < base) {v : Value} {P : List ByteArray} (o : y.ownsRow base 9 1 v P.length (strRow P)) (a b c d : Value) :
    ((((y.setCell ⟨g, 0, none⟩ a).setCell ⟨g, 1, none⟩ b).setCell ⟨g, 2, none⟩ c).setCell ⟨g, 3, none⟩ d).ownsRow w.heap.size 9 1 v P.length (strRow P) ∧ Below w.heap.size w ((((y.setCell ⟨g, 0, none⟩ a).setCell ⟨g, 1, none⟩ b).setCell ⟨g, 2, none⟩ c).setCell ⟨g, 3, none⟩ d) := by
  have hB : But (fun k => k = g) y ((((y.setCell ⟨g, 0, none⟩ a).setCell ⟨g, 1, none⟩ b).setCell ⟨g, 2, none⟩ c).setCell ⟨g, 3, none⟩ d) := ((((But.refl (fun k => k = g) y).put (p := ⟨g, 0, none⟩) rfl a).put (p := ⟨g, 1, none⟩) rfl b).put (p := ⟨g, 2, none⟩) rfl c).put (p := ⟨g, 3, none⟩) rfl d
  exact ⟨ownS_mono (ownS_but o hB (fun j hj e => by have := (o.lt j hj).1; omega)) (by omega), below_set4 hb hg _ _ _ _⟩
theorem prf_none (w y : World) : y.ownsRow w.heap.size 9 1 (.slice none 0 0) ([] : List ByteArray).length (strRow []) := World.ownsRow_nil _ _ _ _
set_option maxHeartbeats 1000000 in
theorem l09Proof_any (p : Option Addr) (lv : List ByteArray) (cp : Nat) (q : Option Addr) (rs : List Rw) (cq : Nat) (now : Int) (I : Nat) (w : World) (hA : LgAt p lv cp q rs cq w) (hI : I < lv.length) (h64 : lv.length ≤ 64) (h100 : ∀ t ∈ lv, t.size ≤ 100) :
    Calls Tryz.prog 36 #[.agg #[.slice q rs.length cq, .slice p lv.length cp, .int .i64 now], .int .i64 (I : Int)] w fun e w' => ∃ v, e = .returned (.agg #[.string lv[I], .int .i64 (I : Int), .int .i64 (lv.length : Int), v]) ∧ w'.ownsRow w.heap.size 9 1 v (pathB lv I).length (strRow (pathB lv I)) ∧ Below w.heap.size w w' := by
  obtain ⟨b, off, rfl, hb0, hc0⟩ := hA.tx I hI
  obtain ⟨W2, hW2⟩ : ∃ W2, W2 = (w.alloc (.cells #[.slice q rs.length cq, .slice (some ⟨b, off, none⟩) lv.length cp, .int .i64 now] 30)).alloc (.cells #[.string ⟨#[]⟩, .int .i64 0, .int .i64 0, .slice none 0 0] 35) := ⟨_, rfl⟩
  have HW2 : Hid (W2 = (w.alloc (.cells #[.slice q rs.length cq, .slice (some ⟨b, off, none⟩) lv.length cp, .int .i64 now] 30)).alloc (.cells #[.string ⟨#[]⟩, .int .i64 0, .int .i64 0, .slice none 0 0] 35)) := hW2
  have B2 : Hid (Below w.heap.size w W2) := by rw [hW2]; exact ((Below.refl _ _).alloc (Nat.le_refl _) _).alloc (by simp) _
  have K1 : Hid (Bxs W2 w.heap.size 30 #[.slice q rs.length cq, .slice (some ⟨b, off, none⟩) lv.length cp, .int .i64 now]) := by rw [hW2]; exact (Bxs.new _ _ _).alloc _
  have K2 : Hid (Bxs W2 (w.heap.size + 1) 35 #[.string ⟨#[]⟩, .int .i64 0, .int .i64 0, .slice none 0 0]) := by
    rw [hW2]
    have := Bxs.new (w.alloc (.cells #[.slice q rs.length cq, .slice (some ⟨b, off, none⟩) lv.length cp, .int .i64 now] 30)) 35 #[.string ⟨#[]⟩, .int .i64 0, .int .i64 0, .slice none 0 0]
    rwa [szA] at this
  have HP : Hid (∀ x, Below w.heap.size w x → Calls Tryz.prog 75 #[.slice (some ⟨b, off, none⟩) lv.length cp, .int .i64 (I : Int)] x fun e w' => ∃ v, e = .returned v ∧ w'.ownsRow x.heap.size 9 1 v (pathB lv I).length (strRow (pathB lv I)) ∧ Below x.heap.size x w') := fun x hb => path2_any lv.length (some ⟨b, off, none⟩) cp lv I x rfl (hA.tx.below hb) (by omega) hA.lc h100 hI
  have HK : Hid (∀ y, Below W2.heap.size W2 y → (y.cell? ⟨w.heap.size + 1, 0, none⟩ = some (.string ⟨#[]⟩) ∧ y.cell? ⟨w.heap.size + 1, 1, none⟩ = some (.int .i64 0) ∧ y.cell? ⟨w.heap.size + 1, 2, none⟩ = some (.int .i64 0) ∧ y.cell? ⟨w.heap.size + 1, 3, none⟩ = some (.slice none 0 0)) ∧ y.frozen? ⟨w.heap.size + 1, 0, none⟩ = false ∧ y.frozen? ⟨w.heap.size + 1, 1, none⟩ = false ∧ y.frozen? ⟨w.heap.size + 1, 2, none⟩ = false ∧ y.frozen? ⟨w.heap.size + 1, 3, none⟩ = false) := fun y hb => ⟨⟨(K2.out.below hb).cell 0, (K2.out.below hb).cell 1, (K2.out.below hb).cell 2, (K2.out.below hb).cell 3⟩, (K2.out.below hb).fr 0, (K2.out.below hb).fr 1, (K2.out.below hb).fr 2, (K2.out.below hb).fr 3⟩
  have HZ : Hid (w.heap.size + 1 < W2.heap.size) := K2.out.lt
  have i1 : (I : Int) < lv.length := by omega
  have hcp := hA.lc
  have HX : Hid (∀ x, Below W2.heap.size W2 x → x.cell? ⟨w.heap.size, 1, none⟩ = some (.slice (some ⟨b, off, none⟩) lv.length cp) ∧ x.cell? ⟨b, off + I, none⟩ = some (.string lv[I])) := fun x hb => ⟨(K1.out.below hb).cell 1, ((chainB B2.out hb).cell (p := ⟨b, off + I, none⟩) hb0).trans hc0⟩
  generalize lv[I] = t at *
  generalize pathB lv I = PB at *
  clear hW2 hA K1 K2 hc0 hb0 h100 hI
  go_enter Tryz.func36, Tryz.ntmps36
  go_upto_region 4 with fail
  rw [← HW2.out]
  refine region_till ((fun w' => w'.cell? ⟨w.heap.size, 1, none⟩ = some (.slice (some ⟨b, off, none⟩) lv.length cp) ∧ w'.cell? ⟨b, off + I, none⟩ = some (.string t))) 14 (by kernel_rfl) (HX.out _ (Below.refl _ _).drew) (fun hHeld => ?_)
  refine till_take 0 (v := ?_) rfl (by kernel_rfl) (by kernel_rfl) (by kernel_rfl) (by kernel_rfl) (fun _ _ _ h => h) hHeld (Or.inl ⟨by rfl, ?_⟩) ?_
  rotate_left
  · (intro w hSw; (try dsimp only at hSw); go_simp; try with_reducible rfl)
  simp only [Act.put, List.setIfInBounds_toArray, List.set_cons_zero, List.set_cons_succ]
  refine till_take 1 (v := ?_) rfl (by kernel_rfl) (by kernel_rfl) (by kernel_rfl) (by kernel_rfl) (fun _ _ _ h => h) hHeld (Or.inl ⟨by rfl, ?_⟩) ?_
  rotate_left
  · (intro w hSw; (try dsimp only at hSw); go_simp; try with_reducible rfl)
  simp only [Act.put, List.setIfInBounds_toArray, List.set_cons_zero, List.set_cons_succ]
  refine till_take 2 (v := ?_) rfl (by kernel_rfl) (by kernel_rfl) (by kernel_rfl) (by kernel_rfl) (fun _ _ _ h => h) hHeld (Or.inl ⟨by rfl, ?_⟩) ?_
  rotate_left
  · (intro w hSw; (try dsimp only at hSw); go_simp; try with_reducible rfl)
  simp only [Act.put, List.setIfInBounds_toArray, List.set_cons_zero, List.set_cons_succ]
  refine till_take 3 (v := ?_) rfl (by kernel_rfl) (by kernel_rfl) (by kernel_rfl) (by kernel_rfl) (fun _ _ _ h => h) hHeld (Or.inl ⟨by rfl, ?_⟩) ?_
  rotate_left
  · (intro w hSw; (try dsimp only at hSw); go_simp; try with_reducible rfl)
  simp only [Act.put, List.setIfInBounds_toArray, List.set_cons_zero, List.set_cons_succ]
  refine till_take 4 (v := ?_) rfl (by kernel_rfl) (by kernel_rfl) (by kernel_rfl) (by kernel_rfl) (fun _ _ _ h => h) hHeld (Or.inl ⟨by rfl, ?_⟩) ?_
  rotate_left
  · (intro w hSw; (try dsimp only at hSw); go_simp; try with_reducible rfl)
  simp only [Act.put, List.setIfInBounds_toArray, List.set_cons_zero, List.set_cons_succ]
  refine till_take 5 (v := ?_) rfl (by kernel_rfl) (by kernel_rfl) (by kernel_rfl) (by kernel_rfl) (fun _ _ _ h => h) hHeld (Or.inl ⟨by rfl, ?_⟩) ?_
  rotate_left
  · (intro w hSw; (try dsimp only at hSw); go_simp; try with_reducible rfl)
  simp only [Act.put, List.setIfInBounds_toArray, List.set_cons_zero, List.set_cons_succ]
  refine till_take 6 (v := ?_) rfl (by kernel_rfl) (by kernel_rfl) (by kernel_rfl) (by kernel_rfl) (fun _ _ _ h => h) hHeld (Or.inl ⟨by rfl, ?_⟩) ?_
  rotate_left
  · (intro w hSw; (try dsimp only at hSw); go_simp; try with_reducible rfl)
  simp only [Act.put, List.setIfInBounds_toArray, List.set_cons_zero, List.set_cons_succ]
  refine till_take 7 (v := ?_) rfl (by kernel_rfl) (by kernel_rfl) (by kernel_rfl) (by kernel_rfl) (fun _ _ _ h => h) hHeld (Or.inl ⟨by rfl, ?_⟩) ?_
  rotate_left
  · (intro w hSw; (try dsimp only at hSw); go_simp; try with_reducible rfl)
  simp only [Act.put, List.setIfInBounds_toArray, List.set_cons_zero, List.set_cons_succ]
  refine till_take 8 (v := ?_) rfl (by kernel_rfl) (by kernel_rfl) (by kernel_rfl) (by kernel_rfl) (fun _ _ _ h => h) hHeld (Or.inl ⟨by rfl, ?_⟩) ?_
  rotate_left
  · (intro w hSw; (try dsimp only at hSw); go_simp; try with_reducible rfl)
  simp only [Act.put, List.setIfInBounds_toArray, List.set_cons_zero, List.set_cons_succ]
  refine till_take 9 (v := ?_) rfl (by kernel_rfl) (by kernel_rfl) (by kernel_rfl) (by kernel_rfl) (fun _ _ _ h => h) hHeld (Or.inl ⟨by rfl, ?_⟩) ?_
  rotate_left
  · (intro w hSw; (try dsimp only at hSw); go_simp; try with_reducible rfl)
  simp only [Act.put, List.setIfInBounds_toArray, List.set_cons_zero, List.set_cons_succ]
  refine till_take 10 (v := ?_) rfl (by kernel_rfl) (by kernel_rfl) (by kernel_rfl) (by kernel_rfl) (fun _ _ _ h => h) hHeld (Or.inl ⟨by rfl, ?_⟩) ?_
  rotate_left
  · (intro w hSw; (try dsimp only at hSw); go_simp; try with_reducible rfl)
  simp only [Act.put, List.setIfInBounds_toArray, List.set_cons_zero, List.set_cons_succ]
  refine till_take 11 (v := ?_) rfl (by kernel_rfl) (by kernel_rfl) (by kernel_rfl) (by kernel_rfl) (fun _ _ _ h => h) hHeld (Or.inl ⟨by rfl, ?_⟩) ?_
  rotate_left
  · (intro w hSw; (try dsimp only at hSw); go_simp; try with_reducible rfl)
  simp only [Act.put, List.setIfInBounds_toArray, List.set_cons_zero, List.set_cons_succ]
  refine till_ready 12 rfl (by kernel_rfl) (fun K hK => ?_)
  go_simp
  (go_at_call 75; with_reducible refine (HP.out _ (chainB B2.out (Below.refl _ _).drew)).mono ?_; rintro e y1 ⟨v, rfl, o1, zb⟩)
  obtain ⟨pv, cv, rfl, mv, -⟩ := ownS_form o1
  have by1 : Below W2.heap.size W2 y1 := chainB (Below.refl _ _).drew zb
  obtain ⟨⟨r0, r1, r2, r3⟩, f0, f1, f2, f3⟩ := HK.out y1 by1
  refine hK.out _ _ (HX.out _ by1) (fun hHeld => ?_)
  clear hK K
  try simp only [Act.put, List.setIfInBounds_toArray, List.set_cons_zero, List.set_cons_succ]
  refine till_take 13 (v := ?_) rfl (by kernel_rfl) (by kernel_rfl) (by kernel_rfl) (by kernel_rfl) (fun _ _ _ h => h) hHeld (Or.inl ⟨by rfl, ?_⟩) ?_
  rotate_left
  · (intro w hSw; (try dsimp only at hSw); go_simp; try with_reducible rfl)
  simp only [Act.put, List.setIfInBounds_toArray, List.set_cons_zero, List.set_cons_succ]
  refine till_last rfl (by kernel_rfl) (by kernel_rfl) (fun K hK => ?_)
  go_simp
  refine hK.out _ _ ?_
  clear hK K
  have hz := HZ.out
  have HO : Hid (∀ a b c d : Value, _) := fun a b c d => prf_out (chainB B2.out by1) (g := w.heap.size + 1) (by omega) (by simp only [szD]; omega) o1 a b c d
  go_wp2_with fail
  refine bodyPost_ret (v := .agg #[.string t, .int .i64 (I : Int), .int .i64 (lv.length : Int), .slice pv PB.length cv]) (by simp [results, Tryz.results36, go_sem, r0, r1, r2, r3]) rfl ?_
  obtain ⟨h1, h3⟩ := HO.out (.string t) (.int .i64 (I : Int)) (.int .i64 (lv.length : Int)) (.slice pv PB.length cv)
  exact ⟨_, rfl, h1, h3⟩
end Go.Proofs.YthkmeneepkaedaaGreatDoor
/-
  What AnswerOf answers (plain), and its box.
-/
namespace Go.Proofs.YthkmeneepkaedaaGreatDoor
open Go.RowKit Go.Lib
set_option linter.unusedVariables false
set_option maxRecDepth 20000

theorem pl_in (rs : List Rw) (now : Int) (all : List ByteArray) (row : Nat) (hr : row < rs.length) : ∀ (ts : List ByteArray) (i n : Nat), lvGo rs now all i n ts = true → n ≤ row → ∃ K : Nat, plFrom (row : Int) n i ts = (K : Int) ∧ i ≤ K ∧ K < i + ts.length
  | [], i, n, h, hn => by simp [lvGo] at h; omega
  | t :: ts, i, n, h, hn => by
    rw [lvGo] at h
    rw [plFrom]
    by_cases hx : isNx rs n t = true
    · rw [if_pos hx] at h
      have hrl : isRl t = true := by rw [((nx_iff rs n t).1 hx).2]; exact rl_isRl _
      rw [if_pos hrl]
      by_cases he : (n : Int) = (row : Int)
      · rw [if_pos he]; exact ⟨i, rfl, Nat.le_refl _, by simp⟩
      · rw [if_neg he]
        obtain ⟨K, h1, h2, h3⟩ := pl_in rs now all row hr ts (i + 1) (n + 1) h (by omega)
        exact ⟨K, h1, by omega, by simp only [List.length_cons]; omega⟩
    · rw [if_neg hx] at h
      by_cases ho : tbOk rs now all i n t = true
      · rw [if_pos ho] at h
        have hc : trC t = 0 := by unfold tbOk at ho; simp only [Bool.and_eq_true, decide_eq_true_eq] at ho; exact ho.1
        have hrl : ¬ isRl t = true := by rw [tr_not_rl hc]; simp
        rw [if_neg hrl]
        obtain ⟨K, h1, h2, h3⟩ := pl_in rs now all row hr ts (i + 1) n h hn
        exact ⟨K, h1, by omega, by simp only [List.length_cons]; omega⟩
      · rw [if_neg ho] at h; cases h
theorem tb_in (r f : Int) : ∀ (lv : List ByteArray) (i : Nat), hitIn lv r f = true → ∃ K : Nat, tbFrom r f i lv = (K : Int) ∧ i ≤ K ∧ K < i + lv.length
  | [], i, h => by simp [hitIn] at h
  | t :: ts, i, h => by
    rw [tbFrom]
    by_cases ht : tmHit r f t = true
    · rw [if_pos ht]; exact ⟨i, rfl, Nat.le_refl _, by simp⟩
    · rw [if_neg ht]
      have h2 : hitIn ts r f = true := by unfold hitIn at h ⊢; rw [List.any_cons] at h; simpa [ht] using h
      obtain ⟨K, h1, h3, h4⟩ := tb_in r f ts (i + 1) h2
      exact ⟨K, h1, by omega, by simp only [List.length_cons]; omega⟩
theorem lg_go {rs : List Rw} {lv : List ByteArray} {now : Int} (h : lgB rs lv now = true) : lvGo rs now lv 0 0 lv = true ∧ allB rs lv = true := by
  unfold lgB at h
  simp only [Bool.and_eq_true, decide_eq_true_eq] at h
  exact h.2.2.2.2
theorem pl_there {rs : List Rw} {lv : List ByteArray} {now : Int} (h : lgB rs lv now = true) {I : Nat} (hI : I < rs.length) : ∃ K : Nat, plB lv (I : Int) = (K : Int) ∧ K < lv.length := by
  obtain ⟨K, h1, -, h3⟩ := pl_in rs now lv I hI lv 0 0 (lg_go h).1 (Nat.zero_le _)
  exact ⟨K, h1, by omega⟩
theorem tb_there {rs : List Rw} {lv : List ByteArray} {now : Int} (h : lgB rs lv now = true) {I J : Nat} (hg : (fldOf rs (I : Int) (J : Int)).g = true) : ∃ K : Nat, tbAt lv (I : Int) (J : Int) = (K : Int) ∧ K < lv.length := by
  have := (allB_iff rs lv).1 (lg_go h).2 I J hg
  obtain ⟨K, h1, -, h3⟩ := tb_in (I : Int) (J : Int) lv 0 this
  exact ⟨K, h1, by omega⟩
/-- A field that is there or forgotten lies in a row that is there. -/
theorem fc_in {rs : List Rw} {r f : Int} (h : fcO rs r f = 0 ∨ fcO rs r f = 7) : ∃ (I J : Nat) (hI : I < rs.length), r = (I : Int) ∧ f = (J : Int) ∧ (fcO rs r f = 7 → (fldOf rs (I : Int) (J : Int)).g = true) := by
  unfold fcO at h ⊢
  by_cases h1 : 0 ≤ r ∧ r ≤ (rs.length : Int) - 1
  · by_cases h2 : 0 ≤ f ∧ f ≤ ((rs.getD r.toNat rwZ).fs.length : Int) - 1
    · obtain ⟨I, rfl⟩ : ∃ I : Nat, r = (I : Int) := ⟨r.toNat, by omega⟩
      obtain ⟨J, rfl⟩ : ∃ J : Nat, f = (J : Int) := ⟨f.toNat, by omega⟩
      refine ⟨I, J, by omega, rfl, rfl, fun h => ?_⟩
      rw [if_pos h1, if_pos h2] at h
      by_cases hg : (fldOf rs (I : Int) (J : Int)).g = true
      · exact hg
      · rw [if_neg hg] at h; omega
    · rw [if_pos h1, if_neg h2] at h; omega
  · rw [if_neg h1] at h; omega
/-- An answer, plain. -/
structure Ans where
  l1 : ByteArray
  i1 : Int
  s1 : Int
  p1 : List ByteArray
  sh : Shw
  l2 : ByteArray
  i2 : Int
  s2 : Int
  p2 : List ByteArray
def shwN : Shw := ⟨⟨#[]⟩, 0, [], [], 0, ⟨#[]⟩, ⟨#[]⟩⟩
def ansZ : Ans := ⟨⟨#[]⟩, 0, 0, [], shwN, ⟨#[]⟩, 0, 0, []⟩
def anRow (rs : List Rw) (lv : List ByteArray) (now r f : Int) : Ans := ⟨pfL rs lv now (plB lv r), pfI rs lv now (plB lv r), pfS rs lv now (plB lv r), pfP rs lv now (plB lv r), shO (rs.getD r.toNat rwZ).k (rs.getD r.toNat rwZ).a (rs.getD r.toNat rwZ).fs f, ⟨#[]⟩, 0, 0, []⟩
def anTmb (rs : List Rw) (lv : List ByteArray) (now r f : Int) : Ans := ⟨pfL rs lv now (plB lv r), pfI rs lv now (plB lv r), pfS rs lv now (plB lv r), pfP rs lv now (plB lv r), shwN, pfL rs lv now (tbAt lv r f), pfI rs lv now (tbAt lv r f), pfS rs lv now (tbAt lv r f), pfP rs lv now (tbAt lv r f)⟩
def anO (rs : List Rw) (lv : List ByteArray) (now r f : Int) : Ans := if lgB rs lv now = true then (if fcO rs r f = 0 then anRow rs lv now r f else if fcO rs r f = 7 then anTmb rs lv now r f else ansZ) else ansZ
/-- Two blocks are apart. -/
def Aprt (v v' : Value) : Prop := ∀ g, v.ownBlock = some g → v'.ownBlock ≠ some g
def StrO (base : Nat) (l : List ByteArray) (v : Value) (w : World) : Prop := w.ownsRow base 9 1 v l.length (strRow l)
theorem StrO.nil (base : Nat) (w : World) : StrO base [] (.slice none 0 0) w := World.ownsRow_nil _ _ _ _
theorem StrO.below {base : Nat} {l : List ByteArray} {v : Value} {w y : World} (h : StrO base l v w) (hb : Below w.heap.size w y) : StrO base l v y := ownS_below h hb
theorem StrO.mono {base base' : Nat} {l : List ByteArray} {v : Value} {w : World} (h : StrO base l v w) (hb : base' ≤ base) : StrO base' l v w := ownS_mono h hb
theorem StrO.apart {b1 : Nat} {l l' : List ByteArray} {v v' : Value} {w y : World} (h : StrO b1 l v w) (h' : StrO w.heap.size l' v' y) : Aprt v v' := fun g hg hg' => by have h1 := (h.lt g hg).2; have h2 := (h'.lt g hg').1; omega
theorem Aprt.symm {v v' : Value} (h : Aprt v v') : Aprt v' v := fun g hg hg' => h g hg' hg
theorem Aprt.nil (v : Value) : Aprt v (.slice none 0 0) := fun g _ h => by cases h
/-- The answer's four rows of texts are its own, and apart. -/
structure AnsO (base : Nat) (o : Ans) (v1 v2 v3 v4 : Value) (w : World) : Prop where
  o1 : StrO base o.p1 v1 w
  o2 : StrO base o.sh.ns v2 w
  o3 : StrO base o.sh.cs v3 w
  o4 : StrO base o.p2 v4 w
  a12 : Aprt v1 v2
  a13 : Aprt v1 v3
  a14 : Aprt v1 v4
  a23 : Aprt v2 v3
  a24 : Aprt v2 v4
  a34 : Aprt v3 v4
theorem AnsO.nil (base : Nat) (w : World) : AnsO base ansZ (.slice none 0 0) (.slice none 0 0) (.slice none 0 0) (.slice none 0 0) w :=
  ⟨.nil _ _, .nil _ _, .nil _ _, .nil _ _, .nil _, .nil _, .nil _, .nil _, .nil _, .nil _⟩
theorem AnsO.below {base : Nat} {o : Ans} {v1 v2 v3 v4 : Value} {w y : World} (h : AnsO base o v1 v2 v3 v4 w) (hb : Below w.heap.size w y) : AnsO base o v1 v2 v3 v4 y :=
  ⟨h.o1.below hb, h.o2.below hb, h.o3.below hb, h.o4.below hb, h.a12, h.a13, h.a14, h.a23, h.a24, h.a34⟩
theorem AnsO.mono {base base' : Nat} {o : Ans} {v1 v2 v3 v4 : Value} {w : World} (h : AnsO base o v1 v2 v3 v4 w) (hb : base' ≤ base) : AnsO base' o v1 v2 v3 v4 w :=
  ⟨h.o1.mono hb, h.o2.mono hb, h.o3.mono hb, h.o4.mono hb, h.a12, h.a13, h.a14, h.a23, h.a24, h.a34⟩
def anC (o : Ans) (v1 v2 v3 v4 : Value) : Array Value := #[.string o.l1, .int .i64 o.i1, .int .i64 o.s1, v1, .string o.sh.k, .int .i64 o.sh.at_, v2, v3, .int .i64 o.sh.ix, .string o.sh.s, .string o.sh.v, .string o.l2, .int .i64 o.i2, .int .i64 o.s2, v4]
def AnA (base : Nat) (o : Ans) (e : Ending) (w : World) : Prop := ∃ v1 v2 v3 v4, e = .returned (.agg (anC o v1 v2 v3 v4)) ∧ AnsO base o v1 v2 v3 v4 w
/-- The log's box and the answer's, as AnswerOf begins. -/
structure AnB (w : World) (q : Option Addr) (n cq : Nat) (p : Option Addr) (m cp : Nat) (now : Int) (x : World) : Prop where
  lg : Bxs x w.heap.size 30 #[.slice q n cq, .slice p m cp, .int .i64 now]
  rs : Bxs x (w.heap.size + 1) 39 #[.string ⟨#[]⟩, .int .i64 0, .int .i64 0, .slice none 0 0, .string ⟨#[]⟩, .int .i64 0, .slice none 0 0, .slice none 0 0, .int .i64 0, .string ⟨#[]⟩, .string ⟨#[]⟩, .string ⟨#[]⟩, .int .i64 0, .int .i64 0, .slice none 0 0]
  bel : Below w.heap.size w x
  big : w.heap.size + 2 ≤ x.heap.size
theorem AnB.below {w x y : World} {q : Option Addr} {n cq : Nat} {p : Option Addr} {m cp : Nat} {now : Int} (h : AnB w q n cq p m cp now x) (hb : Below x.heap.size x y) : AnB w q n cq p m cp now y := ⟨h.lg.below hb, h.rs.below hb, chainB h.bel hb, Nat.le_trans h.big hb.size⟩
theorem AnB.thr {w x : World} {q : Option Addr} {n cq : Nat} {p : Option Addr} {m cp : Nat} {now : Int} (h : AnB w q n cq p m cp now x) : x.cell? ⟨w.heap.size, 0, none⟩ = some (.slice q n cq) ∧ x.cell? ⟨w.heap.size, 1, none⟩ = some (.slice p m cp) ∧ x.cell? ⟨w.heap.size, 2, none⟩ = some (.int .i64 now) := ⟨h.lg.cell 0, h.lg.cell 1, h.lg.cell 2⟩
theorem AnB.res {w x : World} {q : Option Addr} {n cq : Nat} {p : Option Addr} {m cp : Nat} {now : Int} (h : AnB w q n cq p m cp now x) : x.cell? ⟨w.heap.size + 1, 0, none⟩ = some (.string ⟨#[]⟩) ∧ x.cell? ⟨w.heap.size + 1, 1, none⟩ = some (.int .i64 0) ∧ x.cell? ⟨w.heap.size + 1, 2, none⟩ = some (.int .i64 0) ∧ x.cell? ⟨w.heap.size + 1, 3, none⟩ = some (.slice none 0 0) ∧ x.cell? ⟨w.heap.size + 1, 4, none⟩ = some (.string ⟨#[]⟩) ∧ x.cell? ⟨w.heap.size + 1, 5, none⟩ = some (.int .i64 0) ∧ x.cell? ⟨w.heap.size + 1, 6, none⟩ = some (.slice none 0 0) ∧ x.cell? ⟨w.heap.size + 1, 7, none⟩ = some (.slice none 0 0) ∧ x.cell? ⟨w.heap.size + 1, 8, none⟩ = some (.int .i64 0) ∧ x.cell? ⟨w.heap.size + 1, 9, none⟩ = some (.string ⟨#[]⟩) ∧ x.cell? ⟨w.heap.size + 1, 10, none⟩ = some (.string ⟨#[]⟩) ∧ x.cell? ⟨w.heap.size + 1, 11, none⟩ = some (.string ⟨#[]⟩) ∧ x.cell? ⟨w.heap.size + 1, 12, none⟩ = some (.int .i64 0) ∧ x.cell? ⟨w.heap.size + 1, 13, none⟩ = some (.int .i64 0) ∧ x.cell? ⟨w.heap.size + 1, 14, none⟩ = some (.slice none 0 0) ∧ x.frozen? ⟨w.heap.size + 1, 0, none⟩ = false ∧ x.frozen? ⟨w.heap.size + 1, 1, none⟩ = false ∧ x.frozen? ⟨w.heap.size + 1, 2, none⟩ = false ∧ x.frozen? ⟨w.heap.size + 1, 3, none⟩ = false ∧ x.frozen? ⟨w.heap.size + 1, 4, none⟩ = false ∧ x.frozen? ⟨w.heap.size + 1, 5, none⟩ = false ∧ x.frozen? ⟨w.heap.size + 1, 6, none⟩ = false ∧ x.frozen? ⟨w.heap.size + 1, 7, none⟩ = false ∧ x.frozen? ⟨w.heap.size + 1, 8, none⟩ = false ∧ x.frozen? ⟨w.heap.size + 1, 9, none⟩ = false ∧ x.frozen? ⟨w.heap.size + 1, 10, none⟩ = false ∧ x.frozen? ⟨w.heap.size + 1, 11, none⟩ = false ∧ x.frozen? ⟨w.heap.size + 1, 12, none⟩ = false ∧ x.frozen? ⟨w.heap.size + 1, 13, none⟩ = false ∧ x.frozen? ⟨w.heap.size + 1, 14, none⟩ = false := ⟨h.rs.cell 0, h.rs.cell 1, h.rs.cell 2, h.rs.cell 3, h.rs.cell 4, h.rs.cell 5, h.rs.cell 6, h.rs.cell 7, h.rs.cell 8, h.rs.cell 9, h.rs.cell 10, h.rs.cell 11, h.rs.cell 12, h.rs.cell 13, h.rs.cell 14, h.rs.fr 0, h.rs.fr 1, h.rs.fr 2, h.rs.fr 3, h.rs.fr 4, h.rs.fr 5, h.rs.fr 6, h.rs.fr 7, h.rs.fr 8, h.rs.fr 9, h.rs.fr 10, h.rs.fr 11, h.rs.fr 12, h.rs.fr 13, h.rs.fr 14⟩
theorem StrO.set {base : Nat} {l : List ByteArray} {v : Value} {w : World} (h : StrO base l v w) {g : Nat} (hg : g < base) (i : Nat) (u : Value) : StrO base l v (w.setCell ⟨g, i, none⟩ u) :=
  ownS_but h ((But.refl (fun k => k = g) w).put (p := ⟨g, i, none⟩) rfl u) (fun j hj e => by have := (h.lt j hj).1; omega)
theorem AnsO.set {base : Nat} {o : Ans} {v1 v2 v3 v4 : Value} {w : World} (h : AnsO base o v1 v2 v3 v4 w) {g : Nat} (hg : g < base) (i : Nat) (u : Value) : AnsO base o v1 v2 v3 v4 (w.setCell ⟨g, i, none⟩ u) :=
  ⟨h.o1.set hg i u, h.o2.set hg i u, h.o3.set hg i u, h.o4.set hg i u, h.a12, h.a13, h.a14, h.a23, h.a24, h.a34⟩
/-- The answer is written into its box. -/
theorem AnB.put {w x : World} {q : Option Addr} {n cq : Nat} {p : Option Addr} {m cp : Nat} {now : Int} (h : AnB w q n cq p m cp now x) {o : Ans} {v1 v2 v3 v4 : Value} (own : AnsO (w.heap.size + 2) o v1 v2 v3 v4 x) (u0 u1 u2 u3 u4 u5 u6 u7 u8 u9 u10 u11 u12 u13 u14 : Value) :
    Bxs (((((((((((((((x.setCell ⟨w.heap.size + 1, 0, none⟩ u0).setCell ⟨w.heap.size + 1, 1, none⟩ u1).setCell ⟨w.heap.size + 1, 2, none⟩ u2).setCell ⟨w.heap.size + 1, 3, none⟩ u3).setCell ⟨w.heap.size + 1, 4, none⟩ u4).setCell ⟨w.heap.size + 1, 5, none⟩ u5).setCell ⟨w.heap.size + 1, 6, none⟩ u6).setCell ⟨w.heap.size + 1, 7, none⟩ u7).setCell ⟨w.heap.size + 1, 8, none⟩ u8).setCell ⟨w.heap.size + 1, 9, none⟩ u9).setCell ⟨w.heap.size + 1, 10, none⟩ u10).setCell ⟨w.heap.size + 1, 11, none⟩ u11).setCell ⟨w.heap.size + 1, 12, none⟩ u12).setCell ⟨w.heap.size + 1, 13, none⟩ u13).setCell ⟨w.heap.size + 1, 14, none⟩ u14) (w.heap.size + 1) 39 #[u0, u1, u2, u3, u4, u5, u6, u7, u8, u9, u10, u11, u12, u13, u14] ∧ AnsO w.heap.size o v1 v2 v3 v4 (((((((((((((((x.setCell ⟨w.heap.size + 1, 0, none⟩ u0).setCell ⟨w.heap.size + 1, 1, none⟩ u1).setCell ⟨w.heap.size + 1, 2, none⟩ u2).setCell ⟨w.heap.size + 1, 3, none⟩ u3).setCell ⟨w.heap.size + 1, 4, none⟩ u4).setCell ⟨w.heap.size + 1, 5, none⟩ u5).setCell ⟨w.heap.size + 1, 6, none⟩ u6).setCell ⟨w.heap.size + 1, 7, none⟩ u7).setCell ⟨w.heap.size + 1, 8, none⟩ u8).setCell ⟨w.heap.size + 1, 9, none⟩ u9).setCell ⟨w.heap.size + 1, 10, none⟩ u10).setCell ⟨w.heap.size + 1, 11, none⟩ u11).setCell ⟨w.heap.size + 1, 12, none⟩ u12).setCell ⟨w.heap.size + 1, 13, none⟩ u13).setCell ⟨w.heap.size + 1, 14, none⟩ u14) ∧ Below w.heap.size w (((((((((((((((x.setCell ⟨w.heap.size + 1, 0, none⟩ u0).setCell ⟨w.heap.size + 1, 1, none⟩ u1).setCell ⟨w.heap.size + 1, 2, none⟩ u2).setCell ⟨w.heap.size + 1, 3, none⟩ u3).setCell ⟨w.heap.size + 1, 4, none⟩ u4).setCell ⟨w.heap.size + 1, 5, none⟩ u5).setCell ⟨w.heap.size + 1, 6, none⟩ u6).setCell ⟨w.heap.size + 1, 7, none⟩ u7).setCell ⟨w.heap.size + 1, 8, none⟩ u8).setCell ⟨w.heap.size + 1, 9, none⟩ u9).setCell ⟨w.heap.size + 1, 10, none⟩ u10).setCell ⟨w.heap.size + 1, 11, none⟩ u11).setCell ⟨w.heap.size + 1, 12, none⟩ u12).setCell ⟨w.heap.size + 1, 13, none⟩ u13).setCell ⟨w.heap.size + 1, 14, none⟩ u14) :=
  ⟨by have k := ((((((((((((((h.rs.set 0 u0).set 1 u1).set 2 u2).set 3 u3).set 4 u4).set 5 u5).set 6 u6).set 7 u7).set 8 u8).set 9 u9).set 10 u10).set 11 u11).set 12 u12).set 13 u13).set 14 u14; simp only [List.setIfInBounds_toArray, List.set_cons_zero, List.set_cons_succ] at k; exact k, (((((((((((((((own.set (Nat.lt_succ_self _) 0 _).set (Nat.lt_succ_self _) 1 _).set (Nat.lt_succ_self _) 2 _).set (Nat.lt_succ_self _) 3 _).set (Nat.lt_succ_self _) 4 _).set (Nat.lt_succ_self _) 5 _).set (Nat.lt_succ_self _) 6 _).set (Nat.lt_succ_self _) 7 _).set (Nat.lt_succ_self _) 8 _).set (Nat.lt_succ_self _) 9 _).set (Nat.lt_succ_self _) 10 _).set (Nat.lt_succ_self _) 11 _).set (Nat.lt_succ_self _) 12 _).set (Nat.lt_succ_self _) 13 _).set (Nat.lt_succ_self _) 14 _).mono (by omega), ((((((((((((((h.bel.setCell (p := ⟨w.heap.size + 1, 0, none⟩) (by simp) _).setCell (p := ⟨w.heap.size + 1, 1, none⟩) (by simp) _).setCell (p := ⟨w.heap.size + 1, 2, none⟩) (by simp) _).setCell (p := ⟨w.heap.size + 1, 3, none⟩) (by simp) _).setCell (p := ⟨w.heap.size + 1, 4, none⟩) (by simp) _).setCell (p := ⟨w.heap.size + 1, 5, none⟩) (by simp) _).setCell (p := ⟨w.heap.size + 1, 6, none⟩) (by simp) _).setCell (p := ⟨w.heap.size + 1, 7, none⟩) (by simp) _).setCell (p := ⟨w.heap.size + 1, 8, none⟩) (by simp) _).setCell (p := ⟨w.heap.size + 1, 9, none⟩) (by simp) _).setCell (p := ⟨w.heap.size + 1, 10, none⟩) (by simp) _).setCell (p := ⟨w.heap.size + 1, 11, none⟩) (by simp) _).setCell (p := ⟨w.heap.size + 1, 12, none⟩) (by simp) _).setCell (p := ⟨w.heap.size + 1, 13, none⟩) (by simp) _).setCell (p := ⟨w.heap.size + 1, 14, none⟩) (by simp) _⟩
theorem an_boxes (w : World) (q : Option Addr) (n cq : Nat) (p : Option Addr) (m cp : Nat) (now : Int) {W2 : World} (h : W2 = (w.alloc (.cells #[.slice q n cq, .slice p m cp, .int .i64 now] 30)).alloc (.cells #[.string ⟨#[]⟩, .int .i64 0, .int .i64 0, .slice none 0 0, .string ⟨#[]⟩, .int .i64 0, .slice none 0 0, .slice none 0 0, .int .i64 0, .string ⟨#[]⟩, .string ⟨#[]⟩, .string ⟨#[]⟩, .int .i64 0, .int .i64 0, .slice none 0 0] 39)) : AnB w q n cq p m cp now W2 := by
  subst h
  have h := Bxs.new (w.alloc (.cells #[.slice q n cq, .slice p m cp, .int .i64 now] 30)) 39 #[.string ⟨#[]⟩, .int .i64 0, .int .i64 0, .slice none 0 0, .string ⟨#[]⟩, .int .i64 0, .slice none 0 0, .slice none 0 0, .int .i64 0, .string ⟨#[]⟩, .string ⟨#[]⟩, .string ⟨#[]⟩, .int .i64 0, .int .i64 0, .slice none 0 0]
  rw [szA] at h
  exact ⟨(Bxs.new _ _ _).alloc _, h, alB ((Below.refl _ _).alloc (Nat.le_refl _) _) _, by simp⟩
end Go.Proofs.YthkmeneepkaedaaGreatDoor
