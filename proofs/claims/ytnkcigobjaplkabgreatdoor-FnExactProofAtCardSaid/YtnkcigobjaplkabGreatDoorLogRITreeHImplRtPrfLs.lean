/-
  Parts of one proof, laid as one text: LogRI, TreeH, ImplRt, PrfLs; what each says stands at its head.
-/
import Derived.Test.YtnkcigobjaplkabGreatDoorRows
import Derived.Test.YtnkcigobjaplkabGreatDoorBytesDigMath
import Derived.Test.YtnkcigobjaplkabGreatDoorSlASlBBxKOwnSTakes
import Derived.Test.YtnkcigobjaplkabGreatDoorAsDAs2CodeOfRngXScopes
import Derived.Test.YtnkcigobjaplkabGreatDoorPathIFldIsTimeIGrKSpecGNSpecGT
import Derived.Test.YtnkcigobjaplkabGreatDoorJoinedPutTextFldMath
import Derived.Test.YtnkcigobjaplkabGreatDoorLgMath
import Derived.Test.YtnkcigobjaplkabGreatDoorLgAtKShwK
import Derived.Test.YtnkcigobjaplkabGreatDoorImplLg
import Derived.Test.YtnkcigobjaplkabGreatDoorLeavesI
import Derived.Handy
import Derived.WalkSpells
import Derived.OwnWalk
import Derived.Test.YtnkcigobjaplkabGreatDoorTreeMath
import Derived.Test.YtnkcigobjaplkabGreatDoorAll2LeafNodeIncMath
import Derived.Test.YtnkcigobjaplkabGreatDoorHalvesTreePutter
import Derived.Test.YtnkcigobjaplkabGreatDoorTakesLTree2Path2
import Derived.Test.YtnkcigobjaplkabGreatDoorTimeBPutMathPutNum
import Derived.Test.YtnkcigobjaplkabGreatDoorGetValGetTxtNumMathFldRdNumFromTmbMath
import Derived.Test.YtnkcigobjaplkabGreatDoorOpFOpLgLgAnsLgRt
import Derived.Test.YtnkcigobjaplkabGreatDoorDigAllImplFC
import Derived.Deep.RegionHeld3
import Derived.Deep.Cut
import Derived.Test.YtnkcigobjaplkabGreatDoorPathMathOwnBTurnIWholeR
import Derived.Test.YtnkcigobjaplkabGreatDoorSpecLr
import Derived.Test.YtnkcigobjaplkabGreatDoorLawFMLawLm
/-
  Whether a log is right, as the program answers.
  Conditions: the cells of Rows and Leaves hold the rows and leaves; the tables of the digest and errors.errorType are laid.
-/
namespace Go.Proofs.YtnkcigobjaplkabGreatDoor
open Go.RowKit Go.Lib
set_option linter.unusedVariables false
set_option maxRecDepth 20000

theorem im_parts (rs : List Rw) (lv : List ByteArray) (now : Int) : lgB rs lv now = (timeB now && ((decide (rs.length ≤ 6) && rsB rs now) && lvOk rs now lv)) := by rw [lg_eq]; rfl
theorem rs_all {rs : List Rw} {now : Int} (h : rsB rs now = true) : ∀ r ∈ rs, rB r = true := fun r hr => by
  unfold rsB at h
  rw [List.all_eq_true] at h
  exact (Bool.and_eq_true_iff.1 (h r hr)).1
set_option maxHeartbeats 2000000 in
theorem right_any (p : Option Addr) (lv : List ByteArray) (cp : Nat) (q : Option Addr) (rs : List Rw) (cq : Nat) (now : Int) (w : World) (hT : Tabs w) (hg : Laid w) (hA : LgAt p lv cp q rs cq w) :
    Calls Tryz.prog 67 #[.agg (wkC p lv cp q rs cq now)] w fun e w' => e = .returned (.bool (lgB rs lv now)) ∧ Below w.heap.size w w' := by
  obtain ⟨W1, hW1⟩ : ∃ W1, W1 = w.alloc (.cells #[.slice p lv.length cp, .slice q rs.length cq, .int .i64 now] 82) := ⟨_, rfl⟩
  have HW1 : Hid (W1 = w.alloc (.cells #[.slice p lv.length cp, .slice q rs.length cq, .int .i64 now] 82)) := hW1
  have K1 : Hid (Bxs W1 w.heap.size 82 #[.slice p lv.length cp, .slice q rs.length cq, .int .i64 now]) := by rw [hW1]; exact Bxs.new _ _ _
  have B1 : Hid (Below w.heap.size w W1) := by rw [hW1]; exact (Below.refl _ _).alloc (Nat.le_refl _) _
  have HA1 : Hid (LgAt p lv cp q rs cq W1) := hA.below B1.out
  have HT1 : Hid (Tabs W1) := hT.to B1.out
  have HG1 : Hid (Laid W1) := hg.below B1.out
  have hTi := timeRight_any now W1
  have hRR := rowsRight_any p lv cp q rs cq now W1 HT1.out HA1.out.rw HA1.out.rn HA1.out.rc HA1.out.rz
  have HLR : Hid (∀ x, Below W1.heap.size W1 x → rs.length ≤ 6 → rsB rs now = true → Calls Tryz.prog 95 #[.agg #[.slice p lv.length cp, .slice q rs.length cq, .int .i64 now]] x fun e w' => e = .returned (.bool (lvOk rs now lv)) ∧ Below x.heap.size x w') := fun x hb h6 hr => leavesRight_any p lv cp q rs cq now x (HT1.out.to hb) (HG1.out.below hb) (HA1.out.tx.below hb) hA.ln hA.lc hA.lz (HA1.out.rw.below hb) hA.rc (rs_all hr) hA.rz h6
  have HE : Hid (lgB rs lv now = (timeB now && ((decide (rs.length ≤ 6) && rsB rs now) && lvOk rs now lv))) := im_parts rs lv now
  rw [HE.out]
  unfold wkC at hRR ⊢
  obtain ⟨x0, x1, x2⟩ := K1.out.three
  rw [HW1.out] at x0 x1 x2
  clear hW1 hT hg hA HT1 HG1 HA1 HE
  cases ht : timeB now with
  | false =>
    rw [ht] at hTi
    clear hRR HLR
    go_enter Tryz.func67, Tryz.ntmps67
    go_wp2_with fail
    rw [← HW1.out]
    refine hTi.mono ?_
    rintro e y ⟨rfl, rfl⟩
    go_wp2_with fail
    go_ret
    exact ⟨rfl, B1.out⟩
  | true =>
    rw [ht] at hTi
    cases hr : (decide (rs.length ≤ 6) && rsB rs now) with
    | false =>
      rw [hr] at hRR
      clear HLR
      go_enter Tryz.func67, Tryz.ntmps67
      go_wp2_with fail
      rw [← HW1.out]
      refine hTi.mono ?_
      rintro e y ⟨rfl, rfl⟩
      rw [← HW1.out] at x0 x1 x2
      go_wp2_with fail
      refine hRR.mono ?_
      rintro e y2 ⟨rfl, b2⟩
      go_wp2_with fail
      go_ret
      exact ⟨rfl, chainB B1.out b2⟩
    | true =>
      rw [hr] at hRR
      obtain ⟨h6, hrs⟩ := Bool.and_eq_true_iff.1 hr
      have HLR2 : Hid (∀ x, Below W1.heap.size W1 x → Calls Tryz.prog 95 #[.agg #[.slice p lv.length cp, .slice q rs.length cq, .int .i64 now]] x fun e w' => e = .returned (.bool (lvOk rs now lv)) ∧ Below x.heap.size x w') := fun x hb => HLR.out x hb (of_decide_eq_true h6) hrs
      clear HLR h6 hrs hr
      generalize lvOk rs now lv = R at *
      go_enter Tryz.func67, Tryz.ntmps67
      go_wp2_with fail
      rw [← HW1.out]
      refine hTi.mono ?_
      rintro e y ⟨rfl, rfl⟩
      rw [← HW1.out] at x0 x1 x2
      go_wp2_with fail
      refine hRR.mono ?_
      rintro e y2 ⟨rfl, b2⟩
      have hL := HLR2.out y2 b2
      clear x0 x1 x2 hRR hTi HLR2
      obtain ⟨x0, x1, x2⟩ := (K1.out.below b2).three
      go_wp2_with fail
      refine hL.mono ?_
      rintro e y3 ⟨rfl, b3⟩
      clear hL
      go_wp2_with fail
      go_ret
      exact ⟨rfl, chainB (chainB B1.out b2) b3⟩
set_option maxHeartbeats 1000000 in
theorem implLogRight_any (p : Option Addr) (lv : List ByteArray) (cp : Nat) (q : Option Addr) (rs : List Rw) (cq : Nat) (now : Int) (w : World) (hT : Tabs w) (hg : Laid w) (hA : LgAt p lv cp q rs cq w) :
    Calls Tryz.prog 42 #[.agg (lgC p lv cp q rs cq now)] w fun e w' => e = .returned (.bool (lgB rs lv now)) ∧ Below w.heap.size w w' := by
  obtain ⟨W1, hW1⟩ : ∃ W1, W1 = w.alloc (.cells #[.slice q rs.length cq, .slice p lv.length cp, .int .i64 now] 33) := ⟨_, rfl⟩
  have HW1 : Hid (W1 = w.alloc (.cells #[.slice q rs.length cq, .slice p lv.length cp, .int .i64 now] 33)) := hW1
  have B1 : Hid (Below w.heap.size w W1) := by rw [hW1]; exact (Below.refl _ _).alloc (Nat.le_refl _) _
  have hWk := workOn_any p lv cp q rs cq now W1
  have HR : Hid (∀ x, Below W1.heap.size W1 x → Calls Tryz.prog 67 #[.agg #[.slice p lv.length cp, .slice q rs.length cq, .int .i64 now]] x fun e w' => e = .returned (.bool (lgB rs lv now)) ∧ Below x.heap.size x w') := fun x hb => right_any p lv cp q rs cq now x ((hT.to B1.out).to hb) ((hg.below B1.out).below hb) ((hA.below B1.out).below hb)
  unfold lgC wkC at hWk
  unfold lgC
  generalize lgB rs lv now = R at *
  clear hW1 hT hg hA
  go_enter Tryz.func42, Tryz.ntmps42
  go_wp2_with fail
  rw [← HW1.out]
  refine hWk.mono ?_
  rintro e y ⟨rfl, b2⟩
  have hR := HR.out y b2
  clear hWk HR
  go_wp2_with fail
  refine hR.mono ?_
  rintro e y3 ⟨rfl, b3⟩
  clear hR
  go_wp2_with fail
  go_ret
  exact ⟨rfl, chainB (chainB B1.out b2) b3⟩
end Go.Proofs.YtnkcigobjaplkabGreatDoor
/-
  What TreeHash answers, in the program and in the specification: 'treeA': of right entries their tree, else nothing.
-/
namespace Go.Proofs.YtnkcigobjaplkabGreatDoor
open Go.RowKit Go.Lib
set_option linter.unusedVariables false
set_option maxRecDepth 20000

def treeA (ss : List ByteArray) : ByteArray := if entB ss then treeB ss else ByteArray.empty
end Go.Proofs.YtnkcigobjaplkabGreatDoor
/-
  RootOf and HeadText, as the program answers.
  Conditions: the cells hold the rows and leaves; the tables of the digest and errors.errorType are laid.
-/
namespace Go.Proofs.YtnkcigobjaplkabGreatDoor
open Go.RowKit Go.Lib
set_option linter.unusedVariables false
set_option maxRecDepth 20000

theorem count_any (p : Option Addr) (n cp : Nat) (w : World) : Calls Tryz.prog 96 #[.slice p n cp] w fun e w' => e = .returned (.int .i64 (n : Int)) ∧ w' = w := by
  go_enter Tryz.func96, Tryz.ntmps96
  go_wp2_with fail
  go_ret
  exact ⟨rfl, rfl⟩
def rotB (lv : List ByteArray) (n : Int) : ByteArray := if 0 ≤ n ∧ n ≤ (lv.length : Int) then treeB (lv.take n.toNat) else ByteArray.empty
end Go.Proofs.YtnkcigobjaplkabGreatDoor
/-
  What the specification's l09Proof and ProofAt and the program's proofAt and ProofAt answer: of a right log and a leaf that is there the proof of it, else nothing; the answer owns its memory.
-/
namespace Go.Proofs.YtnkcigobjaplkabGreatDoor
open Go.RowKit Go.Lib
set_option linter.unusedVariables false
set_option maxRecDepth 20000

def pfOk (rs : List Rw) (lv : List ByteArray) (now i : Int) : Prop := lgB rs lv now = true ∧ 0 ≤ i ∧ i < (lv.length : Int)
instance (rs : List Rw) (lv : List ByteArray) (now i : Int) : Decidable (pfOk rs lv now i) := by unfold pfOk; exact inferInstance
def pfL (rs : List Rw) (lv : List ByteArray) (now i : Int) : ByteArray := if pfOk rs lv now i then lv.getD i.toNat ⟨#[]⟩ else ⟨#[]⟩
def pfI (rs : List Rw) (lv : List ByteArray) (now i : Int) : Int := if pfOk rs lv now i then i else 0
def pfS (rs : List Rw) (lv : List ByteArray) (now i : Int) : Int := if pfOk rs lv now i then (lv.length : Int) else 0
def pfP (rs : List Rw) (lv : List ByteArray) (now i : Int) : List ByteArray := if pfOk rs lv now i then pathB lv i.toNat else []
theorem pf_no {rs : List Rw} {lv : List ByteArray} {now i : Int} (h : ¬ pfOk rs lv now i) : pfL rs lv now i = ⟨#[]⟩ ∧ pfI rs lv now i = 0 ∧ pfS rs lv now i = 0 ∧ pfP rs lv now i = [] := ⟨if_neg h, if_neg h, if_neg h, if_neg h⟩
theorem pf_yes {rs : List Rw} {lv : List ByteArray} {now : Int} {I : Nat} (h : pfOk rs lv now (I : Int)) (hI : I < lv.length) : pfL rs lv now (I : Int) = lv[I] ∧ pfI rs lv now (I : Int) = (I : Int) ∧ pfS rs lv now (I : Int) = (lv.length : Int) ∧ pfP rs lv now (I : Int) = pathB lv I := by
  unfold pfL pfI pfS pfP
  rw [if_pos h, if_pos h, if_pos h, if_pos h, Int.toNat_natCast]
  refine ⟨?_, rfl, rfl, rfl⟩
  rw [List.getD_eq_getElem?_getD, List.getElem?_eq_getElem hI]; rfl
theorem below_set4' {w y : World} (hb : Below w.heap.size w y) {g : Nat} (hg : w.heap.size ≤ g) (a b c d : Value) : Below w.heap.size w ((((y.setCell ⟨g, 0, none⟩ a).setCell ⟨g, 1, none⟩ b).setCell ⟨g, 2, none⟩ c).setCell ⟨g, 3, none⟩ d) := below_set4 hb hg _ _ _ _
theorem prf_out {w y : World} (hb : Below w.heap.size w y) {g base : Nat} (hg : w.heap.size ≤ g) (hgb : g < base) {v : Value} {P : List ByteArray} (o : y.ownsRow base 9 1 v P.length (strRow P)) (a b c d : Value) :
    ((((y.setCell ⟨g, 0, none⟩ a).setCell ⟨g, 1, none⟩ b).setCell ⟨g, 2, none⟩ c).setCell ⟨g, 3, none⟩ d).ownsRow w.heap.size 9 1 v P.length (strRow P) ∧ Below w.heap.size w ((((y.setCell ⟨g, 0, none⟩ a).setCell ⟨g, 1, none⟩ b).setCell ⟨g, 2, none⟩ c).setCell ⟨g, 3, none⟩ d) := by
  have hB : But (fun k => k = g) y ((((y.setCell ⟨g, 0, none⟩ a).setCell ⟨g, 1, none⟩ b).setCell ⟨g, 2, none⟩ c).setCell ⟨g, 3, none⟩ d) := ((((But.refl (fun k => k = g) y).put (p := ⟨g, 0, none⟩) rfl a).put (p := ⟨g, 1, none⟩) rfl b).put (p := ⟨g, 2, none⟩) rfl c).put (p := ⟨g, 3, none⟩) rfl d
  exact ⟨ownS_mono (ownS_but o hB (fun j hj e => by have := (o.lt j hj).1; omega)) (by omega), below_set4 hb hg _ _ _ _⟩
theorem prf_none (w y : World) : y.ownsRow w.heap.size 9 1 (.slice none 0 0) ([] : List ByteArray).length (strRow []) := World.ownsRow_nil _ _ _ _
set_option maxHeartbeats 1000000 in
theorem l09Proof_any (p : Option Addr) (lv : List ByteArray) (cp : Nat) (q : Option Addr) (rs : List Rw) (cq : Nat) (now : Int) (I : Nat) (w : World) (hA : LgAt p lv cp q rs cq w) (hI : I < lv.length) (h64 : lv.length ≤ 64) (h100 : ∀ t ∈ lv, t.size ≤ 100) :
    Calls Tryz.prog 66 #[.agg #[.slice q rs.length cq, .slice p lv.length cp, .int .i64 now], .int .i64 (I : Int)] w fun e w' => ∃ v, e = .returned (.agg #[.string lv[I], .int .i64 (I : Int), .int .i64 (lv.length : Int), v]) ∧ w'.ownsRow w.heap.size 9 1 v (pathB lv I).length (strRow (pathB lv I)) ∧ Below w.heap.size w w' := by
  obtain ⟨b, off, rfl, hb0, hc0⟩ := hA.tx I hI
  obtain ⟨W2, hW2⟩ : ∃ W2, W2 = (w.alloc (.cells #[.slice q rs.length cq, .slice (some ⟨b, off, none⟩) lv.length cp, .int .i64 now] 33)).alloc (.cells #[.string ⟨#[]⟩, .int .i64 0, .int .i64 0, .slice none 0 0] 54) := ⟨_, rfl⟩
  have HW2 : Hid (W2 = (w.alloc (.cells #[.slice q rs.length cq, .slice (some ⟨b, off, none⟩) lv.length cp, .int .i64 now] 33)).alloc (.cells #[.string ⟨#[]⟩, .int .i64 0, .int .i64 0, .slice none 0 0] 54)) := hW2
  have B2 : Hid (Below w.heap.size w W2) := by rw [hW2]; exact ((Below.refl _ _).alloc (Nat.le_refl _) _).alloc (by simp) _
  have K1 : Hid (Bxs W2 w.heap.size 33 #[.slice q rs.length cq, .slice (some ⟨b, off, none⟩) lv.length cp, .int .i64 now]) := by rw [hW2]; exact (Bxs.new _ _ _).alloc _
  have K2 : Hid (Bxs W2 (w.heap.size + 1) 54 #[.string ⟨#[]⟩, .int .i64 0, .int .i64 0, .slice none 0 0]) := by
    rw [hW2]
    have := Bxs.new (w.alloc (.cells #[.slice q rs.length cq, .slice (some ⟨b, off, none⟩) lv.length cp, .int .i64 now] 33)) 54 #[.string ⟨#[]⟩, .int .i64 0, .int .i64 0, .slice none 0 0]
    rwa [szA] at this
  have HP : Hid (∀ x, Below w.heap.size w x → Calls Tryz.prog 93 #[.slice (some ⟨b, off, none⟩) lv.length cp, .int .i64 (I : Int)] x fun e w' => ∃ v, e = .returned v ∧ w'.ownsRow x.heap.size 9 1 v (pathB lv I).length (strRow (pathB lv I)) ∧ Below x.heap.size x w') := fun x hb => path2_any lv.length (some ⟨b, off, none⟩) cp lv I x rfl (hA.tx.below hb) (by omega) hA.lc h100 hI
  have HK : Hid (∀ y, Below W2.heap.size W2 y → (y.cell? ⟨w.heap.size + 1, 0, none⟩ = some (.string ⟨#[]⟩) ∧ y.cell? ⟨w.heap.size + 1, 1, none⟩ = some (.int .i64 0) ∧ y.cell? ⟨w.heap.size + 1, 2, none⟩ = some (.int .i64 0) ∧ y.cell? ⟨w.heap.size + 1, 3, none⟩ = some (.slice none 0 0)) ∧ y.frozen? ⟨w.heap.size + 1, 0, none⟩ = false ∧ y.frozen? ⟨w.heap.size + 1, 1, none⟩ = false ∧ y.frozen? ⟨w.heap.size + 1, 2, none⟩ = false ∧ y.frozen? ⟨w.heap.size + 1, 3, none⟩ = false) := fun y hb => ⟨⟨(K2.out.below hb).cell 0, (K2.out.below hb).cell 1, (K2.out.below hb).cell 2, (K2.out.below hb).cell 3⟩, (K2.out.below hb).fr 0, (K2.out.below hb).fr 1, (K2.out.below hb).fr 2, (K2.out.below hb).fr 3⟩
  have HZ : Hid (w.heap.size + 1 < W2.heap.size) := K2.out.lt
  have i1 : (I : Int) < lv.length := by omega
  have hcp := hA.lc
  have HX : Hid (∀ x, Below W2.heap.size W2 x → x.cell? ⟨w.heap.size, 1, none⟩ = some (.slice (some ⟨b, off, none⟩) lv.length cp) ∧ x.cell? ⟨b, off + I, none⟩ = some (.string lv[I])) := fun x hb => ⟨(K1.out.below hb).cell 1, ((chainB B2.out hb).cell (p := ⟨b, off + I, none⟩) hb0).trans hc0⟩
  generalize lv[I] = t at *
  generalize pathB lv I = PB at *
  clear hW2 hA K1 K2 hc0 hb0 h100 hI
  go_enter Tryz.func66, Tryz.ntmps66
  go_upto_region 4 with fail
  rw [← HW2.out]
  refine region_till ((fun w' => w'.cell? ⟨w.heap.size, 1, none⟩ = some (.slice (some ⟨b, off, none⟩) lv.length cp) ∧ w'.cell? ⟨b, off + I, none⟩ = some (.string t))) 14 (by kernel_rfl) (HX.out _ (Below.refl _ _).drew) (fun hHeld => ?_)
  refine till_take 0 (v := ?_) rfl (by kernel_rfl) (by kernel_rfl) (by kernel_rfl) (by kernel_rfl) (fun _ _ _ h => h) hHeld (Or.inl ⟨by rfl, ?_⟩) ?_
  rotate_left
  · (intro w hSw; (try dsimp only at hSw); go_simp; try with_reducible rfl)
  simp only [Act.put, List.setIfInBounds_toArray, List.set_cons_zero, List.set_cons_succ]
  refine till_take 1 (v := ?_) rfl (by kernel_rfl) (by kernel_rfl) (by kernel_rfl) (by kernel_rfl) (fun _ _ _ h => h) hHeld (Or.inl ⟨by rfl, ?_⟩) ?_
  rotate_left
  · (intro w hSw; (try dsimp only at hSw); go_simp; try with_reducible rfl)
  simp only [Act.put, List.setIfInBounds_toArray, List.set_cons_zero, List.set_cons_succ]
  refine till_take 2 (v := ?_) rfl (by kernel_rfl) (by kernel_rfl) (by kernel_rfl) (by kernel_rfl) (fun _ _ _ h => h) hHeld (Or.inl ⟨by rfl, ?_⟩) ?_
  rotate_left
  · (intro w hSw; (try dsimp only at hSw); go_simp; try with_reducible rfl)
  simp only [Act.put, List.setIfInBounds_toArray, List.set_cons_zero, List.set_cons_succ]
  refine till_take 3 (v := ?_) rfl (by kernel_rfl) (by kernel_rfl) (by kernel_rfl) (by kernel_rfl) (fun _ _ _ h => h) hHeld (Or.inl ⟨by rfl, ?_⟩) ?_
  rotate_left
  · (intro w hSw; (try dsimp only at hSw); go_simp; try with_reducible rfl)
  simp only [Act.put, List.setIfInBounds_toArray, List.set_cons_zero, List.set_cons_succ]
  refine till_take 4 (v := ?_) rfl (by kernel_rfl) (by kernel_rfl) (by kernel_rfl) (by kernel_rfl) (fun _ _ _ h => h) hHeld (Or.inl ⟨by rfl, ?_⟩) ?_
  rotate_left
  · (intro w hSw; (try dsimp only at hSw); go_simp; try with_reducible rfl)
  simp only [Act.put, List.setIfInBounds_toArray, List.set_cons_zero, List.set_cons_succ]
  refine till_take 5 (v := ?_) rfl (by kernel_rfl) (by kernel_rfl) (by kernel_rfl) (by kernel_rfl) (fun _ _ _ h => h) hHeld (Or.inl ⟨by rfl, ?_⟩) ?_
  rotate_left
  · (intro w hSw; (try dsimp only at hSw); go_simp; try with_reducible rfl)
  simp only [Act.put, List.setIfInBounds_toArray, List.set_cons_zero, List.set_cons_succ]
  refine till_take 6 (v := ?_) rfl (by kernel_rfl) (by kernel_rfl) (by kernel_rfl) (by kernel_rfl) (fun _ _ _ h => h) hHeld (Or.inl ⟨by rfl, ?_⟩) ?_
  rotate_left
  · (intro w hSw; (try dsimp only at hSw); go_simp; try with_reducible rfl)
  simp only [Act.put, List.setIfInBounds_toArray, List.set_cons_zero, List.set_cons_succ]
  refine till_take 7 (v := ?_) rfl (by kernel_rfl) (by kernel_rfl) (by kernel_rfl) (by kernel_rfl) (fun _ _ _ h => h) hHeld (Or.inl ⟨by rfl, ?_⟩) ?_
  rotate_left
  · (intro w hSw; (try dsimp only at hSw); go_simp; try with_reducible rfl)
  simp only [Act.put, List.setIfInBounds_toArray, List.set_cons_zero, List.set_cons_succ]
  refine till_take 8 (v := ?_) rfl (by kernel_rfl) (by kernel_rfl) (by kernel_rfl) (by kernel_rfl) (fun _ _ _ h => h) hHeld (Or.inl ⟨by rfl, ?_⟩) ?_
  rotate_left
  · (intro w hSw; (try dsimp only at hSw); go_simp; try with_reducible rfl)
  simp only [Act.put, List.setIfInBounds_toArray, List.set_cons_zero, List.set_cons_succ]
  refine till_take 9 (v := ?_) rfl (by kernel_rfl) (by kernel_rfl) (by kernel_rfl) (by kernel_rfl) (fun _ _ _ h => h) hHeld (Or.inl ⟨by rfl, ?_⟩) ?_
  rotate_left
  · (intro w hSw; (try dsimp only at hSw); go_simp; try with_reducible rfl)
  simp only [Act.put, List.setIfInBounds_toArray, List.set_cons_zero, List.set_cons_succ]
  refine till_take 10 (v := ?_) rfl (by kernel_rfl) (by kernel_rfl) (by kernel_rfl) (by kernel_rfl) (fun _ _ _ h => h) hHeld (Or.inl ⟨by rfl, ?_⟩) ?_
  rotate_left
  · (intro w hSw; (try dsimp only at hSw); go_simp; try with_reducible rfl)
  simp only [Act.put, List.setIfInBounds_toArray, List.set_cons_zero, List.set_cons_succ]
  refine till_take 11 (v := ?_) rfl (by kernel_rfl) (by kernel_rfl) (by kernel_rfl) (by kernel_rfl) (fun _ _ _ h => h) hHeld (Or.inl ⟨by rfl, ?_⟩) ?_
  rotate_left
  · (intro w hSw; (try dsimp only at hSw); go_simp; try with_reducible rfl)
  simp only [Act.put, List.setIfInBounds_toArray, List.set_cons_zero, List.set_cons_succ]
  refine till_ready 12 rfl (by kernel_rfl) (fun K hK => ?_)
  go_simp
  (go_at_call 93; with_reducible refine (HP.out _ (chainB B2.out (Below.refl _ _).drew)).mono ?_; rintro e y1 ⟨v, rfl, o1, zb⟩)
  obtain ⟨pv, cv, rfl, mv, -⟩ := ownS_form o1
  have by1 : Below W2.heap.size W2 y1 := chainB (Below.refl _ _).drew zb
  obtain ⟨⟨r0, r1, r2, r3⟩, f0, f1, f2, f3⟩ := HK.out y1 by1
  refine hK.out _ _ (HX.out _ by1) (fun hHeld => ?_)
  clear hK K
  try simp only [Act.put, List.setIfInBounds_toArray, List.set_cons_zero, List.set_cons_succ]
  refine till_take 13 (v := ?_) rfl (by kernel_rfl) (by kernel_rfl) (by kernel_rfl) (by kernel_rfl) (fun _ _ _ h => h) hHeld (Or.inl ⟨by rfl, ?_⟩) ?_
  rotate_left
  · (intro w hSw; (try dsimp only at hSw); go_simp; try with_reducible rfl)
  simp only [Act.put, List.setIfInBounds_toArray, List.set_cons_zero, List.set_cons_succ]
  refine till_last rfl (by kernel_rfl) (by kernel_rfl) (fun K hK => ?_)
  go_simp
  refine hK.out _ _ ?_
  clear hK K
  have hz := HZ.out
  have HO : Hid (∀ a b c d : Value, _) := fun a b c d => prf_out (chainB B2.out by1) (g := w.heap.size + 1) (by omega) (by simp only [szD]; omega) o1 a b c d
  go_wp2_with fail
  refine bodyPost_ret (v := .agg #[.string t, .int .i64 (I : Int), .int .i64 (lv.length : Int), .slice pv PB.length cv]) (by simp [results, Tryz.results66, go_sem, r0, r1, r2, r3]) rfl ?_
  obtain ⟨h1, h3⟩ := HO.out (.string t) (.int .i64 (I : Int)) (.int .i64 (lv.length : Int)) (.slice pv PB.length cv)
  exact ⟨_, rfl, h1, h3⟩
set_option maxHeartbeats 1000000 in
theorem specProofAt_any (p : Option Addr) (lv : List ByteArray) (cp : Nat) (q : Option Addr) (rs : List Rw) (cq : Nat) (now : Int) (i : Int) (w : World) (hA : LgAt p lv cp q rs cq w) :
    Calls Tryz.prog 24 #[.agg #[.slice q rs.length cq, .slice p lv.length cp, .int .i64 now], .int .i64 i] w fun e w' => ∃ v, e = .returned (.agg #[.string (pfL rs lv now i), .int .i64 (pfI rs lv now i), .int .i64 (pfS rs lv now i), v]) ∧ w'.ownsRow w.heap.size 9 1 v (pfP rs lv now i).length (strRow (pfP rs lv now i)) ∧ Below w.heap.size w w' := by
  obtain ⟨W2, hW2⟩ : ∃ W2, W2 = (w.alloc (.cells #[.slice q rs.length cq, .slice p lv.length cp, .int .i64 now] 33)).alloc (.cells #[.string ⟨#[]⟩, .int .i64 0, .int .i64 0, .slice none 0 0] 54) := ⟨_, rfl⟩
  have HW2 : Hid (W2 = (w.alloc (.cells #[.slice q rs.length cq, .slice p lv.length cp, .int .i64 now] 33)).alloc (.cells #[.string ⟨#[]⟩, .int .i64 0, .int .i64 0, .slice none 0 0] 54)) := hW2
  have B2 : Hid (Below w.heap.size w W2) := by rw [hW2]; exact ((Below.refl _ _).alloc (Nat.le_refl _) _).alloc (by simp) _
  have K1 : Hid (Bxs W2 w.heap.size 33 #[.slice q rs.length cq, .slice p lv.length cp, .int .i64 now]) := by rw [hW2]; exact (Bxs.new _ _ _).alloc _
  have K2 : Hid (Bxs W2 (w.heap.size + 1) 54 #[.string ⟨#[]⟩, .int .i64 0, .int .i64 0, .slice none 0 0]) := by
    rw [hW2]
    have := Bxs.new (w.alloc (.cells #[.slice q rs.length cq, .slice p lv.length cp, .int .i64 now] 33)) 54 #[.string ⟨#[]⟩, .int .i64 0, .int .i64 0, .slice none 0 0]
    rwa [szA] at this
  have hR := specLogRight_any p lv cp q rs cq now W2 (hA.below B2.out)
  have HK : Hid (∀ y, Below W2.heap.size W2 y → (y.cell? ⟨w.heap.size + 1, 0, none⟩ = some (.string ⟨#[]⟩) ∧ y.cell? ⟨w.heap.size + 1, 1, none⟩ = some (.int .i64 0) ∧ y.cell? ⟨w.heap.size + 1, 2, none⟩ = some (.int .i64 0) ∧ y.cell? ⟨w.heap.size + 1, 3, none⟩ = some (.slice none 0 0)) ∧ y.frozen? ⟨w.heap.size + 1, 0, none⟩ = false ∧ y.frozen? ⟨w.heap.size + 1, 1, none⟩ = false ∧ y.frozen? ⟨w.heap.size + 1, 2, none⟩ = false ∧ y.frozen? ⟨w.heap.size + 1, 3, none⟩ = false) := fun y hb => ⟨⟨(K2.out.below hb).cell 0, (K2.out.below hb).cell 1, (K2.out.below hb).cell 2, (K2.out.below hb).cell 3⟩, (K2.out.below hb).fr 0, (K2.out.below hb).fr 1, (K2.out.below hb).fr 2, (K2.out.below hb).fr 3⟩
  have HZ : Hid (w.heap.size + 1 < W2.heap.size) := K2.out.lt
  have HL : Hid (∀ y, Below W2.heap.size W2 y → y.cell? ⟨w.heap.size, 0, none⟩ = some (.slice q rs.length cq) ∧ y.cell? ⟨w.heap.size, 1, none⟩ = some (.slice p lv.length cp) ∧ y.cell? ⟨w.heap.size, 2, none⟩ = some (.int .i64 now)) := fun y hb => ⟨(K1.out.below hb).cell 0, (K1.out.below hb).cell 1, (K1.out.below hb).cell 2⟩
  have hln := hA.ln
  have hIs := fun x => l07Is_any i 0 ((lv.length : Int) - 1) x
  have HA : Hid (∀ x, Below w.heap.size w x → LgAt p lv cp q rs cq x) := fun x hb => hA.below hb
  obtain ⟨x0, x1, x2⟩ := HL.out W2 (Below.refl _ _)
  rw [HW2.out] at x0 x1 x2
  clear hW2 hA K1 K2
  by_cases hg : lgB rs lv now = true
  · by_cases h1 : 0 ≤ i ∧ i ≤ (lv.length : Int) - 1
    · rw [decide_eq_true h1] at hIs
      obtain ⟨I, rfl⟩ : ∃ I : Nat, i = (I : Int) := ⟨i.toNat, by omega⟩
      have hI : I < lv.length := by omega
      obtain ⟨e1, e2, e3, e4⟩ := pf_yes (rs := rs) (now := now) ⟨hg, by omega, by omega⟩ hI
      rw [e1, e2, e3, e4]
      have HP : Hid (∀ x, Below w.heap.size w x → Calls Tryz.prog 66 #[.agg #[.slice q rs.length cq, .slice p lv.length cp, .int .i64 now], .int .i64 (I : Int)] x fun e w' => ∃ v, e = .returned (.agg #[.string lv[I], .int .i64 (I : Int), .int .i64 (lv.length : Int), v]) ∧ w'.ownsRow x.heap.size 9 1 v (pathB lv I).length (strRow (pathB lv I)) ∧ Below x.heap.size x w') := fun x hb => l09Proof_any p lv cp q rs cq now I x (HA.out x hb) hI (lg_right hg).2.1 (lg_small hg)
      rw [hg] at hR
      generalize lv[I] = t at *
      generalize pathB lv I = PB at *
      clear e1 e2 e3 e4 h1 hg HA
      go_enter Tryz.func24, Tryz.ntmps24
      go_wp2_with fail
      rw [← HW2.out]
      refine hR.mono ?_
      rintro e y ⟨rfl, by_⟩
      clear hR x0 x1 x2 HW2
      obtain ⟨x0, x1, x2⟩ := HL.out y by_
      have hI2 := hIs y
      clear hIs
      go_wp2_with fail
      refine hI2.mono ?_
      rintro e y2 ⟨rfl, rfl⟩
      have hP := HP.out _ (chainB B2.out by_)
      clear hI2 HP
      go_wp2_with fail
      refine hP.mono ?_
      rintro e y3 ⟨v, rfl, o1, b3⟩
      obtain ⟨pv, cv, rfl, mv, -⟩ := ownS_form o1
      have by2 : Below W2.heap.size W2 y3 := chainB by_ b3
      obtain ⟨⟨r0, r1, r2, r3⟩, f0, f1, f2, f3⟩ := HK.out y3 by2
      have hz := HZ.out
      have hz2 := by_.size
      clear hP x0 x1 x2 HL b3
      have HO : Hid (∀ a b c d : Value, _) := fun a b c d => prf_out (chainB B2.out by2) (g := w.heap.size + 1) (by omega) (by omega) o1 a b c d
      clear HK B2 o1
      go_wp2_with fail
      refine bodyPost_ret (v := .agg #[.string t, .int .i64 (I : Int), .int .i64 (lv.length : Int), .slice pv PB.length cv]) (by simp [results, Tryz.results24, go_sem, r0, r1, r2, r3]) rfl ?_
      obtain ⟨h1, h3⟩ := HO.out (.string t) (.int .i64 (I : Int)) (.int .i64 (lv.length : Int)) (.slice pv PB.length cv)
      exact ⟨_, rfl, h1, h3⟩
    · rw [decide_eq_false h1] at hIs
      obtain ⟨e1, e2, e3, e4⟩ := pf_no (rs := rs) (lv := lv) (now := now) (i := i) (fun h => h1 ⟨h.2.1, by have := h.2.2; omega⟩)
      rw [e1, e2, e3, e4]
      rw [hg] at hR
      clear e1 e2 e3 e4 h1 hg HA
      go_enter Tryz.func24, Tryz.ntmps24
      go_wp2_with fail
      rw [← HW2.out]
      refine hR.mono ?_
      rintro e y ⟨rfl, by_⟩
      clear hR x0 x1 x2 HW2
      obtain ⟨x0, x1, x2⟩ := HL.out y by_
      have hI2 := hIs y
      clear hIs
      go_wp2_with fail
      refine hI2.mono ?_
      rintro e y2 ⟨rfl, rfl⟩
      clear hI2 HL x0 x1 x2
      obtain ⟨⟨r0, r1, r2, r3⟩, f0, f1, f2, f3⟩ := HK.out y2 by_
      have HB : Hid (∀ a b c d : Value, Below w.heap.size w ((((y2.setCell ⟨w.heap.size + 1, 0, none⟩ a).setCell ⟨w.heap.size + 1, 1, none⟩ b).setCell ⟨w.heap.size + 1, 2, none⟩ c).setCell ⟨w.heap.size + 1, 3, none⟩ d)) := fun a b c d => below_set4 (chainB B2.out by_) (by omega) _ _ _ _
      clear HK B2
      go_wp2_with fail
      refine bodyPost_ret (v := .agg #[.string ⟨#[]⟩, .int .i64 0, .int .i64 0, .slice none 0 0]) (by simp [results, Tryz.results24, go_sem, r0, r1, r2, r3]) rfl ?_
      exact ⟨_, rfl, prf_none _ _, HB.out _ _ _ _⟩
  · have hg2 : lgB rs lv now = false := by simpa using hg
    obtain ⟨e1, e2, e3, e4⟩ := pf_no (rs := rs) (lv := lv) (now := now) (i := i) (fun h => hg h.1)
    rw [e1, e2, e3, e4]
    rw [hg2] at hR
    clear e1 e2 e3 e4 hg hg2 HA hIs
    go_enter Tryz.func24, Tryz.ntmps24
    go_wp2_with fail
    rw [← HW2.out]
    refine hR.mono ?_
    rintro e y ⟨rfl, by_⟩
    clear hR x0 x1 x2 HW2 HL
    obtain ⟨⟨r0, r1, r2, r3⟩, f0, f1, f2, f3⟩ := HK.out y by_
    have HB : Hid (∀ a b c d : Value, Below w.heap.size w ((((y.setCell ⟨w.heap.size + 1, 0, none⟩ a).setCell ⟨w.heap.size + 1, 1, none⟩ b).setCell ⟨w.heap.size + 1, 2, none⟩ c).setCell ⟨w.heap.size + 1, 3, none⟩ d)) := fun a b c d => below_set4 (chainB B2.out by_) (by omega) _ _ _ _
    clear HK B2
    go_wp2_with fail
    refine bodyPost_ret (v := .agg #[.string ⟨#[]⟩, .int .i64 0, .int .i64 0, .slice none 0 0]) (by simp [results, Tryz.results24, go_sem, r0, r1, r2, r3]) rfl ?_
    exact ⟨_, rfl, prf_none _ _, HB.out _ _ _ _⟩
end Go.Proofs.YtnkcigobjaplkabGreatDoor
