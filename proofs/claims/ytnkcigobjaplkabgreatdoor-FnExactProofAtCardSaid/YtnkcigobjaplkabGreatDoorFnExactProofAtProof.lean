/-
  For every log and every number the law FnExactProofAt returns true: the program's ProofAt answers as the specification's, writes into no argument, keeps nothing of one, and its answer owns its memory; the card ties the listed variables, errors.errorType and the two tables firstState and roundNums, to the program's text.
  Conditions: none of mine; the form's own reach; the listed variables as the program's text lays them (the given tie). The card speaks of the pruned copy of the project that the seat names.
-/
import Derived.Test.YtnkcigobjaplkabGreatDoorCards
import Derived.Test.YtnkcigobjaplkabGreatDoorTie
import Derived.Test.YtnkcigobjaplkabGreatDoorSlASlBBxKOwnSTakes
import Derived.Test.YtnkcigobjaplkabGreatDoorJoinedPutTextFldMath
import Derived.Test.YtnkcigobjaplkabGreatDoorLawSLawM
import Derived.Test.YtnkcigobjaplkabGreatDoorPathMathOwnBTurnIWholeR
import Derived.Test.YtnkcigobjaplkabGreatDoorProofGLawPfFldRiseScanMath
import Derived.Test.YtnkcigobjaplkabGreatDoorLgMath
import Derived.Test.YtnkcigobjaplkabGreatDoorLgAtKShwK
import Derived.Test.YtnkcigobjaplkabGreatDoorOneKFldGFldBlkRwBlk
import Derived.Test.YtnkcigobjaplkabGreatDoorLawLg
import Derived.Test.YtnkcigobjaplkabGreatDoorLawLh
import Derived.Test.YtnkcigobjaplkabGreatDoorLawLzLawMG
import Derived.Test.YtnkcigobjaplkabGreatDoorLawFMLawLm
import Derived.Test.YtnkcigobjaplkabGreatDoorOpFOpLgLgAnsLgRt
import Derived.Test.YtnkcigobjaplkabGreatDoorLogRITreeHImplRtPrfLs
import Derived.Test.YtnkcigobjaplkabGreatDoorPrfLiTabsOfTabEt
import Derived.Handy
import Derived.WalkSpells
import Derived.OwnWalk
import Derived.Laws.OwnMore
import Derived.Deep.RegionHeld3
import Derived.Deep.Cut
import Derived.WalkKit
import Derived.ProofKit
import Derived.OpenShut
import Derived.OpenVars
import Derived.ShutString
import Derived.LaidHandle
import Derived.LaidLaws
import Derived.LaidMore
import Derived.Deep.DeepHandedRow
import Derived.ChangeOld
import Derived.Below
namespace Go.Proofs.YtnkcigobjaplkabGreatDoor.fnExactProofAt
open Go.ChangeShapes Go.WideShapes Go.ChangeAt Go.RowKit
open Go.ChangeMaps (open_string shut_string)
set_option linter.unusedVariables false
set_option maxRecDepth 100000

theorem own : ownKnob Tryz.prog.godebug = none := by kernel_rfl
theorem laidOut : laidOutB Tryz.prog = true := by kernel_rfl

theorem int_bd {k : Int} (h : (Lit.int .i64 k).wf = true) : -9223372036854775808 ≤ k ∧ k ≤ 9223372036854775807 := by simpa [Lit.wf, IntKind.min, IntKind.max, IntKind.signed, IntKind.bits] using h
theorem txt_marks {w : World} {base n c : Nat} {p : Option Addr} (h : w.ownsRow base 9 1 (.slice p n c) n (strRow (marksL n))) : TxtAt w p (marksL n) := by
  have hl : (marksL n).length = n := by simp [marksL]
  have h' : w.ownsRow base 9 1 (.slice p n c) (marksL n).length (strRow (marksL n)) := by rw [hl]; exact h
  obtain ⟨q, c', e, _, ht⟩ := ownS_form h'
  rw [hl] at e
  cases e
  exact ht
theorem txt_grown {w0 w w' : World} {row : Option Nat} {p : Option Addr} {L : List ByteArray} (h0 : TxtAt w0 p L) (h : TxtAt w p L) (hg : w.grownBy w' row) (hr : ∀ j, row = some j → w0.heap.size ≤ j) : TxtAt w' p L := by
  intro i hi
  obtain ⟨b, off, e, hb, hc⟩ := h i hi
  obtain ⟨b', off', e', hb', _⟩ := h0 i hi
  subst e
  cases e'
  exact ⟨b, off, rfl, Nat.lt_of_lt_of_le hb hg.size, hg.cell hc (fun e => by have := hr b e.symm; omega)⟩
theorem txt_but {S : Nat → Prop} {w0 w w' : World} {p : Option Addr} {L : List ByteArray} (h0 : TxtAt w0 p L) (h : TxtAt w p L) (hb : But S w w') (hr : ∀ j, S j → w0.heap.size ≤ j) : TxtAt w' p L := by
  intro i hi
  obtain ⟨b, off, e, hb1, hc⟩ := h i hi
  obtain ⟨b', off', e', hb', _⟩ := h0 i hi
  subst e
  cases e'
  exact ⟨b, off, rfl, Nat.lt_of_lt_of_le hb1 hb.size, (World.cell?_of_block (w := w) (hb.block b hb1 (fun hs => by have := hr b hs; omega))).trans hc⟩
theorem bxs_ne {w : World} {b : Nat} {T : TypeId} {cs : Array Value} (h : Bxs w b T cs) (hT : T ≠ 9) {base : Nat} {v : Value} {m : Nat} {xs : List Value} (ho : w.ownsRow base 9 1 v m xs) : some b ≠ v.ownBlock := by
  intro he
  rcases ho.2 with ⟨rfl, _⟩ | ⟨g, cap, cur, rfl, _, hg, _⟩
  · cases he
  · have : b = g := by simpa [Value.ownBlock] using he
    subst this
    unfold Bxs at h
    rw [h] at hg
    simp at hg
    exact hT hg.2
theorem lenPf (rs : List Rw) (lv : List ByteArray) (now i : Int) : (pfP rs lv now i).length ≤ 1024 := by
  have h := pathA_len lv i
  unfold pfP; split
  · rename_i hk
    obtain ⟨hg, h0, h1⟩ := hk
    unfold pathA at h
    rwa [if_pos ⟨entB_true (lg_right hg).2.1 (fun j hj => lg_small hg _ (List.getElem_mem hj)), h0, h1⟩] at h
  · simp
set_option maxHeartbeats 12000000 in
theorem walk (q : Option Addr) (cq : Nat) (rs : List Rw) (p : Option Addr) (cp : Nat) (lv : List ByteArray) (now : Int) (r : Int) (w : World) (w0 : IsLog w q cq rs p cp lv now) (w1 : (Lit.int .i64 r).wf = true) (hT : Tabs w) (hg : Laid w) :
    Calls Tryz.prog 6 #[.agg #[.slice q rs.length cq, .slice p lv.length cp, .int .i64 now], .int .i64 r] w fun e w' => e = .returned (.bool true) ∧ Below w.heap.size w w' := by
  obtain ⟨⟨-, hRw, hcq, hmq, hzr⟩, ⟨-, hTx, hcp, hmp, hzl⟩, -⟩ := w0
  obtain ⟨i0, i1⟩ := int_bd w1
  have HT : Hid (Tabs w) := hT
  have HG : Hid (Laid w) := hg
  have HR : Hid (RwAt w q rs) := hRw
  have HL : Hid (TxtAt w p lv) := hTx
  have HZR : Hid (∀ r ∈ rs, r.fs.length ≤ maxLen ∧ r.k.size ≤ maxLen ∧ FldsLe r.fs) := hzr
  have HZL : Hid (∀ x ∈ lv, x.size ≤ maxLen) := hzl
  have HBg : Hid (RwsBig rs) := fun r hr => by have h := hzr r hr; unfold maxLen at h; exact ⟨h.1, h.2.1, fun f hf => by have := h.2.2 f hf; unfold maxLen at this; exact this⟩
  have HLB : Hid (∀ x ∈ lv, x.size ≤ 9223372036854775807) := fun x hx => by have := hzl x hx; unfold maxLen at this; exact this
  unfold maxLen at hmq hmp
  clear hRw hTx hzr hzl hT hg w1
  obtain ⟨W1, hW1⟩ : ∃ W1, W1 = w.alloc (.cells #[.slice q rs.length cq, .slice p lv.length cp, .int .i64 now] 25) := ⟨_, rfl⟩
  have HW1 : Hid (W1 = w.alloc (.cells #[.slice q rs.length cq, .slice p lv.length cp, .int .i64 now] 25)) := hW1
  have B1 : Hid (Below w.heap.size w W1) := by rw [hW1]; exact (Below.refl _ _).alloc (Nat.le_refl _) _
  have K1 : Hid (Bxs W1 w.heap.size 25 #[.slice q rs.length cq, .slice p lv.length cp, .int .i64 now]) := by rw [hW1]; exact Bxs.new _ _ _
  have hSz := szLogZ_any q cq rs p cp lv now W1 (HR.out.below B1.out) (by omega) hcq HBg.out (HL.out.below B1.out) (by omega) hcp HLB.out
  obtain ⟨x0, x1, x2⟩ := K1.out.three
  rw [HW1.out] at x0 x1 x2
  clear hW1
  go_enter Tryz.func6, Tryz.ntmps6
  go_wp2_with fail
  rw [← HW1.out]
  refine hSz.mono ?_
  rintro e w2 ⟨⟨r0, rfl, hr⟩, b2⟩
  clear hSz x0 x1 x2
  rcases hr with rfl | ⟨hr0, hsum⟩
  · go_wp2_with fail
    go_ret
    exact ⟨rfl, chainB B1.out b2⟩
  have hrf : ∀ x ∈ rs, x.fs.length ≤ 1048576 := fun x hx => by have := fsN_mem hx; omega
  have hrn : rs.length ≤ 1048576 := by omega
  have hln : lv.length ≤ 1048576 := by omega
  have HSum : Hid (rs.length + fsN rs + lv.length ≤ 1048576) := hsum
  have dr : decide (r0 < 0) = false := decide_eq_false (by omega)
  have HB2 : Hid (Below w.heap.size w w2) := chainB B1.out b2
  have K2 : Hid (Bxs w2 w.heap.size 25 #[.slice q rs.length cq, .slice p lv.length cp, .int .i64 now]) := K1.out.below b2
  have HAt : Hid (∀ g gl xs x, xs.map (·.1) = rs → LgB x g xs gl lv → LgAt (some ⟨gl, 0, none⟩) lv lv.length (some ⟨g, 0, none⟩) rs rs.length x) := fun g gl xs x hx hB => ⟨hB.lf.txt, Nat.le_refl _, hln, HZL.out, by have := hB.rw.at; rwa [hx] at this, Nat.le_refl _, hrn, fun r hr => ⟨hrf r hr, (HZR.out r hr).2.1, (HZR.out r hr).2.2⟩⟩
  have HTo : Hid (∀ x, Below w.heap.size w x → Calls Tryz.prog 10 #[.agg #[.slice q rs.length cq, .slice p lv.length cp, .int .i64 now]] x fun e w' => ∃ g gl xs, xs.map (·.1) = rs ∧ x.heap.size ≤ g ∧ e = .returned (.agg #[.slice (some ⟨g, 0, none⟩) rs.length rs.length, .slice (some ⟨gl, 0, none⟩) lv.length lv.length, .int .i64 now]) ∧ LgB w' g xs gl lv ∧ Below x.heap.size x w') := fun x hb => toLog_any q cq rs p cp lv now x (HR.out.below hb) hrn hcq hrf (HL.out.below hb) hln hcp
  have hP := lenPf rs lv now r
  have HS0 := fun g gl xs x (hx : xs.map (·.1) = rs) (hB : LgB x g xs gl lv) => specProofAt_any (some ⟨gl, 0, none⟩) lv lv.length (some ⟨g, 0, none⟩) rs rs.length now r x (HAt.out g gl xs x hx hB)
  have HI0 := fun g gl xs x (hx : xs.map (·.1) = rs) (hB : LgB x g xs gl lv) (hb : Below w.heap.size w x) => implProofAt_any (some ⟨gl, 0, none⟩) lv lv.length (some ⟨g, 0, none⟩) rs rs.length now r x i0 i1 (HT.out.to hb) (HG.out.below hb) (HAt.out g gl xs x hx hB)
  generalize pfL rs lv now r = lf at *
  generalize pfI rs lv now r = ix at *
  generalize pfS rs lv now r = sz at *
  generalize pfP rs lv now r = P at *
  have HS : Hid (∀ g gl xs x, xs.map (·.1) = rs → LgB x g xs gl lv → Calls Tryz.prog 24 #[.agg #[.slice (some ⟨g, 0, none⟩) rs.length rs.length, .slice (some ⟨gl, 0, none⟩) lv.length lv.length, .int .i64 now], .int .i64 r] x fun e w' => ∃ v, e = .returned (.agg #[.string lf, .int .i64 ix, .int .i64 sz, v]) ∧ w'.ownsRow x.heap.size 9 1 v P.length (strRow P) ∧ Below x.heap.size x w') := HS0
  have HI : Hid (∀ g gl xs x, xs.map (·.1) = rs → LgB x g xs gl lv → Below w.heap.size w x → Calls Tryz.prog 25 #[.agg #[.slice (some ⟨g, 0, none⟩) rs.length rs.length, .slice (some ⟨gl, 0, none⟩) lv.length lv.length, .int .i64 now], .int .i64 r] x fun e w' => ∃ v, e = .returned (.agg #[.string lf, .int .i64 ix, .int .i64 sz, v]) ∧ w'.ownsRow x.heap.size 9 1 v P.length (strRow P) ∧ Below x.heap.size x w') := HI0
  have HRF2 : Hid (∀ x ∈ rs, x.fs.length ≤ 1048576) := hrf
  clear b2 K1 HBg HLB HZR HZL hrf HT HG HAt hsum HS0 HI0 i0 i1
  obtain ⟨x0, x1, x2⟩ := K2.out.three
  have hTo1 := HTo.out w2 HB2.out
  go_wp2_with fail
  refine hTo1.mono ?_
  rintro e w3 ⟨g3, l3, xs3, hx3, hg3, rfl, hB3, b3⟩
  have hS := HS.out g3 l3 xs3 w3 hx3 hB3
  clear hTo1 HS hB3 hx3 hg3 x0 x1 x2
  go_wp2_with fail
  refine hS.mono ?_
  rintro e w4 ⟨v, rfl, o1, b4⟩
  obtain ⟨p1, c1, rfl, m1, t1⟩ := ownS_form o1
  obtain ⟨W5, hW5⟩ : ∃ W5, W5 = w4.alloc (.cells #[.string lf, .int .i64 ix, .int .i64 sz, .slice p1 P.length c1] 54) := ⟨_, rfl⟩
  have HW5 : Hid (W5 = w4.alloc (.cells #[.string lf, .int .i64 ix, .int .i64 sz, .slice p1 P.length c1] 54)) := hW5
  have ba : Below w4.heap.size w4 W5 := by rw [hW5]; exact (Below.refl _ _).alloc (Nat.le_refl _) _
  have A5 : Hid (Bxs W5 w4.heap.size 54 #[.string lf, .int .i64 ix, .int .i64 sz, .slice p1 P.length c1]) := by rw [hW5]; exact Bxs.new _ _ _
  have T1 : Hid (TxtAt W5 p1 P) := t1.below ba
  have b25 : Below w2.heap.size w2 W5 := chainB (chainB b3 b4) ba
  have HB5 : Hid (Below w.heap.size w W5) := chainB HB2.out b25
  have K5 : Hid (Bxs W5 w.heap.size 25 #[.slice q rs.length cq, .slice p lv.length cp, .int .i64 now]) := K2.out.below b25
  have HA5 : Hid (w4.heap.size < W5.heap.size) := A5.out.lt
  have HK5 : Hid (w.heap.size < W5.heap.size) := K5.out.lt
  have hTo2 := HTo.out W5 HB5.out
  obtain ⟨x0, x1, x2⟩ := K5.out.three
  rw [HW5.out] at x0 x1 x2
  clear hS hW5 ba b3 b4 b25 K2 HB2 o1 t1
  go_wp2_with fail
  rw [← HW5.out]
  refine hTo2.mono ?_
  rintro e w6 ⟨g6, l6, xs6, hx6, hg6, rfl, hB6, b6⟩
  clear hTo2 x0 x1 x2 HW5
  obtain ⟨W7, hW7⟩ : ∃ W7, W7 = w6.alloc (.cells #[.slice (some ⟨g6, 0, none⟩) rs.length rs.length, .slice (some ⟨l6, 0, none⟩) lv.length lv.length, .int .i64 now] 33) := ⟨_, rfl⟩
  have HW7 : Hid (W7 = w6.alloc (.cells #[.slice (some ⟨g6, 0, none⟩) rs.length rs.length, .slice (some ⟨l6, 0, none⟩) lv.length lv.length, .int .i64 now] 33)) := hW7
  have b67 : Below w6.heap.size w6 W7 := by rw [hW7]; exact (Below.refl _ _).alloc (Nat.le_refl _) _
  have b57 : Below W5.heap.size W5 W7 := chainB b6 b67
  have K7 : Hid (Bxs W7 w6.heap.size 33 #[.slice (some ⟨g6, 0, none⟩) rs.length rs.length, .slice (some ⟨l6, 0, none⟩) lv.length lv.length, .int .i64 now]) := by rw [hW7]; exact Bxs.new _ _ _
  have A7 : Hid (Bxs W7 w4.heap.size 54 #[.string lf, .int .i64 ix, .int .i64 sz, .slice p1 P.length c1]) := A5.out.below b57
  have U1 : Hid (TxtAt W7 p1 P) := T1.out.below b57
  have HB7 : Hid (LgB W7 g6 xs6 l6 lv) := hB6.below b67
  have HSq : Hid (∀ j, lgS g6 xs6 l6 j → W5.heap.size ≤ j ∧ j < w6.heap.size) := fun j hj => by have := lgS_from hB6 hj; omega
  have H67 : Hid (w6.heap.size < W7.heap.size) := K7.out.lt
  have H57 : Hid (W5.heap.size ≤ W7.heap.size) := b57.size
  have KA7 : Hid (Bxs W7 w.heap.size 25 #[.slice q rs.length cq, .slice p lv.length cp, .int .i64 now]) := K5.out.below b57
  have B7 : Hid (Below w.heap.size w W7) := chainB HB5.out b57
  have HX6 : Hid (xs6.map (·.1) = rs) := hx6
  have hI := HI.out g6 l6 xs6 W7 hx6 HB7.out B7.out
  obtain ⟨y0, y1, y2⟩ := K7.out.three
  rw [HW7.out] at y0 y1 y2
  clear hW7 b67 b57 hB6 b6 hx6 hg6 K5 HB5 A5
  go_wp2_with fail
  rw [← HW7.out]
  refine hI.mono ?_
  rintro e w7 ⟨v, rfl, o1, b7⟩
  obtain ⟨q1, k1, rfl, n1, -⟩ := ownS_form o1
  obtain ⟨W8, hW8⟩ : ∃ W8, W8 = w7.alloc (.cells #[.string lf, .int .i64 ix, .int .i64 sz, .slice q1 P.length k1] 54) := ⟨_, rfl⟩
  have HW8 : Hid (W8 = w7.alloc (.cells #[.string lf, .int .i64 ix, .int .i64 sz, .slice q1 P.length k1] 54)) := hW8
  have ba : Below w7.heap.size w7 W8 := by rw [hW8]; exact (Below.refl _ _).alloc (Nat.le_refl _) _
  have b78 : Below W7.heap.size W7 W8 := chainB b7 ba
  have G8 : Hid (Bxs W8 w7.heap.size 54 #[.string lf, .int .i64 ix, .int .i64 sz, .slice q1 P.length k1]) := by rw [hW8]; exact Bxs.new _ _ _
  have H7G : Hid (W7.heap.size ≤ w7.heap.size) := b7.size
  have A8 : Hid (Bxs W8 w4.heap.size 54 #[.string lf, .int .i64 ix, .int .i64 sz, .slice p1 P.length c1]) := A7.out.below b78
  have P1 : Hid (W8.ownsRow W7.heap.size 9 1 (.slice q1 P.length k1) P.length (strRow (P))) := ownS_below o1 ba
  have hQ : Calls Tryz.prog 26 #[.agg #[.string lf, .int .i64 ix, .int .i64 sz, .slice q1 P.length k1], .agg #[.string lf, .int .i64 ix, .int .i64 sz, .slice p1 P.length c1]] W8 fun e w' => e = .returned (.bool true) ∧ Below W8.heap.size W8 w' := by
    obtain ⟨_, _, e1, _, u1⟩ := ownS_form P1.out
    cases e1
    exact eqProof_any lf ix sz q1 p1 k1 c1 P W8 u1 (U1.out.below b78) (by omega) n1 m1
  obtain ⟨r0, r1, r2, r3⟩ : W8.cell? ⟨w4.heap.size, 0, none⟩ = some (.string lf) ∧ W8.cell? ⟨w4.heap.size, 1, none⟩ = some (.int .i64 ix) ∧ W8.cell? ⟨w4.heap.size, 2, none⟩ = some (.int .i64 sz) ∧ W8.cell? ⟨w4.heap.size, 3, none⟩ = some (.slice p1 P.length c1) := A8.out.four
  rw [HW8.out] at r0 r1 r2 r3
  have HB78 : Hid (Below W7.heap.size W7 W8) := b78
  clear hI hW8 ba b7 b78 o1 y0 y1 y2 HW7 A7
  go_wp2_with fail
  rw [← HW8.out]
  refine hQ.mono ?_
  rintro e w8 ⟨rfl, b8'⟩
  have b8 : Below W7.heap.size W7 w8 := chainB HB78.out b8'
  have A9 : Hid (Bxs w8 w4.heap.size 54 #[.string lf, .int .i64 ix, .int .i64 sz, .slice p1 P.length c1]) := A8.out.below b8'
  have G9 : Hid (Bxs w8 w7.heap.size 54 #[.string lf, .int .i64 ix, .int .i64 sz, .slice q1 P.length k1]) := G8.out.below b8'
  have P3 : Hid (w8.ownsRow W7.heap.size 9 1 (.slice q1 P.length k1) P.length (strRow (P))) := ownS_below P1.out b8'
  have U3 : Hid (TxtAt w8 p1 P) := U1.out.below b8
  have K8 : Hid (Bxs w8 w6.heap.size 33 #[.slice (some ⟨g6, 0, none⟩) rs.length rs.length, .slice (some ⟨l6, 0, none⟩) lv.length lv.length, .int .i64 now]) := K7.out.below b8
  have KA8 : Hid (Bxs w8 w.heap.size 25 #[.slice q rs.length cq, .slice p lv.length cp, .int .i64 now]) := KA7.out.below b8
  have HL8 : Hid (LgB w8 g6 xs6 l6 lv) := HB7.out.below b8
  have HB8 : Hid (Below w.heap.size w w8) := chainB B7.out b8
  have HX : Hid (∀ x, Below w8.heap.size w8 x → (x.cell? ⟨w.heap.size, 0, none⟩ = some (.slice q rs.length cq) ∧ x.cell? ⟨w.heap.size, 1, none⟩ = some (.slice p lv.length cp) ∧ x.cell? ⟨w.heap.size, 2, none⟩ = some (.int .i64 now)) ∧ x.cell? ⟨w6.heap.size, 0, none⟩ = some (.slice (some ⟨g6, 0, none⟩) rs.length rs.length) ∧ x.cell? ⟨w6.heap.size, 1, none⟩ = some (.slice (some ⟨l6, 0, none⟩) lv.length lv.length) ∧ x.cell? ⟨w6.heap.size, 2, none⟩ = some (.int .i64 now)) := fun x hb => ⟨(KA8.out.below hb).three, (K8.out.below hb).three⟩
  have HEq : Hid (∀ x, Below w8.heap.size w8 x → ∀ g gl xs, xs.map (·.1) = rs → LgB x g xs gl lv → Calls Tryz.prog 14 #[.agg #[.slice (some ⟨g6, 0, none⟩) rs.length rs.length, .slice (some ⟨l6, 0, none⟩) lv.length lv.length, .int .i64 now], .agg #[.slice (some ⟨g, 0, none⟩) rs.length rs.length, .slice (some ⟨gl, 0, none⟩) lv.length lv.length, .int .i64 now]] x fun e w' => e = .returned (.bool true) ∧ Below x.heap.size x w') := fun x hb g gl xs hx hB => eqLog_any (some ⟨g6, 0, none⟩) (some ⟨g, 0, none⟩) rs.length rs.length rs (some ⟨l6, 0, none⟩) (some ⟨gl, 0, none⟩) lv.length lv.length lv now x (by have := (HL8.out.below hb).rw.at; rwa [HX6.out] at this) (by have := hB.rw.at; rwa [hx] at this) hrn (Nat.le_refl _) (Nat.le_refl _) HRF2.out (HL8.out.below hb).lf.txt hB.lf.txt hln (Nat.le_refl _) (Nat.le_refl _)
  have HMk : Hid (∀ x, LgB x g6 xs6 l6 lv → Calls Tryz.prog 16 #[.agg #[.slice (some ⟨g6, 0, none⟩) rs.length rs.length, .slice (some ⟨l6, 0, none⟩) lv.length lv.length, .int .i64 now], .int .i64 1] x fun e w' => (∃ r : Nat, e = .returned (.int .i64 (r : Int))) ∧ But (lgS g6 xs6 l6) x w') := fun x hB => by
    have hs := HSum.out
    have hxl : xs6.length = rs.length := by have := congrArg List.length HX6.out; simpa using this
    have := markLog_any g6 xs6 l6 lv now 1 x hB (Nat.le_refl _) (by omega) hln (by rw [HX6.out]; omega)
    rwa [hxl] at this
  clear b8 b8' K7 KA7 B7 HB7 hQ A8 G8 P1 U1 r0 r1 r2 r3 HW8 HB78
  go_upto_region 10 with fail
  refine wp_region_held_drew (S := (fun w' => (w'.cell? ⟨w.heap.size, 0, none⟩ = some (.slice q rs.length cq) ∧ w'.cell? ⟨w.heap.size, 1, none⟩ = some (.slice p lv.length cp) ∧ w'.cell? ⟨w.heap.size, 2, none⟩ = some (.int .i64 now)) ∧ w'.cell? ⟨w6.heap.size, 0, none⟩ = some (.slice (some ⟨g6, 0, none⟩) rs.length rs.length) ∧ w'.cell? ⟨w6.heap.size, 1, none⟩ = some (.slice (some ⟨l6, 0, none⟩) lv.length lv.length) ∧ w'.cell? ⟨w6.heap.size, 2, none⟩ = some (.int .i64 now))) (by kernel_rfl) (HX.out _ (Below.refl _ _).drew) (fun hHeld => ?_)
  refine take_at 0 (v := ?_) rfl (by kernel_rfl) (by kernel_rfl) (by kernel_rfl) (fun _ _ _ h => h) hHeld (Or.inl ⟨by rfl, ?_⟩) ?_
  rotate_left
  · (intro w hSw; (try dsimp only at hSw); go_simp; try with_reducible rfl)
  simp only [Act.put, List.setIfInBounds_toArray, List.set_cons_zero, List.set_cons_succ]
  refine take_at 1 (v := ?_) rfl (by kernel_rfl) (by kernel_rfl) (by kernel_rfl) (fun _ _ _ h => h) hHeld (Or.inl ⟨by rfl, ?_⟩) ?_
  rotate_left
  · (intro w hSw; (try dsimp only at hSw); go_simp; try with_reducible rfl)
  simp only [Act.put, List.setIfInBounds_toArray, List.set_cons_zero, List.set_cons_succ]
  refine ready_at 2 rfl (by kernel_rfl) (fun K hK => ?_)
  go_simp
  (go_at_call 10; with_reducible refine (HTo.out _ (chainB HB8.out (Below.refl _ _).drew)).mono ?_; rintro e z1 ⟨g9, l9, xs9, hx9, hg9, rfl, hB9, bz1⟩; have by1 : Below w8.heap.size w8 z1 := chainB (Below.refl _ _).drew bz1)
  refine hK.out _ _ (HX.out _ by1) (fun hHeld => ?_)
  clear hK K
  try simp only [Act.put, List.setIfInBounds_toArray, List.set_cons_zero, List.set_cons_succ]
  refine ready_at 3 rfl (by kernel_rfl) (fun K hK => ?_)
  go_simp
  (go_at_call 14; with_reducible refine (HEq.out z1 by1 g9 l9 xs9 hx9 hB9).mono ?_; rintro e z2 ⟨rfl, bz2⟩; have by2 : Below w8.heap.size w8 z2 := chainB by1 bz2)
  refine hK.out _ _ (HX.out _ by2) (fun hHeld => ?_)
  clear hK K
  try simp only [Act.put, List.setIfInBounds_toArray, List.set_cons_zero, List.set_cons_succ]
  refine take_at 4 (v := ?_) rfl (by kernel_rfl) (by kernel_rfl) (by kernel_rfl) (fun _ _ _ h => h) hHeld (Or.inl ⟨by rfl, ?_⟩) ?_
  rotate_left
  · (intro w hSw; (try dsimp only at hSw); go_simp; try with_reducible rfl)
  simp only [Act.put, List.setIfInBounds_toArray, List.set_cons_zero, List.set_cons_succ]
  refine wpAnyH_done (by kernel_rfl) ?_ _
  have A10 : Hid (Bxs z2 w4.heap.size 54 #[.string lf, .int .i64 ix, .int .i64 sz, .slice p1 P.length c1]) := A9.out.below by2
  have G10 : Hid (Bxs z2 w7.heap.size 54 #[.string lf, .int .i64 ix, .int .i64 sz, .slice q1 P.length k1]) := G9.out.below by2
  have P5 : Hid (z2.ownsRow W7.heap.size 9 1 (.slice q1 P.length k1) P.length (strRow (P))) := ownS_below P3.out by2
  have U5 : Hid (TxtAt z2 p1 P) := U3.out.below by2
  obtain ⟨y0, y1, y2⟩ := (K8.out.below by2).three
  have hM := HMk.out z2 (HL8.out.below by2)
  have HB9 : Hid (Below w.heap.size w z2) := chainB HB8.out by2
  have KA9 : Hid (Bxs z2 w.heap.size 25 #[.slice q rs.length cq, .slice p lv.length cp, .int .i64 now]) := KA8.out.below by2
  clear by2 by1 bz1 bz2 hB9 hx9 hg9 HX HEq HMk A9 G9 P3 U3 KA8 HB8
  go_wp2_with fail
  refine hM.mono ?_
  rintro e w9 ⟨⟨k9, rfl⟩, but9⟩
  have hq6 := HSq.out
  have h67 := H67.out
  have h57 := H57.out
  have hA5 := HA5.out
  have hK5 := HK5.out
  have h7G := H7G.out
  have A11 : Hid (Bxs w9 w4.heap.size 54 #[.string lf, .int .i64 ix, .int .i64 sz, .slice p1 P.length c1]) := A10.out.but but9 (fun hs => by have := (hq6 _ hs).1; omega)
  have G11 : Hid (Bxs w9 w7.heap.size 54 #[.string lf, .int .i64 ix, .int .i64 sz, .slice q1 P.length k1]) := G10.out.but but9 (fun hs => by have := (hq6 _ hs).2; omega)
  have P7 : Hid (w9.ownsRow W7.heap.size 9 1 (.slice q1 P.length k1) P.length (strRow (P))) := ownS_but P5.out but9 (fun j hj hs => by have := (P5.out.lt j hj).1; have := (hq6 j hs).2; omega)
  have U7 : Hid (TxtAt w9 p1 P) := txt_but T1.out U5.out but9 (fun j hs => (hq6 j hs).1)
  have KA10 : Hid (Bxs w9 w.heap.size 25 #[.slice q rs.length cq, .slice p lv.length cp, .int .i64 now]) := KA9.out.but but9 (fun hs => by have := (hq6 _ hs).1; omega)
  have HB10 : Hid (Below w.heap.size w w9) := But.below HB9.out HB9.out.size but9 (fun j hs => by have := (hq6 j hs).1; omega)
  clear hM but9 y0 y1 y2 A10 G10 P5 U5 KA9 HB9 K8 HL8 hq6
  have hQ9 : Calls Tryz.prog 26 #[.agg #[.string lf, .int .i64 ix, .int .i64 sz, .slice q1 P.length k1], .agg #[.string lf, .int .i64 ix, .int .i64 sz, .slice p1 P.length c1]] w9 fun e w' => e = .returned (.bool true) ∧ Below w9.heap.size w9 w' := by
    obtain ⟨_, _, e1, _, u1⟩ := ownS_form P7.out
    cases e1
    exact eqProof_any lf ix sz q1 p1 k1 c1 P w9 u1 U7.out (by omega) n1 m1
  obtain ⟨r0, r1, r2, r3⟩ : w9.cell? ⟨w4.heap.size, 0, none⟩ = some (.string lf) ∧ w9.cell? ⟨w4.heap.size, 1, none⟩ = some (.int .i64 ix) ∧ w9.cell? ⟨w4.heap.size, 2, none⟩ = some (.int .i64 sz) ∧ w9.cell? ⟨w4.heap.size, 3, none⟩ = some (.slice p1 P.length c1) := A11.out.four
  obtain ⟨s0, s1, s2, s3⟩ : w9.cell? ⟨w7.heap.size, 0, none⟩ = some (.string lf) ∧ w9.cell? ⟨w7.heap.size, 1, none⟩ = some (.int .i64 ix) ∧ w9.cell? ⟨w7.heap.size, 2, none⟩ = some (.int .i64 sz) ∧ w9.cell? ⟨w7.heap.size, 3, none⟩ = some (.slice q1 P.length k1) := G11.out.four
  have d9 : decide ((k9 : Int) < 0) = false := decide_eq_false (by omega)
  go_wp2_with fail
  refine hQ9.mono ?_
  rintro e w10 ⟨rfl, b10⟩
  have A12 := A11.out.below b10
  have G12 := G11.out.below b10
  have P9 := ownS_below P7.out b10
  have V1 := U7.out.below b10
  have KA11 := KA10.out.below b10
  have HB11 : Below w.heap.size w w10 := chainB HB10.out b10
  have hM := markProof_any lf ix sz W7.heap.size q1 k1 P w10 P9 (by omega)
  obtain ⟨zz0, zz1, zz2, zz3⟩ : w10.cell? ⟨w7.heap.size, 0, none⟩ = some (.string lf) ∧ w10.cell? ⟨w7.heap.size, 1, none⟩ = some (.int .i64 ix) ∧ w10.cell? ⟨w7.heap.size, 2, none⟩ = some (.int .i64 sz) ∧ w10.cell? ⟨w7.heap.size, 3, none⟩ = some (.slice q1 P.length k1) := G12.four
  clear hQ9 b10 r0 r1 r2 r3 s0 s1 s2 s3 d9 A11 G11 P7 U7 KA10 HB10
  go_wp2_with fail
  refine hM.mono ?_
  rintro e w11 ⟨rfl, M1, ga⟩
  have ra : ∀ j, (Value.slice q1 P.length k1).ownBlock = some j → W7.heap.size ≤ j := fun j hj => (P9.lt j hj).1
  have A13 : Hid (Bxs w11 w4.heap.size 54 #[.string lf, .int .i64 ix, .int .i64 sz, .slice p1 P.length c1]) := A12.grown ga (fun e => by have := ra _ e.symm; omega)
  have G13 : Hid (Bxs w11 w7.heap.size 54 #[.string lf, .int .i64 ix, .int .i64 sz, .slice q1 P.length k1]) := G12.grown ga (bxs_ne G12 (by decide) P9)
  have S1 : Hid (TxtAt w11 p1 P) := txt_grown T1.out V1 ga (fun j hj => by have := ra j hj; omega)
  have KA12 : Hid (Bxs w11 w.heap.size 25 #[.slice q rs.length cq, .slice p lv.length cp, .int .i64 now]) := KA11.grown ga (fun e => by have := ra _ e.symm; omega)
  have HB12 : Hid (Below w.heap.size w w11) := HB11.grown ga HB11.size (fun j hj => by have := ra j hj; omega)
  have Q1 : Hid (w11.ownsRow W7.heap.size 9 1 (.slice q1 P.length k1) P.length (strRow (marksL P.length))) := M1
  have hH := heldProof_any lf ix sz q1 k1 P.length w11 (txt_marks M1) (by omega) n1
  have d3 : decide ((P.length : Int) + 1 < 0) = false := decide_eq_false (by omega)
  obtain ⟨s0, s1, s2, s3⟩ : w11.cell? ⟨w7.heap.size, 0, none⟩ = some (.string lf) ∧ w11.cell? ⟨w7.heap.size, 1, none⟩ = some (.int .i64 ix) ∧ w11.cell? ⟨w7.heap.size, 2, none⟩ = some (.int .i64 sz) ∧ w11.cell? ⟨w7.heap.size, 3, none⟩ = some (.slice q1 P.length k1) := G13.out.four
  clear hM zz0 zz1 zz2 zz3 A12 G12 P9 V1 KA11 HB11 M1 ga ra
  go_wp2_with fail
  refine hH.mono ?_
  rintro e w12 ⟨rfl, b12⟩
  have A14 : Hid (Bxs w12 w4.heap.size 54 #[.string lf, .int .i64 ix, .int .i64 sz, .slice p1 P.length c1]) := A13.out.below b12
  have G14 : Hid (Bxs w12 w7.heap.size 54 #[.string lf, .int .i64 ix, .int .i64 sz, .slice q1 P.length k1]) := G13.out.below b12
  have S3 : Hid (TxtAt w12 p1 P) := S1.out.below b12
  have Q3 : Hid (w12.ownsRow W7.heap.size 9 1 (.slice q1 P.length k1) P.length (strRow (marksL P.length))) := ownS_below Q1.out b12
  have KA13 : Hid (Bxs w12 w.heap.size 25 #[.slice q rs.length cq, .slice p lv.length cp, .int .i64 now]) := KA12.out.below b12
  have HB13 : Hid (Below w.heap.size w w12) := chainB HB12.out b12
  obtain ⟨x0, x1, x2⟩ := KA13.out.three
  have hTo3 := HTo.out w12 HB13.out
  clear hH b12 s0 s1 s2 s3 A13 G13 S1 Q1 KA12 HB12 HTo
  go_wp2_with fail
  refine hTo3.mono ?_
  rintro e w13 ⟨g13, l13, xs13, hx13, hg13, rfl, hB13, b13⟩
  have HB14 : Hid (Below w.heap.size w w13) := chainB HB13.out b13
  have hI2 := HI.out g13 l13 xs13 w13 hx13 hB13 HB14.out
  have HB1213 : Hid (Below w12.heap.size w12 w13) := b13
  clear hTo3 x0 x1 x2 hB13 hx13 hg13 b13 KA13 HB13 HI
  go_wp2_with fail
  refine hI2.mono ?_
  rintro e w14 ⟨v, rfl, o1, b14⟩
  obtain ⟨q3, k3, rfl, n3, u3⟩ := ownS_form o1
  obtain ⟨W15, hW15⟩ : ∃ W15, W15 = w14.alloc (.cells #[.string lf, .int .i64 ix, .int .i64 sz, .slice q3 P.length k3] 54) := ⟨_, rfl⟩
  have HW15 : Hid (W15 = w14.alloc (.cells #[.string lf, .int .i64 ix, .int .i64 sz, .slice q3 P.length k3] 54)) := hW15
  have ba : Below w14.heap.size w14 W15 := by rw [hW15]; exact (Below.refl _ _).alloc (Nat.le_refl _) _
  have b15 : Below w12.heap.size w12 W15 := chainB (chainB HB1213.out b14) ba
  have A15 : Hid (Bxs W15 w4.heap.size 54 #[.string lf, .int .i64 ix, .int .i64 sz, .slice p1 P.length c1]) := A14.out.below b15
  have G15 : Hid (Bxs W15 w7.heap.size 54 #[.string lf, .int .i64 ix, .int .i64 sz, .slice q1 P.length k1]) := G14.out.below b15
  have Q5 : Hid (W15.ownsRow W7.heap.size 9 1 (.slice q1 P.length k1) P.length (strRow (marksL P.length))) := ownS_below Q3.out b15
  have HB15 : Hid (Below w.heap.size w W15) := chainB (chainB HB14.out b14) ba
  have hQ := eqProof_any lf ix sz q3 p1 k3 c1 P W15 (u3.below ba) (S3.out.below b15) (by omega) n3 m1
  obtain ⟨r0, r1, r2, r3⟩ : W15.cell? ⟨w4.heap.size, 0, none⟩ = some (.string lf) ∧ W15.cell? ⟨w4.heap.size, 1, none⟩ = some (.int .i64 ix) ∧ W15.cell? ⟨w4.heap.size, 2, none⟩ = some (.int .i64 sz) ∧ W15.cell? ⟨w4.heap.size, 3, none⟩ = some (.slice p1 P.length c1) := A15.out.four
  rw [HW15.out] at r0 r1 r2 r3
  clear hI2 hW15 ba b14 b15 o1 u3 A14 G14 S3 Q3 HB14 HB1213
  go_wp2_with fail
  rw [← HW15.out]
  refine hQ.mono ?_
  rintro e w15 ⟨rfl, b16⟩
  have G16 := G15.out.below b16
  obtain ⟨s0, s1, s2, s3⟩ : w15.cell? ⟨w7.heap.size, 0, none⟩ = some (.string lf) ∧ w15.cell? ⟨w7.heap.size, 1, none⟩ = some (.int .i64 ix) ∧ w15.cell? ⟨w7.heap.size, 2, none⟩ = some (.int .i64 sz) ∧ w15.cell? ⟨w7.heap.size, 3, none⟩ = some (.slice q1 P.length k1) := G16.four
  have hH := heldProof_any lf ix sz q1 k1 P.length w15 (txt_marks (ownS_below Q5.out b16)) (by omega) n1
  have HB16 : Hid (Below w.heap.size w w15) := chainB HB15.out b16
  clear hQ b16 r0 r1 r2 r3 A15 G15 G16 Q5 HB15 HW15
  go_wp2_with fail
  refine hH.mono ?_
  rintro e w16 ⟨rfl, b17⟩
  have b17 := chainB HB16.out b17
  clear hH s0 s1 s2 s3
  go_wp2_with fail
  go_ret
  exact ⟨rfl, b17⟩

theorem contract (H : Type) (enc : TypeId × Value → H) (W : World) (base : Nat) (args : Array Value) (ds gs : List (DataW H)) (before : List MemPlace)
    (hval : ∀ (j : Nat) t v, Tryz.f6.params[j]? = some t → args[j]? = some v → Value.okWide Tryz.prog W .any base t v)
    (hW : DataW.Whole enc Tryz.prog Tryz.f6.params.toList Rows.fnExactProofAtSpec.vars false W args.toList ds gs before) (hL : laidMetH Tryz.prog Rows.fnExactProofAtRow.laid W) :
    Calls Tryz.prog 6 args W fun e W' => ∃ v, e = .returned v ∧ Rows.fnExactProofAtSpec.post enc Tryz.prog Tryz.f6 false true false false W args v W' := by
  have hW' := hW
  obtain ⟨p, q, hA0, hV, rfl, hfz, hnd⟩ := hW
  have hA : DataW.TrodAll enc Tryz.prog W 0 (fun _ => true) true Tryz.f6.params.toList args.toList ds p := hA0
  rw [Tryz.params6] at hA hval
  obtain ⟨v0, vs0, d0, ds0, p0, q0, hargs, rfl, rfl, h0, r0⟩ := trodAll_cons hA
  obtain ⟨v1, vs1, d1, ds1, p1, q1, rfl, rfl, rfl, h1, r1⟩ := trodAll_cons r0
  obtain ⟨rfl, rfl, rfl⟩ := trodAll_nil r1
  obtain rfl : args = #[v0, v1] := by cases args; simp_all
  have hV2 : DataW.TrodVars enc Tryz.prog W (fun _ => true) ["loop.example/g00633/impl.firstState", "loop.example/g00633/impl.roundNums"] gs q := hV
  obtain ⟨_, _, _, _, e0, _, _, _, _, _, e1, _, rfl, _⟩ := trodVars_two hV2
  have k0 := h0
  have lt0 : ∀ x ∈ p0, x.block < W.heap.size := by obtain ⟨m, hm⟩ := k0; exact DataW.trod_lt m _ _ _ hm
  obtain ⟨q0, cq0, rs0, pp0, cp0, lv0, now0, rfl, w0⟩ := open_log (hval 0 25 v0 rfl rfl) h0
  obtain ⟨a1, rfl, rfl, rfl, w1⟩ := open_int Tryz.underlying2 (hval 1 2 v1 rfl rfl) h1
  clear hA0
  obtain ⟨hT, hLd⟩ := laid3_of hL
  refine (walk q0 cq0 rs0 pp0 cp0 lv0 now0 a1 W w0 w1 hT hLd).mono fun e W' ⟨he, hg⟩ => ?_
  subst he
  exact ⟨_, rfl, _, _, _, [], _, _, hW', (trodAll_cons_mk (shut_bool Tryz.underlying4 _) trodAll_mk0), (trodAll_cons_mk (Below.trod laidOut (by kernel_rfl) (of_decide_eq_true (by kernel_rfl)) k0 hg lt0) (trodAll_cons_mk (shut_int Tryz.underlying2 w1) trodAll_mk0)), Below.trodVars laidOut hg (by kernel_rfl) hV, hg.frame _, fun h => by cases h⟩

/-- A start in which the listed variables lie as the program's text lays them: what the door's own run leaves. -/
noncomputable def wit (os : Os) : World := World.doorLaid Tryz.prog 26 os
theorem laid_met (os : Os) : laidMetH Tryz.prog Rows.fnExactProofAtRow.laid ((wit os).forCall (fun _ _ => 0) ⟨#[], #[.agg #[.slice none 0 0, .slice none 0 0, .int .i64 0], .int .i64 0], []⟩).memory :=
  laidMetH_of_parts3 (fuel := 8) (laidMet_of_run' 8 (by kernel_rfl) (by kernel_rfl)) (by kernel_rfl) (by kernel_rfl)
theorem reads (os : Os) {H : Type} (enc : TypeId × Value → H) : ∃ gs places, DataW.whole enc Tryz.prog ((wit os).forCall (fun _ _ => 0) ⟨#[], #[.agg #[.slice none 0 0, .slice none 0 0, .int .i64 0], .int .i64 0], []⟩).memory Tryz.f6.params.toList Rows.fnExactProofAtSpec.vars false #[Value.agg #[.slice none 0 0, .slice none 0 0, .int .i64 0], Value.int .i64 0].toList 8 = some ([.agg [.nil, .nil, .lit (.int .i64 0)], .lit (.int .i64 0)], gs, places) := by
  have h : (DataW.whole enc Tryz.prog ((wit os).forCall (fun _ _ => 0) ⟨#[], #[.agg #[.slice none 0 0, .slice none 0 0, .int .i64 0], .int .i64 0], []⟩).memory Tryz.f6.params.toList Rows.fnExactProofAtSpec.vars false #[Value.agg #[.slice none 0 0, .slice none 0 0, .int .i64 0], Value.int .i64 0].toList 8).map (fun x => x.1) = some [.agg [.nil, .nil, .lit (.int .i64 0)], .lit (.int .i64 0)] := by kernel_rfl
  obtain ⟨⟨a, b, c⟩, hx, hy⟩ := Option.map_eq_some_iff.1 h
  cases hy
  exact ⟨b, c, hx⟩

set_option maxRecDepth 100000 in
theorem lifted (os : Os) (started : os.Started) (H : Type) (enc : TypeId × Value → H) (F : Stop.Interp) :
    ReturnsInHanded {} Tryz.checked os 6 .any ((OpenSpec.ofChange Rows.fnExactProofAtSpec).preRow enc Tryz.prog Tryz.f6 Rows.fnExactProofAtRow.domain false Rows.fnExactProofAtRow.laid) (((OpenSpec.ofChange Rows.fnExactProofAtSpec).at F).post enc Tryz.prog Tryz.f6 false true false false) := by
  obtain ⟨gs, places, hx⟩ := reads os enc
  refine returnsInHanded_of_row (C := Tryz.checked) (s := OpenSpec.ofChange Rows.fnExactProofAtSpec) own started (by kernel_rfl) Tryz.func6
    (witness_row_at (enc := enc) (C := Tryz.checked) false (wit os) #[.agg #[.slice none 0 0, .slice none 0 0, .int .i64 0], .int .i64 0] rfl (by kernel_rfl) (by kernel_rfl) (by kernel_rfl)
      (OpenSpec.preRow_of_cond 8 hx rfl (fun k hk => by cases hk) (by kernel_rfl) (laid_met os))) ?_
  intro W base args ds gs before hval hW _ _ _ hL _ _
  exact contract H enc W base args ds gs before hval hW hL

theorem said : Rows.FnExactProofAtSaid :=
  OpenClaim.holds_of_cond 6 Tryz.f6 rfl rfl rfl rfl rfl rfl rfl ⟨rfl, rfl, rfl, rfl, rfl⟩ rfl rfl rfl rfl rfl (by kernel_rfl) Tryz.func6 (by kernel_rfl)
    (of_decide_eq_true (by kernel_rfl)) (by unfold Func.isWrapper; first | (rw [if_pos (by decide +kernel)]; kernel_rfl) | (rw [if_neg (by decide +kernel)]; exact ⟨rfl, rfl⟩))
    (fun os started H enc _ F => by rw [OpenClaim.pre_eq_preRow]; exact lifted os started H enc F)

theorem plain (f : FuncId) (fn : Func) (hf : Tryz.pinned.checked.prog.funcNamed "loop.example/g00633/laws.FnExactProofAt" = some f) (hfn : Tryz.pinned.checked.prog.funcs[f]? = some fn) :
    Rows.fnExactProofAtCard.stood.looks = Tryz.pinned.checked.prog.looks [] ∧ ∀ (j : Nat) t, fn.params[j]? = some t → Tryz.pinned.checked.prog.wantsStandIn t = false := by
  obtain rfl : f = 6 := Option.some.inj ((show Tryz.prog.funcNamed "loop.example/g00633/laws.FnExactProofAt" = some 6 by kernel_rfl).symm.trans hf) |>.symm
  obtain rfl : fn = Tryz.f6 := (Option.some.inj (Tryz.func6.symm.trans hfn)).symm
  refine ⟨by kernel_rfl, fun j t ht => ?_⟩
  rw [Tryz.params6] at ht
  have hm := Array.mem_of_getElem? ht
  have hl : t ∈ ([25, 2] : List TypeId) := by simpa using hm
  simp only [List.mem_cons, List.not_mem_nil, or_false] at hl
  rcases hl with rfl | rfl
  · exact (show Tryz.prog.wantsStandIn 25 = false by kernel_rfl)
  · exact (show Tryz.prog.wantsStandIn 2 = false by kernel_rfl)

theorem proved : Rows.FnExactProofAtCardSaid :=
  Claim7.holds_tied_plain_at .later [] _ _ _ _ said (fun _ h => by cases h) (by kernel_rfl) (fun _ h => by cases h) fnExactProofAt_row_tie rfl ⟨rfl, rfl⟩ (by kernel_rfl) rfl plain (by kernel_rfl)
#print axioms proved
end Go.Proofs.YtnkcigobjaplkabGreatDoor.fnExactProofAt
