/-
  For every log, row and field the law FnExactAnswerOf returns true: the program's AnswerOf answers as the specification's, writes into no argument, keeps nothing of one, and its answer owns its memory; the card ties the listed variables, errors.errorType and the two tables firstState and roundNums, to the program's text.
  Conditions: none of mine; the form's own reach; the listed variables as the program's text lays them (the given tie). The card speaks of the pruned copy of the project that the seat names.
-/
import Derived.Test.YtamdgdkpcoeknaaGreatDoorCards
import Derived.Test.YtamdgdkpcoeknaaGreatDoorTie
import Derived.Test.YtamdgdkpcoeknaaGreatDoorAnSaid
import Derived.Test.YtamdgdkpcoeknaaGreatDoorTreeMathSlASlBBxKOwnS
import Derived.Test.YtamdgdkpcoeknaaGreatDoorTimeBPutMathPutNumJoinedPutTextFldMath
import Derived.Test.YtamdgdkpcoeknaaGreatDoorFldGShwKFldHPathMathFldRiseScanMath
import Derived.Test.YtamdgdkpcoeknaaGreatDoorLgMathLgAtKOneKFldBlkRwBlkTakes
import Derived.Test.YtamdgdkpcoeknaaGreatDoorLawLgLawLh
import Derived.Test.YtamdgdkpcoeknaaGreatDoorLawLzLawMLawMGLawFM
import Derived.Test.YtamdgdkpcoeknaaGreatDoorLawLmLgAnsLgRtTakesL
import Derived.Test.YtamdgdkpcoeknaaGreatDoorPrfLs
import Derived.Test.YtamdgdkpcoeknaaGreatDoorPrfLi
import Derived.Test.YtamdgdkpcoeknaaGreatDoorProofG
import Derived.Test.YtamdgdkpcoeknaaGreatDoorAnMath
import Derived.Test.YtamdgdkpcoeknaaGreatDoorAnS
import Derived.Test.YtamdgdkpcoeknaaGreatDoorAnI
import Derived.Test.YtamdgdkpcoeknaaGreatDoorLawAn
import Derived.Test.YtamdgdkpcoeknaaGreatDoorOpFOpLgTabsOfTabEt
import Derived.WalkKit
import Derived.ProofKit
import Derived.OpenShut
import Derived.OpenVars
import Derived.ShutString
import Derived.LaidHandle
import Derived.LaidLaws
import Derived.LaidMore
import Derived.Deep.DeepHandedRow
import Derived.ChangeOld
import Derived.Below
namespace Go.Proofs.YtamdgdkpcoeknaaGreatDoor.fnExactAnswerOf
open Go.ChangeShapes Go.WideShapes Go.ChangeAt Go.RowKit
open Go.ChangeMaps (open_string shut_string)
set_option linter.unusedVariables false
set_option maxRecDepth 100000

theorem own : ownKnob Tryz.prog.godebug = none := by kernel_rfl
theorem laidOut : laidOutB Tryz.prog = true := by kernel_rfl

theorem int_bd {k : Int} (h : (Lit.int .i64 k).wf = true) : -9223372036854775808 ≤ k ∧ k ≤ 9223372036854775807 := by simpa [Lit.wf, IntKind.min, IntKind.max, IntKind.signed, IntKind.bits] using h
theorem lenPf (rs : List Rw) (lv : List ByteArray) (now i : Int) : (pfP rs lv now i).length ≤ 1024 := by
  have h := pathA_len lv i
  unfold pfP; split
  · rename_i hk
    obtain ⟨hg, h0, h1⟩ := hk
    unfold pathA at h
    rwa [if_pos ⟨entB_true (lg_right hg).2.1 (fun j hj => lg_small hg _ (List.getElem_mem hj)), h0, h1⟩] at h
  · simp
theorem shO_len (k : ByteArray) (at_ : Int) (fs : List Fld) (i : Int) : (shO k at_ fs i).ns.length ≤ fs.length ∧ (shO k at_ fs i).cs.length ≤ fs.length := by
  unfold shO
  split
  · exact ⟨by simp, by simp⟩
  · exact ⟨Nat.zero_le _, Nat.zero_le _⟩
theorem an_small {rs : List Rw} {lv : List ByteArray} {now r f : Int} (hrf : ∀ x ∈ rs, x.fs.length ≤ 1048576) : anSm (anO rs lv now r f) := by
  have hd : (rs.getD r.toNat rwZ).fs.length ≤ 1048576 := by
    rw [List.getD_eq_getElem?_getD]
    by_cases h : r.toNat < rs.length
    · rw [List.getElem?_eq_getElem h, Option.getD_some]; exact hrf _ (List.getElem_mem h)
    · rw [List.getElem?_eq_none (by omega)]; exact Nat.zero_le _
  have h1 := lenPf rs lv now (plB lv r)
  have h2 := lenPf rs lv now (tbAt lv r f)
  have h3 := shO_len (rs.getD r.toNat rwZ).k (rs.getD r.toNat rwZ).a (rs.getD r.toNat rwZ).fs f
  unfold anO
  split
  · split
    · exact ⟨by unfold anRow; show (pfP rs lv now (plB lv r)).length ≤ _; omega, by unfold anRow; exact Nat.le_trans h3.1 hd, by unfold anRow; exact Nat.le_trans h3.2 hd, Nat.zero_le _⟩
    · split
      · exact ⟨by unfold anTmb; show (pfP rs lv now (plB lv r)).length ≤ _; omega, Nat.zero_le _, Nat.zero_le _, by unfold anTmb; show (pfP rs lv now (tbAt lv r f)).length ≤ _; omega⟩
      · exact ⟨Nat.zero_le _, Nat.zero_le _, Nat.zero_le _, Nat.zero_le _⟩
  · exact ⟨Nat.zero_le _, Nat.zero_le _, Nat.zero_le _, Nat.zero_le _⟩
set_option maxHeartbeats 8000000 in
theorem walk (q : Option Addr) (cq : Nat) (rs : List Rw) (p : Option Addr) (cp : Nat) (lv : List ByteArray) (now : Int) (r f : Int) (w : World) (w0 : IsLog w q cq rs p cp lv now) (w1 : (Lit.int .i64 r).wf = true) (w2 : (Lit.int .i64 f).wf = true) (hT : Tabs w) (hg : Laid w) :
    Calls Tryz.prog 3 #[.agg #[.slice q rs.length cq, .slice p lv.length cp, .int .i64 now], .int .i64 r, .int .i64 f] w fun e w' => e = .returned (.bool true) ∧ Below w.heap.size w w' := by
  obtain ⟨⟨-, hRw, hcq, hmq, hzr⟩, ⟨-, hTx, hcp, hmp, hzl⟩, hnow⟩ := w0
  have HT : Hid (Tabs w) := hT
  have HG : Hid (Laid w) := hg
  have HR : Hid (RwAt w q rs) := hRw
  have HL : Hid (TxtAt w p lv) := hTx
  have HZR : Hid (∀ r ∈ rs, r.fs.length ≤ maxLen ∧ r.k.size ≤ maxLen ∧ FldsLe r.fs) := hzr
  have HZL : Hid (∀ x ∈ lv, x.size ≤ maxLen) := hzl
  have HBg : Hid (RwsBig rs) := fun r hr => by have h := hzr r hr; unfold maxLen at h; exact ⟨h.1, h.2.1, fun f hf => by have := h.2.2 f hf; unfold maxLen at this; exact this⟩
  have HLB : Hid (∀ x ∈ lv, x.size ≤ 9223372036854775807) := fun x hx => by have := hzl x hx; unfold maxLen at this; exact this
  unfold maxLen at hmq hmp
  clear hRw hTx hzr hzl hT hg w1 w2 hnow
  obtain ⟨W1, hW1⟩ : ∃ W1, W1 = w.alloc (.cells #[.slice q rs.length cq, .slice p lv.length cp, .int .i64 now] 25) := ⟨_, rfl⟩
  have HW1 : Hid (W1 = w.alloc (.cells #[.slice q rs.length cq, .slice p lv.length cp, .int .i64 now] 25)) := hW1
  have B1 : Hid (Below w.heap.size w W1) := by rw [hW1]; exact (Below.refl _ _).alloc (Nat.le_refl _) _
  have K1 : Hid (Bxs W1 w.heap.size 25 #[.slice q rs.length cq, .slice p lv.length cp, .int .i64 now]) := by rw [hW1]; exact Bxs.new _ _ _
  have hSz := szLogZ_any q cq rs p cp lv now W1 (HR.out.below B1.out) (by omega) hcq HBg.out (HL.out.below B1.out) (by omega) hcp HLB.out
  obtain ⟨x0, x1, x2⟩ := K1.out.three
  clear hW1
  go_enter Tryz.func3, Tryz.ntmps3
  go_upto_region 1 with fail
  rw [← HW1.out]
  go_wp2_with fail
  refine hSz.mono ?_
  rintro e w2 ⟨⟨r0, rfl, hr⟩, b2⟩
  clear hSz x0 x1 x2
  rcases hr with rfl | ⟨hr0, hsum⟩
  · go_wp2_with fail
    go_ret
    exact ⟨rfl, chainB B1.out b2⟩
  have hrf : ∀ x ∈ rs, x.fs.length ≤ 1048576 := fun x hx => by have := fsN_mem hx; omega
  have hrn : rs.length ≤ 1048576 := by omega
  have hln : lv.length ≤ 1048576 := by omega
  have HSum : Hid (rs.length + fsN rs + lv.length ≤ 1048576) := hsum
  have dr : decide (r0 < 0) = false := decide_eq_false (by omega)
  have HB2 : Hid (Below w.heap.size w w2) := chainB B1.out b2
  have K2 : Hid (Bxs w2 w.heap.size 25 #[.slice q rs.length cq, .slice p lv.length cp, .int .i64 now]) := K1.out.below b2
  have HAt : Hid (∀ g gl xs x, xs.map (·.1) = rs → LgB x g xs gl lv → LgAt (some ⟨gl, 0, none⟩) lv lv.length (some ⟨g, 0, none⟩) rs rs.length x) := fun g gl xs x hx hB => ⟨hB.lf.txt, Nat.le_refl _, hln, HZL.out, by have := hB.rw.at; rwa [hx] at this, Nat.le_refl _, hrn, fun r hr => ⟨hrf r hr, (HZR.out r hr).2.1, (HZR.out r hr).2.2⟩⟩
  have HTo : Hid (∀ x, Below w.heap.size w x → Calls Tryz.prog 7 #[.agg #[.slice q rs.length cq, .slice p lv.length cp, .int .i64 now]] x fun e w' => ∃ g gl xs, xs.map (·.1) = rs ∧ x.heap.size ≤ g ∧ e = .returned (.agg #[.slice (some ⟨g, 0, none⟩) rs.length rs.length, .slice (some ⟨gl, 0, none⟩) lv.length lv.length, .int .i64 now]) ∧ LgB w' g xs gl lv ∧ Below x.heap.size x w') := fun x hb => toLog_any q cq rs p cp lv now x (HR.out.below hb) hrn hcq hrf (HL.out.below hb) hln hcp
  obtain ⟨OA, hOA⟩ : ∃ OA, OA = anO rs lv now r f := ⟨_, rfl⟩
  have HSm : Hid (anSm OA) := by rw [hOA]; exact an_small hrf
  have HS : Hid (∀ g gl xs x, xs.map (·.1) = rs → LgB x g xs gl lv → Calls Tryz.prog 6 #[.agg #[.slice (some ⟨g, 0, none⟩) rs.length rs.length, .slice (some ⟨gl, 0, none⟩) lv.length lv.length, .int .i64 now], .int .i64 r, .int .i64 f] x fun e w' => ∃ p1v c1v p2v c2v p3v c3v p4v c4v, e = .returned (.agg #[.string OA.l1, .int .i64 OA.i1, .int .i64 OA.s1, .slice p1v OA.p1.length c1v, .string OA.sh.k, .int .i64 OA.sh.at_, .slice p2v OA.sh.ns.length c2v, .slice p3v OA.sh.cs.length c3v, .int .i64 OA.sh.ix, .string OA.sh.s, .string OA.sh.v, .string OA.l2, .int .i64 OA.i2, .int .i64 OA.s2, .slice p4v OA.p2.length c4v]) ∧ AnsO x.heap.size OA (.slice p1v OA.p1.length c1v) (.slice p2v OA.sh.ns.length c2v) (.slice p3v OA.sh.cs.length c3v) (.slice p4v OA.p2.length c4v) w' ∧ Below x.heap.size x w') := fun g gl xs x hx hB => by
    rw [hOA]
    refine (specAnswerOf_any (some ⟨gl, 0, none⟩) lv lv.length (some ⟨g, 0, none⟩) rs rs.length now r f x (HAt.out g gl xs x hx hB)).mono ?_
    rintro e y ⟨⟨v1, v2, v3, v4, rfl, ho⟩, b⟩
    obtain ⟨p1, c1, p2, c2, p3, c3, p4, c4, rfl, rfl, rfl, rfl⟩ := ho.at
    exact ⟨p1, c1, p2, c2, p3, c3, p4, c4, rfl, ho, b⟩
  have HI : Hid (∀ g gl xs x, xs.map (·.1) = rs → LgB x g xs gl lv → Below w.heap.size w x → Calls Tryz.prog 8 #[.agg #[.slice (some ⟨g, 0, none⟩) rs.length rs.length, .slice (some ⟨gl, 0, none⟩) lv.length lv.length, .int .i64 now], .int .i64 r, .int .i64 f] x fun e w' => ∃ p1v c1v p2v c2v p3v c3v p4v c4v, e = .returned (.agg #[.string OA.l1, .int .i64 OA.i1, .int .i64 OA.s1, .slice p1v OA.p1.length c1v, .string OA.sh.k, .int .i64 OA.sh.at_, .slice p2v OA.sh.ns.length c2v, .slice p3v OA.sh.cs.length c3v, .int .i64 OA.sh.ix, .string OA.sh.s, .string OA.sh.v, .string OA.l2, .int .i64 OA.i2, .int .i64 OA.s2, .slice p4v OA.p2.length c4v]) ∧ AnsO x.heap.size OA (.slice p1v OA.p1.length c1v) (.slice p2v OA.sh.ns.length c2v) (.slice p3v OA.sh.cs.length c3v) (.slice p4v OA.p2.length c4v) w' ∧ Below x.heap.size x w') := fun g gl xs x hx hB hb => by
    rw [hOA]
    refine (implAnswerOf_any (some ⟨gl, 0, none⟩) lv lv.length (some ⟨g, 0, none⟩) rs rs.length now r f x (HT.out.to hb) (HG.out.below hb) (HAt.out g gl xs x hx hB)).mono ?_
    rintro e y ⟨⟨v1, v2, v3, v4, rfl, ho⟩, b⟩
    obtain ⟨p1, c1, p2, c2, p3, c3, p4, c4, rfl, rfl, rfl, rfl⟩ := ho.at
    exact ⟨p1, c1, p2, c2, p3, c3, p4, c4, rfl, ho, b⟩
  have HRF2 : Hid (∀ x ∈ rs, x.fs.length ≤ 1048576) := hrf
  have HEq : Hid (∀ x g gl xs g' gl' xs', xs.map (·.1) = rs → LgB x g xs gl lv → xs'.map (·.1) = rs → LgB x g' xs' gl' lv → Calls Tryz.prog 10 #[.agg #[.slice (some ⟨g, 0, none⟩) rs.length rs.length, .slice (some ⟨gl, 0, none⟩) lv.length lv.length, .int .i64 now], .agg #[.slice (some ⟨g', 0, none⟩) rs.length rs.length, .slice (some ⟨gl', 0, none⟩) lv.length lv.length, .int .i64 now]] x fun e w' => e = .returned (.bool true) ∧ Below x.heap.size x w') := fun x g gl xs g' gl' xs' hx hB hx' hB' => eqLog_any (some ⟨g, 0, none⟩) (some ⟨g', 0, none⟩) rs.length rs.length rs (some ⟨gl, 0, none⟩) (some ⟨gl', 0, none⟩) lv.length lv.length lv now x (by have := hB.rw.at; rwa [hx] at this) (by have := hB'.rw.at; rwa [hx'] at this) hrn (Nat.le_refl _) (Nat.le_refl _) hrf hB.lf.txt hB'.lf.txt hln (Nat.le_refl _) (Nat.le_refl _)
  have HML : Hid (∀ x g gl xs, xs.map (·.1) = rs → LgB x g xs gl lv → Calls Tryz.prog 11 #[.agg #[.slice (some ⟨g, 0, none⟩) rs.length rs.length, .slice (some ⟨gl, 0, none⟩) lv.length lv.length, .int .i64 now], .int .i64 1] x fun e w' => (∃ m : Nat, e = .returned (.int .i64 (m : Int))) ∧ But (lgS g xs gl) x w') := fun x g gl xs hx hB => by
    have hl : xs.length = rs.length := by rw [← hx, List.length_map]
    have := markLog_any g xs gl lv now 1 x hB (Nat.le_refl _) (by omega) hln (by rw [hx]; have := HSum.out; omega)
    rw [hl] at this
    exact this
  clear b2 K1 HBg HLB HZR HZL hrf HT HG HAt hsum hOA HR HL hcq hcp hmq hmp
  obtain ⟨x0, x1, x2⟩ := K2.out.three
  have hTo1 := HTo.out w2 HB2.out
  go_wp2_with fail
  refine hTo1.mono ?_
  rintro e w3 ⟨g3, l3, xs3, hx3, hg3, rfl, hB3, b3⟩
  have hS := HS.out g3 l3 xs3 w3 hx3 hB3
  clear hTo1 HS hB3 hx3 hg3 x0 x1 x2
  go_wp2_with fail
  refine hS.mono ?_
  rintro e w4 ⟨p1w, c1w, p2w, c2w, p3w, c3w, p4w, c4w, rfl, ho, b4⟩
  have hal : Below w4.heap.size w4 (w4.alloc (.cells #[.string OA.l1, .int .i64 OA.i1, .int .i64 OA.s1, .slice p1w OA.p1.length c1w, .string OA.sh.k, .int .i64 OA.sh.at_, .slice p2w OA.sh.ns.length c2w, .slice p3w OA.sh.cs.length c3w, .int .i64 OA.sh.ix, .string OA.sh.s, .string OA.sh.v, .string OA.l2, .int .i64 OA.i2, .int .i64 OA.s2, .slice p4w OA.p2.length c4w] 32)) := (Below.refl _ _).alloc (Nat.le_refl _) _
  have b24 : Below w2.heap.size w2 (w4.alloc (.cells #[.string OA.l1, .int .i64 OA.i1, .int .i64 OA.s1, .slice p1w OA.p1.length c1w, .string OA.sh.k, .int .i64 OA.sh.at_, .slice p2w OA.sh.ns.length c2w, .slice p3w OA.sh.cs.length c3w, .int .i64 OA.sh.ix, .string OA.sh.s, .string OA.sh.v, .string OA.l2, .int .i64 OA.i2, .int .i64 OA.s2, .slice p4w OA.p2.length c4w] 32)) := chainB (chainB b3 b4) hal
  have HB4 : Hid (Below w.heap.size w (w4.alloc (.cells #[.string OA.l1, .int .i64 OA.i1, .int .i64 OA.s1, .slice p1w OA.p1.length c1w, .string OA.sh.k, .int .i64 OA.sh.at_, .slice p2w OA.sh.ns.length c2w, .slice p3w OA.sh.cs.length c3w, .int .i64 OA.sh.ix, .string OA.sh.s, .string OA.sh.v, .string OA.l2, .int .i64 OA.i2, .int .i64 OA.s2, .slice p4w OA.p2.length c4w] 32))) := chainB HB2.out b24
  have K4 : Hid (Bxs (w4.alloc (.cells #[.string OA.l1, .int .i64 OA.i1, .int .i64 OA.s1, .slice p1w OA.p1.length c1w, .string OA.sh.k, .int .i64 OA.sh.at_, .slice p2w OA.sh.ns.length c2w, .slice p3w OA.sh.cs.length c3w, .int .i64 OA.sh.ix, .string OA.sh.s, .string OA.sh.v, .string OA.l2, .int .i64 OA.i2, .int .i64 OA.s2, .slice p4w OA.p2.length c4w] 32)) w.heap.size 25 #[.slice q rs.length cq, .slice p lv.length cp, .int .i64 now]) := K2.out.below b24
  have Q4 : Hid (Bxs (w4.alloc (.cells #[.string OA.l1, .int .i64 OA.i1, .int .i64 OA.s1, .slice p1w OA.p1.length c1w, .string OA.sh.k, .int .i64 OA.sh.at_, .slice p2w OA.sh.ns.length c2w, .slice p3w OA.sh.cs.length c3w, .int .i64 OA.sh.ix, .string OA.sh.s, .string OA.sh.v, .string OA.l2, .int .i64 OA.i2, .int .i64 OA.s2, .slice p4w OA.p2.length c4w] 32)) w4.heap.size 32 #[.string OA.l1, .int .i64 OA.i1, .int .i64 OA.s1, .slice p1w OA.p1.length c1w, .string OA.sh.k, .int .i64 OA.sh.at_, .slice p2w OA.sh.ns.length c2w, .slice p3w OA.sh.cs.length c3w, .int .i64 OA.sh.ix, .string OA.sh.s, .string OA.sh.v, .string OA.l2, .int .i64 OA.i2, .int .i64 OA.s2, .slice p4w OA.p2.length c4w]) := Bxs.new _ _ _
  have O4 : Hid (AnsO w.heap.size OA (.slice p1w OA.p1.length c1w) (.slice p2w OA.sh.ns.length c2w) (.slice p3w OA.sh.cs.length c3w) (.slice p4w OA.p2.length c4w) (w4.alloc (.cells #[.string OA.l1, .int .i64 OA.i1, .int .i64 OA.s1, .slice p1w OA.p1.length c1w, .string OA.sh.k, .int .i64 OA.sh.at_, .slice p2w OA.sh.ns.length c2w, .slice p3w OA.sh.cs.length c3w, .int .i64 OA.sh.ix, .string OA.sh.s, .string OA.sh.v, .string OA.l2, .int .i64 OA.i2, .int .i64 OA.s2, .slice p4w OA.p2.length c4w] 32))) := (ho.below hal).mono (Nat.le_trans HB2.out.size b3.size)
  have HE0 : Hid (w.heap.size < w4.heap.size) := by
    have h1 := K2.out.lt
    have h2 := b3.size
    have h3 := b4.size
    show _ < _
    omega
  clear hS b3 b4 b24 hal K2 HB2 ho
  go_upto_region 6 with fail
  generalize w4.heap.size = E1 at *
  generalize w4.alloc (.cells #[.string OA.l1, .int .i64 OA.i1, .int .i64 OA.s1, .slice p1w OA.p1.length c1w, .string OA.sh.k, .int .i64 OA.sh.at_, .slice p2w OA.sh.ns.length c2w, .slice p3w OA.sh.cs.length c3w, .int .i64 OA.sh.ix, .string OA.sh.s, .string OA.sh.v, .string OA.l2, .int .i64 OA.i2, .int .i64 OA.s2, .slice p4w OA.p2.length c4w] 32) = w5 at *
  have hTo2 := HTo.out w5 HB4.out
  obtain ⟨x0, x1, x2⟩ := K4.out.three
  go_wp2_with fail
  refine hTo2.mono ?_
  rintro e w6 ⟨g6, l6, xs6, hx6, hg6, rfl, hB6, b6⟩
  have HX6 : Hid (xs6.map (·.1) = rs) := hx6
  have hal : Below w6.heap.size w6 (w6.alloc (.cells #[.slice (some ⟨g6, 0, none⟩) rs.length rs.length, .slice (some ⟨l6, 0, none⟩) lv.length lv.length, .int .i64 now] 36)) := (Below.refl _ _).alloc (Nat.le_refl _) _
  have K7 : Hid (Bxs (w6.alloc (.cells #[.slice (some ⟨g6, 0, none⟩) rs.length rs.length, .slice (some ⟨l6, 0, none⟩) lv.length lv.length, .int .i64 now] 36)) w6.heap.size 36 #[.slice (some ⟨g6, 0, none⟩) rs.length rs.length, .slice (some ⟨l6, 0, none⟩) lv.length lv.length, .int .i64 now]) := Bxs.new _ _ _
  have L7 : Hid (LgB (w6.alloc (.cells #[.slice (some ⟨g6, 0, none⟩) rs.length rs.length, .slice (some ⟨l6, 0, none⟩) lv.length lv.length, .int .i64 now] 36)) g6 xs6 l6 lv) := hB6.below hal
  have C7 : Hid (Below w5.heap.size w5 (w6.alloc (.cells #[.slice (some ⟨g6, 0, none⟩) rs.length rs.length, .slice (some ⟨l6, 0, none⟩) lv.length lv.length, .int .i64 now] 36))) := chainB b6 hal
  have HS6 : Hid (∀ k, lgS g6 xs6 l6 k → w5.heap.size ≤ k ∧ k < w6.heap.size) := fun k hk => by
    have := lgS_from hB6 hk
    omega
  have HZ7 : Hid ((w6.alloc (.cells #[.slice (some ⟨g6, 0, none⟩) rs.length rs.length, .slice (some ⟨l6, 0, none⟩) lv.length lv.length, .int .i64 now] 36)).heap.size = w6.heap.size + 1) := szA _ _
  clear hTo2 x0 x1 x2 hx6 hg6 hB6 b6 hal
  go_upto_region 7 with fail
  generalize w6.heap.size = E7 at *
  generalize w6.alloc (.cells #[.slice (some ⟨g6, 0, none⟩) rs.length rs.length, .slice (some ⟨l6, 0, none⟩) lv.length lv.length, .int .i64 now] 36) = w7 at *
  have hI := HI.out g6 l6 xs6 w7 HX6.out L7.out (chainB HB4.out C7.out)
  obtain ⟨x0, x1, x2⟩ := K7.out.three
  go_wp2_with fail
  refine hI.mono ?_
  rintro e w8 ⟨p1g, c1g, p2g, c2g, p3g, c3g, p4g, c4g, rfl, ho, b8⟩
  have hal : Below w8.heap.size w8 (w8.alloc (.cells #[.string OA.l1, .int .i64 OA.i1, .int .i64 OA.s1, .slice p1g OA.p1.length c1g, .string OA.sh.k, .int .i64 OA.sh.at_, .slice p2g OA.sh.ns.length c2g, .slice p3g OA.sh.cs.length c3g, .int .i64 OA.sh.ix, .string OA.sh.s, .string OA.sh.v, .string OA.l2, .int .i64 OA.i2, .int .i64 OA.s2, .slice p4g OA.p2.length c4g] 32)) := (Below.refl _ _).alloc (Nat.le_refl _) _
  have b78 := chainB b8 hal
  have O9 : Hid (AnsO w7.heap.size OA (.slice p1g OA.p1.length c1g) (.slice p2g OA.sh.ns.length c2g) (.slice p3g OA.sh.cs.length c3g) (.slice p4g OA.p2.length c4g) (w8.alloc (.cells #[.string OA.l1, .int .i64 OA.i1, .int .i64 OA.s1, .slice p1g OA.p1.length c1g, .string OA.sh.k, .int .i64 OA.sh.at_, .slice p2g OA.sh.ns.length c2g, .slice p3g OA.sh.cs.length c3g, .int .i64 OA.sh.ix, .string OA.sh.s, .string OA.sh.v, .string OA.l2, .int .i64 OA.i2, .int .i64 OA.s2, .slice p4g OA.p2.length c4g] 32))) := ho.below hal
  have HSG : Hid (∀ k, anS (.slice p1g OA.p1.length c1g) (.slice p2g OA.sh.ns.length c2g) (.slice p3g OA.sh.cs.length c3g) (.slice p4g OA.p2.length c4g) k → w7.heap.size ≤ k ∧ k < w8.heap.size) := fun k hk => anS_from ho hk
  have HSW : Hid (∀ k, anS (.slice p1w OA.p1.length c1w) (.slice p2w OA.sh.ns.length c2w) (.slice p3w OA.sh.cs.length c3w) (.slice p4w OA.p2.length c4w) k → w.heap.size ≤ k ∧ k < w5.heap.size) := fun k hk => anS_from O4.out hk
  have HE1 : Hid (w.heap.size < E1 ∧ E1 < w5.heap.size) := ⟨HE0.out, Q4.out.lt⟩
  have HLK : Hid (AnK w #[.slice q rs.length cq, .slice p lv.length cp, .int .i64 now] E1 w8.heap.size #[.string OA.l1, .int .i64 OA.i1, .int .i64 OA.s1, .slice p1w OA.p1.length c1w, .string OA.sh.k, .int .i64 OA.sh.at_, .slice p2w OA.sh.ns.length c2w, .slice p3w OA.sh.cs.length c3w, .int .i64 OA.sh.ix, .string OA.sh.s, .string OA.sh.v, .string OA.l2, .int .i64 OA.i2, .int .i64 OA.s2, .slice p4w OA.p2.length c4w] #[.string OA.l1, .int .i64 OA.i1, .int .i64 OA.s1, .slice p1g OA.p1.length c1g, .string OA.sh.k, .int .i64 OA.sh.at_, .slice p2g OA.sh.ns.length c2g, .slice p3g OA.sh.cs.length c3g, .int .i64 OA.sh.ix, .string OA.sh.s, .string OA.sh.v, .string OA.l2, .int .i64 OA.i2, .int .i64 OA.s2, .slice p4g OA.p2.length c4g] OA (.slice p1w OA.p1.length c1w) (.slice p2w OA.sh.ns.length c2w) (.slice p3w OA.sh.cs.length c3w) (.slice p4w OA.p2.length c4w) (w8.alloc (.cells #[.string OA.l1, .int .i64 OA.i1, .int .i64 OA.s1, .slice p1g OA.p1.length c1g, .string OA.sh.k, .int .i64 OA.sh.at_, .slice p2g OA.sh.ns.length c2g, .slice p3g OA.sh.cs.length c3g, .int .i64 OA.sh.ix, .string OA.sh.s, .string OA.sh.v, .string OA.l2, .int .i64 OA.i2, .int .i64 OA.s2, .slice p4g OA.p2.length c4g] 32))) := ⟨chainB (chainB HB4.out C7.out) b78, (K4.out.below C7.out).below b78, (Q4.out.below C7.out).below b78, Bxs.new _ _ _, (O4.out.below C7.out).below b78⟩
  have K9 : Hid (Bxs (w8.alloc (.cells #[.string OA.l1, .int .i64 OA.i1, .int .i64 OA.s1, .slice p1g OA.p1.length c1g, .string OA.sh.k, .int .i64 OA.sh.at_, .slice p2g OA.sh.ns.length c2g, .slice p3g OA.sh.cs.length c3g, .int .i64 OA.sh.ix, .string OA.sh.s, .string OA.sh.v, .string OA.l2, .int .i64 OA.i2, .int .i64 OA.s2, .slice p4g OA.p2.length c4g] 32)) E7 36 #[.slice (some ⟨g6, 0, none⟩) rs.length rs.length, .slice (some ⟨l6, 0, none⟩) lv.length lv.length, .int .i64 now]) := K7.out.below b78
  have L9 : Hid (LgB (w8.alloc (.cells #[.string OA.l1, .int .i64 OA.i1, .int .i64 OA.s1, .slice p1g OA.p1.length c1g, .string OA.sh.k, .int .i64 OA.sh.at_, .slice p2g OA.sh.ns.length c2g, .slice p3g OA.sh.cs.length c3g, .int .i64 OA.sh.ix, .string OA.sh.s, .string OA.sh.v, .string OA.l2, .int .i64 OA.i2, .int .i64 OA.s2, .slice p4g OA.p2.length c4g] 32)) g6 xs6 l6 lv) := L7.out.below b78
  have HZ8 : Hid (E7 < w7.heap.size ∧ w7.heap.size ≤ w8.heap.size ∧ w5.heap.size ≤ w7.heap.size) := ⟨by have := HZ7.out; omega, b8.size, C7.out.size⟩
  clear hI x0 x1 x2 b8 b78 hal ho K7 L7 K4 Q4 O4 HE0
  go_upto_region 8 with fail
  generalize w8.heap.size = E8 at *
  generalize w8.alloc (.cells #[.string OA.l1, .int .i64 OA.i1, .int .i64 OA.s1, .slice p1g OA.p1.length c1g, .string OA.sh.k, .int .i64 OA.sh.at_, .slice p2g OA.sh.ns.length c2g, .slice p3g OA.sh.cs.length c3g, .int .i64 OA.sh.ix, .string OA.sh.s, .string OA.sh.v, .string OA.l2, .int .i64 OA.i2, .int .i64 OA.s2, .slice p4g OA.p2.length c4g] 32) = w9 at *
  as_aux_lemma =>
    obtain ⟨a0, a1, a2, a3, a4, a5, a6, a7, a8, a9, a10, a11, a12, a13, a14⟩ := HLK.out.b8.fifteen
    obtain ⟨e0, e1, e2, e3, e4, e5, e6, e7, e8, e9, e10, e11, e12, e13, e14⟩ := HLK.out.b1.fifteen
    have hQ := eqAnswer_any OA _ _ _ _ _ _ _ _ _ _ _ _ _ _ _ _ _ _ w9 O9.out HLK.out.lw HSm.out
    go_wp2_with fail
    refine hQ.mono ?_
    rintro e w10 ⟨rfl, z⟩
    have HLK2 : Hid (AnK w #[.slice q rs.length cq, .slice p lv.length cp, .int .i64 now] E1 E8 #[.string OA.l1, .int .i64 OA.i1, .int .i64 OA.s1, .slice p1w OA.p1.length c1w, .string OA.sh.k, .int .i64 OA.sh.at_, .slice p2w OA.sh.ns.length c2w, .slice p3w OA.sh.cs.length c3w, .int .i64 OA.sh.ix, .string OA.sh.s, .string OA.sh.v, .string OA.l2, .int .i64 OA.i2, .int .i64 OA.s2, .slice p4w OA.p2.length c4w] #[.string OA.l1, .int .i64 OA.i1, .int .i64 OA.s1, .slice p1g OA.p1.length c1g, .string OA.sh.k, .int .i64 OA.sh.at_, .slice p2g OA.sh.ns.length c2g, .slice p3g OA.sh.cs.length c3g, .int .i64 OA.sh.ix, .string OA.sh.s, .string OA.sh.v, .string OA.l2, .int .i64 OA.i2, .int .i64 OA.s2, .slice p4g OA.p2.length c4g] OA (.slice p1w OA.p1.length c1w) (.slice p2w OA.sh.ns.length c2w) (.slice p3w OA.sh.cs.length c3w) (.slice p4w OA.p2.length c4w) w10) := HLK.out.below z
    have K10 : Hid (Bxs w10 E7 36 #[.slice (some ⟨g6, 0, none⟩) rs.length rs.length, .slice (some ⟨l6, 0, none⟩) lv.length lv.length, .int .i64 now]) := K9.out.below z
    have L10 : Hid (LgB w10 g6 xs6 l6 lv) := L9.out.below z
    have O10 : Hid (AnsO w7.heap.size OA (.slice p1g OA.p1.length c1g) (.slice p2g OA.sh.ns.length c2g) (.slice p3g OA.sh.cs.length c3g) (.slice p4g OA.p2.length c4g) w10) := O9.out.below z
    clear hQ a0 a1 a2 a3 a4 a5 a6 a7 a8 a9 a10 a11 a12 a13 a14 e0 e1 e2 e3 e4 e5 e6 e7 e8 e9 e10 e11 e12 e13 e14 z HLK K9 L9 O9
    have HX : Hid (∀ x, Below w10.heap.size w10 x → (x.cell? ⟨w.heap.size, 0, none⟩ = some (.slice q rs.length cq) ∧ x.cell? ⟨w.heap.size, 1, none⟩ = some (.slice p lv.length cp) ∧ x.cell? ⟨w.heap.size, 2, none⟩ = some (.int .i64 now)) ∧ x.cell? ⟨E7, 0, none⟩ = some (.slice (some ⟨g6, 0, none⟩) rs.length rs.length) ∧ x.cell? ⟨E7, 1, none⟩ = some (.slice (some ⟨l6, 0, none⟩) lv.length lv.length) ∧ x.cell? ⟨E7, 2, none⟩ = some (.int .i64 now)) := fun x hb => ⟨(HLK2.out.ba.below hb).three, (K10.out.below hb).three⟩
    have BR : Hid (Below w10.heap.size w10 w10.drew) := (Below.refl _ _).drew
    go_upto_region 10 with fail
    go_region_held3 (fun w' => (w'.cell? ⟨w.heap.size, 0, none⟩ = some (.slice q rs.length cq) ∧ w'.cell? ⟨w.heap.size, 1, none⟩ = some (.slice p lv.length cp) ∧ w'.cell? ⟨w.heap.size, 2, none⟩ = some (.int .i64 now)) ∧ w'.cell? ⟨E7, 0, none⟩ = some (.slice (some ⟨g6, 0, none⟩) rs.length rs.length) ∧ w'.cell? ⟨E7, 1, none⟩ = some (.slice (some ⟨l6, 0, none⟩) lv.length lv.length) ∧ w'.cell? ⟨E7, 2, none⟩ = some (.int .i64 now)) ((first | exact HX.out _ BR.out | exact HX.out _ q1 | exact HX.out _ q2)) (first
      | (go_at_call 7; with_reducible refine (HTo.out _ (chainB HLK2.out.bel BR.out)).mono ?_; rintro e t1 ⟨g9, l9, xs9, hx9, hg9, rfl, j9, z1⟩; have q1 : Below w10.heap.size w10 t1 := chainB BR.out z1)
      | (go_at_call 10; with_reducible refine (HEq.out _ g6 l6 xs6 g9 l9 xs9 HX6.out (L10.out.below q1) hx9 j9).mono ?_; rintro e t2 ⟨rfl, z2⟩; have q2 : Below w10.heap.size w10 t2 := chainB q1 z2))
    all_goals
      have HLK3 : Hid (AnK w #[.slice q rs.length cq, .slice p lv.length cp, .int .i64 now] E1 E8 #[.string OA.l1, .int .i64 OA.i1, .int .i64 OA.s1, .slice p1w OA.p1.length c1w, .string OA.sh.k, .int .i64 OA.sh.at_, .slice p2w OA.sh.ns.length c2w, .slice p3w OA.sh.cs.length c3w, .int .i64 OA.sh.ix, .string OA.sh.s, .string OA.sh.v, .string OA.l2, .int .i64 OA.i2, .int .i64 OA.s2, .slice p4w OA.p2.length c4w] #[.string OA.l1, .int .i64 OA.i1, .int .i64 OA.s1, .slice p1g OA.p1.length c1g, .string OA.sh.k, .int .i64 OA.sh.at_, .slice p2g OA.sh.ns.length c2g, .slice p3g OA.sh.cs.length c3g, .int .i64 OA.sh.ix, .string OA.sh.s, .string OA.sh.v, .string OA.l2, .int .i64 OA.i2, .int .i64 OA.s2, .slice p4g OA.p2.length c4g] OA (.slice p1w OA.p1.length c1w) (.slice p2w OA.sh.ns.length c2w) (.slice p3w OA.sh.cs.length c3w) (.slice p4w OA.p2.length c4w) t2) := HLK2.out.below q2
      have K11 : Hid (Bxs t2 E7 36 #[.slice (some ⟨g6, 0, none⟩) rs.length rs.length, .slice (some ⟨l6, 0, none⟩) lv.length lv.length, .int .i64 now]) := K10.out.below q2
      have L11 : Hid (LgB t2 g6 xs6 l6 lv) := L10.out.below q2
      have O11 : Hid (AnsO w7.heap.size OA (.slice p1g OA.p1.length c1g) (.slice p2g OA.sh.ns.length c2g) (.slice p3g OA.sh.cs.length c3g) (.slice p4g OA.p2.length c4g) t2) := O10.out.below q2
      clear q1 q2 z1 z2 j9 hx9 hg9 HX BR HLK2 K10 L10 O10
      obtain ⟨x0, x1, x2⟩ := K11.out.three
      have hM := HML.out t2 g6 l6 xs6 HX6.out L11.out
      go_upto_region 13 with fail
      go_wp2_with fail
      refine hM.mono ?_
      rintro e w12 ⟨⟨m, rfl⟩, kb⟩
      have HLK4 : Hid (AnK w #[.slice q rs.length cq, .slice p lv.length cp, .int .i64 now] E1 E8 #[.string OA.l1, .int .i64 OA.i1, .int .i64 OA.s1, .slice p1w OA.p1.length c1w, .string OA.sh.k, .int .i64 OA.sh.at_, .slice p2w OA.sh.ns.length c2w, .slice p3w OA.sh.cs.length c3w, .int .i64 OA.sh.ix, .string OA.sh.s, .string OA.sh.v, .string OA.l2, .int .i64 OA.i2, .int .i64 OA.s2, .slice p4w OA.p2.length c4w] #[.string OA.l1, .int .i64 OA.i1, .int .i64 OA.s1, .slice p1g OA.p1.length c1g, .string OA.sh.k, .int .i64 OA.sh.at_, .slice p2g OA.sh.ns.length c2g, .slice p3g OA.sh.cs.length c3g, .int .i64 OA.sh.ix, .string OA.sh.s, .string OA.sh.v, .string OA.l2, .int .i64 OA.i2, .int .i64 OA.s2, .slice p4g OA.p2.length c4g] OA (.slice p1w OA.p1.length c1w) (.slice p2w OA.sh.ns.length c2w) (.slice p3w OA.sh.cs.length c3w) (.slice p4w OA.p2.length c4w) w12) := HLK3.out.but kb (fun k hk => by
        have h1 := HS6.out k hk
        have h2 := HE1.out
        have h3 := HZ8.out
        refine ⟨by omega, by omega, by omega, fun h => ?_⟩
        have := HSW.out k h
        omega)
      have O12 : Hid (AnsO w7.heap.size OA (.slice p1g OA.p1.length c1g) (.slice p2g OA.sh.ns.length c2g) (.slice p3g OA.sh.cs.length c3g) (.slice p4g OA.p2.length c4g) w12) := O11.out.but kb (fun k hk hs => by
        have h1 := HS6.out k hs
        have h2 := HSG.out k hk
        have h3 := HZ8.out
        omega)
      have dm : decide ((m : Int) < 0) = false := decide_eq_false (by omega)
      clear hM kb x0 x1 x2 K11 L11 HLK3 O11
      as_aux_lemma =>
        obtain ⟨a0, a1, a2, a3, a4, a5, a6, a7, a8, a9, a10, a11, a12, a13, a14⟩ := HLK4.out.b8.fifteen
        obtain ⟨e0, e1, e2, e3, e4, e5, e6, e7, e8, e9, e10, e11, e12, e13, e14⟩ := HLK4.out.b1.fifteen
        have hQ := eqAnswer_any OA _ _ _ _ _ _ _ _ _ _ _ _ _ _ _ _ _ _ w12 O12.out HLK4.out.lw HSm.out
        go_wp2_with fail
        refine hQ.mono ?_
        rintro e w13 ⟨rfl, z⟩
        have HLK5 : Hid (AnK w #[.slice q rs.length cq, .slice p lv.length cp, .int .i64 now] E1 E8 #[.string OA.l1, .int .i64 OA.i1, .int .i64 OA.s1, .slice p1w OA.p1.length c1w, .string OA.sh.k, .int .i64 OA.sh.at_, .slice p2w OA.sh.ns.length c2w, .slice p3w OA.sh.cs.length c3w, .int .i64 OA.sh.ix, .string OA.sh.s, .string OA.sh.v, .string OA.l2, .int .i64 OA.i2, .int .i64 OA.s2, .slice p4w OA.p2.length c4w] #[.string OA.l1, .int .i64 OA.i1, .int .i64 OA.s1, .slice p1g OA.p1.length c1g, .string OA.sh.k, .int .i64 OA.sh.at_, .slice p2g OA.sh.ns.length c2g, .slice p3g OA.sh.cs.length c3g, .int .i64 OA.sh.ix, .string OA.sh.s, .string OA.sh.v, .string OA.l2, .int .i64 OA.i2, .int .i64 OA.s2, .slice p4g OA.p2.length c4g] OA (.slice p1w OA.p1.length c1w) (.slice p2w OA.sh.ns.length c2w) (.slice p3w OA.sh.cs.length c3w) (.slice p4w OA.p2.length c4w) w13) := HLK4.out.below z
        have O13 : Hid (AnsO w7.heap.size OA (.slice p1g OA.p1.length c1g) (.slice p2g OA.sh.ns.length c2g) (.slice p3g OA.sh.cs.length c3g) (.slice p4g OA.p2.length c4g) w13) := O12.out.below z
        clear hQ a0 a1 a2 a3 a4 a5 a6 a7 a8 a9 a10 a11 a12 a13 a14 e0 e1 e2 e3 e4 e5 e6 e7 e8 e9 e10 e11 e12 e13 e14 z HLK4 O12 dm
        as_aux_lemma =>
          obtain ⟨a0, a1, a2, a3, a4, a5, a6, a7, a8, a9, a10, a11, a12, a13, a14⟩ := HLK5.out.b8.fifteen
          have hM := markAnswer_any OA _ _ _ _ _ _ _ _ _ w13 O13.out HSm.out
          have dT : decide (((anN OA : Nat) : Int) < 0) = false := decide_eq_false (by omega)
          have dN : ((((anN OA : Nat) : Int)) != ((anN OA : Nat) : Int)) = false := by simp
          obtain ⟨T, hTT⟩ : ∃ T : Nat, T = anN OA := ⟨_, rfl⟩
          have HTT : Hid (T = anN OA) := hTT
          rw [← hTT] at hM dT dN
          clear hTT
          go_wp2_with fail
          refine hM.mono ?_
          rintro e w14 ⟨rfl, hm, kb⟩
          have HM14 : Hid (AnsO w7.heap.size (anM OA.p1.length OA.sh.ns.length OA.sh.cs.length OA.p2.length) (.slice p1g OA.p1.length c1g) (.slice p2g OA.sh.ns.length c2g) (.slice p3g OA.sh.cs.length c3g) (.slice p4g OA.p2.length c4g) w14) := hm
          have HLK6 : Hid (AnK w #[.slice q rs.length cq, .slice p lv.length cp, .int .i64 now] E1 E8 #[.string OA.l1, .int .i64 OA.i1, .int .i64 OA.s1, .slice p1w OA.p1.length c1w, .string OA.sh.k, .int .i64 OA.sh.at_, .slice p2w OA.sh.ns.length c2w, .slice p3w OA.sh.cs.length c3w, .int .i64 OA.sh.ix, .string OA.sh.s, .string OA.sh.v, .string OA.l2, .int .i64 OA.i2, .int .i64 OA.s2, .slice p4w OA.p2.length c4w] #[.string OA.l1, .int .i64 OA.i1, .int .i64 OA.s1, .slice p1g OA.p1.length c1g, .string OA.sh.k, .int .i64 OA.sh.at_, .slice p2g OA.sh.ns.length c2g, .slice p3g OA.sh.cs.length c3g, .int .i64 OA.sh.ix, .string OA.sh.s, .string OA.sh.v, .string OA.l2, .int .i64 OA.i2, .int .i64 OA.s2, .slice p4g OA.p2.length c4g] OA (.slice p1w OA.p1.length c1w) (.slice p2w OA.sh.ns.length c2w) (.slice p3w OA.sh.cs.length c3w) (.slice p4w OA.p2.length c4w) w14) := HLK5.out.but kb (fun k hk => by
            have h1 := HSG.out k hk
            have h2 := HE1.out
            have h3 := HZ8.out
            refine ⟨by omega, by omega, by omega, fun h => ?_⟩
            have := HSW.out k h
            omega)
          clear hM hm kb a0 a1 a2 a3 a4 a5 a6 a7 a8 a9 a10 a11 a12 a13 a14 HLK5 O13
          as_aux_lemma =>
            obtain ⟨a0, a1, a2, a3, a4, a5, a6, a7, a8, a9, a10, a11, a12, a13, a14⟩ := HLK6.out.b8.fifteen
            have hH := heldAnswer_any OA _ _ _ _ _ _ _ _ _ w14 HM14.out HSm.out
            rw [← HTT.out] at hH
            go_wp2_with fail
            refine hH.mono ?_
            rintro e w15 ⟨rfl, z⟩
            have HLK7 : Hid (AnK w #[.slice q rs.length cq, .slice p lv.length cp, .int .i64 now] E1 E8 #[.string OA.l1, .int .i64 OA.i1, .int .i64 OA.s1, .slice p1w OA.p1.length c1w, .string OA.sh.k, .int .i64 OA.sh.at_, .slice p2w OA.sh.ns.length c2w, .slice p3w OA.sh.cs.length c3w, .int .i64 OA.sh.ix, .string OA.sh.s, .string OA.sh.v, .string OA.l2, .int .i64 OA.i2, .int .i64 OA.s2, .slice p4w OA.p2.length c4w] #[.string OA.l1, .int .i64 OA.i1, .int .i64 OA.s1, .slice p1g OA.p1.length c1g, .string OA.sh.k, .int .i64 OA.sh.at_, .slice p2g OA.sh.ns.length c2g, .slice p3g OA.sh.cs.length c3g, .int .i64 OA.sh.ix, .string OA.sh.s, .string OA.sh.v, .string OA.l2, .int .i64 OA.i2, .int .i64 OA.s2, .slice p4g OA.p2.length c4g] OA (.slice p1w OA.p1.length c1w) (.slice p2w OA.sh.ns.length c2w) (.slice p3w OA.sh.cs.length c3w) (.slice p4w OA.p2.length c4w) w15) := HLK6.out.below z
            have HM15 : Hid (AnsO w7.heap.size (anM OA.p1.length OA.sh.ns.length OA.sh.cs.length OA.p2.length) (.slice p1g OA.p1.length c1g) (.slice p2g OA.sh.ns.length c2g) (.slice p3g OA.sh.cs.length c3g) (.slice p4g OA.p2.length c4g) w15) := HM14.out.below z
            clear hH a0 a1 a2 a3 a4 a5 a6 a7 a8 a9 a10 a11 a12 a13 a14 z HLK6 HM14
            obtain ⟨x0, x1, x2⟩ := HLK7.out.ba.three
            have hTo := HTo.out w15 HLK7.out.bel
            go_wp2_with fail
            refine hTo.mono ?_
            rintro e w16 ⟨gh, lh, xsh, hxh, hgh, rfl, hBh, z⟩
            have hI := HI.out gh lh xsh w16 hxh hBh (chainB HLK7.out.bel z)
            have HLK8 : Hid (AnK w #[.slice q rs.length cq, .slice p lv.length cp, .int .i64 now] E1 E8 #[.string OA.l1, .int .i64 OA.i1, .int .i64 OA.s1, .slice p1w OA.p1.length c1w, .string OA.sh.k, .int .i64 OA.sh.at_, .slice p2w OA.sh.ns.length c2w, .slice p3w OA.sh.cs.length c3w, .int .i64 OA.sh.ix, .string OA.sh.s, .string OA.sh.v, .string OA.l2, .int .i64 OA.i2, .int .i64 OA.s2, .slice p4w OA.p2.length c4w] #[.string OA.l1, .int .i64 OA.i1, .int .i64 OA.s1, .slice p1g OA.p1.length c1g, .string OA.sh.k, .int .i64 OA.sh.at_, .slice p2g OA.sh.ns.length c2g, .slice p3g OA.sh.cs.length c3g, .int .i64 OA.sh.ix, .string OA.sh.s, .string OA.sh.v, .string OA.l2, .int .i64 OA.i2, .int .i64 OA.s2, .slice p4g OA.p2.length c4g] OA (.slice p1w OA.p1.length c1w) (.slice p2w OA.sh.ns.length c2w) (.slice p3w OA.sh.cs.length c3w) (.slice p4w OA.p2.length c4w) w16) := HLK7.out.below z
            have HM16 : Hid (AnsO w7.heap.size (anM OA.p1.length OA.sh.ns.length OA.sh.cs.length OA.p2.length) (.slice p1g OA.p1.length c1g) (.slice p2g OA.sh.ns.length c2g) (.slice p3g OA.sh.cs.length c3g) (.slice p4g OA.p2.length c4g) w16) := HM15.out.below z
            clear hTo x0 x1 x2 z hxh hgh hBh HLK7 HM15
            go_wp2_with fail
            refine hI.mono ?_
            rintro e w17 ⟨p1k, c1k, p2k, c2k, p3k, c3k, p4k, c4k, rfl, ho, z⟩
            have hal : Below w17.heap.size w17 (w17.alloc (.cells #[.string OA.l1, .int .i64 OA.i1, .int .i64 OA.s1, .slice p1k OA.p1.length c1k, .string OA.sh.k, .int .i64 OA.sh.at_, .slice p2k OA.sh.ns.length c2k, .slice p3k OA.sh.cs.length c3k, .int .i64 OA.sh.ix, .string OA.sh.s, .string OA.sh.v, .string OA.l2, .int .i64 OA.i2, .int .i64 OA.s2, .slice p4k OA.p2.length c4k] 32)) := (Below.refl _ _).alloc (Nat.le_refl _) _
            have b17 := chainB z hal
            have HLK9 : Hid (AnK w #[.slice q rs.length cq, .slice p lv.length cp, .int .i64 now] E1 E8 #[.string OA.l1, .int .i64 OA.i1, .int .i64 OA.s1, .slice p1w OA.p1.length c1w, .string OA.sh.k, .int .i64 OA.sh.at_, .slice p2w OA.sh.ns.length c2w, .slice p3w OA.sh.cs.length c3w, .int .i64 OA.sh.ix, .string OA.sh.s, .string OA.sh.v, .string OA.l2, .int .i64 OA.i2, .int .i64 OA.s2, .slice p4w OA.p2.length c4w] #[.string OA.l1, .int .i64 OA.i1, .int .i64 OA.s1, .slice p1g OA.p1.length c1g, .string OA.sh.k, .int .i64 OA.sh.at_, .slice p2g OA.sh.ns.length c2g, .slice p3g OA.sh.cs.length c3g, .int .i64 OA.sh.ix, .string OA.sh.s, .string OA.sh.v, .string OA.l2, .int .i64 OA.i2, .int .i64 OA.s2, .slice p4g OA.p2.length c4g] OA (.slice p1w OA.p1.length c1w) (.slice p2w OA.sh.ns.length c2w) (.slice p3w OA.sh.cs.length c3w) (.slice p4w OA.p2.length c4w) (w17.alloc (.cells #[.string OA.l1, .int .i64 OA.i1, .int .i64 OA.s1, .slice p1k OA.p1.length c1k, .string OA.sh.k, .int .i64 OA.sh.at_, .slice p2k OA.sh.ns.length c2k, .slice p3k OA.sh.cs.length c3k, .int .i64 OA.sh.ix, .string OA.sh.s, .string OA.sh.v, .string OA.l2, .int .i64 OA.i2, .int .i64 OA.s2, .slice p4k OA.p2.length c4k] 32))) := HLK8.out.below b17
            have HM17 : Hid (AnsO w7.heap.size (anM OA.p1.length OA.sh.ns.length OA.sh.cs.length OA.p2.length) (.slice p1g OA.p1.length c1g) (.slice p2g OA.sh.ns.length c2g) (.slice p3g OA.sh.cs.length c3g) (.slice p4g OA.p2.length c4g) (w17.alloc (.cells #[.string OA.l1, .int .i64 OA.i1, .int .i64 OA.s1, .slice p1k OA.p1.length c1k, .string OA.sh.k, .int .i64 OA.sh.at_, .slice p2k OA.sh.ns.length c2k, .slice p3k OA.sh.cs.length c3k, .int .i64 OA.sh.ix, .string OA.sh.s, .string OA.sh.v, .string OA.l2, .int .i64 OA.i2, .int .i64 OA.s2, .slice p4k OA.p2.length c4k] 32))) := HM16.out.below b17
            have OK17 : Hid (AnsO w16.heap.size OA (.slice p1k OA.p1.length c1k) (.slice p2k OA.sh.ns.length c2k) (.slice p3k OA.sh.cs.length c3k) (.slice p4k OA.p2.length c4k) (w17.alloc (.cells #[.string OA.l1, .int .i64 OA.i1, .int .i64 OA.s1, .slice p1k OA.p1.length c1k, .string OA.sh.k, .int .i64 OA.sh.at_, .slice p2k OA.sh.ns.length c2k, .slice p3k OA.sh.cs.length c3k, .int .i64 OA.sh.ix, .string OA.sh.s, .string OA.sh.v, .string OA.l2, .int .i64 OA.i2, .int .i64 OA.s2, .slice p4k OA.p2.length c4k] 32))) := ho.below hal
            have Q17 : Hid (Bxs (w17.alloc (.cells #[.string OA.l1, .int .i64 OA.i1, .int .i64 OA.s1, .slice p1k OA.p1.length c1k, .string OA.sh.k, .int .i64 OA.sh.at_, .slice p2k OA.sh.ns.length c2k, .slice p3k OA.sh.cs.length c3k, .int .i64 OA.sh.ix, .string OA.sh.s, .string OA.sh.v, .string OA.l2, .int .i64 OA.i2, .int .i64 OA.s2, .slice p4k OA.p2.length c4k] 32)) w17.heap.size 32 #[.string OA.l1, .int .i64 OA.i1, .int .i64 OA.s1, .slice p1k OA.p1.length c1k, .string OA.sh.k, .int .i64 OA.sh.at_, .slice p2k OA.sh.ns.length c2k, .slice p3k OA.sh.cs.length c3k, .int .i64 OA.sh.ix, .string OA.sh.s, .string OA.sh.v, .string OA.l2, .int .i64 OA.i2, .int .i64 OA.s2, .slice p4k OA.p2.length c4k]) := Bxs.new _ _ _
            clear hI z ho hal b17 HLK8 HM16
            go_upto_region 25 with fail
            generalize w17.heap.size = E12 at *
            generalize w17.alloc (.cells #[.string OA.l1, .int .i64 OA.i1, .int .i64 OA.s1, .slice p1k OA.p1.length c1k, .string OA.sh.k, .int .i64 OA.sh.at_, .slice p2k OA.sh.ns.length c2k, .slice p3k OA.sh.cs.length c3k, .int .i64 OA.sh.ix, .string OA.sh.s, .string OA.sh.v, .string OA.l2, .int .i64 OA.i2, .int .i64 OA.s2, .slice p4k OA.p2.length c4k] 32) = w18 at *
            as_aux_lemma =>
              obtain ⟨a0, a1, a2, a3, a4, a5, a6, a7, a8, a9, a10, a11, a12, a13, a14⟩ := Q17.out.fifteen
              obtain ⟨e0, e1, e2, e3, e4, e5, e6, e7, e8, e9, e10, e11, e12, e13, e14⟩ := HLK9.out.b1.fifteen
              have hQ := eqAnswer_any OA _ _ _ _ _ _ _ _ _ _ _ _ _ _ _ _ _ _ w18 OK17.out HLK9.out.lw HSm.out
              go_wp2_with fail
              refine hQ.mono ?_
              rintro e w19 ⟨rfl, z⟩
              have HLKa : Hid (AnK w #[.slice q rs.length cq, .slice p lv.length cp, .int .i64 now] E1 E8 #[.string OA.l1, .int .i64 OA.i1, .int .i64 OA.s1, .slice p1w OA.p1.length c1w, .string OA.sh.k, .int .i64 OA.sh.at_, .slice p2w OA.sh.ns.length c2w, .slice p3w OA.sh.cs.length c3w, .int .i64 OA.sh.ix, .string OA.sh.s, .string OA.sh.v, .string OA.l2, .int .i64 OA.i2, .int .i64 OA.s2, .slice p4w OA.p2.length c4w] #[.string OA.l1, .int .i64 OA.i1, .int .i64 OA.s1, .slice p1g OA.p1.length c1g, .string OA.sh.k, .int .i64 OA.sh.at_, .slice p2g OA.sh.ns.length c2g, .slice p3g OA.sh.cs.length c3g, .int .i64 OA.sh.ix, .string OA.sh.s, .string OA.sh.v, .string OA.l2, .int .i64 OA.i2, .int .i64 OA.s2, .slice p4g OA.p2.length c4g] OA (.slice p1w OA.p1.length c1w) (.slice p2w OA.sh.ns.length c2w) (.slice p3w OA.sh.cs.length c3w) (.slice p4w OA.p2.length c4w) w19) := HLK9.out.below z
              have HM19 : Hid (AnsO w7.heap.size (anM OA.p1.length OA.sh.ns.length OA.sh.cs.length OA.p2.length) (.slice p1g OA.p1.length c1g) (.slice p2g OA.sh.ns.length c2g) (.slice p3g OA.sh.cs.length c3g) (.slice p4g OA.p2.length c4g) w19) := HM17.out.below z
              clear hQ a0 a1 a2 a3 a4 a5 a6 a7 a8 a9 a10 a11 a12 a13 a14 e0 e1 e2 e3 e4 e5 e6 e7 e8 e9 e10 e11 e12 e13 e14 z HLK9 HM17 OK17 Q17
              as_aux_lemma =>
                obtain ⟨a0, a1, a2, a3, a4, a5, a6, a7, a8, a9, a10, a11, a12, a13, a14⟩ := HLKa.out.b8.fifteen
                have hH := heldAnswer_any OA _ _ _ _ _ _ _ _ _ w19 HM19.out HSm.out
                rw [← HTT.out] at hH
                go_wp2_with fail
                refine hH.mono ?_
                rintro e w20 ⟨rfl, z⟩
                clear hH a0 a1 a2 a3 a4 a5 a6 a7 a8 a9 a10 a11 a12 a13 a14
                go_wp2_with fail
                go_ret
                exact ⟨rfl, chainB HLKa.out.bel z⟩

theorem contract (H : Type) (enc : TypeId × Value → H) (W : World) (base : Nat) (args : Array Value) (ds gs : List (DataW H)) (before : List MemPlace)
    (hval : ∀ (j : Nat) t v, Tryz.f3.params[j]? = some t → args[j]? = some v → Value.okWide Tryz.prog W .any base t v)
    (hW : DataW.Whole enc Tryz.prog Tryz.f3.params.toList Rows.fnExactAnswerOfSpec.vars false W args.toList ds gs before) (hL : laidMetH Tryz.prog Rows.fnExactAnswerOfRow.laid W) :
    Calls Tryz.prog 3 args W fun e W' => ∃ v, e = .returned v ∧ Rows.fnExactAnswerOfSpec.post enc Tryz.prog Tryz.f3 false true false false W args v W' := by
  have hW' := hW
  obtain ⟨p, q, hA0, hV, rfl, hfz, hnd⟩ := hW
  have hA : DataW.TrodAll enc Tryz.prog W 0 (fun _ => true) true Tryz.f3.params.toList args.toList ds p := hA0
  rw [Tryz.params3] at hA hval
  obtain ⟨v0, vs0, d0, ds0, p0, q0, hargs, rfl, rfl, h0, r0⟩ := trodAll_cons hA
  obtain ⟨v1, vs1, d1, ds1, p1, q1, rfl, rfl, rfl, h1, r1⟩ := trodAll_cons r0
  obtain ⟨v2, vs2, d2, ds2, p2, q2, rfl, rfl, rfl, h2, r2⟩ := trodAll_cons r1
  obtain ⟨rfl, rfl, rfl⟩ := trodAll_nil r2
  obtain rfl : args = #[v0, v1, v2] := by cases args; simp_all
  have hV2 : DataW.TrodVars enc Tryz.prog W (fun _ => true) ["loop.example/g00633/impl.firstState", "loop.example/g00633/impl.roundNums"] gs q := hV
  obtain ⟨_, _, _, _, e0, _, _, _, _, _, e1, _, rfl, _⟩ := trodVars_two hV2
  have k0 := h0
  have lt0 : ∀ x ∈ p0, x.block < W.heap.size := by obtain ⟨m, hm⟩ := k0; exact DataW.trod_lt m _ _ _ hm
  obtain ⟨q0, cq0, rs0, pp0, cp0, lv0, now0, rfl, w0⟩ := open_log (hval 0 25 v0 rfl rfl) h0
  obtain ⟨a1, rfl, rfl, rfl, w1⟩ := open_int Tryz.underlying2 (hval 1 2 v1 rfl rfl) h1
  obtain ⟨a2, rfl, rfl, rfl, w2⟩ := open_int Tryz.underlying2 (hval 2 2 v2 rfl rfl) h2
  clear hA0
  obtain ⟨hT, hLd⟩ := laid3_of hL
  refine (walk q0 cq0 rs0 pp0 cp0 lv0 now0 a1 a2 W w0 w1 w2 hT hLd).mono fun e W' ⟨he, hg⟩ => ?_
  subst he
  exact ⟨_, rfl, _, _, _, [], _, _, hW', (trodAll_cons_mk (shut_bool Tryz.underlying4 _) trodAll_mk0), (trodAll_cons_mk (Below.trod laidOut (by kernel_rfl) (of_decide_eq_true (by kernel_rfl)) k0 hg lt0) (trodAll_cons_mk (shut_int Tryz.underlying2 w1) (trodAll_cons_mk (shut_int Tryz.underlying2 w2) trodAll_mk0))), Below.trodVars laidOut hg (by kernel_rfl) hV, hg.frame _, fun h => by cases h⟩

/-- A start in which the listed variables lie as the program's text lays them: what the door's own run leaves. -/
noncomputable def wit (os : Os) : World := World.doorLaid Tryz.prog 26 os
theorem laid_met (os : Os) : laidMetH Tryz.prog Rows.fnExactAnswerOfRow.laid ((wit os).forCall (fun _ _ => 0) ⟨#[], #[.agg #[.slice none 0 0, .slice none 0 0, .int .i64 0], .int .i64 0, .int .i64 0], []⟩).memory :=
  laidMetH_of_parts3 (fuel := 8) (laidMet_of_run' 8 (by kernel_rfl) (by kernel_rfl)) (by kernel_rfl) (by kernel_rfl)
theorem reads (os : Os) {H : Type} (enc : TypeId × Value → H) : ∃ gs places, DataW.whole enc Tryz.prog ((wit os).forCall (fun _ _ => 0) ⟨#[], #[.agg #[.slice none 0 0, .slice none 0 0, .int .i64 0], .int .i64 0, .int .i64 0], []⟩).memory Tryz.f3.params.toList Rows.fnExactAnswerOfSpec.vars false #[Value.agg #[.slice none 0 0, .slice none 0 0, .int .i64 0], Value.int .i64 0, Value.int .i64 0].toList 8 = some ([.agg [.nil, .nil, .lit (.int .i64 0)], .lit (.int .i64 0), .lit (.int .i64 0)], gs, places) := by
  have h : (DataW.whole enc Tryz.prog ((wit os).forCall (fun _ _ => 0) ⟨#[], #[.agg #[.slice none 0 0, .slice none 0 0, .int .i64 0], .int .i64 0, .int .i64 0], []⟩).memory Tryz.f3.params.toList Rows.fnExactAnswerOfSpec.vars false #[Value.agg #[.slice none 0 0, .slice none 0 0, .int .i64 0], Value.int .i64 0, Value.int .i64 0].toList 8).map (fun x => x.1) = some [.agg [.nil, .nil, .lit (.int .i64 0)], .lit (.int .i64 0), .lit (.int .i64 0)] := by kernel_rfl
  obtain ⟨⟨a, b, c⟩, hx, hy⟩ := Option.map_eq_some_iff.1 h
  cases hy
  exact ⟨b, c, hx⟩

set_option maxRecDepth 100000 in
theorem lifted (os : Os) (started : os.Started) (H : Type) (enc : TypeId × Value → H) (F : Stop.Interp) :
    ReturnsInHanded {} Tryz.checked os 3 .any ((OpenSpec.ofChange Rows.fnExactAnswerOfSpec).preRow enc Tryz.prog Tryz.f3 Rows.fnExactAnswerOfRow.domain false Rows.fnExactAnswerOfRow.laid) (((OpenSpec.ofChange Rows.fnExactAnswerOfSpec).at F).post enc Tryz.prog Tryz.f3 false true false false) := by
  obtain ⟨gs, places, hx⟩ := reads os enc
  refine returnsInHanded_of_row (C := Tryz.checked) (s := OpenSpec.ofChange Rows.fnExactAnswerOfSpec) own started (by kernel_rfl) Tryz.func3
    (witness_row_at (enc := enc) (C := Tryz.checked) false (wit os) #[.agg #[.slice none 0 0, .slice none 0 0, .int .i64 0], .int .i64 0, .int .i64 0] rfl (by kernel_rfl) (by kernel_rfl) (by kernel_rfl)
      (OpenSpec.preRow_of_cond 8 hx rfl (fun k hk => by cases hk) (by kernel_rfl) (laid_met os))) ?_
  intro W base args ds gs before hval hW _ _ _ hL _ _
  exact contract H enc W base args ds gs before hval hW hL

theorem said : Rows.FnExactAnswerOfSaid :=
  OpenClaim.holds_of_cond 3 Tryz.f3 rfl rfl rfl rfl rfl rfl rfl ⟨rfl, rfl, rfl, rfl, rfl⟩ rfl rfl rfl rfl rfl saidA Tryz.func3 saidB
    saidC saidD
    (fun os started H enc _ F => by rw [OpenClaim.pre_eq_preRow]; exact lifted os started H enc F)

theorem plain (f : FuncId) (fn : Func) (hf : Tryz.pinned.checked.prog.funcNamed "loop.example/g00633/laws.FnExactAnswerOf" = some f) (hfn : Tryz.pinned.checked.prog.funcs[f]? = some fn) :
    Rows.fnExactAnswerOfCard.stood.looks = Tryz.pinned.checked.prog.looks [] ∧ ∀ (j : Nat) t, fn.params[j]? = some t → Tryz.pinned.checked.prog.wantsStandIn t = false := by
  obtain rfl : f = 3 := Option.some.inj ((show Tryz.prog.funcNamed "loop.example/g00633/laws.FnExactAnswerOf" = some 3 by kernel_rfl).symm.trans hf) |>.symm
  obtain rfl : fn = Tryz.f3 := (Option.some.inj (Tryz.func3.symm.trans hfn)).symm
  refine ⟨by kernel_rfl, fun j t ht => ?_⟩
  rw [Tryz.params3] at ht
  have hm := Array.mem_of_getElem? ht
  have hl : t ∈ ([25, 2, 2] : List TypeId) := by simpa using hm
  simp only [List.mem_cons, List.not_mem_nil, or_false] at hl
  rcases hl with rfl | rfl | rfl
  · exact (show Tryz.prog.wantsStandIn 25 = false by kernel_rfl)
  · exact (show Tryz.prog.wantsStandIn 2 = false by kernel_rfl)
  · exact (show Tryz.prog.wantsStandIn 2 = false by kernel_rfl)

theorem proved : Rows.FnExactAnswerOfCardSaid :=
  Claim7.holds_tied_plain_at .later [] _ _ _ _ said (fun _ h => by cases h) (by kernel_rfl) (fun _ h => by cases h) fnExactAnswerOf_row_tie rfl ⟨rfl, rfl⟩ (by kernel_rfl) rfl plain (by kernel_rfl)
#print axioms proved
end Go.Proofs.YtamdgdkpcoeknaaGreatDoor.fnExactAnswerOf
