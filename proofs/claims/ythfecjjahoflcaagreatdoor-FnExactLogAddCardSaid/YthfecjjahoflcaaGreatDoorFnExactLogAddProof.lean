/-
  For every log and every row the law FnExactLogAdd returns true: the program's LogAdd answers as the specification's, writes into no argument, keeps nothing of one, and its answer owns its memory; the card ties the listed variables, errors.errorType and the two tables firstState and roundNums, to the program's text.
  Conditions: none of mine; the form's own reach; the listed variables as the program's text lays them (the given tie). The card speaks of the pruned copy of the project that the seat names.
-/
import Derived.Test.YthfecjjahoflcaaGreatDoorCards
import Derived.Test.YthfecjjahoflcaaGreatDoorTie
import Derived.Test.YthfecjjahoflcaaGreatDoorSlASlBBxKOwnSTakesLTillTwo
import Derived.Test.YthfecjjahoflcaaGreatDoorJoinedPutTextFldMathFldGShwK
import Derived.Test.YthfecjjahoflcaaGreatDoorOneKFldBlkFldRiseScanMathGetValGetTxtNumMathFldRdNumFromTmbMath
import Derived.Test.YthfecjjahoflcaaGreatDoorLgMathLgAtKRwBlkLawF
import Derived.Test.YthfecjjahoflcaaGreatDoorLawFRLawSLawM
import Derived.Test.YthfecjjahoflcaaGreatDoorLawFMLawFXTakesLawSG
import Derived.Test.YthfecjjahoflcaaGreatDoorLawLgLawLh
import Derived.Test.YthfecjjahoflcaaGreatDoorLawLzLawMGLawLm
import Derived.Test.YthfecjjahoflcaaGreatDoorLawLoLawLqLgAnsLgRtLtMathLawLt
import Derived.Test.YthfecjjahoflcaaGreatDoorLawLa
import Derived.Test.YthfecjjahoflcaaGreatDoorLawLkRowOpsLgO
import Derived.Test.YthfecjjahoflcaaGreatDoorLaMathLfMathLfSumStepAppOwnBTurn2
import Derived.Test.YthfecjjahoflcaaGreatDoorLaS
import Derived.Test.YthfecjjahoflcaaGreatDoorLaI
import Derived.Test.YthfecjjahoflcaaGreatDoorOpFOpLgTabsOfTabEt
import Derived.WalkKit
import Derived.ProofKit
import Derived.OpenShut
import Derived.OpenVars
import Derived.ShutString
import Derived.LaidHandle
import Derived.LaidLaws
import Derived.LaidMore
import Derived.Deep.DeepHandedRow
import Derived.ChangeOld
import Derived.Below
import Derived.Deep.RegionHeld3
import Derived.Deep.Cut
import Derived.Handy
import Derived.WalkSpells
namespace Go.Proofs.YthfecjjahoflcaaGreatDoor.fnExactLogAdd
open Go.ChangeShapes Go.WideShapes Go.ChangeAt Go.RowKit
open Go.ChangeMaps (open_string shut_string)
set_option linter.unusedVariables false
set_option maxRecDepth 100000

theorem own : ownKnob Tryz.prog.godebug = none := by kernel_rfl
theorem laidOut : laidOutB Tryz.prog = true := by kernel_rfl

theorem int_bd {k : Int} (h : (Lit.int .i64 k).wf = true) : -9223372036854775808 ≤ k ∧ k ≤ 9223372036854775807 := by simpa [Lit.wf, IntKind.min, IntKind.max, IntKind.signed, IntKind.bits] using h
set_option maxHeartbeats 16000000 in
theorem walk (q : Option Addr) (cq : Nat) (rs : List Rw) (p : Option Addr) (cp : Nat) (lv : List ByteArray) (now : Int) (kd : ByteArray) (ra : Int) (rq : Option Addr) (rlen rc : Nat) (fs : List Fld) (w : World) (w0 : IsLog w q cq rs p cp lv now) (w1 : kd.size ≤ maxLen ∧ (Lit.int .i64 ra).wf = true ∧ IsFlds w rq rlen rc fs) (hT : Tabs w) (hg : Laid w) :
    Calls Tryz.prog 3 #[.agg #[.slice q rs.length cq, .slice p lv.length cp, .int .i64 now], .agg #[.string kd, .int .i64 ra, .slice rq rlen rc]] w fun e w' => e = .returned (.bool true) ∧ Below w.heap.size w w' := by
  obtain ⟨⟨-, hRw, hcq, hmq, hzr⟩, ⟨-, hTx, hcp, hmp, hzl⟩, hnow⟩ := w0
  obtain ⟨hkd, hwf, rfl, hFp, hfc, hfm, hfz⟩ := w1
  have HT : Hid (Tabs w) := hT
  have HG : Hid (Laid w) := hg
  have HR : Hid (RwAt w q rs) := hRw
  have HL : Hid (TxtAt w p lv) := hTx
  have HF : Hid (FldAt w rq fs) := hFp
  have HZF : Hid (kd.size ≤ maxLen ∧ FldsLe fs) := ⟨hkd, hfz⟩
  have HFB : Hid (FldsBig fs ∧ kd.size ≤ 9223372036854775807) := ⟨fun f hf => by have := hfz f hf; unfold maxLen at this; exact this, by unfold maxLen at hkd; exact hkd⟩
  have HZR : Hid (∀ r ∈ rs, r.fs.length ≤ maxLen ∧ r.k.size ≤ maxLen ∧ FldsLe r.fs) := hzr
  have HZL : Hid (∀ x ∈ lv, x.size ≤ maxLen) := hzl
  have HBg : Hid (RwsBig rs) := fun r hr => by have h := hzr r hr; unfold maxLen at h; exact ⟨h.1, h.2.1, fun f hf => by have := h.2.2 f hf; unfold maxLen at this; exact this⟩
  have HLB : Hid (∀ x ∈ lv, x.size ≤ 9223372036854775807) := fun x hx => by have := hzl x hx; unfold maxLen at this; exact this
  unfold maxLen at hmq hmp hfm
  clear hRw hTx hzr hzl hT hg hnow hFp hfz hkd hwf
  obtain ⟨W1, hW1⟩ : ∃ W1, W1 = (w.alloc (.cells #[.slice q rs.length cq, .slice p lv.length cp, .int .i64 now] 25)).alloc (.cells #[.string kd, .int .i64 ra, .slice rq fs.length rc] 28) := ⟨_, rfl⟩
  have HW1 : Hid (W1 = (w.alloc (.cells #[.slice q rs.length cq, .slice p lv.length cp, .int .i64 now] 25)).alloc (.cells #[.string kd, .int .i64 ra, .slice rq fs.length rc] 28)) := hW1
  have B1 : Hid (Below w.heap.size w W1) := by rw [hW1]; exact alB ((Below.refl _ _).alloc (Nat.le_refl _) _) _
  have K1 : Hid (Bxs W1 w.heap.size 25 #[.slice q rs.length cq, .slice p lv.length cp, .int .i64 now]) := by rw [hW1]; exact (Bxs.new _ _ _).alloc _
  have R1 : Hid (Bxs W1 (w.heap.size + 1) 28 #[.string kd, .int .i64 ra, .slice rq fs.length rc]) := by
    rw [hW1]
    have h := Bxs.new (w.alloc (.cells #[.slice q rs.length cq, .slice p lv.length cp, .int .i64 now] 25)) 28 #[.string kd, .int .i64 ra, .slice rq fs.length rc]
    rwa [szA] at h
  have hSz := szLogU_any q cq rs p cp lv now W1 (HR.out.below B1.out) (by omega) hcq HBg.out (HL.out.below B1.out) (by omega) hcp HLB.out
  obtain ⟨x0, x1, x2⟩ := K1.out.three
  clear hW1
  go_enter Tryz.func3, Tryz.ntmps3
  go_upto_region 1 with fail
  rw [← HW1.out]
  go_wp2_with fail
  refine hSz.mono ?_
  rintro e w1a ⟨⟨r0, rfl, hr⟩, b2⟩
  clear hSz x0 x1 x2
  rcases hr with rfl | ⟨hr0, hsum⟩
  · go_wp2_with fail
    go_ret
    exact ⟨rfl, chainB B1.out b2⟩
  have dr : decide (r0 < 0) = false := decide_eq_false (by omega)
  have HB1a : Hid (Below w.heap.size w w1a) := chainB B1.out b2
  have K1a : Hid (Bxs w1a w.heap.size 25 #[.slice q rs.length cq, .slice p lv.length cp, .int .i64 now]) := K1.out.below b2
  have R1a : Hid (Bxs w1a (w.heap.size + 1) 28 #[.string kd, .int .i64 ra, .slice rq fs.length rc]) := R1.out.below b2
  have hSr := szRowZ_any r0 hr0 (by omega) kd ra rq rc fs w1a (HF.out.below HB1a.out) (by omega) hfc HFB.out.1 HFB.out.2
  obtain ⟨x0, x1, x2⟩ := R1a.out.three
  clear b2 B1 K1 R1 HW1
  go_wp2_with fail
  refine hSr.mono ?_
  rintro e w2 ⟨⟨r2, rfl, hr2⟩, b2⟩
  clear hSr x0 x1 x2 dr
  rcases hr2 with rfl | ⟨hr20, hsum2⟩
  · go_wp2_with fail
    go_ret
    exact ⟨rfl, chainB HB1a.out b2⟩
  have hrf : ∀ x ∈ rs, x.fs.length ≤ 1048576 := fun x hx => by have := fsN_mem hx; omega
  have hrn : rs.length ≤ 1048576 := by omega
  have hln : lv.length ≤ 1048576 := by omega
  have hfn : fs.length ≤ 1048576 := by omega
  have HSum : Hid (rs.length + fsN rs + lv.length + fs.length ≤ 1048576) := by show _ ≤ _; omega
  have dr : decide (r2 < 0) = false := decide_eq_false (by omega)
  have HB2 : Hid (Below w.heap.size w w2) := chainB HB1a.out b2
  have KA : Hid (Bxs w2 w.heap.size 25 #[.slice q rs.length cq, .slice p lv.length cp, .int .i64 now]) := K1a.out.below b2
  have KR : Hid (Bxs w2 (w.heap.size + 1) 28 #[.string kd, .int .i64 ra, .slice rq fs.length rc]) := R1a.out.below b2
  have HAt : Hid (∀ g gl xs x, xs.map (·.1) = rs → LgB x g xs gl lv → LgAt (some ⟨gl, 0, none⟩) lv lv.length (some ⟨g, 0, none⟩) rs rs.length x) := fun g gl xs x hx hB => ⟨hB.lf.txt, Nat.le_refl _, hln, HZL.out, by have := hB.rw.at; rwa [hx] at this, Nat.le_refl _, hrn, fun r hr => ⟨hrf r hr, (HZR.out r hr).2.1, (HZR.out r hr).2.2⟩⟩
  have HTo : Hid (∀ x, Below w.heap.size w x → Calls Tryz.prog 8 #[.agg #[.slice q rs.length cq, .slice p lv.length cp, .int .i64 now]] x fun e w' => ∃ g gl xs, xs.map (·.1) = rs ∧ x.heap.size ≤ g ∧ e = .returned (.agg #[.slice (some ⟨g, 0, none⟩) rs.length rs.length, .slice (some ⟨gl, 0, none⟩) lv.length lv.length, .int .i64 now]) ∧ LgB w' g xs gl lv ∧ Below x.heap.size x w') := fun x hb => toLog_any q cq rs p cp lv now x (HR.out.below hb) hrn hcq hrf (HL.out.below hb) hln hcp
  have HTr : Hid (∀ x, Below w.heap.size w x → Calls Tryz.prog 9 #[.agg #[.string kd, .int .i64 ra, .slice rq fs.length rc]] x fun e w' => ∃ g, x.heap.size ≤ g ∧ e = .returned (.agg #[.string kd, .int .i64 ra, .slice (some ⟨g, 0, none⟩) fs.length fs.length]) ∧ BlkF w' g fs ∧ Below x.heap.size x w') := fun x hb => toRow_any kd ra rq rc fs x (HF.out.below hb) hfn hfc
  obtain ⟨RS, hRS⟩ : ∃ RS, RS = laR rs lv now ⟨kd, ra, fs⟩ := ⟨_, rfl⟩
  obtain ⟨LV, hLV⟩ : ∃ LV, LV = laL rs lv now ⟨kd, ra, fs⟩ := ⟨_, rfl⟩
  obtain ⟨NW, hNW⟩ : ∃ NW, NW = laN rs lv now ⟨kd, ra, fs⟩ := ⟨_, rfl⟩
  obtain ⟨CC, hCC⟩ : ∃ CC, CC = laC rs lv now ⟨kd, ra, fs⟩ := ⟨_, rfl⟩
  have hS2 : RS.length + fsN RS + LV.length ≤ 1048576 := by rw [hRS, hLV]; exact la_sum
  have HS2 : Hid (RS.length + fsN RS + LV.length ≤ 1048576) := hS2
  have HS : Hid (∀ g gl xs x gr, xs.map (·.1) = rs → LgB x g xs gl lv → BlkF x gr fs → Below w.heap.size w x → Calls Tryz.prog 7 #[.agg #[.slice (some ⟨g, 0, none⟩) rs.length rs.length, .slice (some ⟨gl, 0, none⟩) lv.length lv.length, .int .i64 now], .agg #[.string kd, .int .i64 ra, .slice (some ⟨gr, 0, none⟩) fs.length fs.length]] x fun e w' => LgA x.heap.size RS LV NW CC e w' ∧ Below x.heap.size x w') := fun g gl xs x gr hx hB hF hb => by rw [hRS, hLV, hNW, hCC]; exact specLogAdd_any (some ⟨gl, 0, none⟩) lv lv.length (some ⟨g, 0, none⟩) rs rs.length now kd ra (some ⟨gr, 0, none⟩) fs.length fs x (HAt.out g gl xs x hx hB) hF.at hfn (Nat.le_refl _) HZF.out.1 HZF.out.2
  have HI : Hid (∀ g gl xs x gr, xs.map (·.1) = rs → LgB x g xs gl lv → BlkF x gr fs → Below w.heap.size w x → Calls Tryz.prog 10 #[.agg #[.slice (some ⟨g, 0, none⟩) rs.length rs.length, .slice (some ⟨gl, 0, none⟩) lv.length lv.length, .int .i64 now], .agg #[.string kd, .int .i64 ra, .slice (some ⟨gr, 0, none⟩) fs.length fs.length]] x fun e w' => LgA x.heap.size RS LV NW CC e w' ∧ Below x.heap.size x w') := fun g gl xs x gr hx hB hF hb => by rw [hRS, hLV, hNW, hCC]; exact implLogAdd_any (some ⟨gl, 0, none⟩) lv lv.length (some ⟨g, 0, none⟩) rs rs.length now kd ra (some ⟨gr, 0, none⟩) fs.length fs x (HT.out.to hb) (HG.out.below hb) (HAt.out g gl xs x hx hB) hF.at hfn (Nat.le_refl _) HZF.out.1 HZF.out.2
  have HRF2 : Hid (∀ x ∈ rs, x.fs.length ≤ 1048576) := hrf
  have HEq : Hid (∀ x g gl xs g' gl' xs', xs.map (·.1) = rs → LgB x g xs gl lv → xs'.map (·.1) = rs → LgB x g' xs' gl' lv → Calls Tryz.prog 12 #[.agg #[.slice (some ⟨g, 0, none⟩) rs.length rs.length, .slice (some ⟨gl, 0, none⟩) lv.length lv.length, .int .i64 now], .agg #[.slice (some ⟨g', 0, none⟩) rs.length rs.length, .slice (some ⟨gl', 0, none⟩) lv.length lv.length, .int .i64 now]] x fun e w' => e = .returned (.bool true) ∧ Below x.heap.size x w') := fun x g gl xs g' gl' xs' hx hB hx' hB' => eqLog_any (some ⟨g, 0, none⟩) (some ⟨g', 0, none⟩) rs.length rs.length rs (some ⟨gl, 0, none⟩) (some ⟨gl', 0, none⟩) lv.length lv.length lv now x (by have := hB.rw.at; rwa [hx] at this) (by have := hB'.rw.at; rwa [hx'] at this) hrn (Nat.le_refl _) (Nat.le_refl _) hrf hB.lf.txt hB'.lf.txt hln (Nat.le_refl _) (Nat.le_refl _)
  have HEr : Hid (∀ x g g', BlkF x g fs → BlkF x g' fs → Calls Tryz.prog 13 #[.agg #[.string kd, .int .i64 ra, .slice (some ⟨g, 0, none⟩) fs.length fs.length], .agg #[.string kd, .int .i64 ra, .slice (some ⟨g', 0, none⟩) fs.length fs.length]] x fun e w' => e = .returned (.bool true) ∧ Below x.heap.size x w') := fun x g g' h h' => eqRow_any kd ra _ _ fs.length fs.length fs x h.at h'.at hfn (Nat.le_refl _) (Nat.le_refl _)
  have HEO : Hid (∀ x b b' xs xs' v1 v2 u1 u2, LgO b xs LV v1 v2 x → LgO b' xs' LV u1 u2 x → xs.map (·.1) = RS → xs'.map (·.1) = RS → Calls Tryz.prog 11 #[.agg #[v1, v2, .int .i64 NW, .int .i64 CC], .agg #[u1, u2, .int .i64 NW, .int .i64 CC]] x fun e w' => e = .returned (.bool true) ∧ Below x.heap.size x w') := fun x b b' xs xs' v1 v2 u1 u2 h h' hx hx' => eqLogOut_any b b' xs xs' RS LV v1 v2 u1 u2 NW CC x h h' hx hx' (by have := HS2.out; omega) (fun z hz => by have := fsN_mem hz; have := HS2.out; omega) (by have := HS2.out; omega)
  have HML : Hid (∀ x g gl xs, xs.map (·.1) = rs → LgB x g xs gl lv → Calls Tryz.prog 14 #[.agg #[.slice (some ⟨g, 0, none⟩) rs.length rs.length, .slice (some ⟨gl, 0, none⟩) lv.length lv.length, .int .i64 now], .int .i64 1] x fun e w' => (∃ m : Nat, e = .returned (.int .i64 (m : Int)) ∧ 1 ≤ m ∧ m + 5 * fs.length ≤ 16777210) ∧ But (lgS g xs gl) x w') := fun x g gl xs hx hB => by
    have hl : xs.length = rs.length := by rw [← hx, List.length_map]
    have h := markLogB_any g xs gl lv now 1 x hB (Nat.le_refl _) (by omega) hln (by rw [hx]; have := HSum.out; omega)
    rw [hl] at h
    refine h.mono ?_
    rintro e w' ⟨⟨m, rfl, m1, m2⟩, kb⟩
    rw [hx] at m2
    have := HSum.out
    exact ⟨⟨m, rfl, m1, by omega⟩, kb⟩
  have HMR : Hid (∀ x g (m : Nat), BlkF x g fs → w.heap.size ≤ g → 1 ≤ m → m + 5 * fs.length ≤ 16777210 → Calls Tryz.prog 15 #[.agg #[.string kd, .int .i64 ra, .slice (some ⟨g, 0, none⟩) fs.length fs.length], .int .i64 (m : Int)] x fun e w' => e = .returned (.int .i64 (5 * (fs.length : Int) + m)) ∧ x.grownBy w' (some g)) := fun x g m hF hgw m1 m2 => markRowK_any m m1 kd ra w.heap.size (some ⟨g, 0, none⟩) fs.length fs x (hF.own w.heap.size hgw (by unfold maxLen; omega)) m2
  have HLn : Hid (∀ xs : List (Rw × Value), xs.map (·.1) = RS → xs.length ≤ 1048576 ∧ mkT xs + LV.length ≤ 16777210) := fun xs hx => by
    have h : xs.length = RS.length := by rw [← hx, List.length_map]
    have := HS2.out
    exact ⟨by omega, by unfold mkT; rw [hx]; omega⟩
  have HMO : Hid (∀ x b xs v1 v2, xs.map (·.1) = RS → LgO b xs LV v1 v2 x → Calls Tryz.prog 16 #[.agg #[v1, v2, .int .i64 NW, .int .i64 CC], .int .i64 1] x fun e w' => e = .returned (.int .i64 ((mkT xs + LV.length : Nat) : Int)) ∧ LgM b xs LV.length v1 v2 w' ∧ But (lqS xs v1 v2) x w') := fun x b xs v1 v2 hx h => markLogOutO_any b xs LV v1 v2 NW CC x h (HLn.out xs hx).1 (HLn.out xs hx).2
  have HHO : Hid (∀ x b xs v1 v2, xs.map (·.1) = RS → LgM b xs LV.length v1 v2 x → Calls Tryz.prog 17 #[.agg #[v1, v2, .int .i64 NW, .int .i64 CC], .int .i64 1] x fun e w' => e = .returned (.int .i64 ((mkT xs + LV.length : Nat) : Int)) ∧ Below x.heap.size x w') := fun x b xs v1 v2 hx h => heldLogOutO_any b xs LV.length v1 v2 NW CC x h (HLn.out xs hx).1 (HLn.out xs hx).2
  have HRow : Hid (w.heap.size + 1 < w2.heap.size) := KR.out.lt
  clear b2 HBg HLB HZR HZL hrf HT HG HAt hsum hsum2 hS2 hRS hLV hNW hCC HR HL HF HZF HFB hcq hcp hmq hmp hr0 hr20 hfm K1a R1a HB1a
  have QT : Hid (∀ x, Below w2.heap.size w2 x → Calls Tryz.prog 8 #[.agg #[.slice q rs.length cq, .slice p lv.length cp, .int .i64 now]] x fun e w' => ∃ g gl xs, xs.map (·.1) = rs ∧ x.heap.size ≤ g ∧ e = .returned (.agg #[.slice (some ⟨g, 0, none⟩) rs.length rs.length, .slice (some ⟨gl, 0, none⟩) lv.length lv.length, .int .i64 now]) ∧ LgB w' g xs gl lv ∧ Below x.heap.size x w') := fun x hb => HTo.out x (chainB HB2.out hb)
  have QR : Hid (∀ x, Below w2.heap.size w2 x → Calls Tryz.prog 9 #[.agg #[.string kd, .int .i64 ra, .slice rq fs.length rc]] x fun e w' => ∃ g, x.heap.size ≤ g ∧ e = .returned (.agg #[.string kd, .int .i64 ra, .slice (some ⟨g, 0, none⟩) fs.length fs.length]) ∧ BlkF w' g fs ∧ Below x.heap.size x w') := fun x hb => HTr.out x (chainB HB2.out hb)
  have QP : Hid (∀ g gl xs x gr, xs.map (·.1) = rs → LgB x g xs gl lv → BlkF x gr fs → Below w2.heap.size w2 x → Calls Tryz.prog 7 #[.agg #[.slice (some ⟨g, 0, none⟩) rs.length rs.length, .slice (some ⟨gl, 0, none⟩) lv.length lv.length, .int .i64 now], .agg #[.string kd, .int .i64 ra, .slice (some ⟨gr, 0, none⟩) fs.length fs.length]] x fun e w' => LgA x.heap.size RS LV NW CC e w' ∧ Below x.heap.size x w') := fun g gl xs x gr hx hB hF hb => HS.out g gl xs x gr hx hB hF (chainB HB2.out hb)
  have HX : Hid (∀ x, Below w2.heap.size w2 x → (x.cell? ⟨w.heap.size, 0, none⟩ = some (.slice q rs.length cq) ∧ x.cell? ⟨w.heap.size, 1, none⟩ = some (.slice p lv.length cp) ∧ x.cell? ⟨w.heap.size, 2, none⟩ = some (.int .i64 now)) ∧ x.cell? ⟨w.heap.size + 1, 0, none⟩ = some (.string kd) ∧ x.cell? ⟨w.heap.size + 1, 1, none⟩ = some (.int .i64 ra) ∧ x.cell? ⟨w.heap.size + 1, 2, none⟩ = some (.slice rq fs.length rc)) := fun x hb => ⟨(KA.out.below hb).three, (KR.out.below hb).three⟩
  have BR : Below w2.heap.size w2 w2.drew := (Below.refl _ _).drew
  clear HS
  go_upto_region 8 with fail
  go_cut [6] from 24 to 28 (fun s6 wx => ∃ Eb q9 c9 p9 d9 xs9, s6 = .pointer (some ⟨Eb, 0, none⟩) ∧ Hid (xs9.map (·.1) = RS ∧ PuL w2 xs9 LV (.slice q9 RS.length c9) (.slice p9 LV.length d9) NW CC Eb wx))
  case first =>
    refine region_till (fun w' => (w'.cell? ⟨w.heap.size, 0, none⟩ = some (.slice q rs.length cq) ∧ w'.cell? ⟨w.heap.size, 1, none⟩ = some (.slice p lv.length cp) ∧ w'.cell? ⟨w.heap.size, 2, none⟩ = some (.int .i64 now)) ∧ w'.cell? ⟨w.heap.size + 1, 0, none⟩ = some (.string kd) ∧ w'.cell? ⟨w.heap.size + 1, 1, none⟩ = some (.int .i64 ra) ∧ w'.cell? ⟨w.heap.size + 1, 2, none⟩ = some (.slice rq fs.length rc)) 6 (by kernel_rfl) (HX.out _ BR) (fun hHeld => ?_)
    generalize w2.drew = x0 at *
    refine till_take 0 (v := ?_) rfl (by kernel_rfl) (by kernel_rfl) (by kernel_rfl) (by kernel_rfl) (fun _ _ _ h => h) hHeld (Or.inl ⟨by rfl, ?_⟩) ?_
    rotate_left
    · (intro w hSw; (try dsimp only at hSw); go_simp; try with_reducible rfl)
    simp only [Act.put, List.setIfInBounds_toArray, List.set_cons_zero, List.set_cons_succ]
    refine till_take 2 (v := ?_) rfl (by kernel_rfl) (by kernel_rfl) (by kernel_rfl) (by kernel_rfl) (fun _ _ _ h => h) hHeld (Or.inl ⟨by rfl, ?_⟩) ?_
    rotate_left
    · (intro w hSw; (try dsimp only at hSw); go_simp; try with_reducible rfl)
    simp only [Act.put, List.setIfInBounds_toArray, List.set_cons_zero, List.set_cons_succ]
    refine till_ready2 1 5 rfl rfl (by kernel_rfl) (fun K hK => ?_) (fun K hK => ?_)
    · go_simp
      (go_at_call 8; refine (QT.out _ BR).mono ?_; rintro e y_1 ⟨g8, l8, xs8, hx8, -, rfl, j1, z_1⟩)
      have HX8 : Hid (xs8.map (·.1) = rs) := hx8
      clear hx8
      have b_1 := chainB BR z_1
      refine hK.out _ _ (HX.out _ b_1) (fun hHeld => ?_)
      clear hK K
      try simp only [Act.put, List.setIfInBounds_toArray, List.set_cons_zero, List.set_cons_succ]
      refine till_ready2 3 5 rfl rfl (by kernel_rfl) (fun K hK => ?_) (fun K hK => ?_)
      · go_simp
        (go_at_call 9; refine (QR.out _ b_1).mono ?_; rintro e y_2 ⟨g9, -, rfl, j2, z_2⟩)
        have b_2 := chainB b_1 z_2
        have j1 := j1.below z_2
        refine hK.out _ _ (HX.out _ b_2) (fun hHeld => ?_)
        clear hK K
        try simp only [Act.put, List.setIfInBounds_toArray, List.set_cons_zero, List.set_cons_succ]
        refine till_ready2 4 5 rfl rfl (by kernel_rfl) (fun K hK => ?_) (fun K hK => ?_)
        · go_simp
          (go_at_call 7; refine (QP.out g8 l8 xs8 _ g9 HX8.out j1 j2 b_2).mono ?_; rintro e y_3 ⟨⟨v1, v2, xs9, rfl, hx9, oW⟩, z_3⟩)
          obtain ⟨q9, c9, p9, d9, rfl, rfl, _⟩ := oW.at hx9
          have oL := oW.lower b_2.size
          clear oW
          have b_3 := chainB b_2 z_3
          have j1 := j1.below z_3
          have j2 := j2.below z_3
          refine hK.out _ _ (HX.out _ b_3) (fun hHeld => ?_)
          clear hK K
          try simp only [Act.put, List.setIfInBounds_toArray, List.set_cons_zero, List.set_cons_succ]
          refine till_ready 5 rfl (by kernel_rfl) (fun K hK => ?_)
          go_simp
          have kE : Bxs (y_3.alloc (.cells #[.slice none 0 0, .slice none 0 0, .int .i64 0, .int .i64 0] 35)) y_3.heap.size 35 #[.slice none 0 0, .slice none 0 0, .int .i64 0, .int .i64 0] := Bxs.new _ _ _
          have b_4 : Below w2.heap.size w2 (y_3.alloc (.cells #[.slice none 0 0, .slice none 0 0, .int .i64 0, .int .i64 0] 35)) := alB b_3 _
          have hEb : w2.heap.size ≤ y_3.heap.size := b_3.size
          replace j1 := j1.below (alB (Below.refl _ _) (.cells #[.slice none 0 0, .slice none 0 0, .int .i64 0, .int .i64 0] 35))
          replace j2 := j2.below (alB (Below.refl _ _) (.cells #[.slice none 0 0, .slice none 0 0, .int .i64 0, .int .i64 0] 35))
          replace oL := oL.below (alB (Below.refl _ _) (.cells #[.slice none 0 0, .slice none 0 0, .int .i64 0, .int .i64 0] 35))
          refine hK.out _ _ (HX.out _ b_4) (fun hHeld => ?_)
          clear hK K
          try simp only [Act.put, List.setIfInBounds_toArray, List.set_cons_zero, List.set_cons_succ]
          generalize y_3.alloc (.cells #[.slice none 0 0, .slice none 0 0, .int .i64 0, .int .i64 0] 35) = u at *
          generalize y_3.heap.size = Eb at *
          have HP : Hid (xs9.map (·.1) = RS ∧ PuL w2 xs9 LV (.slice q9 RS.length c9) (.slice p9 LV.length d9) NW CC Eb ((((u.setCell ⟨Eb, 0, none⟩ (.slice q9 RS.length c9)).setCell ⟨Eb, 1, none⟩ (.slice p9 LV.length d9)).setCell ⟨Eb, 2, none⟩ (.int .i64 NW)).setCell ⟨Eb, 3, none⟩ (.int .i64 CC))) := ⟨hx9, PuL.put kE hEb oL b_4⟩
          have qc0 : u.cell? ⟨Eb, 0, none⟩ = some (.slice none 0 0) := kE.cell 0
          have qc1 : u.cell? ⟨Eb, 1, none⟩ = some (.slice none 0 0) := kE.cell 1
          have qc2 : u.cell? ⟨Eb, 2, none⟩ = some (.int .i64 0) := kE.cell 2
          have qc3 : u.cell? ⟨Eb, 3, none⟩ = some (.int .i64 0) := kE.cell 3
          have qf0 := kE.fr 0
          have qf1 := kE.fr 1
          have qf2 := kE.fr 2
          have qf3 := kE.fr 3
          clear hx9
          refine till_last rfl (by kernel_rfl) (by kernel_rfl) (fun K hK => ?_)
          go_simp
          refine hK.out _ _ ?_
          clear hK K hHeld qc0 qf0 qc1 qf1 qc2 qf2 qc3 qf3
          go_wp2_with fail
          go_meet
          exact ⟨_, _, _, _, _, _, rfl, HP⟩
        · go_simp
          have kE : Bxs (y_2.alloc (.cells #[.slice none 0 0, .slice none 0 0, .int .i64 0, .int .i64 0] 35)) y_2.heap.size 35 #[.slice none 0 0, .slice none 0 0, .int .i64 0, .int .i64 0] := Bxs.new _ _ _
          have b_5 : Below w2.heap.size w2 (y_2.alloc (.cells #[.slice none 0 0, .slice none 0 0, .int .i64 0, .int .i64 0] 35)) := alB b_2 _
          have hEb : w2.heap.size ≤ y_2.heap.size := b_2.size
          replace j1 := j1.below (alB (Below.refl _ _) (.cells #[.slice none 0 0, .slice none 0 0, .int .i64 0, .int .i64 0] 35))
          replace j2 := j2.below (alB (Below.refl _ _) (.cells #[.slice none 0 0, .slice none 0 0, .int .i64 0, .int .i64 0] 35))
          refine hK.out _ _ (HX.out _ b_5) (fun hHeld => ?_)
          clear hK K
          try simp only [Act.put, List.setIfInBounds_toArray, List.set_cons_zero, List.set_cons_succ]
          generalize y_2.alloc (.cells #[.slice none 0 0, .slice none 0 0, .int .i64 0, .int .i64 0] 35) = u at *
          generalize y_2.heap.size = Eb at *
          refine till_ready 4 rfl (by kernel_rfl) (fun K hK => ?_)
          go_simp
          (go_at_call 7; refine (QP.out g8 l8 xs8 _ g9 HX8.out j1 j2 b_5).mono ?_; rintro e y_6 ⟨⟨v1, v2, xs9, rfl, hx9, oW⟩, z_6⟩)
          obtain ⟨q9, c9, p9, d9, rfl, rfl, _⟩ := oW.at hx9
          have oL := oW.lower b_5.size
          clear oW
          have b_6 := chainB b_5 z_6
          have j1 := j1.below z_6
          have j2 := j2.below z_6
          have kE := kE.below z_6
          refine hK.out _ _ (HX.out _ b_6) (fun hHeld => ?_)
          clear hK K
          try simp only [Act.put, List.setIfInBounds_toArray, List.set_cons_zero, List.set_cons_succ]
          have HP : Hid (xs9.map (·.1) = RS ∧ PuL w2 xs9 LV (.slice q9 RS.length c9) (.slice p9 LV.length d9) NW CC Eb ((((y_6.setCell ⟨Eb, 0, none⟩ (.slice q9 RS.length c9)).setCell ⟨Eb, 1, none⟩ (.slice p9 LV.length d9)).setCell ⟨Eb, 2, none⟩ (.int .i64 NW)).setCell ⟨Eb, 3, none⟩ (.int .i64 CC))) := ⟨hx9, PuL.put kE hEb oL b_6⟩
          have qc0 : y_6.cell? ⟨Eb, 0, none⟩ = some (.slice none 0 0) := kE.cell 0
          have qc1 : y_6.cell? ⟨Eb, 1, none⟩ = some (.slice none 0 0) := kE.cell 1
          have qc2 : y_6.cell? ⟨Eb, 2, none⟩ = some (.int .i64 0) := kE.cell 2
          have qc3 : y_6.cell? ⟨Eb, 3, none⟩ = some (.int .i64 0) := kE.cell 3
          have qf0 := kE.fr 0
          have qf1 := kE.fr 1
          have qf2 := kE.fr 2
          have qf3 := kE.fr 3
          clear hx9
          refine till_last rfl (by kernel_rfl) (by kernel_rfl) (fun K hK => ?_)
          go_simp
          refine hK.out _ _ ?_
          clear hK K hHeld qc0 qf0 qc1 qf1 qc2 qf2 qc3 qf3
          go_wp2_with fail
          go_meet
          exact ⟨_, _, _, _, _, _, rfl, HP⟩
      · go_simp
        have kE : Bxs (y_1.alloc (.cells #[.slice none 0 0, .slice none 0 0, .int .i64 0, .int .i64 0] 35)) y_1.heap.size 35 #[.slice none 0 0, .slice none 0 0, .int .i64 0, .int .i64 0] := Bxs.new _ _ _
        have b_7 : Below w2.heap.size w2 (y_1.alloc (.cells #[.slice none 0 0, .slice none 0 0, .int .i64 0, .int .i64 0] 35)) := alB b_1 _
        have hEb : w2.heap.size ≤ y_1.heap.size := b_1.size
        replace j1 := j1.below (alB (Below.refl _ _) (.cells #[.slice none 0 0, .slice none 0 0, .int .i64 0, .int .i64 0] 35))
        refine hK.out _ _ (HX.out _ b_7) (fun hHeld => ?_)
        clear hK K
        try simp only [Act.put, List.setIfInBounds_toArray, List.set_cons_zero, List.set_cons_succ]
        generalize y_1.alloc (.cells #[.slice none 0 0, .slice none 0 0, .int .i64 0, .int .i64 0] 35) = u at *
        generalize y_1.heap.size = Eb at *
        refine till_ready 3 rfl (by kernel_rfl) (fun K hK => ?_)
        go_simp
        (go_at_call 9; refine (QR.out _ b_7).mono ?_; rintro e y_8 ⟨g9, -, rfl, j2, z_8⟩)
        have b_8 := chainB b_7 z_8
        have j1 := j1.below z_8
        have kE := kE.below z_8
        refine hK.out _ _ (HX.out _ b_8) (fun hHeld => ?_)
        clear hK K
        try simp only [Act.put, List.setIfInBounds_toArray, List.set_cons_zero, List.set_cons_succ]
        refine till_ready 4 rfl (by kernel_rfl) (fun K hK => ?_)
        go_simp
        (go_at_call 7; refine (QP.out g8 l8 xs8 _ g9 HX8.out j1 j2 b_8).mono ?_; rintro e y_9 ⟨⟨v1, v2, xs9, rfl, hx9, oW⟩, z_9⟩)
        obtain ⟨q9, c9, p9, d9, rfl, rfl, _⟩ := oW.at hx9
        have oL := oW.lower b_8.size
        clear oW
        have b_9 := chainB b_8 z_9
        have j1 := j1.below z_9
        have j2 := j2.below z_9
        have kE := kE.below z_9
        refine hK.out _ _ (HX.out _ b_9) (fun hHeld => ?_)
        clear hK K
        try simp only [Act.put, List.setIfInBounds_toArray, List.set_cons_zero, List.set_cons_succ]
        have HP : Hid (xs9.map (·.1) = RS ∧ PuL w2 xs9 LV (.slice q9 RS.length c9) (.slice p9 LV.length d9) NW CC Eb ((((y_9.setCell ⟨Eb, 0, none⟩ (.slice q9 RS.length c9)).setCell ⟨Eb, 1, none⟩ (.slice p9 LV.length d9)).setCell ⟨Eb, 2, none⟩ (.int .i64 NW)).setCell ⟨Eb, 3, none⟩ (.int .i64 CC))) := ⟨hx9, PuL.put kE hEb oL b_9⟩
        have qc0 : y_9.cell? ⟨Eb, 0, none⟩ = some (.slice none 0 0) := kE.cell 0
        have qc1 : y_9.cell? ⟨Eb, 1, none⟩ = some (.slice none 0 0) := kE.cell 1
        have qc2 : y_9.cell? ⟨Eb, 2, none⟩ = some (.int .i64 0) := kE.cell 2
        have qc3 : y_9.cell? ⟨Eb, 3, none⟩ = some (.int .i64 0) := kE.cell 3
        have qf0 := kE.fr 0
        have qf1 := kE.fr 1
        have qf2 := kE.fr 2
        have qf3 := kE.fr 3
        clear hx9
        refine till_last rfl (by kernel_rfl) (by kernel_rfl) (fun K hK => ?_)
        go_simp
        refine hK.out _ _ ?_
        clear hK K hHeld qc0 qf0 qc1 qf1 qc2 qf2 qc3 qf3
        go_wp2_with fail
        go_meet
        exact ⟨_, _, _, _, _, _, rfl, HP⟩
    · go_simp
      have kE : Bxs (x0.alloc (.cells #[.slice none 0 0, .slice none 0 0, .int .i64 0, .int .i64 0] 35)) x0.heap.size 35 #[.slice none 0 0, .slice none 0 0, .int .i64 0, .int .i64 0] := Bxs.new _ _ _
      have b_10 : Below w2.heap.size w2 (x0.alloc (.cells #[.slice none 0 0, .slice none 0 0, .int .i64 0, .int .i64 0] 35)) := alB BR _
      have hEb : w2.heap.size ≤ x0.heap.size := BR.size
      refine hK.out _ _ (HX.out _ b_10) (fun hHeld => ?_)
      clear hK K
      try simp only [Act.put, List.setIfInBounds_toArray, List.set_cons_zero, List.set_cons_succ]
      generalize x0.alloc (.cells #[.slice none 0 0, .slice none 0 0, .int .i64 0, .int .i64 0] 35) = u at *
      generalize x0.heap.size = Eb at *
      refine till_ready 1 rfl (by kernel_rfl) (fun K hK => ?_)
      go_simp
      (go_at_call 8; refine (QT.out _ b_10).mono ?_; rintro e y_11 ⟨g8, l8, xs8, hx8, -, rfl, j1, z_11⟩)
      have HX8 : Hid (xs8.map (·.1) = rs) := hx8
      clear hx8
      have b_11 := chainB b_10 z_11
      have kE := kE.below z_11
      refine hK.out _ _ (HX.out _ b_11) (fun hHeld => ?_)
      clear hK K
      try simp only [Act.put, List.setIfInBounds_toArray, List.set_cons_zero, List.set_cons_succ]
      refine till_ready 3 rfl (by kernel_rfl) (fun K hK => ?_)
      go_simp
      (go_at_call 9; refine (QR.out _ b_11).mono ?_; rintro e y_12 ⟨g9, -, rfl, j2, z_12⟩)
      have b_12 := chainB b_11 z_12
      have j1 := j1.below z_12
      have kE := kE.below z_12
      refine hK.out _ _ (HX.out _ b_12) (fun hHeld => ?_)
      clear hK K
      try simp only [Act.put, List.setIfInBounds_toArray, List.set_cons_zero, List.set_cons_succ]
      refine till_ready 4 rfl (by kernel_rfl) (fun K hK => ?_)
      go_simp
      (go_at_call 7; refine (QP.out g8 l8 xs8 _ g9 HX8.out j1 j2 b_12).mono ?_; rintro e y_13 ⟨⟨v1, v2, xs9, rfl, hx9, oW⟩, z_13⟩)
      obtain ⟨q9, c9, p9, d9, rfl, rfl, _⟩ := oW.at hx9
      have oL := oW.lower b_12.size
      clear oW
      have b_13 := chainB b_12 z_13
      have j1 := j1.below z_13
      have j2 := j2.below z_13
      have kE := kE.below z_13
      refine hK.out _ _ (HX.out _ b_13) (fun hHeld => ?_)
      clear hK K
      try simp only [Act.put, List.setIfInBounds_toArray, List.set_cons_zero, List.set_cons_succ]
      have HP : Hid (xs9.map (·.1) = RS ∧ PuL w2 xs9 LV (.slice q9 RS.length c9) (.slice p9 LV.length d9) NW CC Eb ((((y_13.setCell ⟨Eb, 0, none⟩ (.slice q9 RS.length c9)).setCell ⟨Eb, 1, none⟩ (.slice p9 LV.length d9)).setCell ⟨Eb, 2, none⟩ (.int .i64 NW)).setCell ⟨Eb, 3, none⟩ (.int .i64 CC))) := ⟨hx9, PuL.put kE hEb oL b_13⟩
      have qc0 : y_13.cell? ⟨Eb, 0, none⟩ = some (.slice none 0 0) := kE.cell 0
      have qc1 : y_13.cell? ⟨Eb, 1, none⟩ = some (.slice none 0 0) := kE.cell 1
      have qc2 : y_13.cell? ⟨Eb, 2, none⟩ = some (.int .i64 0) := kE.cell 2
      have qc3 : y_13.cell? ⟨Eb, 3, none⟩ = some (.int .i64 0) := kE.cell 3
      have qf0 := kE.fr 0
      have qf1 := kE.fr 1
      have qf2 := kE.fr 2
      have qf3 := kE.fr 3
      clear hx9
      refine till_last rfl (by kernel_rfl) (by kernel_rfl) (fun K hK => ?_)
      go_simp
      refine hK.out _ _ ?_
      clear hK K hHeld qc0 qf0 qc1 qf1 qc2 qf2 qc3 qf3
      go_wp2_with fail
      go_meet
      exact ⟨_, _, _, _, _, _, rfl, HP⟩
  case rest =>
  obtain ⟨E1, qw, cw, pw, dw, xsw, rfl, hPW⟩ := hcut
  rename World => w5
  clear QP QT QR HX BR
  have HXW : Hid (xsw.map (·.1) = RS) := hPW.out.1
  have O5 : Hid (LgO w.heap.size xsw LV (.slice qw RS.length cw) (.slice pw LV.length dw) w5) := hPW.out.2.lg.lower (by have := HRow.out; omega)
  have Q5 : Hid (Bxs w5 E1 35 #[.slice qw RS.length cw, .slice pw LV.length dw, .int .i64 NW, .int .i64 CC]) := hPW.out.2.box
  have HB5 : Hid (Below w.heap.size w w5) := chainB HB2.out hPW.out.2.bel
  have KA5 : Hid (Bxs w5 w.heap.size 25 #[.slice q rs.length cq, .slice p lv.length cp, .int .i64 now]) := KA.out.below hPW.out.2.bel
  have KR5 : Hid (Bxs w5 (w.heap.size + 1) 28 #[.string kd, .int .i64 ra, .slice rq fs.length rc]) := KR.out.below hPW.out.2.bel
  have HE1 : Hid (w.heap.size + 1 < E1 ∧ E1 < w5.heap.size) := ⟨by have := hPW.out.2.eb; have := HRow.out; omega, Q5.out.lt⟩
  clear hPW KA KR HB2 HRow
  have hTo2 := HTo.out w5 HB5.out
  obtain ⟨x0, x1, x2⟩ := KA5.out.three
  go_wp2_with fail
  refine hTo2.mono ?_
  rintro e w6 ⟨g6, l6, xs6, hx6, hg6, rfl, hB6, b6⟩
  have HX6 : Hid (xs6.map (·.1) = rs) := hx6
  have hal : Below w6.heap.size w6 (w6.alloc (.cells #[.slice (some ⟨g6, 0, none⟩) rs.length rs.length, .slice (some ⟨l6, 0, none⟩) lv.length lv.length, .int .i64 now] 33)) := (Below.refl _ _).alloc (Nat.le_refl _) _
  have C7 : Hid (Below w5.heap.size w5 (w6.alloc (.cells #[.slice (some ⟨g6, 0, none⟩) rs.length rs.length, .slice (some ⟨l6, 0, none⟩) lv.length lv.length, .int .i64 now] 33))) := chainB b6 hal
  have K7 : Hid (Bxs (w6.alloc (.cells #[.slice (some ⟨g6, 0, none⟩) rs.length rs.length, .slice (some ⟨l6, 0, none⟩) lv.length lv.length, .int .i64 now] 33)) w6.heap.size 33 #[.slice (some ⟨g6, 0, none⟩) rs.length rs.length, .slice (some ⟨l6, 0, none⟩) lv.length lv.length, .int .i64 now]) := Bxs.new _ _ _
  have L7 : Hid (LgB (w6.alloc (.cells #[.slice (some ⟨g6, 0, none⟩) rs.length rs.length, .slice (some ⟨l6, 0, none⟩) lv.length lv.length, .int .i64 now] 33)) g6 xs6 l6 lv) := hB6.below hal
  have HS6 : Hid (∀ k, lgS g6 xs6 l6 k → w5.heap.size ≤ k ∧ k < w6.heap.size) := fun k hk => by
    have := lgS_from hB6 hk
    omega
  have HZ7 : Hid ((w6.alloc (.cells #[.slice (some ⟨g6, 0, none⟩) rs.length rs.length, .slice (some ⟨l6, 0, none⟩) lv.length lv.length, .int .i64 now] 33)).heap.size = w6.heap.size + 1) := szA _ _
  have KR7 : Hid (Bxs (w6.alloc (.cells #[.slice (some ⟨g6, 0, none⟩) rs.length rs.length, .slice (some ⟨l6, 0, none⟩) lv.length lv.length, .int .i64 now] 33)) (w.heap.size + 1) 28 #[.string kd, .int .i64 ra, .slice rq fs.length rc]) := KR5.out.below C7.out
  clear hTo2 x0 x1 x2 hx6 hg6 hB6 b6 hal
  go_upto_region 10 with fail
  generalize w6.heap.size = E7 at *
  generalize w6.alloc (.cells #[.slice (some ⟨g6, 0, none⟩) rs.length rs.length, .slice (some ⟨l6, 0, none⟩) lv.length lv.length, .int .i64 now] 33) = w7 at *
  have hTr := HTr.out w7 (chainB HB5.out C7.out)
  obtain ⟨x0, x1, x2⟩ := KR7.out.three
  go_wp2_with fail
  refine hTr.mono ?_
  rintro e w7a ⟨gr, hgr, rfl, hBr, b7⟩
  have hal : Below w7a.heap.size w7a (w7a.alloc (.cells #[.string kd, .int .i64 ra, .slice (some ⟨gr, 0, none⟩) fs.length fs.length] 40)) := (Below.refl _ _).alloc (Nat.le_refl _) _
  have b78 : Below w7.heap.size w7 (w7a.alloc (.cells #[.string kd, .int .i64 ra, .slice (some ⟨gr, 0, none⟩) fs.length fs.length] 40)) := chainB b7 hal
  have C8 : Hid (Below w5.heap.size w5 (w7a.alloc (.cells #[.string kd, .int .i64 ra, .slice (some ⟨gr, 0, none⟩) fs.length fs.length] 40))) := chainB C7.out b78
  have K8 : Hid (Bxs (w7a.alloc (.cells #[.string kd, .int .i64 ra, .slice (some ⟨gr, 0, none⟩) fs.length fs.length] 40)) E7 33 #[.slice (some ⟨g6, 0, none⟩) rs.length rs.length, .slice (some ⟨l6, 0, none⟩) lv.length lv.length, .int .i64 now]) := K7.out.below b78
  have L8 : Hid (LgB (w7a.alloc (.cells #[.string kd, .int .i64 ra, .slice (some ⟨gr, 0, none⟩) fs.length fs.length] 40)) g6 xs6 l6 lv) := L7.out.below b78
  have R8 : Hid (Bxs (w7a.alloc (.cells #[.string kd, .int .i64 ra, .slice (some ⟨gr, 0, none⟩) fs.length fs.length] 40)) w7a.heap.size 40 #[.string kd, .int .i64 ra, .slice (some ⟨gr, 0, none⟩) fs.length fs.length]) := Bxs.new _ _ _
  have F8 : Hid (BlkF (w7a.alloc (.cells #[.string kd, .int .i64 ra, .slice (some ⟨gr, 0, none⟩) fs.length fs.length] 40)) gr fs) := hBr.below hal
  have HZ8 : Hid ((w7a.alloc (.cells #[.string kd, .int .i64 ra, .slice (some ⟨gr, 0, none⟩) fs.length fs.length] 40)).heap.size = w7a.heap.size + 1 ∧ E7 < gr ∧ gr < w7a.heap.size ∧ w5.heap.size ≤ E7) := ⟨szA _ _, by have := HZ7.out; omega, Bxs.lt hBr, by have h1 := HZ7.out; have h2 := C7.out.size; have h3 := HS6.out g6 (.inl rfl); omega⟩
  clear hTr x0 x1 x2 hgr hBr b7 b78 hal K7 L7 KR7 C7 HZ7
  go_upto_region 11 with fail
  generalize w7a.heap.size = ER at *
  generalize w7a.alloc (.cells #[.string kd, .int .i64 ra, .slice (some ⟨gr, 0, none⟩) fs.length fs.length] 40) = w8 at *
  have hI := HI.out g6 l6 xs6 w8 gr HX6.out L8.out F8.out (chainB HB5.out C8.out)
  obtain ⟨x0, x1, x2⟩ := K8.out.three
  obtain ⟨z0, z1, z2⟩ := R8.out.three
  go_wp2_with fail
  refine hI.mono ?_
  rintro e w8a ⟨⟨v1, v2, xsg, rfl, hxg, ho⟩, b8⟩
  obtain ⟨qg, cg, pg, dg, rfl, rfl, _⟩ := ho.at hxg
  have HXG : Hid (xsg.map (·.1) = RS) := hxg
  have hal : Below w8a.heap.size w8a (w8a.alloc (.cells #[.slice qg RS.length cg, .slice pg LV.length dg, .int .i64 NW, .int .i64 CC] 35)) := (Below.refl _ _).alloc (Nat.le_refl _) _
  have b89 := chainB b8 hal
  have O9 : Hid (LgO w8.heap.size xsg LV (.slice qg RS.length cg) (.slice pg LV.length dg) (w8a.alloc (.cells #[.slice qg RS.length cg, .slice pg LV.length dg, .int .i64 NW, .int .i64 CC] 35))) := ho.below hal
  have HSG : Hid (∀ k, lqS xsg (.slice qg RS.length cg) (.slice pg LV.length dg) k → w8.heap.size ≤ k ∧ k < w8a.heap.size) := fun k hk => lqS_from ho hk
  have HSW : Hid (∀ k, lqS xsw (.slice qw RS.length cw) (.slice pw LV.length dw) k → w.heap.size ≤ k ∧ k < w5.heap.size) := fun k hk => lqS_from O5.out hk
  have HLK : Hid (LaK w #[.slice q rs.length cq, .slice p lv.length cp, .int .i64 now] #[.string kd, .int .i64 ra, .slice rq fs.length rc] E1 w8a.heap.size #[.slice qw RS.length cw, .slice pw LV.length dw, .int .i64 NW, .int .i64 CC] #[.slice qg RS.length cg, .slice pg LV.length dg, .int .i64 NW, .int .i64 CC] xsw LV (.slice qw RS.length cw) (.slice pw LV.length dw) (w8a.alloc (.cells #[.slice qg RS.length cg, .slice pg LV.length dg, .int .i64 NW, .int .i64 CC] 35))) := ⟨chainB (chainB HB5.out C8.out) b89, (KA5.out.below C8.out).below b89, (KR5.out.below C8.out).below b89, (Q5.out.below C8.out).below b89, Bxs.new _ _ _, (O5.out.below C8.out).below b89⟩
  have K9 : Hid (Bxs (w8a.alloc (.cells #[.slice qg RS.length cg, .slice pg LV.length dg, .int .i64 NW, .int .i64 CC] 35)) E7 33 #[.slice (some ⟨g6, 0, none⟩) rs.length rs.length, .slice (some ⟨l6, 0, none⟩) lv.length lv.length, .int .i64 now]) := K8.out.below b89
  have L9 : Hid (LgB (w8a.alloc (.cells #[.slice qg RS.length cg, .slice pg LV.length dg, .int .i64 NW, .int .i64 CC] 35)) g6 xs6 l6 lv) := L8.out.below b89
  have R9 : Hid (Bxs (w8a.alloc (.cells #[.slice qg RS.length cg, .slice pg LV.length dg, .int .i64 NW, .int .i64 CC] 35)) ER 40 #[.string kd, .int .i64 ra, .slice (some ⟨gr, 0, none⟩) fs.length fs.length]) := R8.out.below b89
  have F9 : Hid (BlkF (w8a.alloc (.cells #[.slice qg RS.length cg, .slice pg LV.length dg, .int .i64 NW, .int .i64 CC] 35)) gr fs) := F8.out.below b89
  have HZ9 : Hid (w8.heap.size = ER + 1 ∧ E7 < gr ∧ gr < ER ∧ w5.heap.size ≤ E7 ∧ w8.heap.size ≤ w8a.heap.size) := ⟨HZ8.out.1, HZ8.out.2.1, HZ8.out.2.2.1, HZ8.out.2.2.2, b8.size⟩
  clear hI x0 x1 x2 z0 z1 z2 b8 b89 hal ho hxg K8 L8 R8 F8 KA5 KR5 Q5 O5 HZ8
  go_upto_region 12 with fail
  generalize w8a.heap.size = E8 at *
  generalize w8a.alloc (.cells #[.slice qg RS.length cg, .slice pg LV.length dg, .int .i64 NW, .int .i64 CC] 35) = w9 at *
  obtain ⟨a0, a1, a2, a3⟩ := HLK.out.b8.four
  obtain ⟨e0, e1, e2, e3⟩ := HLK.out.b1.four
  have hQ := HEO.out w9 _ _ xsg xsw _ _ _ _ O9.out HLK.out.lw HXG.out HXW.out
  go_wp2_with fail
  refine hQ.mono ?_
  rintro e w10 ⟨rfl, z⟩
  have HLK2 : Hid (LaK w #[.slice q rs.length cq, .slice p lv.length cp, .int .i64 now] #[.string kd, .int .i64 ra, .slice rq fs.length rc] E1 E8 #[.slice qw RS.length cw, .slice pw LV.length dw, .int .i64 NW, .int .i64 CC] #[.slice qg RS.length cg, .slice pg LV.length dg, .int .i64 NW, .int .i64 CC] xsw LV (.slice qw RS.length cw) (.slice pw LV.length dw) w10) := HLK.out.below z
  have K10 : Hid (Bxs w10 E7 33 #[.slice (some ⟨g6, 0, none⟩) rs.length rs.length, .slice (some ⟨l6, 0, none⟩) lv.length lv.length, .int .i64 now]) := K9.out.below z
  have L10 : Hid (LgB w10 g6 xs6 l6 lv) := L9.out.below z
  have R10 : Hid (Bxs w10 ER 40 #[.string kd, .int .i64 ra, .slice (some ⟨gr, 0, none⟩) fs.length fs.length]) := R9.out.below z
  have F10 : Hid (BlkF w10 gr fs) := F9.out.below z
  have O10 : Hid (LgO w8.heap.size xsg LV (.slice qg RS.length cg) (.slice pg LV.length dg) w10) := O9.out.below z
  clear hQ a0 a1 a2 a3 e0 e1 e2 e3 z HLK K9 L9 R9 F9 O9
  have HX : Hid (∀ x, Below w10.heap.size w10 x → (x.cell? ⟨w.heap.size, 0, none⟩ = some (.slice q rs.length cq) ∧ x.cell? ⟨w.heap.size, 1, none⟩ = some (.slice p lv.length cp) ∧ x.cell? ⟨w.heap.size, 2, none⟩ = some (.int .i64 now)) ∧ x.cell? ⟨E7, 0, none⟩ = some (.slice (some ⟨g6, 0, none⟩) rs.length rs.length) ∧ x.cell? ⟨E7, 1, none⟩ = some (.slice (some ⟨l6, 0, none⟩) lv.length lv.length) ∧ x.cell? ⟨E7, 2, none⟩ = some (.int .i64 now)) := fun x hb => ⟨(HLK2.out.ba.below hb).three, (K10.out.below hb).three⟩
  have BR : Hid (Below w10.heap.size w10 w10.drew) := (Below.refl _ _).drew
  go_upto_region 14 with fail
  go_cut [44] from 40 to 44 (fun s wx => s = .bool false ∧ Hid (Below w10.heap.size w10 wx))
  case first =>
    go_region_held3 (fun w' => (w'.cell? ⟨w.heap.size, 0, none⟩ = some (.slice q rs.length cq) ∧ w'.cell? ⟨w.heap.size, 1, none⟩ = some (.slice p lv.length cp) ∧ w'.cell? ⟨w.heap.size, 2, none⟩ = some (.int .i64 now)) ∧ w'.cell? ⟨E7, 0, none⟩ = some (.slice (some ⟨g6, 0, none⟩) rs.length rs.length) ∧ w'.cell? ⟨E7, 1, none⟩ = some (.slice (some ⟨l6, 0, none⟩) lv.length lv.length) ∧ w'.cell? ⟨E7, 2, none⟩ = some (.int .i64 now)) ((first | exact HX.out _ BR.out | exact HX.out _ q1 | exact HX.out _ q2)) (first
      | (go_at_call 8; with_reducible refine (HTo.out _ (chainB HLK2.out.bel BR.out)).mono ?_; rintro e t1 ⟨g9, l9, xs9, hx9, hg9, rfl, j9, z1⟩; have q1 : Below w10.heap.size w10 t1 := chainB BR.out z1)
      | (go_at_call 12; with_reducible refine (HEq.out _ g6 l6 xs6 g9 l9 xs9 HX6.out (L10.out.below q1) hx9 j9).mono ?_; rintro e t2 ⟨rfl, z2⟩; have q2 : Below w10.heap.size w10 t2 := chainB q1 z2))
    all_goals
      have HQ2 : Hid (Below w10.heap.size w10 t2) := q2
      clear q1 q2 z1 z2 j9 hx9 hg9
      go_wp2_with fail
      go_meet
      exact ⟨rfl, HQ2⟩
  case rest =>
  obtain ⟨rfl, hc⟩ := hcut
  rename World => w11
  have HLK3 : Hid (LaK w #[.slice q rs.length cq, .slice p lv.length cp, .int .i64 now] #[.string kd, .int .i64 ra, .slice rq fs.length rc] E1 E8 #[.slice qw RS.length cw, .slice pw LV.length dw, .int .i64 NW, .int .i64 CC] #[.slice qg RS.length cg, .slice pg LV.length dg, .int .i64 NW, .int .i64 CC] xsw LV (.slice qw RS.length cw) (.slice pw LV.length dw) w11) := HLK2.out.below hc.out
  have K11 : Hid (Bxs w11 E7 33 #[.slice (some ⟨g6, 0, none⟩) rs.length rs.length, .slice (some ⟨l6, 0, none⟩) lv.length lv.length, .int .i64 now]) := K10.out.below hc.out
  have L11 : Hid (LgB w11 g6 xs6 l6 lv) := L10.out.below hc.out
  have R11 : Hid (Bxs w11 ER 40 #[.string kd, .int .i64 ra, .slice (some ⟨gr, 0, none⟩) fs.length fs.length]) := R10.out.below hc.out
  have F11 : Hid (BlkF w11 gr fs) := F10.out.below hc.out
  have O11 : Hid (LgO w8.heap.size xsg LV (.slice qg RS.length cg) (.slice pg LV.length dg) w11) := O10.out.below hc.out
  clear hc HX BR HLK2 K10 L10 R10 F10 O10
  have HX : Hid (∀ x, Below w11.heap.size w11 x → (x.cell? ⟨w.heap.size + 1, 0, none⟩ = some (.string kd) ∧ x.cell? ⟨w.heap.size + 1, 1, none⟩ = some (.int .i64 ra) ∧ x.cell? ⟨w.heap.size + 1, 2, none⟩ = some (.slice rq fs.length rc)) ∧ x.cell? ⟨ER, 0, none⟩ = some (.string kd) ∧ x.cell? ⟨ER, 1, none⟩ = some (.int .i64 ra) ∧ x.cell? ⟨ER, 2, none⟩ = some (.slice (some ⟨gr, 0, none⟩) fs.length fs.length)) := fun x hb => ⟨(HLK3.out.br.below hb).three, (R11.out.below hb).three⟩
  have BR : Hid (Below w11.heap.size w11 w11.drew) := (Below.refl _ _).drew
  go_upto_region 16 with fail
  go_cut [49] from 45 to 49 (fun s wx => s = .bool false ∧ Hid (Below w11.heap.size w11 wx))
  case first =>
    go_region_held3 (fun w' => (w'.cell? ⟨w.heap.size + 1, 0, none⟩ = some (.string kd) ∧ w'.cell? ⟨w.heap.size + 1, 1, none⟩ = some (.int .i64 ra) ∧ w'.cell? ⟨w.heap.size + 1, 2, none⟩ = some (.slice rq fs.length rc)) ∧ w'.cell? ⟨ER, 0, none⟩ = some (.string kd) ∧ w'.cell? ⟨ER, 1, none⟩ = some (.int .i64 ra) ∧ w'.cell? ⟨ER, 2, none⟩ = some (.slice (some ⟨gr, 0, none⟩) fs.length fs.length)) ((first | exact HX.out _ BR.out | exact HX.out _ q1 | exact HX.out _ q2)) (first
      | (go_at_call 9; with_reducible refine (HTr.out _ (chainB HLK3.out.bel BR.out)).mono ?_; rintro e t1 ⟨g9, hg9, rfl, j9, z1⟩; have q1 : Below w11.heap.size w11 t1 := chainB BR.out z1)
      | (go_at_call 13; with_reducible refine (HEr.out _ gr g9 (F11.out.below q1) j9).mono ?_; rintro e t2 ⟨rfl, z2⟩; have q2 : Below w11.heap.size w11 t2 := chainB q1 z2))
    all_goals
      have HQ2 : Hid (Below w11.heap.size w11 t2) := q2
      clear q1 q2 z1 z2 j9 hg9
      go_wp2_with fail
      go_meet
      exact ⟨rfl, HQ2⟩
  case rest =>
  obtain ⟨rfl, hc⟩ := hcut
  rename World => w12
  have HLK4 : Hid (LaK w #[.slice q rs.length cq, .slice p lv.length cp, .int .i64 now] #[.string kd, .int .i64 ra, .slice rq fs.length rc] E1 E8 #[.slice qw RS.length cw, .slice pw LV.length dw, .int .i64 NW, .int .i64 CC] #[.slice qg RS.length cg, .slice pg LV.length dg, .int .i64 NW, .int .i64 CC] xsw LV (.slice qw RS.length cw) (.slice pw LV.length dw) w12) := HLK3.out.below hc.out
  have K12 : Hid (Bxs w12 E7 33 #[.slice (some ⟨g6, 0, none⟩) rs.length rs.length, .slice (some ⟨l6, 0, none⟩) lv.length lv.length, .int .i64 now]) := K11.out.below hc.out
  have L12 : Hid (LgB w12 g6 xs6 l6 lv) := L11.out.below hc.out
  have R12 : Hid (Bxs w12 ER 40 #[.string kd, .int .i64 ra, .slice (some ⟨gr, 0, none⟩) fs.length fs.length]) := R11.out.below hc.out
  have F12 : Hid (BlkF w12 gr fs) := F11.out.below hc.out
  have O12 : Hid (LgO w8.heap.size xsg LV (.slice qg RS.length cg) (.slice pg LV.length dg) w12) := O11.out.below hc.out
  clear hc HX BR HLK3 K11 L11 R11 F11 O11
  obtain ⟨x0, x1, x2⟩ := K12.out.three
  have hM := HML.out w12 g6 l6 xs6 HX6.out L12.out
  go_upto_region 19 with fail
  go_wp2_with fail
  refine hM.mono ?_
  rintro e w13 ⟨⟨m, rfl, m1, m2⟩, kb⟩
  have HMm : Hid (1 ≤ m ∧ m + 5 * fs.length ≤ 16777210) := ⟨m1, m2⟩
  have HLK5 : Hid (LaK w #[.slice q rs.length cq, .slice p lv.length cp, .int .i64 now] #[.string kd, .int .i64 ra, .slice rq fs.length rc] E1 E8 #[.slice qw RS.length cw, .slice pw LV.length dw, .int .i64 NW, .int .i64 CC] #[.slice qg RS.length cg, .slice pg LV.length dg, .int .i64 NW, .int .i64 CC] xsw LV (.slice qw RS.length cw) (.slice pw LV.length dw) w13) := HLK4.out.but kb (fun k hk => by
    have h1 := HS6.out k hk
    have h2 := HE1.out
    have h3 := HZ9.out
    refine ⟨by omega, by omega, by omega, fun h => ?_⟩
    have := HSW.out k h
    omega)
  have O13 : Hid (LgO w8.heap.size xsg LV (.slice qg RS.length cg) (.slice pg LV.length dg) w13) := O12.out.but kb (fun k hk hs => by
    have h1 := HS6.out k hs
    have h2 := HSG.out k hk
    have h3 := HZ9.out
    omega)
  have R13 : Hid (Bxs w13 ER 40 #[.string kd, .int .i64 ra, .slice (some ⟨gr, 0, none⟩) fs.length fs.length]) := R12.out.but kb (fun e => by have := HS6.out _ e; have := HZ9.out; omega)
  have F13 : Hid (BlkF w13 gr fs) := Bxs.but F12.out kb (fun e => by have := HS6.out _ e; have := HZ9.out; omega)
  clear hM kb x0 x1 x2 K12 L12 R12 F12 HLK4 O12 m1 m2
  obtain ⟨x0, x1, x2⟩ := R13.out.three
  have hMr := HMR.out w13 gr m F13.out (by have := HZ9.out; have := HE1.out; omega) HMm.out.1 HMm.out.2
  go_upto_region 20 with fail
  go_wp2_with fail
  refine hMr.mono ?_
  rintro e w14 ⟨rfl, hgb⟩
  have kb : But (fun k => k = gr) w13 w14 := (But.refl _ _).grown hgb rfl
  have HLK6 : Hid (LaK w #[.slice q rs.length cq, .slice p lv.length cp, .int .i64 now] #[.string kd, .int .i64 ra, .slice rq fs.length rc] E1 E8 #[.slice qw RS.length cw, .slice pw LV.length dw, .int .i64 NW, .int .i64 CC] #[.slice qg RS.length cg, .slice pg LV.length dg, .int .i64 NW, .int .i64 CC] xsw LV (.slice qw RS.length cw) (.slice pw LV.length dw) w14) := HLK5.out.but kb (fun k hk => by
    have h2 := HE1.out
    have h3 := HZ9.out
    refine ⟨by omega, by omega, by omega, fun h => ?_⟩
    have := HSW.out k h
    omega)
  have O14 : Hid (LgO w8.heap.size xsg LV (.slice qg RS.length cg) (.slice pg LV.length dg) w14) := O13.out.but kb (fun k hk hs => by
    have h2 := HSG.out k hk
    have h3 := HZ9.out
    omega)
  have dm : decide (5 * (fs.length : Int) + (m : Int) < 0) = false := decide_eq_false (by omega)
  clear hMr hgb kb x0 x1 x2 R13 F13 HLK5 O13
  obtain ⟨a0, a1, a2, a3⟩ := HLK6.out.b8.four
  obtain ⟨e0, e1, e2, e3⟩ := HLK6.out.b1.four
  have hQ := HEO.out w14 _ _ xsg xsw _ _ _ _ O14.out HLK6.out.lw HXG.out HXW.out
  go_wp2_with fail
  refine hQ.mono ?_
  rintro e w15 ⟨rfl, z⟩
  have HLK7 : Hid (LaK w #[.slice q rs.length cq, .slice p lv.length cp, .int .i64 now] #[.string kd, .int .i64 ra, .slice rq fs.length rc] E1 E8 #[.slice qw RS.length cw, .slice pw LV.length dw, .int .i64 NW, .int .i64 CC] #[.slice qg RS.length cg, .slice pg LV.length dg, .int .i64 NW, .int .i64 CC] xsw LV (.slice qw RS.length cw) (.slice pw LV.length dw) w15) := HLK6.out.below z
  have O15 : Hid (LgO w8.heap.size xsg LV (.slice qg RS.length cg) (.slice pg LV.length dg) w15) := O14.out.below z
  clear hQ a0 a1 a2 a3 e0 e1 e2 e3 z HLK6 O14 dm
  obtain ⟨a0, a1, a2, a3⟩ := HLK7.out.b8.four
  have hM := HMO.out w15 _ xsg _ _ HXG.out O15.out
  have dT : decide (((mkT xsg + LV.length : Nat) : Int) < 0) = false := decide_eq_false (by omega)
  have dN : ((((mkT xsg + LV.length : Nat) : Int)) != ((mkT xsg + LV.length : Nat) : Int)) = false := by simp
  obtain ⟨T, hTT⟩ : ∃ T : Nat, T = mkT xsg + LV.length := ⟨_, rfl⟩
  have HTT : Hid (T = mkT xsg + LV.length) := hTT
  rw [← hTT] at hM dT dN
  clear hTT
  go_wp2_with fail
  refine hM.mono ?_
  rintro e w16 ⟨rfl, hm, kb⟩
  have HM16 : Hid (LgM w8.heap.size xsg LV.length (.slice qg RS.length cg) (.slice pg LV.length dg) w16) := hm
  have HLK8 : Hid (LaK w #[.slice q rs.length cq, .slice p lv.length cp, .int .i64 now] #[.string kd, .int .i64 ra, .slice rq fs.length rc] E1 E8 #[.slice qw RS.length cw, .slice pw LV.length dw, .int .i64 NW, .int .i64 CC] #[.slice qg RS.length cg, .slice pg LV.length dg, .int .i64 NW, .int .i64 CC] xsw LV (.slice qw RS.length cw) (.slice pw LV.length dw) w16) := HLK7.out.but kb (fun k hk => by
    have h1 := HSG.out k hk
    have h2 := HE1.out
    have h3 := HZ9.out
    refine ⟨by omega, by omega, by omega, fun h => ?_⟩
    have := HSW.out k h
    omega)
  clear hM hm kb a0 a1 a2 a3 HLK7 O15
  obtain ⟨a0, a1, a2, a3⟩ := HLK8.out.b8.four
  have hH := HHO.out w16 _ xsg _ _ HXG.out HM16.out
  rw [← HTT.out] at hH
  go_wp2_with fail
  refine hH.mono ?_
  rintro e w17 ⟨rfl, z⟩
  have HLK9 : Hid (LaK w #[.slice q rs.length cq, .slice p lv.length cp, .int .i64 now] #[.string kd, .int .i64 ra, .slice rq fs.length rc] E1 E8 #[.slice qw RS.length cw, .slice pw LV.length dw, .int .i64 NW, .int .i64 CC] #[.slice qg RS.length cg, .slice pg LV.length dg, .int .i64 NW, .int .i64 CC] xsw LV (.slice qw RS.length cw) (.slice pw LV.length dw) w17) := HLK8.out.below z
  have HM17 : Hid (LgM w8.heap.size xsg LV.length (.slice qg RS.length cg) (.slice pg LV.length dg) w17) := HM16.out.below z
  clear hH a0 a1 a2 a3 z HLK8 HM16
  have KA : Hid (Bxs w17 w.heap.size 25 #[.slice q rs.length cq, .slice p lv.length cp, .int .i64 now]) := HLK9.out.ba
  have KR : Hid (Bxs w17 (w.heap.size + 1) 28 #[.string kd, .int .i64 ra, .slice rq fs.length rc]) := HLK9.out.br
  have QT : Hid (∀ x, Below w17.heap.size w17 x → Calls Tryz.prog 8 #[.agg #[.slice q rs.length cq, .slice p lv.length cp, .int .i64 now]] x fun e w' => ∃ g gl xs, xs.map (·.1) = rs ∧ x.heap.size ≤ g ∧ e = .returned (.agg #[.slice (some ⟨g, 0, none⟩) rs.length rs.length, .slice (some ⟨gl, 0, none⟩) lv.length lv.length, .int .i64 now]) ∧ LgB w' g xs gl lv ∧ Below x.heap.size x w') := fun x hb => HTo.out x (chainB HLK9.out.bel hb)
  have QR : Hid (∀ x, Below w17.heap.size w17 x → Calls Tryz.prog 9 #[.agg #[.string kd, .int .i64 ra, .slice rq fs.length rc]] x fun e w' => ∃ g, x.heap.size ≤ g ∧ e = .returned (.agg #[.string kd, .int .i64 ra, .slice (some ⟨g, 0, none⟩) fs.length fs.length]) ∧ BlkF w' g fs ∧ Below x.heap.size x w') := fun x hb => HTr.out x (chainB HLK9.out.bel hb)
  have QP : Hid (∀ g gl xs x gr, xs.map (·.1) = rs → LgB x g xs gl lv → BlkF x gr fs → Below w17.heap.size w17 x → Calls Tryz.prog 10 #[.agg #[.slice (some ⟨g, 0, none⟩) rs.length rs.length, .slice (some ⟨gl, 0, none⟩) lv.length lv.length, .int .i64 now], .agg #[.string kd, .int .i64 ra, .slice (some ⟨gr, 0, none⟩) fs.length fs.length]] x fun e w' => LgA x.heap.size RS LV NW CC e w' ∧ Below x.heap.size x w') := fun g gl xs x gr hx hB hF hb => HI.out g gl xs x gr hx hB hF (chainB HLK9.out.bel hb)
  have HX : Hid (∀ x, Below w17.heap.size w17 x → (x.cell? ⟨w.heap.size, 0, none⟩ = some (.slice q rs.length cq) ∧ x.cell? ⟨w.heap.size, 1, none⟩ = some (.slice p lv.length cp) ∧ x.cell? ⟨w.heap.size, 2, none⟩ = some (.int .i64 now)) ∧ x.cell? ⟨w.heap.size + 1, 0, none⟩ = some (.string kd) ∧ x.cell? ⟨w.heap.size + 1, 1, none⟩ = some (.int .i64 ra) ∧ x.cell? ⟨w.heap.size + 1, 2, none⟩ = some (.slice rq fs.length rc)) := fun x hb => ⟨(KA.out.below hb).three, (KR.out.below hb).three⟩
  have BR : Below w17.heap.size w17 w17.drew := (Below.refl _ _).drew
  clear HI HML HMR HMO HEq HEr
  go_upto_region 31 with fail
  go_cut [13] from 75 to 79 (fun s6 wx => ∃ Eb q9 c9 p9 d9 xs9, s6 = .pointer (some ⟨Eb, 0, none⟩) ∧ Hid (xs9.map (·.1) = RS ∧ PuL w17 xs9 LV (.slice q9 RS.length c9) (.slice p9 LV.length d9) NW CC Eb wx))
  case first =>
    refine region_till (fun w' => (w'.cell? ⟨w.heap.size, 0, none⟩ = some (.slice q rs.length cq) ∧ w'.cell? ⟨w.heap.size, 1, none⟩ = some (.slice p lv.length cp) ∧ w'.cell? ⟨w.heap.size, 2, none⟩ = some (.int .i64 now)) ∧ w'.cell? ⟨w.heap.size + 1, 0, none⟩ = some (.string kd) ∧ w'.cell? ⟨w.heap.size + 1, 1, none⟩ = some (.int .i64 ra) ∧ w'.cell? ⟨w.heap.size + 1, 2, none⟩ = some (.slice rq fs.length rc)) 6 (by kernel_rfl) (HX.out _ BR) (fun hHeld => ?_)
    generalize w17.drew = x0 at *
    refine till_take 0 (v := ?_) rfl (by kernel_rfl) (by kernel_rfl) (by kernel_rfl) (by kernel_rfl) (fun _ _ _ h => h) hHeld (Or.inl ⟨by rfl, ?_⟩) ?_
    rotate_left
    · (intro w hSw; (try dsimp only at hSw); go_simp; try with_reducible rfl)
    simp only [Act.put, List.setIfInBounds_toArray, List.set_cons_zero, List.set_cons_succ]
    refine till_take 2 (v := ?_) rfl (by kernel_rfl) (by kernel_rfl) (by kernel_rfl) (by kernel_rfl) (fun _ _ _ h => h) hHeld (Or.inl ⟨by rfl, ?_⟩) ?_
    rotate_left
    · (intro w hSw; (try dsimp only at hSw); go_simp; try with_reducible rfl)
    simp only [Act.put, List.setIfInBounds_toArray, List.set_cons_zero, List.set_cons_succ]
    refine till_ready2 1 5 rfl rfl (by kernel_rfl) (fun K hK => ?_) (fun K hK => ?_)
    · go_simp
      (go_at_call 8; refine (QT.out _ BR).mono ?_; rintro e y_1 ⟨g8, l8, xs8, hx8, -, rfl, j1, z_1⟩)
      have HX8 : Hid (xs8.map (·.1) = rs) := hx8
      clear hx8
      have b_1 := chainB BR z_1
      refine hK.out _ _ (HX.out _ b_1) (fun hHeld => ?_)
      clear hK K
      try simp only [Act.put, List.setIfInBounds_toArray, List.set_cons_zero, List.set_cons_succ]
      refine till_ready2 3 5 rfl rfl (by kernel_rfl) (fun K hK => ?_) (fun K hK => ?_)
      · go_simp
        (go_at_call 9; refine (QR.out _ b_1).mono ?_; rintro e y_2 ⟨g9, -, rfl, j2, z_2⟩)
        have b_2 := chainB b_1 z_2
        have j1 := j1.below z_2
        refine hK.out _ _ (HX.out _ b_2) (fun hHeld => ?_)
        clear hK K
        try simp only [Act.put, List.setIfInBounds_toArray, List.set_cons_zero, List.set_cons_succ]
        refine till_ready2 4 5 rfl rfl (by kernel_rfl) (fun K hK => ?_) (fun K hK => ?_)
        · go_simp
          (go_at_call 10; refine (QP.out g8 l8 xs8 _ g9 HX8.out j1 j2 b_2).mono ?_; rintro e y_3 ⟨⟨v1, v2, xs9, rfl, hx9, oW⟩, z_3⟩)
          obtain ⟨q9, c9, p9, d9, rfl, rfl, _⟩ := oW.at hx9
          have oL := oW.lower b_2.size
          clear oW
          have b_3 := chainB b_2 z_3
          have j1 := j1.below z_3
          have j2 := j2.below z_3
          refine hK.out _ _ (HX.out _ b_3) (fun hHeld => ?_)
          clear hK K
          try simp only [Act.put, List.setIfInBounds_toArray, List.set_cons_zero, List.set_cons_succ]
          refine till_ready 5 rfl (by kernel_rfl) (fun K hK => ?_)
          go_simp
          have kE : Bxs (y_3.alloc (.cells #[.slice none 0 0, .slice none 0 0, .int .i64 0, .int .i64 0] 35)) y_3.heap.size 35 #[.slice none 0 0, .slice none 0 0, .int .i64 0, .int .i64 0] := Bxs.new _ _ _
          have b_4 : Below w17.heap.size w17 (y_3.alloc (.cells #[.slice none 0 0, .slice none 0 0, .int .i64 0, .int .i64 0] 35)) := alB b_3 _
          have hEb : w17.heap.size ≤ y_3.heap.size := b_3.size
          replace j1 := j1.below (alB (Below.refl _ _) (.cells #[.slice none 0 0, .slice none 0 0, .int .i64 0, .int .i64 0] 35))
          replace j2 := j2.below (alB (Below.refl _ _) (.cells #[.slice none 0 0, .slice none 0 0, .int .i64 0, .int .i64 0] 35))
          replace oL := oL.below (alB (Below.refl _ _) (.cells #[.slice none 0 0, .slice none 0 0, .int .i64 0, .int .i64 0] 35))
          refine hK.out _ _ (HX.out _ b_4) (fun hHeld => ?_)
          clear hK K
          try simp only [Act.put, List.setIfInBounds_toArray, List.set_cons_zero, List.set_cons_succ]
          generalize y_3.alloc (.cells #[.slice none 0 0, .slice none 0 0, .int .i64 0, .int .i64 0] 35) = u at *
          generalize y_3.heap.size = Eb at *
          have HP : Hid (xs9.map (·.1) = RS ∧ PuL w17 xs9 LV (.slice q9 RS.length c9) (.slice p9 LV.length d9) NW CC Eb ((((u.setCell ⟨Eb, 0, none⟩ (.slice q9 RS.length c9)).setCell ⟨Eb, 1, none⟩ (.slice p9 LV.length d9)).setCell ⟨Eb, 2, none⟩ (.int .i64 NW)).setCell ⟨Eb, 3, none⟩ (.int .i64 CC))) := ⟨hx9, PuL.put kE hEb oL b_4⟩
          have qc0 : u.cell? ⟨Eb, 0, none⟩ = some (.slice none 0 0) := kE.cell 0
          have qc1 : u.cell? ⟨Eb, 1, none⟩ = some (.slice none 0 0) := kE.cell 1
          have qc2 : u.cell? ⟨Eb, 2, none⟩ = some (.int .i64 0) := kE.cell 2
          have qc3 : u.cell? ⟨Eb, 3, none⟩ = some (.int .i64 0) := kE.cell 3
          have qf0 := kE.fr 0
          have qf1 := kE.fr 1
          have qf2 := kE.fr 2
          have qf3 := kE.fr 3
          clear hx9
          refine till_last rfl (by kernel_rfl) (by kernel_rfl) (fun K hK => ?_)
          go_simp
          refine hK.out _ _ ?_
          clear hK K hHeld qc0 qf0 qc1 qf1 qc2 qf2 qc3 qf3
          go_wp2_with fail
          go_meet
          exact ⟨_, _, _, _, _, _, rfl, HP⟩
        · go_simp
          have kE : Bxs (y_2.alloc (.cells #[.slice none 0 0, .slice none 0 0, .int .i64 0, .int .i64 0] 35)) y_2.heap.size 35 #[.slice none 0 0, .slice none 0 0, .int .i64 0, .int .i64 0] := Bxs.new _ _ _
          have b_5 : Below w17.heap.size w17 (y_2.alloc (.cells #[.slice none 0 0, .slice none 0 0, .int .i64 0, .int .i64 0] 35)) := alB b_2 _
          have hEb : w17.heap.size ≤ y_2.heap.size := b_2.size
          replace j1 := j1.below (alB (Below.refl _ _) (.cells #[.slice none 0 0, .slice none 0 0, .int .i64 0, .int .i64 0] 35))
          replace j2 := j2.below (alB (Below.refl _ _) (.cells #[.slice none 0 0, .slice none 0 0, .int .i64 0, .int .i64 0] 35))
          refine hK.out _ _ (HX.out _ b_5) (fun hHeld => ?_)
          clear hK K
          try simp only [Act.put, List.setIfInBounds_toArray, List.set_cons_zero, List.set_cons_succ]
          generalize y_2.alloc (.cells #[.slice none 0 0, .slice none 0 0, .int .i64 0, .int .i64 0] 35) = u at *
          generalize y_2.heap.size = Eb at *
          refine till_ready 4 rfl (by kernel_rfl) (fun K hK => ?_)
          go_simp
          (go_at_call 10; refine (QP.out g8 l8 xs8 _ g9 HX8.out j1 j2 b_5).mono ?_; rintro e y_6 ⟨⟨v1, v2, xs9, rfl, hx9, oW⟩, z_6⟩)
          obtain ⟨q9, c9, p9, d9, rfl, rfl, _⟩ := oW.at hx9
          have oL := oW.lower b_5.size
          clear oW
          have b_6 := chainB b_5 z_6
          have j1 := j1.below z_6
          have j2 := j2.below z_6
          have kE := kE.below z_6
          refine hK.out _ _ (HX.out _ b_6) (fun hHeld => ?_)
          clear hK K
          try simp only [Act.put, List.setIfInBounds_toArray, List.set_cons_zero, List.set_cons_succ]
          have HP : Hid (xs9.map (·.1) = RS ∧ PuL w17 xs9 LV (.slice q9 RS.length c9) (.slice p9 LV.length d9) NW CC Eb ((((y_6.setCell ⟨Eb, 0, none⟩ (.slice q9 RS.length c9)).setCell ⟨Eb, 1, none⟩ (.slice p9 LV.length d9)).setCell ⟨Eb, 2, none⟩ (.int .i64 NW)).setCell ⟨Eb, 3, none⟩ (.int .i64 CC))) := ⟨hx9, PuL.put kE hEb oL b_6⟩
          have qc0 : y_6.cell? ⟨Eb, 0, none⟩ = some (.slice none 0 0) := kE.cell 0
          have qc1 : y_6.cell? ⟨Eb, 1, none⟩ = some (.slice none 0 0) := kE.cell 1
          have qc2 : y_6.cell? ⟨Eb, 2, none⟩ = some (.int .i64 0) := kE.cell 2
          have qc3 : y_6.cell? ⟨Eb, 3, none⟩ = some (.int .i64 0) := kE.cell 3
          have qf0 := kE.fr 0
          have qf1 := kE.fr 1
          have qf2 := kE.fr 2
          have qf3 := kE.fr 3
          clear hx9
          refine till_last rfl (by kernel_rfl) (by kernel_rfl) (fun K hK => ?_)
          go_simp
          refine hK.out _ _ ?_
          clear hK K hHeld qc0 qf0 qc1 qf1 qc2 qf2 qc3 qf3
          go_wp2_with fail
          go_meet
          exact ⟨_, _, _, _, _, _, rfl, HP⟩
      · go_simp
        have kE : Bxs (y_1.alloc (.cells #[.slice none 0 0, .slice none 0 0, .int .i64 0, .int .i64 0] 35)) y_1.heap.size 35 #[.slice none 0 0, .slice none 0 0, .int .i64 0, .int .i64 0] := Bxs.new _ _ _
        have b_7 : Below w17.heap.size w17 (y_1.alloc (.cells #[.slice none 0 0, .slice none 0 0, .int .i64 0, .int .i64 0] 35)) := alB b_1 _
        have hEb : w17.heap.size ≤ y_1.heap.size := b_1.size
        replace j1 := j1.below (alB (Below.refl _ _) (.cells #[.slice none 0 0, .slice none 0 0, .int .i64 0, .int .i64 0] 35))
        refine hK.out _ _ (HX.out _ b_7) (fun hHeld => ?_)
        clear hK K
        try simp only [Act.put, List.setIfInBounds_toArray, List.set_cons_zero, List.set_cons_succ]
        generalize y_1.alloc (.cells #[.slice none 0 0, .slice none 0 0, .int .i64 0, .int .i64 0] 35) = u at *
        generalize y_1.heap.size = Eb at *
        refine till_ready 3 rfl (by kernel_rfl) (fun K hK => ?_)
        go_simp
        (go_at_call 9; refine (QR.out _ b_7).mono ?_; rintro e y_8 ⟨g9, -, rfl, j2, z_8⟩)
        have b_8 := chainB b_7 z_8
        have j1 := j1.below z_8
        have kE := kE.below z_8
        refine hK.out _ _ (HX.out _ b_8) (fun hHeld => ?_)
        clear hK K
        try simp only [Act.put, List.setIfInBounds_toArray, List.set_cons_zero, List.set_cons_succ]
        refine till_ready 4 rfl (by kernel_rfl) (fun K hK => ?_)
        go_simp
        (go_at_call 10; refine (QP.out g8 l8 xs8 _ g9 HX8.out j1 j2 b_8).mono ?_; rintro e y_9 ⟨⟨v1, v2, xs9, rfl, hx9, oW⟩, z_9⟩)
        obtain ⟨q9, c9, p9, d9, rfl, rfl, _⟩ := oW.at hx9
        have oL := oW.lower b_8.size
        clear oW
        have b_9 := chainB b_8 z_9
        have j1 := j1.below z_9
        have j2 := j2.below z_9
        have kE := kE.below z_9
        refine hK.out _ _ (HX.out _ b_9) (fun hHeld => ?_)
        clear hK K
        try simp only [Act.put, List.setIfInBounds_toArray, List.set_cons_zero, List.set_cons_succ]
        have HP : Hid (xs9.map (·.1) = RS ∧ PuL w17 xs9 LV (.slice q9 RS.length c9) (.slice p9 LV.length d9) NW CC Eb ((((y_9.setCell ⟨Eb, 0, none⟩ (.slice q9 RS.length c9)).setCell ⟨Eb, 1, none⟩ (.slice p9 LV.length d9)).setCell ⟨Eb, 2, none⟩ (.int .i64 NW)).setCell ⟨Eb, 3, none⟩ (.int .i64 CC))) := ⟨hx9, PuL.put kE hEb oL b_9⟩
        have qc0 : y_9.cell? ⟨Eb, 0, none⟩ = some (.slice none 0 0) := kE.cell 0
        have qc1 : y_9.cell? ⟨Eb, 1, none⟩ = some (.slice none 0 0) := kE.cell 1
        have qc2 : y_9.cell? ⟨Eb, 2, none⟩ = some (.int .i64 0) := kE.cell 2
        have qc3 : y_9.cell? ⟨Eb, 3, none⟩ = some (.int .i64 0) := kE.cell 3
        have qf0 := kE.fr 0
        have qf1 := kE.fr 1
        have qf2 := kE.fr 2
        have qf3 := kE.fr 3
        clear hx9
        refine till_last rfl (by kernel_rfl) (by kernel_rfl) (fun K hK => ?_)
        go_simp
        refine hK.out _ _ ?_
        clear hK K hHeld qc0 qf0 qc1 qf1 qc2 qf2 qc3 qf3
        go_wp2_with fail
        go_meet
        exact ⟨_, _, _, _, _, _, rfl, HP⟩
    · go_simp
      have kE : Bxs (x0.alloc (.cells #[.slice none 0 0, .slice none 0 0, .int .i64 0, .int .i64 0] 35)) x0.heap.size 35 #[.slice none 0 0, .slice none 0 0, .int .i64 0, .int .i64 0] := Bxs.new _ _ _
      have b_10 : Below w17.heap.size w17 (x0.alloc (.cells #[.slice none 0 0, .slice none 0 0, .int .i64 0, .int .i64 0] 35)) := alB BR _
      have hEb : w17.heap.size ≤ x0.heap.size := BR.size
      refine hK.out _ _ (HX.out _ b_10) (fun hHeld => ?_)
      clear hK K
      try simp only [Act.put, List.setIfInBounds_toArray, List.set_cons_zero, List.set_cons_succ]
      generalize x0.alloc (.cells #[.slice none 0 0, .slice none 0 0, .int .i64 0, .int .i64 0] 35) = u at *
      generalize x0.heap.size = Eb at *
      refine till_ready 1 rfl (by kernel_rfl) (fun K hK => ?_)
      go_simp
      (go_at_call 8; refine (QT.out _ b_10).mono ?_; rintro e y_11 ⟨g8, l8, xs8, hx8, -, rfl, j1, z_11⟩)
      have HX8 : Hid (xs8.map (·.1) = rs) := hx8
      clear hx8
      have b_11 := chainB b_10 z_11
      have kE := kE.below z_11
      refine hK.out _ _ (HX.out _ b_11) (fun hHeld => ?_)
      clear hK K
      try simp only [Act.put, List.setIfInBounds_toArray, List.set_cons_zero, List.set_cons_succ]
      refine till_ready 3 rfl (by kernel_rfl) (fun K hK => ?_)
      go_simp
      (go_at_call 9; refine (QR.out _ b_11).mono ?_; rintro e y_12 ⟨g9, -, rfl, j2, z_12⟩)
      have b_12 := chainB b_11 z_12
      have j1 := j1.below z_12
      have kE := kE.below z_12
      refine hK.out _ _ (HX.out _ b_12) (fun hHeld => ?_)
      clear hK K
      try simp only [Act.put, List.setIfInBounds_toArray, List.set_cons_zero, List.set_cons_succ]
      refine till_ready 4 rfl (by kernel_rfl) (fun K hK => ?_)
      go_simp
      (go_at_call 10; refine (QP.out g8 l8 xs8 _ g9 HX8.out j1 j2 b_12).mono ?_; rintro e y_13 ⟨⟨v1, v2, xs9, rfl, hx9, oW⟩, z_13⟩)
      obtain ⟨q9, c9, p9, d9, rfl, rfl, _⟩ := oW.at hx9
      have oL := oW.lower b_12.size
      clear oW
      have b_13 := chainB b_12 z_13
      have j1 := j1.below z_13
      have j2 := j2.below z_13
      have kE := kE.below z_13
      refine hK.out _ _ (HX.out _ b_13) (fun hHeld => ?_)
      clear hK K
      try simp only [Act.put, List.setIfInBounds_toArray, List.set_cons_zero, List.set_cons_succ]
      have HP : Hid (xs9.map (·.1) = RS ∧ PuL w17 xs9 LV (.slice q9 RS.length c9) (.slice p9 LV.length d9) NW CC Eb ((((y_13.setCell ⟨Eb, 0, none⟩ (.slice q9 RS.length c9)).setCell ⟨Eb, 1, none⟩ (.slice p9 LV.length d9)).setCell ⟨Eb, 2, none⟩ (.int .i64 NW)).setCell ⟨Eb, 3, none⟩ (.int .i64 CC))) := ⟨hx9, PuL.put kE hEb oL b_13⟩
      have qc0 : y_13.cell? ⟨Eb, 0, none⟩ = some (.slice none 0 0) := kE.cell 0
      have qc1 : y_13.cell? ⟨Eb, 1, none⟩ = some (.slice none 0 0) := kE.cell 1
      have qc2 : y_13.cell? ⟨Eb, 2, none⟩ = some (.int .i64 0) := kE.cell 2
      have qc3 : y_13.cell? ⟨Eb, 3, none⟩ = some (.int .i64 0) := kE.cell 3
      have qf0 := kE.fr 0
      have qf1 := kE.fr 1
      have qf2 := kE.fr 2
      have qf3 := kE.fr 3
      clear hx9
      refine till_last rfl (by kernel_rfl) (by kernel_rfl) (fun K hK => ?_)
      go_simp
      refine hK.out _ _ ?_
      clear hK K hHeld qc0 qf0 qc1 qf1 qc2 qf2 qc3 qf3
      go_wp2_with fail
      go_meet
      exact ⟨_, _, _, _, _, _, rfl, HP⟩
  case rest =>
  obtain ⟨E12, qk, ck, pk, dk, xsk, rfl, hPK⟩ := hcut
  rename World => w18
  clear QP QT QR HX BR KA KR
  have HXK : Hid (xsk.map (·.1) = RS) := hPK.out.1
  have OK18 : Hid (LgO w17.heap.size xsk LV (.slice qk RS.length ck) (.slice pk LV.length dk) w18) := hPK.out.2.lg
  have Q18 : Hid (Bxs w18 E12 35 #[.slice qk RS.length ck, .slice pk LV.length dk, .int .i64 NW, .int .i64 CC]) := hPK.out.2.box
  have HLKa : Hid (LaK w #[.slice q rs.length cq, .slice p lv.length cp, .int .i64 now] #[.string kd, .int .i64 ra, .slice rq fs.length rc] E1 E8 #[.slice qw RS.length cw, .slice pw LV.length dw, .int .i64 NW, .int .i64 CC] #[.slice qg RS.length cg, .slice pg LV.length dg, .int .i64 NW, .int .i64 CC] xsw LV (.slice qw RS.length cw) (.slice pw LV.length dw) w18) := HLK9.out.below hPK.out.2.bel
  have HM18 : Hid (LgM w8.heap.size xsg LV.length (.slice qg RS.length cg) (.slice pg LV.length dg) w18) := HM17.out.below hPK.out.2.bel
  clear hPK HLK9 HM17
  obtain ⟨a0, a1, a2, a3⟩ := Q18.out.four
  obtain ⟨e0, e1, e2, e3⟩ := HLKa.out.b1.four
  have hQ := HEO.out w18 _ _ xsk xsw _ _ _ _ OK18.out HLKa.out.lw HXK.out HXW.out
  go_wp2_with fail
  refine hQ.mono ?_
  rintro e w19 ⟨rfl, z⟩
  have HLKb : Hid (LaK w #[.slice q rs.length cq, .slice p lv.length cp, .int .i64 now] #[.string kd, .int .i64 ra, .slice rq fs.length rc] E1 E8 #[.slice qw RS.length cw, .slice pw LV.length dw, .int .i64 NW, .int .i64 CC] #[.slice qg RS.length cg, .slice pg LV.length dg, .int .i64 NW, .int .i64 CC] xsw LV (.slice qw RS.length cw) (.slice pw LV.length dw) w19) := HLKa.out.below z
  have HM19 : Hid (LgM w8.heap.size xsg LV.length (.slice qg RS.length cg) (.slice pg LV.length dg) w19) := HM18.out.below z
  clear hQ a0 a1 a2 a3 e0 e1 e2 e3 z HLKa HM18 OK18 Q18
  obtain ⟨a0, a1, a2, a3⟩ := HLKb.out.b8.four
  have hH := HHO.out w19 _ xsg _ _ HXG.out HM19.out
  rw [← HTT.out] at hH
  go_wp2_with fail
  refine hH.mono ?_
  rintro e w20 ⟨rfl, z⟩
  clear hH a0 a1 a2 a3
  go_wp2_with fail
  go_ret
  exact ⟨rfl, chainB HLKb.out.bel z⟩

theorem contract (H : Type) (enc : TypeId × Value → H) (W : World) (base : Nat) (args : Array Value) (ds gs : List (DataW H)) (before : List MemPlace)
    (hval : ∀ (j : Nat) t v, Tryz.f3.params[j]? = some t → args[j]? = some v → Value.okWide Tryz.prog W .any base t v)
    (hW : DataW.Whole enc Tryz.prog Tryz.f3.params.toList Rows.fnExactLogAddSpec.vars false W args.toList ds gs before) (hL : laidMetH Tryz.prog Rows.fnExactLogAddRow.laid W) :
    Calls Tryz.prog 3 args W fun e W' => ∃ v, e = .returned v ∧ Rows.fnExactLogAddSpec.post enc Tryz.prog Tryz.f3 false true false false W args v W' := by
  have hW' := hW
  obtain ⟨p, q, hA0, hV, rfl, hfz, hnd⟩ := hW
  have hA : DataW.TrodAll enc Tryz.prog W 0 (fun _ => true) true Tryz.f3.params.toList args.toList ds p := hA0
  rw [Tryz.params3] at hA hval
  obtain ⟨v0, vs0, d0, ds0, p0, q0, hargs, rfl, rfl, h0, r0⟩ := trodAll_cons hA
  obtain ⟨v1, vs1, d1, ds1, p1, q1, rfl, rfl, rfl, h1, r1⟩ := trodAll_cons r0
  obtain ⟨rfl, rfl, rfl⟩ := trodAll_nil r1
  obtain rfl : args = #[v0, v1] := by cases args; simp_all
  have hV2 : DataW.TrodVars enc Tryz.prog W (fun _ => true) ["loop.example/g00633/impl.firstState", "loop.example/g00633/impl.roundNums"] gs q := hV
  obtain ⟨_, _, _, _, e0, _, _, _, _, _, e1, _, rfl, _⟩ := trodVars_two hV2
  have k0 := h0
  have lt0 : ∀ x ∈ p0, x.block < W.heap.size := by obtain ⟨m, hm⟩ := k0; exact DataW.trod_lt m _ _ _ hm
  obtain ⟨q0, cq0, rs0, pp0, cp0, lv0, now0, rfl, w0⟩ := open_log (hval 0 25 v0 rfl rfl) h0
  have k1 := h1
  have lt1 : ∀ x ∈ p1, x.block < W.heap.size := by obtain ⟨m, hm⟩ := k1; exact DataW.trod_lt m _ _ _ hm
  obtain ⟨kd1, at1, a1, len1, cap1, fs1, rfl, w1⟩ := open_row (hval 1 28 v1 rfl rfl) h1
  clear hA0
  obtain ⟨hT, hLd⟩ := laid3_of hL
  refine (walk q0 cq0 rs0 pp0 cp0 lv0 now0 kd1 at1 a1 len1 cap1 fs1 W w0 w1 hT hLd).mono fun e W' ⟨he, hg⟩ => ?_
  subst he
  exact ⟨_, rfl, _, _, _, [], _, _, hW', (trodAll_cons_mk (shut_bool Tryz.underlying4 _) trodAll_mk0), (trodAll_cons_mk (Below.trod laidOut (by kernel_rfl) (of_decide_eq_true (by kernel_rfl)) k0 hg lt0) (trodAll_cons_mk (Below.trod laidOut (by kernel_rfl) (of_decide_eq_true (by kernel_rfl)) k1 hg lt1) trodAll_mk0)), Below.trodVars laidOut hg (by kernel_rfl) hV, hg.frame _, fun h => by cases h⟩

/-- A start in which the listed variables lie as the program's text lays them: what the door's own run leaves. -/
noncomputable def wit (os : Os) : World := World.doorLaid Tryz.prog 26 os
theorem laid_met (os : Os) : laidMetH Tryz.prog Rows.fnExactLogAddRow.laid ((wit os).forCall (fun _ _ => 0) ⟨#[], #[.agg #[.slice none 0 0, .slice none 0 0, .int .i64 0], .agg #[.string ByteArray.empty, .int .i64 0, .slice none 0 0]], []⟩).memory :=
  laidMetH_of_parts3 (fuel := 8) (laidMet_of_run' 8 (by kernel_rfl) (by kernel_rfl)) (by kernel_rfl) (by kernel_rfl)
theorem reads (os : Os) {H : Type} (enc : TypeId × Value → H) : ∃ gs places, DataW.whole enc Tryz.prog ((wit os).forCall (fun _ _ => 0) ⟨#[], #[.agg #[.slice none 0 0, .slice none 0 0, .int .i64 0], .agg #[.string ByteArray.empty, .int .i64 0, .slice none 0 0]], []⟩).memory Tryz.f3.params.toList Rows.fnExactLogAddSpec.vars false #[Value.agg #[.slice none 0 0, .slice none 0 0, .int .i64 0], Value.agg #[.string ByteArray.empty, .int .i64 0, .slice none 0 0]].toList 8 = some ([.agg [.nil, .nil, .lit (.int .i64 0)], .agg [.lit (.string []), .lit (.int .i64 0), .nil]], gs, places) := by
  have h : (DataW.whole enc Tryz.prog ((wit os).forCall (fun _ _ => 0) ⟨#[], #[.agg #[.slice none 0 0, .slice none 0 0, .int .i64 0], .agg #[.string ByteArray.empty, .int .i64 0, .slice none 0 0]], []⟩).memory Tryz.f3.params.toList Rows.fnExactLogAddSpec.vars false #[Value.agg #[.slice none 0 0, .slice none 0 0, .int .i64 0], Value.agg #[.string ByteArray.empty, .int .i64 0, .slice none 0 0]].toList 8).map (fun x => x.1) = some [.agg [.nil, .nil, .lit (.int .i64 0)], .agg [.lit (.string []), .lit (.int .i64 0), .nil]] := by kernel_rfl
  obtain ⟨⟨a, b, c⟩, hx, hy⟩ := Option.map_eq_some_iff.1 h
  cases hy
  exact ⟨b, c, hx⟩

set_option maxRecDepth 100000 in
theorem lifted (os : Os) (started : os.Started) (H : Type) (enc : TypeId × Value → H) (F : Stop.Interp) :
    ReturnsInHanded {} Tryz.checked os 3 .any ((OpenSpec.ofChange Rows.fnExactLogAddSpec).preRow enc Tryz.prog Tryz.f3 Rows.fnExactLogAddRow.domain false Rows.fnExactLogAddRow.laid) (((OpenSpec.ofChange Rows.fnExactLogAddSpec).at F).post enc Tryz.prog Tryz.f3 false true false false) := by
  obtain ⟨gs, places, hx⟩ := reads os enc
  refine returnsInHanded_of_row (C := Tryz.checked) (s := OpenSpec.ofChange Rows.fnExactLogAddSpec) own started (by kernel_rfl) Tryz.func3
    (witness_row_at (enc := enc) (C := Tryz.checked) false (wit os) #[.agg #[.slice none 0 0, .slice none 0 0, .int .i64 0], .agg #[.string ByteArray.empty, .int .i64 0, .slice none 0 0]] rfl (by kernel_rfl) (by kernel_rfl) (by kernel_rfl)
      (OpenSpec.preRow_of_cond 8 hx rfl (fun k hk => by cases hk) (by kernel_rfl) (laid_met os))) ?_
  intro W base args ds gs before hval hW _ _ _ hL _ _
  exact contract H enc W base args ds gs before hval hW hL

theorem said : Rows.FnExactLogAddSaid :=
  OpenClaim.holds_of_cond 3 Tryz.f3 rfl rfl rfl rfl rfl rfl rfl ⟨rfl, rfl, rfl, rfl, rfl⟩ rfl rfl rfl rfl rfl (by kernel_rfl) Tryz.func3 (by kernel_rfl)
    (of_decide_eq_true (by kernel_rfl)) (by unfold Func.isWrapper; first | (rw [if_pos (by decide +kernel)]; kernel_rfl) | (rw [if_neg (by decide +kernel)]; exact ⟨rfl, rfl⟩))
    (fun os started H enc _ F => by rw [OpenClaim.pre_eq_preRow]; exact lifted os started H enc F)

theorem plain (f : FuncId) (fn : Func) (hf : Tryz.pinned.checked.prog.funcNamed "loop.example/g00633/laws.FnExactLogAdd" = some f) (hfn : Tryz.pinned.checked.prog.funcs[f]? = some fn) :
    Rows.fnExactLogAddCard.stood.looks = Tryz.pinned.checked.prog.looks [] ∧ ∀ (j : Nat) t, fn.params[j]? = some t → Tryz.pinned.checked.prog.wantsStandIn t = false := by
  obtain rfl : f = 3 := Option.some.inj ((show Tryz.prog.funcNamed "loop.example/g00633/laws.FnExactLogAdd" = some 3 by kernel_rfl).symm.trans hf) |>.symm
  obtain rfl : fn = Tryz.f3 := (Option.some.inj (Tryz.func3.symm.trans hfn)).symm
  refine ⟨by kernel_rfl, fun j t ht => ?_⟩
  rw [Tryz.params3] at ht
  have hm := Array.mem_of_getElem? ht
  have hl : t ∈ ([25, 28] : List TypeId) := by simpa using hm
  simp only [List.mem_cons, List.not_mem_nil, or_false] at hl
  rcases hl with rfl | rfl
  · exact (show Tryz.prog.wantsStandIn 25 = false by kernel_rfl)
  · exact (show Tryz.prog.wantsStandIn 28 = false by kernel_rfl)

theorem proved : Rows.FnExactLogAddCardSaid :=
  Claim7.holds_tied_plain_at .later [] _ _ _ _ said (fun _ h => by cases h) (by kernel_rfl) (fun _ h => by cases h) fnExactLogAdd_row_tie rfl ⟨rfl, rfl⟩ (by kernel_rfl) rfl plain (by kernel_rfl)
#print axioms proved
end Go.Proofs.YthfecjjahoflcaaGreatDoor.fnExactLogAdd
