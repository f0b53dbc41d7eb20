/-
  For every log and policy, row and field the law FnExactAskForget returns true: the program's AskForget answers as the specification's, writes into no argument, keeps nothing of one, and its answer owns its memory; the card ties the listed variables, errors.errorType and the two tables firstState and roundNums, to the program's text.
  Conditions: none of mine; the form's own reach; the listed variables as the program's text lays them (the given tie). The card speaks of the pruned copy of the project that the seat names.
-/
import Derived.Test.YtokkeadbkeehgaaGreatDoorCards
import Derived.Test.YtokkeadbkeehgaaGreatDoorTie
import Derived.Test.YtokkeadbkeehgaaGreatDoorAfSaid
import Derived.Test.YtokkeadbkeehgaaGreatDoorBytesDigMathTreeMathSlASlBBxKOwnSTakesLTillTwo
import Derived.Test.YtokkeadbkeehgaaGreatDoorTimeBPutMathPutNumJoinedPutTextFldMathFldRiseScanMath
import Derived.Test.YtokkeadbkeehgaaGreatDoorGetValGetTxtNumMathFldRdNumFromTmbMathLgMath
import Derived.Test.YtokkeadbkeehgaaGreatDoorLgAtKShwKOneKFldGFldBlkRwBlkIntKLawILawOGLawImBlNotRulMathAppS
import Derived.Test.YtokkeadbkeehgaaGreatDoorRulBlkLawRlLawPoLawSLawM
import Derived.Test.YtokkeadbkeehgaaGreatDoorLawRmLawPoMTakesLawFLawFRLawSG
import Derived.Test.YtokkeadbkeehgaaGreatDoorLawLgLawLh
import Derived.Test.YtokkeadbkeehgaaGreatDoorLawLzLawMGLawFMLawLm
import Derived.Test.YtokkeadbkeehgaaGreatDoorLawLkRowOpsLgOLawLo
import Derived.Test.YtokkeadbkeehgaaGreatDoorLawLqLgAnsLgRtLtMathLawLtLawFXLawLa
import Derived.Test.YtokkeadbkeehgaaGreatDoorLawSwLfMathLaMathLfSumPolMathPolIdxRulIdxPolO
import Derived.Test.YtokkeadbkeehgaaGreatDoorPolAnsKeepMAfMathLawAfStepAppOwnBTurn2
import Derived.Test.YtokkeadbkeehgaaGreatDoorAfS
import Derived.Test.YtokkeadbkeehgaaGreatDoorAfI
import Derived.Test.YtokkeadbkeehgaaGreatDoorOpPOpFOpLgTabEt
import Derived.WalkKit
import Derived.ProofKit
import Derived.OpenShut
import Derived.OpenVars
import Derived.ShutString
import Derived.LaidHandle
import Derived.LaidLaws
import Derived.LaidMore
import Derived.Deep.DeepHandedRow
import Derived.ChangeOld
import Derived.Below
import Derived.Deep.RegionHeld3
import Derived.Deep.Cut
import Derived.Handy
import Derived.WalkSpells
namespace Go.Proofs.YtokkeadbkeehgaaGreatDoor.fnExactAskForget
open Go.ChangeShapes Go.WideShapes Go.ChangeAt Go.RowKit
open Go.ChangeMaps (open_string shut_string)
set_option linter.unusedVariables false
set_option maxRecDepth 100000

theorem own : ownKnob Tryz.prog.godebug = none := by kernel_rfl
theorem laidOut : laidOutB Tryz.prog = true := by kernel_rfl

theorem int_bd {k : Int} (h : (Lit.int .i64 k).wf = true) : -9223372036854775808 ≤ k ∧ k ≤ 9223372036854775807 := by simpa [Lit.wf, IntKind.min, IntKind.max, IntKind.signed, IntKind.bits] using h
set_option maxHeartbeats 16000000 in
theorem walk (q : Option Addr) (cq : Nat) (rs : List Rw) (p : Option Addr) (cp : Nat) (lv : List ByteArray) (now : Int) (p1 : Option Addr) (ulen c1 : Nat) (us : List Rul) (p2 : Option Addr) (hlen c2 : Nat) (hs : List Int) (r f : Int) (w : World) (w0 : IsLog w q cq rs p cp lv now) (w1 : IsRuls w p1 ulen c1 us ∧ IsIntsP w p2 hlen c2 hs) (w2 : (Lit.int .i64 r).wf = true) (w3 : (Lit.int .i64 f).wf = true) (hT : Tabs w) (hg : Laid w) :
    Calls Tryz.prog 4 #[.agg #[.slice q rs.length cq, .slice p lv.length cp, .int .i64 now], .agg #[.slice p1 ulen c1, .slice p2 hlen c2], .int .i64 r, .int .i64 f] w fun e w' => e = .returned (.bool true) ∧ Below w.heap.size w w' := by
  obtain ⟨⟨-, hRw, hcq, hmq, hzr⟩, ⟨-, hTx, hcp, hmp, hzl⟩, hnow⟩ := w0
  obtain ⟨⟨rfl, hUp, hcu, hmu, hsz⟩, ⟨rfl, hIp, hch, hmh⟩⟩ := w1
  have HT : Hid (Tabs w) := hT
  have HG : Hid (Laid w) := hg
  have HR : Hid (RwAt w q rs) := hRw
  have HL : Hid (TxtAt w p lv) := hTx
  have HU : Hid (RulAt w p1 us) := hUp
  have HH : Hid (IntAt w p2 hs) := hIp
  have HZU : Hid (RulsLe us) := hsz
  have HUB : Hid (RulsBig us) := fun x hx => by have := hsz x hx; unfold maxLen at this; exact this
  have HZR : Hid (∀ r ∈ rs, r.fs.length ≤ maxLen ∧ r.k.size ≤ maxLen ∧ FldsLe r.fs) := hzr
  have HZL : Hid (∀ x ∈ lv, x.size ≤ maxLen) := hzl
  have HBg : Hid (RwsBig rs) := fun r hr => by have h := hzr r hr; unfold maxLen at h; exact ⟨h.1, h.2.1, fun f hf => by have := h.2.2 f hf; unfold maxLen at this; exact this⟩
  have HLB : Hid (∀ x ∈ lv, x.size ≤ 9223372036854775807) := fun x hx => by have := hzl x hx; unfold maxLen at this; exact this
  unfold maxLen at hmq hmp hmu hmh
  clear hRw hTx hzr hzl hT hg hnow hUp hIp hsz w2 w3
  obtain ⟨W1, hW1⟩ : ∃ W1, W1 = (w.alloc (.cells #[.slice q rs.length cq, .slice p lv.length cp, .int .i64 now] 25)).alloc (.cells #[.slice p1 us.length c1, .slice p2 hs.length c2] 29) := ⟨_, rfl⟩
  have HW1 : Hid (W1 = (w.alloc (.cells #[.slice q rs.length cq, .slice p lv.length cp, .int .i64 now] 25)).alloc (.cells #[.slice p1 us.length c1, .slice p2 hs.length c2] 29)) := hW1
  have B1 : Hid (Below w.heap.size w W1) := by rw [hW1]; exact alB ((Below.refl _ _).alloc (Nat.le_refl _) _) _
  have K1 : Hid (Bxs W1 w.heap.size 25 #[.slice q rs.length cq, .slice p lv.length cp, .int .i64 now]) := by rw [hW1]; exact (Bxs.new _ _ _).alloc _
  have R1 : Hid (Bxs W1 (w.heap.size + 1) 29 #[.slice p1 us.length c1, .slice p2 hs.length c2]) := by
    rw [hW1]
    have h := Bxs.new (w.alloc (.cells #[.slice q rs.length cq, .slice p lv.length cp, .int .i64 now] 25)) 29 #[.slice p1 us.length c1, .slice p2 hs.length c2]
    rwa [szA] at h
  have hSz := szLogU_any q cq rs p cp lv now W1 (HR.out.below B1.out) (by omega) hcq HBg.out (HL.out.below B1.out) (by omega) hcp HLB.out
  obtain ⟨x0, x1, x2⟩ := K1.out.three
  clear hW1
  go_enter Tryz.func4, Tryz.ntmps4
  go_upto_region 1 with fail
  rw [← HW1.out]
  go_wp2_with fail
  refine hSz.mono ?_
  rintro e w1a ⟨⟨r0, rfl, hr⟩, b2⟩
  clear hSz x0 x1 x2
  rcases hr with rfl | ⟨hr0, hsum⟩
  · go_wp2_with fail
    go_ret
    exact ⟨rfl, chainB B1.out b2⟩
  have dr : decide (r0 < 0) = false := decide_eq_false (by omega)
  have HB1a : Hid (Below w.heap.size w w1a) := chainB B1.out b2
  have K1a : Hid (Bxs w1a w.heap.size 25 #[.slice q rs.length cq, .slice p lv.length cp, .int .i64 now]) := K1.out.below b2
  have R1a : Hid (Bxs w1a (w.heap.size + 1) 29 #[.slice p1 us.length c1, .slice p2 hs.length c2]) := R1.out.below b2
  have hSr := szPolicy_any r0 hr0 (by omega) p1 p2 c1 c2 us hs w1a (HU.out.below HB1a.out) (by omega) (by omega) hcu HUB.out
  obtain ⟨x0, x1⟩ := R1a.out.two
  clear b2 B1 K1 R1 HW1
  go_wp2_with fail
  refine hSr.mono ?_
  rintro e w2 ⟨⟨r2, rfl, hr2⟩, b2⟩
  clear hSr x0 x1 dr
  rcases hr2 with rfl | ⟨hr20, hr21, hun, hhn⟩
  · go_wp2_with fail
    go_ret
    exact ⟨rfl, chainB HB1a.out b2⟩
  have hrf : ∀ x ∈ rs, x.fs.length ≤ 1048576 := fun x hx => by have := fsN_mem hx; omega
  have hrn : rs.length ≤ 1048576 := by omega
  have hln : lv.length ≤ 1048576 := by omega
  have HSum : Hid (rs.length + fsN rs + lv.length ≤ 1048576 ∧ us.length ≤ 1048576 ∧ hs.length ≤ 1048576) := ⟨by omega, hun, hhn⟩
  have dr : decide (r2 < 0) = false := decide_eq_false (by omega)
  have HB2 : Hid (Below w.heap.size w w2) := chainB HB1a.out b2
  have KA : Hid (Bxs w2 w.heap.size 25 #[.slice q rs.length cq, .slice p lv.length cp, .int .i64 now]) := K1a.out.below b2
  have KR : Hid (Bxs w2 (w.heap.size + 1) 29 #[.slice p1 us.length c1, .slice p2 hs.length c2]) := R1a.out.below b2
  have HAt : Hid (∀ g gl xs x, xs.map (·.1) = rs → LgB x g xs gl lv → LgAt (some ⟨gl, 0, none⟩) lv lv.length (some ⟨g, 0, none⟩) rs rs.length x) := fun g gl xs x hx hB => ⟨hB.lf.txt, Nat.le_refl _, hln, HZL.out, by have := hB.rw.at; rwa [hx] at this, Nat.le_refl _, hrn, fun r hr => ⟨hrf r hr, (HZR.out r hr).2.1, (HZR.out r hr).2.2⟩⟩
  have HTo : Hid (∀ x, Below w.heap.size w x → Calls Tryz.prog 9 #[.agg #[.slice q rs.length cq, .slice p lv.length cp, .int .i64 now]] x fun e w' => ∃ g gl xs, xs.map (·.1) = rs ∧ x.heap.size ≤ g ∧ e = .returned (.agg #[.slice (some ⟨g, 0, none⟩) rs.length rs.length, .slice (some ⟨gl, 0, none⟩) lv.length lv.length, .int .i64 now]) ∧ LgB w' g xs gl lv ∧ Below x.heap.size x w') := fun x hb => toLog_any q cq rs p cp lv now x (HR.out.below hb) hrn hcq hrf (HL.out.below hb) hln hcp
  have HTr : Hid (∀ x, Below w.heap.size w x → Calls Tryz.prog 10 #[.agg #[.slice p1 us.length c1, .slice p2 hs.length c2]] x fun e w' => ∃ g h, x.heap.size ≤ g ∧ g < h ∧ e = .returned (.agg #[.slice (some ⟨g, 0, none⟩) us.length us.length, .slice (some ⟨h, 0, none⟩) hs.length hs.length]) ∧ BlkU w' g us ∧ BlkI w' h hs ∧ Below x.heap.size x w') := fun x hb => toPolicy_any p1 p2 c1 c2 us hs x (HU.out.below hb) (HH.out.below hb) hun hhn hcu hch
  obtain ⟨RS, hRS⟩ : ∃ RS, RS = afR rs lv now us hs r f := ⟨_, rfl⟩
  obtain ⟨LV, hLV⟩ : ∃ LV, LV = afL rs lv now us hs r f := ⟨_, rfl⟩
  obtain ⟨NW, hNW⟩ : ∃ NW, NW = afN rs lv now us hs r f := ⟨_, rfl⟩
  obtain ⟨KK, hKK⟩ : ∃ KK, KK = afK rs lv now us hs r f := ⟨_, rfl⟩
  obtain ⟨CC, hCC⟩ : ∃ CC, CC = mfO rs lv now us hs r f := ⟨_, rfl⟩
  have hS2 : RS.length + fsN RS + LV.length ≤ 1048576 := by rw [hRS, hLV]; exact af_sum
  have HS2 : Hid (RS.length + fsN RS + LV.length ≤ 1048576) := hS2
  have HS : Hid (∀ g gl xs x gr gi, xs.map (·.1) = rs → LgB x g xs gl lv → RulAt x (some ⟨gr, 0, none⟩) us → IntAt x (some ⟨gi, 0, none⟩) hs → Below w.heap.size w x → Calls Tryz.prog 19 #[.agg #[.slice (some ⟨g, 0, none⟩) rs.length rs.length, .slice (some ⟨gl, 0, none⟩) lv.length lv.length, .int .i64 now], .agg #[.slice (some ⟨gr, 0, none⟩) us.length us.length, .slice (some ⟨gi, 0, none⟩) hs.length hs.length], .int .i64 r, .int .i64 f] x fun e w' => SwA x.heap.size RS LV NW KK CC e w' ∧ Below x.heap.size x w') := fun g gl xs x gr gi hx hB hU hI hb => by rw [hRS, hLV, hNW, hKK, hCC]; exact specAskForget_any (some ⟨gl, 0, none⟩) lv lv.length (some ⟨g, 0, none⟩) rs rs.length now (some ⟨gr, 0, none⟩) (some ⟨gi, 0, none⟩) us.length hs.length us hs r f x (HAt.out g gl xs x hx hB) hU hI (Nat.le_refl _) (Nat.le_refl _) HZU.out hun hhn
  have HI : Hid (∀ g gl xs x gr gi, xs.map (·.1) = rs → LgB x g xs gl lv → RulAt x (some ⟨gr, 0, none⟩) us → IntAt x (some ⟨gi, 0, none⟩) hs → Below w.heap.size w x → Calls Tryz.prog 20 #[.agg #[.slice (some ⟨g, 0, none⟩) rs.length rs.length, .slice (some ⟨gl, 0, none⟩) lv.length lv.length, .int .i64 now], .agg #[.slice (some ⟨gr, 0, none⟩) us.length us.length, .slice (some ⟨gi, 0, none⟩) hs.length hs.length], .int .i64 r, .int .i64 f] x fun e w' => SwA x.heap.size RS LV NW KK CC e w' ∧ Below x.heap.size x w') := fun g gl xs x gr gi hx hB hU hI hb => by rw [hRS, hLV, hNW, hKK, hCC]; exact implAskForget_any (some ⟨gl, 0, none⟩) lv lv.length (some ⟨g, 0, none⟩) rs rs.length now (some ⟨gr, 0, none⟩) (some ⟨gi, 0, none⟩) us.length hs.length us hs r f x (HT.out.to hb) (HG.out.below hb) (HAt.out g gl xs x hx hB) hU hI (Nat.le_refl _) (Nat.le_refl _) HZU.out hun hhn
  have HRF2 : Hid (∀ x ∈ rs, x.fs.length ≤ 1048576) := hrf
  have HEq : Hid (∀ x g gl xs g' gl' xs', xs.map (·.1) = rs → LgB x g xs gl lv → xs'.map (·.1) = rs → LgB x g' xs' gl' lv → Calls Tryz.prog 13 #[.agg #[.slice (some ⟨g, 0, none⟩) rs.length rs.length, .slice (some ⟨gl, 0, none⟩) lv.length lv.length, .int .i64 now], .agg #[.slice (some ⟨g', 0, none⟩) rs.length rs.length, .slice (some ⟨gl', 0, none⟩) lv.length lv.length, .int .i64 now]] x fun e w' => e = .returned (.bool true) ∧ Below x.heap.size x w') := fun x g gl xs g' gl' xs' hx hB hx' hB' => eqLog_any (some ⟨g, 0, none⟩) (some ⟨g', 0, none⟩) rs.length rs.length rs (some ⟨gl, 0, none⟩) (some ⟨gl', 0, none⟩) lv.length lv.length lv now x (by have := hB.rw.at; rwa [hx] at this) (by have := hB'.rw.at; rwa [hx'] at this) hrn (Nat.le_refl _) (Nat.le_refl _) hrf hB.lf.txt hB'.lf.txt hln (Nat.le_refl _) (Nat.le_refl _)
  have HEr : Hid (∀ x g h g' h', RulAt x (some ⟨g, 0, none⟩) us → IntAt x (some ⟨h, 0, none⟩) hs → RulAt x (some ⟨g', 0, none⟩) us → IntAt x (some ⟨h', 0, none⟩) hs → Calls Tryz.prog 14 #[.agg #[.slice (some ⟨g, 0, none⟩) us.length us.length, .slice (some ⟨h, 0, none⟩) hs.length hs.length], .agg #[.slice (some ⟨g', 0, none⟩) us.length us.length, .slice (some ⟨h', 0, none⟩) hs.length hs.length]] x fun e w' => e = .returned (.bool true) ∧ Below x.heap.size x w') := fun x g h g' h' a1 a2 a3 a4 => eqPolicy_any _ _ _ _ us.length hs.length us.length hs.length us hs x a1 a2 a3 a4 hun hhn (Nat.le_refl _) (Nat.le_refl _) (Nat.le_refl _) (Nat.le_refl _)
  have HEO : Hid (∀ x b b' xs xs' v1 v2 u1 u2, LgO b xs LV v1 v2 x → LgO b' xs' LV u1 u2 x → xs.map (·.1) = RS → xs'.map (·.1) = RS → Calls Tryz.prog 21 #[.agg #[v1, v2, .int .i64 NW, .int .i64 KK, .int .i64 CC], .agg #[u1, u2, .int .i64 NW, .int .i64 KK, .int .i64 CC]] x fun e w' => e = .returned (.bool true) ∧ Below x.heap.size x w') := fun x b b' xs xs' v1 v2 u1 u2 h h' hx hx' => eqSweepOut_any b b' xs xs' RS LV v1 v2 u1 u2 NW KK CC x h h' hx hx' (by have := HS2.out; omega) (fun z hz => by have := fsN_mem hz; have := HS2.out; omega) (by have := HS2.out; omega)
  have HML : Hid (∀ x g gl xs, xs.map (·.1) = rs → LgB x g xs gl lv → Calls Tryz.prog 15 #[.agg #[.slice (some ⟨g, 0, none⟩) rs.length rs.length, .slice (some ⟨gl, 0, none⟩) lv.length lv.length, .int .i64 now], .int .i64 1] x fun e w' => (∃ m : Nat, e = .returned (.int .i64 (m : Int)) ∧ 1 ≤ m ∧ m + 4 * us.length + hs.length ≤ 16777210) ∧ But (lgS g xs gl) x w') := fun x g gl xs hx hB => by
    have hl : xs.length = rs.length := by rw [← hx, List.length_map]
    have h := markLogB_any g xs gl lv now 1 x hB (Nat.le_refl _) (by omega) hln (by rw [hx]; have := HSum.out; omega)
    rw [hl] at h
    refine h.mono ?_
    rintro e w' ⟨⟨m, rfl, m1, m2⟩, kb⟩
    rw [hx] at m2
    have := HSum.out
    exact ⟨⟨m, rfl, m1, by omega⟩, kb⟩
  have HMR : Hid (∀ x g h (m : Nat), BlkU x g us → BlkI x h hs → g < h → w.heap.size ≤ g → 1 ≤ m → m + 4 * us.length + hs.length ≤ 16777210 → Calls Tryz.prog 16 #[.agg #[.slice (some ⟨g, 0, none⟩) us.length us.length, .slice (some ⟨h, 0, none⟩) hs.length hs.length], .int .i64 (m : Int)] x fun e w' => e = .returned (.int .i64 ((hs.length : Int) + (4 * (us.length : Int) + (m : Int)))) ∧ But (fun k => k = g ∨ k = h) x w') := fun x g h m hU hI hgh hgw m1 m2 => by
    refine (markPolicyK_any m m1 w.heap.size (some ⟨g, 0, none⟩) (some ⟨h, 0, none⟩) us.length hs.length us hs x (hU.own w.heap.size hgw (by unfold maxLen; omega)) (blkI_own hI w.heap.size (by omega) (by unfold maxLen; omega)) (.inr (fun e => by simp [Value.ownBlock] at e; omega)) m2).mono ?_
    rintro e w' ⟨rfl, -, -, wm, g1, g2⟩
    exact ⟨rfl, ((But.refl _ _).grown g1 (.inl rfl)).grown g2 (.inr rfl)⟩
  have HLn : Hid (∀ xs : List (Rw × Value), xs.map (·.1) = RS → xs.length ≤ 1048576 ∧ mkT xs + LV.length ≤ 16777210) := fun xs hx => by
    have h : xs.length = RS.length := by rw [← hx, List.length_map]
    have := HS2.out
    exact ⟨by omega, by unfold mkT; rw [hx]; omega⟩
  have HMO : Hid (∀ x b xs v1 v2, xs.map (·.1) = RS → LgO b xs LV v1 v2 x → Calls Tryz.prog 22 #[.agg #[v1, v2, .int .i64 NW, .int .i64 KK, .int .i64 CC], .int .i64 1] x fun e w' => e = .returned (.int .i64 ((mkT xs + LV.length : Nat) : Int)) ∧ LgM b xs LV.length v1 v2 w' ∧ But (lqS xs v1 v2) x w') := fun x b xs v1 v2 hx h => markSweepOutO_any b xs LV v1 v2 NW KK CC x h (HLn.out xs hx).1 (HLn.out xs hx).2
  have HHO : Hid (∀ x b xs v1 v2, xs.map (·.1) = RS → LgM b xs LV.length v1 v2 x → Calls Tryz.prog 23 #[.agg #[v1, v2, .int .i64 NW, .int .i64 KK, .int .i64 CC], .int .i64 1] x fun e w' => e = .returned (.int .i64 ((mkT xs + LV.length : Nat) : Int)) ∧ Below x.heap.size x w') := fun x b xs v1 v2 hx h => heldSweepOutO_any b xs LV.length v1 v2 NW KK CC x h (HLn.out xs hx).1 (HLn.out xs hx).2
  have HRow : Hid (w.heap.size + 1 < w2.heap.size) := KR.out.lt
  clear b2 HBg HLB HZR HZL hrf HT HG HAt hsum hr21 hS2 hRS hLV hNW hKK hCC HR HL HU HH HZU HUB hcq hcp hmq hmp hr0 hr20 hmu hmh K1a R1a HB1a
  have QT : Hid (∀ x, Below w2.heap.size w2 x → Calls Tryz.prog 9 #[.agg #[.slice q rs.length cq, .slice p lv.length cp, .int .i64 now]] x fun e w' => ∃ g gl xs, xs.map (·.1) = rs ∧ x.heap.size ≤ g ∧ e = .returned (.agg #[.slice (some ⟨g, 0, none⟩) rs.length rs.length, .slice (some ⟨gl, 0, none⟩) lv.length lv.length, .int .i64 now]) ∧ LgB w' g xs gl lv ∧ Below x.heap.size x w') := fun x hb => HTo.out x (chainB HB2.out hb)
  have QR : Hid (∀ x, Below w2.heap.size w2 x → Calls Tryz.prog 10 #[.agg #[.slice p1 us.length c1, .slice p2 hs.length c2]] x fun e w' => ∃ g h, x.heap.size ≤ g ∧ g < h ∧ e = .returned (.agg #[.slice (some ⟨g, 0, none⟩) us.length us.length, .slice (some ⟨h, 0, none⟩) hs.length hs.length]) ∧ BlkU w' g us ∧ BlkI w' h hs ∧ Below x.heap.size x w') := fun x hb => HTr.out x (chainB HB2.out hb)
  have QP : Hid (∀ g gl xs x gr gi, xs.map (·.1) = rs → LgB x g xs gl lv → RulAt x (some ⟨gr, 0, none⟩) us → IntAt x (some ⟨gi, 0, none⟩) hs → Below w2.heap.size w2 x → Calls Tryz.prog 19 #[.agg #[.slice (some ⟨g, 0, none⟩) rs.length rs.length, .slice (some ⟨gl, 0, none⟩) lv.length lv.length, .int .i64 now], .agg #[.slice (some ⟨gr, 0, none⟩) us.length us.length, .slice (some ⟨gi, 0, none⟩) hs.length hs.length], .int .i64 r, .int .i64 f] x fun e w' => SwA x.heap.size RS LV NW KK CC e w' ∧ Below x.heap.size x w') := fun g gl xs x gr gi hx hB hU hI hb => HS.out g gl xs x gr gi hx hB hU hI (chainB HB2.out hb)
  have HX : Hid (∀ x, Below w2.heap.size w2 x → (x.cell? ⟨w.heap.size, 0, none⟩ = some (.slice q rs.length cq) ∧ x.cell? ⟨w.heap.size, 1, none⟩ = some (.slice p lv.length cp) ∧ x.cell? ⟨w.heap.size, 2, none⟩ = some (.int .i64 now)) ∧ x.cell? ⟨w.heap.size + 1, 0, none⟩ = some (.slice p1 us.length c1) ∧ x.cell? ⟨w.heap.size + 1, 1, none⟩ = some (.slice p2 hs.length c2)) := fun x hb => ⟨(KA.out.below hb).three, (KR.out.below hb).two⟩
  have BR : Below w2.heap.size w2 w2.drew := (Below.refl _ _).drew
  clear HS
  go_upto_region 8 with fail
  go_cut [10] from 28 to 34 (fun s6 wx => ∃ Eb q9 c9 p9 d9 xs9, s6 = .pointer (some ⟨Eb, 0, none⟩) ∧ Hid (xs9.map (·.1) = RS ∧ PuW w2 xs9 LV (.slice q9 RS.length c9) (.slice p9 LV.length d9) NW KK CC Eb wx))
  case first =>
    refine region_till (fun w' => (w'.cell? ⟨w.heap.size, 0, none⟩ = some (.slice q rs.length cq) ∧ w'.cell? ⟨w.heap.size, 1, none⟩ = some (.slice p lv.length cp) ∧ w'.cell? ⟨w.heap.size, 2, none⟩ = some (.int .i64 now)) ∧ w'.cell? ⟨w.heap.size + 1, 0, none⟩ = some (.slice p1 us.length c1) ∧ w'.cell? ⟨w.heap.size + 1, 1, none⟩ = some (.slice p2 hs.length c2)) 8 (by kernel_rfl) (HX.out _ BR) (fun hHeld => ?_)
    generalize w2.drew = x0 at *
    refine till_take 0 (v := ?_) rfl (by kernel_rfl) (by kernel_rfl) (by kernel_rfl) (by kernel_rfl) (fun _ _ _ h => h) hHeld (Or.inl ⟨by rfl, ?_⟩) ?_
    rotate_left
    · (intro w hSw; (try dsimp only at hSw); go_simp; try with_reducible rfl)
    simp only [Act.put, List.setIfInBounds_toArray, List.set_cons_zero, List.set_cons_succ]
    refine till_take 2 (v := ?_) rfl (by kernel_rfl) (by kernel_rfl) (by kernel_rfl) (by kernel_rfl) (fun _ _ _ h => h) hHeld (Or.inl ⟨by rfl, ?_⟩) ?_
    rotate_left
    · (intro w hSw; (try dsimp only at hSw); go_simp; try with_reducible rfl)
    simp only [Act.put, List.setIfInBounds_toArray, List.set_cons_zero, List.set_cons_succ]
    refine till_take 4 (v := ?_) rfl (by kernel_rfl) (by kernel_rfl) (by kernel_rfl) (by kernel_rfl) (fun _ _ _ h => h) hHeld (Or.inl ⟨by rfl, ?_⟩) ?_
    rotate_left
    · (intro w hSw; (try dsimp only at hSw); go_simp; try with_reducible rfl)
    simp only [Act.put, List.setIfInBounds_toArray, List.set_cons_zero, List.set_cons_succ]
    refine till_take 5 (v := ?_) rfl (by kernel_rfl) (by kernel_rfl) (by kernel_rfl) (by kernel_rfl) (fun _ _ _ h => h) hHeld (Or.inl ⟨by rfl, ?_⟩) ?_
    rotate_left
    · (intro w hSw; (try dsimp only at hSw); go_simp; try with_reducible rfl)
    simp only [Act.put, List.setIfInBounds_toArray, List.set_cons_zero, List.set_cons_succ]
    refine till_ready2 1 7 rfl rfl (by kernel_rfl) (fun K hK => ?_) (fun K hK => ?_)
    · go_simp
      (go_at_call 9; refine (QT.out _ BR).mono ?_; rintro e y_1 ⟨g8, l8, xs8, hx8, -, rfl, j1, z_1⟩)
      have HX8 : Hid (xs8.map (·.1) = rs) := hx8
      clear hx8
      have b_1 := chainB BR z_1
      refine hK.out _ _ (HX.out _ b_1) (fun hHeld => ?_)
      clear hK K
      try simp only [Act.put, List.setIfInBounds_toArray, List.set_cons_zero, List.set_cons_succ]
      refine till_ready2 3 7 rfl rfl (by kernel_rfl) (fun K hK => ?_) (fun K hK => ?_)
      · go_simp
        (go_at_call 10; refine (QR.out _ b_1).mono ?_; rintro e y_2 ⟨g9, h9, -, -, rfl, j2, j3, z_2⟩)
        have j2 := j2.at
        have j3 := j3.int
        have b_2 := chainB b_1 z_2
        have j1 := j1.below z_2
        refine hK.out _ _ (HX.out _ b_2) (fun hHeld => ?_)
        clear hK K
        try simp only [Act.put, List.setIfInBounds_toArray, List.set_cons_zero, List.set_cons_succ]
        refine till_ready2 6 7 rfl rfl (by kernel_rfl) (fun K hK => ?_) (fun K hK => ?_)
        · go_simp
          (go_at_call 19; refine (QP.out g8 l8 xs8 _ g9 h9 HX8.out j1 j2 j3 b_2).mono ?_; rintro e y_3 ⟨⟨v1, v2, xs9, rfl, hx9, oW⟩, z_3⟩)
          obtain ⟨q9, c9, p9, d9, rfl, rfl, _⟩ := oW.at hx9
          have oL := oW.lower b_2.size
          clear oW
          have b_3 := chainB b_2 z_3
          have j1 := j1.below z_3
          have j2 := j2.below z_3
          have j3 := j3.below z_3
          refine hK.out _ _ (HX.out _ b_3) (fun hHeld => ?_)
          clear hK K
          try simp only [Act.put, List.setIfInBounds_toArray, List.set_cons_zero, List.set_cons_succ]
          refine till_ready 7 rfl (by kernel_rfl) (fun K hK => ?_)
          go_simp
          have kE : Bxs (y_3.alloc (.cells #[.slice none 0 0, .slice none 0 0, .int .i64 0, .int .i64 0, .int .i64 0] 50)) y_3.heap.size 50 #[.slice none 0 0, .slice none 0 0, .int .i64 0, .int .i64 0, .int .i64 0] := Bxs.new _ _ _
          have b_4 : Below w2.heap.size w2 (y_3.alloc (.cells #[.slice none 0 0, .slice none 0 0, .int .i64 0, .int .i64 0, .int .i64 0] 50)) := alB b_3 _
          have hEb : w2.heap.size ≤ y_3.heap.size := b_3.size
          replace j1 := j1.below (alB (Below.refl _ _) (.cells #[.slice none 0 0, .slice none 0 0, .int .i64 0, .int .i64 0, .int .i64 0] 50))
          replace j2 := j2.below (alB (Below.refl _ _) (.cells #[.slice none 0 0, .slice none 0 0, .int .i64 0, .int .i64 0, .int .i64 0] 50))
          replace j3 := j3.below (alB (Below.refl _ _) (.cells #[.slice none 0 0, .slice none 0 0, .int .i64 0, .int .i64 0, .int .i64 0] 50))
          replace oL := oL.below (alB (Below.refl _ _) (.cells #[.slice none 0 0, .slice none 0 0, .int .i64 0, .int .i64 0, .int .i64 0] 50))
          refine hK.out _ _ (HX.out _ b_4) (fun hHeld => ?_)
          clear hK K
          try simp only [Act.put, List.setIfInBounds_toArray, List.set_cons_zero, List.set_cons_succ]
          generalize y_3.alloc (.cells #[.slice none 0 0, .slice none 0 0, .int .i64 0, .int .i64 0, .int .i64 0] 50) = u at *
          generalize y_3.heap.size = Eb at *
          have HP : Hid (xs9.map (·.1) = RS ∧ PuW w2 xs9 LV (.slice q9 RS.length c9) (.slice p9 LV.length d9) NW KK CC Eb (((((u.setCell ⟨Eb, 0, none⟩ (.slice q9 RS.length c9)).setCell ⟨Eb, 1, none⟩ (.slice p9 LV.length d9)).setCell ⟨Eb, 2, none⟩ (.int .i64 NW)).setCell ⟨Eb, 3, none⟩ (.int .i64 KK)).setCell ⟨Eb, 4, none⟩ (.int .i64 CC))) := ⟨hx9, PuW.put kE hEb oL b_4⟩
          have qc0 : u.cell? ⟨Eb, 0, none⟩ = some (.slice none 0 0) := kE.cell 0
          have qc1 : u.cell? ⟨Eb, 1, none⟩ = some (.slice none 0 0) := kE.cell 1
          have qc2 : u.cell? ⟨Eb, 2, none⟩ = some (.int .i64 0) := kE.cell 2
          have qc3 : u.cell? ⟨Eb, 3, none⟩ = some (.int .i64 0) := kE.cell 3
          have qc4 : u.cell? ⟨Eb, 4, none⟩ = some (.int .i64 0) := kE.cell 4
          have qf0 := kE.fr 0
          have qf1 := kE.fr 1
          have qf2 := kE.fr 2
          have qf3 := kE.fr 3
          have qf4 := kE.fr 4
          clear hx9
          refine till_last rfl (by kernel_rfl) (by kernel_rfl) (fun K hK => ?_)
          go_simp
          refine hK.out _ _ ?_
          clear hK K hHeld qc0 qf0 qc1 qf1 qc2 qf2 qc3 qf3 qc4 qf4
          go_wp2_with fail
          go_meet
          exact ⟨_, _, _, _, _, _, rfl, HP⟩
        · go_simp
          have kE : Bxs (y_2.alloc (.cells #[.slice none 0 0, .slice none 0 0, .int .i64 0, .int .i64 0, .int .i64 0] 50)) y_2.heap.size 50 #[.slice none 0 0, .slice none 0 0, .int .i64 0, .int .i64 0, .int .i64 0] := Bxs.new _ _ _
          have b_5 : Below w2.heap.size w2 (y_2.alloc (.cells #[.slice none 0 0, .slice none 0 0, .int .i64 0, .int .i64 0, .int .i64 0] 50)) := alB b_2 _
          have hEb : w2.heap.size ≤ y_2.heap.size := b_2.size
          replace j1 := j1.below (alB (Below.refl _ _) (.cells #[.slice none 0 0, .slice none 0 0, .int .i64 0, .int .i64 0, .int .i64 0] 50))
          replace j2 := j2.below (alB (Below.refl _ _) (.cells #[.slice none 0 0, .slice none 0 0, .int .i64 0, .int .i64 0, .int .i64 0] 50))
          replace j3 := j3.below (alB (Below.refl _ _) (.cells #[.slice none 0 0, .slice none 0 0, .int .i64 0, .int .i64 0, .int .i64 0] 50))
          refine hK.out _ _ (HX.out _ b_5) (fun hHeld => ?_)
          clear hK K
          try simp only [Act.put, List.setIfInBounds_toArray, List.set_cons_zero, List.set_cons_succ]
          generalize y_2.alloc (.cells #[.slice none 0 0, .slice none 0 0, .int .i64 0, .int .i64 0, .int .i64 0] 50) = u at *
          generalize y_2.heap.size = Eb at *
          refine till_ready 6 rfl (by kernel_rfl) (fun K hK => ?_)
          go_simp
          (go_at_call 19; refine (QP.out g8 l8 xs8 _ g9 h9 HX8.out j1 j2 j3 b_5).mono ?_; rintro e y_6 ⟨⟨v1, v2, xs9, rfl, hx9, oW⟩, z_6⟩)
          obtain ⟨q9, c9, p9, d9, rfl, rfl, _⟩ := oW.at hx9
          have oL := oW.lower b_5.size
          clear oW
          have b_6 := chainB b_5 z_6
          have j1 := j1.below z_6
          have j2 := j2.below z_6
          have j3 := j3.below z_6
          have kE := kE.below z_6
          refine hK.out _ _ (HX.out _ b_6) (fun hHeld => ?_)
          clear hK K
          try simp only [Act.put, List.setIfInBounds_toArray, List.set_cons_zero, List.set_cons_succ]
          have HP : Hid (xs9.map (·.1) = RS ∧ PuW w2 xs9 LV (.slice q9 RS.length c9) (.slice p9 LV.length d9) NW KK CC Eb (((((y_6.setCell ⟨Eb, 0, none⟩ (.slice q9 RS.length c9)).setCell ⟨Eb, 1, none⟩ (.slice p9 LV.length d9)).setCell ⟨Eb, 2, none⟩ (.int .i64 NW)).setCell ⟨Eb, 3, none⟩ (.int .i64 KK)).setCell ⟨Eb, 4, none⟩ (.int .i64 CC))) := ⟨hx9, PuW.put kE hEb oL b_6⟩
          have qc0 : y_6.cell? ⟨Eb, 0, none⟩ = some (.slice none 0 0) := kE.cell 0
          have qc1 : y_6.cell? ⟨Eb, 1, none⟩ = some (.slice none 0 0) := kE.cell 1
          have qc2 : y_6.cell? ⟨Eb, 2, none⟩ = some (.int .i64 0) := kE.cell 2
          have qc3 : y_6.cell? ⟨Eb, 3, none⟩ = some (.int .i64 0) := kE.cell 3
          have qc4 : y_6.cell? ⟨Eb, 4, none⟩ = some (.int .i64 0) := kE.cell 4
          have qf0 := kE.fr 0
          have qf1 := kE.fr 1
          have qf2 := kE.fr 2
          have qf3 := kE.fr 3
          have qf4 := kE.fr 4
          clear hx9
          refine till_last rfl (by kernel_rfl) (by kernel_rfl) (fun K hK => ?_)
          go_simp
          refine hK.out _ _ ?_
          clear hK K hHeld qc0 qf0 qc1 qf1 qc2 qf2 qc3 qf3 qc4 qf4
          go_wp2_with fail
          go_meet
          exact ⟨_, _, _, _, _, _, rfl, HP⟩
      · go_simp
        have kE : Bxs (y_1.alloc (.cells #[.slice none 0 0, .slice none 0 0, .int .i64 0, .int .i64 0, .int .i64 0] 50)) y_1.heap.size 50 #[.slice none 0 0, .slice none 0 0, .int .i64 0, .int .i64 0, .int .i64 0] := Bxs.new _ _ _
        have b_7 : Below w2.heap.size w2 (y_1.alloc (.cells #[.slice none 0 0, .slice none 0 0, .int .i64 0, .int .i64 0, .int .i64 0] 50)) := alB b_1 _
        have hEb : w2.heap.size ≤ y_1.heap.size := b_1.size
        replace j1 := j1.below (alB (Below.refl _ _) (.cells #[.slice none 0 0, .slice none 0 0, .int .i64 0, .int .i64 0, .int .i64 0] 50))
        refine hK.out _ _ (HX.out _ b_7) (fun hHeld => ?_)
        clear hK K
        try simp only [Act.put, List.setIfInBounds_toArray, List.set_cons_zero, List.set_cons_succ]
        generalize y_1.alloc (.cells #[.slice none 0 0, .slice none 0 0, .int .i64 0, .int .i64 0, .int .i64 0] 50) = u at *
        generalize y_1.heap.size = Eb at *
        refine till_ready 3 rfl (by kernel_rfl) (fun K hK => ?_)
        go_simp
        (go_at_call 10; refine (QR.out _ b_7).mono ?_; rintro e y_8 ⟨g9, h9, -, -, rfl, j2, j3, z_8⟩)
        have j2 := j2.at
        have j3 := j3.int
        have b_8 := chainB b_7 z_8
        have j1 := j1.below z_8
        have kE := kE.below z_8
        refine hK.out _ _ (HX.out _ b_8) (fun hHeld => ?_)
        clear hK K
        try simp only [Act.put, List.setIfInBounds_toArray, List.set_cons_zero, List.set_cons_succ]
        refine till_ready 6 rfl (by kernel_rfl) (fun K hK => ?_)
        go_simp
        (go_at_call 19; refine (QP.out g8 l8 xs8 _ g9 h9 HX8.out j1 j2 j3 b_8).mono ?_; rintro e y_9 ⟨⟨v1, v2, xs9, rfl, hx9, oW⟩, z_9⟩)
        obtain ⟨q9, c9, p9, d9, rfl, rfl, _⟩ := oW.at hx9
        have oL := oW.lower b_8.size
        clear oW
        have b_9 := chainB b_8 z_9
        have j1 := j1.below z_9
        have j2 := j2.below z_9
        have j3 := j3.below z_9
        have kE := kE.below z_9
        refine hK.out _ _ (HX.out _ b_9) (fun hHeld => ?_)
        clear hK K
        try simp only [Act.put, List.setIfInBounds_toArray, List.set_cons_zero, List.set_cons_succ]
        have HP : Hid (xs9.map (·.1) = RS ∧ PuW w2 xs9 LV (.slice q9 RS.length c9) (.slice p9 LV.length d9) NW KK CC Eb (((((y_9.setCell ⟨Eb, 0, none⟩ (.slice q9 RS.length c9)).setCell ⟨Eb, 1, none⟩ (.slice p9 LV.length d9)).setCell ⟨Eb, 2, none⟩ (.int .i64 NW)).setCell ⟨Eb, 3, none⟩ (.int .i64 KK)).setCell ⟨Eb, 4, none⟩ (.int .i64 CC))) := ⟨hx9, PuW.put kE hEb oL b_9⟩
        have qc0 : y_9.cell? ⟨Eb, 0, none⟩ = some (.slice none 0 0) := kE.cell 0
        have qc1 : y_9.cell? ⟨Eb, 1, none⟩ = some (.slice none 0 0) := kE.cell 1
        have qc2 : y_9.cell? ⟨Eb, 2, none⟩ = some (.int .i64 0) := kE.cell 2
        have qc3 : y_9.cell? ⟨Eb, 3, none⟩ = some (.int .i64 0) := kE.cell 3
        have qc4 : y_9.cell? ⟨Eb, 4, none⟩ = some (.int .i64 0) := kE.cell 4
        have qf0 := kE.fr 0
        have qf1 := kE.fr 1
        have qf2 := kE.fr 2
        have qf3 := kE.fr 3
        have qf4 := kE.fr 4
        clear hx9
        refine till_last rfl (by kernel_rfl) (by kernel_rfl) (fun K hK => ?_)
        go_simp
        refine hK.out _ _ ?_
        clear hK K hHeld qc0 qf0 qc1 qf1 qc2 qf2 qc3 qf3 qc4 qf4
        go_wp2_with fail
        go_meet
        exact ⟨_, _, _, _, _, _, rfl, HP⟩
    · go_simp
      have kE : Bxs (x0.alloc (.cells #[.slice none 0 0, .slice none 0 0, .int .i64 0, .int .i64 0, .int .i64 0] 50)) x0.heap.size 50 #[.slice none 0 0, .slice none 0 0, .int .i64 0, .int .i64 0, .int .i64 0] := Bxs.new _ _ _
      have b_10 : Below w2.heap.size w2 (x0.alloc (.cells #[.slice none 0 0, .slice none 0 0, .int .i64 0, .int .i64 0, .int .i64 0] 50)) := alB BR _
      have hEb : w2.heap.size ≤ x0.heap.size := BR.size
      refine hK.out _ _ (HX.out _ b_10) (fun hHeld => ?_)
      clear hK K
      try simp only [Act.put, List.setIfInBounds_toArray, List.set_cons_zero, List.set_cons_succ]
      generalize x0.alloc (.cells #[.slice none 0 0, .slice none 0 0, .int .i64 0, .int .i64 0, .int .i64 0] 50) = u at *
      generalize x0.heap.size = Eb at *
      refine till_ready 1 rfl (by kernel_rfl) (fun K hK => ?_)
      go_simp
      (go_at_call 9; refine (QT.out _ b_10).mono ?_; rintro e y_11 ⟨g8, l8, xs8, hx8, -, rfl, j1, z_11⟩)
      have HX8 : Hid (xs8.map (·.1) = rs) := hx8
      clear hx8
      have b_11 := chainB b_10 z_11
      have kE := kE.below z_11
      refine hK.out _ _ (HX.out _ b_11) (fun hHeld => ?_)
      clear hK K
      try simp only [Act.put, List.setIfInBounds_toArray, List.set_cons_zero, List.set_cons_succ]
      refine till_ready 3 rfl (by kernel_rfl) (fun K hK => ?_)
      go_simp
      (go_at_call 10; refine (QR.out _ b_11).mono ?_; rintro e y_12 ⟨g9, h9, -, -, rfl, j2, j3, z_12⟩)
      have j2 := j2.at
      have j3 := j3.int
      have b_12 := chainB b_11 z_12
      have j1 := j1.below z_12
      have kE := kE.below z_12
      refine hK.out _ _ (HX.out _ b_12) (fun hHeld => ?_)
      clear hK K
      try simp only [Act.put, List.setIfInBounds_toArray, List.set_cons_zero, List.set_cons_succ]
      refine till_ready 6 rfl (by kernel_rfl) (fun K hK => ?_)
      go_simp
      (go_at_call 19; refine (QP.out g8 l8 xs8 _ g9 h9 HX8.out j1 j2 j3 b_12).mono ?_; rintro e y_13 ⟨⟨v1, v2, xs9, rfl, hx9, oW⟩, z_13⟩)
      obtain ⟨q9, c9, p9, d9, rfl, rfl, _⟩ := oW.at hx9
      have oL := oW.lower b_12.size
      clear oW
      have b_13 := chainB b_12 z_13
      have j1 := j1.below z_13
      have j2 := j2.below z_13
      have j3 := j3.below z_13
      have kE := kE.below z_13
      refine hK.out _ _ (HX.out _ b_13) (fun hHeld => ?_)
      clear hK K
      try simp only [Act.put, List.setIfInBounds_toArray, List.set_cons_zero, List.set_cons_succ]
      have HP : Hid (xs9.map (·.1) = RS ∧ PuW w2 xs9 LV (.slice q9 RS.length c9) (.slice p9 LV.length d9) NW KK CC Eb (((((y_13.setCell ⟨Eb, 0, none⟩ (.slice q9 RS.length c9)).setCell ⟨Eb, 1, none⟩ (.slice p9 LV.length d9)).setCell ⟨Eb, 2, none⟩ (.int .i64 NW)).setCell ⟨Eb, 3, none⟩ (.int .i64 KK)).setCell ⟨Eb, 4, none⟩ (.int .i64 CC))) := ⟨hx9, PuW.put kE hEb oL b_13⟩
      have qc0 : y_13.cell? ⟨Eb, 0, none⟩ = some (.slice none 0 0) := kE.cell 0
      have qc1 : y_13.cell? ⟨Eb, 1, none⟩ = some (.slice none 0 0) := kE.cell 1
      have qc2 : y_13.cell? ⟨Eb, 2, none⟩ = some (.int .i64 0) := kE.cell 2
      have qc3 : y_13.cell? ⟨Eb, 3, none⟩ = some (.int .i64 0) := kE.cell 3
      have qc4 : y_13.cell? ⟨Eb, 4, none⟩ = some (.int .i64 0) := kE.cell 4
      have qf0 := kE.fr 0
      have qf1 := kE.fr 1
      have qf2 := kE.fr 2
      have qf3 := kE.fr 3
      have qf4 := kE.fr 4
      clear hx9
      refine till_last rfl (by kernel_rfl) (by kernel_rfl) (fun K hK => ?_)
      go_simp
      refine hK.out _ _ ?_
      clear hK K hHeld qc0 qf0 qc1 qf1 qc2 qf2 qc3 qf3 qc4 qf4
      go_wp2_with fail
      go_meet
      exact ⟨_, _, _, _, _, _, rfl, HP⟩
  case rest =>
  obtain ⟨E1, qw, cw, pw, dw, xsw, rfl, hPW⟩ := hcut
  rename World => w5
  clear QP QT QR HX BR
  have HXW : Hid (xsw.map (·.1) = RS) := hPW.out.1
  have O5 : Hid (LgO w.heap.size xsw LV (.slice qw RS.length cw) (.slice pw LV.length dw) w5) := hPW.out.2.lg.lower (by have := HRow.out; omega)
  have Q5 : Hid (Bxs w5 E1 50 #[.slice qw RS.length cw, .slice pw LV.length dw, .int .i64 NW, .int .i64 KK, .int .i64 CC]) := hPW.out.2.box
  have HB5 : Hid (Below w.heap.size w w5) := chainB HB2.out hPW.out.2.bel
  have KA5 : Hid (Bxs w5 w.heap.size 25 #[.slice q rs.length cq, .slice p lv.length cp, .int .i64 now]) := KA.out.below hPW.out.2.bel
  have KR5 : Hid (Bxs w5 (w.heap.size + 1) 29 #[.slice p1 us.length c1, .slice p2 hs.length c2]) := KR.out.below hPW.out.2.bel
  have HE1 : Hid (w.heap.size + 1 < E1 ∧ E1 < w5.heap.size) := ⟨by have := hPW.out.2.eb; have := HRow.out; omega, Q5.out.lt⟩
  clear hPW KA KR HB2 HRow
  have hTo2 := HTo.out w5 HB5.out
  obtain ⟨x0, x1, x2⟩ := KA5.out.three
  go_wp2_with fail
  refine hTo2.mono ?_
  rintro e w6 ⟨g6, l6, xs6, hx6, hg6, rfl, hB6, b6⟩
  have HX6 : Hid (xs6.map (·.1) = rs) := hx6
  have hal : Below w6.heap.size w6 (w6.alloc (.cells #[.slice (some ⟨g6, 0, none⟩) rs.length rs.length, .slice (some ⟨l6, 0, none⟩) lv.length lv.length, .int .i64 now] 36)) := (Below.refl _ _).alloc (Nat.le_refl _) _
  have C7 : Hid (Below w5.heap.size w5 (w6.alloc (.cells #[.slice (some ⟨g6, 0, none⟩) rs.length rs.length, .slice (some ⟨l6, 0, none⟩) lv.length lv.length, .int .i64 now] 36))) := chainB b6 hal
  have K7 : Hid (Bxs (w6.alloc (.cells #[.slice (some ⟨g6, 0, none⟩) rs.length rs.length, .slice (some ⟨l6, 0, none⟩) lv.length lv.length, .int .i64 now] 36)) w6.heap.size 36 #[.slice (some ⟨g6, 0, none⟩) rs.length rs.length, .slice (some ⟨l6, 0, none⟩) lv.length lv.length, .int .i64 now]) := Bxs.new _ _ _
  have L7 : Hid (LgB (w6.alloc (.cells #[.slice (some ⟨g6, 0, none⟩) rs.length rs.length, .slice (some ⟨l6, 0, none⟩) lv.length lv.length, .int .i64 now] 36)) g6 xs6 l6 lv) := hB6.below hal
  have HS6 : Hid (∀ k, lgS g6 xs6 l6 k → w5.heap.size ≤ k ∧ k < w6.heap.size) := fun k hk => by
    have := lgS_from hB6 hk
    omega
  have HZ7 : Hid ((w6.alloc (.cells #[.slice (some ⟨g6, 0, none⟩) rs.length rs.length, .slice (some ⟨l6, 0, none⟩) lv.length lv.length, .int .i64 now] 36)).heap.size = w6.heap.size + 1) := szA _ _
  have KR7 : Hid (Bxs (w6.alloc (.cells #[.slice (some ⟨g6, 0, none⟩) rs.length rs.length, .slice (some ⟨l6, 0, none⟩) lv.length lv.length, .int .i64 now] 36)) (w.heap.size + 1) 29 #[.slice p1 us.length c1, .slice p2 hs.length c2]) := KR5.out.below C7.out
  clear hTo2 x0 x1 x2 hx6 hg6 hB6 b6 hal
  go_upto_region 10 with fail
  generalize w6.heap.size = E7 at *
  generalize w6.alloc (.cells #[.slice (some ⟨g6, 0, none⟩) rs.length rs.length, .slice (some ⟨l6, 0, none⟩) lv.length lv.length, .int .i64 now] 36) = w7 at *
  have hTr := HTr.out w7 (chainB HB5.out C7.out)
  obtain ⟨x0, x1⟩ := KR7.out.two
  go_wp2_with fail
  refine hTr.mono ?_
  rintro e w7a ⟨gr, gi, hgr, hgi, rfl, hBr, hBi, b7⟩
  have hal : Below w7a.heap.size w7a (w7a.alloc (.cells #[.slice (some ⟨gr, 0, none⟩) us.length us.length, .slice (some ⟨gi, 0, none⟩) hs.length hs.length] 40)) := (Below.refl _ _).alloc (Nat.le_refl _) _
  have b78 : Below w7.heap.size w7 (w7a.alloc (.cells #[.slice (some ⟨gr, 0, none⟩) us.length us.length, .slice (some ⟨gi, 0, none⟩) hs.length hs.length] 40)) := chainB b7 hal
  have C8 : Hid (Below w5.heap.size w5 (w7a.alloc (.cells #[.slice (some ⟨gr, 0, none⟩) us.length us.length, .slice (some ⟨gi, 0, none⟩) hs.length hs.length] 40))) := chainB C7.out b78
  have K8 : Hid (Bxs (w7a.alloc (.cells #[.slice (some ⟨gr, 0, none⟩) us.length us.length, .slice (some ⟨gi, 0, none⟩) hs.length hs.length] 40)) E7 36 #[.slice (some ⟨g6, 0, none⟩) rs.length rs.length, .slice (some ⟨l6, 0, none⟩) lv.length lv.length, .int .i64 now]) := K7.out.below b78
  have L8 : Hid (LgB (w7a.alloc (.cells #[.slice (some ⟨gr, 0, none⟩) us.length us.length, .slice (some ⟨gi, 0, none⟩) hs.length hs.length] 40)) g6 xs6 l6 lv) := L7.out.below b78
  have R8 : Hid (Bxs (w7a.alloc (.cells #[.slice (some ⟨gr, 0, none⟩) us.length us.length, .slice (some ⟨gi, 0, none⟩) hs.length hs.length] 40)) w7a.heap.size 40 #[.slice (some ⟨gr, 0, none⟩) us.length us.length, .slice (some ⟨gi, 0, none⟩) hs.length hs.length]) := Bxs.new _ _ _
  have F8 : Hid (BlkU (w7a.alloc (.cells #[.slice (some ⟨gr, 0, none⟩) us.length us.length, .slice (some ⟨gi, 0, none⟩) hs.length hs.length] 40)) gr us) := hBr.below hal
  have I8 : Hid (BlkI (w7a.alloc (.cells #[.slice (some ⟨gr, 0, none⟩) us.length us.length, .slice (some ⟨gi, 0, none⟩) hs.length hs.length] 40)) gi hs) := hBi.belw hal
  have HZ8 : Hid ((w7a.alloc (.cells #[.slice (some ⟨gr, 0, none⟩) us.length us.length, .slice (some ⟨gi, 0, none⟩) hs.length hs.length] 40)).heap.size = w7a.heap.size + 1 ∧ E7 < gr ∧ gi < w7a.heap.size ∧ w5.heap.size ≤ E7 ∧ gr < gi) := ⟨szA _ _, by have := HZ7.out; omega, hBi.lt, by have h1 := HZ7.out; have h2 := C7.out.size; have h3 := HS6.out g6 (.inl rfl); omega, hgi⟩
  clear hTr x0 x1 hgr hBr hBi hgi b7 b78 hal K7 L7 KR7 C7 HZ7
  go_upto_region 11 with fail
  generalize w7a.heap.size = ER at *
  generalize w7a.alloc (.cells #[.slice (some ⟨gr, 0, none⟩) us.length us.length, .slice (some ⟨gi, 0, none⟩) hs.length hs.length] 40) = w8 at *
  have hI := HI.out g6 l6 xs6 w8 gr gi HX6.out L8.out F8.out.at I8.out.int (chainB HB5.out C8.out)
  obtain ⟨x0, x1, x2⟩ := K8.out.three
  obtain ⟨z0, z1⟩ := R8.out.two
  go_wp2_with fail
  refine hI.mono ?_
  rintro e w8a ⟨⟨v1, v2, xsg, rfl, hxg, ho⟩, b8⟩
  obtain ⟨qg, cg, pg, dg, rfl, rfl, _⟩ := ho.at hxg
  have HXG : Hid (xsg.map (·.1) = RS) := hxg
  have hal : Below w8a.heap.size w8a (w8a.alloc (.cells #[.slice qg RS.length cg, .slice pg LV.length dg, .int .i64 NW, .int .i64 KK, .int .i64 CC] 50)) := (Below.refl _ _).alloc (Nat.le_refl _) _
  have b89 := chainB b8 hal
  have O9 : Hid (LgO w8.heap.size xsg LV (.slice qg RS.length cg) (.slice pg LV.length dg) (w8a.alloc (.cells #[.slice qg RS.length cg, .slice pg LV.length dg, .int .i64 NW, .int .i64 KK, .int .i64 CC] 50))) := ho.below hal
  have HSG : Hid (∀ k, lqS xsg (.slice qg RS.length cg) (.slice pg LV.length dg) k → w8.heap.size ≤ k ∧ k < w8a.heap.size) := fun k hk => lqS_from ho hk
  have HSW : Hid (∀ k, lqS xsw (.slice qw RS.length cw) (.slice pw LV.length dw) k → w.heap.size ≤ k ∧ k < w5.heap.size) := fun k hk => lqS_from O5.out hk
  have HLK : Hid (AfK w #[.slice q rs.length cq, .slice p lv.length cp, .int .i64 now] #[.slice p1 us.length c1, .slice p2 hs.length c2] E1 w8a.heap.size #[.slice qw RS.length cw, .slice pw LV.length dw, .int .i64 NW, .int .i64 KK, .int .i64 CC] #[.slice qg RS.length cg, .slice pg LV.length dg, .int .i64 NW, .int .i64 KK, .int .i64 CC] xsw LV (.slice qw RS.length cw) (.slice pw LV.length dw) (w8a.alloc (.cells #[.slice qg RS.length cg, .slice pg LV.length dg, .int .i64 NW, .int .i64 KK, .int .i64 CC] 50))) := ⟨chainB (chainB HB5.out C8.out) b89, (KA5.out.below C8.out).below b89, (KR5.out.below C8.out).below b89, (Q5.out.below C8.out).below b89, Bxs.new _ _ _, (O5.out.below C8.out).below b89⟩
  have K9 : Hid (Bxs (w8a.alloc (.cells #[.slice qg RS.length cg, .slice pg LV.length dg, .int .i64 NW, .int .i64 KK, .int .i64 CC] 50)) E7 36 #[.slice (some ⟨g6, 0, none⟩) rs.length rs.length, .slice (some ⟨l6, 0, none⟩) lv.length lv.length, .int .i64 now]) := K8.out.below b89
  have L9 : Hid (LgB (w8a.alloc (.cells #[.slice qg RS.length cg, .slice pg LV.length dg, .int .i64 NW, .int .i64 KK, .int .i64 CC] 50)) g6 xs6 l6 lv) := L8.out.below b89
  have R9 : Hid (Bxs (w8a.alloc (.cells #[.slice qg RS.length cg, .slice pg LV.length dg, .int .i64 NW, .int .i64 KK, .int .i64 CC] 50)) ER 40 #[.slice (some ⟨gr, 0, none⟩) us.length us.length, .slice (some ⟨gi, 0, none⟩) hs.length hs.length]) := R8.out.below b89
  have F9 : Hid (BlkU (w8a.alloc (.cells #[.slice qg RS.length cg, .slice pg LV.length dg, .int .i64 NW, .int .i64 KK, .int .i64 CC] 50)) gr us) := F8.out.below b89
  have I9 : Hid (BlkI (w8a.alloc (.cells #[.slice qg RS.length cg, .slice pg LV.length dg, .int .i64 NW, .int .i64 KK, .int .i64 CC] 50)) gi hs) := I8.out.belw b89
  have HZ9 : Hid (w8.heap.size = ER + 1 ∧ E7 < gr ∧ gi < ER ∧ w5.heap.size ≤ E7 ∧ w8.heap.size ≤ w8a.heap.size ∧ gr < gi) := ⟨HZ8.out.1, HZ8.out.2.1, HZ8.out.2.2.1, HZ8.out.2.2.2.1, b8.size, HZ8.out.2.2.2.2⟩
  clear hI x0 x1 x2 z0 z1 b8 b89 hal ho hxg K8 L8 R8 F8 I8 KA5 KR5 Q5 O5 HZ8
  go_upto_region 12 with fail
  generalize w8a.heap.size = E8 at *
  generalize w8a.alloc (.cells #[.slice qg RS.length cg, .slice pg LV.length dg, .int .i64 NW, .int .i64 KK, .int .i64 CC] 50) = w9 at *
  obtain ⟨a0, a1, a2, a3, a4⟩ := HLK.out.b8.five
  obtain ⟨e0, e1, e2, e3, e4⟩ := HLK.out.b1.five
  have hQ := HEO.out w9 _ _ xsg xsw _ _ _ _ O9.out HLK.out.lw HXG.out HXW.out
  go_wp2_with fail
  refine hQ.mono ?_
  rintro e w10 ⟨rfl, z⟩
  have HLK2 : Hid (AfK w #[.slice q rs.length cq, .slice p lv.length cp, .int .i64 now] #[.slice p1 us.length c1, .slice p2 hs.length c2] E1 E8 #[.slice qw RS.length cw, .slice pw LV.length dw, .int .i64 NW, .int .i64 KK, .int .i64 CC] #[.slice qg RS.length cg, .slice pg LV.length dg, .int .i64 NW, .int .i64 KK, .int .i64 CC] xsw LV (.slice qw RS.length cw) (.slice pw LV.length dw) w10) := HLK.out.below z
  have K10 : Hid (Bxs w10 E7 36 #[.slice (some ⟨g6, 0, none⟩) rs.length rs.length, .slice (some ⟨l6, 0, none⟩) lv.length lv.length, .int .i64 now]) := K9.out.below z
  have L10 : Hid (LgB w10 g6 xs6 l6 lv) := L9.out.below z
  have R10 : Hid (Bxs w10 ER 40 #[.slice (some ⟨gr, 0, none⟩) us.length us.length, .slice (some ⟨gi, 0, none⟩) hs.length hs.length]) := R9.out.below z
  have F10 : Hid (BlkU w10 gr us) := F9.out.below z
  have I10 : Hid (BlkI w10 gi hs) := I9.out.belw z
  have O10 : Hid (LgO w8.heap.size xsg LV (.slice qg RS.length cg) (.slice pg LV.length dg) w10) := O9.out.below z
  clear hQ a0 a1 a2 a3 a4 e0 e1 e2 e3 e4 z HLK K9 L9 R9 F9 I9 O9
  have HX : Hid (∀ x, Below w10.heap.size w10 x → (x.cell? ⟨w.heap.size, 0, none⟩ = some (.slice q rs.length cq) ∧ x.cell? ⟨w.heap.size, 1, none⟩ = some (.slice p lv.length cp) ∧ x.cell? ⟨w.heap.size, 2, none⟩ = some (.int .i64 now)) ∧ x.cell? ⟨E7, 0, none⟩ = some (.slice (some ⟨g6, 0, none⟩) rs.length rs.length) ∧ x.cell? ⟨E7, 1, none⟩ = some (.slice (some ⟨l6, 0, none⟩) lv.length lv.length) ∧ x.cell? ⟨E7, 2, none⟩ = some (.int .i64 now)) := fun x hb => ⟨(HLK2.out.ba.below hb).three, (K10.out.below hb).three⟩
  have BR : Hid (Below w10.heap.size w10 w10.drew) := (Below.refl _ _).drew
  go_upto_region 14 with fail
  go_cut [52] from 48 to 52 (fun s wx => s = .bool false ∧ Hid (Below w10.heap.size w10 wx))
  case first =>
    go_region_held3 (fun w' => (w'.cell? ⟨w.heap.size, 0, none⟩ = some (.slice q rs.length cq) ∧ w'.cell? ⟨w.heap.size, 1, none⟩ = some (.slice p lv.length cp) ∧ w'.cell? ⟨w.heap.size, 2, none⟩ = some (.int .i64 now)) ∧ w'.cell? ⟨E7, 0, none⟩ = some (.slice (some ⟨g6, 0, none⟩) rs.length rs.length) ∧ w'.cell? ⟨E7, 1, none⟩ = some (.slice (some ⟨l6, 0, none⟩) lv.length lv.length) ∧ w'.cell? ⟨E7, 2, none⟩ = some (.int .i64 now)) ((first | exact HX.out _ BR.out | exact HX.out _ q1 | exact HX.out _ q2)) (first
      | (go_at_call 9; with_reducible refine (HTo.out _ (chainB HLK2.out.bel BR.out)).mono ?_; rintro e t1 ⟨g9, l9, xs9, hx9, hg9, rfl, j9, z1⟩; have q1 : Below w10.heap.size w10 t1 := chainB BR.out z1)
      | (go_at_call 13; with_reducible refine (HEq.out _ g6 l6 xs6 g9 l9 xs9 HX6.out (L10.out.below q1) hx9 j9).mono ?_; rintro e t2 ⟨rfl, z2⟩; have q2 : Below w10.heap.size w10 t2 := chainB q1 z2))
    all_goals
      have HQ2 : Hid (Below w10.heap.size w10 t2) := q2
      clear q1 q2 z1 z2 j9 hx9 hg9
      go_wp2_with fail
      go_meet
      exact ⟨rfl, HQ2⟩
  case rest =>
  obtain ⟨rfl, hc⟩ := hcut
  rename World => w11
  have HLK3 : Hid (AfK w #[.slice q rs.length cq, .slice p lv.length cp, .int .i64 now] #[.slice p1 us.length c1, .slice p2 hs.length c2] E1 E8 #[.slice qw RS.length cw, .slice pw LV.length dw, .int .i64 NW, .int .i64 KK, .int .i64 CC] #[.slice qg RS.length cg, .slice pg LV.length dg, .int .i64 NW, .int .i64 KK, .int .i64 CC] xsw LV (.slice qw RS.length cw) (.slice pw LV.length dw) w11) := HLK2.out.below hc.out
  have K11 : Hid (Bxs w11 E7 36 #[.slice (some ⟨g6, 0, none⟩) rs.length rs.length, .slice (some ⟨l6, 0, none⟩) lv.length lv.length, .int .i64 now]) := K10.out.below hc.out
  have L11 : Hid (LgB w11 g6 xs6 l6 lv) := L10.out.below hc.out
  have R11 : Hid (Bxs w11 ER 40 #[.slice (some ⟨gr, 0, none⟩) us.length us.length, .slice (some ⟨gi, 0, none⟩) hs.length hs.length]) := R10.out.below hc.out
  have F11 : Hid (BlkU w11 gr us) := F10.out.below hc.out
  have I11 : Hid (BlkI w11 gi hs) := I10.out.belw hc.out
  have O11 : Hid (LgO w8.heap.size xsg LV (.slice qg RS.length cg) (.slice pg LV.length dg) w11) := O10.out.below hc.out
  clear hc HX BR HLK2 K10 L10 R10 F10 I10 O10
  have HX : Hid (∀ x, Below w11.heap.size w11 x → (x.cell? ⟨w.heap.size + 1, 0, none⟩ = some (.slice p1 us.length c1) ∧ x.cell? ⟨w.heap.size + 1, 1, none⟩ = some (.slice p2 hs.length c2)) ∧ x.cell? ⟨ER, 0, none⟩ = some (.slice (some ⟨gr, 0, none⟩) us.length us.length) ∧ x.cell? ⟨ER, 1, none⟩ = some (.slice (some ⟨gi, 0, none⟩) hs.length hs.length)) := fun x hb => ⟨(HLK3.out.br.below hb).two, (R11.out.below hb).two⟩
  have BR : Hid (Below w11.heap.size w11 w11.drew) := (Below.refl _ _).drew
  go_upto_region 16 with fail
  go_cut [57] from 53 to 57 (fun s wx => s = .bool false ∧ Hid (Below w11.heap.size w11 wx))
  case first =>
    go_region_held3 (fun w' => (w'.cell? ⟨w.heap.size + 1, 0, none⟩ = some (.slice p1 us.length c1) ∧ w'.cell? ⟨w.heap.size + 1, 1, none⟩ = some (.slice p2 hs.length c2)) ∧ w'.cell? ⟨ER, 0, none⟩ = some (.slice (some ⟨gr, 0, none⟩) us.length us.length) ∧ w'.cell? ⟨ER, 1, none⟩ = some (.slice (some ⟨gi, 0, none⟩) hs.length hs.length)) ((first | exact HX.out _ BR.out | exact HX.out _ q1 | exact HX.out _ q2)) (first
      | (go_at_call 10; with_reducible refine (HTr.out _ (chainB HLK3.out.bel BR.out)).mono ?_; rintro e t1 ⟨g9, h9, hg9, hh9, rfl, j9, j8, z1⟩; have q1 : Below w11.heap.size w11 t1 := chainB BR.out z1)
      | (go_at_call 14; with_reducible refine (HEr.out _ gr gi g9 h9 (F11.out.below q1).at (I11.out.belw q1).int j9.at j8.int).mono ?_; rintro e t2 ⟨rfl, z2⟩; have q2 : Below w11.heap.size w11 t2 := chainB q1 z2))
    all_goals
      have HQ2 : Hid (Below w11.heap.size w11 t2) := q2
      clear q1 q2 z1 z2 j9 j8 hg9 hh9
      go_wp2_with fail
      go_meet
      exact ⟨rfl, HQ2⟩
  case rest =>
  obtain ⟨rfl, hc⟩ := hcut
  rename World => w12
  have HLK4 : Hid (AfK w #[.slice q rs.length cq, .slice p lv.length cp, .int .i64 now] #[.slice p1 us.length c1, .slice p2 hs.length c2] E1 E8 #[.slice qw RS.length cw, .slice pw LV.length dw, .int .i64 NW, .int .i64 KK, .int .i64 CC] #[.slice qg RS.length cg, .slice pg LV.length dg, .int .i64 NW, .int .i64 KK, .int .i64 CC] xsw LV (.slice qw RS.length cw) (.slice pw LV.length dw) w12) := HLK3.out.below hc.out
  have K12 : Hid (Bxs w12 E7 36 #[.slice (some ⟨g6, 0, none⟩) rs.length rs.length, .slice (some ⟨l6, 0, none⟩) lv.length lv.length, .int .i64 now]) := K11.out.below hc.out
  have L12 : Hid (LgB w12 g6 xs6 l6 lv) := L11.out.below hc.out
  have R12 : Hid (Bxs w12 ER 40 #[.slice (some ⟨gr, 0, none⟩) us.length us.length, .slice (some ⟨gi, 0, none⟩) hs.length hs.length]) := R11.out.below hc.out
  have F12 : Hid (BlkU w12 gr us) := F11.out.below hc.out
  have I12 : Hid (BlkI w12 gi hs) := I11.out.belw hc.out
  have O12 : Hid (LgO w8.heap.size xsg LV (.slice qg RS.length cg) (.slice pg LV.length dg) w12) := O11.out.below hc.out
  clear hc HX BR HLK3 K11 L11 R11 F11 I11 O11
  obtain ⟨x0, x1, x2⟩ := K12.out.three
  have hM := HML.out w12 g6 l6 xs6 HX6.out L12.out
  go_upto_region 19 with fail
  go_wp2_with fail
  refine hM.mono ?_
  rintro e w13 ⟨⟨m, rfl, m1, m2⟩, kb⟩
  have HMm : Hid (1 ≤ m ∧ m + 4 * us.length + hs.length ≤ 16777210) := ⟨m1, m2⟩
  have HLK5 : Hid (AfK w #[.slice q rs.length cq, .slice p lv.length cp, .int .i64 now] #[.slice p1 us.length c1, .slice p2 hs.length c2] E1 E8 #[.slice qw RS.length cw, .slice pw LV.length dw, .int .i64 NW, .int .i64 KK, .int .i64 CC] #[.slice qg RS.length cg, .slice pg LV.length dg, .int .i64 NW, .int .i64 KK, .int .i64 CC] xsw LV (.slice qw RS.length cw) (.slice pw LV.length dw) w13) := HLK4.out.but kb (fun k hk => by
    have h1 := HS6.out k hk
    have h2 := HE1.out
    have h3 := HZ9.out
    refine ⟨by omega, by omega, by omega, fun h => ?_⟩
    have := HSW.out k h
    omega)
  have O13 : Hid (LgO w8.heap.size xsg LV (.slice qg RS.length cg) (.slice pg LV.length dg) w13) := O12.out.but kb (fun k hk hs => by
    have h1 := HS6.out k hs
    have h2 := HSG.out k hk
    have h3 := HZ9.out
    omega)
  have R13 : Hid (Bxs w13 ER 40 #[.slice (some ⟨gr, 0, none⟩) us.length us.length, .slice (some ⟨gi, 0, none⟩) hs.length hs.length]) := R12.out.but kb (fun e => by have := HS6.out _ e; have := HZ9.out; omega)
  have F13 : Hid (BlkU w13 gr us) := Bxs.but F12.out kb (fun e => by have := HS6.out _ e; have := HZ9.out; omega)
  have I13 : Hid (BlkI w13 gi hs) := Bxs.but (T := 2) (cs := (intRow hs).toArray) I12.out kb (fun e => by have := HS6.out _ e; have := HZ9.out; omega)
  clear hM kb x0 x1 x2 K12 L12 R12 F12 I12 HLK4 O12 m1 m2
  obtain ⟨x0, x1⟩ := R13.out.two
  have hMr := HMR.out w13 gr gi m F13.out I13.out HZ9.out.2.2.2.2.2 (by have := HZ9.out; have := HE1.out; omega) HMm.out.1 HMm.out.2
  go_upto_region 20 with fail
  go_wp2_with fail
  refine hMr.mono ?_
  rintro e w14 ⟨rfl, kb⟩
  have HLK6 : Hid (AfK w #[.slice q rs.length cq, .slice p lv.length cp, .int .i64 now] #[.slice p1 us.length c1, .slice p2 hs.length c2] E1 E8 #[.slice qw RS.length cw, .slice pw LV.length dw, .int .i64 NW, .int .i64 KK, .int .i64 CC] #[.slice qg RS.length cg, .slice pg LV.length dg, .int .i64 NW, .int .i64 KK, .int .i64 CC] xsw LV (.slice qw RS.length cw) (.slice pw LV.length dw) w14) := HLK5.out.but kb (fun k hk => by
    have h2 := HE1.out
    have h3 := HZ9.out
    refine ⟨by omega, by omega, by omega, fun h => ?_⟩
    have := HSW.out k h
    omega)
  have O14 : Hid (LgO w8.heap.size xsg LV (.slice qg RS.length cg) (.slice pg LV.length dg) w14) := O13.out.but kb (fun k hk hs => by
    have h2 := HSG.out k hk
    have h3 := HZ9.out
    omega)
  have dm : decide ((hs.length : Int) + (4 * (us.length : Int) + (m : Int)) < 0) = false := decide_eq_false (by omega)
  clear hMr kb x0 x1 R13 F13 I13 HLK5 O13
  obtain ⟨a0, a1, a2, a3, a4⟩ := HLK6.out.b8.five
  obtain ⟨e0, e1, e2, e3, e4⟩ := HLK6.out.b1.five
  have hQ := HEO.out w14 _ _ xsg xsw _ _ _ _ O14.out HLK6.out.lw HXG.out HXW.out
  go_wp2_with fail
  refine hQ.mono ?_
  rintro e w15 ⟨rfl, z⟩
  have HLK7 : Hid (AfK w #[.slice q rs.length cq, .slice p lv.length cp, .int .i64 now] #[.slice p1 us.length c1, .slice p2 hs.length c2] E1 E8 #[.slice qw RS.length cw, .slice pw LV.length dw, .int .i64 NW, .int .i64 KK, .int .i64 CC] #[.slice qg RS.length cg, .slice pg LV.length dg, .int .i64 NW, .int .i64 KK, .int .i64 CC] xsw LV (.slice qw RS.length cw) (.slice pw LV.length dw) w15) := HLK6.out.below z
  have O15 : Hid (LgO w8.heap.size xsg LV (.slice qg RS.length cg) (.slice pg LV.length dg) w15) := O14.out.below z
  clear hQ a0 a1 a2 a3 a4 e0 e1 e2 e3 e4 z HLK6 O14 dm
  obtain ⟨a0, a1, a2, a3, a4⟩ := HLK7.out.b8.five
  have hM := HMO.out w15 _ xsg _ _ HXG.out O15.out
  have dT : decide (((mkT xsg + LV.length : Nat) : Int) < 0) = false := decide_eq_false (by omega)
  have dN : ((((mkT xsg + LV.length : Nat) : Int)) != ((mkT xsg + LV.length : Nat) : Int)) = false := by simp
  obtain ⟨T, hTT⟩ : ∃ T : Nat, T = mkT xsg + LV.length := ⟨_, rfl⟩
  have HTT : Hid (T = mkT xsg + LV.length) := hTT
  rw [← hTT] at hM dT dN
  clear hTT
  go_wp2_with fail
  refine hM.mono ?_
  rintro e w16 ⟨rfl, hm, kb⟩
  have HM16 : Hid (LgM w8.heap.size xsg LV.length (.slice qg RS.length cg) (.slice pg LV.length dg) w16) := hm
  have HLK8 : Hid (AfK w #[.slice q rs.length cq, .slice p lv.length cp, .int .i64 now] #[.slice p1 us.length c1, .slice p2 hs.length c2] E1 E8 #[.slice qw RS.length cw, .slice pw LV.length dw, .int .i64 NW, .int .i64 KK, .int .i64 CC] #[.slice qg RS.length cg, .slice pg LV.length dg, .int .i64 NW, .int .i64 KK, .int .i64 CC] xsw LV (.slice qw RS.length cw) (.slice pw LV.length dw) w16) := HLK7.out.but kb (fun k hk => by
    have h1 := HSG.out k hk
    have h2 := HE1.out
    have h3 := HZ9.out
    refine ⟨by omega, by omega, by omega, fun h => ?_⟩
    have := HSW.out k h
    omega)
  clear hM hm kb a0 a1 a2 a3 a4 HLK7 O15
  obtain ⟨a0, a1, a2, a3, a4⟩ := HLK8.out.b8.five
  have hH := HHO.out w16 _ xsg _ _ HXG.out HM16.out
  rw [← HTT.out] at hH
  go_wp2_with fail
  refine hH.mono ?_
  rintro e w17 ⟨rfl, z⟩
  have HLK9 : Hid (AfK w #[.slice q rs.length cq, .slice p lv.length cp, .int .i64 now] #[.slice p1 us.length c1, .slice p2 hs.length c2] E1 E8 #[.slice qw RS.length cw, .slice pw LV.length dw, .int .i64 NW, .int .i64 KK, .int .i64 CC] #[.slice qg RS.length cg, .slice pg LV.length dg, .int .i64 NW, .int .i64 KK, .int .i64 CC] xsw LV (.slice qw RS.length cw) (.slice pw LV.length dw) w17) := HLK8.out.below z
  have HM17 : Hid (LgM w8.heap.size xsg LV.length (.slice qg RS.length cg) (.slice pg LV.length dg) w17) := HM16.out.below z
  clear hH a0 a1 a2 a3 a4 z HLK8 HM16
  have KA : Hid (Bxs w17 w.heap.size 25 #[.slice q rs.length cq, .slice p lv.length cp, .int .i64 now]) := HLK9.out.ba
  have KR : Hid (Bxs w17 (w.heap.size + 1) 29 #[.slice p1 us.length c1, .slice p2 hs.length c2]) := HLK9.out.br
  have QT : Hid (∀ x, Below w17.heap.size w17 x → Calls Tryz.prog 9 #[.agg #[.slice q rs.length cq, .slice p lv.length cp, .int .i64 now]] x fun e w' => ∃ g gl xs, xs.map (·.1) = rs ∧ x.heap.size ≤ g ∧ e = .returned (.agg #[.slice (some ⟨g, 0, none⟩) rs.length rs.length, .slice (some ⟨gl, 0, none⟩) lv.length lv.length, .int .i64 now]) ∧ LgB w' g xs gl lv ∧ Below x.heap.size x w') := fun x hb => HTo.out x (chainB HLK9.out.bel hb)
  have QR : Hid (∀ x, Below w17.heap.size w17 x → Calls Tryz.prog 10 #[.agg #[.slice p1 us.length c1, .slice p2 hs.length c2]] x fun e w' => ∃ g h, x.heap.size ≤ g ∧ g < h ∧ e = .returned (.agg #[.slice (some ⟨g, 0, none⟩) us.length us.length, .slice (some ⟨h, 0, none⟩) hs.length hs.length]) ∧ BlkU w' g us ∧ BlkI w' h hs ∧ Below x.heap.size x w') := fun x hb => HTr.out x (chainB HLK9.out.bel hb)
  have QP : Hid (∀ g gl xs x gr gi, xs.map (·.1) = rs → LgB x g xs gl lv → RulAt x (some ⟨gr, 0, none⟩) us → IntAt x (some ⟨gi, 0, none⟩) hs → Below w17.heap.size w17 x → Calls Tryz.prog 20 #[.agg #[.slice (some ⟨g, 0, none⟩) rs.length rs.length, .slice (some ⟨gl, 0, none⟩) lv.length lv.length, .int .i64 now], .agg #[.slice (some ⟨gr, 0, none⟩) us.length us.length, .slice (some ⟨gi, 0, none⟩) hs.length hs.length], .int .i64 r, .int .i64 f] x fun e w' => SwA x.heap.size RS LV NW KK CC e w' ∧ Below x.heap.size x w') := fun g gl xs x gr gi hx hB hU hI hb => HI.out g gl xs x gr gi hx hB hU hI (chainB HLK9.out.bel hb)
  have HX : Hid (∀ x, Below w17.heap.size w17 x → (x.cell? ⟨w.heap.size, 0, none⟩ = some (.slice q rs.length cq) ∧ x.cell? ⟨w.heap.size, 1, none⟩ = some (.slice p lv.length cp) ∧ x.cell? ⟨w.heap.size, 2, none⟩ = some (.int .i64 now)) ∧ x.cell? ⟨w.heap.size + 1, 0, none⟩ = some (.slice p1 us.length c1) ∧ x.cell? ⟨w.heap.size + 1, 1, none⟩ = some (.slice p2 hs.length c2)) := fun x hb => ⟨(KA.out.below hb).three, (KR.out.below hb).two⟩
  have BR : Below w17.heap.size w17 w17.drew := (Below.refl _ _).drew
  clear HI HML HMR HMO HEq HEr
  go_upto_region 31 with fail
  go_cut [17] from 83 to 89 (fun s6 wx => ∃ Eb q9 c9 p9 d9 xs9, s6 = .pointer (some ⟨Eb, 0, none⟩) ∧ Hid (xs9.map (·.1) = RS ∧ PuW w17 xs9 LV (.slice q9 RS.length c9) (.slice p9 LV.length d9) NW KK CC Eb wx))
  case first =>
    refine region_till (fun w' => (w'.cell? ⟨w.heap.size, 0, none⟩ = some (.slice q rs.length cq) ∧ w'.cell? ⟨w.heap.size, 1, none⟩ = some (.slice p lv.length cp) ∧ w'.cell? ⟨w.heap.size, 2, none⟩ = some (.int .i64 now)) ∧ w'.cell? ⟨w.heap.size + 1, 0, none⟩ = some (.slice p1 us.length c1) ∧ w'.cell? ⟨w.heap.size + 1, 1, none⟩ = some (.slice p2 hs.length c2)) 8 (by kernel_rfl) (HX.out _ BR) (fun hHeld => ?_)
    generalize w17.drew = x0 at *
    refine till_take 0 (v := ?_) rfl (by kernel_rfl) (by kernel_rfl) (by kernel_rfl) (by kernel_rfl) (fun _ _ _ h => h) hHeld (Or.inl ⟨by rfl, ?_⟩) ?_
    rotate_left
    · (intro w hSw; (try dsimp only at hSw); go_simp; try with_reducible rfl)
    simp only [Act.put, List.setIfInBounds_toArray, List.set_cons_zero, List.set_cons_succ]
    refine till_take 2 (v := ?_) rfl (by kernel_rfl) (by kernel_rfl) (by kernel_rfl) (by kernel_rfl) (fun _ _ _ h => h) hHeld (Or.inl ⟨by rfl, ?_⟩) ?_
    rotate_left
    · (intro w hSw; (try dsimp only at hSw); go_simp; try with_reducible rfl)
    simp only [Act.put, List.setIfInBounds_toArray, List.set_cons_zero, List.set_cons_succ]
    refine till_take 4 (v := ?_) rfl (by kernel_rfl) (by kernel_rfl) (by kernel_rfl) (by kernel_rfl) (fun _ _ _ h => h) hHeld (Or.inl ⟨by rfl, ?_⟩) ?_
    rotate_left
    · (intro w hSw; (try dsimp only at hSw); go_simp; try with_reducible rfl)
    simp only [Act.put, List.setIfInBounds_toArray, List.set_cons_zero, List.set_cons_succ]
    refine till_take 5 (v := ?_) rfl (by kernel_rfl) (by kernel_rfl) (by kernel_rfl) (by kernel_rfl) (fun _ _ _ h => h) hHeld (Or.inl ⟨by rfl, ?_⟩) ?_
    rotate_left
    · (intro w hSw; (try dsimp only at hSw); go_simp; try with_reducible rfl)
    simp only [Act.put, List.setIfInBounds_toArray, List.set_cons_zero, List.set_cons_succ]
    refine till_ready2 1 7 rfl rfl (by kernel_rfl) (fun K hK => ?_) (fun K hK => ?_)
    · go_simp
      (go_at_call 9; refine (QT.out _ BR).mono ?_; rintro e y_1 ⟨g8, l8, xs8, hx8, -, rfl, j1, z_1⟩)
      have HX8 : Hid (xs8.map (·.1) = rs) := hx8
      clear hx8
      have b_1 := chainB BR z_1
      refine hK.out _ _ (HX.out _ b_1) (fun hHeld => ?_)
      clear hK K
      try simp only [Act.put, List.setIfInBounds_toArray, List.set_cons_zero, List.set_cons_succ]
      refine till_ready2 3 7 rfl rfl (by kernel_rfl) (fun K hK => ?_) (fun K hK => ?_)
      · go_simp
        (go_at_call 10; refine (QR.out _ b_1).mono ?_; rintro e y_2 ⟨g9, h9, -, -, rfl, j2, j3, z_2⟩)
        have j2 := j2.at
        have j3 := j3.int
        have b_2 := chainB b_1 z_2
        have j1 := j1.below z_2
        refine hK.out _ _ (HX.out _ b_2) (fun hHeld => ?_)
        clear hK K
        try simp only [Act.put, List.setIfInBounds_toArray, List.set_cons_zero, List.set_cons_succ]
        refine till_ready2 6 7 rfl rfl (by kernel_rfl) (fun K hK => ?_) (fun K hK => ?_)
        · go_simp
          (go_at_call 20; refine (QP.out g8 l8 xs8 _ g9 h9 HX8.out j1 j2 j3 b_2).mono ?_; rintro e y_3 ⟨⟨v1, v2, xs9, rfl, hx9, oW⟩, z_3⟩)
          obtain ⟨q9, c9, p9, d9, rfl, rfl, _⟩ := oW.at hx9
          have oL := oW.lower b_2.size
          clear oW
          have b_3 := chainB b_2 z_3
          have j1 := j1.below z_3
          have j2 := j2.below z_3
          have j3 := j3.below z_3
          refine hK.out _ _ (HX.out _ b_3) (fun hHeld => ?_)
          clear hK K
          try simp only [Act.put, List.setIfInBounds_toArray, List.set_cons_zero, List.set_cons_succ]
          refine till_ready 7 rfl (by kernel_rfl) (fun K hK => ?_)
          go_simp
          have kE : Bxs (y_3.alloc (.cells #[.slice none 0 0, .slice none 0 0, .int .i64 0, .int .i64 0, .int .i64 0] 50)) y_3.heap.size 50 #[.slice none 0 0, .slice none 0 0, .int .i64 0, .int .i64 0, .int .i64 0] := Bxs.new _ _ _
          have b_4 : Below w17.heap.size w17 (y_3.alloc (.cells #[.slice none 0 0, .slice none 0 0, .int .i64 0, .int .i64 0, .int .i64 0] 50)) := alB b_3 _
          have hEb : w17.heap.size ≤ y_3.heap.size := b_3.size
          replace j1 := j1.below (alB (Below.refl _ _) (.cells #[.slice none 0 0, .slice none 0 0, .int .i64 0, .int .i64 0, .int .i64 0] 50))
          replace j2 := j2.below (alB (Below.refl _ _) (.cells #[.slice none 0 0, .slice none 0 0, .int .i64 0, .int .i64 0, .int .i64 0] 50))
          replace j3 := j3.below (alB (Below.refl _ _) (.cells #[.slice none 0 0, .slice none 0 0, .int .i64 0, .int .i64 0, .int .i64 0] 50))
          replace oL := oL.below (alB (Below.refl _ _) (.cells #[.slice none 0 0, .slice none 0 0, .int .i64 0, .int .i64 0, .int .i64 0] 50))
          refine hK.out _ _ (HX.out _ b_4) (fun hHeld => ?_)
          clear hK K
          try simp only [Act.put, List.setIfInBounds_toArray, List.set_cons_zero, List.set_cons_succ]
          generalize y_3.alloc (.cells #[.slice none 0 0, .slice none 0 0, .int .i64 0, .int .i64 0, .int .i64 0] 50) = u at *
          generalize y_3.heap.size = Eb at *
          have HP : Hid (xs9.map (·.1) = RS ∧ PuW w17 xs9 LV (.slice q9 RS.length c9) (.slice p9 LV.length d9) NW KK CC Eb (((((u.setCell ⟨Eb, 0, none⟩ (.slice q9 RS.length c9)).setCell ⟨Eb, 1, none⟩ (.slice p9 LV.length d9)).setCell ⟨Eb, 2, none⟩ (.int .i64 NW)).setCell ⟨Eb, 3, none⟩ (.int .i64 KK)).setCell ⟨Eb, 4, none⟩ (.int .i64 CC))) := ⟨hx9, PuW.put kE hEb oL b_4⟩
          have qc0 : u.cell? ⟨Eb, 0, none⟩ = some (.slice none 0 0) := kE.cell 0
          have qc1 : u.cell? ⟨Eb, 1, none⟩ = some (.slice none 0 0) := kE.cell 1
          have qc2 : u.cell? ⟨Eb, 2, none⟩ = some (.int .i64 0) := kE.cell 2
          have qc3 : u.cell? ⟨Eb, 3, none⟩ = some (.int .i64 0) := kE.cell 3
          have qc4 : u.cell? ⟨Eb, 4, none⟩ = some (.int .i64 0) := kE.cell 4
          have qf0 := kE.fr 0
          have qf1 := kE.fr 1
          have qf2 := kE.fr 2
          have qf3 := kE.fr 3
          have qf4 := kE.fr 4
          clear hx9
          refine till_last rfl (by kernel_rfl) (by kernel_rfl) (fun K hK => ?_)
          go_simp
          refine hK.out _ _ ?_
          clear hK K hHeld qc0 qf0 qc1 qf1 qc2 qf2 qc3 qf3 qc4 qf4
          go_wp2_with fail
          go_meet
          exact ⟨_, _, _, _, _, _, rfl, HP⟩
        · go_simp
          have kE : Bxs (y_2.alloc (.cells #[.slice none 0 0, .slice none 0 0, .int .i64 0, .int .i64 0, .int .i64 0] 50)) y_2.heap.size 50 #[.slice none 0 0, .slice none 0 0, .int .i64 0, .int .i64 0, .int .i64 0] := Bxs.new _ _ _
          have b_5 : Below w17.heap.size w17 (y_2.alloc (.cells #[.slice none 0 0, .slice none 0 0, .int .i64 0, .int .i64 0, .int .i64 0] 50)) := alB b_2 _
          have hEb : w17.heap.size ≤ y_2.heap.size := b_2.size
          replace j1 := j1.below (alB (Below.refl _ _) (.cells #[.slice none 0 0, .slice none 0 0, .int .i64 0, .int .i64 0, .int .i64 0] 50))
          replace j2 := j2.below (alB (Below.refl _ _) (.cells #[.slice none 0 0, .slice none 0 0, .int .i64 0, .int .i64 0, .int .i64 0] 50))
          replace j3 := j3.below (alB (Below.refl _ _) (.cells #[.slice none 0 0, .slice none 0 0, .int .i64 0, .int .i64 0, .int .i64 0] 50))
          refine hK.out _ _ (HX.out _ b_5) (fun hHeld => ?_)
          clear hK K
          try simp only [Act.put, List.setIfInBounds_toArray, List.set_cons_zero, List.set_cons_succ]
          generalize y_2.alloc (.cells #[.slice none 0 0, .slice none 0 0, .int .i64 0, .int .i64 0, .int .i64 0] 50) = u at *
          generalize y_2.heap.size = Eb at *
          refine till_ready 6 rfl (by kernel_rfl) (fun K hK => ?_)
          go_simp
          (go_at_call 20; refine (QP.out g8 l8 xs8 _ g9 h9 HX8.out j1 j2 j3 b_5).mono ?_; rintro e y_6 ⟨⟨v1, v2, xs9, rfl, hx9, oW⟩, z_6⟩)
          obtain ⟨q9, c9, p9, d9, rfl, rfl, _⟩ := oW.at hx9
          have oL := oW.lower b_5.size
          clear oW
          have b_6 := chainB b_5 z_6
          have j1 := j1.below z_6
          have j2 := j2.below z_6
          have j3 := j3.below z_6
          have kE := kE.below z_6
          refine hK.out _ _ (HX.out _ b_6) (fun hHeld => ?_)
          clear hK K
          try simp only [Act.put, List.setIfInBounds_toArray, List.set_cons_zero, List.set_cons_succ]
          have HP : Hid (xs9.map (·.1) = RS ∧ PuW w17 xs9 LV (.slice q9 RS.length c9) (.slice p9 LV.length d9) NW KK CC Eb (((((y_6.setCell ⟨Eb, 0, none⟩ (.slice q9 RS.length c9)).setCell ⟨Eb, 1, none⟩ (.slice p9 LV.length d9)).setCell ⟨Eb, 2, none⟩ (.int .i64 NW)).setCell ⟨Eb, 3, none⟩ (.int .i64 KK)).setCell ⟨Eb, 4, none⟩ (.int .i64 CC))) := ⟨hx9, PuW.put kE hEb oL b_6⟩
          have qc0 : y_6.cell? ⟨Eb, 0, none⟩ = some (.slice none 0 0) := kE.cell 0
          have qc1 : y_6.cell? ⟨Eb, 1, none⟩ = some (.slice none 0 0) := kE.cell 1
          have qc2 : y_6.cell? ⟨Eb, 2, none⟩ = some (.int .i64 0) := kE.cell 2
          have qc3 : y_6.cell? ⟨Eb, 3, none⟩ = some (.int .i64 0) := kE.cell 3
          have qc4 : y_6.cell? ⟨Eb, 4, none⟩ = some (.int .i64 0) := kE.cell 4
          have qf0 := kE.fr 0
          have qf1 := kE.fr 1
          have qf2 := kE.fr 2
          have qf3 := kE.fr 3
          have qf4 := kE.fr 4
          clear hx9
          refine till_last rfl (by kernel_rfl) (by kernel_rfl) (fun K hK => ?_)
          go_simp
          refine hK.out _ _ ?_
          clear hK K hHeld qc0 qf0 qc1 qf1 qc2 qf2 qc3 qf3 qc4 qf4
          go_wp2_with fail
          go_meet
          exact ⟨_, _, _, _, _, _, rfl, HP⟩
      · go_simp
        have kE : Bxs (y_1.alloc (.cells #[.slice none 0 0, .slice none 0 0, .int .i64 0, .int .i64 0, .int .i64 0] 50)) y_1.heap.size 50 #[.slice none 0 0, .slice none 0 0, .int .i64 0, .int .i64 0, .int .i64 0] := Bxs.new _ _ _
        have b_7 : Below w17.heap.size w17 (y_1.alloc (.cells #[.slice none 0 0, .slice none 0 0, .int .i64 0, .int .i64 0, .int .i64 0] 50)) := alB b_1 _
        have hEb : w17.heap.size ≤ y_1.heap.size := b_1.size
        replace j1 := j1.below (alB (Below.refl _ _) (.cells #[.slice none 0 0, .slice none 0 0, .int .i64 0, .int .i64 0, .int .i64 0] 50))
        refine hK.out _ _ (HX.out _ b_7) (fun hHeld => ?_)
        clear hK K
        try simp only [Act.put, List.setIfInBounds_toArray, List.set_cons_zero, List.set_cons_succ]
        generalize y_1.alloc (.cells #[.slice none 0 0, .slice none 0 0, .int .i64 0, .int .i64 0, .int .i64 0] 50) = u at *
        generalize y_1.heap.size = Eb at *
        refine till_ready 3 rfl (by kernel_rfl) (fun K hK => ?_)
        go_simp
        (go_at_call 10; refine (QR.out _ b_7).mono ?_; rintro e y_8 ⟨g9, h9, -, -, rfl, j2, j3, z_8⟩)
        have j2 := j2.at
        have j3 := j3.int
        have b_8 := chainB b_7 z_8
        have j1 := j1.below z_8
        have kE := kE.below z_8
        refine hK.out _ _ (HX.out _ b_8) (fun hHeld => ?_)
        clear hK K
        try simp only [Act.put, List.setIfInBounds_toArray, List.set_cons_zero, List.set_cons_succ]
        refine till_ready 6 rfl (by kernel_rfl) (fun K hK => ?_)
        go_simp
        (go_at_call 20; refine (QP.out g8 l8 xs8 _ g9 h9 HX8.out j1 j2 j3 b_8).mono ?_; rintro e y_9 ⟨⟨v1, v2, xs9, rfl, hx9, oW⟩, z_9⟩)
        obtain ⟨q9, c9, p9, d9, rfl, rfl, _⟩ := oW.at hx9
        have oL := oW.lower b_8.size
        clear oW
        have b_9 := chainB b_8 z_9
        have j1 := j1.below z_9
        have j2 := j2.below z_9
        have j3 := j3.below z_9
        have kE := kE.below z_9
        refine hK.out _ _ (HX.out _ b_9) (fun hHeld => ?_)
        clear hK K
        try simp only [Act.put, List.setIfInBounds_toArray, List.set_cons_zero, List.set_cons_succ]
        have HP : Hid (xs9.map (·.1) = RS ∧ PuW w17 xs9 LV (.slice q9 RS.length c9) (.slice p9 LV.length d9) NW KK CC Eb (((((y_9.setCell ⟨Eb, 0, none⟩ (.slice q9 RS.length c9)).setCell ⟨Eb, 1, none⟩ (.slice p9 LV.length d9)).setCell ⟨Eb, 2, none⟩ (.int .i64 NW)).setCell ⟨Eb, 3, none⟩ (.int .i64 KK)).setCell ⟨Eb, 4, none⟩ (.int .i64 CC))) := ⟨hx9, PuW.put kE hEb oL b_9⟩
        have qc0 : y_9.cell? ⟨Eb, 0, none⟩ = some (.slice none 0 0) := kE.cell 0
        have qc1 : y_9.cell? ⟨Eb, 1, none⟩ = some (.slice none 0 0) := kE.cell 1
        have qc2 : y_9.cell? ⟨Eb, 2, none⟩ = some (.int .i64 0) := kE.cell 2
        have qc3 : y_9.cell? ⟨Eb, 3, none⟩ = some (.int .i64 0) := kE.cell 3
        have qc4 : y_9.cell? ⟨Eb, 4, none⟩ = some (.int .i64 0) := kE.cell 4
        have qf0 := kE.fr 0
        have qf1 := kE.fr 1
        have qf2 := kE.fr 2
        have qf3 := kE.fr 3
        have qf4 := kE.fr 4
        clear hx9
        refine till_last rfl (by kernel_rfl) (by kernel_rfl) (fun K hK => ?_)
        go_simp
        refine hK.out _ _ ?_
        clear hK K hHeld qc0 qf0 qc1 qf1 qc2 qf2 qc3 qf3 qc4 qf4
        go_wp2_with fail
        go_meet
        exact ⟨_, _, _, _, _, _, rfl, HP⟩
    · go_simp
      have kE : Bxs (x0.alloc (.cells #[.slice none 0 0, .slice none 0 0, .int .i64 0, .int .i64 0, .int .i64 0] 50)) x0.heap.size 50 #[.slice none 0 0, .slice none 0 0, .int .i64 0, .int .i64 0, .int .i64 0] := Bxs.new _ _ _
      have b_10 : Below w17.heap.size w17 (x0.alloc (.cells #[.slice none 0 0, .slice none 0 0, .int .i64 0, .int .i64 0, .int .i64 0] 50)) := alB BR _
      have hEb : w17.heap.size ≤ x0.heap.size := BR.size
      refine hK.out _ _ (HX.out _ b_10) (fun hHeld => ?_)
      clear hK K
      try simp only [Act.put, List.setIfInBounds_toArray, List.set_cons_zero, List.set_cons_succ]
      generalize x0.alloc (.cells #[.slice none 0 0, .slice none 0 0, .int .i64 0, .int .i64 0, .int .i64 0] 50) = u at *
      generalize x0.heap.size = Eb at *
      refine till_ready 1 rfl (by kernel_rfl) (fun K hK => ?_)
      go_simp
      (go_at_call 9; refine (QT.out _ b_10).mono ?_; rintro e y_11 ⟨g8, l8, xs8, hx8, -, rfl, j1, z_11⟩)
      have HX8 : Hid (xs8.map (·.1) = rs) := hx8
      clear hx8
      have b_11 := chainB b_10 z_11
      have kE := kE.below z_11
      refine hK.out _ _ (HX.out _ b_11) (fun hHeld => ?_)
      clear hK K
      try simp only [Act.put, List.setIfInBounds_toArray, List.set_cons_zero, List.set_cons_succ]
      refine till_ready 3 rfl (by kernel_rfl) (fun K hK => ?_)
      go_simp
      (go_at_call 10; refine (QR.out _ b_11).mono ?_; rintro e y_12 ⟨g9, h9, -, -, rfl, j2, j3, z_12⟩)
      have j2 := j2.at
      have j3 := j3.int
      have b_12 := chainB b_11 z_12
      have j1 := j1.below z_12
      have kE := kE.below z_12
      refine hK.out _ _ (HX.out _ b_12) (fun hHeld => ?_)
      clear hK K
      try simp only [Act.put, List.setIfInBounds_toArray, List.set_cons_zero, List.set_cons_succ]
      refine till_ready 6 rfl (by kernel_rfl) (fun K hK => ?_)
      go_simp
      (go_at_call 20; refine (QP.out g8 l8 xs8 _ g9 h9 HX8.out j1 j2 j3 b_12).mono ?_; rintro e y_13 ⟨⟨v1, v2, xs9, rfl, hx9, oW⟩, z_13⟩)
      obtain ⟨q9, c9, p9, d9, rfl, rfl, _⟩ := oW.at hx9
      have oL := oW.lower b_12.size
      clear oW
      have b_13 := chainB b_12 z_13
      have j1 := j1.below z_13
      have j2 := j2.below z_13
      have j3 := j3.below z_13
      have kE := kE.below z_13
      refine hK.out _ _ (HX.out _ b_13) (fun hHeld => ?_)
      clear hK K
      try simp only [Act.put, List.setIfInBounds_toArray, List.set_cons_zero, List.set_cons_succ]
      have HP : Hid (xs9.map (·.1) = RS ∧ PuW w17 xs9 LV (.slice q9 RS.length c9) (.slice p9 LV.length d9) NW KK CC Eb (((((y_13.setCell ⟨Eb, 0, none⟩ (.slice q9 RS.length c9)).setCell ⟨Eb, 1, none⟩ (.slice p9 LV.length d9)).setCell ⟨Eb, 2, none⟩ (.int .i64 NW)).setCell ⟨Eb, 3, none⟩ (.int .i64 KK)).setCell ⟨Eb, 4, none⟩ (.int .i64 CC))) := ⟨hx9, PuW.put kE hEb oL b_13⟩
      have qc0 : y_13.cell? ⟨Eb, 0, none⟩ = some (.slice none 0 0) := kE.cell 0
      have qc1 : y_13.cell? ⟨Eb, 1, none⟩ = some (.slice none 0 0) := kE.cell 1
      have qc2 : y_13.cell? ⟨Eb, 2, none⟩ = some (.int .i64 0) := kE.cell 2
      have qc3 : y_13.cell? ⟨Eb, 3, none⟩ = some (.int .i64 0) := kE.cell 3
      have qc4 : y_13.cell? ⟨Eb, 4, none⟩ = some (.int .i64 0) := kE.cell 4
      have qf0 := kE.fr 0
      have qf1 := kE.fr 1
      have qf2 := kE.fr 2
      have qf3 := kE.fr 3
      have qf4 := kE.fr 4
      clear hx9
      refine till_last rfl (by kernel_rfl) (by kernel_rfl) (fun K hK => ?_)
      go_simp
      refine hK.out _ _ ?_
      clear hK K hHeld qc0 qf0 qc1 qf1 qc2 qf2 qc3 qf3 qc4 qf4
      go_wp2_with fail
      go_meet
      exact ⟨_, _, _, _, _, _, rfl, HP⟩
  case rest =>
  obtain ⟨E12, qk, ck, pk, dk, xsk, rfl, hPK⟩ := hcut
  rename World => w18
  clear QP QT QR HX BR KA KR
  have HXK : Hid (xsk.map (·.1) = RS) := hPK.out.1
  have OK18 : Hid (LgO w17.heap.size xsk LV (.slice qk RS.length ck) (.slice pk LV.length dk) w18) := hPK.out.2.lg
  have Q18 : Hid (Bxs w18 E12 50 #[.slice qk RS.length ck, .slice pk LV.length dk, .int .i64 NW, .int .i64 KK, .int .i64 CC]) := hPK.out.2.box
  have HLKa : Hid (AfK w #[.slice q rs.length cq, .slice p lv.length cp, .int .i64 now] #[.slice p1 us.length c1, .slice p2 hs.length c2] E1 E8 #[.slice qw RS.length cw, .slice pw LV.length dw, .int .i64 NW, .int .i64 KK, .int .i64 CC] #[.slice qg RS.length cg, .slice pg LV.length dg, .int .i64 NW, .int .i64 KK, .int .i64 CC] xsw LV (.slice qw RS.length cw) (.slice pw LV.length dw) w18) := HLK9.out.below hPK.out.2.bel
  have HM18 : Hid (LgM w8.heap.size xsg LV.length (.slice qg RS.length cg) (.slice pg LV.length dg) w18) := HM17.out.below hPK.out.2.bel
  clear hPK HLK9 HM17
  obtain ⟨a0, a1, a2, a3, a4⟩ := Q18.out.five
  obtain ⟨e0, e1, e2, e3, e4⟩ := HLKa.out.b1.five
  have hQ := HEO.out w18 _ _ xsk xsw _ _ _ _ OK18.out HLKa.out.lw HXK.out HXW.out
  go_wp2_with fail
  refine hQ.mono ?_
  rintro e w19 ⟨rfl, z⟩
  have HLKb : Hid (AfK w #[.slice q rs.length cq, .slice p lv.length cp, .int .i64 now] #[.slice p1 us.length c1, .slice p2 hs.length c2] E1 E8 #[.slice qw RS.length cw, .slice pw LV.length dw, .int .i64 NW, .int .i64 KK, .int .i64 CC] #[.slice qg RS.length cg, .slice pg LV.length dg, .int .i64 NW, .int .i64 KK, .int .i64 CC] xsw LV (.slice qw RS.length cw) (.slice pw LV.length dw) w19) := HLKa.out.below z
  have HM19 : Hid (LgM w8.heap.size xsg LV.length (.slice qg RS.length cg) (.slice pg LV.length dg) w19) := HM18.out.below z
  clear hQ a0 a1 a2 a3 a4 e0 e1 e2 e3 e4 z HLKa HM18 OK18 Q18
  obtain ⟨a0, a1, a2, a3, a4⟩ := HLKb.out.b8.five
  have hH := HHO.out w19 _ xsg _ _ HXG.out HM19.out
  rw [← HTT.out] at hH
  go_wp2_with fail
  refine hH.mono ?_
  rintro e w20 ⟨rfl, z⟩
  clear hH a0 a1 a2 a3 a4
  go_wp2_with fail
  go_ret
  exact ⟨rfl, chainB HLKb.out.bel z⟩

theorem contract (H : Type) (enc : TypeId × Value → H) (W : World) (base : Nat) (args : Array Value) (ds gs : List (DataW H)) (before : List MemPlace)
    (hval : ∀ (j : Nat) t v, Tryz.f4.params[j]? = some t → args[j]? = some v → Value.okWide Tryz.prog W .any base t v)
    (hW : DataW.Whole enc Tryz.prog Tryz.f4.params.toList Rows.fnExactAskForgetSpec.vars false W args.toList ds gs before) (hL : laidMetH Tryz.prog Rows.fnExactAskForgetRow.laid W) :
    Calls Tryz.prog 4 args W fun e W' => ∃ v, e = .returned v ∧ Rows.fnExactAskForgetSpec.post enc Tryz.prog Tryz.f4 false true false false W args v W' := by
  have hW' := hW
  obtain ⟨p, q, hA0, hV, rfl, hfz, hnd⟩ := hW
  have hA : DataW.TrodAll enc Tryz.prog W 0 (fun _ => true) true Tryz.f4.params.toList args.toList ds p := hA0
  rw [Tryz.params4] at hA hval
  obtain ⟨v0, vs0, d0, ds0, p0, q0, hargs, rfl, rfl, h0, r0⟩ := trodAll_cons hA
  obtain ⟨v1, vs1, d1, ds1, p1, q1, rfl, rfl, rfl, h1, r1⟩ := trodAll_cons r0
  obtain ⟨v2, vs2, d2, ds2, p2, q2, rfl, rfl, rfl, h2, r2⟩ := trodAll_cons r1
  obtain ⟨v3, vs3, d3, ds3, p3, q3, rfl, rfl, rfl, h3, r3⟩ := trodAll_cons r2
  obtain ⟨rfl, rfl, rfl⟩ := trodAll_nil r3
  obtain rfl : args = #[v0, v1, v2, v3] := by cases args; simp_all
  have hV2 : DataW.TrodVars enc Tryz.prog W (fun _ => true) ["loop.example/g00633/impl.firstState", "loop.example/g00633/impl.roundNums"] gs q := hV
  obtain ⟨_, _, _, _, e0, _, _, _, _, _, e1, _, rfl, _⟩ := trodVars_two hV2
  have k0 := h0
  have lt0 : ∀ x ∈ p0, x.block < W.heap.size := by obtain ⟨m, hm⟩ := k0; exact DataW.trod_lt m _ _ _ hm
  obtain ⟨q0, cq0, rs0, pp0, cp0, lv0, now0, rfl, w0⟩ := open_log (hval 0 25 v0 rfl rfl) h0
  have k1 := h1
  have lt1 : ∀ x ∈ p1, x.block < W.heap.size := by obtain ⟨m, hm⟩ := k1; exact DataW.trod_lt m _ _ _ hm
  obtain ⟨a1, len1, cap1, b1, lenb1, capb1, rfl, ⟨ss1, wa1⟩, ⟨ts1, wb1⟩⟩ := open_policy (hval 1 29 v1 rfl rfl) h1
  have w1 := And.intro wa1 wb1
  obtain ⟨a2, rfl, rfl, rfl, w2⟩ := open_int Tryz.underlying2 (hval 2 2 v2 rfl rfl) h2
  obtain ⟨a3, rfl, rfl, rfl, w3⟩ := open_int Tryz.underlying2 (hval 3 2 v3 rfl rfl) h3
  clear hA0
  obtain ⟨hT, hLd⟩ := laid3_of hL
  refine (walk q0 cq0 rs0 pp0 cp0 lv0 now0 a1 len1 cap1 ss1 b1 lenb1 capb1 ts1 a2 a3 W w0 w1 w2 w3 hT hLd).mono fun e W' ⟨he, hg⟩ => ?_
  subst he
  exact ⟨_, rfl, _, _, _, [], _, _, hW', (trodAll_cons_mk (shut_bool Tryz.underlying4 _) trodAll_mk0), (trodAll_cons_mk (Below.trod laidOut (by kernel_rfl) (of_decide_eq_true (by kernel_rfl)) k0 hg lt0) (trodAll_cons_mk (Below.trod laidOut (by kernel_rfl) (of_decide_eq_true (by kernel_rfl)) k1 hg lt1) (trodAll_cons_mk (shut_int Tryz.underlying2 w2) (trodAll_cons_mk (shut_int Tryz.underlying2 w3) trodAll_mk0)))), Below.trodVars laidOut hg (by kernel_rfl) hV, hg.frame _, fun h => by cases h⟩

/-- A start in which the listed variables lie as the program's text lays them: what the door's own run leaves. -/
noncomputable def wit (os : Os) : World := World.doorLaid Tryz.prog 26 os
theorem laid_met (os : Os) : laidMetH Tryz.prog Rows.fnExactAskForgetRow.laid ((wit os).forCall (fun _ _ => 0) ⟨#[], #[.agg #[.slice none 0 0, .slice none 0 0, .int .i64 0], .agg #[.slice none 0 0, .slice none 0 0], .int .i64 0, .int .i64 0], []⟩).memory :=
  laidMetH_of_parts3 (fuel := 8) (laidMet_of_run' 8 (by kernel_rfl) (by kernel_rfl)) (by kernel_rfl) (by kernel_rfl)
theorem reads (os : Os) {H : Type} (enc : TypeId × Value → H) : ∃ gs places, DataW.whole enc Tryz.prog ((wit os).forCall (fun _ _ => 0) ⟨#[], #[.agg #[.slice none 0 0, .slice none 0 0, .int .i64 0], .agg #[.slice none 0 0, .slice none 0 0], .int .i64 0, .int .i64 0], []⟩).memory Tryz.f4.params.toList Rows.fnExactAskForgetSpec.vars false #[Value.agg #[.slice none 0 0, .slice none 0 0, .int .i64 0], Value.agg #[.slice none 0 0, .slice none 0 0], Value.int .i64 0, Value.int .i64 0].toList 8 = some ([.agg [.nil, .nil, .lit (.int .i64 0)], .agg [.nil, .nil], .lit (.int .i64 0), .lit (.int .i64 0)], gs, places) := by
  have h : (DataW.whole enc Tryz.prog ((wit os).forCall (fun _ _ => 0) ⟨#[], #[.agg #[.slice none 0 0, .slice none 0 0, .int .i64 0], .agg #[.slice none 0 0, .slice none 0 0], .int .i64 0, .int .i64 0], []⟩).memory Tryz.f4.params.toList Rows.fnExactAskForgetSpec.vars false #[Value.agg #[.slice none 0 0, .slice none 0 0, .int .i64 0], Value.agg #[.slice none 0 0, .slice none 0 0], Value.int .i64 0, Value.int .i64 0].toList 8).map (fun x => x.1) = some [.agg [.nil, .nil, .lit (.int .i64 0)], .agg [.nil, .nil], .lit (.int .i64 0), .lit (.int .i64 0)] := by kernel_rfl
  obtain ⟨⟨a, b, c⟩, hx, hy⟩ := Option.map_eq_some_iff.1 h
  cases hy
  exact ⟨b, c, hx⟩

set_option maxRecDepth 100000 in
theorem lifted (os : Os) (started : os.Started) (H : Type) (enc : TypeId × Value → H) (F : Stop.Interp) :
    ReturnsInHanded {} Tryz.checked os 4 .any ((OpenSpec.ofChange Rows.fnExactAskForgetSpec).preRow enc Tryz.prog Tryz.f4 Rows.fnExactAskForgetRow.domain false Rows.fnExactAskForgetRow.laid) (((OpenSpec.ofChange Rows.fnExactAskForgetSpec).at F).post enc Tryz.prog Tryz.f4 false true false false) := by
  obtain ⟨gs, places, hx⟩ := reads os enc
  refine returnsInHanded_of_row (C := Tryz.checked) (s := OpenSpec.ofChange Rows.fnExactAskForgetSpec) own started (by kernel_rfl) Tryz.func4
    (witness_row_at (enc := enc) (C := Tryz.checked) false (wit os) #[.agg #[.slice none 0 0, .slice none 0 0, .int .i64 0], .agg #[.slice none 0 0, .slice none 0 0], .int .i64 0, .int .i64 0] rfl (by kernel_rfl) (by kernel_rfl) (by kernel_rfl)
      (OpenSpec.preRow_of_cond 8 hx rfl (fun k hk => by cases hk) (by kernel_rfl) (laid_met os))) ?_
  intro W base args ds gs before hval hW _ _ _ hL _ _
  exact contract H enc W base args ds gs before hval hW hL

theorem said : Rows.FnExactAskForgetSaid :=
  OpenClaim.holds_of_cond 4 Tryz.f4 rfl rfl rfl rfl rfl rfl rfl ⟨rfl, rfl, rfl, rfl, rfl⟩ rfl rfl rfl rfl rfl saidA Tryz.func4 saidB
    saidC saidD
    (fun os started H enc _ F => by rw [OpenClaim.pre_eq_preRow]; exact lifted os started H enc F)

theorem plain (f : FuncId) (fn : Func) (hf : Tryz.pinned.checked.prog.funcNamed "loop.example/g00633/laws.FnExactAskForget" = some f) (hfn : Tryz.pinned.checked.prog.funcs[f]? = some fn) :
    Rows.fnExactAskForgetCard.stood.looks = Tryz.pinned.checked.prog.looks [] ∧ ∀ (j : Nat) t, fn.params[j]? = some t → Tryz.pinned.checked.prog.wantsStandIn t = false := by
  obtain rfl : f = 4 := Option.some.inj ((show Tryz.prog.funcNamed "loop.example/g00633/laws.FnExactAskForget" = some 4 by kernel_rfl).symm.trans hf) |>.symm
  obtain rfl : fn = Tryz.f4 := (Option.some.inj (Tryz.func4.symm.trans hfn)).symm
  refine ⟨by kernel_rfl, fun j t ht => ?_⟩
  rw [Tryz.params4] at ht
  have hm := Array.mem_of_getElem? ht
  have hl : t ∈ ([25, 29, 2, 2] : List TypeId) := by simpa using hm
  simp only [List.mem_cons, List.not_mem_nil, or_false] at hl
  rcases hl with rfl | rfl | rfl | rfl
  · exact (show Tryz.prog.wantsStandIn 25 = false by kernel_rfl)
  · exact (show Tryz.prog.wantsStandIn 29 = false by kernel_rfl)
  · exact (show Tryz.prog.wantsStandIn 2 = false by kernel_rfl)
  · exact (show Tryz.prog.wantsStandIn 2 = false by kernel_rfl)

theorem proved : Rows.FnExactAskForgetCardSaid :=
  Claim7.holds_tied_plain_at .later [] _ _ _ _ said (fun _ h => by cases h) (by kernel_rfl) (fun _ h => by cases h) fnExactAskForget_row_tie rfl ⟨rfl, rfl⟩ (by kernel_rfl) rfl plain (by kernel_rfl)
#print axioms proved
end Go.Proofs.YtokkeadbkeehgaaGreatDoor.fnExactAskForget
