/-
  For every log and every row, field and reason the law FnExactLogForget returns true: the program's LogForget answers as the specification's, writes into no argument, keeps nothing of one, and its answer owns its memory; the card ties the listed variables, errors.errorType and the two tables firstState and roundNums, to the program's text.
  Conditions: none of mine; the form's own reach; the listed variables as the program's text lays them (the given tie). The card speaks of the pruned copy of the project that the seat names.
-/
import Derived.Test.YthfecjjahoflcaaGreatDoorCards
import Derived.Test.YthfecjjahoflcaaGreatDoorTie
import Derived.Test.YthfecjjahoflcaaGreatDoorSlASlBBxKOwnSTakesLTillTwo
import Derived.Test.YthfecjjahoflcaaGreatDoorJoinedPutTextFldMathFldGShwK
import Derived.Test.YthfecjjahoflcaaGreatDoorLgMathLgAtKRwBlkLawF
import Derived.Test.YthfecjjahoflcaaGreatDoorLawLgLawLh
import Derived.Test.YthfecjjahoflcaaGreatDoorLawLzLawMGLawLm
import Derived.Test.YthfecjjahoflcaaGreatDoorLawLoLawLqLgAnsLgRtLtMathLawLt
import Derived.Test.YthfecjjahoflcaaGreatDoorLawLkRowOpsLgO
import Derived.Test.YthfecjjahoflcaaGreatDoorLaMathLfMathLfSumStepAppOwnBTurn2
import Derived.Test.YthfecjjahoflcaaGreatDoorLfS
import Derived.Test.YthfecjjahoflcaaGreatDoorLfI
import Derived.Test.YthfecjjahoflcaaGreatDoorOpFOpLgTabsOfTabEt
import Derived.WalkKit
import Derived.ProofKit
import Derived.OpenShut
import Derived.OpenVars
import Derived.ShutString
import Derived.LaidHandle
import Derived.LaidLaws
import Derived.LaidMore
import Derived.Deep.DeepHandedRow
import Derived.ChangeOld
import Derived.Below
import Derived.Deep.RegionHeld3
import Derived.Deep.Cut
import Derived.Handy
import Derived.WalkSpells
namespace Go.Proofs.YthfecjjahoflcaaGreatDoor.fnExactLogForget
open Go.ChangeShapes Go.WideShapes Go.ChangeAt Go.RowKit
open Go.ChangeMaps (open_string shut_string)
set_option linter.unusedVariables false
set_option maxRecDepth 100000

theorem own : ownKnob Tryz.prog.godebug = none := by kernel_rfl
theorem laidOut : laidOutB Tryz.prog = true := by kernel_rfl

theorem int_bd {k : Int} (h : (Lit.int .i64 k).wf = true) : -9223372036854775808 ≤ k ∧ k ≤ 9223372036854775807 := by simpa [Lit.wf, IntKind.min, IntKind.max, IntKind.signed, IntKind.bits] using h
set_option maxHeartbeats 8000000 in
theorem walk (q : Option Addr) (cq : Nat) (rs : List Rw) (p : Option Addr) (cp : Nat) (lv : List ByteArray) (now : Int) (r f y : Int) (w : World) (w0 : IsLog w q cq rs p cp lv now) (w1 : (Lit.int .i64 r).wf = true) (w2 : (Lit.int .i64 f).wf = true) (w3 : (Lit.int .i64 y).wf = true) (hT : Tabs w) (hg : Laid w) :
    Calls Tryz.prog 4 #[.agg #[.slice q rs.length cq, .slice p lv.length cp, .int .i64 now], .int .i64 r, .int .i64 f, .int .i64 y] w fun e w' => e = .returned (.bool true) ∧ Below w.heap.size w w' := by
  obtain ⟨⟨-, hRw, hcq, hmq, hzr⟩, ⟨-, hTx, hcp, hmp, hzl⟩, hnow⟩ := w0
  have n0 := int_bd hnow
  have HT : Hid (Tabs w) := hT
  have HG : Hid (Laid w) := hg
  have HR : Hid (RwAt w q rs) := hRw
  have HL : Hid (TxtAt w p lv) := hTx
  have HZR : Hid (∀ r ∈ rs, r.fs.length ≤ maxLen ∧ r.k.size ≤ maxLen ∧ FldsLe r.fs) := hzr
  have HZL : Hid (∀ x ∈ lv, x.size ≤ maxLen) := hzl
  have HBg : Hid (RwsBig rs) := fun r hr => by have h := hzr r hr; unfold maxLen at h; exact ⟨h.1, h.2.1, fun f hf => by have := h.2.2 f hf; unfold maxLen at this; exact this⟩
  have HLB : Hid (∀ x ∈ lv, x.size ≤ 9223372036854775807) := fun x hx => by have := hzl x hx; unfold maxLen at this; exact this
  unfold maxLen at hmq hmp
  clear hRw hTx hzr hzl hT hg w1 w2 w3 hnow
  obtain ⟨W1, hW1⟩ : ∃ W1, W1 = w.alloc (.cells #[.slice q rs.length cq, .slice p lv.length cp, .int .i64 now] 25) := ⟨_, rfl⟩
  have HW1 : Hid (W1 = w.alloc (.cells #[.slice q rs.length cq, .slice p lv.length cp, .int .i64 now] 25)) := hW1
  have B1 : Hid (Below w.heap.size w W1) := by rw [hW1]; exact (Below.refl _ _).alloc (Nat.le_refl _) _
  have K1 : Hid (Bxs W1 w.heap.size 25 #[.slice q rs.length cq, .slice p lv.length cp, .int .i64 now]) := by rw [hW1]; exact Bxs.new _ _ _
  have hSz := szLogZ_any q cq rs p cp lv now W1 (HR.out.below B1.out) (by omega) hcq HBg.out (HL.out.below B1.out) (by omega) hcp HLB.out
  obtain ⟨x0, x1, x2⟩ := K1.out.three
  clear hW1
  go_enter Tryz.func4, Tryz.ntmps4
  go_upto_region 1 with fail
  rw [← HW1.out]
  go_wp2_with fail
  refine hSz.mono ?_
  rintro e w2 ⟨⟨r0, rfl, hr⟩, b2⟩
  clear hSz x0 x1 x2
  rcases hr with rfl | ⟨hr0, hsum⟩
  · go_wp2_with fail
    go_ret
    exact ⟨rfl, chainB B1.out b2⟩
  have hrf : ∀ x ∈ rs, x.fs.length ≤ 1048576 := fun x hx => by have := fsN_mem hx; omega
  have hrn : rs.length ≤ 1048576 := by omega
  have hln : lv.length ≤ 1048576 := by omega
  have HSum : Hid (rs.length + fsN rs + lv.length ≤ 1048576) := hsum
  have dr : decide (r0 < 0) = false := decide_eq_false (by omega)
  have HB2 : Hid (Below w.heap.size w w2) := chainB B1.out b2
  have K2 : Hid (Bxs w2 w.heap.size 25 #[.slice q rs.length cq, .slice p lv.length cp, .int .i64 now]) := K1.out.below b2
  have HAt : Hid (∀ g gl xs x, xs.map (·.1) = rs → LgB x g xs gl lv → LgAt (some ⟨gl, 0, none⟩) lv lv.length (some ⟨g, 0, none⟩) rs rs.length x) := fun g gl xs x hx hB => ⟨hB.lf.txt, Nat.le_refl _, hln, HZL.out, by have := hB.rw.at; rwa [hx] at this, Nat.le_refl _, hrn, fun r hr => ⟨hrf r hr, (HZR.out r hr).2.1, (HZR.out r hr).2.2⟩⟩
  have HTo : Hid (∀ x, Below w.heap.size w x → Calls Tryz.prog 8 #[.agg #[.slice q rs.length cq, .slice p lv.length cp, .int .i64 now]] x fun e w' => ∃ g gl xs, xs.map (·.1) = rs ∧ x.heap.size ≤ g ∧ e = .returned (.agg #[.slice (some ⟨g, 0, none⟩) rs.length rs.length, .slice (some ⟨gl, 0, none⟩) lv.length lv.length, .int .i64 now]) ∧ LgB w' g xs gl lv ∧ Below x.heap.size x w') := fun x hb => toLog_any q cq rs p cp lv now x (HR.out.below hb) hrn hcq hrf (HL.out.below hb) hln hcp
  obtain ⟨RS, hRS⟩ : ∃ RS, RS = lfR rs lv now r f y := ⟨_, rfl⟩
  obtain ⟨LV, hLV⟩ : ∃ LV, LV = lfL rs lv now r f y := ⟨_, rfl⟩
  obtain ⟨NW, hNW⟩ : ∃ NW, NW = lfN rs lv now r f y := ⟨_, rfl⟩
  obtain ⟨CC, hCC⟩ : ∃ CC, CC = lfC rs lv now r f y := ⟨_, rfl⟩
  have hS2 : RS.length + fsN RS + LV.length ≤ 1048576 := by rw [hRS, hLV]; exact lf_sum
  have HS2 : Hid (RS.length + fsN RS + LV.length ≤ 1048576) := hS2
  have HS : Hid (∀ g gl xs x, xs.map (·.1) = rs → LgB x g xs gl lv → Calls Tryz.prog 18 #[.agg #[.slice (some ⟨g, 0, none⟩) rs.length rs.length, .slice (some ⟨gl, 0, none⟩) lv.length lv.length, .int .i64 now], .int .i64 r, .int .i64 f, .int .i64 y] x fun e w' => LgA x.heap.size RS LV NW CC e w' ∧ Below x.heap.size x w') := fun g gl xs x hx hB => by rw [hRS, hLV, hNW, hCC]; exact specLogForget_any (some ⟨gl, 0, none⟩) lv lv.length (some ⟨g, 0, none⟩) rs rs.length now r f y x (HAt.out g gl xs x hx hB)
  have HI : Hid (∀ g gl xs x, xs.map (·.1) = rs → LgB x g xs gl lv → Below w.heap.size w x → Calls Tryz.prog 19 #[.agg #[.slice (some ⟨g, 0, none⟩) rs.length rs.length, .slice (some ⟨gl, 0, none⟩) lv.length lv.length, .int .i64 now], .int .i64 r, .int .i64 f, .int .i64 y] x fun e w' => LgA x.heap.size RS LV NW CC e w' ∧ Below x.heap.size x w') := fun g gl xs x hx hB hb => by rw [hRS, hLV, hNW, hCC]; exact implLogForget_any (some ⟨gl, 0, none⟩) lv lv.length (some ⟨g, 0, none⟩) rs rs.length now r f y x (HT.out.to hb) (HG.out.below hb) (HAt.out g gl xs x hx hB)
  have HRF2 : Hid (∀ x ∈ rs, x.fs.length ≤ 1048576) := hrf
  have HEq : Hid (∀ x g gl xs g' gl' xs', xs.map (·.1) = rs → LgB x g xs gl lv → xs'.map (·.1) = rs → LgB x g' xs' gl' lv → Calls Tryz.prog 12 #[.agg #[.slice (some ⟨g, 0, none⟩) rs.length rs.length, .slice (some ⟨gl, 0, none⟩) lv.length lv.length, .int .i64 now], .agg #[.slice (some ⟨g', 0, none⟩) rs.length rs.length, .slice (some ⟨gl', 0, none⟩) lv.length lv.length, .int .i64 now]] x fun e w' => e = .returned (.bool true) ∧ Below x.heap.size x w') := fun x g gl xs g' gl' xs' hx hB hx' hB' => eqLog_any (some ⟨g, 0, none⟩) (some ⟨g', 0, none⟩) rs.length rs.length rs (some ⟨gl, 0, none⟩) (some ⟨gl', 0, none⟩) lv.length lv.length lv now x (by have := hB.rw.at; rwa [hx] at this) (by have := hB'.rw.at; rwa [hx'] at this) hrn (Nat.le_refl _) (Nat.le_refl _) hrf hB.lf.txt hB'.lf.txt hln (Nat.le_refl _) (Nat.le_refl _)
  have HEO : Hid (∀ x b b' xs xs' v1 v2 u1 u2, LgO b xs LV v1 v2 x → LgO b' xs' LV u1 u2 x → xs.map (·.1) = RS → xs'.map (·.1) = RS → Calls Tryz.prog 11 #[.agg #[v1, v2, .int .i64 NW, .int .i64 CC], .agg #[u1, u2, .int .i64 NW, .int .i64 CC]] x fun e w' => e = .returned (.bool true) ∧ Below x.heap.size x w') := fun x b b' xs xs' v1 v2 u1 u2 h h' hx hx' => eqLogOut_any b b' xs xs' RS LV v1 v2 u1 u2 NW CC x h h' hx hx' (by have := HS2.out; omega) (fun z hz => by have := fsN_mem hz; have := HS2.out; omega) (by have := HS2.out; omega)
  have HML : Hid (∀ x g gl xs, xs.map (·.1) = rs → LgB x g xs gl lv → Calls Tryz.prog 14 #[.agg #[.slice (some ⟨g, 0, none⟩) rs.length rs.length, .slice (some ⟨gl, 0, none⟩) lv.length lv.length, .int .i64 now], .int .i64 1] x fun e w' => (∃ m : Nat, e = .returned (.int .i64 (m : Int))) ∧ But (lgS g xs gl) x w') := fun x g gl xs hx hB => by
    have hl : xs.length = rs.length := by rw [← hx, List.length_map]
    have := markLog_any g xs gl lv now 1 x hB (Nat.le_refl _) (by omega) hln (by rw [hx]; have := HSum.out; omega)
    rw [hl] at this
    exact this
  have HLn : Hid (∀ xs : List (Rw × Value), xs.map (·.1) = RS → xs.length ≤ 1048576 ∧ mkT xs + LV.length ≤ 16777210) := fun xs hx => by
    have h : xs.length = RS.length := by rw [← hx, List.length_map]
    have := HS2.out
    exact ⟨by omega, by unfold mkT; rw [hx]; omega⟩
  have HMO : Hid (∀ x b xs v1 v2, xs.map (·.1) = RS → LgO b xs LV v1 v2 x → Calls Tryz.prog 16 #[.agg #[v1, v2, .int .i64 NW, .int .i64 CC], .int .i64 1] x fun e w' => e = .returned (.int .i64 ((mkT xs + LV.length : Nat) : Int)) ∧ LgM b xs LV.length v1 v2 w' ∧ But (lqS xs v1 v2) x w') := fun x b xs v1 v2 hx h => markLogOutO_any b xs LV v1 v2 NW CC x h (HLn.out xs hx).1 (HLn.out xs hx).2
  have HHO : Hid (∀ x b xs v1 v2, xs.map (·.1) = RS → LgM b xs LV.length v1 v2 x → Calls Tryz.prog 17 #[.agg #[v1, v2, .int .i64 NW, .int .i64 CC], .int .i64 1] x fun e w' => e = .returned (.int .i64 ((mkT xs + LV.length : Nat) : Int)) ∧ Below x.heap.size x w') := fun x b xs v1 v2 hx h => heldLogOutO_any b xs LV.length v1 v2 NW CC x h (HLn.out xs hx).1 (HLn.out xs hx).2
  clear b2 K1 HBg HLB HZR HZL hrf HT HG HAt hsum n0 hS2 hRS hLV hNW hCC HR HL hcq hcp hmq hmp
  obtain ⟨x0, x1, x2⟩ := K2.out.three
  have hTo1 := HTo.out w2 HB2.out
  go_wp2_with fail
  refine hTo1.mono ?_
  rintro e w3 ⟨g3, l3, xs3, hx3, hg3, rfl, hB3, b3⟩
  have hS := HS.out g3 l3 xs3 w3 hx3 hB3
  clear hTo1 HS hB3 hx3 hg3 x0 x1 x2
  go_wp2_with fail
  refine hS.mono ?_
  rintro e w4 ⟨⟨v1, v2, xsw, rfl, hxw, ho⟩, b4⟩
  obtain ⟨qw, cw, pw, dw, rfl, rfl, _⟩ := ho.at hxw
  have HXW : Hid (xsw.map (·.1) = RS) := hxw
  have hal : Below w4.heap.size w4 (w4.alloc (.cells #[.slice qw RS.length cw, .slice pw LV.length dw, .int .i64 NW, .int .i64 CC] 35)) := (Below.refl _ _).alloc (Nat.le_refl _) _
  have b24 : Below w2.heap.size w2 (w4.alloc (.cells #[.slice qw RS.length cw, .slice pw LV.length dw, .int .i64 NW, .int .i64 CC] 35)) := chainB (chainB b3 b4) hal
  have HB4 : Hid (Below w.heap.size w (w4.alloc (.cells #[.slice qw RS.length cw, .slice pw LV.length dw, .int .i64 NW, .int .i64 CC] 35))) := chainB HB2.out b24
  have K4 : Hid (Bxs (w4.alloc (.cells #[.slice qw RS.length cw, .slice pw LV.length dw, .int .i64 NW, .int .i64 CC] 35)) w.heap.size 25 #[.slice q rs.length cq, .slice p lv.length cp, .int .i64 now]) := K2.out.below b24
  have Q4 : Hid (Bxs (w4.alloc (.cells #[.slice qw RS.length cw, .slice pw LV.length dw, .int .i64 NW, .int .i64 CC] 35)) w4.heap.size 35 #[.slice qw RS.length cw, .slice pw LV.length dw, .int .i64 NW, .int .i64 CC]) := Bxs.new _ _ _
  have O4 : Hid (LgO w.heap.size xsw LV (.slice qw RS.length cw) (.slice pw LV.length dw) (w4.alloc (.cells #[.slice qw RS.length cw, .slice pw LV.length dw, .int .i64 NW, .int .i64 CC] 35))) := (ho.below hal).lower (Nat.le_trans HB2.out.size b3.size)
  have HE0 : Hid (w.heap.size < w4.heap.size) := by
    have h1 := K2.out.lt
    have h2 := b3.size
    have h3 := b4.size
    show _ < _
    omega
  clear hS b3 b4 b24 hal K2 HB2 ho hxw
  go_upto_region 6 with fail
  generalize w4.heap.size = E1 at *
  generalize w4.alloc (.cells #[.slice qw RS.length cw, .slice pw LV.length dw, .int .i64 NW, .int .i64 CC] 35) = w5 at *
  have hTo2 := HTo.out w5 HB4.out
  obtain ⟨x0, x1, x2⟩ := K4.out.three
  go_wp2_with fail
  refine hTo2.mono ?_
  rintro e w6 ⟨g6, l6, xs6, hx6, hg6, rfl, hB6, b6⟩
  have HX6 : Hid (xs6.map (·.1) = rs) := hx6
  have hal : Below w6.heap.size w6 (w6.alloc (.cells #[.slice (some ⟨g6, 0, none⟩) rs.length rs.length, .slice (some ⟨l6, 0, none⟩) lv.length lv.length, .int .i64 now] 33)) := (Below.refl _ _).alloc (Nat.le_refl _) _
  have K7 : Hid (Bxs (w6.alloc (.cells #[.slice (some ⟨g6, 0, none⟩) rs.length rs.length, .slice (some ⟨l6, 0, none⟩) lv.length lv.length, .int .i64 now] 33)) w6.heap.size 33 #[.slice (some ⟨g6, 0, none⟩) rs.length rs.length, .slice (some ⟨l6, 0, none⟩) lv.length lv.length, .int .i64 now]) := Bxs.new _ _ _
  have L7 : Hid (LgB (w6.alloc (.cells #[.slice (some ⟨g6, 0, none⟩) rs.length rs.length, .slice (some ⟨l6, 0, none⟩) lv.length lv.length, .int .i64 now] 33)) g6 xs6 l6 lv) := hB6.below hal
  have C7 : Hid (Below w5.heap.size w5 (w6.alloc (.cells #[.slice (some ⟨g6, 0, none⟩) rs.length rs.length, .slice (some ⟨l6, 0, none⟩) lv.length lv.length, .int .i64 now] 33))) := chainB b6 hal
  have HS6 : Hid (∀ k, lgS g6 xs6 l6 k → w5.heap.size ≤ k ∧ k < w6.heap.size) := fun k hk => by
    have := lgS_from hB6 hk
    omega
  have HZ7 : Hid ((w6.alloc (.cells #[.slice (some ⟨g6, 0, none⟩) rs.length rs.length, .slice (some ⟨l6, 0, none⟩) lv.length lv.length, .int .i64 now] 33)).heap.size = w6.heap.size + 1) := szA _ _
  clear hTo2 x0 x1 x2 hx6 hg6 hB6 b6 hal
  go_upto_region 7 with fail
  generalize w6.heap.size = E7 at *
  generalize w6.alloc (.cells #[.slice (some ⟨g6, 0, none⟩) rs.length rs.length, .slice (some ⟨l6, 0, none⟩) lv.length lv.length, .int .i64 now] 33) = w7 at *
  have hI := HI.out g6 l6 xs6 w7 HX6.out L7.out (chainB HB4.out C7.out)
  obtain ⟨x0, x1, x2⟩ := K7.out.three
  go_wp2_with fail
  refine hI.mono ?_
  rintro e w8 ⟨⟨v1, v2, xsg, rfl, hxg, ho⟩, b8⟩
  obtain ⟨qg, cg, pg, dg, rfl, rfl, _⟩ := ho.at hxg
  have HXG : Hid (xsg.map (·.1) = RS) := hxg
  have hal : Below w8.heap.size w8 (w8.alloc (.cells #[.slice qg RS.length cg, .slice pg LV.length dg, .int .i64 NW, .int .i64 CC] 35)) := (Below.refl _ _).alloc (Nat.le_refl _) _
  have b78 := chainB b8 hal
  have O9 : Hid (LgO w7.heap.size xsg LV (.slice qg RS.length cg) (.slice pg LV.length dg) (w8.alloc (.cells #[.slice qg RS.length cg, .slice pg LV.length dg, .int .i64 NW, .int .i64 CC] 35))) := ho.below hal
  have HSG : Hid (∀ k, lqS xsg (.slice qg RS.length cg) (.slice pg LV.length dg) k → w7.heap.size ≤ k ∧ k < w8.heap.size) := fun k hk => lqS_from ho hk
  have HSW : Hid (∀ k, lqS xsw (.slice qw RS.length cw) (.slice pw LV.length dw) k → w.heap.size ≤ k ∧ k < w5.heap.size) := fun k hk => lqS_from O4.out hk
  have HE1 : Hid (w.heap.size < E1 ∧ E1 < w5.heap.size) := ⟨HE0.out, Q4.out.lt⟩
  have HLK : Hid (LtK w #[.slice q rs.length cq, .slice p lv.length cp, .int .i64 now] E1 w8.heap.size #[.slice qw RS.length cw, .slice pw LV.length dw, .int .i64 NW, .int .i64 CC] #[.slice qg RS.length cg, .slice pg LV.length dg, .int .i64 NW, .int .i64 CC] xsw LV (.slice qw RS.length cw) (.slice pw LV.length dw) (w8.alloc (.cells #[.slice qg RS.length cg, .slice pg LV.length dg, .int .i64 NW, .int .i64 CC] 35))) := ⟨chainB (chainB HB4.out C7.out) b78, (K4.out.below C7.out).below b78, (Q4.out.below C7.out).below b78, Bxs.new _ _ _, (O4.out.below C7.out).below b78⟩
  have K9 : Hid (Bxs (w8.alloc (.cells #[.slice qg RS.length cg, .slice pg LV.length dg, .int .i64 NW, .int .i64 CC] 35)) E7 33 #[.slice (some ⟨g6, 0, none⟩) rs.length rs.length, .slice (some ⟨l6, 0, none⟩) lv.length lv.length, .int .i64 now]) := K7.out.below b78
  have L9 : Hid (LgB (w8.alloc (.cells #[.slice qg RS.length cg, .slice pg LV.length dg, .int .i64 NW, .int .i64 CC] 35)) g6 xs6 l6 lv) := L7.out.below b78
  have HZ8 : Hid (E7 < w7.heap.size ∧ w7.heap.size ≤ w8.heap.size ∧ w5.heap.size ≤ w7.heap.size) := ⟨by have := HZ7.out; omega, b8.size, C7.out.size⟩
  clear hI x0 x1 x2 b8 b78 hal ho hxg K7 L7 K4 Q4 O4 HE0
  go_upto_region 8 with fail
  generalize w8.heap.size = E8 at *
  generalize w8.alloc (.cells #[.slice qg RS.length cg, .slice pg LV.length dg, .int .i64 NW, .int .i64 CC] 35) = w9 at *
  obtain ⟨a0, a1, a2, a3⟩ := HLK.out.b8.four
  obtain ⟨e0, e1, e2, e3⟩ := HLK.out.b1.four
  have hQ := HEO.out w9 _ _ xsg xsw _ _ _ _ O9.out HLK.out.lw HXG.out HXW.out
  go_wp2_with fail
  refine hQ.mono ?_
  rintro e w10 ⟨rfl, z⟩
  have HLK2 : Hid (LtK w #[.slice q rs.length cq, .slice p lv.length cp, .int .i64 now] E1 E8 #[.slice qw RS.length cw, .slice pw LV.length dw, .int .i64 NW, .int .i64 CC] #[.slice qg RS.length cg, .slice pg LV.length dg, .int .i64 NW, .int .i64 CC] xsw LV (.slice qw RS.length cw) (.slice pw LV.length dw) w10) := HLK.out.below z
  have K10 : Hid (Bxs w10 E7 33 #[.slice (some ⟨g6, 0, none⟩) rs.length rs.length, .slice (some ⟨l6, 0, none⟩) lv.length lv.length, .int .i64 now]) := K9.out.below z
  have L10 : Hid (LgB w10 g6 xs6 l6 lv) := L9.out.below z
  have O10 : Hid (LgO w7.heap.size xsg LV (.slice qg RS.length cg) (.slice pg LV.length dg) w10) := O9.out.below z
  clear hQ a0 a1 a2 a3 e0 e1 e2 e3 z HLK K9 L9 O9
  have HX : Hid (∀ x, Below w10.heap.size w10 x → (x.cell? ⟨w.heap.size, 0, none⟩ = some (.slice q rs.length cq) ∧ x.cell? ⟨w.heap.size, 1, none⟩ = some (.slice p lv.length cp) ∧ x.cell? ⟨w.heap.size, 2, none⟩ = some (.int .i64 now)) ∧ x.cell? ⟨E7, 0, none⟩ = some (.slice (some ⟨g6, 0, none⟩) rs.length rs.length) ∧ x.cell? ⟨E7, 1, none⟩ = some (.slice (some ⟨l6, 0, none⟩) lv.length lv.length) ∧ x.cell? ⟨E7, 2, none⟩ = some (.int .i64 now)) := fun x hb => ⟨(HLK2.out.ba.below hb).three, (K10.out.below hb).three⟩
  have BR : Hid (Below w10.heap.size w10 w10.drew) := (Below.refl _ _).drew
  go_upto_region 10 with fail
  go_region_held3 (fun w' => (w'.cell? ⟨w.heap.size, 0, none⟩ = some (.slice q rs.length cq) ∧ w'.cell? ⟨w.heap.size, 1, none⟩ = some (.slice p lv.length cp) ∧ w'.cell? ⟨w.heap.size, 2, none⟩ = some (.int .i64 now)) ∧ w'.cell? ⟨E7, 0, none⟩ = some (.slice (some ⟨g6, 0, none⟩) rs.length rs.length) ∧ w'.cell? ⟨E7, 1, none⟩ = some (.slice (some ⟨l6, 0, none⟩) lv.length lv.length) ∧ w'.cell? ⟨E7, 2, none⟩ = some (.int .i64 now)) ((first | exact HX.out _ BR.out | exact HX.out _ q1 | exact HX.out _ q2)) (first
    | (go_at_call 8; with_reducible refine (HTo.out _ (chainB HLK2.out.bel BR.out)).mono ?_; rintro e t1 ⟨g9, l9, xs9, hx9, hg9, rfl, j9, z1⟩; have q1 : Below w10.heap.size w10 t1 := chainB BR.out z1)
    | (go_at_call 12; with_reducible refine (HEq.out _ g6 l6 xs6 g9 l9 xs9 HX6.out (L10.out.below q1) hx9 j9).mono ?_; rintro e t2 ⟨rfl, z2⟩; have q2 : Below w10.heap.size w10 t2 := chainB q1 z2))
  all_goals
    have HLK3 : Hid (LtK w #[.slice q rs.length cq, .slice p lv.length cp, .int .i64 now] E1 E8 #[.slice qw RS.length cw, .slice pw LV.length dw, .int .i64 NW, .int .i64 CC] #[.slice qg RS.length cg, .slice pg LV.length dg, .int .i64 NW, .int .i64 CC] xsw LV (.slice qw RS.length cw) (.slice pw LV.length dw) t2) := HLK2.out.below q2
    have K11 : Hid (Bxs t2 E7 33 #[.slice (some ⟨g6, 0, none⟩) rs.length rs.length, .slice (some ⟨l6, 0, none⟩) lv.length lv.length, .int .i64 now]) := K10.out.below q2
    have L11 : Hid (LgB t2 g6 xs6 l6 lv) := L10.out.below q2
    have O11 : Hid (LgO w7.heap.size xsg LV (.slice qg RS.length cg) (.slice pg LV.length dg) t2) := O10.out.below q2
    clear q1 q2 z1 z2 j9 hx9 hg9 HX BR HLK2 K10 L10 O10
    obtain ⟨x0, x1, x2⟩ := K11.out.three
    have hM := HML.out t2 g6 l6 xs6 HX6.out L11.out
    go_upto_region 13 with fail
    go_wp2_with fail
    refine hM.mono ?_
    rintro e w12 ⟨⟨m, rfl⟩, kb⟩
    have HLK4 : Hid (LtK w #[.slice q rs.length cq, .slice p lv.length cp, .int .i64 now] E1 E8 #[.slice qw RS.length cw, .slice pw LV.length dw, .int .i64 NW, .int .i64 CC] #[.slice qg RS.length cg, .slice pg LV.length dg, .int .i64 NW, .int .i64 CC] xsw LV (.slice qw RS.length cw) (.slice pw LV.length dw) w12) := HLK3.out.but kb (fun k hk => by
      have h1 := HS6.out k hk
      have h2 := HE1.out
      have h3 := HZ8.out
      refine ⟨by omega, by omega, by omega, fun h => ?_⟩
      have := HSW.out k h
      omega)
    have O12 : Hid (LgO w7.heap.size xsg LV (.slice qg RS.length cg) (.slice pg LV.length dg) w12) := O11.out.but kb (fun k hk hs => by
      have h1 := HS6.out k hs
      have h2 := HSG.out k hk
      have h3 := HZ8.out
      omega)
    have dm : decide ((m : Int) < 0) = false := decide_eq_false (by omega)
    clear hM kb x0 x1 x2 K11 L11 HLK3 O11
    obtain ⟨a0, a1, a2, a3⟩ := HLK4.out.b8.four
    obtain ⟨e0, e1, e2, e3⟩ := HLK4.out.b1.four
    have hQ := HEO.out w12 _ _ xsg xsw _ _ _ _ O12.out HLK4.out.lw HXG.out HXW.out
    go_wp2_with fail
    refine hQ.mono ?_
    rintro e w13 ⟨rfl, z⟩
    have HLK5 : Hid (LtK w #[.slice q rs.length cq, .slice p lv.length cp, .int .i64 now] E1 E8 #[.slice qw RS.length cw, .slice pw LV.length dw, .int .i64 NW, .int .i64 CC] #[.slice qg RS.length cg, .slice pg LV.length dg, .int .i64 NW, .int .i64 CC] xsw LV (.slice qw RS.length cw) (.slice pw LV.length dw) w13) := HLK4.out.below z
    have O13 : Hid (LgO w7.heap.size xsg LV (.slice qg RS.length cg) (.slice pg LV.length dg) w13) := O12.out.below z
    clear hQ a0 a1 a2 a3 e0 e1 e2 e3 z HLK4 O12 dm
    obtain ⟨a0, a1, a2, a3⟩ := HLK5.out.b8.four
    have hM := HMO.out w13 _ xsg _ _ HXG.out O13.out
    have dT : decide (((mkT xsg + LV.length : Nat) : Int) < 0) = false := decide_eq_false (by omega)
    have dN : ((((mkT xsg + LV.length : Nat) : Int)) != ((mkT xsg + LV.length : Nat) : Int)) = false := by simp
    obtain ⟨T, hTT⟩ : ∃ T : Nat, T = mkT xsg + LV.length := ⟨_, rfl⟩
    have HTT : Hid (T = mkT xsg + LV.length) := hTT
    rw [← hTT] at hM dT dN
    clear hTT
    go_wp2_with fail
    refine hM.mono ?_
    rintro e w14 ⟨rfl, hm, kb⟩
    have HM14 : Hid (LgM w7.heap.size xsg LV.length (.slice qg RS.length cg) (.slice pg LV.length dg) w14) := hm
    have HLK6 : Hid (LtK w #[.slice q rs.length cq, .slice p lv.length cp, .int .i64 now] E1 E8 #[.slice qw RS.length cw, .slice pw LV.length dw, .int .i64 NW, .int .i64 CC] #[.slice qg RS.length cg, .slice pg LV.length dg, .int .i64 NW, .int .i64 CC] xsw LV (.slice qw RS.length cw) (.slice pw LV.length dw) w14) := HLK5.out.but kb (fun k hk => by
      have h1 := HSG.out k hk
      have h2 := HE1.out
      have h3 := HZ8.out
      refine ⟨by omega, by omega, by omega, fun h => ?_⟩
      have := HSW.out k h
      omega)
    clear hM hm kb a0 a1 a2 a3 HLK5 O13
    obtain ⟨a0, a1, a2, a3⟩ := HLK6.out.b8.four
    have hH := HHO.out w14 _ xsg _ _ HXG.out HM14.out
    rw [← HTT.out] at hH
    go_wp2_with fail
    refine hH.mono ?_
    rintro e w15 ⟨rfl, z⟩
    have HLK7 : Hid (LtK w #[.slice q rs.length cq, .slice p lv.length cp, .int .i64 now] E1 E8 #[.slice qw RS.length cw, .slice pw LV.length dw, .int .i64 NW, .int .i64 CC] #[.slice qg RS.length cg, .slice pg LV.length dg, .int .i64 NW, .int .i64 CC] xsw LV (.slice qw RS.length cw) (.slice pw LV.length dw) w15) := HLK6.out.below z
    have HM15 : Hid (LgM w7.heap.size xsg LV.length (.slice qg RS.length cg) (.slice pg LV.length dg) w15) := HM14.out.below z
    clear hH a0 a1 a2 a3 z HLK6 HM14
    obtain ⟨x0, x1, x2⟩ := HLK7.out.ba.three
    have hTo := HTo.out w15 HLK7.out.bel
    go_wp2_with fail
    refine hTo.mono ?_
    rintro e w16 ⟨gh, lh, xsh, hxh, hgh, rfl, hBh, z⟩
    have hI := HI.out gh lh xsh w16 hxh hBh (chainB HLK7.out.bel z)
    have HLK8 : Hid (LtK w #[.slice q rs.length cq, .slice p lv.length cp, .int .i64 now] E1 E8 #[.slice qw RS.length cw, .slice pw LV.length dw, .int .i64 NW, .int .i64 CC] #[.slice qg RS.length cg, .slice pg LV.length dg, .int .i64 NW, .int .i64 CC] xsw LV (.slice qw RS.length cw) (.slice pw LV.length dw) w16) := HLK7.out.below z
    have HM16 : Hid (LgM w7.heap.size xsg LV.length (.slice qg RS.length cg) (.slice pg LV.length dg) w16) := HM15.out.below z
    clear hTo x0 x1 x2 z hxh hgh hBh HLK7 HM15
    go_wp2_with fail
    refine hI.mono ?_
    rintro e w17 ⟨⟨v1, v2, xsk, rfl, hxk, ho⟩, z⟩
    obtain ⟨qk, ck, pk, dk, rfl, rfl, _⟩ := ho.at hxk
    have HXK : Hid (xsk.map (·.1) = RS) := hxk
    have hal : Below w17.heap.size w17 (w17.alloc (.cells #[.slice qk RS.length ck, .slice pk LV.length dk, .int .i64 NW, .int .i64 CC] 35)) := (Below.refl _ _).alloc (Nat.le_refl _) _
    have b17 := chainB z hal
    have HLK9 : Hid (LtK w #[.slice q rs.length cq, .slice p lv.length cp, .int .i64 now] E1 E8 #[.slice qw RS.length cw, .slice pw LV.length dw, .int .i64 NW, .int .i64 CC] #[.slice qg RS.length cg, .slice pg LV.length dg, .int .i64 NW, .int .i64 CC] xsw LV (.slice qw RS.length cw) (.slice pw LV.length dw) (w17.alloc (.cells #[.slice qk RS.length ck, .slice pk LV.length dk, .int .i64 NW, .int .i64 CC] 35))) := HLK8.out.below b17
    have HM17 : Hid (LgM w7.heap.size xsg LV.length (.slice qg RS.length cg) (.slice pg LV.length dg) (w17.alloc (.cells #[.slice qk RS.length ck, .slice pk LV.length dk, .int .i64 NW, .int .i64 CC] 35))) := HM16.out.below b17
    have OK17 : Hid (LgO w16.heap.size xsk LV (.slice qk RS.length ck) (.slice pk LV.length dk) (w17.alloc (.cells #[.slice qk RS.length ck, .slice pk LV.length dk, .int .i64 NW, .int .i64 CC] 35))) := ho.below hal
    have Q17 : Hid (Bxs (w17.alloc (.cells #[.slice qk RS.length ck, .slice pk LV.length dk, .int .i64 NW, .int .i64 CC] 35)) w17.heap.size 35 #[.slice qk RS.length ck, .slice pk LV.length dk, .int .i64 NW, .int .i64 CC]) := Bxs.new _ _ _
    clear hI z hxk ho hal b17 HLK8 HM16
    go_upto_region 25 with fail
    generalize w17.heap.size = E12 at *
    generalize w17.alloc (.cells #[.slice qk RS.length ck, .slice pk LV.length dk, .int .i64 NW, .int .i64 CC] 35) = w18 at *
    obtain ⟨a0, a1, a2, a3⟩ := Q17.out.four
    obtain ⟨e0, e1, e2, e3⟩ := HLK9.out.b1.four
    have hQ := HEO.out w18 _ _ xsk xsw _ _ _ _ OK17.out HLK9.out.lw HXK.out HXW.out
    go_wp2_with fail
    refine hQ.mono ?_
    rintro e w19 ⟨rfl, z⟩
    have HLKa : Hid (LtK w #[.slice q rs.length cq, .slice p lv.length cp, .int .i64 now] E1 E8 #[.slice qw RS.length cw, .slice pw LV.length dw, .int .i64 NW, .int .i64 CC] #[.slice qg RS.length cg, .slice pg LV.length dg, .int .i64 NW, .int .i64 CC] xsw LV (.slice qw RS.length cw) (.slice pw LV.length dw) w19) := HLK9.out.below z
    have HM19 : Hid (LgM w7.heap.size xsg LV.length (.slice qg RS.length cg) (.slice pg LV.length dg) w19) := HM17.out.below z
    clear hQ a0 a1 a2 a3 e0 e1 e2 e3 z HLK9 HM17 OK17 Q17
    obtain ⟨a0, a1, a2, a3⟩ := HLKa.out.b8.four
    have hH := HHO.out w19 _ xsg _ _ HXG.out HM19.out
    rw [← HTT.out] at hH
    go_wp2_with fail
    refine hH.mono ?_
    rintro e w20 ⟨rfl, z⟩
    clear hH a0 a1 a2 a3
    go_wp2_with fail
    go_ret
    exact ⟨rfl, chainB HLKa.out.bel z⟩

theorem contract (H : Type) (enc : TypeId × Value → H) (W : World) (base : Nat) (args : Array Value) (ds gs : List (DataW H)) (before : List MemPlace)
    (hval : ∀ (j : Nat) t v, Tryz.f4.params[j]? = some t → args[j]? = some v → Value.okWide Tryz.prog W .any base t v)
    (hW : DataW.Whole enc Tryz.prog Tryz.f4.params.toList Rows.fnExactLogForgetSpec.vars false W args.toList ds gs before) (hL : laidMetH Tryz.prog Rows.fnExactLogForgetRow.laid W) :
    Calls Tryz.prog 4 args W fun e W' => ∃ v, e = .returned v ∧ Rows.fnExactLogForgetSpec.post enc Tryz.prog Tryz.f4 false true false false W args v W' := by
  have hW' := hW
  obtain ⟨p, q, hA0, hV, rfl, hfz, hnd⟩ := hW
  have hA : DataW.TrodAll enc Tryz.prog W 0 (fun _ => true) true Tryz.f4.params.toList args.toList ds p := hA0
  rw [Tryz.params4] at hA hval
  obtain ⟨v0, vs0, d0, ds0, p0, q0, hargs, rfl, rfl, h0, r0⟩ := trodAll_cons hA
  obtain ⟨v1, vs1, d1, ds1, p1, q1, rfl, rfl, rfl, h1, r1⟩ := trodAll_cons r0
  obtain ⟨v2, vs2, d2, ds2, p2, q2, rfl, rfl, rfl, h2, r2⟩ := trodAll_cons r1
  obtain ⟨v3, vs3, d3, ds3, p3, q3, rfl, rfl, rfl, h3, r3⟩ := trodAll_cons r2
  obtain ⟨rfl, rfl, rfl⟩ := trodAll_nil r3
  obtain rfl : args = #[v0, v1, v2, v3] := by cases args; simp_all
  have hV2 : DataW.TrodVars enc Tryz.prog W (fun _ => true) ["loop.example/g00633/impl.firstState", "loop.example/g00633/impl.roundNums"] gs q := hV
  obtain ⟨_, _, _, _, e0, _, _, _, _, _, e1, _, rfl, _⟩ := trodVars_two hV2
  have k0 := h0
  have lt0 : ∀ x ∈ p0, x.block < W.heap.size := by obtain ⟨m, hm⟩ := k0; exact DataW.trod_lt m _ _ _ hm
  obtain ⟨q0, cq0, rs0, pp0, cp0, lv0, now0, rfl, w0⟩ := open_log (hval 0 25 v0 rfl rfl) h0
  obtain ⟨a1, rfl, rfl, rfl, w1⟩ := open_int Tryz.underlying2 (hval 1 2 v1 rfl rfl) h1
  obtain ⟨a2, rfl, rfl, rfl, w2⟩ := open_int Tryz.underlying2 (hval 2 2 v2 rfl rfl) h2
  obtain ⟨a3, rfl, rfl, rfl, w3⟩ := open_int Tryz.underlying2 (hval 3 2 v3 rfl rfl) h3
  clear hA0
  obtain ⟨hT, hLd⟩ := laid3_of hL
  refine (walk q0 cq0 rs0 pp0 cp0 lv0 now0 a1 a2 a3 W w0 w1 w2 w3 hT hLd).mono fun e W' ⟨he, hg⟩ => ?_
  subst he
  exact ⟨_, rfl, _, _, _, [], _, _, hW', (trodAll_cons_mk (shut_bool Tryz.underlying4 _) trodAll_mk0), (trodAll_cons_mk (Below.trod laidOut (by kernel_rfl) (of_decide_eq_true (by kernel_rfl)) k0 hg lt0) (trodAll_cons_mk (shut_int Tryz.underlying2 w1) (trodAll_cons_mk (shut_int Tryz.underlying2 w2) (trodAll_cons_mk (shut_int Tryz.underlying2 w3) trodAll_mk0)))), Below.trodVars laidOut hg (by kernel_rfl) hV, hg.frame _, fun h => by cases h⟩

/-- A start in which the listed variables lie as the program's text lays them: what the door's own run leaves. -/
noncomputable def wit (os : Os) : World := World.doorLaid Tryz.prog 26 os
theorem laid_met (os : Os) : laidMetH Tryz.prog Rows.fnExactLogForgetRow.laid ((wit os).forCall (fun _ _ => 0) ⟨#[], #[.agg #[.slice none 0 0, .slice none 0 0, .int .i64 0], .int .i64 0, .int .i64 0, .int .i64 0], []⟩).memory :=
  laidMetH_of_parts3 (fuel := 8) (laidMet_of_run' 8 (by kernel_rfl) (by kernel_rfl)) (by kernel_rfl) (by kernel_rfl)
theorem reads (os : Os) {H : Type} (enc : TypeId × Value → H) : ∃ gs places, DataW.whole enc Tryz.prog ((wit os).forCall (fun _ _ => 0) ⟨#[], #[.agg #[.slice none 0 0, .slice none 0 0, .int .i64 0], .int .i64 0, .int .i64 0, .int .i64 0], []⟩).memory Tryz.f4.params.toList Rows.fnExactLogForgetSpec.vars false #[Value.agg #[.slice none 0 0, .slice none 0 0, .int .i64 0], Value.int .i64 0, Value.int .i64 0, Value.int .i64 0].toList 8 = some ([.agg [.nil, .nil, .lit (.int .i64 0)], .lit (.int .i64 0), .lit (.int .i64 0), .lit (.int .i64 0)], gs, places) := by
  have h : (DataW.whole enc Tryz.prog ((wit os).forCall (fun _ _ => 0) ⟨#[], #[.agg #[.slice none 0 0, .slice none 0 0, .int .i64 0], .int .i64 0, .int .i64 0, .int .i64 0], []⟩).memory Tryz.f4.params.toList Rows.fnExactLogForgetSpec.vars false #[Value.agg #[.slice none 0 0, .slice none 0 0, .int .i64 0], Value.int .i64 0, Value.int .i64 0, Value.int .i64 0].toList 8).map (fun x => x.1) = some [.agg [.nil, .nil, .lit (.int .i64 0)], .lit (.int .i64 0), .lit (.int .i64 0), .lit (.int .i64 0)] := by kernel_rfl
  obtain ⟨⟨a, b, c⟩, hx, hy⟩ := Option.map_eq_some_iff.1 h
  cases hy
  exact ⟨b, c, hx⟩

set_option maxRecDepth 100000 in
theorem lifted (os : Os) (started : os.Started) (H : Type) (enc : TypeId × Value → H) (F : Stop.Interp) :
    ReturnsInHanded {} Tryz.checked os 4 .any ((OpenSpec.ofChange Rows.fnExactLogForgetSpec).preRow enc Tryz.prog Tryz.f4 Rows.fnExactLogForgetRow.domain false Rows.fnExactLogForgetRow.laid) (((OpenSpec.ofChange Rows.fnExactLogForgetSpec).at F).post enc Tryz.prog Tryz.f4 false true false false) := by
  obtain ⟨gs, places, hx⟩ := reads os enc
  refine returnsInHanded_of_row (C := Tryz.checked) (s := OpenSpec.ofChange Rows.fnExactLogForgetSpec) own started (by kernel_rfl) Tryz.func4
    (witness_row_at (enc := enc) (C := Tryz.checked) false (wit os) #[.agg #[.slice none 0 0, .slice none 0 0, .int .i64 0], .int .i64 0, .int .i64 0, .int .i64 0] rfl (by kernel_rfl) (by kernel_rfl) (by kernel_rfl)
      (OpenSpec.preRow_of_cond 8 hx rfl (fun k hk => by cases hk) (by kernel_rfl) (laid_met os))) ?_
  intro W base args ds gs before hval hW _ _ _ hL _ _
  exact contract H enc W base args ds gs before hval hW hL

theorem said : Rows.FnExactLogForgetSaid :=
  OpenClaim.holds_of_cond 4 Tryz.f4 rfl rfl rfl rfl rfl rfl rfl ⟨rfl, rfl, rfl, rfl, rfl⟩ rfl rfl rfl rfl rfl (by kernel_rfl) Tryz.func4 (by kernel_rfl)
    (of_decide_eq_true (by kernel_rfl)) (by unfold Func.isWrapper; first | (rw [if_pos (by decide +kernel)]; kernel_rfl) | (rw [if_neg (by decide +kernel)]; exact ⟨rfl, rfl⟩))
    (fun os started H enc _ F => by rw [OpenClaim.pre_eq_preRow]; exact lifted os started H enc F)

theorem plain (f : FuncId) (fn : Func) (hf : Tryz.pinned.checked.prog.funcNamed "loop.example/g00633/laws.FnExactLogForget" = some f) (hfn : Tryz.pinned.checked.prog.funcs[f]? = some fn) :
    Rows.fnExactLogForgetCard.stood.looks = Tryz.pinned.checked.prog.looks [] ∧ ∀ (j : Nat) t, fn.params[j]? = some t → Tryz.pinned.checked.prog.wantsStandIn t = false := by
  obtain rfl : f = 4 := Option.some.inj ((show Tryz.prog.funcNamed "loop.example/g00633/laws.FnExactLogForget" = some 4 by kernel_rfl).symm.trans hf) |>.symm
  obtain rfl : fn = Tryz.f4 := (Option.some.inj (Tryz.func4.symm.trans hfn)).symm
  refine ⟨by kernel_rfl, fun j t ht => ?_⟩
  rw [Tryz.params4] at ht
  have hm := Array.mem_of_getElem? ht
  have hl : t ∈ ([25, 2, 2, 2] : List TypeId) := by simpa using hm
  simp only [List.mem_cons, List.not_mem_nil, or_false] at hl
  rcases hl with rfl | rfl | rfl | rfl
  · exact (show Tryz.prog.wantsStandIn 25 = false by kernel_rfl)
  · exact (show Tryz.prog.wantsStandIn 2 = false by kernel_rfl)
  · exact (show Tryz.prog.wantsStandIn 2 = false by kernel_rfl)
  · exact (show Tryz.prog.wantsStandIn 2 = false by kernel_rfl)

theorem proved : Rows.FnExactLogForgetCardSaid :=
  Claim7.holds_tied_plain_at .later [] _ _ _ _ said (fun _ h => by cases h) (by kernel_rfl) (fun _ h => by cases h) fnExactLogForget_row_tie rfl ⟨rfl, rfl⟩ (by kernel_rfl) rfl plain (by kernel_rfl)
#print axioms proved
end Go.Proofs.YthfecjjahoflcaaGreatDoor.fnExactLogForget
