/-
  For every log, policy, row and field the law FnExactMayForget returns true: the program's MayForget answers as the specification's and writes into no argument; the card ties the listed variables, errors.errorType and the two tables firstState and roundNums, to the program's text.
  Conditions: none of mine; the form's own reach; the listed variables as the program's text lays them (the given tie). The card speaks of the pruned copy of the project that the seat names.
-/
import Derived.Test.YtifomfimfdgjjaaGreatDoorCards
import Derived.Test.YtifomfimfdgjjaaGreatDoorTie
import Derived.Test.YtifomfimfdgjjaaGreatDoorMfSaid
import Derived.Test.YtifomfimfdgjjaaGreatDoorSlASlBBxKTakesOwnS
import Derived.Test.YtifomfimfdgjjaaGreatDoorJoinedPutTextFldMathFldRiseScanMath
import Derived.Test.YtifomfimfdgjjaaGreatDoorLgMathLgAtKShwK
import Derived.Test.YtifomfimfdgjjaaGreatDoorOneKFldGFldBlkRwBlk
import Derived.Test.YtifomfimfdgjjaaGreatDoorLawLgLawLh
import Derived.Test.YtifomfimfdgjjaaGreatDoorOpFOpLgBlNotRulMathIntKPolMath
import Derived.Test.YtifomfimfdgjjaaGreatDoorOpPAppSRulBlk
import Derived.Test.YtifomfimfdgjjaaGreatDoorLawRlLawILawOGLawIm
import Derived.Test.YtifomfimfdgjjaaGreatDoorLawPoLgAnsPolIdxRulIdxKeepMRowOps
import Derived.Test.YtifomfimfdgjjaaGreatDoorSpecMf
import Derived.Test.YtifomfimfdgjjaaGreatDoorImplMf
import Derived.Test.YtifomfimfdgjjaaGreatDoorTabEt
import Derived.Handy
import Derived.WalkSpells
import Derived.OwnWalk
import Derived.Deep.RegionHeld3
import Derived.Deep.Cut
import Derived.WalkKit
import Derived.ProofKit
import Derived.OpenShut
import Derived.OpenVars
import Derived.ShutString
import Derived.LaidHandle
import Derived.LaidLaws
import Derived.LaidMore
import Derived.Deep.DeepHandedRow
import Derived.ChangeOld
import Derived.Below
namespace Go.Proofs.YtifomfimfdgjjaaGreatDoor.fnExactMayForget
open Go.ChangeShapes Go.WideShapes Go.ChangeAt Go.RowKit
open Go.ChangeMaps (open_string shut_string)
set_option linter.unusedVariables false
set_option maxRecDepth 100000

theorem own : ownKnob Tryz.prog.godebug = none := by kernel_rfl
theorem laidOut : laidOutB Tryz.prog = true := by kernel_rfl

set_option maxHeartbeats 8000000 in
theorem walk (q : Option Addr) (cq : Nat) (rs : List Rw) (p : Option Addr) (cp : Nat) (lv : List ByteArray) (now : Int) (a0 : Option Addr) (len0 cap0 : Nat) (ss : List Rul) (b0 : Option Addr) (lenb capb : Nat) (ps : List Int) (r f : Int) (w : World) (v0 : IsLog w q cq rs p cp lv now) (v1 : IsRuls w a0 len0 cap0 ss ∧ IsIntsP w b0 lenb capb ps) (v2 : (Lit.int .i64 r).wf = true) (v3 : (Lit.int .i64 f).wf = true) (hT : Tabs w) (hg : Laid w) :
    Calls Tryz.prog 4 #[.agg #[.slice q rs.length cq, .slice p lv.length cp, .int .i64 now], .agg #[.slice a0 len0 cap0, .slice b0 lenb capb], .int .i64 r, .int .i64 f] w fun e w' => e = .returned (.bool true) ∧ Below w.heap.size w w' := by
  obtain ⟨⟨-, hRw, hcq, hmq, hzr⟩, ⟨-, hTx, hcp, hmp, hzl⟩, -⟩ := v0
  obtain ⟨⟨rfl, hPr, hc1, hm1, hsz⟩, ⟨rfl, hPi, hc2, hm2⟩⟩ := v1
  have HT : Hid (Tabs w) := hT
  have HG : Hid (Laid w) := hg
  have HR : Hid (RwAt w q rs) := hRw
  have HL : Hid (TxtAt w p lv) := hTx
  have P1 : Hid (RulAt w a0 ss) := hPr
  have P2 : Hid (IntAt w b0 ps) := hPi
  have Z1 : Hid (RulsLe ss) := hsz
  have HZR : Hid (∀ r ∈ rs, r.fs.length ≤ maxLen ∧ r.k.size ≤ maxLen ∧ FldsLe r.fs) := hzr
  have HZL : Hid (∀ x ∈ lv, x.size ≤ maxLen) := hzl
  have HBg : Hid (RwsBig rs) := fun r hr => by have h := hzr r hr; unfold maxLen at h; exact ⟨h.1, h.2.1, fun f hf => by have := h.2.2 f hf; unfold maxLen at this; exact this⟩
  have HLB : Hid (∀ x ∈ lv, x.size ≤ 9223372036854775807) := fun x hx => by have := hzl x hx; unfold maxLen at this; exact this
  have ZB : Hid (RulsBig ss) := fun x hx => by have := hsz x hx; unfold maxLen at this; exact this
  unfold maxLen at hmq hmp hm1 hm2
  clear hRw hTx hzr hzl hT hg v2 v3 hPr hPi hsz
  obtain ⟨W2, hW2⟩ : ∃ W2, W2 = (w.alloc (.cells #[.slice q rs.length cq, .slice p lv.length cp, .int .i64 now] 25)).alloc (.cells #[.slice a0 ss.length cap0, .slice b0 ps.length capb] 29) := ⟨_, rfl⟩
  have HW2 : Hid (W2 = (w.alloc (.cells #[.slice q rs.length cq, .slice p lv.length cp, .int .i64 now] 25)).alloc (.cells #[.slice a0 ss.length cap0, .slice b0 ps.length capb] 29)) := hW2
  have hs1 : (w.alloc (.cells #[.slice q rs.length cq, .slice p lv.length cp, .int .i64 now] 25)).heap.size = w.heap.size + 1 := by simp
  have B2 : Hid (Below w.heap.size w W2) := by rw [hW2]; exact ((Below.refl _ _).alloc (Nat.le_refl _) _).alloc (by rw [hs1]; omega) _
  have K0 : Hid (Bxs W2 w.heap.size 25 #[.slice q rs.length cq, .slice p lv.length cp, .int .i64 now]) := by rw [hW2]; exact (Bxs.new _ _ _).alloc _
  have K1 : Hid (Bxs W2 (w.heap.size + 1) 29 #[.slice a0 ss.length cap0, .slice b0 ps.length capb]) := by rw [hW2, ← hs1]; exact Bxs.new _ _ _
  have HX : Hid (∀ x, Below W2.heap.size W2 x → (x.cell? ⟨w.heap.size, 0, none⟩ = some (.slice q rs.length cq) ∧ x.cell? ⟨w.heap.size, 1, none⟩ = some (.slice p lv.length cp) ∧ x.cell? ⟨w.heap.size, 2, none⟩ = some (.int .i64 now)) ∧ x.cell? ⟨w.heap.size + 1, 0, none⟩ = some (.slice a0 ss.length cap0) ∧ x.cell? ⟨w.heap.size + 1, 1, none⟩ = some (.slice b0 ps.length capb)) := fun x hb => ⟨(K0.out.below hb).three, (K1.out.below hb).cell 0, (K1.out.below hb).cell 1⟩
  have hSz := szLog_any q cq rs p cp lv now W2 (HR.out.below B2.out) (by omega) hcq HBg.out (HL.out.below B2.out) (by omega) hcp HLB.out
  have HSP : Hid (∀ (l0 : Int), 0 ≤ l0 → l0 ≤ 1048576 → ∀ x, Below W2.heap.size W2 x → Calls Tryz.prog 10 #[.agg #[.slice a0 ss.length cap0, .slice b0 ps.length capb], .int .i64 l0] x fun e w' => (∃ r : Int, e = .returned (.int .i64 r) ∧ (r = -1 ∨ (0 ≤ r ∧ r ≤ l0 ∧ ss.length ≤ 1048576 ∧ ps.length ≤ 1048576))) ∧ Below x.heap.size x w') := fun l0 a b x hb => szPolicy_any l0 a b a0 b0 cap0 capb ss ps x (P1.out.below (chainB B2.out hb)) (by omega) (by omega) hc1 ZB.out
  obtain ⟨⟨x0, x1, x2⟩, x3, x4⟩ := HX.out W2 (Below.refl _ _)
  rw [HW2.out] at x0 x1 x2 x3 x4
  clear hW2 hs1
  go_enter Tryz.func4, Tryz.ntmps4
  go_wp2_with fail
  rw [← HW2.out]
  refine hSz.mono ?_
  rintro e w3 ⟨⟨r0, rfl, hr⟩, b3⟩
  clear hSz x0 x1 x2 x3 x4
  rcases hr with rfl | ⟨hr0, hr1, ⟨hrn, hrf⟩, hln⟩
  · go_wp2_with fail
    go_ret
    exact ⟨rfl, chainB B2.out b3⟩
  have dr : decide (r0 < 0) = false := decide_eq_false (by omega)
  have hSz2 := HSP.out r0 hr0 hr1 w3 b3
  obtain ⟨-, x3, x4⟩ := HX.out w3 b3
  clear HSP
  go_wp2_with fail
  refine hSz2.mono ?_
  rintro e w4 ⟨⟨r1, rfl, hr'⟩, b4⟩
  have b4 := chainB b3 b4
  clear hSz2 x3 x4 b3
  rcases hr' with rfl | ⟨hr10, -, n1, n2⟩
  · go_wp2_with fail
    go_ret
    exact ⟨rfl, chainB B2.out b4⟩
  have dr1 : decide (r1 < 0) = false := decide_eq_false (by omega)
  have HRF : Hid (∀ x ∈ rs, x.fs.length ≤ 1048576) := hrf
  have HAt : Hid (∀ g gl xs x, xs.map (·.1) = rs → LgB x g xs gl lv → LgAt (some ⟨gl, 0, none⟩) lv lv.length (some ⟨g, 0, none⟩) rs rs.length x) := fun g gl xs x hx hB => ⟨hB.lf.txt, Nat.le_refl _, hln, HZL.out, by have := hB.rw.at; rwa [hx] at this, Nat.le_refl _, hrn, fun r hr => ⟨hrf r hr, (HZR.out r hr).2.1, (HZR.out r hr).2.2⟩⟩
  have HTL : Hid (∀ x, Below W2.heap.size W2 x → Calls Tryz.prog 12 #[.agg #[.slice q rs.length cq, .slice p lv.length cp, .int .i64 now]] x fun e w' => ∃ g gl xs, xs.map (·.1) = rs ∧ e = .returned (.agg #[.slice (some ⟨g, 0, none⟩) rs.length rs.length, .slice (some ⟨gl, 0, none⟩) lv.length lv.length, .int .i64 now]) ∧ LgB w' g xs gl lv ∧ Below x.heap.size x w') := fun x hb => (toLog_any q cq rs p cp lv now x (HR.out.below (chainB B2.out hb)) hrn hcq hrf (HL.out.below (chainB B2.out hb)) hln hcp).mono (by
    rintro e w' ⟨g, gl, xs, hx, -, h, hB, hb2⟩
    exact ⟨g, gl, xs, hx, h, hB, hb2⟩)
  have HTP : Hid (∀ x, Below W2.heap.size W2 x → Calls Tryz.prog 13 #[.agg #[.slice a0 ss.length cap0, .slice b0 ps.length capb]] x fun e w' => ∃ g h, e = .returned (.agg #[.slice (some ⟨g, 0, none⟩) ss.length ss.length, .slice (some ⟨h, 0, none⟩) ps.length ps.length]) ∧ (RulAt w' (some ⟨g, 0, none⟩) ss ∧ IntAt w' (some ⟨h, 0, none⟩) ps) ∧ Below x.heap.size x w') := fun x hb => (toPolicy_any a0 b0 cap0 capb ss ps x (P1.out.below (chainB B2.out hb)) (P2.out.below (chainB B2.out hb)) n1 n2 hc1 hc2).mono (by
    rintro e w' ⟨g, h, -, -, he, j1, j2, hb2⟩
    exact ⟨g, h, he, ⟨j1.at, j2.int⟩, hb2⟩)
  obtain ⟨R, hRR⟩ : ∃ R : Int, R = mfO rs lv now ss ps r f := ⟨_, rfl⟩
  have HS : Hid (∀ g gl xs g' h' x, xs.map (·.1) = rs → LgB x g xs gl lv → RulAt x (some ⟨g', 0, none⟩) ss ∧ IntAt x (some ⟨h', 0, none⟩) ps → Calls Tryz.prog 22 #[.agg #[.slice (some ⟨g, 0, none⟩) rs.length rs.length, .slice (some ⟨gl, 0, none⟩) lv.length lv.length, .int .i64 now], .agg #[.slice (some ⟨g', 0, none⟩) ss.length ss.length, .slice (some ⟨h', 0, none⟩) ps.length ps.length], .int .i64 r, .int .i64 f] x fun e w' => e = .returned (.int .i64 R) ∧ Below x.heap.size x w') := fun g gl xs g' h' x hx hB hP => by rw [hRR]; exact specMayForget_any (some ⟨gl, 0, none⟩) lv lv.length (some ⟨g, 0, none⟩) rs rs.length now (some ⟨g', 0, none⟩) (some ⟨h', 0, none⟩) ss.length ps.length ss ps r f x (HAt.out g gl xs x hx hB) hP.1 hP.2 (Nat.le_refl _) (Nat.le_refl _) Z1.out n1 n2
  have HI : Hid (∀ g gl xs g' h' x, xs.map (·.1) = rs → LgB x g xs gl lv → RulAt x (some ⟨g', 0, none⟩) ss ∧ IntAt x (some ⟨h', 0, none⟩) ps → Below W2.heap.size W2 x → Calls Tryz.prog 23 #[.agg #[.slice (some ⟨g, 0, none⟩) rs.length rs.length, .slice (some ⟨gl, 0, none⟩) lv.length lv.length, .int .i64 now], .agg #[.slice (some ⟨g', 0, none⟩) ss.length ss.length, .slice (some ⟨h', 0, none⟩) ps.length ps.length], .int .i64 r, .int .i64 f] x fun e w' => e = .returned (.int .i64 R) ∧ Below x.heap.size x w') := fun g gl xs g' h' x hx hB hP hb => by rw [hRR]; exact implMayForget_any (some ⟨gl, 0, none⟩) lv lv.length (some ⟨g, 0, none⟩) rs rs.length now (some ⟨g', 0, none⟩) (some ⟨h', 0, none⟩) ss.length ps.length ss ps r f x (HT.out.to (chainB B2.out hb)) (HG.out.below (chainB B2.out hb)) (HAt.out g gl xs x hx hB) hP.1 hP.2 (Nat.le_refl _) (Nat.le_refl _) Z1.out n1 n2
  have BD : Hid (Below W2.heap.size W2 w4) := b4
  clear HBg HLB HZR HZL hRR hrf HT HG HAt K0 K1 ZB Z1 b4
  obtain ⟨⟨x0, x1, x2⟩, x3, x4⟩ := HX.out w4 BD.out
  go_wp2_with fail
  go_region_held3 (fun w' => (w'.cell? ⟨w.heap.size, 0, none⟩ = some (.slice q rs.length cq) ∧ w'.cell? ⟨w.heap.size, 1, none⟩ = some (.slice p lv.length cp) ∧ w'.cell? ⟨w.heap.size, 2, none⟩ = some (.int .i64 now)) ∧ w'.cell? ⟨w.heap.size + 1, 0, none⟩ = some (.slice a0 ss.length cap0) ∧ w'.cell? ⟨w.heap.size + 1, 1, none⟩ = some (.slice b0 ps.length capb)) ((refine HX.out _ ?hT; (case hT => (with_reducible repeat (first | assumption | exact BD.out | refine Below.drew ?_ | refine alB ?_ _))))) (first
    | (go_at_call 12; with_reducible refine (HTL.out _ ?hB).mono ?_; (case hB => first | exact BD.out.drew | exact BD.out); rintro e z1 ⟨g1, l1, xs1, hx1, rfl, hB1, zb1⟩; have y1 : Below W2.heap.size W2 z1 := chainB BD.out.drew zb1)
    | (go_at_call 13; with_reducible refine (HTP.out _ y1).mono ?_; rintro e z2 ⟨g2, h2, rfl, hP2, zb2⟩; have y2 := chainB y1 zb2; have hB2 := hB1.below zb2)
    | (go_at_call 22; with_reducible refine (HS.out g1 l1 xs1 g2 h2 _ hx1 hB2 hP2).mono ?_; rintro e z3 ⟨rfl, zb3⟩; have y3 := chainB y2 zb3))
  clear hB1 y1 zb1 zb2 hB2 hP2 y2 zb3 HS BD x0 x1 x2 x3 x4
  rename_i hHeld
  clear hHeld
  have hTo2 := HTL.out z3 y3
  obtain ⟨⟨x0, x1, x2⟩, x3, x4⟩ := HX.out z3 y3
  go_wp2_with fail
  refine hTo2.mono ?_
  rintro e w6 ⟨g6, l6, xs6, hx6, rfl, hB6, b6⟩
  have y6 := chainB y3 b6
  clear hTo2 x0 x1 x2 x3 x4 hx1 y3 b6
  obtain ⟨W7, hW7⟩ : ∃ W7, W7 = w6.alloc (.cells #[.slice (some ⟨g6, 0, none⟩) rs.length rs.length, .slice (some ⟨l6, 0, none⟩) lv.length lv.length, .int .i64 now] 36) := ⟨_, rfl⟩
  have HW7 : Hid (W7 = w6.alloc (.cells #[.slice (some ⟨g6, 0, none⟩) rs.length rs.length, .slice (some ⟨l6, 0, none⟩) lv.length lv.length, .int .i64 now] 36)) := hW7
  have b67 : Below w6.heap.size w6 W7 := by rw [hW7]; exact (Below.refl _ _).alloc (Nat.le_refl _) _
  have K7 : Hid (Bxs W7 w6.heap.size 36 #[.slice (some ⟨g6, 0, none⟩) rs.length rs.length, .slice (some ⟨l6, 0, none⟩) lv.length lv.length, .int .i64 now]) := by rw [hW7]; exact Bxs.new _ _ _
  have HB7 : Hid (LgB W7 g6 xs6 l6 lv) := hB6.below b67
  have y7 := chainB y6 b67
  have HX6 : Hid (xs6.map (·.1) = rs) := hx6
  have hTP := HTP.out W7 y7
  obtain ⟨-, x3, x4⟩ := HX.out W7 y7
  rw [HW7.out] at x3 x4
  clear hW7 b67 hB6 hx6 y6
  go_wp2_with fail
  rw [← HW7.out]
  refine hTP.mono ?_
  rintro e w8 ⟨g8, h8, rfl, hP8, b8⟩
  have y8 := chainB y7 b8
  have K8 : Hid (Bxs w8 w6.heap.size 36 #[.slice (some ⟨g6, 0, none⟩) rs.length rs.length, .slice (some ⟨l6, 0, none⟩) lv.length lv.length, .int .i64 now]) := K7.out.below b8
  have HB8 : Hid (LgB w8 g6 xs6 l6 lv) := HB7.out.below b8
  clear hTP x3 x4 HW7 K7 HB7 y7 b8
  obtain ⟨W9, hW9⟩ : ∃ W9, W9 = w8.alloc (.cells #[.slice (some ⟨g8, 0, none⟩) ss.length ss.length, .slice (some ⟨h8, 0, none⟩) ps.length ps.length] 40) := ⟨_, rfl⟩
  have HW9 : Hid (W9 = w8.alloc (.cells #[.slice (some ⟨g8, 0, none⟩) ss.length ss.length, .slice (some ⟨h8, 0, none⟩) ps.length ps.length] 40)) := hW9
  have b89 : Below w8.heap.size w8 W9 := by rw [hW9]; exact (Below.refl _ _).alloc (Nat.le_refl _) _
  have K9 : Hid (Bxs W9 w6.heap.size 36 #[.slice (some ⟨g6, 0, none⟩) rs.length rs.length, .slice (some ⟨l6, 0, none⟩) lv.length lv.length, .int .i64 now]) := K8.out.below b89
  have KP9 : Hid (Bxs W9 w8.heap.size 40 #[.slice (some ⟨g8, 0, none⟩) ss.length ss.length, .slice (some ⟨h8, 0, none⟩) ps.length ps.length]) := by rw [hW9]; exact Bxs.new _ _ _
  have HB9 : Hid (LgB W9 g6 xs6 l6 lv) := HB8.out.below b89
  have HP9 : Hid (RulAt W9 (some ⟨g8, 0, none⟩) ss ∧ IntAt W9 (some ⟨h8, 0, none⟩) ps) := ⟨hP8.1.below b89, hP8.2.below b89⟩
  have y9 := chainB y8 b89
  have hI := HI.out g6 l6 xs6 g8 h8 W9 HX6.out HB9.out HP9.out y9
  obtain ⟨x0, x1, x2⟩ := K9.out.three
  have x3 := KP9.out.cell 0
  have x4 := KP9.out.cell 1
  rw [HW9.out] at x0 x1 x2
  have x3 : (w8.alloc (.cells #[.slice (some ⟨g8, 0, none⟩) ss.length ss.length, .slice (some ⟨h8, 0, none⟩) ps.length ps.length] 40)).cell? ⟨w8.heap.size, 0, none⟩ = some (.slice (some ⟨g8, 0, none⟩) ss.length ss.length) := by rw [← HW9.out]; exact x3
  have x4 : (w8.alloc (.cells #[.slice (some ⟨g8, 0, none⟩) ss.length ss.length, .slice (some ⟨h8, 0, none⟩) ps.length ps.length] 40)).cell? ⟨w8.heap.size, 1, none⟩ = some (.slice (some ⟨h8, 0, none⟩) ps.length ps.length) := by rw [← HW9.out]; exact x4
  clear hW9 b89 K8 HB8 hP8 y8 HI
  go_wp2_with fail
  rw [← HW9.out]
  refine hI.mono ?_
  rintro e w10 ⟨rfl, b10⟩
  have y10 := chainB y9 b10
  have HXL : Hid (∀ x, Below w10.heap.size w10 x → ((x.cell? ⟨w.heap.size, 0, none⟩ = some (.slice q rs.length cq) ∧ x.cell? ⟨w.heap.size, 1, none⟩ = some (.slice p lv.length cp) ∧ x.cell? ⟨w.heap.size, 2, none⟩ = some (.int .i64 now)) ∧ x.cell? ⟨w.heap.size + 1, 0, none⟩ = some (.slice a0 ss.length cap0) ∧ x.cell? ⟨w.heap.size + 1, 1, none⟩ = some (.slice b0 ps.length capb)) ∧ (x.cell? ⟨w6.heap.size, 0, none⟩ = some (.slice (some ⟨g6, 0, none⟩) rs.length rs.length) ∧ x.cell? ⟨w6.heap.size, 1, none⟩ = some (.slice (some ⟨l6, 0, none⟩) lv.length lv.length) ∧ x.cell? ⟨w6.heap.size, 2, none⟩ = some (.int .i64 now)) ∧ (x.cell? ⟨w8.heap.size, 0, none⟩ = some (.slice (some ⟨g8, 0, none⟩) ss.length ss.length) ∧ x.cell? ⟨w8.heap.size, 1, none⟩ = some (.slice (some ⟨h8, 0, none⟩) ps.length ps.length))) := fun x hb => ⟨HX.out x (chainB y10 hb), ((K9.out.below b10).below hb).three, ((KP9.out.below b10).below hb).cell 0, ((KP9.out.below b10).below hb).cell 1⟩
  have HB10 : Hid (LgB w10 g6 xs6 l6 lv) := HB9.out.below b10
  have HP10 : Hid (RulAt w10 (some ⟨g8, 0, none⟩) ss ∧ IntAt w10 (some ⟨h8, 0, none⟩) ps) := ⟨HP9.out.1.below b10, HP9.out.2.below b10⟩
  have HEL : Hid (∀ x, Below w10.heap.size w10 x → ∀ g gl xs, xs.map (·.1) = rs → LgB x g xs gl lv → Calls Tryz.prog 16 #[.agg #[.slice (some ⟨g6, 0, none⟩) rs.length rs.length, .slice (some ⟨l6, 0, none⟩) lv.length lv.length, .int .i64 now], .agg #[.slice (some ⟨g, 0, none⟩) rs.length rs.length, .slice (some ⟨gl, 0, none⟩) lv.length lv.length, .int .i64 now]] x fun e w' => e = .returned (.bool true) ∧ Below x.heap.size x w') := fun x hb g gl xs hx hB => eqLog_any (some ⟨g6, 0, none⟩) (some ⟨g, 0, none⟩) rs.length rs.length rs (some ⟨l6, 0, none⟩) (some ⟨gl, 0, none⟩) lv.length lv.length lv now x (by have := (HB10.out.below hb).rw.at; rwa [HX6.out] at this) (by have := hB.rw.at; rwa [hx] at this) hrn (Nat.le_refl _) (Nat.le_refl _) HRF.out (HB10.out.below hb).lf.txt hB.lf.txt hln (Nat.le_refl _) (Nat.le_refl _)
  have HEP : Hid (∀ x, Below w10.heap.size w10 x → ∀ g h, RulAt x (some ⟨g, 0, none⟩) ss ∧ IntAt x (some ⟨h, 0, none⟩) ps → Calls Tryz.prog 17 #[.agg #[.slice (some ⟨g8, 0, none⟩) ss.length ss.length, .slice (some ⟨h8, 0, none⟩) ps.length ps.length], .agg #[.slice (some ⟨g, 0, none⟩) ss.length ss.length, .slice (some ⟨h, 0, none⟩) ps.length ps.length]] x fun e w' => e = .returned (.bool true) ∧ Below x.heap.size x w') := fun x hb g h hP => eqPolicy_any (some ⟨g8, 0, none⟩) (some ⟨h8, 0, none⟩) (some ⟨g, 0, none⟩) (some ⟨h, 0, none⟩) ss.length ps.length ss.length ps.length ss ps x (HP10.out.1.below hb) (HP10.out.2.below hb) hP.1 hP.2 n1 n2 (Nat.le_refl _) (Nat.le_refl _) (Nat.le_refl _) (Nat.le_refl _)
  have Y10 : Hid (Below W2.heap.size W2 w10) := y10
  have BD : Hid (Below w10.heap.size w10 w10) := Below.refl _ _
  clear hI x0 x1 x2 x3 x4 HW9 K9 KP9 HB9 HP9 y9 b10 HX6 y10 HB10 HP10
  go_upto_region 14 with fail
  go_region_held3 (fun w' => ((w'.cell? ⟨w.heap.size, 0, none⟩ = some (.slice q rs.length cq) ∧ w'.cell? ⟨w.heap.size, 1, none⟩ = some (.slice p lv.length cp) ∧ w'.cell? ⟨w.heap.size, 2, none⟩ = some (.int .i64 now)) ∧ w'.cell? ⟨w.heap.size + 1, 0, none⟩ = some (.slice a0 ss.length cap0) ∧ w'.cell? ⟨w.heap.size + 1, 1, none⟩ = some (.slice b0 ps.length capb)) ∧ (w'.cell? ⟨w6.heap.size, 0, none⟩ = some (.slice (some ⟨g6, 0, none⟩) rs.length rs.length) ∧ w'.cell? ⟨w6.heap.size, 1, none⟩ = some (.slice (some ⟨l6, 0, none⟩) lv.length lv.length) ∧ w'.cell? ⟨w6.heap.size, 2, none⟩ = some (.int .i64 now)) ∧ (w'.cell? ⟨w8.heap.size, 0, none⟩ = some (.slice (some ⟨g8, 0, none⟩) ss.length ss.length) ∧ w'.cell? ⟨w8.heap.size, 1, none⟩ = some (.slice (some ⟨h8, 0, none⟩) ps.length ps.length))) ((refine HXL.out _ ?hT; (case hT => (with_reducible repeat (first | assumption | exact BD.out | refine Below.drew ?_ | refine alB ?_ _))))) (first
    | (go_at_call 12; with_reducible refine (HTL.out _ (chainB Y10.out BD.out.drew)).mono ?_; rintro e z4 ⟨g1, l1, xs1, hx1, rfl, hB1, zb1⟩; have y1 : Below w10.heap.size w10 z4 := chainB BD.out.drew zb1)
    | (go_at_call 16; with_reducible refine (HEL.out _ y1 g1 l1 xs1 hx1 hB1).mono ?_; rintro e z5 ⟨rfl, zb2⟩; have y2 := chainB y1 zb2))
  rename_i hHeld
  clear hHeld hB1 y1 zb1 zb2 hx1 HEL
  have BE : Hid (Below w10.heap.size w10 z5) := y2
  clear y2
  go_upto_region 16 with fail
  go_region_held3 (fun w' => ((w'.cell? ⟨w.heap.size, 0, none⟩ = some (.slice q rs.length cq) ∧ w'.cell? ⟨w.heap.size, 1, none⟩ = some (.slice p lv.length cp) ∧ w'.cell? ⟨w.heap.size, 2, none⟩ = some (.int .i64 now)) ∧ w'.cell? ⟨w.heap.size + 1, 0, none⟩ = some (.slice a0 ss.length cap0) ∧ w'.cell? ⟨w.heap.size + 1, 1, none⟩ = some (.slice b0 ps.length capb)) ∧ (w'.cell? ⟨w6.heap.size, 0, none⟩ = some (.slice (some ⟨g6, 0, none⟩) rs.length rs.length) ∧ w'.cell? ⟨w6.heap.size, 1, none⟩ = some (.slice (some ⟨l6, 0, none⟩) lv.length lv.length) ∧ w'.cell? ⟨w6.heap.size, 2, none⟩ = some (.int .i64 now)) ∧ (w'.cell? ⟨w8.heap.size, 0, none⟩ = some (.slice (some ⟨g8, 0, none⟩) ss.length ss.length) ∧ w'.cell? ⟨w8.heap.size, 1, none⟩ = some (.slice (some ⟨h8, 0, none⟩) ps.length ps.length))) ((refine HXL.out _ ?hT; (case hT => (with_reducible repeat (first | assumption | exact BE.out | refine Below.drew ?_ | refine alB ?_ _))))) (first
    | (go_at_call 13; with_reducible refine (HTP.out _ (chainB Y10.out BE.out.drew)).mono ?_; rintro e z6 ⟨g1, h1, rfl, hP1, zb1⟩; have y1 : Below w10.heap.size w10 z6 := chainB BE.out.drew zb1)
    | (go_at_call 17; with_reducible refine (HEP.out _ y1 g1 h1 hP1).mono ?_; rintro e z7 ⟨rfl, zb2⟩; have y2 := chainB y1 zb2))
  have yE := chainB B2.out (chainB Y10.out y2)
  go_wp2_with fail
  go_ret
  exact ⟨rfl, yE⟩

theorem contract (H : Type) (enc : TypeId × Value → H) (W : World) (base : Nat) (args : Array Value) (ds gs : List (DataW H)) (before : List MemPlace)
    (hval : ∀ (j : Nat) t v, Tryz.f4.params[j]? = some t → args[j]? = some v → Value.okWide Tryz.prog W .any base t v)
    (hW : DataW.Whole enc Tryz.prog Tryz.f4.params.toList Rows.fnExactMayForgetSpec.vars false W args.toList ds gs before) (hL : laidMetH Tryz.prog Rows.fnExactMayForgetRow.laid W) :
    Calls Tryz.prog 4 args W fun e W' => ∃ v, e = .returned v ∧ Rows.fnExactMayForgetSpec.post enc Tryz.prog Tryz.f4 false true false false W args v W' := by
  have hW' := hW
  obtain ⟨p, q, hA0, hV, rfl, hfz, hnd⟩ := hW
  have hA : DataW.TrodAll enc Tryz.prog W 0 (fun _ => true) true Tryz.f4.params.toList args.toList ds p := hA0
  rw [Tryz.params4] at hA hval
  obtain ⟨v0, vs0, d0, ds0, p0, q0, hargs, rfl, rfl, h0, r0⟩ := trodAll_cons hA
  obtain ⟨v1, vs1, d1, ds1, p1, q1, rfl, rfl, rfl, h1, r1⟩ := trodAll_cons r0
  obtain ⟨v2, vs2, d2, ds2, p2, q2, rfl, rfl, rfl, h2, r2⟩ := trodAll_cons r1
  obtain ⟨v3, vs3, d3, ds3, p3, q3, rfl, rfl, rfl, h3, r3⟩ := trodAll_cons r2
  obtain ⟨rfl, rfl, rfl⟩ := trodAll_nil r3
  obtain rfl : args = #[v0, v1, v2, v3] := by cases args; simp_all
  have hV2 : DataW.TrodVars enc Tryz.prog W (fun _ => true) ["loop.example/g00633/impl.firstState", "loop.example/g00633/impl.roundNums"] gs q := hV
  obtain ⟨_, _, _, _, e0, _, _, _, _, _, e1, _, rfl, _⟩ := trodVars_two hV2
  have k0 := h0
  have lt0 : ∀ x ∈ p0, x.block < W.heap.size := by obtain ⟨m, hm⟩ := k0; exact DataW.trod_lt m _ _ _ hm
  obtain ⟨q0, cq0, rs0, pp0, cp0, lv0, now0, rfl, w0⟩ := open_log (hval 0 25 v0 rfl rfl) h0
  have k1 := h1
  have lt1 : ∀ x ∈ p1, x.block < W.heap.size := by obtain ⟨m, hm⟩ := k1; exact DataW.trod_lt m _ _ _ hm
  obtain ⟨a1, len1, cap1, b1, lenb1, capb1, rfl, ⟨ss1, wa1⟩, ⟨ts1, wb1⟩⟩ := open_policy (hval 1 29 v1 rfl rfl) h1
  have w1 := And.intro wa1 wb1
  obtain ⟨a2, rfl, rfl, rfl, w2⟩ := open_int Tryz.underlying2 (hval 2 2 v2 rfl rfl) h2
  obtain ⟨a3, rfl, rfl, rfl, w3⟩ := open_int Tryz.underlying2 (hval 3 2 v3 rfl rfl) h3
  clear hA0
  obtain ⟨hT, hLd⟩ := laid3_of hL
  refine (walk q0 cq0 rs0 pp0 cp0 lv0 now0 a1 len1 cap1 ss1 b1 lenb1 capb1 ts1 a2 a3 W w0 w1 w2 w3 hT hLd).mono fun e W' ⟨he, hg⟩ => ?_
  subst he
  exact ⟨_, rfl, _, _, _, [], _, _, hW', (trodAll_cons_mk (shut_bool Tryz.underlying4 _) trodAll_mk0), (trodAll_cons_mk (Below.trod laidOut (by kernel_rfl) (of_decide_eq_true (by kernel_rfl)) k0 hg lt0) (trodAll_cons_mk (Below.trod laidOut (by kernel_rfl) (of_decide_eq_true (by kernel_rfl)) k1 hg lt1) (trodAll_cons_mk (shut_int Tryz.underlying2 w2) (trodAll_cons_mk (shut_int Tryz.underlying2 w3) trodAll_mk0)))), Below.trodVars laidOut hg (by kernel_rfl) hV, hg.frame _, fun h => by cases h⟩

/-- A start in which the listed variables lie as the program's text lays them: what the door's own run leaves. -/
noncomputable def wit (os : Os) : World := World.doorLaid Tryz.prog 26 os
theorem laid_met (os : Os) : laidMetH Tryz.prog Rows.fnExactMayForgetRow.laid ((wit os).forCall (fun _ _ => 0) ⟨#[], #[.agg #[.slice none 0 0, .slice none 0 0, .int .i64 0], .agg #[.slice none 0 0, .slice none 0 0], .int .i64 0, .int .i64 0], []⟩).memory :=
  laidMetH_of_parts3 (fuel := 8) (laidMet_of_run' 8 (by kernel_rfl) (by kernel_rfl)) (by kernel_rfl) (by kernel_rfl)
theorem reads (os : Os) {H : Type} (enc : TypeId × Value → H) : ∃ gs places, DataW.whole enc Tryz.prog ((wit os).forCall (fun _ _ => 0) ⟨#[], #[.agg #[.slice none 0 0, .slice none 0 0, .int .i64 0], .agg #[.slice none 0 0, .slice none 0 0], .int .i64 0, .int .i64 0], []⟩).memory Tryz.f4.params.toList Rows.fnExactMayForgetSpec.vars false #[Value.agg #[.slice none 0 0, .slice none 0 0, .int .i64 0], Value.agg #[.slice none 0 0, .slice none 0 0], Value.int .i64 0, Value.int .i64 0].toList 8 = some ([.agg [.nil, .nil, .lit (.int .i64 0)], .agg [.nil, .nil], .lit (.int .i64 0), .lit (.int .i64 0)], gs, places) := by
  have h : (DataW.whole enc Tryz.prog ((wit os).forCall (fun _ _ => 0) ⟨#[], #[.agg #[.slice none 0 0, .slice none 0 0, .int .i64 0], .agg #[.slice none 0 0, .slice none 0 0], .int .i64 0, .int .i64 0], []⟩).memory Tryz.f4.params.toList Rows.fnExactMayForgetSpec.vars false #[Value.agg #[.slice none 0 0, .slice none 0 0, .int .i64 0], Value.agg #[.slice none 0 0, .slice none 0 0], Value.int .i64 0, Value.int .i64 0].toList 8).map (fun x => x.1) = some [.agg [.nil, .nil, .lit (.int .i64 0)], .agg [.nil, .nil], .lit (.int .i64 0), .lit (.int .i64 0)] := by kernel_rfl
  obtain ⟨⟨a, b, c⟩, hx, hy⟩ := Option.map_eq_some_iff.1 h
  cases hy
  exact ⟨b, c, hx⟩

set_option maxRecDepth 100000 in
theorem lifted (os : Os) (started : os.Started) (H : Type) (enc : TypeId × Value → H) (F : Stop.Interp) :
    ReturnsInHanded {} Tryz.checked os 4 .any ((OpenSpec.ofChange Rows.fnExactMayForgetSpec).preRow enc Tryz.prog Tryz.f4 Rows.fnExactMayForgetRow.domain false Rows.fnExactMayForgetRow.laid) (((OpenSpec.ofChange Rows.fnExactMayForgetSpec).at F).post enc Tryz.prog Tryz.f4 false true false false) := by
  obtain ⟨gs, places, hx⟩ := reads os enc
  refine returnsInHanded_of_row (C := Tryz.checked) (s := OpenSpec.ofChange Rows.fnExactMayForgetSpec) own started (by kernel_rfl) Tryz.func4
    (witness_row_at (enc := enc) (C := Tryz.checked) false (wit os) #[.agg #[.slice none 0 0, .slice none 0 0, .int .i64 0], .agg #[.slice none 0 0, .slice none 0 0], .int .i64 0, .int .i64 0] rfl (by kernel_rfl) (by kernel_rfl) (by kernel_rfl)
      (OpenSpec.preRow_of_cond 8 hx rfl (fun k hk => by cases hk) (by kernel_rfl) (laid_met os))) ?_
  intro W base args ds gs before hval hW _ _ _ hL _ _
  exact contract H enc W base args ds gs before hval hW hL

theorem said : Rows.FnExactMayForgetSaid :=
  OpenClaim.holds_of_cond 4 Tryz.f4 rfl rfl rfl rfl rfl rfl rfl ⟨rfl, rfl, rfl, rfl, rfl⟩ rfl rfl rfl rfl rfl saidA Tryz.func4 saidB
    saidC saidD
    (fun os started H enc _ F => by rw [OpenClaim.pre_eq_preRow]; exact lifted os started H enc F)

theorem plain (f : FuncId) (fn : Func) (hf : Tryz.pinned.checked.prog.funcNamed "loop.example/g00633/laws.FnExactMayForget" = some f) (hfn : Tryz.pinned.checked.prog.funcs[f]? = some fn) :
    Rows.fnExactMayForgetCard.stood.looks = Tryz.pinned.checked.prog.looks [] ∧ ∀ (j : Nat) t, fn.params[j]? = some t → Tryz.pinned.checked.prog.wantsStandIn t = false := by
  obtain rfl : f = 4 := Option.some.inj ((show Tryz.prog.funcNamed "loop.example/g00633/laws.FnExactMayForget" = some 4 by kernel_rfl).symm.trans hf) |>.symm
  obtain rfl : fn = Tryz.f4 := (Option.some.inj (Tryz.func4.symm.trans hfn)).symm
  refine ⟨by kernel_rfl, fun j t ht => ?_⟩
  rw [Tryz.params4] at ht
  have hm := Array.mem_of_getElem? ht
  have hl : t ∈ ([25, 29, 2, 2] : List TypeId) := by simpa using hm
  simp only [List.mem_cons, List.not_mem_nil, or_false] at hl
  rcases hl with rfl | rfl | rfl | rfl
  · exact (show Tryz.prog.wantsStandIn 25 = false by kernel_rfl)
  · exact (show Tryz.prog.wantsStandIn 29 = false by kernel_rfl)
  · exact (show Tryz.prog.wantsStandIn 2 = false by kernel_rfl)
  · exact (show Tryz.prog.wantsStandIn 2 = false by kernel_rfl)

theorem proved : Rows.FnExactMayForgetCardSaid :=
  Claim7.holds_tied_plain_at .later [] _ _ _ _ said (fun _ h => by cases h) (by kernel_rfl) (fun _ h => by cases h) fnExactMayForget_row_tie rfl ⟨rfl, rfl⟩ (by kernel_rfl) rfl plain (by kernel_rfl)
#print axioms proved
end Go.Proofs.YtifomfimfdgjjaaGreatDoor.fnExactMayForget
