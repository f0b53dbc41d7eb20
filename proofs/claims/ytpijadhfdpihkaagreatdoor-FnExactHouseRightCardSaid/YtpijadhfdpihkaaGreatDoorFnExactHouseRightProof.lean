/-
  For every house the law FnExactHouseRight returns true: the program's HouseRight answers as the specification's and writes into no argument; the card ties the listed variables, errors.errorType and the two tables firstState and roundNums, to the program's text.
  Conditions: none of mine; the form's own reach; the listed variables as the program's text lays them (the given tie). The card speaks of the pruned copy of the project that the seat names.
-/
import Derived.Test.YtpijadhfdpihkaaGreatDoorCards
import Derived.Test.YtpijadhfdpihkaaGreatDoorTie
import Derived.Test.YtpijadhfdpihkaaGreatDoorSlASlBBxKOwnS
import Derived.Test.YtpijadhfdpihkaaGreatDoorJoinedPutTextFldMath
import Derived.Test.YtpijadhfdpihkaaGreatDoorLgMath
import Derived.Test.YtpijadhfdpihkaaGreatDoorLgAtKShwKOneKFldGFldBlk
import Derived.Test.YtpijadhfdpihkaaGreatDoorRwBlkBlNotRulMathIntKPolMathTakes
import Derived.Test.YtpijadhfdpihkaaGreatDoorLawLg
import Derived.Test.YtpijadhfdpihkaaGreatDoorLawLh
import Derived.Test.YtpijadhfdpihkaaGreatDoorLawILawOGLawImLawPo
import Derived.Test.YtpijadhfdpihkaaGreatDoorHseK
import Derived.Test.YtpijadhfdpihkaaGreatDoorOpPOpHTabsOfTabEt
import Derived.WalkKit
import Derived.ProofKit
import Derived.OpenShut
import Derived.OpenVars
import Derived.ShutString
import Derived.LaidHandle
import Derived.LaidLaws
import Derived.LaidMore
import Derived.Deep.DeepHandedRow
import Derived.ChangeOld
import Derived.Below
import Derived.Deep.RegionHeld3
import Derived.Deep.Cut
import Derived.Handy
import Derived.WalkSpells
namespace Go.Proofs.YtpijadhfdpihkaaGreatDoor.fnExactHouseRight
open Go.ChangeShapes Go.WideShapes Go.ChangeAt Go.RowKit
open Go.ChangeMaps (open_string shut_string)
set_option linter.unusedVariables false
set_option maxRecDepth 100000

theorem own : ownKnob Tryz.prog.godebug = none := by kernel_rfl
theorem laidOut : laidOutB Tryz.prog = true := by kernel_rfl

set_option maxHeartbeats 4000000 in
theorem walk (q : Option Addr) (cq : Nat) (rs : List Rw) (p : Option Addr) (cp : Nat) (lv : List ByteArray) (now : Int) (p1 : Option Addr) (c1 : Nat) (ru : List Rul) (p2 : Option Addr) (c2 : Nat) (hs : List Int) (w : World) (w0 : IsHse w q cq rs p cp lv now p1 c1 ru p2 c2 hs) (hT : Tabs w) (hg : Laid w) :
    Calls Tryz.prog 3 #[.agg #[.slice q rs.length cq, .slice p lv.length cp, .int .i64 now, .slice p1 ru.length c1, .slice p2 hs.length c2]] w fun e w' => e = .returned (.bool true) ∧ Below w.heap.size w w' := by
  obtain ⟨⟨⟨-, hRw, hcq, hmq, hzr⟩, ⟨-, hTx, hcp, hmp, hzl⟩, -⟩, ⟨-, hRu, hcu, hmu, hzu⟩, ⟨-, hIn, hch, hmh⟩⟩ := w0
  have HT : Hid (Tabs w) := hT
  have HG : Hid (Laid w) := hg
  have HR : Hid (RwAt w q rs) := hRw
  have HL : Hid (TxtAt w p lv) := hTx
  have HU : Hid (RulAt w p1 ru) := hRu
  have HI : Hid (IntAt w p2 hs) := hIn
  have HZR : Hid (∀ r ∈ rs, r.fs.length ≤ maxLen ∧ r.k.size ≤ maxLen ∧ FldsLe r.fs) := hzr
  have HZL : Hid (∀ x ∈ lv, x.size ≤ maxLen) := hzl
  have HZU : Hid (RulsLe ru) := hzu
  have HBg : Hid (RwsBig rs) := fun r hr => by have h := hzr r hr; unfold maxLen at h; exact ⟨h.1, h.2.1, fun f hf => by have := h.2.2 f hf; unfold maxLen at this; exact this⟩
  have HLB : Hid (∀ x ∈ lv, x.size ≤ 9223372036854775807) := fun x hx => by have := hzl x hx; unfold maxLen at this; exact this
  have HUB : Hid (RulsBig ru) := fun x hx => by have := hzu x hx; unfold maxLen at this; exact this
  unfold maxLen at hmq hmp hmu hmh
  clear hRw hTx hRu hIn hzr hzl hzu hT hg
  obtain ⟨W1, hW1⟩ : ∃ W1, W1 = w.alloc (.cells #[.slice q rs.length cq, .slice p lv.length cp, .int .i64 now, .slice p1 ru.length c1, .slice p2 hs.length c2] 31) := ⟨_, rfl⟩
  have HW1 : Hid (W1 = w.alloc (.cells #[.slice q rs.length cq, .slice p lv.length cp, .int .i64 now, .slice p1 ru.length c1, .slice p2 hs.length c2] 31)) := hW1
  have B1 : Hid (Below w.heap.size w W1) := by rw [hW1]; exact (Below.refl _ _).alloc (Nat.le_refl _) _
  have K1 : Hid (Bxs W1 w.heap.size 31 #[.slice q rs.length cq, .slice p lv.length cp, .int .i64 now, .slice p1 ru.length c1, .slice p2 hs.length c2]) := by rw [hW1]; exact Bxs.new _ _ _
  have hSz := szHouse_any q cq rs p cp lv now p1 c1 ru p2 c2 hs W1 (HR.out.below B1.out) (by omega) hcq HBg.out (HL.out.below B1.out) (by omega) hcp HLB.out (HU.out.below B1.out) (by omega) (by omega) hcu HUB.out
  obtain ⟨x0, x1, x2, x3, x4⟩ := K1.out.fives
  clear hW1
  go_enter Tryz.func3, Tryz.ntmps3
  go_upto_region 1 with fail
  rw [← HW1.out]
  go_wp2_with fail
  with_reducible refine hSz.mono ?_
  rintro e w2 ⟨⟨r0, rfl, hr⟩, b2⟩
  clear hSz x0 x1 x2 x3 x4
  rcases hr with rfl | ⟨hr0, ⟨hrn, hrf⟩, hln, hun, hhn⟩
  · go_wp2_with fail
    go_ret
    exact ⟨rfl, chainB B1.out b2⟩
  have dr : decide (r0 < 0) = false := decide_eq_false (by omega)
  have HB2 : Hid (Below w.heap.size w w2) := chainB B1.out b2
  have K2 : Hid (Bxs w2 w.heap.size 31 #[.slice q rs.length cq, .slice p lv.length cp, .int .i64 now, .slice p1 ru.length c1, .slice p2 hs.length c2]) := K1.out.below b2
  have HTo : Hid (∀ x, Below w.heap.size w x → Calls Tryz.prog 6 #[.agg #[.slice q rs.length cq, .slice p lv.length cp, .int .i64 now, .slice p1 ru.length c1, .slice p2 hs.length c2]] x fun e w' => ∃ g l u i, e = .returned (.agg #[.slice (some ⟨g, 0, none⟩) rs.length rs.length, .slice (some ⟨l, 0, none⟩) lv.length lv.length, .int .i64 now, .slice (some ⟨u, 0, none⟩) ru.length ru.length, .slice (some ⟨i, 0, none⟩) hs.length hs.length]) ∧ HsB w' g l u i rs lv ru hs ∧ Below x.heap.size x w') := fun x hb => toHouse_any q cq rs p cp lv now p1 c1 ru p2 c2 hs x (HR.out.below hb) hrn hcq hrf (HL.out.below hb) hln hcp (HU.out.below hb) (HI.out.below hb) hun hhn hcu hch
  have HAt : Hid (∀ g l u i x, HsB x g l u i rs lv ru hs → LgAt (some ⟨l, 0, none⟩) lv lv.length (some ⟨g, 0, none⟩) rs rs.length x ∧ RulAt x (some ⟨u, 0, none⟩) ru ∧ IntAt x (some ⟨i, 0, none⟩) hs) := fun g l u i x hB => by
    obtain ⟨⟨xs, hx, hL⟩, hU, hI⟩ := hB
    exact ⟨⟨hL.lf.txt, Nat.le_refl _, hln, HZL.out, by have := hL.rw.at; rwa [hx] at this, Nat.le_refl _, hrn, fun r hr => ⟨hrf r hr, (HZR.out r hr).2.1, (HZR.out r hr).2.2⟩⟩, BlkU.at hU, BlkI.int hI⟩
  obtain ⟨R, hRR⟩ : ∃ R : Bool, R = hseB rs lv now ru hs := ⟨_, rfl⟩
  have HS : Hid (∀ g l u i x, HsB x g l u i rs lv ru hs → Calls Tryz.prog 5 #[.agg #[.slice (some ⟨g, 0, none⟩) rs.length rs.length, .slice (some ⟨l, 0, none⟩) lv.length lv.length, .int .i64 now, .slice (some ⟨u, 0, none⟩) ru.length ru.length, .slice (some ⟨i, 0, none⟩) hs.length hs.length]] x fun e w' => e = .returned (.bool R) ∧ Below x.heap.size x w') := fun g l u i x hB => by
    rw [hRR]
    obtain ⟨a, b, c⟩ := HAt.out g l u i x hB
    exact specHouse_any _ rs.length rs _ lv.length lv now _ ru.length ru _ hs.length hs x a b c hun hhn (Nat.le_refl _) (Nat.le_refl _) HZU.out
  have HIm : Hid (∀ g l u i x, HsB x g l u i rs lv ru hs → Below w.heap.size w x → Calls Tryz.prog 7 #[.agg #[.slice (some ⟨g, 0, none⟩) rs.length rs.length, .slice (some ⟨l, 0, none⟩) lv.length lv.length, .int .i64 now, .slice (some ⟨u, 0, none⟩) ru.length ru.length, .slice (some ⟨i, 0, none⟩) hs.length hs.length]] x fun e w' => e = .returned (.bool R) ∧ Below x.heap.size x w') := fun g l u i x hB hb => by
    rw [hRR]
    obtain ⟨a, b, c⟩ := HAt.out g l u i x hB
    exact implHouse_any _ rs.length rs _ lv.length lv now _ ru.length ru _ hs.length hs x (HT.out.to hb) (HG.out.below hb) a b c hun hhn (Nat.le_refl _) (Nat.le_refl _) HZU.out
  have HEq : Hid (∀ g l u i g' l' u' i' x, HsB x g l u i rs lv ru hs → HsB x g' l' u' i' rs lv ru hs → Calls Tryz.prog 8 #[.agg #[.slice (some ⟨g, 0, none⟩) rs.length rs.length, .slice (some ⟨l, 0, none⟩) lv.length lv.length, .int .i64 now, .slice (some ⟨u, 0, none⟩) ru.length ru.length, .slice (some ⟨i, 0, none⟩) hs.length hs.length], .agg #[.slice (some ⟨g', 0, none⟩) rs.length rs.length, .slice (some ⟨l', 0, none⟩) lv.length lv.length, .int .i64 now, .slice (some ⟨u', 0, none⟩) ru.length ru.length, .slice (some ⟨i', 0, none⟩) hs.length hs.length]] x fun e w' => e = .returned (.bool true) ∧ Below x.heap.size x w') := fun g l u i g' l' u' i' x h h' => eqHouse_any rs lv now ru hs g l u i g' l' u' i' x h h' hrn hrf hln hun hhn
  clear b2 K1 HBg HLB HUB HZR HZL HZU hRR hrf HT HG HAt HR HL HU HI hcq hcp hcu hch hmq hmp hmu hmh
  generalize rs.length = nr at *
  generalize lv.length = nl at *
  generalize ru.length = nu at *
  generalize hs.length = nh at *
  obtain ⟨x0, x1, x2, x3, x4⟩ := K2.out.fives
  have hTo1 := HTo.out w2 HB2.out
  go_wp2_with fail
  with_reducible refine hTo1.mono ?_
  rintro e w3 ⟨g3, l3, u3, i3, rfl, hB3, b3⟩
  have hS := HS.out g3 l3 u3 i3 w3 hB3
  clear hTo1 HS hB3 x0 x1 x2 x3 x4
  go_wp2_with fail
  with_reducible refine hS.mono ?_
  rintro e w4 ⟨rfl, b4⟩
  have b24 : Below w2.heap.size w2 w4 := chainB b3 b4
  have HB4 : Hid (Below w.heap.size w w4) := chainB HB2.out b24
  have K4 : Hid (Bxs w4 w.heap.size 31 #[.slice q nr cq, .slice p nl cp, .int .i64 now, .slice p1 nu c1, .slice p2 nh c2]) := K2.out.below b24
  have hTo2 := HTo.out w4 HB4.out
  obtain ⟨x0, x1, x2, x3, x4⟩ := K4.out.fives
  clear hS b3 b4 b24 K2 HB2
  go_wp2_with fail
  with_reducible refine hTo2.mono ?_
  rintro e w6 ⟨g6, l6, u6, i6, rfl, hB6, b6⟩
  clear hTo2 x0 x1 x2 x3 x4
  have b67 : Below w6.heap.size w6 (w6.alloc (.cells #[.slice (some ⟨g6, 0, none⟩) nr nr, .slice (some ⟨l6, 0, none⟩) nl nl, .int .i64 now, .slice (some ⟨u6, 0, none⟩) nu nu, .slice (some ⟨i6, 0, none⟩) nh nh] 41)) := (Below.refl _ _).alloc (Nat.le_refl _) _
  have HB7 : Hid (HsB (w6.alloc (.cells #[.slice (some ⟨g6, 0, none⟩) nr nr, .slice (some ⟨l6, 0, none⟩) nl nl, .int .i64 now, .slice (some ⟨u6, 0, none⟩) nu nu, .slice (some ⟨i6, 0, none⟩) nh nh] 41)) g6 l6 u6 i6 rs lv ru hs) := hB6.below b67
  have K7 : Hid (Bxs (w6.alloc (.cells #[.slice (some ⟨g6, 0, none⟩) nr nr, .slice (some ⟨l6, 0, none⟩) nl nl, .int .i64 now, .slice (some ⟨u6, 0, none⟩) nu nu, .slice (some ⟨i6, 0, none⟩) nh nh] 41)) w6.heap.size 41 #[.slice (some ⟨g6, 0, none⟩) nr nr, .slice (some ⟨l6, 0, none⟩) nl nl, .int .i64 now, .slice (some ⟨u6, 0, none⟩) nu nu, .slice (some ⟨i6, 0, none⟩) nh nh]) := Bxs.new _ _ _
  have KA7 : Hid (Bxs (w6.alloc (.cells #[.slice (some ⟨g6, 0, none⟩) nr nr, .slice (some ⟨l6, 0, none⟩) nl nl, .int .i64 now, .slice (some ⟨u6, 0, none⟩) nu nu, .slice (some ⟨i6, 0, none⟩) nh nh] 41)) w.heap.size 31 #[.slice q nr cq, .slice p nl cp, .int .i64 now, .slice p1 nu c1, .slice p2 nh c2]) := (K4.out.below b6).below b67
  have B7 : Hid (Below w.heap.size w (w6.alloc (.cells #[.slice (some ⟨g6, 0, none⟩) nr nr, .slice (some ⟨l6, 0, none⟩) nl nl, .int .i64 now, .slice (some ⟨u6, 0, none⟩) nu nu, .slice (some ⟨i6, 0, none⟩) nh nh] 41))) := chainB (chainB HB4.out b6) b67
  clear b67 hB6 b6 K4 HB4
  go_upto_region 7 with fail
  generalize w6.heap.size = E at *
  generalize w6.alloc (.cells #[.slice (some ⟨g6, 0, none⟩) nr nr, .slice (some ⟨l6, 0, none⟩) nl nl, .int .i64 now, .slice (some ⟨u6, 0, none⟩) nu nu, .slice (some ⟨i6, 0, none⟩) nh nh] 41) = W7 at *
  have hI := HIm.out g6 l6 u6 i6 W7 HB7.out B7.out
  obtain ⟨y0, y1, y2, y3, y4⟩ := K7.out.fives
  go_wp2_with fail
  with_reducible refine hI.mono ?_
  rintro e w8 ⟨rfl, b8⟩
  clear hI y0 y1 y2 y3 y4
  have HX : Hid (∀ x, Below w8.heap.size w8 x → (x.cell? ⟨w.heap.size, 0, none⟩ = some (.slice q nr cq) ∧ x.cell? ⟨w.heap.size, 1, none⟩ = some (.slice p nl cp) ∧ x.cell? ⟨w.heap.size, 2, none⟩ = some (.int .i64 now) ∧ x.cell? ⟨w.heap.size, 3, none⟩ = some (.slice p1 nu c1) ∧ x.cell? ⟨w.heap.size, 4, none⟩ = some (.slice p2 nh c2)) ∧ x.cell? ⟨E, 0, none⟩ = some (.slice (some ⟨g6, 0, none⟩) nr nr) ∧ x.cell? ⟨E, 1, none⟩ = some (.slice (some ⟨l6, 0, none⟩) nl nl) ∧ x.cell? ⟨E, 2, none⟩ = some (.int .i64 now) ∧ x.cell? ⟨E, 3, none⟩ = some (.slice (some ⟨u6, 0, none⟩) nu nu) ∧ x.cell? ⟨E, 4, none⟩ = some (.slice (some ⟨i6, 0, none⟩) nh nh)) := fun x hb => ⟨((KA7.out.below b8).below hb).fives, ((K7.out.below b8).below hb).fives⟩
  have HH8 : Hid (HsB w8 g6 l6 u6 i6 rs lv ru hs) := HB7.out.below b8
  have HB8 : Hid (Below w.heap.size w w8) := chainB B7.out b8
  have hR : ((R != R)) = false := by simp
  have BR : Hid (Below w8.heap.size w8 w8.drew) := (Below.refl _ _).drew
  clear b8 K7 KA7 B7 HB7
  go_upto_region 10 with fail
  go_region_held3 (fun w' => (w'.cell? ⟨w.heap.size, 0, none⟩ = some (.slice q nr cq) ∧ w'.cell? ⟨w.heap.size, 1, none⟩ = some (.slice p nl cp) ∧ w'.cell? ⟨w.heap.size, 2, none⟩ = some (.int .i64 now) ∧ w'.cell? ⟨w.heap.size, 3, none⟩ = some (.slice p1 nu c1) ∧ w'.cell? ⟨w.heap.size, 4, none⟩ = some (.slice p2 nh c2)) ∧ w'.cell? ⟨E, 0, none⟩ = some (.slice (some ⟨g6, 0, none⟩) nr nr) ∧ w'.cell? ⟨E, 1, none⟩ = some (.slice (some ⟨l6, 0, none⟩) nl nl) ∧ w'.cell? ⟨E, 2, none⟩ = some (.int .i64 now) ∧ w'.cell? ⟨E, 3, none⟩ = some (.slice (some ⟨u6, 0, none⟩) nu nu) ∧ w'.cell? ⟨E, 4, none⟩ = some (.slice (some ⟨i6, 0, none⟩) nh nh)) ((first | exact HX.out _ BR.out | exact HX.out _ q1 | exact HX.out _ q2)) (first
    | (go_at_call 6; with_reducible refine (HTo.out _ (chainB HB8.out BR.out)).mono ?_; rintro e v1 ⟨g9, l9, u9, i9, rfl, j9, z1⟩; have q1 : Below w8.heap.size w8 v1 := chainB BR.out z1)
    | (go_at_call 8; with_reducible refine (HEq.out g6 l6 u6 i6 g9 l9 u9 i9 _ (HH8.out.below q1) j9).mono ?_; rintro e v2 ⟨rfl, z2⟩; have q2 : Below w8.heap.size w8 v2 := chainB q1 z2))
  all_goals
    go_wp2_with fail
    go_ret
    exact ⟨rfl, chainB HB8.out q2⟩

theorem contract (H : Type) (enc : TypeId × Value → H) (W : World) (base : Nat) (args : Array Value) (ds gs : List (DataW H)) (before : List MemPlace)
    (hval : ∀ (j : Nat) t v, Tryz.f3.params[j]? = some t → args[j]? = some v → Value.okWide Tryz.prog W .any base t v)
    (hW : DataW.Whole enc Tryz.prog Tryz.f3.params.toList Rows.fnExactHouseRightSpec.vars false W args.toList ds gs before) (hL : laidMetH Tryz.prog Rows.fnExactHouseRightRow.laid W) :
    Calls Tryz.prog 3 args W fun e W' => ∃ v, e = .returned v ∧ Rows.fnExactHouseRightSpec.post enc Tryz.prog Tryz.f3 false true false false W args v W' := by
  have hW' := hW
  obtain ⟨p, q, hA0, hV, rfl, hfz, hnd⟩ := hW
  have hA : DataW.TrodAll enc Tryz.prog W 0 (fun _ => true) true Tryz.f3.params.toList args.toList ds p := hA0
  rw [Tryz.params3] at hA hval
  obtain ⟨v0, vs0, d0, ds0, p0, q0, hargs, rfl, rfl, h0, r0⟩ := trodAll_cons hA
  obtain ⟨rfl, rfl, rfl⟩ := trodAll_nil r0
  obtain rfl : args = #[v0] := by cases args; simp_all
  have hV2 : DataW.TrodVars enc Tryz.prog W (fun _ => true) ["loop.example/g00633/impl.firstState", "loop.example/g00633/impl.roundNums"] gs q := hV
  obtain ⟨_, _, _, _, e0, _, _, _, _, _, e1, _, rfl, _⟩ := trodVars_two hV2
  have k0 := h0
  have lt0 : ∀ x ∈ p0, x.block < W.heap.size := by obtain ⟨m, hm⟩ := k0; exact DataW.trod_lt m _ _ _ hm
  obtain ⟨q0, cq0, rs0, pp0, cp0, lv0, now0, pu0, cu0, ru0, ph0, ch0, hs0, rfl, w0⟩ := open_house (hval 0 31 v0 rfl rfl) h0
  clear hA0
  obtain ⟨hT, hLd⟩ := laid3_of hL
  refine (walk q0 cq0 rs0 pp0 cp0 lv0 now0 pu0 cu0 ru0 ph0 ch0 hs0 W w0 hT hLd).mono fun e W' ⟨he, hg⟩ => ?_
  subst he
  exact ⟨_, rfl, _, _, _, [], _, _, hW', (trodAll_cons_mk (shut_bool Tryz.underlying4 _) trodAll_mk0), (trodAll_cons_mk (Below.trod laidOut (by kernel_rfl) (of_decide_eq_true (by kernel_rfl)) k0 hg lt0) trodAll_mk0), Below.trodVars laidOut hg (by kernel_rfl) hV, hg.frame _, fun h => by cases h⟩

/-- A start in which the listed variables lie as the program's text lays them: what the door's own run leaves. -/
noncomputable def wit (os : Os) : World := World.doorLaid Tryz.prog 26 os
theorem laid_met (os : Os) : laidMetH Tryz.prog Rows.fnExactHouseRightRow.laid ((wit os).forCall (fun _ _ => 0) ⟨#[], #[.agg #[.slice none 0 0, .slice none 0 0, .int .i64 0, .slice none 0 0, .slice none 0 0]], []⟩).memory :=
  laidMetH_of_parts3 (fuel := 8) (laidMet_of_run' 8 (by kernel_rfl) (by kernel_rfl)) (by kernel_rfl) (by kernel_rfl)
theorem reads (os : Os) {H : Type} (enc : TypeId × Value → H) : ∃ gs places, DataW.whole enc Tryz.prog ((wit os).forCall (fun _ _ => 0) ⟨#[], #[.agg #[.slice none 0 0, .slice none 0 0, .int .i64 0, .slice none 0 0, .slice none 0 0]], []⟩).memory Tryz.f3.params.toList Rows.fnExactHouseRightSpec.vars false #[Value.agg #[.slice none 0 0, .slice none 0 0, .int .i64 0, .slice none 0 0, .slice none 0 0]].toList 8 = some ([.agg [.agg [.nil, .nil, .lit (.int .i64 0)], .agg [.nil, .nil]]], gs, places) := by
  have h : (DataW.whole enc Tryz.prog ((wit os).forCall (fun _ _ => 0) ⟨#[], #[.agg #[.slice none 0 0, .slice none 0 0, .int .i64 0, .slice none 0 0, .slice none 0 0]], []⟩).memory Tryz.f3.params.toList Rows.fnExactHouseRightSpec.vars false #[Value.agg #[.slice none 0 0, .slice none 0 0, .int .i64 0, .slice none 0 0, .slice none 0 0]].toList 8).map (fun x => x.1) = some [.agg [.agg [.nil, .nil, .lit (.int .i64 0)], .agg [.nil, .nil]]] := by kernel_rfl
  obtain ⟨⟨a, b, c⟩, hx, hy⟩ := Option.map_eq_some_iff.1 h
  cases hy
  exact ⟨b, c, hx⟩

set_option maxRecDepth 100000 in
theorem lifted (os : Os) (started : os.Started) (H : Type) (enc : TypeId × Value → H) (F : Stop.Interp) :
    ReturnsInHanded {} Tryz.checked os 3 .any ((OpenSpec.ofChange Rows.fnExactHouseRightSpec).preRow enc Tryz.prog Tryz.f3 Rows.fnExactHouseRightRow.domain false Rows.fnExactHouseRightRow.laid) (((OpenSpec.ofChange Rows.fnExactHouseRightSpec).at F).post enc Tryz.prog Tryz.f3 false true false false) := by
  obtain ⟨gs, places, hx⟩ := reads os enc
  refine returnsInHanded_of_row (C := Tryz.checked) (s := OpenSpec.ofChange Rows.fnExactHouseRightSpec) own started (by kernel_rfl) Tryz.func3
    (witness_row_at (enc := enc) (C := Tryz.checked) false (wit os) #[.agg #[.slice none 0 0, .slice none 0 0, .int .i64 0, .slice none 0 0, .slice none 0 0]] rfl (by kernel_rfl) (by kernel_rfl) (by kernel_rfl)
      (OpenSpec.preRow_of_cond 8 hx rfl (fun k hk => by cases hk) (by kernel_rfl) (laid_met os))) ?_
  intro W base args ds gs before hval hW _ _ _ hL _ _
  exact contract H enc W base args ds gs before hval hW hL

theorem said : Rows.FnExactHouseRightSaid :=
  OpenClaim.holds_of_cond 3 Tryz.f3 rfl rfl rfl rfl rfl rfl rfl ⟨rfl, rfl, rfl, rfl, rfl⟩ rfl rfl rfl rfl rfl (by kernel_rfl) Tryz.func3 (by kernel_rfl)
    (of_decide_eq_true (by kernel_rfl)) (by unfold Func.isWrapper; first | (rw [if_pos (by decide +kernel)]; kernel_rfl) | (rw [if_neg (by decide +kernel)]; exact ⟨rfl, rfl⟩))
    (fun os started H enc _ F => by rw [OpenClaim.pre_eq_preRow]; exact lifted os started H enc F)

theorem plain (f : FuncId) (fn : Func) (hf : Tryz.pinned.checked.prog.funcNamed "loop.example/g00633/laws.FnExactHouseRight" = some f) (hfn : Tryz.pinned.checked.prog.funcs[f]? = some fn) :
    Rows.fnExactHouseRightCard.stood.looks = Tryz.pinned.checked.prog.looks [] ∧ ∀ (j : Nat) t, fn.params[j]? = some t → Tryz.pinned.checked.prog.wantsStandIn t = false := by
  obtain rfl : f = 3 := Option.some.inj ((show Tryz.prog.funcNamed "loop.example/g00633/laws.FnExactHouseRight" = some 3 by kernel_rfl).symm.trans hf) |>.symm
  obtain rfl : fn = Tryz.f3 := (Option.some.inj (Tryz.func3.symm.trans hfn)).symm
  refine ⟨by kernel_rfl, fun j t ht => ?_⟩
  rw [Tryz.params3] at ht
  have hm := Array.mem_of_getElem? ht
  have hl : t ∈ ([31] : List TypeId) := by simpa using hm
  simp only [List.mem_cons, List.not_mem_nil, or_false] at hl
  subst hl
  exact (show Tryz.prog.wantsStandIn 31 = false by kernel_rfl)

theorem proved : Rows.FnExactHouseRightCardSaid :=
  Claim7.holds_tied_plain_at .later [] _ _ _ _ said (fun _ h => by cases h) (by kernel_rfl) (fun _ h => by cases h) fnExactHouseRight_row_tie rfl ⟨rfl, rfl⟩ (by kernel_rfl) rfl plain (by kernel_rfl)
#print axioms proved
end Go.Proofs.YtpijadhfdpihkaaGreatDoor.fnExactHouseRight
