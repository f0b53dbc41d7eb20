/-
  What the program's goesOn and Clash answer: 'claB'.
  Conditions: the slice's cells hold those texts; the two tables of the digest are laid.
-/
import Derived.Test.YtfdihkgkiiekcaaDoorRows
import Derived.Test.YtfdihkgkiiekcaaDoorBytesDigMath
import Derived.Test.YtfdihkgkiiekcaaDoorSlASlBBxK
import Derived.Test.YtfdihkgkiiekcaaDoorConMathProofLaw
import Derived.Test.YtfdihkgkiiekcaaDoorConIClaMath
import Derived.Test.YtfdihkgkiiekcaaDoorLawSigLAudMathScanMath
import Derived.Test.YtfdihkgkiiekcaaDoorAudIScopes
import Derived.Handy
import Derived.WalkSpells
import Derived.OwnWalk
import Derived.Deep.Cut
namespace Go.Proofs.YtfdihkgkiiekcaaDoor
open Go.RowKit Go.Lib
set_option linter.unusedVariables false
set_option maxRecDepth 20000

theorem Tabs.on {w w' : World} (h : Tabs w) (hb : Below w.heap.size w w') : Tabs w' := h.below hb h.1
set_option maxHeartbeats 1000000 in
theorem goesOn_any (ka : ByteArray) (sa : Int) (ra kb : ByteArray) (sb : Int) (rb : ByteArray) (p : Option Addr) (cap : Nat) (ss : List ByteArray) (w : World) (hT : Tabs w) (hp : TxtAt w p ss) (hn : ss.length ≤ 1048576) (hcap : ss.length ≤ cap)
    (a0 : -9223372036854775808 ≤ sa ∧ sa ≤ 9223372036854775807) (b0 : -9223372036854775808 ≤ sb ∧ sb ≤ 9223372036854775807) :
    Calls Tryd.prog 28 #[.agg #[.string ka, .int .i64 sa, .string ra], .agg #[.string kb, .int .i64 sb, .string rb], .slice p ss.length cap] w fun e w' => e = .returned (.bool (conA sa sb ss ra rb)) ∧ Below w.heap.size w w' := by
  obtain ⟨W1, hW1⟩ : ∃ W1, W1 = (w.alloc (.cells #[.string ka, .int .i64 sa, .string ra] 30)).alloc (.cells #[.string kb, .int .i64 sb, .string rb] 30) := ⟨_, rfl⟩
  have HW1 : Hid (W1 = (w.alloc (.cells #[.string ka, .int .i64 sa, .string ra] 30)).alloc (.cells #[.string kb, .int .i64 sb, .string rb] 30)) := hW1
  obtain ⟨b1, k1, k2⟩ := two_boxes w 30 ka sa ra kb sb rb hW1
  have B1 : Hid (Below w.heap.size w W1) := b1
  obtain ⟨x0, x1, x2⟩ := k1.thr
  obtain ⟨x3, x4, x5⟩ := k2.thr
  have hC := implCon_any sa sb p cap ss ra rb W1 (hT.on b1) (hp.below b1) (by omega) hcap a0.1 a0.2 b0.1 b0.2
  clear b1 k1 k2 hW1 hT hp a0 b0
  generalize conA sa sb ss ra rb = C at *
  go_enter Tryd.func28, Tryd.ntmps28
  go_wp2_with fail
  try rw [← HW1.out]
  try go_wp2_with fail
  with_reducible refine hC.mono ?_
  rintro e y3 ⟨rfl, z4⟩
  go_wp2_with fail
  go_ret
  exact ⟨rfl, chainB B1.out z4⟩
set_option maxHeartbeats 4000000 in
theorem implClash_any (ka : ByteArray) (sa : Int) (ra kb : ByteArray) (sb : Int) (rb : ByteArray) (p : Option Addr) (cap : Nat) (ss : List ByteArray) (w : World) (hT : Tabs w) (hp : TxtAt w p ss) (hn : ss.length ≤ 1048576) (hcap : ss.length ≤ cap)
    (a0 : -9223372036854775808 ≤ sa ∧ sa ≤ 9223372036854775807) (b0 : -9223372036854775808 ≤ sb ∧ sb ≤ 9223372036854775807) :
    Calls Tryd.prog 17 #[.agg #[.string ka, .int .i64 sa, .string ra], .agg #[.string kb, .int .i64 sb, .string rb], .slice p ss.length cap] w fun e w' => e = .returned (.bool (claB ka sa ra kb sb rb ss)) ∧ Below w.heap.size w w' := by
  obtain ⟨W1, hW1⟩ : ∃ W1, W1 = (w.alloc (.cells #[.string ka, .int .i64 sa, .string ra] 30)).alloc (.cells #[.string kb, .int .i64 sb, .string rb] 30) := ⟨_, rfl⟩
  have HW1 : Hid (W1 = (w.alloc (.cells #[.string ka, .int .i64 sa, .string ra] 30)).alloc (.cells #[.string kb, .int .i64 sb, .string rb] 30)) := hW1
  obtain ⟨b1, k1, k2⟩ := two_boxes w 30 ka sa ra kb sb rb hW1
  have B1 : Hid (Below w.heap.size w W1) := b1
  have K1 : Hid (Bxs W1 w.heap.size 30 #[.string ka, .int .i64 sa, .string ra]) := k1
  have K2 : Hid (Bxs W1 (w.heap.size + 1) 30 #[.string kb, .int .i64 sb, .string rb]) := k2
  clear b1 k1 k2
  by_cases c1 : ss.length ≤ 400
  case neg =>
    have H : Hid (claB ka sa ra kb sb rb ss = false) := cla_long c1
    have d1 : decide (400 < (ss.length : Int)) = true := decide_eq_true (by omega)
    rw [H.out]
    clear hW1
    go_enter Tryd.func17, Tryd.ntmps17
    go_wp2_with fail
    rw [← HW1.out]
    try go_wp2_with fail
    go_ret
    exact ⟨rfl, B1.out⟩
  have d1 : decide (400 < (ss.length : Int)) = false := decide_eq_false (by omega)
  have H0 : Hid (claB ka sa ra kb sb rb ss = (audB ka sa ra && (audB kb sb rb && ((ka.toList == kb.toList) && (!(sa == 0) && (!(sb == 0) && claE sa ra sb rb ss)))))) := cla_some c1
  have P1 : Hid (TxtAt W1 p ss) := hp.below B1.out
  have HA := implAud_any ka sa ra W1
  have HB : Hid (∀ x, Calls Tryd.prog 26 #[.agg #[.string kb, .int .i64 sb, .string rb]] x fun e w' => e = .returned (.bool (audB kb sb rb)) ∧ Below x.heap.size x w') := fun x => implAud_any kb sb rb x
  have T1 : Hid (Tabs W1) := hT.on B1.out
  have HC1 : Hid (∀ x, Below W1.heap.size W1 x → Calls Tryd.prog 28 #[.agg #[.string ka, .int .i64 sa, .string ra], .agg #[.string kb, .int .i64 sb, .string rb], .slice p ss.length cap] x fun e w' => e = .returned (.bool (conA sa sb ss ra rb)) ∧ Below x.heap.size x w') := fun x hx => goesOn_any ka sa ra kb sb rb p cap ss x (T1.out.on hx) (P1.out.below hx) hn hcap a0 b0
  have HC2 : Hid (∀ x, Tabs x → TxtAt x p ss → Calls Tryd.prog 28 #[.agg #[.string kb, .int .i64 sb, .string rb], .agg #[.string ka, .int .i64 sa, .string ra], .slice p ss.length cap] x fun e w' => e = .returned (.bool (conA sb sa ss rb ra)) ∧ Below x.heap.size x w') := fun x hx hq => goesOn_any kb sb rb ka sa ra p cap ss x hx hq hn hcap b0 a0
  have HS : Hid (∀ x, Calls Tryd.prog 27 #[.agg #[.string ka, .int .i64 sa, .string ra]] x fun e w' => e = .returned (.bool (decide (0 < sa))) ∧ Below x.heap.size x w') := fun x => hasSize_any ka sa ra x
  have HS2 : Hid (∀ x, Calls Tryd.prog 27 #[.agg #[.string kb, .int .i64 sb, .string rb]] x fun e w' => e = .returned (.bool (decide (0 < sb))) ∧ Below x.heap.size x w') := fun x => hasSize_any kb sb rb x
  have HPA : Hid (audB ka sa ra = true → 0 ≤ sa) := fun h => (aud_parts h).2.1
  have HPB : Hid (audB kb sb rb = true → 0 ≤ sb) := fun h => (aud_parts h).2.1
  have HSw : Hid (∀ x, Below W1.heap.size W1 x → Below w.heap.size w ((((((x.setCell ⟨w.heap.size, 0, none⟩ (.string kb)).setCell ⟨w.heap.size, 1, none⟩ (.int .i64 sb)).setCell ⟨w.heap.size, 2, none⟩ (.string rb)).setCell ⟨w.heap.size + 1, 0, none⟩ (.string ka)).setCell ⟨w.heap.size + 1, 1, none⟩ (.int .i64 sa)).setCell ⟨w.heap.size + 1, 2, none⟩ (.string ra)) ∧ Bxs ((((((x.setCell ⟨w.heap.size, 0, none⟩ (.string kb)).setCell ⟨w.heap.size, 1, none⟩ (.int .i64 sb)).setCell ⟨w.heap.size, 2, none⟩ (.string rb)).setCell ⟨w.heap.size + 1, 0, none⟩ (.string ka)).setCell ⟨w.heap.size + 1, 1, none⟩ (.int .i64 sa)).setCell ⟨w.heap.size + 1, 2, none⟩ (.string ra)) w.heap.size 30 #[.string kb, .int .i64 sb, .string rb] ∧ Bxs ((((((x.setCell ⟨w.heap.size, 0, none⟩ (.string kb)).setCell ⟨w.heap.size, 1, none⟩ (.int .i64 sb)).setCell ⟨w.heap.size, 2, none⟩ (.string rb)).setCell ⟨w.heap.size + 1, 0, none⟩ (.string ka)).setCell ⟨w.heap.size + 1, 1, none⟩ (.int .i64 sa)).setCell ⟨w.heap.size + 1, 2, none⟩ (.string ra)) (w.heap.size + 1) 30 #[.string ka, .int .i64 sa, .string ra]) := fun x hb => by
    have h1 := K1.out.below hb
    have h2 := K2.out.below hb
    have h3 : Below w.heap.size w x := chainB B1.out hb
    exact ⟨below_set3 (below_set3 h3 (Nat.le_refl _) _ _ _) (by omega) _ _ _, ((((((h1.set 0 _).set 1 _).set 2 _).other _ 0 (by omega) _).other _ 1 (by omega) _).other _ 2 (by omega) _), ((((((h2.other _ 0 (by omega) _).other _ 1 (by omega) _).other _ 2 (by omega) _).set 0 _).set 1 _).set 2 _)⟩
  have HF : Hid (∀ x, Below W1.heap.size W1 x → x.frozen? ⟨w.heap.size, 0, none⟩ = false ∧ x.frozen? ⟨w.heap.size, 1, none⟩ = false ∧ x.frozen? ⟨w.heap.size, 2, none⟩ = false ∧ x.frozen? ⟨w.heap.size + 1, 0, none⟩ = false ∧ x.frozen? ⟨w.heap.size + 1, 1, none⟩ = false ∧ x.frozen? ⟨w.heap.size + 1, 2, none⟩ = false) := fun x hb => ⟨(K1.out.below hb).fr 0, (K1.out.below hb).fr 1, (K1.out.below hb).fr 2, (K2.out.below hb).fr 0, (K2.out.below hb).fr 1, (K2.out.below hb).fr 2⟩
  have TW : Hid (Tabs w) := hT
  have PW : Hid (TxtAt w p ss) := hp
  have HX : Hid (∀ x, Below W1.heap.size W1 x → (x.cell? ⟨w.heap.size, 0, none⟩ = some (.string ka) ∧ x.cell? ⟨w.heap.size, 1, none⟩ = some (.int .i64 sa) ∧ x.cell? ⟨w.heap.size, 2, none⟩ = some (.string ra)) ∧ x.cell? ⟨w.heap.size + 1, 0, none⟩ = some (.string kb) ∧ x.cell? ⟨w.heap.size + 1, 1, none⟩ = some (.int .i64 sb) ∧ x.cell? ⟨w.heap.size + 1, 2, none⟩ = some (.string rb)) := fun x hb => ⟨(K1.out.below hb).thr, (K2.out.below hb).thr⟩
  rw [H0.out]
  clear hW1 hp hT K1 K2 H0 P1 T1 a0 b0 c1
  generalize audB ka sa ra = A at *
  generalize audB kb sb rb = B at *
  generalize hda : decide (0 < sa) = DA at *
  generalize hdb : decide (0 < sb) = DB at *
  go_enter Tryd.func17, Tryd.ntmps17
  go_wp2_with fail
  rw [← HW1.out]
  with_reducible refine HA.mono ?_
  rintro e y1 ⟨rfl, z1⟩
  cases A
  · go_wp2_with fail
    go_ret
    exact ⟨rfl, chainB B1.out z1⟩
  obtain ⟨⟨x0, x1, x2⟩, x3, x4, x5⟩ := HX.out y1 z1
  go_wp2_with fail
  with_reducible refine (HB.out y1).mono ?_
  rintro e y2 ⟨rfl, z2⟩
  have z3 := chainB z1 z2
  have Z3 : Hid (Below w.heap.size w y2) := chainB B1.out z3
  cases B
  · go_wp2_with fail
    go_ret
    exact ⟨ret_bool (by simp), Z3.out⟩
  clear x0 x1 x2 x3 x4 x5
  obtain ⟨⟨x0, x1, x2⟩, x3, x4, x5⟩ := HX.out y2 z3
  have s0 : 0 ≤ sa := HPA.out (by simp)
  have s1 : 0 ≤ sb := HPB.out (by simp)
  cases hk : (ka.toList == kb.toList)
  · go_wp2_with fail
    go_ret
    exact ⟨ret_bool (by rw [hk]; rfl), Z3.out⟩
  have hSa := HS.out y2
  cases DA
  case false =>
    have h1 : Hid (sa = 0) := show sa = 0 by have := of_decide_eq_false hda; omega
    go_wp2_with fail
    with_reducible refine hSa.mono ?_
    rintro e y3 ⟨rfl, z4⟩
    go_wp2_with fail
    go_ret
    exact ⟨ret_bool (by rw [h1.out]; simp), chainB Z3.out z4⟩
  have h1 : (sa == 0) = false := beq_eq_false_iff_ne.2 (by have := of_decide_eq_true hda; omega)
  go_wp2_with fail
  with_reducible refine hSa.mono ?_
  rintro e y3 ⟨rfl, z4⟩
  have z5 := chainB z3 z4
  have Z5 : Hid (Below w.heap.size w y3) := chainB B1.out z5
  clear x0 x1 x2 x3 x4 x5
  obtain ⟨⟨x0, x1, x2⟩, x3, x4, x5⟩ := HX.out y3 z5
  have hSb := HS2.out y3
  cases DB
  case false =>
    have h2 : Hid (sb = 0) := show sb = 0 by have := of_decide_eq_false hdb; omega
    go_wp2_with fail
    with_reducible refine hSb.mono ?_
    rintro e y4 ⟨rfl, z6⟩
    go_wp2_with fail
    go_ret
    exact ⟨ret_bool (by rw [h2.out]; simp), chainB Z5.out z6⟩
  have h2 : (sb == 0) = false := beq_eq_false_iff_ne.2 (by have := of_decide_eq_true hdb; omega)
  go_wp2_with fail
  with_reducible refine hSb.mono ?_
  rintro e y4 ⟨rfl, z6⟩
  have z7 := chainB z5 z6
  have Z7 : Hid (Below w.heap.size w y4) := chainB B1.out z7
  clear x0 x1 x2 x3 x4 x5
  obtain ⟨⟨x0, x1, x2⟩, x3, x4, x5⟩ := HX.out y4 z7
  clear hda hdb z4 z6 hSa hSb s0 s1
  rcases Int.lt_trichotomy sa sb with hlt | heq | hgt
  · have f3 : ¬ sa = sb := by omega
    have d3 : decide (sb < sa) = false := decide_eq_false (by omega)
    have HE : Hid (claE sa ra sb rb ss = !conA sa sb ss ra rb) := claE_lt hlt
    have hC := HC1.out y4 z7
    clear hlt
    generalize conA sa sb ss ra rb = C at *
    go_wp2_with fail
    with_reducible refine hC.mono ?_
    rintro e y5 ⟨rfl, z8⟩
    go_wp2_with fail
    go_ret
    exact ⟨ret_bool (by rw [HE.out, hk, h1, h2]; simp), chainB Z7.out z8⟩
  · subst heq
    have HE : Hid (claE sa ra sa rb ss = !(ra.toList == rb.toList)) := claE_eq
    go_wp2_with fail
    go_ret
    exact ⟨ret_bool (by rw [HE.out, hk, h1]; simp), Z7.out⟩
  · have f3 : ¬ sa = sb := by omega
    have d3 : decide (sb < sa) = true := decide_eq_true (by omega)
    have HE : Hid (claE sa ra sb rb ss = !conA sb sa ss rb ra) := claE_gt hgt
    have HQ : Hid _ := HSw.out y4 z7
    obtain ⟨g0, g1, g2, g3, g4, g5⟩ := HF.out y4 z7
    clear hgt
    go_upto_region 9 with fail
    generalize (((((y4.setCell ⟨w.heap.size, 0, none⟩ (.string kb)).setCell ⟨w.heap.size, 1, none⟩ (.int .i64 sb)).setCell ⟨w.heap.size, 2, none⟩ (.string rb)).setCell ⟨w.heap.size + 1, 0, none⟩ (.string ka)).setCell ⟨w.heap.size + 1, 1, none⟩ (.int .i64 sa)).setCell ⟨w.heap.size + 1, 2, none⟩ (.string ra) = y5 at *
    obtain ⟨q0, q1, q2⟩ := HQ.out
    have Q0 : Hid (Below w.heap.size w y5) := q0
    clear x0 x1 x2 x3 x4 x5 g0 g1 g2 g3 g4 g5
    obtain ⟨x0, x1, x2⟩ := q1.thr
    obtain ⟨x3, x4, x5⟩ := q2.thr
    have hC := HC2.out y5 (TW.out.on q0) (PW.out.below q0)
    clear q0 q1 q2
    generalize conA sb sa ss rb ra = C at *
    go_wp2_with fail
    with_reducible refine hC.mono ?_
    rintro e y6 ⟨rfl, z8⟩
    go_wp2_with fail
    go_ret
    exact ⟨ret_bool (by rw [HE.out, hk, h1, h2]; simp), chainB Q0.out z8⟩
end Go.Proofs.YtfdihkgkiiekcaaDoor
