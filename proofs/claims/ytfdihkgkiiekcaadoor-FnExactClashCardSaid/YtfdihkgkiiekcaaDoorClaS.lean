/-
  What the specification's Clash answers: 'claB'.
  Conditions: the slice's cells hold those texts.
-/
import Derived.Test.YtfdihkgkiiekcaaDoorRows
import Derived.Test.YtfdihkgkiiekcaaDoorBytes
import Derived.Test.YtfdihkgkiiekcaaDoorSlA
import Derived.Test.YtfdihkgkiiekcaaDoorBxK
import Derived.Test.YtfdihkgkiiekcaaDoorConMath
import Derived.Test.YtfdihkgkiiekcaaDoorCon2
import Derived.Test.YtfdihkgkiiekcaaDoorAudMath
import Derived.Test.YtfdihkgkiiekcaaDoorAudS
import Derived.Test.YtfdihkgkiiekcaaDoorClaMath
import Derived.Handy
import Derived.WalkSpells
import Derived.OwnWalk
namespace Go.Proofs.YtfdihkgkiiekcaaDoor
open Go.RowKit Go.Lib
set_option linter.unusedVariables false
set_option maxRecDepth 20000

set_option maxHeartbeats 4000000 in
theorem specClash_any (ka : ByteArray) (sa : Int) (ra kb : ByteArray) (sb : Int) (rb : ByteArray) (p : Option Addr) (cap : Nat) (ss : List ByteArray) (w : World) (hp : TxtAt w p ss) (hn : ss.length ≤ 1048576) (hcap : ss.length ≤ cap) (hra : ra.size ≤ maxLen) (hrb : rb.size ≤ maxLen)
    (a0 : -9223372036854775808 ≤ sa ∧ sa ≤ 9223372036854775807) (b0 : -9223372036854775808 ≤ sb ∧ sb ≤ 9223372036854775807) :
    Calls Tryd.prog 16 #[.agg #[.string ka, .int .i64 sa, .string ra], .agg #[.string kb, .int .i64 sb, .string rb], .slice p ss.length cap] w fun e w' => e = .returned (.bool (claB ka sa ra kb sb rb ss)) ∧ Below w.heap.size w w' := by
  obtain ⟨W1, hW1⟩ : ∃ W1, W1 = (w.alloc (.cells #[.string ka, .int .i64 sa, .string ra] 30)).alloc (.cells #[.string kb, .int .i64 sb, .string rb] 30) := ⟨_, rfl⟩
  have HW1 : Hid (W1 = (w.alloc (.cells #[.string ka, .int .i64 sa, .string ra] 30)).alloc (.cells #[.string kb, .int .i64 sb, .string rb] 30)) := hW1
  obtain ⟨b1, k1, k2⟩ := two_boxes w 30 ka sa ra kb sb rb hW1
  have B1 : Hid (Below w.heap.size w W1) := b1
  have K1 : Hid (Bxs W1 w.heap.size 30 #[.string ka, .int .i64 sa, .string ra]) := k1
  have K2 : Hid (Bxs W1 (w.heap.size + 1) 30 #[.string kb, .int .i64 sb, .string rb]) := k2
  clear b1 k1 k2
  by_cases c1 : ss.length ≤ 400
  case neg =>
    have H : Hid (claB ka sa ra kb sb rb ss = false) := cla_long c1
    have d1 : decide (400 < (ss.length : Int)) = true := decide_eq_true (by omega)
    rw [H.out]
    clear hW1
    go_enter Tryd.func16, Tryd.ntmps16
    go_wp2_with fail
    rw [← HW1.out]
    try go_wp2_with fail
    go_ret
    exact ⟨rfl, B1.out⟩
  have d1 : decide (400 < (ss.length : Int)) = false := decide_eq_false (by omega)
  have H0 : Hid (claB ka sa ra kb sb rb ss = (audB ka sa ra && (audB kb sb rb && ((ka.toList == kb.toList) && (!(sa == 0) && (!(sb == 0) && claE sa ra sb rb ss)))))) := cla_some c1
  have P1 : Hid (TxtAt W1 p ss) := hp.below B1.out
  have HA := specAud_any ka sa ra W1
  have HB : Hid (∀ x, Calls Tryd.prog 18 #[.agg #[.string kb, .int .i64 sb, .string rb]] x fun e w' => e = .returned (.bool (audB kb sb rb)) ∧ Below x.heap.size x w') := fun x => specAud_any kb sb rb x
  have HC1 : Hid (∀ x, Below W1.heap.size W1 x → Calls Tryd.prog 21 #[.int .i64 sa, .int .i64 sb, .slice p ss.length cap, .string ra, .string rb] x fun e w' => e = .returned (.bool (conA sa sb ss ra rb)) ∧ Below x.heap.size x w') := fun x hx => specCon_any sa sb p cap ss ra rb x (P1.out.below hx) (by omega) hcap hra hrb a0.1 a0.2 b0.1 b0.2
  have HC2 : Hid (∀ x, Below W1.heap.size W1 x → Calls Tryd.prog 21 #[.int .i64 sb, .int .i64 sa, .slice p ss.length cap, .string rb, .string ra] x fun e w' => e = .returned (.bool (conA sb sa ss rb ra)) ∧ Below x.heap.size x w') := fun x hx => specCon_any sb sa p cap ss rb ra x (P1.out.below hx) (by omega) hcap hrb hra b0.1 b0.2 a0.1 a0.2
  have HX : Hid (∀ x, Below W1.heap.size W1 x → (x.cell? ⟨w.heap.size, 0, none⟩ = some (.string ka) ∧ x.cell? ⟨w.heap.size, 1, none⟩ = some (.int .i64 sa) ∧ x.cell? ⟨w.heap.size, 2, none⟩ = some (.string ra)) ∧ x.cell? ⟨w.heap.size + 1, 0, none⟩ = some (.string kb) ∧ x.cell? ⟨w.heap.size + 1, 1, none⟩ = some (.int .i64 sb) ∧ x.cell? ⟨w.heap.size + 1, 2, none⟩ = some (.string rb)) := fun x hb => ⟨(K1.out.below hb).thr, (K2.out.below hb).thr⟩
  rw [H0.out]
  clear hW1 hp K1 K2 H0 P1 hra hrb a0 b0 c1
  generalize audB ka sa ra = A at *
  generalize audB kb sb rb = B at *
  go_enter Tryd.func16, Tryd.ntmps16
  go_wp2_with fail
  rw [← HW1.out]
  with_reducible refine HA.mono ?_
  rintro e y1 ⟨rfl, z1⟩
  cases A
  · go_wp2_with fail
    go_ret
    exact ⟨rfl, chainB B1.out z1⟩
  obtain ⟨⟨x0, x1, x2⟩, x3, x4, x5⟩ := HX.out y1 z1
  go_wp2_with fail
  with_reducible refine (HB.out y1).mono ?_
  rintro e y2 ⟨rfl, z2⟩
  have z3 := chainB z1 z2
  have Z3 : Hid (Below w.heap.size w y2) := chainB B1.out z3
  cases B
  · go_wp2_with fail
    go_ret
    exact ⟨ret_bool (by simp), Z3.out⟩
  clear x0 x1 x2 x3 x4 x5
  obtain ⟨⟨x0, x1, x2⟩, x3, x4, x5⟩ := HX.out y2 z3
  cases hk : (ka.toList == kb.toList)
  · go_wp2_with fail
    go_ret
    exact ⟨ret_bool (by rw [hk]; rfl), Z3.out⟩
  cases h1 : (sa == 0)
  case true =>
    obtain rfl : sa = 0 := by simpa using h1
    clear h1
    go_wp2_with fail
    go_ret
    exact ⟨ret_bool (by simp), Z3.out⟩
  have f1 : ¬ sa = 0 := by simpa using h1
  cases h2 : (sb == 0)
  case true =>
    obtain rfl : sb = 0 := by simpa using h2
    clear h2
    go_wp2_with fail
    go_ret
    exact ⟨ret_bool (by simp), Z3.out⟩
  have f2 : ¬ sb = 0 := by simpa using h2
  rcases Int.lt_trichotomy sa sb with hlt | heq | hgt
  · have f3 : ¬ sa = sb := by omega
    have d3 : decide (sa < sb) = true := decide_eq_true hlt
    have HE : Hid (claE sa ra sb rb ss = !conA sa sb ss ra rb) := claE_lt hlt
    have hC := HC1.out y2 z3
    clear hlt
    generalize conA sa sb ss ra rb = C at *
    go_wp2_with fail
    with_reducible refine hC.mono ?_
    rintro e y3 ⟨rfl, z4⟩
    go_wp2_with fail
    go_ret
    exact ⟨ret_bool (by rw [HE.out, hk, h1, h2]; simp), chainB Z3.out z4⟩
  · subst heq
    have HE : Hid (claE sa ra sa rb ss = !(ra.toList == rb.toList)) := claE_eq
    go_wp2_with fail
    go_ret
    exact ⟨ret_bool (by rw [HE.out, hk, h1]; simp), Z3.out⟩
  · have f3 : ¬ sa = sb := by omega
    have d3 : decide (sa < sb) = false := decide_eq_false (by omega)
    have HE : Hid (claE sa ra sb rb ss = !conA sb sa ss rb ra) := claE_gt hgt
    have hC := HC2.out y2 z3
    clear hgt
    generalize conA sb sa ss rb ra = C at *
    go_wp2_with fail
    with_reducible refine hC.mono ?_
    rintro e y3 ⟨rfl, z4⟩
    go_wp2_with fail
    go_ret
    exact ⟨ret_bool (by rw [HE.out, hk, h1, h2]; simp), chainB Z3.out z4⟩
end Go.Proofs.YtfdihkgkiiekcaaDoor
