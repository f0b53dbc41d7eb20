/-
  What lwTexts, lwDisk and lwDisks answer of two that are alike.
  Conditions: the slices' cells hold the texts and the pendings; with the code OK the disk is right.
-/
import Derived.Test.YthiokdiodgdamabRows
import Derived.Test.YthiokdiodgdamabBytes
import Derived.Test.YthiokdiodgdamabSlA
import Derived.Test.YthiokdiodgdamabSlB
import Derived.Test.YthiokdiodgdamabDskMath
import Derived.Test.YthiokdiodgdamabDskR
import Derived.Test.YthiokdiodgdamabDskA
import Derived.Test.YthiokdiodgdamabLawD
import Derived.Handy
import Derived.WalkSpells
import Derived.OwnWalk
import Derived.Deep.QuietTactic
import Derived.BigQuiet
namespace Go.Proofs.Ythiokdiodgdamab
open Go.RowKit Go.Lib
set_option linter.unusedVariables false
set_option maxRecDepth 20000

set_option maxHeartbeats 1000000 in
theorem lwT_any (p q : Option Addr) (cap cap2 : Nat) (ss : List ByteArray) (w : World) (hp : TxtAt w p ss) (hq : TxtAt w q ss) (hn : ss.length ≤ 1048576) (hcap : ss.length ≤ cap) (hcap2 : ss.length ≤ cap2) :
    Calls Try.prog 37 #[.slice p ss.length cap, .slice q ss.length cap2] w fun e w' => e = .returned (.bool true) ∧ Below w.heap.size w w' := by
  have HP : Hid (TxtAt w p ss) := hp
  have HQ : Hid (TxtAt w q ss) := hq
  clear hp hq
  go_enter Try.func37, Try.ntmps37
  go_wp2_with fail
  go_loopw [5] (fun i wr => ∃ k : Nat, k ≤ ss.length ∧ i = .int .i64 k ∧ Hid (Below w.heap.size w wr)) (fun i _ => ss.length - (intOf i).toNat)
  case atStart => exact ⟨0, Nat.zero_le _, rfl, Below.refl _ _⟩
  case round =>
    obtain ⟨k, hk, rfl, HB⟩ := hrel
    by_cases hlt : k < ss.length
    · obtain ⟨b, off, rfl, hb, hck⟩ := (HP.out.below HB.out) k hlt
      obtain ⟨b2, off2, rfl, hb2, hck2⟩ := (HQ.out.below HB.out) k hlt
      have j5 : (k : Int) < ss.length := by omega
      generalize ss[k] = x at *
      go_wp2_with fail
      go_quiet (fail)
      go_wp2_with fail
      go_roundw
      case rel => exact ⟨k + 1, by omega, by go_num, belowD HB.out _⟩
      case measure => simp [intOf]; omega
    · go_wp2_with fail
      go_ret
      exact ⟨rfl, HB.out⟩

set_option maxHeartbeats 2000000 in
theorem lwDisk_any (p1 p2 q1 q2 : Option Addr) (c1 c2 d1 d2 : Nat) (ss : List ByteArray) (ps : List Pnd) (w : World) (h1 : TxtAt w p1 ss) (h2 : PndAt w p2 ps) (g1 : TxtAt w q1 ss) (g2 : PndAt w q2 ps) (n1 : ss.length ≤ 1048576) (n2 : ps.length ≤ 1048576) (m1 : ss.length ≤ c1) (m2 : ps.length ≤ c2) (m3 : ss.length ≤ d1) (m4 : ps.length ≤ d2) :
    Calls Try.prog 13 #[.agg #[.slice p1 ss.length c1, .slice p2 ps.length c2], .agg #[.slice q1 ss.length d1, .slice q2 ps.length d2]] w fun e w' => e = .returned (.bool true) ∧ Below w.heap.size w w' := by
  obtain ⟨W0, hW0⟩ : ∃ W0, W0 = w.alloc (.cells #[.slice p1 ss.length c1, .slice p2 ps.length c2] 26) := ⟨_, rfl⟩
  have hz : W0.heap.size = w.heap.size + 1 := by rw [hW0]; simp
  obtain ⟨W1, hW1⟩ : ∃ W1, W1 = W0.alloc (.cells #[.slice q1 ss.length d1, .slice q2 ps.length d2] 26) := ⟨_, rfl⟩
  have HW1 : Hid (W1 = (w.alloc (.cells #[.slice p1 ss.length c1, .slice p2 ps.length c2] 26)).alloc (.cells #[.slice q1 ss.length d1, .slice q2 ps.length d2] 26)) := by rw [hW1, hW0]; exact rfl
  have hB0 : Below w.heap.size w W0 := by rw [hW0]; exact (Below.refl _ _).alloc (Nat.le_refl _) _
  have B1 : Hid (Below w.heap.size w W1) := by rw [hW1]; exact alB hB0 _
  have X1 : Hid (Bxs W1 w.heap.size 26 #[.slice p1 ss.length c1, .slice p2 ps.length c2]) := by rw [hW1]; refine Bxs.alloc ?_ _; rw [hW0]; exact Bxs.new _ _ _
  have X2 : Hid (Bxs W1 (w.heap.size + 1) 26 #[.slice q1 ss.length d1, .slice q2 ps.length d2]) := by rw [hW1, ← hz]; exact Bxs.new _ _ _
  have hE := lwT_any p1 q1 c1 d1 ss W1 (h1.below B1.out) (g1.below B1.out) n1 m1 m3
  have T2 : Hid (PndAt W1 p2 ps ∧ PndAt W1 q2 ps) := ⟨h2.below B1.out, g2.below B1.out⟩
  clear hW1 hW0 h1 h2 g1 g2 hB0 hz
  go_enter Try.func13, Try.ntmps13
  go_wp2_with fail
  rw [← HW1.out]
  refine hE.mono ?_
  rintro e w1 ⟨rfl, b1⟩
  have x1 : w1.cell? ⟨w.heap.size, 1, none⟩ = some (.slice p2 ps.length c2) := (X1.out.below b1).cell 1
  have x2 : w1.cell? ⟨w.heap.size + 1, 1, none⟩ = some (.slice q2 ps.length d2) := (X2.out.below b1).cell 1
  have Y1 : Hid (Bxs w1 w.heap.size 26 #[.slice p1 ss.length c1, .slice p2 ps.length c2]) := X1.out.below b1
  have Y2 : Hid (Bxs w1 (w.heap.size + 1) 26 #[.slice q1 ss.length d1, .slice q2 ps.length d2]) := X2.out.below b1
  have HP : Hid (PndAt w1 p2 ps) := T2.out.1.below b1
  have HQ : Hid (PndAt w1 q2 ps) := T2.out.2.below b1
  have BW : Hid (Below w.heap.size w w1) := chainB B1.out b1
  clear hE T2 X1 X2 b1
  go_wp2_with fail
  go_loopw [5] (fun i wr => ∃ k : Nat, k ≤ ps.length ∧ i = .int .i64 k ∧ Hid (Below w1.heap.size w1 wr)) (fun i _ => ps.length - (intOf i).toNat)
  case atStart => exact ⟨0, Nat.zero_le _, rfl, Below.refl _ _⟩
  case round =>
    clear x1 x2
    obtain ⟨k, hk, rfl, HB⟩ := hrel
    have x1 : wr.cell? ⟨w.heap.size, 1, none⟩ = some (.slice p2 ps.length c2) := (Y1.out.below HB.out).cell 1
    have x2 : wr.cell? ⟨w.heap.size + 1, 1, none⟩ = some (.slice q2 ps.length d2) := (Y2.out.below HB.out).cell 1
    by_cases hlt : k < ps.length
    · obtain ⟨b, off, rfl, hb, hc1, hc2⟩ := (HP.out.below HB.out) k hlt
      obtain ⟨b2, off2, rfl, hb2, hd1, hd2⟩ := (HQ.out.below HB.out) k hlt
      have j5 : (k : Int) < ps.length := by omega
      generalize ps[k] = P at *
      obtain ⟨a, D⟩ := P
      have hc1 : wr.cell? ⟨b, off + k * 2, none⟩ = some (.int .i64 a) := hc1
      have hc2 : wr.cell? ⟨b, off + k * 2 + 1, none⟩ = some (.string D) := hc2
      have hd1 : wr.cell? ⟨b2, off2 + k * 2, none⟩ = some (.int .i64 a) := hd1
      have hd2 : wr.cell? ⟨b2, off2 + k * 2 + 1, none⟩ = some (.string D) := hd2
      go_wp2_with fail
      go_quiet (fail)
      go_wp2_with fail
      go_roundw
      case rel => exact ⟨k + 1, by omega, by go_num, belowD HB.out _⟩
      case measure => simp [intOf]; omega
    · go_wp2_with fail
      go_ret
      exact ⟨rfl, chainB BW.out HB.out⟩

set_option maxHeartbeats 2000000 in
theorem lwDisks_any (t : ByteArray) (c : Int) (p1 p2 q1 q2 : Option Addr) (c1 c2 d1 d2 : Nat) (ss : List ByteArray) (ps : List Pnd) (w : World) (h1 : TxtAt w p1 ss) (h2 : PndAt w p2 ps) (g1 : TxtAt w q1 ss) (g2 : PndAt w q2 ps) (n1 : ss.length ≤ 1048576) (n2 : ps.length ≤ 1048576) (m1 : ss.length ≤ c1) (m2 : ps.length ≤ c2) (m3 : ss.length ≤ d1) (m4 : ps.length ≤ d2) (hr : c = 0 → dskB ss ps = true) :
    Calls Try.prog 11 #[.agg #[.slice p1 ss.length c1, .slice p2 ps.length c2, .string t, .int .i64 c], .agg #[.slice q1 ss.length d1, .slice q2 ps.length d2, .string t, .int .i64 c]] w fun e w' => e = .returned (.bool true) ∧ Below w.heap.size w w' := by
  obtain ⟨W0, hW0⟩ : ∃ W0, W0 = w.alloc (.cells #[.slice p1 ss.length c1, .slice p2 ps.length c2, .string t, .int .i64 c] 30) := ⟨_, rfl⟩
  have hz : W0.heap.size = w.heap.size + 1 := by rw [hW0]; simp
  obtain ⟨W1, hW1⟩ : ∃ W1, W1 = W0.alloc (.cells #[.slice q1 ss.length d1, .slice q2 ps.length d2, .string t, .int .i64 c] 30) := ⟨_, rfl⟩
  have HW1 : Hid (W1 = (w.alloc (.cells #[.slice p1 ss.length c1, .slice p2 ps.length c2, .string t, .int .i64 c] 30)).alloc (.cells #[.slice q1 ss.length d1, .slice q2 ps.length d2, .string t, .int .i64 c] 30)) := by rw [hW1, hW0]; exact rfl
  have hB0 : Below w.heap.size w W0 := by rw [hW0]; exact (Below.refl _ _).alloc (Nat.le_refl _) _
  have B1 : Hid (Below w.heap.size w W1) := by rw [hW1]; exact alB hB0 _
  have X1 : Hid (Bxs W1 w.heap.size 30 #[.slice p1 ss.length c1, .slice p2 ps.length c2, .string t, .int .i64 c]) := by rw [hW1]; refine Bxs.alloc ?_ _; rw [hW0]; exact Bxs.new _ _ _
  have hE := lwDisk_any p1 p2 q1 q2 c1 c2 d1 d2 ss ps W1 (h1.below B1.out) (h2.below B1.out) (g1.below B1.out) (g2.below B1.out) n1 n2 m1 m2 m3 m4
  have hD : Hid (∀ x, Below W1.heap.size W1 x → Calls Try.prog 21 #[.agg #[.slice p1 ss.length c1, .slice p2 ps.length c2]] x fun e x' => e = .returned (.bool (dskB ss ps)) ∧ Below x.heap.size x x') := fun x hb => specDiskRight_any p1 c1 ss p2 c2 ps x ((h1.below B1.out).below hb) ((h2.below B1.out).below hb) n1 n2 m1 m2
  clear hW1 hW0 h1 h2 g1 g2 hB0 hz
  go_enter Try.func11, Try.ntmps11
  go_wp2_with fail
  rw [← HW1.out]
  refine hE.mono ?_
  rintro e w1 ⟨rfl, b1⟩
  have x0 : w1.cell? ⟨w.heap.size, 0, none⟩ = some (.slice p1 ss.length c1) := (X1.out.below b1).cell 0
  have x1 : w1.cell? ⟨w.heap.size, 1, none⟩ = some (.slice p2 ps.length c2) := (X1.out.below b1).cell 1
  have x2 : w1.cell? ⟨w.heap.size, 3, none⟩ = some (.int .i64 c) := (X1.out.below b1).cell 3
  have h2 := hD.out w1 b1
  have b1 := chainB B1.out b1
  clear hE X1 hD
  by_cases hc : c = 0
  · rw [hr hc] at h2
    subst hc
    go_wp2_with fail
    refine h2.mono ?_
    rintro e w2 ⟨rfl, b2⟩
    have b2 := chainB b1 b2
    go_wp2_with fail
    go_ret
    exact ⟨rfl, b2⟩
  · have dc : (c == 0) = false := beq_eq_false_iff_ne.2 hc
    clear h2 hr
    go_wp2_with fail
    go_ret
    exact ⟨rfl, b1⟩
end Go.Proofs.Ythiokdiodgdamab
