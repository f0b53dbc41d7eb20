/-
  Parts of one proof, laid as one text: PuLe, ImplDR, ImplAA, Copied; what each says stands at its head.
-/
import Derived.Test.YtkhffoailfnepabGreatDoorStpMathAreaPutMUnsealSSpecGN
import Derived.Test.YtkhffoailfnepabGreatDoorRows
import Derived.Test.YtkhffoailfnepabGreatDoorBytesDigMath
import Derived.Test.YtkhffoailfnepabGreatDoorSlASlBOwnSOwnBSrc
import Derived.Test.YtkhffoailfnepabGreatDoorDrawsDrawKitDskMath
import Derived.Test.YtkhffoailfnepabGreatDoorDskRAppSStepAppDskA
import Derived.Test.YtkhffoailfnepabGreatDoorDskSDskCDskT
import Derived.Handy
import Derived.WalkSpells
import Derived.OwnWalk
import Derived.Test.YtkhffoailfnepabGreatDoorFourSealAreaAAreaF
import Derived.Test.YtkhffoailfnepabGreatDoorJoinedPutTextCrc
import Derived.Deep.AppendLies
/-
  What AreaPut answers is a disk of bounded length.
-/
namespace Go.Proofs.YtkhffoailfnepabGreatDoor
open Go.RowKit Go.Lib
set_option linter.unusedVariables false

theorem pu_right {ss : List ByteArray} {ps : List Pnd} {t : ByteArray} {k : Int} (h : puC ss ps t k = 0) : dskB (puS ss ps t k) (puP ss ps t k) = true := by
  obtain ⟨-, ha, -, -, hd, h0⟩ := puC_ok h
  have hr := do_right (arC_ok ha).1 hd
  rw [show puS ss ps t k = _ from if_pos h0, show puP ss ps t k = _ from if_pos h0]
  exact hr
theorem pu_ill {ss : List ByteArray} {ps : List Pnd} {t : ByteArray} {k : Int} (h : ¬ puC ss ps t k = 0) : puS ss ps t k = [] ∧ puP ss ps t k = [] := by
  by_cases h0 : puOk ss ps t = 0
  · have hc : puC ss ps t k = doC ss ps ((puL ss ps t).take k.toNat) := if_pos h0
    rw [hc] at h
    rw [show puS ss ps t k = _ from if_pos h0, show puP ss ps t k = _ from if_pos h0]
    exact do_ill _ ss ps h
  · exact ⟨if_neg h0, if_neg h0⟩
theorem puS_le (ss : List ByteArray) (ps : List Pnd) (t : ByteArray) (k : Int) : (puS ss ps t k).length ≤ 1048576 := by
  by_cases h : puC ss ps t k = 0
  · have := (dskB_parts (pu_right h)).1; omega
  · rw [(pu_ill h).1]; simp
theorem puP_le (ss : List ByteArray) (ps : List Pnd) (t : ByteArray) (k : Int) : (puP ss ps t k).length ≤ 1048576 := by
  by_cases h : puC ss ps t k = 0
  · have := (dskB_parts (pu_right h)).2.1; omega
  · rw [(pu_ill h).2]; simp
end Go.Proofs.YtkhffoailfnepabGreatDoor
/-
  What the program's hasSector, DiskRight and DiskNew answer: 'inB', 'dskB', 'newS'.
  Conditions: the cells of Sectors and Pending hold the texts and the pendings.
-/
namespace Go.Proofs.YtkhffoailfnepabGreatDoor
open Go.RowKit Go.Lib
set_option linter.unusedVariables false
set_option maxRecDepth 20000

theorem hasSector_any (q1 : Option Addr) (n c1 : Nat) (q2 : Option Addr) (m c2 : Nat) (at_ : Int) (w : World) :
    Calls Tryz.prog 64 #[.agg #[.slice q1 n c1, .slice q2 m c2], .int .i64 at_] w fun e w' => e = .returned (.bool (decide (0 ≤ at_ ∧ at_ ≤ (n : Int) - 1))) ∧ Below w.heap.size w w' := by
  have B1 : Below w.heap.size w (w.alloc (.cells #[.slice q1 n c1, .slice q2 m c2] 26)) := (Below.refl _ _).alloc (Nat.le_refl _) _
  by_cases h1 : 0 ≤ at_
  · have d1 : decide (0 ≤ at_) = true := decide_eq_true h1
    by_cases h2 : at_ < (n : Int)
    · have d2 : decide (at_ < (n : Int)) = true := decide_eq_true h2
      have H : Hid (decide (0 ≤ at_ ∧ at_ ≤ (n : Int) - 1) = true) := decide_eq_true ⟨h1, by omega⟩
      rw [H.out]
      clear H
      go_enter Tryz.func64, Tryz.ntmps64
      go_wp2
      go_ret
      exact ⟨rfl, B1⟩
    · have d2 : decide (at_ < (n : Int)) = false := decide_eq_false h2
      have H : Hid (decide (0 ≤ at_ ∧ at_ ≤ (n : Int) - 1) = false) := decide_eq_false fun h => h2 (by omega)
      rw [H.out]
      clear H
      go_enter Tryz.func64, Tryz.ntmps64
      go_wp2
      go_ret
      exact ⟨rfl, B1⟩
  · have d1 : decide (0 ≤ at_) = false := decide_eq_false h1
    have H : Hid (decide (0 ≤ at_ ∧ at_ ≤ (n : Int) - 1) = false) := decide_eq_false fun h => h1 h.1
    rw [H.out]
    clear H
    go_enter Tryz.func64, Tryz.ntmps64
    go_wp2
    go_ret
    exact ⟨rfl, B1⟩

set_option maxHeartbeats 2000000 in
theorem implDiskRight_any (q1 : Option Addr) (c1 : Nat) (ss : List ByteArray) (q2 : Option Addr) (c2 : Nat) (ps : List Pnd) (w : World) (h1 : TxtAt w q1 ss) (h2 : PndAt w q2 ps) (n1 : ss.length ≤ 1048576) (n2 : ps.length ≤ 1048576) (m1 : ss.length ≤ c1) (m2 : ps.length ≤ c2) :
    Calls Tryz.prog 31 #[.agg #[.slice q1 ss.length c1, .slice q2 ps.length c2]] w fun e w' => e = .returned (.bool (dskB ss ps)) ∧ Below w.heap.size w w' := by
  obtain ⟨W1, hW1⟩ : ∃ W1, W1 = w.alloc (.cells #[.slice q1 ss.length c1, .slice q2 ps.length c2] 26) := ⟨_, rfl⟩
  have HW1 : Hid (W1 = w.alloc (.cells #[.slice q1 ss.length c1, .slice q2 ps.length c2] 26)) := hW1
  have B1 : Hid (Below w.heap.size w W1) := by rw [hW1]; exact (Below.refl _ _).alloc (Nat.le_refl _) _
  have X1 : W1.heap[w.heap.size]? = some (.cells #[.slice q1 ss.length c1, .slice q2 ps.length c2] 26 (0, 0)) := by rw [hW1]; exact (MapKept.heap_alloc w _).1
  have t0 : W1.cell? ⟨w.heap.size, 0, none⟩ = some (.slice q1 ss.length c1) ∧ W1.cell? ⟨w.heap.size, 1, none⟩ = some (.slice q2 ps.length c2) := by simp [World.cell?, X1]
  obtain ⟨t0, t1⟩ := t0
  have HZ : Hid (w.heap.size < W1.heap.size) := by rw [hW1]; show _ < _; simp
  have T1 : Hid (TxtAt W1 q1 ss) := h1.below B1.out
  have T2 : Hid (PndAt W1 q2 ps) := h2.below B1.out
  have H0 : Hid (dskB ss ps = (decide (1 ≤ ss.length ∧ ss.length ≤ 64) && (decide (ps.length ≤ 200) && (secB ss && pndB ss.length ps)))) := rfl
  rw [hW1] at t0 t1
  clear hW1 X1 h1 h2
  by_cases a1 : 1 ≤ ss.length
  case neg =>
    have HF : Hid (dskB ss ps = false) := by show _ = _; rw [H0.out, decide_eq_false (fun h => a1 h.1)]; rfl
    have d1 : decide ((ss.length : Int) < 1) = true := decide_eq_true (by omega)
    clear H0 T1 T2 a1
    go_enter Tryz.func31, Tryz.ntmps31
    go_wp2_with fail
    rw [← HW1.out]
    go_ret
    exact ⟨ret_bool HF.out.symm, B1.out⟩
  have d1 : decide ((ss.length : Int) < 1) = false := decide_eq_false (by omega)
  by_cases a3 : ss.length ≤ 64
  case neg =>
    have HF : Hid (dskB ss ps = false) := by show _ = _; rw [H0.out, decide_eq_false (fun h => a3 h.2)]; rfl
    have d3 : decide (64 < (ss.length : Int)) = true := decide_eq_true (by omega)
    clear H0 T1 T2 a1 a3
    go_enter Tryz.func31, Tryz.ntmps31
    go_wp2_with fail
    rw [← HW1.out]
    go_ret
    exact ⟨ret_bool HF.out.symm, B1.out⟩
  have d3 : decide (64 < (ss.length : Int)) = false := decide_eq_false (by omega)
  by_cases a2 : ps.length ≤ 200
  case neg =>
    have HF : Hid (dskB ss ps = false) := by show _ = _; rw [H0.out, decide_eq_false a2, Bool.false_and, Bool.and_false]
    have d2 : decide (200 < (ps.length : Int)) = true := decide_eq_true (by omega)
    clear H0 T1 T2 a1 a2 a3
    go_enter Tryz.func31, Tryz.ntmps31
    go_wp2_with fail
    rw [← HW1.out]
    go_ret
    exact ⟨ret_bool HF.out.symm, B1.out⟩
  have d2 : decide (200 < (ps.length : Int)) = false := decide_eq_false (by omega)
  rw [decide_eq_true (⟨a1, a3⟩ : 1 ≤ ss.length ∧ ss.length ≤ 64), decide_eq_true a2, Bool.true_and, Bool.true_and] at H0
  go_enter Tryz.func31, Tryz.ntmps31
  go_wp2_with fail
  rw [← HW1.out] at t0 t1 ⊢
  clear d1 d2 d3
  go_loop [26] (fun i => ∃ k : Nat, k ≤ ss.length ∧ i = .int .i64 k ∧ Hid (∀ j (h : j < ss.length), j < k → ss[j].size ≤ 64)) (fun i => ss.length - (intOf i).toNat)
  case atStart => exact ⟨0, Nat.zero_le _, rfl, fun j h hk => by omega⟩
  case round =>
    obtain ⟨k, hk, rfl, HK⟩ := hrel
    by_cases hlt : k < ss.length
    · obtain ⟨b, off, rfl, hb, hck⟩ := T1.out k hlt
      by_cases h64 : ss[k].size ≤ 64
      · have HK2 : Hid (∀ j (h : j < ss.length), j < k + 1 → ss[j].size ≤ 64) := fun j h hj => if he : j = k then by subst he; exact h64 else HK.out j h (by omega)
        generalize ss[k] = q at *
        have h33 : (q.size : Int) ≤ 64 := by omega
        go_wp2_with fail
        go_round
        case rel => exact ⟨k + 1, by omega, by go_num, HK2⟩
        case measure => simp [intOf]; omega
      · have HF : Hid (dskB ss ps = false) := by show _ = _; rw [H0.out, secB_false hlt h64]; rfl
        generalize ss[k] = q at *
        have h33 : ¬ (q.size : Int) ≤ 64 := by omega
        go_wp2_with fail
        go_ret
        exact ⟨ret_bool HF.out.symm, B1.out⟩
    · have HF : Hid (dskB ss ps = pndB ss.length ps) := by show _ = _; rw [H0.out, secB_true (fun j h => HK.out j h (by omega)), Bool.true_and]
      clear H0 HK T1
      obtain rfl : k = ss.length := by omega
      go_wp2_with fail
      go_loopw [37] (fun i wr => ∃ k : Nat, k ≤ ps.length ∧ i = .int .i64 k ∧ Hid (Below W1.heap.size W1 wr) ∧ Hid (∀ j (h : j < ps.length), j < k → pndOk ss.length ps[j])) (fun i _ => ps.length - (intOf i).toNat)
      case atStart => exact ⟨0, Nat.zero_le _, rfl, Below.refl _ _, fun j h hk => by omega⟩
      case round =>
        obtain ⟨k, hk, rfl, HB, HK⟩ := hrel
        by_cases hlt : k < ps.length
        · obtain ⟨b, off, rfl, hb, hc1, hc2⟩ := (T2.out.below HB.out) k hlt
          have i1 : (k : Int) < ps.length := by omega
          have HKp : Hid (pndOk ss.length ps[k] → ∀ j (h : j < ps.length), j < k + 1 → pndOk ss.length ps[j]) := fun h0 j h hj => if he : j = k then by subst he; exact h0 else HK.out j h (by omega)
          have HKn : Hid (¬ pndOk ss.length ps[k] → dskB ss ps = false) := fun h0 => by rw [HF.out, pndB_false hlt h0]
          generalize ps[k] = P at *
          obtain ⟨A, D⟩ := P
          have HKp : Hid (((0 ≤ A ∧ A ≤ (ss.length : Int) - 1) ∧ D.size ≤ 64) → ∀ j (h : j < ps.length), j < k + 1 → pndOk ss.length ps[j]) := HKp
          have HKn : Hid (¬ ((0 ≤ A ∧ A ≤ (ss.length : Int) - 1) ∧ D.size ≤ 64) → dskB ss ps = false) := HKn
          have hc1 : wr.cell? ⟨b, off + k * 2, none⟩ = some (.int .i64 A) := hc1
          have hc2 : wr.cell? ⟨b, off + k * 2 + 1, none⟩ = some (.string D) := hc2
          obtain ⟨Y, hY⟩ : ∃ Y, Y = wr.alloc (.cells #[.int .i64 A, .string D] 76) := ⟨_, rfl⟩
          have HY : Hid (Y = wr.alloc (.cells #[.int .i64 A, .string D] 76)) := hY
          have bY : Below W1.heap.size W1 Y := by rw [hY]; exact HB.out.alloc HB.out.size _
          have RY : Y.heap[wr.heap.size]? = some (.cells #[.int .i64 A, .string D] 76 (0, 0)) := by rw [hY]; exact (MapKept.heap_alloc _ _).1
          have SY : wr.heap.size < Y.heap.size := by rw [hY]; simp
          have HYc : Hid (∀ x, Below Y.heap.size Y x → x.cell? ⟨wr.heap.size, 0, none⟩ = some (.int .i64 A) ∧ x.cell? ⟨wr.heap.size, 1, none⟩ = some (.string D)) := fun x hb => by
            have h0 := (hb.block wr.heap.size SY).trans RY
            simp [World.cell?, h0]
          have x0 := (bY.cell (p := ⟨w.heap.size, 0, none⟩) HZ.out).trans t0
          have x1 := (bY.cell (p := ⟨w.heap.size, 1, none⟩) HZ.out).trans t1
          obtain ⟨y0, y1⟩ := HYc.out Y (Below.refl _ _)
          rw [hY] at x0 x1 y0 y1
          have QI := hasSector_any q1 ss.length c1 (some ⟨b, off, none⟩) ps.length c2 A Y
          clear hY RY t0 t1
          by_cases b1 : 0 ≤ A ∧ A ≤ (ss.length : Int) - 1
          · rw [decide_eq_true b1] at QI
            by_cases b2 : D.size ≤ 64
            · have HK2 : Hid (∀ j (h : j < ps.length), j < k + 1 → pndOk ss.length ps[j]) := HKp.out ⟨b1, b2⟩
              clear HKp HKn b1
              have b3 : (D.size : Int) ≤ 64 := by omega
              go_wp2_with fail
              rw [← HY.out]
              refine QI.mono ?_
              rintro e y2 ⟨rfl, z2⟩
              obtain ⟨u0, u1⟩ := HYc.out y2 z2
              have z3 := chainB bY z2
              go_wp2_with fail
              go_roundw
              case rel => exact ⟨k + 1, by omega, by go_num, z3, HK2⟩
              case measure => simp [intOf]; omega
            · have HN : Hid (dskB ss ps = false) := HKn.out (fun h => b2 h.2)
              clear HKp HKn b1
              have b3 : ¬ (D.size : Int) ≤ 64 := by omega
              go_wp2_with fail
              rw [← HY.out]
              refine QI.mono ?_
              rintro e y2 ⟨rfl, z2⟩
              obtain ⟨u0, u1⟩ := HYc.out y2 z2
              have z3 := chainB bY z2
              go_wp2_with fail
              go_ret
              exact ⟨ret_bool HN.out.symm, chainB B1.out z3⟩
          · have HN : Hid (dskB ss ps = false) := HKn.out (fun h => b1 h.1)
            rw [decide_eq_false b1] at QI
            clear HKp HKn b1
            go_wp2_with fail
            rw [← HY.out]
            refine QI.mono ?_
            rintro e y2 ⟨rfl, z2⟩
            have z3 := chainB bY z2
            go_wp2_with fail
            go_ret
            exact ⟨ret_bool HN.out.symm, chainB B1.out z3⟩
        · have HN : Hid (dskB ss ps = true) := by show _ = _; rw [HF.out, pndB_true (fun j h => HK.out j h (by omega))]
          go_wp2_with fail
          go_ret
          exact ⟨ret_bool HN.out.symm, chainB B1.out HB.out⟩

end Go.Proofs.YtkhffoailfnepabGreatDoor
/-
  What the program's sideSectors, sideStart, roomOf and AreaRoom answer.
  Conditions: the cells of Sectors and Pending hold the texts and the pendings; the numbers lie within 64 bits.
-/
namespace Go.Proofs.YtkhffoailfnepabGreatDoor
open Go.RowKit Go.Lib
set_option linter.unusedVariables false
set_option maxRecDepth 20000

theorem sideSectors_any (q1 : Option Addr) (n c1 : Nat) (q2 : Option Addr) (m c2 : Nat) (w : World) (h0 : 1 ≤ n) (hn : n ≤ 1048576) :
    Calls Tryz.prog 72 #[.agg #[.slice q1 n c1, .slice q2 m c2]] w fun e w' => e = .returned (.int .i64 (sideN n : Nat)) ∧ Below w.heap.size w w' := by
  have B1 : Below w.heap.size w (w.alloc (.cells #[.slice q1 n c1, .slice q2 m c2] 26)) := (Below.refl _ _).alloc (Nat.le_refl _) _
  have hw : IntKind.i64.wrap ((n : Int) - 1) = (n : Int) - 1 := by rw [IntKind.wrap_i64]; omega
  have hq : ((n : Int) - 1).tdiv 2 = ((sideN n : Nat) : Int) := by
    unfold sideN
    rw [Int.tdiv_eq_ediv_of_nonneg (by omega)]
    omega
  have hw2 : IntKind.i64.wrap ((sideN n : Nat) : Int) = ((sideN n : Nat) : Int) := by
    have : sideN n ≤ 1048576 := by unfold sideN; omega
    rw [IntKind.wrap_i64]; omega
  generalize sideN n = H at *
  go_enter Tryz.func72, Tryz.ntmps72
  go_wp2
  go_ret
  exact ⟨rfl, B1⟩
theorem sideStart_any (q1 : Option Addr) (n c1 : Nat) (q2 : Option Addr) (m c2 : Nat) (side : Nat) (w : World) (h0 : 1 ≤ n) (hn : n ≤ 1048576) (hs : side ≤ 1) :
    Calls Tryz.prog 62 #[.agg #[.slice q1 n c1, .slice q2 m c2], .int .i64 (side : Int)] w fun e w' => e = .returned (.int .i64 ((1 + side * sideN n : Nat) : Int)) ∧ Below w.heap.size w w' := by
  obtain ⟨W1, hW1⟩ : ∃ W1, W1 = w.alloc (.cells #[.slice q1 n c1, .slice q2 m c2] 26) := ⟨_, rfl⟩
  have HW1 : Hid (W1 = w.alloc (.cells #[.slice q1 n c1, .slice q2 m c2] 26)) := hW1
  have B1 : Below w.heap.size w W1 := by rw [hW1]; exact (Below.refl _ _).alloc (Nat.le_refl _) _
  have hh := sideSectors_any q1 n c1 q2 m c2 W1 h0 hn
  have hH : sideN n ≤ 1048576 := by unfold sideN; omega
  generalize sideN n = H at *
  have hp : side * H ≤ 1048576 := by
    rcases Nat.le_one_iff_eq_zero_or_eq_one.1 hs with rfl | rfl <;> omega
  have hw1 : IntKind.i64.wrap ((side : Int) * (H : Int)) = (side : Int) * (H : Int) := by
    rw [IntKind.wrap_i64, ← Int.natCast_mul]; omega
  have hw2 : IntKind.i64.wrap (1 + (side : Int) * (H : Int)) = 1 + (side : Int) * (H : Int) := by
    rw [IntKind.wrap_i64, ← Int.natCast_mul]; omega
  have he : ((1 + side * H : Nat) : Int) = 1 + (side : Int) * (H : Int) := by simp
  rw [he]
  clear hW1 he
  go_enter Tryz.func62, Tryz.ntmps62
  go_wp2_with fail
  rw [← HW1.out]
  refine hh.mono ?_
  rintro e w2 ⟨rfl, b2⟩
  have b2 := chainB B1 b2
  go_wp2_with fail
  go_ret
  exact ⟨rfl, b2⟩
theorem roomOf_any (q1 : Option Addr) (n c1 : Nat) (q2 : Option Addr) (m c2 : Nat) (w : World) (h0 : 1 ≤ n) (hn : n ≤ 1048576) :
    Calls Tryz.prog 44 #[.agg #[.slice q1 n c1, .slice q2 m c2]] w fun e w' => e = .returned (.int .i64 (64 * sideN n : Nat)) ∧ Below w.heap.size w w' := by
  obtain ⟨W1, hW1⟩ : ∃ W1, W1 = w.alloc (.cells #[.slice q1 n c1, .slice q2 m c2] 26) := ⟨_, rfl⟩
  have HW1 : Hid (W1 = w.alloc (.cells #[.slice q1 n c1, .slice q2 m c2] 26)) := hW1
  have B1 : Below w.heap.size w W1 := by rw [hW1]; exact (Below.refl _ _).alloc (Nat.le_refl _) _
  have hh := sideSectors_any q1 n c1 q2 m c2 W1 h0 hn
  have hH : sideN n ≤ 1048576 := by unfold sideN; omega
  generalize sideN n = H at *
  have hw1 : IntKind.i64.wrap ((H : Int) * 64) = (H : Int) * 64 := by rw [IntKind.wrap_i64]; omega
  have he : ((64 * H : Nat) : Int) = (H : Int) * 64 := by omega
  rw [he]
  clear hW1 he
  go_enter Tryz.func44, Tryz.ntmps44
  go_wp2_with fail
  rw [← HW1.out]
  refine hh.mono ?_
  rintro e w2 ⟨rfl, b2⟩
  have b2 := chainB B1 b2
  go_wp2_with fail
  go_ret
  exact ⟨rfl, b2⟩
theorem implAreaRoom_any (q1 : Option Addr) (c1 : Nat) (ss : List ByteArray) (q2 : Option Addr) (c2 : Nat) (ps : List Pnd) (w : World) (h1 : TxtAt w q1 ss) (h2 : PndAt w q2 ps) (n1 : ss.length ≤ 1048576) (n2 : ps.length ≤ 1048576) (m1 : ss.length ≤ c1) (m2 : ps.length ≤ c2) :
    Calls Tryz.prog 15 #[.agg #[.slice q1 ss.length c1, .slice q2 ps.length c2]] w fun e w' => e = .returned (.int .i64 (roomB ss ps : Nat)) ∧ Below w.heap.size w w' := by
  obtain ⟨W1, hW1⟩ : ∃ W1, W1 = w.alloc (.cells #[.slice q1 ss.length c1, .slice q2 ps.length c2] 26) := ⟨_, rfl⟩
  have HW1 : Hid (W1 = w.alloc (.cells #[.slice q1 ss.length c1, .slice q2 ps.length c2] 26)) := hW1
  have B1 : Below w.heap.size w W1 := by rw [hW1]; exact (Below.refl _ _).alloc (Nat.le_refl _) _
  have X1 : W1.heap[w.heap.size]? = some (.cells #[.slice q1 ss.length c1, .slice q2 ps.length c2] 26 (0, 0)) := by rw [hW1]; exact (MapKept.heap_alloc w _).1
  have HX : Hid (∀ x, Below W1.heap.size W1 x → x.cell? ⟨w.heap.size, 0, none⟩ = some (.slice q1 ss.length c1) ∧ x.cell? ⟨w.heap.size, 1, none⟩ = some (.slice q2 ps.length c2)) := fun x hb => by
    have h0 := (hb.block w.heap.size (by rw [hW1]; simp)).trans X1
    simp [World.cell?, h0]
  have hD := implDiskRight_any q1 c1 ss q2 c2 ps W1 (h1.below B1) (h2.below B1) n1 n2 m1 m2
  cases hd : dskB ss ps with
  | false =>
    have HR : Hid (roomB ss ps = 0) := if_neg (by rw [hd]; exact Bool.false_ne_true)
    rw [hd] at hD
    rw [HR.out]
    clear hW1 hd X1
    go_enter Tryz.func15, Tryz.ntmps15
    go_wp2_with fail
    rw [← HW1.out]
    refine hD.mono ?_
    rintro e w2 ⟨rfl, b2⟩
    have b2 := chainB B1 b2
    go_wp2_with fail
    go_ret
    exact ⟨rfl, b2⟩
  | true =>
    have HR : Hid (roomB ss ps = 64 * sideN ss.length) := if_pos hd
    obtain ⟨⟨p1, p2⟩, -⟩ := dskB_parts hd
    rw [hd] at hD
    have HH : Hid (∀ x, Calls Tryz.prog 44 #[.agg #[.slice q1 ss.length c1, .slice q2 ps.length c2]] x fun e w' => e = .returned (.int .i64 (64 * sideN ss.length : Nat)) ∧ Below x.heap.size x w') := fun x => roomOf_any _ _ _ _ _ _ x p1 n1
    rw [HR.out]
    clear hW1 hd X1 HR
    go_enter Tryz.func15, Tryz.ntmps15
    go_wp2_with fail
    rw [← HW1.out]
    refine hD.mono ?_
    rintro e w2 ⟨rfl, b2⟩
    obtain ⟨x0, x1⟩ := HX.out w2 b2
    have b2 := chainB B1 b2
    go_wp2_with fail
    refine (HH.out _).mono ?_
    rintro e w3 ⟨rfl, b3⟩
    have b3 := chainB b2 b3
    go_wp2_with fail
    go_ret
    exact ⟨rfl, b3⟩
end Go.Proofs.YtkhffoailfnepabGreatDoor
/-
  The program's copied: the same texts, in new memory of their own.
  Conditions: the slice's cells hold the texts, each of at most 2^20 bytes, at most 2^20 of them.
-/
namespace Go.Proofs.YtkhffoailfnepabGreatDoor
open Go.RowKit Go.Lib
set_option linter.unusedVariables false
set_option maxRecDepth 20000

set_option maxHeartbeats 1000000 in
theorem copied_any (p : Option Addr) (cap : Nat) (ss : List ByteArray) (w : World) (hp : TxtAt w p ss) (hn : ss.length ≤ 1048576) (hcap : ss.length ≤ cap) (hs : ∀ x ∈ ss, x.size ≤ 1048576) :
    Calls Tryz.prog 59 #[.slice p ss.length cap] w fun e w' => ∃ v, e = .returned v ∧ w'.ownsRow w.heap.size 9 1 v ss.length (strRow ss) ∧ Below w.heap.size w w' := by
  have HP : Hid (TxtAt w p ss) := hp
  have HS : Hid (∀ x ∈ ss, x.size ≤ 1048576) := hs
  clear hp hs
  obtain ⟨i0, hi, hz0, hz1, hz2⟩ := info_parts infoStr
  go_enter Tryz.func59, Tryz.ntmps59
  go_wp2
  go_loopw [8, 3] (fun i v wr => ∃ k : Nat, k ≤ ss.length ∧ i = .int .i64 k ∧ Hid (wr.ownsRow w.heap.size 9 1 v k (strRow (ss.take k))) ∧ Hid (Below w.heap.size w wr)) (fun i _ _ => ss.length - (intOf i).toNat)
  case atStart => exact ⟨0, Nat.zero_le _, rfl, World.ownsRow_nil _ _ _ _, Below.refl _ _⟩
  case round =>
    obtain ⟨k, hk, rfl, hown, hB⟩ := hrel
    have hsz := hB.out.size
    by_cases hlt : k < ss.length
    · obtain ⟨b, off, rfl, hb, hck⟩ := HP.out k hlt
      have hc1 : wr.cell? ⟨b, off + k, none⟩ = some (.string ss[k]) := (hB.out.cell (p := ⟨b, off + k, none⟩) hb).trans hck
      have hx := HS.out ss[k] (List.getElem_mem hlt)
      have HT : Hid (strRow (ss.take (k + 1)) = strRow (ss.take k) ++ [.string ss[k]]) := by show _ = _; unfold strRow; rw [List.take_succ_eq_append_getElem hlt, List.map_append]; rfl
      have hj := joined_one ss[k] wr (by omega)
      clear hck
      generalize ss[k] = q at *
      go_wp2_with fail
      refine hj.mono ?_
      rintro e w2 ⟨rfl, b2⟩
      have own2 := ownS_below hown.out b2
      have hB2 := chainB hB.out b2
      have hs2 := hB2.size
      go_wp2_with (at_builtin; refine wpList_append_lies _ rfl _ _ 23 rfl w.heap.size 9 i0 (.string ByteArray.empty) 1 16 Tryz.underlying23 hi hz0 hz1 hz2 rfl (by omega) _ k (strRow (ss.take k)) rfl (own2.alloc _) ⟨w2.heap.size, 0, none⟩ 1 1 [.string q] rfl rfl (World.news_of_block (cs := #[.string q]) (t := 9) (fr := (0, 0)) (MapKept.heap_alloc w2 _).1) (by simp [Value.oneCell']) (by omega) (by unfold maxLen; omega) (by omega) (by simp; omega) (w2.heap.size + 1) (by simp) ?_; intro g2 cap2 w3 hown3 hgrow hat hltg)
      have HO3 : Hid (w3.ownsRow w.heap.size 9 1 (.slice (some ⟨g2, 0, none⟩) (k + 1) cap2) (k + 1) (strRow (ss.take (k + 1)))) := by
        show World.ownsRow _ _ _ _ _ _ _
        rw [HT.out]; exact hown3
      have HB3 : Hid (Below w.heap.size w w3) := (hB2.alloc hB2.size _).grown hgrow (by simp; omega) (fun j hj => (own2.lt j hj).1)
      clear hown3 own2
      go_roundw
      case rel => exact ⟨k + 1, by omega, by go_num, HO3, HB3⟩
      case measure => simp [intOf]; omega
    · obtain rfl : k = ss.length := by omega
      have HO3 : Hid (wr.ownsRow w.heap.size 9 1 u3 ss.length (strRow ss)) := by
        have := hown.out; rwa [List.take_length] at this
      go_wp2
      go_ret
      exact ⟨_, rfl, HO3.out, hB.out⟩
end Go.Proofs.YtkhffoailfnepabGreatDoor
