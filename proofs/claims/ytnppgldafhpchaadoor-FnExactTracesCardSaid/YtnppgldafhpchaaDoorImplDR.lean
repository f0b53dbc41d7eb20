/-
  What the program's hasSector, DiskRight and DiskNew answer: 'inB', 'dskB', 'newS'.
  Conditions: the cells of Sectors and Pending hold the texts and the pendings.
-/
import Derived.Test.YtnppgldafhpchaaDoorRows
import Derived.Test.YtnppgldafhpchaaDoorBytes
import Derived.Test.YtnppgldafhpchaaDoorSlASlBOwnS
import Derived.Test.YtnppgldafhpchaaDoorDskMath
import Derived.Test.YtnppgldafhpchaaDoorDskR
import Derived.Test.YtnppgldafhpchaaDoorTextMathDskS
import Derived.Handy
import Derived.WalkSpells
import Derived.OwnWalk
namespace Go.Proofs.YtnppgldafhpchaaDoor
open Go.RowKit Go.Lib
set_option linter.unusedVariables false
set_option maxRecDepth 20000

theorem hasSector_any (q1 : Option Addr) (n c1 : Nat) (q2 : Option Addr) (m c2 : Nat) (at_ : Int) (w : World) :
    Calls Tryd.prog 47 #[.agg #[.slice q1 n c1, .slice q2 m c2], .int .i64 at_] w fun e w' => e = .returned (.bool (decide (0 ≤ at_ ∧ at_ ≤ (n : Int) - 1))) ∧ Below w.heap.size w w' := by
  have B1 : Below w.heap.size w (w.alloc (.cells #[.slice q1 n c1, .slice q2 m c2] 30)) := (Below.refl _ _).alloc (Nat.le_refl _) _
  by_cases h1 : 0 ≤ at_
  · have d1 : decide (0 ≤ at_) = true := decide_eq_true h1
    by_cases h2 : at_ < (n : Int)
    · have d2 : decide (at_ < (n : Int)) = true := decide_eq_true h2
      have H : Hid (decide (0 ≤ at_ ∧ at_ ≤ (n : Int) - 1) = true) := decide_eq_true ⟨h1, by omega⟩
      rw [H.out]
      clear H
      go_enter Tryd.func47, Tryd.ntmps47
      go_wp2
      go_ret
      exact ⟨rfl, B1⟩
    · have d2 : decide (at_ < (n : Int)) = false := decide_eq_false h2
      have H : Hid (decide (0 ≤ at_ ∧ at_ ≤ (n : Int) - 1) = false) := decide_eq_false fun h => h2 (by omega)
      rw [H.out]
      clear H
      go_enter Tryd.func47, Tryd.ntmps47
      go_wp2
      go_ret
      exact ⟨rfl, B1⟩
  · have d1 : decide (0 ≤ at_) = false := decide_eq_false h1
    have H : Hid (decide (0 ≤ at_ ∧ at_ ≤ (n : Int) - 1) = false) := decide_eq_false fun h => h1 h.1
    rw [H.out]
    clear H
    go_enter Tryd.func47, Tryd.ntmps47
    go_wp2
    go_ret
    exact ⟨rfl, B1⟩

set_option maxHeartbeats 2000000 in
theorem implDiskRight_any (q1 : Option Addr) (c1 : Nat) (ss : List ByteArray) (q2 : Option Addr) (c2 : Nat) (ps : List Pnd) (w : World) (h1 : TxtAt w q1 ss) (h2 : PndAt w q2 ps) (n1 : ss.length ≤ 1048576) (n2 : ps.length ≤ 1048576) (m1 : ss.length ≤ c1) (m2 : ps.length ≤ c2) :
    Calls Tryd.prog 38 #[.agg #[.slice q1 ss.length c1, .slice q2 ps.length c2]] w fun e w' => e = .returned (.bool (dskB ss ps)) ∧ Below w.heap.size w w' := by
  obtain ⟨W1, hW1⟩ : ∃ W1, W1 = w.alloc (.cells #[.slice q1 ss.length c1, .slice q2 ps.length c2] 30) := ⟨_, rfl⟩
  have HW1 : Hid (W1 = w.alloc (.cells #[.slice q1 ss.length c1, .slice q2 ps.length c2] 30)) := hW1
  have B1 : Hid (Below w.heap.size w W1) := by rw [hW1]; exact (Below.refl _ _).alloc (Nat.le_refl _) _
  have X1 : W1.heap[w.heap.size]? = some (.cells #[.slice q1 ss.length c1, .slice q2 ps.length c2] 30 (0, 0)) := by rw [hW1]; exact (MapKept.heap_alloc w _).1
  have t0 : W1.cell? ⟨w.heap.size, 0, none⟩ = some (.slice q1 ss.length c1) ∧ W1.cell? ⟨w.heap.size, 1, none⟩ = some (.slice q2 ps.length c2) := by simp [World.cell?, X1]
  obtain ⟨t0, t1⟩ := t0
  have HZ : Hid (w.heap.size < W1.heap.size) := by rw [hW1]; show _ < _; simp
  have T1 : Hid (TxtAt W1 q1 ss) := h1.below B1.out
  have T2 : Hid (PndAt W1 q2 ps) := h2.below B1.out
  have H0 : Hid (dskB ss ps = (decide (1 ≤ ss.length ∧ ss.length ≤ 64) && (decide (ps.length ≤ 200) && (secB ss && pndB ss.length ps)))) := rfl
  rw [hW1] at t0 t1
  clear hW1 X1 h1 h2
  by_cases a1 : 1 ≤ ss.length
  case neg =>
    have HF : Hid (dskB ss ps = false) := by show _ = _; rw [H0.out, decide_eq_false (fun h => a1 h.1)]; rfl
    have d1 : decide ((ss.length : Int) < 1) = true := decide_eq_true (by omega)
    clear H0 T1 T2 a1
    go_enter Tryd.func38, Tryd.ntmps38
    go_wp2_with fail
    rw [← HW1.out]
    go_ret
    exact ⟨ret_bool HF.out.symm, B1.out⟩
  have d1 : decide ((ss.length : Int) < 1) = false := decide_eq_false (by omega)
  by_cases a3 : ss.length ≤ 64
  case neg =>
    have HF : Hid (dskB ss ps = false) := by show _ = _; rw [H0.out, decide_eq_false (fun h => a3 h.2)]; rfl
    have d3 : decide (64 < (ss.length : Int)) = true := decide_eq_true (by omega)
    clear H0 T1 T2 a1 a3
    go_enter Tryd.func38, Tryd.ntmps38
    go_wp2_with fail
    rw [← HW1.out]
    go_ret
    exact ⟨ret_bool HF.out.symm, B1.out⟩
  have d3 : decide (64 < (ss.length : Int)) = false := decide_eq_false (by omega)
  by_cases a2 : ps.length ≤ 200
  case neg =>
    have HF : Hid (dskB ss ps = false) := by show _ = _; rw [H0.out, decide_eq_false a2, Bool.false_and, Bool.and_false]
    have d2 : decide (200 < (ps.length : Int)) = true := decide_eq_true (by omega)
    clear H0 T1 T2 a1 a2 a3
    go_enter Tryd.func38, Tryd.ntmps38
    go_wp2_with fail
    rw [← HW1.out]
    go_ret
    exact ⟨ret_bool HF.out.symm, B1.out⟩
  have d2 : decide (200 < (ps.length : Int)) = false := decide_eq_false (by omega)
  rw [decide_eq_true (⟨a1, a3⟩ : 1 ≤ ss.length ∧ ss.length ≤ 64), decide_eq_true a2, Bool.true_and, Bool.true_and] at H0
  go_enter Tryd.func38, Tryd.ntmps38
  go_wp2_with fail
  rw [← HW1.out] at t0 t1 ⊢
  clear d1 d2 d3
  go_loop [26] (fun i => ∃ k : Nat, k ≤ ss.length ∧ i = .int .i64 k ∧ Hid (∀ j (h : j < ss.length), j < k → ss[j].size ≤ 64)) (fun i => ss.length - (intOf i).toNat)
  case atStart => exact ⟨0, Nat.zero_le _, rfl, fun j h hk => by omega⟩
  case round =>
    obtain ⟨k, hk, rfl, HK⟩ := hrel
    by_cases hlt : k < ss.length
    · obtain ⟨b, off, rfl, hb, hck⟩ := T1.out k hlt
      by_cases h64 : ss[k].size ≤ 64
      · have HK2 : Hid (∀ j (h : j < ss.length), j < k + 1 → ss[j].size ≤ 64) := fun j h hj => if he : j = k then by subst he; exact h64 else HK.out j h (by omega)
        generalize ss[k] = q at *
        have h33 : (q.size : Int) ≤ 64 := by omega
        go_wp2_with fail
        go_round
        case rel => exact ⟨k + 1, by omega, by go_num, HK2⟩
        case measure => simp [intOf]; omega
      · have HF : Hid (dskB ss ps = false) := by show _ = _; rw [H0.out, secB_false hlt h64]; rfl
        generalize ss[k] = q at *
        have h33 : ¬ (q.size : Int) ≤ 64 := by omega
        go_wp2_with fail
        go_ret
        exact ⟨ret_bool HF.out.symm, B1.out⟩
    · have HF : Hid (dskB ss ps = pndB ss.length ps) := by show _ = _; rw [H0.out, secB_true (fun j h => HK.out j h (by omega)), Bool.true_and]
      clear H0 HK T1
      obtain rfl : k = ss.length := by omega
      go_wp2_with fail
      go_loopw [37] (fun i wr => ∃ k : Nat, k ≤ ps.length ∧ i = .int .i64 k ∧ Hid (Below W1.heap.size W1 wr) ∧ Hid (∀ j (h : j < ps.length), j < k → pndOk ss.length ps[j])) (fun i _ => ps.length - (intOf i).toNat)
      case atStart => exact ⟨0, Nat.zero_le _, rfl, Below.refl _ _, fun j h hk => by omega⟩
      case round =>
        obtain ⟨k, hk, rfl, HB, HK⟩ := hrel
        by_cases hlt : k < ps.length
        · obtain ⟨b, off, rfl, hb, hc1, hc2⟩ := (T2.out.below HB.out) k hlt
          have i1 : (k : Int) < ps.length := by omega
          have HKp : Hid (pndOk ss.length ps[k] → ∀ j (h : j < ps.length), j < k + 1 → pndOk ss.length ps[j]) := fun h0 j h hj => if he : j = k then by subst he; exact h0 else HK.out j h (by omega)
          have HKn : Hid (¬ pndOk ss.length ps[k] → dskB ss ps = false) := fun h0 => by rw [HF.out, pndB_false hlt h0]
          generalize ps[k] = P at *
          obtain ⟨A, D⟩ := P
          have HKp : Hid (((0 ≤ A ∧ A ≤ (ss.length : Int) - 1) ∧ D.size ≤ 64) → ∀ j (h : j < ps.length), j < k + 1 → pndOk ss.length ps[j]) := HKp
          have HKn : Hid (¬ ((0 ≤ A ∧ A ≤ (ss.length : Int) - 1) ∧ D.size ≤ 64) → dskB ss ps = false) := HKn
          have hc1 : wr.cell? ⟨b, off + k * 2, none⟩ = some (.int .i64 A) := hc1
          have hc2 : wr.cell? ⟨b, off + k * 2 + 1, none⟩ = some (.string D) := hc2
          obtain ⟨Y, hY⟩ : ∃ Y, Y = wr.alloc (.cells #[.int .i64 A, .string D] 65) := ⟨_, rfl⟩
          have HY : Hid (Y = wr.alloc (.cells #[.int .i64 A, .string D] 65)) := hY
          have bY : Below W1.heap.size W1 Y := by rw [hY]; exact HB.out.alloc HB.out.size _
          have RY : Y.heap[wr.heap.size]? = some (.cells #[.int .i64 A, .string D] 65 (0, 0)) := by rw [hY]; exact (MapKept.heap_alloc _ _).1
          have SY : wr.heap.size < Y.heap.size := by rw [hY]; simp
          have HYc : Hid (∀ x, Below Y.heap.size Y x → x.cell? ⟨wr.heap.size, 0, none⟩ = some (.int .i64 A) ∧ x.cell? ⟨wr.heap.size, 1, none⟩ = some (.string D)) := fun x hb => by
            have h0 := (hb.block wr.heap.size SY).trans RY
            simp [World.cell?, h0]
          have x0 := (bY.cell (p := ⟨w.heap.size, 0, none⟩) HZ.out).trans t0
          have x1 := (bY.cell (p := ⟨w.heap.size, 1, none⟩) HZ.out).trans t1
          obtain ⟨y0, y1⟩ := HYc.out Y (Below.refl _ _)
          rw [hY] at x0 x1 y0 y1
          have QI := hasSector_any q1 ss.length c1 (some ⟨b, off, none⟩) ps.length c2 A Y
          clear hY RY t0 t1
          by_cases b1 : 0 ≤ A ∧ A ≤ (ss.length : Int) - 1
          · rw [decide_eq_true b1] at QI
            by_cases b2 : D.size ≤ 64
            · have HK2 : Hid (∀ j (h : j < ps.length), j < k + 1 → pndOk ss.length ps[j]) := HKp.out ⟨b1, b2⟩
              clear HKp HKn b1
              have b3 : (D.size : Int) ≤ 64 := by omega
              go_wp2_with fail
              rw [← HY.out]
              refine QI.mono ?_
              rintro e y2 ⟨rfl, z2⟩
              obtain ⟨u0, u1⟩ := HYc.out y2 z2
              have z3 := chainB bY z2
              go_wp2_with fail
              go_roundw
              case rel => exact ⟨k + 1, by omega, by go_num, z3, HK2⟩
              case measure => simp [intOf]; omega
            · have HN : Hid (dskB ss ps = false) := HKn.out (fun h => b2 h.2)
              clear HKp HKn b1
              have b3 : ¬ (D.size : Int) ≤ 64 := by omega
              go_wp2_with fail
              rw [← HY.out]
              refine QI.mono ?_
              rintro e y2 ⟨rfl, z2⟩
              obtain ⟨u0, u1⟩ := HYc.out y2 z2
              have z3 := chainB bY z2
              go_wp2_with fail
              go_ret
              exact ⟨ret_bool HN.out.symm, chainB B1.out z3⟩
          · have HN : Hid (dskB ss ps = false) := HKn.out (fun h => b1 h.1)
            rw [decide_eq_false b1] at QI
            clear HKp HKn b1
            go_wp2_with fail
            rw [← HY.out]
            refine QI.mono ?_
            rintro e y2 ⟨rfl, z2⟩
            have z3 := chainB bY z2
            go_wp2_with fail
            go_ret
            exact ⟨ret_bool HN.out.symm, chainB B1.out z3⟩
        · have HN : Hid (dskB ss ps = true) := by show _ = _; rw [HF.out, pndB_true (fun j h => HK.out j h (by omega))]
          go_wp2_with fail
          go_ret
          exact ⟨ret_bool HN.out.symm, chainB B1.out HB.out⟩

end Go.Proofs.YtnppgldafhpchaaDoor
