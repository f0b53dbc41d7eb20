/-
  What the program's putSteps answers, given what readArea answers: the steps of putting a text, or why not.
  Conditions: the cells of Sectors and Pending hold the texts and the pendings; the text has at most 8000 bytes; the sentinels are laid.
-/
import Derived.Test.YtkhffoailfnepabGreatDoorRows
import Derived.Test.YtkhffoailfnepabGreatDoorBytesDigMath
import Derived.Test.YtkhffoailfnepabGreatDoorSlASlBOwnSOwnBSrc
import Derived.Test.YtkhffoailfnepabGreatDoorDskRAppSStepAppDskA
import Derived.Test.YtkhffoailfnepabGreatDoorDrawsDrawKitDskMath
import Derived.Test.YtkhffoailfnepabGreatDoorLawDLwDskLwArLawIPutMathPutNum
import Derived.Test.YtkhffoailfnepabGreatDoorGetTextITextMathAreaMath
import Derived.Test.YtkhffoailfnepabGreatDoorStpMathAreaPutMUnsealSSpecGN
import Derived.Test.YtkhffoailfnepabGreatDoorPuLeImplDRImplAACopied
import Derived.Test.YtkhffoailfnepabGreatDoorImplAFIsEImplACErrI
import Derived.Test.YtkhffoailfnepabGreatDoorImplSuImplSv
import Derived.Test.YtkhffoailfnepabGreatDoorImplARImplTSImplNx
import Derived.Handy
import Derived.WalkSpells
import Derived.OwnWalk
import Derived.Deep.RegionHeld3
import Derived.Deep.QuietTactic
import Derived.BigQuiet
namespace Go.Proofs.YtkhffoailfnepabGreatDoor
open Go.RowKit Go.Lib
set_option linter.unusedVariables false
set_option maxRecDepth 20000

set_option maxHeartbeats 4000000 in
theorem putSteps_any (q1 : Option Addr) (c1 : Nat) (ss : List ByteArray) (q2 : Option Addr) (c2 : Nat) (ps : List Pnd) (t : ByteArray) (a1 a2 a3 a4 : Addr) (w : World) (n1 : ss.length ≤ 1048576) (ht : t.size ≤ 8000) (hS : Sents a1 a2 a3 a4 w)
    (hRA : ∀ x, Below w.heap.size w x → Calls Tryz.prog 26 #[.agg #[.slice q1 ss.length c1, .slice q2 ps.length c2]] x fun e x1 => RaP ss ps a1 a2 a3 a4 e ∧ Below x.heap.size x x1) :
    Calls Tryz.prog 29 #[.agg #[.slice q1 ss.length c1, .slice q2 ps.length c2], .string t] w fun e w' => ∃ v err, e = .returned (.tuple #[v, err]) ∧ (puOk ss ps t = 0 → err = .nilIface ∧ StL w v (puL ss ps t) w') ∧ (puOk ss ps t ≠ 0 → ErrIs a1 a2 a3 a4 err (puOk ss ps t)) ∧ Below w.heap.size w w' := by
  obtain ⟨W1, hW1⟩ : ∃ W1, W1 = w.alloc (.cells #[.slice q1 ss.length c1, .slice q2 ps.length c2] 26) := ⟨_, rfl⟩
  have HW1 : Hid (W1 = w.alloc (.cells #[.slice q1 ss.length c1, .slice q2 ps.length c2] 26)) := hW1
  have B1 : Hid (Below w.heap.size w W1) := by rw [hW1]; exact (Below.refl _ _).alloc (Nat.le_refl _) _
  have K1 : Hid (Bxs W1 w.heap.size 26 #[.slice q1 ss.length c1, .slice q2 ps.length c2]) := by rw [hW1]; exact Bxs.new _ _ _
  have HX : Hid (∀ x, Below W1.heap.size W1 x → x.cell? ⟨w.heap.size, 0, none⟩ = some (.slice q1 ss.length c1) ∧ x.cell? ⟨w.heap.size, 1, none⟩ = some (.slice q2 ps.length c2)) := fun x hb => ⟨(K1.out.below hb).cell 0, (K1.out.below hb).cell 1⟩
  have HSe : Hid (∀ x, Below W1.heap.size W1 x → x.cell? ⟨3, 0, none⟩ = some (.iface 159 (.pointer (some a4)))) := fun x hb => (hS.below (chainB B1.out hb)).c4
  have hOk1 : puOk ss ps t = if arC ss ps = 0 then (if roomN ss < t.size ∨ 1000000 ≤ arG ss ps then 9 else 0) else arC ss ps := if_neg (by omega)
  have hR1 := hRA W1 B1.out
  have t0 := K1.out.cell 0
  have t1 := K1.out.cell 1
  rw [HW1.out] at t0 t1
  clear hW1 hRA hS
  go_enter Tryz.func29, Tryz.ntmps29
  go_wp2_with fail
  rw [← HW1.out]
  refine hR1.mono ?_
  rintro e y1 ⟨⟨G, SD, Z, T, v, rfl, hok, hno⟩, b1⟩
  obtain ⟨W2, hW2⟩ : ∃ W2, W2 = y1.alloc (.cells #[.int .i64 (G : Int), .int .i64 (SD : Int), .int .i64 (Z : Int)] 49) := ⟨_, rfl⟩
  have HW2 : Hid (W2 = y1.alloc (.cells #[.int .i64 (G : Int), .int .i64 (SD : Int), .int .i64 (Z : Int)] 49)) := hW2
  have K2 : Hid (Bxs W2 y1.heap.size 49 #[.int .i64 (G : Int), .int .i64 (SD : Int), .int .i64 (Z : Int)]) := by rw [hW2]; exact Bxs.new _ _ _
  have HB2 : Hid (Below W1.heap.size W1 W2) := by rw [hW2]; exact alB b1 _
  clear t0 t1 hR1 b1
  by_cases hac : ¬ arC ss ps = 0
  · rw [if_neg hac] at hOk1
    obtain ⟨ty, pp, rfl⟩ := (hno hac).iface
    have HE : Hid (∃ v err, Ending.returned (.tuple #[.slice none 0 0, .iface ty pp]) = .returned (.tuple #[v, err]) ∧ (puOk ss ps t = 0 → err = .nilIface ∧ StL w v (puL ss ps t) W2) ∧ (puOk ss ps t ≠ 0 → ErrIs a1 a2 a3 a4 err (puOk ss ps t)) ∧ Below w.heap.size w W2) := ⟨_, _, rfl, fun h => absurd (hOk1 ▸ h) hac, fun _ => by rw [hOk1]; exact hno hac, chainB B1.out HB2.out⟩
    rw [hW2] at HE
    clear hok hno hac hOk1 hW2 HX HSe
    go_wp2_with fail
    go_ret2
    exact HE.out
  have hac : arC ss ps = 0 := Decidable.byContradiction hac
  obtain ⟨hG, hSD, -, rfl⟩ := hok hac
  rw [if_pos hac, ← hG] at hOk1
  obtain ⟨hdr, hsc, -⟩ := arC_ok hac
  obtain ⟨⟨p1, p2⟩, -⟩ := dskB_parts hdr
  have hS1 : SD ≤ 1 := by rw [hSD]; exact (seC_ok hsc).2.2.1
  have HpuL : Hid (puL ss ps t = putW (1 + (1 - SD) * sideN ss.length) t (needN t.size) ++ [.fl, .wr 0 (headB ((G + 1 : Nat) : Int) ((1 - SD : Nat) : Int) (t.size : Int)), .fl]) := by
    show puL ss ps t = _
    rw [hG, hSD]; rfl
  have HRm : Hid (∀ x, Calls Tryz.prog 44 #[.agg #[.slice q1 ss.length c1, .slice q2 ps.length c2]] x fun e w' => e = .returned (.int .i64 ((64 * sideN ss.length : Nat) : Int)) ∧ Below x.heap.size x w') := fun x => roomOf_any q1 ss.length c1 q2 ps.length c2 x p1 n1
  have HSt : Hid (∀ x (o : Nat), o ≤ 1 → Calls Tryz.prog 62 #[.agg #[.slice q1 ss.length c1, .slice q2 ps.length c2], .int .i64 (o : Int)] x fun e w' => e = .returned (.int .i64 ((1 + o * sideN ss.length : Nat) : Int)) ∧ Below x.heap.size x w') := fun x o ho => sideStart_any q1 ss.length c1 q2 ps.length c2 o x p1 n1 ho
  have hroom : roomN ss = 64 * sideN ss.length := rfl
  have hHl : sideN ss.length ≤ 32 := by unfold sideN; omega
  rw [hroom] at hOk1
  have HG : Hid (G = arG ss ps) := hG
  clear hok hno hac hG hSD hdr hsc hroom
  generalize sideN ss.length = H at *
  obtain ⟨u0, u1⟩ := HX.out W2 HB2.out
  rw [hW2] at u0 u1
  clear hW2
  by_cases h9 : 64 * H < t.size ∨ 1000000 ≤ G
  · rw [if_pos h9] at hOk1
    have HE : Hid (∀ y, Below W1.heap.size W1 y → ∃ v err, Ending.returned (.tuple #[.slice none 0 0, .iface 159 (.pointer (some a4))]) = .returned (.tuple #[v, err]) ∧ (puOk ss ps t = 0 → err = .nilIface ∧ StL w v (puL ss ps t) y) ∧ (puOk ss ps t ≠ 0 → ErrIs a1 a2 a3 a4 err (puOk ss ps t)) ∧ Below w.heap.size w y) := fun y hy => ⟨_, _, rfl, fun h => by rw [hOk1] at h; exact absurd h (by decide), fun _ => by rw [hOk1]; exact .inr (.inr (.inr (.inl ⟨rfl, rfl⟩))), chainB B1.out hy⟩
    clear hOk1 HpuL HSt
    by_cases h9a : 64 * H < t.size
    · have d1 : decide (((64 * H : Nat) : Int) < (t.size : Int)) = true := decide_eq_true (by omega)
      have d1' : decide (64 * H < t.size) = true := decide_eq_true h9a
      have d1i : decide (64 * (H : Int) < (t.size : Int)) = true := decide_eq_true (by omega)
      clear h9 h9a
      go_wp2_with fail
      rw [← HW2.out] at u0 u1 ⊢
      refine (HRm.out W2).mono ?_
      rintro e y3 ⟨rfl, b3⟩
      have k0 : y3.cell? ⟨y1.heap.size, 0, none⟩ = some (.int .i64 (G : Int)) := (K2.out.below b3).cell 0
      have hB3 := chainB HB2.out b3
      have gq := HSe.out y3 hB3
      have HE3 : Hid (∀ n, _) := fun n => HE.out (y3.drewN n) (below_drewN hB3 n)
      clear u0 u1 b3 hB3 HE
      go_wp2_with fail
      go_quiet (fail)
      go_wp2_with fail
      go_ret2
      exact HE3.out _
    · have d1 : decide (((64 * H : Nat) : Int) < (t.size : Int)) = false := decide_eq_false (by omega)
      have d1' : decide (64 * H < t.size) = false := decide_eq_false h9a
      have d1i : decide (64 * (H : Int) < (t.size : Int)) = false := decide_eq_false (by omega)
      have d2 : decide ((1000000 : Int) ≤ (G : Int)) = true := decide_eq_true (by omega)
      clear h9 h9a
      go_wp2_with fail
      rw [← HW2.out] at u0 u1 ⊢
      refine (HRm.out W2).mono ?_
      rintro e y3 ⟨rfl, b3⟩
      have k0 : y3.cell? ⟨y1.heap.size, 0, none⟩ = some (.int .i64 (G : Int)) := (K2.out.below b3).cell 0
      have hB3 := chainB HB2.out b3
      have gq := HSe.out y3 hB3
      have HE3 : Hid (∀ n, _) := fun n => HE.out (y3.drewN n) (below_drewN hB3 n)
      clear u0 u1 b3 hB3 HE
      go_wp2_with fail
      go_quiet (fail)
      go_wp2_with fail
      go_ret2
      exact HE3.out _
  rw [if_neg h9] at hOk1
  have d1 : decide (((64 * H : Nat) : Int) < (t.size : Int)) = false := decide_eq_false (by omega)
  have d1' : decide (64 * H < t.size) = false := decide_eq_false (by omega)
  have d1i : decide (64 * (H : Int) < (t.size : Int)) = false := decide_eq_false (by omega)
  have d2 : decide ((1000000 : Int) ≤ (G : Int)) = false := decide_eq_false (by omega)
  have hG1 : G < 1000000 := by omega
  have HNx : Hid (∀ x, Calls Tryz.prog 60 #[.agg #[.int .i64 (G : Int), .int .i64 (SD : Int), .int .i64 (Z : Int)], .int .i64 (t.size : Int)] x fun e w' => e = .returned (.agg #[.int .i64 ((G + 1 : Nat) : Int), .int .i64 ((1 - SD : Nat) : Int), .int .i64 (t.size : Int)]) ∧ Below x.heap.size x w') := fun x => next_any G SD Z t.size x hG1 hS1
  have hF : 1 + (1 - SD) * H ≤ 1000 := by
    have : (1 - SD) * H ≤ H := by rcases Nat.le_one_iff_eq_zero_or_eq_one.1 (show 1 - SD ≤ 1 by omega) with e | e <;> rw [e] <;> omega
    omega
  obtain ⟨F, hFd⟩ : ∃ F, F = 1 + (1 - SD) * H := ⟨_, rfl⟩
  obtain ⟨O, hOd⟩ : ∃ O, O = 1 - SD := ⟨_, rfl⟩
  obtain ⟨G1, hG1d⟩ : ∃ G1, G1 = G + 1 := ⟨_, rfl⟩
  have HStO : Hid (∀ x, Calls Tryz.prog 62 #[.agg #[.slice q1 ss.length c1, .slice q2 ps.length c2], .int .i64 (O : Int)] x fun e w' => e = .returned (.int .i64 (F : Int)) ∧ Below x.heap.size x w') := fun x => by rw [hFd, ← hOd]; exact HSt.out x O (by omega)
  have HTs : Hid (∀ x, Calls Tryz.prog 61 #[.int .i64 (F : Int), .string t] x fun e w' => ∃ v, e = .returned v ∧ w'.ownsRow x.heap.size 99 3 v (putW F t (needN t.size) ++ [Stp.fl]).length (stpRow (putW F t (needN t.size) ++ [Stp.fl])) ∧ Below x.heap.size x w') := fun x => textSteps_any F t x ht (by omega)
  have HHs : Hid (∀ x, Calls Tryz.prog 32 #[.agg #[.int .i64 (G1 : Int), .int .i64 (O : Int), .int .i64 (t.size : Int)]] x fun e w' => ∃ b, x.heap.size ≤ b ∧ e = .returned (.slice (some ⟨b, 0, none⟩) 2 2) ∧ w'.heap[b]? = some (.cells #[.bool false, .int .i64 0, .string (headB (G1 : Int) (O : Int) (t.size : Int)), .bool true, .int .i64 0, .string ByteArray.empty] 99 (0, 0)) ∧ Below x.heap.size x w') := fun x => headSteps_any _ _ _ x (by omega) (by omega) (by omega) (by omega) (by omega) (by omega)
  rw [← hOd, ← hG1d] at HNx HpuL
  rw [hOd, ← hFd, ← hOd] at HpuL
  have hLl : (putW F t (needN t.size) ++ [Stp.fl]).length + 2 ≤ 1048576 := by
    rw [List.length_append, putW_len]; unfold needN; simp; omega
  have HLl : Hid ((putW F t (needN t.size) ++ [Stp.fl]).length + 2 ≤ 1048576) := hLl
  obtain ⟨L1, hL1⟩ : ∃ L1, L1 = putW F t (needN t.size) ++ [Stp.fl] := ⟨_, rfl⟩
  obtain ⟨HT, hHT⟩ : ∃ HT, HT = headB (G1 : Int) (O : Int) (t.size : Int) := ⟨_, rfl⟩
  have HLe : Hid (puL ss ps t = L1 ++ [.wr 0 HT, .fl]) := by
    show puL ss ps t = _
    rw [HpuL.out, hL1, hHT, List.append_assoc]; rfl
  rw [← hL1] at HTs HLl
  rw [← hHT] at HHs
  have HO0 : Hid (puOk ss ps t = 0) := hOk1
  clear hFd hOd hG1d hL1 hHT hOk1 h9 hF hLl HpuL HSt hHl hS1 hG1 HG
  go_wp2_with fail
  rw [← HW2.out] at u0 u1 ⊢
  refine (HRm.out W2).mono ?_
  rintro e y3 ⟨rfl, b3⟩
  have k0 : y3.cell? ⟨y1.heap.size, 0, none⟩ = some (.int .i64 (G : Int)) := (K2.out.below b3).cell 0
  have k1 : y3.cell? ⟨y1.heap.size, 1, none⟩ = some (.int .i64 (SD : Int)) := (K2.out.below b3).cell 1
  have k2 : y3.cell? ⟨y1.heap.size, 2, none⟩ = some (.int .i64 (Z : Int)) := (K2.out.below b3).cell 2
  have HB3 : Hid (Below W1.heap.size W1 y3) := chainB HB2.out b3
  clear u0 u1 b3
  go_wp2_with fail
  refine (HNx.out y3).mono ?_
  rintro e y4 ⟨rfl, b4⟩
  obtain ⟨W5, hW5⟩ : ∃ W5, W5 = y4.alloc (.cells #[.int .i64 (G1 : Int), .int .i64 (O : Int), .int .i64 (t.size : Int)] 49) := ⟨_, rfl⟩
  have HW5 : Hid (W5 = y4.alloc (.cells #[.int .i64 (G1 : Int), .int .i64 (O : Int), .int .i64 (t.size : Int)] 49)) := hW5
  have K5 : Hid (Bxs W5 y4.heap.size 49 #[.int .i64 (G1 : Int), .int .i64 (O : Int), .int .i64 (t.size : Int)]) := by rw [hW5]; exact Bxs.new _ _ _
  have HB5 : Hid (Below W1.heap.size W1 W5) := by rw [hW5]; exact alB (chainB HB3.out b4) _
  clear k0 k1 k2 b4 hW5
  have HC : Hid (∀ x, Below W5.heap.size W5 x → x.cell? ⟨w.heap.size, 0, none⟩ = some (.slice q1 ss.length c1) ∧ x.cell? ⟨w.heap.size, 1, none⟩ = some (.slice q2 ps.length c2) ∧ x.cell? ⟨y4.heap.size, 0, none⟩ = some (.int .i64 (G1 : Int)) ∧ x.cell? ⟨y4.heap.size, 1, none⟩ = some (.int .i64 (O : Int)) ∧ x.cell? ⟨y4.heap.size, 2, none⟩ = some (.int .i64 (t.size : Int))) := fun x hb => ⟨(HX.out x (chainB HB5.out hb)).1, (HX.out x (chainB HB5.out hb)).2, (K5.out.below hb).cell 0, (K5.out.below hb).cell 1, (K5.out.below hb).cell 2⟩
  have HD : Hid (Below W5.heap.size W5 W5.drew) := (Below.refl _ _).drew
  have Q1 : Hid (∀ x, Below W5.heap.size W5 x → Calls Tryz.prog 62 #[.agg #[.slice q1 ss.length c1, .slice q2 ps.length c2], .int .i64 (O : Int)] x fun e w' => e = .returned (.int .i64 (F : Int)) ∧ Below W5.heap.size W5 w') := fun x hb => (HStO.out x).mono (by rintro e x1 ⟨rfl, b⟩; exact ⟨rfl, chainB hb b⟩)
  have Q2 : Hid (∀ x, Below W5.heap.size W5 x → Calls Tryz.prog 61 #[.int .i64 (F : Int), .string t] x fun e w' => ∃ p c, e = .returned (.slice p L1.length c) ∧ StL W5 (.slice p L1.length c) L1 w' ∧ Below W5.heap.size W5 w') := fun x hb => (HTs.out x).mono (by
    rintro e x1 ⟨v, rfl, ho, b⟩
    obtain ⟨p, c, rfl, -, -⟩ := stp_at ho
    exact ⟨p, c, rfl, ⟨ownS_mono ho hb.size, chainB hb b⟩, chainB hb b⟩)
  have Q3 : Hid (∀ x p c, Below W5.heap.size W5 x → StL W5 (.slice p L1.length c) L1 x → Calls Tryz.prog 32 #[.agg #[.int .i64 (G1 : Int), .int .i64 (O : Int), .int .i64 (t.size : Int)]] x fun e w' => ∃ b g c' x', e = .returned (.slice (some ⟨b, 0, none⟩) 2 2) ∧ (Builtin.append_ #[56, 56] 56 #[.slice p L1.length c, .slice (some ⟨b, 0, none⟩) 2 2]).run Tryz.prog w' = .ok (.slice (some ⟨g, 0, none⟩) (L1.length + 2) c') x' ∧ StL W5 (.slice (some ⟨g, 0, none⟩) (L1.length + 2) c') (L1 ++ [.wr 0 HT, .fl]) x' ∧ Below W5.heap.size W5 w') := fun x p c hb hL => (HHs.out x).mono (by
    rintro e x1 ⟨b, hbb, rfl, hbl, b1⟩
    have hL' : StL W5 (.slice p L1.length c) L1 x1 := ⟨ownS_below hL.own b1, chainB hL.bel b1⟩
    obtain ⟨g, c', x', a1', a2'⟩ := app_two hL' b (.wr 0 HT) .fl hbl (fun j hj e => by subst e; have := (hL.own.lt j hj).2; omega) HLl.out
    exact ⟨b, g, c', x', rfl, a1', a2', chainB hb b1⟩)
  have HFin : Hid (∀ (g c' : Nat) (x' : World), StL W5 (.slice (some ⟨g, 0, none⟩) (L1.length + 2) c') (L1 ++ [.wr 0 HT, .fl]) x' → ∃ v err, Ending.returned (.tuple #[.slice (some ⟨g, 0, none⟩) (L1.length + 2) c', .nilIface]) = .returned (.tuple #[v, err]) ∧ (puOk ss ps t = 0 → err = .nilIface ∧ StL w v (puL ss ps t) x') ∧ (puOk ss ps t ≠ 0 → ErrIs a1 a2 a3 a4 err (puOk ss ps t)) ∧ Below w.heap.size w x') := fun g c' x' h => ⟨_, _, rfl, fun _ => ⟨rfl, by rw [HLe.out]; exact ⟨ownS_mono h.own (chainB B1.out HB5.out).size, chainB (chainB B1.out HB5.out) h.bel⟩⟩, fun hn => absurd HO0.out hn, chainB (chainB B1.out HB5.out) h.bel⟩
  have HAft : Hid (∀ x, Below W1.heap.size W1 x → x.cell? ⟨w.heap.size, 0, none⟩ = some (.slice q1 ss.length c1) ∧ x.cell? ⟨w.heap.size, 1, none⟩ = some (.slice q2 ps.length c2)) := HX.out
  clear HStO HTs HHs HNx HRm HSe HX HLl
  go_wp2_with fail
  rw [← HW5.out]
  go_region_held3 (fun w' => w'.cell? ⟨w.heap.size, 0, none⟩ = some (.slice q1 ss.length c1) ∧ w'.cell? ⟨w.heap.size, 1, none⟩ = some (.slice q2 ps.length c2) ∧ w'.cell? ⟨y4.heap.size, 0, none⟩ = some (.int .i64 (G1 : Int)) ∧ w'.cell? ⟨y4.heap.size, 1, none⟩ = some (.int .i64 (O : Int)) ∧ w'.cell? ⟨y4.heap.size, 2, none⟩ = some (.int .i64 (t.size : Int))) ((first | exact HC.out _ hL4.bel | exact HC.out _ z3 | exact HC.out _ z2 | exact HC.out _ z1 | exact HC.out _ HD.out)) (first
    | (refine step_append_run rfl _ _ 56 rfl (.slice pT L1.length cT) (.slice (some ⟨bH, 0, none⟩) 2 2) _ _ rfl rfl (by with_reducible exact hap) ?_)
    | (go_at_call 62; with_reducible refine (Q1.out _ HD.out).mono ?_; rintro e x1 ⟨rfl, z1⟩)
    | (go_at_call 61; with_reducible refine (Q2.out _ z1).mono ?_; rintro e x2 ⟨pT, cT, rfl, hL2, z2⟩)
    | (go_at_call 32; with_reducible refine (Q3.out _ pT cT z2 hL2).mono ?_; rintro e x3 ⟨bH, gH, cH, x4, rfl, hap, hL4, z3⟩))
  all_goals
    go_wp2_with fail
    go_ret2
    exact HFin.out _ _ _ hL4
end Go.Proofs.YtkhffoailfnepabGreatDoor
