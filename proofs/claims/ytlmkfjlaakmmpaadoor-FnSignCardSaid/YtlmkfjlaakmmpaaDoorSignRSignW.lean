/-
  Parts of one proof, laid as one text: SignR, SignW; what each says stands at its head.
-/
import Derived.Test.YtlmkfjlaakmmpaaDoorRows
import Derived.Test.YtlmkfjlaakmmpaaDoorBytes
import Derived.Test.YtlmkfjlaakmmpaaDoorSlA
import Derived.Test.YtlmkfjlaakmmpaaDoorIsInWide2
import Derived.Test.YtlmkfjlaakmmpaaDoorSgnB
import Derived.Handy
import Derived.WalkSpells
import Derived.OwnWalk
import Derived.Test.YtlmkfjlaakmmpaaDoorDigMath
import Derived.Test.YtlmkfjlaakmmpaaDoorOwnBPadI
import Derived.Test.YtlmkfjlaakmmpaaDoorAll2
import Derived.Test.YtlmkfjlaakmmpaaDoorTreeMath
import Derived.Test.YtlmkfjlaakmmpaaDoorSlBOwnS
import Derived.Test.YtlmkfjlaakmmpaaDoorLeafNode
import Derived.Test.YtlmkfjlaakmmpaaDoorTakerTakePathIncMath
import Derived.Test.YtlmkfjlaakmmpaaDoorInc2
import Derived.Test.YtlmkfjlaakmmpaaDoorSignMath
import Derived.Test.YtlmkfjlaakmmpaaDoorSignSSignD
import Derived.Test.YtlmkfjlaakmmpaaDoorSignGSignV
import Derived.Deep.RegionLaw
import Derived.Deep.RegionWith
/-
  What the specification's SigRight answers: 'sgnB'.
  Conditions: the cells of Ends and Path hold the texts.
-/
namespace Go.Proofs.YtlmkfjlaakmmpaaDoor
open Go.RowKit Go.Lib
set_option linter.unusedVariables false
set_option maxRecDepth 20000

set_option maxHeartbeats 2000000 in
theorem specSigRight_any (key : Int) (q1 : Option Addr) (c1 : Nat) (ends : List ByteArray) (q2 : Option Addr) (c2 : Nat) (path : List ByteArray) (w : World) (h1 : TxtAt w q1 ends) (h2 : TxtAt w q2 path) (n1 : ends.length ≤ 1048576) (n2 : path.length ≤ 1048576) (m1 : ends.length ≤ c1) (m2 : path.length ≤ c2) :
    Calls Tryd.prog 58 #[.agg #[.int .i64 key, .slice q1 ends.length c1, .slice q2 path.length c2]] w fun e w' => e = .returned (.bool (sgnB key ends path)) ∧ Below w.heap.size w w' := by
  obtain ⟨W1, hW1⟩ : ∃ W1, W1 = w.alloc (.cells #[.int .i64 key, .slice q1 ends.length c1, .slice q2 path.length c2] 62) := ⟨_, rfl⟩
  have HW1 : Hid (W1 = w.alloc (.cells #[.int .i64 key, .slice q1 ends.length c1, .slice q2 path.length c2] 62)) := hW1
  have B1 : Hid (Below w.heap.size w W1) := by rw [hW1]; exact (Below.refl _ _).alloc (Nat.le_refl _) _
  have X1 : W1.heap[w.heap.size]? = some (.cells #[.int .i64 key, .slice q1 ends.length c1, .slice q2 path.length c2] 62 (0, 0)) := by rw [hW1]; exact (MapKept.heap_alloc w _).1
  have t0 : W1.cell? ⟨w.heap.size, 0, none⟩ = some (.int .i64 key) ∧ W1.cell? ⟨w.heap.size, 1, none⟩ = some (.slice q1 ends.length c1) ∧ W1.cell? ⟨w.heap.size, 2, none⟩ = some (.slice q2 path.length c2) := by simp [World.cell?, X1]
  obtain ⟨t0, t1, t2⟩ := t0
  have hK := isIn_any key 0 3 W1
  have hE := wide2_any q1 c1 ends W1 (h1.below B1.out) (by omega) m1
  have hP := wide2_any q2 c2 path W1 (h2.below B1.out) (by omega) m2
  have H0 : Hid (sgnB key ends path = (decide (0 ≤ key ∧ key ≤ 3) && (decide (ends.length = 6) && (decide (path.length = 2) && (wideB ends && wideB path))))) := rfl
  clear hW1 X1 h1 h2
  rw [H0.out]
  generalize decide (0 ≤ key ∧ key ≤ 3) = b0 at *
  have e1 : ((ends.length : Int) == 6) = decide (ends.length = 6) := by
    by_cases h : ends.length = 6
    · rw [decide_eq_true h]; exact beq_iff_eq.2 (by omega)
    · rw [decide_eq_false h]; exact beq_eq_false_iff_ne.2 (by omega)
  have e2 : ((path.length : Int) == 2) = decide (path.length = 2) := by
    by_cases h : path.length = 2
    · rw [decide_eq_true h]; exact beq_iff_eq.2 (by omega)
    · rw [decide_eq_false h]; exact beq_eq_false_iff_ne.2 (by omega)
  generalize decide (ends.length = 6) = b1 at *
  generalize decide (path.length = 2) = b2 at *
  generalize wideB ends = b3 at *
  generalize wideB path = b4 at *
  clear H0
  go_enter Tryd.func58, Tryd.ntmps58
  go_wp2_with fail
  rw [← HW1.out]
  refine hK.mono ?_
  rintro e w1 ⟨rfl, rfl⟩
  cases b0
  · go_wp2_with fail
    go_ret
    exact ⟨ret_bool (by simp), B1.out⟩
  cases b1
  · go_wp2_with fail
    go_ret
    exact ⟨ret_bool (by simp), B1.out⟩
  cases b2
  · go_wp2_with fail
    go_ret
    exact ⟨ret_bool (by simp), B1.out⟩
  go_wp2_with fail
  refine hE.mono ?_
  rintro e w1 ⟨rfl, rfl⟩
  cases b3
  · go_wp2_with fail
    go_ret
    exact ⟨ret_bool (by simp), B1.out⟩
  go_wp2_with fail
  refine hP.mono ?_
  rintro e w1 ⟨rfl, rfl⟩
  go_wp2_with fail
  go_ret
  exact ⟨ret_bool (by simp), B1.out⟩
end Go.Proofs.YtlmkfjlaakmmpaaDoor
/-
  What the specification's Verify answers: 'verA'.
  Conditions: the cells of Ends and Path hold the texts.
-/
namespace Go.Proofs.YtlmkfjlaakmmpaaDoor
open Go.RowKit Go.Lib
set_option linter.unusedVariables false
set_option maxRecDepth 20000

set_option maxHeartbeats 4000000 in
theorem specVerify_any (root text : ByteArray) (key : Int) (q1 : Option Addr) (c1 : Nat) (ends : List ByteArray) (q2 : Option Addr) (c2 : Nat) (path : List ByteArray) (w : World) (h1 : TxtAt w q1 ends) (h2 : TxtAt w q2 path) (n1 : ends.length ≤ 1048576) (n2 : path.length ≤ 1048576) (m1 : ends.length ≤ c1) (m2 : path.length ≤ c2) (hr : root.size ≤ 1048576) (ht : text.size ≤ 1048576) (k0 : -9223372036854775808 ≤ key) (k1 : key ≤ 9223372036854775807) :
    Calls Tryd.prog 57 #[.string root, .string text, .agg #[.int .i64 key, .slice q1 ends.length c1, .slice q2 path.length c2]] w fun e w' => e = .returned (.bool (verA root text key ends path)) ∧ Below w.heap.size w w' := by
  obtain ⟨W1, hW1⟩ : ∃ W1, W1 = w.alloc (.cells #[.int .i64 key, .slice q1 ends.length c1, .slice q2 path.length c2] 62) := ⟨_, rfl⟩
  have HW1 : Hid (W1 = w.alloc (.cells #[.int .i64 key, .slice q1 ends.length c1, .slice q2 path.length c2] 62)) := hW1
  have B1 : Hid (Below w.heap.size w W1) := by rw [hW1]; exact (Below.refl _ _).alloc (Nat.le_refl _) _
  have HZ1 : Hid (W1.heap.size = w.heap.size + 1) := by rw [hW1]; show _ = _; simp
  have X1 : Hid (W1.heap[w.heap.size]? = some (.cells #[.int .i64 key, .slice q1 ends.length c1, .slice q2 path.length c2] 62 (0, 0))) := by rw [hW1]; exact (MapKept.heap_alloc w _).1
  have hS := specSigRight_any key q1 c1 ends q2 c2 path W1 (h1.below B1.out) (h2.below B1.out) n1 n2 m1 m2
  have T1 : Hid (TxtAt W1 q1 ends) := h1.below B1.out
  have T2 : Hid (TxtAt W1 q2 path) := h2.below B1.out
  have HNo : Hid (¬ (sgnB key ends path = true ∧ root.size = 32 ∧ text.size ≤ 8000) → verA root text key ends path = false) := fun h => if_neg h
  clear hW1 h1 h2
  cases hb : sgnB key ends path with
  | false =>
    have H : Hid (verA root text key ends path = false) := HNo.out (fun h => by rw [hb] at h; cases h.1)
    rw [hb] at hS
    clear hb HNo T1 T2
    go_enter Tryd.func57, Tryd.ntmps57
    go_wp2_with fail
    rw [← HW1.out]
    refine hS.mono ?_
    rintro e w1 ⟨rfl, b1⟩
    have b1 := chainB B1.out b1
    go_wp2_with fail
    go_ret
    exact ⟨ret_bool H.out.symm, b1⟩
  | true =>
  rw [hb] at hS
  by_cases hr32 : root.size = 32
  case neg =>
    have H : Hid (verA root text key ends path = false) := HNo.out (fun h => hr32 h.2.1)
    have d2 : ¬ ((root.size : Int) = 32) := by omega
    clear hb HNo T1 T2 hr32
    go_enter Tryd.func57, Tryd.ntmps57
    go_wp2_with fail
    rw [← HW1.out]
    refine hS.mono ?_
    rintro e w1 ⟨rfl, b1⟩
    have b1 := chainB B1.out b1
    go_wp2_with fail
    go_ret
    exact ⟨ret_bool H.out.symm, b1⟩
  have d2 : (root.size : Int) = 32 := by omega
  by_cases ht8 : text.size ≤ 8000
  case neg =>
    have H : Hid (verA root text key ends path = false) := HNo.out (fun h => ht8 h.2.2)
    have d3 : decide (8000 < (text.size : Int)) = true := decide_eq_true (by omega)
    clear hb HNo T1 T2 hr32 ht8
    go_enter Tryd.func57, Tryd.ntmps57
    go_wp2_with fail
    rw [← HW1.out]
    refine hS.mono ?_
    rintro e w1 ⟨rfl, b1⟩
    have b1 := chainB B1.out b1
    go_wp2_with fail
    go_ret
    exact ⟨ret_bool H.out.symm, b1⟩
  have d3 : decide (8000 < (text.size : Int)) = false := decide_eq_false (by omega)
  have HV : Hid (verA root text key ends path = incA (leafB (digB (upTo text ends 6))) key 4 path root) := if_pos ⟨hb, hr32, ht8⟩
  have hparts : (0 ≤ key ∧ key ≤ 3) ∧ ends.length = 6 ∧ path.length = 2 ∧ wideB ends = true := by
    unfold sgnB at hb
    rw [Bool.and_eq_true, Bool.and_eq_true, Bool.and_eq_true, Bool.and_eq_true, decide_eq_true_iff, decide_eq_true_iff, decide_eq_true_iff] at hb
    exact ⟨hb.1, hb.2.1, hb.2.2.1, hb.2.2.2.1⟩
  have HL6 : Hid (ends.length = 6) := hparts.2.1
  have HWd : Hid (∀ x ∈ ends, x.size = 32) := wideB_all hparts.2.2.2
  have HR32 : Hid (root.size = 32) := hr32
  clear hb HNo hr32 hparts
  go_enter Tryd.func57, Tryd.ntmps57
  go_wp2_with fail
  rw [← HW1.out]
  refine hS.mono ?_
  rintro e w1 ⟨rfl, b1⟩
  go_wp2_with fail
  refine (specDigits_any text w1 ht).mono ?_
  rintro e w2 ⟨v, rfl, od, b2⟩
  obtain ⟨g, cg, rfl, hcg, hg, hd⟩ := dig_form od
  have b2 := chainB b1 b2
  have HX : Hid (∀ x, Below w2.heap.size w2 x → x.cell? ⟨w.heap.size, 0, none⟩ = some (.int .i64 key) ∧ x.cell? ⟨w.heap.size, 1, none⟩ = some (.slice q1 ends.length c1) ∧ x.cell? ⟨w.heap.size, 2, none⟩ = some (.slice q2 path.length c2)) := fun x hb => by
    have h0 := ((chainB b2 hb).block w.heap.size (by rw [HZ1.out]; omega)).trans X1.out
    simp [World.cell?, h0]
  have U1 : Hid (TxtAt w2 q1 ends) := T1.out.below b2
  have U2 : Hid (TxtAt w2 q2 path) := T2.out.below b2
  have HD : Hid (DigAt w2 g text) := hd
  have B2 : Hid (Below w.heap.size w w2) := chainB B1.out b2
  obtain ⟨bb, off, rfl, _, _⟩ := U1.out 0 (by rw [HL6.out]; omega)
  clear od hd b1 b2 T1 T2 hS X1 HW1 hg
  go_wp2_with fail
  go_loopw [8, 9] (fun s i wr => ∃ (j : Nat) (T : ByteArray), s = .string T ∧ i = .int .i64 j ∧ j ≤ 6 ∧ T.size ≤ 192 ∧ Hid (T.size = 32 * j ∧ T = upTo text ends j) ∧ Hid (Below w2.heap.size w2 wr)) (fun _ i _ => 6 - (intOf i).toNat)
  case atStart => exact ⟨0, ByteArray.empty, rfl, rfl, by omega, by simp, ⟨rfl, rfl⟩, Below.refl _ _⟩
  case round =>
    obtain ⟨j, T, rfl, rfl, hj, hT, HT, HB⟩ := hrel
    by_cases hlt : j < 6
    · have d4 : decide ((j : Int) < 6) = true := decide_eq_true (by omega)
      have i1 : (j : Int) < 6 := by omega
      have hje : j < ends.length := by rw [HL6.out]; omega
      have i2 : (j : Int) < ends.length := by omega
      obtain ⟨g0, g1⟩ := dg_bd text j hlt
      have hE32 := HWd.out _ (List.getElem_mem hje)
      have HU : Hid (upTo text ends (j + 1) = upTo text ends j ++ stepsB (15 - dg text j).toNat ends[j]) := by
        show _ = _
        rw [upTo_step]; congr 2
        simp [List.getD_eq_getElem?_getD, hje]
      have HC : Hid (∀ x, Below w2.heap.size w2 x → x.cell? ⟨bb, off + j, none⟩ = some (.string ends[j]) ∧ x.cell? ⟨g, j, none⟩ = some (.int .i64 (dg text j))) := fun x hb => ⟨(U1.out.below hb).at j hje, (HD.out.below hb).2 j hlt⟩
      obtain ⟨M, hM⟩ := Int.eq_ofNat_of_zero_le (show 0 ≤ 15 - dg text j by omega)
      rw [hM, Int.toNat_natCast] at HU
      generalize ends[j] = F at *
      generalize dg text j = d at *
      have hwr : IntKind.i64.wrap (M : Int) = (M : Int) := by rw [IntKind.wrap_i64]; omega
      have QS : Hid (∀ w', Calls Tryd.prog 113 #[.string F, .int .i64 (M : Int)] w' fun e x1 => e = .returned (.string (stepsB M F)) ∧ Below w'.heap.size w' x1) := fun w' => specSteps_any F M w' (by omega) (by omega)
      have hEs := stepsB_size M F hE32
      generalize stepsB M F = E at *
      have HT2 : Hid ((T ++ E).size = 32 * (j + 1) ∧ T ++ E = upTo text ends (j + 1)) := ⟨by rw [ByteArray.size_append, HT.out.1, hEs]; omega, by rw [HU.out, HT.out.2]⟩
      have hTE : (T ++ E).size ≤ 192 := by rw [HT2.out.1]; omega
      have hE2 : E.size ≤ 32 := by omega
      obtain ⟨x0, x1, x2⟩ := HX.out _ HB.out
      obtain ⟨x3, x4⟩ := HC.out _ HB.out
      clear HU HT hEs hE32
      go_wp2_with fail
      go_region_with (first
        | (go_at_call 113; refine (QS.out _).mono ?_; rintro e y1 ⟨rfl, z1⟩; have z1 : Below w2.heap.size w2 y1 := chainB (by first | exact HB.out | exact HB.out.drew) z1))
      all_goals
        have HB3 : Hid (Below w2.heap.size w2 y1) := z1
        clear z1
        go_wp2_with fail
        go_roundw
        case rel => exact ⟨j + 1, T ++ E, rfl, by go_num, by omega, hTE, HT2, HB3⟩
        case measure => simp [intOf]; omega
    · obtain rfl : j = 6 := by omega
      rw [show ((6 : Nat) : Int) = (6 : Int) from rfl]
      have HV2 : Hid (verA root text key ends path = incA (leafB (digB T)) key 4 path root) := by show _ = _; rw [HT.out.2]; exact HV.out
      clear HV HT
      have hDs := digB_size T
      have QD : Hid (∀ w', Calls Tryd.prog 72 #[.string T] w' fun e x1 => e = .returned (.string (digB T)) ∧ Below w'.heap.size w' x1) := fun w' => specAll_any T w' (by omega)
      generalize digB T = D at *
      have hLs := leafB_size D
      have QL : Hid (∀ w', Calls Tryd.prog 91 #[.string D] w' fun e x1 => e = .returned (.string (leafB D)) ∧ Below w'.heap.size w' x1) := fun w' => specL03Leaf_any D w' (by omega)
      generalize leafB D = F at *
      have QI : Hid (∀ w', Below w2.heap.size w2 w' → Calls Tryd.prog 39 #[.string F, .int .i64 key, .int .i64 4, .slice q2 path.length c2, .string root] w' fun e x1 => e = .returned (.bool (incA F key 4 path root)) ∧ Below w'.heap.size w' x1) := fun w' hb => specInc_any F key 4 q2 c2 path root w' (U2.out.below hb) (by omega) m2 (by unfold maxLen; omega) (by unfold maxLen; omega) k0 k1 (by omega) (by omega)
      generalize incA F key 4 path root = B at *
      obtain ⟨x0, x1, x2⟩ := HX.out _ HB.out
      clear hDs hLs
      go_wp2_with fail
      go_region_with (first
        | (go_at_call 72; refine (QD.out _).mono ?_; rintro e y1 ⟨rfl, z1⟩; have z1 : Below w2.heap.size w2 y1 := chainB (by first | exact HB.out | exact HB.out.drew) z1; obtain ⟨x3, x4, x5⟩ := HX.out _ z1)
        | (go_at_call 91; refine (QL.out _).mono ?_; rintro e y2 ⟨rfl, z2⟩; have z2 : Below w2.heap.size w2 y2 := chainB (by first | exact z1 | exact z1.drew) z2; obtain ⟨x6, x7, x8⟩ := HX.out _ z2)
        | (go_at_call 39; refine (QI.out _ (by first | exact z2 | exact z2.drew)).mono ?_; rintro e y3 ⟨rfl, z3⟩; have z3 : Below w2.heap.size w2 y3 := chainB (by first | exact z2 | exact z2.drew) z3))
      all_goals
        have z4 := chainB B2.out z3
        go_wp2_with fail
        go_ret
        exact ⟨ret_bool HV2.out.symm, z4⟩
end Go.Proofs.YtlmkfjlaakmmpaaDoor
