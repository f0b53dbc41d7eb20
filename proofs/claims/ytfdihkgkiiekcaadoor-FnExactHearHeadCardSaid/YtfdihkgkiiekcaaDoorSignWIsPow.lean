/-
  Parts of one proof, laid as one text: SignW, IsPow; what each says stands at its head.
-/
import Derived.Test.YtfdihkgkiiekcaaDoorRows
import Derived.Test.YtfdihkgkiiekcaaDoorBytesDigMath
import Derived.Test.YtfdihkgkiiekcaaDoorOwnBPadI
import Derived.Test.YtfdihkgkiiekcaaDoorAll2LeafNode
import Derived.Test.YtfdihkgkiiekcaaDoorTreeMath
import Derived.Test.YtfdihkgkiiekcaaDoorSlASlBBxK
import Derived.Test.YtfdihkgkiiekcaaDoorLawSLawSGOwnSBox3
import Derived.Test.YtfdihkgkiiekcaaDoorWide2Inc2
import Derived.Test.YtfdihkgkiiekcaaDoorPowerHalvesTreeTree2TreeHPathMathIncMath
import Derived.Test.YtfdihkgkiiekcaaDoorSignMath
import Derived.Test.YtfdihkgkiiekcaaDoorDrawsDrawKitSomeIsInSignS
import Derived.Test.YtfdihkgkiiekcaaDoorSignDStepAppPath2DigestDrawTree
import Derived.Test.YtfdihkgkiiekcaaDoorSpoilSignGSignR
import Derived.Handy
import Derived.WalkSpells
import Derived.OwnWalk
import Derived.Deep.RegionLaw
import Derived.Deep.RegionWith
import Derived.Test.YtfdihkgkiiekcaaDoorBits
/-
  What the specification's Verify answers: 'verA'.
  Conditions: the cells of Ends and Path hold the texts.
-/
namespace Go.Proofs.YtfdihkgkiiekcaaDoor
open Go.RowKit Go.Lib
set_option linter.unusedVariables false
set_option maxRecDepth 20000

set_option maxHeartbeats 4000000 in
theorem specVerify_any (root text : ByteArray) (key : Int) (q1 : Option Addr) (c1 : Nat) (ends : List ByteArray) (q2 : Option Addr) (c2 : Nat) (path : List ByteArray) (w : World) (h1 : TxtAt w q1 ends) (h2 : TxtAt w q2 path) (n1 : ends.length ≤ 1048576) (n2 : path.length ≤ 1048576) (m1 : ends.length ≤ c1) (m2 : path.length ≤ c2) (hr : root.size ≤ 1048576) (ht : text.size ≤ 1048576) (k0 : -9223372036854775808 ≤ key) (k1 : key ≤ 9223372036854775807) :
    Calls Tryd.prog 20 #[.string root, .string text, .agg #[.int .i64 key, .slice q1 ends.length c1, .slice q2 path.length c2]] w fun e w' => e = .returned (.bool (verA root text key ends path)) ∧ Below w.heap.size w w' := by
  obtain ⟨W1, hW1⟩ : ∃ W1, W1 = w.alloc (.cells #[.int .i64 key, .slice q1 ends.length c1, .slice q2 path.length c2] 35) := ⟨_, rfl⟩
  have HW1 : Hid (W1 = w.alloc (.cells #[.int .i64 key, .slice q1 ends.length c1, .slice q2 path.length c2] 35)) := hW1
  have B1 : Hid (Below w.heap.size w W1) := by rw [hW1]; exact (Below.refl _ _).alloc (Nat.le_refl _) _
  have HZ1 : Hid (W1.heap.size = w.heap.size + 1) := by rw [hW1]; show _ = _; simp
  have X1 : Hid (W1.heap[w.heap.size]? = some (.cells #[.int .i64 key, .slice q1 ends.length c1, .slice q2 path.length c2] 35 (0, 0))) := by rw [hW1]; exact (MapKept.heap_alloc w _).1
  have hS := specSigRight_any key q1 c1 ends q2 c2 path W1 (h1.below B1.out) (h2.below B1.out) n1 n2 m1 m2
  have T1 : Hid (TxtAt W1 q1 ends) := h1.below B1.out
  have T2 : Hid (TxtAt W1 q2 path) := h2.below B1.out
  have HNo : Hid (¬ (sgnB key ends path = true ∧ root.size = 32 ∧ text.size ≤ 8000) → verA root text key ends path = false) := fun h => if_neg h
  clear hW1 h1 h2
  cases hb : sgnB key ends path with
  | false =>
    have H : Hid (verA root text key ends path = false) := HNo.out (fun h => by rw [hb] at h; cases h.1)
    rw [hb] at hS
    clear hb HNo T1 T2
    go_enter Tryd.func20, Tryd.ntmps20
    go_wp2_with fail
    rw [← HW1.out]
    refine hS.mono ?_
    rintro e w1 ⟨rfl, b1⟩
    have b1 := chainB B1.out b1
    go_wp2_with fail
    go_ret
    exact ⟨ret_bool H.out.symm, b1⟩
  | true =>
  rw [hb] at hS
  by_cases hr32 : root.size = 32
  case neg =>
    have H : Hid (verA root text key ends path = false) := HNo.out (fun h => hr32 h.2.1)
    have d2 : ¬ ((root.size : Int) = 32) := by omega
    clear hb HNo T1 T2 hr32
    go_enter Tryd.func20, Tryd.ntmps20
    go_wp2_with fail
    rw [← HW1.out]
    refine hS.mono ?_
    rintro e w1 ⟨rfl, b1⟩
    have b1 := chainB B1.out b1
    go_wp2_with fail
    go_ret
    exact ⟨ret_bool H.out.symm, b1⟩
  have d2 : (root.size : Int) = 32 := by omega
  by_cases ht8 : text.size ≤ 8000
  case neg =>
    have H : Hid (verA root text key ends path = false) := HNo.out (fun h => ht8 h.2.2)
    have d3 : decide (8000 < (text.size : Int)) = true := decide_eq_true (by omega)
    clear hb HNo T1 T2 hr32 ht8
    go_enter Tryd.func20, Tryd.ntmps20
    go_wp2_with fail
    rw [← HW1.out]
    refine hS.mono ?_
    rintro e w1 ⟨rfl, b1⟩
    have b1 := chainB B1.out b1
    go_wp2_with fail
    go_ret
    exact ⟨ret_bool H.out.symm, b1⟩
  have d3 : decide (8000 < (text.size : Int)) = false := decide_eq_false (by omega)
  have HV : Hid (verA root text key ends path = incA (leafB (digB (upTo text ends 6))) key 4 path root) := if_pos ⟨hb, hr32, ht8⟩
  have hparts : (0 ≤ key ∧ key ≤ 3) ∧ ends.length = 6 ∧ path.length = 2 ∧ wideB ends = true := by
    unfold sgnB at hb
    rw [Bool.and_eq_true, Bool.and_eq_true, Bool.and_eq_true, Bool.and_eq_true, decide_eq_true_iff, decide_eq_true_iff, decide_eq_true_iff] at hb
    exact ⟨hb.1, hb.2.1, hb.2.2.1, hb.2.2.2.1⟩
  have HL6 : Hid (ends.length = 6) := hparts.2.1
  have HWd : Hid (∀ x ∈ ends, x.size = 32) := wideB_all hparts.2.2.2
  have HR32 : Hid (root.size = 32) := hr32
  clear hb HNo hr32 hparts
  go_enter Tryd.func20, Tryd.ntmps20
  go_wp2_with fail
  rw [← HW1.out]
  refine hS.mono ?_
  rintro e w1 ⟨rfl, b1⟩
  go_wp2_with fail
  refine (specDigits_any text w1 ht).mono ?_
  rintro e w2 ⟨v, rfl, od, b2⟩
  obtain ⟨g, cg, rfl, hcg, hg, hd⟩ := dig_form od
  have b2 := chainB b1 b2
  have HX : Hid (∀ x, Below w2.heap.size w2 x → x.cell? ⟨w.heap.size, 0, none⟩ = some (.int .i64 key) ∧ x.cell? ⟨w.heap.size, 1, none⟩ = some (.slice q1 ends.length c1) ∧ x.cell? ⟨w.heap.size, 2, none⟩ = some (.slice q2 path.length c2)) := fun x hb => by
    have h0 := ((chainB b2 hb).block w.heap.size (by rw [HZ1.out]; omega)).trans X1.out
    simp [World.cell?, h0]
  have U1 : Hid (TxtAt w2 q1 ends) := T1.out.below b2
  have U2 : Hid (TxtAt w2 q2 path) := T2.out.below b2
  have HD : Hid (DigAt w2 g text) := hd
  have B2 : Hid (Below w.heap.size w w2) := chainB B1.out b2
  obtain ⟨bb, off, rfl, _, _⟩ := U1.out 0 (by rw [HL6.out]; omega)
  clear od hd b1 b2 T1 T2 hS X1 HW1 hg
  go_wp2_with fail
  go_loopw [8, 9] (fun s i wr => ∃ (j : Nat) (T : ByteArray), s = .string T ∧ i = .int .i64 j ∧ j ≤ 6 ∧ T.size ≤ 192 ∧ Hid (T.size = 32 * j ∧ T = upTo text ends j) ∧ Hid (Below w2.heap.size w2 wr)) (fun _ i _ => 6 - (intOf i).toNat)
  case atStart => exact ⟨0, ByteArray.empty, rfl, rfl, by omega, by simp, ⟨rfl, rfl⟩, Below.refl _ _⟩
  case round =>
    obtain ⟨j, T, rfl, rfl, hj, hT, HT, HB⟩ := hrel
    by_cases hlt : j < 6
    · have d4 : decide ((j : Int) < 6) = true := decide_eq_true (by omega)
      have i1 : (j : Int) < 6 := by omega
      have hje : j < ends.length := by rw [HL6.out]; omega
      have i2 : (j : Int) < ends.length := by omega
      obtain ⟨g0, g1⟩ := dg_bd text j hlt
      have hE32 := HWd.out _ (List.getElem_mem hje)
      have HU : Hid (upTo text ends (j + 1) = upTo text ends j ++ stepsB (15 - dg text j).toNat ends[j]) := by
        show _ = _
        rw [upTo_step]; congr 2
        simp [List.getD_eq_getElem?_getD, hje]
      have HC : Hid (∀ x, Below w2.heap.size w2 x → x.cell? ⟨bb, off + j, none⟩ = some (.string ends[j]) ∧ x.cell? ⟨g, j, none⟩ = some (.int .i64 (dg text j))) := fun x hb => ⟨(U1.out.below hb).at j hje, (HD.out.below hb).2 j hlt⟩
      obtain ⟨M, hM⟩ := Int.eq_ofNat_of_zero_le (show 0 ≤ 15 - dg text j by omega)
      rw [hM, Int.toNat_natCast] at HU
      generalize ends[j] = F at *
      generalize dg text j = d at *
      have hwr : IntKind.i64.wrap (M : Int) = (M : Int) := by rw [IntKind.wrap_i64]; omega
      have QS : Hid (∀ w', Calls Tryd.prog 34 #[.string F, .int .i64 (M : Int)] w' fun e x1 => e = .returned (.string (stepsB M F)) ∧ Below w'.heap.size w' x1) := fun w' => specSteps_any F M w' (by omega) (by omega)
      have hEs := stepsB_size M F hE32
      generalize stepsB M F = E at *
      have HT2 : Hid ((T ++ E).size = 32 * (j + 1) ∧ T ++ E = upTo text ends (j + 1)) := ⟨by rw [ByteArray.size_append, HT.out.1, hEs]; omega, by rw [HU.out, HT.out.2]⟩
      have hTE : (T ++ E).size ≤ 192 := by rw [HT2.out.1]; omega
      have hE2 : E.size ≤ 32 := by omega
      obtain ⟨x0, x1, x2⟩ := HX.out _ HB.out
      obtain ⟨x3, x4⟩ := HC.out _ HB.out
      clear HU HT hEs hE32
      go_wp2_with fail
      go_region_with (first
        | (go_at_call 34; refine (QS.out _).mono ?_; rintro e y1 ⟨rfl, z1⟩; have z1 : Below w2.heap.size w2 y1 := chainB (by first | exact HB.out | exact HB.out.drew) z1))
      all_goals
        have HB3 : Hid (Below w2.heap.size w2 y1) := z1
        clear z1
        go_wp2_with fail
        go_roundw
        case rel => exact ⟨j + 1, T ++ E, rfl, by go_num, by omega, hTE, HT2, HB3⟩
        case measure => simp [intOf]; omega
    · obtain rfl : j = 6 := by omega
      rw [show ((6 : Nat) : Int) = (6 : Int) from rfl]
      have HV2 : Hid (verA root text key ends path = incA (leafB (digB T)) key 4 path root) := by show _ = _; rw [HT.out.2]; exact HV.out
      clear HV HT
      have hDs := digB_size T
      have QD : Hid (∀ w', Calls Tryd.prog 37 #[.string T] w' fun e x1 => e = .returned (.string (digB T)) ∧ Below w'.heap.size w' x1) := fun w' => specAll_any T w' (by omega)
      generalize digB T = D at *
      have hLs := leafB_size D
      have QL : Hid (∀ w', Calls Tryd.prog 36 #[.string D] w' fun e x1 => e = .returned (.string (leafB D)) ∧ Below w'.heap.size w' x1) := fun w' => specL03Leaf_any D w' (by omega)
      generalize leafB D = F at *
      have QI : Hid (∀ w', Below w2.heap.size w2 w' → Calls Tryd.prog 35 #[.string F, .int .i64 key, .int .i64 4, .slice q2 path.length c2, .string root] w' fun e x1 => e = .returned (.bool (incA F key 4 path root)) ∧ Below w'.heap.size w' x1) := fun w' hb => specInc_any F key 4 q2 c2 path root w' (U2.out.below hb) (by omega) m2 (by unfold maxLen; omega) (by unfold maxLen; omega) k0 k1 (by omega) (by omega)
      generalize incA F key 4 path root = B at *
      obtain ⟨x0, x1, x2⟩ := HX.out _ HB.out
      clear hDs hLs
      go_wp2_with fail
      go_region_with (first
        | (go_at_call 37; refine (QD.out _).mono ?_; rintro e y1 ⟨rfl, z1⟩; have z1 : Below w2.heap.size w2 y1 := chainB (by first | exact HB.out | exact HB.out.drew) z1; obtain ⟨x3, x4, x5⟩ := HX.out _ z1)
        | (go_at_call 36; refine (QL.out _).mono ?_; rintro e y2 ⟨rfl, z2⟩; have z2 : Below w2.heap.size w2 y2 := chainB (by first | exact z1 | exact z1.drew) z2; obtain ⟨x6, x7, x8⟩ := HX.out _ z2)
        | (go_at_call 35; refine (QI.out _ (by first | exact z2 | exact z2.drew)).mono ?_; rintro e y3 ⟨rfl, z3⟩; have z3 : Below w2.heap.size w2 y3 := chainB (by first | exact z2 | exact z2.drew) z3))
      all_goals
        have z4 := chainB B2.out z3
        go_wp2_with fail
        go_ret
        exact ⟨ret_bool HV2.out.symm, z4⟩
end Go.Proofs.YtfdihkgkiiekcaaDoor
/-
  The specification's l03Power: is a number a power of two.
  Conditions: the number is an int64, and 1 or more.
-/
namespace Go.Proofs.YtfdihkgkiiekcaaDoor
open Go.RowKit Go.Lib
set_option linter.unusedVariables false

set_option maxHeartbeats 400000 in
theorem isPow_any (n : Nat) (w : World) (h1 : 1 ≤ n) (hn : n ≤ 9223372036854775807) :
    Calls Tryd.prog 39 #[.int .i64 (n : Int)] w fun e w' => e = .returned (.bool (isPowB n)) ∧ w' = w := by
  have HB := isPowB_iff n
  generalize isPowB n = B at *
  have HB : Hid (B = true ↔ ∃ j, n = 2 ^ j) := HB
  go_enter Tryd.func39, Tryd.ntmps39
  go_wp2
  go_loop [0] (fun x => ∃ k : Nat, Hid ((∃ j, n = 2 ^ j) ↔ ∃ j, k = 2 ^ j) ∧ k ≤ n ∧ 0 < k ∧ x = .int .i64 k) (fun x => (intOf x).toNat)
  case atStart => exact ⟨n, Iff.rfl, by omega, by omega, rfl⟩
  case round =>
    obtain ⟨k, hk, hkn, hk0, rfl⟩ := hrel
    by_cases hlt : (k : Int) % 2 = 0
    · have HK : Hid ((∃ j, n = 2 ^ j) ↔ ∃ j, k / 2 = 2 ^ j) := hk.out.trans (pow_half k (by omega) hk0)
      go_wp2
      go_round
      case rel => exact ⟨k / 2, HK, by omega, by omega, by go_num⟩
      case measure => simp [intOf]; omega
    · have H : Hid (B = true ↔ k = 1) := HB.out.trans (hk.out.trans (pow_odd k (by omega)))
      clear HB hk
      go_wp2
      go_ret
      exact ⟨ret_bool' (by rw [H.out]; simp; omega), rfl⟩
end Go.Proofs.YtfdihkgkiiekcaaDoor
