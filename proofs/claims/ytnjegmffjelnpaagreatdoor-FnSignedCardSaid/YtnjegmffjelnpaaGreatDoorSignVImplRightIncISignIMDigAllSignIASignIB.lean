/-
  Parts of one proof, laid as one text: SignV, ImplRight, IncI, SignIM, DigAll, SignIA, SignIB; what each says stands at its head.
-/
import Derived.Test.YtnjegmffjelnpaaGreatDoorRows
import Derived.Test.YtnjegmffjelnpaaGreatDoorBytesDigMathTurnIWholeR
import Derived.Test.YtnjegmffjelnpaaGreatDoorSlABxKSlBOwnSSgnBOwnBPadI
import Derived.Test.YtnjegmffjelnpaaGreatDoorDrawsDrawKitSomeIsInSignSSignDWide2StepApp
import Derived.Test.YtnjegmffjelnpaaGreatDoorTakePathConMathProofLawSignMathMac2
import Derived.Test.YtnjegmffjelnpaaGreatDoorPath2DigestDrawTreeSpoilSignG
import Derived.Handy
import Derived.WalkSpells
import Derived.OwnWalk
import Derived.Test.YtnjegmffjelnpaaGreatDoorTreeMath
import Derived.Test.YtnjegmffjelnpaaGreatDoorPowerHalvesTreeTree2TreeHPathMathIncMathTaker
import Derived.Test.YtnjegmffjelnpaaGreatDoorAll2LeafNode
import Derived.Test.YtnjegmffjelnpaaGreatDoorMacMathPutMathJoinedDigITurn2
import Derived.Test.YtnjegmffjelnpaaGreatDoorNumsIBlockI
import Derived.Deep.RegionLaw
import Derived.Deep.RegionWith
/-
  What the specification's Sign and SigRight answer.
-/
namespace Go.Proofs.YtnjegmffjelnpaaGreatDoor
open Go.RowKit Go.Lib
set_option linter.unusedVariables false
set_option maxRecDepth 20000

set_option maxHeartbeats 2000000 in
theorem specSign_any (seed : ByteArray) (key : Int) (text : ByteArray) (w : World) (hs : seed.size ≤ 1048576) (ht : text.size ≤ 1048576) :
    Calls Tryz.prog 20 #[.string seed, .int .i64 key, .string text] w fun e w' => ∃ v1 v2, e = .returned (.agg #[.int .i64 (sgK seed key text), v1, v2]) ∧ w'.ownsRow w.heap.size 9 1 v1 (sgE seed key text).length (strRow (sgE seed key text)) ∧ w'.ownsRow w.heap.size 9 1 v2 (sgP seed key text).length (strRow (sgP seed key text)) ∧ (v1.ownBlock = none ∨ v1.ownBlock ≠ v2.ownBlock) ∧ Below w.heap.size w w' := by
  obtain ⟨W1, hW1⟩ : ∃ W1, W1 = w.alloc (.cells #[.int .i64 0, .slice none 0 0, .slice none 0 0] 30) := ⟨_, rfl⟩
  have HW1 : Hid (W1 = w.alloc (.cells #[.int .i64 0, .slice none 0 0, .slice none 0 0] 30)) := hW1
  have B1 : Hid (Below w.heap.size w W1) := by rw [hW1]; exact (Below.refl _ _).alloc (Nat.le_refl _) _
  have X1 : Hid (W1.heap[w.heap.size]? = some (.cells #[.int .i64 0, .slice none 0 0, .slice none 0 0] 30 (0, 0))) := by rw [hW1]; exact (MapKept.heap_alloc w _).1
  have HZ1 : Hid (W1.heap.size = w.heap.size + 1) := by rw [hW1]; show _ = _; simp
  clear hW1
  have hS := specSeed_any seed W1 (by unfold maxLen; omega)
  have hK := isIn_any key 0 3 W1
  have HBk : Hid (∀ x, Below W1.heap.size W1 x → x.cell? ⟨w.heap.size, 0, none⟩ = some (.int .i64 0) ∧ x.cell? ⟨w.heap.size, 1, none⟩ = some (.slice none 0 0) ∧ x.cell? ⟨w.heap.size, 2, none⟩ = some (.slice none 0 0) ∧ x.frozen? ⟨w.heap.size, 0, none⟩ = false ∧ x.frozen? ⟨w.heap.size, 1, none⟩ = false ∧ x.frozen? ⟨w.heap.size, 2, none⟩ = false) := fun x hb => by
    have h0 := (hb.block w.heap.size (by rw [HZ1.out]; omega)).trans X1.out
    simp [World.cell?, World.frozen?, h0]
  have HNo : Hid (signOk seed key text = false → sgK seed key text = 0 ∧ sgE seed key text = [] ∧ sgP seed key text = []) := fun h => by
    have hn : ¬ signOk seed key text = true := by rw [h]; exact Bool.false_ne_true
    exact ⟨if_neg hn, if_neg hn, if_neg hn⟩
  have HZero : Hid (∀ x y z : Value, signOk seed key text = false → ∃ v1 v2, Ending.returned (.agg #[.int .i64 0, .slice none 0 0, .slice none 0 0]) = .returned (.agg #[.int .i64 (sgK seed key text), v1, v2]) ∧ (((W1.setCell ⟨w.heap.size, 0, none⟩ x).setCell ⟨w.heap.size, 1, none⟩ y).setCell ⟨w.heap.size, 2, none⟩ z).ownsRow w.heap.size 9 1 v1 (sgE seed key text).length (strRow (sgE seed key text)) ∧ (((W1.setCell ⟨w.heap.size, 0, none⟩ x).setCell ⟨w.heap.size, 1, none⟩ y).setCell ⟨w.heap.size, 2, none⟩ z).ownsRow w.heap.size 9 1 v2 (sgP seed key text).length (strRow (sgP seed key text)) ∧ (v1.ownBlock = none ∨ v1.ownBlock ≠ v2.ownBlock) ∧ Below w.heap.size w (((W1.setCell ⟨w.heap.size, 0, none⟩ x).setCell ⟨w.heap.size, 1, none⟩ y).setCell ⟨w.heap.size, 2, none⟩ z)) := by
    intro x y z h
    obtain ⟨e1, e2, e3⟩ := HNo.out h
    rw [e1, e2, e3]
    exact ⟨_, _, rfl, World.ownsRow_nil _ _ _ _, World.ownsRow_nil _ _ _ _, .inl rfl, ((B1.out.setCell (Nat.le_refl _) _).setCell (Nat.le_refl _) _).setCell (Nat.le_refl _) _⟩
  obtain ⟨t0, t1, t2, u0, u1, u2⟩ := HBk.out W1 (Below.refl _ _)
  cases h1 : seedB seed with
  | false =>
    have hno : signOk seed key text = false := by unfold signOk; rw [h1]; rfl
    have HZ := fun x y z => HZero.out x y z hno
    rw [h1] at hS
    clear hno h1 HZero HNo hK HBk X1
    go_enter Tryz.func20, Tryz.ntmps20
    go_wp2_with fail
    rw [← HW1.out]
    refine hS.mono ?_
    rintro e w1 ⟨rfl, rfl⟩
    go_wp2_with fail
    refine bodyPost_ret (v := .agg #[.int .i64 0, .slice none 0 0, .slice none 0 0]) (by simp [results, Tryz.results20, go_sem, t0, t1, t2]) rfl ?_
    exact HZ _ _ _
  | true =>
  by_cases h2 : 0 ≤ key ∧ key ≤ 3
  case neg =>
    have hno : signOk seed key text = false := by unfold signOk; rw [h1, decide_eq_false h2]; rfl
    have HZ := fun x y z => HZero.out x y z hno
    rw [h1] at hS
    rw [decide_eq_false h2] at hK
    clear hno h1 h2 HZero HNo HBk X1
    go_enter Tryz.func20, Tryz.ntmps20
    go_wp2_with fail
    rw [← HW1.out]
    refine hS.mono ?_
    rintro e w1 ⟨rfl, rfl⟩
    go_wp2_with fail
    refine hK.mono ?_
    rintro e w1 ⟨rfl, rfl⟩
    go_wp2_with fail
    refine bodyPost_ret (v := .agg #[.int .i64 0, .slice none 0 0, .slice none 0 0]) (by simp [results, Tryz.results20, go_sem, t0, t1, t2]) rfl ?_
    exact HZ _ _ _
  rw [h1] at hS
  rw [decide_eq_true h2] at hK
  by_cases h3 : text.size ≤ 8000
  case neg =>
    have hno : signOk seed key text = false := by unfold signOk; rw [h1, decide_eq_true h2, decide_eq_false h3]; rfl
    have HZ := fun x y z => HZero.out x y z hno
    have d3 : decide (8000 < (text.size : Int)) = true := decide_eq_true (by omega)
    clear hno h1 h2 h3 HZero HNo HBk X1
    go_enter Tryz.func20, Tryz.ntmps20
    go_wp2_with fail
    rw [← HW1.out]
    refine hS.mono ?_
    rintro e w1 ⟨rfl, rfl⟩
    go_wp2_with fail
    refine hK.mono ?_
    rintro e w1 ⟨rfl, rfl⟩
    go_wp2_with fail
    refine bodyPost_ret (v := .agg #[.int .i64 0, .slice none 0 0, .slice none 0 0]) (by simp [results, Tryz.results20, go_sem, t0, t1, t2]) rfl ?_
    exact HZ _ _ _
  have hok : signOk seed key text = true := by unfold signOk; rw [h1, decide_eq_true h2, decide_eq_true h3]; rfl
  have d3 : decide (8000 < (text.size : Int)) = false := decide_eq_false (by omega)
  have HE : Hid (sgK seed key text = key ∧ sgE seed key text = endsTo seed key text 6 ∧ sgP seed key text = pathB (pubsB seed) key.toNat) := ⟨if_pos hok, if_pos hok, if_pos hok⟩
  obtain ⟨I, rfl⟩ := Int.eq_ofNat_of_zero_le h2.1
  rw [Int.toNat_natCast] at HE
  have hG := specSignB_any seed I text W1 hs (by omega) ht
  clear hok h1 h2 h3 HZero HNo X1
  go_enter Tryz.func20, Tryz.ntmps20
  go_wp2_with fail
  rw [← HW1.out]
  refine hS.mono ?_
  rintro e w1 ⟨rfl, rfl⟩
  go_wp2_with fail
  refine hK.mono ?_
  rintro e w1 ⟨rfl, rfl⟩
  go_wp2_with fail
  refine hG.mono ?_
  rintro e w2 ⟨v1, v2, rfl, o1, o2, hne, b2⟩
  obtain ⟨s0, s1, s2, r0, r1, r2⟩ := HBk.out w2 b2
  obtain ⟨q1, c1, rfl, _, _⟩ := ownS_form o1
  obtain ⟨q2, c2, rfl, _, _⟩ := ownS_form o2
  have HEnd : Hid (∀ x y z : Value, (((w2.setCell ⟨w.heap.size, 0, none⟩ x).setCell ⟨w.heap.size, 1, none⟩ y).setCell ⟨w.heap.size, 2, none⟩ z).ownsRow w.heap.size 9 1 (.slice q1 (endsTo seed I text 6).length c1) (endsTo seed I text 6).length (strRow (endsTo seed I text 6)) ∧ (((w2.setCell ⟨w.heap.size, 0, none⟩ x).setCell ⟨w.heap.size, 1, none⟩ y).setCell ⟨w.heap.size, 2, none⟩ z).ownsRow w.heap.size 9 1 (.slice q2 (pathB (pubsB seed) I).length c2) (pathB (pubsB seed) I).length (strRow (pathB (pubsB seed) I)) ∧ Below w.heap.size w (((w2.setCell ⟨w.heap.size, 0, none⟩ x).setCell ⟨w.heap.size, 1, none⟩ y).setCell ⟨w.heap.size, 2, none⟩ z)) := by
    intro x y z
    have hz := HZ1.out
    have h1 : ∀ {v : Value} {n : Nat} {xs : List Value}, w2.ownsRow w1.heap.size 9 1 v n xs → (((w2.setCell ⟨w.heap.size, 0, none⟩ x).setCell ⟨w.heap.size, 1, none⟩ y).setCell ⟨w.heap.size, 2, none⟩ z).ownsRow w.heap.size 9 1 v n xs := fun h => ownS_mono (ownsRow_setCell_below (ownsRow_setCell_below (ownsRow_setCell_below h (by show w.heap.size < _; omega) _) (by show w.heap.size < _; omega) _) (by show w.heap.size < _; omega) _) (by omega)
    have hB := chainB B1.out b2
    exact ⟨h1 o1, h1 o2, ((hB.setCell (Nat.le_refl _) _).setCell (Nat.le_refl _) _).setCell (Nat.le_refl _) _⟩
  have HNe : Hid ((Value.slice q1 (endsTo seed I text 6).length c1).ownBlock ≠ (Value.slice q2 (pathB (pubsB seed) I).length c2).ownBlock) := hne
  clear o1 o2 b2 hne HBk t0 t1 t2 u0 u1 u2 hG
  generalize endsTo seed (I : Int) text 6 = L1 at *
  generalize pathB (pubsB seed) I = L2 at *
  go_wp2_with fail
  refine bodyPost_ret (v := .agg #[.int .i64 (I : Int), .slice q1 L1.length c1, .slice q2 L2.length c2]) (by simp [results, Tryz.results20, go_sem, s0, s1, s2]) rfl ?_
  obtain ⟨r1, r2, r3⟩ := HEnd.out (.int .i64 (I : Int)) (.slice q1 L1.length c1) (.slice q2 L2.length c2)
  obtain ⟨e1, e2, e3⟩ := HE.out
  rw [e1, e2, e3]
  exact ⟨_, _, rfl, r1, r2, .inr HNe.out, r3⟩
end Go.Proofs.YtnjegmffjelnpaaGreatDoor
/-
  What the program's keyRight and SigRight answer: 'sgnB'.
  Conditions: the cells of Ends and Path hold the texts.
-/
namespace Go.Proofs.YtnjegmffjelnpaaGreatDoor
open Go.RowKit Go.Lib
set_option linter.unusedVariables false
set_option maxRecDepth 20000

theorem keyRight_any (n : Int) (w : World) : Calls Tryz.prog 22 #[.int .i64 n] w fun e w' => e = .returned (.bool (decide (0 ≤ n ∧ n ≤ 3))) ∧ w' = w := by
  by_cases h1 : 0 ≤ n
  · have d1 : decide (0 ≤ n) = true := decide_eq_true h1
    by_cases h2 : n < 4
    · have d2 : decide (n < 4) = true := decide_eq_true h2
      have H : Hid (decide (0 ≤ n ∧ n ≤ 3) = true) := decide_eq_true ⟨h1, by omega⟩
      rw [H.out]
      clear H
      go_enter Tryz.func22, Tryz.ntmps22
      go_wp2
      go_ret
      exact ⟨rfl, rfl⟩
    · have d2 : decide (n < 4) = false := decide_eq_false h2
      have H : Hid (decide (0 ≤ n ∧ n ≤ 3) = false) := decide_eq_false fun h => h2 (by omega)
      rw [H.out]
      clear H
      go_enter Tryz.func22, Tryz.ntmps22
      go_wp2
      go_ret
      exact ⟨rfl, rfl⟩
  · have d1 : decide (0 ≤ n) = false := decide_eq_false h1
    have H : Hid (decide (0 ≤ n ∧ n ≤ 3) = false) := decide_eq_false fun h => h1 h.1
    rw [H.out]
    clear H
    go_enter Tryz.func22, Tryz.ntmps22
    go_wp2
    go_ret
    exact ⟨rfl, rfl⟩

set_option maxHeartbeats 2000000 in
theorem implSigRight_any (key : Int) (q1 : Option Addr) (c1 : Nat) (ends : List ByteArray) (q2 : Option Addr) (c2 : Nat) (path : List ByteArray) (w : World) (h1 : TxtAt w q1 ends) (h2 : TxtAt w q2 path) (n1 : ends.length ≤ 1048576) (n2 : path.length ≤ 1048576) (m1 : ends.length ≤ c1) (m2 : path.length ≤ c2) :
    Calls Tryz.prog 8 #[.agg #[.int .i64 key, .slice q1 ends.length c1, .slice q2 path.length c2]] w fun e w' => e = .returned (.bool (sgnB key ends path)) ∧ Below w.heap.size w w' := by
  obtain ⟨W1, hW1⟩ : ∃ W1, W1 = w.alloc (.cells #[.int .i64 key, .slice q1 ends.length c1, .slice q2 path.length c2] 30) := ⟨_, rfl⟩
  have HW1 : Hid (W1 = w.alloc (.cells #[.int .i64 key, .slice q1 ends.length c1, .slice q2 path.length c2] 30)) := hW1
  have B1 : Hid (Below w.heap.size w W1) := by rw [hW1]; exact (Below.refl _ _).alloc (Nat.le_refl _) _
  have X1 : W1.heap[w.heap.size]? = some (.cells #[.int .i64 key, .slice q1 ends.length c1, .slice q2 path.length c2] 30 (0, 0)) := by rw [hW1]; exact (MapKept.heap_alloc w _).1
  have t0 : W1.cell? ⟨w.heap.size, 0, none⟩ = some (.int .i64 key) ∧ W1.cell? ⟨w.heap.size, 1, none⟩ = some (.slice q1 ends.length c1) ∧ W1.cell? ⟨w.heap.size, 2, none⟩ = some (.slice q2 path.length c2) := by simp [World.cell?, X1]
  obtain ⟨t0, t1, t2⟩ := t0
  have hK := keyRight_any key W1
  have hE := areD_any q1 c1 ends W1 (h1.below B1.out) (by omega) m1
  have hP := areD_any q2 c2 path W1 (h2.below B1.out) (by omega) m2
  have H0 : Hid (sgnB key ends path = (decide (0 ≤ key ∧ key ≤ 3) && (decide (ends.length = 6) && (decide (path.length = 2) && (wideB ends && wideB path))))) := rfl
  clear hW1 X1 h1 h2
  rw [H0.out]
  generalize decide (0 ≤ key ∧ key ≤ 3) = b0 at *
  have e1 : ((ends.length : Int) == 6) = decide (ends.length = 6) := by
    by_cases h : ends.length = 6
    · rw [decide_eq_true h]; exact beq_iff_eq.2 (by omega)
    · rw [decide_eq_false h]; exact beq_eq_false_iff_ne.2 (by omega)
  have e2 : ((path.length : Int) == 2) = decide (path.length = 2) := by
    by_cases h : path.length = 2
    · rw [decide_eq_true h]; exact beq_iff_eq.2 (by omega)
    · rw [decide_eq_false h]; exact beq_eq_false_iff_ne.2 (by omega)
  generalize decide (ends.length = 6) = b1 at *
  generalize decide (path.length = 2) = b2 at *
  generalize wideB ends = b3 at *
  generalize wideB path = b4 at *
  clear H0
  go_enter Tryz.func8, Tryz.ntmps8
  go_wp2_with fail
  rw [← HW1.out]
  refine hK.mono ?_
  rintro e w1 ⟨rfl, rfl⟩
  cases b0
  · go_wp2_with fail
    go_ret
    exact ⟨ret_bool (by simp), B1.out⟩
  cases b1
  · have f1 : ¬ (ends.length : Int) = 6 := by simpa using e1
    clear e1
    go_wp2_with fail
    go_ret
    exact ⟨ret_bool (by simp), B1.out⟩
  have f1 : (ends.length : Int) = 6 := by simpa using e1
  clear e1
  cases b2
  · have f2 : ¬ (path.length : Int) = 2 := by simpa using e2
    clear e2
    go_wp2_with fail
    go_ret
    exact ⟨ret_bool (by simp), B1.out⟩
  have f2 : (path.length : Int) = 2 := by simpa using e2
  clear e2
  go_wp2_with fail
  refine hE.mono ?_
  rintro e w1 ⟨rfl, rfl⟩
  cases b3
  · go_wp2_with fail
    go_ret
    exact ⟨ret_bool (by simp), B1.out⟩
  go_wp2_with fail
  refine hP.mono ?_
  rintro e w1 ⟨rfl, rfl⟩
  go_wp2_with fail
  go_ret
  exact ⟨ret_bool (by simp), B1.out⟩
end Go.Proofs.YtnjegmffjelnpaaGreatDoor
/-
  What the program's Included answers: 'incA'.
  Conditions: index and size are int64; the path's cells hold the texts; the two tables lie as the program's text lays them.
-/
namespace Go.Proofs.YtnjegmffjelnpaaGreatDoor
open Go.RowKit Go.Lib
set_option linter.unusedVariables false
set_option maxRecDepth 20000

set_option maxHeartbeats 2000000 in
theorem implInc_any (leaf : ByteArray) (i n : Int) (p : Option Addr) (cap : Nat) (ss : List ByteArray) (root : ByteArray) (w : World) (hT : Tabs w) (hp : TxtAt w p ss) (hn : ss.length ≤ 140737488355328) (hcap : ss.length ≤ cap)
    (i0 : -9223372036854775808 ≤ i) (i1 : i ≤ 9223372036854775807) (n0 : -9223372036854775808 ≤ n) (n1 : n ≤ 9223372036854775807) :
    Calls Tryz.prog 27 #[.string leaf, .int .i64 i, .int .i64 n, .slice p ss.length cap, .string root] w fun e w' => e = .returned (.bool (incA leaf i n ss root)) ∧ Below w.heap.size w w' := by
  have HT : Hid (Tabs w) := hT
  have HP : Hid (TxtAt w p ss) := hp
  clear hT hp
  have H0 : Hid (incA leaf i n ss root = if 0 ≤ i ∧ i < n ∧ ss.length ≤ 63 ∧ leaf.size = 32 ∧ root.size = 32 ∧ wideB ss = true then decide (cl leaf (dirs i.toNat n.toNat) ss = some root) else false) := rfl
  by_cases c1 : 0 ≤ i
  case neg =>
    have d1 : decide (i < 0) = true := by simp; omega
    have H : Hid (incA leaf i n ss root = false) := H0.out.trans (if_neg fun h => c1 h.1)
    go_enter Tryz.func27, Tryz.ntmps27
    go_wp2_with fail
    go_ret
    exact ⟨ret_bool H.out.symm, Below.refl _ _⟩
  have d1 : decide (i < 0) = false := by simp; omega
  by_cases c2 : i < n
  case neg =>
    have d2 : decide (n ≤ i) = true := by simp; omega
    have H : Hid (incA leaf i n ss root = false) := H0.out.trans (if_neg fun h => c2 h.2.1)
    go_enter Tryz.func27, Tryz.ntmps27
    go_wp2_with fail
    go_ret
    exact ⟨ret_bool H.out.symm, Below.refl _ _⟩
  have d2 : decide (n ≤ i) = false := by simp; omega
  by_cases c3 : ss.length ≤ 63
  case neg =>
    have d3 : decide (63 < (ss.length : Int)) = true := by simp; omega
    have H : Hid (incA leaf i n ss root = false) := H0.out.trans (if_neg fun h => c3 h.2.2.1)
    go_enter Tryz.func27, Tryz.ntmps27
    go_wp2_with fail
    go_ret
    exact ⟨ret_bool H.out.symm, Below.refl _ _⟩
  have d3 : decide (63 < (ss.length : Int)) = false := by simp; omega
  have B0 : Hid (Below w.heap.size w (w.alloc (.cells #[.string leaf, .string root] 9))) := (Below.refl _ _).alloc (Nat.le_refl _) _
  have HA := areD_any _ 2 [leaf, root] _ (two_texts w leaf root 9) (by simp) (by simp)
  by_cases c4 : leaf.size = 32 ∧ root.size = 32
  case neg =>
    have H : Hid (incA leaf i n ss root = false) := H0.out.trans (if_neg fun h => c4 ⟨h.2.2.2.1, h.2.2.2.2.1⟩)
    have HW : Hid (wideB [leaf, root] = false) := by show _ = _; simp only [wideB, List.all_cons, List.all_nil, Bool.and_true]; simpa [Bool.and_eq_false_iff] using fun a b => c4 ⟨a, b⟩
    rw [HW.out] at HA
    clear c4
    go_enter Tryz.func27, Tryz.ntmps27
    go_wp2_with fail
    refine HA.mono ?_
    rintro e w1 ⟨rfl, hw1⟩
    subst hw1
    go_wp2_with fail
    go_ret
    exact ⟨ret_bool H.out.symm, B0.out⟩
  obtain ⟨c4, c5⟩ := c4
  have HW : Hid (wideB [leaf, root] = true) := by show _ = _; simp [wideB, c4, c5]
  rw [HW.out] at HA
  clear HW
  obtain ⟨W1, hW1⟩ : ∃ W1, W1 = w.alloc (.cells #[.string leaf, .string root] 9) := ⟨_, rfl⟩
  rw [← hW1] at HA B0
  have HWA : Hid (W1 = w.alloc (.cells #[.string leaf, .string root] 9)) := hW1
  clear hW1
  have HD := areD_any p cap ss W1 (HP.out.below B0.out) hn hcap
  cases c6 : wideB ss
  · have H : Hid (incA leaf i n ss root = false) := H0.out.trans (if_neg fun h => by rw [c6] at h; exact absurd h.2.2.2.2.2 (by simp))
    rw [c6] at HD
    clear c6
    go_enter Tryz.func27, Tryz.ntmps27
    go_wp2_with fail
    rw [← HWA.out]
    refine HA.mono ?_
    rintro e w1 ⟨rfl, hw1⟩
    subst hw1
    go_wp2_with fail
    refine HD.mono ?_
    rintro e w1 ⟨rfl, hw1⟩
    subst hw1
    go_wp2_with fail
    go_ret
    exact ⟨ret_bool H.out.symm, B0.out⟩
  · have H : Hid (incA leaf i n ss root = decide (cl leaf (dirs i.toNat n.toNat) ss = some root)) := H0.out.trans (if_pos ⟨c1, c2, c3, c4, c5, c6⟩)
    rw [c6] at HD
    have h32 := wideB_all c6
    have HE : Hid (∀ a, a = (dirs i.toNat n.toNat).foldl (stepP ss) (leaf, 0) → ((a.1 = root ∧ a.2 = ss.length) ↔ cl leaf (dirs i.toNat n.toNat) ss = some root)) := by
      rintro a rfl
      have := foldP h32 c5 (dirs i.toNat n.toNat) leaf 0 c4 (Nat.zero_le _)
      rwa [List.drop_zero] at this
    clear c6 H0
    obtain ⟨I, rfl⟩ := Int.eq_ofNat_of_zero_le c1
    obtain ⟨M, rfl⟩ := Int.eq_ofNat_of_zero_le (show 0 ≤ n by omega)
    have HTK := taker_any p ss cap W1
    have HTP := fun w' => takePath_any M W1 W1.heap.size (W1.heap.size + 1) p ss cap 0 I leaf w' (HT.out.below B0.out HT.out.1) (HP.out.below B0.out) (by omega) hcap h32 (by omega) (by omega) (by omega)
    simp only [Int.toNat_natCast] at HE H
    generalize hS : (dirs I M).foldl (stepP ss) (leaf, 0) = S at *
    have HE2 : Hid ((S.1 = root ∧ S.2 = ss.length) ↔ cl leaf (dirs I M) ss = some root) := HE.out S rfl
    clear hS HE h32
    obtain ⟨X, a⟩ := S
    have HTP' : Hid (∀ w', TkS W1 W1.heap.size (W1.heap.size + 1) p ss cap 0 w' → Calls Tryz.prog 65 #[.string leaf, .int .i64 (I : Int), .int .i64 (M : Int), takeF W1.heap.size (W1.heap.size + 1)] w' fun e w'' => e = .returned (.string X) ∧ TkS W1 W1.heap.size (W1.heap.size + 1) p ss cap a w'') := HTP
    clear HTP
    dsimp only at HE2
    unfold takeF at HTP' HTK
    unfold leftF at HTK
    by_cases hx : X = root
    · have q1 : (X.toList == root.toList) = true := by rw [hx]; simp
      clear hx
      have hx : Hid (X = root) := toList_inj' q1
      by_cases ha : a = ss.length
      · have HR : Hid (decide (cl leaf (dirs I M) ss = some root) = true) := decide_eq_true (HE2.out.1 ⟨hx.out, ha⟩)
        go_enter Tryz.func27, Tryz.ntmps27
        go_wp2_with fail
        rw [← HWA.out]
        refine HA.mono ?_
        rintro e w1 ⟨rfl, hw1⟩
        subst hw1
        go_wp2_with fail
        refine HD.mono ?_
        rintro e w1 ⟨rfl, hw1⟩
        subst hw1
        go_wp2_with fail
        refine HTK.mono ?_
        rintro e w2 ⟨rfl, K2⟩
        have HK2 : Hid _ := K2
        clear K2
        go_wp2_with fail
        refine (HTP'.out _ HK2.out).mono ?_
        rintro e w3 ⟨rfl, K3⟩
        have HK3 : Hid (TkS w1 w1.heap.size (w1.heap.size + 1) p ss cap a w3) := K3
        clear K3
        go_wp2_with fail
        refine (left_any w1 w1.heap.size (w1.heap.size + 1) p ss cap a w3 (by omega) HK3.out).mono ?_
        rintro e w4 ⟨rfl, hw4⟩
        subst hw4
        go_wp2_with fail
        go_ret
        exact ⟨ret_bool (by rw [H.out, HR.out]; try (simp <;> omega)), B0.out.trans (HK3.out.bel.mono B0.out.size)⟩
      · have HR : Hid (decide (cl leaf (dirs I M) ss = some root) = false) := decide_eq_false fun h => ha (HE2.out.2 h).2
        go_enter Tryz.func27, Tryz.ntmps27
        go_wp2_with fail
        rw [← HWA.out]
        refine HA.mono ?_
        rintro e w1 ⟨rfl, hw1⟩
        subst hw1
        go_wp2_with fail
        refine HD.mono ?_
        rintro e w1 ⟨rfl, hw1⟩
        subst hw1
        go_wp2_with fail
        refine HTK.mono ?_
        rintro e w2 ⟨rfl, K2⟩
        have HK2 : Hid _ := K2
        clear K2
        go_wp2_with fail
        refine (HTP'.out _ HK2.out).mono ?_
        rintro e w3 ⟨rfl, K3⟩
        have HK3 : Hid (TkS w1 w1.heap.size (w1.heap.size + 1) p ss cap a w3) := K3
        clear K3
        go_wp2_with fail
        refine (left_any w1 w1.heap.size (w1.heap.size + 1) p ss cap a w3 (by omega) HK3.out).mono ?_
        rintro e w4 ⟨rfl, hw4⟩
        subst hw4
        go_wp2_with fail
        go_ret
        exact ⟨ret_bool (by rw [H.out, HR.out]; try (simp <;> omega)), B0.out.trans (HK3.out.bel.mono B0.out.size)⟩
    · have HR : Hid (decide (cl leaf (dirs I M) ss = some root) = false) := decide_eq_false fun h => hx (HE2.out.2 h).1
      have q1 : (X.toList == root.toList) = false := by rw [beq_eq_false_iff_ne]; exact fun h => hx (toList_inj' (by rw [h]; simp))
      clear hx
      go_enter Tryz.func27, Tryz.ntmps27
      go_wp2_with fail
      rw [← HWA.out]
      refine HA.mono ?_
      rintro e w1 ⟨rfl, hw1⟩
      subst hw1
      go_wp2_with fail
      refine HD.mono ?_
      rintro e w1 ⟨rfl, hw1⟩
      subst hw1
      go_wp2_with fail
      refine HTK.mono ?_
      rintro e w2 ⟨rfl, K2⟩
      have HK2 : Hid _ := K2
      clear K2
      go_wp2_with fail
      refine (HTP'.out _ HK2.out).mono ?_
      rintro e w3 ⟨rfl, K3⟩
      have HK3 : Hid (TkS w1 w1.heap.size (w1.heap.size + 1) p ss cap a w3) := K3
      clear K3
      go_wp2_with fail
      go_ret
      exact ⟨ret_bool (by rw [H.out, HR.out]), B0.out.trans (HK3.out.bel.mono B0.out.size)⟩
end Go.Proofs.YtnjegmffjelnpaaGreatDoor
/-
  Rows of texts that are filled one by one, and rows of six numbers, as plain lists: what the program's chains come to.
-/
namespace Go.Proofs.YtnjegmffjelnpaaGreatDoor
open Go.RowKit Go.Lib
set_option linter.unusedVariables false

/-- A row of n texts of which the first k are there. -/
def fillTo (f : Nat → ByteArray) (n k : Nat) : List ByteArray := (List.range k).map f ++ List.replicate (n - k) ByteArray.empty
theorem fillTo_len (f : Nat → ByteArray) (n k : Nat) (h : k ≤ n) : (fillTo f n k).length = n := by simp [fillTo]; omega
theorem fillTo_zero (f : Nat → ByteArray) (n : Nat) : fillTo f n 0 = List.replicate n ByteArray.empty := by simp [fillTo]
theorem fillTo_all (f : Nat → ByteArray) (n : Nat) : fillTo f n n = (List.range n).map f := by simp [fillTo]
theorem fillTo_set (f : Nat → ByteArray) (n k : Nat) (h : k < n) : (fillTo f n k).set k (f k) = fillTo f n (k + 1) := by
  unfold fillTo
  obtain ⟨m, hm⟩ : ∃ m, n - k = m + 1 := ⟨n - k - 1, by omega⟩
  rw [hm, List.replicate_succ, List.range_succ, List.map_append, show n - (k + 1) = m by omega]
  rw [List.set_append_right _ _ (by simp)]
  simp
theorem range_get (f : Nat → ByteArray) (n k : Nat) (h : k < n) : ((List.range n).map f).getD k ByteArray.empty = f k := by simp [List.getD_eq_getElem?_getD, h]
theorem range_len (f : Nat → ByteArray) (n : Nat) : ((List.range n).map f).length = n := by simp
theorem range_wide (f : Nat → ByteArray) (n : Nat) (h : ∀ j, (f j).size = 32) : ∀ x ∈ (List.range n).map f, x.size = 32 := by
  intro x hx
  obtain ⟨i, _, rfl⟩ := List.mem_map.1 hx
  exact h i
theorem cat_map (f : Nat → ByteArray) : ∀ n, cat ((List.range n).map f) = catB f n
  | 0 => rfl
  | n + 1 => by
    rw [List.range_succ, List.map_append]
    show _ = catB f n ++ f n
    rw [← cat_map f n]
    apply ByteArray.ext
    simp [cat]
/-- Six numbers, as the cells of an array. -/
def numA (l : List Int) : Array Value := (l.map (Value.int .i64)).toArray
theorem numA_size (l : List Int) : (numA l).size = l.length := by simp [numA]
theorem numA_at (l : List Int) (k : Nat) (h : k < l.length) : (numA l)[k]? = some (.int .i64 (l.getD k 0)) := by
  simp [numA, List.getD_eq_getElem?_getD, h]
theorem numA_one (l : List Int) : (numA l).all (·.oneCell') = true := by
  unfold numA
  rw [List.all_toArray, List.all_eq_true]
  intro x hx
  obtain ⟨i, _, rfl⟩ := List.mem_map.1 hx
  rfl
theorem numA_set (l : List Int) (k : Nat) (v : Int) : (numA l).setIfInBounds k (.int .i64 v) = numA (l.set k v) := by
  simp [numA, List.map_set]
/-- Each chain, so many steps further. -/
def goneTo (chains : List ByteArray) (steps : List Int) (j : Nat) : ByteArray := stepsB (steps.getD j 0).toNat (chains.getD j ByteArray.empty)
end Go.Proofs.YtnjegmffjelnpaaGreatDoor
/-
  What the program's digestOfAll answers: the digest of all texts, one behind the other.
  Conditions: the two tables of the digest lie as laid.
-/
namespace Go.Proofs.YtnjegmffjelnpaaGreatDoor
open Go.RowKit Go.Lib
set_option linter.unusedVariables false

set_option maxHeartbeats 1000000 in
theorem digAll_any (g c : Nat) (ss : List ByteArray) (w : World) (hT : Tabs w) (hb : BlkS w g ss) (hn : ss.length ≤ 1024) (hc : ss.length ≤ c) (htot : (cat ss).size ≤ 1099511627776) :
    Calls Tryz.prog 25 #[.slice (some ⟨g, 0, none⟩) ss.length c] w fun e w' => e = .returned (.string (digB (cat ss))) ∧ Below w.heap.size w w' := by
  have hJ := joined_any g 0 ss.length c ss w rfl hb.lt (by omega) hc (fun i h => by rw [Nat.zero_add]; exact (hb.cell i h).1) (by rw [← cat_size]; omega)
  have HT : Hid (Tabs w) := hT
  clear hT hb
  generalize cat ss = C at *
  go_enter Tryz.func25, Tryz.ntmps25
  go_wp2_with fail
  refine hJ.mono ?_
  rintro e w1 ⟨rfl, b1⟩
  go_wp2_with fail
  refine (digI_any C w1 htot (HT.out.below b1 HT.out.1)).mono ?_
  rintro e w2 ⟨rfl, b2⟩
  have b2 := chainB b1 b2
  go_wp2_with fail
  go_ret
  exact ⟨rfl, b2⟩
end Go.Proofs.YtnjegmffjelnpaaGreatDoor
/-
  What the program's seedRight, walked (with Digest as its step), allWalked and digestOfAll answer.
  Conditions: the chains' texts have 32 bytes; the two tables lie as the program's text lays them.
-/
namespace Go.Proofs.YtnjegmffjelnpaaGreatDoor
open Go.RowKit Go.Lib
set_option linter.unusedVariables false
set_option maxRecDepth 20000

theorem seedRight_any (t : ByteArray) (w : World) (ht : t.size ≤ maxLen) : Calls Tryz.prog 49 #[.string t] w fun e w' => e = .returned (.bool (seedB t)) ∧ w' = w := by
  unfold maxLen at ht
  have H0 : Hid (seedB t = decide (1 ≤ t.size ∧ t.size ≤ 64)) := rfl
  by_cases h1 : 1 ≤ t.size
  · have d1 : decide (1 ≤ (t.size : Int)) = true := decide_eq_true (by omega)
    by_cases h2 : t.size ≤ 64
    · have d2 : decide ((t.size : Int) ≤ 64) = true := decide_eq_true (by omega)
      rw [H0.out, decide_eq_true ⟨h1, h2⟩]
      go_enter Tryz.func49, Tryz.ntmps49
      go_wp2
      go_ret
      exact ⟨rfl, rfl⟩
    · have d2 : decide ((t.size : Int) ≤ 64) = false := decide_eq_false (by omega)
      rw [H0.out, decide_eq_false (fun h => h2 h.2)]
      go_enter Tryz.func49, Tryz.ntmps49
      go_wp2
      go_ret
      exact ⟨rfl, rfl⟩
  · have d1 : decide (1 ≤ (t.size : Int)) = false := decide_eq_false (by omega)
    rw [H0.out, decide_eq_false (fun h => h1 h.1)]
    go_enter Tryz.func49, Tryz.ntmps49
    go_wp2
    go_ret
    exact ⟨rfl, rfl⟩

/-- Digest, handed on as a value. -/
def digF : Value := .func (.func 63) #[] #[]

set_option maxHeartbeats 1000000 in
theorem walked_any (t : ByteArray) (n : Nat) (w : World) (hT : Tabs w) (ht : t.size ≤ 8000) (hn : n ≤ 1000) :
    Calls Tryz.prog 62 #[.string t, .int .i64 (n : Int), .func (.func 63) #[] #[]] w fun e w' => e = .returned (.string (stepsB n t)) ∧ Below w.heap.size w w' := by
  obtain ⟨R, hR⟩ : ∃ R, R = stepsB n t := ⟨_, rfl⟩
  rw [← hR]
  have HR : Hid (R = stepsB n t) := hR
  have HT : Hid (Tabs w) := hT
  clear hR hT
  go_enter Tryz.func62, Tryz.ntmps62
  go_wp2_with fail
  go_loopw [0, 8] (fun s i wr => ∃ (k : Nat) (u : ByteArray), s = .string u ∧ i = .int .i64 k ∧ k ≤ n ∧ u.size ≤ 8000 ∧ Hid (R = stepsB (n - k) u) ∧ Hid (Below w.heap.size w wr)) (fun _ i _ => n - (Go.RowKit.intOf i).toNat)
  case atStart => exact ⟨0, t, rfl, rfl, by omega, ht, HR, Below.refl _ _⟩
  case round =>
    clear HR
    obtain ⟨k, u, rfl, rfl, hk, hu, HR, HB⟩ := hrel
    by_cases hlt : k < n
    · have d1 : decide ((k : Int) < n) = true := decide_eq_true (by omega)
      have HR2 : Hid (R = stepsB (n - (k + 1)) (digB u)) := by
        have h := HR.out
        rw [show n - k = (n - (k + 1)) + 1 by omega] at h
        exact h
      have hs := digB_size u
      have hD := implDigest_any u wr (by unfold maxLen; omega) (HT.out.below HB.out HT.out.1)
      rw [show digestB u = digB u from if_pos hu] at hD
      clear HR
      go_wp2_with fail
      refine hD.mono ?_
      rintro e w1 ⟨rfl, b1⟩
      generalize digB u = D at *
      have HB1 : Hid (Below w.heap.size w w1) := chainB HB.out b1
      clear b1 HB hD
      go_wp2_with fail
      go_roundw
      case rel => exact ⟨k + 1, D, rfl, by go_num, by omega, by omega, HR2, HB1⟩
      case measure => simp [Go.RowKit.intOf]; omega
    · obtain rfl : k = n := by omega
      have HR2 : Hid (R = u) := by
        have h := HR.out
        rw [show k - k = 0 by omega] at h
        exact h
      have d1 : decide ((k : Int) < k) = false := decide_eq_false (by omega)
      clear HR
      go_wp2_with fail
      go_ret
      exact ⟨ret_str HR2.out.symm, HB.out⟩

end Go.Proofs.YtnjegmffjelnpaaGreatDoor
/-
  What the program's allWalked answers: a new row of six texts, each chain so many steps further.
  Conditions: the chains' texts have 32 bytes; each number of steps is from 0 to 15; the two tables lie as the program's text lays them.
-/
namespace Go.Proofs.YtnjegmffjelnpaaGreatDoor
open Go.RowKit Go.Lib
set_option linter.unusedVariables false
set_option maxRecDepth 20000

theorem under6 : Tryz.prog.underlying 49 = some (.array (Tryz.prog.arrayLen 49) (Tryz.prog.elem 49)) := by kernel_rfl
theorem len6 : Tryz.prog.arrayLen 49 = 6 := by kernel_rfl
theorem info6 : (Tryz.prog.info? 49).map (·.size) = some 6 := by kernel_rfl
theorem numA_cell {w : World} {g : Nat} {l : List Int} {T : TypeId} (h : w.heap[g]? = some (.cells (numA l) T (0, 0))) (i : Nat) (hi : i < l.length) : w.cell? ⟨g, i, none⟩ = some (.int .i64 (l.getD i 0)) ∧ w.frozen? ⟨g, i, none⟩ = false := by
  constructor
  · simp [World.cell?, h, numA, List.getElem?_eq_getElem hi, List.getD_eq_getElem?_getD]
  · simp [World.frozen?, h]

set_option maxHeartbeats 4000000 in
theorem allWalked_any (q : Option Addr) (c : Nat) (chains : List ByteArray) (steps : List Int) (w : World) (hT : Tabs w) (hq : TxtAt w q chains) (hl : chains.length = 6) (hc : 6 ≤ c) (h32 : ∀ x ∈ chains, x.size = 32) (hs : steps.length = 6) (hb : ∀ j, j < 6 → 0 ≤ steps.getD j 0 ∧ steps.getD j 0 ≤ 15) :
    Calls Tryz.prog 26 #[.slice q 6 c, .agg (numA steps)] w fun e w' => ∃ g, e = .returned (.slice (some ⟨g, 0, none⟩) 6 6) ∧ w.heap.size ≤ g ∧ BlkS w' g ((List.range 6).map (goneTo chains steps)) ∧ Below w.heap.size w w' := by
  have HT : Hid (Tabs w) := hT
  have HQ : Hid (TxtAt w q chains) := hq
  have HL : Hid (chains.length = 6) := hl
  have H32 : Hid (∀ x ∈ chains, x.size = 32) := h32
  have HS : Hid (steps.length = 6) := hs
  have HBd : Hid (∀ j, j < 6 → 0 ≤ steps.getD j 0 ∧ steps.getD j 0 ≤ 15) := hb
  clear hT hq hl h32 hs hb
  obtain ⟨bq, oq, rfl, -, -⟩ := HQ.out 0 (by rw [HL.out]; omega)
  obtain ⟨f, hf⟩ : ∃ f, f = goneTo chains steps := ⟨_, rfl⟩
  have HF : Hid (f = goneTo chains steps) := hf
  rw [← hf]
  clear hf
  have HFA : Hid (fillTo f 6 6 = (List.range 6).map f) := fillTo_all f 6
  rw [← HFA.out]
  obtain ⟨W1, hW1⟩ : ∃ W1, W1 = w.alloc (.cells (numA steps) 49) := ⟨_, rfl⟩
  have HW1 : Hid (W1 = w.alloc (.cells (numA steps) 49)) := hW1
  have S1 : W1.heap.size = w.heap.size + 1 := by rw [hW1]; simp
  have R1 : W1.heap[w.heap.size]? = some (.cells (numA steps) 49 (0, 0)) := by rw [hW1]; exact (MapKept.heap_alloc w _).1
  have B1 : Below w.heap.size w W1 := by rw [hW1]; exact (Below.refl _ _).alloc (Nat.le_refl _) _
  clear hW1
  obtain ⟨W2, hW2⟩ : ∃ W2, W2 = W1.alloc (.cells (strRow (fillTo f 6 0)).toArray 9) := ⟨_, rfl⟩
  have hmk := run_make_str 6 (by omega) W1
  rw [← fillTo_zero f 6, ← hW2] at hmk
  rw [show ((6 : Nat) : Int) = (6 : Int) from rfl] at hmk
  have R2 : Hid (W2.heap[w.heap.size]? = some (.cells (numA steps) 49 (0, 0))) := by rw [hW2]; exact (Below.heap_alloc _ _ _ (by omega)).trans R1
  have K2 : Hid (BlkS W2 W1.heap.size (fillTo f 6 0)) := by rw [hW2]; exact alloc_str _ _
  have B2 : Hid (Below w.heap.size w W2) := by rw [hW2]; exact B1.alloc B1.size _
  rw [S1] at K2 hmk
  rw [HW1.out] at hmk
  clear hW2 R1 B1 S1
  go_enter Tryz.func26, Tryz.ntmps26
  go_wp2_with fail
  go_loopw [10] (fun i wr => ∃ (k : Nat), i = .int .i64 k ∧ k ≤ 6 ∧ Hid (wr.heap[w.heap.size]? = some (.cells (numA steps) 49 (0, 0))) ∧ Hid (BlkS wr (w.heap.size + 1) (fillTo f 6 k)) ∧ Hid (Below w.heap.size w wr)) (fun i _ => 6 - (Go.RowKit.intOf i).toNat)
  case atStart => exact ⟨0, rfl, by omega, R2, K2, B2⟩
  case round =>
    clear hmk R2 K2 B2 HW1
    obtain ⟨k, rfl, hk, HR, HK, HB⟩ := hrel
    by_cases hlt : k < 6
    · have d1 : decide ((k : Int) < 6) = true := decide_eq_true (by omega)
      have i1 : (k : Int) < 6 := by omega
      have hkc : k < chains.length := by rw [HL.out]; omega
      have x1 := (HQ.out.below HB.out).at k hkc
      obtain ⟨x2, -⟩ := numA_cell HR.out k (by rw [HS.out]; omega)
      obtain ⟨m0, m1⟩ := HBd.out k hlt
      have hE32 := H32.out _ (List.getElem_mem hkc)
      have HU : Hid (f k = stepsB (steps.getD k 0).toNat chains[k]) := by
        show _ = _
        rw [HF.out]
        unfold goneTo
        congr 1
        simp [List.getD_eq_getElem?_getD, hkc]
      obtain ⟨M, hM⟩ := Int.eq_ofNat_of_zero_le m0
      rw [hM] at x2 m1 HU
      rw [Int.toNat_natCast] at HU
      have hset := fillTo_set f 6 k hlt
      have hlen := fillTo_len f 6 k (by omega)
      have hlt2 := HK.out.lt
      have HX : Hid (∀ y, Below wr.heap.size wr y → y.frozen? ⟨w.heap.size + 1, k, none⟩ = false ∧ (∃ v, y.cell? ⟨w.heap.size + 1, k, none⟩ = some v) ∧ Hid ((y.setCell ⟨w.heap.size + 1, k, none⟩ (.string (f k))).heap[w.heap.size]? = some (.cells (numA steps) 49 (0, 0))) ∧ Hid (BlkS (y.setCell ⟨w.heap.size + 1, k, none⟩ (.string (f k))) (w.heap.size + 1) (fillTo f 6 (k + 1))) ∧ Hid (Below w.heap.size w (y.setCell ⟨w.heap.size + 1, k, none⟩ (.string (f k))))) := by
        intro y hb
        have hK := HK.out.below hb hlt2
        obtain ⟨c1, c2⟩ := hK.cell k (by rw [hlen]; omega)
        refine ⟨c2, ⟨_, c1⟩, ?_, ?_, ?_⟩
        · show _ = _
          rw [show (y.setCell ⟨w.heap.size + 1, k, none⟩ (.string (f k))).heap[w.heap.size]? = y.heap[w.heap.size]? by simp [World.setCell, Array.getElem?_modify]]
          exact (hb.block _ (by omega)).trans HR.out
        · show BlkS _ _ _
          rw [← hset]; exact hK.set k _
        · exact (HB.out.trans (hb.mono HB.out.size)).setCell (by show w.heap.size ≤ w.heap.size + 1; omega) _
      have QW : Hid (∀ y, Below wr.heap.size wr y → Calls Tryz.prog 62 #[.string chains[k], .int .i64 (M : Int), .func (.func 63) #[] #[]] y fun e x1 => e = .returned (.string (f k)) ∧ Below y.heap.size y x1) := fun y hb => by
        rw [HU.out]
        exact walked_any _ M y (HT.out.below (HB.out.trans (hb.mono HB.out.size)) HT.out.1) (by omega) (by omega)
      have i2 : (0 : Int) ≤ k := by omega
      generalize chains[k] = C at *
      generalize f k = E at *
      clear HU hM m0 hE32 hset hlen
      go_wp2_with fail
      go_region_with (first
        | (go_at_call 62; refine (QW.out _ (by first | exact Below.refl _ _ | exact (Below.refl _ _).drew)).mono ?_; rintro e y1 ⟨rfl, z1⟩; have z1 : Below wr.heap.size wr y1 := chainB (by first | exact Below.refl _ _ | exact (Below.refl _ _).drew) z1; obtain ⟨x3, ⟨v4, x4⟩, x5, x6, x7⟩ := HX.out _ z1))
      all_goals
        clear HR HK HB z1 x3 x4
        go_wp2_with fail
        go_roundw
        case rel => exact ⟨k + 1, by go_num, by omega, x5, x6, x7⟩
        case measure => simp [Go.RowKit.intOf]; omega
    · obtain rfl : k = 6 := by omega
      rw [show ((6 : Nat) : Int) = (6 : Int) from rfl]
      go_wp2_with fail
      go_ret
      exact ⟨_, rfl, by omega, HK.out, HB.out⟩
end Go.Proofs.YtnjegmffjelnpaaGreatDoor
