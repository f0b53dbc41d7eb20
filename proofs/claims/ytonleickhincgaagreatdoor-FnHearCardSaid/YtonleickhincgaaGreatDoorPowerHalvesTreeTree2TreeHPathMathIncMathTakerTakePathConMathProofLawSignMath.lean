/-
  Parts of one proof, laid as one text: Power, Halves, Tree, Tree2, TreeH, PathMath, IncMath, Taker, TakePath, ConMath, ProofLaw, SignMath; what each says stands at its head.
-/
import Derived.Test.YtonleickhincgaaGreatDoorRows
import Derived.Test.YtonleickhincgaaGreatDoorBytesDigMath
import Derived.Test.YtonleickhincgaaGreatDoorTreeMathSlABxKSlBOwnS
import Derived.Test.YtonleickhincgaaGreatDoorBits
import Derived.Handy
import Derived.Deep.QuietTactic
import Derived.BigQuiet
import Derived.Test.YtonleickhincgaaGreatDoorAll2LeafNode
import Derived.Test.YtonleickhincgaaGreatDoorShwKOwnBPadIMacMathSgnBDigITurn2
import Derived.Test.YtonleickhincgaaGreatDoorTimeBPutMathPutNumJoinedPutTextFldMath
/-
  The program's powerBelow and the specification's l03Half: the greatest power of two below a number of 2 or more.
  Conditions: the numbers are of their types, and 2 or more.
-/
namespace Go.Proofs.YtonleickhincgaaGreatDoor
open Go.RowKit Go.Lib
set_option linter.unusedVariables false

theorem log_lt62 {n : Nat} (h : n < 9223372036854775808) (h0 : n ≠ 0) : Nat.log2 n < 63 := (Nat.log2_lt h0).2 (by rw [show (2 : Nat) ^ 63 = 9223372036854775808 from by decide]; exact h)
set_option maxHeartbeats 400000 in
theorem power_any (n : Nat) (w : World) (h2 : 2 ≤ n) (hn : n ≤ 9223372036854775807) :
    Calls Tryz.prog 199 #[.int .i64 (n : Int)] w fun e w' => e = .returned (.int .i64 (halfN n : Int)) ∧ w' = w := by
  have hl := log_lt62 (n := n - 1) (by omega) (by omega)
  have hc := fun w => len64_any (n - 1) w (by omega) (by omega)
  have HH : Hid (((2 : Int) ^ (Nat.log2 (n - 1))) = (halfN n : Int)) := by show _ = _; unfold halfN; simp
  have hh := halfN_lt h2
  obtain ⟨m, rfl⟩ : ∃ m, n = m + 1 := ⟨n - 1, by omega⟩
  simp only [Nat.add_sub_cancel] at *
  generalize halfN (m + 1) = H at *
  generalize Nat.log2 m = lg at *
  have HC : Hid (∀ w, Calls Tryz.prog 215 #[.int .u64 (m : Int)] w fun e w' => e = .returned (.int .i64 ((lg + 1 : Nat) : Int)) ∧ w' = w) := hc
  clear hc
  go_enter Tryz.func199, Tryz.ntmps199
  go_wp2_with (go_at_call 215; refine (HC.out _).mono ?_; rintro e w1 ⟨rfl, rfl⟩)
  go_ret
  exact ⟨ret_int (by rw [HH.out]; unfold wrap64; omega), rfl⟩

set_option maxHeartbeats 400000 in
theorem half2_any (n : Nat) (w : World) (h2 : 2 ≤ n) (hn : n ≤ 140737488355328) :
    Calls Tryz.prog 120 #[.int .i64 (n : Int)] w fun e w' => e = .returned (.int .i64 (halfN n : Int)) ∧ w' = w := by
  go_enter Tryz.func120, Tryz.ntmps120
  go_wp2
  go_loop [3] (fun x => ∃ k j : Nat, Hid (k = 2 ^ j) ∧ k < n ∧ 0 < k ∧ x = .int .i64 k) (fun x => n - (Go.RowKit.intOf x).toNat)
  case atStart => exact ⟨1, 0, rfl, by omega, by omega, rfl⟩
  case round =>
    obtain ⟨k, j, hk, hkn, hk0, rfl⟩ := hrel
    by_cases hlt : 2 * k < n
    · go_wp2
      go_round
      case rel => exact ⟨2 * k, j + 1, by show _ = _; rw [hk.out, Nat.pow_succ, Nat.mul_comm], hlt, by omega, by go_num⟩
      case measure => simp [Go.RowKit.intOf]; omega
    · have H : Hid (halfN n = k) := by
        show _ = _
        rw [hk.out]
        exact halfN_unique (by rw [← hk.out]; exact hkn) (by rw [← hk.out]; omega)
      go_wp2
      go_ret
      exact ⟨ret_int (by rw [H.out]), rfl⟩

theorem ret_bool' {a b : Bool} (h : a = true ↔ b = true) : Ending.returned (.bool a) = .returned (.bool b) := by rw [Bool.eq_iff_iff.2 h]
theorem pow_half (n : Nat) (h : n % 2 = 0) (h0 : 0 < n) : (∃ j, n = 2 ^ j) ↔ ∃ j, n / 2 = 2 ^ j := by
  constructor
  · rintro ⟨j, rfl⟩
    cases j with
    | zero => simp at h
    | succ j => exact ⟨j, by rw [Nat.pow_succ]; omega⟩
  · rintro ⟨j, hj⟩; exact ⟨j + 1, by rw [Nat.pow_succ, ← hj]; omega⟩
theorem pow_odd (n : Nat) (h : n % 2 = 1) : (∃ j, n = 2 ^ j) ↔ n = 1 := by
  constructor
  · rintro ⟨j, rfl⟩
    cases j with
    | zero => rfl
    | succ j => rw [Nat.pow_succ] at h; omega
  · rintro rfl; exact ⟨0, rfl⟩

def isPowB (n : Nat) : Bool := decide (n = 2 ^ Nat.log2 n)
theorem isPowB_iff (n : Nat) : isPowB n = true ↔ ∃ j, n = 2 ^ j := by
  unfold isPowB; rw [decide_eq_true_iff]
  exact ⟨fun h => ⟨_, h⟩, fun ⟨j, hj⟩ => by rw [hj, Nat.log2_two_pow]⟩
end Go.Proofs.YtonleickhincgaaGreatDoor
/-
  The program's halves: two slices over the first k and the other entries.
  Conditions: there are 2 or more.
-/
namespace Go.Proofs.YtonleickhincgaaGreatDoor
open Go.RowKit Go.Lib
set_option linter.unusedVariables false

theorem belowDr {B : Nat} {a w : World} (h : Below B a w) (n : Nat) : Below B a (w.drewN n) := ⟨h.os, h.tape, h.output, h.size, h.block⟩
set_option maxHeartbeats 400000 in
theorem halves_any (b off n cap : Nat) (w : World) (h2 : 2 ≤ n) (hn : n ≤ 140737488355328) (hcap : n ≤ cap) :
    Calls Tryz.prog 185 #[.slice (some ⟨b, off, none⟩) n cap] w fun e w' =>
      e = .returned (.tuple #[.slice (some ⟨b, off, none⟩) (halfN n) (halfN n), .slice (some ⟨b, off + halfN n, none⟩) (n - halfN n) (n - halfN n)]) ∧ Below w.heap.size w w' := by
  have h1 := halfN_lt h2
  have h0 := halfN_pos n
  have hc := fun w => power_any n w h2 (by omega)
  generalize halfN n = k at *
  have q1 : (k : Int) ≤ cap := by omega
  have q2 : (k : Int) ≤ n := by omega
  have q3 : (n : Int) ≤ cap := by omega
  have q4 : ¬ n = k := by omega
  have q5 : (0 : Int) ≤ k := by omega
  go_enter Tryz.func185, Tryz.ntmps185
  go_wp2_with (go_at_call 199; refine (hc _).mono ?_; rintro e w1 ⟨rfl, rfl⟩)
  go_quiet (fail)
  go_wp2
  go_ret2
  exact ⟨rfl, belowDr (Below.refl _ _) _⟩
end Go.Proofs.YtonleickhincgaaGreatDoor
/-
  The program's treeOf and the specification's l03Tree: the tree of entries, 'treeB'.
  Conditions: the slice's cells hold the entries, each of at most 100 bytes, at most 2^47 of them; for the program's half the two tables lie as the program's text lays them.
-/
namespace Go.Proofs.YtonleickhincgaaGreatDoor
open Go.RowKit Go.Lib
set_option linter.unusedVariables false
set_option maxRecDepth 20000

theorem leafA_of {t : ByteArray} (h : t.size ≤ 100) : leafA t = leafB t := if_pos h

set_option maxHeartbeats 1000000 in
theorem treeI_any (N : Nat) : ∀ (p : Option Addr) (cap : Nat) (ss : List ByteArray) (w : World), ss.length = N → Tabs w → TxtAt w p ss → ss.length ≤ 140737488355328 → ss.length ≤ cap → (∀ x ∈ ss, x.size ≤ 100) →
    Calls Tryz.prog 183 #[.slice p ss.length cap] w fun e w' => e = .returned (.string (treeB ss)) ∧ Below w.heap.size w w' := by
  induction N using Nat.strongRecOn with
  | _ N ih =>
  intro p cap ss w hN hT hp hn hcap h100
  subst hN
  have HT : Hid (Tabs w) := hT
  have HP : Hid (TxtAt w p ss) := hp
  have HX : Hid (∀ x ∈ ss, x.size ≤ 100) := h100
  clear hT hp h100
  by_cases h2 : 2 ≤ ss.length
  · obtain ⟨b, off, rfl, hb, _⟩ := HP.out 0 (by omega)
    have h1 := halfN_lt h2
    have h0 := halfN_pos ss.length
    have l1 : (ss.take (halfN ss.length)).length = halfN ss.length := by simp; omega
    have l2 : (ss.drop (halfN ss.length)).length = ss.length - halfN ss.length := by simp
    have HB : Hid (nodeA (treeB (ss.take (halfN ss.length))) (treeB (ss.drop (halfN ss.length))) = treeB ss) := by
      show _ = _
      rw [treeB_two h2, nodeA_of (treeB_size _) (treeB_size _)]
    have z1 := treeB_size (ss.take (halfN ss.length))
    have z2 := treeB_size (ss.drop (halfN ss.length))
    have I1 : Hid (∀ w', Below w.heap.size w w' → Calls Tryz.prog 183 #[.slice (some ⟨b, off, none⟩) (halfN ss.length) (halfN ss.length)] w' fun e w'' => e = .returned (.string (treeB (ss.take (halfN ss.length)))) ∧ Below w'.heap.size w' w'') := by
      intro w' hbl
      have := ih _ (by omega) (some ⟨b, off, none⟩) (halfN ss.length) (ss.take (halfN ss.length)) w' l1 (HT.out.below hbl HT.out.1) ((HP.out.below hbl).take _) (by omega) (by omega) (fun x hx => HX.out x (List.mem_of_mem_take hx))
      rwa [l1] at this
    have I2 : Hid (∀ w', Below w.heap.size w w' → Calls Tryz.prog 183 #[.slice (some ⟨b, off + halfN ss.length, none⟩) (ss.length - halfN ss.length) (ss.length - halfN ss.length)] w' fun e w'' => e = .returned (.string (treeB (ss.drop (halfN ss.length)))) ∧ Below w'.heap.size w' w'') := by
      intro w' hbl
      have := ih _ (by omega) (some ⟨b, off + halfN ss.length, none⟩) (ss.length - halfN ss.length) (ss.drop (halfN ss.length)) w' l2 (HT.out.below hbl HT.out.1) ((HP.out.below hbl).drop _) (by omega) (by omega) (fun x hx => HX.out x (List.mem_of_mem_drop hx))
      rwa [l2] at this
    have hH := fun w => halves_any b off ss.length cap w h2 hn hcap
    clear l1 l2
    generalize treeB (ss.take (halfN ss.length)) = T1 at *
    generalize treeB (ss.drop (halfN ss.length)) = T2 at *
    generalize halfN ss.length = k at *
    clear ih
    go_enter Tryz.func183, Tryz.ntmps183
    go_wp2_with fail
    refine (hH _).mono ?_
    rintro e w1 ⟨rfl, b1⟩
    go_wp2_with fail
    refine (I1.out _ b1).mono ?_
    rintro e w2 ⟨rfl, b2⟩
    have b2 := chainB b1 b2
    go_wp2_with fail
    refine (I2.out _ b2).mono ?_
    rintro e w3 ⟨rfl, b3⟩
    have b3 := chainB b2 b3
    go_wp2_with fail
    refine (implNode_any T1 T2 _ (HT.out.below b3 HT.out.1) (by unfold maxLen; omega) (by unfold maxLen; omega)).mono ?_
    rintro e w4 ⟨rfl, b4⟩
    go_wp2_with fail
    go_ret
    exact ⟨ret_str HB.out, chainB b3 b4⟩
  · by_cases h1 : ss.length = 1
    · obtain ⟨x, rfl⟩ := List.length_eq_one_iff.1 h1
      obtain ⟨b, off, rfl, hb, hc⟩ := HP.out 0 (by simp)
      have hx := HX.out x (by simp)
      have HB : Hid (leafA x = treeB [x]) := by show _ = _; rw [treeB_one, leafA_of hx]
      have hc0 : w.cell? ⟨b, off, none⟩ = some (.string x) := by simpa using hc
      clear ih hc hcap
      have hcall := implLeaf_any x w HT.out (by unfold maxLen; omega)
      rw [HB.out] at hcall
      rw [List.length_singleton] at *
      go_enter Tryz.func183, Tryz.ntmps183
      go_wp2_with fail
      refine hcall.mono ?_
      rintro e w1 ⟨rfl, b1⟩
      go_wp2_with fail
      go_ret
      exact ⟨rfl, b1⟩
    · obtain rfl : ss = [] := List.length_eq_zero_iff.1 (by omega)
      have HB : Hid (digB ByteArray.empty = treeB []) := treeB_nil.symm
      have hcall := digI_any ByteArray.empty w (by simp) HT.out
      rw [HB.out] at hcall
      clear ih hcap HP HX
      rw [List.length_nil]
      go_enter Tryz.func183, Tryz.ntmps183
      go_wp2_with fail
      refine hcall.mono ?_
      rintro e w1 ⟨rfl, b1⟩
      go_wp2_with fail
      go_ret
      exact ⟨rfl, b1⟩
end Go.Proofs.YtonleickhincgaaGreatDoor
/-
  The specification's l03Tree: the tree of entries, 'treeB'.
  Conditions: the slice's cells hold the entries, each of at most 100 bytes, at most 2^47 of them.
-/
namespace Go.Proofs.YtonleickhincgaaGreatDoor
open Go.RowKit Go.Lib
set_option linter.unusedVariables false
set_option maxRecDepth 20000

set_option maxHeartbeats 1000000 in
theorem tree2_any (N : Nat) : ∀ (p : Option Addr) (cap : Nat) (ss : List ByteArray) (w : World), ss.length = N → TxtAt w p ss → ss.length ≤ 140737488355328 → ss.length ≤ cap → (∀ x ∈ ss, x.size ≤ 100) →
    Calls Tryz.prog 75 #[.slice p ss.length cap] w fun e w' => e = .returned (.string (treeB ss)) ∧ Below w.heap.size w w' := by
  induction N using Nat.strongRecOn with
  | _ N ih =>
  intro p cap ss w hN hp hn hcap h100
  subst hN
  have HP : Hid (TxtAt w p ss) := hp
  have HX : Hid (∀ x ∈ ss, x.size ≤ 100) := h100
  clear hp h100
  by_cases h2 : 2 ≤ ss.length
  · obtain ⟨b, off, rfl, hb, _⟩ := HP.out 0 (by omega)
    have h1 := halfN_lt h2
    have h0 := halfN_pos ss.length
    have l1 : (ss.take (halfN ss.length)).length = halfN ss.length := by simp; omega
    have l2 : (ss.drop (halfN ss.length)).length = ss.length - halfN ss.length := by simp
    have HB : Hid (nodeB (treeB (ss.take (halfN ss.length))) (treeB (ss.drop (halfN ss.length))) = treeB ss) := by
      show _ = _
      rw [treeB_two h2]
    have z1 := treeB_size (ss.take (halfN ss.length))
    have z2 := treeB_size (ss.drop (halfN ss.length))
    have I1 : Hid (∀ w', Below w.heap.size w w' → Calls Tryz.prog 75 #[.slice (some ⟨b, off, none⟩) (halfN ss.length) cap] w' fun e w'' => e = .returned (.string (treeB (ss.take (halfN ss.length)))) ∧ Below w'.heap.size w' w'') := by
      intro w' hbl
      have := ih _ (by omega) (some ⟨b, off, none⟩) cap (ss.take (halfN ss.length)) w' l1 ((HP.out.below hbl).take _) (by omega) (by omega) (fun x hx => HX.out x (List.mem_of_mem_take hx))
      rwa [l1] at this
    have I2 : Hid (∀ w', Below w.heap.size w w' → Calls Tryz.prog 75 #[.slice (some ⟨b, off + halfN ss.length, none⟩) (ss.length - halfN ss.length) (cap - halfN ss.length)] w' fun e w'' => e = .returned (.string (treeB (ss.drop (halfN ss.length)))) ∧ Below w'.heap.size w' w'') := by
      intro w' hbl
      have := ih _ (by omega) (some ⟨b, off + halfN ss.length, none⟩) (cap - halfN ss.length) (ss.drop (halfN ss.length)) w' l2 ((HP.out.below hbl).drop _) (by omega) (by omega) (fun x hx => HX.out x (List.mem_of_mem_drop hx))
      rwa [l2] at this
    have hH := fun w => half2_any ss.length w h2 hn
    clear l1 l2
    generalize treeB (ss.take (halfN ss.length)) = T1 at *
    generalize treeB (ss.drop (halfN ss.length)) = T2 at *
    generalize halfN ss.length = k at *
    have hNd := fun w => specL03Node_any T1 T2 w (by omega) (by omega)
    rw [HB.out] at hNd
    clear ih
    have q1 : (k : Int) ≤ cap := by omega
    have q2 : (k : Int) ≤ ss.length := by omega
    have q3 : (ss.length : Int) ≤ cap := by omega
    have q4 : ¬ cap = k := by omega
    have q5 : (0 : Int) ≤ k := by omega
    go_enter Tryz.func75, Tryz.ntmps75
    go_wp2_with fail
    refine (hH _).mono ?_
    rintro e w1 ⟨rfl, hw1⟩
    subst hw1
    go_wp2_with fail
    go_region_with (first
      | (go_at_call 75; refine (I2.out _ b2).mono ?_; rintro e w3 ⟨rfl, b3⟩; have b3 := chainB b2 b3)
      | (go_at_call 75; refine (I1.out _ ((Below.refl _ _).drew)).mono ?_; rintro e w2 ⟨rfl, b2⟩; have b2 := chainB ((Below.refl _ _).drew) b2)
      | (go_at_call 85; refine (hNd _).mono ?_; rintro e w4 ⟨rfl, b4⟩; have b4 := chainB b3 b4))
    all_goals go_wp2
    all_goals go_ret
    all_goals exact ⟨rfl, b4⟩
  · by_cases h1 : ss.length = 1
    · obtain ⟨x, rfl⟩ := List.length_eq_one_iff.1 h1
      obtain ⟨b, off, rfl, hb, hc⟩ := HP.out 0 (by simp)
      have hx := HX.out x (by simp)
      have HB : Hid (leafB x = treeB [x]) := by show _ = _; rw [treeB_one]
      have hc0 : w.cell? ⟨b, off, none⟩ = some (.string x) := by simpa using hc
      clear ih hc hcap
      have hcall := specL03Leaf_any x w (by omega)
      rw [HB.out] at hcall
      rw [List.length_singleton] at *
      go_enter Tryz.func75, Tryz.ntmps75
      go_wp2_with fail
      refine hcall.mono ?_
      rintro e w1 ⟨rfl, b1⟩
      go_wp2_with fail
      go_ret
      exact ⟨rfl, b1⟩
    · obtain rfl : ss = [] := List.length_eq_zero_iff.1 (by omega)
      have HB : Hid (digB ByteArray.empty = treeB []) := treeB_nil.symm
      have hcall := specAll_any ByteArray.empty w (by simp)
      rw [HB.out] at hcall
      clear ih hcap HP HX
      rw [List.length_nil]
      go_enter Tryz.func75, Tryz.ntmps75
      go_wp2_with fail
      refine hcall.mono ?_
      rintro e w1 ⟨rfl, b1⟩
      go_wp2_with fail
      go_ret
      exact ⟨rfl, b1⟩
end Go.Proofs.YtonleickhincgaaGreatDoor
/-
  What TreeHash answers, in the program and in the specification: 'treeA': of right entries their tree, else nothing.
-/
namespace Go.Proofs.YtonleickhincgaaGreatDoor
open Go.RowKit Go.Lib
set_option linter.unusedVariables false
set_option maxRecDepth 20000

def treeA (ss : List ByteArray) : ByteArray := if entB ss then treeB ss else ByteArray.empty
end Go.Proofs.YtonleickhincgaaGreatDoor
/-
  PathOf and ProofOf as plain functions: 'pathA', 'proofA'; how long they are.
-/
namespace Go.Proofs.YtonleickhincgaaGreatDoor
open Go.RowKit Go.Lib
set_option linter.unusedVariables false

theorem pathB_len (l : List ByteArray) (i : Nat) (h : i < l.length) : (pathB l i).length < l.length := by
  induction hn : l.length using Nat.strongRecOn generalizing l i with
  | _ n ih =>
    subst hn
    by_cases h2 : 2 ≤ l.length
    · have hlt := halfN_lt h2
      have hp := halfN_pos l.length
      by_cases hi : i < halfN l.length
      · have I := ih (halfN l.length) hlt (l.take (halfN l.length)) i (by simp; omega) (by simp; omega)
        rw [pathB_left h2 hi, List.length_append]; simp; omega
      · have I := ih (l.length - halfN l.length) (by omega) (l.drop (halfN l.length)) (i - halfN l.length) (by simp; omega) (by simp)
        rw [pathB_right h2 hi, List.length_append]; simp; omega
    · rw [pathB_one h2]; simp; omega
theorem proofB_len (l : List ByteArray) (m : Nat) (h1 : 1 ≤ m) (h : m ≤ l.length) (whole : Bool) : (proofB m l whole).length ≤ l.length := by
  induction hn : l.length using Nat.strongRecOn generalizing l m whole with
  | _ n ih =>
    subst hn
    by_cases he : m = l.length
    · rw [proofB_all he]; split <;> simp; omega
    · have h2 : 2 ≤ l.length := by omega
      have hlt := halfN_lt h2
      have hp := halfN_pos l.length
      by_cases hi : m ≤ halfN l.length
      · have I := ih (halfN l.length) hlt (l.take (halfN l.length)) m h1 (by simp; omega) whole (by simp; omega)
        rw [proofB_left h2 he hi, List.length_append]; simp; omega
      · have I := ih (l.length - halfN l.length) (by omega) (l.drop (halfN l.length)) (m - halfN l.length) (by omega) (by simp; omega) false (by simp)
        rw [proofB_right h2 he hi, List.length_append]; simp; omega
def pathA (ss : List ByteArray) (i : Int) : List ByteArray := if entB ss = true ∧ 0 ≤ i ∧ i < ss.length then pathB ss i.toNat else []
def proofA (ss : List ByteArray) (m : Int) : List ByteArray := if entB ss = true ∧ 1 ≤ m ∧ m ≤ ss.length then proofB m.toNat ss true else []
theorem pathA_len (ss : List ByteArray) (i : Int) : (pathA ss i).length ≤ 1024 := by
  unfold pathA; split
  · rename_i h
    have h1 := entB_len h.1
    have h2 := pathB_len ss i.toNat (by omega)
    omega
  · simp
theorem proofA_len (ss : List ByteArray) (m : Int) : (proofA ss m).length ≤ 1024 := by
  unfold proofA; split
  · rename_i h
    have h1 := entB_len h.1
    have h2 := proofB_len ss m.toNat (by omega) (by omega) true
    omega
  · simp
end Go.Proofs.YtonleickhincgaaGreatDoor
/-
  Included and Consistent as plain functions: 'incA', 'conA'.
-/
namespace Go.Proofs.YtonleickhincgaaGreatDoor
open Go.RowKit Go.Lib
set_option linter.unusedVariables false

theorem toList_inj' {x y : ByteArray} (h : (x.toList == y.toList) = true) : x = y := by
  rw [beq_iff_eq, ByteArray.toList_eq, ByteArray.toList_eq] at h; exact ByteArray.ext (Array.toList_inj.1 h)
def incA (leaf : ByteArray) (i n : Int) (ss : List ByteArray) (root : ByteArray) : Bool :=
  if 0 ≤ i ∧ i < n ∧ ss.length ≤ 63 ∧ leaf.size = 32 ∧ root.size = 32 ∧ wideB ss = true then decide (cl leaf (dirs i.toNat n.toNat) ss = some root) else false
end Go.Proofs.YtonleickhincgaaGreatDoor
/-
  The program's taker: its two closures, 'take' (what stands at the place, and the place goes on; nothing behind the last) and 'left' (how many are left).
  Conditions: the list's cells hold the texts; the two captured variables lie in blocks of their own.
-/
namespace Go.Proofs.YtonleickhincgaaGreatDoor
open Go.RowKit Go.Lib
set_option linter.unusedVariables false

/-- The list's box L and the place's box A, in memory that came behind W0; nothing that was there has turned. -/
structure TkS (W0 : World) (L A : Nat) (p : Option Addr) (ss : List ByteArray) (cap : Nat) (a : Nat) (w : World) : Prop where
  bel : Below W0.heap.size W0 w
  hL : W0.heap.size ≤ L
  hA : W0.heap.size ≤ A
  ne : L ≠ A
  list : w.heap[L]? = some (.cells #[.slice p ss.length cap] 25 (0, 0))
  place : w.heap[A]? = some (.cells #[.int .i64 (a : Int)] 3 (0, 0))
  le : a ≤ ss.length
theorem TkS.ltL {W0 : World} {L A : Nat} {p : Option Addr} {ss : List ByteArray} {cap a : Nat} {w : World} (h : TkS W0 L A p ss cap a w) : L < w.heap.size := lt_of_block h.list
theorem TkS.ltA {W0 : World} {L A : Nat} {p : Option Addr} {ss : List ByteArray} {cap a : Nat} {w : World} (h : TkS W0 L A p ss cap a w) : A < w.heap.size := lt_of_block h.place
theorem TkS.below {W0 : World} {L A : Nat} {p : Option Addr} {ss : List ByteArray} {cap a : Nat} {w w' : World} (h : TkS W0 L A p ss cap a w) (hb : Below w.heap.size w w') : TkS W0 L A p ss cap a w' :=
  ⟨h.bel.trans (hb.mono h.bel.size), h.hL, h.hA, h.ne, (hb.block _ h.ltL).trans h.list, (hb.block _ h.ltA).trans h.place, h.le⟩
theorem TkS.next {W0 : World} {L A : Nat} {p : Option Addr} {ss : List ByteArray} {cap a : Nat} {w : World} (h : TkS W0 L A p ss cap a w) (hlt : a < ss.length) : TkS W0 L A p ss cap (a + 1) (w.setCell ⟨A, 0, none⟩ (.int .i64 ((a : Int) + 1))) := by
  refine ⟨h.bel.setCell h.hA _, h.hL, h.hA, h.ne, ?_, ?_, by omega⟩
  · rw [show (w.setCell ⟨A, 0, none⟩ (.int .i64 ((a : Int) + 1))).heap[L]? = w.heap[L]? by simp [World.setCell, Array.getElem?_modify, h.ne.symm]]; exact h.list
  · rw [one_setCell h.place]; rfl

def takeF (L A : Nat) : Value := .func (.func 197) #[] #[.pointer (some ⟨A, 0, none⟩), .pointer (some ⟨L, 0, none⟩)]
def leftF (L A : Nat) : Value := .func (.func 198) #[] #[.pointer (some ⟨L, 0, none⟩), .pointer (some ⟨A, 0, none⟩)]

set_option maxHeartbeats 400000 in
theorem take_any (W0 : World) (L A : Nat) (p : Option Addr) (ss : List ByteArray) (cap a : Nat) (w : World) (hp : TxtAt W0 p ss) (hn : ss.length ≤ 1048576) (hcap : ss.length ≤ cap) (h : TkS W0 L A p ss cap a w) :
    Calls Tryz.prog 197 #[.pointer (some ⟨A, 0, none⟩), .pointer (some ⟨L, 0, none⟩)] w fun e w' => e = .returned (.string (tk ss a)) ∧ TkS W0 L A p ss cap (nx ss a) w' := by
  have HK : Hid (TkS W0 L A p ss cap a w) := h
  have c1 := cell_of_one h.list
  have c2 := cell_of_one h.place
  have f2 := free_of_one h.place
  have hle := h.le
  by_cases hlt : a < ss.length
  · have HT : Hid (tk ss a = ss[a]) := by show _ = _; unfold tk; simp [List.getElem?_eq_getElem hlt]
    have HN : Hid (nx ss a = a + 1) := if_pos hlt
    have HX : Hid (TkS W0 L A p ss cap (a + 1) (w.setCell ⟨A, 0, none⟩ (.int .i64 ((a : Int) + 1)))) := h.next hlt
    have q1 : ((a : Int) == (ss.length : Int)) = false := by simp; omega
    obtain ⟨b, off, rfl, hb, hc⟩ := hp a hlt
    have c3 : (w.setCell ⟨A, 0, none⟩ (.int .i64 ((a : Int) + 1))).cell? ⟨b, off + a, none⟩ = some (.string ss[a]) := by
      rw [HX.out.bel.cell (p := ⟨b, off + a, none⟩) hb]; exact hc
    have c4 := cell_of_one HX.out.list
    have c5 := cell_of_one HX.out.place
    rw [Int.natCast_add, Int.natCast_one] at c5
    clear h hp hc
    generalize ss[a] = x at *
    go_enter Tryz.func197, Tryz.ntmps197
    go_wp2
    go_ret
    exact ⟨ret_str HT.out.symm, by rw [HN.out]; exact HX.out⟩
  · have HT : Hid (tk ss a = ByteArray.empty) := tk_out hlt
    have HN : Hid (nx ss a = a) := if_neg hlt
    have q1 : ((a : Int) == (ss.length : Int)) = true := by simp; omega
    clear h hp
    go_enter Tryz.func197, Tryz.ntmps197
    go_wp2
    go_ret
    exact ⟨ret_str HT.out.symm, by rw [HN.out]; exact HK.out⟩
set_option maxHeartbeats 400000 in
theorem left_any (W0 : World) (L A : Nat) (p : Option Addr) (ss : List ByteArray) (cap a : Nat) (w : World) (hn : ss.length ≤ 1048576) (h : TkS W0 L A p ss cap a w) :
    Calls Tryz.prog 198 #[.pointer (some ⟨L, 0, none⟩), .pointer (some ⟨A, 0, none⟩)] w fun e w' => e = .returned (.int .i64 ((ss.length : Int) - a)) ∧ w' = w := by
  have c1 := cell_of_one h.list
  have c2 := cell_of_one h.place
  have hle := h.le
  clear h
  go_enter Tryz.func198, Tryz.ntmps198
  go_wp2
  go_ret
  exact ⟨rfl, rfl⟩
theorem hmf : ∀ (fn : Fn) (first cap : Array Value) (w : World), (Instr.makeFunc fn first cap).run Tryz.prog w = .ok (.func fn first cap) w := fun _ _ _ _ => rfl
theorem tkS_new (p : Option Addr) (ss : List ByteArray) (cap : Nat) (w : World) :
    TkS w w.heap.size (w.heap.size + 1) p ss cap 0 ((w.alloc (.cells #[.slice p ss.length cap] 25)).alloc (.cells #[.int .i64 0] 3)) := by
  have h1 := (MapKept.heap_alloc w (.cells #[.slice p ss.length cap] 25)).1
  have hs : (w.alloc (.cells #[.slice p ss.length cap] 25)).heap.size = w.heap.size + 1 := by simp
  have h2 := (MapKept.heap_alloc (w.alloc (.cells #[.slice p ss.length cap] 25)) (.cells #[.int .i64 0] 3)).1
  rw [hs] at h2
  refine ⟨((Below.refl _ _).alloc (Nat.le_refl _) _).alloc (by rw [hs]; omega) _, Nat.le_refl _, by omega, by omega, ?_, h2, by omega⟩
  exact (Below.heap_alloc _ _ _ (by rw [hs]; omega)).trans h1
set_option maxHeartbeats 400000 in
theorem taker_any (p : Option Addr) (ss : List ByteArray) (cap : Nat) (w : World) :
    Calls Tryz.prog 172 #[.slice p ss.length cap] w fun e w' => e = .returned (.tuple #[takeF w.heap.size (w.heap.size + 1), leftF w.heap.size (w.heap.size + 1)]) ∧ TkS w w.heap.size (w.heap.size + 1) p ss cap 0 w' := by
  have hm := hmf
  go_enter Tryz.func172, Tryz.ntmps172
  go_wp2
  go_ret2
  exact ⟨rfl, tkS_new p ss cap w⟩
end Go.Proofs.YtonleickhincgaaGreatDoor
/-
  The program's takePath and Included: what is taken, step by step, leads from the leaf to a tree; 'incB'.
  Conditions: the path's cells hold the texts; the two tables lie as the program's text lays them.
-/
namespace Go.Proofs.YtonleickhincgaaGreatDoor
open Go.RowKit Go.Lib
set_option linter.unusedVariables false
set_option maxRecDepth 20000

theorem nodeA_size (l r : ByteArray) : (nodeA l r).size ≤ 32 := by
  unfold nodeA; split
  · rw [nodeB_size]; omega
  · simp
theorem tk_size {ss : List ByteArray} (hs : ∀ x ∈ ss, x.size = 32) (a : Nat) : (tk ss a).size ≤ 32 := by
  by_cases h : a < ss.length
  · rw [(tk_of hs h).1]; omega
  · rw [tk_out h]; simp
theorem nx_le {ss : List ByteArray} {a : Nat} (h : a ≤ ss.length) : nx ss a ≤ ss.length := by unfold nx; split <;> omega
theorem foldP_size (ss : List ByteArray) (leaf : ByteArray) (hl : leaf.size ≤ 32) (ds : List Bool) : ∀ a, (ds.foldl (stepP ss) (leaf, a)).1.size ≤ 32 := by
  induction ds generalizing leaf with
  | nil => intro a; exact hl
  | cons d ds ih =>
    intro a
    rw [List.foldl_cons]
    refine ih _ ?_ _
    split <;> exact nodeA_size _ _

set_option maxHeartbeats 1000000 in
theorem takePath_any (N : Nat) : ∀ (W0 : World) (L A : Nat) (p : Option Addr) (ss : List ByteArray) (cap a i : Nat) (leaf : ByteArray) (w : World), Tabs W0 → TxtAt W0 p ss → ss.length ≤ 1048576 → ss.length ≤ cap → (∀ x ∈ ss, x.size = 32) →
    leaf.size ≤ 32 → i < N → N ≤ 9223372036854775807 → TkS W0 L A p ss cap a w →
    Calls Tryz.prog 173 #[.string leaf, .int .i64 (i : Int), .int .i64 (N : Int), takeF L A] w fun e w' => e = .returned (.string ((dirs i N).foldl (stepP ss) (leaf, a)).1) ∧ TkS W0 L A p ss cap ((dirs i N).foldl (stepP ss) (leaf, a)).2 w' := by
  induction N using Nat.strongRecOn with
  | _ N ih =>
  intro W0 L A p ss cap a i leaf w hT hp hn hcap h32 hleaf hi hN hK
  have HT : Hid (Tabs W0) := hT
  have HP : Hid (TxtAt W0 p ss) := hp
  have H32 : Hid (∀ x ∈ ss, x.size = 32) := h32
  have HK : Hid (TkS W0 L A p ss cap a w) := hK
  clear hT hp h32 hK
  unfold takeF at ih ⊢
  by_cases h2 : 2 ≤ N
  · have h1 := halfN_lt h2
    have h0 := halfN_pos N
    have hH := fun w => power_any N w h2 hN
    by_cases hik : i < halfN N
    · have I := ih (halfN N) h1 W0 L A p ss cap a i leaf w HT.out HP.out hn hcap H32.out hleaf hik (by omega) HK.out
      have z1 := foldP_size ss leaf hleaf (dirs i (halfN N)) a
      rw [dirs_left h2 hik, List.foldl_append]
      generalize (dirs i (halfN N)).foldl (stepP ss) (leaf, a) = S at *
      obtain ⟨T, a1⟩ := S
      have HS : Hid (nodeA T (tk ss a1) = (List.foldl (stepP ss) (T, a1) [false]).1 ∧ nx ss a1 = (List.foldl (stepP ss) (T, a1) [false]).2) := ⟨rfl, rfl⟩
      have z2 := tk_size H32.out a1
      dsimp only at I z1
      generalize halfN N = k at *
      clear ih
      go_enter Tryz.func173, Tryz.ntmps173
      go_wp2_with fail
      refine (hH _).mono ?_
      rintro e w1 ⟨rfl, hw1⟩
      subst hw1
      go_wp2_with fail
      refine I.mono ?_
      rintro e w2 ⟨rfl, K2⟩
      have HK2 : Hid (TkS W0 L A p ss cap a1 w2) := K2
      clear K2
      go_wp2_with fail
      refine (take_any W0 L A p ss cap a1 _ HP.out hn hcap HK2.out).mono ?_
      rintro e w3 ⟨rfl, K3⟩
      have HK3 : Hid (TkS W0 L A p ss cap (nx ss a1) w3) := K3
      clear K3
      generalize tk ss a1 = X at *
      go_wp2_with fail
      refine (implNode_any T X _ (HT.out.below HK3.out.bel HT.out.1) (by unfold maxLen; omega) (by unfold maxLen; omega)).mono ?_
      rintro e w4 ⟨rfl, b4⟩
      go_wp2_with fail
      go_ret
      exact ⟨ret_str HS.out.1, by rw [← HS.out.2]; exact HK3.out.below b4⟩
    · have I := ih (N - halfN N) (by omega) W0 L A p ss cap a (i - halfN N) leaf w HT.out HP.out hn hcap H32.out hleaf (by omega) (by omega) HK.out
      have z1 := foldP_size ss leaf hleaf (dirs (i - halfN N) (N - halfN N)) a
      rw [dirs_right h2 hik, List.foldl_append]
      generalize (dirs (i - halfN N) (N - halfN N)).foldl (stepP ss) (leaf, a) = S at *
      obtain ⟨T, a1⟩ := S
      have HS : Hid (nodeA (tk ss a1) T = (List.foldl (stepP ss) (T, a1) [true]).1 ∧ nx ss a1 = (List.foldl (stepP ss) (T, a1) [true]).2) := ⟨rfl, rfl⟩
      have z2 := tk_size H32.out a1
      dsimp only at I z1
      generalize halfN N = k at *
      rw [show (((i - k : Nat) : Int)) = (i : Int) - k by omega, show (((N - k : Nat) : Int)) = (N : Int) - k by omega] at I
      clear ih
      go_enter Tryz.func173, Tryz.ntmps173
      go_wp2_with fail
      refine (hH _).mono ?_
      rintro e w1 ⟨rfl, hw1⟩
      subst hw1
      go_wp2_with fail
      refine I.mono ?_
      rintro e w2 ⟨rfl, K2⟩
      have HK2 : Hid (TkS W0 L A p ss cap a1 w2) := K2
      clear K2
      go_wp2_with fail
      refine (take_any W0 L A p ss cap a1 _ HP.out hn hcap HK2.out).mono ?_
      rintro e w3 ⟨rfl, K3⟩
      have HK3 : Hid (TkS W0 L A p ss cap (nx ss a1) w3) := K3
      clear K3
      generalize tk ss a1 = X at *
      go_wp2_with fail
      refine (implNode_any X T _ (HT.out.below HK3.out.bel HT.out.1) (by unfold maxLen; omega) (by unfold maxLen; omega)).mono ?_
      rintro e w4 ⟨rfl, b4⟩
      go_wp2_with fail
      go_ret
      exact ⟨ret_str HS.out.1, by rw [← HS.out.2]; exact HK3.out.below b4⟩
  · have hN1 : N = 1 := by omega
    subst hN1
    have HD : Hid (dirs i 1 = []) := dirs_one (by omega)
    clear ih
    go_enter Tryz.func173, Tryz.ntmps173
    go_wp2
    go_ret
    rw [HD.out]
    exact ⟨rfl, HK.out⟩
end Go.Proofs.YtonleickhincgaaGreatDoor
/-
  Consistent as a plain function: 'conA'.
-/
namespace Go.Proofs.YtonleickhincgaaGreatDoor
open Go.RowKit Go.Lib
set_option linter.unusedVariables false

def conB (m n : Nat) (ss : List ByteArray) (was root : ByteArray) : Bool :=
  if lft (pd m n) = true then decide (cl2 was was (pd m n) ss = some (was, root))
  else match ss with
    | [] => false
    | s :: t => decide (cl2 s s (pd m n) t = some (was, root))
def conA (m n : Int) (ss : List ByteArray) (was root : ByteArray) : Bool :=
  if 1 ≤ m ∧ m ≤ n ∧ ss.length ≤ 64 ∧ was.size = 32 ∧ root.size = 32 ∧ wideB ss = true then conB m.toNat n.toNat ss was root else false
def startC (ss : List ByteArray) (ds : List Bool) (whole : ByteArray) (a : Nat) : ByteArray × ByteArray × Nat := ds.foldl (stepC ss) (seedC ss (if lft ds = true then whole else ByteArray.empty) a)
theorem conI {ss : List ByteArray} (hs : ∀ x ∈ ss, x.size = 32) {was root : ByteArray} (hw : was.size = 32) (hr : root.size = 32) (m n : Nat) :
    ((startC ss (pd m n) was 0).1 = was ∧ (startC ss (pd m n) was 0).2.1 = root ∧ (startC ss (pd m n) was 0).2.2 = ss.length) ↔ conB m n ss was root = true := by
  unfold startC conB
  by_cases hl : lft (pd m n) = true
  · rw [if_pos hl, if_pos hl, show seedC ss was 0 = (was, was, 0) from if_neg (by omega), decide_eq_true_iff]
    have := foldC hs (was := was) hr (pd m n) was was 0 hw hw (Nat.zero_le _)
    rwa [List.drop_zero] at this
  · rw [if_neg hl, if_neg hl, show seedC ss ByteArray.empty 0 = (tk ss 0, tk ss 0, nx ss 0) from if_pos rfl]
    match ss, hs with
    | [], _ =>
      constructor
      · rintro ⟨_, h, _⟩
        rw [show tk ([] : List ByteArray) 0 = ByteArray.empty from rfl, stepC_empty] at h
        rw [← h] at hr; simp at hr
      · intro h; cases h
    | s :: t, hs =>
      have h1 : s.size = 32 := hs s (by simp)
      rw [show tk (s :: t) 0 = s from rfl, show nx (s :: t) 0 = 1 from by simp [nx], decide_eq_true_iff]
      have := foldC hs (was := was) hr (pd m n) s s 1 h1 h1 (by simp)
      rwa [List.drop_succ_cons, List.drop_zero] at this
theorem stepC_size {ss : List ByteArray} (s : ByteArray × ByteArray × Nat) (d : Bool) (h : s.1.size ≤ 32) : (stepC ss s d).1.size ≤ 32 ∧ (stepC ss s d).2.1.size ≤ 32 := by
  unfold stepC
  cases d
  · exact ⟨h, nodeA_size _ _⟩
  · exact ⟨nodeA_size _ _, nodeA_size _ _⟩
theorem foldC_size {ss : List ByteArray} (ds : List Bool) : ∀ (s : ByteArray × ByteArray × Nat), s.1.size ≤ 32 → s.2.1.size ≤ 32 → (ds.foldl (stepC ss) s).1.size ≤ 32 ∧ (ds.foldl (stepC ss) s).2.1.size ≤ 32 := by
  induction ds with
  | nil => exact fun s h1 h2 => ⟨h1, h2⟩
  | cons d ds ih => exact fun s h1 h2 => ih _ (stepC_size s d h1).1 (stepC_size s d h1).2
theorem seedC_size {ss : List ByteArray} (hs : ∀ x ∈ ss, x.size = 32) {whole : ByteArray} (hw : whole.size ≤ 32) (a : Nat) : (seedC ss whole a).1.size ≤ 32 ∧ (seedC ss whole a).2.1.size ≤ 32 := by
  unfold seedC; split
  · exact ⟨tk_size hs a, tk_size hs a⟩
  · exact ⟨hw, hw⟩
theorem startC_size {ss : List ByteArray} (hs : ∀ x ∈ ss, x.size = 32) (ds : List Bool) {whole : ByteArray} (hw : whole.size ≤ 32) (a : Nat) : (startC ss ds whole a).1.size ≤ 32 ∧ (startC ss ds whole a).2.1.size ≤ 32 := by
  have h0 : (if lft ds = true then whole else ByteArray.empty).size ≤ 32 := by split; exact hw; simp
  unfold startC
  exact foldC_size ds _ (seedC_size hs h0 a).1 (seedC_size hs h0 a).2
theorem startC_left (ss : List ByteArray) (ds : List Bool) (whole : ByteArray) (a : Nat) : startC ss (ds ++ [false]) whole a = stepC ss (startC ss ds whole a) false := by
  unfold startC; rw [lft_false, List.foldl_append]; rfl
theorem startC_right (ss : List ByteArray) (ds : List Bool) (whole : ByteArray) (a : Nat) : startC ss (ds ++ [true]) whole a = stepC ss (startC ss ds ByteArray.empty a) true := by
  unfold startC; rw [lft_true, List.foldl_append, ite_self]; rfl
/-- What the specification goes along: was ahead of the proof, if old is a power of two. -/
def conL (m n : Nat) (ss : List ByteArray) (was : ByteArray) : List ByteArray := if lft (pd m n) = true then was :: ss else ss
theorem conB_of {m n : Nat} {ss : List ByteArray} {was root : ByteArray} : conB m n ss was root = match conL m n ss was with
    | [] => false
    | s :: t => decide (cl2 s s (pd m n) t = some (was, root)) := by
  unfold conB conL
  by_cases hl : lft (pd m n) = true
  · rw [if_pos hl, if_pos hl]
  · rw [if_neg hl, if_neg hl]
end Go.Proofs.YtonleickhincgaaGreatDoor
/-
  The laws of paths and proofs as the program's functions say them: what pathA and proofA hold is 32 bytes wide; incA and conA are true of them.
-/
namespace Go.Proofs.YtonleickhincgaaGreatDoor
open Go.RowKit Go.Lib
set_option linter.unusedVariables false

theorem pathB_wide (l : List ByteArray) (i : Nat) : ∀ x ∈ pathB l i, x.size = 32 := by
  induction hn : l.length using Nat.strongRecOn generalizing l i with
  | _ n ih =>
    subst hn
    intro x hx
    by_cases h2 : 2 ≤ l.length
    · have hlt := halfN_lt h2
      have hp := halfN_pos l.length
      by_cases hi : i < halfN l.length
      · rw [pathB_left h2 hi] at hx
        rcases List.mem_append.1 hx with h | h
        · exact ih (halfN l.length) hlt (l.take (halfN l.length)) i (by simp; omega) x h
        · rw [List.mem_singleton.1 h]; exact treeB_size _
      · rw [pathB_right h2 hi] at hx
        rcases List.mem_append.1 hx with h | h
        · exact ih (l.length - halfN l.length) (by omega) (l.drop (halfN l.length)) (i - halfN l.length) (by simp) x h
        · rw [List.mem_singleton.1 h]; exact treeB_size _
    · rw [pathB_one h2] at hx; simp at hx
theorem proofB_wide (l : List ByteArray) (m : Nat) (h1 : 1 ≤ m) (hm : m ≤ l.length) (whole : Bool) : ∀ x ∈ proofB m l whole, x.size = 32 := by
  induction hn : l.length using Nat.strongRecOn generalizing l m whole with
  | _ n ih =>
    subst hn
    intro x hx
    by_cases he : m = l.length
    · rw [proofB_all he] at hx
      split at hx
      · simp at hx
      · rw [List.mem_singleton.1 hx]; exact treeB_size _
    · have h2 : 2 ≤ l.length := by omega
      have hlt := halfN_lt h2
      have hp := halfN_pos l.length
      by_cases hi : m ≤ halfN l.length
      · rw [proofB_left h2 he hi] at hx
        rcases List.mem_append.1 hx with h | h
        · exact ih (halfN l.length) hlt (l.take (halfN l.length)) m h1 (by simp; omega) whole (by simp; omega) x h
        · rw [List.mem_singleton.1 h]; exact treeB_size _
      · rw [proofB_right h2 he hi] at hx
        rcases List.mem_append.1 hx with h | h
        · exact ih (l.length - halfN l.length) (by omega) (l.drop (halfN l.length)) (m - halfN l.length) (by omega) (by simp; omega) false (by simp) x h
        · rw [List.mem_singleton.1 h]; exact treeB_size _
theorem pathA_wide (ss : List ByteArray) (i : Int) : ∀ x ∈ pathA ss i, x.size = 32 := by
  intro x hx; unfold pathA at hx; split at hx
  · exact pathB_wide _ _ x hx
  · simp at hx
theorem proofA_wide (ss : List ByteArray) (m : Int) : ∀ x ∈ proofA ss m, x.size = 32 := by
  intro x hx; unfold proofA at hx; split at hx
  · rename_i h; exact proofB_wide _ _ (by omega) (by omega) _ x hx
  · simp at hx
theorem pathA_few (ss : List ByteArray) (i : Int) : (pathA ss i).length ≤ 63 := by
  unfold pathA; split
  · rename_i h
    have h1 := entB_len h.1
    have h2 := pathB_len ss i.toNat (by omega)
    omega
  · simp
theorem proofA_few (ss : List ByteArray) (m : Int) : (proofA ss m).length ≤ 64 := by
  unfold proofA; split
  · rename_i h
    have h1 := entB_len h.1
    have h2 := proofB_len ss m.toNat (by omega) (by omega) true
    omega
  · simp
theorem wideB_of {ss : List ByteArray} (h : ∀ x ∈ ss, x.size = 32) : wideB ss = true := wideB_true fun j hj => h _ (List.getElem_mem hj)
theorem entB_take {ss : List ByteArray} (h : entB ss = true) (m : Nat) : entB (ss.take m) = true :=
  entB_true (by have := entB_len h; simp; omega) fun j hj => entB_all h _ (List.mem_of_mem_take (List.getElem_mem hj))
theorem treeA_of {ss : List ByteArray} (h : entB ss = true) : treeA ss = treeB ss := by unfold treeA; rw [h]; rfl
theorem treeA_le (ss : List ByteArray) : (treeA ss).size ≤ 32 := by
  unfold treeA; split
  · rw [treeB_size]; omega
  · simp
theorem treeA_ent {ss : List ByteArray} (h : treeA ss ≠ ByteArray.empty) : entB ss = true := by
  by_cases he : entB ss = true
  · exact he
  · exact absurd (by unfold treeA; simp [he]) h

/-- P4: each entry is included by its path. -/
theorem inc_true {ss : List ByteArray} (h : entB ss = true) (i : Nat) (hi : i < ss.length) : incA (leafB ss[i]) i ss.length (pathA ss i) (treeA ss) = true := by
  have e1 : pathA ss (i : Int) = pathB ss i := by unfold pathA; rw [if_pos ⟨h, by omega, by omega⟩]; simp
  have hw := pathA_wide ss i
  have hf := pathA_few ss i
  unfold incA
  rw [if_pos ⟨by omega, by omega, hf, leafB_size _, by rw [treeA_of h]; exact treeB_size _, wideB_of hw⟩, e1, treeA_of h]
  simpa using path_law ss i hi
/-- P5: the first ones are told by their proof to be the beginning of all. -/
theorem con_true {ss : List ByteArray} (h : entB ss = true) (m : Nat) (h1 : 1 ≤ m) (hm : m ≤ ss.length) : conA m ss.length (proofA ss m) (treeA (ss.take m)) (treeA ss) = true := by
  have e1 : proofA ss (m : Int) = proofB m ss true := by unfold proofA; rw [if_pos ⟨h, by omega, by omega⟩]; simp
  have hw := proofA_wide ss m
  have hf := proofA_few ss m
  unfold conA
  rw [if_pos ⟨by omega, by omega, hf, by rw [treeA_of (entB_take h m)]; exact treeB_size _, by rw [treeA_of h]; exact treeB_size _, wideB_of hw⟩, e1, treeA_of h, treeA_of (entB_take h m)]
  obtain ⟨s, ps, h2, h3⟩ := proof_law ss m h1 hm true
  unfold conB
  simp only [Int.toNat_natCast]
  by_cases hl : lft (pd m ss.length) = true
  · simp only [hl, Bool.and_self, if_true] at h2
    rw [if_pos hl, h2.2, decide_eq_true_iff, ← h2.1]
    rw [← h2.1] at h3; exact h3
  · simp only [hl, Bool.and_false, if_false, Bool.false_eq_true] at h2
    rw [if_neg hl, h2]
    simpa using h3
end Go.Proofs.YtonleickhincgaaGreatDoor
/-
  Signatures as plain functions: steps, keys, digits, what is signed and what is verified; what is signed is verified under the seed's root (P6).
-/
namespace Go.Proofs.YtonleickhincgaaGreatDoor
open Go.RowKit Go.Lib
set_option linter.unusedVariables false

def stepsB : Nat → ByteArray → ByteArray
  | 0, t => t
  | n + 1, t => stepsB n (digB t)
theorem stepsB_add (a b : Nat) : ∀ t, stepsB (a + b) t = stepsB b (stepsB a t) := by
  induction a with
  | zero => intro t; rw [Nat.zero_add]; rfl
  | succ a ih => intro t; rw [show a + 1 + b = (a + b) + 1 by omega]; exact ih (digB t)
theorem stepsB_size (n : Nat) : ∀ t : ByteArray, t.size = 32 → (stepsB n t).size = 32 := by
  induction n with
  | zero => intro t h; exact h
  | succ n ih => intro t h; exact ih _ (digB_size t)
theorem putI_le (f : Nat) : ∀ u, (putI f u).length ≤ f + 1 := by
  induction f with
  | zero => intro u; simp [putI]
  | succ f ih =>
    intro u
    have := ih (u / 128)
    unfold putI; split <;> simp <;> omega
theorem putB_le (i : Int) : (putB i).size ≤ 10 := by
  unfold putB; rw [strOfNums_size]; exact putI_le 9 _
theorem putB2_size (i j : Int) : (putB i ++ putB j).size ≤ 20 := by
  have h1 := putI_le 9 (foldN i)
  have h2 := putI_le 9 (foldN j)
  rw [ByteArray.size_append]
  unfold putB
  rw [strOfNums_size, strOfNums_size]; omega
def begB (seed : ByteArray) (i j : Int) : ByteArray := macB seed (putB i ++ putB j)
theorem begB_size (seed : ByteArray) (i j : Int) : (begB seed i j).size = 32 := digB_size _
def catB (f : Nat → ByteArray) : Nat → ByteArray
  | 0 => ByteArray.empty
  | n + 1 => catB f n ++ f n
theorem catB_size (f : Nat → ByteArray) (n : Nat) (h : ∀ j, j < n → (f j).size = 32) : (catB f n).size = 32 * n := by
  induction n with
  | zero => rfl
  | succ n ih =>
    show (catB f n ++ f n).size = _
    rw [ByteArray.size_append, ih (fun j hj => h j (by omega)), h n (by omega)]; omega
theorem catB_congr (f g : Nat → ByteArray) (n : Nat) (h : ∀ j, j < n → f j = g j) : catB f n = catB g n := by
  induction n with
  | zero => rfl
  | succ n ih =>
    show catB f n ++ f n = catB g n ++ g n
    rw [ih (fun j hj => h j (by omega)), h n (by omega)]
/-- Chain j of key i, behind all its steps. -/
def topB (seed : ByteArray) (i : Int) (j : Nat) : ByteArray := stepsB 15 (begB seed i j)
theorem topB_size (seed : ByteArray) (i : Int) (j : Nat) : (topB seed i j).size = 32 := stepsB_size _ _ (begB_size _ _ _)
def pubB (seed : ByteArray) (i : Nat) : ByteArray := digB (catB (topB seed i) 6)
theorem pubB_size (seed : ByteArray) (i : Nat) : (pubB seed i).size = 32 := digB_size _
def pubsTo (seed : ByteArray) (k : Nat) : List ByteArray := (List.range k).map (pubB seed)
def pubsB (seed : ByteArray) : List ByteArray := pubsTo seed 4
theorem pubsTo_step (seed : ByteArray) (k : Nat) : pubsTo seed (k + 1) = pubsTo seed k ++ [pubB seed k] := by simp [pubsTo, List.range_succ]
theorem pubsTo_len (seed : ByteArray) (k : Nat) : (pubsTo seed k).length = k := by simp [pubsTo]
theorem pubsTo_wide (seed : ByteArray) (k : Nat) : ∀ x ∈ pubsTo seed k, x.size = 32 := by
  intro x hx
  obtain ⟨i, _, rfl⟩ := List.mem_map.1 hx
  exact pubB_size _ _
theorem pubsB_ent (seed : ByteArray) : entB (pubsB seed) = true := by
  refine entB_true (by rw [pubsB, pubsTo_len]; omega) (fun j h => ?_)
  rw [pubsTo_wide seed 4 _ (List.getElem_mem h)]; omega
def seedB (seed : ByteArray) : Bool := decide (1 ≤ seed.size ∧ seed.size ≤ 64)
def rootA (seed : ByteArray) : ByteArray := if seedB seed = true then treeB (pubsB seed) else ByteArray.empty

/-- The digits of a text. -/
def digsI (t : ByteArray) : List Int :=
  let a := byteAt (digB t) 0
  let b := byteAt (digB t) 1
  let r := 60 - a / 16 - a % 16 - b / 16 - b % 16
  [a / 16, a % 16, b / 16, b % 16, r / 16, r % 16]
def dg (t : ByteArray) (j : Nat) : Int := (digsI t).getD j 0
theorem dg_bd (t : ByteArray) (j : Nat) (hj : j < 6) : 0 ≤ dg t j ∧ dg t j ≤ 15 := by
  have h0 := byteAt_bd (digB t) 0
  have h1 := byteAt_bd (digB t) 1
  unfold dg digsI
  generalize byteAt (digB t) 0 = a at *
  generalize byteAt (digB t) 1 = b at *
  match j, hj with
  | 0, _ => simp; omega
  | 1, _ => simp; omega
  | 2, _ => simp; omega
  | 3, _ => simp; omega
  | 4, _ => simp; omega
  | 5, _ => simp; omega
  | j + 6, h => omega
theorem digsI_len (t : ByteArray) : (digsI t).length = 6 := rfl

/-- What Ends hold of the first k chains. -/
def endsTo (seed : ByteArray) (key : Int) (text : ByteArray) (k : Nat) : List ByteArray := (List.range k).map fun j => stepsB (dg text j).toNat (begB seed key j)
theorem endsTo_step (seed : ByteArray) (key : Int) (text : ByteArray) (k : Nat) : endsTo seed key text (k + 1) = endsTo seed key text k ++ [stepsB (dg text k).toNat (begB seed key k)] := by simp [endsTo, List.range_succ]
theorem endsTo_len (seed : ByteArray) (key : Int) (text : ByteArray) (k : Nat) : (endsTo seed key text k).length = k := by simp [endsTo]
theorem endsTo_wide (seed : ByteArray) (key : Int) (text : ByteArray) (k : Nat) : ∀ x ∈ endsTo seed key text k, x.size = 32 := by
  intro x hx
  obtain ⟨j, _, rfl⟩ := List.mem_map.1 hx
  exact stepsB_size _ _ (begB_size _ _ _)
theorem endsTo_get (seed : ByteArray) (key : Int) (text : ByteArray) (k j : Nat) (h : j < k) : (endsTo seed key text k).getD j ByteArray.empty = stepsB (dg text j).toNat (begB seed key j) := by
  simp [endsTo, List.getD_eq_getElem?_getD, h]

def signOk (seed : ByteArray) (key : Int) (text : ByteArray) : Bool := seedB seed && (decide (0 ≤ key ∧ key ≤ 3) && decide (text.size ≤ 8000))
def sgK (seed : ByteArray) (key : Int) (text : ByteArray) : Int := if signOk seed key text = true then key else 0
def sgE (seed : ByteArray) (key : Int) (text : ByteArray) : List ByteArray := if signOk seed key text = true then endsTo seed key text 6 else []
def sgP (seed : ByteArray) (key : Int) (text : ByteArray) : List ByteArray := if signOk seed key text = true then pathB (pubsB seed) key.toNat else []

/-- The first k Ends, taken to their tops, one behind the other. -/
def upTo (text : ByteArray) (ends : List ByteArray) (k : Nat) : ByteArray := catB (fun j => stepsB (15 - dg text j).toNat (ends.getD j ByteArray.empty)) k
theorem upTo_step (text : ByteArray) (ends : List ByteArray) (k : Nat) : upTo text ends (k + 1) = upTo text ends k ++ stepsB (15 - dg text k).toNat (ends.getD k ByteArray.empty) := rfl
def verA (root text : ByteArray) (key : Int) (ends path : List ByteArray) : Bool :=
  if sgnB key ends path = true ∧ root.size = 32 ∧ text.size ≤ 8000 then incA (leafB (digB (upTo text ends 6))) key 4 path root else false

theorem pathB_two (l : List ByteArray) (h : l.length = 2) (i : Nat) (hi : i < 2) : (pathB l i).length = 1 := by
  have h2 : halfN l.length = 1 := by rw [h]; exact halfN_unique (n := 2) (j := 0) (by omega) (by omega)
  by_cases hl : i < halfN l.length
  · rw [pathB_left (by omega) hl, pathB_one (by simp; omega)]; simp
  · rw [pathB_right (by omega) hl, pathB_one (by simp; omega)]; simp
theorem pathB_four (l : List ByteArray) (h : l.length = 4) (i : Nat) (hi : i < 4) : (pathB l i).length = 2 := by
  have h2 : halfN l.length = 2 := by rw [h]; exact halfN_unique (n := 4) (j := 1) (by omega) (by omega)
  by_cases hl : i < halfN l.length
  · rw [pathB_left (by omega) hl, List.length_append, pathB_two _ (by simp; omega) _ (by omega)]; simp
  · rw [pathB_right (by omega) hl, List.length_append, pathB_two _ (by simp; omega) _ (by omega)]; simp
theorem pubsB_len (seed : ByteArray) : (pubsB seed).length = 4 := pubsTo_len seed 4
theorem signOk_parts {seed : ByteArray} {key : Int} {text : ByteArray} (h : signOk seed key text = true) : seedB seed = true ∧ (0 ≤ key ∧ key ≤ 3) ∧ text.size ≤ 8000 := by
  unfold signOk at h
  rw [Bool.and_eq_true, Bool.and_eq_true, decide_eq_true_iff, decide_eq_true_iff] at h
  exact h
/-- What is signed is right. -/
theorem sign_right (seed : ByteArray) (key : Int) (text : ByteArray) : sgnB (sgK seed key text) (sgE seed key text) (sgP seed key text) = signOk seed key text := by
  cases h : signOk seed key text with
  | true =>
    obtain ⟨_, hk, _⟩ := signOk_parts h
    unfold sgK sgE sgP
    rw [if_pos h, if_pos h, if_pos h]
    unfold sgnB
    rw [decide_eq_true hk, endsTo_len, pathB_four _ (pubsB_len seed) _ (by omega), wideB_of (endsTo_wide seed key text 6), wideB_of (pathB_wide _ _)]
    rfl
  | false =>
    have hn : ¬ signOk seed key text = true := by rw [h]; exact Bool.false_ne_true
    unfold sgK sgE sgP
    rw [if_neg hn, if_neg hn, if_neg hn]
    rfl
/-- P6: what is signed is verified under the seed's root. -/
theorem sign_true {seed : ByteArray} {key : Int} {text : ByteArray} (h : signOk seed key text = true) : verA (rootA seed) text (sgK seed key text) (sgE seed key text) (sgP seed key text) = true := by
  obtain ⟨hs, hk, ht⟩ := signOk_parts h
  obtain ⟨i, rfl⟩ := Int.eq_ofNat_of_zero_le hk.1
  have hr := sign_right seed i text
  rw [h] at hr
  have hroot : rootA seed = treeB (pubsB seed) := if_pos hs
  unfold verA
  rw [if_pos ⟨hr, by rw [hroot, treeB_size], ht⟩, hroot]
  unfold sgK sgE sgP
  rw [if_pos h, if_pos h, if_pos h, Int.toNat_natCast]
  have hup : upTo text (endsTo seed i text 6) 6 = catB (topB seed i) 6 := by
    refine catB_congr _ _ _ (fun j hj => ?_)
    obtain ⟨b0, b1⟩ := dg_bd text j hj
    show stepsB (15 - dg text j).toNat ((endsTo seed i text 6).getD j ByteArray.empty) = stepsB 15 (begB seed i j)
    rw [endsTo_get _ _ _ _ _ hj, ← stepsB_add, show (dg text j).toNat + (15 - dg text j).toNat = 15 by omega]
  rw [hup]
  have hi : i < (pubsB seed).length := by rw [pubsB_len]; omega
  have hg : (pubsB seed)[i] = pubB seed i := by simp [pubsB, pubsTo]
  have hI := inc_true (pubsB_ent seed) i hi
  rw [hg, pubsB_len] at hI
  have hp : pathA (pubsB seed) (i : Int) = pathB (pubsB seed) i := by
    unfold pathA; rw [if_pos ⟨pubsB_ent seed, by omega, by rw [pubsB_len]; omega⟩, Int.toNat_natCast]
  have ht : treeA (pubsB seed) = treeB (pubsB seed) := if_pos (pubsB_ent seed)
  rw [hp, ht] at hI
  exact hI
end Go.Proofs.YtonleickhincgaaGreatDoor
