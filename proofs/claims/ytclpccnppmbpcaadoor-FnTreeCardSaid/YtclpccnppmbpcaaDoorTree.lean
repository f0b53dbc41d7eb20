/-
  The program's treeOf and the specification's l03Tree: the tree of entries, 'treeB'.
  Conditions: the slice's cells hold the entries, each of at most 100 bytes, at most 2^47 of them; for the program's half the two tables lie as the program's text lays them.
-/
import Derived.Test.YtclpccnppmbpcaaDoorRows
import Derived.Test.YtclpccnppmbpcaaDoorBytes
import Derived.Test.YtclpccnppmbpcaaDoorTreeMath
import Derived.Test.YtclpccnppmbpcaaDoorSlA
import Derived.Test.YtclpccnppmbpcaaDoorPower
import Derived.Test.YtclpccnppmbpcaaDoorHalves
import Derived.Test.YtclpccnppmbpcaaDoorLeafNode
import Derived.Handy
import Derived.Deep.QuietTactic
import Derived.BigQuiet
namespace Go.Proofs.YtclpccnppmbpcaaDoor
open Go.RowKit Go.Lib
set_option linter.unusedVariables false
set_option maxRecDepth 20000

theorem leafA_of {t : ByteArray} (h : t.size ≤ 100) : leafA t = leafB t := if_pos h

set_option maxHeartbeats 1000000 in
theorem treeI_any (N : Nat) : ∀ (p : Option Addr) (cap : Nat) (ss : List ByteArray) (w : World), ss.length = N → Tabs w → TxtAt w p ss → ss.length ≤ 140737488355328 → ss.length ≤ cap → (∀ x ∈ ss, x.size ≤ 100) →
    Calls Tryd.prog 64 #[.slice p ss.length cap] w fun e w' => e = .returned (.string (treeB ss)) ∧ Below w.heap.size w w' := by
  induction N using Nat.strongRecOn with
  | _ N ih =>
  intro p cap ss w hN hT hp hn hcap h100
  subst hN
  have HT : Hid (Tabs w) := hT
  have HP : Hid (TxtAt w p ss) := hp
  have HX : Hid (∀ x ∈ ss, x.size ≤ 100) := h100
  clear hT hp h100
  by_cases h2 : 2 ≤ ss.length
  · obtain ⟨b, off, rfl, hb, _⟩ := HP.out 0 (by omega)
    have h1 := halfN_lt h2
    have h0 := halfN_pos ss.length
    have l1 : (ss.take (halfN ss.length)).length = halfN ss.length := by simp; omega
    have l2 : (ss.drop (halfN ss.length)).length = ss.length - halfN ss.length := by simp
    have HB : Hid (nodeA (treeB (ss.take (halfN ss.length))) (treeB (ss.drop (halfN ss.length))) = treeB ss) := by
      show _ = _
      rw [treeB_two h2, nodeA_of (treeB_size _) (treeB_size _)]
    have z1 := treeB_size (ss.take (halfN ss.length))
    have z2 := treeB_size (ss.drop (halfN ss.length))
    have I1 : Hid (∀ w', Below w.heap.size w w' → Calls Tryd.prog 64 #[.slice (some ⟨b, off, none⟩) (halfN ss.length) (halfN ss.length)] w' fun e w'' => e = .returned (.string (treeB (ss.take (halfN ss.length)))) ∧ Below w'.heap.size w' w'') := by
      intro w' hbl
      have := ih _ (by omega) (some ⟨b, off, none⟩) (halfN ss.length) (ss.take (halfN ss.length)) w' l1 (HT.out.below hbl HT.out.1) ((HP.out.below hbl).take _) (by omega) (by omega) (fun x hx => HX.out x (List.mem_of_mem_take hx))
      rwa [l1] at this
    have I2 : Hid (∀ w', Below w.heap.size w w' → Calls Tryd.prog 64 #[.slice (some ⟨b, off + halfN ss.length, none⟩) (ss.length - halfN ss.length) (ss.length - halfN ss.length)] w' fun e w'' => e = .returned (.string (treeB (ss.drop (halfN ss.length)))) ∧ Below w'.heap.size w' w'') := by
      intro w' hbl
      have := ih _ (by omega) (some ⟨b, off + halfN ss.length, none⟩) (ss.length - halfN ss.length) (ss.drop (halfN ss.length)) w' l2 (HT.out.below hbl HT.out.1) ((HP.out.below hbl).drop _) (by omega) (by omega) (fun x hx => HX.out x (List.mem_of_mem_drop hx))
      rwa [l2] at this
    have hH := fun w => halves_any b off ss.length cap w h2 hn hcap
    clear l1 l2
    generalize treeB (ss.take (halfN ss.length)) = T1 at *
    generalize treeB (ss.drop (halfN ss.length)) = T2 at *
    generalize halfN ss.length = k at *
    clear ih
    go_enter Tryd.func64, Tryd.ntmps64
    go_wp2_with fail
    refine (hH _).mono ?_
    rintro e w1 ⟨rfl, b1⟩
    go_wp2_with fail
    refine (I1.out _ b1).mono ?_
    rintro e w2 ⟨rfl, b2⟩
    have b2 := chainB b1 b2
    go_wp2_with fail
    refine (I2.out _ b2).mono ?_
    rintro e w3 ⟨rfl, b3⟩
    have b3 := chainB b2 b3
    go_wp2_with fail
    refine (implNode_any T1 T2 _ (HT.out.below b3 HT.out.1) (by unfold maxLen; omega) (by unfold maxLen; omega)).mono ?_
    rintro e w4 ⟨rfl, b4⟩
    go_wp2_with fail
    go_ret
    exact ⟨ret_str HB.out, chainB b3 b4⟩
  · by_cases h1 : ss.length = 1
    · obtain ⟨x, rfl⟩ := List.length_eq_one_iff.1 h1
      obtain ⟨b, off, rfl, hb, hc⟩ := HP.out 0 (by simp)
      have hx := HX.out x (by simp)
      have HB : Hid (leafA x = treeB [x]) := by show _ = _; rw [treeB_one, leafA_of hx]
      have hc0 : w.cell? ⟨b, off, none⟩ = some (.string x) := by simpa using hc
      clear ih hc hcap
      have hcall := implLeaf_any x w HT.out (by unfold maxLen; omega)
      rw [HB.out] at hcall
      rw [List.length_singleton] at *
      go_enter Tryd.func64, Tryd.ntmps64
      go_wp2_with fail
      refine hcall.mono ?_
      rintro e w1 ⟨rfl, b1⟩
      go_wp2_with fail
      go_ret
      exact ⟨rfl, b1⟩
    · obtain rfl : ss = [] := List.length_eq_zero_iff.1 (by omega)
      have HB : Hid (digB ByteArray.empty = treeB []) := treeB_nil.symm
      have hcall := digI_any ByteArray.empty w (by simp) HT.out
      rw [HB.out] at hcall
      clear ih hcap HP HX
      rw [List.length_nil]
      go_enter Tryd.func64, Tryd.ntmps64
      go_wp2_with fail
      refine hcall.mono ?_
      rintro e w1 ⟨rfl, b1⟩
      go_wp2_with fail
      go_ret
      exact ⟨rfl, b1⟩
end Go.Proofs.YtclpccnppmbpcaaDoor
