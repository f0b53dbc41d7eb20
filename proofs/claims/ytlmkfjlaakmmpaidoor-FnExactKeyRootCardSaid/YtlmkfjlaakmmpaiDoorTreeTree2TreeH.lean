/-
  Parts of one proof, laid as one text: Tree, Tree2, TreeH; what each says stands at its head.
-/
import Derived.Test.YtlmkfjlaakmmpaiDoorRows
import Derived.Test.YtlmkfjlaakmmpaiDoorBytes
import Derived.Test.YtlmkfjlaakmmpaiDoorTreeMath
import Derived.Test.YtlmkfjlaakmmpaiDoorSlA
import Derived.Test.YtlmkfjlaakmmpaiDoorPowerHalves
import Derived.Test.YtlmkfjlaakmmpaiDoorLeafNode
import Derived.Handy
import Derived.Deep.QuietTactic
import Derived.BigQuiet
/-
  The program's treeOf and the specification's l03Tree: the tree of entries, 'treeB'.
  Conditions: the slice's cells hold the entries, each of at most 100 bytes, at most 2^47 of them; for the program's half the two tables lie as the program's text lays them.
-/
namespace Go.Proofs.YtlmkfjlaakmmpaiDoor
open Go.RowKit Go.Lib
set_option linter.unusedVariables false
set_option maxRecDepth 20000

theorem leafA_of {t : ByteArray} (h : t.size ≤ 100) : leafA t = leafB t := if_pos h

set_option maxHeartbeats 1000000 in
theorem treeI_any (N : Nat) : ∀ (p : Option Addr) (cap : Nat) (ss : List ByteArray) (w : World), ss.length = N → Tabs w → TxtAt w p ss → ss.length ≤ 140737488355328 → ss.length ≤ cap → (∀ x ∈ ss, x.size ≤ 100) →
    Calls Tryd.prog 49 #[.slice p ss.length cap] w fun e w' => e = .returned (.string (treeB ss)) ∧ Below w.heap.size w w' := by
  induction N using Nat.strongRecOn with
  | _ N ih =>
  intro p cap ss w hN hT hp hn hcap h100
  subst hN
  have HT : Hid (Tabs w) := hT
  have HP : Hid (TxtAt w p ss) := hp
  have HX : Hid (∀ x ∈ ss, x.size ≤ 100) := h100
  clear hT hp h100
  by_cases h2 : 2 ≤ ss.length
  · obtain ⟨b, off, rfl, hb, _⟩ := HP.out 0 (by omega)
    have h1 := halfN_lt h2
    have h0 := halfN_pos ss.length
    have l1 : (ss.take (halfN ss.length)).length = halfN ss.length := by simp; omega
    have l2 : (ss.drop (halfN ss.length)).length = ss.length - halfN ss.length := by simp
    have HB : Hid (nodeA (treeB (ss.take (halfN ss.length))) (treeB (ss.drop (halfN ss.length))) = treeB ss) := by
      show _ = _
      rw [treeB_two h2, nodeA_of (treeB_size _) (treeB_size _)]
    have z1 := treeB_size (ss.take (halfN ss.length))
    have z2 := treeB_size (ss.drop (halfN ss.length))
    have I1 : Hid (∀ w', Below w.heap.size w w' → Calls Tryd.prog 49 #[.slice (some ⟨b, off, none⟩) (halfN ss.length) (halfN ss.length)] w' fun e w'' => e = .returned (.string (treeB (ss.take (halfN ss.length)))) ∧ Below w'.heap.size w' w'') := by
      intro w' hbl
      have := ih _ (by omega) (some ⟨b, off, none⟩) (halfN ss.length) (ss.take (halfN ss.length)) w' l1 (HT.out.below hbl HT.out.1) ((HP.out.below hbl).take _) (by omega) (by omega) (fun x hx => HX.out x (List.mem_of_mem_take hx))
      rwa [l1] at this
    have I2 : Hid (∀ w', Below w.heap.size w w' → Calls Tryd.prog 49 #[.slice (some ⟨b, off + halfN ss.length, none⟩) (ss.length - halfN ss.length) (ss.length - halfN ss.length)] w' fun e w'' => e = .returned (.string (treeB (ss.drop (halfN ss.length)))) ∧ Below w'.heap.size w' w'') := by
      intro w' hbl
      have := ih _ (by omega) (some ⟨b, off + halfN ss.length, none⟩) (ss.length - halfN ss.length) (ss.drop (halfN ss.length)) w' l2 (HT.out.below hbl HT.out.1) ((HP.out.below hbl).drop _) (by omega) (by omega) (fun x hx => HX.out x (List.mem_of_mem_drop hx))
      rwa [l2] at this
    have hH := fun w => halves_any b off ss.length cap w h2 hn hcap
    clear l1 l2
    generalize treeB (ss.take (halfN ss.length)) = T1 at *
    generalize treeB (ss.drop (halfN ss.length)) = T2 at *
    generalize halfN ss.length = k at *
    clear ih
    go_enter Tryd.func49, Tryd.ntmps49
    go_wp2_with fail
    refine (hH _).mono ?_
    rintro e w1 ⟨rfl, b1⟩
    go_wp2_with fail
    refine (I1.out _ b1).mono ?_
    rintro e w2 ⟨rfl, b2⟩
    have b2 := chainB b1 b2
    go_wp2_with fail
    refine (I2.out _ b2).mono ?_
    rintro e w3 ⟨rfl, b3⟩
    have b3 := chainB b2 b3
    go_wp2_with fail
    refine (implNode_any T1 T2 _ (HT.out.below b3 HT.out.1) (by unfold maxLen; omega) (by unfold maxLen; omega)).mono ?_
    rintro e w4 ⟨rfl, b4⟩
    go_wp2_with fail
    go_ret
    exact ⟨ret_str HB.out, chainB b3 b4⟩
  · by_cases h1 : ss.length = 1
    · obtain ⟨x, rfl⟩ := List.length_eq_one_iff.1 h1
      obtain ⟨b, off, rfl, hb, hc⟩ := HP.out 0 (by simp)
      have hx := HX.out x (by simp)
      have HB : Hid (leafA x = treeB [x]) := by show _ = _; rw [treeB_one, leafA_of hx]
      have hc0 : w.cell? ⟨b, off, none⟩ = some (.string x) := by simpa using hc
      clear ih hc hcap
      have hcall := implLeaf_any x w HT.out (by unfold maxLen; omega)
      rw [HB.out] at hcall
      rw [List.length_singleton] at *
      go_enter Tryd.func49, Tryd.ntmps49
      go_wp2_with fail
      refine hcall.mono ?_
      rintro e w1 ⟨rfl, b1⟩
      go_wp2_with fail
      go_ret
      exact ⟨rfl, b1⟩
    · obtain rfl : ss = [] := List.length_eq_zero_iff.1 (by omega)
      have HB : Hid (digB ByteArray.empty = treeB []) := treeB_nil.symm
      have hcall := digI_any ByteArray.empty w (by simp) HT.out
      rw [HB.out] at hcall
      clear ih hcap HP HX
      rw [List.length_nil]
      go_enter Tryd.func49, Tryd.ntmps49
      go_wp2_with fail
      refine hcall.mono ?_
      rintro e w1 ⟨rfl, b1⟩
      go_wp2_with fail
      go_ret
      exact ⟨rfl, b1⟩
end Go.Proofs.YtlmkfjlaakmmpaiDoor
/-
  The specification's l03Tree: the tree of entries, 'treeB'.
  Conditions: the slice's cells hold the entries, each of at most 100 bytes, at most 2^47 of them.
-/
namespace Go.Proofs.YtlmkfjlaakmmpaiDoor
open Go.RowKit Go.Lib
set_option linter.unusedVariables false
set_option maxRecDepth 20000

set_option maxHeartbeats 1000000 in
theorem tree2_any (N : Nat) : ∀ (p : Option Addr) (cap : Nat) (ss : List ByteArray) (w : World), ss.length = N → TxtAt w p ss → ss.length ≤ 140737488355328 → ss.length ≤ cap → (∀ x ∈ ss, x.size ≤ 100) →
    Calls Tryd.prog 18 #[.slice p ss.length cap] w fun e w' => e = .returned (.string (treeB ss)) ∧ Below w.heap.size w w' := by
  induction N using Nat.strongRecOn with
  | _ N ih =>
  intro p cap ss w hN hp hn hcap h100
  subst hN
  have HP : Hid (TxtAt w p ss) := hp
  have HX : Hid (∀ x ∈ ss, x.size ≤ 100) := h100
  clear hp h100
  by_cases h2 : 2 ≤ ss.length
  · obtain ⟨b, off, rfl, hb, _⟩ := HP.out 0 (by omega)
    have h1 := halfN_lt h2
    have h0 := halfN_pos ss.length
    have l1 : (ss.take (halfN ss.length)).length = halfN ss.length := by simp; omega
    have l2 : (ss.drop (halfN ss.length)).length = ss.length - halfN ss.length := by simp
    have HB : Hid (nodeB (treeB (ss.take (halfN ss.length))) (treeB (ss.drop (halfN ss.length))) = treeB ss) := by
      show _ = _
      rw [treeB_two h2]
    have z1 := treeB_size (ss.take (halfN ss.length))
    have z2 := treeB_size (ss.drop (halfN ss.length))
    have I1 : Hid (∀ w', Below w.heap.size w w' → Calls Tryd.prog 18 #[.slice (some ⟨b, off, none⟩) (halfN ss.length) cap] w' fun e w'' => e = .returned (.string (treeB (ss.take (halfN ss.length)))) ∧ Below w'.heap.size w' w'') := by
      intro w' hbl
      have := ih _ (by omega) (some ⟨b, off, none⟩) cap (ss.take (halfN ss.length)) w' l1 ((HP.out.below hbl).take _) (by omega) (by omega) (fun x hx => HX.out x (List.mem_of_mem_take hx))
      rwa [l1] at this
    have I2 : Hid (∀ w', Below w.heap.size w w' → Calls Tryd.prog 18 #[.slice (some ⟨b, off + halfN ss.length, none⟩) (ss.length - halfN ss.length) (cap - halfN ss.length)] w' fun e w'' => e = .returned (.string (treeB (ss.drop (halfN ss.length)))) ∧ Below w'.heap.size w' w'') := by
      intro w' hbl
      have := ih _ (by omega) (some ⟨b, off + halfN ss.length, none⟩) (cap - halfN ss.length) (ss.drop (halfN ss.length)) w' l2 ((HP.out.below hbl).drop _) (by omega) (by omega) (fun x hx => HX.out x (List.mem_of_mem_drop hx))
      rwa [l2] at this
    have hH := fun w => half2_any ss.length w h2 hn
    clear l1 l2
    generalize treeB (ss.take (halfN ss.length)) = T1 at *
    generalize treeB (ss.drop (halfN ss.length)) = T2 at *
    generalize halfN ss.length = k at *
    have hNd := fun w => specL03Node_any T1 T2 w (by omega) (by omega)
    rw [HB.out] at hNd
    clear ih
    have q1 : (k : Int) ≤ cap := by omega
    have q2 : (k : Int) ≤ ss.length := by omega
    have q3 : (ss.length : Int) ≤ cap := by omega
    have q4 : ¬ cap = k := by omega
    have q5 : (0 : Int) ≤ k := by omega
    go_enter Tryd.func18, Tryd.ntmps18
    go_wp2_with fail
    refine (hH _).mono ?_
    rintro e w1 ⟨rfl, hw1⟩
    subst hw1
    go_wp2_with fail
    go_region_with (first
      | (go_at_call 18; refine (I2.out _ b2).mono ?_; rintro e w3 ⟨rfl, b3⟩; have b3 := chainB b2 b3)
      | (go_at_call 18; refine (I1.out _ ((Below.refl _ _).drew)).mono ?_; rintro e w2 ⟨rfl, b2⟩; have b2 := chainB ((Below.refl _ _).drew) b2)
      | (go_at_call 46; refine (hNd _).mono ?_; rintro e w4 ⟨rfl, b4⟩; have b4 := chainB b3 b4))
    all_goals go_wp2
    all_goals go_ret
    all_goals exact ⟨rfl, b4⟩
  · by_cases h1 : ss.length = 1
    · obtain ⟨x, rfl⟩ := List.length_eq_one_iff.1 h1
      obtain ⟨b, off, rfl, hb, hc⟩ := HP.out 0 (by simp)
      have hx := HX.out x (by simp)
      have HB : Hid (leafB x = treeB [x]) := by show _ = _; rw [treeB_one]
      have hc0 : w.cell? ⟨b, off, none⟩ = some (.string x) := by simpa using hc
      clear ih hc hcap
      have hcall := specL03Leaf_any x w (by omega)
      rw [HB.out] at hcall
      rw [List.length_singleton] at *
      go_enter Tryd.func18, Tryd.ntmps18
      go_wp2_with fail
      refine hcall.mono ?_
      rintro e w1 ⟨rfl, b1⟩
      go_wp2_with fail
      go_ret
      exact ⟨rfl, b1⟩
    · obtain rfl : ss = [] := List.length_eq_zero_iff.1 (by omega)
      have HB : Hid (digB ByteArray.empty = treeB []) := treeB_nil.symm
      have hcall := specAll_any ByteArray.empty w (by simp)
      rw [HB.out] at hcall
      clear ih hcap HP HX
      rw [List.length_nil]
      go_enter Tryd.func18, Tryd.ntmps18
      go_wp2_with fail
      refine hcall.mono ?_
      rintro e w1 ⟨rfl, b1⟩
      go_wp2_with fail
      go_ret
      exact ⟨rfl, b1⟩
end Go.Proofs.YtlmkfjlaakmmpaiDoor
/-
  What TreeHash answers, in the program and in the specification: 'treeA': of right entries their tree, else nothing.
-/
namespace Go.Proofs.YtlmkfjlaakmmpaiDoor
open Go.RowKit Go.Lib
set_option linter.unusedVariables false
set_option maxRecDepth 20000

def treeA (ss : List ByteArray) : ByteArray := if entB ss then treeB ss else ByteArray.empty
set_option maxHeartbeats 400000 in
theorem implTree_any (p : Option Addr) (cap : Nat) (ss : List ByteArray) (w : World) (hT : Tabs w) (hp : TxtAt w p ss) (hn : ss.length ≤ 140737488355328) (hcap : ss.length ≤ cap) :
    Calls Tryd.prog 21 #[.slice p ss.length cap] w fun e w' => e = .returned (.string (treeA ss)) ∧ Below w.heap.size w w' := by
  have HT : Hid (Tabs w) := hT
  have HP : Hid (TxtAt w p ss) := hp
  clear hT hp
  have hr := entR_any p cap ss w HP.out hn hcap
  cases he : entB ss
  · rw [he] at hr
    have H : Hid (treeA ss = ByteArray.empty) := by show _ = _; unfold treeA; rw [he]; rfl
    clear he
    go_enter Tryd.func21, Tryd.ntmps21
    go_wp2_with fail
    refine hr.mono ?_
    rintro e w1 ⟨rfl, rfl⟩
    go_wp2_with fail
    go_ret
    exact ⟨ret_str H.out.symm, Below.refl _ _⟩
  · rw [he] at hr
    have H : Hid (treeA ss = treeB ss) := by show _ = _; unfold treeA; rw [he]; rfl
    have hc := treeI_any ss.length p cap ss w rfl HT.out HP.out hn hcap (entB_all he)
    clear he
    go_enter Tryd.func21, Tryd.ntmps21
    go_wp2_with fail
    refine hr.mono ?_
    rintro e w1 ⟨rfl, rfl⟩
    go_wp2_with fail
    refine hc.mono ?_
    rintro e w1 ⟨rfl, b1⟩
    go_wp2_with fail
    go_ret
    exact ⟨ret_str H.out.symm, b1⟩
end Go.Proofs.YtlmkfjlaakmmpaiDoor
