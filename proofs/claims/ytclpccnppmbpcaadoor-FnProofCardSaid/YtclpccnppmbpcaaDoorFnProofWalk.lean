/-
  The law FnProof returns true at any two codes of at most 2^20 bytes, where the two tables lie as the program's text lays them.
-/
import Derived.Test.YtclpccnppmbpcaaDoorRows
import Derived.Test.YtclpccnppmbpcaaDoorBytes
import Derived.Test.YtclpccnppmbpcaaDoorDigMath
import Derived.Test.YtclpccnppmbpcaaDoorTabsOf
import Derived.Test.YtclpccnppmbpcaaDoorTreeH
import Derived.Test.YtclpccnppmbpcaaDoorProofI
import Derived.Test.YtclpccnppmbpcaaDoorProof2
import Derived.Test.YtclpccnppmbpcaaDoorConI
import Derived.Test.YtclpccnppmbpcaaDoorCon2
import Derived.Test.YtclpccnppmbpcaaDoorProofLaw
import Derived.Test.YtclpccnppmbpcaaDoorDrawKit
import Derived.Test.YtclpccnppmbpcaaDoorDrawTree
import Derived.Test.YtclpccnppmbpcaaDoorDrawCon
import Derived.Handy
import Derived.WalkSpells
import Derived.Deep.RegionLaw
import Derived.Deep.RegionWith
namespace Go.Proofs.YtclpccnppmbpcaaDoor
open Go.RowKit Go.Lib
set_option linter.unusedVariables false
set_option maxRecDepth 20000

set_option maxHeartbeats 8000000 in
theorem fnProof_any (a0 : Option Addr) (len0 cap0 : Nat) (a1 : Option Addr) (len1 cap1 : Nat) (w : World) (hl0 : len0 ≤ 1048576) (hl1 : len1 ≤ 1048576) (c0 : CodeAt w.heap.size a0 len0 w) (c1 : CodeAt w.heap.size a1 len1 w) (hT : Tabs w) :
    Calls Tryd.prog 6 #[.slice a0 len0 cap0, .slice a1 len1 cap1] w fun e w' => e = .returned (.bool true) ∧ Below w.heap.size w w' := by
  have C0 : Hid (CodeAt w.heap.size a0 len0 w) := c0
  have C1 : Hid (CodeAt w.heap.size a1 len1 w) := c1
  have HT : Hid (Tabs w) := hT
  clear c0 c1 hT
  have d1 : decide (1048576 < (len0 : Int)) = false := by simp; omega
  have d2 : decide (1048576 < (len1 : Int)) = false := by simp; omega
  go_enter Tryd.func6, Tryd.ntmps6
  go_wp2_with fail
  refine (drawProof_any w.heap.size a0 len0 cap0 _ hl0 (Nat.le_refl _) C0.out).mono ?_
  rintro e w1 ⟨⟨v, L, r, rfl, hd, hL, r0, r1⟩, b1⟩
  clear d1 d2 C0
  obtain ⟨q, cq, rfl, hcq, ht, _, hx⟩ := hd
  have HQ1 : Hid (TxtAt w1 q L) := ht
  clear ht hx
  -- ProofOf, both ways
  go_wp2_with fail
  refine (implProof_any q cq L r w1 (HT.out.below b1 HT.out.1) HQ1.out (by omega) hcq (by omega) (by omega)).mono ?_
  rintro e w2 ⟨v2, rfl, o2, b2⟩
  have HQ2 : Hid (TxtAt w2 q L) := HQ1.out.below b2
  have b2 := chainB b1 b2
  have hPf := proofA_few L r
  obtain ⟨p2, c2, rfl, hc2, t2⟩ := ownS_form o2
  have HT2 : Hid (TxtAt w2 p2 (proofA L r)) := t2
  clear o2 t2 HQ1 b1
  go_wp2_with fail
  refine (specProof_any q cq L r w2 HQ2.out (by omega) hcq (by omega) (by omega)).mono ?_
  rintro e w3 ⟨v3, rfl, o3, b3⟩
  have HQ3 : Hid (TxtAt w3 q L) := HQ2.out.below b3
  have HT3 : Hid (TxtAt w3 p2 (proofA L r)) := HT2.out.below b3
  have b3 := chainB b2 b3
  obtain ⟨p3, c3, rfl, hc3, t3⟩ := ownS_form o3
  have HT3' : Hid (TxtAt w3 p3 (proofA L r)) := t3
  clear o3 t3 HQ2 b2 HT2
  generalize proofA L r = P at *
  go_wp2_with fail
  have hE := texts_any p2 p3 c2 c3 P P w3 HT3.out HT3'.out (by omega) (by omega) hc2 hc3
  rw [decide_eq_true rfl] at hE
  refine hE.mono ?_
  rintro e w4 ⟨rfl, b4⟩
  have HQ4 : Hid (TxtAt w4 q L) := HQ3.out.below b4
  have b4 := chainB b3 b4
  clear hE HT3 HT3' HQ3 b3 hPf hc2 hc3
  -- the root
  go_wp2_with fail
  refine (specTree_any q cq L w4 HQ4.out (by omega) hcq).mono ?_
  rintro e w5 ⟨rfl, b5⟩
  have HQ5 : Hid (TxtAt w5 q L) := HQ4.out.below b5
  have b5 := chainB b4 b5
  clear HQ4 b4
  have HLaw : Hid (∀ m : Nat, 1 ≤ m → m ≤ L.length → treeA L ≠ ByteArray.empty → conA m L.length (proofA L m) (treeA (L.take m)) (treeA L) = true) := fun m h1 h2 h3 => con_true (treeA_ent h3) m h1 h2
  have HRs := treeA_le L
  generalize treeA L = R at *
  go_wp2_with fail
  go_loopw [8] (fun i wr => ∃ k : Nat, i = .int .i64 k ∧ 1 ≤ k ∧ k ≤ L.length + 1 ∧ Hid (TxtAt wr q L) ∧ Hid (Below w.heap.size w wr)) (fun i _ => L.length + 1 - (RowKit.intOf i).toNat)
  case atStart => exact ⟨1, rfl, by omega, by omega, HQ5, b5⟩
  case round =>
    clear HQ5 b5
    obtain ⟨k, rfl, hk1, hk2, HQ, HB⟩ := hrel
    by_cases hgo : k ≤ L.length ∧ R ≠ ByteArray.empty
    · obtain ⟨hk, hR⟩ := hgo
      have hne : R.toList.isEmpty = false := by
        rw [List.isEmpty_eq_false_iff]; exact fun h => hR (toList_inj (by rw [h, ByteArray.toList_eq]; rfl))
      have d1 : decide ((k : Int) ≤ L.length) = true := decide_eq_true (by omega)
      obtain ⟨bb, off, rfl, _, _⟩ := HQ.out 0 (by omega)
      have htk : (L.take k).length = k := by simp; omega
      have hlaw := HLaw.out k hk1 hk hR
      have hPf := proofA_few L k
      have QP : Hid (∀ w', Below wr.heap.size wr w' → Calls Tryd.prog 42 #[.slice (some ⟨bb, off, none⟩) L.length cq, .int .i64 k] w' fun e w'' => ∃ v, e = .returned v ∧ w''.ownsRow w'.heap.size 9 1 v (proofA L k).length (strRow (proofA L k)) ∧ Below w'.heap.size w' w'') := fun w' b =>
        implProof_any _ cq L k w' (HT.out.below (chainB HB.out b) HT.out.1) (HQ.out.below b) (by omega) hcq (by omega) (by omega)
      have hTt : ∀ w', Below wr.heap.size wr w' → Calls Tryd.prog 27 #[.slice (some ⟨bb, off, none⟩) (L.take k).length cq] w' fun e w'' => e = .returned (.string (treeA (L.take k))) ∧ Below w'.heap.size w' w'' := fun w' b =>
        specTree_any _ cq (L.take k) w' ((HQ.out.below b).take k) (by omega) (by omega)
      rw [htk] at hTt
      generalize proofA L k = P2 at *
      generalize treeA (L.take k) = W at *
      have QT : Hid (∀ w', Below wr.heap.size wr w' → Calls Tryd.prog 27 #[.slice (some ⟨bb, off, none⟩) k cq] w' fun e w'' => e = .returned (.string W) ∧ Below w'.heap.size w' w'') := hTt
      have hC : ∀ w' pp cp, Below wr.heap.size wr w' → TxtAt w' pp P2 → P2.length ≤ cp → Calls Tryd.prog 44 #[.int .i64 k, .int .i64 L.length, .slice pp P2.length cp, .string W, .string R] w' fun e w'' => e = .returned (.bool (conA k L.length P2 W R)) ∧ Below w'.heap.size w' w'' := fun w' pp cp b ht hc =>
        implCon_any k L.length pp cp P2 W R w' (HT.out.below (chainB HB.out b) HT.out.1) ht (by omega) hc (by omega) (by omega) (by omega) (by omega)
      rw [hlaw] at hC
      have QC : Hid (∀ w' pp cp, Below wr.heap.size wr w' → TxtAt w' pp P2 → P2.length ≤ cp → Calls Tryd.prog 44 #[.int .i64 k, .int .i64 L.length, .slice pp P2.length cp, .string W, .string R] w' fun e w'' => e = .returned (.bool true) ∧ Below w'.heap.size w' w'') := hC
      clear hlaw hTt hC htk HLaw
      go_wp2_with fail
      go_region_with (first
        | (go_at_call 42; refine (QP.out _ (by first | exact Below.refl _ _ | exact (Below.refl _ _).drew)).mono ?_; rintro e x1 ⟨v6, rfl, o6, y1⟩; have y1 : Below wr.heap.size wr x1 := chainB (by first | exact Below.refl _ _ | exact (Below.refl _ _).drew) y1; obtain ⟨p6, c6, rfl, hc6, t6⟩ := ownS_form o6; clear o6)
        | (go_at_call 27; refine (QT.out _ (by first | exact y1 | exact y1.drew)).mono ?_; rintro e x2 ⟨rfl, y2⟩; have t7 := TxtAt.below t6 y2; have y2 : Below wr.heap.size wr x2 := chainB y1 y2)
        | (go_at_call 44; refine (QC.out _ _ _ (by first | exact y2 | exact y2.drew) (by first | exact t7) hc6).mono ?_; rintro e x3 ⟨rfl, y3⟩; have y3 : Below wr.heap.size wr x3 := chainB y2 y3))
      all_goals
        have hb3 := chainB HB.out y3
        have HQ3 : Hid (TxtAt x3 (some ⟨bb, off, none⟩) L) := HQ.out.below y3
        go_wp2_with fail
        go_roundw
        case rel => exact ⟨k + 1, by go_num, by omega, by omega, HQ3, hb3⟩
        case measure => simp [RowKit.intOf]; omega
    · have hgo2 : ¬ k ≤ L.length ∨ R = ByteArray.empty := by
        by_cases h : k ≤ L.length
        · exact .inr (Classical.byContradiction fun h2 => hgo ⟨h, h2⟩)
        · exact .inl h
      have hE : decide ((k : Int) ≤ L.length) = false ∨ R.toList.isEmpty = true := by
        rcases hgo2 with h | h
        · exact .inl (decide_eq_false (by omega))
        · exact .inr (by rw [h, ByteArray.toList_eq]; rfl)
      clear hgo hgo2 HLaw
      by_cases hk : k ≤ L.length
      · have hE2 : R.toList.isEmpty = true := by
          rcases hE with h | h
          · exact absurd (of_decide_eq_false h) (by omega)
          · exact h
        have d1 : decide ((k : Int) ≤ L.length) = true := decide_eq_true (by omega)
        clear hE
        go_wp2_with fail
        refine (drawCon_any w.heap.size a1 len1 cap1 wr hl1 HB.out.size (C1.out.below HB.out)).mono ?_
        rintro e w6 ⟨⟨m, n, v, L6, was, root, rfl, hf, m0, m1, n0, n1, hw, hr⟩, b6⟩
        obtain ⟨q6, c6, rfl, hc6, ht6, hl6, _⟩ := hf
        have b6 := chainB HB.out b6
        have HQ6 : Hid (TxtAt w6 q6 L6) := ht6
        have HW6 : Hid (was.size ≤ maxLen ∧ root.size ≤ maxLen) := by constructor <;> unfold maxLen <;> omega
        clear ht6 HQ HB
        go_wp2_with fail
        refine (implCon_any m n q6 c6 L6 was root w6 (HT.out.below b6 HT.out.1) HQ6.out (by omega) hc6 m0 m1 n0 n1).mono ?_
        rintro e w7 ⟨rfl, b7⟩
        have HQ7 : Hid (TxtAt w7 q6 L6) := HQ6.out.below b7
        have b7 := chainB b6 b7
        clear HQ6 b6
        go_wp2_with fail
        refine (specCon_any m n q6 c6 L6 was root w7 HQ7.out (by omega) hc6 HW6.out.1 HW6.out.2 m0 m1 n0 n1).mono ?_
        rintro e w8 ⟨rfl, b8⟩
        have b8 := chainB b7 b8
        clear HQ7 b7
        generalize conA m n L6 was root = B at *
        go_wp2_with fail
        go_ret
        exact ⟨ret_bool (by simp), b8⟩
      · have d1 : decide ((k : Int) ≤ L.length) = false := decide_eq_false (by omega)
        clear hE
        go_wp2_with fail
        refine (drawCon_any w.heap.size a1 len1 cap1 wr hl1 HB.out.size (C1.out.below HB.out)).mono ?_
        rintro e w6 ⟨⟨m, n, v, L6, was, root, rfl, hf, m0, m1, n0, n1, hw, hr⟩, b6⟩
        obtain ⟨q6, c6, rfl, hc6, ht6, hl6, _⟩ := hf
        have b6 := chainB HB.out b6
        have HQ6 : Hid (TxtAt w6 q6 L6) := ht6
        have HW6 : Hid (was.size ≤ maxLen ∧ root.size ≤ maxLen) := by constructor <;> unfold maxLen <;> omega
        clear ht6 HQ HB
        go_wp2_with fail
        refine (implCon_any m n q6 c6 L6 was root w6 (HT.out.below b6 HT.out.1) HQ6.out (by omega) hc6 m0 m1 n0 n1).mono ?_
        rintro e w7 ⟨rfl, b7⟩
        have HQ7 : Hid (TxtAt w7 q6 L6) := HQ6.out.below b7
        have b7 := chainB b6 b7
        clear HQ6 b6
        go_wp2_with fail
        refine (specCon_any m n q6 c6 L6 was root w7 HQ7.out (by omega) hc6 HW6.out.1 HW6.out.2 m0 m1 n0 n1).mono ?_
        rintro e w8 ⟨rfl, b8⟩
        have b8 := chainB b7 b8
        clear HQ7 b7
        generalize conA m n L6 was root = B at *
        go_wp2_with fail
        go_ret
        exact ⟨ret_bool (by simp), b8⟩
end Go.Proofs.YtclpccnppmbpcaaDoor
