/-
  What RangeRoot answers, in the program and in the specification: 'rngRootA'.
  Conditions: Size is an int64; the cells of Nodes hold the texts, at most 2^20; for the program's half the two tables lie as the program's text lays them.
-/
import Derived.Test.YtclpccnppmbpcaaDoorRows
import Derived.Test.YtclpccnppmbpcaaDoorBytes
import Derived.Test.YtclpccnppmbpcaaDoorDigMath
import Derived.Test.YtclpccnppmbpcaaDoorTreeMath
import Derived.Test.YtclpccnppmbpcaaDoorJoined
import Derived.Test.YtclpccnppmbpcaaDoorSlA
import Derived.Test.YtclpccnppmbpcaaDoorLeafNode
import Derived.Test.YtclpccnppmbpcaaDoorTreeTree2TreeH
import Derived.Test.YtclpccnppmbpcaaDoorOnesMathOnes
import Derived.Test.YtclpccnppmbpcaaDoorRange
import Derived.Test.YtclpccnppmbpcaaDoorRootMathAddMathCopied
import Derived.Handy
namespace Go.Proofs.YtclpccnppmbpcaaDoor
open Go.RowKit Go.Lib
set_option linter.unusedVariables false
set_option maxRecDepth 20000

set_option maxHeartbeats 1000000 in
theorem implRoot_any (n : Int) (p : Option Addr) (cap : Nat) (ss : List ByteArray) (w : World) (hT : Tabs w) (hp : TxtAt w p ss) (hn : ss.length ≤ 1048576) (hcap : ss.length ≤ cap) (n0 : -9223372036854775808 ≤ n) (n1 : n ≤ 9223372036854775807) :
    Calls Tryd.prog 33 #[.agg #[.int .i64 n, .slice p ss.length cap]] w fun e w' => e = .returned (.string (rngRootA n ss)) ∧ Below w.heap.size w w' := by
  have HT : Hid (Tabs w) := hT
  have HP : Hid (TxtAt w p ss) := hp
  clear hT hp
  have H0 : Hid (rngRootA n ss = if rngB n ss = true then (if n = 0 then digB ByteArray.empty else rootL ss) else ByteArray.empty) := rfl
  obtain ⟨W1, hW1⟩ : ∃ W1, W1 = w.alloc (.cells #[.int .i64 n, .slice p ss.length cap] 48) := ⟨_, rfl⟩
  have B0 : Hid (Below w.heap.size w W1) := by rw [hW1]; exact (Below.refl _ _).alloc (Nat.le_refl _) _
  have HBX : Hid (∀ w2, Below W1.heap.size W1 w2 → w2.cell? ⟨w.heap.size, 0, none⟩ = some (.int .i64 n) ∧ w2.cell? ⟨w.heap.size, 1, none⟩ = some (.slice p ss.length cap)) := by
    rw [hW1]; exact fun w2 hb => ⟨box_at hb 0, box_at hb 1⟩
  have HWA : Hid (W1 = w.alloc (.cells #[.int .i64 n, .slice p ss.length cap] 48)) := hW1
  have HC := rangeRight_any n p cap ss W1 (HP.out.below B0.out) (by omega) hcap n0 n1
  clear hW1
  cases c1 : rngB n ss
  · have H : Hid (rngRootA n ss = ByteArray.empty) := H0.out.trans (if_neg (by rw [c1]; simp))
    rw [c1] at HC
    clear c1 H0
    go_enter Tryd.func33, Tryd.ntmps33
    go_wp2_with fail
    rw [← HWA.out]
    refine HC.mono ?_
    rintro e w2 ⟨rfl, b2⟩
    go_wp2_with fail
    go_ret
    exact ⟨ret_str H.out.symm, chainB B0.out b2⟩
  obtain ⟨c2, c3, c4, c5⟩ := rngB_of c1
  have h32 := wideB_all c5
  have H1 : Hid (rngRootA n ss = if n = 0 then digB ByteArray.empty else rootL ss) := H0.out.trans (if_pos c1)
  rw [c1] at HC
  clear c1 H0
  by_cases hz : n = 0
  · subst hz
    have H : Hid (treeB [] = rngRootA 0 ss) := by show _ = _; rw [H1.out, treeB_nil]; rfl
    have HTr : Hid (∀ w2, Below W1.heap.size W1 w2 → Calls Tryd.prog 64 #[.slice none 0 0] w2 fun e w' => e = .returned (.string (rngRootA 0 ss)) ∧ Below w2.heap.size w2 w') := by
      intro w2 hb
      have := treeI_any 0 none 0 [] w2 rfl (HT.out.below (chainB B0.out hb) HT.out.1) (TxtAt.nil _ _) (by simp) (by simp) (by simp)
      rw [H.out] at this; exact this
    generalize rngRootA 0 ss = R at *
    clear H1 H c4
    go_enter Tryd.func33, Tryd.ntmps33
    go_wp2_with fail
    rw [← HWA.out]
    refine HC.mono ?_
    rintro e w2 ⟨rfl, b2⟩
    obtain ⟨x0, x1⟩ := HBX.out w2 b2
    go_wp2_with fail
    refine (HTr.out _ b2).mono ?_
    rintro e w3 ⟨rfl, b3⟩
    go_wp2_with fail
    go_ret
    exact ⟨rfl, chainB (chainB B0.out b2) b3⟩
  · have H : Hid (rngRootA n ss = rootL ss) := H1.out.trans (if_neg hz)
    have hl : 0 < ss.length := by rw [c4]; exact onesN_pos (by omega)
    have hzz : (n == 0) = false := beq_eq_false_iff_ne.2 hz
    rw [H.out]
    clear H1 H c4 hz c5
    have HX : Hid (∀ x ∈ ss, x.size = 32) := h32
    clear h32
    obtain ⟨L, hL⟩ : ∃ L, ss.length = L + 1 := ⟨ss.length - 1, by omega⟩
    have HL0 : Hid (rootL (ss.drop L) = ss[L]) := by
      have := rootL_last ss hl
      simp only [hL, Nat.add_sub_cancel] at this; exact this
    have hcL := HP.out L (by omega)
    obtain ⟨b, off, rfl, hb, hck⟩ := hcL
    have hz2 := HX.out ss[L] (List.getElem_mem _)
    generalize ss[L]'_ = qL at *
    have hHL : Hid (ss.length = L + 1) := hL
    rw [hL] at hcap hn HBX HWA HC ⊢
    clear hL hl
    have j1 : ((L : Int) + 1) - 1 = L := by omega
    go_enter Tryd.func33, Tryd.ntmps33
    go_wp2_with fail
    rw [← HWA.out]
    refine HC.mono ?_
    rintro e w2 ⟨rfl, b2⟩
    obtain ⟨x0, x1⟩ := HBX.out w2 b2
    have hc2 : w2.cell? ⟨b, off + L, none⟩ = some (.string qL) := ((chainB B0.out b2).cell (p := ⟨b, off + L, none⟩) hb).trans hck
    have hj := joined_one qL w2 (by omega)
    rw [← HL0.out] at hj hc2
    have hq32 : (rootL (ss.drop L)).size = 32 := by rw [HL0.out]; exact hz2
    have HQ : Hid ((rootL (ss.drop L)).size = 32) := hq32
    obtain ⟨q, hq⟩ : ∃ q, q = rootL (ss.drop L) := ⟨_, rfl⟩
    have HQE : Hid (q = rootL (ss.drop L)) := hq
    rw [← hq] at hj hc2 hq32 HQ
    clear hq hck hz2
    go_wp2_with fail
    refine hj.mono ?_
    rintro e w3 ⟨rfl, b3⟩
    have HB3 : Hid (Below W1.heap.size W1 w3) := chainB b2 b3
    clear b3 b2 x0 x1 hc2 hj
    go_wp2_with fail
    go_loopw [5, 4] (fun vi vr wr => ∃ (j : Nat) (h : ByteArray), j ≤ L ∧ vi = .int .i64 ((j : Int) - 1) ∧ vr = .string h ∧ Hid (h.size = 32) ∧ Hid (h = rootL (ss.drop j)) ∧ Hid (Below W1.heap.size W1 wr)) (fun vi _ _ => (intOf vi + 1).toNat)
    case atStart => exact ⟨L, q, by omega, rfl, rfl, HQ, HQE, HB3⟩
    case round =>
      clear HB3 HQE HQ hq32
      obtain ⟨j, h, hj, rfl, rfl, hh, hr, hB⟩ := hrel
      by_cases hj0 : 0 < j
      · obtain ⟨i, rfl⟩ : ∃ i, j = i + 1 := ⟨j - 1, by omega⟩
        obtain ⟨x0, x1⟩ := HBX.out wr hB.out
        have hck := HP.out.at i (by rw [hHL.out]; omega)
        have hc1 : wr.cell? ⟨b, off + i, none⟩ = some (.string (ss[i]'(by rw [hHL.out]; omega))) := ((chainB B0.out hB.out).cell (p := ⟨b, off + i, none⟩) hb).trans hck
        have hz2 := HX.out (ss[i]'(by rw [hHL.out]; omega)) (List.getElem_mem _)
        have HR2 : Hid (nodeA (ss[i]'(by rw [hHL.out]; omega)) h = rootL (ss.drop i)) := by
          show _ = _
          rw [nodeA_of hz2 hh.out, hr.out]; exact (rootL_drop ss i (by rw [hHL.out]; omega)).symm
        have HZ2 : Hid ((nodeA (ss[i]'(by rw [hHL.out]; omega)) h).size = 32) := by show _ = _; rw [nodeA_of hz2 hh.out]; exact nodeB_size _ _
        generalize ss[i]'_ = q at *
        clear hck
        have i2 : ((i + 1 : Nat) : Int) - 1 = i := by omega
        rw [i2]
        have hnd := implNode_any q h wr (HT.out.below (chainB B0.out hB.out) HT.out.1) (by unfold maxLen; omega) (by have := hh.out; unfold maxLen; omega)
        generalize nodeA q h = N at *
        have j5 : (i : Int) < (L : Int) + 1 := by omega
        go_wp2_with fail
        refine hnd.mono ?_
        rintro e w4 ⟨rfl, b4⟩
        have HB4 : Hid (Below W1.heap.size W1 w4) := chainB hB.out b4
        clear b4
        go_wp2_with fail
        go_roundw
        case rel => exact ⟨i, N, by omega, rfl, rfl, HZ2, HR2, HB4⟩
        case measure => simp [intOf] <;> omega
      · obtain rfl : j = 0 := by omega
        have HF : Hid (h = rootL ss) := by have := hr.out; rwa [List.drop_zero] at this
        go_wp2
        go_ret
        exact ⟨ret_str HF.out, chainB B0.out hB.out⟩
end Go.Proofs.YtclpccnppmbpcaaDoor
