/-
  Parts of one proof, laid as one text: SignIDg, ImplRight, IncI, ImplVer, ImplSign; what each says stands at its head.
-/
import Derived.Test.YtnaonldkbaapeacGreatDoorRows
import Derived.Test.YtnaonldkbaapeacGreatDoorBytesDigMath
import Derived.Test.YtnaonldkbaapeacGreatDoorPowerOwnBTurnIWholeRNumsI
import Derived.Test.YtnaonldkbaapeacGreatDoorBlockI
import Derived.Test.YtnaonldkbaapeacGreatDoorPadIDigITurn2
import Derived.Test.YtnaonldkbaapeacGreatDoorSlASlBBxKOwnSTakes
import Derived.Test.YtnaonldkbaapeacGreatDoorSignMathLgRtWide2Mac2
import Derived.Test.YtnaonldkbaapeacGreatDoorSignVPathISignIMSignIASignIB
import Derived.Handy
import Derived.WalkSpells
import Derived.OwnWalk
import Derived.Test.YtnaonldkbaapeacGreatDoorBox3LawSigLawSigMMacMathSgnBTreeHIncMathTakerTakePathConMathProofLaw
import Derived.Test.YtnaonldkbaapeacGreatDoorTreeMath
import Derived.Test.YtnaonldkbaapeacGreatDoorAll2LeafNodeTree2
import Derived.Test.YtnaonldkbaapeacGreatDoorProof2HalvesTreePutter
import Derived.Deep.RegionLaw
import Derived.Deep.RegionWith
import Derived.Test.YtnaonldkbaapeacGreatDoorLawLmOpFOpLgPathMath
import Derived.Test.YtnaonldkbaapeacGreatDoorMacISignIC
/-
  What the program's digitsOf answers: 'digsI', six numbers.
  Conditions: the text has at most 2^20 bytes; the two tables lie as the program's text lays them.
-/
namespace Go.Proofs.YtnaonldkbaapeacGreatDoor
open Go.RowKit Go.Lib
set_option linter.unusedVariables false
set_option maxRecDepth 20000

def digRow (a b : Int) : Nat → List Int
  | 0 => [0, 0, 0, 0, 0, 0]
  | 1 => [a / 16, a % 16, 0, 0, 0, 0]
  | _ => [a / 16, a % 16, b / 16, b % 16, 0, 0]
def digLack (a b : Int) : Nat → Int
  | 0 => 60
  | 1 => 60 - (a / 16 + a % 16)
  | _ => 60 - (a / 16 + a % 16) - (b / 16 + b % 16)
theorem digsI_eq (t : ByteArray) (a b : Int) (ha : a = byteAt (digB t) 0) (hb : b = byteAt (digB t) 1) : digsI t = [a / 16, a % 16, b / 16, b % 16, digLack a b 2 / 16, digLack a b 2 % 16] := by
  unfold digsI digLack
  rw [← ha, ← hb]
  have e : 60 - a / 16 - a % 16 - b / 16 - b % 16 = 60 - (a / 16 + a % 16) - (b / 16 + b % 16) := by omega
  simp only [e]

theorem ld6 {w : World} {g : Nat} {l : List Int} (hl : l.length = 6) (h : w.heap[g]? = some (.cells (numA l) 87 (0, 0))) : (loadVar 87 ⟨g, 0, none⟩).run Tryz.prog w = .ok (.agg (numA l)) w :=
  run_loadVar_row (P := Tryz.prog) w g 87 87 _ (0, 0) _ h under6 rfl (by rw [numA_size, hl]; exact info6)
theorem st6 {w : World} {g : Nat} {l : List Int} (l' : List Int) (hl : l.length = 6) (hl' : l'.length = 6) (h : w.heap[g]? = some (.cells (numA l) 87 (0, 0))) : (storeVar 87 ⟨g, 0, none⟩ (.agg (numA l'))).run Tryz.prog w = .ok () (w.setRow g (numA l')) :=
  run_storeVar_row (P := Tryz.prog) w g 87 87 _ (numA l') h (by rw [numA_size, hl']; exact info6) (by rw [numA_size, numA_size, hl, hl']) (numA_one _)

set_option maxHeartbeats 4000000 in
theorem digits_any (t : ByteArray) (w : World) (hT : Tabs w) (ht : t.size ≤ 1048576) :
    Calls Tryz.prog 66 #[.string t] w fun e w' => e = .returned (.agg (numA (digsI t))) ∧ Below w.heap.size w w' := by
  obtain ⟨D, hD⟩ : ∃ D, D = digB t := ⟨_, rfl⟩
  have hs : D.size = 32 := by rw [hD]; exact digB_size t
  have h0 : 0 < D.size := by omega
  have h1 : 1 < D.size := by omega
  have e0 : byteAt D 0 = ((D[0]'h0).toNat : Int) := by
    unfold byteAt; simp [List.getD_eq_getElem?_getD]; rw [Array.getElem?_eq_getElem h0]; rfl
  have e1 : byteAt D 1 = ((D[1]'h1).toNat : Int) := by
    unfold byteAt; simp [List.getD_eq_getElem?_getD]; rw [Array.getElem?_eq_getElem h1]; rfl
  have c0 : ((D[0]'h0).toNat : Int) ≤ 255 := by have := (D[0]'h0).toNat_lt; omega
  have c1 : ((D[1]'h1).toNat : Int) ≤ 255 := by have := (D[1]'h1).toNat_lt; omega
  have n0 : 0 ≤ ((D[0]'h0).toNat : Int) := by omega
  have n1 : 0 ≤ ((D[1]'h1).toNat : Int) := by omega
  have HG : Hid (∀ A B : Int, A = ((D[0]'h0).toNat : Int) → B = ((D[1]'h1).toNat : Int) → digsI t = [A / 16, A % 16, B / 16, B % 16, digLack A B 2 / 16, digLack A B 2 % 16]) := fun A B hA hB => digsI_eq t A B (by rw [hA, ← hD, e0]) (by rw [hB, ← hD, e1])
  have HT : Hid (Tabs w) := hT
  obtain ⟨RS, hRS⟩ : ∃ RS, RS = digsI t := ⟨_, rfl⟩
  rw [← hRS]
  rw [← hRS] at HG
  clear hT e0 e1 hRS
  have e48 : (w.alloc (.cells #[.int .i64 0, .int .i64 0, .int .i64 0, .int .i64 0, .int .i64 0, .int .i64 0] 87)).heap.size = w.heap.size + 1 := by simp
  obtain ⟨W2, hW2⟩ : ∃ W2, W2 = (w.alloc (.cells #[.int .i64 0, .int .i64 0, .int .i64 0, .int .i64 0, .int .i64 0, .int .i64 0] 87)).alloc (.cells #[.int .i64 0, .int .i64 0, .int .i64 0, .int .i64 0, .int .i64 0, .int .i64 0] 87) := ⟨_, rfl⟩
  have HW2 : Hid (W2 = (w.alloc (.cells #[.int .i64 0, .int .i64 0, .int .i64 0, .int .i64 0, .int .i64 0, .int .i64 0] 87)).alloc (.cells #[.int .i64 0, .int .i64 0, .int .i64 0, .int .i64 0, .int .i64 0, .int .i64 0] 87)) := hW2
  have R0 : Hid (W2.heap[w.heap.size]? = some (.cells (numA (digRow 0 0 0)) 87 (0, 0))) := by rw [hW2]; exact (Below.heap_alloc _ _ _ (by rw [e48]; omega)).trans (MapKept.heap_alloc w _).1
  have R1 : Hid (W2.heap[w.heap.size + 1]? = some (.cells (numA (digRow 0 0 0)) 87 (0, 0))) := by rw [hW2, ← e48]; exact (MapKept.heap_alloc _ _).1
  have B2 : Hid (Below w.heap.size w W2) := by rw [hW2]; exact ((Below.refl _ _).alloc (Nat.le_refl _) _).alloc (by rw [e48]; omega) _
  have S2 : Hid (w.heap.size + 2 ≤ W2.heap.size) := by rw [hW2]; show _ ≤ _; simp
  have hA := digI_any t W2 (by omega) (HT.out.below B2.out HT.out.1)
  rw [← hD] at hA
  clear hW2 hD e48
  go_enter Tryz.func66, Tryz.ntmps66
  go_wp2_with fail
  rw [← HW2.out]
  refine hA.mono ?_
  rintro e w3 ⟨rfl, b3⟩
  obtain ⟨A, hAe⟩ : ∃ A, A = ((D[0]'h0).toNat : Int) := ⟨_, rfl⟩
  obtain ⟨B, hBe⟩ : ∃ B, B = ((D[1]'h1).toNat : Int) := ⟨_, rfl⟩
  have HG2 : Hid (RS = [A / 16, A % 16, B / 16, B % 16, digLack A B 2 / 16, digLack A B 2 % 16]) := HG.out A B hAe hBe
  have Q0 : Hid (w3.heap[w.heap.size]? = some (.cells (numA (digRow 0 0 0)) 87 (0, 0))) := (b3.block _ (by have := S2.out; omega)).trans R0.out
  have Q1 : Hid (w3.heap[w.heap.size + 1]? = some (.cells (numA (digRow A B 0)) 87 (0, 0))) := (b3.block _ (by have := S2.out; omega)).trans R1.out
  have BB : Hid (Below w.heap.size w w3) := chainB B2.out b3
  rw [← hAe] at c0 n0
  rw [← hBe] at c1 n1
  have HAe : Hid (((D[0]'h0).toNat : Int) = A) := hAe.symm
  have HBe : Hid (((D[1]'h1).toNat : Int) = B) := hBe.symm
  have HA : 0 ≤ A / 16 ∧ A / 16 ≤ 15 ∧ 0 ≤ A % 16 ∧ A % 16 ≤ 15 := by omega
  have HB : 0 ≤ B / 16 ∧ B / 16 ≤ 15 ∧ 0 ≤ B % 16 ∧ B % 16 ≤ 15 := by omega
  have wA : wrap64 (A / 16) = A / 16 := by unfold wrap64; omega
  have wB : wrap64 (B / 16) = B / 16 := by unfold wrap64; omega
  obtain ⟨a0, a1, a2, a3⟩ := HA
  obtain ⟨a4, a5, a6, a7⟩ := HB
  clear hA b3 R0 R1 B2 HG hAe hBe HW2
  go_wp2_with fail
  go_loopw [5, 11] (fun l i wr => ∃ (k : Nat), i = .int .i64 k ∧ k ≤ 2 ∧ l = .int .i64 (digLack A B k) ∧ Hid (wr.heap[w.heap.size]? = some (.cells (numA (digRow 0 0 0)) 87 (0, 0))) ∧ Hid (wr.heap[w.heap.size + 1]? = some (.cells (numA (digRow A B k)) 87 (0, 0))) ∧ Hid (Below w.heap.size w wr)) (fun _ i _ => 2 - (intOf i).toNat)
  case atStart => exact ⟨0, rfl, by omega, rfl, Q0, Q1, BB⟩
  case round =>
    clear Q0 Q1 BB
    obtain ⟨k, rfl, hk, rfl, P0, P1, PB⟩ := hrel
    have hk3 : k = 0 ∨ k = 1 ∨ k = 2 := by omega
    rcases hk3 with rfl | rfl | rfl
    · rw [show ((0 : Nat) : Int) = (0 : Int) from rfl, show digLack A B 0 = 60 from rfl]
      have f0 := (numA_cell P1.out 0 (by show 0 < 6; omega)).2
      have f1 := (numA_cell P1.out 1 (by show 1 < 6; omega)).2
      have g0 := (numA_cell P1.out 0 (by show 0 < 6; omega)).1
      have g1 := (numA_cell P1.out 1 (by show 1 < 6; omega)).1
      have X1 : Hid (((wr.setCell ⟨w.heap.size + 1, 0, none⟩ (.int .i64 (A / 16))).setCell ⟨w.heap.size + 1, 1, none⟩ (.int .i64 (A % 16))).heap[w.heap.size + 1]? = some (.cells (numA (digRow A B 1)) 87 (0, 0))) := by
        show _ = _
        rw [blk_set (blk_set P1.out _), numA_set, numA_set]; rfl
      have X0 : Hid (((wr.setCell ⟨w.heap.size + 1, 0, none⟩ (.int .i64 (A / 16))).setCell ⟨w.heap.size + 1, 1, none⟩ (.int .i64 (A % 16))).heap[w.heap.size]? = some (.cells (numA (digRow 0 0 0)) 87 (0, 0))) := by
        show _ = _
        rw [← P0.out]; simp [World.setCell, Array.getElem?_modify]
      have XB : Hid (Below w.heap.size w ((wr.setCell ⟨w.heap.size + 1, 0, none⟩ (.int .i64 (A / 16))).setCell ⟨w.heap.size + 1, 1, none⟩ (.int .i64 (A % 16)))) := (PB.out.setCell (by show w.heap.size ≤ w.heap.size + 1; omega) _).setCell (by show w.heap.size ≤ w.heap.size + 1; omega) _
      have hlk : Hid (digLack A B 1 = 60 - (A / 16 + A % 16)) := rfl
      clear P0 P1 PB
      go_wp2_with fail
      go_region
      rw [HAe.out, wA]
      go_wp2_with fail
      go_roundw
      case rel => exact ⟨1, by go_num, by omega, by rw [hlk.out], X0, X1, XB.out.drew⟩
      case measure => simp [intOf]
    · rw [show ((1 : Nat) : Int) = (1 : Int) from rfl]
      have f0 := (numA_cell P1.out 2 (by show 2 < 6; omega)).2
      have f1 := (numA_cell P1.out 3 (by show 3 < 6; omega)).2
      have g0 := (numA_cell P1.out 2 (by show 2 < 6; omega)).1
      have g1 := (numA_cell P1.out 3 (by show 3 < 6; omega)).1
      have X1 : Hid (((wr.setCell ⟨w.heap.size + 1, 2, none⟩ (.int .i64 (B / 16))).setCell ⟨w.heap.size + 1, 3, none⟩ (.int .i64 (B % 16))).heap[w.heap.size + 1]? = some (.cells (numA (digRow A B 2)) 87 (0, 0))) := by
        show _ = _
        rw [blk_set (blk_set P1.out _), numA_set, numA_set]; rfl
      have X0 : Hid (((wr.setCell ⟨w.heap.size + 1, 2, none⟩ (.int .i64 (B / 16))).setCell ⟨w.heap.size + 1, 3, none⟩ (.int .i64 (B % 16))).heap[w.heap.size]? = some (.cells (numA (digRow 0 0 0)) 87 (0, 0))) := by
        show _ = _
        rw [← P0.out]; simp [World.setCell, Array.getElem?_modify]
      have XB : Hid (Below w.heap.size w ((wr.setCell ⟨w.heap.size + 1, 2, none⟩ (.int .i64 (B / 16))).setCell ⟨w.heap.size + 1, 3, none⟩ (.int .i64 (B % 16)))) := (PB.out.setCell (by show w.heap.size ≤ w.heap.size + 1; omega) _).setCell (by show w.heap.size ≤ w.heap.size + 1; omega) _
      have hlk : Hid (digLack A B 2 = digLack A B 1 - (B / 16 + B % 16)) := rfl
      have l0 : 0 ≤ digLack A B 1 ∧ digLack A B 1 ≤ 60 := by show 0 ≤ 60 - (A / 16 + A % 16) ∧ 60 - (A / 16 + A % 16) ≤ 60; omega
      obtain ⟨l0, l1⟩ := l0
      generalize digLack A B 1 = L at *
      clear P0 P1 PB
      go_wp2_with fail
      go_region
      rw [HBe.out, wB]
      go_wp2_with fail
      go_roundw
      case rel => exact ⟨2, by go_num, by omega, by rw [hlk.out], X0, X1, XB.out.drew⟩
      case measure => simp [intOf]
    · rw [show ((2 : Nat) : Int) = (2 : Int) from rfl]
      have f0 := (numA_cell P1.out 4 (by show 4 < 6; omega)).2
      have f1 := (numA_cell P1.out 5 (by show 5 < 6; omega)).2
      have g0 := (numA_cell P1.out 4 (by show 4 < 6; omega)).1
      have g1 := (numA_cell P1.out 5 (by show 5 < 6; omega)).1
      have l0 : 0 ≤ digLack A B 2 ∧ digLack A B 2 ≤ 60 := by show 0 ≤ 60 - (A / 16 + A % 16) - (B / 16 + B % 16) ∧ 60 - (A / 16 + A % 16) - (B / 16 + B % 16) ≤ 60; omega
      obtain ⟨l0, l1⟩ := l0
      have hr6 : RS.length = 6 := by rw [HG2.out]; rfl
      have X1 : ((wr.setCell ⟨w.heap.size + 1, 4, none⟩ (.int .i64 (digLack A B 2 / 16))).setCell ⟨w.heap.size + 1, 5, none⟩ (.int .i64 (digLack A B 2 % 16))).heap[w.heap.size + 1]? = some (.cells (numA RS) 87 (0, 0)) := by
        rw [blk_set (blk_set P1.out _), numA_set, numA_set, HG2.out]; rfl
      have X0 : ((wr.setCell ⟨w.heap.size + 1, 4, none⟩ (.int .i64 (digLack A B 2 / 16))).setCell ⟨w.heap.size + 1, 5, none⟩ (.int .i64 (digLack A B 2 % 16))).heap[w.heap.size]? = some (.cells (numA (digRow 0 0 0)) 87 (0, 0)) := by
        rw [← P0.out]; simp [World.setCell, Array.getElem?_modify]
      have XB : Below w.heap.size w ((wr.setCell ⟨w.heap.size + 1, 4, none⟩ (.int .i64 (digLack A B 2 / 16))).setCell ⟨w.heap.size + 1, 5, none⟩ (.int .i64 (digLack A B 2 % 16))) := (PB.out.setCell (by show w.heap.size ≤ w.heap.size + 1; omega) _).setCell (by show w.heap.size ≤ w.heap.size + 1; omega) _
      generalize digLack A B 2 = L at *
      have XL : Hid _ := ld6 hr6 X1
      have XS : Hid _ := st6 RS rfl hr6 X0
      have XR : Hid _ := ld6 hr6 (setRow_heap _ w.heap.size _ (numA RS) 87 _ X0)
      have XE := below_setRow XB (Nat.le_refl _) (numA RS)
      clear P0 P1 PB X0 X1 XB HG2
      generalize hRE : numA RS = row at *
      have HRE : Hid (numA RS = row) := hRE
      clear hRE
      go_wp2_with (first | refine wpList_load_row rfl 87 _ rfl ⟨w.heap.size + 1, 0, none⟩ _ rfl XL.out ?_ | refine wpList_store_row rfl 87 _ _ rfl rfl ⟨w.heap.size, 0, none⟩ _ _ rfl rfl XS.out ?_)
      refine bodyPost_cell rfl rfl rfl XR.out ⟨ret_agg HRE.out.symm, XE⟩
end Go.Proofs.YtnaonldkbaapeacGreatDoor
/-
  What the program's keyRight and SigRight answer: 'sgnB'.
  Conditions: the cells of Ends and Path hold the texts.
-/
namespace Go.Proofs.YtnaonldkbaapeacGreatDoor
open Go.RowKit Go.Lib
set_option linter.unusedVariables false
set_option maxRecDepth 20000

theorem keyRight_any (n : Int) (w : World) : Calls Tryz.prog 63 #[.int .i64 n] w fun e w' => e = .returned (.bool (decide (0 ≤ n ∧ n ≤ 3))) ∧ w' = w := by
  by_cases h1 : 0 ≤ n
  · have d1 : decide (0 ≤ n) = true := decide_eq_true h1
    by_cases h2 : n < 4
    · have d2 : decide (n < 4) = true := decide_eq_true h2
      have H : Hid (decide (0 ≤ n ∧ n ≤ 3) = true) := decide_eq_true ⟨h1, by omega⟩
      rw [H.out]
      clear H
      go_enter Tryz.func63, Tryz.ntmps63
      go_wp2
      go_ret
      exact ⟨rfl, rfl⟩
    · have d2 : decide (n < 4) = false := decide_eq_false h2
      have H : Hid (decide (0 ≤ n ∧ n ≤ 3) = false) := decide_eq_false fun h => h2 (by omega)
      rw [H.out]
      clear H
      go_enter Tryz.func63, Tryz.ntmps63
      go_wp2
      go_ret
      exact ⟨rfl, rfl⟩
  · have d1 : decide (0 ≤ n) = false := decide_eq_false h1
    have H : Hid (decide (0 ≤ n ∧ n ≤ 3) = false) := decide_eq_false fun h => h1 h.1
    rw [H.out]
    clear H
    go_enter Tryz.func63, Tryz.ntmps63
    go_wp2
    go_ret
    exact ⟨rfl, rfl⟩

end Go.Proofs.YtnaonldkbaapeacGreatDoor
/-
  What the program's Included answers: 'incA'.
  Conditions: index and size are int64; the path's cells hold the texts; the two tables lie as the program's text lays them.
-/
namespace Go.Proofs.YtnaonldkbaapeacGreatDoor
open Go.RowKit Go.Lib
set_option linter.unusedVariables false
set_option maxRecDepth 20000

end Go.Proofs.YtnaonldkbaapeacGreatDoor
/-
  What the program's Verify answers: 'verA'.
  Conditions: the cells of Ends and Path hold the texts; the two tables lie as the program's text lays them.
-/
namespace Go.Proofs.YtnaonldkbaapeacGreatDoor
open Go.RowKit Go.Lib
set_option linter.unusedVariables false
set_option maxRecDepth 20000

/-- Six numbers of which the first k are turned to what they lack of 15. -/
def lackTo (d : Nat → Int) (k : Nat) : List Int := (List.range 6).map fun j => if j < k then 15 - d j else d j
theorem lackTo_len (d : Nat → Int) (k : Nat) : (lackTo d k).length = 6 := by simp [lackTo]
theorem lackTo_at (d : Nat → Int) (k j : Nat) (h : j < 6) : (lackTo d k).getD j 0 = if j < k then 15 - d j else d j := by simp [lackTo, List.getD_eq_getElem?_getD, h]
theorem lackTo_set (d : Nat → Int) (k : Nat) (h : k < 6) : (lackTo d k).set k (15 - d k) = lackTo d (k + 1) := by
  apply List.ext_getElem
  · simp [lackTo]
  · intro i h1 h2
    rw [List.getElem_set]
    simp only [lackTo, List.getElem_map, List.getElem_range]
    by_cases hik : k = i
    · subst hik; simp
    · simp only [hik, if_false]
      by_cases h3 : i < k
      · rw [if_pos h3, if_pos (by omega)]
      · rw [if_neg h3, if_neg (by omega)]
theorem lackTo_zero (t : ByteArray) : lackTo (dg t) 0 = digsI t := by
  unfold lackTo dg digsI
  simp [List.range_succ]
theorem idx6 (t : ByteArray) (k : Nat) (hk : k < 6) (w : World) : (Instr.index 87 (.agg (numA (digsI t))) (.int .i64 (k : Int))).run Tryz.prog w = .ok (.int .i64 (dg t k)) w := by
  have h2 : (0 : Int) ≤ (k : Int) ∧ (k : Int) < 6 := by omega
  match k, hk with
  | 0, _ => simp [Instr.index, run_underlying under6, asIntOf, go_sem, numA, digsI, dg]
  | 1, _ => simp [Instr.index, run_underlying under6, asIntOf, go_sem, numA, digsI, dg]
  | 2, _ => simp [Instr.index, run_underlying under6, asIntOf, go_sem, numA, digsI, dg]
  | 3, _ => simp [Instr.index, run_underlying under6, asIntOf, go_sem, numA, digsI, dg]
  | 4, _ => simp [Instr.index, run_underlying under6, asIntOf, go_sem, numA, digsI, dg]
  | 5, _ => simp [Instr.index, run_underlying under6, asIntOf, go_sem, numA, digsI, dg]
theorem verA_eq {root text : ByteArray} {key : Int} {ends path : List ByteArray} (hb : sgnB key ends path = true) (ht : text.size ≤ 8000) : verA root text key ends path = incA (leafA (digB (upTo text ends 6))) key 4 path root := by
  rw [leafA_of (by rw [digB_size]; omega)]
  unfold verA
  by_cases hr : root.size = 32
  · rw [if_pos ⟨hb, hr, ht⟩]
  · rw [if_neg (fun h => hr h.2.1)]
    unfold incA
    rw [if_neg (fun h => hr h.2.2.2.2.1)]
theorem store6 (w3 : World) (l : List Int) (h : l.length = 6) :
    (storeVar 87 ⟨w3.heap.size, 0, none⟩ (.agg (numA l))).run Tryz.prog (w3.alloc (.cells #[.int .i64 0, .int .i64 0, .int .i64 0, .int .i64 0, .int .i64 0, .int .i64 0] 87)) = .ok () (w3.alloc (.cells (numA l) 87)) :=
  run_storeVar_new (P := Tryz.prog) w3 87 _ (numA l) (by rw [numA_size, h]; exact info6) (by rw [numA_size, h]; rfl) (numA_one _)

end Go.Proofs.YtnaonldkbaapeacGreatDoor
/-
  What the program's Sign answers: 'sgK', 'sgE', 'sgP'.
  Conditions: the two tables lie as the program's text lays them.
-/
namespace Go.Proofs.YtnaonldkbaapeacGreatDoor
open Go.RowKit Go.Lib
set_option linter.unusedVariables false
set_option maxRecDepth 20000

set_option maxHeartbeats 4000000 in
theorem implSign_any (seed : ByteArray) (key : Int) (text : ByteArray) (w : World) (hT : Tabs w) (hs : seed.size ≤ 1048576) (ht : text.size ≤ 1048576) :
    Calls Tryz.prog 33 #[.string seed, .int .i64 key, .string text] w fun e w' => ∃ v1 v2, e = .returned (.agg #[.int .i64 (sgK seed key text), v1, v2]) ∧ w'.ownsRow w.heap.size 9 1 v1 (sgE seed key text).length (strRow (sgE seed key text)) ∧ w'.ownsRow w.heap.size 9 1 v2 (sgP seed key text).length (strRow (sgP seed key text)) ∧ (v1.ownBlock = none ∨ v1.ownBlock ≠ v2.ownBlock) ∧ Below w.heap.size w w' := by
  have HT : Hid (Tabs w) := hT
  clear hT
  obtain ⟨W1, hW1⟩ : ∃ W1, W1 = w.alloc (.cells #[.int .i64 0, .slice none 0 0, .slice none 0 0] 28) := ⟨_, rfl⟩
  have HW1 : Hid (W1 = w.alloc (.cells #[.int .i64 0, .slice none 0 0, .slice none 0 0] 28)) := hW1
  have B1 : Hid (Below w.heap.size w W1) := by rw [hW1]; exact (Below.refl _ _).alloc (Nat.le_refl _) _
  have X1 : Hid (W1.heap[w.heap.size]? = some (.cells #[.int .i64 0, .slice none 0 0, .slice none 0 0] 28 (0, 0))) := by rw [hW1]; exact (MapKept.heap_alloc w _).1
  have HZ1 : Hid (W1.heap.size = w.heap.size + 1) := by rw [hW1]; show _ = _; simp
  clear hW1
  have hS := seedRight_any seed W1 (by unfold maxLen; omega)
  have hK := keyRight_any key W1
  have HBk : Hid (∀ x, Below W1.heap.size W1 x → x.cell? ⟨w.heap.size, 0, none⟩ = some (.int .i64 0) ∧ x.cell? ⟨w.heap.size, 1, none⟩ = some (.slice none 0 0) ∧ x.cell? ⟨w.heap.size, 2, none⟩ = some (.slice none 0 0) ∧ x.frozen? ⟨w.heap.size, 0, none⟩ = false ∧ x.frozen? ⟨w.heap.size, 1, none⟩ = false ∧ x.frozen? ⟨w.heap.size, 2, none⟩ = false) := fun x hb => by
    have h0 := (hb.block w.heap.size (by rw [HZ1.out]; omega)).trans X1.out
    simp [World.cell?, World.frozen?, h0]
  have HNo : Hid (signOk seed key text = false → sgK seed key text = 0 ∧ sgE seed key text = [] ∧ sgP seed key text = []) := fun h => by
    have hn : ¬ signOk seed key text = true := by rw [h]; exact Bool.false_ne_true
    exact ⟨if_neg hn, if_neg hn, if_neg hn⟩
  have HZero : Hid (∀ x y z : Value, signOk seed key text = false → ∃ v1 v2, Ending.returned (.agg #[.int .i64 0, .slice none 0 0, .slice none 0 0]) = .returned (.agg #[.int .i64 (sgK seed key text), v1, v2]) ∧ (((W1.setCell ⟨w.heap.size, 0, none⟩ x).setCell ⟨w.heap.size, 1, none⟩ y).setCell ⟨w.heap.size, 2, none⟩ z).ownsRow w.heap.size 9 1 v1 (sgE seed key text).length (strRow (sgE seed key text)) ∧ (((W1.setCell ⟨w.heap.size, 0, none⟩ x).setCell ⟨w.heap.size, 1, none⟩ y).setCell ⟨w.heap.size, 2, none⟩ z).ownsRow w.heap.size 9 1 v2 (sgP seed key text).length (strRow (sgP seed key text)) ∧ (v1.ownBlock = none ∨ v1.ownBlock ≠ v2.ownBlock) ∧ Below w.heap.size w (((W1.setCell ⟨w.heap.size, 0, none⟩ x).setCell ⟨w.heap.size, 1, none⟩ y).setCell ⟨w.heap.size, 2, none⟩ z)) := by
    intro x y z h
    obtain ⟨e1, e2, e3⟩ := HNo.out h
    rw [e1, e2, e3]
    exact ⟨_, _, rfl, World.ownsRow_nil _ _ _ _, World.ownsRow_nil _ _ _ _, .inl rfl, ((B1.out.setCell (Nat.le_refl _) _).setCell (Nat.le_refl _) _).setCell (Nat.le_refl _) _⟩
  obtain ⟨t0, t1, t2, u0, u1, u2⟩ := HBk.out W1 (Below.refl _ _)
  cases h1 : seedB seed with
  | false =>
    have hno : signOk seed key text = false := by unfold signOk; rw [h1]; rfl
    have HZ := fun x y z => HZero.out x y z hno
    rw [h1] at hS
    clear hno h1 HZero HNo hK HBk X1
    go_enter Tryz.func33, Tryz.ntmps33
    go_wp2_with fail
    rw [← HW1.out]
    refine hS.mono ?_
    rintro e w1 ⟨rfl, rfl⟩
    go_wp2_with fail
    refine bodyPost_ret (v := .agg #[.int .i64 0, .slice none 0 0, .slice none 0 0]) (by simp [results, Tryz.results33, go_sem, t0, t1, t2]) rfl ?_
    exact HZ _ _ _
  | true =>
  by_cases h2 : 0 ≤ key ∧ key ≤ 3
  case neg =>
    have hno : signOk seed key text = false := by unfold signOk; rw [h1, decide_eq_false h2]; rfl
    have HZ := fun x y z => HZero.out x y z hno
    rw [h1] at hS
    rw [decide_eq_false h2] at hK
    clear hno h1 h2 HZero HNo HBk X1
    go_enter Tryz.func33, Tryz.ntmps33
    go_wp2_with fail
    rw [← HW1.out]
    refine hS.mono ?_
    rintro e w1 ⟨rfl, rfl⟩
    go_wp2_with fail
    refine hK.mono ?_
    rintro e w1 ⟨rfl, rfl⟩
    go_wp2_with fail
    refine bodyPost_ret (v := .agg #[.int .i64 0, .slice none 0 0, .slice none 0 0]) (by simp [results, Tryz.results33, go_sem, t0, t1, t2]) rfl ?_
    exact HZ _ _ _
  rw [h1] at hS
  rw [decide_eq_true h2] at hK
  by_cases h3 : text.size ≤ 8000
  case neg =>
    have hno : signOk seed key text = false := by unfold signOk; rw [h1, decide_eq_true h2, decide_eq_false h3]; rfl
    have HZ := fun x y z => HZero.out x y z hno
    have d3 : decide (8000 < (text.size : Int)) = true := decide_eq_true (by omega)
    clear hno h1 h2 h3 HZero HNo HBk X1
    go_enter Tryz.func33, Tryz.ntmps33
    go_wp2_with fail
    rw [← HW1.out]
    refine hS.mono ?_
    rintro e w1 ⟨rfl, rfl⟩
    go_wp2_with fail
    refine hK.mono ?_
    rintro e w1 ⟨rfl, rfl⟩
    go_wp2_with fail
    refine bodyPost_ret (v := .agg #[.int .i64 0, .slice none 0 0, .slice none 0 0]) (by simp [results, Tryz.results33, go_sem, t0, t1, t2]) rfl ?_
    exact HZ _ _ _
  have hok : signOk seed key text = true := by unfold signOk; rw [h1, decide_eq_true h2, decide_eq_true h3]; rfl
  have h64 : seed.size ≤ 64 := by have h := h1; unfold seedB at h; rw [decide_eq_true_iff] at h; exact h.2
  have d3 : decide (8000 < (text.size : Int)) = false := decide_eq_false (by omega)
  have HE : Hid (sgK seed key text = key ∧ sgE seed key text = endsTo seed key text 6 ∧ sgP seed key text = pathB (pubsB seed) key.toNat) := ⟨if_pos hok, if_pos hok, if_pos hok⟩
  obtain ⟨I, rfl⟩ := Int.eq_ofNat_of_zero_le h2.1
  rw [Int.toNat_natCast] at HE
  have hI3 : I < 4 := by omega
  have HPA : Hid (pathA (pubsB seed) (I : Int) = pathB (pubsB seed) I) := by
    show _ = _
    unfold pathA; rw [if_pos ⟨pubsB_ent seed, by omega, by rw [pubsB_len]; omega⟩, Int.toNat_natCast]
  have HGo : Hid ((List.range 6).map (goneTo ((List.range 6).map fun j : Nat => begB seed (I : Int) (j : Int)) (digsI text)) = endsTo seed I text 6) := List.map_congr_left (fun j hj => by
    have hj6 : j < 6 := by simpa using hj
    unfold goneTo
    rw [range_get _ 6 j hj6]; rfl)
  clear hok h1 h2 h3 HZero HNo X1
  go_enter Tryz.func33, Tryz.ntmps33
  go_wp2_with fail
  rw [← HW1.out]
  refine hS.mono ?_
  rintro e w1 ⟨rfl, rfl⟩
  go_wp2_with fail
  refine hK.mono ?_
  rintro e w1 ⟨rfl, rfl⟩
  go_wp2_with fail
  refine (starts_any seed (I : Int) w1 (HT.out.below B1.out HT.out.1) (by omega) (by omega) (by omega)).mono ?_
  rintro e w2 ⟨g1, rfl, -, s1, b1⟩
  go_wp2_with fail
  refine (digits_any text w2 (HT.out.below (chainB B1.out b1) HT.out.1) ht).mono ?_
  rintro e w3 ⟨rfl, b2⟩
  have s1 := s1.txt.below b2
  have b2 := chainB b1 b2
  have hA := allWalked_any (some ⟨g1, 0, none⟩) 6 _ (digsI text) w3 (HT.out.below (chainB B1.out b2) HT.out.1) s1 (range_len _ 6) (Nat.le_refl _) (range_wide _ 6 (fun j => begB_size seed I j)) (digsI_len text) (fun j hj => dg_bd text j hj)
  rw [HGo.out] at hA
  clear b1 s1
  generalize numA (digsI text) = RW at *
  go_wp2_with fail
  refine hA.mono ?_
  rintro e w4 ⟨g2, rfl, hg2a, s2, b4⟩
  have hg2b := Nat.le_trans b2.size hg2a
  have b4 := chainB b2 b4
  clear b2 hA
  go_wp2_with fail
  refine (pubTexts_any seed w4 (HT.out.below (chainB B1.out b4) HT.out.1) (by omega)).mono ?_
  rintro e w5 ⟨g3, rfl, -, s3, b5⟩
  have s2 := s2.below b5 s2.lt
  have b5 := chainB b4 b5
  have hP := implPath_any (some ⟨g3, 0, none⟩) 4 (pubsB seed) (I : Int) w5 (HT.out.below (chainB B1.out b5) HT.out.1) s3.txt (by rw [pubsB_len]; omega) (by rw [pubsB_len]; omega) (by omega) (by omega)
  rw [pubsB_len, HPA.out] at hP
  clear b4
  go_wp2_with fail
  refine hP.mono ?_
  rintro e w6 ⟨v2, rfl, o2, b6⟩
  have hg2 := s2.lt
  have s2 := s2.below b6 s2.lt
  have b6 := chainB b5 b6
  have o1 : w6.ownsRow w1.heap.size 9 1 (.slice (some ⟨g2, 0, none⟩) 6 6) (endsTo seed I text 6).length (strRow (endsTo seed I text 6)) := by
    have h := s2.own w1.heap.size hg2b (by rw [endsTo_len]; unfold maxLen; omega)
    rw [endsTo_len] at h ⊢
    exact h
  have hne : (Value.slice (some ⟨g2, 0, none⟩) 6 6).ownBlock ≠ v2.ownBlock := fun h => by
    have h5 := (o2.lt g2 h.symm).1
    omega
  have o2 := ownS_mono o2 b5.size
  obtain ⟨s0, s1, s2, r0, r1, r2⟩ := HBk.out w6 b6
  obtain ⟨q2, c2, rfl, -, -⟩ := ownS_form o2
  have HEnd : Hid (∀ x y z : Value, (((w6.setCell ⟨w.heap.size, 0, none⟩ x).setCell ⟨w.heap.size, 1, none⟩ y).setCell ⟨w.heap.size, 2, none⟩ z).ownsRow w.heap.size 9 1 (.slice (some ⟨g2, 0, none⟩) 6 6) (endsTo seed I text 6).length (strRow (endsTo seed I text 6)) ∧ (((w6.setCell ⟨w.heap.size, 0, none⟩ x).setCell ⟨w.heap.size, 1, none⟩ y).setCell ⟨w.heap.size, 2, none⟩ z).ownsRow w.heap.size 9 1 (.slice q2 (pathB (pubsB seed) I).length c2) (pathB (pubsB seed) I).length (strRow (pathB (pubsB seed) I)) ∧ Below w.heap.size w (((w6.setCell ⟨w.heap.size, 0, none⟩ x).setCell ⟨w.heap.size, 1, none⟩ y).setCell ⟨w.heap.size, 2, none⟩ z)) := by
    intro x y z
    have hz := HZ1.out
    have h1 : ∀ {v : Value} {n : Nat} {xs : List Value}, w6.ownsRow w1.heap.size 9 1 v n xs → (((w6.setCell ⟨w.heap.size, 0, none⟩ x).setCell ⟨w.heap.size, 1, none⟩ y).setCell ⟨w.heap.size, 2, none⟩ z).ownsRow w.heap.size 9 1 v n xs := fun h => ownS_mono (ownsRow_setCell_below (ownsRow_setCell_below (ownsRow_setCell_below h (by show w.heap.size < _; omega) _) (by show w.heap.size < _; omega) _) (by show w.heap.size < _; omega) _) (by omega)
    have hB := chainB B1.out b6
    exact ⟨h1 o1, h1 o2, ((hB.setCell (Nat.le_refl _) _).setCell (Nat.le_refl _) _).setCell (Nat.le_refl _) _⟩
  have HNe : Hid ((Value.slice (some ⟨g2, 0, none⟩) 6 6).ownBlock ≠ (Value.slice q2 (pathB (pubsB seed) I).length c2).ownBlock) := hne
  clear o1 o2 b5 b6 hne HBk t0 t1 t2 u0 u1 u2 hP hg2 hg2a hg2b s3
  generalize pathB (pubsB seed) I = L2 at *
  go_wp2_with fail
  refine bodyPost_ret (v := .agg #[.int .i64 (I : Int), .slice (some ⟨g2, 0, none⟩) 6 6, .slice q2 L2.length c2]) (by simp [results, Tryz.results33, go_sem, s0, s1, s2]) rfl ?_
  obtain ⟨r1, r2, r3⟩ := HEnd.out (.int .i64 (I : Int)) (.slice (some ⟨g2, 0, none⟩) 6 6) (.slice q2 L2.length c2)
  obtain ⟨e1, e2, e3⟩ := HE.out
  rw [e1, e2, e3]
  exact ⟨_, _, rfl, r1, r2, .inr HNe.out, r3⟩
end Go.Proofs.YtnaonldkbaapeacGreatDoor
