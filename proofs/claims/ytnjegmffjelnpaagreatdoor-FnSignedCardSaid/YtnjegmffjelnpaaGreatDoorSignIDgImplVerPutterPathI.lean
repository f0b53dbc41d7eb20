/-
  Parts of one proof, laid as one text: SignIDg, ImplVer, Putter, PathI; what each says stands at its head.
-/
import Derived.Test.YtnjegmffjelnpaaGreatDoorRows
import Derived.Test.YtnjegmffjelnpaaGreatDoorBytesDigMathTurnIWholeR
import Derived.Test.YtnjegmffjelnpaaGreatDoorNumsIBlockI
import Derived.Test.YtnjegmffjelnpaaGreatDoorMacMathPutMathJoinedDigITurn2
import Derived.Test.YtnjegmffjelnpaaGreatDoorSlABxKSlBOwnSSgnBOwnBPadI
import Derived.Test.YtnjegmffjelnpaaGreatDoorTakePathConMathProofLawSignMathMac2
import Derived.Test.YtnjegmffjelnpaaGreatDoorSignVImplRightIncISignIMDigAllSignIASignIB
import Derived.Handy
import Derived.WalkSpells
import Derived.OwnWalk
import Derived.Test.YtnjegmffjelnpaaGreatDoorAll2LeafNode
import Derived.Test.YtnjegmffjelnpaaGreatDoorPowerHalvesTreeTree2TreeHPathMathIncMathTaker
import Derived.Deep.RegionLaw
import Derived.Deep.RegionWith
import Derived.Test.YtnjegmffjelnpaaGreatDoorTreeMath
import Derived.Deep.AppendLies
/-
  What the program's digitsOf answers: 'digsI', six numbers.
  Conditions: the text has at most 2^20 bytes; the two tables lie as the program's text lays them.
-/
namespace Go.Proofs.YtnjegmffjelnpaaGreatDoor
open Go.RowKit Go.Lib
set_option linter.unusedVariables false
set_option maxRecDepth 20000

def digRow (a b : Int) : Nat → List Int
  | 0 => [0, 0, 0, 0, 0, 0]
  | 1 => [a / 16, a % 16, 0, 0, 0, 0]
  | _ => [a / 16, a % 16, b / 16, b % 16, 0, 0]
def digLack (a b : Int) : Nat → Int
  | 0 => 60
  | 1 => 60 - (a / 16 + a % 16)
  | _ => 60 - (a / 16 + a % 16) - (b / 16 + b % 16)
theorem digsI_eq (t : ByteArray) (a b : Int) (ha : a = byteAt (digB t) 0) (hb : b = byteAt (digB t) 1) : digsI t = [a / 16, a % 16, b / 16, b % 16, digLack a b 2 / 16, digLack a b 2 % 16] := by
  unfold digsI digLack
  rw [← ha, ← hb]
  have e : 60 - a / 16 - a % 16 - b / 16 - b % 16 = 60 - (a / 16 + a % 16) - (b / 16 + b % 16) := by omega
  simp only [e]

theorem ld6 {w : World} {g : Nat} {l : List Int} (hl : l.length = 6) (h : w.heap[g]? = some (.cells (numA l) 49 (0, 0))) : (loadVar 49 ⟨g, 0, none⟩).run Tryz.prog w = .ok (.agg (numA l)) w :=
  run_loadVar_row (P := Tryz.prog) w g 49 49 _ (0, 0) _ h under6 rfl (by rw [numA_size, hl]; exact info6)
theorem st6 {w : World} {g : Nat} {l : List Int} (l' : List Int) (hl : l.length = 6) (hl' : l'.length = 6) (h : w.heap[g]? = some (.cells (numA l) 49 (0, 0))) : (storeVar 49 ⟨g, 0, none⟩ (.agg (numA l'))).run Tryz.prog w = .ok () (w.setRow g (numA l')) :=
  run_storeVar_row (P := Tryz.prog) w g 49 49 _ (numA l') h (by rw [numA_size, hl']; exact info6) (by rw [numA_size, numA_size, hl, hl']) (numA_one _)

set_option maxHeartbeats 4000000 in
theorem digits_any (t : ByteArray) (w : World) (hT : Tabs w) (ht : t.size ≤ 1048576) :
    Calls Tryz.prog 24 #[.string t] w fun e w' => e = .returned (.agg (numA (digsI t))) ∧ Below w.heap.size w w' := by
  obtain ⟨D, hD⟩ : ∃ D, D = digB t := ⟨_, rfl⟩
  have hs : D.size = 32 := by rw [hD]; exact digB_size t
  have h0 : 0 < D.size := by omega
  have h1 : 1 < D.size := by omega
  have e0 : byteAt D 0 = ((D[0]'h0).toNat : Int) := by
    unfold byteAt; simp [List.getD_eq_getElem?_getD]; rw [Array.getElem?_eq_getElem h0]; rfl
  have e1 : byteAt D 1 = ((D[1]'h1).toNat : Int) := by
    unfold byteAt; simp [List.getD_eq_getElem?_getD]; rw [Array.getElem?_eq_getElem h1]; rfl
  have c0 : ((D[0]'h0).toNat : Int) ≤ 255 := by have := (D[0]'h0).toNat_lt; omega
  have c1 : ((D[1]'h1).toNat : Int) ≤ 255 := by have := (D[1]'h1).toNat_lt; omega
  have n0 : 0 ≤ ((D[0]'h0).toNat : Int) := by omega
  have n1 : 0 ≤ ((D[1]'h1).toNat : Int) := by omega
  have HG : Hid (∀ A B : Int, A = ((D[0]'h0).toNat : Int) → B = ((D[1]'h1).toNat : Int) → digsI t = [A / 16, A % 16, B / 16, B % 16, digLack A B 2 / 16, digLack A B 2 % 16]) := fun A B hA hB => digsI_eq t A B (by rw [hA, ← hD, e0]) (by rw [hB, ← hD, e1])
  have HT : Hid (Tabs w) := hT
  obtain ⟨RS, hRS⟩ : ∃ RS, RS = digsI t := ⟨_, rfl⟩
  rw [← hRS]
  rw [← hRS] at HG
  clear hT e0 e1 hRS
  have e48 : (w.alloc (.cells #[.int .i64 0, .int .i64 0, .int .i64 0, .int .i64 0, .int .i64 0, .int .i64 0] 49)).heap.size = w.heap.size + 1 := by simp
  obtain ⟨W2, hW2⟩ : ∃ W2, W2 = (w.alloc (.cells #[.int .i64 0, .int .i64 0, .int .i64 0, .int .i64 0, .int .i64 0, .int .i64 0] 49)).alloc (.cells #[.int .i64 0, .int .i64 0, .int .i64 0, .int .i64 0, .int .i64 0, .int .i64 0] 49) := ⟨_, rfl⟩
  have HW2 : Hid (W2 = (w.alloc (.cells #[.int .i64 0, .int .i64 0, .int .i64 0, .int .i64 0, .int .i64 0, .int .i64 0] 49)).alloc (.cells #[.int .i64 0, .int .i64 0, .int .i64 0, .int .i64 0, .int .i64 0, .int .i64 0] 49)) := hW2
  have R0 : Hid (W2.heap[w.heap.size]? = some (.cells (numA (digRow 0 0 0)) 49 (0, 0))) := by rw [hW2]; exact (Below.heap_alloc _ _ _ (by rw [e48]; omega)).trans (MapKept.heap_alloc w _).1
  have R1 : Hid (W2.heap[w.heap.size + 1]? = some (.cells (numA (digRow 0 0 0)) 49 (0, 0))) := by rw [hW2, ← e48]; exact (MapKept.heap_alloc _ _).1
  have B2 : Hid (Below w.heap.size w W2) := by rw [hW2]; exact ((Below.refl _ _).alloc (Nat.le_refl _) _).alloc (by rw [e48]; omega) _
  have S2 : Hid (w.heap.size + 2 ≤ W2.heap.size) := by rw [hW2]; show _ ≤ _; simp
  have hA := digI_any t W2 (by omega) (HT.out.below B2.out HT.out.1)
  rw [← hD] at hA
  clear hW2 hD e48
  go_enter Tryz.func24, Tryz.ntmps24
  go_wp2_with fail
  rw [← HW2.out]
  refine hA.mono ?_
  rintro e w3 ⟨rfl, b3⟩
  obtain ⟨A, hAe⟩ : ∃ A, A = ((D[0]'h0).toNat : Int) := ⟨_, rfl⟩
  obtain ⟨B, hBe⟩ : ∃ B, B = ((D[1]'h1).toNat : Int) := ⟨_, rfl⟩
  have HG2 : Hid (RS = [A / 16, A % 16, B / 16, B % 16, digLack A B 2 / 16, digLack A B 2 % 16]) := HG.out A B hAe hBe
  have Q0 : Hid (w3.heap[w.heap.size]? = some (.cells (numA (digRow 0 0 0)) 49 (0, 0))) := (b3.block _ (by have := S2.out; omega)).trans R0.out
  have Q1 : Hid (w3.heap[w.heap.size + 1]? = some (.cells (numA (digRow A B 0)) 49 (0, 0))) := (b3.block _ (by have := S2.out; omega)).trans R1.out
  have BB : Hid (Below w.heap.size w w3) := chainB B2.out b3
  rw [← hAe] at c0 n0
  rw [← hBe] at c1 n1
  have HAe : Hid (((D[0]'h0).toNat : Int) = A) := hAe.symm
  have HBe : Hid (((D[1]'h1).toNat : Int) = B) := hBe.symm
  have HA : 0 ≤ A / 16 ∧ A / 16 ≤ 15 ∧ 0 ≤ A % 16 ∧ A % 16 ≤ 15 := by omega
  have HB : 0 ≤ B / 16 ∧ B / 16 ≤ 15 ∧ 0 ≤ B % 16 ∧ B % 16 ≤ 15 := by omega
  have wA : wrap64 (A / 16) = A / 16 := by unfold wrap64; omega
  have wB : wrap64 (B / 16) = B / 16 := by unfold wrap64; omega
  obtain ⟨a0, a1, a2, a3⟩ := HA
  obtain ⟨a4, a5, a6, a7⟩ := HB
  clear hA b3 R0 R1 B2 HG hAe hBe HW2
  go_wp2_with fail
  go_loopw [5, 11] (fun l i wr => ∃ (k : Nat), i = .int .i64 k ∧ k ≤ 2 ∧ l = .int .i64 (digLack A B k) ∧ Hid (wr.heap[w.heap.size]? = some (.cells (numA (digRow 0 0 0)) 49 (0, 0))) ∧ Hid (wr.heap[w.heap.size + 1]? = some (.cells (numA (digRow A B k)) 49 (0, 0))) ∧ Hid (Below w.heap.size w wr)) (fun _ i _ => 2 - (Go.RowKit.intOf i).toNat)
  case atStart => exact ⟨0, rfl, by omega, rfl, Q0, Q1, BB⟩
  case round =>
    clear Q0 Q1 BB
    obtain ⟨k, rfl, hk, rfl, P0, P1, PB⟩ := hrel
    have hk3 : k = 0 ∨ k = 1 ∨ k = 2 := by omega
    rcases hk3 with rfl | rfl | rfl
    · rw [show ((0 : Nat) : Int) = (0 : Int) from rfl, show digLack A B 0 = 60 from rfl]
      have f0 := (numA_cell P1.out 0 (by show 0 < 6; omega)).2
      have f1 := (numA_cell P1.out 1 (by show 1 < 6; omega)).2
      have g0 := (numA_cell P1.out 0 (by show 0 < 6; omega)).1
      have g1 := (numA_cell P1.out 1 (by show 1 < 6; omega)).1
      have X1 : Hid (((wr.setCell ⟨w.heap.size + 1, 0, none⟩ (.int .i64 (A / 16))).setCell ⟨w.heap.size + 1, 1, none⟩ (.int .i64 (A % 16))).heap[w.heap.size + 1]? = some (.cells (numA (digRow A B 1)) 49 (0, 0))) := by
        show _ = _
        rw [blk_set (blk_set P1.out _), numA_set, numA_set]; rfl
      have X0 : Hid (((wr.setCell ⟨w.heap.size + 1, 0, none⟩ (.int .i64 (A / 16))).setCell ⟨w.heap.size + 1, 1, none⟩ (.int .i64 (A % 16))).heap[w.heap.size]? = some (.cells (numA (digRow 0 0 0)) 49 (0, 0))) := by
        show _ = _
        rw [← P0.out]; simp [World.setCell, Array.getElem?_modify]
      have XB : Hid (Below w.heap.size w ((wr.setCell ⟨w.heap.size + 1, 0, none⟩ (.int .i64 (A / 16))).setCell ⟨w.heap.size + 1, 1, none⟩ (.int .i64 (A % 16)))) := (PB.out.setCell (by show w.heap.size ≤ w.heap.size + 1; omega) _).setCell (by show w.heap.size ≤ w.heap.size + 1; omega) _
      have hlk : Hid (digLack A B 1 = 60 - (A / 16 + A % 16)) := rfl
      clear P0 P1 PB
      go_wp2_with fail
      go_region
      rw [HAe.out, wA]
      go_wp2_with fail
      go_roundw
      case rel => exact ⟨1, by go_num, by omega, by rw [hlk.out], X0, X1, XB.out.drew⟩
      case measure => simp [Go.RowKit.intOf]
    · rw [show ((1 : Nat) : Int) = (1 : Int) from rfl]
      have f0 := (numA_cell P1.out 2 (by show 2 < 6; omega)).2
      have f1 := (numA_cell P1.out 3 (by show 3 < 6; omega)).2
      have g0 := (numA_cell P1.out 2 (by show 2 < 6; omega)).1
      have g1 := (numA_cell P1.out 3 (by show 3 < 6; omega)).1
      have X1 : Hid (((wr.setCell ⟨w.heap.size + 1, 2, none⟩ (.int .i64 (B / 16))).setCell ⟨w.heap.size + 1, 3, none⟩ (.int .i64 (B % 16))).heap[w.heap.size + 1]? = some (.cells (numA (digRow A B 2)) 49 (0, 0))) := by
        show _ = _
        rw [blk_set (blk_set P1.out _), numA_set, numA_set]; rfl
      have X0 : Hid (((wr.setCell ⟨w.heap.size + 1, 2, none⟩ (.int .i64 (B / 16))).setCell ⟨w.heap.size + 1, 3, none⟩ (.int .i64 (B % 16))).heap[w.heap.size]? = some (.cells (numA (digRow 0 0 0)) 49 (0, 0))) := by
        show _ = _
        rw [← P0.out]; simp [World.setCell, Array.getElem?_modify]
      have XB : Hid (Below w.heap.size w ((wr.setCell ⟨w.heap.size + 1, 2, none⟩ (.int .i64 (B / 16))).setCell ⟨w.heap.size + 1, 3, none⟩ (.int .i64 (B % 16)))) := (PB.out.setCell (by show w.heap.size ≤ w.heap.size + 1; omega) _).setCell (by show w.heap.size ≤ w.heap.size + 1; omega) _
      have hlk : Hid (digLack A B 2 = digLack A B 1 - (B / 16 + B % 16)) := rfl
      have l0 : 0 ≤ digLack A B 1 ∧ digLack A B 1 ≤ 60 := by show 0 ≤ 60 - (A / 16 + A % 16) ∧ 60 - (A / 16 + A % 16) ≤ 60; omega
      obtain ⟨l0, l1⟩ := l0
      generalize digLack A B 1 = L at *
      clear P0 P1 PB
      go_wp2_with fail
      go_region
      rw [HBe.out, wB]
      go_wp2_with fail
      go_roundw
      case rel => exact ⟨2, by go_num, by omega, by rw [hlk.out], X0, X1, XB.out.drew⟩
      case measure => simp [Go.RowKit.intOf]
    · rw [show ((2 : Nat) : Int) = (2 : Int) from rfl]
      have f0 := (numA_cell P1.out 4 (by show 4 < 6; omega)).2
      have f1 := (numA_cell P1.out 5 (by show 5 < 6; omega)).2
      have g0 := (numA_cell P1.out 4 (by show 4 < 6; omega)).1
      have g1 := (numA_cell P1.out 5 (by show 5 < 6; omega)).1
      have l0 : 0 ≤ digLack A B 2 ∧ digLack A B 2 ≤ 60 := by show 0 ≤ 60 - (A / 16 + A % 16) - (B / 16 + B % 16) ∧ 60 - (A / 16 + A % 16) - (B / 16 + B % 16) ≤ 60; omega
      obtain ⟨l0, l1⟩ := l0
      have hr6 : RS.length = 6 := by rw [HG2.out]; rfl
      have X1 : ((wr.setCell ⟨w.heap.size + 1, 4, none⟩ (.int .i64 (digLack A B 2 / 16))).setCell ⟨w.heap.size + 1, 5, none⟩ (.int .i64 (digLack A B 2 % 16))).heap[w.heap.size + 1]? = some (.cells (numA RS) 49 (0, 0)) := by
        rw [blk_set (blk_set P1.out _), numA_set, numA_set, HG2.out]; rfl
      have X0 : ((wr.setCell ⟨w.heap.size + 1, 4, none⟩ (.int .i64 (digLack A B 2 / 16))).setCell ⟨w.heap.size + 1, 5, none⟩ (.int .i64 (digLack A B 2 % 16))).heap[w.heap.size]? = some (.cells (numA (digRow 0 0 0)) 49 (0, 0)) := by
        rw [← P0.out]; simp [World.setCell, Array.getElem?_modify]
      have XB : Below w.heap.size w ((wr.setCell ⟨w.heap.size + 1, 4, none⟩ (.int .i64 (digLack A B 2 / 16))).setCell ⟨w.heap.size + 1, 5, none⟩ (.int .i64 (digLack A B 2 % 16))) := (PB.out.setCell (by show w.heap.size ≤ w.heap.size + 1; omega) _).setCell (by show w.heap.size ≤ w.heap.size + 1; omega) _
      generalize digLack A B 2 = L at *
      have XL : Hid _ := ld6 hr6 X1
      have XS : Hid _ := st6 RS rfl hr6 X0
      have XR : Hid _ := ld6 hr6 (setRow_heap _ w.heap.size _ (numA RS) 49 _ X0)
      have XE := below_setRow XB (Nat.le_refl _) (numA RS)
      clear P0 P1 PB X0 X1 XB HG2
      generalize hRE : numA RS = row at *
      have HRE : Hid (numA RS = row) := hRE
      clear hRE
      go_wp2_with (first | refine wpList_load_row rfl 49 _ rfl ⟨w.heap.size + 1, 0, none⟩ _ rfl XL.out ?_ | refine wpList_store_row rfl 49 _ _ rfl rfl ⟨w.heap.size, 0, none⟩ _ _ rfl rfl XS.out ?_)
      refine bodyPost_cell rfl rfl rfl XR.out ⟨ret_agg HRE.out.symm, XE⟩
end Go.Proofs.YtnjegmffjelnpaaGreatDoor
/-
  What the program's Verify answers: 'verA'.
  Conditions: the cells of Ends and Path hold the texts; the two tables lie as the program's text lays them.
-/
namespace Go.Proofs.YtnjegmffjelnpaaGreatDoor
open Go.RowKit Go.Lib
set_option linter.unusedVariables false
set_option maxRecDepth 20000

/-- Six numbers of which the first k are turned to what they lack of 15. -/
def lackTo (d : Nat → Int) (k : Nat) : List Int := (List.range 6).map fun j => if j < k then 15 - d j else d j
theorem lackTo_len (d : Nat → Int) (k : Nat) : (lackTo d k).length = 6 := by simp [lackTo]
theorem lackTo_at (d : Nat → Int) (k j : Nat) (h : j < 6) : (lackTo d k).getD j 0 = if j < k then 15 - d j else d j := by simp [lackTo, List.getD_eq_getElem?_getD, h]
theorem lackTo_set (d : Nat → Int) (k : Nat) (h : k < 6) : (lackTo d k).set k (15 - d k) = lackTo d (k + 1) := by
  apply List.ext_getElem
  · simp [lackTo]
  · intro i h1 h2
    rw [List.getElem_set]
    simp only [lackTo, List.getElem_map, List.getElem_range]
    by_cases hik : k = i
    · subst hik; simp
    · simp only [hik, if_false]
      by_cases h3 : i < k
      · rw [if_pos h3, if_pos (by omega)]
      · rw [if_neg h3, if_neg (by omega)]
theorem lackTo_zero (t : ByteArray) : lackTo (dg t) 0 = digsI t := by
  unfold lackTo dg digsI
  simp [List.range_succ]
theorem idx6 (t : ByteArray) (k : Nat) (hk : k < 6) (w : World) : (Instr.index 49 (.agg (numA (digsI t))) (.int .i64 (k : Int))).run Tryz.prog w = .ok (.int .i64 (dg t k)) w := by
  have h2 : (0 : Int) ≤ (k : Int) ∧ (k : Int) < 6 := by omega
  match k, hk with
  | 0, _ => simp [Instr.index, run_underlying under6, asIntOf, go_sem, numA, digsI, dg]
  | 1, _ => simp [Instr.index, run_underlying under6, asIntOf, go_sem, numA, digsI, dg]
  | 2, _ => simp [Instr.index, run_underlying under6, asIntOf, go_sem, numA, digsI, dg]
  | 3, _ => simp [Instr.index, run_underlying under6, asIntOf, go_sem, numA, digsI, dg]
  | 4, _ => simp [Instr.index, run_underlying under6, asIntOf, go_sem, numA, digsI, dg]
  | 5, _ => simp [Instr.index, run_underlying under6, asIntOf, go_sem, numA, digsI, dg]
theorem verA_eq {root text : ByteArray} {key : Int} {ends path : List ByteArray} (hb : sgnB key ends path = true) (ht : text.size ≤ 8000) : verA root text key ends path = incA (leafA (digB (upTo text ends 6))) key 4 path root := by
  rw [leafA_of (by rw [digB_size]; omega)]
  unfold verA
  by_cases hr : root.size = 32
  · rw [if_pos ⟨hb, hr, ht⟩]
  · rw [if_neg (fun h => hr h.2.1)]
    unfold incA
    rw [if_neg (fun h => hr h.2.2.2.2.1)]
theorem store6 (w3 : World) (l : List Int) (h : l.length = 6) :
    (storeVar 49 ⟨w3.heap.size, 0, none⟩ (.agg (numA l))).run Tryz.prog (w3.alloc (.cells #[.int .i64 0, .int .i64 0, .int .i64 0, .int .i64 0, .int .i64 0, .int .i64 0] 49)) = .ok () (w3.alloc (.cells (numA l) 49)) :=
  run_storeVar_new (P := Tryz.prog) w3 49 _ (numA l) (by rw [numA_size, h]; exact info6) (by rw [numA_size, h]; rfl) (numA_one _)

set_option maxHeartbeats 4000000 in
theorem implVerify_any (root text : ByteArray) (key : Int) (q1 : Option Addr) (c1 : Nat) (ends : List ByteArray) (q2 : Option Addr) (c2 : Nat) (path : List ByteArray) (w : World) (hT : Tabs w) (h1 : TxtAt w q1 ends) (h2 : TxtAt w q2 path) (n1 : ends.length ≤ 1048576) (n2 : path.length ≤ 1048576) (m1 : ends.length ≤ c1) (m2 : path.length ≤ c2) (hr : root.size ≤ 1048576) (ht : text.size ≤ 1048576) (k0 : -9223372036854775808 ≤ key) (k1 : key ≤ 9223372036854775807) :
    Calls Tryz.prog 9 #[.string root, .string text, .agg #[.int .i64 key, .slice q1 ends.length c1, .slice q2 path.length c2]] w fun e w' => e = .returned (.bool (verA root text key ends path)) ∧ Below w.heap.size w w' := by
  obtain ⟨W1, hW1⟩ : ∃ W1, W1 = w.alloc (.cells #[.int .i64 key, .slice q1 ends.length c1, .slice q2 path.length c2] 30) := ⟨_, rfl⟩
  have HW1 : Hid (W1 = w.alloc (.cells #[.int .i64 key, .slice q1 ends.length c1, .slice q2 path.length c2] 30)) := hW1
  have B1 : Hid (Below w.heap.size w W1) := by rw [hW1]; exact (Below.refl _ _).alloc (Nat.le_refl _) _
  have HZ1 : Hid (W1.heap.size = w.heap.size + 1) := by rw [hW1]; show _ = _; simp
  have X1 : Hid (W1.heap[w.heap.size]? = some (.cells #[.int .i64 key, .slice q1 ends.length c1, .slice q2 path.length c2] 30 (0, 0))) := by rw [hW1]; exact (MapKept.heap_alloc w _).1
  have hS := implSigRight_any key q1 c1 ends q2 c2 path W1 (h1.below B1.out) (h2.below B1.out) n1 n2 m1 m2
  have T1 : Hid (TxtAt W1 q1 ends) := h1.below B1.out
  have T2 : Hid (TxtAt W1 q2 path) := h2.below B1.out
  have HT : Hid (Tabs W1) := hT.below B1.out hT.1
  have HNo : Hid (¬ (sgnB key ends path = true ∧ root.size = 32 ∧ text.size ≤ 8000) → verA root text key ends path = false) := fun h => if_neg h
  have t0 : W1.cell? ⟨w.heap.size, 0, none⟩ = some (.int .i64 key) ∧ W1.cell? ⟨w.heap.size, 1, none⟩ = some (.slice q1 ends.length c1) ∧ W1.cell? ⟨w.heap.size, 2, none⟩ = some (.slice q2 path.length c2) := by simp [World.cell?, X1.out]
  obtain ⟨t0, t1, t2⟩ := t0
  clear hW1 h1 h2 hT
  by_cases ht8 : text.size ≤ 8000
  case neg =>
    have H : Hid (verA root text key ends path = false) := HNo.out (fun h => ht8 h.2.2)
    have d3 : decide (8000 < (text.size : Int)) = true := decide_eq_true (by omega)
    clear HNo T1 T2 ht8 hS t0 t1 t2
    go_enter Tryz.func9, Tryz.ntmps9
    go_wp2_with fail
    go_ret
    refine ⟨ret_bool H.out.symm, ?_⟩
    rw [← HW1.out]
    exact B1.out
  have d3 : decide (8000 < (text.size : Int)) = false := decide_eq_false (by omega)
  cases hb : sgnB key ends path with
  | false =>
    have H : Hid (verA root text key ends path = false) := HNo.out (fun h => by rw [hb] at h; cases h.1)
    rw [hb] at hS
    rw [HW1.out] at t0 t1 t2
    clear hb HNo T1 T2
    go_enter Tryz.func9, Tryz.ntmps9
    go_wp2_with fail
    rw [← HW1.out]
    refine hS.mono ?_
    rintro e w1 ⟨rfl, b1⟩
    have b1 := chainB B1.out b1
    go_wp2_with fail
    go_ret
    exact ⟨ret_bool H.out.symm, b1⟩
  | true =>
  rw [hb] at hS
  have HV : Hid (verA root text key ends path = incA (leafA (digB (upTo text ends 6))) key 4 path root) := verA_eq hb ht8
  have hparts : (0 ≤ key ∧ key ≤ 3) ∧ ends.length = 6 ∧ path.length = 2 ∧ wideB ends = true := by
    unfold sgnB at hb
    rw [Bool.and_eq_true, Bool.and_eq_true, Bool.and_eq_true, Bool.and_eq_true, decide_eq_true_iff, decide_eq_true_iff, decide_eq_true_iff] at hb
    exact ⟨hb.1, hb.2.1, hb.2.2.1, hb.2.2.2.1⟩
  have HL6 : Hid (ends.length = 6) := hparts.2.1
  have HWd : Hid (∀ x ∈ ends, x.size = 32) := wideB_all hparts.2.2.2
  have HLk : Hid (lackTo (dg text) 0 = digsI text) := lackTo_zero text
  clear hb HNo hparts
  rw [HW1.out] at t0 t1 t2
  go_enter Tryz.func9, Tryz.ntmps9
  go_wp2_with fail
  rw [← HW1.out]
  refine hS.mono ?_
  rintro e w1 ⟨rfl, b1⟩
  go_wp2_with fail
  refine (digits_any text w1 (HT.out.below b1 HT.out.1) ht).mono ?_
  rintro e w2 ⟨rfl, b2⟩
  have b2 := chainB b1 b2
  have XS : Hid _ := store6 w2 (digsI text) (digsI_len text)
  obtain ⟨W3, hW3⟩ : ∃ W3, W3 = w2.alloc (.cells (numA (digsI text)) 49) := ⟨_, rfl⟩
  rw [← hW3] at XS
  have R3 : Hid (W3.heap[w2.heap.size]? = some (.cells (numA (lackTo (dg text) 0)) 49 (0, 0))) := by rw [hW3, HLk.out]; exact (MapKept.heap_alloc _ _).1
  have XL : Hid ((loadVar 49 ⟨w2.heap.size, 0, none⟩).run Tryz.prog W3 = .ok (.agg (numA (digsI text))) W3) := ld6 (digsI_len text) (by rw [← HLk.out]; exact R3.out)
  have B3 : Hid (Below W1.heap.size W1 W3) := by rw [hW3]; exact b2.alloc b2.size _
  have hsz := b2.size
  have hz1 := HZ1.out
  clear b1 b2 hS hW3 t0 t1 t2
  obtain ⟨RW, hRW⟩ : ∃ RW, RW = numA (digsI text) := ⟨_, rfl⟩
  have HIx : Hid (∀ k : Nat, k < 6 → ∀ x : World, (Instr.index 49 (.agg RW) (.int .i64 (k : Int))).run Tryz.prog x = .ok (.int .i64 (dg text k)) x) := by
    intro k hk x; rw [hRW]; exact idx6 text k hk x
  rw [← hRW] at XS XL ⊢
  clear hRW
  go_wp2_with (first | refine wpList_load_row rfl 49 _ rfl ⟨w2.heap.size, 0, none⟩ _ rfl XL.out ?_ | refine wpList_store_row rfl 49 _ _ rfl rfl ⟨w2.heap.size, 0, none⟩ _ W3 rfl rfl XS.out ?_)
  go_loopw [22] (fun i wr => ∃ (k : Nat), i = .int .i64 k ∧ k ≤ 6 ∧ Hid (wr.heap[w2.heap.size]? = some (.cells (numA (lackTo (dg text) k)) 49 (0, 0))) ∧ Hid (Below W1.heap.size W1 wr)) (fun i _ => 6 - (Go.RowKit.intOf i).toNat)
  case atStart => exact ⟨0, rfl, by omega, R3, B3⟩
  case round =>
    clear XS XL R3 B3
    obtain ⟨k, rfl, hk, HR, HB⟩ := hrel
    by_cases hlt : k < 6
    · have d4 : decide ((k : Int) < 6) = true := decide_eq_true (by omega)
      have i1 : (k : Int) < 6 := by omega
      have i2 : (0 : Int) ≤ k := by omega
      have hix := HIx.out k hlt
      obtain ⟨g0, g1⟩ := dg_bd text k hlt
      obtain ⟨f1, f2⟩ := numA_cell HR.out k (by rw [lackTo_len]; omega)
      have X2 : Hid ((wr.setCell ⟨w2.heap.size, k, none⟩ (.int .i64 (15 - dg text k))).heap[w2.heap.size]? = some (.cells (numA (lackTo (dg text) (k + 1))) 49 (0, 0))) := by
        show _ = _
        rw [blk_set HR.out, numA_set, lackTo_set _ k hlt]
      have X3 : Hid (Below W1.heap.size W1 (wr.setCell ⟨w2.heap.size, k, none⟩ (.int .i64 (15 - dg text k)))) := HB.out.setCell (by show W1.heap.size ≤ w2.heap.size; omega) _
      generalize dg text k = d at *
      clear HR HB
      go_wp2_with fail
      go_roundw
      case rel => exact ⟨k + 1, by go_num, by omega, X2, X3⟩
      case measure => simp [Go.RowKit.intOf]; omega
    · obtain rfl : k = 6 := by omega
      rw [show ((6 : Nat) : Int) = (6 : Int) from rfl]
      have HX : Hid (∀ x, Below wr.heap.size wr x → x.cell? ⟨w.heap.size, 0, none⟩ = some (.int .i64 key) ∧ x.cell? ⟨w.heap.size, 1, none⟩ = some (.slice q1 ends.length c1) ∧ x.cell? ⟨w.heap.size, 2, none⟩ = some (.slice q2 path.length c2)) := fun x hb => by
        have h0 := ((chainB HB.out hb).block w.heap.size (by rw [HZ1.out]; omega)).trans X1.out
        simp [World.cell?, h0]
      obtain ⟨x0, x1, x2⟩ := HX.out wr (Below.refl _ _)
      have XL6 : Hid ((loadVar 49 ⟨w2.heap.size, 0, none⟩).run Tryz.prog wr = .ok (.agg (numA (lackTo (dg text) 6))) wr) := ld6 (lackTo_len _ _) HR.out
      have hgo : ∀ j, j < 6 → goneTo ends (lackTo (dg text) 6) j = stepsB (15 - dg text j).toNat (ends.getD j ByteArray.empty) := fun j hj => by
        unfold goneTo
        rw [lackTo_at _ 6 j hj, if_pos hj]
      have hcat : cat ((List.range 6).map (goneTo ends (lackTo (dg text) 6))) = upTo text ends 6 := by
        rw [cat_map]
        exact catB_congr _ _ 6 hgo
      have h192 : (upTo text ends 6).size = 192 := catB_size _ 6 (fun j hj => stepsB_size _ _ (by
        have hje : j < ends.length := by rw [HL6.out]; omega
        rw [List.getD_eq_getElem?_getD, List.getElem?_eq_getElem hje]
        exact HWd.out _ (List.getElem_mem hje)))
      have hA : Calls Tryz.prog 26 #[.slice q1 ends.length c1, .agg (numA (lackTo (dg text) 6))] wr fun e x1 => ∃ g, e = .returned (.slice (some ⟨g, 0, none⟩) 6 6) ∧ wr.heap.size ≤ g ∧ BlkS x1 g ((List.range 6).map (goneTo ends (lackTo (dg text) 6))) ∧ Below wr.heap.size wr x1 := by
        have h := allWalked_any q1 c1 ends (lackTo (dg text) 6) wr (HT.out.below HB.out HT.out.1) (T1.out.below HB.out) HL6.out (by rw [← HL6.out]; exact m1) HWd.out (lackTo_len _ _) (fun j hj => by
          obtain ⟨g0, g1⟩ := dg_bd text j hj
          rw [lackTo_at _ 6 j hj, if_pos hj]; omega)
        rw [← HL6.out] at h
        rw [HL6.out] at h ⊢
        exact h
      have HT3 : Hid (Tabs wr) := HT.out.below HB.out HT.out.1
      have U2 : Hid (TxtAt wr q2 path) := T2.out.below HB.out
      have BW : Hid (Below w.heap.size w wr) := chainB B1.out HB.out
      generalize hLL : (List.range 6).map (goneTo ends (lackTo (dg text) 6)) = LL at *
      have hl6 : LL.length = 6 := by rw [← hLL]; simp
      generalize numA (lackTo (dg text) 6) = R6 at *
      rw [← hcat] at h192 HV
      clear hgo hcat hLL HR HB
      go_wp2_with (first | refine wpList_load_row rfl 49 _ rfl ⟨w2.heap.size, 0, none⟩ _ rfl XL6.out ?_)
      refine hA.mono ?_
      rintro e w4 ⟨g4, rfl, -, s4, b4⟩
      have hD := digAll_any g4 6 LL w4 (HT3.out.below b4 HT3.out.1) s4 (by omega) (by omega) (by omega)
      rw [hl6] at hD
      have hDs := digB_size (cat LL)
      generalize digB (cat LL) = D at *
      clear s4 hl6 h192 hA
      go_wp2_with fail
      refine hD.mono ?_
      rintro e w5 ⟨rfl, b5⟩
      have B5 : Hid (Below wr.heap.size wr w5) := chainB b4 b5
      obtain ⟨x3, x4, x5⟩ := HX.out w5 B5.out
      clear x0 x1 x2 b4 b5 hD
      have QL : Hid (∀ y, Below wr.heap.size wr y → Calls Tryz.prog 28 #[.string D] y fun e x1 => e = .returned (.string (leafA D)) ∧ Below y.heap.size y x1) := fun y hb => implLeaf_any D y (HT3.out.below hb HT3.out.1) (by unfold maxLen; omega)
      generalize leafA D = F at *
      have QI : Hid (∀ y, Below wr.heap.size wr y → Calls Tryz.prog 27 #[.string F, .int .i64 key, .int .i64 4, .slice q2 path.length c2, .string root] y fun e x1 => e = .returned (.bool (incA F key 4 path root)) ∧ Below y.heap.size y x1) := fun y hb => implInc_any F key 4 q2 c2 path root y (HT3.out.below hb HT3.out.1) (U2.out.below hb) (by omega) m2 k0 k1 (by omega) (by omega)
      generalize incA F key 4 path root = B at *
      clear hDs
      go_wp2_with fail
      go_region_with (first
        | (go_at_call 28; refine (QL.out _ (by first | exact B5.out | exact B5.out.drew)).mono ?_; rintro e y2 ⟨rfl, z2⟩; have z2 : Below wr.heap.size wr y2 := chainB (by first | exact B5.out | exact B5.out.drew) z2; obtain ⟨x6, x7, x8⟩ := HX.out _ z2)
        | (go_at_call 27; refine (QI.out _ (by first | exact z2 | exact z2.drew)).mono ?_; rintro e y3 ⟨rfl, z3⟩; have z3 : Below wr.heap.size wr y3 := chainB (by first | exact z2 | exact z2.drew) z3))
      all_goals
        have z4 := chainB BW.out z3
        go_wp2_with fail
        go_ret
        exact ⟨ret_bool HV.out.symm, z4⟩
end Go.Proofs.YtnjegmffjelnpaaGreatDoor
/-
  The program's putter: its two closures, 'put' (the tree of the entries is put behind the list) and 'all' (the list).
  Conditions: the entries are of at most 100 bytes; the captured list lies in a block of its own; the two tables lie as the program's text lays them.
-/
namespace Go.Proofs.YtnjegmffjelnpaaGreatDoor
open Go.RowKit Go.Lib
set_option linter.unusedVariables false
set_option maxRecDepth 20000

/-- The list's box, in memory that came behind W0; the list owns its row; nothing that was there has turned. -/
structure PutS (W0 : World) (X : Nat) (l : List ByteArray) (v : Value) (w : World) : Prop where
  bel : Below W0.heap.size W0 w
  hX : W0.heap.size ≤ X
  box : w.heap[X]? = some (.cells #[v] 24 (0, 0))
  own : w.ownsRow W0.heap.size 9 1 v l.length (strRow l)
theorem PutS.below {W0 : World} {X : Nat} {l : List ByteArray} {v : Value} {w w' : World} (h : PutS W0 X l v w) (hb : Below w.heap.size w w') : PutS W0 X l v w' :=
  ⟨h.bel.trans (hb.mono h.bel.size), h.hX, (hb.block _ (lt_of_block h.box)).trans h.box, ownS_below h.own hb⟩
theorem PutS.ne {W0 : World} {X : Nat} {l : List ByteArray} {v : Value} {w : World} (h : PutS W0 X l v w) : v.ownBlock ≠ some X := by
  intro he
  rcases h.own.2 with ⟨rfl, _⟩ | ⟨g, cap, cur, rfl, _, hg, _⟩
  · cases he
  · have : g = X := by simpa [Value.ownBlock] using he
    subst this
    rw [h.box] at hg; simp at hg

set_option maxHeartbeats 1000000 in
theorem put_any (W0 : World) (X : Nat) (l : List ByteArray) (v : Value) (p : Option Addr) (cap : Nat) (ss : List ByteArray) (w : World) (hT : Tabs W0) (hp : TxtAt W0 p ss) (hn : ss.length ≤ 140737488355328) (hcap : ss.length ≤ cap)
    (h100 : ∀ x ∈ ss, x.size ≤ 100) (hl : l.length ≤ 1048576) (h : PutS W0 X l v w) :
    Calls Tryz.prog 123 #[.slice p ss.length cap, .pointer (some ⟨X, 0, none⟩)] w fun e w' => e = .returned (.tuple #[]) ∧ ∃ v', PutS W0 X (l ++ [treeB ss]) v' w' := by
  have HK : Hid (PutS W0 X l v w) := h
  have c1 := cell_of_one h.box
  have hXlt := lt_of_block h.box
  have hne : some X ≠ v.ownBlock := fun e => h.ne e.symm
  obtain ⟨i0, hi, hz0, hz1, hz2⟩ := info_parts infoStr
  have HC : Hid (∀ w', Below w.heap.size w w' → Calls Tryz.prog 121 #[.slice p ss.length cap] w' fun e w'' => e = .returned (.string (treeB ss)) ∧ Below w'.heap.size w' w'') := fun w' hb =>
    treeI_any ss.length p cap ss w' rfl (hT.below (h.bel.trans (hb.mono h.bel.size)) hT.1) (hp.below (h.bel.trans (hb.mono h.bel.size))) hn hcap h100
  have hW0 : W0.heap.size ≤ w.heap.size := h.bel.size
  clear h hT hp h100
  generalize treeB ss = T at *
  go_enter Tryz.func123, Tryz.ntmps123
  go_wp2
  go_region_law
    (first
      | (refine step_append_lies _ rfl _ _ 24 rfl W0.heap.size 9 i0 (.string ByteArray.empty) 1 16 Tryz.underlying24 hi hz0 hz1 hz2 rfl (by omega) v l.length (strRow l) rfl (own2.alloc _) ⟨w2.heap.size, 0, none⟩ 1 1 [.string T] rfl rfl (World.news_of_block (cs := #[.string T]) (t := 9) (fr := (0, 0)) (MapKept.heap_alloc w2 _).1) (by simp [Value.oneCell']) (by omega) (by unfold maxLen; omega) (by omega) (by simp; omega) (w2.heap.size + 1) (by simp) ?_; intro g2 cap2 w3 hown2 hgrow hat hltg; have c3 := (hgrow.cell_far ⟨X, 0, none⟩ (by simp; omega) hne).trans c2'; have f3 := (hgrow.frozen_far ⟨X, 0, none⟩ (by simp; omega) hne).trans f2')
      | (go_simp; go_at_call 121; refine (HC.out _ ((Below.refl _ _).drew)).mono ?_; rintro e w2 ⟨rfl, b2⟩; have b2 := chainB ((Below.refl _ _).drew) b2; have P2 := HK.out.below b2; have c2 := cell_of_one P2.box; have own2 := P2.own; have hX2 := lt_of_block P2.box; have hs2 := b2.size; have c2' : (w2.alloc (.cells #[.string T] 9)).cell? ⟨X, 0, none⟩ = some v := (((Below.refl _ _).alloc (Nat.le_refl _) _ : Below w2.heap.size w2 (w2.alloc _)).cell (p := ⟨X, 0, none⟩) hX2).trans c2; have f2' : (w2.alloc (.cells #[.string T] 9)).frozen? ⟨X, 0, none⟩ = false := (((Below.refl _ _).alloc (Nat.le_refl _) _ : Below w2.heap.size w2 (w2.alloc _)).frozen (p := ⟨X, 0, none⟩) hX2).trans (free_of_one P2.box)))
  all_goals
    have B3 : Below W0.heap.size W0 w3 := (P2.bel.alloc P2.bel.size _).grown hgrow (by simp; omega) (fun j hj => (own2.lt j hj).1)
    have X3 : w3.heap[X]? = some (.cells #[v] 24 (0, 0)) := (hgrow.block X (by simp; omega) hne).trans ((Below.heap_alloc _ _ _ hX2).trans P2.box)
    have hgX : g2 ≠ X := by
      rintro rfl
      rcases hat with h | h
      · exact hne h.symm
      · omega
    have hfin : PutS W0 X (l ++ [T]) (.slice (some ⟨g2, 0, none⟩) (l.length + 1) cap2) (w3.setCell ⟨X, 0, none⟩ (.slice (some ⟨g2, 0, none⟩) (l.length + 1) cap2)) := by
      refine ⟨B3.setCell HK.out.hX _, HK.out.hX, by rw [one_setCell X3], ?_⟩
      have e1 : (l ++ [T]).length = l.length + 1 := by simp
      have e2 : strRow (l ++ [T]) = strRow l ++ [.string T] := by simp [strRow]
      rw [e1, e2]
      exact ownsRow_setCell_other hown2 (by simp [Value.ownBlock, hgX]) _
    go_wp2
    go_end0
    exact ⟨rfl, _, hfin⟩
set_option maxHeartbeats 400000 in
theorem all_any (W0 : World) (X : Nat) (l : List ByteArray) (v : Value) (w : World) (h : PutS W0 X l v w) :
    Calls Tryz.prog 124 #[.pointer (some ⟨X, 0, none⟩)] w fun e w' => e = .returned v ∧ w' = w := by
  have c1 := cell_of_one h.box
  clear h
  go_enter Tryz.func124, Tryz.ntmps124
  go_wp2
  go_ret
  exact ⟨rfl, rfl⟩
def putF (X : Nat) : Value := .func (.func 123) #[] #[.pointer (some ⟨X, 0, none⟩)]
def allF (X : Nat) : Value := .func (.func 124) #[] #[.pointer (some ⟨X, 0, none⟩)]
theorem hmfP : ∀ (fn : Fn) (first cap : Array Value) (w : World), (Instr.makeFunc fn first cap).run Tryz.prog w = .ok (.func fn first cap) w := fun _ _ _ _ => rfl
theorem putS_new (w : World) : PutS w w.heap.size [] (.slice none 0 0) (w.alloc (.cells #[.slice none 0 0] 24)) :=
  ⟨(Below.refl _ _).alloc (Nat.le_refl _) _, Nat.le_refl _, (MapKept.heap_alloc w _).1, World.ownsRow_nil _ _ _ _⟩
set_option maxHeartbeats 400000 in
theorem putter_any (w : World) :
    Calls Tryz.prog 94 #[] w fun e w' => e = .returned (.tuple #[putF w.heap.size, allF w.heap.size]) ∧ PutS w w.heap.size [] (.slice none 0 0) w' := by
  have hm := hmfP
  go_enter Tryz.func94, Tryz.ntmps94
  go_wp2
  go_ret2
  exact ⟨rfl, putS_new w⟩
end Go.Proofs.YtnjegmffjelnpaaGreatDoor
/-
  The program's putPath and PathOf: the path of an entry, 'pathA', in new memory of its own.
  Conditions: the slice's cells hold the entries; index is an int64; the two tables lie as the program's text lays them.
-/
namespace Go.Proofs.YtnjegmffjelnpaaGreatDoor
open Go.RowKit Go.Lib
set_option linter.unusedVariables false
set_option maxRecDepth 20000

set_option maxHeartbeats 1000000 in
theorem putPath_any (N : Nat) : ∀ (W0 : World) (X : Nat) (p : Option Addr) (cap : Nat) (ss : List ByteArray) (i : Nat) (l : List ByteArray) (v : Value) (w : World), ss.length = N → Tabs W0 → TxtAt W0 p ss → ss.length ≤ 1024 → ss.length ≤ cap → (∀ x ∈ ss, x.size ≤ 100) →
    i < ss.length → l.length + ss.length ≤ 1048576 → PutS W0 X l v w →
    Calls Tryz.prog 95 #[.slice p ss.length cap, .int .i64 (i : Int), putF X] w fun e w' => e = .returned (.tuple #[]) ∧ ∃ v', PutS W0 X (l ++ pathB ss i) v' w' := by
  induction N using Nat.strongRecOn with
  | _ N ih =>
  intro W0 X p cap ss i l v w hN hT hp hn hcap h100 hi hl hK
  subst hN
  have HT : Hid (Tabs W0) := hT
  have HP : Hid (TxtAt W0 p ss) := hp
  have HX : Hid (∀ x ∈ ss, x.size ≤ 100) := h100
  have HK : Hid (PutS W0 X l v w) := hK
  clear hT hp h100 hK
  unfold putF at ih ⊢
  by_cases h2 : 2 ≤ ss.length
  · obtain ⟨b, off, rfl, hb, _⟩ := HP.out 0 (by omega)
    have h1 := halfN_lt h2
    have h0 := halfN_pos ss.length
    have l1 : (ss.take (halfN ss.length)).length = halfN ss.length := by simp; omega
    have l2 : (ss.drop (halfN ss.length)).length = ss.length - halfN ss.length := by simp
    have hH := fun w => halves_any b off ss.length cap w h2 (by omega) hcap
    by_cases hik : i < halfN ss.length
    · have hlen := pathB_len (ss.take (halfN ss.length)) i (by omega)
      have HB : Hid (l ++ pathB (ss.take (halfN ss.length)) i ++ [treeB (ss.drop (halfN ss.length))] = l ++ pathB ss i) := by
        show _ = _
        rw [pathB_left h2 hik, List.append_assoc]
      have I1 : Hid (∀ w', PutS W0 X l v w' → Calls Tryz.prog 95 #[.slice (some ⟨b, off, none⟩) (halfN ss.length) (halfN ss.length), .int .i64 (i : Int), .func (.func 123) #[] #[.pointer (some ⟨X, 0, none⟩)]] w' fun e w'' => e = .returned (.tuple #[]) ∧ ∃ v', PutS W0 X (l ++ pathB (ss.take (halfN ss.length)) i) v' w'') := by
        intro w' hK
        have := ih _ (by omega) W0 X (some ⟨b, off, none⟩) (halfN ss.length) (ss.take (halfN ss.length)) i l v w' l1 HT.out (HP.out.take _) (by omega) (by omega) (fun x hx => HX.out x (List.mem_of_mem_take hx)) (by omega) (by omega) hK
        rwa [l1] at this
      have I2 : Hid (∀ l' v' w', l'.length ≤ 1048576 → PutS W0 X l' v' w' → Calls Tryz.prog 123 #[.slice (some ⟨b, off + halfN ss.length, none⟩) (ss.length - halfN ss.length) (ss.length - halfN ss.length), .pointer (some ⟨X, 0, none⟩)] w' fun e w'' => e = .returned (.tuple #[]) ∧ ∃ v'', PutS W0 X (l' ++ [treeB (ss.drop (halfN ss.length))]) v'' w'') := by
        intro l' v' w' hl' hK
        have := put_any W0 X l' v' (some ⟨b, off + halfN ss.length, none⟩) (ss.length - halfN ss.length) (ss.drop (halfN ss.length)) w' HT.out (HP.out.drop _) (by omega) (by omega) (fun x hx => HX.out x (List.mem_of_mem_drop hx)) hl' hK
        rwa [l2] at this
      have hll : (l ++ pathB (ss.take (halfN ss.length)) i).length ≤ 1048576 := by rw [List.length_append]; omega
      clear l1 l2 hlen
      generalize l ++ pathB (ss.take (halfN ss.length)) i = Q at *
      generalize treeB (ss.drop (halfN ss.length)) = T2 at *
      generalize halfN ss.length = k at *
      clear ih
      go_enter Tryz.func95, Tryz.ntmps95
      go_wp2_with fail
      refine (hH _).mono ?_
      rintro e w1 ⟨rfl, b1⟩
      go_wp2_with fail
      refine (I1.out _ (HK.out.below b1)).mono ?_
      rintro e w2 ⟨rfl, v2, K2⟩
      have HK2 : Hid (PutS W0 X Q v2 w2) := K2
      clear K2
      go_wp2_with fail
      refine (I2.out Q v2 _ hll HK2.out).mono ?_
      rintro e w3 ⟨rfl, v3, K3⟩
      have HK3 : Hid (PutS W0 X (Q ++ [T2]) v3 w3) := K3
      clear K3
      go_wp2_with fail
      refine bodyPost_ret (results_none rfl _ _ _) rfl ?_
      exact ⟨rfl, v3, by rw [← HB.out]; exact HK3.out⟩
    · have hlen := pathB_len (ss.drop (halfN ss.length)) (i - halfN ss.length) (by omega)
      have HB : Hid (l ++ pathB (ss.drop (halfN ss.length)) (i - halfN ss.length) ++ [treeB (ss.take (halfN ss.length))] = l ++ pathB ss i) := by
        show _ = _
        rw [pathB_right h2 hik, List.append_assoc]
      have I1 : Hid (∀ w', PutS W0 X l v w' → Calls Tryz.prog 95 #[.slice (some ⟨b, off + halfN ss.length, none⟩) (ss.length - halfN ss.length) (ss.length - halfN ss.length), .int .i64 ((i : Int) - (halfN ss.length : Int)), .func (.func 123) #[] #[.pointer (some ⟨X, 0, none⟩)]] w' fun e w'' => e = .returned (.tuple #[]) ∧ ∃ v', PutS W0 X (l ++ pathB (ss.drop (halfN ss.length)) (i - halfN ss.length)) v' w'') := by
        intro w' hK
        have := ih _ (by omega) W0 X (some ⟨b, off + halfN ss.length, none⟩) (ss.length - halfN ss.length) (ss.drop (halfN ss.length)) (i - halfN ss.length) l v w' l2 HT.out (HP.out.drop _) (by omega) (by omega) (fun x hx => HX.out x (List.mem_of_mem_drop hx)) (by omega) (by omega) hK
        rw [l2, show ((i - halfN ss.length : Nat) : Int) = (i : Int) - (halfN ss.length : Int) by omega] at this
        exact this
      have I2 : Hid (∀ l' v' w', l'.length ≤ 1048576 → PutS W0 X l' v' w' → Calls Tryz.prog 123 #[.slice (some ⟨b, off, none⟩) (halfN ss.length) (halfN ss.length), .pointer (some ⟨X, 0, none⟩)] w' fun e w'' => e = .returned (.tuple #[]) ∧ ∃ v'', PutS W0 X (l' ++ [treeB (ss.take (halfN ss.length))]) v'' w'') := by
        intro l' v' w' hl' hK
        have := put_any W0 X l' v' (some ⟨b, off, none⟩) (halfN ss.length) (ss.take (halfN ss.length)) w' HT.out (HP.out.take _) (by omega) (by omega) (fun x hx => HX.out x (List.mem_of_mem_take hx)) hl' hK
        rwa [l1] at this
      have hll : (l ++ pathB (ss.drop (halfN ss.length)) (i - halfN ss.length)).length ≤ 1048576 := by rw [List.length_append]; omega
      clear l1 l2 hlen
      generalize l ++ pathB (ss.drop (halfN ss.length)) (i - halfN ss.length) = Q at *
      generalize treeB (ss.take (halfN ss.length)) = T2 at *
      generalize halfN ss.length = k at *
      clear ih
      go_enter Tryz.func95, Tryz.ntmps95
      go_wp2_with fail
      refine (hH _).mono ?_
      rintro e w1 ⟨rfl, b1⟩
      go_wp2_with fail
      refine (I1.out _ (HK.out.below b1)).mono ?_
      rintro e w2 ⟨rfl, v2, K2⟩
      have HK2 : Hid (PutS W0 X Q v2 w2) := K2
      clear K2
      go_wp2_with fail
      refine (I2.out Q v2 _ hll HK2.out).mono ?_
      rintro e w3 ⟨rfl, v3, K3⟩
      have HK3 : Hid (PutS W0 X (Q ++ [T2]) v3 w3) := K3
      clear K3
      go_wp2_with fail
      go_end0
      exact ⟨rfl, v3, by rw [← HB.out]; exact HK3.out⟩
  · have h1 : (ss.length : Int) = 1 := by omega
    have HB : Hid (l ++ pathB ss i = l) := by show _ = _; rw [pathB_one h2, List.append_nil]
    clear ih
    go_enter Tryz.func95, Tryz.ntmps95
    go_wp2
    refine bodyPost_ret (results_none rfl _ _ _) rfl ?_
    exact ⟨rfl, v, by rw [HB.out]; exact HK.out⟩

set_option maxHeartbeats 1000000 in
theorem implPath_any (p : Option Addr) (cap : Nat) (ss : List ByteArray) (i : Int) (w : World) (hT : Tabs w) (hp : TxtAt w p ss) (hn : ss.length ≤ 140737488355328) (hcap : ss.length ≤ cap) (i0 : -9223372036854775808 ≤ i) (i1 : i ≤ 9223372036854775807) :
    Calls Tryz.prog 51 #[.slice p ss.length cap, .int .i64 i] w fun e w' => ∃ v, e = .returned v ∧ w'.ownsRow w.heap.size 9 1 v (pathA ss i).length (strRow (pathA ss i)) ∧ Below w.heap.size w w' := by
  have HT : Hid (Tabs w) := hT
  have HP : Hid (TxtAt w p ss) := hp
  clear hT hp
  have hr := entR_any p cap ss w HP.out hn hcap
  have H0 : Hid (pathA ss i = if entB ss = true ∧ 0 ≤ i ∧ i < ss.length then pathB ss i.toNat else []) := rfl
  cases he : entB ss
  · rw [he] at hr
    have H : Hid (pathA ss i = []) := H0.out.trans (if_neg fun h => by rw [he] at h; exact absurd h.1 (by simp))
    clear he
    go_enter Tryz.func51, Tryz.ntmps51
    go_wp2_with fail
    refine hr.mono ?_
    rintro e w1 ⟨rfl, rfl⟩
    go_wp2_with fail
    go_ret
    exact ⟨_, rfl, by rw [H.out]; exact World.ownsRow_nil _ _ _ _, Below.refl _ _⟩
  by_cases c1 : 0 ≤ i
  case neg =>
    rw [he] at hr
    have d1 : decide (i < 0) = true := decide_eq_true (by omega)
    have H : Hid (pathA ss i = []) := H0.out.trans (if_neg fun h => c1 h.2.1)
    clear he
    go_enter Tryz.func51, Tryz.ntmps51
    go_wp2_with fail
    refine hr.mono ?_
    rintro e w1 ⟨rfl, rfl⟩
    go_wp2_with fail
    go_ret
    exact ⟨_, rfl, by rw [H.out]; exact World.ownsRow_nil _ _ _ _, Below.refl _ _⟩
  have d1 : decide (i < 0) = false := decide_eq_false (by omega)
  by_cases c2 : i < ss.length
  case neg =>
    rw [he] at hr
    have d2 : decide ((ss.length : Int) ≤ i) = true := decide_eq_true (by omega)
    have H : Hid (pathA ss i = []) := H0.out.trans (if_neg fun h => c2 h.2.2)
    clear he
    go_enter Tryz.func51, Tryz.ntmps51
    go_wp2_with fail
    refine hr.mono ?_
    rintro e w1 ⟨rfl, rfl⟩
    go_wp2_with fail
    go_ret
    exact ⟨_, rfl, by rw [H.out]; exact World.ownsRow_nil _ _ _ _, Below.refl _ _⟩
  have d2 : decide ((ss.length : Int) ≤ i) = false := decide_eq_false (by omega)
  have H : Hid (pathA ss i = pathB ss i.toNat) := H0.out.trans (if_pos ⟨he, c1, c2⟩)
  have h100 := entB_all he
  have h64 := entB_len he
  rw [he] at hr
  obtain ⟨I, rfl⟩ := Int.eq_ofNat_of_zero_le c1
  rw [Int.toNat_natCast] at H
  have d3 : decide (ss.length ≤ I) = false := decide_eq_false (by omega)
  have HPP : Hid (∀ w', PutS w w.heap.size [] (.slice none 0 0) w' → Calls Tryz.prog 95 #[.slice p ss.length cap, .int .i64 (I : Int), .func (.func 123) #[] #[.pointer (some ⟨w.heap.size, 0, none⟩)]] w' fun e w'' => e = .returned (.tuple #[]) ∧ ∃ v', PutS w w.heap.size (pathA ss I) v' w'') := by
    intro w' hK
    have := putPath_any ss.length w w.heap.size p cap ss I [] _ w' rfl HT.out HP.out (by omega) hcap h100 (by omega) (by simp; omega) hK
    rw [List.nil_append, ← H.out] at this
    exact this
  have HTK := putter_any w
  unfold putF allF at HTK
  clear he h100 H0 H
  generalize pathA ss (I : Int) = R at *
  go_enter Tryz.func51, Tryz.ntmps51
  go_wp2_with fail
  refine hr.mono ?_
  rintro e w1 ⟨rfl, hw1⟩
  subst hw1
  go_wp2_with fail
  refine HTK.mono ?_
  rintro e w2 ⟨rfl, K2⟩
  have HK2 : Hid (PutS w1 w1.heap.size [] (.slice none 0 0) w2) := K2
  clear K2
  go_wp2_with fail
  refine (HPP.out _ HK2.out).mono ?_
  rintro e w3 ⟨rfl, v3, K3⟩
  have HK3 : Hid (PutS w1 w1.heap.size R v3 w3) := K3
  clear K3
  go_wp2_with fail
  refine (all_any w1 w1.heap.size R v3 w3 HK3.out).mono ?_
  rintro e w4 ⟨rfl, hw4⟩
  subst hw4
  go_wp2_with fail
  go_ret
  exact ⟨_, rfl, HK3.out.own, HK3.out.bel⟩
end Go.Proofs.YtnjegmffjelnpaaGreatDoor
