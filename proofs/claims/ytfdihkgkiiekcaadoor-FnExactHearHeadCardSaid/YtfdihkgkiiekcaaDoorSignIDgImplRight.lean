/-
  Parts of one proof, laid as one text: SignIDg, ImplRight; what each says stands at its head.
-/
import Derived.Test.YtfdihkgkiiekcaaDoorRows
import Derived.Test.YtfdihkgkiiekcaaDoorBytesDigMath
import Derived.Test.YtfdihkgkiiekcaaDoorJoinedTurnIWholeR
import Derived.Test.YtfdihkgkiiekcaaDoorBlockI
import Derived.Test.YtfdihkgkiiekcaaDoorDigITurn2
import Derived.Test.YtfdihkgkiiekcaaDoorSlASlBBxK
import Derived.Test.YtfdihkgkiiekcaaDoorSignMath
import Derived.Test.YtfdihkgkiiekcaaDoorSignIMDigAllSignIASignIB
import Derived.Handy
import Derived.WalkSpells
import Derived.OwnWalk
import Derived.Test.YtfdihkgkiiekcaaDoorMacMathPutMathSgnB
/-
  What the program's digitsOf answers: 'digsI', six numbers.
  Conditions: the text has at most 2^20 bytes; the two tables lie as the program's text lays them.
-/
namespace Go.Proofs.YtfdihkgkiiekcaaDoor
open Go.RowKit Go.Lib
set_option linter.unusedVariables false
set_option maxRecDepth 20000

def digRow (a b : Int) : Nat → List Int
  | 0 => [0, 0, 0, 0, 0, 0]
  | 1 => [a / 16, a % 16, 0, 0, 0, 0]
  | _ => [a / 16, a % 16, b / 16, b % 16, 0, 0]
def digLack (a b : Int) : Nat → Int
  | 0 => 60
  | 1 => 60 - (a / 16 + a % 16)
  | _ => 60 - (a / 16 + a % 16) - (b / 16 + b % 16)
theorem digsI_eq (t : ByteArray) (a b : Int) (ha : a = byteAt (digB t) 0) (hb : b = byteAt (digB t) 1) : digsI t = [a / 16, a % 16, b / 16, b % 16, digLack a b 2 / 16, digLack a b 2 % 16] := by
  unfold digsI digLack
  rw [← ha, ← hb]
  have e : 60 - a / 16 - a % 16 - b / 16 - b % 16 = 60 - (a / 16 + a % 16) - (b / 16 + b % 16) := by omega
  simp only [e]

theorem ld6 {w : World} {g : Nat} {l : List Int} (hl : l.length = 6) (h : w.heap[g]? = some (.cells (numA l) 83 (0, 0))) : (loadVar 83 ⟨g, 0, none⟩).run Tryd.prog w = .ok (.agg (numA l)) w :=
  run_loadVar_row (P := Tryd.prog) w g 83 83 _ (0, 0) _ h under6 rfl (by rw [numA_size, hl]; exact info6)
theorem st6 {w : World} {g : Nat} {l : List Int} (l' : List Int) (hl : l.length = 6) (hl' : l'.length = 6) (h : w.heap[g]? = some (.cells (numA l) 83 (0, 0))) : (storeVar 83 ⟨g, 0, none⟩ (.agg (numA l'))).run Tryd.prog w = .ok () (w.setRow g (numA l')) :=
  run_storeVar_row (P := Tryd.prog) w g 83 83 _ (numA l') h (by rw [numA_size, hl']; exact info6) (by rw [numA_size, numA_size, hl, hl']) (numA_one _)

set_option maxHeartbeats 4000000 in
theorem digits_any (t : ByteArray) (w : World) (hT : Tabs w) (ht : t.size ≤ 1048576) :
    Calls Tryd.prog 53 #[.string t] w fun e w' => e = .returned (.agg (numA (digsI t))) ∧ Below w.heap.size w w' := by
  obtain ⟨D, hD⟩ : ∃ D, D = digB t := ⟨_, rfl⟩
  have hs : D.size = 32 := by rw [hD]; exact digB_size t
  have h0 : 0 < D.size := by omega
  have h1 : 1 < D.size := by omega
  have e0 : byteAt D 0 = ((D[0]'h0).toNat : Int) := by
    unfold byteAt; simp [List.getD_eq_getElem?_getD]; rw [Array.getElem?_eq_getElem h0]; rfl
  have e1 : byteAt D 1 = ((D[1]'h1).toNat : Int) := by
    unfold byteAt; simp [List.getD_eq_getElem?_getD]; rw [Array.getElem?_eq_getElem h1]; rfl
  have c0 : ((D[0]'h0).toNat : Int) ≤ 255 := by have := (D[0]'h0).toNat_lt; omega
  have c1 : ((D[1]'h1).toNat : Int) ≤ 255 := by have := (D[1]'h1).toNat_lt; omega
  have n0 : 0 ≤ ((D[0]'h0).toNat : Int) := by omega
  have n1 : 0 ≤ ((D[1]'h1).toNat : Int) := by omega
  have HG : Hid (∀ A B : Int, A = ((D[0]'h0).toNat : Int) → B = ((D[1]'h1).toNat : Int) → digsI t = [A / 16, A % 16, B / 16, B % 16, digLack A B 2 / 16, digLack A B 2 % 16]) := fun A B hA hB => digsI_eq t A B (by rw [hA, ← hD, e0]) (by rw [hB, ← hD, e1])
  have HT : Hid (Tabs w) := hT
  obtain ⟨RS, hRS⟩ : ∃ RS, RS = digsI t := ⟨_, rfl⟩
  rw [← hRS]
  rw [← hRS] at HG
  clear hT e0 e1 hRS
  have e48 : (w.alloc (.cells #[.int .i64 0, .int .i64 0, .int .i64 0, .int .i64 0, .int .i64 0, .int .i64 0] 83)).heap.size = w.heap.size + 1 := by simp
  obtain ⟨W2, hW2⟩ : ∃ W2, W2 = (w.alloc (.cells #[.int .i64 0, .int .i64 0, .int .i64 0, .int .i64 0, .int .i64 0, .int .i64 0] 83)).alloc (.cells #[.int .i64 0, .int .i64 0, .int .i64 0, .int .i64 0, .int .i64 0, .int .i64 0] 83) := ⟨_, rfl⟩
  have HW2 : Hid (W2 = (w.alloc (.cells #[.int .i64 0, .int .i64 0, .int .i64 0, .int .i64 0, .int .i64 0, .int .i64 0] 83)).alloc (.cells #[.int .i64 0, .int .i64 0, .int .i64 0, .int .i64 0, .int .i64 0, .int .i64 0] 83)) := hW2
  have R0 : Hid (W2.heap[w.heap.size]? = some (.cells (numA (digRow 0 0 0)) 83 (0, 0))) := by rw [hW2]; exact (Below.heap_alloc _ _ _ (by rw [e48]; omega)).trans (MapKept.heap_alloc w _).1
  have R1 : Hid (W2.heap[w.heap.size + 1]? = some (.cells (numA (digRow 0 0 0)) 83 (0, 0))) := by rw [hW2, ← e48]; exact (MapKept.heap_alloc _ _).1
  have B2 : Hid (Below w.heap.size w W2) := by rw [hW2]; exact ((Below.refl _ _).alloc (Nat.le_refl _) _).alloc (by rw [e48]; omega) _
  have S2 : Hid (w.heap.size + 2 ≤ W2.heap.size) := by rw [hW2]; show _ ≤ _; simp
  have hA := digI_any t W2 (by omega) (HT.out.below B2.out HT.out.1)
  rw [← hD] at hA
  clear hW2 hD e48
  go_enter Tryd.func53, Tryd.ntmps53
  go_wp2_with fail
  rw [← HW2.out]
  refine hA.mono ?_
  rintro e w3 ⟨rfl, b3⟩
  obtain ⟨A, hAe⟩ : ∃ A, A = ((D[0]'h0).toNat : Int) := ⟨_, rfl⟩
  obtain ⟨B, hBe⟩ : ∃ B, B = ((D[1]'h1).toNat : Int) := ⟨_, rfl⟩
  have HG2 : Hid (RS = [A / 16, A % 16, B / 16, B % 16, digLack A B 2 / 16, digLack A B 2 % 16]) := HG.out A B hAe hBe
  have Q0 : Hid (w3.heap[w.heap.size]? = some (.cells (numA (digRow 0 0 0)) 83 (0, 0))) := (b3.block _ (by have := S2.out; omega)).trans R0.out
  have Q1 : Hid (w3.heap[w.heap.size + 1]? = some (.cells (numA (digRow A B 0)) 83 (0, 0))) := (b3.block _ (by have := S2.out; omega)).trans R1.out
  have BB : Hid (Below w.heap.size w w3) := chainB B2.out b3
  rw [← hAe] at c0 n0
  rw [← hBe] at c1 n1
  have HAe : Hid (((D[0]'h0).toNat : Int) = A) := hAe.symm
  have HBe : Hid (((D[1]'h1).toNat : Int) = B) := hBe.symm
  have HA : 0 ≤ A / 16 ∧ A / 16 ≤ 15 ∧ 0 ≤ A % 16 ∧ A % 16 ≤ 15 := by omega
  have HB : 0 ≤ B / 16 ∧ B / 16 ≤ 15 ∧ 0 ≤ B % 16 ∧ B % 16 ≤ 15 := by omega
  have wA : wrap64 (A / 16) = A / 16 := by unfold wrap64; omega
  have wB : wrap64 (B / 16) = B / 16 := by unfold wrap64; omega
  obtain ⟨a0, a1, a2, a3⟩ := HA
  obtain ⟨a4, a5, a6, a7⟩ := HB
  clear hA b3 R0 R1 B2 HG hAe hBe HW2
  go_wp2_with fail
  go_loopw [5, 11] (fun l i wr => ∃ (k : Nat), i = .int .i64 k ∧ k ≤ 2 ∧ l = .int .i64 (digLack A B k) ∧ Hid (wr.heap[w.heap.size]? = some (.cells (numA (digRow 0 0 0)) 83 (0, 0))) ∧ Hid (wr.heap[w.heap.size + 1]? = some (.cells (numA (digRow A B k)) 83 (0, 0))) ∧ Hid (Below w.heap.size w wr)) (fun _ i _ => 2 - (intOf i).toNat)
  case atStart => exact ⟨0, rfl, by omega, rfl, Q0, Q1, BB⟩
  case round =>
    clear Q0 Q1 BB
    obtain ⟨k, rfl, hk, rfl, P0, P1, PB⟩ := hrel
    have hk3 : k = 0 ∨ k = 1 ∨ k = 2 := by omega
    rcases hk3 with rfl | rfl | rfl
    · rw [show ((0 : Nat) : Int) = (0 : Int) from rfl, show digLack A B 0 = 60 from rfl]
      have f0 := (numA_cell P1.out 0 (by show 0 < 6; omega)).2
      have f1 := (numA_cell P1.out 1 (by show 1 < 6; omega)).2
      have g0 := (numA_cell P1.out 0 (by show 0 < 6; omega)).1
      have g1 := (numA_cell P1.out 1 (by show 1 < 6; omega)).1
      have X1 : Hid (((wr.setCell ⟨w.heap.size + 1, 0, none⟩ (.int .i64 (A / 16))).setCell ⟨w.heap.size + 1, 1, none⟩ (.int .i64 (A % 16))).heap[w.heap.size + 1]? = some (.cells (numA (digRow A B 1)) 83 (0, 0))) := by
        show _ = _
        rw [blk_set (blk_set P1.out _), numA_set, numA_set]; rfl
      have X0 : Hid (((wr.setCell ⟨w.heap.size + 1, 0, none⟩ (.int .i64 (A / 16))).setCell ⟨w.heap.size + 1, 1, none⟩ (.int .i64 (A % 16))).heap[w.heap.size]? = some (.cells (numA (digRow 0 0 0)) 83 (0, 0))) := by
        show _ = _
        rw [← P0.out]; simp [World.setCell, Array.getElem?_modify]
      have XB : Hid (Below w.heap.size w ((wr.setCell ⟨w.heap.size + 1, 0, none⟩ (.int .i64 (A / 16))).setCell ⟨w.heap.size + 1, 1, none⟩ (.int .i64 (A % 16)))) := (PB.out.setCell (by show w.heap.size ≤ w.heap.size + 1; omega) _).setCell (by show w.heap.size ≤ w.heap.size + 1; omega) _
      have hlk : Hid (digLack A B 1 = 60 - (A / 16 + A % 16)) := rfl
      clear P0 P1 PB
      go_wp2_with fail
      go_region
      rw [HAe.out, wA]
      go_wp2_with fail
      go_roundw
      case rel => exact ⟨1, by go_num, by omega, by rw [hlk.out], X0, X1, XB.out.drew⟩
      case measure => simp [intOf]
    · rw [show ((1 : Nat) : Int) = (1 : Int) from rfl]
      have f0 := (numA_cell P1.out 2 (by show 2 < 6; omega)).2
      have f1 := (numA_cell P1.out 3 (by show 3 < 6; omega)).2
      have g0 := (numA_cell P1.out 2 (by show 2 < 6; omega)).1
      have g1 := (numA_cell P1.out 3 (by show 3 < 6; omega)).1
      have X1 : Hid (((wr.setCell ⟨w.heap.size + 1, 2, none⟩ (.int .i64 (B / 16))).setCell ⟨w.heap.size + 1, 3, none⟩ (.int .i64 (B % 16))).heap[w.heap.size + 1]? = some (.cells (numA (digRow A B 2)) 83 (0, 0))) := by
        show _ = _
        rw [blk_set (blk_set P1.out _), numA_set, numA_set]; rfl
      have X0 : Hid (((wr.setCell ⟨w.heap.size + 1, 2, none⟩ (.int .i64 (B / 16))).setCell ⟨w.heap.size + 1, 3, none⟩ (.int .i64 (B % 16))).heap[w.heap.size]? = some (.cells (numA (digRow 0 0 0)) 83 (0, 0))) := by
        show _ = _
        rw [← P0.out]; simp [World.setCell, Array.getElem?_modify]
      have XB : Hid (Below w.heap.size w ((wr.setCell ⟨w.heap.size + 1, 2, none⟩ (.int .i64 (B / 16))).setCell ⟨w.heap.size + 1, 3, none⟩ (.int .i64 (B % 16)))) := (PB.out.setCell (by show w.heap.size ≤ w.heap.size + 1; omega) _).setCell (by show w.heap.size ≤ w.heap.size + 1; omega) _
      have hlk : Hid (digLack A B 2 = digLack A B 1 - (B / 16 + B % 16)) := rfl
      have l0 : 0 ≤ digLack A B 1 ∧ digLack A B 1 ≤ 60 := by show 0 ≤ 60 - (A / 16 + A % 16) ∧ 60 - (A / 16 + A % 16) ≤ 60; omega
      obtain ⟨l0, l1⟩ := l0
      generalize digLack A B 1 = L at *
      clear P0 P1 PB
      go_wp2_with fail
      go_region
      rw [HBe.out, wB]
      go_wp2_with fail
      go_roundw
      case rel => exact ⟨2, by go_num, by omega, by rw [hlk.out], X0, X1, XB.out.drew⟩
      case measure => simp [intOf]
    · rw [show ((2 : Nat) : Int) = (2 : Int) from rfl]
      have f0 := (numA_cell P1.out 4 (by show 4 < 6; omega)).2
      have f1 := (numA_cell P1.out 5 (by show 5 < 6; omega)).2
      have g0 := (numA_cell P1.out 4 (by show 4 < 6; omega)).1
      have g1 := (numA_cell P1.out 5 (by show 5 < 6; omega)).1
      have l0 : 0 ≤ digLack A B 2 ∧ digLack A B 2 ≤ 60 := by show 0 ≤ 60 - (A / 16 + A % 16) - (B / 16 + B % 16) ∧ 60 - (A / 16 + A % 16) - (B / 16 + B % 16) ≤ 60; omega
      obtain ⟨l0, l1⟩ := l0
      have hr6 : RS.length = 6 := by rw [HG2.out]; rfl
      have X1 : ((wr.setCell ⟨w.heap.size + 1, 4, none⟩ (.int .i64 (digLack A B 2 / 16))).setCell ⟨w.heap.size + 1, 5, none⟩ (.int .i64 (digLack A B 2 % 16))).heap[w.heap.size + 1]? = some (.cells (numA RS) 83 (0, 0)) := by
        rw [blk_set (blk_set P1.out _), numA_set, numA_set, HG2.out]; rfl
      have X0 : ((wr.setCell ⟨w.heap.size + 1, 4, none⟩ (.int .i64 (digLack A B 2 / 16))).setCell ⟨w.heap.size + 1, 5, none⟩ (.int .i64 (digLack A B 2 % 16))).heap[w.heap.size]? = some (.cells (numA (digRow 0 0 0)) 83 (0, 0)) := by
        rw [← P0.out]; simp [World.setCell, Array.getElem?_modify]
      have XB : Below w.heap.size w ((wr.setCell ⟨w.heap.size + 1, 4, none⟩ (.int .i64 (digLack A B 2 / 16))).setCell ⟨w.heap.size + 1, 5, none⟩ (.int .i64 (digLack A B 2 % 16))) := (PB.out.setCell (by show w.heap.size ≤ w.heap.size + 1; omega) _).setCell (by show w.heap.size ≤ w.heap.size + 1; omega) _
      generalize digLack A B 2 = L at *
      have XL : Hid _ := ld6 hr6 X1
      have XS : Hid _ := st6 RS rfl hr6 X0
      have XR : Hid _ := ld6 hr6 (setRow_heap _ w.heap.size _ (numA RS) 83 _ X0)
      have XE := below_setRow XB (Nat.le_refl _) (numA RS)
      clear P0 P1 PB X0 X1 XB HG2
      generalize hRE : numA RS = row at *
      have HRE : Hid (numA RS = row) := hRE
      clear hRE
      go_wp2_with (first | refine wpList_load_row rfl 83 _ rfl ⟨w.heap.size + 1, 0, none⟩ _ rfl XL.out ?_ | refine wpList_store_row rfl 83 _ _ rfl rfl ⟨w.heap.size, 0, none⟩ _ _ rfl rfl XS.out ?_)
      refine bodyPost_cell rfl rfl rfl XR.out ⟨ret_agg HRE.out.symm, XE⟩
end Go.Proofs.YtfdihkgkiiekcaaDoor
/-
  What the program's keyRight and SigRight answer: 'sgnB'.
  Conditions: the cells of Ends and Path hold the texts.
-/
namespace Go.Proofs.YtfdihkgkiiekcaaDoor
open Go.RowKit Go.Lib
set_option linter.unusedVariables false
set_option maxRecDepth 20000

theorem keyRight_any (n : Int) (w : World) : Calls Tryd.prog 64 #[.int .i64 n] w fun e w' => e = .returned (.bool (decide (0 ≤ n ∧ n ≤ 3))) ∧ w' = w := by
  by_cases h1 : 0 ≤ n
  · have d1 : decide (0 ≤ n) = true := decide_eq_true h1
    by_cases h2 : n < 4
    · have d2 : decide (n < 4) = true := decide_eq_true h2
      have H : Hid (decide (0 ≤ n ∧ n ≤ 3) = true) := decide_eq_true ⟨h1, by omega⟩
      rw [H.out]
      clear H
      go_enter Tryd.func64, Tryd.ntmps64
      go_wp2
      go_ret
      exact ⟨rfl, rfl⟩
    · have d2 : decide (n < 4) = false := decide_eq_false h2
      have H : Hid (decide (0 ≤ n ∧ n ≤ 3) = false) := decide_eq_false fun h => h2 (by omega)
      rw [H.out]
      clear H
      go_enter Tryd.func64, Tryd.ntmps64
      go_wp2
      go_ret
      exact ⟨rfl, rfl⟩
  · have d1 : decide (0 ≤ n) = false := decide_eq_false h1
    have H : Hid (decide (0 ≤ n ∧ n ≤ 3) = false) := decide_eq_false fun h => h1 h.1
    rw [H.out]
    clear H
    go_enter Tryd.func64, Tryd.ntmps64
    go_wp2
    go_ret
    exact ⟨rfl, rfl⟩

set_option maxHeartbeats 2000000 in
theorem implSigRight_any (key : Int) (q1 : Option Addr) (c1 : Nat) (ends : List ByteArray) (q2 : Option Addr) (c2 : Nat) (path : List ByteArray) (w : World) (h1 : TxtAt w q1 ends) (h2 : TxtAt w q2 path) (n1 : ends.length ≤ 1048576) (n2 : path.length ≤ 1048576) (m1 : ends.length ≤ c1) (m2 : path.length ≤ c2) :
    Calls Tryd.prog 52 #[.agg #[.int .i64 key, .slice q1 ends.length c1, .slice q2 path.length c2]] w fun e w' => e = .returned (.bool (sgnB key ends path)) ∧ Below w.heap.size w w' := by
  obtain ⟨W1, hW1⟩ : ∃ W1, W1 = w.alloc (.cells #[.int .i64 key, .slice q1 ends.length c1, .slice q2 path.length c2] 35) := ⟨_, rfl⟩
  have HW1 : Hid (W1 = w.alloc (.cells #[.int .i64 key, .slice q1 ends.length c1, .slice q2 path.length c2] 35)) := hW1
  have B1 : Hid (Below w.heap.size w W1) := by rw [hW1]; exact (Below.refl _ _).alloc (Nat.le_refl _) _
  have X1 : W1.heap[w.heap.size]? = some (.cells #[.int .i64 key, .slice q1 ends.length c1, .slice q2 path.length c2] 35 (0, 0)) := by rw [hW1]; exact (MapKept.heap_alloc w _).1
  have t0 : W1.cell? ⟨w.heap.size, 0, none⟩ = some (.int .i64 key) ∧ W1.cell? ⟨w.heap.size, 1, none⟩ = some (.slice q1 ends.length c1) ∧ W1.cell? ⟨w.heap.size, 2, none⟩ = some (.slice q2 path.length c2) := by simp [World.cell?, X1]
  obtain ⟨t0, t1, t2⟩ := t0
  have hK := keyRight_any key W1
  have hE := areD_any q1 c1 ends W1 (h1.below B1.out) (by omega) m1
  have hP := areD_any q2 c2 path W1 (h2.below B1.out) (by omega) m2
  have H0 : Hid (sgnB key ends path = (decide (0 ≤ key ∧ key ≤ 3) && (decide (ends.length = 6) && (decide (path.length = 2) && (wideB ends && wideB path))))) := rfl
  clear hW1 X1 h1 h2
  rw [H0.out]
  generalize decide (0 ≤ key ∧ key ≤ 3) = b0 at *
  have e1 : ((ends.length : Int) == 6) = decide (ends.length = 6) := by
    by_cases h : ends.length = 6
    · rw [decide_eq_true h]; exact beq_iff_eq.2 (by omega)
    · rw [decide_eq_false h]; exact beq_eq_false_iff_ne.2 (by omega)
  have e2 : ((path.length : Int) == 2) = decide (path.length = 2) := by
    by_cases h : path.length = 2
    · rw [decide_eq_true h]; exact beq_iff_eq.2 (by omega)
    · rw [decide_eq_false h]; exact beq_eq_false_iff_ne.2 (by omega)
  generalize decide (ends.length = 6) = b1 at *
  generalize decide (path.length = 2) = b2 at *
  generalize wideB ends = b3 at *
  generalize wideB path = b4 at *
  clear H0
  go_enter Tryd.func52, Tryd.ntmps52
  go_wp2_with fail
  rw [← HW1.out]
  refine hK.mono ?_
  rintro e w1 ⟨rfl, rfl⟩
  cases b0
  · go_wp2_with fail
    go_ret
    exact ⟨ret_bool (by simp), B1.out⟩
  cases b1
  · have f1 : ¬ (ends.length : Int) = 6 := by simpa using e1
    clear e1
    go_wp2_with fail
    go_ret
    exact ⟨ret_bool (by simp), B1.out⟩
  have f1 : (ends.length : Int) = 6 := by simpa using e1
  clear e1
  cases b2
  · have f2 : ¬ (path.length : Int) = 2 := by simpa using e2
    clear e2
    go_wp2_with fail
    go_ret
    exact ⟨ret_bool (by simp), B1.out⟩
  have f2 : (path.length : Int) = 2 := by simpa using e2
  clear e2
  go_wp2_with fail
  refine hE.mono ?_
  rintro e w1 ⟨rfl, rfl⟩
  cases b3
  · go_wp2_with fail
    go_ret
    exact ⟨ret_bool (by simp), B1.out⟩
  go_wp2_with fail
  refine hP.mono ?_
  rintro e w1 ⟨rfl, rfl⟩
  go_wp2_with fail
  go_ret
  exact ⟨ret_bool (by simp), B1.out⟩
end Go.Proofs.YtfdihkgkiiekcaaDoor
