/-
  What the laws' lwRow and lwRows answer of two rows that are alike: true.
  Conditions: the cells hold the fields; for lwRows: where the code is OK the row is right.
-/
import Derived.Test.YtnomkcbcjaagmabDoorRows
import Derived.Test.YtnomkcbcjaagmabDoorBytesDigMath
import Derived.Test.YtnomkcbcjaagmabDoorSlASlBOwnS
import Derived.Test.YtnomkcbcjaagmabDoorBxKGrKTakesSrc
import Derived.Test.YtnomkcbcjaagmabDoorFldMath
import Derived.Test.YtnomkcbcjaagmabDoorFldRiseOwnBTurn2
import Derived.Test.YtnomkcbcjaagmabDoorFldIsFldC
import Derived.Test.YtnomkcbcjaagmabDoorFldR
import Derived.Handy
import Derived.WalkSpells
import Derived.OwnWalk
import Derived.Laws.StructEq
import Derived.Deep.RegionHeld3
import Derived.Deep.Cut
namespace Go.Proofs.YtnomkcbcjaagmabDoor
open Go.RowKit Go.Lib
set_option linter.unusedVariables false
set_option maxRecDepth 20000

theorem neq_fld (n c s v : ByteArray) (g : Bool) (w : World) : (binOp .neq 26 (.agg #[.string n, .string c, .string s, .string v, .bool g]) (.agg #[.string n, .string c, .string s, .string v, .bool g])).run Tryd.prog w = .ok (.bool false) w := by
  rw [run_neq_struct, run_equalIn_agg w 9999 26 _ _ (by kernel_rfl) (by kernel_rfl)]
  have hF : Tryd.prog.fieldsOf 26 = Tryd.prog.fieldsOf 26 := rfl
  conv at hF => rhs; simp only [Program.fieldsOf, Tryd.underlying26]
  rw [hF]
  simp [go_sem, Op.eqFields]

set_option maxHeartbeats 4000000 in
theorem lwRow_any (kd : ByteArray) (at_ : Int) (p q : Option Addr) (c d : Nat) (fs : List Fld) (w : World) (h1 : FldAt w p fs) (g1 : FldAt w q fs) (n1 : fs.length ≤ 1048576) (m1 : fs.length ≤ c) (m2 : fs.length ≤ d) :
    Calls Tryd.prog 53 #[.agg #[.string kd, .int .i64 at_, .slice p fs.length c], .agg #[.string kd, .int .i64 at_, .slice q fs.length d]] w fun e w' => e = .returned (.bool true) ∧ Below w.heap.size w w' := by
  obtain ⟨W0, hW0⟩ : ∃ W0, W0 = w.alloc (.cells #[.string kd, .int .i64 at_, .slice p fs.length c] 33) := ⟨_, rfl⟩
  have hz : W0.heap.size = w.heap.size + 1 := by rw [hW0]; simp
  obtain ⟨W1, hW1⟩ : ∃ W1, W1 = W0.alloc (.cells #[.string kd, .int .i64 at_, .slice q fs.length d] 33) := ⟨_, rfl⟩
  have HW1 : Hid (W1 = (w.alloc (.cells #[.string kd, .int .i64 at_, .slice p fs.length c] 33)).alloc (.cells #[.string kd, .int .i64 at_, .slice q fs.length d] 33)) := by rw [hW1, hW0]; exact rfl
  have hB0 : Below w.heap.size w W0 := by rw [hW0]; exact (Below.refl _ _).alloc (Nat.le_refl _) _
  have B1 : Hid (Below w.heap.size w W1) := by rw [hW1]; exact alB hB0 _
  have X1 : Bxs W1 w.heap.size 33 #[.string kd, .int .i64 at_, .slice p fs.length c] := by rw [hW1]; refine Bxs.alloc ?_ _; rw [hW0]; exact Bxs.new _ _ _
  have X2 : Bxs W1 (w.heap.size + 1) 33 #[.string kd, .int .i64 at_, .slice q fs.length d] := by rw [hW1, ← hz]; exact Bxs.new _ _ _
  have HX : Hid (∀ x, Below W1.heap.size W1 x → x.cell? ⟨w.heap.size, 2, none⟩ = some (.slice p fs.length c) ∧ x.cell? ⟨w.heap.size + 1, 2, none⟩ = some (.slice q fs.length d)) := fun x hx => ⟨(X1.below hx).cell 2, (X2.below hx).cell 2⟩
  obtain ⟨HZ0, HZ1, HZ2, HZ3⟩ : W1.cell? ⟨w.heap.size, 0, none⟩ = some (.string kd) ∧ W1.cell? ⟨w.heap.size + 1, 0, none⟩ = some (.string kd) ∧ W1.cell? ⟨w.heap.size, 1, none⟩ = some (.int .i64 at_) ∧ W1.cell? ⟨w.heap.size + 1, 1, none⟩ = some (.int .i64 at_) := ⟨X1.cell 0, X2.cell 0, X1.cell 1, X2.cell 1⟩
  obtain ⟨x2, y2⟩ := HX.out W1 (Below.refl _ _)
  have HP : Hid (FldAt W1 p fs) := h1.below B1.out
  have HQ : Hid (FldAt W1 q fs) := g1.below B1.out
  clear hW1 hW0 h1 g1 hB0 hz X1 X2
  go_enter Tryd.func53, Tryd.ntmps53
  go_upto_region 1 with fail
  rw [← HW1.out]
  clear HW1
  go_wp2_with fail
  clear HZ0 HZ1 HZ2 HZ3 x2 y2
  go_loopw [5] (fun i wr => ∃ k : Nat, k ≤ fs.length ∧ i = .int .i64 k ∧ Hid (Below W1.heap.size W1 wr)) (fun i _ => fs.length - (intOf i).toNat)
  case atStart => exact ⟨0, Nat.zero_le _, rfl, Below.refl _ _⟩
  case round =>
    obtain ⟨k, hk, rfl, HB⟩ := hrel
    obtain ⟨x2, y2⟩ := HX.out wr HB.out
    by_cases hlt : k < fs.length
    · have i1 : (k : Int) < fs.length := by omega
      obtain ⟨b, o, rfl, -⟩ := HP.out k hlt
      obtain ⟨b', o', rfl, -⟩ := HQ.out k hlt
      have HC : Hid (∀ x, Below W1.heap.size W1 x → (x.cell? ⟨w.heap.size, 2, none⟩ = some (.slice (some ⟨b, o, none⟩) fs.length c) ∧ x.cell? ⟨w.heap.size + 1, 2, none⟩ = some (.slice (some ⟨b', o', none⟩) fs.length d)) ∧ (x.cell? ⟨b, o + k * 5, none⟩ = some (.string fs[k].n) ∧ x.cell? ⟨b, o + k * 5 + 1, none⟩ = some (.string fs[k].c) ∧ x.cell? ⟨b, o + k * 5 + 2, none⟩ = some (.string fs[k].s) ∧ x.cell? ⟨b, o + k * 5 + 3, none⟩ = some (.string fs[k].v) ∧ x.cell? ⟨b, o + k * 5 + 4, none⟩ = some (.bool fs[k].g)) ∧ (x.cell? ⟨b', o' + k * 5, none⟩ = some (.string fs[k].n) ∧ x.cell? ⟨b', o' + k * 5 + 1, none⟩ = some (.string fs[k].c) ∧ x.cell? ⟨b', o' + k * 5 + 2, none⟩ = some (.string fs[k].s) ∧ x.cell? ⟨b', o' + k * 5 + 3, none⟩ = some (.string fs[k].v) ∧ x.cell? ⟨b', o' + k * 5 + 4, none⟩ = some (.bool fs[k].g))) := fun x hx => ⟨HX.out x hx, (HP.out.below hx).at k hlt, (HQ.out.below hx).at k hlt⟩
      have BR : Hid (Below W1.heap.size W1 wr.drew) := HB.out.drew
      have hne := neq_fld fs[k].n fs[k].c fs[k].s fs[k].v fs[k].g
      generalize fs[k].n = fn at *
      generalize fs[k].c = fc at *
      generalize fs[k].s = fss at *
      generalize fs[k].v = fv at *
      generalize fs[k].g = fg at *
      go_upto_region 6 with fail
      refine wp_region_held_drew (S := fun w' => (w'.cell? ⟨w.heap.size, 2, none⟩ = some (.slice (some ⟨b, o, none⟩) fs.length c) ∧ w'.cell? ⟨w.heap.size + 1, 2, none⟩ = some (.slice (some ⟨b', o', none⟩) fs.length d)) ∧ (w'.cell? ⟨b, o + k * 5, none⟩ = some (.string fn) ∧ w'.cell? ⟨b, o + k * 5 + 1, none⟩ = some (.string fc) ∧ w'.cell? ⟨b, o + k * 5 + 2, none⟩ = some (.string fss) ∧ w'.cell? ⟨b, o + k * 5 + 3, none⟩ = some (.string fv) ∧ w'.cell? ⟨b, o + k * 5 + 4, none⟩ = some (.bool fg)) ∧ (w'.cell? ⟨b', o' + k * 5, none⟩ = some (.string fn) ∧ w'.cell? ⟨b', o' + k * 5 + 1, none⟩ = some (.string fc) ∧ w'.cell? ⟨b', o' + k * 5 + 2, none⟩ = some (.string fss) ∧ w'.cell? ⟨b', o' + k * 5 + 3, none⟩ = some (.string fv) ∧ w'.cell? ⟨b', o' + k * 5 + 4, none⟩ = some (.bool fg))) (by kernel_rfl) (HC.out _ BR.out) (fun hHeld => ?_)
      refine take_at 0 (v := ?_) rfl (by kernel_rfl) (by kernel_rfl) (by kernel_rfl) (fun _ _ _ h => h) hHeld (Or.inl ⟨by rfl, ?_⟩) ?_
      rotate_left
      · (intro w hSw; (try dsimp only at hSw); go_simp; try with_reducible rfl)
      simp only [Act.put, List.setIfInBounds_toArray, List.set_cons_zero, List.set_cons_succ]
      refine take_at 1 (v := ?_) rfl (by kernel_rfl) (by kernel_rfl) (by kernel_rfl) (fun _ _ _ h => h) hHeld (Or.inl ⟨by rfl, ?_⟩) ?_
      rotate_left
      · (intro w hSw; (try dsimp only at hSw); go_simp; try with_reducible rfl)
      simp only [Act.put, List.setIfInBounds_toArray, List.set_cons_zero, List.set_cons_succ]
      refine take_at 2 (v := ?_) rfl (by kernel_rfl) (by kernel_rfl) (by kernel_rfl) (fun _ _ _ h => h) hHeld (Or.inl ⟨by rfl, ?_⟩) ?_
      rotate_left
      · (intro w hSw; (try dsimp only at hSw); go_simp; try with_reducible rfl)
      simp only [Act.put, List.setIfInBounds_toArray, List.set_cons_zero, List.set_cons_succ]
      refine take_at 3 (v := ?_) rfl (by kernel_rfl) (by kernel_rfl) (by kernel_rfl) (fun _ _ _ h => h) hHeld (Or.inl ⟨by rfl, ?_⟩) ?_
      rotate_left
      · (intro w hSw; (try dsimp only at hSw); go_simp; try with_reducible rfl)
      simp only [Act.put, List.setIfInBounds_toArray, List.set_cons_zero, List.set_cons_succ]
      refine take_at 4 (v := ?_) rfl (by kernel_rfl) (by kernel_rfl) (by kernel_rfl) (fun _ _ _ h => h) hHeld (Or.inl ⟨by rfl, ?_⟩) ?_
      rotate_left
      · (intro w hSw; (try dsimp only at hSw); go_simp; try with_reducible rfl)
      simp only [Act.put, List.setIfInBounds_toArray, List.set_cons_zero, List.set_cons_succ]
      refine take_at 5 (v := ?_) rfl (by kernel_rfl) (by kernel_rfl) (by kernel_rfl) (fun _ _ _ h => h) hHeld (Or.inl ⟨by rfl, ?_⟩) ?_
      rotate_left
      · (intro w hSw; (try dsimp only at hSw); go_simp; try with_reducible rfl)
      simp only [Act.put, List.setIfInBounds_toArray, List.set_cons_zero, List.set_cons_succ]
      refine take_at 6 (v := ?_) rfl (by kernel_rfl) (by kernel_rfl) (by kernel_rfl) (fun _ _ _ h => h) hHeld (Or.inl ⟨by rfl, ?_⟩) ?_
      rotate_left
      · (intro w hSw; (try dsimp only at hSw); go_simp; try with_reducible rfl)
      simp only [Act.put, List.setIfInBounds_toArray, List.set_cons_zero, List.set_cons_succ]
      refine take_at 7 (v := ?_) rfl (by kernel_rfl) (by kernel_rfl) (by kernel_rfl) (fun _ _ _ h => h) hHeld (Or.inl ⟨by rfl, ?_⟩) ?_
      rotate_left
      · (intro w hSw; (try dsimp only at hSw); go_simp; try with_reducible rfl)
      simp only [Act.put, List.setIfInBounds_toArray, List.set_cons_zero, List.set_cons_succ]
      refine take_at 8 (v := ?_) rfl (by kernel_rfl) (by kernel_rfl) (by kernel_rfl) (fun _ _ _ h => h) hHeld (Or.inl ⟨by rfl, ?_⟩) ?_
      rotate_left
      · (intro w hSw; (try dsimp only at hSw); go_simp; try with_reducible rfl)
      simp only [Act.put, List.setIfInBounds_toArray, List.set_cons_zero, List.set_cons_succ]
      refine take_at 9 (v := ?_) rfl (by kernel_rfl) (by kernel_rfl) (by kernel_rfl) (fun _ _ _ h => h) hHeld (Or.inl ⟨by rfl, ?_⟩) ?_
      rotate_left
      · (intro w hSw; (try dsimp only at hSw); go_simp; try with_reducible rfl)
      simp only [Act.put, List.setIfInBounds_toArray, List.set_cons_zero, List.set_cons_succ]
      refine take_at 10 (v := ?_) rfl (by kernel_rfl) (by kernel_rfl) (by kernel_rfl) (fun _ _ _ h => h) hHeld (Or.inl ⟨by rfl, ?_⟩) ?_
      rotate_left
      · (intro w hSw; (try dsimp only at hSw); go_simp; try with_reducible rfl)
      simp only [Act.put, List.setIfInBounds_toArray, List.set_cons_zero, List.set_cons_succ]
      refine wpAnyH_done (by kernel_rfl) ?_ _
      go_wp2_with fail
      go_roundw
      case rel => exact ⟨k + 1, by omega, by go_num, BR⟩
      case measure => simp [intOf]; omega
    · have hkn : ¬ (k : Int) < fs.length := by omega
      go_wp2_with fail
      go_ret
      exact ⟨rfl, chainB B1.out HB.out⟩
set_option maxHeartbeats 4000000 in
theorem lwRows_any (kd : ByteArray) (at_ C : Int) (p q : Option Addr) (c d : Nat) (fs : List Fld) (w : World) (h1 : FldAt w p fs) (g1 : FldAt w q fs) (n1 : fs.length ≤ 1048576) (m1 : fs.length ≤ c) (m2 : fs.length ≤ d) (hk : kd.size ≤ maxLen) (hz : FldsLe fs) (hR : C = 0 → rwB kd at_ fs = true) :
    Calls Tryd.prog 16 #[.agg #[.string kd, .int .i64 at_, .slice p fs.length c, .int .i64 C], .agg #[.string kd, .int .i64 at_, .slice q fs.length d, .int .i64 C]] w fun e w' => e = .returned (.bool true) ∧ Below w.heap.size w w' := by
  obtain ⟨W0, hW0⟩ : ∃ W0, W0 = w.alloc (.cells #[.string kd, .int .i64 at_, .slice p fs.length c, .int .i64 C] 35) := ⟨_, rfl⟩
  have hz0 : W0.heap.size = w.heap.size + 1 := by rw [hW0]; simp
  obtain ⟨W1, hW1⟩ : ∃ W1, W1 = W0.alloc (.cells #[.string kd, .int .i64 at_, .slice q fs.length d, .int .i64 C] 35) := ⟨_, rfl⟩
  have HW1 : Hid (W1 = (w.alloc (.cells #[.string kd, .int .i64 at_, .slice p fs.length c, .int .i64 C] 35)).alloc (.cells #[.string kd, .int .i64 at_, .slice q fs.length d, .int .i64 C] 35)) := by rw [hW1, hW0]; exact rfl
  have hB0 : Below w.heap.size w W0 := by rw [hW0]; exact (Below.refl _ _).alloc (Nat.le_refl _) _
  have B1 : Hid (Below w.heap.size w W1) := by rw [hW1]; exact alB hB0 _
  have X1 : Hid (Bxs W1 w.heap.size 35 #[.string kd, .int .i64 at_, .slice p fs.length c, .int .i64 C]) := by rw [hW1]; refine Bxs.alloc ?_ _; rw [hW0]; exact Bxs.new _ _ _
  have X2 : Hid (Bxs W1 (w.heap.size + 1) 35 #[.string kd, .int .i64 at_, .slice q fs.length d, .int .i64 C]) := by rw [hW1, ← hz0]; exact Bxs.new _ _ _
  have hLw := lwRow_any kd at_ p q c d fs W1 (h1.below B1.out) (g1.below B1.out) n1 m1 m2
  have hRR : ∀ x, Below W1.heap.size W1 x → Calls Tryd.prog 22 #[.agg #[.string kd, .int .i64 at_, .slice p fs.length c]] x fun e w' => e = .returned (.bool (rwB kd at_ fs)) ∧ Below x.heap.size x w' := fun x hx => specRowRight_any kd at_ p c fs x (h1.below (chainB B1.out hx)) n1 m1 hk hz
  obtain ⟨a0, a1, a2, a3⟩ := X1.out.four
  obtain ⟨b0, b1, b2, b3⟩ := X2.out.four
  have HRR : Hid (∀ x, Below W1.heap.size W1 x → Calls Tryd.prog 22 #[.agg #[.string kd, .int .i64 at_, .slice p fs.length c]] x fun e w' => e = .returned (.bool (rwB kd at_ fs)) ∧ Below x.heap.size x w') := hRR
  clear hW1 hW0 h1 g1 hB0 hz0 hRR hk hz
  generalize rwB kd at_ fs = RB at *
  cases hC : (C != 0) with
  | true =>
    go_enter Tryd.func16, Tryd.ntmps16
    go_upto_region 1 with fail
    rw [← HW1.out]
    clear HW1
    go_wp2_with fail
    refine hLw.mono ?_
    rintro e w1 ⟨rfl, c1⟩
    obtain ⟨a0, a1, a2, a3⟩ := (X1.out.below c1).four
    have HE : Hid (Below w.heap.size w w1) := chainB B1.out c1
    clear c1
    go_wp2_with fail
    go_ret
    exact ⟨rfl, HE.out⟩
  | false =>
    obtain rfl := hR (by simpa using hC)
    go_enter Tryd.func16, Tryd.ntmps16
    go_upto_region 1 with fail
    rw [← HW1.out]
    clear HW1
    go_wp2_with fail
    refine hLw.mono ?_
    rintro e w1 ⟨rfl, c1⟩
    obtain ⟨a0, a1, a2, a3⟩ := (X1.out.below c1).four
    go_wp2_with fail
    refine (HRR.out w1 c1).mono ?_
    rintro e w2 ⟨rfl, c2⟩
    have HE : Hid (Below w.heap.size w w2) := chainB (chainB B1.out c1) c2
    clear c1 c2
    go_wp2_with fail
    go_ret
    exact ⟨rfl, HE.out⟩
end Go.Proofs.YtnomkcbcjaagmabDoor
