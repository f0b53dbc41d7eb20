/-
  What the program's fieldsRight and RowRight answer.
  Conditions: the cells of Fields hold the fields; the two tables of the digest lie as laid.
-/
import Derived.Test.YtonleickhincgaaGreatDoorRows
import Derived.Test.YtonleickhincgaaGreatDoorFldTbFldTrImplFCBlNot
import Derived.Test.YtonleickhincgaaGreatDoorBytesDigMath
import Derived.Test.YtonleickhincgaaGreatDoorTreeMathSlABxKSlBOwnS
import Derived.Test.YtonleickhincgaaGreatDoorLgLawTakesTakesLPutterPathI
import Derived.Test.YtonleickhincgaaGreatDoorNameRight
import Derived.Test.YtonleickhincgaaGreatDoorTimeBPutMathPutNumJoinedPutTextFldMath
import Derived.Test.YtonleickhincgaaGreatDoorImplVerInc2SignRSignWFldRiseScanMath
import Derived.Handy
import Derived.Laws.Cover1
import Derived.WalkSpells
import Derived.OwnWalk
import Derived.Deep.RegionHeld3
import Derived.Deep.RegionWith
import Derived.Deep.Cut
import Derived.Deep.CutRange
namespace Go.Proofs.YtonleickhincgaaGreatDoor
open Go.RowKit Go.Lib
set_option linter.unusedVariables false
set_option maxRecDepth 20000

def fsB (fs : List Fld) : Bool := decide (1 ≤ fs.length ∧ fs.length ≤ 3) && (fs.all fdB && rise fs)
theorem fsB_not_all {fs : List Fld} {i : Nat} (hi : i < fs.length) (h : fdB fs[i] = false) : fsB fs = false := by
  cases hr : fs.all fdB with
  | false => unfold fsB; rw [hr]; simp
  | true =>
    have := List.all_eq_true.1 hr _ (List.getElem_mem hi)
    rw [h] at this; cases this
theorem fsB_not_rise {fs : List Fld} {i : Nat} (h0 : 0 < i) (hi : i < fs.length) (h : Op.bytesLess (fs[i - 1]'(by omega)).n.toList fs[i].n.toList = false) : fsB fs = false := by
  cases hr : rise fs with
  | false => unfold fsB; rw [hr]; simp
  | true =>
    have := (rise_iff fs).1 hr i h0 hi
    rw [h] at this; cases this
set_option maxHeartbeats 8000000 in
theorem fieldsRight_any (q : Option Addr) (c : Nat) (fs : List Fld) (w : World) (hT : Tabs w) (hf : FldAt w q fs) (hn : fs.length ≤ 1048576) (hc : fs.length ≤ c) (hz : FldsLe fs) :
    Calls Tryz.prog 181 #[.slice q fs.length c] w fun e w' => e = .returned (.bool (fsB fs)) ∧ Below w.heap.size w w' := by
  have HT : Hid (FldAt w q fs) := hf
  have HTb : Hid (Tabs w) := hT
  have HR : Hid (fsB fs = (decide (1 ≤ fs.length ∧ fs.length ≤ 3) && (fs.all fdB && rise fs))) := rfl
  clear hf hT
  by_cases hl : ¬ (1 ≤ fs.length ∧ fs.length ≤ 3)
  · have HF : Hid (fsB fs = false) := by show _ = _; rw [HR.out, decide_eq_false hl]; simp
    rw [HF.out]
    by_cases hl1 : fs.length < 1
    · have d1 : decide ((fs.length : Int) < 1) = true := decide_eq_true (by omega)
      clear hl
      go_enter Tryz.func181, Tryz.ntmps181
      go_wp2_with fail
      go_ret
      exact ⟨rfl, Below.refl _ _⟩
    · have d1 : decide ((fs.length : Int) < 1) = false := decide_eq_false (by omega)
      have d2 : decide (3 < (fs.length : Int)) = true := decide_eq_true (by omega)
      clear hl hl1
      go_enter Tryz.func181, Tryz.ntmps181
      go_wp2_with fail
      go_ret
      exact ⟨rfl, Below.refl _ _⟩
  have hl : 1 ≤ fs.length ∧ fs.length ≤ 3 := Decidable.byContradiction hl
  have d1 : decide ((fs.length : Int) < 1) = false := decide_eq_false (by omega)
  have d2 : decide (3 < (fs.length : Int)) = false := decide_eq_false (by omega)
  rw [decide_eq_true hl, Bool.true_and] at HR
  obtain ⟨hl1, hl3⟩ := hl
  obtain ⟨b, off, rfl, hb0⟩ := HT.out.some_of (by omega)
  go_enter Tryz.func181, Tryz.ntmps181
  go_wp2_with fail
  go_loopw [15] (fun i wr => ∃ k : Nat, k ≤ fs.length ∧ i = .int .i64 k ∧ Hid (Below w.heap.size w wr) ∧ Hid (∀ j (h : j < fs.length), j < k → fdB fs[j] = true) ∧ Hid (∀ j (h0 : 0 < j) (h : j < fs.length), j < k → Op.bytesLess (fs[j - 1]'(by omega)).n.toList fs[j].n.toList = true)) (fun i _ => fs.length - (Go.RowKit.intOf i).toNat)
  case atStart => exact ⟨0, Nat.zero_le _, rfl, Below.refl _ _, fun j h hk => by omega, fun j h0 h hk => by omega⟩
  case round =>
    obtain ⟨i, hi, rfl, HB, HF, HG⟩ := hrel
    by_cases hlt : i < fs.length
    · have i1 : (i : Int) < fs.length := by omega
      have hzi := hz _ (List.getElem_mem hlt)
      have HTr : Hid (Tabs wr) := HTb.out.to HB.out
      have hcell := (HT.out.below HB.out).at i hlt
      have HQ : Hid (∀ x, Tabs x → Calls Tryz.prog 204 #[.agg #[.string fs[i].n, .string fs[i].c, .string fs[i].s, .string fs[i].v, .bool fs[i].g]] x fun e w' => e = .returned (.bool (fdB fs[i])) ∧ Below x.heap.size x w') := fun x hx => implFieldRight_any fs[i] x hx hzi.1 hzi.2.1 hzi.2.2.1 hzi.2.2.2
      have HF1 : Hid (fdB fs[i] = true → ∀ j (h : j < fs.length), j < i + 1 → fdB fs[j] = true) := fun h0 j h hj => if he : j = i then by subst he; exact h0 else HF.out j h (by omega)
      have HN1 : Hid (fdB fs[i] = false → fsB fs = false) := fun h0 => fsB_not_all hlt h0
      cases hfd : fdB fs[i] with
      | false =>
        have HV : Hid (fsB fs = false) := HN1.out hfd
        rw [hfd] at HQ
        generalize fs[i].n = fn at *
        generalize fs[i].c = fc at *
        generalize fs[i].s = fss at *
        generalize fs[i].v = fv at *
        generalize fs[i].g = fg at *
        clear HF1 HN1 HF HG hfd hzi
        obtain ⟨c0, c1, c2, c3, c4⟩ := id hcell
        go_upto_region 6 with fail
        obtain ⟨y0, hy0⟩ : ∃ y0, y0 = wr.alloc (.cells #[.string fn, .string fc, .string fss, .string fv, .bool fg] 122) := ⟨_, rfl⟩
        rw [← hy0]
        have BY : Hid (Below wr.heap.size wr y0) := by rw [hy0]; exact (Below.refl _ _).alloc (Nat.le_refl _) _
        have KY : Hid (Bxs y0 wr.heap.size 122 #[.string fn, .string fc, .string fss, .string fv, .bool fg]) := by rw [hy0]; exact Bxs.new _ _ _
        have HY : Hid (∀ x, Below y0.heap.size y0 x → x.cell? ⟨wr.heap.size, 0, none⟩ = some (.string fn) ∧ x.cell? ⟨wr.heap.size, 1, none⟩ = some (.string fc) ∧ x.cell? ⟨wr.heap.size, 2, none⟩ = some (.string fss) ∧ x.cell? ⟨wr.heap.size, 3, none⟩ = some (.string fv) ∧ x.cell? ⟨wr.heap.size, 4, none⟩ = some (.bool fg)) := fun x hx => (KY.out.below hx).five
        have BR : Hid (Below y0.heap.size y0 y0.drew) := (Below.refl _ _).drew
        have HTy : Hid (Tabs y0.drew) := (HTr.out.to BY.out).to BR.out
        clear hy0 hcell
        refine wp_region_held_drew (S := (fun w' => w'.cell? ⟨wr.heap.size, 0, none⟩ = some (.string fn) ∧ w'.cell? ⟨wr.heap.size, 1, none⟩ = some (.string fc) ∧ w'.cell? ⟨wr.heap.size, 2, none⟩ = some (.string fss) ∧ w'.cell? ⟨wr.heap.size, 3, none⟩ = some (.string fv) ∧ w'.cell? ⟨wr.heap.size, 4, none⟩ = some (.bool fg))) (by kernel_rfl) (HY.out _ BR.out) (fun hHeld => ?_)
        refine take_at 0 (v := ?_) rfl (by kernel_rfl) (by kernel_rfl) (by kernel_rfl) (fun _ _ _ h => h) hHeld (Or.inl ⟨by rfl, ?_⟩) ?_
        rotate_left
        · (intro w hSw; (try dsimp only at hSw); go_simp; try with_reducible rfl)
        simp only [Act.put, List.setIfInBounds_toArray, List.set_cons_zero, List.set_cons_succ]
        refine ready_at 1 rfl (by kernel_rfl) (fun K hK => ?_)
        go_simp
        (go_at_call 204; with_reducible refine (HQ.out _ HTy.out).mono ?_; rintro e y1 ⟨rfl, z0⟩; have z1 : Below y0.heap.size y0 y1 := chainB BR.out z0)
        refine hK.out _ _ (HY.out _ z1) (fun hHeld => ?_)
        clear hK K
        try simp only [Act.put, List.setIfInBounds_toArray, List.set_cons_zero, List.set_cons_succ]
        refine take_at 2 (v := ?_) rfl (by kernel_rfl) (by kernel_rfl) (by kernel_rfl) (fun _ _ _ h => h) hHeld (Or.inl ⟨by rfl, ?_⟩) ?_
        rotate_left
        · (intro w hSw; (try dsimp only at hSw); go_simp; try with_reducible rfl)
        simp only [Act.put, List.setIfInBounds_toArray, List.set_cons_zero, List.set_cons_succ]
        refine take_at 3 (v := ?_) rfl (by kernel_rfl) (by kernel_rfl) (by kernel_rfl) (fun _ _ _ h => h) hHeld (Or.inl ⟨by rfl, ?_⟩) ?_
        rotate_left
        · (intro w hSw; (try dsimp only at hSw); go_simp; try with_reducible rfl)
        simp only [Act.put, List.setIfInBounds_toArray, List.set_cons_zero, List.set_cons_succ]
        refine take_at 4 (v := undef) rfl (by kernel_rfl) (by kernel_rfl) (by kernel_rfl) (fun _ _ _ h => h) hHeld (Or.inr ⟨by rfl, rfl⟩) ?_
        simp only [Act.put, List.setIfInBounds_toArray, List.set_cons_zero, List.set_cons_succ]
        refine take_at 5 (v := undef) rfl (by kernel_rfl) (by kernel_rfl) (by kernel_rfl) (fun _ _ _ h => h) hHeld (Or.inr ⟨by rfl, rfl⟩) ?_
        simp only [Act.put, List.setIfInBounds_toArray, List.set_cons_zero, List.set_cons_succ]
        refine take_at 6 (v := undef) rfl (by kernel_rfl) (by kernel_rfl) (by kernel_rfl) (fun _ _ _ h => h) hHeld (Or.inr ⟨by rfl, rfl⟩) ?_
        simp only [Act.put, List.setIfInBounds_toArray, List.set_cons_zero, List.set_cons_succ]
        refine take_at 7 (v := undef) rfl (by kernel_rfl) (by kernel_rfl) (by kernel_rfl) (fun _ _ _ h => h) hHeld (Or.inr ⟨by rfl, rfl⟩) ?_
        simp only [Act.put, List.setIfInBounds_toArray, List.set_cons_zero, List.set_cons_succ]
        refine take_at 8 (v := undef) rfl (by kernel_rfl) (by kernel_rfl) (by kernel_rfl) (fun _ _ _ h => h) hHeld (Or.inr ⟨by rfl, rfl⟩) ?_
        simp only [Act.put, List.setIfInBounds_toArray, List.set_cons_zero, List.set_cons_succ]
        refine take_at 9 (v := undef) rfl (by kernel_rfl) (by kernel_rfl) (by kernel_rfl) (fun _ _ _ h => h) hHeld (Or.inr ⟨by rfl, rfl⟩) ?_
        simp only [Act.put, List.setIfInBounds_toArray, List.set_cons_zero, List.set_cons_succ]
        refine take_at 10 (v := undef) rfl (by kernel_rfl) (by kernel_rfl) (by kernel_rfl) (fun _ _ _ h => h) hHeld (Or.inr ⟨by rfl, rfl⟩) ?_
        simp only [Act.put, List.setIfInBounds_toArray, List.set_cons_zero, List.set_cons_succ]
        refine take_at 11 (v := undef) rfl (by kernel_rfl) (by kernel_rfl) (by kernel_rfl) (fun _ _ _ h => h) hHeld (Or.inr ⟨by rfl, rfl⟩) ?_
        simp only [Act.put, List.setIfInBounds_toArray, List.set_cons_zero, List.set_cons_succ]
        refine take_at 12 (v := undef) rfl (by kernel_rfl) (by kernel_rfl) (by kernel_rfl) (fun _ _ _ h => h) hHeld (Or.inr ⟨by rfl, rfl⟩) ?_
        simp only [Act.put, List.setIfInBounds_toArray, List.set_cons_zero, List.set_cons_succ]
        refine take_at 13 (v := undef) rfl (by kernel_rfl) (by kernel_rfl) (by kernel_rfl) (fun _ _ _ h => h) hHeld (Or.inr ⟨by rfl, rfl⟩) ?_
        simp only [Act.put, List.setIfInBounds_toArray, List.set_cons_zero, List.set_cons_succ]
        refine take_at 14 (v := undef) rfl (by kernel_rfl) (by kernel_rfl) (by kernel_rfl) (fun _ _ _ h => h) hHeld (Or.inr ⟨by rfl, rfl⟩) ?_
        simp only [Act.put, List.setIfInBounds_toArray, List.set_cons_zero, List.set_cons_succ]
        refine take_at 15 (v := undef) rfl (by kernel_rfl) (by kernel_rfl) (by kernel_rfl) (fun _ _ _ h => h) hHeld (Or.inr ⟨by rfl, rfl⟩) ?_
        simp only [Act.put, List.setIfInBounds_toArray, List.set_cons_zero, List.set_cons_succ]
        refine take_at 16 (v := undef) rfl (by kernel_rfl) (by kernel_rfl) (by kernel_rfl) (fun _ _ _ h => h) hHeld (Or.inr ⟨by rfl, rfl⟩) ?_
        simp only [Act.put, List.setIfInBounds_toArray, List.set_cons_zero, List.set_cons_succ]
        refine take_at 17 (v := ?_) rfl (by kernel_rfl) (by kernel_rfl) (by kernel_rfl) (fun _ _ _ h => h) hHeld (Or.inl ⟨by rfl, ?_⟩) ?_
        rotate_left
        · (intro w hSw; (try dsimp only at hSw); go_simp; try with_reducible rfl)
        simp only [Act.put, List.setIfInBounds_toArray, List.set_cons_zero, List.set_cons_succ]
        refine wpAnyH_done (by kernel_rfl) ?_ _
        go_wp2_with fail
        go_ret
        exact ⟨ret_bool HV.out.symm, chainB HB.out (chainB BY.out z1)⟩
      | true =>
      have HF2 : Hid (∀ j (h : j < fs.length), j < i + 1 → fdB fs[j] = true) := HF1.out hfd
      rw [hfd] at HQ
      by_cases h0 : i = 0
      · have HG2 : Hid (∀ j (h0 : 0 < j) (h : j < fs.length), j < i + 1 → Op.bytesLess (fs[j - 1]'(by omega)).n.toList fs[j].n.toList = true) := fun j h1 h hj => by omega
        have hd0 : decide (0 < (i : Int)) = false := decide_eq_false (by omega)
        have hd0n : decide (0 < i) = false := decide_eq_false (by omega)
        generalize fs[i].n = fn at *
        generalize fs[i].c = fc at *
        generalize fs[i].s = fss at *
        generalize fs[i].v = fv at *
        generalize fs[i].g = fg at *
        clear HF1 HN1 HF HG hfd hzi h0
        obtain ⟨c0, c1, c2, c3, c4⟩ := id hcell
        go_upto_region 6 with fail
        obtain ⟨y0, hy0⟩ : ∃ y0, y0 = wr.alloc (.cells #[.string fn, .string fc, .string fss, .string fv, .bool fg] 122) := ⟨_, rfl⟩
        rw [← hy0]
        have BY : Hid (Below wr.heap.size wr y0) := by rw [hy0]; exact (Below.refl _ _).alloc (Nat.le_refl _) _
        have KY : Hid (Bxs y0 wr.heap.size 122 #[.string fn, .string fc, .string fss, .string fv, .bool fg]) := by rw [hy0]; exact Bxs.new _ _ _
        have HY : Hid (∀ x, Below y0.heap.size y0 x → x.cell? ⟨wr.heap.size, 0, none⟩ = some (.string fn) ∧ x.cell? ⟨wr.heap.size, 1, none⟩ = some (.string fc) ∧ x.cell? ⟨wr.heap.size, 2, none⟩ = some (.string fss) ∧ x.cell? ⟨wr.heap.size, 3, none⟩ = some (.string fv) ∧ x.cell? ⟨wr.heap.size, 4, none⟩ = some (.bool fg)) := fun x hx => (KY.out.below hx).five
        have BR : Hid (Below y0.heap.size y0 y0.drew) := (Below.refl _ _).drew
        have HTy : Hid (Tabs y0.drew) := (HTr.out.to BY.out).to BR.out
        clear hy0 hcell
        refine wp_region_held_drew (S := (fun w' => w'.cell? ⟨wr.heap.size, 0, none⟩ = some (.string fn) ∧ w'.cell? ⟨wr.heap.size, 1, none⟩ = some (.string fc) ∧ w'.cell? ⟨wr.heap.size, 2, none⟩ = some (.string fss) ∧ w'.cell? ⟨wr.heap.size, 3, none⟩ = some (.string fv) ∧ w'.cell? ⟨wr.heap.size, 4, none⟩ = some (.bool fg))) (by kernel_rfl) (HY.out _ BR.out) (fun hHeld => ?_)
        refine take_at 0 (v := ?_) rfl (by kernel_rfl) (by kernel_rfl) (by kernel_rfl) (fun _ _ _ h => h) hHeld (Or.inl ⟨by rfl, ?_⟩) ?_
        rotate_left
        · (intro w hSw; (try dsimp only at hSw); go_simp; try with_reducible rfl)
        simp only [Act.put, List.setIfInBounds_toArray, List.set_cons_zero, List.set_cons_succ]
        refine ready_at 1 rfl (by kernel_rfl) (fun K hK => ?_)
        go_simp
        (go_at_call 204; with_reducible refine (HQ.out _ HTy.out).mono ?_; rintro e y1 ⟨rfl, z0⟩; have z1 : Below y0.heap.size y0 y1 := chainB BR.out z0)
        refine hK.out _ _ (HY.out _ z1) (fun hHeld => ?_)
        clear hK K
        try simp only [Act.put, List.setIfInBounds_toArray, List.set_cons_zero, List.set_cons_succ]
        refine take_at 2 (v := ?_) rfl (by kernel_rfl) (by kernel_rfl) (by kernel_rfl) (fun _ _ _ h => h) hHeld (Or.inl ⟨by rfl, ?_⟩) ?_
        rotate_left
        · (intro w hSw; (try dsimp only at hSw); go_simp; try with_reducible rfl)
        simp only [Act.put, List.setIfInBounds_toArray, List.set_cons_zero, List.set_cons_succ]
        refine take_at 3 (v := ?_) rfl (by kernel_rfl) (by kernel_rfl) (by kernel_rfl) (fun _ _ _ h => h) hHeld (Or.inl ⟨by rfl, ?_⟩) ?_
        rotate_left
        · (intro w hSw; (try dsimp only at hSw); go_simp; try with_reducible rfl)
        simp only [Act.put, List.setIfInBounds_toArray, List.set_cons_zero, List.set_cons_succ]
        refine take_at 4 (v := ?_) rfl (by kernel_rfl) (by kernel_rfl) (by kernel_rfl) (fun _ _ _ h => h) hHeld (Or.inl ⟨by rfl, ?_⟩) ?_
        rotate_left
        · (intro w hSw; (try dsimp only at hSw); go_simp; try with_reducible rfl)
        simp only [Act.put, List.setIfInBounds_toArray, List.set_cons_zero, List.set_cons_succ]
        refine take_at 5 (v := ?_) rfl (by kernel_rfl) (by kernel_rfl) (by kernel_rfl) (fun _ _ _ h => h) hHeld (Or.inl ⟨by rfl, ?_⟩) ?_
        rotate_left
        · (intro w hSw; (try dsimp only at hSw); go_simp; try with_reducible rfl)
        simp only [Act.put, List.setIfInBounds_toArray, List.set_cons_zero, List.set_cons_succ]
        refine take_at 6 (v := ?_) rfl (by kernel_rfl) (by kernel_rfl) (by kernel_rfl) (fun _ _ _ h => h) hHeld (Or.inl ⟨by rfl, ?_⟩) ?_
        rotate_left
        · (intro w hSw; (try dsimp only at hSw); go_simp; try with_reducible rfl)
        simp only [Act.put, List.setIfInBounds_toArray, List.set_cons_zero, List.set_cons_succ]
        refine take_at 7 (v := undef) rfl (by kernel_rfl) (by kernel_rfl) (by kernel_rfl) (fun _ _ _ h => h) hHeld (Or.inr ⟨by rfl, rfl⟩) ?_
        simp only [Act.put, List.setIfInBounds_toArray, List.set_cons_zero, List.set_cons_succ]
        refine take_at 8 (v := undef) rfl (by kernel_rfl) (by kernel_rfl) (by kernel_rfl) (fun _ _ _ h => h) hHeld (Or.inr ⟨by rfl, rfl⟩) ?_
        simp only [Act.put, List.setIfInBounds_toArray, List.set_cons_zero, List.set_cons_succ]
        refine take_at 9 (v := undef) rfl (by kernel_rfl) (by kernel_rfl) (by kernel_rfl) (fun _ _ _ h => h) hHeld (Or.inr ⟨by rfl, rfl⟩) ?_
        simp only [Act.put, List.setIfInBounds_toArray, List.set_cons_zero, List.set_cons_succ]
        refine take_at 10 (v := undef) rfl (by kernel_rfl) (by kernel_rfl) (by kernel_rfl) (fun _ _ _ h => h) hHeld (Or.inr ⟨by rfl, rfl⟩) ?_
        simp only [Act.put, List.setIfInBounds_toArray, List.set_cons_zero, List.set_cons_succ]
        refine take_at 11 (v := undef) rfl (by kernel_rfl) (by kernel_rfl) (by kernel_rfl) (fun _ _ _ h => h) hHeld (Or.inr ⟨by rfl, rfl⟩) ?_
        simp only [Act.put, List.setIfInBounds_toArray, List.set_cons_zero, List.set_cons_succ]
        refine take_at 12 (v := undef) rfl (by kernel_rfl) (by kernel_rfl) (by kernel_rfl) (fun _ _ _ h => h) hHeld (Or.inr ⟨by rfl, rfl⟩) ?_
        simp only [Act.put, List.setIfInBounds_toArray, List.set_cons_zero, List.set_cons_succ]
        refine take_at 13 (v := undef) rfl (by kernel_rfl) (by kernel_rfl) (by kernel_rfl) (fun _ _ _ h => h) hHeld (Or.inr ⟨by rfl, rfl⟩) ?_
        simp only [Act.put, List.setIfInBounds_toArray, List.set_cons_zero, List.set_cons_succ]
        refine take_at 14 (v := undef) rfl (by kernel_rfl) (by kernel_rfl) (by kernel_rfl) (fun _ _ _ h => h) hHeld (Or.inr ⟨by rfl, rfl⟩) ?_
        simp only [Act.put, List.setIfInBounds_toArray, List.set_cons_zero, List.set_cons_succ]
        refine take_at 15 (v := undef) rfl (by kernel_rfl) (by kernel_rfl) (by kernel_rfl) (fun _ _ _ h => h) hHeld (Or.inr ⟨by rfl, rfl⟩) ?_
        simp only [Act.put, List.setIfInBounds_toArray, List.set_cons_zero, List.set_cons_succ]
        refine take_at 16 (v := ?_) rfl (by kernel_rfl) (by kernel_rfl) (by kernel_rfl) (fun _ _ _ h => h) hHeld (Or.inl ⟨by rfl, ?_⟩) ?_
        rotate_left
        · (intro w hSw; (try dsimp only at hSw); go_simp; try with_reducible rfl)
        simp only [Act.put, List.setIfInBounds_toArray, List.set_cons_zero, List.set_cons_succ]
        refine take_at 17 (v := ?_) rfl (by kernel_rfl) (by kernel_rfl) (by kernel_rfl) (fun _ _ _ h => h) hHeld (Or.inl ⟨by rfl, ?_⟩) ?_
        rotate_left
        · (intro w hSw; (try dsimp only at hSw); go_simp; try with_reducible rfl)
        simp only [Act.put, List.setIfInBounds_toArray, List.set_cons_zero, List.set_cons_succ]
        refine wpAnyH_done (by kernel_rfl) ?_ _
        have HB2 : Hid (Below w.heap.size w y1) := chainB HB.out (chainB BY.out z1)
        go_wp2_with fail
        go_roundw
        case rel => exact ⟨i + 1, by omega, by go_num, HB2, HF2, HG2⟩
        case measure => simp [Go.RowKit.intOf]; omega
      · have hd0 : decide (0 < (i : Int)) = true := decide_eq_true (by omega)
        have hd0n : decide (0 < i) = true := decide_eq_true (by omega)
        have him : i - 1 < fs.length := by omega
        have HCm : Hid (∀ x, Below wr.heap.size wr x → x.cell? ⟨b, off + (i - 1) * 5, none⟩ = some (.string fs[i - 1].n)) := fun x hx => (((HT.out.below HB.out).below hx).at (i - 1) him).1
        have hwr : IntKind.i64.wrap ((i : Int) - 1) = ((i - 1 : Nat) : Int) := by rw [IntKind.wrap_i64]; omega
        have im1 : ((i - 1 : Nat) : Int) < fs.length := by omega
        have HG1 : Hid (Op.bytesLess fs[i - 1].n.toList fs[i].n.toList = true → ∀ j (h0 : 0 < j) (h : j < fs.length), j < i + 1 → Op.bytesLess (fs[j - 1]'(by omega)).n.toList fs[j].n.toList = true) := fun h1 j h2 h hj => if he : j = i then by subst he; exact h1 else HG.out j h2 h (by omega)
        have HN2 : Hid (Op.bytesLess fs[i - 1].n.toList fs[i].n.toList = false → fsB fs = false) := fun h1 => fsB_not_rise (by omega) hlt h1
        generalize fs[i - 1].n = fm at *
        generalize fs[i].n = fn at *
        generalize fs[i].c = fc at *
        generalize fs[i].s = fss at *
        generalize fs[i].v = fv at *
        generalize fs[i].g = fg at *
        obtain ⟨m, hm⟩ : ∃ m, m = i - 1 := ⟨_, rfl⟩
        rw [← hm] at him HCm hwr im1
        clear HF1 HN1 HF HG hfd hzi h0 hm
        obtain ⟨c0, c1, c2, c3, c4⟩ := id hcell
        cases hls : Op.bytesLess fm.toList fn.toList with
        | true =>
          have HG2 := HG1.out hls
          have HG2 : Hid (∀ j (h0 : 0 < j) (h : j < fs.length), j < i + 1 → Op.bytesLess (fs[j - 1]'(by omega)).n.toList fs[j].n.toList = true) := HG2
          obtain ⟨hno, hne⟩ : Op.bytesLess fn.toList fm.toList = false ∧ (fn.toList == fm.toList) = false := by
            have := bl_not fm.toList fn.toList
            rw [hls] at this
            exact Bool.or_eq_false_iff.1 this
          clear HG1 HN2
          go_upto_region 6 with fail
          obtain ⟨y0, hy0⟩ : ∃ y0, y0 = wr.alloc (.cells #[.string fn, .string fc, .string fss, .string fv, .bool fg] 122) := ⟨_, rfl⟩
          rw [← hy0]
          have BY : Hid (Below wr.heap.size wr y0) := by rw [hy0]; exact (Below.refl _ _).alloc (Nat.le_refl _) _
          have KY : Hid (Bxs y0 wr.heap.size 122 #[.string fn, .string fc, .string fss, .string fv, .bool fg]) := by rw [hy0]; exact Bxs.new _ _ _
          have HY : Hid (∀ x, Below y0.heap.size y0 x → x.cell? ⟨wr.heap.size, 0, none⟩ = some (.string fn) ∧ x.cell? ⟨wr.heap.size, 1, none⟩ = some (.string fc) ∧ x.cell? ⟨wr.heap.size, 2, none⟩ = some (.string fss) ∧ x.cell? ⟨wr.heap.size, 3, none⟩ = some (.string fv) ∧ x.cell? ⟨wr.heap.size, 4, none⟩ = some (.bool fg)) := fun x hx => (KY.out.below hx).five
          have BR : Hid (Below y0.heap.size y0 y0.drew) := (Below.refl _ _).drew
          have HTy : Hid (Tabs y0.drew) := (HTr.out.to BY.out).to BR.out
          clear hy0 hcell
          refine wp_region_held_drew (S := (fun w' => w'.cell? ⟨b, off + m * 5, none⟩ = some (.string fm) ∧ w'.cell? ⟨wr.heap.size, 0, none⟩ = some (.string fn) ∧ w'.cell? ⟨wr.heap.size, 1, none⟩ = some (.string fc) ∧ w'.cell? ⟨wr.heap.size, 2, none⟩ = some (.string fss) ∧ w'.cell? ⟨wr.heap.size, 3, none⟩ = some (.string fv) ∧ w'.cell? ⟨wr.heap.size, 4, none⟩ = some (.bool fg))) (by kernel_rfl) (⟨HCm.out _ (chainB BY.out BR.out), HY.out _ BR.out⟩) (fun hHeld => ?_)
          refine take_at 0 (v := ?_) rfl (by kernel_rfl) (by kernel_rfl) (by kernel_rfl) (fun _ _ _ h => h) hHeld (Or.inl ⟨by rfl, ?_⟩) ?_
          rotate_left
          · (intro w hSw; (try dsimp only at hSw); go_simp; try with_reducible rfl)
          simp only [Act.put, List.setIfInBounds_toArray, List.set_cons_zero, List.set_cons_succ]
          refine ready_at 1 rfl (by kernel_rfl) (fun K hK => ?_)
          go_simp
          (go_at_call 204; with_reducible refine (HQ.out _ HTy.out).mono ?_; rintro e y1 ⟨rfl, z0⟩; have z1 : Below y0.heap.size y0 y1 := chainB BR.out z0)
          refine hK.out _ _ (⟨HCm.out _ (chainB BY.out z1), HY.out _ z1⟩) (fun hHeld => ?_)
          clear hK K
          try simp only [Act.put, List.setIfInBounds_toArray, List.set_cons_zero, List.set_cons_succ]
          refine take_at 2 (v := ?_) rfl (by kernel_rfl) (by kernel_rfl) (by kernel_rfl) (fun _ _ _ h => h) hHeld (Or.inl ⟨by rfl, ?_⟩) ?_
          rotate_left
          · (intro w hSw; (try dsimp only at hSw); go_simp; try with_reducible rfl)
          simp only [Act.put, List.setIfInBounds_toArray, List.set_cons_zero, List.set_cons_succ]
          refine take_at 3 (v := ?_) rfl (by kernel_rfl) (by kernel_rfl) (by kernel_rfl) (fun _ _ _ h => h) hHeld (Or.inl ⟨by rfl, ?_⟩) ?_
          rotate_left
          · (intro w hSw; (try dsimp only at hSw); go_simp; try with_reducible rfl)
          simp only [Act.put, List.setIfInBounds_toArray, List.set_cons_zero, List.set_cons_succ]
          refine take_at 4 (v := ?_) rfl (by kernel_rfl) (by kernel_rfl) (by kernel_rfl) (fun _ _ _ h => h) hHeld (Or.inl ⟨by rfl, ?_⟩) ?_
          rotate_left
          · (intro w hSw; (try dsimp only at hSw); go_simp; try with_reducible rfl)
          simp only [Act.put, List.setIfInBounds_toArray, List.set_cons_zero, List.set_cons_succ]
          refine take_at 5 (v := ?_) rfl (by kernel_rfl) (by kernel_rfl) (by kernel_rfl) (fun _ _ _ h => h) hHeld (Or.inl ⟨by rfl, ?_⟩) ?_
          rotate_left
          · (intro w hSw; (try dsimp only at hSw); go_simp; try with_reducible rfl)
          simp only [Act.put, List.setIfInBounds_toArray, List.set_cons_zero, List.set_cons_succ]
          refine take_at 6 (v := ?_) rfl (by kernel_rfl) (by kernel_rfl) (by kernel_rfl) (fun _ _ _ h => h) hHeld (Or.inl ⟨by rfl, ?_⟩) ?_
          rotate_left
          · (intro w hSw; (try dsimp only at hSw); go_simp; try with_reducible rfl)
          simp only [Act.put, List.setIfInBounds_toArray, List.set_cons_zero, List.set_cons_succ]
          refine take_at 7 (v := ?_) rfl (by kernel_rfl) (by kernel_rfl) (by kernel_rfl) (fun _ _ _ h => h) hHeld (Or.inl ⟨by rfl, ?_⟩) ?_
          rotate_left
          · (intro w hSw; (try dsimp only at hSw); go_simp; try with_reducible rfl)
          simp only [Act.put, List.setIfInBounds_toArray, List.set_cons_zero, List.set_cons_succ]
          refine take_at 8 (v := ?_) rfl (by kernel_rfl) (by kernel_rfl) (by kernel_rfl) (fun _ _ _ h => h) hHeld (Or.inl ⟨by rfl, ?_⟩) ?_
          rotate_left
          · (intro w hSw; (try dsimp only at hSw); go_simp; try with_reducible rfl)
          simp only [Act.put, List.setIfInBounds_toArray, List.set_cons_zero, List.set_cons_succ]
          refine take_at 9 (v := ?_) rfl (by kernel_rfl) (by kernel_rfl) (by kernel_rfl) (fun _ _ _ h => h) hHeld (Or.inl ⟨by rfl, ?_⟩) ?_
          rotate_left
          · (intro w hSw; (try dsimp only at hSw); go_simp; try with_reducible rfl)
          simp only [Act.put, List.setIfInBounds_toArray, List.set_cons_zero, List.set_cons_succ]
          refine take_at 10 (v := ?_) rfl (by kernel_rfl) (by kernel_rfl) (by kernel_rfl) (fun _ _ _ h => h) hHeld (Or.inl ⟨by rfl, ?_⟩) ?_
          rotate_left
          · (intro w hSw; (try dsimp only at hSw); go_simp; try with_reducible rfl)
          simp only [Act.put, List.setIfInBounds_toArray, List.set_cons_zero, List.set_cons_succ]
          refine take_at 11 (v := ?_) rfl (by kernel_rfl) (by kernel_rfl) (by kernel_rfl) (fun _ _ _ h => h) hHeld (Or.inl ⟨by rfl, ?_⟩) ?_
          rotate_left
          · (intro w hSw; (try dsimp only at hSw); go_simp; try with_reducible rfl)
          simp only [Act.put, List.setIfInBounds_toArray, List.set_cons_zero, List.set_cons_succ]
          refine take_at 12 (v := ?_) rfl (by kernel_rfl) (by kernel_rfl) (by kernel_rfl) (fun _ _ _ h => h) hHeld (Or.inl ⟨by rfl, ?_⟩) ?_
          rotate_left
          · (intro w hSw; (try dsimp only at hSw); go_simp; try with_reducible rfl)
          simp only [Act.put, List.setIfInBounds_toArray, List.set_cons_zero, List.set_cons_succ]
          refine take_at 13 (v := ?_) rfl (by kernel_rfl) (by kernel_rfl) (by kernel_rfl) (fun _ _ _ h => h) hHeld (Or.inl ⟨by rfl, ?_⟩) ?_
          rotate_left
          · (intro w hSw; (try dsimp only at hSw); go_simp; try with_reducible rfl)
          simp only [Act.put, List.setIfInBounds_toArray, List.set_cons_zero, List.set_cons_succ]
          refine take_at 14 (v := ?_) rfl (by kernel_rfl) (by kernel_rfl) (by kernel_rfl) (fun _ _ _ h => h) hHeld (Or.inl ⟨by rfl, ?_⟩) ?_
          rotate_left
          · (intro w hSw; (try dsimp only at hSw); go_simp; try with_reducible rfl)
          simp only [Act.put, List.setIfInBounds_toArray, List.set_cons_zero, List.set_cons_succ]
          refine take_at 15 (v := ?_) rfl (by kernel_rfl) (by kernel_rfl) (by kernel_rfl) (fun _ _ _ h => h) hHeld (Or.inl ⟨by rfl, ?_⟩) ?_
          rotate_left
          · (intro w hSw; (try dsimp only at hSw); go_simp; try with_reducible rfl)
          simp only [Act.put, List.setIfInBounds_toArray, List.set_cons_zero, List.set_cons_succ]
          refine take_at 16 (v := ?_) rfl (by kernel_rfl) (by kernel_rfl) (by kernel_rfl) (fun _ _ _ h => h) hHeld (Or.inl ⟨by rfl, ?_⟩) ?_
          rotate_left
          · (intro w hSw; (try dsimp only at hSw); go_simp; try with_reducible rfl)
          simp only [Act.put, List.setIfInBounds_toArray, List.set_cons_zero, List.set_cons_succ]
          refine take_at 17 (v := ?_) rfl (by kernel_rfl) (by kernel_rfl) (by kernel_rfl) (fun _ _ _ h => h) hHeld (Or.inl ⟨by rfl, ?_⟩) ?_
          rotate_left
          · (intro w hSw; (try dsimp only at hSw); go_simp; try with_reducible rfl)
          simp only [Act.put, List.setIfInBounds_toArray, List.set_cons_zero, List.set_cons_succ]
          refine wpAnyH_done (by kernel_rfl) ?_ _
          have HB2 : Hid (Below w.heap.size w y1) := chainB HB.out (chainB BY.out z1)
          go_wp2_with fail
          go_roundw
          case rel => exact ⟨i + 1, by omega, by go_num, HB2, HF2, HG2⟩
          case measure => simp [Go.RowKit.intOf]; omega
        | false =>
          have HV : Hid (fsB fs = false) := HN2.out hls
          clear HG1 HN2
          have hor := bl_not fm.toList fn.toList
          rw [hls] at hor
          cases hno : Op.bytesLess fn.toList fm.toList with
          | true =>
            clear hor
            go_upto_region 6 with fail
            obtain ⟨y0, hy0⟩ : ∃ y0, y0 = wr.alloc (.cells #[.string fn, .string fc, .string fss, .string fv, .bool fg] 122) := ⟨_, rfl⟩
            rw [← hy0]
            have BY : Hid (Below wr.heap.size wr y0) := by rw [hy0]; exact (Below.refl _ _).alloc (Nat.le_refl _) _
            have KY : Hid (Bxs y0 wr.heap.size 122 #[.string fn, .string fc, .string fss, .string fv, .bool fg]) := by rw [hy0]; exact Bxs.new _ _ _
            have HY : Hid (∀ x, Below y0.heap.size y0 x → x.cell? ⟨wr.heap.size, 0, none⟩ = some (.string fn) ∧ x.cell? ⟨wr.heap.size, 1, none⟩ = some (.string fc) ∧ x.cell? ⟨wr.heap.size, 2, none⟩ = some (.string fss) ∧ x.cell? ⟨wr.heap.size, 3, none⟩ = some (.string fv) ∧ x.cell? ⟨wr.heap.size, 4, none⟩ = some (.bool fg)) := fun x hx => (KY.out.below hx).five
            have BR : Hid (Below y0.heap.size y0 y0.drew) := (Below.refl _ _).drew
            have HTy : Hid (Tabs y0.drew) := (HTr.out.to BY.out).to BR.out
            clear hy0 hcell
            refine wp_region_held_drew (S := (fun w' => w'.cell? ⟨b, off + m * 5, none⟩ = some (.string fm) ∧ w'.cell? ⟨wr.heap.size, 0, none⟩ = some (.string fn) ∧ w'.cell? ⟨wr.heap.size, 1, none⟩ = some (.string fc) ∧ w'.cell? ⟨wr.heap.size, 2, none⟩ = some (.string fss) ∧ w'.cell? ⟨wr.heap.size, 3, none⟩ = some (.string fv) ∧ w'.cell? ⟨wr.heap.size, 4, none⟩ = some (.bool fg))) (by kernel_rfl) (⟨HCm.out _ (chainB BY.out BR.out), HY.out _ BR.out⟩) (fun hHeld => ?_)
            refine take_at 0 (v := ?_) rfl (by kernel_rfl) (by kernel_rfl) (by kernel_rfl) (fun _ _ _ h => h) hHeld (Or.inl ⟨by rfl, ?_⟩) ?_
            rotate_left
            · (intro w hSw; (try dsimp only at hSw); go_simp; try with_reducible rfl)
            simp only [Act.put, List.setIfInBounds_toArray, List.set_cons_zero, List.set_cons_succ]
            refine ready_at 1 rfl (by kernel_rfl) (fun K hK => ?_)
            go_simp
            (go_at_call 204; with_reducible refine (HQ.out _ HTy.out).mono ?_; rintro e y1 ⟨rfl, z0⟩; have z1 : Below y0.heap.size y0 y1 := chainB BR.out z0)
            refine hK.out _ _ (⟨HCm.out _ (chainB BY.out z1), HY.out _ z1⟩) (fun hHeld => ?_)
            clear hK K
            try simp only [Act.put, List.setIfInBounds_toArray, List.set_cons_zero, List.set_cons_succ]
            refine take_at 2 (v := ?_) rfl (by kernel_rfl) (by kernel_rfl) (by kernel_rfl) (fun _ _ _ h => h) hHeld (Or.inl ⟨by rfl, ?_⟩) ?_
            rotate_left
            · (intro w hSw; (try dsimp only at hSw); go_simp; try with_reducible rfl)
            simp only [Act.put, List.setIfInBounds_toArray, List.set_cons_zero, List.set_cons_succ]
            refine take_at 3 (v := ?_) rfl (by kernel_rfl) (by kernel_rfl) (by kernel_rfl) (fun _ _ _ h => h) hHeld (Or.inl ⟨by rfl, ?_⟩) ?_
            rotate_left
            · (intro w hSw; (try dsimp only at hSw); go_simp; try with_reducible rfl)
            simp only [Act.put, List.setIfInBounds_toArray, List.set_cons_zero, List.set_cons_succ]
            refine take_at 4 (v := ?_) rfl (by kernel_rfl) (by kernel_rfl) (by kernel_rfl) (fun _ _ _ h => h) hHeld (Or.inl ⟨by rfl, ?_⟩) ?_
            rotate_left
            · (intro w hSw; (try dsimp only at hSw); go_simp; try with_reducible rfl)
            simp only [Act.put, List.setIfInBounds_toArray, List.set_cons_zero, List.set_cons_succ]
            refine take_at 5 (v := ?_) rfl (by kernel_rfl) (by kernel_rfl) (by kernel_rfl) (fun _ _ _ h => h) hHeld (Or.inl ⟨by rfl, ?_⟩) ?_
            rotate_left
            · (intro w hSw; (try dsimp only at hSw); go_simp; try with_reducible rfl)
            simp only [Act.put, List.setIfInBounds_toArray, List.set_cons_zero, List.set_cons_succ]
            refine take_at 6 (v := ?_) rfl (by kernel_rfl) (by kernel_rfl) (by kernel_rfl) (fun _ _ _ h => h) hHeld (Or.inl ⟨by rfl, ?_⟩) ?_
            rotate_left
            · (intro w hSw; (try dsimp only at hSw); go_simp; try with_reducible rfl)
            simp only [Act.put, List.setIfInBounds_toArray, List.set_cons_zero, List.set_cons_succ]
            refine take_at 7 (v := ?_) rfl (by kernel_rfl) (by kernel_rfl) (by kernel_rfl) (fun _ _ _ h => h) hHeld (Or.inl ⟨by rfl, ?_⟩) ?_
            rotate_left
            · (intro w hSw; (try dsimp only at hSw); go_simp; try with_reducible rfl)
            simp only [Act.put, List.setIfInBounds_toArray, List.set_cons_zero, List.set_cons_succ]
            refine take_at 8 (v := ?_) rfl (by kernel_rfl) (by kernel_rfl) (by kernel_rfl) (fun _ _ _ h => h) hHeld (Or.inl ⟨by rfl, ?_⟩) ?_
            rotate_left
            · (intro w hSw; (try dsimp only at hSw); go_simp; try with_reducible rfl)
            simp only [Act.put, List.setIfInBounds_toArray, List.set_cons_zero, List.set_cons_succ]
            refine take_at 9 (v := ?_) rfl (by kernel_rfl) (by kernel_rfl) (by kernel_rfl) (fun _ _ _ h => h) hHeld (Or.inl ⟨by rfl, ?_⟩) ?_
            rotate_left
            · (intro w hSw; (try dsimp only at hSw); go_simp; try with_reducible rfl)
            simp only [Act.put, List.setIfInBounds_toArray, List.set_cons_zero, List.set_cons_succ]
            refine take_at 10 (v := ?_) rfl (by kernel_rfl) (by kernel_rfl) (by kernel_rfl) (fun _ _ _ h => h) hHeld (Or.inl ⟨by rfl, ?_⟩) ?_
            rotate_left
            · (intro w hSw; (try dsimp only at hSw); go_simp; try with_reducible rfl)
            simp only [Act.put, List.setIfInBounds_toArray, List.set_cons_zero, List.set_cons_succ]
            refine take_at 11 (v := ?_) rfl (by kernel_rfl) (by kernel_rfl) (by kernel_rfl) (fun _ _ _ h => h) hHeld (Or.inl ⟨by rfl, ?_⟩) ?_
            rotate_left
            · (intro w hSw; (try dsimp only at hSw); go_simp; try with_reducible rfl)
            simp only [Act.put, List.setIfInBounds_toArray, List.set_cons_zero, List.set_cons_succ]
            refine take_at 12 (v := ?_) rfl (by kernel_rfl) (by kernel_rfl) (by kernel_rfl) (fun _ _ _ h => h) hHeld (Or.inl ⟨by rfl, ?_⟩) ?_
            rotate_left
            · (intro w hSw; (try dsimp only at hSw); go_simp; try with_reducible rfl)
            simp only [Act.put, List.setIfInBounds_toArray, List.set_cons_zero, List.set_cons_succ]
            refine take_at 13 (v := ?_) rfl (by kernel_rfl) (by kernel_rfl) (by kernel_rfl) (fun _ _ _ h => h) hHeld (Or.inl ⟨by rfl, ?_⟩) ?_
            rotate_left
            · (intro w hSw; (try dsimp only at hSw); go_simp; try with_reducible rfl)
            simp only [Act.put, List.setIfInBounds_toArray, List.set_cons_zero, List.set_cons_succ]
            refine take_at 14 (v := ?_) rfl (by kernel_rfl) (by kernel_rfl) (by kernel_rfl) (fun _ _ _ h => h) hHeld (Or.inl ⟨by rfl, ?_⟩) ?_
            rotate_left
            · (intro w hSw; (try dsimp only at hSw); go_simp; try with_reducible rfl)
            simp only [Act.put, List.setIfInBounds_toArray, List.set_cons_zero, List.set_cons_succ]
            refine take_at 15 (v := ?_) rfl (by kernel_rfl) (by kernel_rfl) (by kernel_rfl) (fun _ _ _ h => h) hHeld (Or.inl ⟨by rfl, ?_⟩) ?_
            rotate_left
            · (intro w hSw; (try dsimp only at hSw); go_simp; try with_reducible rfl)
            simp only [Act.put, List.setIfInBounds_toArray, List.set_cons_zero, List.set_cons_succ]
            refine take_at 16 (v := ?_) rfl (by kernel_rfl) (by kernel_rfl) (by kernel_rfl) (fun _ _ _ h => h) hHeld (Or.inl ⟨by rfl, ?_⟩) ?_
            rotate_left
            · (intro w hSw; (try dsimp only at hSw); go_simp; try with_reducible rfl)
            simp only [Act.put, List.setIfInBounds_toArray, List.set_cons_zero, List.set_cons_succ]
            refine take_at 17 (v := ?_) rfl (by kernel_rfl) (by kernel_rfl) (by kernel_rfl) (fun _ _ _ h => h) hHeld (Or.inl ⟨by rfl, ?_⟩) ?_
            rotate_left
            · (intro w hSw; (try dsimp only at hSw); go_simp; try with_reducible rfl)
            simp only [Act.put, List.setIfInBounds_toArray, List.set_cons_zero, List.set_cons_succ]
            refine wpAnyH_done (by kernel_rfl) ?_ _
            go_wp2_with fail
            go_ret
            exact ⟨ret_bool HV.out.symm, chainB HB.out (chainB BY.out z1)⟩
          | false =>
            rw [hno] at hor
            have hne : (fn.toList == fm.toList) = true := hor
            clear hor
            go_upto_region 6 with fail
            obtain ⟨y0, hy0⟩ : ∃ y0, y0 = wr.alloc (.cells #[.string fn, .string fc, .string fss, .string fv, .bool fg] 122) := ⟨_, rfl⟩
            rw [← hy0]
            have BY : Hid (Below wr.heap.size wr y0) := by rw [hy0]; exact (Below.refl _ _).alloc (Nat.le_refl _) _
            have KY : Hid (Bxs y0 wr.heap.size 122 #[.string fn, .string fc, .string fss, .string fv, .bool fg]) := by rw [hy0]; exact Bxs.new _ _ _
            have HY : Hid (∀ x, Below y0.heap.size y0 x → x.cell? ⟨wr.heap.size, 0, none⟩ = some (.string fn) ∧ x.cell? ⟨wr.heap.size, 1, none⟩ = some (.string fc) ∧ x.cell? ⟨wr.heap.size, 2, none⟩ = some (.string fss) ∧ x.cell? ⟨wr.heap.size, 3, none⟩ = some (.string fv) ∧ x.cell? ⟨wr.heap.size, 4, none⟩ = some (.bool fg)) := fun x hx => (KY.out.below hx).five
            have BR : Hid (Below y0.heap.size y0 y0.drew) := (Below.refl _ _).drew
            have HTy : Hid (Tabs y0.drew) := (HTr.out.to BY.out).to BR.out
            clear hy0 hcell
            refine wp_region_held_drew (S := (fun w' => w'.cell? ⟨b, off + m * 5, none⟩ = some (.string fm) ∧ w'.cell? ⟨wr.heap.size, 0, none⟩ = some (.string fn) ∧ w'.cell? ⟨wr.heap.size, 1, none⟩ = some (.string fc) ∧ w'.cell? ⟨wr.heap.size, 2, none⟩ = some (.string fss) ∧ w'.cell? ⟨wr.heap.size, 3, none⟩ = some (.string fv) ∧ w'.cell? ⟨wr.heap.size, 4, none⟩ = some (.bool fg))) (by kernel_rfl) (⟨HCm.out _ (chainB BY.out BR.out), HY.out _ BR.out⟩) (fun hHeld => ?_)
            refine take_at 0 (v := ?_) rfl (by kernel_rfl) (by kernel_rfl) (by kernel_rfl) (fun _ _ _ h => h) hHeld (Or.inl ⟨by rfl, ?_⟩) ?_
            rotate_left
            · (intro w hSw; (try dsimp only at hSw); go_simp; try with_reducible rfl)
            simp only [Act.put, List.setIfInBounds_toArray, List.set_cons_zero, List.set_cons_succ]
            refine ready_at 1 rfl (by kernel_rfl) (fun K hK => ?_)
            go_simp
            (go_at_call 204; with_reducible refine (HQ.out _ HTy.out).mono ?_; rintro e y1 ⟨rfl, z0⟩; have z1 : Below y0.heap.size y0 y1 := chainB BR.out z0)
            refine hK.out _ _ (⟨HCm.out _ (chainB BY.out z1), HY.out _ z1⟩) (fun hHeld => ?_)
            clear hK K
            try simp only [Act.put, List.setIfInBounds_toArray, List.set_cons_zero, List.set_cons_succ]
            refine take_at 2 (v := ?_) rfl (by kernel_rfl) (by kernel_rfl) (by kernel_rfl) (fun _ _ _ h => h) hHeld (Or.inl ⟨by rfl, ?_⟩) ?_
            rotate_left
            · (intro w hSw; (try dsimp only at hSw); go_simp; try with_reducible rfl)
            simp only [Act.put, List.setIfInBounds_toArray, List.set_cons_zero, List.set_cons_succ]
            refine take_at 3 (v := ?_) rfl (by kernel_rfl) (by kernel_rfl) (by kernel_rfl) (fun _ _ _ h => h) hHeld (Or.inl ⟨by rfl, ?_⟩) ?_
            rotate_left
            · (intro w hSw; (try dsimp only at hSw); go_simp; try with_reducible rfl)
            simp only [Act.put, List.setIfInBounds_toArray, List.set_cons_zero, List.set_cons_succ]
            refine take_at 4 (v := ?_) rfl (by kernel_rfl) (by kernel_rfl) (by kernel_rfl) (fun _ _ _ h => h) hHeld (Or.inl ⟨by rfl, ?_⟩) ?_
            rotate_left
            · (intro w hSw; (try dsimp only at hSw); go_simp; try with_reducible rfl)
            simp only [Act.put, List.setIfInBounds_toArray, List.set_cons_zero, List.set_cons_succ]
            refine take_at 5 (v := ?_) rfl (by kernel_rfl) (by kernel_rfl) (by kernel_rfl) (fun _ _ _ h => h) hHeld (Or.inl ⟨by rfl, ?_⟩) ?_
            rotate_left
            · (intro w hSw; (try dsimp only at hSw); go_simp; try with_reducible rfl)
            simp only [Act.put, List.setIfInBounds_toArray, List.set_cons_zero, List.set_cons_succ]
            refine take_at 6 (v := ?_) rfl (by kernel_rfl) (by kernel_rfl) (by kernel_rfl) (fun _ _ _ h => h) hHeld (Or.inl ⟨by rfl, ?_⟩) ?_
            rotate_left
            · (intro w hSw; (try dsimp only at hSw); go_simp; try with_reducible rfl)
            simp only [Act.put, List.setIfInBounds_toArray, List.set_cons_zero, List.set_cons_succ]
            refine take_at 7 (v := ?_) rfl (by kernel_rfl) (by kernel_rfl) (by kernel_rfl) (fun _ _ _ h => h) hHeld (Or.inl ⟨by rfl, ?_⟩) ?_
            rotate_left
            · (intro w hSw; (try dsimp only at hSw); go_simp; try with_reducible rfl)
            simp only [Act.put, List.setIfInBounds_toArray, List.set_cons_zero, List.set_cons_succ]
            refine take_at 8 (v := ?_) rfl (by kernel_rfl) (by kernel_rfl) (by kernel_rfl) (fun _ _ _ h => h) hHeld (Or.inl ⟨by rfl, ?_⟩) ?_
            rotate_left
            · (intro w hSw; (try dsimp only at hSw); go_simp; try with_reducible rfl)
            simp only [Act.put, List.setIfInBounds_toArray, List.set_cons_zero, List.set_cons_succ]
            refine take_at 9 (v := ?_) rfl (by kernel_rfl) (by kernel_rfl) (by kernel_rfl) (fun _ _ _ h => h) hHeld (Or.inl ⟨by rfl, ?_⟩) ?_
            rotate_left
            · (intro w hSw; (try dsimp only at hSw); go_simp; try with_reducible rfl)
            simp only [Act.put, List.setIfInBounds_toArray, List.set_cons_zero, List.set_cons_succ]
            refine take_at 10 (v := ?_) rfl (by kernel_rfl) (by kernel_rfl) (by kernel_rfl) (fun _ _ _ h => h) hHeld (Or.inl ⟨by rfl, ?_⟩) ?_
            rotate_left
            · (intro w hSw; (try dsimp only at hSw); go_simp; try with_reducible rfl)
            simp only [Act.put, List.setIfInBounds_toArray, List.set_cons_zero, List.set_cons_succ]
            refine take_at 11 (v := ?_) rfl (by kernel_rfl) (by kernel_rfl) (by kernel_rfl) (fun _ _ _ h => h) hHeld (Or.inl ⟨by rfl, ?_⟩) ?_
            rotate_left
            · (intro w hSw; (try dsimp only at hSw); go_simp; try with_reducible rfl)
            simp only [Act.put, List.setIfInBounds_toArray, List.set_cons_zero, List.set_cons_succ]
            refine take_at 12 (v := ?_) rfl (by kernel_rfl) (by kernel_rfl) (by kernel_rfl) (fun _ _ _ h => h) hHeld (Or.inl ⟨by rfl, ?_⟩) ?_
            rotate_left
            · (intro w hSw; (try dsimp only at hSw); go_simp; try with_reducible rfl)
            simp only [Act.put, List.setIfInBounds_toArray, List.set_cons_zero, List.set_cons_succ]
            refine take_at 13 (v := ?_) rfl (by kernel_rfl) (by kernel_rfl) (by kernel_rfl) (fun _ _ _ h => h) hHeld (Or.inl ⟨by rfl, ?_⟩) ?_
            rotate_left
            · (intro w hSw; (try dsimp only at hSw); go_simp; try with_reducible rfl)
            simp only [Act.put, List.setIfInBounds_toArray, List.set_cons_zero, List.set_cons_succ]
            refine take_at 14 (v := ?_) rfl (by kernel_rfl) (by kernel_rfl) (by kernel_rfl) (fun _ _ _ h => h) hHeld (Or.inl ⟨by rfl, ?_⟩) ?_
            rotate_left
            · (intro w hSw; (try dsimp only at hSw); go_simp; try with_reducible rfl)
            simp only [Act.put, List.setIfInBounds_toArray, List.set_cons_zero, List.set_cons_succ]
            refine take_at 15 (v := ?_) rfl (by kernel_rfl) (by kernel_rfl) (by kernel_rfl) (fun _ _ _ h => h) hHeld (Or.inl ⟨by rfl, ?_⟩) ?_
            rotate_left
            · (intro w hSw; (try dsimp only at hSw); go_simp; try with_reducible rfl)
            simp only [Act.put, List.setIfInBounds_toArray, List.set_cons_zero, List.set_cons_succ]
            refine take_at 16 (v := ?_) rfl (by kernel_rfl) (by kernel_rfl) (by kernel_rfl) (fun _ _ _ h => h) hHeld (Or.inl ⟨by rfl, ?_⟩) ?_
            rotate_left
            · (intro w hSw; (try dsimp only at hSw); go_simp; try with_reducible rfl)
            simp only [Act.put, List.setIfInBounds_toArray, List.set_cons_zero, List.set_cons_succ]
            refine take_at 17 (v := ?_) rfl (by kernel_rfl) (by kernel_rfl) (by kernel_rfl) (fun _ _ _ h => h) hHeld (Or.inl ⟨by rfl, ?_⟩) ?_
            rotate_left
            · (intro w hSw; (try dsimp only at hSw); go_simp; try with_reducible rfl)
            simp only [Act.put, List.setIfInBounds_toArray, List.set_cons_zero, List.set_cons_succ]
            refine wpAnyH_done (by kernel_rfl) ?_ _
            go_wp2_with fail
            go_ret
            exact ⟨ret_bool HV.out.symm, chainB HB.out (chainB BY.out z1)⟩
    · have HV : Hid (fsB fs = true) := by
        show _ = _
        rw [HR.out, List.all_eq_true.2 (fun f hf => by obtain ⟨j, hj, rfl⟩ := List.getElem_of_mem hf; exact HF.out j hj (by omega)), Bool.true_and]
        exact (rise_iff fs).2 (fun j h0 h => HG.out j h0 h (by omega))
      obtain rfl : i = fs.length := by omega
      clear HF HG
      go_wp2_with fail
      go_ret
      exact ⟨ret_bool HV.out.symm, HB.out⟩
set_option maxHeartbeats 1000000 in
theorem implRowRight_any (k : ByteArray) (at_ : Int) (q : Option Addr) (c : Nat) (fs : List Fld) (w : World) (hT : Tabs w) (hf : FldAt w q fs) (hn : fs.length ≤ 1048576) (hc : fs.length ≤ c) (hk : k.size ≤ maxLen) (hz : FldsLe fs) :
    Calls Tryz.prog 154 #[.agg #[.string k, .int .i64 at_, .slice q fs.length c]] w fun e w' => e = .returned (.bool (rwB k at_ fs)) ∧ Below w.heap.size w w' := by
  obtain ⟨W1, hW1⟩ : ∃ W1, W1 = w.alloc (.cells #[.string k, .int .i64 at_, .slice q fs.length c] 100) := ⟨_, rfl⟩
  have HW1 : Hid (W1 = w.alloc (.cells #[.string k, .int .i64 at_, .slice q fs.length c] 100)) := hW1
  have B1 : Hid (Below w.heap.size w W1) := by rw [hW1]; exact (Below.refl _ _).alloc (Nat.le_refl _) _
  have K1 : Bxs W1 w.heap.size 100 #[.string k, .int .i64 at_, .slice q fs.length c] := by rw [hW1]; exact Bxs.new _ _ _
  have hN := implNameRight_any k W1 hk
  have hTm := timeRight_any at_ W1
  have hF := fieldsRight_any q c fs W1 (hT.to B1.out) (hf.below B1.out) hn hc hz
  have x0 : W1.cell? ⟨w.heap.size, 0, none⟩ = some (.string k) := K1.cell 0
  have x1 : W1.cell? ⟨w.heap.size, 1, none⟩ = some (.int .i64 at_) := K1.cell 1
  have x2 : W1.cell? ⟨w.heap.size, 2, none⟩ = some (.slice q fs.length c) := K1.cell 2
  have y0 := x0
  rw [hW1] at y0
  have HR : Hid (rwB k at_ fs = (nrB k && (timeB at_ && fsB fs))) := rfl
  unfold maxLen at hk
  clear hW1 hf hT hz K1
  rw [HR.out]
  generalize nrB k = b1 at *
  generalize timeB at_ = b2 at *
  generalize fsB fs = b3 at *
  cases b1 with
  | false =>
    go_enter Tryz.func154, Tryz.ntmps154
    go_wp2_with fail
    rw [← HW1.out]
    refine hN.mono ?_
    rintro e w1 ⟨rfl, rfl⟩
    go_wp2_with fail
    go_ret
    exact ⟨rfl, B1.out⟩
  | true =>
  cases b2 with
  | false =>
    go_enter Tryz.func154, Tryz.ntmps154
    go_wp2_with fail
    rw [← HW1.out]
    refine hN.mono ?_
    rintro e w1 ⟨rfl, rfl⟩
    go_wp2_with fail
    refine hTm.mono ?_
    rintro e w2 ⟨rfl, rfl⟩
    go_wp2_with fail
    go_ret
    exact ⟨rfl, B1.out⟩
  | true =>
    go_enter Tryz.func154, Tryz.ntmps154
    go_wp2_with fail
    rw [← HW1.out]
    refine hN.mono ?_
    rintro e w1 ⟨rfl, rfl⟩
    go_wp2_with fail
    refine hTm.mono ?_
    rintro e w2 ⟨rfl, rfl⟩
    go_wp2_with fail
    refine hF.mono ?_
    rintro e w3 ⟨rfl, b3⟩
    go_wp2_with fail
    go_ret
    exact ⟨rfl, chainB B1.out b3⟩
end Go.Proofs.YtonleickhincgaaGreatDoor
