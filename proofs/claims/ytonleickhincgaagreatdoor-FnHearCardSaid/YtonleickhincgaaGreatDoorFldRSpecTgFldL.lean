/-
  Parts of one proof, laid as one text: FldR, SpecTg, FldL; what each says stands at its head.
-/
import Derived.Test.YtonleickhincgaaGreatDoorRows
import Derived.Test.YtonleickhincgaaGreatDoorBytesDigMath
import Derived.Test.YtonleickhincgaaGreatDoorTreeMathSlABxKSlBOwnS
import Derived.Test.YtonleickhincgaaGreatDoorLgLawTakesTakesLPutterPathI
import Derived.Test.YtonleickhincgaaGreatDoorNameRight
import Derived.Test.YtonleickhincgaaGreatDoorTimeBPutMathPutNumJoinedPutTextFldMath
import Derived.Test.YtonleickhincgaaGreatDoorImplVerInc2SignRSignWFldRiseScanMath
import Derived.Test.YtonleickhincgaaGreatDoorImplLgFldC
import Derived.Handy
import Derived.Laws.Cover1
import Derived.WalkSpells
import Derived.OwnWalk
import Derived.Deep.RegionHeld3
import Derived.Deep.RegionWith
import Derived.Deep.Cut
import Derived.Deep.CutRange
import Derived.Test.YtonleickhincgaaGreatDoorFldIsTimeIGrKSpecGNSpecGTTillTwoFldN
import Derived.Test.YtonleickhincgaaGreatDoorGetValGetTxtNumMathFldRdNumFromTmbMathLgMath
import Derived.Test.YtonleickhincgaaGreatDoorFldTbFldTrImplFCBlNot
import Derived.Test.YtonleickhincgaaGreatDoorAll2LeafNode
import Derived.Laws.Concat
/-
  What the specification's RowRight answers.
  Conditions: the cells of Fields hold the fields.
-/
namespace Go.Proofs.YtonleickhincgaaGreatDoor
open Go.RowKit Go.Lib
set_option linter.unusedVariables false
set_option maxRecDepth 20000

set_option maxHeartbeats 8000000 in
theorem specRowRight_any (k : ByteArray) (at_ : Int) (q : Option Addr) (c : Nat) (fs : List Fld) (w : World) (hf : FldAt w q fs) (hn : fs.length ≤ 1048576) (hc : fs.length ≤ c) (hk : k.size ≤ maxLen) (hz : FldsLe fs) :
    Calls Tryz.prog 73 #[.agg #[.string k, .int .i64 at_, .slice q fs.length c]] w fun e w' => e = .returned (.bool (rwB k at_ fs)) ∧ Below w.heap.size w w' := by
  obtain ⟨W1, hW1⟩ : ∃ W1, W1 = w.alloc (.cells #[.string k, .int .i64 at_, .slice q fs.length c] 100) := ⟨_, rfl⟩
  have HW1 : Hid (W1 = w.alloc (.cells #[.string k, .int .i64 at_, .slice q fs.length c] 100)) := hW1
  have B1 : Hid (Below w.heap.size w W1) := by rw [hW1]; exact (Below.refl _ _).alloc (Nat.le_refl _) _
  have K1 : Hid (Bxs W1 w.heap.size 100 #[.string k, .int .i64 at_, .slice q fs.length c]) := by rw [hW1]; exact Bxs.new _ _ _
  have HT : Hid (FldAt W1 q fs) := hf.below B1.out
  have hN := specNameRight_any k W1 hk
  have HTm := l07Time_any at_ W1
  have HX : Hid (∀ x, Below W1.heap.size W1 x → x.cell? ⟨w.heap.size, 0, none⟩ = some (.string k) ∧ x.cell? ⟨w.heap.size, 1, none⟩ = some (.int .i64 at_) ∧ x.cell? ⟨w.heap.size, 2, none⟩ = some (.slice q fs.length c)) := fun x hb => ⟨(K1.out.below hb).cell 0, (K1.out.below hb).cell 1, (K1.out.below hb).cell 2⟩
  obtain ⟨x0, x1, x2⟩ := HX.out W1 (Below.refl _ _)
  have y0 := x0
  rw [hW1] at y0
  have HR : Hid (rwB k at_ fs = (nrB k && (timeB at_ && (decide (1 ≤ fs.length ∧ fs.length ≤ 3) && (fs.all fdB && rise fs))))) := rfl
  unfold maxLen at hk
  clear hW1 hf
  cases hkk : nrB k with
  | false =>
    have HF : Hid (rwB k at_ fs = false) := by show _ = _; rw [HR.out, hkk]; rfl
    rw [hkk] at hN
    rw [HF.out]
    go_enter Tryz.func73, Tryz.ntmps73
    go_wp2_with fail
    rw [← HW1.out]
    refine hN.mono ?_
    rintro e w1 ⟨rfl, rfl⟩
    go_wp2_with fail
    go_ret
    exact ⟨rfl, B1.out⟩
  | true =>
  rw [hkk] at hN
  cases htt : timeB at_ with
  | false =>
    have HF : Hid (rwB k at_ fs = false) := by show _ = _; rw [HR.out, htt]; simp
    rw [htt] at HTm
    rw [HF.out]
    go_enter Tryz.func73, Tryz.ntmps73
    go_wp2_with fail
    rw [← HW1.out]
    refine hN.mono ?_
    rintro e w1 ⟨rfl, rfl⟩
    go_wp2_with fail
    refine HTm.mono ?_
    rintro e w2 ⟨rfl, rfl⟩
    go_wp2_with fail
    go_ret
    exact ⟨rfl, B1.out⟩
  | true =>
  rw [htt] at HTm
  by_cases hl : ¬ (1 ≤ fs.length ∧ fs.length ≤ 3)
  · have HF : Hid (rwB k at_ fs = false) := by show _ = _; rw [HR.out, decide_eq_false hl]; simp
    rw [HF.out]
    by_cases hl1 : fs.length < 1
    · have d1 : decide ((fs.length : Int) < 1) = true := decide_eq_true (by omega)
      clear hl
      go_enter Tryz.func73, Tryz.ntmps73
      go_wp2_with fail
      rw [← HW1.out]
      refine hN.mono ?_
      rintro e w1 ⟨rfl, rfl⟩
      go_wp2_with fail
      refine HTm.mono ?_
      rintro e w2 ⟨rfl, rfl⟩
      go_wp2_with fail
      go_ret
      exact ⟨rfl, B1.out⟩
    · have d1 : decide ((fs.length : Int) < 1) = false := decide_eq_false (by omega)
      have d2 : decide (3 < (fs.length : Int)) = true := decide_eq_true (by omega)
      clear hl hl1
      go_enter Tryz.func73, Tryz.ntmps73
      go_wp2_with fail
      rw [← HW1.out]
      refine hN.mono ?_
      rintro e w1 ⟨rfl, rfl⟩
      go_wp2_with fail
      refine HTm.mono ?_
      rintro e w2 ⟨rfl, rfl⟩
      go_wp2_with fail
      go_ret
      exact ⟨rfl, B1.out⟩
  have hl : 1 ≤ fs.length ∧ fs.length ≤ 3 := Decidable.byContradiction hl
  have d1 : decide ((fs.length : Int) < 1) = false := decide_eq_false (by omega)
  have d2 : decide (3 < (fs.length : Int)) = false := decide_eq_false (by omega)
  rw [hkk, htt, decide_eq_true hl, Bool.true_and, Bool.true_and, Bool.true_and] at HR
  obtain ⟨hl1, hl3⟩ := hl
  obtain ⟨b, off, rfl, hb0⟩ := HT.out.some_of (by omega)
  clear hkk htt
  go_enter Tryz.func73, Tryz.ntmps73
  go_wp2_with fail
  rw [← HW1.out]
  refine hN.mono ?_
  rintro e w1 ⟨rfl, rfl⟩
  go_wp2_with fail
  refine HTm.mono ?_
  rintro e w2 ⟨rfl, rfl⟩
  go_wp2_with fail
  go_loopw [3] (fun i wr => ∃ k : Nat, k ≤ fs.length ∧ i = .int .i64 k ∧ Hid (Below w2.heap.size w2 wr) ∧ Hid (∀ j (h : j < fs.length), j < k → fdB fs[j] = true) ∧ Hid (∀ j (h0 : 0 < j) (h : j < fs.length), j < k → Op.bytesLess (fs[j - 1]'(by omega)).n.toList fs[j].n.toList = true)) (fun i _ => fs.length - (Go.RowKit.intOf i).toNat)
  case atStart => exact ⟨0, Nat.zero_le _, rfl, Below.refl _ _, fun j h hk => by omega, fun j h0 h hk => by omega⟩
  case round =>
    obtain ⟨i, hi, rfl, HB, HF, HG⟩ := hrel
    clear x0 x1 x2 y0 hN HTm
    obtain ⟨x0, x1, x2⟩ := HX.out wr HB.out
    by_cases hlt : i < fs.length
    · have i1 : (i : Int) < fs.length := by omega
      have hzi := hz _ (List.getElem_mem hlt)
      have HC : Hid (∀ x, Below wr.heap.size wr x → x.cell? ⟨b, off + i * 5, none⟩ = some (.string fs[i].n) ∧ x.cell? ⟨b, off + i * 5 + 1, none⟩ = some (.string fs[i].c) ∧ x.cell? ⟨b, off + i * 5 + 2, none⟩ = some (.string fs[i].s) ∧ x.cell? ⟨b, off + i * 5 + 3, none⟩ = some (.string fs[i].v) ∧ x.cell? ⟨b, off + i * 5 + 4, none⟩ = some (.bool fs[i].g)) := fun x hx => ((HT.out.below HB.out).below hx).at i hlt
      have HQ : Hid (∀ x, Calls Tryz.prog 117 #[.agg #[.string fs[i].n, .string fs[i].c, .string fs[i].s, .string fs[i].v, .bool fs[i].g]] x fun e w' => e = .returned (.bool (fdB fs[i])) ∧ Below x.heap.size x w') := fun x => specFieldRight_any fs[i] x hzi.1 hzi.2.1 hzi.2.2.1 hzi.2.2.2
      have BR : Hid (Below wr.heap.size wr wr.drew) := (Below.refl _ _).drew
      have HXr : Hid (∀ x, Below wr.heap.size wr x → x.cell? ⟨w.heap.size, 2, none⟩ = some (.slice (some ⟨b, off, none⟩) fs.length c)) := fun x hx => (HX.out x (chainB HB.out hx)).2.2
      have HF1 : Hid (fdB fs[i] = true → ∀ j (h : j < fs.length), j < i + 1 → fdB fs[j] = true) := fun h0 j h hj => if he : j = i then by subst he; exact h0 else HF.out j h (by omega)
      have HN1 : Hid (fdB fs[i] = false → rwB k at_ fs = false) := fun h0 => rwB_not_all hlt h0
      cases hfd : fdB fs[i] with
      | false =>
        have HV : Hid (rwB k at_ fs = false) := HN1.out hfd
        rw [hfd] at HQ
        generalize fs[i].n = fn at *
        generalize fs[i].c = fc at *
        generalize fs[i].s = fss at *
        generalize fs[i].v = fv at *
        generalize fs[i].g = fg at *
        clear HF1 HN1 HF HG hfd hzi
        go_upto_region 6 with fail
        refine wp_region_held_drew (S := (fun w' => w'.cell? ⟨w.heap.size, 2, none⟩ = some (.slice (some ⟨b, off, none⟩) fs.length c) ∧ w'.cell? ⟨b, off + i * 5, none⟩ = some (.string fn) ∧ w'.cell? ⟨b, off + i * 5 + 1, none⟩ = some (.string fc) ∧ w'.cell? ⟨b, off + i * 5 + 2, none⟩ = some (.string fss) ∧ w'.cell? ⟨b, off + i * 5 + 3, none⟩ = some (.string fv) ∧ w'.cell? ⟨b, off + i * 5 + 4, none⟩ = some (.bool fg))) (by kernel_rfl) (⟨HXr.out _ BR.out, HC.out _ BR.out⟩) (fun hHeld => ?_)
        refine take_at 0 (v := ?_) rfl (by kernel_rfl) (by kernel_rfl) (by kernel_rfl) (fun _ _ _ h => h) hHeld (Or.inl ⟨by rfl, ?_⟩) ?_
        rotate_left
        · (intro w hSw; (try dsimp only at hSw); go_simp; try with_reducible rfl)
        simp only [Act.put, List.setIfInBounds_toArray, List.set_cons_zero, List.set_cons_succ]
        refine take_at 1 (v := ?_) rfl (by kernel_rfl) (by kernel_rfl) (by kernel_rfl) (fun _ _ _ h => h) hHeld (Or.inl ⟨by rfl, ?_⟩) ?_
        rotate_left
        · (intro w hSw; (try dsimp only at hSw); go_simp; try with_reducible rfl)
        simp only [Act.put, List.setIfInBounds_toArray, List.set_cons_zero, List.set_cons_succ]
        refine take_at 2 (v := ?_) rfl (by kernel_rfl) (by kernel_rfl) (by kernel_rfl) (fun _ _ _ h => h) hHeld (Or.inl ⟨by rfl, ?_⟩) ?_
        rotate_left
        · (intro w hSw; (try dsimp only at hSw); go_simp; try with_reducible rfl)
        simp only [Act.put, List.setIfInBounds_toArray, List.set_cons_zero, List.set_cons_succ]
        refine take_at 3 (v := ?_) rfl (by kernel_rfl) (by kernel_rfl) (by kernel_rfl) (fun _ _ _ h => h) hHeld (Or.inl ⟨by rfl, ?_⟩) ?_
        rotate_left
        · (intro w hSw; (try dsimp only at hSw); go_simp; try with_reducible rfl)
        simp only [Act.put, List.setIfInBounds_toArray, List.set_cons_zero, List.set_cons_succ]
        refine take_at 4 (v := ?_) rfl (by kernel_rfl) (by kernel_rfl) (by kernel_rfl) (fun _ _ _ h => h) hHeld (Or.inl ⟨by rfl, ?_⟩) ?_
        rotate_left
        · (intro w hSw; (try dsimp only at hSw); go_simp; try with_reducible rfl)
        simp only [Act.put, List.setIfInBounds_toArray, List.set_cons_zero, List.set_cons_succ]
        refine ready_at 5 rfl (by kernel_rfl) (fun K hK => ?_)
        go_simp
        (go_at_call 117; with_reducible refine (HQ.out _).mono ?_; rintro e y1 ⟨rfl, z0⟩; have z1 : Below wr.heap.size wr y1 := chainB BR.out z0)
        refine hK.out _ _ (⟨HXr.out _ z1, HC.out _ z1⟩) (fun hHeld => ?_)
        clear hK K
        try simp only [Act.put, List.setIfInBounds_toArray, List.set_cons_zero, List.set_cons_succ]
        refine take_at 6 (v := ?_) rfl (by kernel_rfl) (by kernel_rfl) (by kernel_rfl) (fun _ _ _ h => h) hHeld (Or.inl ⟨by rfl, ?_⟩) ?_
        rotate_left
        · (intro w hSw; (try dsimp only at hSw); go_simp; try with_reducible rfl)
        simp only [Act.put, List.setIfInBounds_toArray, List.set_cons_zero, List.set_cons_succ]
        refine take_at 7 (v := ?_) rfl (by kernel_rfl) (by kernel_rfl) (by kernel_rfl) (fun _ _ _ h => h) hHeld (Or.inl ⟨by rfl, ?_⟩) ?_
        rotate_left
        · (intro w hSw; (try dsimp only at hSw); go_simp; try with_reducible rfl)
        simp only [Act.put, List.setIfInBounds_toArray, List.set_cons_zero, List.set_cons_succ]
        refine take_at 8 (v := undef) rfl (by kernel_rfl) (by kernel_rfl) (by kernel_rfl) (fun _ _ _ h => h) hHeld (Or.inr ⟨by rfl, rfl⟩) ?_
        simp only [Act.put, List.setIfInBounds_toArray, List.set_cons_zero, List.set_cons_succ]
        refine take_at 9 (v := undef) rfl (by kernel_rfl) (by kernel_rfl) (by kernel_rfl) (fun _ _ _ h => h) hHeld (Or.inr ⟨by rfl, rfl⟩) ?_
        simp only [Act.put, List.setIfInBounds_toArray, List.set_cons_zero, List.set_cons_succ]
        refine take_at 10 (v := undef) rfl (by kernel_rfl) (by kernel_rfl) (by kernel_rfl) (fun _ _ _ h => h) hHeld (Or.inr ⟨by rfl, rfl⟩) ?_
        simp only [Act.put, List.setIfInBounds_toArray, List.set_cons_zero, List.set_cons_succ]
        refine take_at 11 (v := undef) rfl (by kernel_rfl) (by kernel_rfl) (by kernel_rfl) (fun _ _ _ h => h) hHeld (Or.inr ⟨by rfl, rfl⟩) ?_
        simp only [Act.put, List.setIfInBounds_toArray, List.set_cons_zero, List.set_cons_succ]
        refine take_at 12 (v := undef) rfl (by kernel_rfl) (by kernel_rfl) (by kernel_rfl) (fun _ _ _ h => h) hHeld (Or.inr ⟨by rfl, rfl⟩) ?_
        simp only [Act.put, List.setIfInBounds_toArray, List.set_cons_zero, List.set_cons_succ]
        refine take_at 13 (v := undef) rfl (by kernel_rfl) (by kernel_rfl) (by kernel_rfl) (fun _ _ _ h => h) hHeld (Or.inr ⟨by rfl, rfl⟩) ?_
        simp only [Act.put, List.setIfInBounds_toArray, List.set_cons_zero, List.set_cons_succ]
        refine take_at 14 (v := undef) rfl (by kernel_rfl) (by kernel_rfl) (by kernel_rfl) (fun _ _ _ h => h) hHeld (Or.inr ⟨by rfl, rfl⟩) ?_
        simp only [Act.put, List.setIfInBounds_toArray, List.set_cons_zero, List.set_cons_succ]
        refine take_at 15 (v := undef) rfl (by kernel_rfl) (by kernel_rfl) (by kernel_rfl) (fun _ _ _ h => h) hHeld (Or.inr ⟨by rfl, rfl⟩) ?_
        simp only [Act.put, List.setIfInBounds_toArray, List.set_cons_zero, List.set_cons_succ]
        refine take_at 16 (v := undef) rfl (by kernel_rfl) (by kernel_rfl) (by kernel_rfl) (fun _ _ _ h => h) hHeld (Or.inr ⟨by rfl, rfl⟩) ?_
        simp only [Act.put, List.setIfInBounds_toArray, List.set_cons_zero, List.set_cons_succ]
        refine take_at 17 (v := undef) rfl (by kernel_rfl) (by kernel_rfl) (by kernel_rfl) (fun _ _ _ h => h) hHeld (Or.inr ⟨by rfl, rfl⟩) ?_
        simp only [Act.put, List.setIfInBounds_toArray, List.set_cons_zero, List.set_cons_succ]
        refine take_at 18 (v := undef) rfl (by kernel_rfl) (by kernel_rfl) (by kernel_rfl) (fun _ _ _ h => h) hHeld (Or.inr ⟨by rfl, rfl⟩) ?_
        simp only [Act.put, List.setIfInBounds_toArray, List.set_cons_zero, List.set_cons_succ]
        refine take_at 19 (v := undef) rfl (by kernel_rfl) (by kernel_rfl) (by kernel_rfl) (fun _ _ _ h => h) hHeld (Or.inr ⟨by rfl, rfl⟩) ?_
        simp only [Act.put, List.setIfInBounds_toArray, List.set_cons_zero, List.set_cons_succ]
        refine take_at 20 (v := undef) rfl (by kernel_rfl) (by kernel_rfl) (by kernel_rfl) (fun _ _ _ h => h) hHeld (Or.inr ⟨by rfl, rfl⟩) ?_
        simp only [Act.put, List.setIfInBounds_toArray, List.set_cons_zero, List.set_cons_succ]
        refine take_at 21 (v := undef) rfl (by kernel_rfl) (by kernel_rfl) (by kernel_rfl) (fun _ _ _ h => h) hHeld (Or.inr ⟨by rfl, rfl⟩) ?_
        simp only [Act.put, List.setIfInBounds_toArray, List.set_cons_zero, List.set_cons_succ]
        refine take_at 22 (v := undef) rfl (by kernel_rfl) (by kernel_rfl) (by kernel_rfl) (fun _ _ _ h => h) hHeld (Or.inr ⟨by rfl, rfl⟩) ?_
        simp only [Act.put, List.setIfInBounds_toArray, List.set_cons_zero, List.set_cons_succ]
        refine take_at 23 (v := undef) rfl (by kernel_rfl) (by kernel_rfl) (by kernel_rfl) (fun _ _ _ h => h) hHeld (Or.inr ⟨by rfl, rfl⟩) ?_
        simp only [Act.put, List.setIfInBounds_toArray, List.set_cons_zero, List.set_cons_succ]
        refine take_at 24 (v := undef) rfl (by kernel_rfl) (by kernel_rfl) (by kernel_rfl) (fun _ _ _ h => h) hHeld (Or.inr ⟨by rfl, rfl⟩) ?_
        simp only [Act.put, List.setIfInBounds_toArray, List.set_cons_zero, List.set_cons_succ]
        refine take_at 25 (v := undef) rfl (by kernel_rfl) (by kernel_rfl) (by kernel_rfl) (fun _ _ _ h => h) hHeld (Or.inr ⟨by rfl, rfl⟩) ?_
        simp only [Act.put, List.setIfInBounds_toArray, List.set_cons_zero, List.set_cons_succ]
        refine take_at 26 (v := ?_) rfl (by kernel_rfl) (by kernel_rfl) (by kernel_rfl) (fun _ _ _ h => h) hHeld (Or.inl ⟨by rfl, ?_⟩) ?_
        rotate_left
        · (intro w hSw; (try dsimp only at hSw); go_simp; try with_reducible rfl)
        simp only [Act.put, List.setIfInBounds_toArray, List.set_cons_zero, List.set_cons_succ]
        refine wpAnyH_done (by kernel_rfl) ?_ _
        go_wp2_with fail
        go_ret
        exact ⟨ret_bool HV.out.symm, chainB B1.out (chainB HB.out z1)⟩
      | true =>
      have HF2 : Hid (∀ j (h : j < fs.length), j < i + 1 → fdB fs[j] = true) := HF1.out hfd
      rw [hfd] at HQ
      by_cases h0 : i = 0
      · have HG2 : Hid (∀ j (h0 : 0 < j) (h : j < fs.length), j < i + 1 → Op.bytesLess (fs[j - 1]'(by omega)).n.toList fs[j].n.toList = true) := fun j h1 h hj => by omega
        have hd0 : decide (0 < (i : Int)) = false := decide_eq_false (by omega)
        have hd0n : decide (0 < i) = false := decide_eq_false (by omega)
        generalize fs[i].n = fn at *
        generalize fs[i].c = fc at *
        generalize fs[i].s = fss at *
        generalize fs[i].v = fv at *
        generalize fs[i].g = fg at *
        clear HF1 HN1 HF HG hfd hzi h0
        go_upto_region 6 with fail
        refine wp_region_held_drew (S := (fun w' => w'.cell? ⟨w.heap.size, 2, none⟩ = some (.slice (some ⟨b, off, none⟩) fs.length c) ∧ w'.cell? ⟨b, off + i * 5, none⟩ = some (.string fn) ∧ w'.cell? ⟨b, off + i * 5 + 1, none⟩ = some (.string fc) ∧ w'.cell? ⟨b, off + i * 5 + 2, none⟩ = some (.string fss) ∧ w'.cell? ⟨b, off + i * 5 + 3, none⟩ = some (.string fv) ∧ w'.cell? ⟨b, off + i * 5 + 4, none⟩ = some (.bool fg))) (by kernel_rfl) (⟨HXr.out _ BR.out, HC.out _ BR.out⟩) (fun hHeld => ?_)
        refine take_at 0 (v := ?_) rfl (by kernel_rfl) (by kernel_rfl) (by kernel_rfl) (fun _ _ _ h => h) hHeld (Or.inl ⟨by rfl, ?_⟩) ?_
        rotate_left
        · (intro w hSw; (try dsimp only at hSw); go_simp; try with_reducible rfl)
        simp only [Act.put, List.setIfInBounds_toArray, List.set_cons_zero, List.set_cons_succ]
        refine take_at 1 (v := ?_) rfl (by kernel_rfl) (by kernel_rfl) (by kernel_rfl) (fun _ _ _ h => h) hHeld (Or.inl ⟨by rfl, ?_⟩) ?_
        rotate_left
        · (intro w hSw; (try dsimp only at hSw); go_simp; try with_reducible rfl)
        simp only [Act.put, List.setIfInBounds_toArray, List.set_cons_zero, List.set_cons_succ]
        refine take_at 2 (v := ?_) rfl (by kernel_rfl) (by kernel_rfl) (by kernel_rfl) (fun _ _ _ h => h) hHeld (Or.inl ⟨by rfl, ?_⟩) ?_
        rotate_left
        · (intro w hSw; (try dsimp only at hSw); go_simp; try with_reducible rfl)
        simp only [Act.put, List.setIfInBounds_toArray, List.set_cons_zero, List.set_cons_succ]
        refine take_at 3 (v := ?_) rfl (by kernel_rfl) (by kernel_rfl) (by kernel_rfl) (fun _ _ _ h => h) hHeld (Or.inl ⟨by rfl, ?_⟩) ?_
        rotate_left
        · (intro w hSw; (try dsimp only at hSw); go_simp; try with_reducible rfl)
        simp only [Act.put, List.setIfInBounds_toArray, List.set_cons_zero, List.set_cons_succ]
        refine take_at 4 (v := ?_) rfl (by kernel_rfl) (by kernel_rfl) (by kernel_rfl) (fun _ _ _ h => h) hHeld (Or.inl ⟨by rfl, ?_⟩) ?_
        rotate_left
        · (intro w hSw; (try dsimp only at hSw); go_simp; try with_reducible rfl)
        simp only [Act.put, List.setIfInBounds_toArray, List.set_cons_zero, List.set_cons_succ]
        refine ready_at 5 rfl (by kernel_rfl) (fun K hK => ?_)
        go_simp
        (go_at_call 117; with_reducible refine (HQ.out _).mono ?_; rintro e y1 ⟨rfl, z0⟩; have z1 : Below wr.heap.size wr y1 := chainB BR.out z0)
        refine hK.out _ _ (⟨HXr.out _ z1, HC.out _ z1⟩) (fun hHeld => ?_)
        clear hK K
        try simp only [Act.put, List.setIfInBounds_toArray, List.set_cons_zero, List.set_cons_succ]
        refine take_at 6 (v := ?_) rfl (by kernel_rfl) (by kernel_rfl) (by kernel_rfl) (fun _ _ _ h => h) hHeld (Or.inl ⟨by rfl, ?_⟩) ?_
        rotate_left
        · (intro w hSw; (try dsimp only at hSw); go_simp; try with_reducible rfl)
        simp only [Act.put, List.setIfInBounds_toArray, List.set_cons_zero, List.set_cons_succ]
        refine take_at 7 (v := ?_) rfl (by kernel_rfl) (by kernel_rfl) (by kernel_rfl) (fun _ _ _ h => h) hHeld (Or.inl ⟨by rfl, ?_⟩) ?_
        rotate_left
        · (intro w hSw; (try dsimp only at hSw); go_simp; try with_reducible rfl)
        simp only [Act.put, List.setIfInBounds_toArray, List.set_cons_zero, List.set_cons_succ]
        refine take_at 8 (v := ?_) rfl (by kernel_rfl) (by kernel_rfl) (by kernel_rfl) (fun _ _ _ h => h) hHeld (Or.inl ⟨by rfl, ?_⟩) ?_
        rotate_left
        · (intro w hSw; (try dsimp only at hSw); go_simp; try with_reducible rfl)
        simp only [Act.put, List.setIfInBounds_toArray, List.set_cons_zero, List.set_cons_succ]
        refine take_at 9 (v := ?_) rfl (by kernel_rfl) (by kernel_rfl) (by kernel_rfl) (fun _ _ _ h => h) hHeld (Or.inl ⟨by rfl, ?_⟩) ?_
        rotate_left
        · (intro w hSw; (try dsimp only at hSw); go_simp; try with_reducible rfl)
        simp only [Act.put, List.setIfInBounds_toArray, List.set_cons_zero, List.set_cons_succ]
        refine take_at 10 (v := ?_) rfl (by kernel_rfl) (by kernel_rfl) (by kernel_rfl) (fun _ _ _ h => h) hHeld (Or.inl ⟨by rfl, ?_⟩) ?_
        rotate_left
        · (intro w hSw; (try dsimp only at hSw); go_simp; try with_reducible rfl)
        simp only [Act.put, List.setIfInBounds_toArray, List.set_cons_zero, List.set_cons_succ]
        refine take_at 11 (v := undef) rfl (by kernel_rfl) (by kernel_rfl) (by kernel_rfl) (fun _ _ _ h => h) hHeld (Or.inr ⟨by rfl, rfl⟩) ?_
        simp only [Act.put, List.setIfInBounds_toArray, List.set_cons_zero, List.set_cons_succ]
        refine take_at 12 (v := undef) rfl (by kernel_rfl) (by kernel_rfl) (by kernel_rfl) (fun _ _ _ h => h) hHeld (Or.inr ⟨by rfl, rfl⟩) ?_
        simp only [Act.put, List.setIfInBounds_toArray, List.set_cons_zero, List.set_cons_succ]
        refine take_at 13 (v := undef) rfl (by kernel_rfl) (by kernel_rfl) (by kernel_rfl) (fun _ _ _ h => h) hHeld (Or.inr ⟨by rfl, rfl⟩) ?_
        simp only [Act.put, List.setIfInBounds_toArray, List.set_cons_zero, List.set_cons_succ]
        refine take_at 14 (v := undef) rfl (by kernel_rfl) (by kernel_rfl) (by kernel_rfl) (fun _ _ _ h => h) hHeld (Or.inr ⟨by rfl, rfl⟩) ?_
        simp only [Act.put, List.setIfInBounds_toArray, List.set_cons_zero, List.set_cons_succ]
        refine take_at 15 (v := undef) rfl (by kernel_rfl) (by kernel_rfl) (by kernel_rfl) (fun _ _ _ h => h) hHeld (Or.inr ⟨by rfl, rfl⟩) ?_
        simp only [Act.put, List.setIfInBounds_toArray, List.set_cons_zero, List.set_cons_succ]
        refine take_at 16 (v := undef) rfl (by kernel_rfl) (by kernel_rfl) (by kernel_rfl) (fun _ _ _ h => h) hHeld (Or.inr ⟨by rfl, rfl⟩) ?_
        simp only [Act.put, List.setIfInBounds_toArray, List.set_cons_zero, List.set_cons_succ]
        refine take_at 17 (v := undef) rfl (by kernel_rfl) (by kernel_rfl) (by kernel_rfl) (fun _ _ _ h => h) hHeld (Or.inr ⟨by rfl, rfl⟩) ?_
        simp only [Act.put, List.setIfInBounds_toArray, List.set_cons_zero, List.set_cons_succ]
        refine take_at 18 (v := undef) rfl (by kernel_rfl) (by kernel_rfl) (by kernel_rfl) (fun _ _ _ h => h) hHeld (Or.inr ⟨by rfl, rfl⟩) ?_
        simp only [Act.put, List.setIfInBounds_toArray, List.set_cons_zero, List.set_cons_succ]
        refine take_at 19 (v := undef) rfl (by kernel_rfl) (by kernel_rfl) (by kernel_rfl) (fun _ _ _ h => h) hHeld (Or.inr ⟨by rfl, rfl⟩) ?_
        simp only [Act.put, List.setIfInBounds_toArray, List.set_cons_zero, List.set_cons_succ]
        refine take_at 20 (v := undef) rfl (by kernel_rfl) (by kernel_rfl) (by kernel_rfl) (fun _ _ _ h => h) hHeld (Or.inr ⟨by rfl, rfl⟩) ?_
        simp only [Act.put, List.setIfInBounds_toArray, List.set_cons_zero, List.set_cons_succ]
        refine take_at 21 (v := undef) rfl (by kernel_rfl) (by kernel_rfl) (by kernel_rfl) (fun _ _ _ h => h) hHeld (Or.inr ⟨by rfl, rfl⟩) ?_
        simp only [Act.put, List.setIfInBounds_toArray, List.set_cons_zero, List.set_cons_succ]
        refine take_at 22 (v := undef) rfl (by kernel_rfl) (by kernel_rfl) (by kernel_rfl) (fun _ _ _ h => h) hHeld (Or.inr ⟨by rfl, rfl⟩) ?_
        simp only [Act.put, List.setIfInBounds_toArray, List.set_cons_zero, List.set_cons_succ]
        refine take_at 23 (v := undef) rfl (by kernel_rfl) (by kernel_rfl) (by kernel_rfl) (fun _ _ _ h => h) hHeld (Or.inr ⟨by rfl, rfl⟩) ?_
        simp only [Act.put, List.setIfInBounds_toArray, List.set_cons_zero, List.set_cons_succ]
        refine take_at 24 (v := undef) rfl (by kernel_rfl) (by kernel_rfl) (by kernel_rfl) (fun _ _ _ h => h) hHeld (Or.inr ⟨by rfl, rfl⟩) ?_
        simp only [Act.put, List.setIfInBounds_toArray, List.set_cons_zero, List.set_cons_succ]
        refine take_at 25 (v := ?_) rfl (by kernel_rfl) (by kernel_rfl) (by kernel_rfl) (fun _ _ _ h => h) hHeld (Or.inl ⟨by rfl, ?_⟩) ?_
        rotate_left
        · (intro w hSw; (try dsimp only at hSw); go_simp; try with_reducible rfl)
        simp only [Act.put, List.setIfInBounds_toArray, List.set_cons_zero, List.set_cons_succ]
        refine take_at 26 (v := ?_) rfl (by kernel_rfl) (by kernel_rfl) (by kernel_rfl) (fun _ _ _ h => h) hHeld (Or.inl ⟨by rfl, ?_⟩) ?_
        rotate_left
        · (intro w hSw; (try dsimp only at hSw); go_simp; try with_reducible rfl)
        simp only [Act.put, List.setIfInBounds_toArray, List.set_cons_zero, List.set_cons_succ]
        refine wpAnyH_done (by kernel_rfl) ?_ _
        have HB2 : Hid (Below w2.heap.size w2 y1) := chainB HB.out z1
        go_wp2_with fail
        go_roundw
        case rel => exact ⟨i + 1, by omega, by go_num, HB2, HF2, HG2⟩
        case measure => simp [Go.RowKit.intOf]; omega
      · have hd0 : decide (0 < (i : Int)) = true := decide_eq_true (by omega)
        have hd0n : decide (0 < i) = true := decide_eq_true (by omega)
        have him : i - 1 < fs.length := by omega
        have HCm : Hid (∀ x, Below wr.heap.size wr x → x.cell? ⟨b, off + (i - 1) * 5, none⟩ = some (.string fs[i - 1].n)) := fun x hx => (((HT.out.below HB.out).below hx).at (i - 1) him).1
        have hwr : IntKind.i64.wrap ((i : Int) - 1) = ((i - 1 : Nat) : Int) := by rw [IntKind.wrap_i64]; omega
        have im1 : ((i - 1 : Nat) : Int) < fs.length := by omega
        have HG1 : Hid (Op.bytesLess fs[i - 1].n.toList fs[i].n.toList = true → ∀ j (h0 : 0 < j) (h : j < fs.length), j < i + 1 → Op.bytesLess (fs[j - 1]'(by omega)).n.toList fs[j].n.toList = true) := fun h1 j h2 h hj => if he : j = i then by subst he; exact h1 else HG.out j h2 h (by omega)
        have HN2 : Hid (Op.bytesLess fs[i - 1].n.toList fs[i].n.toList = false → rwB k at_ fs = false) := fun h1 => rwB_not_rise (by omega) hlt h1
        generalize fs[i - 1].n = fm at *
        generalize fs[i].n = fn at *
        generalize fs[i].c = fc at *
        generalize fs[i].s = fss at *
        generalize fs[i].v = fv at *
        generalize fs[i].g = fg at *
        obtain ⟨m, hm⟩ : ∃ m, m = i - 1 := ⟨_, rfl⟩
        rw [← hm] at him HCm hwr im1
        clear HF1 HN1 HF HG hfd hzi h0 hm
        cases hls : Op.bytesLess fm.toList fn.toList with
        | true =>
          have HG2 := HG1.out hls
          have HG2 : Hid (∀ j (h0 : 0 < j) (h : j < fs.length), j < i + 1 → Op.bytesLess (fs[j - 1]'(by omega)).n.toList fs[j].n.toList = true) := HG2
          clear HG1 HN2
          go_upto_region 6 with fail
          refine wp_region_held_drew (S := (fun w' => w'.cell? ⟨w.heap.size, 2, none⟩ = some (.slice (some ⟨b, off, none⟩) fs.length c) ∧ w'.cell? ⟨b, off + m * 5, none⟩ = some (.string fm) ∧ w'.cell? ⟨b, off + i * 5, none⟩ = some (.string fn) ∧ w'.cell? ⟨b, off + i * 5 + 1, none⟩ = some (.string fc) ∧ w'.cell? ⟨b, off + i * 5 + 2, none⟩ = some (.string fss) ∧ w'.cell? ⟨b, off + i * 5 + 3, none⟩ = some (.string fv) ∧ w'.cell? ⟨b, off + i * 5 + 4, none⟩ = some (.bool fg))) (by kernel_rfl) (⟨HXr.out _ BR.out, HCm.out _ BR.out, HC.out _ BR.out⟩) (fun hHeld => ?_)
          refine take_at 0 (v := ?_) rfl (by kernel_rfl) (by kernel_rfl) (by kernel_rfl) (fun _ _ _ h => h) hHeld (Or.inl ⟨by rfl, ?_⟩) ?_
          rotate_left
          · (intro w hSw; (try dsimp only at hSw); go_simp; try with_reducible rfl)
          simp only [Act.put, List.setIfInBounds_toArray, List.set_cons_zero, List.set_cons_succ]
          refine take_at 1 (v := ?_) rfl (by kernel_rfl) (by kernel_rfl) (by kernel_rfl) (fun _ _ _ h => h) hHeld (Or.inl ⟨by rfl, ?_⟩) ?_
          rotate_left
          · (intro w hSw; (try dsimp only at hSw); go_simp; try with_reducible rfl)
          simp only [Act.put, List.setIfInBounds_toArray, List.set_cons_zero, List.set_cons_succ]
          refine take_at 2 (v := ?_) rfl (by kernel_rfl) (by kernel_rfl) (by kernel_rfl) (fun _ _ _ h => h) hHeld (Or.inl ⟨by rfl, ?_⟩) ?_
          rotate_left
          · (intro w hSw; (try dsimp only at hSw); go_simp; try with_reducible rfl)
          simp only [Act.put, List.setIfInBounds_toArray, List.set_cons_zero, List.set_cons_succ]
          refine take_at 3 (v := ?_) rfl (by kernel_rfl) (by kernel_rfl) (by kernel_rfl) (fun _ _ _ h => h) hHeld (Or.inl ⟨by rfl, ?_⟩) ?_
          rotate_left
          · (intro w hSw; (try dsimp only at hSw); go_simp; try with_reducible rfl)
          simp only [Act.put, List.setIfInBounds_toArray, List.set_cons_zero, List.set_cons_succ]
          refine take_at 4 (v := ?_) rfl (by kernel_rfl) (by kernel_rfl) (by kernel_rfl) (fun _ _ _ h => h) hHeld (Or.inl ⟨by rfl, ?_⟩) ?_
          rotate_left
          · (intro w hSw; (try dsimp only at hSw); go_simp; try with_reducible rfl)
          simp only [Act.put, List.setIfInBounds_toArray, List.set_cons_zero, List.set_cons_succ]
          refine ready_at 5 rfl (by kernel_rfl) (fun K hK => ?_)
          go_simp
          (go_at_call 117; with_reducible refine (HQ.out _).mono ?_; rintro e y1 ⟨rfl, z0⟩; have z1 : Below wr.heap.size wr y1 := chainB BR.out z0)
          refine hK.out _ _ (⟨HXr.out _ z1, HCm.out _ z1, HC.out _ z1⟩) (fun hHeld => ?_)
          clear hK K
          try simp only [Act.put, List.setIfInBounds_toArray, List.set_cons_zero, List.set_cons_succ]
          refine take_at 6 (v := ?_) rfl (by kernel_rfl) (by kernel_rfl) (by kernel_rfl) (fun _ _ _ h => h) hHeld (Or.inl ⟨by rfl, ?_⟩) ?_
          rotate_left
          · (intro w hSw; (try dsimp only at hSw); go_simp; try with_reducible rfl)
          simp only [Act.put, List.setIfInBounds_toArray, List.set_cons_zero, List.set_cons_succ]
          refine take_at 7 (v := ?_) rfl (by kernel_rfl) (by kernel_rfl) (by kernel_rfl) (fun _ _ _ h => h) hHeld (Or.inl ⟨by rfl, ?_⟩) ?_
          rotate_left
          · (intro w hSw; (try dsimp only at hSw); go_simp; try with_reducible rfl)
          simp only [Act.put, List.setIfInBounds_toArray, List.set_cons_zero, List.set_cons_succ]
          refine take_at 8 (v := ?_) rfl (by kernel_rfl) (by kernel_rfl) (by kernel_rfl) (fun _ _ _ h => h) hHeld (Or.inl ⟨by rfl, ?_⟩) ?_
          rotate_left
          · (intro w hSw; (try dsimp only at hSw); go_simp; try with_reducible rfl)
          simp only [Act.put, List.setIfInBounds_toArray, List.set_cons_zero, List.set_cons_succ]
          refine take_at 9 (v := ?_) rfl (by kernel_rfl) (by kernel_rfl) (by kernel_rfl) (fun _ _ _ h => h) hHeld (Or.inl ⟨by rfl, ?_⟩) ?_
          rotate_left
          · (intro w hSw; (try dsimp only at hSw); go_simp; try with_reducible rfl)
          simp only [Act.put, List.setIfInBounds_toArray, List.set_cons_zero, List.set_cons_succ]
          refine take_at 10 (v := ?_) rfl (by kernel_rfl) (by kernel_rfl) (by kernel_rfl) (fun _ _ _ h => h) hHeld (Or.inl ⟨by rfl, ?_⟩) ?_
          rotate_left
          · (intro w hSw; (try dsimp only at hSw); go_simp; try with_reducible rfl)
          simp only [Act.put, List.setIfInBounds_toArray, List.set_cons_zero, List.set_cons_succ]
          refine take_at 11 (v := ?_) rfl (by kernel_rfl) (by kernel_rfl) (by kernel_rfl) (fun _ _ _ h => h) hHeld (Or.inl ⟨by rfl, ?_⟩) ?_
          rotate_left
          · (intro w hSw; (try dsimp only at hSw); go_simp; try with_reducible rfl)
          simp only [Act.put, List.setIfInBounds_toArray, List.set_cons_zero, List.set_cons_succ]
          refine take_at 12 (v := ?_) rfl (by kernel_rfl) (by kernel_rfl) (by kernel_rfl) (fun _ _ _ h => h) hHeld (Or.inl ⟨by rfl, ?_⟩) ?_
          rotate_left
          · (intro w hSw; (try dsimp only at hSw); go_simp; try with_reducible rfl)
          simp only [Act.put, List.setIfInBounds_toArray, List.set_cons_zero, List.set_cons_succ]
          refine take_at 13 (v := ?_) rfl (by kernel_rfl) (by kernel_rfl) (by kernel_rfl) (fun _ _ _ h => h) hHeld (Or.inl ⟨by rfl, ?_⟩) ?_
          rotate_left
          · (intro w hSw; (try dsimp only at hSw); go_simp; try with_reducible rfl)
          simp only [Act.put, List.setIfInBounds_toArray, List.set_cons_zero, List.set_cons_succ]
          refine take_at 14 (v := ?_) rfl (by kernel_rfl) (by kernel_rfl) (by kernel_rfl) (fun _ _ _ h => h) hHeld (Or.inl ⟨by rfl, ?_⟩) ?_
          rotate_left
          · (intro w hSw; (try dsimp only at hSw); go_simp; try with_reducible rfl)
          simp only [Act.put, List.setIfInBounds_toArray, List.set_cons_zero, List.set_cons_succ]
          refine take_at 15 (v := ?_) rfl (by kernel_rfl) (by kernel_rfl) (by kernel_rfl) (fun _ _ _ h => h) hHeld (Or.inl ⟨by rfl, ?_⟩) ?_
          rotate_left
          · (intro w hSw; (try dsimp only at hSw); go_simp; try with_reducible rfl)
          simp only [Act.put, List.setIfInBounds_toArray, List.set_cons_zero, List.set_cons_succ]
          refine take_at 16 (v := ?_) rfl (by kernel_rfl) (by kernel_rfl) (by kernel_rfl) (fun _ _ _ h => h) hHeld (Or.inl ⟨by rfl, ?_⟩) ?_
          rotate_left
          · (intro w hSw; (try dsimp only at hSw); go_simp; try with_reducible rfl)
          simp only [Act.put, List.setIfInBounds_toArray, List.set_cons_zero, List.set_cons_succ]
          refine take_at 17 (v := ?_) rfl (by kernel_rfl) (by kernel_rfl) (by kernel_rfl) (fun _ _ _ h => h) hHeld (Or.inl ⟨by rfl, ?_⟩) ?_
          rotate_left
          · (intro w hSw; (try dsimp only at hSw); go_simp; try with_reducible rfl)
          simp only [Act.put, List.setIfInBounds_toArray, List.set_cons_zero, List.set_cons_succ]
          refine take_at 18 (v := ?_) rfl (by kernel_rfl) (by kernel_rfl) (by kernel_rfl) (fun _ _ _ h => h) hHeld (Or.inl ⟨by rfl, ?_⟩) ?_
          rotate_left
          · (intro w hSw; (try dsimp only at hSw); go_simp; try with_reducible rfl)
          simp only [Act.put, List.setIfInBounds_toArray, List.set_cons_zero, List.set_cons_succ]
          refine take_at 19 (v := ?_) rfl (by kernel_rfl) (by kernel_rfl) (by kernel_rfl) (fun _ _ _ h => h) hHeld (Or.inl ⟨by rfl, ?_⟩) ?_
          rotate_left
          · (intro w hSw; (try dsimp only at hSw); go_simp; try with_reducible rfl)
          simp only [Act.put, List.setIfInBounds_toArray, List.set_cons_zero, List.set_cons_succ]
          refine take_at 20 (v := ?_) rfl (by kernel_rfl) (by kernel_rfl) (by kernel_rfl) (fun _ _ _ h => h) hHeld (Or.inl ⟨by rfl, ?_⟩) ?_
          rotate_left
          · (intro w hSw; (try dsimp only at hSw); go_simp; try with_reducible rfl)
          simp only [Act.put, List.setIfInBounds_toArray, List.set_cons_zero, List.set_cons_succ]
          refine take_at 21 (v := ?_) rfl (by kernel_rfl) (by kernel_rfl) (by kernel_rfl) (fun _ _ _ h => h) hHeld (Or.inl ⟨by rfl, ?_⟩) ?_
          rotate_left
          · (intro w hSw; (try dsimp only at hSw); go_simp; try with_reducible rfl)
          simp only [Act.put, List.setIfInBounds_toArray, List.set_cons_zero, List.set_cons_succ]
          refine take_at 22 (v := ?_) rfl (by kernel_rfl) (by kernel_rfl) (by kernel_rfl) (fun _ _ _ h => h) hHeld (Or.inl ⟨by rfl, ?_⟩) ?_
          rotate_left
          · (intro w hSw; (try dsimp only at hSw); go_simp; try with_reducible rfl)
          simp only [Act.put, List.setIfInBounds_toArray, List.set_cons_zero, List.set_cons_succ]
          refine take_at 23 (v := ?_) rfl (by kernel_rfl) (by kernel_rfl) (by kernel_rfl) (fun _ _ _ h => h) hHeld (Or.inl ⟨by rfl, ?_⟩) ?_
          rotate_left
          · (intro w hSw; (try dsimp only at hSw); go_simp; try with_reducible rfl)
          simp only [Act.put, List.setIfInBounds_toArray, List.set_cons_zero, List.set_cons_succ]
          refine take_at 24 (v := ?_) rfl (by kernel_rfl) (by kernel_rfl) (by kernel_rfl) (fun _ _ _ h => h) hHeld (Or.inl ⟨by rfl, ?_⟩) ?_
          rotate_left
          · (intro w hSw; (try dsimp only at hSw); go_simp; try with_reducible rfl)
          simp only [Act.put, List.setIfInBounds_toArray, List.set_cons_zero, List.set_cons_succ]
          refine take_at 25 (v := ?_) rfl (by kernel_rfl) (by kernel_rfl) (by kernel_rfl) (fun _ _ _ h => h) hHeld (Or.inl ⟨by rfl, ?_⟩) ?_
          rotate_left
          · (intro w hSw; (try dsimp only at hSw); go_simp; try with_reducible rfl)
          simp only [Act.put, List.setIfInBounds_toArray, List.set_cons_zero, List.set_cons_succ]
          refine take_at 26 (v := ?_) rfl (by kernel_rfl) (by kernel_rfl) (by kernel_rfl) (fun _ _ _ h => h) hHeld (Or.inl ⟨by rfl, ?_⟩) ?_
          rotate_left
          · (intro w hSw; (try dsimp only at hSw); go_simp; try with_reducible rfl)
          simp only [Act.put, List.setIfInBounds_toArray, List.set_cons_zero, List.set_cons_succ]
          refine wpAnyH_done (by kernel_rfl) ?_ _
          have HB2 : Hid (Below w2.heap.size w2 y1) := chainB HB.out z1
          go_wp2_with fail
          go_roundw
          case rel => exact ⟨i + 1, by omega, by go_num, HB2, HF2, HG2⟩
          case measure => simp [Go.RowKit.intOf]; omega
        | false =>
          have HV : Hid (rwB k at_ fs = false) := HN2.out hls
          clear HG1 HN2
          go_upto_region 6 with fail
          refine wp_region_held_drew (S := (fun w' => w'.cell? ⟨w.heap.size, 2, none⟩ = some (.slice (some ⟨b, off, none⟩) fs.length c) ∧ w'.cell? ⟨b, off + m * 5, none⟩ = some (.string fm) ∧ w'.cell? ⟨b, off + i * 5, none⟩ = some (.string fn) ∧ w'.cell? ⟨b, off + i * 5 + 1, none⟩ = some (.string fc) ∧ w'.cell? ⟨b, off + i * 5 + 2, none⟩ = some (.string fss) ∧ w'.cell? ⟨b, off + i * 5 + 3, none⟩ = some (.string fv) ∧ w'.cell? ⟨b, off + i * 5 + 4, none⟩ = some (.bool fg))) (by kernel_rfl) (⟨HXr.out _ BR.out, HCm.out _ BR.out, HC.out _ BR.out⟩) (fun hHeld => ?_)
          refine take_at 0 (v := ?_) rfl (by kernel_rfl) (by kernel_rfl) (by kernel_rfl) (fun _ _ _ h => h) hHeld (Or.inl ⟨by rfl, ?_⟩) ?_
          rotate_left
          · (intro w hSw; (try dsimp only at hSw); go_simp; try with_reducible rfl)
          simp only [Act.put, List.setIfInBounds_toArray, List.set_cons_zero, List.set_cons_succ]
          refine take_at 1 (v := ?_) rfl (by kernel_rfl) (by kernel_rfl) (by kernel_rfl) (fun _ _ _ h => h) hHeld (Or.inl ⟨by rfl, ?_⟩) ?_
          rotate_left
          · (intro w hSw; (try dsimp only at hSw); go_simp; try with_reducible rfl)
          simp only [Act.put, List.setIfInBounds_toArray, List.set_cons_zero, List.set_cons_succ]
          refine take_at 2 (v := ?_) rfl (by kernel_rfl) (by kernel_rfl) (by kernel_rfl) (fun _ _ _ h => h) hHeld (Or.inl ⟨by rfl, ?_⟩) ?_
          rotate_left
          · (intro w hSw; (try dsimp only at hSw); go_simp; try with_reducible rfl)
          simp only [Act.put, List.setIfInBounds_toArray, List.set_cons_zero, List.set_cons_succ]
          refine take_at 3 (v := ?_) rfl (by kernel_rfl) (by kernel_rfl) (by kernel_rfl) (fun _ _ _ h => h) hHeld (Or.inl ⟨by rfl, ?_⟩) ?_
          rotate_left
          · (intro w hSw; (try dsimp only at hSw); go_simp; try with_reducible rfl)
          simp only [Act.put, List.setIfInBounds_toArray, List.set_cons_zero, List.set_cons_succ]
          refine take_at 4 (v := ?_) rfl (by kernel_rfl) (by kernel_rfl) (by kernel_rfl) (fun _ _ _ h => h) hHeld (Or.inl ⟨by rfl, ?_⟩) ?_
          rotate_left
          · (intro w hSw; (try dsimp only at hSw); go_simp; try with_reducible rfl)
          simp only [Act.put, List.setIfInBounds_toArray, List.set_cons_zero, List.set_cons_succ]
          refine ready_at 5 rfl (by kernel_rfl) (fun K hK => ?_)
          go_simp
          (go_at_call 117; with_reducible refine (HQ.out _).mono ?_; rintro e y1 ⟨rfl, z0⟩; have z1 : Below wr.heap.size wr y1 := chainB BR.out z0)
          refine hK.out _ _ (⟨HXr.out _ z1, HCm.out _ z1, HC.out _ z1⟩) (fun hHeld => ?_)
          clear hK K
          try simp only [Act.put, List.setIfInBounds_toArray, List.set_cons_zero, List.set_cons_succ]
          refine take_at 6 (v := ?_) rfl (by kernel_rfl) (by kernel_rfl) (by kernel_rfl) (fun _ _ _ h => h) hHeld (Or.inl ⟨by rfl, ?_⟩) ?_
          rotate_left
          · (intro w hSw; (try dsimp only at hSw); go_simp; try with_reducible rfl)
          simp only [Act.put, List.setIfInBounds_toArray, List.set_cons_zero, List.set_cons_succ]
          refine take_at 7 (v := ?_) rfl (by kernel_rfl) (by kernel_rfl) (by kernel_rfl) (fun _ _ _ h => h) hHeld (Or.inl ⟨by rfl, ?_⟩) ?_
          rotate_left
          · (intro w hSw; (try dsimp only at hSw); go_simp; try with_reducible rfl)
          simp only [Act.put, List.setIfInBounds_toArray, List.set_cons_zero, List.set_cons_succ]
          refine take_at 8 (v := ?_) rfl (by kernel_rfl) (by kernel_rfl) (by kernel_rfl) (fun _ _ _ h => h) hHeld (Or.inl ⟨by rfl, ?_⟩) ?_
          rotate_left
          · (intro w hSw; (try dsimp only at hSw); go_simp; try with_reducible rfl)
          simp only [Act.put, List.setIfInBounds_toArray, List.set_cons_zero, List.set_cons_succ]
          refine take_at 9 (v := ?_) rfl (by kernel_rfl) (by kernel_rfl) (by kernel_rfl) (fun _ _ _ h => h) hHeld (Or.inl ⟨by rfl, ?_⟩) ?_
          rotate_left
          · (intro w hSw; (try dsimp only at hSw); go_simp; try with_reducible rfl)
          simp only [Act.put, List.setIfInBounds_toArray, List.set_cons_zero, List.set_cons_succ]
          refine take_at 10 (v := ?_) rfl (by kernel_rfl) (by kernel_rfl) (by kernel_rfl) (fun _ _ _ h => h) hHeld (Or.inl ⟨by rfl, ?_⟩) ?_
          rotate_left
          · (intro w hSw; (try dsimp only at hSw); go_simp; try with_reducible rfl)
          simp only [Act.put, List.setIfInBounds_toArray, List.set_cons_zero, List.set_cons_succ]
          refine take_at 11 (v := ?_) rfl (by kernel_rfl) (by kernel_rfl) (by kernel_rfl) (fun _ _ _ h => h) hHeld (Or.inl ⟨by rfl, ?_⟩) ?_
          rotate_left
          · (intro w hSw; (try dsimp only at hSw); go_simp; try with_reducible rfl)
          simp only [Act.put, List.setIfInBounds_toArray, List.set_cons_zero, List.set_cons_succ]
          refine take_at 12 (v := ?_) rfl (by kernel_rfl) (by kernel_rfl) (by kernel_rfl) (fun _ _ _ h => h) hHeld (Or.inl ⟨by rfl, ?_⟩) ?_
          rotate_left
          · (intro w hSw; (try dsimp only at hSw); go_simp; try with_reducible rfl)
          simp only [Act.put, List.setIfInBounds_toArray, List.set_cons_zero, List.set_cons_succ]
          refine take_at 13 (v := ?_) rfl (by kernel_rfl) (by kernel_rfl) (by kernel_rfl) (fun _ _ _ h => h) hHeld (Or.inl ⟨by rfl, ?_⟩) ?_
          rotate_left
          · (intro w hSw; (try dsimp only at hSw); go_simp; try with_reducible rfl)
          simp only [Act.put, List.setIfInBounds_toArray, List.set_cons_zero, List.set_cons_succ]
          refine take_at 14 (v := ?_) rfl (by kernel_rfl) (by kernel_rfl) (by kernel_rfl) (fun _ _ _ h => h) hHeld (Or.inl ⟨by rfl, ?_⟩) ?_
          rotate_left
          · (intro w hSw; (try dsimp only at hSw); go_simp; try with_reducible rfl)
          simp only [Act.put, List.setIfInBounds_toArray, List.set_cons_zero, List.set_cons_succ]
          refine take_at 15 (v := ?_) rfl (by kernel_rfl) (by kernel_rfl) (by kernel_rfl) (fun _ _ _ h => h) hHeld (Or.inl ⟨by rfl, ?_⟩) ?_
          rotate_left
          · (intro w hSw; (try dsimp only at hSw); go_simp; try with_reducible rfl)
          simp only [Act.put, List.setIfInBounds_toArray, List.set_cons_zero, List.set_cons_succ]
          refine take_at 16 (v := ?_) rfl (by kernel_rfl) (by kernel_rfl) (by kernel_rfl) (fun _ _ _ h => h) hHeld (Or.inl ⟨by rfl, ?_⟩) ?_
          rotate_left
          · (intro w hSw; (try dsimp only at hSw); go_simp; try with_reducible rfl)
          simp only [Act.put, List.setIfInBounds_toArray, List.set_cons_zero, List.set_cons_succ]
          refine take_at 17 (v := ?_) rfl (by kernel_rfl) (by kernel_rfl) (by kernel_rfl) (fun _ _ _ h => h) hHeld (Or.inl ⟨by rfl, ?_⟩) ?_
          rotate_left
          · (intro w hSw; (try dsimp only at hSw); go_simp; try with_reducible rfl)
          simp only [Act.put, List.setIfInBounds_toArray, List.set_cons_zero, List.set_cons_succ]
          refine take_at 18 (v := ?_) rfl (by kernel_rfl) (by kernel_rfl) (by kernel_rfl) (fun _ _ _ h => h) hHeld (Or.inl ⟨by rfl, ?_⟩) ?_
          rotate_left
          · (intro w hSw; (try dsimp only at hSw); go_simp; try with_reducible rfl)
          simp only [Act.put, List.setIfInBounds_toArray, List.set_cons_zero, List.set_cons_succ]
          refine take_at 19 (v := ?_) rfl (by kernel_rfl) (by kernel_rfl) (by kernel_rfl) (fun _ _ _ h => h) hHeld (Or.inl ⟨by rfl, ?_⟩) ?_
          rotate_left
          · (intro w hSw; (try dsimp only at hSw); go_simp; try with_reducible rfl)
          simp only [Act.put, List.setIfInBounds_toArray, List.set_cons_zero, List.set_cons_succ]
          refine take_at 20 (v := ?_) rfl (by kernel_rfl) (by kernel_rfl) (by kernel_rfl) (fun _ _ _ h => h) hHeld (Or.inl ⟨by rfl, ?_⟩) ?_
          rotate_left
          · (intro w hSw; (try dsimp only at hSw); go_simp; try with_reducible rfl)
          simp only [Act.put, List.setIfInBounds_toArray, List.set_cons_zero, List.set_cons_succ]
          refine take_at 21 (v := ?_) rfl (by kernel_rfl) (by kernel_rfl) (by kernel_rfl) (fun _ _ _ h => h) hHeld (Or.inl ⟨by rfl, ?_⟩) ?_
          rotate_left
          · (intro w hSw; (try dsimp only at hSw); go_simp; try with_reducible rfl)
          simp only [Act.put, List.setIfInBounds_toArray, List.set_cons_zero, List.set_cons_succ]
          refine take_at 22 (v := ?_) rfl (by kernel_rfl) (by kernel_rfl) (by kernel_rfl) (fun _ _ _ h => h) hHeld (Or.inl ⟨by rfl, ?_⟩) ?_
          rotate_left
          · (intro w hSw; (try dsimp only at hSw); go_simp; try with_reducible rfl)
          simp only [Act.put, List.setIfInBounds_toArray, List.set_cons_zero, List.set_cons_succ]
          refine take_at 23 (v := ?_) rfl (by kernel_rfl) (by kernel_rfl) (by kernel_rfl) (fun _ _ _ h => h) hHeld (Or.inl ⟨by rfl, ?_⟩) ?_
          rotate_left
          · (intro w hSw; (try dsimp only at hSw); go_simp; try with_reducible rfl)
          simp only [Act.put, List.setIfInBounds_toArray, List.set_cons_zero, List.set_cons_succ]
          refine take_at 24 (v := ?_) rfl (by kernel_rfl) (by kernel_rfl) (by kernel_rfl) (fun _ _ _ h => h) hHeld (Or.inl ⟨by rfl, ?_⟩) ?_
          rotate_left
          · (intro w hSw; (try dsimp only at hSw); go_simp; try with_reducible rfl)
          simp only [Act.put, List.setIfInBounds_toArray, List.set_cons_zero, List.set_cons_succ]
          refine take_at 25 (v := ?_) rfl (by kernel_rfl) (by kernel_rfl) (by kernel_rfl) (fun _ _ _ h => h) hHeld (Or.inl ⟨by rfl, ?_⟩) ?_
          rotate_left
          · (intro w hSw; (try dsimp only at hSw); go_simp; try with_reducible rfl)
          simp only [Act.put, List.setIfInBounds_toArray, List.set_cons_zero, List.set_cons_succ]
          refine take_at 26 (v := ?_) rfl (by kernel_rfl) (by kernel_rfl) (by kernel_rfl) (fun _ _ _ h => h) hHeld (Or.inl ⟨by rfl, ?_⟩) ?_
          rotate_left
          · (intro w hSw; (try dsimp only at hSw); go_simp; try with_reducible rfl)
          simp only [Act.put, List.setIfInBounds_toArray, List.set_cons_zero, List.set_cons_succ]
          refine wpAnyH_done (by kernel_rfl) ?_ _
          go_wp2_with fail
          go_ret
          exact ⟨ret_bool HV.out.symm, chainB B1.out (chainB HB.out z1)⟩
    · have HV : Hid (rwB k at_ fs = true) := by
        show _ = _
        rw [HR.out, List.all_eq_true.2 (fun f hf => by obtain ⟨j, hj, rfl⟩ := List.getElem_of_mem hf; exact HF.out j hj (by omega)), Bool.true_and]
        exact (rise_iff fs).2 (fun j h0 h => HG.out j h0 h (by omega))
      obtain rfl : i = fs.length := by omega
      clear HF HG
      go_wp2_with fail
      go_ret
      exact ⟨ret_bool HV.out.symm, chainB B1.out HB.out⟩
end Go.Proofs.YtonleickhincgaaGreatDoor
/-
  The place of a field's note and whether a field is gone, as the specification answers.
  Conditions: the cells hold the leaves and rows.
-/
namespace Go.Proofs.YtonleickhincgaaGreatDoor
open Go.RowKit Go.Lib
set_option linter.unusedVariables false
set_option maxRecDepth 20000

theorem tb_next (lv : List ByteArray) (r f : Int) (k : Nat) (h : k < lv.length) : tbFrom r f k (lv.drop k) = if tmHit r f lv[k] = true then (k : Int) else tbFrom r f (k + 1) (lv.drop (k + 1)) := by
  rw [List.drop_eq_getElem_cons h, tbFrom]
theorem tmHit_eq (r f : Int) (t : ByteArray) : tmHit r f t = ((trC t == 0) && (((trO t).r == r) && ((trO t).f == f))) := by
  unfold tmHit
  rw [Bool.eq_iff_iff]
  simp only [Bool.and_eq_true, decide_eq_true_iff, beq_iff_eq]
set_option maxHeartbeats 4000000 in
theorem l09Tomb_any (p : Option Addr) (lv : List ByteArray) (cp : Nat) (r f : Int) (w : World) (hL : TxtAt w p lv) (hl : lv.length ≤ 1048576) (hc : lv.length ≤ cp) (hz : TxtsLe lv) :
    Calls Tryz.prog 64 #[.slice p lv.length cp, .int .i64 r, .int .i64 f] w fun e w' => e = .returned (.int .i64 (tbAt lv r f)) ∧ Below w.heap.size w w' := by
  have HL : Hid (TxtAt w p lv) := hL
  have HZ : Hid (TxtsLe lv) := hz
  clear hL hz
  go_enter Tryz.func64, Tryz.ntmps64
  go_wp2_with fail
  go_loopw [7] (fun i wr => ∃ k : Nat, k ≤ lv.length ∧ i = .int .i64 k ∧ Hid (Below w.heap.size w wr) ∧ Hid (tbAt lv r f = tbFrom r f k (lv.drop k))) (fun i _ => lv.length - (Go.RowKit.intOf i).toNat)
  case atStart => exact ⟨0, Nat.zero_le _, rfl, Below.refl _ _, rfl⟩
  case round =>
    obtain ⟨k, hk, rfl, HB, HV⟩ := hrel
    by_cases hlt : k < lv.length
    · have i1 : (k : Int) < lv.length := by omega
      obtain ⟨b, off, rfl, hb0, c0⟩ := (HL.out.below HB.out) k hlt
      have hR := specTombRead_any lv[k] wr (HZ.out _ (List.getElem_mem hlt))
      have HS : Hid (tbAt lv r f = if tmHit r f lv[k] = true then (k : Int) else tbFrom r f (k + 1) (lv.drop (k + 1))) := HV.out.trans (tb_next lv r f k hlt)
      have HH : Hid (tmHit r f lv[k] = _) := tmHit_eq r f lv[k]
      have HG : Hid (tmHit r f lv[k] = false → tbAt lv r f = tbFrom r f (k + 1) (lv.drop (k + 1))) := fun h => by rw [HS.out, h, if_neg Bool.false_ne_true]
      unfold tmO at hR
      generalize lv[k] = t at *
      generalize trC t = C at *
      generalize (trO t).r = n1 at *
      generalize (trO t).f = n2 at *
      generalize (trO t).y = n3 at *
      generalize (trO t).a = n4 at *
      clear HV hb0
      cases hC : (C == 0) with
      | false =>
        rw [hC, Bool.false_and] at HH
        have HN := HG.out HH.out
        have HN2 : Hid (tbAt lv r f = tbFrom r f (k + 1) (lv.drop (k + 1))) := HN
        clear HS HH HG HN
        go_wp2_with fail
        refine hR.mono ?_
        rintro e y ⟨rfl, by_⟩
        have HBy : Hid (Below w.heap.size w (y.alloc (.cells #[.int .i64 n1, .int .i64 n2, .int .i64 n3, .int .i64 n4, .int .i64 C] 116))) := alB (chainB HB.out by_) _
        go_wp2_with fail
        go_roundw
        case rel => exact ⟨k + 1, by omega, by simp, HBy.out, HN2.out⟩
        case measure => simp [Go.RowKit.intOf]; omega
      | true =>
        rw [hC, Bool.true_and] at HH
        cases h1 : (n1 == r) with
        | false =>
          rw [h1, Bool.false_and] at HH
          have HN := HG.out HH.out
          have HN2 : Hid (tbAt lv r f = tbFrom r f (k + 1) (lv.drop (k + 1))) := HN
          clear HS HH HG HN
          go_wp2_with fail
          refine hR.mono ?_
          rintro e y ⟨rfl, by_⟩
          have HBy : Hid (Below w.heap.size w (y.alloc (.cells #[.int .i64 n1, .int .i64 n2, .int .i64 n3, .int .i64 n4, .int .i64 C] 116))) := alB (chainB HB.out by_) _
          go_wp2_with fail
          go_roundw
          case rel => exact ⟨k + 1, by omega, by simp, HBy.out, HN2.out⟩
          case measure => simp [Go.RowKit.intOf]; omega
        | true =>
          rw [h1, Bool.true_and] at HH
          cases h2 : (n2 == f) with
          | false =>
            rw [h2] at HH
            have HN := HG.out HH.out
            have HN2 : Hid (tbAt lv r f = tbFrom r f (k + 1) (lv.drop (k + 1))) := HN
            clear HS HH HG HN
            go_wp2_with fail
            refine hR.mono ?_
            rintro e y ⟨rfl, by_⟩
            have HBy : Hid (Below w.heap.size w (y.alloc (.cells #[.int .i64 n1, .int .i64 n2, .int .i64 n3, .int .i64 n4, .int .i64 C] 116))) := alB (chainB HB.out by_) _
            go_wp2_with fail
            go_roundw
            case rel => exact ⟨k + 1, by omega, by simp, HBy.out, HN2.out⟩
            case measure => simp [Go.RowKit.intOf]; omega
          | true =>
            rw [h2] at HH
            rw [HH.out, if_pos rfl] at HS
            clear HH HG
            go_wp2_with fail
            refine hR.mono ?_
            rintro e y ⟨rfl, by_⟩
            have HBy : Hid (Below w.heap.size w (y.alloc (.cells #[.int .i64 n1, .int .i64 n2, .int .i64 n3, .int .i64 n4, .int .i64 C] 116))) := alB (chainB HB.out by_) _
            go_wp2_with fail
            go_ret
            exact ⟨by rw [HS.out]; rfl, HBy.out⟩
    · obtain rfl : k = lv.length := by omega
      have HE : Hid (tbAt lv r f = -1) := by show _ = _; rw [HV.out, List.drop_length]; rfl
      clear HV
      go_wp2_with fail
      go_ret
      exact ⟨by rw [HE.out]; rfl, HB.out⟩
set_option maxHeartbeats 4000000 in
theorem l09Gone_any (p : Option Addr) (lv : List ByteArray) (cp : Nat) (q : Option Addr) (rs : List Rw) (cq : Nat) (now : Int) (r f : Int) (w : World) (hR : RwAt w q rs) (hn : rs.length ≤ 1048576) (hcq : rs.length ≤ cq) (hz : ∀ r ∈ rs, r.fs.length ≤ 1048576) :
    Calls Tryz.prog 119 #[.agg #[.slice q rs.length cq, .slice p lv.length cp, .int .i64 now], .int .i64 r, .int .i64 f] w fun e w' => e = .returned (.bool (goneAt rs r f)) ∧ Below w.heap.size w w' := by
  obtain ⟨W1, hW1⟩ : ∃ W1, W1 = w.alloc (.cells #[.slice q rs.length cq, .slice p lv.length cp, .int .i64 now] 41) := ⟨_, rfl⟩
  have HW1 : Hid (W1 = w.alloc (.cells #[.slice q rs.length cq, .slice p lv.length cp, .int .i64 now] 41)) := hW1
  have B1 : Hid (Below w.heap.size w W1) := by rw [hW1]; exact (Below.refl _ _).alloc (Nat.le_refl _) _
  have K1 : Hid (Bxs W1 w.heap.size 41 #[.slice q rs.length cq, .slice p lv.length cp, .int .i64 now]) := by rw [hW1]; exact Bxs.new _ _ _
  have HR : Hid (RwAt W1 q rs) := hR.below B1.out
  have HI1 := l07Is_any r 0 ((rs.length : Int) - 1) W1
  have x0 := K1.out.cell 0
  by_cases h1 : 0 ≤ r ∧ r ≤ (rs.length : Int) - 1
  · rw [decide_eq_true h1] at HI1
    have hrl : r.toNat < rs.length := by omega
    have hre : (r.toNat : Int) = r := Int.toNat_of_nonneg h1.1
    obtain ⟨I, rfl⟩ : ∃ I : Nat, r = (I : Int) := ⟨r.toNat, hre.symm⟩
    rw [Int.toNat_natCast] at hrl
    obtain ⟨b, off, rq, rc, rfl, hb0, c0, c1, c2, c3, c4⟩ := HR.out I hrl
    have hrI : rs.getD I rwZ = rs[I] := by rw [List.getD_eq_getElem?_getD, List.getElem?_eq_getElem hrl, Option.getD_some]
    have hfz := hz _ (List.getElem_mem hrl)
    have HI2 := l07Is_any f 0 ((rs[I].fs.length : Int) - 1) W1
    by_cases h2 : 0 ≤ f ∧ f ≤ (rs[I].fs.length : Int) - 1
    · rw [decide_eq_true h2] at HI2
      have hfl : f.toNat < rs[I].fs.length := by omega
      obtain ⟨F, rfl⟩ : ∃ F : Nat, f = (F : Int) := ⟨f.toNat, (Int.toNat_of_nonneg h2.1).symm⟩
      rw [Int.toNat_natCast] at hfl
      obtain ⟨bf, of, rfl, hbf, f0, f1, f2, f3, f4⟩ := c4 F hfl
      have HV : Hid (goneAt rs (I : Int) (F : Int) = rs[I].fs[F].g) := by
        show _ = _
        unfold goneAt fldOf
        rw [decide_eq_true h1, Int.toNat_natCast, Int.toNat_natCast, hrI, decide_eq_true h2, List.getD_eq_getElem?_getD, List.getElem?_eq_getElem hfl, Option.getD_some]; rfl
      rw [HV.out]
      clear f0 f1 f2 f3 HV
      generalize rs[I].fs[F].g = G at *
      have iI : (I : Int) < rs.length := by omega
      have fI : (F : Int) < rs[I].fs.length := by omega
      clear hfl c4 c0 c1
      generalize rs[I].fs.length = FL at *
      clear hW1 hR HR hz c3 hrI h1 h2 hre hb0 hbf
      rw [HW1.out] at x0 c2 f4 HI1 HI2
      go_enter Tryz.func119, Tryz.ntmps119
      go_wp2_with (first | (go_at_call 45; with_reducible refine HI1.mono ?_; rintro e y ⟨rfl, rfl⟩) | (go_at_call 45; with_reducible refine HI2.mono ?_; rintro e y ⟨rfl, rfl⟩))
      go_ret
      rw [← HW1.out]
      exact ⟨rfl, B1.out⟩
    · rw [decide_eq_false h2] at HI2
      have HV : Hid (goneAt rs (I : Int) f = false) := by
        show _ = _
        unfold goneAt
        rw [Int.toNat_natCast, hrI, decide_eq_false h2, Bool.false_and, Bool.and_false]
      rw [HV.out]
      have iI : (I : Int) < rs.length := by omega
      generalize rs[I].fs.length = FL at *
      clear hW1 hR HR hz HV c0 c1 c3 c4 hrI h1 h2 hre hb0
      rw [HW1.out] at x0 c2 HI1 HI2
      go_enter Tryz.func119, Tryz.ntmps119
      go_wp2_with (first | (go_at_call 45; with_reducible refine HI1.mono ?_; rintro e y ⟨rfl, rfl⟩) | (go_at_call 45; with_reducible refine HI2.mono ?_; rintro e y ⟨rfl, rfl⟩))
      go_ret
      rw [← HW1.out]
      exact ⟨rfl, B1.out⟩
  · rw [decide_eq_false h1] at HI1
    have HV : Hid (goneAt rs r f = false) := by
      show _ = _
      unfold goneAt
      rw [decide_eq_false h1, Bool.false_and]
    rw [HV.out]
    clear hW1 hR HR hz HV h1
    rw [HW1.out] at x0 HI1
    go_enter Tryz.func119, Tryz.ntmps119
    go_wp2_with (first | (go_at_call 45; with_reducible refine HI1.mono ?_; rintro e y ⟨rfl, rfl⟩))
    go_ret
    rw [← HW1.out]
    exact ⟨rfl, B1.out⟩
end Go.Proofs.YtonleickhincgaaGreatDoor
/-
  What the specification's l07Leaf and RowLeaf answer.
  Conditions: the cells of Fields hold the fields.
-/
namespace Go.Proofs.YtonleickhincgaaGreatDoor
open Go.RowKit Go.Lib
set_option linter.unusedVariables false
set_option maxRecDepth 20000

theorem putB_ten7 (n : Int) : (putB n).size ≤ 10 := by unfold putB; rw [strOfNums_size]; exact putI_len 9 _
theorem lfTo_drop (t : ByteArray) (fs : List Fld) (i : Nat) (h : i < fs.length) : lfTo t (fs.drop i) = lfTo (t ++ putTextB fs[i].n ++ putTextB fs[i].c) (fs.drop (i + 1)) := by
  rw [List.drop_eq_getElem_cons h]; rfl
set_option maxHeartbeats 4000000 in
theorem l07Leaf_any (k : ByteArray) (at_ : Int) (q : Option Addr) (c : Nat) (fs : List Fld) (w : World) (hf : FldAt w q fs) (hc : fs.length ≤ c) (hr : rwB k at_ fs = true) :
    Calls Tryz.prog 118 #[.agg #[.string k, .int .i64 at_, .slice q fs.length c]] w fun e w' => e = .returned (.string (one101 ++ digB (lfT k at_ fs))) ∧ Below w.heap.size w w' := by
  obtain ⟨r1, r2, r3, r4, r5⟩ := rwB_parts hr
  obtain ⟨hl1, hl3⟩ := r3
  have hk1 := nrB_le r1
  have HZ : Hid (∀ i (h : i < fs.length), fs[i].n.size ≤ 20 ∧ fs[i].c.size = 32) := fun i h => by
    obtain ⟨g1, g2, -⟩ := fdB_parts (r4 _ (List.getElem_mem h))
    exact ⟨(nrB_le g1).2, g2⟩
  clear r4 r5 hr r1
  obtain ⟨W1, hW1⟩ : ∃ W1, W1 = w.alloc (.cells #[.string k, .int .i64 at_, .slice q fs.length c] 100) := ⟨_, rfl⟩
  have HW1 : Hid (W1 = w.alloc (.cells #[.string k, .int .i64 at_, .slice q fs.length c] 100)) := hW1
  have B1 : Hid (Below w.heap.size w W1) := by rw [hW1]; exact (Below.refl _ _).alloc (Nat.le_refl _) _
  have K1 : Hid (Bxs W1 w.heap.size 100 #[.string k, .int .i64 at_, .slice q fs.length c]) := by rw [hW1]; exact Bxs.new _ _ _
  have HT : Hid (FldAt W1 q fs) := hf.below B1.out
  obtain ⟨b, off, rfl, hb0⟩ := HT.out.some_of (by omega)
  have HX : Hid (∀ x, Below W1.heap.size W1 x → x.cell? ⟨w.heap.size, 0, none⟩ = some (.string k) ∧ x.cell? ⟨w.heap.size, 1, none⟩ = some (.int .i64 at_) ∧ x.cell? ⟨w.heap.size, 2, none⟩ = some (.slice (some ⟨b, off, none⟩) fs.length c)) := fun x hb => ⟨(K1.out.below hb).cell 0, (K1.out.below hb).cell 1, (K1.out.below hb).cell 2⟩
  have BW : Hid (Below W1.heap.size W1 W1) := Below.refl _ _
  obtain ⟨x0, x1, x2⟩ := HX.out W1 BW.out
  have QK : Hid (∀ x, Below W1.heap.size W1 x → Calls Tryz.prog 123 #[.string k] x fun e w' => e = .returned (.string (putTextB k)) ∧ Below W1.heap.size W1 w') := fun x hb => (specPutText_any k x (by unfold maxLen; omega)).mono (by rintro e x1 ⟨rfl, b⟩; exact ⟨rfl, chainB hb b⟩)
  have QA : Hid (∀ x, Below W1.heap.size W1 x → Calls Tryz.prog 122 #[.int .i64 at_] x fun e w' => e = .returned (.string (putB at_)) ∧ Below W1.heap.size W1 w') := fun x hb => (specPutNum_any at_ x (by omega) (by omega)).mono (by rintro e x1 ⟨rfl, b⟩; exact ⟨rfl, chainB hb b⟩)
  have QL : Hid (∀ x, Below W1.heap.size W1 x → Calls Tryz.prog 122 #[.int .i64 (fs.length : Int)] x fun e w' => e = .returned (.string (putB (fs.length : Int))) ∧ Below W1.heap.size W1 w') := fun x hb => (specPutNum_any _ x (by omega) (by omega)).mono (by rintro e x1 ⟨rfl, b⟩; exact ⟨rfl, chainB hb b⟩)
  have QT : Hid (∀ i (h : i < fs.length) x, Below W1.heap.size W1 x → (Calls Tryz.prog 123 #[.string fs[i].n] x fun e w' => e = .returned (.string (putTextB fs[i].n)) ∧ Below W1.heap.size W1 w') ∧ (Calls Tryz.prog 123 #[.string fs[i].c] x fun e w' => e = .returned (.string (putTextB fs[i].c)) ∧ Below W1.heap.size W1 w')) := fun i h x hb => by
    have := HZ.out i h
    exact ⟨(specPutText_any _ x (by unfold maxLen; omega)).mono (by rintro e x1 ⟨rfl, b⟩; exact ⟨rfl, chainB hb b⟩), (specPutText_any _ x (by unfold maxLen; omega)).mono (by rintro e x1 ⟨rfl, b⟩; exact ⟨rfl, chainB hb b⟩)⟩
  have HD : Hid (∀ T : ByteArray, T.size ≤ 10000 → ∀ x, Below W1.heap.size W1 x → Calls Tryz.prog 52 #[.string T] x fun e w' => e = .returned (.string (digB T)) ∧ Below W1.heap.size W1 w') := fun T hT x hb => (specAll_any T x (by omega)).mono (by rintro e x1 ⟨rfl, b⟩; exact ⟨rfl, chainB hb b⟩)
  have HV : Hid (lfTo (putTextB k ++ putB at_ ++ putB (fs.length : Int)) fs = lfT k at_ fs) := rfl
  have t1 := putTextB_le k (by omega)
  have t2 := putB_ten7 at_
  have t3 := putB_ten7 (fs.length : Int)
  have t4 : (putTextB k ++ putB at_).size ≤ 40 := by rw [ByteArray.size_append]; omega
  have u1 : ∀ w, (Op.stringOp .add (putTextB k) (putB at_)).run Tryz.prog w = .ok (.string (putTextB k ++ putB at_)) w := fun w => run_string_add w _ _ (by omega) (by omega)
  have u2 : ∀ w, (Op.stringOp .add (putTextB k ++ putB at_) (putB (fs.length : Int))).run Tryz.prog w = .ok (.string (putTextB k ++ putB at_ ++ putB (fs.length : Int))) w := fun w => run_string_add w _ _ (by omega) (by omega)
  have HS : Hid ((putTextB k ++ putB at_ ++ putB (fs.length : Int)).size ≤ 50) := by show _ ≤ _; rw [ByteArray.size_append]; omega
  have HO : Hid (one101 = (⟨#[101]⟩ : ByteArray)) := rfl
  clear hW1 hf
  generalize putTextB k = A at *
  generalize putB at_ = B at *
  generalize putB (fs.length : Int) = C at *
  generalize lfT k at_ fs = L at *
  rw [HO.out]
  go_enter Tryz.func118, Tryz.ntmps118
  go_wp2_with fail
  rw [← HW1.out]
  first
    | (go_region_held3 (fun w' => w'.cell? ⟨w.heap.size, 0, none⟩ = some (.string k) ∧ w'.cell? ⟨w.heap.size, 1, none⟩ = some (.int .i64 at_) ∧ w'.cell? ⟨w.heap.size, 2, none⟩ = some (.slice (some ⟨b, off, none⟩) fs.length c)) ((refine HX.out _ ?hT; (case hT => (with_reducible repeat (first | assumption | exact BW.out | refine Below.drew ?_ | refine alB ?_ _))))) (first
      | (go_at_call 123; with_reducible refine (QK.out _ ?hB).mono ?_; (case hB => first | exact BW.out | exact BW.out.drew); rintro e v1 ⟨rfl, y1⟩)
      | (go_at_call 122; with_reducible refine (QA.out _ ?hB).mono ?_; (case hB => first | exact y1 | exact y1.drew); rintro e v2 ⟨rfl, y2⟩)
      | (go_at_call 122; with_reducible refine (QL.out _ ?hB).mono ?_; (case hB => first | exact y2 | exact y2.drew); rintro e v3 ⟨rfl, y3⟩)))
    | fail
  clear t1 t2 t3 t4 u1 u2 QK QA QL
  go_wp2_with fail
  go_loopw [4, 3] (fun i t wr => ∃ (k : Nat) (T : ByteArray), k ≤ fs.length ∧ i = .int .i64 k ∧ t = .string T ∧ T.size ≤ 50 + 100 * k ∧ Hid (lfTo T (fs.drop k) = L) ∧ Hid (Below W1.heap.size W1 wr)) (fun i _ _ => fs.length - (Go.RowKit.intOf i).toNat)
  case atStart => exact ⟨0, _, Nat.zero_le _, rfl, rfl, HS.out, HV.out, y3⟩
  case round =>
    obtain ⟨i, T, hi, rfl, rfl, hT, HL, HB⟩ := hrel
    obtain ⟨x0, x1, x2⟩ := HX.out wr HB.out
    by_cases hlt : i < fs.length
    · have i1 : (i : Int) < fs.length := by omega
      have HC : Hid (∀ x, Below W1.heap.size W1 x → x.cell? ⟨b, off + i * 5, none⟩ = some (.string fs[i].n) ∧ x.cell? ⟨b, off + i * 5 + 1, none⟩ = some (.string fs[i].c)) := fun x hx => ⟨((HT.out.below hx).at i hlt).1, ((HT.out.below hx).at i hlt).2.1⟩
      have HXr : Hid (∀ x, Below W1.heap.size W1 x → x.cell? ⟨w.heap.size, 2, none⟩ = some (.slice (some ⟨b, off, none⟩) fs.length c)) := fun x hx => (HX.out x hx).2.2
      have HY : Hid (∀ x, Below W1.heap.size W1 x → x.cell? ⟨w.heap.size, 2, none⟩ = some (.slice (some ⟨b, off, none⟩) fs.length c) ∧ x.cell? ⟨b, off + i * 5, none⟩ = some (.string fs[i].n) ∧ x.cell? ⟨b, off + i * 5 + 1, none⟩ = some (.string fs[i].c)) := fun x hx => ⟨HXr.out x hx, HC.out x hx⟩
      have hq := QT.out i hlt
      have QN : Hid (∀ x, Below W1.heap.size W1 x → Calls Tryz.prog 123 #[.string fs[i].n] x fun e w' => e = .returned (.string (putTextB fs[i].n)) ∧ Below W1.heap.size W1 w') := fun x hx => (hq x hx).1
      have QC : Hid (∀ x, Below W1.heap.size W1 x → Calls Tryz.prog 123 #[.string fs[i].c] x fun e w' => e = .returned (.string (putTextB fs[i].c)) ∧ Below W1.heap.size W1 w') := fun x hx => (hq x hx).2
      have hz := HZ.out i hlt
      have s1 := putTextB_le fs[i].n (by omega)
      have s2 := putTextB_le fs[i].c (by omega)
      have HL2 : Hid (lfTo (T ++ putTextB fs[i].n ++ putTextB fs[i].c) (fs.drop (i + 1)) = L) := by show _ = _; rw [← lfTo_drop T fs i hlt]; exact HL.out
      obtain ⟨c0, c1⟩ := HC.out wr HB.out
      have s3 : (T ++ putTextB fs[i].n).size ≤ 1000 := by rw [ByteArray.size_append]; omega
      have u3 : ∀ w, (Op.stringOp .add T (putTextB fs[i].n)).run Tryz.prog w = .ok (.string (T ++ putTextB fs[i].n)) w := fun w => run_string_add w _ _ (by omega) (by omega)
      have u4 : ∀ w, (Op.stringOp .add (T ++ putTextB fs[i].n) (putTextB fs[i].c)).run Tryz.prog w = .ok (.string (T ++ putTextB fs[i].n ++ putTextB fs[i].c)) w := fun w => run_string_add w _ _ (by omega) (by omega)
      have HS2 : Hid ((T ++ putTextB fs[i].n ++ putTextB fs[i].c).size ≤ 50 + 100 * (i + 1)) := by show _ ≤ _; rw [ByteArray.size_append, ByteArray.size_append]; omega
      generalize putTextB fs[i].n = D at *
      generalize putTextB fs[i].c = E at *
      generalize fs[i].n = fn at *
      generalize fs[i].c = fc at *
      clear hz HL hq s1 s2 s3
      go_upto_region 5 with fail
      first
        | (go_region_held3 (fun w' => w'.cell? ⟨w.heap.size, 2, none⟩ = some (.slice (some ⟨b, off, none⟩) fs.length c) ∧ w'.cell? ⟨b, off + i * 5, none⟩ = some (.string fn) ∧ w'.cell? ⟨b, off + i * 5 + 1, none⟩ = some (.string fc)) ((refine HY.out _ ?hT; (case hT => (with_reducible repeat (first | assumption | exact HB.out | refine Below.drew ?_ | refine alB ?_ _))))) (first
          | (go_at_call 123; with_reducible refine (QN.out _ ?hB).mono ?_; (case hB => first | exact HB.out | exact HB.out.drew); rintro e z1 ⟨rfl, y4⟩)
          | (go_at_call 123; with_reducible refine (QC.out _ ?hB).mono ?_; (case hB => first | exact y4 | exact y4.drew); rintro e z2 ⟨rfl, y5⟩)))
        | fail
      go_wp2_with fail
      go_roundw
      case rel => exact ⟨i + 1, _, by omega, by go_num, rfl, HS2.out, HL2, y5⟩
      case measure => simp [Go.RowKit.intOf]; omega
    · obtain rfl : i = fs.length := by omega
      have HL2 : Hid (T = L) := by
        have h := HL.out
        rw [List.drop_eq_nil_of_le (Nat.le_refl _)] at h
        exact h
      obtain rfl := HL2.out
      have hD := HD.out T (by omega) wr HB.out
      have hds : (digB T).size = 32 := digB_size T
      have hz : ((⟨#[101]⟩ : ByteArray) ++ digB T).size = 33 := by rw [ByteArray.size_append, hds]; rfl
      clear HL
      go_wp2_with fail
      refine hD.mono ?_
      rintro e w5 ⟨rfl, b5⟩
      have b5 := chainB B1.out b5
      go_wp2_with fail
      go_ret
      exact ⟨rfl, b5⟩
set_option maxHeartbeats 1000000 in
theorem specRowLeaf_any (k : ByteArray) (at_ : Int) (q : Option Addr) (c : Nat) (fs : List Fld) (w : World) (hf : FldAt w q fs) (hn : fs.length ≤ 1048576) (hc : fs.length ≤ c) (hk : k.size ≤ maxLen) (hz : FldsLe fs) :
    Calls Tryz.prog 115 #[.agg #[.string k, .int .i64 at_, .slice q fs.length c]] w fun e w' => e = .returned (.string (lfB k at_ fs)) ∧ Below w.heap.size w w' := by
  obtain ⟨W1, hW1⟩ : ∃ W1, W1 = w.alloc (.cells #[.string k, .int .i64 at_, .slice q fs.length c] 100) := ⟨_, rfl⟩
  have HW1 : Hid (W1 = w.alloc (.cells #[.string k, .int .i64 at_, .slice q fs.length c] 100)) := hW1
  have B1 : Hid (Below w.heap.size w W1) := by rw [hW1]; exact (Below.refl _ _).alloc (Nat.le_refl _) _
  have K1 : Hid (Bxs W1 w.heap.size 100 #[.string k, .int .i64 at_, .slice q fs.length c]) := by rw [hW1]; exact Bxs.new _ _ _
  have HX : Hid (∀ x, Below W1.heap.size W1 x → x.cell? ⟨w.heap.size, 0, none⟩ = some (.string k) ∧ x.cell? ⟨w.heap.size, 1, none⟩ = some (.int .i64 at_) ∧ x.cell? ⟨w.heap.size, 2, none⟩ = some (.slice q fs.length c)) := fun x hb => ⟨(K1.out.below hb).cell 0, (K1.out.below hb).cell 1, (K1.out.below hb).cell 2⟩
  obtain ⟨x0, x1, x2⟩ := HX.out W1 (Below.refl _ _)
  have HT : Hid (FldAt W1 q fs) := hf.below B1.out
  have hR := specRowRight_any k at_ q c fs W1 HT.out hn hc hk hz
  have y0 := x0
  have y1 := x1
  have y2 := x2
  rw [hW1] at y0 y1 y2
  cases hr : rwB k at_ fs with
  | false =>
    have HF : Hid (lfB k at_ fs = ByteArray.empty) := if_neg (by rw [hr]; exact Bool.false_ne_true)
    rw [hr] at hR
    rw [HF.out]
    clear hW1
    go_enter Tryz.func115, Tryz.ntmps115
    go_wp2_with fail
    rw [← HW1.out]
    refine hR.mono ?_
    rintro e w1 ⟨rfl, b1⟩
    have b1 := chainB B1.out b1
    go_wp2_with fail
    go_ret
    exact ⟨rfl, b1⟩
  | true =>
    have HF : Hid (lfB k at_ fs = one101 ++ digB (lfT k at_ fs)) := if_pos hr
    have HL : Hid (∀ x, Below W1.heap.size W1 x → Calls Tryz.prog 118 #[.agg #[.string k, .int .i64 at_, .slice q fs.length c]] x fun e w' => e = .returned (.string (one101 ++ digB (lfT k at_ fs))) ∧ Below x.heap.size x w') := fun x hb => l07Leaf_any k at_ q c fs x (HT.out.below hb) hc hr
    rw [hr] at hR
    rw [HF.out]
    clear hW1
    generalize one101 ++ digB (lfT k at_ fs) = V at *
    go_enter Tryz.func115, Tryz.ntmps115
    go_wp2_with fail
    rw [← HW1.out]
    refine hR.mono ?_
    rintro e w1 ⟨rfl, b1⟩
    obtain ⟨z0, z1, z2⟩ := HX.out w1 b1
    go_wp2_with fail
    refine (HL.out w1 b1).mono ?_
    rintro e w2 ⟨rfl, b2⟩
    have b2 := chainB B1.out (chainB b1 b2)
    go_wp2_with fail
    go_ret
    exact ⟨rfl, b2⟩
end Go.Proofs.YtonleickhincgaaGreatDoor
