/-
  Parts of one proof, laid as one text: LtS, LfF; what each says stands at its head.
-/
import Derived.Test.YtokkeadbkeehgaaGreatDoorRows
import Derived.Test.YtokkeadbkeehgaaGreatDoorBytesDigMathTreeMathSlASlBBxKOwnSTakesLTillTwo
import Derived.Test.YtokkeadbkeehgaaGreatDoorTimeBPutMathPutNumJoinedPutTextFldMathFldRiseScanMath
import Derived.Test.YtokkeadbkeehgaaGreatDoorGetValGetTxtNumMathFldRdNumFromTmbMathLgMath
import Derived.Test.YtokkeadbkeehgaaGreatDoorLgAtKShwKOneKFldGFldBlkRwBlkIntKLawILawOGLawImBlNotRulMathAppS
import Derived.Test.YtokkeadbkeehgaaGreatDoorLawLqLgAnsLgRtLtMathLawLtLawFXLawLa
import Derived.Test.YtokkeadbkeehgaaGreatDoorLawLkRowOpsLgOLawLo
import Derived.Test.YtokkeadbkeehgaaGreatDoorSpecLr
import Derived.Test.YtokkeadbkeehgaaGreatDoorAll2FldIsFldC
import Derived.Test.YtokkeadbkeehgaaGreatDoorSpecCl
import Derived.Handy
import Derived.WalkSpells
import Derived.OwnWalk
import Derived.Deep.Cut
import Derived.Test.YtokkeadbkeehgaaGreatDoorPolAnsKeepMAfMathLawAfStepAppOwnBTurn2
import Derived.Test.YtokkeadbkeehgaaGreatDoorLawSwLfMathLaMathLfSumPolMathPolIdxRulIdxPolO
import Derived.Deep.RegionHeld3
/-
  What the specification's LogTime answers: 'ltC' and the log, in new memory.
-/
namespace Go.Proofs.YtokkeadbkeehgaaGreatDoor
open Go.RowKit Go.Lib
set_option linter.unusedVariables false
set_option maxRecDepth 20000

theorem rB_len {r : Rw} (h : rB r = true) : 1 ≤ r.fs.length ∧ r.fs.length ≤ 3 := by
  unfold rB rwB at h
  simp only [Bool.and_eq_true, decide_eq_true_iff] at h
  omega
end Go.Proofs.YtokkeadbkeehgaaGreatDoor
/-
  The specification's l09Forget: a field of a log of its own is forgotten.
-/
namespace Go.Proofs.YtokkeadbkeehgaaGreatDoor
open Go.RowKit Go.Lib
set_option linter.unusedVariables false
set_option maxRecDepth 20000

theorem field_row (q1 : Option Addr) (k : ByteArray) (a : Int) (n c : Nat) (x : World) : (Instr.field 130 (.agg #[.string k, .int .i64 a, .slice q1 n c, .int .i64 0]) 0).run Tryz.prog x = .ok (.agg #[.string k, .int .i64 a, .slice q1 n c]) x := by first | rfl | kernel_rfl
set_option maxHeartbeats 8000000 in
theorem l09Forget_any (W : World) (E : Nat) (xs : List (Rw × Value)) (lv : List ByteArray) (now : Int) (g c : Nat) (z2 : Option Addr) (zd : Nat) (w : World) (h : LgC W E xs lv now (.slice (some ⟨g, 0, none⟩) xs.length c) (.slice z2 lv.length zd) w) (I J : Nat) (hI : I < xs.length) (y : Int) (X : Rw) (FS : List Fld) (TX : ByteArray) (hX : xs[I].1 = X) (hl : lv.length + 1 ≤ 1048576)
    (hFg : ∀ x q c, Below W.heap.size W x → FldAt x q X.fs → X.fs.length ≤ c → Calls Tryz.prog 87 #[.agg #[.string X.k, .int .i64 X.a, .slice q X.fs.length c], .int .i64 J] x fun e w' => ∃ q' c', e = .returned (.agg #[.string X.k, .int .i64 X.a, .slice q' FS.length c', .int .i64 0]) ∧ w'.ownsRow x.heap.size 98 5 (.slice q' FS.length c') FS.length (fldRow FS) ∧ Below x.heap.size x w') (hTx : ∀ x, Calls Tryz.prog 88 #[.agg #[.int .i64 I, .int .i64 J, .int .i64 y, .int .i64 now]] x fun e w' => e = .returned (.string TX) ∧ Below x.heap.size x w') :
    Calls Tryz.prog 53 #[.pointer (some ⟨E, 0, none⟩), .int .i64 I, .int .i64 J, .int .i64 y] w fun e w' => e = .returned (.tuple #[]) ∧ ∃ q1 c1 z3 d3, LgC W E (xs.set I (⟨X.k, X.a, FS⟩, .slice q1 FS.length c1)) (lv ++ [TX]) now (.slice (some ⟨g, 0, none⟩) xs.length c) (.slice z3 (lv.length + 1) d3) w' := by
  obtain ⟨q0, c0, hv, hc0⟩ := h.rowv I hI
  rw [hX] at hv hc0
  have HC : Hid (LgC W E xs lv now (.slice (some ⟨g, 0, none⟩) xs.length c) (.slice z2 lv.length zd) w) := h
  have HFg : Hid (∀ x q c, Below W.heap.size W x → FldAt x q X.fs → X.fs.length ≤ c → Calls Tryz.prog 87 #[.agg #[.string X.k, .int .i64 X.a, .slice q X.fs.length c], .int .i64 J] x fun e w' => ∃ q' c', e = .returned (.agg #[.string X.k, .int .i64 X.a, .slice q' FS.length c', .int .i64 0]) ∧ w'.ownsRow x.heap.size 98 5 (.slice q' FS.length c') FS.length (fldRow FS) ∧ Below x.heap.size x w') := hFg
  have HTx : Hid (∀ x, Calls Tryz.prog 88 #[.agg #[.int .i64 I, .int .i64 J, .int .i64 y, .int .i64 now]] x fun e w' => e = .returned (.string TX) ∧ Below x.heap.size x w') := hTx
  have Hlv : Hid (lv.length + 1 ≤ 1048576) := hl
  clear h hFg hTx hl
  have i1 : (I : Int) < xs.length := by omega
  go_enter Tryz.func53, Tryz.ntmps53
  go_upto_region 0 with fail
  have HCd := HC.out.below (Below.refl _ _).drew
  have hFg := HFg.out w.drew q0 c0 HCd.bel (HCd.row I hI hX hv).2.2.2.2 hc0
  refine region_till (fun w' => w'.cell? ⟨E, 0, none⟩ = some (.slice (some ⟨g, 0, none⟩) xs.length c) ∧ w'.cell? ⟨g, I * 3, none⟩ = some (.string X.k) ∧ w'.cell? ⟨g, I * 3 + 1, none⟩ = some (.int .i64 X.a) ∧ w'.cell? ⟨g, I * 3 + 2, none⟩ = some (.slice q0 X.fs.length c0)) 16 (by kernel_rfl) ⟨HCd.cells.1, (HCd.row I hI hX hv).1⟩ (fun hHeld => ?_)
  generalize w.drew = y0 at *
  refine till_take 0 (v := ?_) rfl (by kernel_rfl) (by kernel_rfl) (by kernel_rfl) (by kernel_rfl) (fun _ _ _ h => h) hHeld (Or.inl ⟨by rfl, ?_⟩) ?_
  rotate_left
  · (intro w hSw; (try dsimp only at hSw); go_simp; try with_reducible rfl)
  simp only [Act.put, List.setIfInBounds_toArray, List.set_cons_zero, List.set_cons_succ]
  refine till_take 1 (v := ?_) rfl (by kernel_rfl) (by kernel_rfl) (by kernel_rfl) (by kernel_rfl) (fun _ _ _ h => h) hHeld (Or.inl ⟨by rfl, ?_⟩) ?_
  rotate_left
  · (intro w hSw; (try dsimp only at hSw); go_simp; try with_reducible rfl)
  simp only [Act.put, List.setIfInBounds_toArray, List.set_cons_zero, List.set_cons_succ]
  refine till_take 2 (v := ?_) rfl (by kernel_rfl) (by kernel_rfl) (by kernel_rfl) (by kernel_rfl) (fun _ _ _ h => h) hHeld (Or.inl ⟨by rfl, ?_⟩) ?_
  rotate_left
  · (intro w hSw; (try dsimp only at hSw); go_simp; try with_reducible rfl)
  simp only [Act.put, List.setIfInBounds_toArray, List.set_cons_zero, List.set_cons_succ]
  refine till_take 3 (v := ?_) rfl (by kernel_rfl) (by kernel_rfl) (by kernel_rfl) (by kernel_rfl) (fun _ _ _ h => h) hHeld (Or.inl ⟨by rfl, ?_⟩) ?_
  rotate_left
  · (intro w hSw; (try dsimp only at hSw); go_simp; try with_reducible rfl)
  simp only [Act.put, List.setIfInBounds_toArray, List.set_cons_zero, List.set_cons_succ]
  refine till_take 4 (v := ?_) rfl (by kernel_rfl) (by kernel_rfl) (by kernel_rfl) (by kernel_rfl) (fun _ _ _ h => h) hHeld (Or.inl ⟨by rfl, ?_⟩) ?_
  rotate_left
  · (intro w hSw; (try dsimp only at hSw); go_simp; try with_reducible rfl)
  simp only [Act.put, List.setIfInBounds_toArray, List.set_cons_zero, List.set_cons_succ]
  refine till_take 5 (v := ?_) rfl (by kernel_rfl) (by kernel_rfl) (by kernel_rfl) (by kernel_rfl) (fun _ _ _ h => h) hHeld (Or.inl ⟨by rfl, ?_⟩) ?_
  rotate_left
  · (intro w hSw; (try dsimp only at hSw); go_simp; try with_reducible rfl)
  simp only [Act.put, List.setIfInBounds_toArray, List.set_cons_zero, List.set_cons_succ]
  refine till_take 6 (v := ?_) rfl (by kernel_rfl) (by kernel_rfl) (by kernel_rfl) (by kernel_rfl) (fun _ _ _ h => h) hHeld (Or.inl ⟨by rfl, ?_⟩) ?_
  rotate_left
  · (intro w hSw; (try dsimp only at hSw); go_simp; try with_reducible rfl)
  simp only [Act.put, List.setIfInBounds_toArray, List.set_cons_zero, List.set_cons_succ]
  refine till_take 7 (v := ?_) rfl (by kernel_rfl) (by kernel_rfl) (by kernel_rfl) (by kernel_rfl) (fun _ _ _ h => h) hHeld (Or.inl ⟨by rfl, ?_⟩) ?_
  rotate_left
  · (intro w hSw; (try dsimp only at hSw); go_simp; try with_reducible rfl)
  simp only [Act.put, List.setIfInBounds_toArray, List.set_cons_zero, List.set_cons_succ]
  refine till_take 8 (v := ?_) rfl (by kernel_rfl) (by kernel_rfl) (by kernel_rfl) (by kernel_rfl) (fun _ _ _ h => h) hHeld (Or.inl ⟨by rfl, ?_⟩) ?_
  rotate_left
  · (intro w hSw; (try dsimp only at hSw); go_simp; try with_reducible rfl)
  simp only [Act.put, List.setIfInBounds_toArray, List.set_cons_zero, List.set_cons_succ]
  refine till_take 9 (v := ?_) rfl (by kernel_rfl) (by kernel_rfl) (by kernel_rfl) (by kernel_rfl) (fun _ _ _ h => h) hHeld (Or.inl ⟨by rfl, ?_⟩) ?_
  rotate_left
  · (intro w hSw; (try dsimp only at hSw); go_simp; try with_reducible rfl)
  simp only [Act.put, List.setIfInBounds_toArray, List.set_cons_zero, List.set_cons_succ]
  refine till_take 10 (v := ?_) rfl (by kernel_rfl) (by kernel_rfl) (by kernel_rfl) (by kernel_rfl) (fun _ _ _ h => h) hHeld (Or.inl ⟨by rfl, ?_⟩) ?_
  rotate_left
  · (intro w hSw; (try dsimp only at hSw); go_simp; try with_reducible rfl)
  simp only [Act.put, List.setIfInBounds_toArray, List.set_cons_zero, List.set_cons_succ]
  refine till_take 11 (v := ?_) rfl (by kernel_rfl) (by kernel_rfl) (by kernel_rfl) (by kernel_rfl) (fun _ _ _ h => h) hHeld (Or.inl ⟨by rfl, ?_⟩) ?_
  rotate_left
  · (intro w hSw; (try dsimp only at hSw); go_simp; try with_reducible rfl)
  simp only [Act.put, List.setIfInBounds_toArray, List.set_cons_zero, List.set_cons_succ]
  refine till_take 12 (v := ?_) rfl (by kernel_rfl) (by kernel_rfl) (by kernel_rfl) (by kernel_rfl) (fun _ _ _ h => h) hHeld (Or.inl ⟨by rfl, ?_⟩) ?_
  rotate_left
  · (intro w hSw; (try dsimp only at hSw); go_simp; try with_reducible rfl)
  simp only [Act.put, List.setIfInBounds_toArray, List.set_cons_zero, List.set_cons_succ]
  refine till_ready 13 rfl (by kernel_rfl) (fun K hK => ?_)
  go_simp
  (go_at_call 87; refine hFg.mono ?_; rintro e y1 ⟨q1, c1, rfl, own1, zz1⟩)
  have HC1 := HCd.below zz1
  refine hK.out _ _ ⟨HC1.cells.1, (HC1.row I hI hX hv).1⟩ (fun hHeld => ?_)
  clear hK K
  try simp only [Act.put, List.setIfInBounds_toArray, List.set_cons_zero, List.set_cons_succ]
  have fdR := field_row q1 X.k X.a FS.length c1
  refine till_take 14 (v := ?_) rfl (by kernel_rfl) (by kernel_rfl) (by kernel_rfl) (by kernel_rfl) (fun _ _ _ h => h) hHeld (Or.inl ⟨by rfl, ?_⟩) ?_
  rotate_left
  · (intro w hSw; (try dsimp only at hSw); have fdw := fdR w; go_simp; try with_reducible rfl)
  simp only [Act.put, List.setIfInBounds_toArray, List.set_cons_zero, List.set_cons_succ]
  refine till_take 15 (v := ?_) rfl (by kernel_rfl) (by kernel_rfl) (by kernel_rfl) (by kernel_rfl) (fun _ _ _ h => h) hHeld (Or.inl ⟨by rfl, ?_⟩) ?_
  rotate_left
  · (intro w hSw; (try dsimp only at hSw); go_simp; try with_reducible rfl)
  simp only [Act.put, List.setIfInBounds_toArray, List.set_cons_zero, List.set_cons_succ]
  obtain ⟨-, fz0, fz1, fz2, -⟩ := HC1.row I hI hX hv
  obtain ⟨cz, cz0, cz1, cz2⟩ := hHeld
  refine till_last rfl (by kernel_rfl) (by kernel_rfl) (fun K hK => ?_)
  go_simp
  refine hK.out _ _ ?_
  clear hK K cz cz0 cz1 cz2 fz0 fz1 fz2
  have HC6 : Hid (LgC W E (xs.set I (⟨X.k, X.a, FS⟩, .slice q1 FS.length c1)) lv now (.slice (some ⟨g, 0, none⟩) xs.length c) (.slice z2 lv.length zd) (((y1.setCell ⟨g, I * 3, none⟩ (.string X.k)).setCell ⟨g, I * 3 + 1, none⟩ (.int .i64 X.a)).setCell ⟨g, I * 3 + 2, none⟩ (.slice q1 FS.length c1))) := HCd.setRow zz1 I hI ⟨X.k, X.a, FS⟩ q1 c1 own1
  clear own1 zz1 HC1 HCd hFg fdR
  go_upto_region 1 with fail
  generalize ((y1.setCell ⟨g, I * 3, none⟩ (.string X.k)).setCell ⟨g, I * 3 + 1, none⟩ (.int .i64 X.a)).setCell ⟨g, I * 3 + 2, none⟩ (.slice q1 FS.length c1) = y6 at *
  have HCd := HC6.out.below (Below.refl _ _).drew
  have hTx := HTx.out y6.drew
  refine region_till (fun w' => w'.cell? ⟨E, 1, none⟩ = some (.slice z2 lv.length zd) ∧ w'.cell? ⟨E, 2, none⟩ = some (.int .i64 now)) 18 (by kernel_rfl) ⟨HCd.cells.2.1, HCd.cells.2.2.1⟩ (fun hHeld => ?_)
  generalize y6.drew = y7 at *
  refine till_take 0 (v := ?_) rfl (by kernel_rfl) (by kernel_rfl) (by kernel_rfl) (by kernel_rfl) (fun _ _ _ h => h) hHeld (Or.inl ⟨by rfl, ?_⟩) ?_
  rotate_left
  · (intro w hSw; (try dsimp only at hSw); go_simp; try with_reducible rfl)
  simp only [Act.put, List.setIfInBounds_toArray, List.set_cons_zero, List.set_cons_succ]
  refine till_take 1 (v := ?_) rfl (by kernel_rfl) (by kernel_rfl) (by kernel_rfl) (by kernel_rfl) (fun _ _ _ h => h) hHeld (Or.inl ⟨by rfl, ?_⟩) ?_
  rotate_left
  · (intro w hSw; (try dsimp only at hSw); go_simp; try with_reducible rfl)
  simp only [Act.put, List.setIfInBounds_toArray, List.set_cons_zero, List.set_cons_succ]
  refine till_take 2 (v := ?_) rfl (by kernel_rfl) (by kernel_rfl) (by kernel_rfl) (by kernel_rfl) (fun _ _ _ h => h) hHeld (Or.inl ⟨by rfl, ?_⟩) ?_
  rotate_left
  · (intro w hSw; (try dsimp only at hSw); go_simp; try with_reducible rfl)
  simp only [Act.put, List.setIfInBounds_toArray, List.set_cons_zero, List.set_cons_succ]
  refine till_take 3 (v := ?_) rfl (by kernel_rfl) (by kernel_rfl) (by kernel_rfl) (by kernel_rfl) (fun _ _ _ h => h) hHeld (Or.inl ⟨by rfl, ?_⟩) ?_
  rotate_left
  · (intro w hSw; (try dsimp only at hSw); go_simp; try with_reducible rfl)
  simp only [Act.put, List.setIfInBounds_toArray, List.set_cons_zero, List.set_cons_succ]
  refine till_take 4 (v := ?_) rfl (by kernel_rfl) (by kernel_rfl) (by kernel_rfl) (by kernel_rfl) (fun _ _ _ h => h) hHeld (Or.inl ⟨by rfl, ?_⟩) ?_
  rotate_left
  · (intro w hSw; (try dsimp only at hSw); go_simp; try with_reducible rfl)
  simp only [Act.put, List.setIfInBounds_toArray, List.set_cons_zero, List.set_cons_succ]
  refine till_take 5 (v := ?_) rfl (by kernel_rfl) (by kernel_rfl) (by kernel_rfl) (by kernel_rfl) (fun _ _ _ h => h) hHeld (Or.inl ⟨by rfl, ?_⟩) ?_
  rotate_left
  · (intro w hSw; (try dsimp only at hSw); go_simp; try with_reducible rfl)
  simp only [Act.put, List.setIfInBounds_toArray, List.set_cons_zero, List.set_cons_succ]
  refine till_take 6 (v := ?_) rfl (by kernel_rfl) (by kernel_rfl) (by kernel_rfl) (by kernel_rfl) (fun _ _ _ h => h) hHeld (Or.inl ⟨by rfl, ?_⟩) ?_
  rotate_left
  · (intro w hSw; (try dsimp only at hSw); go_simp; try with_reducible rfl)
  simp only [Act.put, List.setIfInBounds_toArray, List.set_cons_zero, List.set_cons_succ]
  refine till_take 7 (v := ?_) rfl (by kernel_rfl) (by kernel_rfl) (by kernel_rfl) (by kernel_rfl) (fun _ _ _ h => h) hHeld (Or.inl ⟨by rfl, ?_⟩) ?_
  rotate_left
  · (intro w hSw; (try dsimp only at hSw); go_simp; try with_reducible rfl)
  simp only [Act.put, List.setIfInBounds_toArray, List.set_cons_zero, List.set_cons_succ]
  refine till_take 8 (v := ?_) rfl (by kernel_rfl) (by kernel_rfl) (by kernel_rfl) (by kernel_rfl) (fun _ _ _ h => h) hHeld (Or.inl ⟨by rfl, ?_⟩) ?_
  rotate_left
  · (intro w hSw; (try dsimp only at hSw); go_simp; try with_reducible rfl)
  simp only [Act.put, List.setIfInBounds_toArray, List.set_cons_zero, List.set_cons_succ]
  refine till_take 9 (v := ?_) rfl (by kernel_rfl) (by kernel_rfl) (by kernel_rfl) (by kernel_rfl) (fun _ _ _ h => h) hHeld (Or.inl ⟨by rfl, ?_⟩) ?_
  rotate_left
  · (intro w hSw; (try dsimp only at hSw); go_simp; try with_reducible rfl)
  simp only [Act.put, List.setIfInBounds_toArray, List.set_cons_zero, List.set_cons_succ]
  refine till_take 10 (v := ?_) rfl (by kernel_rfl) (by kernel_rfl) (by kernel_rfl) (by kernel_rfl) (fun _ _ _ h => h) hHeld (Or.inl ⟨by rfl, ?_⟩) ?_
  rotate_left
  · (intro w hSw; (try dsimp only at hSw); go_simp; try with_reducible rfl)
  simp only [Act.put, List.setIfInBounds_toArray, List.set_cons_zero, List.set_cons_succ]
  refine till_take 11 (v := ?_) rfl (by kernel_rfl) (by kernel_rfl) (by kernel_rfl) (by kernel_rfl) (fun _ _ _ h => h) hHeld (Or.inl ⟨by rfl, ?_⟩) ?_
  rotate_left
  · (intro w hSw; (try dsimp only at hSw); go_simp; try with_reducible rfl)
  simp only [Act.put, List.setIfInBounds_toArray, List.set_cons_zero, List.set_cons_succ]
  refine till_take 12 (v := ?_) rfl (by kernel_rfl) (by kernel_rfl) (by kernel_rfl) (by kernel_rfl) (fun _ _ _ h => h) hHeld (Or.inl ⟨by rfl, ?_⟩) ?_
  rotate_left
  · (intro w hSw; (try dsimp only at hSw); go_simp; try with_reducible rfl)
  simp only [Act.put, List.setIfInBounds_toArray, List.set_cons_zero, List.set_cons_succ]
  refine till_ready 13 rfl (by kernel_rfl) (fun K hK => ?_)
  go_simp
  (go_at_call 88; refine hTx.mono ?_; rintro e y8 ⟨rfl, zz1⟩)
  have HC1 := HCd.below zz1
  refine hK.out _ _ ⟨HC1.cells.2.1, HC1.cells.2.2.1⟩ (fun hHeld => ?_)
  clear hK K
  try simp only [Act.put, List.setIfInBounds_toArray, List.set_cons_zero, List.set_cons_succ]
  obtain ⟨gq, d3, y9, hrun, HC2, bl2, k20, k21, gr2⟩ := HC1.leaf TX Hlv.out
  have HCa := HC1.below (alB (Below.refl _ _) (.cells #[.string TX] 9))
  refine till_ready 14 rfl (by kernel_rfl) (fun K hK => ?_)
  go_simp
  refine hK.out _ _ ⟨HCa.cells.2.1, HCa.cells.2.2.1⟩ (fun hHeld => ?_)
  clear hK K
  try simp only [Act.put, List.setIfInBounds_toArray, List.set_cons_zero, List.set_cons_succ]
  refine till_ready 15 rfl (by kernel_rfl) (fun K hK => ?_)
  refine step_append_run rfl _ _ 23 rfl (.slice z2 lv.length zd) (.slice (some ⟨y8.heap.size, 0, none⟩) 1 1) _ _ rfl rfl hrun ?_
  have kE2 := (HCa.box.grown gr2 (fun e => own_box HCa.lg.lvs HCa.box (by decide) e.symm)).cell 2
  refine hK.out _ _ ⟨k20, kE2⟩ (fun hHeld => ?_)
  clear hK K
  try simp only [Act.put, List.setIfInBounds_toArray, List.set_cons_zero, List.set_cons_succ]
  refine till_ready 16 rfl (by kernel_rfl) (fun K hK => ?_)
  go_simp
  refine hK.out _ _ ⟨k20, kE2⟩ (fun hHeld => ?_)
  clear hK K
  try simp only [Act.put, List.setIfInBounds_toArray, List.set_cons_zero, List.set_cons_succ]
  refine till_take 17 (v := ?_) rfl (by kernel_rfl) (by kernel_rfl) (by kernel_rfl) (by kernel_rfl) (fun _ _ _ h => h) hHeld (Or.inl ⟨by rfl, ?_⟩) ?_
  rotate_left
  · (intro w hSw; (try dsimp only at hSw); go_simp; try with_reducible rfl)
  simp only [Act.put, List.setIfInBounds_toArray, List.set_cons_zero, List.set_cons_succ]
  refine till_last rfl (by kernel_rfl) (by kernel_rfl) (fun K hK => ?_)
  go_simp
  refine hK.out _ _ ?_
  clear hK K hHeld
  have HC8 : Hid (LgC W E (xs.set I (⟨X.k, X.a, FS⟩, .slice q1 FS.length c1)) (lv ++ [TX]) now (.slice (some ⟨g, 0, none⟩) xs.length c) (.slice (some ⟨gq, 0, none⟩) (lv.length + 1) d3) (y9.setCell ⟨E, 1, none⟩ (.slice (some ⟨gq, 0, none⟩) (lv.length + 1) d3))) := HC2
  clear HC2 hrun k20 k21 bl2 zz1 HC1 HCd HCa gr2 HC6
  go_wp2_with fail
  go_end0
  exact ⟨rfl, q1, c1, _, d3, HC8.out⟩
end Go.Proofs.YtokkeadbkeehgaaGreatDoor
