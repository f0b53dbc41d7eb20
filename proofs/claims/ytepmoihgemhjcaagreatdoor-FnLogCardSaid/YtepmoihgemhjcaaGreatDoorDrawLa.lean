/-
  What DrawLogAdd draws: a log and a row.
  Conditions: the code is at most 2^20 bytes.
-/
import Derived.Test.YtepmoihgemhjcaaGreatDoorRows
import Derived.Test.YtepmoihgemhjcaaGreatDoorBytesDigMath
import Derived.Test.YtepmoihgemhjcaaGreatDoorTreeMathSlABxKSlBOwnS
import Derived.Test.YtepmoihgemhjcaaGreatDoorLtMathLaMathLfMathTakesLStepAppBlNotTakes
import Derived.Test.YtepmoihgemhjcaaGreatDoorTillTwoPhaseKImplCp
import Derived.Test.YtepmoihgemhjcaaGreatDoorFldGSrcDrawsDrawKitAppSSomeDrawTreeScanMath
import Derived.Test.YtepmoihgemhjcaaGreatDoorTimeBPutMathPutNumJoinedPutTextFldMath
import Derived.Test.YtepmoihgemhjcaaGreatDoorGetValGetTxtNumMathFldRdNumFromTmbMathFldRiseLgMath
import Derived.Test.YtepmoihgemhjcaaGreatDoorLgAtKLgAnsLgRtShwKOneKFldBlkRwBlk
import Derived.Test.YtepmoihgemhjcaaGreatDoorRowOpsLgO
import Derived.Test.YtepmoihgemhjcaaGreatDoorDrawLoDrawFldDrawRowDrawLoMSpoilT
import Derived.Test.YtepmoihgemhjcaaGreatDoorDrawLog
import Derived.Test.YtepmoihgemhjcaaGreatDoorDrawLkFgBoxLgaAtDrawRowX
import Derived.Test.YtepmoihgemhjcaaGreatDoorDrawSmDrawTb
import Derived.Handy
import Derived.WalkSpells
import Derived.OwnWalk
import Derived.Deep.RegionWith
import Derived.Deep.RegionHeld3
import Derived.Deep.Cut
import Derived.Deep.CutRange
namespace Go.Proofs.YtepmoihgemhjcaaGreatDoor
open Go.RowKit Go.Lib
set_option linter.unusedVariables false
set_option maxRecDepth 20000

/-- A row of small texts. -/
def RwZ (k : ByteArray) (ta : Int) (fs : List Fld) : Prop := k.size ≤ 100 ∧ (-9223372036854775808 ≤ ta ∧ ta ≤ 9223372036854775807) ∧ fs.length ≤ 4 ∧ ∀ f ∈ fs, FldOk f
theorem rwZ_of {k : ByteArray} {ta : Int} {fs : List Fld} (h : SmOk 4 k ta fs) : RwZ k ta fs := ⟨h.1, h.2.1, h.2.2.1.2, h.2.2.2⟩
theorem rwZ_x {k : ByteArray} {ta : Int} {fs : List Fld} (h : RwX k ta fs) : RwZ k ta fs := by
  rcases h with h | ⟨rfl, rfl, rfl⟩
  · obtain ⟨h1, h2, h3, h4⟩ := h.ok
    exact ⟨h1, h2, by omega, h4⟩
  · exact ⟨by simp, by omega, by simp, fun f hf => by cases hf⟩
theorem rwZ_le {k : ByteArray} {ta : Int} {fs : List Fld} (h : RwZ k ta fs) : k.size ≤ maxLen ∧ FldsLe fs := by
  refine ⟨by have := h.1; unfold maxLen; omega, fun f hf => ?_⟩
  have := h.2.2.2 f hf
  unfold FldOk at this
  unfold maxLen
  exact ⟨by omega, by omega, by omega, by omega⟩
def DrawnLa (w : World) (e : Ending) (w' : World) : Prop := (∃ (q : Option Addr) (cq : Nat) (rs : List Rw) (p' : Option Addr) (cp : Nat) (lv : List ByteArray) (now : Int) (rk : ByteArray) (ra : Int) (rf : List Fld) (rq : Option Addr) (rc : Nat), e = .returned (.tuple #[.agg #[.slice q rs.length cq, .slice p' lv.length cp, .int .i64 now], .agg #[.string rk, .int .i64 ra, .slice rq rf.length rc]]) ∧ LgHi w.heap.size p' lv cp q rs cq w' ∧ LoF rs lv now ∧ FldAt w' rq rf ∧ rf.length ≤ rc ∧ RwZ rk ra rf) ∧ Below w.heap.size w w'
set_option maxHeartbeats 4000000 in
theorem drawLogAdd_any (B : Nat) (a : Option Addr) (len cap : Nat) (w : World) (hlen : len ≤ 1048576) (hB : B ≤ w.heap.size) (hc : CodeAt B a len w) :
    Calls Tryz.prog 6 #[.slice a len cap] w (DrawnLa w) := by
  obtain ⟨W1, hW1⟩ : ∃ W1, W1 = (w.alloc (.cells #[.slice none 0 0, .slice none 0 0, .int .i64 0] 26)).alloc (.cells #[.string ⟨#[]⟩, .int .i64 0, .slice none 0 0] 29) := ⟨_, rfl⟩
  have HW : Hid (W1 = (w.alloc (.cells #[.slice none 0 0, .slice none 0 0, .int .i64 0] 26)).alloc (.cells #[.string ⟨#[]⟩, .int .i64 0, .slice none 0 0] 29)) := hW1
  have b1 : Hid (Below w.heap.size w W1) := by rw [hW1]; exact alB ((Below.refl _ _).alloc (Nat.le_refl _) _) _
  have R1 : Hid (Bxs W1 w.heap.size 26 #[.slice none 0 0, .slice none 0 0, .int .i64 0]) := by rw [hW1]; exact (Bxs.new _ _ _).alloc _
  have R2 : Hid (Bxs W1 (w.heap.size + 1) 29 #[.string ⟨#[]⟩, .int .i64 0, .slice none 0 0]) := by
    rw [hW1]
    have h := Bxs.new (w.alloc (.cells #[.slice none 0 0, .slice none 0 0, .int .i64 0] 26)) 29 #[.string ⟨#[]⟩, .int .i64 0, .slice none 0 0]
    rwa [szA] at h
  have HZ1 : Hid (W1.heap.size = w.heap.size + 1 + 1) := by rw [hW1]; show _ = _; rw [szA, szA]
  have hB1 : B ≤ W1.heap.size := Nat.le_trans hB b1.out.size
  have HC : Hid (CodeAt B a len W1) := hc.below (b1.out.mono hB)
  clear hW1 hc
  go_enter Tryz.func6, Tryz.ntmps6
  go_wp2_with fail
  rw [← HW.out]
  clear HW
  refine (source_any B a len cap W1 hlen hB1 HC.out).mono ?_
  rintro e y1 ⟨rfl, s1, bs1⟩
  obtain ⟨P, hP⟩ : ∃ P, P = W1.heap.size := ⟨_, rfl⟩
  rw [← hP] at s1 ⊢
  have hwP : w.heap.size < P := by rw [hP, HZ1.out]; omega
  have hwP1 : w.heap.size + 1 < P := by rw [hP, HZ1.out]; omega
  clear hP
  have hb1 := chainB b1.out bs1
  have hr1 := R1.out.below bs1
  have hr2 := R2.out.below bs1
  have HRow : Hid (∀ x, y1.grownBy x (some P) → Bxs x (w.heap.size + 1) 29 #[.string ⟨#[]⟩, .int .i64 0, .slice none 0 0]) := fun x hx => hr2.grown hx (fun e => by cases e; omega)
  have HPy : Hid (P < y1.heap.size) := s1.lt
  go_wp2_with fail
  refine (l09Log_drawn B P a len cap y1 s1).mono ?_
  rintro e y2 ⟨⟨q, cq, rs, p', cp, lv, now, rfl, hi, hf⟩, s2, g2⟩
  go_wp2_with fail
  obtain ⟨y3, hy3⟩ : ∃ y3, y3 = y2.alloc (.cells #[.slice q rs.length cq, .slice p' lv.length cp, .int .i64 now] 26) := ⟨_, rfl⟩
  rw [← hy3]
  obtain ⟨X, hX⟩ : ∃ X, X = y2.heap.size := ⟨_, rfl⟩
  rw [← hX]
  have S3 : Hid (LdS w y1 26 #[.slice none 0 0, .slice none 0 0, .int .i64 0] B P a len cap X q cq rs p' cp lv now y3) := by rw [hy3, hX]; exact LdS.new hb1 hr1 s1 hwP s2 g2 hi
  have HF : Hid (LoF rs lv now) := hf
  clear R2 hr2 hy3 hX hb1 hr1 s1 hwP s2 g2 hi hf bs1 b1 R1 HZ1 HC
  refine (one_any B P a len cap 5 _ S3.out.src (by omega)).mono ?_
  rintro e v0 ⟨⟨bb, rfl⟩, ss, gg⟩
  have PS : Hid (LdS w y1 26 #[.slice none 0 0, .slice none 0 0, .int .i64 0] B P a len cap X q cq rs p' cp lv now v0) := S3.out.step ss gg
  clear ss gg S3
  have S4 : Hid (LdS w y1 26 #[.slice none 0 0, .slice none 0 0, .int .i64 0] B P a len cap X q cq rs p' cp lv now v0.drew) := PS.out.below (Below.refl _ _).drew
  have HEnd : Hid (∀ (x : World) (rk : ByteArray) (ra : Int) (rf : List Fld) (rq : Option Addr) (rc : Nat) (u0 u1 u2 u3 u4 u5 : Value), LdS w y1 26 #[.slice none 0 0, .slice none 0 0, .int .i64 0] B P a len cap X q cq rs p' cp lv now x → x.ownsRow y1.heap.size 103 5 (.slice rq rf.length rc) rf.length (fldRow rf) → RwZ rk ra rf → DrawnLa w (.returned (.tuple #[.agg #[.slice q rs.length cq, .slice p' lv.length cp, .int .i64 now], .agg #[.string rk, .int .i64 ra, .slice rq rf.length rc]])) ((((((x.setCell ⟨w.heap.size, 0, none⟩ u0).setCell ⟨w.heap.size, 1, none⟩ u1).setCell ⟨w.heap.size, 2, none⟩ u2).setCell ⟨w.heap.size + 1, 0, none⟩ u3).setCell ⟨w.heap.size + 1, 1, none⟩ u4).setCell ⟨w.heap.size + 1, 2, none⟩ u5)) := fun x rk ra rf rq rc u0 u1 u2 u3 u4 u5 h o hz => by
    have hP1 := h.hp
    have hP2 := h.wp
    have g1 := touch_set (touch_set (set_grw x w.heap.size 0 u0) 1 u1) 2 u2
    have g2 := touch_set (touch_set (set_grw (((x.setCell ⟨w.heap.size, 0, none⟩ u0).setCell ⟨w.heap.size, 1, none⟩ u1).setCell ⟨w.heap.size, 2, none⟩ u2) (w.heap.size + 1) 0 u3) 1 u4) 2 u5
    have hi := (h.hi.grown g1 (fun j hj => by cases hj; exact .inl (by omega))).grown g2 (fun j hj => by cases hj; exact .inl (by omega))
    have o1 := o.kept g1 (.inr (fun e => by have := (o.lt _ e).1; omega))
    have o2 := o1.kept g2 (.inr (fun e => by have := (o1.lt _ e).1; omega))
    obtain ⟨_, _, e, hc, hfa⟩ := ownF_form o2
    cases e
    exact ⟨⟨q, cq, rs, p', cp, lv, now, rk, ra, rf, rq, rc, rfl, hi.hi (by omega), HF.out, hfa, hc, hz⟩, below_set3 (below_set3 h.bel (Nat.le_refl _) _ _ _) (Nat.le_succ _) _ _ _⟩
  have HPw : Hid (w.heap.size + 1 < P) := hwP1
  obtain ⟨c0, c1, c2⟩ := PS.out.cells
  clear PS hwP1 HPy
  cases bb with
  | true =>
    go_upto_region 4 with fail
    clear c0 c1 c2
    refine wp_region_held_drew (S := fun w' => w'.cell? ⟨X, 0, none⟩ = some (.slice q rs.length cq) ∧ w'.cell? ⟨X, 1, none⟩ = some (.slice p' lv.length cp) ∧ w'.cell? ⟨X, 2, none⟩ = some (.int .i64 now)) (by kernel_rfl) (S4.out.cells) (fun hHeld => ?_)
    refine take_at 0 (v := ?_) rfl (by kernel_rfl) (by kernel_rfl) (by kernel_rfl) (fun _ _ _ h => h) hHeld (Or.inl ⟨by rfl, ?_⟩) ?_
    rotate_left
    · (intro w hSw; (try dsimp only at hSw); go_simp; try with_reducible rfl)
    simp only [Act.put, List.setIfInBounds_toArray, List.set_cons_zero, List.set_cons_succ]
    refine take_at 1 (v := ?_) rfl (by kernel_rfl) (by kernel_rfl) (by kernel_rfl) (fun _ _ _ h => h) hHeld (Or.inl ⟨by rfl, ?_⟩) ?_
    rotate_left
    · (intro w hSw; (try dsimp only at hSw); go_simp; try with_reducible rfl)
    simp only [Act.put, List.setIfInBounds_toArray, List.set_cons_zero, List.set_cons_succ]
    refine ready_at 2 rfl (by kernel_rfl) (fun K hK => ?_)
    go_simp
    (go_at_call 56; (with_reducible refine (l07Some_any B P a len cap _ S4.out.src).mono ?_); rintro e z1 ⟨⟨rk, ra, rf, rv, rfl, ro, rr⟩, ss, gg⟩; have T1 := S4.out.step ss gg)
    obtain ⟨rq, rc, rfl, -, -⟩ := ownF_form ro
    replace ro := ownS_mono ro S4.out.gr.size
    have rz := rwZ_of rr
    clear rr ss gg
    refine hK.out _ _ (T1.cells) (fun hHeld => ?_)
    clear hK K
    try simp only [Act.put, List.setIfInBounds_toArray, List.set_cons_zero, List.set_cons_succ]
    obtain ⟨d0, d1, d2, f0, f1, f2⟩ := res3 T1.res
    obtain ⟨e0, e1, e2, g0, g1, g2⟩ := res3 (HRow.out _ T1.gr)
    have HE : Hid _ := fun u0 u1 u2 u3 u4 u5 => HEnd.out z1 rk ra rf rq rc u0 u1 u2 u3 u4 u5 T1 ro rz
    have hne2 : w.heap.size + 1 ≠ X := by have := T1.hX; have := T1.hp; have := HPw.out; omega
    refine ready_at 3 rfl (by kernel_rfl) (fun K hK => ?_)
    go_simp
    refine hK.out _ _ (T1.stay _ _ _) (fun hHeld => ?_)
    clear hK K
    try simp only [Act.put, List.setIfInBounds_toArray, List.set_cons_zero, List.set_cons_succ]
    refine ready_at 4 rfl (by kernel_rfl) (fun K hK => ?_)
    go_simp
    have kb := ((((((T1.box.other w.heap.size 0 T1.ne (.slice q rs.length cq)).other w.heap.size 1 T1.ne (.slice p' lv.length cp)).other w.heap.size 2 T1.ne (.int .i64 now)).other (w.heap.size + 1) 0 hne2 (.string rk)).other (w.heap.size + 1) 1 hne2 (.int .i64 ra)).other (w.heap.size + 1) 2 hne2 (.slice rq rf.length rc))
    refine hK.out _ _ (⟨kb.cell 0, kb.cell 1, kb.cell 2⟩) (fun hHeld => ?_)
    clear hK K kb
    try simp only [Act.put, List.setIfInBounds_toArray, List.set_cons_zero, List.set_cons_succ]
    refine wpAnyH_done (by kernel_rfl) ?_ _
    clear T1 hHeld S4 HEnd HRow ro rz hne2
    go_wp2_with fail
    refine bodyPost_ret (v := .tuple #[.agg #[.slice q rs.length cq, .slice p' lv.length cp, .int .i64 now], .agg #[.string rk, .int .i64 ra, .slice rq rf.length rc]]) (by simp [results, Tryz.results6, go_sem, d0, d1, d2, e0, e1, e2]) rfl ?_
    exact HE.out _ _ _ _ _ _
  | false =>
    go_upto_region 5 with fail
    clear c0 c1 c2
    refine wp_region_held_drew (S := fun w' => w'.cell? ⟨X, 0, none⟩ = some (.slice q rs.length cq) ∧ w'.cell? ⟨X, 1, none⟩ = some (.slice p' lv.length cp) ∧ w'.cell? ⟨X, 2, none⟩ = some (.int .i64 now)) (by kernel_rfl) (S4.out.cells) (fun hHeld => ?_)
    refine take_at 0 (v := ?_) rfl (by kernel_rfl) (by kernel_rfl) (by kernel_rfl) (fun _ _ _ h => h) hHeld (Or.inl ⟨by rfl, ?_⟩) ?_
    rotate_left
    · (intro w hSw; (try dsimp only at hSw); go_simp; try with_reducible rfl)
    simp only [Act.put, List.setIfInBounds_toArray, List.set_cons_zero, List.set_cons_succ]
    refine take_at 1 (v := ?_) rfl (by kernel_rfl) (by kernel_rfl) (by kernel_rfl) (fun _ _ _ h => h) hHeld (Or.inl ⟨by rfl, ?_⟩) ?_
    rotate_left
    · (intro w hSw; (try dsimp only at hSw); go_simp; try with_reducible rfl)
    simp only [Act.put, List.setIfInBounds_toArray, List.set_cons_zero, List.set_cons_succ]
    refine take_at 2 (v := ?_) rfl (by kernel_rfl) (by kernel_rfl) (by kernel_rfl) (fun _ _ _ h => h) hHeld (Or.inl ⟨by rfl, ?_⟩) ?_
    rotate_left
    · (intro w hSw; (try dsimp only at hSw); go_simp; try with_reducible rfl)
    simp only [Act.put, List.setIfInBounds_toArray, List.set_cons_zero, List.set_cons_succ]
    refine take_at 3 (v := ?_) rfl (by kernel_rfl) (by kernel_rfl) (by kernel_rfl) (fun _ _ _ h => h) hHeld (Or.inl ⟨by rfl, ?_⟩) ?_
    rotate_left
    · (intro w hSw; (try dsimp only at hSw); go_simp; try with_reducible rfl)
    simp only [Act.put, List.setIfInBounds_toArray, List.set_cons_zero, List.set_cons_succ]
    refine ready_at 4 rfl (by kernel_rfl) (fun K hK => ?_)
    go_simp
    (go_at_call 57; (with_reducible refine (l07RowX_any B P a len cap now _ S4.out.src).mono ?_); rintro e z1 ⟨⟨rk, ra, rf, rv, rfl, ro, rr⟩, ss, gg⟩; have T1 := S4.out.step ss gg)
    obtain ⟨rq, rc, rfl, -, -⟩ := ownF_form ro
    replace ro := ownS_mono ro S4.out.gr.size
    have rz := rwZ_x rr
    clear rr ss gg
    refine hK.out _ _ (T1.cells) (fun hHeld => ?_)
    clear hK K
    try simp only [Act.put, List.setIfInBounds_toArray, List.set_cons_zero, List.set_cons_succ]
    obtain ⟨d0, d1, d2, f0, f1, f2⟩ := res3 T1.res
    obtain ⟨e0, e1, e2, g0, g1, g2⟩ := res3 (HRow.out _ T1.gr)
    have HE : Hid _ := fun u0 u1 u2 u3 u4 u5 => HEnd.out z1 rk ra rf rq rc u0 u1 u2 u3 u4 u5 T1 ro rz
    have hne2 : w.heap.size + 1 ≠ X := by have := T1.hX; have := T1.hp; have := HPw.out; omega
    refine ready_at 5 rfl (by kernel_rfl) (fun K hK => ?_)
    go_simp
    refine hK.out _ _ (T1.stay _ _ _) (fun hHeld => ?_)
    clear hK K
    try simp only [Act.put, List.setIfInBounds_toArray, List.set_cons_zero, List.set_cons_succ]
    refine ready_at 6 rfl (by kernel_rfl) (fun K hK => ?_)
    go_simp
    have kb := ((((((T1.box.other w.heap.size 0 T1.ne (.slice q rs.length cq)).other w.heap.size 1 T1.ne (.slice p' lv.length cp)).other w.heap.size 2 T1.ne (.int .i64 now)).other (w.heap.size + 1) 0 hne2 (.string rk)).other (w.heap.size + 1) 1 hne2 (.int .i64 ra)).other (w.heap.size + 1) 2 hne2 (.slice rq rf.length rc))
    refine hK.out _ _ (⟨kb.cell 0, kb.cell 1, kb.cell 2⟩) (fun hHeld => ?_)
    clear hK K kb
    try simp only [Act.put, List.setIfInBounds_toArray, List.set_cons_zero, List.set_cons_succ]
    refine wpAnyH_done (by kernel_rfl) ?_ _
    clear T1 hHeld S4 HEnd HRow ro rz hne2
    go_wp2_with fail
    refine bodyPost_ret (v := .tuple #[.agg #[.slice q rs.length cq, .slice p' lv.length cp, .int .i64 now], .agg #[.string rk, .int .i64 ra, .slice rq rf.length rc]]) (by simp [results, Tryz.results6, go_sem, d0, d1, d2, e0, e1, e2]) rfl ?_
    exact HE.out _ _ _ _ _ _
end Go.Proofs.YtepmoihgemhjcaaGreatDoor
