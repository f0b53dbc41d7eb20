/-
  What the program asks of a log at work: whether a leaf is the next row's, whether it notes a field of a row ahead, whether the rows are right, what of them is gone.
  Conditions: the cells of Rows and Leaves hold the rows and leaves; the two tables of the digest lie as laid.
-/
import Derived.Test.YtepmoihgemhjcaaGreatDoorRows
import Derived.Test.YtepmoihgemhjcaaGreatDoorBytesDigMath
import Derived.Test.YtepmoihgemhjcaaGreatDoorTreeMathSlABxKSlBOwnS
import Derived.Test.YtepmoihgemhjcaaGreatDoorLtMathLaMathLfMathTakesLStepAppBlNotTakes
import Derived.Test.YtepmoihgemhjcaaGreatDoorOwnBPadIDigIDigAllTimeIImplFC
import Derived.Test.YtepmoihgemhjcaaGreatDoorTimeBPutMathPutNumJoinedPutTextFldMath
import Derived.Test.YtepmoihgemhjcaaGreatDoorGetValGetTxtNumMathFldRdNumFromTmbMathFldRiseLgMath
import Derived.Test.YtepmoihgemhjcaaGreatDoorSpecGNSpecGTFldNFldIsFldTbFldTr
import Derived.Test.YtepmoihgemhjcaaGreatDoorImplFR
import Derived.Test.YtepmoihgemhjcaaGreatDoorImplOnImplFkAsDAs2CodeOf
import Derived.Handy
import Derived.WalkSpells
import Derived.OwnWalk
import Derived.Deep.RegionHeld3
import Derived.Deep.RegionWith
import Derived.Deep.Cut
import Derived.Deep.CutRange
namespace Go.Proofs.YtepmoihgemhjcaaGreatDoor
open Go.RowKit Go.Lib
set_option linter.unusedVariables false
set_option maxRecDepth 20000

/-- A log at work, and a log, as values. -/
def wkC (p : Option Addr) (lv : List ByteArray) (cp : Nat) (q : Option Addr) (rs : List Rw) (cq : Nat) (now : Int) : Array Value := #[.slice p lv.length cp, .slice q rs.length cq, .int .i64 now]
def lgC (p : Option Addr) (lv : List ByteArray) (cp : Nat) (q : Option Addr) (rs : List Rw) (cq : Nat) (now : Int) : Array Value := #[.slice q rs.length cq, .slice p lv.length cp, .int .i64 now]
theorem Bxs.seven {w : World} {g : Nat} {T : TypeId} {a b c d e f h' : Value} (h : Bxs w g T #[a, b, c, d, e, f, h']) : w.cell? ⟨g, 0, none⟩ = some a ∧ w.cell? ⟨g, 1, none⟩ = some b ∧ w.cell? ⟨g, 2, none⟩ = some c ∧ w.cell? ⟨g, 3, none⟩ = some d ∧ w.cell? ⟨g, 4, none⟩ = some e ∧ w.cell? ⟨g, 5, none⟩ = some f ∧ w.cell? ⟨g, 6, none⟩ = some h' := ⟨h.cell 0, h.cell 1, h.cell 2, h.cell 3, h.cell 4, h.cell 5, h.cell 6⟩
theorem Bxs.three {w : World} {g : Nat} {T : TypeId} {a b c : Value} (h : Bxs w g T #[a, b, c]) : w.cell? ⟨g, 0, none⟩ = some a ∧ w.cell? ⟨g, 1, none⟩ = some b ∧ w.cell? ⟨g, 2, none⟩ = some c := ⟨h.cell 0, h.cell 1, h.cell 2⟩
set_option maxHeartbeats 1000000 in
theorem workOn_any (p : Option Addr) (lv : List ByteArray) (cp : Nat) (q : Option Addr) (rs : List Rw) (cq : Nat) (now : Int) (w : World) : Calls Tryz.prog 65 #[.agg (lgC p lv cp q rs cq now)] w fun e w' => e = .returned (.agg (wkC p lv cp q rs cq now)) ∧ Below w.heap.size w w' := by
  unfold lgC wkC
  go_enter Tryz.func65, Tryz.ntmps65
  go_wp2_with fail
  refine bodyPost_ret (v := .agg #[.slice p lv.length cp, .slice q rs.length cq, .int .i64 now]) (by simp [results, Tryz.results65, go_sem]) rfl ?_
  exact ⟨rfl, ((Below.refl _ _).alloc (Nat.le_refl _) _).alloc (by simp) _⟩
/-- Two boxes: the log at work and the leaf. -/
structure Bx2 (w : World) (cs ls : Array Value) (W : World) : Prop where
  bel : Below w.heap.size w W
  wk : Bxs W w.heap.size 85 cs
  lf : Bxs W (w.heap.size + 1) 157 ls
theorem bx2_new (w : World) (cs ls : Array Value) : Bx2 w cs ls ((w.alloc (.cells cs 85)).alloc (.cells ls 157)) :=
  ⟨((Below.refl _ _).alloc (Nat.le_refl _) _).alloc (by simp) _, (Bxs.new _ _ _).alloc _, by have := Bxs.new (w.alloc (.cells cs 85)) 157 ls; rwa [szA] at this⟩
theorem Bx2.to {w : World} {cs ls : Array Value} {W x : World} (h : Bx2 w cs ls W) (hb : Below W.heap.size W x) : Bx2 w cs ls x := ⟨chainB h.bel hb, h.wk.below hb, h.lf.below hb⟩
theorem nx_want {rs : List Rw} {A : Nat} {t : ByteArray} (hA : A < rs.length) (hr : rB (rs.getD A rwZ) = true) : isNx rs A t = (t.toList == (lfB (rs.getD A rwZ).k (rs.getD A rwZ).a (rs.getD A rwZ).fs).toList) := by
  rw [rl_lf hr, ba_beq]
  unfold isNx
  rw [decide_eq_true hA, Bool.true_and]
set_option maxHeartbeats 4000000 in
theorem isNextRow_any (p : Option Addr) (lv : List ByteArray) (cp : Nat) (q : Option Addr) (rs : List Rw) (cq : Nat) (now : Int) (t : ByteArray) (n1 n2 n3 n4 : Int) (A : Nat) (w : World) (hT : Tabs w) (hR : RwAt w q rs) (hcq : rs.length ≤ cq) (hr : ∀ r ∈ rs, rB r = true) (hz : RwsLe rs) (hn : rs.length ≤ 6) (hA : A ≤ 1048576) :
    Calls Tryz.prog 184 #[.agg (wkC p lv cp q rs cq now), .agg #[.string t, .int .i64 (lkB t), .int .i64 n1, .int .i64 n2, .int .i64 n3, .int .i64 n4, .int .i64 (A : Int)]] w fun e w' => e = .returned (.bool (isNx rs A t)) ∧ Below w.heap.size w w' := by
  obtain ⟨C, hC⟩ : ∃ C, C = lkB t := ⟨_, rfl⟩
  obtain ⟨W2, hW2⟩ : ∃ W2, W2 = (w.alloc (.cells #[.slice p lv.length cp, .slice q rs.length cq, .int .i64 now] 85)).alloc (.cells #[.string t, .int .i64 C, .int .i64 n1, .int .i64 n2, .int .i64 n3, .int .i64 n4, .int .i64 (A : Int)] 157) := ⟨_, rfl⟩
  have HW2 : Hid (W2 = (w.alloc (.cells #[.slice p lv.length cp, .slice q rs.length cq, .int .i64 now] 85)).alloc (.cells #[.string t, .int .i64 C, .int .i64 n1, .int .i64 n2, .int .i64 n3, .int .i64 n4, .int .i64 (A : Int)] 157)) := hW2
  have HK : Hid (Bx2 w #[.slice p lv.length cp, .slice q rs.length cq, .int .i64 now] #[.string t, .int .i64 C, .int .i64 n1, .int .i64 n2, .int .i64 n3, .int .i64 n4, .int .i64 (A : Int)] W2) := by rw [hW2]; exact bx2_new _ _ _
  have BR : Hid (Below W2.heap.size W2 W2.drew) := (Below.refl _ _).drew
  have HX : Hid (∀ x, Below W2.heap.size W2 x → x.cell? ⟨w.heap.size, 1, none⟩ = some (.slice q rs.length cq) ∧ x.cell? ⟨w.heap.size + 1, 0, none⟩ = some (.string t) ∧ x.cell? ⟨w.heap.size + 1, 1, none⟩ = some (.int .i64 C) ∧ x.cell? ⟨w.heap.size + 1, 6, none⟩ = some (.int .i64 (A : Int))) := fun x hb => ⟨(HK.out.to hb).wk.cell 1, (HK.out.to hb).lf.cell 0, (HK.out.to hb).lf.cell 1, (HK.out.to hb).lf.cell 6⟩
  unfold wkC
  rw [← hC]
  clear hW2
  cases hq1 : (C == 1) with
  | true =>
    by_cases hA2 : A < rs.length
    · have hrA : rs.getD A rwZ = rs[A] := by rw [List.getD_eq_getElem?_getD, List.getElem?_eq_getElem hA2, Option.getD_some]
      have HV : Hid (isNx rs A t = (t.toList == (lfB rs[A].k rs[A].a rs[A].fs).toList)) := by
        have := nx_want (t := t) hA2 (by rw [hrA]; exact hr _ (List.getElem_mem hA2))
        rwa [hrA] at this
      rw [HV.out]
      obtain ⟨b, off, rq, rc, rfl, hb0, c0, c1, c2, c3, c4⟩ := hR A hA2
      have hzz := hz _ (List.getElem_mem hA2)
      have HT2 : Hid (Tabs W2.drew) := (hT.to HK.out.bel).to BR.out
      have hLf := implRowLeaf_any rs[A].k rs[A].a rq rc rs[A].fs W2.drew HT2.out ((c4.below HK.out.bel).below BR.out) hzz.1 c3 hzz.2.1 hzz.2.2
      have HY : Hid (∀ x, Below W2.heap.size W2 x → x.cell? ⟨b, off + A * 3, none⟩ = some (.string rs[A].k) ∧ x.cell? ⟨b, off + A * 3 + 1, none⟩ = some (.int .i64 rs[A].a) ∧ x.cell? ⟨b, off + A * 3 + 2, none⟩ = some (.slice rq rs[A].fs.length rc)) := fun x hb => ⟨((HK.out.to hb).bel.cell (p := ⟨b, off + A * 3, none⟩) hb0).trans c0, ((HK.out.to hb).bel.cell (p := ⟨b, off + A * 3 + 1, none⟩) hb0).trans c1, ((HK.out.to hb).bel.cell (p := ⟨b, off + A * 3 + 2, none⟩) hb0).trans c2⟩
      have HXY : Hid (∀ x, Below W2.heap.size W2 x → (x.cell? ⟨w.heap.size, 1, none⟩ = some (.slice (some ⟨b, off, none⟩) rs.length cq)) ∧ x.cell? ⟨w.heap.size + 1, 0, none⟩ = some (.string t) ∧ x.cell? ⟨w.heap.size + 1, 1, none⟩ = some (.int .i64 C) ∧ x.cell? ⟨w.heap.size + 1, 6, none⟩ = some (.int .i64 (A : Int)) ∧ x.cell? ⟨b, off + A * 3, none⟩ = some (.string rs[A].k) ∧ x.cell? ⟨b, off + A * 3 + 1, none⟩ = some (.int .i64 rs[A].a) ∧ x.cell? ⟨b, off + A * 3 + 2, none⟩ = some (.slice rq rs[A].fs.length rc)) := fun x hb => ⟨(HX.out x hb).1, (HX.out x hb).2.1, (HX.out x hb).2.2.1, (HX.out x hb).2.2.2, HY.out x hb⟩
      have HE : Hid (∀ x, Below W2.heap.size W2 x → Below w.heap.size w x) := fun x hb => chainB HK.out.bel hb
      clear hR hz hr hT hzz c0 c1 c2 c3 c4 hrA HV HT2 hC HK HY HX
      generalize lfB rs[A].k rs[A].a rs[A].fs = LF at *
      generalize rs[A].k = rk at *
      generalize rs[A].a = ra at *
      generalize rs[A].fs.length = fl at *
      have d1 : decide ((A : Int) < (rs.length : Int)) = true := decide_eq_true (by omega)
      have i1 : (A : Int) < (rs.length : Int) := by omega
      go_enter Tryz.func184, Tryz.ntmps184
      go_upto_region 1 with fail
      rw [← HW2.out]
      refine wp_region_held_drew (S := (fun w' => (w'.cell? ⟨w.heap.size, 1, none⟩ = some (.slice (some ⟨b, off, none⟩) rs.length cq)) ∧ w'.cell? ⟨w.heap.size + 1, 0, none⟩ = some (.string t) ∧ w'.cell? ⟨w.heap.size + 1, 1, none⟩ = some (.int .i64 C) ∧ w'.cell? ⟨w.heap.size + 1, 6, none⟩ = some (.int .i64 (A : Int)) ∧ w'.cell? ⟨b, off + A * 3, none⟩ = some (.string rk) ∧ w'.cell? ⟨b, off + A * 3 + 1, none⟩ = some (.int .i64 ra) ∧ w'.cell? ⟨b, off + A * 3 + 2, none⟩ = some (.slice rq fl rc))) (by kernel_rfl) (HXY.out _ BR.out) (fun hHeld => ?_)
      refine take_at 0 (v := ?_) rfl (by kernel_rfl) (by kernel_rfl) (by kernel_rfl) (fun _ _ _ h => h) hHeld (Or.inl ⟨by rfl, ?_⟩) ?_
      rotate_left
      · (intro w hSw; (try dsimp only at hSw); go_simp; try with_reducible rfl)
      simp only [Act.put, List.setIfInBounds_toArray, List.set_cons_zero, List.set_cons_succ]
      refine take_at 1 (v := ?_) rfl (by kernel_rfl) (by kernel_rfl) (by kernel_rfl) (fun _ _ _ h => h) hHeld (Or.inl ⟨by rfl, ?_⟩) ?_
      rotate_left
      · (intro w hSw; (try dsimp only at hSw); go_simp; try with_reducible rfl)
      simp only [Act.put, List.setIfInBounds_toArray, List.set_cons_zero, List.set_cons_succ]
      refine take_at 2 (v := ?_) rfl (by kernel_rfl) (by kernel_rfl) (by kernel_rfl) (fun _ _ _ h => h) hHeld (Or.inl ⟨by rfl, ?_⟩) ?_
      rotate_left
      · (intro w hSw; (try dsimp only at hSw); go_simp; try with_reducible rfl)
      simp only [Act.put, List.setIfInBounds_toArray, List.set_cons_zero, List.set_cons_succ]
      refine take_at 3 (v := ?_) rfl (by kernel_rfl) (by kernel_rfl) (by kernel_rfl) (fun _ _ _ h => h) hHeld (Or.inl ⟨by rfl, ?_⟩) ?_
      rotate_left
      · (intro w hSw; (try dsimp only at hSw); go_simp; try with_reducible rfl)
      simp only [Act.put, List.setIfInBounds_toArray, List.set_cons_zero, List.set_cons_succ]
      refine take_at 4 (v := ?_) rfl (by kernel_rfl) (by kernel_rfl) (by kernel_rfl) (fun _ _ _ h => h) hHeld (Or.inl ⟨by rfl, ?_⟩) ?_
      rotate_left
      · (intro w hSw; (try dsimp only at hSw); go_simp; try with_reducible rfl)
      simp only [Act.put, List.setIfInBounds_toArray, List.set_cons_zero, List.set_cons_succ]
      refine take_at 5 (v := ?_) rfl (by kernel_rfl) (by kernel_rfl) (by kernel_rfl) (fun _ _ _ h => h) hHeld (Or.inl ⟨by rfl, ?_⟩) ?_
      rotate_left
      · (intro w hSw; (try dsimp only at hSw); go_simp; try with_reducible rfl)
      simp only [Act.put, List.setIfInBounds_toArray, List.set_cons_zero, List.set_cons_succ]
      refine take_at 6 (v := ?_) rfl (by kernel_rfl) (by kernel_rfl) (by kernel_rfl) (fun _ _ _ h => h) hHeld (Or.inl ⟨by rfl, ?_⟩) ?_
      rotate_left
      · (intro w hSw; (try dsimp only at hSw); go_simp; try with_reducible rfl)
      simp only [Act.put, List.setIfInBounds_toArray, List.set_cons_zero, List.set_cons_succ]
      refine take_at 7 (v := ?_) rfl (by kernel_rfl) (by kernel_rfl) (by kernel_rfl) (fun _ _ _ h => h) hHeld (Or.inl ⟨by rfl, ?_⟩) ?_
      rotate_left
      · (intro w hSw; (try dsimp only at hSw); go_simp; try with_reducible rfl)
      simp only [Act.put, List.setIfInBounds_toArray, List.set_cons_zero, List.set_cons_succ]
      refine take_at 8 (v := ?_) rfl (by kernel_rfl) (by kernel_rfl) (by kernel_rfl) (fun _ _ _ h => h) hHeld (Or.inl ⟨by rfl, ?_⟩) ?_
      rotate_left
      · (intro w hSw; (try dsimp only at hSw); go_simp; try with_reducible rfl)
      simp only [Act.put, List.setIfInBounds_toArray, List.set_cons_zero, List.set_cons_succ]
      refine take_at 9 (v := ?_) rfl (by kernel_rfl) (by kernel_rfl) (by kernel_rfl) (fun _ _ _ h => h) hHeld (Or.inl ⟨by rfl, ?_⟩) ?_
      rotate_left
      · (intro w hSw; (try dsimp only at hSw); go_simp; try with_reducible rfl)
      simp only [Act.put, List.setIfInBounds_toArray, List.set_cons_zero, List.set_cons_succ]
      refine take_at 10 (v := ?_) rfl (by kernel_rfl) (by kernel_rfl) (by kernel_rfl) (fun _ _ _ h => h) hHeld (Or.inl ⟨by rfl, ?_⟩) ?_
      rotate_left
      · (intro w hSw; (try dsimp only at hSw); go_simp; try with_reducible rfl)
      simp only [Act.put, List.setIfInBounds_toArray, List.set_cons_zero, List.set_cons_succ]
      refine take_at 11 (v := ?_) rfl (by kernel_rfl) (by kernel_rfl) (by kernel_rfl) (fun _ _ _ h => h) hHeld (Or.inl ⟨by rfl, ?_⟩) ?_
      rotate_left
      · (intro w hSw; (try dsimp only at hSw); go_simp; try with_reducible rfl)
      simp only [Act.put, List.setIfInBounds_toArray, List.set_cons_zero, List.set_cons_succ]
      refine take_at 12 (v := ?_) rfl (by kernel_rfl) (by kernel_rfl) (by kernel_rfl) (fun _ _ _ h => h) hHeld (Or.inl ⟨by rfl, ?_⟩) ?_
      rotate_left
      · (intro w hSw; (try dsimp only at hSw); go_simp; try with_reducible rfl)
      simp only [Act.put, List.setIfInBounds_toArray, List.set_cons_zero, List.set_cons_succ]
      refine take_at 13 (v := ?_) rfl (by kernel_rfl) (by kernel_rfl) (by kernel_rfl) (fun _ _ _ h => h) hHeld (Or.inl ⟨by rfl, ?_⟩) ?_
      rotate_left
      · (intro w hSw; (try dsimp only at hSw); go_simp; try with_reducible rfl)
      simp only [Act.put, List.setIfInBounds_toArray, List.set_cons_zero, List.set_cons_succ]
      refine take_at 14 (v := ?_) rfl (by kernel_rfl) (by kernel_rfl) (by kernel_rfl) (fun _ _ _ h => h) hHeld (Or.inl ⟨by rfl, ?_⟩) ?_
      rotate_left
      · (intro w hSw; (try dsimp only at hSw); go_simp; try with_reducible rfl)
      simp only [Act.put, List.setIfInBounds_toArray, List.set_cons_zero, List.set_cons_succ]
      refine take_at 15 (v := ?_) rfl (by kernel_rfl) (by kernel_rfl) (by kernel_rfl) (fun _ _ _ h => h) hHeld (Or.inl ⟨by rfl, ?_⟩) ?_
      rotate_left
      · (intro w hSw; (try dsimp only at hSw); go_simp; try with_reducible rfl)
      simp only [Act.put, List.setIfInBounds_toArray, List.set_cons_zero, List.set_cons_succ]
      refine take_at 16 (v := ?_) rfl (by kernel_rfl) (by kernel_rfl) (by kernel_rfl) (fun _ _ _ h => h) hHeld (Or.inl ⟨by rfl, ?_⟩) ?_
      rotate_left
      · (intro w hSw; (try dsimp only at hSw); go_simp; try with_reducible rfl)
      simp only [Act.put, List.setIfInBounds_toArray, List.set_cons_zero, List.set_cons_succ]
      refine take_at 17 (v := ?_) rfl (by kernel_rfl) (by kernel_rfl) (by kernel_rfl) (fun _ _ _ h => h) hHeld (Or.inl ⟨by rfl, ?_⟩) ?_
      rotate_left
      · (intro w hSw; (try dsimp only at hSw); go_simp; try with_reducible rfl)
      simp only [Act.put, List.setIfInBounds_toArray, List.set_cons_zero, List.set_cons_succ]
      refine take_at 18 (v := ?_) rfl (by kernel_rfl) (by kernel_rfl) (by kernel_rfl) (fun _ _ _ h => h) hHeld (Or.inl ⟨by rfl, ?_⟩) ?_
      rotate_left
      · (intro w hSw; (try dsimp only at hSw); go_simp; try with_reducible rfl)
      simp only [Act.put, List.setIfInBounds_toArray, List.set_cons_zero, List.set_cons_succ]
      refine take_at 19 (v := ?_) rfl (by kernel_rfl) (by kernel_rfl) (by kernel_rfl) (fun _ _ _ h => h) hHeld (Or.inl ⟨by rfl, ?_⟩) ?_
      rotate_left
      · (intro w hSw; (try dsimp only at hSw); go_simp; try with_reducible rfl)
      simp only [Act.put, List.setIfInBounds_toArray, List.set_cons_zero, List.set_cons_succ]
      refine ready_at 20 rfl (by kernel_rfl) (fun K hK => ?_)
      go_simp
      (go_at_call 62; with_reducible refine hLf.mono ?_; rintro e y1 ⟨rfl, z0⟩; have z1 : Below W2.heap.size W2 y1 := chainB BR.out z0)
      refine hK.out _ _ (HXY.out _ z1) (fun hHeld => ?_)
      clear hK K
      try simp only [Act.put, List.setIfInBounds_toArray, List.set_cons_zero, List.set_cons_succ]
      refine take_at 21 (v := ?_) rfl (by kernel_rfl) (by kernel_rfl) (by kernel_rfl) (fun _ _ _ h => h) hHeld (Or.inl ⟨by rfl, ?_⟩) ?_
      rotate_left
      · (intro w hSw; (try dsimp only at hSw); go_simp; try with_reducible rfl)
      simp only [Act.put, List.setIfInBounds_toArray, List.set_cons_zero, List.set_cons_succ]
      refine take_at 22 (v := ?_) rfl (by kernel_rfl) (by kernel_rfl) (by kernel_rfl) (fun _ _ _ h => h) hHeld (Or.inl ⟨by rfl, ?_⟩) ?_
      rotate_left
      · (intro w hSw; (try dsimp only at hSw); go_simp; try with_reducible rfl)
      simp only [Act.put, List.setIfInBounds_toArray, List.set_cons_zero, List.set_cons_succ]
      refine take_at 23 (v := ?_) rfl (by kernel_rfl) (by kernel_rfl) (by kernel_rfl) (fun _ _ _ h => h) hHeld (Or.inl ⟨by rfl, ?_⟩) ?_
      rotate_left
      · (intro w hSw; (try dsimp only at hSw); go_simp; try with_reducible rfl)
      simp only [Act.put, List.setIfInBounds_toArray, List.set_cons_zero, List.set_cons_succ]
      refine wpAnyH_done (by kernel_rfl) ?_ _
      go_wp2_with fail
      go_ret
      exact ⟨rfl, HE.out _ z1⟩
    · have HV : Hid (isNx rs A t = false) := by show _ = _; unfold isNx; rw [decide_eq_false hA2]; rfl
      rw [HV.out]
      have HE : Hid (Below w.heap.size w W2.drew) := chainB HK.out.bel BR.out
      have d1 : decide ((A : Int) < (rs.length : Int)) = false := decide_eq_false (by omega)
      clear hR hz hr hT HV hC HK
      go_enter Tryz.func184, Tryz.ntmps184
      go_upto_region 1 with fail
      rw [← HW2.out]
      refine wp_region_held_drew (S := (fun w' => (w'.cell? ⟨w.heap.size, 1, none⟩ = some (.slice q rs.length cq)) ∧ w'.cell? ⟨w.heap.size + 1, 0, none⟩ = some (.string t) ∧ w'.cell? ⟨w.heap.size + 1, 1, none⟩ = some (.int .i64 C) ∧ w'.cell? ⟨w.heap.size + 1, 6, none⟩ = some (.int .i64 (A : Int)))) (by kernel_rfl) (HX.out _ BR.out) (fun hHeld => ?_)
      refine take_at 0 (v := ?_) rfl (by kernel_rfl) (by kernel_rfl) (by kernel_rfl) (fun _ _ _ h => h) hHeld (Or.inl ⟨by rfl, ?_⟩) ?_
      rotate_left
      · (intro w hSw; (try dsimp only at hSw); go_simp; try with_reducible rfl)
      simp only [Act.put, List.setIfInBounds_toArray, List.set_cons_zero, List.set_cons_succ]
      refine take_at 1 (v := ?_) rfl (by kernel_rfl) (by kernel_rfl) (by kernel_rfl) (fun _ _ _ h => h) hHeld (Or.inl ⟨by rfl, ?_⟩) ?_
      rotate_left
      · (intro w hSw; (try dsimp only at hSw); go_simp; try with_reducible rfl)
      simp only [Act.put, List.setIfInBounds_toArray, List.set_cons_zero, List.set_cons_succ]
      refine take_at 2 (v := ?_) rfl (by kernel_rfl) (by kernel_rfl) (by kernel_rfl) (fun _ _ _ h => h) hHeld (Or.inl ⟨by rfl, ?_⟩) ?_
      rotate_left
      · (intro w hSw; (try dsimp only at hSw); go_simp; try with_reducible rfl)
      simp only [Act.put, List.setIfInBounds_toArray, List.set_cons_zero, List.set_cons_succ]
      refine take_at 3 (v := ?_) rfl (by kernel_rfl) (by kernel_rfl) (by kernel_rfl) (fun _ _ _ h => h) hHeld (Or.inl ⟨by rfl, ?_⟩) ?_
      rotate_left
      · (intro w hSw; (try dsimp only at hSw); go_simp; try with_reducible rfl)
      simp only [Act.put, List.setIfInBounds_toArray, List.set_cons_zero, List.set_cons_succ]
      refine take_at 4 (v := ?_) rfl (by kernel_rfl) (by kernel_rfl) (by kernel_rfl) (fun _ _ _ h => h) hHeld (Or.inl ⟨by rfl, ?_⟩) ?_
      rotate_left
      · (intro w hSw; (try dsimp only at hSw); go_simp; try with_reducible rfl)
      simp only [Act.put, List.setIfInBounds_toArray, List.set_cons_zero, List.set_cons_succ]
      refine take_at 5 (v := ?_) rfl (by kernel_rfl) (by kernel_rfl) (by kernel_rfl) (fun _ _ _ h => h) hHeld (Or.inl ⟨by rfl, ?_⟩) ?_
      rotate_left
      · (intro w hSw; (try dsimp only at hSw); go_simp; try with_reducible rfl)
      simp only [Act.put, List.setIfInBounds_toArray, List.set_cons_zero, List.set_cons_succ]
      refine take_at 6 (v := ?_) rfl (by kernel_rfl) (by kernel_rfl) (by kernel_rfl) (fun _ _ _ h => h) hHeld (Or.inl ⟨by rfl, ?_⟩) ?_
      rotate_left
      · (intro w hSw; (try dsimp only at hSw); go_simp; try with_reducible rfl)
      simp only [Act.put, List.setIfInBounds_toArray, List.set_cons_zero, List.set_cons_succ]
      refine take_at 7 (v := ?_) rfl (by kernel_rfl) (by kernel_rfl) (by kernel_rfl) (fun _ _ _ h => h) hHeld (Or.inl ⟨by rfl, ?_⟩) ?_
      rotate_left
      · (intro w hSw; (try dsimp only at hSw); go_simp; try with_reducible rfl)
      simp only [Act.put, List.setIfInBounds_toArray, List.set_cons_zero, List.set_cons_succ]
      refine take_at 8 (v := ?_) rfl (by kernel_rfl) (by kernel_rfl) (by kernel_rfl) (fun _ _ _ h => h) hHeld (Or.inl ⟨by rfl, ?_⟩) ?_
      rotate_left
      · (intro w hSw; (try dsimp only at hSw); go_simp; try with_reducible rfl)
      simp only [Act.put, List.setIfInBounds_toArray, List.set_cons_zero, List.set_cons_succ]
      refine take_at 9 (v := ?_) rfl (by kernel_rfl) (by kernel_rfl) (by kernel_rfl) (fun _ _ _ h => h) hHeld (Or.inl ⟨by rfl, ?_⟩) ?_
      rotate_left
      · (intro w hSw; (try dsimp only at hSw); go_simp; try with_reducible rfl)
      simp only [Act.put, List.setIfInBounds_toArray, List.set_cons_zero, List.set_cons_succ]
      refine take_at 10 (v := ?_) rfl (by kernel_rfl) (by kernel_rfl) (by kernel_rfl) (fun _ _ _ h => h) hHeld (Or.inl ⟨by rfl, ?_⟩) ?_
      rotate_left
      · (intro w hSw; (try dsimp only at hSw); go_simp; try with_reducible rfl)
      simp only [Act.put, List.setIfInBounds_toArray, List.set_cons_zero, List.set_cons_succ]
      refine take_at 11 (v := ?_) rfl (by kernel_rfl) (by kernel_rfl) (by kernel_rfl) (fun _ _ _ h => h) hHeld (Or.inl ⟨by rfl, ?_⟩) ?_
      rotate_left
      · (intro w hSw; (try dsimp only at hSw); go_simp; try with_reducible rfl)
      simp only [Act.put, List.setIfInBounds_toArray, List.set_cons_zero, List.set_cons_succ]
      refine take_at 12 (v := undef) rfl (by kernel_rfl) (by kernel_rfl) (by kernel_rfl) (fun _ _ _ h => h) hHeld (Or.inr ⟨by rfl, rfl⟩) ?_
      simp only [Act.put, List.setIfInBounds_toArray, List.set_cons_zero, List.set_cons_succ]
      refine take_at 13 (v := undef) rfl (by kernel_rfl) (by kernel_rfl) (by kernel_rfl) (fun _ _ _ h => h) hHeld (Or.inr ⟨by rfl, rfl⟩) ?_
      simp only [Act.put, List.setIfInBounds_toArray, List.set_cons_zero, List.set_cons_succ]
      refine take_at 14 (v := undef) rfl (by kernel_rfl) (by kernel_rfl) (by kernel_rfl) (fun _ _ _ h => h) hHeld (Or.inr ⟨by rfl, rfl⟩) ?_
      simp only [Act.put, List.setIfInBounds_toArray, List.set_cons_zero, List.set_cons_succ]
      refine take_at 15 (v := undef) rfl (by kernel_rfl) (by kernel_rfl) (by kernel_rfl) (fun _ _ _ h => h) hHeld (Or.inr ⟨by rfl, rfl⟩) ?_
      simp only [Act.put, List.setIfInBounds_toArray, List.set_cons_zero, List.set_cons_succ]
      refine take_at 16 (v := undef) rfl (by kernel_rfl) (by kernel_rfl) (by kernel_rfl) (fun _ _ _ h => h) hHeld (Or.inr ⟨by rfl, rfl⟩) ?_
      simp only [Act.put, List.setIfInBounds_toArray, List.set_cons_zero, List.set_cons_succ]
      refine take_at 17 (v := undef) rfl (by kernel_rfl) (by kernel_rfl) (by kernel_rfl) (fun _ _ _ h => h) hHeld (Or.inr ⟨by rfl, rfl⟩) ?_
      simp only [Act.put, List.setIfInBounds_toArray, List.set_cons_zero, List.set_cons_succ]
      refine take_at 18 (v := undef) rfl (by kernel_rfl) (by kernel_rfl) (by kernel_rfl) (fun _ _ _ h => h) hHeld (Or.inr ⟨by rfl, rfl⟩) ?_
      simp only [Act.put, List.setIfInBounds_toArray, List.set_cons_zero, List.set_cons_succ]
      refine take_at 19 (v := undef) rfl (by kernel_rfl) (by kernel_rfl) (by kernel_rfl) (fun _ _ _ h => h) hHeld (Or.inr ⟨by rfl, rfl⟩) ?_
      simp only [Act.put, List.setIfInBounds_toArray, List.set_cons_zero, List.set_cons_succ]
      refine take_at 20 (v := undef) rfl (by kernel_rfl) (by kernel_rfl) (by kernel_rfl) (fun _ _ _ h => h) hHeld (Or.inr ⟨by rfl, rfl⟩) ?_
      simp only [Act.put, List.setIfInBounds_toArray, List.set_cons_zero, List.set_cons_succ]
      refine take_at 21 (v := undef) rfl (by kernel_rfl) (by kernel_rfl) (by kernel_rfl) (fun _ _ _ h => h) hHeld (Or.inr ⟨by rfl, rfl⟩) ?_
      simp only [Act.put, List.setIfInBounds_toArray, List.set_cons_zero, List.set_cons_succ]
      refine take_at 22 (v := ?_) rfl (by kernel_rfl) (by kernel_rfl) (by kernel_rfl) (fun _ _ _ h => h) hHeld (Or.inl ⟨by rfl, ?_⟩) ?_
      rotate_left
      · (intro w hSw; (try dsimp only at hSw); go_simp; try with_reducible rfl)
      simp only [Act.put, List.setIfInBounds_toArray, List.set_cons_zero, List.set_cons_succ]
      refine take_at 23 (v := ?_) rfl (by kernel_rfl) (by kernel_rfl) (by kernel_rfl) (fun _ _ _ h => h) hHeld (Or.inl ⟨by rfl, ?_⟩) ?_
      rotate_left
      · (intro w hSw; (try dsimp only at hSw); go_simp; try with_reducible rfl)
      simp only [Act.put, List.setIfInBounds_toArray, List.set_cons_zero, List.set_cons_succ]
      refine wpAnyH_done (by kernel_rfl) ?_ _
      go_wp2_with fail
      go_ret
      exact ⟨rfl, HE.out⟩
  | false =>
    have HV : Hid (isNx rs A t = false) := by
      show _ = _
      cases e : isNx rs A t with
      | false => rfl
      | true =>
        exfalso; apply (by simpa using hq1 : ¬ C = 1)
        rw [hC, lk_iff1, ((nx_iff _ _ _).1 e).2]
        exact rl_isRl _
    rw [HV.out]
    have HE : Hid (Below w.heap.size w W2.drew) := chainB HK.out.bel BR.out
    clear hR hz hr hT HV hC HK
    go_enter Tryz.func184, Tryz.ntmps184
    go_upto_region 1 with fail
    rw [← HW2.out]
    refine wp_region_held_drew (S := (fun w' => (w'.cell? ⟨w.heap.size, 1, none⟩ = some (.slice q rs.length cq)) ∧ w'.cell? ⟨w.heap.size + 1, 0, none⟩ = some (.string t) ∧ w'.cell? ⟨w.heap.size + 1, 1, none⟩ = some (.int .i64 C) ∧ w'.cell? ⟨w.heap.size + 1, 6, none⟩ = some (.int .i64 (A : Int)))) (by kernel_rfl) (HX.out _ BR.out) (fun hHeld => ?_)
    refine take_at 0 (v := ?_) rfl (by kernel_rfl) (by kernel_rfl) (by kernel_rfl) (fun _ _ _ h => h) hHeld (Or.inl ⟨by rfl, ?_⟩) ?_
    rotate_left
    · (intro w hSw; (try dsimp only at hSw); go_simp; try with_reducible rfl)
    simp only [Act.put, List.setIfInBounds_toArray, List.set_cons_zero, List.set_cons_succ]
    refine take_at 1 (v := ?_) rfl (by kernel_rfl) (by kernel_rfl) (by kernel_rfl) (fun _ _ _ h => h) hHeld (Or.inl ⟨by rfl, ?_⟩) ?_
    rotate_left
    · (intro w hSw; (try dsimp only at hSw); go_simp; try with_reducible rfl)
    simp only [Act.put, List.setIfInBounds_toArray, List.set_cons_zero, List.set_cons_succ]
    refine take_at 2 (v := ?_) rfl (by kernel_rfl) (by kernel_rfl) (by kernel_rfl) (fun _ _ _ h => h) hHeld (Or.inl ⟨by rfl, ?_⟩) ?_
    rotate_left
    · (intro w hSw; (try dsimp only at hSw); go_simp; try with_reducible rfl)
    simp only [Act.put, List.setIfInBounds_toArray, List.set_cons_zero, List.set_cons_succ]
    refine take_at 3 (v := ?_) rfl (by kernel_rfl) (by kernel_rfl) (by kernel_rfl) (fun _ _ _ h => h) hHeld (Or.inl ⟨by rfl, ?_⟩) ?_
    rotate_left
    · (intro w hSw; (try dsimp only at hSw); go_simp; try with_reducible rfl)
    simp only [Act.put, List.setIfInBounds_toArray, List.set_cons_zero, List.set_cons_succ]
    refine take_at 4 (v := undef) rfl (by kernel_rfl) (by kernel_rfl) (by kernel_rfl) (fun _ _ _ h => h) hHeld (Or.inr ⟨by rfl, rfl⟩) ?_
    simp only [Act.put, List.setIfInBounds_toArray, List.set_cons_zero, List.set_cons_succ]
    refine take_at 5 (v := undef) rfl (by kernel_rfl) (by kernel_rfl) (by kernel_rfl) (fun _ _ _ h => h) hHeld (Or.inr ⟨by rfl, rfl⟩) ?_
    simp only [Act.put, List.setIfInBounds_toArray, List.set_cons_zero, List.set_cons_succ]
    refine take_at 6 (v := undef) rfl (by kernel_rfl) (by kernel_rfl) (by kernel_rfl) (fun _ _ _ h => h) hHeld (Or.inr ⟨by rfl, rfl⟩) ?_
    simp only [Act.put, List.setIfInBounds_toArray, List.set_cons_zero, List.set_cons_succ]
    refine take_at 7 (v := undef) rfl (by kernel_rfl) (by kernel_rfl) (by kernel_rfl) (fun _ _ _ h => h) hHeld (Or.inr ⟨by rfl, rfl⟩) ?_
    simp only [Act.put, List.setIfInBounds_toArray, List.set_cons_zero, List.set_cons_succ]
    refine take_at 8 (v := undef) rfl (by kernel_rfl) (by kernel_rfl) (by kernel_rfl) (fun _ _ _ h => h) hHeld (Or.inr ⟨by rfl, rfl⟩) ?_
    simp only [Act.put, List.setIfInBounds_toArray, List.set_cons_zero, List.set_cons_succ]
    refine take_at 9 (v := undef) rfl (by kernel_rfl) (by kernel_rfl) (by kernel_rfl) (fun _ _ _ h => h) hHeld (Or.inr ⟨by rfl, rfl⟩) ?_
    simp only [Act.put, List.setIfInBounds_toArray, List.set_cons_zero, List.set_cons_succ]
    refine take_at 10 (v := ?_) rfl (by kernel_rfl) (by kernel_rfl) (by kernel_rfl) (fun _ _ _ h => h) hHeld (Or.inl ⟨by rfl, ?_⟩) ?_
    rotate_left
    · (intro w hSw; (try dsimp only at hSw); go_simp; try with_reducible rfl)
    simp only [Act.put, List.setIfInBounds_toArray, List.set_cons_zero, List.set_cons_succ]
    refine take_at 11 (v := ?_) rfl (by kernel_rfl) (by kernel_rfl) (by kernel_rfl) (fun _ _ _ h => h) hHeld (Or.inl ⟨by rfl, ?_⟩) ?_
    rotate_left
    · (intro w hSw; (try dsimp only at hSw); go_simp; try with_reducible rfl)
    simp only [Act.put, List.setIfInBounds_toArray, List.set_cons_zero, List.set_cons_succ]
    refine take_at 12 (v := undef) rfl (by kernel_rfl) (by kernel_rfl) (by kernel_rfl) (fun _ _ _ h => h) hHeld (Or.inr ⟨by rfl, rfl⟩) ?_
    simp only [Act.put, List.setIfInBounds_toArray, List.set_cons_zero, List.set_cons_succ]
    refine take_at 13 (v := undef) rfl (by kernel_rfl) (by kernel_rfl) (by kernel_rfl) (fun _ _ _ h => h) hHeld (Or.inr ⟨by rfl, rfl⟩) ?_
    simp only [Act.put, List.setIfInBounds_toArray, List.set_cons_zero, List.set_cons_succ]
    refine take_at 14 (v := undef) rfl (by kernel_rfl) (by kernel_rfl) (by kernel_rfl) (fun _ _ _ h => h) hHeld (Or.inr ⟨by rfl, rfl⟩) ?_
    simp only [Act.put, List.setIfInBounds_toArray, List.set_cons_zero, List.set_cons_succ]
    refine take_at 15 (v := undef) rfl (by kernel_rfl) (by kernel_rfl) (by kernel_rfl) (fun _ _ _ h => h) hHeld (Or.inr ⟨by rfl, rfl⟩) ?_
    simp only [Act.put, List.setIfInBounds_toArray, List.set_cons_zero, List.set_cons_succ]
    refine take_at 16 (v := undef) rfl (by kernel_rfl) (by kernel_rfl) (by kernel_rfl) (fun _ _ _ h => h) hHeld (Or.inr ⟨by rfl, rfl⟩) ?_
    simp only [Act.put, List.setIfInBounds_toArray, List.set_cons_zero, List.set_cons_succ]
    refine take_at 17 (v := undef) rfl (by kernel_rfl) (by kernel_rfl) (by kernel_rfl) (fun _ _ _ h => h) hHeld (Or.inr ⟨by rfl, rfl⟩) ?_
    simp only [Act.put, List.setIfInBounds_toArray, List.set_cons_zero, List.set_cons_succ]
    refine take_at 18 (v := undef) rfl (by kernel_rfl) (by kernel_rfl) (by kernel_rfl) (fun _ _ _ h => h) hHeld (Or.inr ⟨by rfl, rfl⟩) ?_
    simp only [Act.put, List.setIfInBounds_toArray, List.set_cons_zero, List.set_cons_succ]
    refine take_at 19 (v := undef) rfl (by kernel_rfl) (by kernel_rfl) (by kernel_rfl) (fun _ _ _ h => h) hHeld (Or.inr ⟨by rfl, rfl⟩) ?_
    simp only [Act.put, List.setIfInBounds_toArray, List.set_cons_zero, List.set_cons_succ]
    refine take_at 20 (v := undef) rfl (by kernel_rfl) (by kernel_rfl) (by kernel_rfl) (fun _ _ _ h => h) hHeld (Or.inr ⟨by rfl, rfl⟩) ?_
    simp only [Act.put, List.setIfInBounds_toArray, List.set_cons_zero, List.set_cons_succ]
    refine take_at 21 (v := undef) rfl (by kernel_rfl) (by kernel_rfl) (by kernel_rfl) (fun _ _ _ h => h) hHeld (Or.inr ⟨by rfl, rfl⟩) ?_
    simp only [Act.put, List.setIfInBounds_toArray, List.set_cons_zero, List.set_cons_succ]
    refine take_at 22 (v := ?_) rfl (by kernel_rfl) (by kernel_rfl) (by kernel_rfl) (fun _ _ _ h => h) hHeld (Or.inl ⟨by rfl, ?_⟩) ?_
    rotate_left
    · (intro w hSw; (try dsimp only at hSw); go_simp; try with_reducible rfl)
    simp only [Act.put, List.setIfInBounds_toArray, List.set_cons_zero, List.set_cons_succ]
    refine take_at 23 (v := ?_) rfl (by kernel_rfl) (by kernel_rfl) (by kernel_rfl) (fun _ _ _ h => h) hHeld (Or.inl ⟨by rfl, ?_⟩) ?_
    rotate_left
    · (intro w hSw; (try dsimp only at hSw); go_simp; try with_reducible rfl)
    simp only [Act.put, List.setIfInBounds_toArray, List.set_cons_zero, List.set_cons_succ]
    refine wpAnyH_done (by kernel_rfl) ?_ _
    go_wp2_with fail
    go_ret
    exact ⟨rfl, HE.out⟩
set_option maxHeartbeats 4000000 in
theorem isTombAhead_any (p : Option Addr) (lv : List ByteArray) (cp : Nat) (q : Option Addr) (rs : List Rw) (cq : Nat) (now : Int) (t : ByteArray) (C n1 n2 n3 n4 : Int) (A : Nat) (w : World) :
    Calls Tryz.prog 185 #[.agg (wkC p lv cp q rs cq now), .agg #[.string t, .int .i64 C, .int .i64 n1, .int .i64 n2, .int .i64 n3, .int .i64 n4, .int .i64 (A : Int)]] w fun e w' => e = .returned (.bool ((C == 2) && (decide (n1 < (A : Int)) && decide (n4 ≤ now)))) ∧ Below w.heap.size w w' := by
  have HB : Hid (Below w.heap.size w ((w.alloc (.cells #[.slice p lv.length cp, .slice q rs.length cq, .int .i64 now] 85)).alloc (.cells #[.string t, .int .i64 C, .int .i64 n1, .int .i64 n2, .int .i64 n3, .int .i64 n4, .int .i64 (A : Int)] 157))) := ((Below.refl _ _).alloc (Nat.le_refl _) _).alloc (by simp) _
  unfold wkC
  cases h1 : (C == 2) with
  | false =>
    go_enter Tryz.func185, Tryz.ntmps185
    go_wp2_with fail
    go_ret
    exact ⟨rfl, HB.out⟩
  | true =>
    cases h2 : decide (n1 < (A : Int)) with
    | false =>
      go_enter Tryz.func185, Tryz.ntmps185
      go_wp2_with fail
      go_ret
      exact ⟨rfl, HB.out⟩
    | true =>
      cases h3 : decide (n4 ≤ now) with
      | false =>
        go_enter Tryz.func185, Tryz.ntmps185
        go_wp2_with fail
        go_ret
        exact ⟨rfl, HB.out⟩
      | true =>
        go_enter Tryz.func185, Tryz.ntmps185
        go_wp2_with fail
        go_ret
        exact ⟨rfl, HB.out⟩
theorem rsB_no {rs : List Rw} {now : Int} {i : Nat} (hi : i < rs.length) (h : (rB rs[i] && decide (rs[i].a ≤ now)) = false) : rsB rs now = false := by
  unfold rsB
  rw [List.all_eq_false]
  exact ⟨_, List.getElem_mem hi, by rw [h]; exact Bool.false_ne_true⟩
theorem rsB_yes {rs : List Rw} {now : Int} (h : ∀ i (hi : i < rs.length), (rB rs[i] && decide (rs[i].a ≤ now)) = true) : rsB rs now = true := by
  unfold rsB
  rw [List.all_eq_true]
  intro r hr
  obtain ⟨i, hi, rfl⟩ := List.getElem_of_mem hr
  exact h i hi
set_option maxHeartbeats 4000000 in
theorem rowsRight_any (p : Option Addr) (lv : List ByteArray) (cp : Nat) (q : Option Addr) (rs : List Rw) (cq : Nat) (now : Int) (w : World) (hT : Tabs w) (hR : RwAt w q rs) (hn : rs.length ≤ 1048576) (hcq : rs.length ≤ cq) (hz : RwsLe rs) :
    Calls Tryz.prog 140 #[.agg (wkC p lv cp q rs cq now)] w fun e w' => e = .returned (.bool (decide (rs.length ≤ 6) && rsB rs now)) ∧ Below w.heap.size w w' := by
  obtain ⟨W1, hW1⟩ : ∃ W1, W1 = w.alloc (.cells #[.slice p lv.length cp, .slice q rs.length cq, .int .i64 now] 85) := ⟨_, rfl⟩
  have HW1 : Hid (W1 = w.alloc (.cells #[.slice p lv.length cp, .slice q rs.length cq, .int .i64 now] 85)) := hW1
  have K1 : Hid (Bxs W1 w.heap.size 85 #[.slice p lv.length cp, .slice q rs.length cq, .int .i64 now]) := by rw [hW1]; exact Bxs.new _ _ _
  have B1 : Hid (Below w.heap.size w W1) := by rw [hW1]; exact (Below.refl _ _).alloc (Nat.le_refl _) _
  have HT1 : Hid (Tabs W1) := hT.to B1.out
  have HR1 : Hid (RwAt W1 q rs) := hR.below B1.out
  have HZ : Hid (RwsLe rs) := hz
  unfold wkC
  clear hW1 hT hR hz
  by_cases h6 : rs.length ≤ 6
  · rw [decide_eq_true h6, Bool.true_and]
    have d1 : decide ((6 : Int) < (rs.length : Int)) = false := decide_eq_false (by omega)
    have x1 := K1.out.cell 1
    rw [HW1.out] at x1
    go_enter Tryz.func140, Tryz.ntmps140
    go_wp2_with fail
    rw [← HW1.out]
    clear x1
    go_loopw [12] (fun i wr => ∃ k : Nat, k ≤ rs.length ∧ i = .int .i64 k ∧ Hid (Below W1.heap.size W1 wr) ∧ Hid (∀ j (h : j < rs.length), j < k → (rB rs[j] && decide (rs[j].a ≤ now)) = true)) (fun i _ => rs.length - (Go.RowKit.intOf i).toNat)
    case atStart => exact ⟨0, Nat.zero_le _, rfl, Below.refl _ _, fun j h hk => by omega⟩
    case round =>
      obtain ⟨i, hi, rfl, HB, HF⟩ := hrel
      by_cases hlt : i < rs.length
      · have i1 : (i : Int) < rs.length := by omega
        have x2 := (K1.out.below HB.out).cell 2
        obtain ⟨b, off, rq, rc, rfl, hb0, c0, c1, c2, c3, c4⟩ := (HR1.out.below HB.out) i hlt
        have hzz := HZ.out _ (List.getElem_mem hlt)
        have HA : Hid (Bxs (wr.alloc (.cells #[.string rs[i].k, .int .i64 rs[i].a, .slice rq rs[i].fs.length rc] 29)) wr.heap.size 29 #[.string rs[i].k, .int .i64 rs[i].a, .slice rq rs[i].fs.length rc]) := Bxs.new _ _ _
        have HBa : Hid (Below wr.heap.size wr (wr.alloc (.cells #[.string rs[i].k, .int .i64 rs[i].a, .slice rq rs[i].fs.length rc] 29))) := (Below.refl _ _).alloc (Nat.le_refl _) _
        have hQ := implRowRight_any rs[i].k rs[i].a rq rc rs[i].fs (wr.alloc (.cells #[.string rs[i].k, .int .i64 rs[i].a, .slice rq rs[i].fs.length rc] 29)) ((HT1.out.to HB.out).to HBa.out) (c4.below HBa.out) hzz.1 c3 hzz.2.1 hzz.2.2
        have HN : Hid ((rB rs[i] && decide (rs[i].a ≤ now)) = false → rsB rs now = false) := fun h => rsB_no hlt h
        have HF1 : Hid ((rB rs[i] && decide (rs[i].a ≤ now)) = true → ∀ j (h : j < rs.length), j < i + 1 → (rB rs[j] && decide (rs[j].a ≤ now)) = true) := fun h0 j h hj => if he : j = i then by subst he; exact h0 else HF.out j h (by omega)
        have HM : Hid (∀ x, Below (wr.alloc (.cells #[.string rs[i].k, .int .i64 rs[i].a, .slice rq rs[i].fs.length rc] 29)).heap.size (wr.alloc (.cells #[.string rs[i].k, .int .i64 rs[i].a, .slice rq rs[i].fs.length rc] 29)) x → x.cell? ⟨wr.heap.size, 1, none⟩ = some (.int .i64 rs[i].a) ∧ x.cell? ⟨w.heap.size, 2, none⟩ = some (.int .i64 now) ∧ Below W1.heap.size W1 x) := fun x hx => ⟨(HA.out.below hx).cell 1, (((K1.out.below HB.out).below HBa.out).below hx).cell 2, chainB (chainB HB.out HBa.out) hx⟩
        change Calls _ _ _ _ (fun e w' => e = .returned (.bool (rB rs[i])) ∧ _) at hQ
        generalize rB rs[i] = RB at *
        generalize rs[i].k = rk at *
        generalize rs[i].fs.length = fl at *
        clear hzz c3 c4 HF HA HBa x2 hb0
        cases RB with
        | false =>
          have HV := HN.out rfl
          clear HF1 HN
          go_wp2_with fail
          refine hQ.mono ?_
          rintro e y ⟨rfl, by_⟩
          obtain ⟨y1, y2, yb⟩ := HM.out y by_
          clear hQ HM by_ c0 c1 c2
          go_wp2_with fail
          go_ret
          exact ⟨by rw [HV]; rfl, chainB B1.out yb⟩
        | true =>
          cases hd : decide (rs[i].a ≤ now) with
          | false =>
            have HV := HN.out (by rw [hd]; rfl)
            have hd2 : decide (now < rs[i].a) = true := decide_eq_true (by have := of_decide_eq_false hd; omega)
            generalize rs[i].a = ra at *
            clear HF1 HN hd
            go_wp2_with fail
            refine hQ.mono ?_
            rintro e y ⟨rfl, by_⟩
            obtain ⟨y1, y2, yb⟩ := HM.out y by_
            clear hQ HM by_ c0 c1 c2
            go_wp2_with fail
            go_ret
            exact ⟨by rw [HV]; rfl, chainB B1.out yb⟩
          | true =>
            have HV := HF1.out (by rw [hd]; rfl)
            have hd2 : decide (now < rs[i].a) = false := decide_eq_false (by have := of_decide_eq_true hd; omega)
            have HV2 : Hid (∀ j (h : j < rs.length), j < i + 1 → (rB rs[j] && decide (rs[j].a ≤ now)) = true) := HV
            generalize rs[i].a = ra at *
            clear HF1 HN hd HV
            go_wp2_with fail
            refine hQ.mono ?_
            rintro e y ⟨rfl, by_⟩
            obtain ⟨y1, y2, yb⟩ := HM.out y by_
            clear hQ HM by_ c0 c1 c2
            go_wp2_with fail
            go_roundw
            case rel => exact ⟨i + 1, by omega, by simp, yb, HV2.out⟩
            case measure => simp [Go.RowKit.intOf]; omega
      · obtain rfl : i = rs.length := by omega
        have HV := rsB_yes (fun j h => HF.out j h h)
        go_wp2_with fail
        go_ret
        exact ⟨by rw [HV]; rfl, chainB B1.out HB.out⟩
  · rw [decide_eq_false h6, Bool.false_and]
    have d1 : decide ((6 : Int) < (rs.length : Int)) = true := decide_eq_true (by omega)
    go_enter Tryz.func140, Tryz.ntmps140
    go_wp2_with fail
    go_ret
    rw [← HW1.out]
    exact ⟨rfl, B1.out⟩
end Go.Proofs.YtepmoihgemhjcaaGreatDoor
