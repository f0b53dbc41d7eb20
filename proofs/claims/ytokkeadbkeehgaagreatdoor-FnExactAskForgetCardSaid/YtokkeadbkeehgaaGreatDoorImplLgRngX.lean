/-
  Parts of one proof, laid as one text: ImplLg, RngX; what each says stands at its head.
-/
import Derived.Test.YtokkeadbkeehgaaGreatDoorRows
import Derived.Test.YtokkeadbkeehgaaGreatDoorBytesDigMathTreeMathSlASlBBxKOwnSTakesLTillTwo
import Derived.Test.YtokkeadbkeehgaaGreatDoorLawRmLawPoMTakesLawFLawFRLawSG
import Derived.Test.YtokkeadbkeehgaaGreatDoorAsDAs2CodeOfScopesReadBitsRdNumIGetNumITimeIImplTbImplCb
import Derived.Test.YtokkeadbkeehgaaGreatDoorTimeBPutMathPutNumJoinedPutTextFldMathFldRiseScanMath
import Derived.Test.YtokkeadbkeehgaaGreatDoorFldTrSpecTgFldL
import Derived.Test.YtokkeadbkeehgaaGreatDoorPadIDigIDigAllImplFC
import Derived.Test.YtokkeadbkeehgaaGreatDoorImplFR
import Derived.Test.YtokkeadbkeehgaaGreatDoorImplFTImplOnImplFk
import Derived.Test.YtokkeadbkeehgaaGreatDoorGetValGetTxtNumMathFldRdNumFromTmbMathLgMath
import Derived.Handy
import Derived.WalkSpells
import Derived.OwnWalk
import Derived.Deep.RegionHeld3
import Derived.Deep.RegionWith
import Derived.Deep.Cut
import Derived.Deep.CutRange
import Derived.RangeFuncNested
import Derived.RangeFuncBound
import Derived.RangeFuncCalls
import Derived.RangeFuncLeaves
import Derived.OrdersIn
import Derived.OrdersHeld
import Derived.Deep.RegionHeld
/-
  What the program asks of a log at work: whether a leaf is the next row's, whether it notes a field of a row ahead, whether the rows are right, what of them is gone.
  Conditions: the cells of Rows and Leaves hold the rows and leaves; the two tables of the digest lie as laid.
-/
namespace Go.Proofs.YtokkeadbkeehgaaGreatDoor
open Go.RowKit Go.Lib
set_option linter.unusedVariables false
set_option maxRecDepth 20000

/-- A log at work, and a log, as values. -/
def wkC (p : Option Addr) (lv : List ByteArray) (cp : Nat) (q : Option Addr) (rs : List Rw) (cq : Nat) (now : Int) : Array Value := #[.slice p lv.length cp, .slice q rs.length cq, .int .i64 now]
def lgC (p : Option Addr) (lv : List ByteArray) (cp : Nat) (q : Option Addr) (rs : List Rw) (cq : Nat) (now : Int) : Array Value := #[.slice q rs.length cq, .slice p lv.length cp, .int .i64 now]
theorem Bxs.seven {w : World} {g : Nat} {T : TypeId} {a b c d e f h' : Value} (h : Bxs w g T #[a, b, c, d, e, f, h']) : w.cell? ⟨g, 0, none⟩ = some a ∧ w.cell? ⟨g, 1, none⟩ = some b ∧ w.cell? ⟨g, 2, none⟩ = some c ∧ w.cell? ⟨g, 3, none⟩ = some d ∧ w.cell? ⟨g, 4, none⟩ = some e ∧ w.cell? ⟨g, 5, none⟩ = some f ∧ w.cell? ⟨g, 6, none⟩ = some h' := ⟨h.cell 0, h.cell 1, h.cell 2, h.cell 3, h.cell 4, h.cell 5, h.cell 6⟩
theorem Bxs.three {w : World} {g : Nat} {T : TypeId} {a b c : Value} (h : Bxs w g T #[a, b, c]) : w.cell? ⟨g, 0, none⟩ = some a ∧ w.cell? ⟨g, 1, none⟩ = some b ∧ w.cell? ⟨g, 2, none⟩ = some c := ⟨h.cell 0, h.cell 1, h.cell 2⟩
set_option maxHeartbeats 1000000 in
theorem workOn_any (p : Option Addr) (lv : List ByteArray) (cp : Nat) (q : Option Addr) (rs : List Rw) (cq : Nat) (now : Int) (w : World) : Calls Tryz.prog 71 #[.agg (lgC p lv cp q rs cq now)] w fun e w' => e = .returned (.agg (wkC p lv cp q rs cq now)) ∧ Below w.heap.size w w' := by
  unfold lgC wkC
  go_enter Tryz.func71, Tryz.ntmps71
  go_wp2_with fail
  refine bodyPost_ret (v := .agg #[.slice p lv.length cp, .slice q rs.length cq, .int .i64 now]) (by simp [results, Tryz.results71, go_sem]) rfl ?_
  exact ⟨rfl, ((Below.refl _ _).alloc (Nat.le_refl _) _).alloc (by simp) _⟩
/-- Two boxes: the log at work and the leaf. -/
structure Bx2 (w : World) (cs ls : Array Value) (W : World) : Prop where
  bel : Below w.heap.size w W
  wk : Bxs W w.heap.size 109 cs
  lf : Bxs W (w.heap.size + 1) 188 ls
theorem bx2_new (w : World) (cs ls : Array Value) : Bx2 w cs ls ((w.alloc (.cells cs 109)).alloc (.cells ls 188)) :=
  ⟨((Below.refl _ _).alloc (Nat.le_refl _) _).alloc (by simp) _, (Bxs.new _ _ _).alloc _, by have := Bxs.new (w.alloc (.cells cs 109)) 188 ls; rwa [szA] at this⟩
theorem Bx2.to {w : World} {cs ls : Array Value} {W x : World} (h : Bx2 w cs ls W) (hb : Below W.heap.size W x) : Bx2 w cs ls x := ⟨chainB h.bel hb, h.wk.below hb, h.lf.below hb⟩
theorem nx_want {rs : List Rw} {A : Nat} {t : ByteArray} (hA : A < rs.length) (hr : rB (rs.getD A rwZ) = true) : isNx rs A t = (t.toList == (lfB (rs.getD A rwZ).k (rs.getD A rwZ).a (rs.getD A rwZ).fs).toList) := by
  rw [rl_lf hr, ba_beq]
  unfold isNx
  rw [decide_eq_true hA, Bool.true_and]
set_option maxHeartbeats 4000000 in
theorem isNextRow_any (p : Option Addr) (lv : List ByteArray) (cp : Nat) (q : Option Addr) (rs : List Rw) (cq : Nat) (now : Int) (t : ByteArray) (n1 n2 n3 n4 : Int) (A : Nat) (w : World) (hT : Tabs w) (hR : RwAt w q rs) (hcq : rs.length ≤ cq) (hr : ∀ r ∈ rs, rB r = true) (hz : RwsLe rs) (hn : rs.length ≤ 6) (hA : A ≤ 1048576) :
    Calls Tryz.prog 142 #[.agg (wkC p lv cp q rs cq now), .agg #[.string t, .int .i64 (lkB t), .int .i64 n1, .int .i64 n2, .int .i64 n3, .int .i64 n4, .int .i64 (A : Int)]] w fun e w' => e = .returned (.bool (isNx rs A t)) ∧ Below w.heap.size w w' := by
  obtain ⟨C, hC⟩ : ∃ C, C = lkB t := ⟨_, rfl⟩
  obtain ⟨W2, hW2⟩ : ∃ W2, W2 = (w.alloc (.cells #[.slice p lv.length cp, .slice q rs.length cq, .int .i64 now] 109)).alloc (.cells #[.string t, .int .i64 C, .int .i64 n1, .int .i64 n2, .int .i64 n3, .int .i64 n4, .int .i64 (A : Int)] 188) := ⟨_, rfl⟩
  have HW2 : Hid (W2 = (w.alloc (.cells #[.slice p lv.length cp, .slice q rs.length cq, .int .i64 now] 109)).alloc (.cells #[.string t, .int .i64 C, .int .i64 n1, .int .i64 n2, .int .i64 n3, .int .i64 n4, .int .i64 (A : Int)] 188)) := hW2
  have HK : Hid (Bx2 w #[.slice p lv.length cp, .slice q rs.length cq, .int .i64 now] #[.string t, .int .i64 C, .int .i64 n1, .int .i64 n2, .int .i64 n3, .int .i64 n4, .int .i64 (A : Int)] W2) := by rw [hW2]; exact bx2_new _ _ _
  have BR : Hid (Below W2.heap.size W2 W2.drew) := (Below.refl _ _).drew
  have HX : Hid (∀ x, Below W2.heap.size W2 x → x.cell? ⟨w.heap.size, 1, none⟩ = some (.slice q rs.length cq) ∧ x.cell? ⟨w.heap.size + 1, 0, none⟩ = some (.string t) ∧ x.cell? ⟨w.heap.size + 1, 1, none⟩ = some (.int .i64 C) ∧ x.cell? ⟨w.heap.size + 1, 6, none⟩ = some (.int .i64 (A : Int))) := fun x hb => ⟨(HK.out.to hb).wk.cell 1, (HK.out.to hb).lf.cell 0, (HK.out.to hb).lf.cell 1, (HK.out.to hb).lf.cell 6⟩
  unfold wkC
  rw [← hC]
  clear hW2
  cases hq1 : (C == 1) with
  | true =>
    by_cases hA2 : A < rs.length
    · have hrA : rs.getD A rwZ = rs[A] := by rw [List.getD_eq_getElem?_getD, List.getElem?_eq_getElem hA2, Option.getD_some]
      have HV : Hid (isNx rs A t = (t.toList == (lfB rs[A].k rs[A].a rs[A].fs).toList)) := by
        have := nx_want (t := t) hA2 (by rw [hrA]; exact hr _ (List.getElem_mem hA2))
        rwa [hrA] at this
      rw [HV.out]
      obtain ⟨b, off, rq, rc, rfl, hb0, c0, c1, c2, c3, c4⟩ := hR A hA2
      have hzz := hz _ (List.getElem_mem hA2)
      have HT2 : Hid (Tabs W2.drew) := (hT.to HK.out.bel).to BR.out
      have hLf := implRowLeaf_any rs[A].k rs[A].a rq rc rs[A].fs W2.drew HT2.out ((c4.below HK.out.bel).below BR.out) hzz.1 c3 hzz.2.1 hzz.2.2
      have HY : Hid (∀ x, Below W2.heap.size W2 x → x.cell? ⟨b, off + A * 3, none⟩ = some (.string rs[A].k) ∧ x.cell? ⟨b, off + A * 3 + 1, none⟩ = some (.int .i64 rs[A].a) ∧ x.cell? ⟨b, off + A * 3 + 2, none⟩ = some (.slice rq rs[A].fs.length rc)) := fun x hb => ⟨((HK.out.to hb).bel.cell (p := ⟨b, off + A * 3, none⟩) hb0).trans c0, ((HK.out.to hb).bel.cell (p := ⟨b, off + A * 3 + 1, none⟩) hb0).trans c1, ((HK.out.to hb).bel.cell (p := ⟨b, off + A * 3 + 2, none⟩) hb0).trans c2⟩
      have HXY : Hid (∀ x, Below W2.heap.size W2 x → (x.cell? ⟨w.heap.size, 1, none⟩ = some (.slice (some ⟨b, off, none⟩) rs.length cq)) ∧ x.cell? ⟨w.heap.size + 1, 0, none⟩ = some (.string t) ∧ x.cell? ⟨w.heap.size + 1, 1, none⟩ = some (.int .i64 C) ∧ x.cell? ⟨w.heap.size + 1, 6, none⟩ = some (.int .i64 (A : Int)) ∧ x.cell? ⟨b, off + A * 3, none⟩ = some (.string rs[A].k) ∧ x.cell? ⟨b, off + A * 3 + 1, none⟩ = some (.int .i64 rs[A].a) ∧ x.cell? ⟨b, off + A * 3 + 2, none⟩ = some (.slice rq rs[A].fs.length rc)) := fun x hb => ⟨(HX.out x hb).1, (HX.out x hb).2.1, (HX.out x hb).2.2.1, (HX.out x hb).2.2.2, HY.out x hb⟩
      have HE : Hid (∀ x, Below W2.heap.size W2 x → Below w.heap.size w x) := fun x hb => chainB HK.out.bel hb
      clear hR hz hr hT hzz c0 c1 c2 c3 c4 hrA HV HT2 hC HK HY HX
      generalize lfB rs[A].k rs[A].a rs[A].fs = LF at *
      generalize rs[A].k = rk at *
      generalize rs[A].a = ra at *
      generalize rs[A].fs.length = fl at *
      have d1 : decide ((A : Int) < (rs.length : Int)) = true := decide_eq_true (by omega)
      have i1 : (A : Int) < (rs.length : Int) := by omega
      go_enter Tryz.func142, Tryz.ntmps142
      go_upto_region 1 with fail
      rw [← HW2.out]
      refine wp_region_held_drew (S := (fun w' => (w'.cell? ⟨w.heap.size, 1, none⟩ = some (.slice (some ⟨b, off, none⟩) rs.length cq)) ∧ w'.cell? ⟨w.heap.size + 1, 0, none⟩ = some (.string t) ∧ w'.cell? ⟨w.heap.size + 1, 1, none⟩ = some (.int .i64 C) ∧ w'.cell? ⟨w.heap.size + 1, 6, none⟩ = some (.int .i64 (A : Int)) ∧ w'.cell? ⟨b, off + A * 3, none⟩ = some (.string rk) ∧ w'.cell? ⟨b, off + A * 3 + 1, none⟩ = some (.int .i64 ra) ∧ w'.cell? ⟨b, off + A * 3 + 2, none⟩ = some (.slice rq fl rc))) (by kernel_rfl) (HXY.out _ BR.out) (fun hHeld => ?_)
      refine take_at 0 (v := ?_) rfl (by kernel_rfl) (by kernel_rfl) (by kernel_rfl) (fun _ _ _ h => h) hHeld (Or.inl ⟨by rfl, ?_⟩) ?_
      rotate_left
      · (intro w hSw; (try dsimp only at hSw); go_simp; try with_reducible rfl)
      simp only [Act.put, List.setIfInBounds_toArray, List.set_cons_zero, List.set_cons_succ]
      refine take_at 1 (v := ?_) rfl (by kernel_rfl) (by kernel_rfl) (by kernel_rfl) (fun _ _ _ h => h) hHeld (Or.inl ⟨by rfl, ?_⟩) ?_
      rotate_left
      · (intro w hSw; (try dsimp only at hSw); go_simp; try with_reducible rfl)
      simp only [Act.put, List.setIfInBounds_toArray, List.set_cons_zero, List.set_cons_succ]
      refine take_at 2 (v := ?_) rfl (by kernel_rfl) (by kernel_rfl) (by kernel_rfl) (fun _ _ _ h => h) hHeld (Or.inl ⟨by rfl, ?_⟩) ?_
      rotate_left
      · (intro w hSw; (try dsimp only at hSw); go_simp; try with_reducible rfl)
      simp only [Act.put, List.setIfInBounds_toArray, List.set_cons_zero, List.set_cons_succ]
      refine take_at 3 (v := ?_) rfl (by kernel_rfl) (by kernel_rfl) (by kernel_rfl) (fun _ _ _ h => h) hHeld (Or.inl ⟨by rfl, ?_⟩) ?_
      rotate_left
      · (intro w hSw; (try dsimp only at hSw); go_simp; try with_reducible rfl)
      simp only [Act.put, List.setIfInBounds_toArray, List.set_cons_zero, List.set_cons_succ]
      refine take_at 4 (v := ?_) rfl (by kernel_rfl) (by kernel_rfl) (by kernel_rfl) (fun _ _ _ h => h) hHeld (Or.inl ⟨by rfl, ?_⟩) ?_
      rotate_left
      · (intro w hSw; (try dsimp only at hSw); go_simp; try with_reducible rfl)
      simp only [Act.put, List.setIfInBounds_toArray, List.set_cons_zero, List.set_cons_succ]
      refine take_at 5 (v := ?_) rfl (by kernel_rfl) (by kernel_rfl) (by kernel_rfl) (fun _ _ _ h => h) hHeld (Or.inl ⟨by rfl, ?_⟩) ?_
      rotate_left
      · (intro w hSw; (try dsimp only at hSw); go_simp; try with_reducible rfl)
      simp only [Act.put, List.setIfInBounds_toArray, List.set_cons_zero, List.set_cons_succ]
      refine take_at 6 (v := ?_) rfl (by kernel_rfl) (by kernel_rfl) (by kernel_rfl) (fun _ _ _ h => h) hHeld (Or.inl ⟨by rfl, ?_⟩) ?_
      rotate_left
      · (intro w hSw; (try dsimp only at hSw); go_simp; try with_reducible rfl)
      simp only [Act.put, List.setIfInBounds_toArray, List.set_cons_zero, List.set_cons_succ]
      refine take_at 7 (v := ?_) rfl (by kernel_rfl) (by kernel_rfl) (by kernel_rfl) (fun _ _ _ h => h) hHeld (Or.inl ⟨by rfl, ?_⟩) ?_
      rotate_left
      · (intro w hSw; (try dsimp only at hSw); go_simp; try with_reducible rfl)
      simp only [Act.put, List.setIfInBounds_toArray, List.set_cons_zero, List.set_cons_succ]
      refine take_at 8 (v := ?_) rfl (by kernel_rfl) (by kernel_rfl) (by kernel_rfl) (fun _ _ _ h => h) hHeld (Or.inl ⟨by rfl, ?_⟩) ?_
      rotate_left
      · (intro w hSw; (try dsimp only at hSw); go_simp; try with_reducible rfl)
      simp only [Act.put, List.setIfInBounds_toArray, List.set_cons_zero, List.set_cons_succ]
      refine take_at 9 (v := ?_) rfl (by kernel_rfl) (by kernel_rfl) (by kernel_rfl) (fun _ _ _ h => h) hHeld (Or.inl ⟨by rfl, ?_⟩) ?_
      rotate_left
      · (intro w hSw; (try dsimp only at hSw); go_simp; try with_reducible rfl)
      simp only [Act.put, List.setIfInBounds_toArray, List.set_cons_zero, List.set_cons_succ]
      refine take_at 10 (v := ?_) rfl (by kernel_rfl) (by kernel_rfl) (by kernel_rfl) (fun _ _ _ h => h) hHeld (Or.inl ⟨by rfl, ?_⟩) ?_
      rotate_left
      · (intro w hSw; (try dsimp only at hSw); go_simp; try with_reducible rfl)
      simp only [Act.put, List.setIfInBounds_toArray, List.set_cons_zero, List.set_cons_succ]
      refine take_at 11 (v := ?_) rfl (by kernel_rfl) (by kernel_rfl) (by kernel_rfl) (fun _ _ _ h => h) hHeld (Or.inl ⟨by rfl, ?_⟩) ?_
      rotate_left
      · (intro w hSw; (try dsimp only at hSw); go_simp; try with_reducible rfl)
      simp only [Act.put, List.setIfInBounds_toArray, List.set_cons_zero, List.set_cons_succ]
      refine take_at 12 (v := ?_) rfl (by kernel_rfl) (by kernel_rfl) (by kernel_rfl) (fun _ _ _ h => h) hHeld (Or.inl ⟨by rfl, ?_⟩) ?_
      rotate_left
      · (intro w hSw; (try dsimp only at hSw); go_simp; try with_reducible rfl)
      simp only [Act.put, List.setIfInBounds_toArray, List.set_cons_zero, List.set_cons_succ]
      refine take_at 13 (v := ?_) rfl (by kernel_rfl) (by kernel_rfl) (by kernel_rfl) (fun _ _ _ h => h) hHeld (Or.inl ⟨by rfl, ?_⟩) ?_
      rotate_left
      · (intro w hSw; (try dsimp only at hSw); go_simp; try with_reducible rfl)
      simp only [Act.put, List.setIfInBounds_toArray, List.set_cons_zero, List.set_cons_succ]
      refine take_at 14 (v := ?_) rfl (by kernel_rfl) (by kernel_rfl) (by kernel_rfl) (fun _ _ _ h => h) hHeld (Or.inl ⟨by rfl, ?_⟩) ?_
      rotate_left
      · (intro w hSw; (try dsimp only at hSw); go_simp; try with_reducible rfl)
      simp only [Act.put, List.setIfInBounds_toArray, List.set_cons_zero, List.set_cons_succ]
      refine take_at 15 (v := ?_) rfl (by kernel_rfl) (by kernel_rfl) (by kernel_rfl) (fun _ _ _ h => h) hHeld (Or.inl ⟨by rfl, ?_⟩) ?_
      rotate_left
      · (intro w hSw; (try dsimp only at hSw); go_simp; try with_reducible rfl)
      simp only [Act.put, List.setIfInBounds_toArray, List.set_cons_zero, List.set_cons_succ]
      refine take_at 16 (v := ?_) rfl (by kernel_rfl) (by kernel_rfl) (by kernel_rfl) (fun _ _ _ h => h) hHeld (Or.inl ⟨by rfl, ?_⟩) ?_
      rotate_left
      · (intro w hSw; (try dsimp only at hSw); go_simp; try with_reducible rfl)
      simp only [Act.put, List.setIfInBounds_toArray, List.set_cons_zero, List.set_cons_succ]
      refine take_at 17 (v := ?_) rfl (by kernel_rfl) (by kernel_rfl) (by kernel_rfl) (fun _ _ _ h => h) hHeld (Or.inl ⟨by rfl, ?_⟩) ?_
      rotate_left
      · (intro w hSw; (try dsimp only at hSw); go_simp; try with_reducible rfl)
      simp only [Act.put, List.setIfInBounds_toArray, List.set_cons_zero, List.set_cons_succ]
      refine take_at 18 (v := ?_) rfl (by kernel_rfl) (by kernel_rfl) (by kernel_rfl) (fun _ _ _ h => h) hHeld (Or.inl ⟨by rfl, ?_⟩) ?_
      rotate_left
      · (intro w hSw; (try dsimp only at hSw); go_simp; try with_reducible rfl)
      simp only [Act.put, List.setIfInBounds_toArray, List.set_cons_zero, List.set_cons_succ]
      refine take_at 19 (v := ?_) rfl (by kernel_rfl) (by kernel_rfl) (by kernel_rfl) (fun _ _ _ h => h) hHeld (Or.inl ⟨by rfl, ?_⟩) ?_
      rotate_left
      · (intro w hSw; (try dsimp only at hSw); go_simp; try with_reducible rfl)
      simp only [Act.put, List.setIfInBounds_toArray, List.set_cons_zero, List.set_cons_succ]
      refine ready_at 20 rfl (by kernel_rfl) (fun K hK => ?_)
      go_simp
      (go_at_call 171; with_reducible refine hLf.mono ?_; rintro e y1 ⟨rfl, z0⟩; have z1 : Below W2.heap.size W2 y1 := chainB BR.out z0)
      refine hK.out _ _ (HXY.out _ z1) (fun hHeld => ?_)
      clear hK K
      try simp only [Act.put, List.setIfInBounds_toArray, List.set_cons_zero, List.set_cons_succ]
      refine take_at 21 (v := ?_) rfl (by kernel_rfl) (by kernel_rfl) (by kernel_rfl) (fun _ _ _ h => h) hHeld (Or.inl ⟨by rfl, ?_⟩) ?_
      rotate_left
      · (intro w hSw; (try dsimp only at hSw); go_simp; try with_reducible rfl)
      simp only [Act.put, List.setIfInBounds_toArray, List.set_cons_zero, List.set_cons_succ]
      refine take_at 22 (v := ?_) rfl (by kernel_rfl) (by kernel_rfl) (by kernel_rfl) (fun _ _ _ h => h) hHeld (Or.inl ⟨by rfl, ?_⟩) ?_
      rotate_left
      · (intro w hSw; (try dsimp only at hSw); go_simp; try with_reducible rfl)
      simp only [Act.put, List.setIfInBounds_toArray, List.set_cons_zero, List.set_cons_succ]
      refine take_at 23 (v := ?_) rfl (by kernel_rfl) (by kernel_rfl) (by kernel_rfl) (fun _ _ _ h => h) hHeld (Or.inl ⟨by rfl, ?_⟩) ?_
      rotate_left
      · (intro w hSw; (try dsimp only at hSw); go_simp; try with_reducible rfl)
      simp only [Act.put, List.setIfInBounds_toArray, List.set_cons_zero, List.set_cons_succ]
      refine wpAnyH_done (by kernel_rfl) ?_ _
      go_wp2_with fail
      go_ret
      exact ⟨rfl, HE.out _ z1⟩
    · have HV : Hid (isNx rs A t = false) := by show _ = _; unfold isNx; rw [decide_eq_false hA2]; rfl
      rw [HV.out]
      have HE : Hid (Below w.heap.size w W2.drew) := chainB HK.out.bel BR.out
      have d1 : decide ((A : Int) < (rs.length : Int)) = false := decide_eq_false (by omega)
      clear hR hz hr hT HV hC HK
      go_enter Tryz.func142, Tryz.ntmps142
      go_upto_region 1 with fail
      rw [← HW2.out]
      refine wp_region_held_drew (S := (fun w' => (w'.cell? ⟨w.heap.size, 1, none⟩ = some (.slice q rs.length cq)) ∧ w'.cell? ⟨w.heap.size + 1, 0, none⟩ = some (.string t) ∧ w'.cell? ⟨w.heap.size + 1, 1, none⟩ = some (.int .i64 C) ∧ w'.cell? ⟨w.heap.size + 1, 6, none⟩ = some (.int .i64 (A : Int)))) (by kernel_rfl) (HX.out _ BR.out) (fun hHeld => ?_)
      refine take_at 0 (v := ?_) rfl (by kernel_rfl) (by kernel_rfl) (by kernel_rfl) (fun _ _ _ h => h) hHeld (Or.inl ⟨by rfl, ?_⟩) ?_
      rotate_left
      · (intro w hSw; (try dsimp only at hSw); go_simp; try with_reducible rfl)
      simp only [Act.put, List.setIfInBounds_toArray, List.set_cons_zero, List.set_cons_succ]
      refine take_at 1 (v := ?_) rfl (by kernel_rfl) (by kernel_rfl) (by kernel_rfl) (fun _ _ _ h => h) hHeld (Or.inl ⟨by rfl, ?_⟩) ?_
      rotate_left
      · (intro w hSw; (try dsimp only at hSw); go_simp; try with_reducible rfl)
      simp only [Act.put, List.setIfInBounds_toArray, List.set_cons_zero, List.set_cons_succ]
      refine take_at 2 (v := ?_) rfl (by kernel_rfl) (by kernel_rfl) (by kernel_rfl) (fun _ _ _ h => h) hHeld (Or.inl ⟨by rfl, ?_⟩) ?_
      rotate_left
      · (intro w hSw; (try dsimp only at hSw); go_simp; try with_reducible rfl)
      simp only [Act.put, List.setIfInBounds_toArray, List.set_cons_zero, List.set_cons_succ]
      refine take_at 3 (v := ?_) rfl (by kernel_rfl) (by kernel_rfl) (by kernel_rfl) (fun _ _ _ h => h) hHeld (Or.inl ⟨by rfl, ?_⟩) ?_
      rotate_left
      · (intro w hSw; (try dsimp only at hSw); go_simp; try with_reducible rfl)
      simp only [Act.put, List.setIfInBounds_toArray, List.set_cons_zero, List.set_cons_succ]
      refine take_at 4 (v := ?_) rfl (by kernel_rfl) (by kernel_rfl) (by kernel_rfl) (fun _ _ _ h => h) hHeld (Or.inl ⟨by rfl, ?_⟩) ?_
      rotate_left
      · (intro w hSw; (try dsimp only at hSw); go_simp; try with_reducible rfl)
      simp only [Act.put, List.setIfInBounds_toArray, List.set_cons_zero, List.set_cons_succ]
      refine take_at 5 (v := ?_) rfl (by kernel_rfl) (by kernel_rfl) (by kernel_rfl) (fun _ _ _ h => h) hHeld (Or.inl ⟨by rfl, ?_⟩) ?_
      rotate_left
      · (intro w hSw; (try dsimp only at hSw); go_simp; try with_reducible rfl)
      simp only [Act.put, List.setIfInBounds_toArray, List.set_cons_zero, List.set_cons_succ]
      refine take_at 6 (v := ?_) rfl (by kernel_rfl) (by kernel_rfl) (by kernel_rfl) (fun _ _ _ h => h) hHeld (Or.inl ⟨by rfl, ?_⟩) ?_
      rotate_left
      · (intro w hSw; (try dsimp only at hSw); go_simp; try with_reducible rfl)
      simp only [Act.put, List.setIfInBounds_toArray, List.set_cons_zero, List.set_cons_succ]
      refine take_at 7 (v := ?_) rfl (by kernel_rfl) (by kernel_rfl) (by kernel_rfl) (fun _ _ _ h => h) hHeld (Or.inl ⟨by rfl, ?_⟩) ?_
      rotate_left
      · (intro w hSw; (try dsimp only at hSw); go_simp; try with_reducible rfl)
      simp only [Act.put, List.setIfInBounds_toArray, List.set_cons_zero, List.set_cons_succ]
      refine take_at 8 (v := ?_) rfl (by kernel_rfl) (by kernel_rfl) (by kernel_rfl) (fun _ _ _ h => h) hHeld (Or.inl ⟨by rfl, ?_⟩) ?_
      rotate_left
      · (intro w hSw; (try dsimp only at hSw); go_simp; try with_reducible rfl)
      simp only [Act.put, List.setIfInBounds_toArray, List.set_cons_zero, List.set_cons_succ]
      refine take_at 9 (v := ?_) rfl (by kernel_rfl) (by kernel_rfl) (by kernel_rfl) (fun _ _ _ h => h) hHeld (Or.inl ⟨by rfl, ?_⟩) ?_
      rotate_left
      · (intro w hSw; (try dsimp only at hSw); go_simp; try with_reducible rfl)
      simp only [Act.put, List.setIfInBounds_toArray, List.set_cons_zero, List.set_cons_succ]
      refine take_at 10 (v := ?_) rfl (by kernel_rfl) (by kernel_rfl) (by kernel_rfl) (fun _ _ _ h => h) hHeld (Or.inl ⟨by rfl, ?_⟩) ?_
      rotate_left
      · (intro w hSw; (try dsimp only at hSw); go_simp; try with_reducible rfl)
      simp only [Act.put, List.setIfInBounds_toArray, List.set_cons_zero, List.set_cons_succ]
      refine take_at 11 (v := ?_) rfl (by kernel_rfl) (by kernel_rfl) (by kernel_rfl) (fun _ _ _ h => h) hHeld (Or.inl ⟨by rfl, ?_⟩) ?_
      rotate_left
      · (intro w hSw; (try dsimp only at hSw); go_simp; try with_reducible rfl)
      simp only [Act.put, List.setIfInBounds_toArray, List.set_cons_zero, List.set_cons_succ]
      refine take_at 12 (v := undef) rfl (by kernel_rfl) (by kernel_rfl) (by kernel_rfl) (fun _ _ _ h => h) hHeld (Or.inr ⟨by rfl, rfl⟩) ?_
      simp only [Act.put, List.setIfInBounds_toArray, List.set_cons_zero, List.set_cons_succ]
      refine take_at 13 (v := undef) rfl (by kernel_rfl) (by kernel_rfl) (by kernel_rfl) (fun _ _ _ h => h) hHeld (Or.inr ⟨by rfl, rfl⟩) ?_
      simp only [Act.put, List.setIfInBounds_toArray, List.set_cons_zero, List.set_cons_succ]
      refine take_at 14 (v := undef) rfl (by kernel_rfl) (by kernel_rfl) (by kernel_rfl) (fun _ _ _ h => h) hHeld (Or.inr ⟨by rfl, rfl⟩) ?_
      simp only [Act.put, List.setIfInBounds_toArray, List.set_cons_zero, List.set_cons_succ]
      refine take_at 15 (v := undef) rfl (by kernel_rfl) (by kernel_rfl) (by kernel_rfl) (fun _ _ _ h => h) hHeld (Or.inr ⟨by rfl, rfl⟩) ?_
      simp only [Act.put, List.setIfInBounds_toArray, List.set_cons_zero, List.set_cons_succ]
      refine take_at 16 (v := undef) rfl (by kernel_rfl) (by kernel_rfl) (by kernel_rfl) (fun _ _ _ h => h) hHeld (Or.inr ⟨by rfl, rfl⟩) ?_
      simp only [Act.put, List.setIfInBounds_toArray, List.set_cons_zero, List.set_cons_succ]
      refine take_at 17 (v := undef) rfl (by kernel_rfl) (by kernel_rfl) (by kernel_rfl) (fun _ _ _ h => h) hHeld (Or.inr ⟨by rfl, rfl⟩) ?_
      simp only [Act.put, List.setIfInBounds_toArray, List.set_cons_zero, List.set_cons_succ]
      refine take_at 18 (v := undef) rfl (by kernel_rfl) (by kernel_rfl) (by kernel_rfl) (fun _ _ _ h => h) hHeld (Or.inr ⟨by rfl, rfl⟩) ?_
      simp only [Act.put, List.setIfInBounds_toArray, List.set_cons_zero, List.set_cons_succ]
      refine take_at 19 (v := undef) rfl (by kernel_rfl) (by kernel_rfl) (by kernel_rfl) (fun _ _ _ h => h) hHeld (Or.inr ⟨by rfl, rfl⟩) ?_
      simp only [Act.put, List.setIfInBounds_toArray, List.set_cons_zero, List.set_cons_succ]
      refine take_at 20 (v := undef) rfl (by kernel_rfl) (by kernel_rfl) (by kernel_rfl) (fun _ _ _ h => h) hHeld (Or.inr ⟨by rfl, rfl⟩) ?_
      simp only [Act.put, List.setIfInBounds_toArray, List.set_cons_zero, List.set_cons_succ]
      refine take_at 21 (v := undef) rfl (by kernel_rfl) (by kernel_rfl) (by kernel_rfl) (fun _ _ _ h => h) hHeld (Or.inr ⟨by rfl, rfl⟩) ?_
      simp only [Act.put, List.setIfInBounds_toArray, List.set_cons_zero, List.set_cons_succ]
      refine take_at 22 (v := ?_) rfl (by kernel_rfl) (by kernel_rfl) (by kernel_rfl) (fun _ _ _ h => h) hHeld (Or.inl ⟨by rfl, ?_⟩) ?_
      rotate_left
      · (intro w hSw; (try dsimp only at hSw); go_simp; try with_reducible rfl)
      simp only [Act.put, List.setIfInBounds_toArray, List.set_cons_zero, List.set_cons_succ]
      refine take_at 23 (v := ?_) rfl (by kernel_rfl) (by kernel_rfl) (by kernel_rfl) (fun _ _ _ h => h) hHeld (Or.inl ⟨by rfl, ?_⟩) ?_
      rotate_left
      · (intro w hSw; (try dsimp only at hSw); go_simp; try with_reducible rfl)
      simp only [Act.put, List.setIfInBounds_toArray, List.set_cons_zero, List.set_cons_succ]
      refine wpAnyH_done (by kernel_rfl) ?_ _
      go_wp2_with fail
      go_ret
      exact ⟨rfl, HE.out⟩
  | false =>
    have HV : Hid (isNx rs A t = false) := by
      show _ = _
      cases e : isNx rs A t with
      | false => rfl
      | true =>
        exfalso; apply (by simpa using hq1 : ¬ C = 1)
        rw [hC, lk_iff1, ((nx_iff _ _ _).1 e).2]
        exact rl_isRl _
    rw [HV.out]
    have HE : Hid (Below w.heap.size w W2.drew) := chainB HK.out.bel BR.out
    clear hR hz hr hT HV hC HK
    go_enter Tryz.func142, Tryz.ntmps142
    go_upto_region 1 with fail
    rw [← HW2.out]
    refine wp_region_held_drew (S := (fun w' => (w'.cell? ⟨w.heap.size, 1, none⟩ = some (.slice q rs.length cq)) ∧ w'.cell? ⟨w.heap.size + 1, 0, none⟩ = some (.string t) ∧ w'.cell? ⟨w.heap.size + 1, 1, none⟩ = some (.int .i64 C) ∧ w'.cell? ⟨w.heap.size + 1, 6, none⟩ = some (.int .i64 (A : Int)))) (by kernel_rfl) (HX.out _ BR.out) (fun hHeld => ?_)
    refine take_at 0 (v := ?_) rfl (by kernel_rfl) (by kernel_rfl) (by kernel_rfl) (fun _ _ _ h => h) hHeld (Or.inl ⟨by rfl, ?_⟩) ?_
    rotate_left
    · (intro w hSw; (try dsimp only at hSw); go_simp; try with_reducible rfl)
    simp only [Act.put, List.setIfInBounds_toArray, List.set_cons_zero, List.set_cons_succ]
    refine take_at 1 (v := ?_) rfl (by kernel_rfl) (by kernel_rfl) (by kernel_rfl) (fun _ _ _ h => h) hHeld (Or.inl ⟨by rfl, ?_⟩) ?_
    rotate_left
    · (intro w hSw; (try dsimp only at hSw); go_simp; try with_reducible rfl)
    simp only [Act.put, List.setIfInBounds_toArray, List.set_cons_zero, List.set_cons_succ]
    refine take_at 2 (v := ?_) rfl (by kernel_rfl) (by kernel_rfl) (by kernel_rfl) (fun _ _ _ h => h) hHeld (Or.inl ⟨by rfl, ?_⟩) ?_
    rotate_left
    · (intro w hSw; (try dsimp only at hSw); go_simp; try with_reducible rfl)
    simp only [Act.put, List.setIfInBounds_toArray, List.set_cons_zero, List.set_cons_succ]
    refine take_at 3 (v := ?_) rfl (by kernel_rfl) (by kernel_rfl) (by kernel_rfl) (fun _ _ _ h => h) hHeld (Or.inl ⟨by rfl, ?_⟩) ?_
    rotate_left
    · (intro w hSw; (try dsimp only at hSw); go_simp; try with_reducible rfl)
    simp only [Act.put, List.setIfInBounds_toArray, List.set_cons_zero, List.set_cons_succ]
    refine take_at 4 (v := undef) rfl (by kernel_rfl) (by kernel_rfl) (by kernel_rfl) (fun _ _ _ h => h) hHeld (Or.inr ⟨by rfl, rfl⟩) ?_
    simp only [Act.put, List.setIfInBounds_toArray, List.set_cons_zero, List.set_cons_succ]
    refine take_at 5 (v := undef) rfl (by kernel_rfl) (by kernel_rfl) (by kernel_rfl) (fun _ _ _ h => h) hHeld (Or.inr ⟨by rfl, rfl⟩) ?_
    simp only [Act.put, List.setIfInBounds_toArray, List.set_cons_zero, List.set_cons_succ]
    refine take_at 6 (v := undef) rfl (by kernel_rfl) (by kernel_rfl) (by kernel_rfl) (fun _ _ _ h => h) hHeld (Or.inr ⟨by rfl, rfl⟩) ?_
    simp only [Act.put, List.setIfInBounds_toArray, List.set_cons_zero, List.set_cons_succ]
    refine take_at 7 (v := undef) rfl (by kernel_rfl) (by kernel_rfl) (by kernel_rfl) (fun _ _ _ h => h) hHeld (Or.inr ⟨by rfl, rfl⟩) ?_
    simp only [Act.put, List.setIfInBounds_toArray, List.set_cons_zero, List.set_cons_succ]
    refine take_at 8 (v := undef) rfl (by kernel_rfl) (by kernel_rfl) (by kernel_rfl) (fun _ _ _ h => h) hHeld (Or.inr ⟨by rfl, rfl⟩) ?_
    simp only [Act.put, List.setIfInBounds_toArray, List.set_cons_zero, List.set_cons_succ]
    refine take_at 9 (v := undef) rfl (by kernel_rfl) (by kernel_rfl) (by kernel_rfl) (fun _ _ _ h => h) hHeld (Or.inr ⟨by rfl, rfl⟩) ?_
    simp only [Act.put, List.setIfInBounds_toArray, List.set_cons_zero, List.set_cons_succ]
    refine take_at 10 (v := ?_) rfl (by kernel_rfl) (by kernel_rfl) (by kernel_rfl) (fun _ _ _ h => h) hHeld (Or.inl ⟨by rfl, ?_⟩) ?_
    rotate_left
    · (intro w hSw; (try dsimp only at hSw); go_simp; try with_reducible rfl)
    simp only [Act.put, List.setIfInBounds_toArray, List.set_cons_zero, List.set_cons_succ]
    refine take_at 11 (v := ?_) rfl (by kernel_rfl) (by kernel_rfl) (by kernel_rfl) (fun _ _ _ h => h) hHeld (Or.inl ⟨by rfl, ?_⟩) ?_
    rotate_left
    · (intro w hSw; (try dsimp only at hSw); go_simp; try with_reducible rfl)
    simp only [Act.put, List.setIfInBounds_toArray, List.set_cons_zero, List.set_cons_succ]
    refine take_at 12 (v := undef) rfl (by kernel_rfl) (by kernel_rfl) (by kernel_rfl) (fun _ _ _ h => h) hHeld (Or.inr ⟨by rfl, rfl⟩) ?_
    simp only [Act.put, List.setIfInBounds_toArray, List.set_cons_zero, List.set_cons_succ]
    refine take_at 13 (v := undef) rfl (by kernel_rfl) (by kernel_rfl) (by kernel_rfl) (fun _ _ _ h => h) hHeld (Or.inr ⟨by rfl, rfl⟩) ?_
    simp only [Act.put, List.setIfInBounds_toArray, List.set_cons_zero, List.set_cons_succ]
    refine take_at 14 (v := undef) rfl (by kernel_rfl) (by kernel_rfl) (by kernel_rfl) (fun _ _ _ h => h) hHeld (Or.inr ⟨by rfl, rfl⟩) ?_
    simp only [Act.put, List.setIfInBounds_toArray, List.set_cons_zero, List.set_cons_succ]
    refine take_at 15 (v := undef) rfl (by kernel_rfl) (by kernel_rfl) (by kernel_rfl) (fun _ _ _ h => h) hHeld (Or.inr ⟨by rfl, rfl⟩) ?_
    simp only [Act.put, List.setIfInBounds_toArray, List.set_cons_zero, List.set_cons_succ]
    refine take_at 16 (v := undef) rfl (by kernel_rfl) (by kernel_rfl) (by kernel_rfl) (fun _ _ _ h => h) hHeld (Or.inr ⟨by rfl, rfl⟩) ?_
    simp only [Act.put, List.setIfInBounds_toArray, List.set_cons_zero, List.set_cons_succ]
    refine take_at 17 (v := undef) rfl (by kernel_rfl) (by kernel_rfl) (by kernel_rfl) (fun _ _ _ h => h) hHeld (Or.inr ⟨by rfl, rfl⟩) ?_
    simp only [Act.put, List.setIfInBounds_toArray, List.set_cons_zero, List.set_cons_succ]
    refine take_at 18 (v := undef) rfl (by kernel_rfl) (by kernel_rfl) (by kernel_rfl) (fun _ _ _ h => h) hHeld (Or.inr ⟨by rfl, rfl⟩) ?_
    simp only [Act.put, List.setIfInBounds_toArray, List.set_cons_zero, List.set_cons_succ]
    refine take_at 19 (v := undef) rfl (by kernel_rfl) (by kernel_rfl) (by kernel_rfl) (fun _ _ _ h => h) hHeld (Or.inr ⟨by rfl, rfl⟩) ?_
    simp only [Act.put, List.setIfInBounds_toArray, List.set_cons_zero, List.set_cons_succ]
    refine take_at 20 (v := undef) rfl (by kernel_rfl) (by kernel_rfl) (by kernel_rfl) (fun _ _ _ h => h) hHeld (Or.inr ⟨by rfl, rfl⟩) ?_
    simp only [Act.put, List.setIfInBounds_toArray, List.set_cons_zero, List.set_cons_succ]
    refine take_at 21 (v := undef) rfl (by kernel_rfl) (by kernel_rfl) (by kernel_rfl) (fun _ _ _ h => h) hHeld (Or.inr ⟨by rfl, rfl⟩) ?_
    simp only [Act.put, List.setIfInBounds_toArray, List.set_cons_zero, List.set_cons_succ]
    refine take_at 22 (v := ?_) rfl (by kernel_rfl) (by kernel_rfl) (by kernel_rfl) (fun _ _ _ h => h) hHeld (Or.inl ⟨by rfl, ?_⟩) ?_
    rotate_left
    · (intro w hSw; (try dsimp only at hSw); go_simp; try with_reducible rfl)
    simp only [Act.put, List.setIfInBounds_toArray, List.set_cons_zero, List.set_cons_succ]
    refine take_at 23 (v := ?_) rfl (by kernel_rfl) (by kernel_rfl) (by kernel_rfl) (fun _ _ _ h => h) hHeld (Or.inl ⟨by rfl, ?_⟩) ?_
    rotate_left
    · (intro w hSw; (try dsimp only at hSw); go_simp; try with_reducible rfl)
    simp only [Act.put, List.setIfInBounds_toArray, List.set_cons_zero, List.set_cons_succ]
    refine wpAnyH_done (by kernel_rfl) ?_ _
    go_wp2_with fail
    go_ret
    exact ⟨rfl, HE.out⟩
set_option maxHeartbeats 4000000 in
theorem isTombAhead_any (p : Option Addr) (lv : List ByteArray) (cp : Nat) (q : Option Addr) (rs : List Rw) (cq : Nat) (now : Int) (t : ByteArray) (C n1 n2 n3 n4 : Int) (A : Nat) (w : World) :
    Calls Tryz.prog 143 #[.agg (wkC p lv cp q rs cq now), .agg #[.string t, .int .i64 C, .int .i64 n1, .int .i64 n2, .int .i64 n3, .int .i64 n4, .int .i64 (A : Int)]] w fun e w' => e = .returned (.bool ((C == 2) && (decide (n1 < (A : Int)) && decide (n4 ≤ now)))) ∧ Below w.heap.size w w' := by
  have HB : Hid (Below w.heap.size w ((w.alloc (.cells #[.slice p lv.length cp, .slice q rs.length cq, .int .i64 now] 109)).alloc (.cells #[.string t, .int .i64 C, .int .i64 n1, .int .i64 n2, .int .i64 n3, .int .i64 n4, .int .i64 (A : Int)] 188))) := ((Below.refl _ _).alloc (Nat.le_refl _) _).alloc (by simp) _
  unfold wkC
  cases h1 : (C == 2) with
  | false =>
    go_enter Tryz.func143, Tryz.ntmps143
    go_wp2_with fail
    go_ret
    exact ⟨rfl, HB.out⟩
  | true =>
    cases h2 : decide (n1 < (A : Int)) with
    | false =>
      go_enter Tryz.func143, Tryz.ntmps143
      go_wp2_with fail
      go_ret
      exact ⟨rfl, HB.out⟩
    | true =>
      cases h3 : decide (n4 ≤ now) with
      | false =>
        go_enter Tryz.func143, Tryz.ntmps143
        go_wp2_with fail
        go_ret
        exact ⟨rfl, HB.out⟩
      | true =>
        go_enter Tryz.func143, Tryz.ntmps143
        go_wp2_with fail
        go_ret
        exact ⟨rfl, HB.out⟩
theorem rsB_no {rs : List Rw} {now : Int} {i : Nat} (hi : i < rs.length) (h : (rB rs[i] && decide (rs[i].a ≤ now)) = false) : rsB rs now = false := by
  unfold rsB
  rw [List.all_eq_false]
  exact ⟨_, List.getElem_mem hi, by rw [h]; exact Bool.false_ne_true⟩
theorem rsB_yes {rs : List Rw} {now : Int} (h : ∀ i (hi : i < rs.length), (rB rs[i] && decide (rs[i].a ≤ now)) = true) : rsB rs now = true := by
  unfold rsB
  rw [List.all_eq_true]
  intro r hr
  obtain ⟨i, hi, rfl⟩ := List.getElem_of_mem hr
  exact h i hi
set_option maxHeartbeats 4000000 in
theorem rowsRight_any (p : Option Addr) (lv : List ByteArray) (cp : Nat) (q : Option Addr) (rs : List Rw) (cq : Nat) (now : Int) (w : World) (hT : Tabs w) (hR : RwAt w q rs) (hn : rs.length ≤ 1048576) (hcq : rs.length ≤ cq) (hz : RwsLe rs) :
    Calls Tryz.prog 102 #[.agg (wkC p lv cp q rs cq now)] w fun e w' => e = .returned (.bool (decide (rs.length ≤ 6) && rsB rs now)) ∧ Below w.heap.size w w' := by
  obtain ⟨W1, hW1⟩ : ∃ W1, W1 = w.alloc (.cells #[.slice p lv.length cp, .slice q rs.length cq, .int .i64 now] 109) := ⟨_, rfl⟩
  have HW1 : Hid (W1 = w.alloc (.cells #[.slice p lv.length cp, .slice q rs.length cq, .int .i64 now] 109)) := hW1
  have K1 : Hid (Bxs W1 w.heap.size 109 #[.slice p lv.length cp, .slice q rs.length cq, .int .i64 now]) := by rw [hW1]; exact Bxs.new _ _ _
  have B1 : Hid (Below w.heap.size w W1) := by rw [hW1]; exact (Below.refl _ _).alloc (Nat.le_refl _) _
  have HT1 : Hid (Tabs W1) := hT.to B1.out
  have HR1 : Hid (RwAt W1 q rs) := hR.below B1.out
  have HZ : Hid (RwsLe rs) := hz
  unfold wkC
  clear hW1 hT hR hz
  by_cases h6 : rs.length ≤ 6
  · rw [decide_eq_true h6, Bool.true_and]
    have d1 : decide ((6 : Int) < (rs.length : Int)) = false := decide_eq_false (by omega)
    have x1 := K1.out.cell 1
    rw [HW1.out] at x1
    go_enter Tryz.func102, Tryz.ntmps102
    go_wp2_with fail
    rw [← HW1.out]
    clear x1
    go_loopw [12] (fun i wr => ∃ k : Nat, k ≤ rs.length ∧ i = .int .i64 k ∧ Hid (Below W1.heap.size W1 wr) ∧ Hid (∀ j (h : j < rs.length), j < k → (rB rs[j] && decide (rs[j].a ≤ now)) = true)) (fun i _ => rs.length - (Go.RowKit.intOf i).toNat)
    case atStart => exact ⟨0, Nat.zero_le _, rfl, Below.refl _ _, fun j h hk => by omega⟩
    case round =>
      obtain ⟨i, hi, rfl, HB, HF⟩ := hrel
      by_cases hlt : i < rs.length
      · have i1 : (i : Int) < rs.length := by omega
        have x2 := (K1.out.below HB.out).cell 2
        obtain ⟨b, off, rq, rc, rfl, hb0, c0, c1, c2, c3, c4⟩ := (HR1.out.below HB.out) i hlt
        have hzz := HZ.out _ (List.getElem_mem hlt)
        have HA : Hid (Bxs (wr.alloc (.cells #[.string rs[i].k, .int .i64 rs[i].a, .slice rq rs[i].fs.length rc] 96)) wr.heap.size 96 #[.string rs[i].k, .int .i64 rs[i].a, .slice rq rs[i].fs.length rc]) := Bxs.new _ _ _
        have HBa : Hid (Below wr.heap.size wr (wr.alloc (.cells #[.string rs[i].k, .int .i64 rs[i].a, .slice rq rs[i].fs.length rc] 96))) := (Below.refl _ _).alloc (Nat.le_refl _) _
        have hQ := implRowRight_any rs[i].k rs[i].a rq rc rs[i].fs (wr.alloc (.cells #[.string rs[i].k, .int .i64 rs[i].a, .slice rq rs[i].fs.length rc] 96)) ((HT1.out.to HB.out).to HBa.out) (c4.below HBa.out) hzz.1 c3 hzz.2.1 hzz.2.2
        have HN : Hid ((rB rs[i] && decide (rs[i].a ≤ now)) = false → rsB rs now = false) := fun h => rsB_no hlt h
        have HF1 : Hid ((rB rs[i] && decide (rs[i].a ≤ now)) = true → ∀ j (h : j < rs.length), j < i + 1 → (rB rs[j] && decide (rs[j].a ≤ now)) = true) := fun h0 j h hj => if he : j = i then by subst he; exact h0 else HF.out j h (by omega)
        have HM : Hid (∀ x, Below (wr.alloc (.cells #[.string rs[i].k, .int .i64 rs[i].a, .slice rq rs[i].fs.length rc] 96)).heap.size (wr.alloc (.cells #[.string rs[i].k, .int .i64 rs[i].a, .slice rq rs[i].fs.length rc] 96)) x → x.cell? ⟨wr.heap.size, 1, none⟩ = some (.int .i64 rs[i].a) ∧ x.cell? ⟨w.heap.size, 2, none⟩ = some (.int .i64 now) ∧ Below W1.heap.size W1 x) := fun x hx => ⟨(HA.out.below hx).cell 1, (((K1.out.below HB.out).below HBa.out).below hx).cell 2, chainB (chainB HB.out HBa.out) hx⟩
        change Calls _ _ _ _ (fun e w' => e = .returned (.bool (rB rs[i])) ∧ _) at hQ
        generalize rB rs[i] = RB at *
        generalize rs[i].k = rk at *
        generalize rs[i].fs.length = fl at *
        clear hzz c3 c4 HF HA HBa x2 hb0
        cases RB with
        | false =>
          have HV := HN.out rfl
          clear HF1 HN
          go_wp2_with fail
          refine hQ.mono ?_
          rintro e y ⟨rfl, by_⟩
          obtain ⟨y1, y2, yb⟩ := HM.out y by_
          clear hQ HM by_ c0 c1 c2
          go_wp2_with fail
          go_ret
          exact ⟨by rw [HV]; rfl, chainB B1.out yb⟩
        | true =>
          cases hd : decide (rs[i].a ≤ now) with
          | false =>
            have HV := HN.out (by rw [hd]; rfl)
            have hd2 : decide (now < rs[i].a) = true := decide_eq_true (by have := of_decide_eq_false hd; omega)
            generalize rs[i].a = ra at *
            clear HF1 HN hd
            go_wp2_with fail
            refine hQ.mono ?_
            rintro e y ⟨rfl, by_⟩
            obtain ⟨y1, y2, yb⟩ := HM.out y by_
            clear hQ HM by_ c0 c1 c2
            go_wp2_with fail
            go_ret
            exact ⟨by rw [HV]; rfl, chainB B1.out yb⟩
          | true =>
            have HV := HF1.out (by rw [hd]; rfl)
            have hd2 : decide (now < rs[i].a) = false := decide_eq_false (by have := of_decide_eq_true hd; omega)
            have HV2 : Hid (∀ j (h : j < rs.length), j < i + 1 → (rB rs[j] && decide (rs[j].a ≤ now)) = true) := HV
            generalize rs[i].a = ra at *
            clear HF1 HN hd HV
            go_wp2_with fail
            refine hQ.mono ?_
            rintro e y ⟨rfl, by_⟩
            obtain ⟨y1, y2, yb⟩ := HM.out y by_
            clear hQ HM by_ c0 c1 c2
            go_wp2_with fail
            go_roundw
            case rel => exact ⟨i + 1, by omega, by simp, yb, HV2.out⟩
            case measure => simp [Go.RowKit.intOf]; omega
      · obtain rfl : i = rs.length := by omega
        have HV := rsB_yes (fun j h => HF.out j h h)
        go_wp2_with fail
        go_ret
        exact ⟨by rw [HV]; rfl, chainB B1.out HB.out⟩
  · rw [decide_eq_false h6, Bool.false_and]
    have d1 : decide ((6 : Int) < (rs.length : Int)) = true := decide_eq_true (by omega)
    go_enter Tryz.func102, Tryz.ntmps102
    go_wp2_with fail
    go_ret
    rw [← HW1.out]
    exact ⟨rfl, B1.out⟩
end Go.Proofs.YtokkeadbkeehgaaGreatDoor
/-
  A range over a function whose rounds come in a known order: the contract of such an iterator (only the next one that is due must be borne by the body), and the law for the statement.
-/
namespace Go.Proofs.YtokkeadbkeehgaaGreatDoor
open Go.RowKit
set_option linter.unusedVariables false
variable {F : Fence} {n : Nat} {P : Program}

/-- The iterator's contract: 'Nx pre x': x is what comes when pre has come. -/
def SeqX {α : Type} (F : Fence) (n : Nat) (P : Program) (g : Nat) (lb : Array Value) (encs : α → Array Value) (Kp : World → World → Prop) (Nx : List α → α → Prop) (S Sp : List α → Prop) (w : World) : Prop :=
  ∀ (l : Nat) (J Jx : List α → World → Prop) (W : World), Below w.heap.size w W → AbidesFrom W.heap.size J → AbidesFrom W.heap.size Jx →
    (∀ pre x W1, Nx pre x → J pre W1 → YieldAt F (n - 1) P l (encs x) W1 fun e W' =>
      (e = .returned (.bool true) ∧ J (pre ++ [x]) W' ∧ Kp W1 W') ∨ (e = .returned (.bool false) ∧ Jx (pre ++ [x]) W')) →
    J [] W →
    CallsIn F n P g (#[.func (.yield l) #[] #[]] ++ lb) W fun e W' => (∃ v, e = .returned v) ∧ ((∃ xs, S xs ∧ J xs W') ∨ (∃ pre, Sp pre ∧ Jx pre W'))

/-- What holds beside the caller's own word while the loop goes on: its record, and the block of its deferred calls. -/
def Held2 (k : Nat) (r : Loop) (W : World) : Prop := W.heap[k + 1]? = some (.loop r) ∧ W.heap[k]? = some (.deferred (some []))
theorem Held2.grown {k : Nat} {r : Loop} {A B : World} {row : Option Nat} (h : Held2 k r A) (hg : A.grownBy B row) (hr : ∀ j, row = some j → ∃ o : Obj, A.heap[j]? = some o ∧ o.isWalk = true) : Held2 k r B :=
  ⟨(grownBy_keeps hg hr h.1 rfl).trans h.1, (grownBy_keeps hg hr h.2 rfl).trans h.2⟩
theorem Held2.put {k : Nat} {r : Loop} {W : World} (h : Held2 k r W) (r' : Loop) : Held2 k r' (W.putObj (k + 1) (.loop r')) :=
  ⟨World.putObj_heap_same (Array.getElem?_eq_some_iff.1 h.1).1, (World.putObj_heap_other (by omega)).trans h.2⟩
theorem Held2.kept {k : Nat} {r : Loop} {A B : World} (h : Held2 k r A) (hk : KeepsFrom k A B) : Held2 k r B :=
  ⟨hk.same _ _ (by omega) h.1 rfl, hk.same _ _ (Nat.le_refl _) h.2 rfl⟩

/-- The loop's record, which lies at or beyond k, was turned, and nothing else. -/
def Turned (k l : Nat) (W B : World) : Prop := k ≤ l ∧ ∃ r r' : Loop, W.heap[l]? = some (.loop r) ∧ B = W.putObj l (.loop r')
theorem Turned.cells {k l : Nat} {W B : World} (h : Turned k l W B) {g : Nat} {cs : Array Value} {T : TypeId} {m : Nat × Nat} (hg : W.heap[g]? = some (.cells cs T m)) : B.heap[g]? = some (.cells cs T m) := by
  obtain ⟨-, r, r', h1, rfl⟩ := h
  rw [World.putObj_heap_other (fun e => by subst e; rw [h1] at hg; cases hg)]
  exact hg
theorem Turned.below {k l n₀ : Nat} {W B : World} (h : Turned k l W B) (hn : n₀ ≤ k) : Below n₀ W B := by
  obtain ⟨h0, r, r', h1, rfl⟩ := h
  refine ⟨rfl, rfl, rfl, by simp, fun g hg => World.putObj_heap_other (by omega)⟩
theorem rangeX {α : Type} {g : Operand} {ps : Array Tmp} {assign body : Code} {Q : Exit → Act → World → Prop} {a : Act} {w : World}
    (hro : F.round = none) (h1 : 1 ≤ n) {gf : Nat} {lb : Array Value} (hg : a.eval g = .func (.func gf) #[] lb) (hFg : F.fn gf) (eg : ∀ args w, (callFunc gf args).run P w = .ok (.enter gf args) w)
    {encs : α → Array Value} {Kp : World → World → Prop} {Nx : List α → α → Prop} {S Sp : List α → Prop} {w0 : World} (hseq : SeqX F (n - 1) P gf lb encs Kp Nx S Sp w0)
    (hKt : ∀ {A B C : World}, Kp A B → Kp B C → Kp A C) (hKb : ∀ (W : World) (l : Nat) (o o' : Obj), w.heap.size ≤ l → W.heap[l]? = some o → o.isCells = false → o.isWalk = false → Kp W (W.putObj l o')) (hb0 : Below w0.heap.size w0 w) (hps : ∀ x, (encs x).size = ps.size)
    (I : List α → World → Prop) (Ix : Code → List α → World → Prop) (hI : OwnFrom w.heap.size I) (hIx : ∀ c, OwnFrom w.heap.size (Ix c)) (h0 : I [] w)
    (hround : ∀ (l : Nat) (pre : List α) (x : α) (W : World), Nx pre x → I pre W → w.heap.size ≤ l →
      assign.wpIn (F.inRound l) (n - 1 - 1) P (Exit.then (fun a₁ W₁ => KeepsFrom w.heap.size W W₁ ∧ Kp W W₁ ∧ ∀ B, Turned w.heap.size l W₁ B → body.wpIn (F.inRound l) (n - 1 - 1) P (ownPostG w.heap.size Kp I Ix (pre ++ [x]) B) a₁ B) (fun _ _ _ => False))
        { tmps := (ps.zip (encs x)).foldl (fun t (p, v) => t.setIfInBounds p v) a.tmps, defers := [] } W)
    (hdone : ∀ (D : Nat) (xs : List α) (W : World), w.heap.size ≤ D → S xs → I xs W → W.heap[D]? = some (.deferred (some [])) → Q .normal { a with defers := { target := .collected D, args := #[] } :: a.defers } W)
    (hstop : ∀ (D : Nat) (c : Code) (pre : List α) (W : World), w.heap.size ≤ D → Sp pre → Ix c pre W → W.heap[D]? = some (.deferred (some [])) → c.wpIn F n P Q { a with defers := { target := .collected D, args := #[] } :: a.defers } W) :
    (Code.rangeFunc g ps assign body).wpIn F n P Q a w := by
  refine wpIn_rangeFunc fun fn hfn => ?_
  rw [hro]
  let R (st : LoopState) (pe : Option Code) : Loop := { state := st, pending := pe, fn := fn, tmps := a.tmps, params := ps, assign := assign, body := body, defers := w.heap.size }
  obtain ⟨W1, hW1⟩ : ∃ W1, W1 = (w.alloc (.deferred (some []))).alloc (.loop (R .ready none)) := ⟨_, rfl⟩
  have hz : W1.heap.size = w.heap.size + 2 := by rw [hW1]; simp
  have hH1 : Held2 w.heap.size (R .ready none) W1 := by
    rw [hW1]
    refine ⟨?_, (Below.heap_alloc _ _ _ (by simp)).trans (World.alloc_heap_new w _)⟩
    have := World.alloc_heap_new (w.alloc (.deferred (some []))) (.loop (R .ready none))
    rwa [World.size_alloc] at this
  have hI1 : I [] W1 := by rw [hW1]; exact hI.alloc _ (hI.alloc _ h0)
  have hb1 : Below w0.heap.size w0 W1 := by
    rw [hW1]; exact hb0.trans ((((Below.refl _ w).alloc (Nat.le_refl _) _).alloc (by simp) _).mono hb0.size)
  refine ⟨w.heap.size + 1, [{ target := .collected w.heap.size, args := #[] }], W1, { target := .fn (.func gf) lb, args := #[.func (.yield (w.heap.size + 1)) #[] #[]] }, W1, gf, #[.func (.yield (w.heap.size + 1)) #[] #[]] ++ lb, W1, ?_, ?_, ?_, ?_, fun _ => h1, ?_⟩
  · rw [hW1]; exact run_enterLoop_outer _ _ _ _ _
  · simp only [resolve, hg]; simp [go_sem]
  · intro f' hf'; simp [Target.leads] at hf'; subst hf'; exact hFg
  · simp [invoke, go_sem, eg]
  have up : ∀ {A : World} {row : Option Nat}, (∀ r, row = some r → W1.heap.size ≤ r ∧ ∃ o : Obj, A.heap[r]? = some o ∧ o.isWalk = true) → ∀ r, row = some r → w.heap.size ≤ r ∧ ∃ o : Obj, A.heap[r]? = some o ∧ o.isCells = false := fun hr r e => by
    obtain ⟨q, o, ho, hw⟩ := hr r e
    exact ⟨by omega, o, ho, Obj.not_cells_of_walk hw⟩
  refine (hseq (w.heap.size + 1) (fun pre W => I pre W ∧ Held2 w.heap.size (R .ready none) W) (fun pre W => ∃ c, Ix c pre W ∧ Held2 w.heap.size (R .done (some c)) W) W1 hb1 (fun s A B row hs hgr hr => ⟨hI s A B row hs.1 hgr (up hr), hs.2.grown hgr (fun r e => (hr r e).2)⟩) (fun s A B row hs hgr hr => ?_) ?_ ⟨hI1, hH1⟩).mono ?_
  · obtain ⟨c, hc, hh⟩ := hs
    exact ⟨c, hIx c s A B row hc hgr (up hr), hh.grown hgr (fun r e => (hr r e).2)⟩
  · rintro pre x W hN ⟨hi, hh⟩
    have hy := run_yield (P := P) (args := encs x) hh.1 (hps x)
    refine ⟨fn, _, assign, body, hy, roundIn_of_wpIn hfn (wpIn_mono (hround _ pre x W hN hi (by omega)) ?_)⟩
    intro e a1 Wx hp
    cases e with
    | normal =>
      obtain ⟨hkx, hpx, hp⟩ := hp
      have hhx := hh.kept hkx
      have hl2 : Held2 w.heap.size (R .busy none) (Wx.putObj (w.heap.size + 1) (.loop (R .busy none))) := hhx.put _
      have hk2 : Kp W (Wx.putObj (w.heap.size + 1) (.loop (R .busy none))) := hKt hpx (hKb _ _ _ _ (by omega) hhx.1 rfl rfl)
      refine ⟨_, run_beginRound hhx.1 rfl, wpIn_mono (hp _ ⟨by omega, _, _, hhx.1, rfl⟩) ?_⟩
      have fin : ∀ (jump : Option Code) (W3 : World), KeepsFrom w.heap.size (Wx.putObj (w.heap.size + 1) (.loop (R .busy none))) W3 →
          (Instr.endRound (w.heap.size + 1) jump).run P W3 = .ok (.bool jump.isNone) (W3.putObj (w.heap.size + 1) (.loop (R (if jump.isNone then .ready else .done) jump))) ∧ Held2 w.heap.size (R .busy none) W3 := fun jump W3 hk3 => by
        have hl3 := hl2.kept hk3
        exact ⟨run_endRound (P := P) jump hl3.1, hl3⟩
      rintro e a3 W3 hp
      have leave : ∀ c : Code, KeepsFrom w.heap.size (Wx.putObj (w.heap.size + 1) (.loop (R .busy none))) W3 → Ix c (pre ++ [x]) W3 → ∃ v w', (Instr.endRound (w.heap.size + 1) (some c)).run P W3 = .ok v w' ∧ (((Ending.returned v = .returned (.bool true)) ∧ (I (pre ++ [x]) w' ∧ Held2 w.heap.size (R .ready none) w') ∧ Kp W w') ∨ (Ending.returned v = .returned (.bool false) ∧ ∃ c, Ix c (pre ++ [x]) w' ∧ Held2 w.heap.size (R .done (some c)) w')) := fun c hk3 hi3 => by
        obtain ⟨hr, hl3⟩ := fin (some c) W3 hk3
        exact ⟨_, _, hr, .inr ⟨rfl, c, (hIx _).putObj _ hi3 (by omega) hl3.1 rfl, hl3.put _⟩⟩
      cases e with
      | normal =>
        obtain ⟨hk3, hkp3, hi3⟩ := hp
        obtain ⟨hr, hl3⟩ := fin none W3 hk3
        exact ⟨_, _, hr, .inl ⟨rfl, ⟨hI.putObj _ hi3 (by omega) hl3.1 rfl, hl3.put _⟩, hKt (hKt hk2 hkp3) (hKb _ _ _ _ (by omega) hl3.1 rfl rfl)⟩⟩
      | ret => exact leave .ret hp.1 hp.2
      | exit id => exact leave (.exit id) hp.1 hp.2
      | goto t => exact leave (.goto t) hp.1 hp.2
      | panic ch => exact hp.elim
      | outgrown => exact hp.elim
    | ret => exact hp.elim
    | exit id => exact hp.elim
    | goto t => exact hp.elim
    | panic ch => exact hp.elim
    | outgrown => exact hp.elim
  · rintro e W2 ⟨⟨v, rfl⟩, (⟨xs, hS, hi, hh⟩ | ⟨pre, hSp, c, hi, hh⟩)⟩
    · exact ⟨none, _, run_endLoop (P := P) hh.1 (by simp [R]), hdone _ xs _ (Nat.le_refl _) hS (hI.putObj _ hi (by omega) hh.1 rfl) ((World.putObj_heap_other (by omega)).trans hh.2)⟩
    · exact ⟨some c, _, run_endLoop (P := P) hh.1 (by simp [R]), hstop _ c pre _ (Nat.le_refl _) hSp ((hIx c).putObj _ hi (by omega) hh.1 rfl) ((World.putObj_heap_other (by omega)).trans hh.2)⟩

/-! ### A region that draws its order, within a round: the plain walk serves, where no operation defers -/
def noDefer (ops : Array Oper) : Bool := ops.toList.all fun o => match o.op with | .defer _ => false | _ => true
theorem noDefer_spec {ops : Array Oper} (h : noDefer ops = true) {i : Nat} {o : Oper} (ho : ops[i]? = some o) : ∀ c, o.op ≠ .defer c := by
  intro c e
  unfold noDefer at h
  rw [List.all_eq_true] at h
  have := h o (by rw [Array.mem_toList_iff]; exact Array.mem_of_getElem? ho)
  rw [e] at this
  cases this
theorem rows_round {l m : Nat} {row : String} {args : Array Value} {w : World} {R : Value → World → Prop} (h : Rows P row args w R) : RowsIn (Fence.wide.inRound l) m P row args w R := fun c cs _ => by
  obtain ⟨v, w', r, s⟩ := h c cs
  exact ⟨v, w', r, stepsIn_wide.2 s⟩
theorem op_round {ops : Array Oper} {Q : Exit → Act → World → Prop} {l m i : Nat} {K : Act → World → Prop} {a : Act} {w : World} (hd : noDefer ops = true) (hL : ¬ LetsOut Q) (h : wpOp P ops Q i K a w) : wpOpIn (Fence.wide.inRound l) m P ops Q i K a w := by
  unfold wpOp at h
  unfold wpOpIn
  cases ho : ops[i]? with
  | none => rw [ho] at h; exact h
  | some o =>
    rw [ho] at h
    simp only at h ⊢
    split
    · rename_i hw
      rw [if_pos hw] at h
      rcases h with h | h
      · unfold Oper.wpIn
        refine ⟨fun f _ => trivial, ?_⟩
        rw [Oper.semAt_eq _ _ _ (noDefer_spec hd ho)]
        unfold Oper.wp at h
        generalize (execOp a.eval o).run P w = r at *
        cases r with
        | ok x w' =>
          cases x <;> simp only [Oper.upon, Oper.uponIn] at h ⊢
          case value v => exact h
          case skip => exact h
          case defer d => exact h
          case enter f args =>
            refine ⟨fun e => (by cases e), CallsIn.inRound l (callsIn_wide.2 ?_)⟩
            refine h.mono ?_
            intro e w'' he
            cases e <;> exact he
          case row row args => exact ⟨fun e => (by cases e), rows_round h⟩
        | halt x w' => cases x <;> simp only [Oper.upon, Oper.uponIn] at h ⊢ <;> exact h
      · exact absurd h.2 hL
    · rename_i hw
      rw [if_neg hw] at h
      exact ⟨fun f _ => trivial, h⟩
theorem any_round {md : Region.Mode} {ops : Array Oper} {Q : Exit → Act → World → Prop} {l m : Nat} (hd : noDefer ops = true) (hL : ¬ LetsOut Q) : ∀ (fuel : Nat) (listed : Array Bool) (a : Act) (w : World), wpAny P md ops Q fuel listed a w → wpAnyIn (Fence.wide.inRound l) m P md ops Q fuel listed a w
  | 0, _, _, _, h => h
  | fuel + 1, listed, a, w, h => ⟨h.1, fun i hi => wpOpIn_mono (fun a' w' => any_round hd hL fuel _ a' w') (op_round hd hL (h.2 i hi))⟩
theorem region_round {ops : Array Oper} {Q : Exit → Act → World → Prop} {S : World → Prop} {l m id : Nat} {a : Act} {w : World} (hd : noDefer ops = true) (hL : ¬ LetsOut Q) (hm : P.follows .mixedOrders = true) (hS : S w.drew)
    (h : S w.drew → wpAnyH P .any ops Q S ops.size (Array.replicate ops.size false) a w.drew) : (Code.region id ops true).wpIn (Fence.wide.inRound l) m P Q a w :=
  wpIn_region_any hm (any_round hd hL _ _ _ _ (wpAny_of_held _ _ _ _ (h hS)))
end Go.Proofs.YtokkeadbkeehgaaGreatDoor
