/-
  Parts of one proof, laid as one text: SpecRt, Halves, Tree, TreeH; what each says stands at its head.
-/
import Derived.Test.YtnaonldkbaapeabGreatDoorRows
import Derived.Test.YtnaonldkbaapeabGreatDoorBytesDigMath
import Derived.Test.YtnaonldkbaapeabGreatDoorSlASlBBxKTakesOwnS
import Derived.Test.YtnaonldkbaapeabGreatDoorFldIsAsDAs2CodeOfGrK
import Derived.Test.YtnaonldkbaapeabGreatDoorTreeMath
import Derived.Test.YtnaonldkbaapeabGreatDoorBitsPowerLeafNodeTree2LgRt
import Derived.Test.YtnaonldkbaapeabGreatDoorTimeBPutMathPutNum
import Derived.Test.YtnaonldkbaapeabGreatDoorJoinedPutTextFldMath
import Derived.Test.YtnaonldkbaapeabGreatDoorGetValGetTxtNumMathFldRdNumFromTmbMath
import Derived.Test.YtnaonldkbaapeabGreatDoorLgMathLgAtKShwK
import Derived.Test.YtnaonldkbaapeabGreatDoorLeafKLgAnsSpecTg
import Derived.Test.YtnaonldkbaapeabGreatDoorSpecLr
import Derived.Handy
import Derived.WalkSpells
import Derived.OwnWalk
import Derived.Deep.RegionHeld3
import Derived.Deep.Cut
import Derived.Deep.QuietTactic
import Derived.BigQuiet
/-
  RootOf and HeadText, as the specification answers.
  Conditions: the cells hold the rows and leaves.
-/
namespace Go.Proofs.YtnaonldkbaapeabGreatDoor
open Go.RowKit Go.Lib
set_option linter.unusedVariables false
set_option maxRecDepth 20000

set_option maxHeartbeats 2000000 in
theorem specRootOf_any (p : Option Addr) (lv : List ByteArray) (cp : Nat) (q : Option Addr) (rs : List Rw) (cq : Nat) (now : Int) (r : Int) (w : World) (hA : LgAt p lv cp q rs cq w) :
    Calls Tryz.prog 24 #[.agg #[.slice q rs.length cq, .slice p lv.length cp, .int .i64 now], .int .i64 r] w fun e w' => e = .returned (.string (roO rs lv now r)) ∧ Below w.heap.size w w' := by
  obtain ⟨W1, hW1⟩ : ∃ W1, W1 = w.alloc (.cells #[.slice q rs.length cq, .slice p lv.length cp, .int .i64 now] 29) := ⟨_, rfl⟩
  have HW1 : Hid (W1 = w.alloc (.cells #[.slice q rs.length cq, .slice p lv.length cp, .int .i64 now] 29)) := hW1
  have B1 : Hid (Below w.heap.size w W1) := by rw [hW1]; exact (Below.refl _ _).alloc (Nat.le_refl _) _
  have K1 : Hid (Bxs W1 w.heap.size 29 #[.slice q rs.length cq, .slice p lv.length cp, .int .i64 now]) := by rw [hW1]; exact Bxs.new _ _ _
  have hR := specLogRight_any p lv cp q rs cq now W1 (hA.below B1.out)
  have HV : Hid (roO rs lv now r = if lgB rs lv now = true then (if 0 ≤ r ∧ r ≤ (lv.length : Int) then treeB (lv.take r.toNat) else ByteArray.empty) else ByteArray.empty) := rfl
  have HA : Hid (LgAt p lv cp q rs cq w) := hA
  have hln := hA.ln
  have hlc := hA.lc
  have hIs := fun x => l07Is_any r 0 (lv.length : Int) x
  obtain ⟨x0, x1, x2⟩ : W1.cell? ⟨w.heap.size, 0, none⟩ = some (.slice q rs.length cq) ∧ W1.cell? ⟨w.heap.size, 1, none⟩ = some (.slice p lv.length cp) ∧ W1.cell? ⟨w.heap.size, 2, none⟩ = some (.int .i64 now) := ⟨K1.out.cell 0, K1.out.cell 1, K1.out.cell 2⟩
  rw [HW1.out] at x0 x1 x2
  clear hW1 hA
  cases hg : lgB rs lv now with
  | false =>
    rw [hg] at hR
    rw [hg, if_neg Bool.false_ne_true] at HV
    rw [HV.out]
    go_enter Tryz.func24, Tryz.ntmps24
    go_wp2_with fail
    rw [← HW1.out]
    refine hR.mono ?_
    rintro e y ⟨rfl, by_⟩
    go_wp2_with fail
    go_ret
    exact ⟨rfl, chainB B1.out by_⟩
  | true =>
    rw [hg] at hR
    rw [hg, if_pos rfl] at HV
    by_cases h1 : 0 ≤ r ∧ r ≤ (lv.length : Int)
    · rw [if_pos h1] at HV
      rw [decide_eq_true h1] at hIs
      obtain ⟨K, rfl⟩ : ∃ K : Nat, r = (K : Int) := ⟨r.toNat, by omega⟩
      rw [Int.toNat_natCast] at HV
      have hK : K ≤ lv.length := by omega
      have HT : Hid (∀ x, Below w.heap.size w x → Calls Tryz.prog 54 #[.slice p K cp] x fun e w' => e = .returned (.string (treeB (lv.take K))) ∧ Below x.heap.size x w') := fun x hb => by
        have hl : (lv.take K).length = K := by simp; omega
        have := tree2_any K p cp (lv.take K) x hl ((HA.out.tx.below hb).take K) (by omega) (by omega) (fun t ht => lg_small hg t (List.mem_of_mem_take ht))
        rwa [hl] at this
      rw [HV.out]
      have hs := sl_to p lv.length cp K (by omega)
      clear h1 hg
      generalize treeB (lv.take K) = TB at *
      go_enter Tryz.func24, Tryz.ntmps24
      go_wp2_with fail
      rw [← HW1.out]
      refine hR.mono ?_
      rintro e y ⟨rfl, by_⟩
      clear hR x0 x1 x2
      have x1 := (K1.out.below by_).cell 1
      have hT := HT.out y (chainB B1.out by_)
      have hI := hIs y
      clear HT hIs
      go_wp2_with fail
      refine hI.mono ?_
      rintro e y2 ⟨rfl, rfl⟩
      go_wp2_with fail
      refine hT.mono ?_
      rintro e y3 ⟨rfl, b3⟩
      go_wp2_with fail
      go_ret
      exact ⟨rfl, chainB (chainB B1.out by_) b3⟩
    · rw [if_neg h1] at HV
      rw [decide_eq_false h1] at hIs
      rw [HV.out]
      clear h1 hg
      go_enter Tryz.func24, Tryz.ntmps24
      go_wp2_with fail
      rw [← HW1.out]
      refine hR.mono ?_
      rintro e y ⟨rfl, by_⟩
      clear hR x0 x1 x2
      have x1 := (K1.out.below by_).cell 1
      have hI := hIs y
      clear hIs
      go_wp2_with fail
      refine hI.mono ?_
      rintro e y2 ⟨rfl, rfl⟩
      go_wp2_with fail
      go_ret
      exact ⟨rfl, chainB B1.out by_⟩
set_option maxHeartbeats 2000000 in
theorem l09Head_any (p : Option Addr) (lv : List ByteArray) (cp : Nat) (q : Option Addr) (rs : List Rw) (cq : Nat) (now : Int) (w : World) (hA : LgAt p lv cp q rs cq w) (h100 : ∀ t ∈ lv, t.size ≤ 100) :
    Calls Tryz.prog 56 #[.agg #[.slice q rs.length cq, .slice p lv.length cp, .int .i64 now]] w fun e w' => e = .returned (.string (hdB lv)) ∧ Below w.heap.size w w' := by
  obtain ⟨W1, hW1⟩ : ∃ W1, W1 = w.alloc (.cells #[.slice q rs.length cq, .slice p lv.length cp, .int .i64 now] 29) := ⟨_, rfl⟩
  have HW1 : Hid (W1 = w.alloc (.cells #[.slice q rs.length cq, .slice p lv.length cp, .int .i64 now] 29)) := hW1
  have B1 : Hid (Below w.heap.size w W1) := by rw [hW1]; exact (Below.refl _ _).alloc (Nat.le_refl _) _
  have K1 : Hid (Bxs W1 w.heap.size 29 #[.slice q rs.length cq, .slice p lv.length cp, .int .i64 now]) := by rw [hW1]; exact Bxs.new _ _ _
  have hln := hA.ln
  have BR : Hid (Below W1.heap.size W1 W1.drew) := (Below.refl _ _).drew
  have HX : Hid (∀ x, Below W1.heap.size W1 x → x.cell? ⟨w.heap.size, 1, none⟩ = some (.slice p lv.length cp)) := fun x hb => (K1.out.below hb).cell 1
  have HN : Hid (∀ x, Below W1.heap.size W1 x → Calls Tryz.prog 85 #[.int .i64 (lv.length : Int)] x fun e w' => e = .returned (.string (putB (lv.length : Int))) ∧ Below W1.heap.size W1 w') := fun x hb => (specPutNum_any _ x (by omega) (by omega)).mono (by rintro e y ⟨rfl, b⟩; exact ⟨rfl, chainB hb b⟩)
  have HT : Hid (∀ x, Below W1.heap.size W1 x → Calls Tryz.prog 54 #[.slice p lv.length cp] x fun e w' => e = .returned (.string (treeB lv)) ∧ Below W1.heap.size W1 w') := fun x hb => (tree2_any lv.length p cp lv x rfl ((hA.tx.below B1.out).below hb) (by omega) hA.lc h100).mono (by rintro e y ⟨rfl, b⟩; exact ⟨rfl, chainB hb b⟩)
  have HP : Hid (∀ x, Below W1.heap.size W1 x → Calls Tryz.prog 86 #[.string (treeB lv)] x fun e w' => e = .returned (.string (putTextB (treeB lv))) ∧ Below W1.heap.size W1 w') := fun x hb => (specPutText_any _ x (by rw [treeB_size]; unfold maxLen; omega)).mono (by rintro e y ⟨rfl, b⟩; exact ⟨rfl, chainB hb b⟩)
  have hz1 : (putB (lv.length : Int)).size ≤ 10 := putB_size _
  have hz2 := putTextB_32 (treeB_size lv)
  unfold hdB
  clear hW1 hA h100
  generalize putTextB (treeB lv) = PT at *
  generalize treeB lv = TB at *
  generalize putB (lv.length : Int) = PN at *
  have hcc : ¬ (9223372036854775807 < PN.size + PT.size) := by omega
  go_enter Tryz.func56, Tryz.ntmps56
  go_upto_region 1 with fail
  rw [← HW1.out]
  clear HW1
  have z0 := BR.out
  refine wp_region_held_drew (S := (fun w' => w'.cell? ⟨w.heap.size, 1, none⟩ = some (.slice p lv.length cp))) (by kernel_rfl) (HX.out _ BR.out) (fun hHeld => ?_)
  refine take_at 0 (v := ?_) rfl (by kernel_rfl) (by kernel_rfl) (by kernel_rfl) (fun _ _ _ h => h) hHeld (Or.inl ⟨by rfl, ?_⟩) ?_
  rotate_left
  · (intro w hSw; (try dsimp only at hSw); go_simp; try with_reducible rfl)
  simp only [Act.put, List.setIfInBounds_toArray, List.set_cons_zero, List.set_cons_succ]
  refine take_at 1 (v := ?_) rfl (by kernel_rfl) (by kernel_rfl) (by kernel_rfl) (fun _ _ _ h => h) hHeld (Or.inl ⟨by rfl, ?_⟩) ?_
  rotate_left
  · (intro w hSw; (try dsimp only at hSw); go_simp; try with_reducible rfl)
  simp only [Act.put, List.setIfInBounds_toArray, List.set_cons_zero, List.set_cons_succ]
  refine take_at 2 (v := ?_) rfl (by kernel_rfl) (by kernel_rfl) (by kernel_rfl) (fun _ _ _ h => h) hHeld (Or.inl ⟨by rfl, ?_⟩) ?_
  rotate_left
  · (intro w hSw; (try dsimp only at hSw); go_simp; try with_reducible rfl)
  simp only [Act.put, List.setIfInBounds_toArray, List.set_cons_zero, List.set_cons_succ]
  refine take_at 4 (v := ?_) rfl (by kernel_rfl) (by kernel_rfl) (by kernel_rfl) (fun _ _ _ h => h) hHeld (Or.inl ⟨by rfl, ?_⟩) ?_
  rotate_left
  · (intro w hSw; (try dsimp only at hSw); go_simp; try with_reducible rfl)
  simp only [Act.put, List.setIfInBounds_toArray, List.set_cons_zero, List.set_cons_succ]
  refine take_at 5 (v := ?_) rfl (by kernel_rfl) (by kernel_rfl) (by kernel_rfl) (fun _ _ _ h => h) hHeld (Or.inl ⟨by rfl, ?_⟩) ?_
  rotate_left
  · (intro w hSw; (try dsimp only at hSw); go_simp; try with_reducible rfl)
  simp only [Act.put, List.setIfInBounds_toArray, List.set_cons_zero, List.set_cons_succ]
  refine ready_at 3 rfl (by kernel_rfl) (fun K hK => ?_)
  go_simp
  (go_at_call 85; with_reducible refine (HN.out _ z0).mono ?_; rintro e y1 ⟨rfl, z1⟩)
  refine hK.out _ _ (HX.out _ z1) (fun hHeld => ?_)
  clear hK K
  try simp only [Act.put, List.setIfInBounds_toArray, List.set_cons_zero, List.set_cons_succ]
  refine ready_at 6 rfl (by kernel_rfl) (fun K hK => ?_)
  go_simp
  (go_at_call 54; with_reducible refine (HT.out _ z1).mono ?_; rintro e y2 ⟨rfl, z3⟩)
  refine hK.out _ _ (HX.out _ z3) (fun hHeld => ?_)
  clear hK K
  try simp only [Act.put, List.setIfInBounds_toArray, List.set_cons_zero, List.set_cons_succ]
  refine ready_at 7 rfl (by kernel_rfl) (fun K hK => ?_)
  go_simp
  (go_at_call 86; with_reducible refine (HP.out _ z3).mono ?_; rintro e y3 ⟨rfl, z4⟩)
  refine hK.out _ _ (HX.out _ z4) (fun hHeld => ?_)
  clear hK K
  try simp only [Act.put, List.setIfInBounds_toArray, List.set_cons_zero, List.set_cons_succ]
  refine take_at 8 (v := ?_) rfl (by kernel_rfl) (by kernel_rfl) (by kernel_rfl) (fun _ _ _ h => h) hHeld (Or.inl ⟨by rfl, ?_⟩) ?_
  rotate_left
  · (intro w hSw; (try dsimp only at hSw); go_simp; try with_reducible rfl)
  simp only [Act.put, List.setIfInBounds_toArray, List.set_cons_zero, List.set_cons_succ]
  refine take_at 9 (v := ?_) rfl (by kernel_rfl) (by kernel_rfl) (by kernel_rfl) (fun _ _ _ h => h) hHeld (Or.inl ⟨by rfl, ?_⟩) ?_
  rotate_left
  · (intro w hSw; (try dsimp only at hSw); go_simp; try with_reducible rfl)
  simp only [Act.put, List.setIfInBounds_toArray, List.set_cons_zero, List.set_cons_succ]
  refine wpAnyH_done (by kernel_rfl) ?_ _
  go_wp2_with fail
  go_ret
  exact ⟨rfl, chainB B1.out z4⟩
set_option maxHeartbeats 2000000 in
theorem specHeadText_any (p : Option Addr) (lv : List ByteArray) (cp : Nat) (q : Option Addr) (rs : List Rw) (cq : Nat) (now : Int) (w : World) (hA : LgAt p lv cp q rs cq w) :
    Calls Tryz.prog 26 #[.agg #[.slice q rs.length cq, .slice p lv.length cp, .int .i64 now]] w fun e w' => e = .returned (.string (hdO rs lv now)) ∧ Below w.heap.size w w' := by
  obtain ⟨W1, hW1⟩ : ∃ W1, W1 = w.alloc (.cells #[.slice q rs.length cq, .slice p lv.length cp, .int .i64 now] 29) := ⟨_, rfl⟩
  have HW1 : Hid (W1 = w.alloc (.cells #[.slice q rs.length cq, .slice p lv.length cp, .int .i64 now] 29)) := hW1
  have B1 : Hid (Below w.heap.size w W1) := by rw [hW1]; exact (Below.refl _ _).alloc (Nat.le_refl _) _
  have K1 : Hid (Bxs W1 w.heap.size 29 #[.slice q rs.length cq, .slice p lv.length cp, .int .i64 now]) := by rw [hW1]; exact Bxs.new _ _ _
  have hR := specLogRight_any p lv cp q rs cq now W1 (hA.below B1.out)
  have HV : Hid (hdO rs lv now = if lgB rs lv now = true then hdB lv else ByteArray.empty) := rfl
  have HH : Hid (lgB rs lv now = true → ∀ x, Below w.heap.size w x → Calls Tryz.prog 56 #[.agg #[.slice q rs.length cq, .slice p lv.length cp, .int .i64 now]] x fun e w' => e = .returned (.string (hdB lv)) ∧ Below x.heap.size x w') := fun hg x hb => l09Head_any p lv cp q rs cq now x (hA.below hb) (lg_small hg)
  obtain ⟨x0, x1, x2⟩ : W1.cell? ⟨w.heap.size, 0, none⟩ = some (.slice q rs.length cq) ∧ W1.cell? ⟨w.heap.size, 1, none⟩ = some (.slice p lv.length cp) ∧ W1.cell? ⟨w.heap.size, 2, none⟩ = some (.int .i64 now) := ⟨K1.out.cell 0, K1.out.cell 1, K1.out.cell 2⟩
  rw [HW1.out] at x0 x1 x2
  clear hW1 hA
  cases hg : lgB rs lv now with
  | false =>
    rw [hg] at hR
    rw [hg, if_neg Bool.false_ne_true] at HV
    rw [HV.out]
    go_enter Tryz.func26, Tryz.ntmps26
    go_wp2_with fail
    rw [← HW1.out]
    refine hR.mono ?_
    rintro e y ⟨rfl, by_⟩
    go_wp2_with fail
    go_ret
    exact ⟨rfl, chainB B1.out by_⟩
  | true =>
    rw [hg] at hR
    rw [hg, if_pos rfl] at HV
    rw [HV.out]
    have HH2 : Hid (∀ x, Below w.heap.size w x → Calls Tryz.prog 56 #[.agg #[.slice q rs.length cq, .slice p lv.length cp, .int .i64 now]] x fun e w' => e = .returned (.string (hdB lv)) ∧ Below x.heap.size x w') := HH.out hg
    clear HH hg
    generalize hdB lv = HB at *
    go_enter Tryz.func26, Tryz.ntmps26
    go_wp2_with fail
    rw [← HW1.out]
    refine hR.mono ?_
    rintro e y ⟨rfl, by_⟩
    clear hR x0 x1 x2
    obtain ⟨x0, x1, x2⟩ : y.cell? ⟨w.heap.size, 0, none⟩ = some (.slice q rs.length cq) ∧ y.cell? ⟨w.heap.size, 1, none⟩ = some (.slice p lv.length cp) ∧ y.cell? ⟨w.heap.size, 2, none⟩ = some (.int .i64 now) := ⟨(K1.out.below by_).cell 0, (K1.out.below by_).cell 1, (K1.out.below by_).cell 2⟩
    have hH := HH2.out y (chainB B1.out by_)
    go_wp2_with fail
    refine hH.mono ?_
    rintro e y2 ⟨rfl, b2⟩
    go_wp2_with fail
    go_ret
    exact ⟨rfl, chainB (chainB B1.out by_) b2⟩
end Go.Proofs.YtnaonldkbaapeabGreatDoor
/-
  The program's halves: two slices over the first k and the other entries.
  Conditions: there are 2 or more.
-/
namespace Go.Proofs.YtnaonldkbaapeabGreatDoor
open Go.RowKit Go.Lib
set_option linter.unusedVariables false

theorem belowDr {B : Nat} {a w : World} (h : Below B a w) (n : Nat) : Below B a (w.drewN n) := ⟨h.os, h.tape, h.output, h.size, h.block⟩
set_option maxHeartbeats 400000 in
theorem halves_any (b off n cap : Nat) (w : World) (h2 : 2 ≤ n) (hn : n ≤ 140737488355328) (hcap : n ≤ cap) :
    Calls Tryz.prog 127 #[.slice (some ⟨b, off, none⟩) n cap] w fun e w' =>
      e = .returned (.tuple #[.slice (some ⟨b, off, none⟩) (halfN n) (halfN n), .slice (some ⟨b, off + halfN n, none⟩) (n - halfN n) (n - halfN n)]) ∧ Below w.heap.size w w' := by
  have h1 := halfN_lt h2
  have h0 := halfN_pos n
  have hc := fun w => power_any n w h2 (by omega)
  generalize halfN n = k at *
  have q1 : (k : Int) ≤ cap := by omega
  have q2 : (k : Int) ≤ n := by omega
  have q3 : (n : Int) ≤ cap := by omega
  have q4 : ¬ n = k := by omega
  have q5 : (0 : Int) ≤ k := by omega
  go_enter Tryz.func127, Tryz.ntmps127
  go_wp2_with (go_at_call 140; refine (hc _).mono ?_; rintro e w1 ⟨rfl, rfl⟩)
  go_quiet (fail)
  go_wp2
  go_ret2
  exact ⟨rfl, belowDr (Below.refl _ _) _⟩
end Go.Proofs.YtnaonldkbaapeabGreatDoor
/-
  The program's treeOf and the specification's l03Tree: the tree of entries, 'treeB'.
  Conditions: the slice's cells hold the entries, each of at most 100 bytes, at most 2^47 of them; for the program's half the two tables lie as the program's text lays them.
-/
namespace Go.Proofs.YtnaonldkbaapeabGreatDoor
open Go.RowKit Go.Lib
set_option linter.unusedVariables false
set_option maxRecDepth 20000

theorem leafA_of {t : ByteArray} (h : t.size ≤ 100) : leafA t = leafB t := if_pos h

set_option maxHeartbeats 1000000 in
theorem treeI_any (N : Nat) : ∀ (p : Option Addr) (cap : Nat) (ss : List ByteArray) (w : World), ss.length = N → Tabs w → TxtAt w p ss → ss.length ≤ 140737488355328 → ss.length ≤ cap → (∀ x ∈ ss, x.size ≤ 100) →
    Calls Tryz.prog 107 #[.slice p ss.length cap] w fun e w' => e = .returned (.string (treeB ss)) ∧ Below w.heap.size w w' := by
  induction N using Nat.strongRecOn with
  | _ N ih =>
  intro p cap ss w hN hT hp hn hcap h100
  subst hN
  have HT : Hid (Tabs w) := hT
  have HP : Hid (TxtAt w p ss) := hp
  have HX : Hid (∀ x ∈ ss, x.size ≤ 100) := h100
  clear hT hp h100
  by_cases h2 : 2 ≤ ss.length
  · obtain ⟨b, off, rfl, hb, _⟩ := HP.out 0 (by omega)
    have h1 := halfN_lt h2
    have h0 := halfN_pos ss.length
    have l1 : (ss.take (halfN ss.length)).length = halfN ss.length := by simp; omega
    have l2 : (ss.drop (halfN ss.length)).length = ss.length - halfN ss.length := by simp
    have HB : Hid (nodeA (treeB (ss.take (halfN ss.length))) (treeB (ss.drop (halfN ss.length))) = treeB ss) := by
      show _ = _
      rw [treeB_two h2, nodeA_of (treeB_size _) (treeB_size _)]
    have z1 := treeB_size (ss.take (halfN ss.length))
    have z2 := treeB_size (ss.drop (halfN ss.length))
    have I1 : Hid (∀ w', Below w.heap.size w w' → Calls Tryz.prog 107 #[.slice (some ⟨b, off, none⟩) (halfN ss.length) (halfN ss.length)] w' fun e w'' => e = .returned (.string (treeB (ss.take (halfN ss.length)))) ∧ Below w'.heap.size w' w'') := by
      intro w' hbl
      have := ih _ (by omega) (some ⟨b, off, none⟩) (halfN ss.length) (ss.take (halfN ss.length)) w' l1 (HT.out.below hbl HT.out.1) ((HP.out.below hbl).take _) (by omega) (by omega) (fun x hx => HX.out x (List.mem_of_mem_take hx))
      rwa [l1] at this
    have I2 : Hid (∀ w', Below w.heap.size w w' → Calls Tryz.prog 107 #[.slice (some ⟨b, off + halfN ss.length, none⟩) (ss.length - halfN ss.length) (ss.length - halfN ss.length)] w' fun e w'' => e = .returned (.string (treeB (ss.drop (halfN ss.length)))) ∧ Below w'.heap.size w' w'') := by
      intro w' hbl
      have := ih _ (by omega) (some ⟨b, off + halfN ss.length, none⟩) (ss.length - halfN ss.length) (ss.drop (halfN ss.length)) w' l2 (HT.out.below hbl HT.out.1) ((HP.out.below hbl).drop _) (by omega) (by omega) (fun x hx => HX.out x (List.mem_of_mem_drop hx))
      rwa [l2] at this
    have hH := fun w => halves_any b off ss.length cap w h2 hn hcap
    clear l1 l2
    generalize treeB (ss.take (halfN ss.length)) = T1 at *
    generalize treeB (ss.drop (halfN ss.length)) = T2 at *
    generalize halfN ss.length = k at *
    clear ih
    go_enter Tryz.func107, Tryz.ntmps107
    go_wp2_with fail
    refine (hH _).mono ?_
    rintro e w1 ⟨rfl, b1⟩
    go_wp2_with fail
    refine (I1.out _ b1).mono ?_
    rintro e w2 ⟨rfl, b2⟩
    have b2 := chainB b1 b2
    go_wp2_with fail
    refine (I2.out _ b2).mono ?_
    rintro e w3 ⟨rfl, b3⟩
    have b3 := chainB b2 b3
    go_wp2_with fail
    refine (implNode_any T1 T2 _ (HT.out.below b3 HT.out.1) (by unfold maxLen; omega) (by unfold maxLen; omega)).mono ?_
    rintro e w4 ⟨rfl, b4⟩
    go_wp2_with fail
    go_ret
    exact ⟨ret_str HB.out, chainB b3 b4⟩
  · by_cases h1 : ss.length = 1
    · obtain ⟨x, rfl⟩ := List.length_eq_one_iff.1 h1
      obtain ⟨b, off, rfl, hb, hc⟩ := HP.out 0 (by simp)
      have hx := HX.out x (by simp)
      have HB : Hid (leafA x = treeB [x]) := by show _ = _; rw [treeB_one, leafA_of hx]
      have hc0 : w.cell? ⟨b, off, none⟩ = some (.string x) := by simpa using hc
      clear ih hc hcap
      have hcall := implLeaf_any x w HT.out (by unfold maxLen; omega)
      rw [HB.out] at hcall
      rw [List.length_singleton] at *
      go_enter Tryz.func107, Tryz.ntmps107
      go_wp2_with fail
      refine hcall.mono ?_
      rintro e w1 ⟨rfl, b1⟩
      go_wp2_with fail
      go_ret
      exact ⟨rfl, b1⟩
    · obtain rfl : ss = [] := List.length_eq_zero_iff.1 (by omega)
      have HB : Hid (digB ByteArray.empty = treeB []) := treeB_nil.symm
      have hcall := digI_any ByteArray.empty w (by simp) HT.out
      rw [HB.out] at hcall
      clear ih hcap HP HX
      rw [List.length_nil]
      go_enter Tryz.func107, Tryz.ntmps107
      go_wp2_with fail
      refine hcall.mono ?_
      rintro e w1 ⟨rfl, b1⟩
      go_wp2_with fail
      go_ret
      exact ⟨rfl, b1⟩
end Go.Proofs.YtnaonldkbaapeabGreatDoor
/-
  What TreeHash answers, in the program and in the specification: 'treeA': of right entries their tree, else nothing.
-/
namespace Go.Proofs.YtnaonldkbaapeabGreatDoor
open Go.RowKit Go.Lib
set_option linter.unusedVariables false
set_option maxRecDepth 20000

def treeA (ss : List ByteArray) : ByteArray := if entB ss then treeB ss else ByteArray.empty
set_option maxHeartbeats 400000 in
theorem implTree_any (p : Option Addr) (cap : Nat) (ss : List ByteArray) (w : World) (hT : Tabs w) (hp : TxtAt w p ss) (hn : ss.length ≤ 140737488355328) (hcap : ss.length ≤ cap) :
    Calls Tryz.prog 84 #[.slice p ss.length cap] w fun e w' => e = .returned (.string (treeA ss)) ∧ Below w.heap.size w w' := by
  have HT : Hid (Tabs w) := hT
  have HP : Hid (TxtAt w p ss) := hp
  clear hT hp
  have hr := entR_any p cap ss w HP.out hn hcap
  cases he : entB ss
  · rw [he] at hr
    have H : Hid (treeA ss = ByteArray.empty) := by show _ = _; unfold treeA; rw [he]; rfl
    clear he
    go_enter Tryz.func84, Tryz.ntmps84
    go_wp2_with fail
    refine hr.mono ?_
    rintro e w1 ⟨rfl, rfl⟩
    go_wp2_with fail
    go_ret
    exact ⟨ret_str H.out.symm, Below.refl _ _⟩
  · rw [he] at hr
    have H : Hid (treeA ss = treeB ss) := by show _ = _; unfold treeA; rw [he]; rfl
    have hc := treeI_any ss.length p cap ss w rfl HT.out HP.out hn hcap (entB_all he)
    clear he
    go_enter Tryz.func84, Tryz.ntmps84
    go_wp2_with fail
    refine hr.mono ?_
    rintro e w1 ⟨rfl, rfl⟩
    go_wp2_with fail
    refine hc.mono ?_
    rintro e w1 ⟨rfl, b1⟩
    go_wp2_with fail
    go_ret
    exact ⟨ret_str H.out.symm, b1⟩
end Go.Proofs.YtnaonldkbaapeabGreatDoor
