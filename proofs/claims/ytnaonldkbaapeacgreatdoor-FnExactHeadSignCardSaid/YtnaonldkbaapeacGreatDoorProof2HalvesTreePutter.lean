/-
  Parts of one proof, laid as one text: Proof2, Halves, Tree, Putter; what each says stands at its head.
-/
import Derived.Test.YtnaonldkbaapeacGreatDoorRows
import Derived.Test.YtnaonldkbaapeacGreatDoorBytesDigMath
import Derived.Test.YtnaonldkbaapeacGreatDoorTreeMath
import Derived.Test.YtnaonldkbaapeacGreatDoorSlASlBBxKOwnSTakes
import Derived.Test.YtnaonldkbaapeacGreatDoorPowerOwnBTurnIWholeRNumsI
import Derived.Test.YtnaonldkbaapeacGreatDoorAll2LeafNodeTree2
import Derived.Test.YtnaonldkbaapeacGreatDoorLawLmOpFOpLgPathMath
import Derived.Handy
import Derived.OwnWalk
import Derived.Deep.AppendLies
import Derived.Deep.RegionLaw
import Derived.Deep.QuietTactic
import Derived.BigQuiet
/-
  The specification's l03Proof and ProofOf: the proof of the first ones, 'proofA', in new memory of its own.
  Conditions: the slice's cells hold the entries; old is an int64.
-/
namespace Go.Proofs.YtnaonldkbaapeacGreatDoor
open Go.RowKit Go.Lib
set_option linter.unusedVariables false
set_option maxRecDepth 20000

set_option maxHeartbeats 2000000 in
theorem proof2_any (N : Nat) : ∀ (p : Option Addr) (cap : Nat) (ss : List ByteArray) (m : Nat) (whole : Bool) (w : World), ss.length = N → TxtAt w p ss → ss.length ≤ 1024 → ss.length ≤ cap → (∀ x ∈ ss, x.size ≤ 100) → 1 ≤ m → m ≤ ss.length →
    Calls Tryz.prog 76 #[.int .i64 (m : Int), .slice p ss.length cap, .bool whole] w fun e w' => ∃ v, e = .returned v ∧ w'.ownsRow w.heap.size 9 1 v (proofB m ss whole).length (strRow (proofB m ss whole)) ∧ Below w.heap.size w w' := by
  induction N using Nat.strongRecOn with
  | _ N ih =>
  intro p cap ss m whole w hN hp hn hcap h100 hm1 hm
  subst hN
  have HP : Hid (TxtAt w p ss) := hp
  have HX : Hid (∀ x ∈ ss, x.size ≤ 100) := h100
  clear hp h100
  by_cases he : m = ss.length
  · have d0 : ((m : Int) == (ss.length : Int)) = true := by simp; omega
    cases whole
    · have HB : Hid (proofB m ss false = [treeB ss]) := by show _ = _; rw [proofB_all he]; rfl
      have HC := tree2_any ss.length p cap ss w rfl HP.out (by omega) hcap HX.out
      generalize treeB ss = T at *
      clear ih he
      go_enter Tryz.func76, Tryz.ntmps76
      go_wp2_with fail
      refine HC.mono ?_
      rintro e w3 ⟨rfl, b3⟩
      go_wp2_with fail
      go_ret
      exact ⟨_, rfl, by rw [HB.out]; exact ownS_mono (alloc_own w3 T) b3.size, b3.alloc b3.size _⟩
    · have HB : Hid (proofB m ss true = []) := by show _ = _; rw [proofB_all he]; rfl
      clear ih he
      go_enter Tryz.func76, Tryz.ntmps76
      go_wp2_with fail
      go_ret
      exact ⟨_, rfl, by rw [HB.out]; exact ownS_none w, (Below.refl _ _).alloc (Nat.le_refl _) _⟩
  · have d0 : ((m : Int) == (ss.length : Int)) = false := by simp; omega
    have h2 : 2 ≤ ss.length := by omega
    obtain ⟨b, off, rfl, hb, _⟩ := HP.out 0 (by omega)
    have h1 := halfN_lt h2
    have h0 := halfN_pos ss.length
    have l1 : (ss.take (halfN ss.length)).length = halfN ss.length := by simp; omega
    have l2 : (ss.drop (halfN ss.length)).length = ss.length - halfN ss.length := by simp
    have hH := fun w => half2_any ss.length w h2 (by omega)
    obtain ⟨i0, hi0, hz0, hz1, hz2⟩ := info_parts infoStr
    by_cases hik : m ≤ halfN ss.length
    · have hlen := proofB_len (ss.take (halfN ss.length)) m hm1 (by omega) whole
      have HB : Hid (proofB m (ss.take (halfN ss.length)) whole ++ [treeB (ss.drop (halfN ss.length))] = proofB m ss whole) := (proofB_left h2 he hik whole).symm
      have I1 : Hid (∀ w', Below w.heap.size w w' → Calls Tryz.prog 76 #[.int .i64 (m : Int), .slice (some ⟨b, off, none⟩) (halfN ss.length) cap, .bool whole] w' fun e w'' => ∃ v, e = .returned v ∧ w''.ownsRow w.heap.size 9 1 v (proofB m (ss.take (halfN ss.length)) whole).length (strRow (proofB m (ss.take (halfN ss.length)) whole)) ∧ Below w'.heap.size w' w'') := by
        intro w' hbl
        have := ih _ (by omega) (some ⟨b, off, none⟩) cap (ss.take (halfN ss.length)) m whole w' l1 ((HP.out.below hbl).take _) (by omega) (by omega) (fun x hx => HX.out x (List.mem_of_mem_take hx)) hm1 (by omega)
        rw [l1] at this
        exact this.mono fun e w'' ⟨v, he, ho, hb⟩ => ⟨v, he, ownS_mono ho hbl.size, hb⟩
      have I2 : Hid (∀ w', Below w.heap.size w w' → Calls Tryz.prog 55 #[.slice (some ⟨b, off + halfN ss.length, none⟩) (ss.length - halfN ss.length) (cap - halfN ss.length)] w' fun e w'' => e = .returned (.string (treeB (ss.drop (halfN ss.length)))) ∧ Below w'.heap.size w' w'') := by
        intro w' hbl
        have := tree2_any _ (some ⟨b, off + halfN ss.length, none⟩) (cap - halfN ss.length) (ss.drop (halfN ss.length)) w' l2 ((HP.out.below hbl).drop _) (by omega) (by omega) (fun x hx => HX.out x (List.mem_of_mem_drop hx))
        rwa [l2] at this
      clear l1 l2
      have hQl : (proofB m (ss.take (halfN ss.length)) whole).length ≤ 1024 := by simp at hlen; omega
      clear hlen
      generalize proofB m (ss.take (halfN ss.length)) whole = Q at *
      generalize treeB (ss.drop (halfN ss.length)) = T at *
      generalize halfN ss.length = k at *
      clear ih he
      have q1 : (k : Int) ≤ cap := by omega
      have q2 : (k : Int) ≤ ss.length := by omega
      have q3 : (ss.length : Int) ≤ cap := by omega
      have q4 : ¬ cap = k := by omega
      have q5 : (0 : Int) ≤ k := by omega
      have q6 : IntKind.i64.wrap ((m : Int) - (k : Int)) = (m : Int) - (k : Int) := by rw [IntKind.wrap_i64]; omega
      go_enter Tryz.func76, Tryz.ntmps76
      go_wp2_with fail
      refine (hH _).mono ?_
      rintro e w1 ⟨rfl, hw1⟩
      subst hw1
      go_wp2_with fail
      go_region_law
        (first
          | (refine step_append_lies _ rfl _ _ 23 rfl w1.heap.size 9 i0 (.string ByteArray.empty) 1 16 Tryz.underlying23 hi0 hz0 hz1 hz2 rfl (by omega) v2 Q.length (strRow Q) rfl (own3.alloc _) ⟨w3.heap.size, 0, none⟩ 1 1 [.string T] rfl rfl (World.news_of_block (cs := #[.string T]) (t := 9) (fr := (0, 0)) (MapKept.heap_alloc w3 _).1) (by simp [Value.oneCell']) (by omega) (by unfold maxLen; omega) (by omega) (by simp; omega) (w3.heap.size + 1) (by simp) ?_; intro g2 cap2 w4 hown4 hgrow hat hltg)
          | (go_simp; go_at_call 55; refine (I2.out _ b2).mono ?_; rintro e w3 ⟨rfl, b3⟩; have own3 := ownS_below own2 b3; have b3 := chainB b2 b3; have hs3 := b3.size)
          | (go_simp; go_at_call 76; refine (I1.out _ ((Below.refl _ _).drew)).mono ?_; rintro e w2 ⟨v2, rfl, own2, b2⟩; have b2 := chainB ((Below.refl _ _).drew) b2))
      all_goals
        have B4 : Below w1.heap.size w1 w4 := (b3.alloc b3.size _).grown hgrow (by simp; omega) (fun j hj => (own3.lt j hj).1)
        have hfin : w4.ownsRow w1.heap.size 9 1 (.slice (some ⟨g2, 0, none⟩) (Q.length + 1) cap2) (proofB m ss whole).length (strRow (proofB m ss whole)) := by
          rw [← HB.out]
          have e1 : (Q ++ [T]).length = Q.length + 1 := by simp
          have e2 : strRow (Q ++ [T]) = strRow Q ++ [.string T] := by simp [strRow]
          rw [e1, e2]
          exact hown4
        go_wp2
        go_ret
        exact ⟨_, rfl, hfin, B4⟩
    · have hlen := proofB_len (ss.drop (halfN ss.length)) (m - halfN ss.length) (by omega) (by omega) false
      have HB : Hid (proofB (m - halfN ss.length) (ss.drop (halfN ss.length)) false ++ [treeB (ss.take (halfN ss.length))] = proofB m ss whole) := (proofB_right h2 he hik whole).symm
      have I1 : Hid (∀ w', Below w.heap.size w w' → Calls Tryz.prog 76 #[.int .i64 ((m : Int) - (halfN ss.length : Int)), .slice (some ⟨b, off + halfN ss.length, none⟩) (ss.length - halfN ss.length) (cap - halfN ss.length), .bool false] w' fun e w'' => ∃ v, e = .returned v ∧ w''.ownsRow w.heap.size 9 1 v (proofB (m - halfN ss.length) (ss.drop (halfN ss.length)) false).length (strRow (proofB (m - halfN ss.length) (ss.drop (halfN ss.length)) false)) ∧ Below w'.heap.size w' w'') := by
        intro w' hbl
        have := ih _ (by omega) (some ⟨b, off + halfN ss.length, none⟩) (cap - halfN ss.length) (ss.drop (halfN ss.length)) (m - halfN ss.length) false w' l2 ((HP.out.below hbl).drop _) (by omega) (by omega) (fun x hx => HX.out x (List.mem_of_mem_drop hx)) (by omega) (by omega)
        rw [l2, show ((m - halfN ss.length : Nat) : Int) = (m : Int) - (halfN ss.length : Int) by omega] at this
        exact this.mono fun e w'' ⟨v, he, ho, hb⟩ => ⟨v, he, ownS_mono ho hbl.size, hb⟩
      have I2 : Hid (∀ w', Below w.heap.size w w' → Calls Tryz.prog 55 #[.slice (some ⟨b, off, none⟩) (halfN ss.length) cap] w' fun e w'' => e = .returned (.string (treeB (ss.take (halfN ss.length)))) ∧ Below w'.heap.size w' w'') := by
        intro w' hbl
        have := tree2_any _ (some ⟨b, off, none⟩) cap (ss.take (halfN ss.length)) w' l1 ((HP.out.below hbl).take _) (by omega) (by omega) (fun x hx => HX.out x (List.mem_of_mem_take hx))
        rwa [l1] at this
      clear l1 l2
      have hQl : (proofB (m - halfN ss.length) (ss.drop (halfN ss.length)) false).length ≤ 1024 := by simp at hlen; omega
      clear hlen
      generalize proofB (m - halfN ss.length) (ss.drop (halfN ss.length)) false = Q at *
      generalize treeB (ss.take (halfN ss.length)) = T at *
      generalize halfN ss.length = k at *
      clear ih he
      have q1 : (k : Int) ≤ cap := by omega
      have q2 : (k : Int) ≤ ss.length := by omega
      have q3 : (ss.length : Int) ≤ cap := by omega
      have q4 : ¬ cap = k := by omega
      have q5 : (0 : Int) ≤ k := by omega
      have q6 : IntKind.i64.wrap ((m : Int) - (k : Int)) = (m : Int) - (k : Int) := by rw [IntKind.wrap_i64]; omega
      go_enter Tryz.func76, Tryz.ntmps76
      go_wp2_with fail
      refine (hH _).mono ?_
      rintro e w1 ⟨rfl, hw1⟩
      subst hw1
      go_wp2_with fail
      go_region_law
        (first
          | (refine step_append_lies _ rfl _ _ 23 rfl w1.heap.size 9 i0 (.string ByteArray.empty) 1 16 Tryz.underlying23 hi0 hz0 hz1 hz2 rfl (by omega) v2 Q.length (strRow Q) rfl (own3.alloc _) ⟨w3.heap.size, 0, none⟩ 1 1 [.string T] rfl rfl (World.news_of_block (cs := #[.string T]) (t := 9) (fr := (0, 0)) (MapKept.heap_alloc w3 _).1) (by simp [Value.oneCell']) (by omega) (by unfold maxLen; omega) (by omega) (by simp; omega) (w3.heap.size + 1) (by simp) ?_; intro g2 cap2 w4 hown4 hgrow hat hltg)
          | (go_simp; go_at_call 55; refine (I2.out _ b2).mono ?_; rintro e w3 ⟨rfl, b3⟩; have own3 := ownS_below own2 b3; have b3 := chainB b2 b3; have hs3 := b3.size)
          | (go_simp; go_at_call 76; refine (I1.out _ ((Below.refl _ _).drew)).mono ?_; rintro e w2 ⟨v2, rfl, own2, b2⟩; have b2 := chainB ((Below.refl _ _).drew) b2))
      all_goals
        have B4 : Below w1.heap.size w1 w4 := (b3.alloc b3.size _).grown hgrow (by simp; omega) (fun j hj => (own3.lt j hj).1)
        have hfin : w4.ownsRow w1.heap.size 9 1 (.slice (some ⟨g2, 0, none⟩) (Q.length + 1) cap2) (proofB m ss whole).length (strRow (proofB m ss whole)) := by
          rw [← HB.out]
          have e1 : (Q ++ [T]).length = Q.length + 1 := by simp
          have e2 : strRow (Q ++ [T]) = strRow Q ++ [.string T] := by simp [strRow]
          rw [e1, e2]
          exact hown4
        go_wp2
        go_ret
        exact ⟨_, rfl, hfin, B4⟩

set_option maxHeartbeats 1000000 in
theorem specProof_any (p : Option Addr) (cap : Nat) (ss : List ByteArray) (i : Int) (w : World) (hp : TxtAt w p ss) (hn : ss.length ≤ 140737488355328) (hcap : ss.length ≤ cap) (i0 : -9223372036854775808 ≤ i) (i1 : i ≤ 9223372036854775807) :
    Calls Tryz.prog 41 #[.slice p ss.length cap, .int .i64 i] w fun e w' => ∃ v, e = .returned v ∧ w'.ownsRow w.heap.size 9 1 v (proofA ss i).length (strRow (proofA ss i)) ∧ Below w.heap.size w w' := by
  have HP : Hid (TxtAt w p ss) := hp
  clear hp
  have H0 : Hid (proofA ss i = if entB ss = true ∧ 1 ≤ i ∧ i ≤ ss.length then proofB i.toNat ss true else []) := rfl
  have B0 : Hid (Below w.heap.size w (w.alloc (.cells #[] 9))) := (Below.refl _ _).alloc (Nat.le_refl _) _
  by_cases hl : ss.length ≤ 400
  case neg =>
    have d0 : decide (400 < (ss.length : Int)) = true := decide_eq_true (by omega)
    have H : Hid (proofA ss i = []) := H0.out.trans (if_neg fun h => by have := entB_len h.1; omega)
    go_enter Tryz.func41, Tryz.ntmps41
    go_wp2_with fail
    go_ret
    exact ⟨_, rfl, by rw [H.out]; exact ownS_none w, B0.out⟩
  have d0 : decide (400 < (ss.length : Int)) = false := decide_eq_false (by omega)
  have hr := ent2_any p cap ss w HP.out hn hcap
  cases he : entB ss
  · rw [he] at hr
    have H : Hid (proofA ss i = []) := H0.out.trans (if_neg fun h => by rw [he] at h; exact absurd h.1 (by simp))
    clear he
    go_enter Tryz.func41, Tryz.ntmps41
    go_wp2_with fail
    refine hr.mono ?_
    rintro e w1 ⟨rfl, rfl⟩
    go_wp2_with fail
    go_ret
    exact ⟨_, rfl, by rw [H.out]; exact ownS_none w1, B0.out⟩
  by_cases c1 : 1 ≤ i
  case neg =>
    rw [he] at hr
    have d1 : decide (i < 1) = true := decide_eq_true (by omega)
    have H : Hid (proofA ss i = []) := H0.out.trans (if_neg fun h => c1 h.2.1)
    clear he
    go_enter Tryz.func41, Tryz.ntmps41
    go_wp2_with fail
    refine hr.mono ?_
    rintro e w1 ⟨rfl, rfl⟩
    go_wp2_with fail
    go_ret
    exact ⟨_, rfl, by rw [H.out]; exact ownS_none w1, B0.out⟩
  have d1 : decide (i < 1) = false := decide_eq_false (by omega)
  by_cases c2 : i ≤ ss.length
  case neg =>
    rw [he] at hr
    have d2 : decide ((ss.length : Int) < i) = true := decide_eq_true (by omega)
    have H : Hid (proofA ss i = []) := H0.out.trans (if_neg fun h => c2 h.2.2)
    clear he
    go_enter Tryz.func41, Tryz.ntmps41
    go_wp2_with fail
    refine hr.mono ?_
    rintro e w1 ⟨rfl, rfl⟩
    go_wp2_with fail
    go_ret
    exact ⟨_, rfl, by rw [H.out]; exact ownS_none w1, B0.out⟩
  have d2 : decide ((ss.length : Int) < i) = false := decide_eq_false (by omega)
  have H : Hid (proofA ss i = proofB i.toNat ss true) := H0.out.trans (if_pos ⟨he, c1, c2⟩)
  have h100 := entB_all he
  rw [he] at hr
  obtain ⟨I, rfl⟩ := Int.eq_ofNat_of_zero_le (show 0 ≤ i by omega)
  rw [Int.toNat_natCast] at H
  have d3 : decide (ss.length < I) = false := decide_eq_false (by omega)
  have hc := proof2_any ss.length p cap ss I true w rfl HP.out (by omega) hcap h100 (by omega) (by omega)
  rw [← H.out] at hc
  clear he h100 H0 H
  generalize proofA ss (I : Int) = R at *
  go_enter Tryz.func41, Tryz.ntmps41
  go_wp2_with fail
  refine hr.mono ?_
  rintro e w1 ⟨rfl, hw1⟩
  subst hw1
  go_wp2_with fail
  refine hc.mono ?_
  rintro e w2 ⟨v, rfl, ho, hb⟩
  have HO : Hid (w2.ownsRow w1.heap.size 9 1 v R.length (strRow R)) := ho
  clear ho
  go_wp2_with fail
  go_ret
  exact ⟨_, rfl, HO.out, hb⟩
end Go.Proofs.YtnaonldkbaapeacGreatDoor
/-
  The program's halves: two slices over the first k and the other entries.
  Conditions: there are 2 or more.
-/
namespace Go.Proofs.YtnaonldkbaapeacGreatDoor
open Go.RowKit Go.Lib
set_option linter.unusedVariables false

theorem belowDr {B : Nat} {a w : World} (h : Below B a w) (n : Nat) : Below B a (w.drewN n) := ⟨h.os, h.tape, h.output, h.size, h.block⟩
set_option maxHeartbeats 400000 in
theorem halves_any (b off n cap : Nat) (w : World) (h2 : 2 ≤ n) (hn : n ≤ 140737488355328) (hcap : n ≤ cap) :
    Calls Tryz.prog 112 #[.slice (some ⟨b, off, none⟩) n cap] w fun e w' =>
      e = .returned (.tuple #[.slice (some ⟨b, off, none⟩) (halfN n) (halfN n), .slice (some ⟨b, off + halfN n, none⟩) (n - halfN n) (n - halfN n)]) ∧ Below w.heap.size w w' := by
  have h1 := halfN_lt h2
  have h0 := halfN_pos n
  have hc := fun w => power_any n w h2 (by omega)
  generalize halfN n = k at *
  have q1 : (k : Int) ≤ cap := by omega
  have q2 : (k : Int) ≤ n := by omega
  have q3 : (n : Int) ≤ cap := by omega
  have q4 : ¬ n = k := by omega
  have q5 : (0 : Int) ≤ k := by omega
  go_enter Tryz.func112, Tryz.ntmps112
  go_wp2_with (go_at_call 134; refine (hc _).mono ?_; rintro e w1 ⟨rfl, rfl⟩)
  go_quiet (fail)
  go_wp2
  go_ret2
  exact ⟨rfl, belowDr (Below.refl _ _) _⟩
end Go.Proofs.YtnaonldkbaapeacGreatDoor
/-
  The program's treeOf and the specification's l03Tree: the tree of entries, 'treeB'.
  Conditions: the slice's cells hold the entries, each of at most 100 bytes, at most 2^47 of them; for the program's half the two tables lie as the program's text lays them.
-/
namespace Go.Proofs.YtnaonldkbaapeacGreatDoor
open Go.RowKit Go.Lib
set_option linter.unusedVariables false
set_option maxRecDepth 20000

theorem leafA_of {t : ByteArray} (h : t.size ≤ 100) : leafA t = leafB t := if_pos h

set_option maxHeartbeats 1000000 in
theorem treeI_any (N : Nat) : ∀ (p : Option Addr) (cap : Nat) (ss : List ByteArray) (w : World), ss.length = N → Tabs w → TxtAt w p ss → ss.length ≤ 140737488355328 → ss.length ≤ cap → (∀ x ∈ ss, x.size ≤ 100) →
    Calls Tryz.prog 110 #[.slice p ss.length cap] w fun e w' => e = .returned (.string (treeB ss)) ∧ Below w.heap.size w w' := by
  induction N using Nat.strongRecOn with
  | _ N ih =>
  intro p cap ss w hN hT hp hn hcap h100
  subst hN
  have HT : Hid (Tabs w) := hT
  have HP : Hid (TxtAt w p ss) := hp
  have HX : Hid (∀ x ∈ ss, x.size ≤ 100) := h100
  clear hT hp h100
  by_cases h2 : 2 ≤ ss.length
  · obtain ⟨b, off, rfl, hb, _⟩ := HP.out 0 (by omega)
    have h1 := halfN_lt h2
    have h0 := halfN_pos ss.length
    have l1 : (ss.take (halfN ss.length)).length = halfN ss.length := by simp; omega
    have l2 : (ss.drop (halfN ss.length)).length = ss.length - halfN ss.length := by simp
    have HB : Hid (nodeA (treeB (ss.take (halfN ss.length))) (treeB (ss.drop (halfN ss.length))) = treeB ss) := by
      show _ = _
      rw [treeB_two h2, nodeA_of (treeB_size _) (treeB_size _)]
    have z1 := treeB_size (ss.take (halfN ss.length))
    have z2 := treeB_size (ss.drop (halfN ss.length))
    have I1 : Hid (∀ w', Below w.heap.size w w' → Calls Tryz.prog 110 #[.slice (some ⟨b, off, none⟩) (halfN ss.length) (halfN ss.length)] w' fun e w'' => e = .returned (.string (treeB (ss.take (halfN ss.length)))) ∧ Below w'.heap.size w' w'') := by
      intro w' hbl
      have := ih _ (by omega) (some ⟨b, off, none⟩) (halfN ss.length) (ss.take (halfN ss.length)) w' l1 (HT.out.below hbl HT.out.1) ((HP.out.below hbl).take _) (by omega) (by omega) (fun x hx => HX.out x (List.mem_of_mem_take hx))
      rwa [l1] at this
    have I2 : Hid (∀ w', Below w.heap.size w w' → Calls Tryz.prog 110 #[.slice (some ⟨b, off + halfN ss.length, none⟩) (ss.length - halfN ss.length) (ss.length - halfN ss.length)] w' fun e w'' => e = .returned (.string (treeB (ss.drop (halfN ss.length)))) ∧ Below w'.heap.size w' w'') := by
      intro w' hbl
      have := ih _ (by omega) (some ⟨b, off + halfN ss.length, none⟩) (ss.length - halfN ss.length) (ss.drop (halfN ss.length)) w' l2 (HT.out.below hbl HT.out.1) ((HP.out.below hbl).drop _) (by omega) (by omega) (fun x hx => HX.out x (List.mem_of_mem_drop hx))
      rwa [l2] at this
    have hH := fun w => halves_any b off ss.length cap w h2 hn hcap
    clear l1 l2
    generalize treeB (ss.take (halfN ss.length)) = T1 at *
    generalize treeB (ss.drop (halfN ss.length)) = T2 at *
    generalize halfN ss.length = k at *
    clear ih
    go_enter Tryz.func110, Tryz.ntmps110
    go_wp2_with fail
    refine (hH _).mono ?_
    rintro e w1 ⟨rfl, b1⟩
    go_wp2_with fail
    refine (I1.out _ b1).mono ?_
    rintro e w2 ⟨rfl, b2⟩
    have b2 := chainB b1 b2
    go_wp2_with fail
    refine (I2.out _ b2).mono ?_
    rintro e w3 ⟨rfl, b3⟩
    have b3 := chainB b2 b3
    go_wp2_with fail
    refine (implNode_any T1 T2 _ (HT.out.below b3 HT.out.1) (by unfold maxLen; omega) (by unfold maxLen; omega)).mono ?_
    rintro e w4 ⟨rfl, b4⟩
    go_wp2_with fail
    go_ret
    exact ⟨ret_str HB.out, chainB b3 b4⟩
  · by_cases h1 : ss.length = 1
    · obtain ⟨x, rfl⟩ := List.length_eq_one_iff.1 h1
      obtain ⟨b, off, rfl, hb, hc⟩ := HP.out 0 (by simp)
      have hx := HX.out x (by simp)
      have HB : Hid (leafA x = treeB [x]) := by show _ = _; rw [treeB_one, leafA_of hx]
      have hc0 : w.cell? ⟨b, off, none⟩ = some (.string x) := by simpa using hc
      clear ih hc hcap
      have hcall := implLeaf_any x w HT.out (by unfold maxLen; omega)
      rw [HB.out] at hcall
      rw [List.length_singleton] at *
      go_enter Tryz.func110, Tryz.ntmps110
      go_wp2_with fail
      refine hcall.mono ?_
      rintro e w1 ⟨rfl, b1⟩
      go_wp2_with fail
      go_ret
      exact ⟨rfl, b1⟩
    · obtain rfl : ss = [] := List.length_eq_zero_iff.1 (by omega)
      have HB : Hid (digB ByteArray.empty = treeB []) := treeB_nil.symm
      have hcall := digI_any ByteArray.empty w (by simp) HT.out
      rw [HB.out] at hcall
      clear ih hcap HP HX
      rw [List.length_nil]
      go_enter Tryz.func110, Tryz.ntmps110
      go_wp2_with fail
      refine hcall.mono ?_
      rintro e w1 ⟨rfl, b1⟩
      go_wp2_with fail
      go_ret
      exact ⟨rfl, b1⟩
end Go.Proofs.YtnaonldkbaapeacGreatDoor
/-
  The program's putter: its two closures, 'put' (the tree of the entries is put behind the list) and 'all' (the list).
  Conditions: the entries are of at most 100 bytes; the captured list lies in a block of its own; the two tables lie as the program's text lays them.
-/
namespace Go.Proofs.YtnaonldkbaapeacGreatDoor
open Go.RowKit Go.Lib
set_option linter.unusedVariables false
set_option maxRecDepth 20000

/-- The list's box, in memory that came behind W0; the list owns its row; nothing that was there has turned. -/
structure PutS (W0 : World) (X : Nat) (l : List ByteArray) (v : Value) (w : World) : Prop where
  bel : Below W0.heap.size W0 w
  hX : W0.heap.size ≤ X
  box : w.heap[X]? = some (.cells #[v] 23 (0, 0))
  own : w.ownsRow W0.heap.size 9 1 v l.length (strRow l)
theorem PutS.below {W0 : World} {X : Nat} {l : List ByteArray} {v : Value} {w w' : World} (h : PutS W0 X l v w) (hb : Below w.heap.size w w') : PutS W0 X l v w' :=
  ⟨h.bel.trans (hb.mono h.bel.size), h.hX, (hb.block _ (lt_of_block h.box)).trans h.box, ownS_below h.own hb⟩
theorem PutS.ne {W0 : World} {X : Nat} {l : List ByteArray} {v : Value} {w : World} (h : PutS W0 X l v w) : v.ownBlock ≠ some X := by
  intro he
  rcases h.own.2 with ⟨rfl, _⟩ | ⟨g, cap, cur, rfl, _, hg, _⟩
  · cases he
  · have : g = X := by simpa [Value.ownBlock] using he
    subst this
    rw [h.box] at hg; simp at hg

set_option maxHeartbeats 1000000 in
theorem put_any (W0 : World) (X : Nat) (l : List ByteArray) (v : Value) (p : Option Addr) (cap : Nat) (ss : List ByteArray) (w : World) (hT : Tabs W0) (hp : TxtAt W0 p ss) (hn : ss.length ≤ 140737488355328) (hcap : ss.length ≤ cap)
    (h100 : ∀ x ∈ ss, x.size ≤ 100) (hl : l.length ≤ 1048576) (h : PutS W0 X l v w) :
    Calls Tryz.prog 109 #[.slice p ss.length cap, .pointer (some ⟨X, 0, none⟩)] w fun e w' => e = .returned (.tuple #[]) ∧ ∃ v', PutS W0 X (l ++ [treeB ss]) v' w' := by
  have HK : Hid (PutS W0 X l v w) := h
  have c1 := cell_of_one h.box
  have hXlt := lt_of_block h.box
  have hne : some X ≠ v.ownBlock := fun e => h.ne e.symm
  obtain ⟨i0, hi, hz0, hz1, hz2⟩ := info_parts infoStr
  have HC : Hid (∀ w', Below w.heap.size w w' → Calls Tryz.prog 110 #[.slice p ss.length cap] w' fun e w'' => e = .returned (.string (treeB ss)) ∧ Below w'.heap.size w' w'') := fun w' hb =>
    treeI_any ss.length p cap ss w' rfl (hT.below (h.bel.trans (hb.mono h.bel.size)) hT.1) (hp.below (h.bel.trans (hb.mono h.bel.size))) hn hcap h100
  have hW0 : W0.heap.size ≤ w.heap.size := h.bel.size
  clear h hT hp h100
  generalize treeB ss = T at *
  go_enter Tryz.func109, Tryz.ntmps109
  go_wp2
  go_region_law
    (first
      | (refine step_append_lies _ rfl _ _ 23 rfl W0.heap.size 9 i0 (.string ByteArray.empty) 1 16 Tryz.underlying23 hi hz0 hz1 hz2 rfl (by omega) v l.length (strRow l) rfl (own2.alloc _) ⟨w2.heap.size, 0, none⟩ 1 1 [.string T] rfl rfl (World.news_of_block (cs := #[.string T]) (t := 9) (fr := (0, 0)) (MapKept.heap_alloc w2 _).1) (by simp [Value.oneCell']) (by omega) (by unfold maxLen; omega) (by omega) (by simp; omega) (w2.heap.size + 1) (by simp) ?_; intro g2 cap2 w3 hown2 hgrow hat hltg; have c3 := (hgrow.cell_far ⟨X, 0, none⟩ (by simp; omega) hne).trans c2'; have f3 := (hgrow.frozen_far ⟨X, 0, none⟩ (by simp; omega) hne).trans f2')
      | (go_simp; go_at_call 110; refine (HC.out _ ((Below.refl _ _).drew)).mono ?_; rintro e w2 ⟨rfl, b2⟩; have b2 := chainB ((Below.refl _ _).drew) b2; have P2 := HK.out.below b2; have c2 := cell_of_one P2.box; have own2 := P2.own; have hX2 := lt_of_block P2.box; have hs2 := b2.size; have c2' : (w2.alloc (.cells #[.string T] 9)).cell? ⟨X, 0, none⟩ = some v := (((Below.refl _ _).alloc (Nat.le_refl _) _ : Below w2.heap.size w2 (w2.alloc _)).cell (p := ⟨X, 0, none⟩) hX2).trans c2; have f2' : (w2.alloc (.cells #[.string T] 9)).frozen? ⟨X, 0, none⟩ = false := (((Below.refl _ _).alloc (Nat.le_refl _) _ : Below w2.heap.size w2 (w2.alloc _)).frozen (p := ⟨X, 0, none⟩) hX2).trans (free_of_one P2.box)))
  all_goals
    have B3 : Below W0.heap.size W0 w3 := (P2.bel.alloc P2.bel.size _).grown hgrow (by simp; omega) (fun j hj => (own2.lt j hj).1)
    have X3 : w3.heap[X]? = some (.cells #[v] 23 (0, 0)) := (hgrow.block X (by simp; omega) hne).trans ((Below.heap_alloc _ _ _ hX2).trans P2.box)
    have hgX : g2 ≠ X := by
      rintro rfl
      rcases hat with h | h
      · exact hne h.symm
      · omega
    have hfin : PutS W0 X (l ++ [T]) (.slice (some ⟨g2, 0, none⟩) (l.length + 1) cap2) (w3.setCell ⟨X, 0, none⟩ (.slice (some ⟨g2, 0, none⟩) (l.length + 1) cap2)) := by
      refine ⟨B3.setCell HK.out.hX _, HK.out.hX, by rw [one_setCell X3], ?_⟩
      have e1 : (l ++ [T]).length = l.length + 1 := by simp
      have e2 : strRow (l ++ [T]) = strRow l ++ [.string T] := by simp [strRow]
      rw [e1, e2]
      exact ownsRow_setCell_other hown2 (by simp [Value.ownBlock, hgX]) _
    go_wp2
    go_end0
    exact ⟨rfl, _, hfin⟩
set_option maxHeartbeats 400000 in
theorem all_any (W0 : World) (X : Nat) (l : List ByteArray) (v : Value) (w : World) (h : PutS W0 X l v w) :
    Calls Tryz.prog 111 #[.pointer (some ⟨X, 0, none⟩)] w fun e w' => e = .returned v ∧ w' = w := by
  have c1 := cell_of_one h.box
  clear h
  go_enter Tryz.func111, Tryz.ntmps111
  go_wp2
  go_ret
  exact ⟨rfl, rfl⟩
def putF (X : Nat) : Value := .func (.func 109) #[] #[.pointer (some ⟨X, 0, none⟩)]
def allF (X : Nat) : Value := .func (.func 111) #[] #[.pointer (some ⟨X, 0, none⟩)]
theorem hmfP : ∀ (fn : Fn) (first cap : Array Value) (w : World), (Instr.makeFunc fn first cap).run Tryz.prog w = .ok (.func fn first cap) w := fun _ _ _ _ => rfl
theorem putS_new (w : World) : PutS w w.heap.size [] (.slice none 0 0) (w.alloc (.cells #[.slice none 0 0] 23)) :=
  ⟨(Below.refl _ _).alloc (Nat.le_refl _) _, Nat.le_refl _, (MapKept.heap_alloc w _).1, World.ownsRow_nil _ _ _ _⟩
set_option maxHeartbeats 400000 in
theorem putter_any (w : World) :
    Calls Tryz.prog 78 #[] w fun e w' => e = .returned (.tuple #[putF w.heap.size, allF w.heap.size]) ∧ PutS w w.heap.size [] (.slice none 0 0) w' := by
  have hm := hmfP
  go_enter Tryz.func78, Tryz.ntmps78
  go_wp2
  go_ret2
  exact ⟨rfl, putS_new w⟩
end Go.Proofs.YtnaonldkbaapeacGreatDoor
