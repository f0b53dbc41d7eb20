/-
  The specification's l03Proof and ProofOf: the proof of the first ones, 'proofA', in new memory of its own.
  Conditions: the slice's cells hold the entries; old is an int64.
-/
import Derived.Test.YtclpccnppmbpcaaDoorRows
import Derived.Test.YtclpccnppmbpcaaDoorBytes
import Derived.Test.YtclpccnppmbpcaaDoorTreeMath
import Derived.Test.YtclpccnppmbpcaaDoorSlA
import Derived.Test.YtclpccnppmbpcaaDoorSlB
import Derived.Test.YtclpccnppmbpcaaDoorPower
import Derived.Test.YtclpccnppmbpcaaDoorTree2
import Derived.Test.YtclpccnppmbpcaaDoorOwnS
import Derived.Test.YtclpccnppmbpcaaDoorPathMath
import Derived.Handy
import Derived.OwnWalk
import Derived.Deep.AppendLies
import Derived.Deep.RegionLaw
namespace Go.Proofs.YtclpccnppmbpcaaDoor
open Go.RowKit Go.Lib
set_option linter.unusedVariables false
set_option maxRecDepth 20000

set_option maxHeartbeats 2000000 in
theorem proof2_any (N : Nat) : ∀ (p : Option Addr) (cap : Nat) (ss : List ByteArray) (m : Nat) (whole : Bool) (w : World), ss.length = N → TxtAt w p ss → ss.length ≤ 1024 → ss.length ≤ cap → (∀ x ∈ ss, x.size ≤ 100) → 1 ≤ m → m ≤ ss.length →
    Calls Tryd.prog 83 #[.int .i64 (m : Int), .slice p ss.length cap, .bool whole] w fun e w' => ∃ v, e = .returned v ∧ w'.ownsRow w.heap.size 9 1 v (proofB m ss whole).length (strRow (proofB m ss whole)) ∧ Below w.heap.size w w' := by
  induction N using Nat.strongRecOn with
  | _ N ih =>
  intro p cap ss m whole w hN hp hn hcap h100 hm1 hm
  subst hN
  have HP : Hid (TxtAt w p ss) := hp
  have HX : Hid (∀ x ∈ ss, x.size ≤ 100) := h100
  clear hp h100
  by_cases he : m = ss.length
  · have d0 : ((m : Int) == (ss.length : Int)) = true := by simp; omega
    cases whole
    · have HB : Hid (proofB m ss false = [treeB ss]) := by show _ = _; rw [proofB_all he]; rfl
      have HC := tree2_any ss.length p cap ss w rfl HP.out (by omega) hcap HX.out
      generalize treeB ss = T at *
      clear ih he
      go_enter Tryd.func83, Tryd.ntmps83
      go_wp2_with fail
      refine HC.mono ?_
      rintro e w3 ⟨rfl, b3⟩
      go_wp2_with fail
      go_ret
      exact ⟨_, rfl, by rw [HB.out]; exact ownS_mono (alloc_own w3 T) b3.size, b3.alloc b3.size _⟩
    · have HB : Hid (proofB m ss true = []) := by show _ = _; rw [proofB_all he]; rfl
      clear ih he
      go_enter Tryd.func83, Tryd.ntmps83
      go_wp2_with fail
      go_ret
      exact ⟨_, rfl, by rw [HB.out]; exact ownS_none w, (Below.refl _ _).alloc (Nat.le_refl _) _⟩
  · have d0 : ((m : Int) == (ss.length : Int)) = false := by simp; omega
    have h2 : 2 ≤ ss.length := by omega
    obtain ⟨b, off, rfl, hb, _⟩ := HP.out 0 (by omega)
    have h1 := halfN_lt h2
    have h0 := halfN_pos ss.length
    have l1 : (ss.take (halfN ss.length)).length = halfN ss.length := by simp; omega
    have l2 : (ss.drop (halfN ss.length)).length = ss.length - halfN ss.length := by simp
    have hH := fun w => half2_any ss.length w h2 (by omega)
    obtain ⟨i0, hi0, hz0, hz1, hz2⟩ := info_parts infoStr
    by_cases hik : m ≤ halfN ss.length
    · have hlen := proofB_len (ss.take (halfN ss.length)) m hm1 (by omega) whole
      have HB : Hid (proofB m (ss.take (halfN ss.length)) whole ++ [treeB (ss.drop (halfN ss.length))] = proofB m ss whole) := (proofB_left h2 he hik whole).symm
      have I1 : Hid (∀ w', Below w.heap.size w w' → Calls Tryd.prog 83 #[.int .i64 (m : Int), .slice (some ⟨b, off, none⟩) (halfN ss.length) cap, .bool whole] w' fun e w'' => ∃ v, e = .returned v ∧ w''.ownsRow w.heap.size 9 1 v (proofB m (ss.take (halfN ss.length)) whole).length (strRow (proofB m (ss.take (halfN ss.length)) whole)) ∧ Below w'.heap.size w' w'') := by
        intro w' hbl
        have := ih _ (by omega) (some ⟨b, off, none⟩) cap (ss.take (halfN ss.length)) m whole w' l1 ((HP.out.below hbl).take _) (by omega) (by omega) (fun x hx => HX.out x (List.mem_of_mem_take hx)) hm1 (by omega)
        rw [l1] at this
        exact this.mono fun e w'' ⟨v, he, ho, hb⟩ => ⟨v, he, ownS_mono ho hbl.size, hb⟩
      have I2 : Hid (∀ w', Below w.heap.size w w' → Calls Tryd.prog 68 #[.slice (some ⟨b, off + halfN ss.length, none⟩) (ss.length - halfN ss.length) (cap - halfN ss.length)] w' fun e w'' => e = .returned (.string (treeB (ss.drop (halfN ss.length)))) ∧ Below w'.heap.size w' w'') := by
        intro w' hbl
        have := tree2_any _ (some ⟨b, off + halfN ss.length, none⟩) (cap - halfN ss.length) (ss.drop (halfN ss.length)) w' l2 ((HP.out.below hbl).drop _) (by omega) (by omega) (fun x hx => HX.out x (List.mem_of_mem_drop hx))
        rwa [l2] at this
      clear l1 l2
      have hQl : (proofB m (ss.take (halfN ss.length)) whole).length ≤ 1024 := by simp at hlen; omega
      clear hlen
      generalize proofB m (ss.take (halfN ss.length)) whole = Q at *
      generalize treeB (ss.drop (halfN ss.length)) = T at *
      generalize halfN ss.length = k at *
      clear ih he
      have q1 : (k : Int) ≤ cap := by omega
      have q2 : (k : Int) ≤ ss.length := by omega
      have q3 : (ss.length : Int) ≤ cap := by omega
      have q4 : ¬ cap = k := by omega
      have q5 : (0 : Int) ≤ k := by omega
      have q6 : IntKind.i64.wrap ((m : Int) - (k : Int)) = (m : Int) - (k : Int) := by rw [IntKind.wrap_i64]; omega
      go_enter Tryd.func83, Tryd.ntmps83
      go_wp2_with fail
      refine (hH _).mono ?_
      rintro e w1 ⟨rfl, hw1⟩
      subst hw1
      go_wp2_with fail
      go_region_law
        (first
          | (refine step_append_lies _ rfl _ _ 41 rfl w1.heap.size 9 i0 (.string ByteArray.empty) 1 16 Tryd.underlying41 hi0 hz0 hz1 hz2 rfl (by omega) v2 Q.length (strRow Q) rfl (own3.alloc _) ⟨w3.heap.size, 0, none⟩ 1 1 [.string T] rfl rfl (World.news_of_block (cs := #[.string T]) (t := 9) (fr := (0, 0)) (MapKept.heap_alloc w3 _).1) (by simp [Value.oneCell']) (by omega) (by unfold maxLen; omega) (by omega) (by simp; omega) (w3.heap.size + 1) (by simp) ?_; intro g2 cap2 w4 hown4 hgrow hat hltg)
          | (go_simp; go_at_call 68; refine (I2.out _ b2).mono ?_; rintro e w3 ⟨rfl, b3⟩; have own3 := ownS_below own2 b3; have b3 := chainB b2 b3; have hs3 := b3.size)
          | (go_simp; go_at_call 83; refine (I1.out _ ((Below.refl _ _).drew)).mono ?_; rintro e w2 ⟨v2, rfl, own2, b2⟩; have b2 := chainB ((Below.refl _ _).drew) b2))
      all_goals
        have B4 : Below w1.heap.size w1 w4 := (b3.alloc b3.size _).grown hgrow (by simp; omega) (fun j hj => (own3.lt j hj).1)
        have hfin : w4.ownsRow w1.heap.size 9 1 (.slice (some ⟨g2, 0, none⟩) (Q.length + 1) cap2) (proofB m ss whole).length (strRow (proofB m ss whole)) := by
          rw [← HB.out]
          have e1 : (Q ++ [T]).length = Q.length + 1 := by simp
          have e2 : strRow (Q ++ [T]) = strRow Q ++ [.string T] := by simp [strRow]
          rw [e1, e2]
          exact hown4
        go_wp2
        go_ret
        exact ⟨_, rfl, hfin, B4⟩
    · have hlen := proofB_len (ss.drop (halfN ss.length)) (m - halfN ss.length) (by omega) (by omega) false
      have HB : Hid (proofB (m - halfN ss.length) (ss.drop (halfN ss.length)) false ++ [treeB (ss.take (halfN ss.length))] = proofB m ss whole) := (proofB_right h2 he hik whole).symm
      have I1 : Hid (∀ w', Below w.heap.size w w' → Calls Tryd.prog 83 #[.int .i64 ((m : Int) - (halfN ss.length : Int)), .slice (some ⟨b, off + halfN ss.length, none⟩) (ss.length - halfN ss.length) (cap - halfN ss.length), .bool false] w' fun e w'' => ∃ v, e = .returned v ∧ w''.ownsRow w.heap.size 9 1 v (proofB (m - halfN ss.length) (ss.drop (halfN ss.length)) false).length (strRow (proofB (m - halfN ss.length) (ss.drop (halfN ss.length)) false)) ∧ Below w'.heap.size w' w'') := by
        intro w' hbl
        have := ih _ (by omega) (some ⟨b, off + halfN ss.length, none⟩) (cap - halfN ss.length) (ss.drop (halfN ss.length)) (m - halfN ss.length) false w' l2 ((HP.out.below hbl).drop _) (by omega) (by omega) (fun x hx => HX.out x (List.mem_of_mem_drop hx)) (by omega) (by omega)
        rw [l2, show ((m - halfN ss.length : Nat) : Int) = (m : Int) - (halfN ss.length : Int) by omega] at this
        exact this.mono fun e w'' ⟨v, he, ho, hb⟩ => ⟨v, he, ownS_mono ho hbl.size, hb⟩
      have I2 : Hid (∀ w', Below w.heap.size w w' → Calls Tryd.prog 68 #[.slice (some ⟨b, off, none⟩) (halfN ss.length) cap] w' fun e w'' => e = .returned (.string (treeB (ss.take (halfN ss.length)))) ∧ Below w'.heap.size w' w'') := by
        intro w' hbl
        have := tree2_any _ (some ⟨b, off, none⟩) cap (ss.take (halfN ss.length)) w' l1 ((HP.out.below hbl).take _) (by omega) (by omega) (fun x hx => HX.out x (List.mem_of_mem_take hx))
        rwa [l1] at this
      clear l1 l2
      have hQl : (proofB (m - halfN ss.length) (ss.drop (halfN ss.length)) false).length ≤ 1024 := by simp at hlen; omega
      clear hlen
      generalize proofB (m - halfN ss.length) (ss.drop (halfN ss.length)) false = Q at *
      generalize treeB (ss.take (halfN ss.length)) = T at *
      generalize halfN ss.length = k at *
      clear ih he
      have q1 : (k : Int) ≤ cap := by omega
      have q2 : (k : Int) ≤ ss.length := by omega
      have q3 : (ss.length : Int) ≤ cap := by omega
      have q4 : ¬ cap = k := by omega
      have q5 : (0 : Int) ≤ k := by omega
      have q6 : IntKind.i64.wrap ((m : Int) - (k : Int)) = (m : Int) - (k : Int) := by rw [IntKind.wrap_i64]; omega
      go_enter Tryd.func83, Tryd.ntmps83
      go_wp2_with fail
      refine (hH _).mono ?_
      rintro e w1 ⟨rfl, hw1⟩
      subst hw1
      go_wp2_with fail
      go_region_law
        (first
          | (refine step_append_lies _ rfl _ _ 41 rfl w1.heap.size 9 i0 (.string ByteArray.empty) 1 16 Tryd.underlying41 hi0 hz0 hz1 hz2 rfl (by omega) v2 Q.length (strRow Q) rfl (own3.alloc _) ⟨w3.heap.size, 0, none⟩ 1 1 [.string T] rfl rfl (World.news_of_block (cs := #[.string T]) (t := 9) (fr := (0, 0)) (MapKept.heap_alloc w3 _).1) (by simp [Value.oneCell']) (by omega) (by unfold maxLen; omega) (by omega) (by simp; omega) (w3.heap.size + 1) (by simp) ?_; intro g2 cap2 w4 hown4 hgrow hat hltg)
          | (go_simp; go_at_call 68; refine (I2.out _ b2).mono ?_; rintro e w3 ⟨rfl, b3⟩; have own3 := ownS_below own2 b3; have b3 := chainB b2 b3; have hs3 := b3.size)
          | (go_simp; go_at_call 83; refine (I1.out _ ((Below.refl _ _).drew)).mono ?_; rintro e w2 ⟨v2, rfl, own2, b2⟩; have b2 := chainB ((Below.refl _ _).drew) b2))
      all_goals
        have B4 : Below w1.heap.size w1 w4 := (b3.alloc b3.size _).grown hgrow (by simp; omega) (fun j hj => (own3.lt j hj).1)
        have hfin : w4.ownsRow w1.heap.size 9 1 (.slice (some ⟨g2, 0, none⟩) (Q.length + 1) cap2) (proofB m ss whole).length (strRow (proofB m ss whole)) := by
          rw [← HB.out]
          have e1 : (Q ++ [T]).length = Q.length + 1 := by simp
          have e2 : strRow (Q ++ [T]) = strRow Q ++ [.string T] := by simp [strRow]
          rw [e1, e2]
          exact hown4
        go_wp2
        go_ret
        exact ⟨_, rfl, hfin, B4⟩

set_option maxHeartbeats 1000000 in
theorem specProof_any (p : Option Addr) (cap : Nat) (ss : List ByteArray) (i : Int) (w : World) (hp : TxtAt w p ss) (hn : ss.length ≤ 140737488355328) (hcap : ss.length ≤ cap) (i0 : -9223372036854775808 ≤ i) (i1 : i ≤ 9223372036854775807) :
    Calls Tryd.prog 43 #[.slice p ss.length cap, .int .i64 i] w fun e w' => ∃ v, e = .returned v ∧ w'.ownsRow w.heap.size 9 1 v (proofA ss i).length (strRow (proofA ss i)) ∧ Below w.heap.size w w' := by
  have HP : Hid (TxtAt w p ss) := hp
  clear hp
  have H0 : Hid (proofA ss i = if entB ss = true ∧ 1 ≤ i ∧ i ≤ ss.length then proofB i.toNat ss true else []) := rfl
  have B0 : Hid (Below w.heap.size w (w.alloc (.cells #[] 9))) := (Below.refl _ _).alloc (Nat.le_refl _) _
  by_cases hl : ss.length ≤ 400
  case neg =>
    have d0 : decide (400 < (ss.length : Int)) = true := decide_eq_true (by omega)
    have H : Hid (proofA ss i = []) := H0.out.trans (if_neg fun h => by have := entB_len h.1; omega)
    go_enter Tryd.func43, Tryd.ntmps43
    go_wp2_with fail
    go_ret
    exact ⟨_, rfl, by rw [H.out]; exact ownS_none w, B0.out⟩
  have d0 : decide (400 < (ss.length : Int)) = false := decide_eq_false (by omega)
  have hr := ent2_any p cap ss w HP.out hn hcap
  cases he : entB ss
  · rw [he] at hr
    have H : Hid (proofA ss i = []) := H0.out.trans (if_neg fun h => by rw [he] at h; exact absurd h.1 (by simp))
    clear he
    go_enter Tryd.func43, Tryd.ntmps43
    go_wp2_with fail
    refine hr.mono ?_
    rintro e w1 ⟨rfl, rfl⟩
    go_wp2_with fail
    go_ret
    exact ⟨_, rfl, by rw [H.out]; exact ownS_none w1, B0.out⟩
  by_cases c1 : 1 ≤ i
  case neg =>
    rw [he] at hr
    have d1 : decide (i < 1) = true := decide_eq_true (by omega)
    have H : Hid (proofA ss i = []) := H0.out.trans (if_neg fun h => c1 h.2.1)
    clear he
    go_enter Tryd.func43, Tryd.ntmps43
    go_wp2_with fail
    refine hr.mono ?_
    rintro e w1 ⟨rfl, rfl⟩
    go_wp2_with fail
    go_ret
    exact ⟨_, rfl, by rw [H.out]; exact ownS_none w1, B0.out⟩
  have d1 : decide (i < 1) = false := decide_eq_false (by omega)
  by_cases c2 : i ≤ ss.length
  case neg =>
    rw [he] at hr
    have d2 : decide ((ss.length : Int) < i) = true := decide_eq_true (by omega)
    have H : Hid (proofA ss i = []) := H0.out.trans (if_neg fun h => c2 h.2.2)
    clear he
    go_enter Tryd.func43, Tryd.ntmps43
    go_wp2_with fail
    refine hr.mono ?_
    rintro e w1 ⟨rfl, rfl⟩
    go_wp2_with fail
    go_ret
    exact ⟨_, rfl, by rw [H.out]; exact ownS_none w1, B0.out⟩
  have d2 : decide ((ss.length : Int) < i) = false := decide_eq_false (by omega)
  have H : Hid (proofA ss i = proofB i.toNat ss true) := H0.out.trans (if_pos ⟨he, c1, c2⟩)
  have h100 := entB_all he
  rw [he] at hr
  obtain ⟨I, rfl⟩ := Int.eq_ofNat_of_zero_le (show 0 ≤ i by omega)
  rw [Int.toNat_natCast] at H
  have d3 : decide (ss.length < I) = false := decide_eq_false (by omega)
  have hc := proof2_any ss.length p cap ss I true w rfl HP.out (by omega) hcap h100 (by omega) (by omega)
  rw [← H.out] at hc
  clear he h100 H0 H
  generalize proofA ss (I : Int) = R at *
  go_enter Tryd.func43, Tryd.ntmps43
  go_wp2_with fail
  refine hr.mono ?_
  rintro e w1 ⟨rfl, hw1⟩
  subst hw1
  go_wp2_with fail
  refine hc.mono ?_
  rintro e w2 ⟨v, rfl, ho, hb⟩
  have HO : Hid (w2.ownsRow w1.heap.size 9 1 v R.length (strRow R)) := ho
  clear ho
  go_wp2_with fail
  go_ret
  exact ⟨_, rfl, HO.out, hb⟩
end Go.Proofs.YtclpccnppmbpcaaDoor
